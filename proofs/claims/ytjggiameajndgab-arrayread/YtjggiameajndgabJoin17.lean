import Derived.Test.YtjggiameajndgabJoin16
/-
  What the reference's Play returns. Nothing old turns.
-/
namespace Go.Proofs.Ytjggiameajndgab
open Go.RowKit

/-- The cells of a step. -/
def StepC (w : World) (b o : Nat) (x : StepP) (dv : Value) : Prop :=
  w.cell? ⟨b, o, none⟩ = some (.int .i64 x.k) ∧ w.cell? ⟨b, o + 1, none⟩ = some (.int .i64 x.n) ∧ w.cell? ⟨b, o + 2, none⟩ = some (.int .i64 x.m) ∧ w.cell? ⟨b, o + 3, none⟩ = some (.int .i64 x.d.k) ∧
    w.cell? ⟨b, o + 4, none⟩ = some (.int .i64 x.d.n) ∧ w.cell? ⟨b, o + 5, none⟩ = some (.int .i64 x.d.m) ∧ w.cell? ⟨b, o + 6, none⟩ = some dv ∧ Bs w dv x.d.d ∧ x.n ≤ 9223372036854775807

theorem StepC.grow {w w' : World} {b o : Nat} {x : StepP} {dv : Value} (h : StepC w b o x dv) (hg : Grow w w') : StepC w' b o x dv := by
  obtain ⟨h0, h1, h2, h3, h4, h5, h6, h7, h8⟩ := h
  exact ⟨hg.at h0, hg.at h1, hg.at h2, hg.at h3, hg.at h4, hg.at h5, hg.at h6, h7.grow hg, h8⟩

/-- Steps, as they lie: seven cells each. -/
def Stps (w : World) (v : Value) (l : List StepP) : Prop :=
  ∃ ao cap, v = .slice ao l.length cap ∧ l.length ≤ cap ∧ cap ≤ maxLen ∧ (ao = none → cap = 0) ∧
    (0 < l.length → ∃ b off, ao = some ⟨b, off, none⟩ ∧ ∀ (i : Nat) s, l[i]? = some s → ∃ dv, StepC w b (off + i * 7) s dv)

theorem Stps.grow {w w' : World} {v : Value} {l : List StepP} (h : Stps w v l) (hg : Grow w w') : Stps w' v l := by
  obtain ⟨ao, cap, hv, h1, h2, h3, h4⟩ := h
  refine ⟨ao, cap, hv, h1, h2, h3, fun hp => ?_⟩
  obtain ⟨b, off, e, hc⟩ := h4 hp
  refine ⟨b, off, e, fun i s hi => ?_⟩
  obtain ⟨dv, hd⟩ := hc i s hi
  exact ⟨dv, hd.grow hg⟩

theorem Try.infoE : (Try.prog.info? 28).map (fun i => (i.zero, i.size, i.bytes)) = some (some (.int .i64 0), 1, 8) := by kernel_rfl

/-- Numbers are appended beside it. -/
theorem BInv.num {w w6 w7 : World} {A R : Nat} {x y es : Value} {b : ArrP} {B : Nat} {e : TypeId} {ns : List Int} (h : BInv w A R x y b w6) (hN : NumRow B e w6 es ns) (hg : GrownIn w6 w7 (fun k => es.ownBlock = some k)) (hA : A < B) (hR : R < B) (hw : w.heap.size ≤ B) (hi : b.is = []) : BInv w A R x y b w7 := by
  obtain ⟨⟨h1, h2⟩, h3, h4⟩ := h
  have hgb : w6.grownBy w7 es.ownBlock := ⟨hg.os, hg.tape, hg.output, hg.size, fun i hlt hne => hg.block i hlt (fun hk => hne hk.symm)⟩
  have hb := hN.base
  have lt : ∀ {j : Nat} {o : Obj}, w6.heap[j]? = some o → j < w6.heap.size := fun {j o} hj => by
    by_cases hlt : j < w6.heap.size
    · exact hlt
    · rw [Array.getElem?_eq_none (Nat.le_of_not_lt hlt)] at hj; cases hj
  have hX : ArrX es.ownBlock w6 (.agg #[x, y]) b := by
    cases hv : es.ownBlock with
    | none => exact ArrX.old h3.out (Grow.refl _) (fun _ h => nomatch h)
    | some g => exact (hN.2 g hv).arr h3.out hi
  refine ⟨⟨(hg.block A (lt h1) (fun hk => by have := (hb A hk).1; omega)).trans h1, (hg.block R (lt h2) (fun hk => by have := (hb R hk).1; omega)).trans h2⟩, (hX.step hgb).plain, ?_⟩
  exact h4.grown hgb (fun k hk => by have := (hb k hk).1; omega)

theorem BInv.grow {w wr w5 : World} {A R : Nat} {x y : Value} {b : ArrP} (h : BInv w A R x y b wr) (hg : Grow wr w5) : BInv w A R x y b w5 := by
  obtain ⟨⟨h1, h2⟩, h3, h4⟩ := h
  exact ⟨⟨hg.block' h1, hg.block' h2⟩, h3.out.grow hg, h4.trans hg⟩

theorem playEs_succ {l : List StepP} {k : Nat} {s : StepP} (h : l[k]? = some s) : playEs l k ++ [stepE (playTo l k) s] = playEs l (k + 1) := by
  simp [playEs, List.range_succ, h]
theorem playTo_succ {l : List StepP} {k : Nat} {s : StepP} (h : l[k]? = some s) : playTo l (k + 1) = stepA (playTo l k) s := by rw [playTo, h]
theorem playEs_length (l : List StepP) (k : Nat) : (playEs l k).length = k := by simp [playEs]

set_option maxRecDepth 20000 in
set_option maxHeartbeats 3200000 in
theorem refPlay_any (v : Value) (l : List StepP) (w : World) (h : Stps w v l) :
    Calls Try.prog 19 #[v] w fun e w' => ∃ r es, e = .returned (.tuple #[r, es]) ∧ ArrV w' r (playL l) ∧ Sl IntV w' es (playEs l (min l.length 100)) ∧ Grow w w' := by
  obtain ⟨i0, hi, hz0, hz1, hz2⟩ := info_parts Try.infoE
  obtain ⟨ao, cap, rfl, h1, h2, h3, h4⟩ := h
  unfold maxLen at h2
  have hgR : Grow w (w.alloc (.cells #[.slice none 0 0, .slice none 0 0] 39)) := Grow.alloc _ _
  have hR0 := heap_alloc_new w (.cells #[.slice none 0 0, .slice none 0 0] 39)
  go_enter Try.func19, Try.ntmps19
  go_wp2_with fail
  refine (refNew6_any _).mono ?_
  rintro e w1 ⟨r, rfl, hr, hg1⟩
  obtain ⟨p1, p2, p3, r1, r2, r3, rfl⟩ := hr.form
  have hgA : Grow w1 (w1.alloc (.cells #[.slice p1 p2 p3, .slice r1 r2 r3] 39)) := Grow.alloc _ _
  have hR1 := (hg1.trans hgA).block' hR0
  have hlR : w.heap.size < w1.heap.size := by have := hg1.size; simp at this; omega
  have hI : BInv w w1.heap.size w.heap.size (.slice p1 p2 p3) (.slice r1 r2 r3) (playTo l 0) (w1.alloc (.cells #[.slice p1 p2 p3, .slice r1 r2 r3] 39)) := ⟨⟨heap_alloc_new w1 _, hR1⟩, hr.grow hgA, (hgR.trans hg1).trans hgA⟩
  have hs2 : w1.heap.size + 1 ≤ (w1.alloc (.cells #[.slice p1 p2 p3, .slice r1 r2 r3] 39)).heap.size := by simp
  have harrs := playTo_arr l
  clear hr hR0 hR1 hgA hg1 hgR
  go_wp2
  go_loopw [5, 13] (fun es i wr => ∃ (k : Nat) (x y : Value), k ≤ l.length ∧ k ≤ 100 ∧ i = .int .i64 k ∧ Hid (NumRow (w1.heap.size + 1) 28 wr es (playEs l k)) ∧ BInv w w1.heap.size w.heap.size x y (playTo l k) wr ∧ w1.heap.size + 1 ≤ wr.heap.size) (fun _ i _ => 101 - (intOf i).toNat)
  case atStart => exact ⟨0, _, _, by omega, by omega, rfl, NumRow.nil _ _ _, hI, hs2⟩
  case round =>
    obtain ⟨k, x, y, hk, hk100, rfl, HN, hB, hsz⟩ := hrel
    have HB : Hid (BInv w w1.heap.size w.heap.size x y (playTo l k) wr) := hB
    obtain ⟨⟨hA, hR⟩, HV, hgr⟩ := hB
    obtain ⟨⟨x1, x2, x3, rfl⟩, y1, y2, y3, rfl⟩ := HV.out.form2
    have Hlen : Hid ((playEs l k).length = k) := playEs_length l k
    have hend : ∀ wf, Grow wr wf → k = min l.length 100 → Hid (ArrV ((wf.setCell ⟨w.heap.size, 0, none⟩ (.slice x1 x2 x3)).setCell ⟨w.heap.size, 1, none⟩ (.slice y1 y2 y3)) (.agg #[.slice x1 x2 x3, .slice y1 y2 y3]) (playL l) ∧ Sl IntV ((wf.setCell ⟨w.heap.size, 0, none⟩ (.slice x1 x2 x3)).setCell ⟨w.heap.size, 1, none⟩ (.slice y1 y2 y3)) u5 (playEs l (min l.length 100)) ∧ Grow w ((wf.setCell ⟨w.heap.size, 0, none⟩ (.slice x1 x2 x3)).setCell ⟨w.heap.size, 1, none⟩ (.slice y1 y2 y3)) ∧
        ((wf.setCell ⟨w.heap.size, 0, none⟩ (.slice x1 x2 x3)).setCell ⟨w.heap.size, 1, none⟩ (.slice y1 y2 y3)).cell? ⟨w.heap.size, 0, none⟩ = some (.slice x1 x2 x3) ∧ ((wf.setCell ⟨w.heap.size, 0, none⟩ (.slice x1 x2 x3)).setCell ⟨w.heap.size, 1, none⟩ (.slice y1 y2 y3)).cell? ⟨w.heap.size, 1, none⟩ = some (.slice y1 y2 y3)) := fun wf hwf e => by
      obtain ⟨hv, hg, z0, z1⟩ := (HB.out.grow hwf).done (harrs k).whole (harrs k).fours (Nat.le_refl _)
      refine ⟨by rw [playL, ← e]; exact hv, ?_, hg, z0, z1⟩
      rw [← e]
      have hN := HN.out.grow hwf
      exact ((hN.kept (grownIn_set wf w.heap.size 0 (.slice x1 x2 x3) (G := fun j => j = w.heap.size) rfl) (fun j hj e => by have := (hN.base j hj).1; omega)).kept (grownIn_set _ w.heap.size 1 (.slice y1 y2 y3) (G := fun j => j = w.heap.size) rfl) (fun j hj e => by have := (hN.base j hj).1; omega)).done
    have b0 := two_at0 hA
    have b1 := two_at1 hA
    have fA0 : wr.frozen? ⟨w1.heap.size, 0, none⟩ = false := frozen_of_row wr _ 0 _ _ hA
    have fA1 : wr.frozen? ⟨w1.heap.size, 1, none⟩ = false := frozen_of_row wr _ 1 _ _ hA
    by_cases hlt : k < l.length
    · obtain ⟨b, off, rfl, hc⟩ := h4 (by omega)
      obtain ⟨dv, hst⟩ := hc k l[k] (by simp [hlt])
      have HS : Hid (l[k]? = some l[k]) := by rw [Hid]; simp [hlt]
      generalize l[k] = s at *
      clear hc h4
      obtain ⟨s0, s1, s2, s3, s4, s5, s6, s7, s8⟩ := hst.grow hgr
      obtain ⟨d1, d2, d3, rfl⟩ := s7.form
      have hgS := Grow.alloc wr (.cells #[.int .i64 s.k, .int .i64 s.n, .int .i64 s.m, .int .i64 s.d.k, .int .i64 s.d.n, .int .i64 s.d.m, .slice d1 d2 d3] 82)
      have c0 := hgS.at b0
      have c1 := hgS.at b1
      by_cases h100 : k = 100
      · have Hf := hend _ hgS (by omega)
        obtain ⟨t0, t1, f0, f1⟩ := two_open (hgS.block' hR)
        clear HN HB HV hend hA hR b0 b1 fA0 fA1 hst Hlen
        subst h100
        go_wp2
        refine bodyPost_ret (results_two1 Try.results19 _ _ w.heap.size _ rfl Try.underlying39 rfl Try.sizeA Hf.out.2.2.2.1 Hf.out.2.2.2.2) rfl ?_
        exact ⟨_, _, rfl, Hf.out.1, Hf.out.2.1, Hf.out.2.2.1⟩
      · have h100' : ¬ (k : Int) = 100 := by omega
        have hcall := refStep_any _ _ (playTo l k) s _ (HV.out.grow hgS) (harrs k) ⟨_, rfl, s7.grow hgS, s8⟩
        have hgrS := hgr.trans hgS
        clear hend hA hR
        go_wp2_with fail
        refine hcall.mono ?_
        rintro e w3 ⟨r', rfl, hr', hg3⟩
        obtain ⟨p1', p2', p3', q1', q2', q3', rfl⟩ := hr'.form
        have hgX := Grow.alloc w3 (.cells #[.slice p1' p2' p3', .slice q1' q2' q3'] 39)
        have hg5 := (hgS.trans hg3).trans hgX
        have HS1 := playTo_succ HS.out
        have hA5 := stepA_arr (harrs k) s
        have hB5 := BInv.put HB.out hg5 (hr'.grow hgX) hA5.whole hA5.fours (by omega) (by omega)
        have hN5 := ((HN.out.grow hg5).kept (grownIn_set _ w1.heap.size 0 (.slice p1' p2' p3') (G := fun j => j = w1.heap.size) rfl) (fun j hj e => by have := (HN.out.base j hj).1; omega)).kept (grownIn_set _ w1.heap.size 1 (.slice q1' q2' q3') (G := fun j => j = w1.heap.size) rfl) (fun j hj e => by have := (HN.out.base j hj).1; omega)
        have e0 := hg5.at b0
        have e1 := hg5.at b1
        have g0 := (hg5.frozen (a := ⟨w1.heap.size, 0, none⟩) (cell_lt b0)).trans fA0
        have g1 := (hg5.frozen (a := ⟨w1.heap.size, 1, none⟩) (cell_lt b0)).trans fA1
        have hT := playEs_succ HS.out
        rw [← HS1] at hB5
        have HB5 : Hid (BInv w w1.heap.size w.heap.size _ _ (playTo l (k + 1)) _) := hB5
        have HN5 : Hid (NumRow (w1.heap.size + 1) 28 _ u5 (playEs l k)) := hN5
        have hsz5 : w1.heap.size + 1 ≤ ((((w3.alloc (.cells #[.slice p1' p2' p3', .slice q1' q2' q3'] 39)).setCell ⟨w1.heap.size, 0, none⟩ (.slice p1' p2' p3')).setCell ⟨w1.heap.size, 1, none⟩ (.slice q1' q2' q3'))).heap.size := by have := hg5.size; simp at this ⊢; omega
        have HT : Hid (playEs l k ++ [stepE (playTo l k) s] = playEs l (k + 1)) := hT
        clear hT hB5 hN5 HN HB HV hst hcall hr' HS1 s0 s1 s2 s3 s4 s5 s6 b0 b1 c0 c1 fA0 fA1
        generalize stepE (playTo l k) s = E at *
        go_wp2_with (first
          | (at_builtin; refine wpList_push_num rfl (.tmp 27) (.tmp 29) 40 rfl 28 i0 Try.underlying40 hi hz0 hz1 hz2 (w1.heap.size + 1) rfl HN5.out E hsz5 (by rw [Hlen.out]; omega) (w3.heap.size + 1) (by simp) rfl ?_; rintro g' cap' w7 hN7 hg7))
        rw [HT.out] at hN7
        have hB7 := HB5.out.num HN5.out hg7 (by omega) (by omega) (by omega) (harrs (k + 1)).none
        have HB7 : Hid (BInv w w1.heap.size w.heap.size _ _ (playTo l (k + 1)) w7) := hB7
        have hsz7 : w1.heap.size + 1 ≤ w7.heap.size := Nat.le_trans hsz5 hg7.size
        rw [Hlen.out] at hN7 ⊢
        clear hB7 HB5 HN5
        go_wp2
        go_roundw
        case rel => first | exact ⟨k + 1, _, _, by omega, by omega, by go_num, hN7, HB7.out, hsz7⟩ | ((repeat apply Exists.intro); exact ⟨⟨k + 1, _, _, by omega, by omega, by go_num, hN7, HB7.out, hsz7⟩, rfl⟩)
        case measure => simp [intOf]; omega
    · have Hf := hend _ (Grow.refl _) (by omega)
      obtain ⟨t0, t1, f0, f1⟩ := two_open hR
      clear HN HB HV hend hA hR fA0 fA1 Hlen
      go_wp2
      refine bodyPost_ret (results_two1 Try.results19 _ _ w.heap.size _ rfl Try.underlying39 rfl Try.sizeA Hf.out.2.2.2.1 Hf.out.2.2.2.2) rfl ?_
      exact ⟨_, _, rfl, Hf.out.1, Hf.out.2.1, Hf.out.2.2.1⟩

end Go.Proofs.Ytjggiameajndgab

/-
  What the reference's Again and PlayGently return. Nothing old turns.
-/
namespace Go.Proofs.Ytjggiameajndgab
open Go.RowKit

/-- Some value. -/
def AnyV (_ : Unit) (_ : Value) (_ : World) : Prop := True
theorem AnyV.stable (u : Unit) : ∀ (v : Value) (x y : World), AnyV u v x → Grow x y → AnyV u v y := fun _ _ _ h _ => h
/-- A pair whose second is this number. -/
def TupE (E : Int) (v : Value) (_ : World) : Prop := ∃ r, v = .tuple #[r, .int .i64 E]
theorem TupE.stable (E : Int) : ∀ (v : Value) (x y : World), TupE E v x → Grow x y → TupE E v y := fun _ _ _ h _ => h

theorem again_no {a : ArrP} {s : StepP} (h : ¬ (s.k = 3 ∧ 0 ≤ s.n ∧ s.n ≤ 11)) : againB a s = false := decide_eq_false (fun hc => h ⟨hc.1, hc.2.1, hc.2.2.1⟩)

set_option maxRecDepth 20000 in
set_option maxHeartbeats 1600000 in
theorem refAgain_any (v sv : Value) (a : ArrP) (x : StepP) (w : World) (h : ArrV w v a) (ha : Arr a) (hs : StepV w sv x) :
    Calls Try.prog 79 #[v, sv] w fun e w' => e = .returned (.bool (againB a x)) ∧ Grow w w' := by
  have harr := h
  obtain ⟨dv, iv, e, hd, hit⟩ := id h
  obtain ⟨a1, n1, c1, a2, n2, c2, rfl⟩ := h.form
  simp only [Value.agg.injEq] at e
  have e := congrArg Array.toList e
  simp at e
  obtain ⟨rfl, rfl⟩ := e
  obtain ⟨sdv, rfl, hbd, hmax⟩ := hs
  obtain ⟨d1, d2, d3, rfl⟩ := hbd.form
  have hgW : Grow w ((w.alloc (.cells #[.slice a1 n1 c1, .slice a2 n2 c2] 39)).alloc (.cells #[.int .i64 x.k, .int .i64 x.n, .int .i64 x.m, .int .i64 x.d.k, .int .i64 x.d.n, .int .i64 x.d.m, .slice d1 d2 d3] 82)) := (Grow.alloc _ _).trans (Grow.alloc _ _)
  by_cases hin : x.k = 3 ∧ 0 ≤ x.n ∧ x.n ≤ 11
  · obtain ⟨x3, hn0, hn11⟩ := hin
    obtain ⟨d, hq⟩ : ∃ d : Nat, x.n / 3 = (d : Int) := ⟨(x.n / 3).toNat, by omega⟩
    obtain ⟨s, hr⟩ : ∃ s : Nat, x.n % 3 = (s : Int) := ⟨(x.n % 3).toNat, by omega⟩
    have hd4 : d < 4 := by omega
    have hs3 : s < 3 := by omega
    obtain ⟨b, off, c', b', off', u', n', cc', hE, hc1, hc2, hb, h3c⟩ := ArrG.cell (g := none) (ad := a1) (cd := c1) (a := a) (w := w) (by have := Sl.lift (fun _ _ h => Sl.lift (fun _ _ h => Off.plain Bs.stays h) h (Grow.refl _)) hd (Grow.refl w); rwa [show n1 = 4 from by obtain ⟨_, _, e1, _⟩ := hd; injection e1 with _ e2 _; rw [e2, ha.whole.1]] at this) ha.whole hd4 hs3
    obtain rfl : n1 = 4 := by obtain ⟨_, _, e1, _⟩ := hd; injection e1 with _ e2 _; rw [e2, ha.whole.1]
    subst hE
    have HA : Hid (againB a x = (readE (cellAt a d s) d s != 0)) := by
      rw [Hid, againB, hq, hr, x3]
      simp only [Int.toNat_natCast, hn0, hn11, true_and]
      by_cases h : readE (cellAt a d s) d s = 0 <;> simp [h]
    have hcd : 4 ≤ c1 ∧ c1 ≤ 9223372036854775807 := by
      obtain ⟨_, _, e1, g1, g2⟩ := hd.form'
      injection e1 with _ e2 e3
      omega
    have hcall : ∀ w1, Grow w w1 → Calls Try.prog 67 #[.slice u' n' cc', .int .i64 d, .int .i64 s] w1 fun e w' => ∃ r, e = .returned (.tuple #[r, .int .i64 (readE (cellAt a d s) d s)]) ∧ Grow w1 w' := fun w1 hg => (refRead_any (.slice u' n' cc') (cellAt a d s) d s w1 (hb.here.grow hg)).mono fun _ _ ⟨r, he, _, hg'⟩ => ⟨r, he, hg'⟩
    clear hd hit harr hbd hb
    generalize readE (cellAt a d s) d s = E at *
    rw [x3] at hgW ⊢
    clear x3
    obtain ⟨W, hW⟩ : ∃ W, W = (w.alloc (.cells #[.slice (some ⟨b, off, none⟩) 4 c1, .slice a2 n2 c2] 39)).alloc (.cells #[.int .i64 3, .int .i64 x.n, .int .i64 x.m, .int .i64 x.d.k, .int .i64 x.d.n, .int .i64 x.d.m, .slice d1 d2 d3] 82) := ⟨_, rfl⟩
    rw [← hW] at hgW
    have k0 : W.cell? ⟨w.heap.size, 0, none⟩ = some (.slice (some ⟨b, off, none⟩) 4 c1) := by rw [hW]; simp
    have kn : W.cell? ⟨w.heap.size + 1, 1, none⟩ = some (.int .i64 x.n) := by rw [hW]; simp
    have j1 := hgW.at hc1
    have j2 := hgW.at hc2
    clear hc1 hc2
    have hdi : (d : Int) < 4 := by omega
    have hsi : (s : Int) < 3 := by omega
    go_enter Try.func79, Try.ntmps79
    go_wp2_with fail
    rw [← hW]
    clear hW
    refine wp_region_stable Grow [IsV (.pointer (some ⟨w.heap.size, 0, none⟩)), IsV (.slice (some ⟨b, off, none⟩) 4 c1), IsV (.pointer (some ⟨w.heap.size + 1, 1, none⟩)), IsV (.int .i64 x.n), IsV (.int .i64 d), IsV (.pointer (some ⟨b, off + d, none⟩)), IsV (.slice (some ⟨b', off', none⟩) 3 c'), IsV (.pointer (some ⟨w.heap.size + 1, 1, none⟩)), IsV (.int .i64 x.n), IsV (.int .i64 s), IsV (.pointer (some ⟨b', off' + s, none⟩)), IsV (.slice u' n' cc'), IsV (.pointer (some ⟨w.heap.size + 1, 1, none⟩)), IsV (.int .i64 x.n), IsV (.int .i64 d), IsV (.pointer (some ⟨w.heap.size + 1, 1, none⟩)), IsV (.int .i64 x.n), IsV (.int .i64 s), TupE E, TupE E, AnyV (), IsV (.int .i64 E), AnyV (), IsV (.int .i64 E)] (by kernel_rfl) (by kernel_rfl) rfl Grow.refl (fun _ _ _ => Grow.trans) ?_ ?_ ?_
    · repeat (refine List.forall_mem_cons.2 ⟨by first | exact IsV.stable _ | exact AnyV.stable _ | exact TupE.stable _, ?_⟩)
      exact fun R hR => nomatch hR
    · skip
      refine StepsS.cons ?_ fun v0 => ⟨_, _, by simp only [Act.put, List.setIfInBounds_toArray, List.set_cons_succ, List.set_cons_zero]; first | done | rfl, by simp only [List.nil_append]; first | done | rfl, ?_⟩
      · intro w1 hE hd
        clear hd
        go_wp2
        exact ⟨_, rfl, Grow.refl _, rfl⟩
      refine StepsS.cons ?_ fun v1 => ⟨_, _, by simp only [Act.put, List.setIfInBounds_toArray, List.set_cons_succ, List.set_cons_zero]; first | done | rfl, by simp only [List.nil_append, List.cons_append]; first | done | rfl, ?_⟩
      · intro w1 hE hd
        obtain rfl := IsV.eq (dep_at hd 0 rfl rfl rfl)
        clear hd
        have qq := hE.drew.at k0
        go_wp2
        exact ⟨_, rfl, Grow.refl _, rfl⟩
      refine StepsS.cons ?_ fun v2 => ⟨_, _, by simp only [Act.put, List.setIfInBounds_toArray, List.set_cons_succ, List.set_cons_zero]; first | done | rfl, by simp only [List.nil_append, List.cons_append]; first | done | rfl, ?_⟩
      · intro w1 hE hd
        clear hd
        go_wp2
        exact ⟨_, rfl, Grow.refl _, rfl⟩
      refine StepsS.cons ?_ fun v3 => ⟨_, _, by simp only [Act.put, List.setIfInBounds_toArray, List.set_cons_succ, List.set_cons_zero]; first | done | rfl, by simp only [List.nil_append, List.cons_append]; first | done | rfl, ?_⟩
      · intro w1 hE hd
        obtain rfl := IsV.eq (dep_at hd 0 rfl rfl rfl)
        clear hd
        have qq := hE.drew.at kn
        go_wp2
        exact ⟨_, rfl, Grow.refl _, rfl⟩
      refine StepsS.cons ?_ fun v4 => ⟨_, _, by simp only [Act.put, List.setIfInBounds_toArray, List.set_cons_succ, List.set_cons_zero]; first | done | rfl, by simp only [List.nil_append, List.cons_append]; first | done | rfl, ?_⟩
      · intro w1 hE hd
        obtain rfl := IsV.eq (dep_at hd 0 rfl rfl rfl)
        clear hd
        go_wp2
        exact ⟨_, rfl, Grow.refl _, rfl⟩
      refine StepsS.cons ?_ fun v5 => ⟨_, _, by simp only [Act.put, List.setIfInBounds_toArray, List.set_cons_succ, List.set_cons_zero]; first | done | rfl, by simp only [List.nil_append, List.cons_append]; first | done | rfl, ?_⟩
      · intro w1 hE hd
        obtain rfl := IsV.eq (dep_at hd 0 rfl rfl rfl)
        obtain rfl := IsV.eq (dep_at hd 1 rfl rfl rfl)
        clear hd
        go_wp2
        exact ⟨_, rfl, Grow.refl _, rfl⟩
      refine StepsS.cons ?_ fun v6 => ⟨_, _, by simp only [Act.put, List.setIfInBounds_toArray, List.set_cons_succ, List.set_cons_zero]; first | done | rfl, by simp only [List.nil_append, List.cons_append]; first | done | rfl, ?_⟩
      · intro w1 hE hd
        obtain rfl := IsV.eq (dep_at hd 0 rfl rfl rfl)
        clear hd
        have qq := hE.drew.at j1
        go_wp2
        exact ⟨_, rfl, Grow.refl _, rfl⟩
      refine StepsS.cons ?_ fun v7 => ⟨_, _, by simp only [Act.put, List.setIfInBounds_toArray, List.set_cons_succ, List.set_cons_zero]; first | done | rfl, by simp only [List.nil_append, List.cons_append]; first | done | rfl, ?_⟩
      · intro w1 hE hd
        clear hd
        go_wp2
        exact ⟨_, rfl, Grow.refl _, rfl⟩
      refine StepsS.cons ?_ fun v8 => ⟨_, _, by simp only [Act.put, List.setIfInBounds_toArray, List.set_cons_succ, List.set_cons_zero]; first | done | rfl, by simp only [List.nil_append, List.cons_append]; first | done | rfl, ?_⟩
      · intro w1 hE hd
        obtain rfl := IsV.eq (dep_at hd 0 rfl rfl rfl)
        clear hd
        have qq := hE.drew.at kn
        go_wp2
        exact ⟨_, rfl, Grow.refl _, rfl⟩
      refine StepsS.cons ?_ fun v9 => ⟨_, _, by simp only [Act.put, List.setIfInBounds_toArray, List.set_cons_succ, List.set_cons_zero]; first | done | rfl, by simp only [List.nil_append, List.cons_append]; first | done | rfl, ?_⟩
      · intro w1 hE hd
        obtain rfl := IsV.eq (dep_at hd 0 rfl rfl rfl)
        clear hd
        go_wp2
        exact ⟨_, rfl, Grow.refl _, rfl⟩
      refine StepsS.cons ?_ fun v10 => ⟨_, _, by simp only [Act.put, List.setIfInBounds_toArray, List.set_cons_succ, List.set_cons_zero]; first | done | rfl, by simp only [List.nil_append, List.cons_append]; first | done | rfl, ?_⟩
      · intro w1 hE hd
        obtain rfl := IsV.eq (dep_at hd 0 rfl rfl rfl)
        obtain rfl := IsV.eq (dep_at hd 1 rfl rfl rfl)
        clear hd
        go_wp2
        exact ⟨_, rfl, Grow.refl _, rfl⟩
      refine StepsS.cons ?_ fun v11 => ⟨_, _, by simp only [Act.put, List.setIfInBounds_toArray, List.set_cons_succ, List.set_cons_zero]; first | done | rfl, by simp only [List.nil_append, List.cons_append]; first | done | rfl, ?_⟩
      · intro w1 hE hd
        obtain rfl := IsV.eq (dep_at hd 0 rfl rfl rfl)
        clear hd
        have qq := hE.drew.at j2
        go_wp2
        exact ⟨_, rfl, Grow.refl _, rfl⟩
      refine StepsS.cons ?_ fun v12 => ⟨_, _, by simp only [Act.put, List.setIfInBounds_toArray, List.set_cons_succ, List.set_cons_zero]; first | done | rfl, by simp only [List.nil_append, List.cons_append]; first | done | rfl, ?_⟩
      · intro w1 hE hd
        clear hd
        go_wp2
        exact ⟨_, rfl, Grow.refl _, rfl⟩
      refine StepsS.cons ?_ fun v13 => ⟨_, _, by simp only [Act.put, List.setIfInBounds_toArray, List.set_cons_succ, List.set_cons_zero]; first | done | rfl, by simp only [List.nil_append, List.cons_append]; first | done | rfl, ?_⟩
      · intro w1 hE hd
        obtain rfl := IsV.eq (dep_at hd 0 rfl rfl rfl)
        clear hd
        have qq := hE.drew.at kn
        go_wp2
        exact ⟨_, rfl, Grow.refl _, rfl⟩
      refine StepsS.cons ?_ fun v14 => ⟨_, _, by simp only [Act.put, List.setIfInBounds_toArray, List.set_cons_succ, List.set_cons_zero]; first | done | rfl, by simp only [List.nil_append, List.cons_append]; first | done | rfl, ?_⟩
      · intro w1 hE hd
        obtain rfl := IsV.eq (dep_at hd 0 rfl rfl rfl)
        clear hd
        go_wp2
        exact ⟨_, rfl, Grow.refl _, rfl⟩
      refine StepsS.cons ?_ fun v15 => ⟨_, _, by simp only [Act.put, List.setIfInBounds_toArray, List.set_cons_succ, List.set_cons_zero]; first | done | rfl, by simp only [List.nil_append, List.cons_append]; first | done | rfl, ?_⟩
      · intro w1 hE hd
        clear hd
        go_wp2
        exact ⟨_, rfl, Grow.refl _, rfl⟩
      refine StepsS.cons ?_ fun v16 => ⟨_, _, by simp only [Act.put, List.setIfInBounds_toArray, List.set_cons_succ, List.set_cons_zero]; first | done | rfl, by simp only [List.nil_append, List.cons_append]; first | done | rfl, ?_⟩
      · intro w1 hE hd
        obtain rfl := IsV.eq (dep_at hd 0 rfl rfl rfl)
        clear hd
        have qq := hE.drew.at kn
        go_wp2
        exact ⟨_, rfl, Grow.refl _, rfl⟩
      refine StepsS.cons ?_ fun v17 => ⟨_, _, by simp only [Act.put, List.setIfInBounds_toArray, List.set_cons_succ, List.set_cons_zero]; first | done | rfl, by simp only [List.nil_append, List.cons_append]; first | done | rfl, ?_⟩
      · intro w1 hE hd
        obtain rfl := IsV.eq (dep_at hd 0 rfl rfl rfl)
        clear hd
        go_wp2
        exact ⟨_, rfl, Grow.refl _, rfl⟩
      refine StepsS.cons ?_ fun v18 => ⟨_, _, by simp only [Act.put, List.setIfInBounds_toArray, List.set_cons_succ, List.set_cons_zero]; first | done | rfl, by simp only [List.nil_append, List.cons_append]; first | done | rfl, ?_⟩
      · intro w1 hE hd
        obtain rfl := IsV.eq (dep_at hd 0 rfl rfl rfl)
        obtain rfl := IsV.eq (dep_at hd 1 rfl rfl rfl)
        obtain rfl := IsV.eq (dep_at hd 2 rfl rfl rfl)
        clear hd
        go_wp2_with fail
        refine (hcall _ (hgW.trans hE.drew)).mono ?_
        rintro e w4 ⟨r', rfl, hg4⟩
        go_wp2_with fail
        exact ⟨_, rfl, hg4, _, rfl⟩
      refine StepsS.cons ?_ fun v19 => ⟨_, _, by simp only [Act.put, List.setIfInBounds_toArray, List.set_cons_succ, List.set_cons_zero]; first | done | rfl, by simp only [List.nil_append, List.cons_append]; first | done | rfl, ?_⟩
      · intro w1 hE hd
        have d18 := dep_at hd 0 rfl rfl rfl
        clear hd
        obtain ⟨r', rfl⟩ := d18
        go_wp2
        exact ⟨_, rfl, Grow.refl _, _, rfl⟩
      refine StepsS.cons ?_ fun v20 => ⟨_, _, by simp only [Act.put, List.setIfInBounds_toArray, List.set_cons_succ, List.set_cons_zero]; first | done | rfl, by simp only [List.nil_append, List.cons_append]; first | done | rfl, ?_⟩
      · intro w1 hE hd
        have d19 := dep_at hd 0 rfl rfl rfl
        clear hd
        obtain ⟨r', rfl⟩ := d19
        go_wp2
        exact ⟨_, rfl, Grow.refl _, trivial⟩
      refine StepsS.cons ?_ fun v21 => ⟨_, _, by simp only [Act.put, List.setIfInBounds_toArray, List.set_cons_succ, List.set_cons_zero]; first | done | rfl, by simp only [List.nil_append, List.cons_append]; first | done | rfl, ?_⟩
      · intro w1 hE hd
        have d19 := dep_at hd 0 rfl rfl rfl
        clear hd
        obtain ⟨r', rfl⟩ := d19
        go_wp2
        exact ⟨_, rfl, Grow.refl _, rfl⟩
      refine StepsS.cons ?_ fun v22 => ⟨_, _, by simp only [Act.put, List.setIfInBounds_toArray, List.set_cons_succ, List.set_cons_zero]; first | done | rfl, by simp only [List.nil_append, List.cons_append]; first | done | rfl, ?_⟩
      · intro w1 hE hd
        have d20 := dep_at hd 0 rfl rfl rfl
        clear hd
        go_wp2
        exact ⟨_, rfl, Grow.refl _, trivial⟩
      refine StepsS.cons ?_ fun v23 => ⟨_, _, by simp only [Act.put, List.setIfInBounds_toArray, List.set_cons_succ, List.set_cons_zero]; first | done | rfl, by simp only [List.nil_append, List.cons_append]; first | done | rfl, ?_⟩
      · intro w1 hE hd
        obtain rfl := IsV.eq (dep_at hd 0 rfl rfl rfl)
        clear hd
        go_wp2
        exact ⟨_, rfl, Grow.refl _, rfl⟩
      trivial
    intro wR hwR
    refine FinS.cons ?_; rintro _ rfl; refine ⟨_, by simp only [Act.put, List.setIfInBounds_toArray, List.set_cons_succ, List.set_cons_zero]; first | done | rfl, ?_⟩
    refine FinS.cons ?_; rintro _ rfl; refine ⟨_, by simp only [Act.put, List.setIfInBounds_toArray, List.set_cons_succ, List.set_cons_zero]; first | done | rfl, ?_⟩
    refine FinS.cons ?_; rintro _ rfl; refine ⟨_, by simp only [Act.put, List.setIfInBounds_toArray, List.set_cons_succ, List.set_cons_zero]; first | done | rfl, ?_⟩
    refine FinS.cons ?_; rintro _ rfl; refine ⟨_, by simp only [Act.put, List.setIfInBounds_toArray, List.set_cons_succ, List.set_cons_zero]; first | done | rfl, ?_⟩
    refine FinS.cons ?_; rintro _ rfl; refine ⟨_, by simp only [Act.put, List.setIfInBounds_toArray, List.set_cons_succ, List.set_cons_zero]; first | done | rfl, ?_⟩
    refine FinS.cons ?_; rintro _ rfl; refine ⟨_, by simp only [Act.put, List.setIfInBounds_toArray, List.set_cons_succ, List.set_cons_zero]; first | done | rfl, ?_⟩
    refine FinS.cons ?_; rintro _ rfl; refine ⟨_, by simp only [Act.put, List.setIfInBounds_toArray, List.set_cons_succ, List.set_cons_zero]; first | done | rfl, ?_⟩
    refine FinS.cons ?_; rintro _ rfl; refine ⟨_, by simp only [Act.put, List.setIfInBounds_toArray, List.set_cons_succ, List.set_cons_zero]; first | done | rfl, ?_⟩
    refine FinS.cons ?_; rintro _ rfl; refine ⟨_, by simp only [Act.put, List.setIfInBounds_toArray, List.set_cons_succ, List.set_cons_zero]; first | done | rfl, ?_⟩
    refine FinS.cons ?_; rintro _ rfl; refine ⟨_, by simp only [Act.put, List.setIfInBounds_toArray, List.set_cons_succ, List.set_cons_zero]; first | done | rfl, ?_⟩
    refine FinS.cons ?_; rintro _ rfl; refine ⟨_, by simp only [Act.put, List.setIfInBounds_toArray, List.set_cons_succ, List.set_cons_zero]; first | done | rfl, ?_⟩
    refine FinS.cons ?_; rintro _ rfl; refine ⟨_, by simp only [Act.put, List.setIfInBounds_toArray, List.set_cons_succ, List.set_cons_zero]; first | done | rfl, ?_⟩
    refine FinS.cons ?_; rintro _ rfl; refine ⟨_, by simp only [Act.put, List.setIfInBounds_toArray, List.set_cons_succ, List.set_cons_zero]; first | done | rfl, ?_⟩
    refine FinS.cons ?_; rintro _ rfl; refine ⟨_, by simp only [Act.put, List.setIfInBounds_toArray, List.set_cons_succ, List.set_cons_zero]; first | done | rfl, ?_⟩
    refine FinS.cons ?_; rintro _ rfl; refine ⟨_, by simp only [Act.put, List.setIfInBounds_toArray, List.set_cons_succ, List.set_cons_zero]; first | done | rfl, ?_⟩
    refine FinS.cons ?_; rintro _ rfl; refine ⟨_, by simp only [Act.put, List.setIfInBounds_toArray, List.set_cons_succ, List.set_cons_zero]; first | done | rfl, ?_⟩
    refine FinS.cons ?_; rintro _ rfl; refine ⟨_, by simp only [Act.put, List.setIfInBounds_toArray, List.set_cons_succ, List.set_cons_zero]; first | done | rfl, ?_⟩
    refine FinS.cons ?_; rintro _ rfl; refine ⟨_, by simp only [Act.put, List.setIfInBounds_toArray, List.set_cons_succ, List.set_cons_zero]; first | done | rfl, ?_⟩
    refine FinS.cons fun v18 h18 => ⟨_, by simp only [Act.put, List.setIfInBounds_toArray, List.set_cons_succ, List.set_cons_zero]; first | done | rfl, ?_⟩
    refine FinS.cons fun v19 h19 => ⟨_, by simp only [Act.put, List.setIfInBounds_toArray, List.set_cons_succ, List.set_cons_zero]; first | done | rfl, ?_⟩
    refine FinS.cons fun v20 h20 => ⟨_, by simp only [Act.put, List.setIfInBounds_toArray, List.set_cons_succ, List.set_cons_zero]; first | done | rfl, ?_⟩
    refine FinS.cons ?_; rintro _ rfl; refine ⟨_, by simp only [Act.put, List.setIfInBounds_toArray, List.set_cons_succ, List.set_cons_zero]; first | done | rfl, ?_⟩
    refine FinS.cons fun v22 h22 => ⟨_, by simp only [Act.put, List.setIfInBounds_toArray, List.set_cons_succ, List.set_cons_zero]; first | done | rfl, ?_⟩
    refine FinS.cons ?_; rintro _ rfl; refine ⟨_, by simp only [Act.put, List.setIfInBounds_toArray, List.set_cons_succ, List.set_cons_zero]; first | done | rfl, ?_⟩
    first | show Exit.then _ _ _ _ _ | show Exit.inBlock _ _ _ _ _
    go_wp2
    go_ret
    exact ⟨ret_bool HA.out.symm, hgW.trans hwR.drew⟩
  · have HA : Hid (againB a x = false) := again_no hin
    have hout : ¬ x.k = 3 ∨ (x.k = 3 ∧ x.n < 0) ∨ (x.k = 3 ∧ 0 ≤ x.n ∧ 11 < x.n) := by omega
    clear hin hd hit harr hbd
    rcases hout with h1 | ⟨h1, h2⟩ | ⟨h1, h2, h3⟩
    · have h1' : (x.k != 3) = true := by simpa using h1
      go_enter Try.func79, Try.ntmps79
      go_wp2
      go_ret
      exact ⟨ret_bool HA.out.symm, hgW⟩
    all_goals
      rw [h1] at hgW ⊢
      clear h1
      go_enter Try.func79, Try.ntmps79
      go_wp2
      go_ret
      exact ⟨ret_bool HA.out.symm, hgW⟩

theorem gently_end {a : ArrP} (n : Nat) : gentlyFrom [] a n = a := by cases n <;> rfl
theorem gently_zero {a : ArrP} (l : List StepP) : gentlyFrom l a 0 = a := by rw [gentlyFrom]
theorem gently_no {a : ArrP} {s : StepP} {r : List StepP} {n : Nat} (h : gentleB a s = false) : gentlyFrom (s :: r) a n = a := by
  cases n with
  | zero => rw [gentlyFrom]
  | succ n => rw [gentlyFrom, h]; rfl
theorem gently_yes {a : ArrP} {s : StepP} {r : List StepP} {n : Nat} (h : gentleB a s = true) : gentlyFrom (s :: r) a (n + 1) = gentlyFrom r (stepA a s) n := by rw [gentlyFrom, h]; rfl

set_option maxRecDepth 20000 in
set_option maxHeartbeats 3200000 in
theorem refGently_any (v : Value) (l : List StepP) (w : World) (h : Stps w v l) :
    Calls Try.prog 48 #[v] w fun e w' => ∃ r, e = .returned r ∧ ArrV w' r (gentlyL l) ∧ Grow w w' := by
  obtain ⟨ao, cap, rfl, h1, h2, h3, h4⟩ := h
  unfold maxLen at h2
  have hgR : Grow w (w.alloc (.cells #[.slice none 0 0, .slice none 0 0] 39)) := Grow.alloc _ _
  have hR0 := heap_alloc_new w (.cells #[.slice none 0 0, .slice none 0 0] 39)
  go_enter Try.func48, Try.ntmps48
  go_wp2_with fail
  refine (refNew6_any _).mono ?_
  rintro e w1 ⟨r, rfl, hr, hg1⟩
  obtain ⟨p1, p2, p3, r1, r2, r3, rfl⟩ := hr.form
  have hgA : Grow w1 (w1.alloc (.cells #[.slice p1 p2 p3, .slice r1 r2 r3] 39)) := Grow.alloc _ _
  have hR1 := (hg1.trans hgA).block' hR0
  have hlR : w.heap.size < w1.heap.size := by have := hg1.size; simp at this; omega
  have hI : BInv w w1.heap.size w.heap.size (.slice p1 p2 p3) (.slice r1 r2 r3) newP (w1.alloc (.cells #[.slice p1 p2 p3, .slice r1 r2 r3] 39)) := ⟨⟨heap_alloc_new w1 _, hR1⟩, hr.grow hgA, (hgR.trans hg1).trans hgA⟩
  clear hr hR0 hR1 hgA hg1 hgR
  go_wp2
  go_loopw [11] (fun i wr => ∃ (k : Nat) (x y : Value) (a : ArrP), k ≤ l.length ∧ k ≤ 100 ∧ i = .int .i64 k ∧ Hid (gentlyFrom (l.drop k) a (100 - k) = gentlyL l) ∧ Hid (Arr a) ∧ BInv w w1.heap.size w.heap.size x y a wr) (fun i _ => 101 - (intOf i).toNat)
  case atStart => exact ⟨0, _, _, newP, by omega, by omega, rfl, rfl, newP_arr, hI⟩
  case round =>
    obtain ⟨k, x, y, a, hk, hk100, rfl, HG, Ha, hB⟩ := hrel
    have ha := Ha.out
    have HB : Hid (BInv w w1.heap.size w.heap.size x y a wr) := hB
    obtain ⟨⟨hA, hR⟩, HV, hgr⟩ := hB
    obtain ⟨⟨x1, x2, x3, rfl⟩, y1, y2, y3, rfl⟩ := HV.out.form2
    have hend : ∀ wf, Grow wr wf → a = gentlyL l → Hid (ArrV ((wf.setCell ⟨w.heap.size, 0, none⟩ (.slice x1 x2 x3)).setCell ⟨w.heap.size, 1, none⟩ (.slice y1 y2 y3)) (.agg #[.slice x1 x2 x3, .slice y1 y2 y3]) (gentlyL l) ∧ Grow w ((wf.setCell ⟨w.heap.size, 0, none⟩ (.slice x1 x2 x3)).setCell ⟨w.heap.size, 1, none⟩ (.slice y1 y2 y3)) ∧
        ((wf.setCell ⟨w.heap.size, 0, none⟩ (.slice x1 x2 x3)).setCell ⟨w.heap.size, 1, none⟩ (.slice y1 y2 y3)).cell? ⟨w.heap.size, 0, none⟩ = some (.slice x1 x2 x3) ∧ ((wf.setCell ⟨w.heap.size, 0, none⟩ (.slice x1 x2 x3)).setCell ⟨w.heap.size, 1, none⟩ (.slice y1 y2 y3)).cell? ⟨w.heap.size, 1, none⟩ = some (.slice y1 y2 y3)) := fun wf hwf e => by
      obtain ⟨hv, hg, z0, z1⟩ := (HB.out.grow hwf).done ha.whole ha.fours (Nat.le_refl _)
      exact ⟨by rw [← e]; exact hv, hg, z0, z1⟩
    have b0 := two_at0 hA
    have b1 := two_at1 hA
    have fA0 : wr.frozen? ⟨w1.heap.size, 0, none⟩ = false := frozen_of_row wr _ 0 _ _ hA
    have fA1 : wr.frozen? ⟨w1.heap.size, 1, none⟩ = false := frozen_of_row wr _ 1 _ _ hA
    by_cases hlt : k < l.length
    · obtain ⟨b, off, rfl, hc⟩ := h4 (by omega)
      obtain ⟨dv, hst⟩ := hc k l[k] (by simp [hlt])
      have HS : Hid (l.drop k = l[k] :: l.drop (k + 1)) := List.drop_eq_getElem_cons hlt
      generalize l[k] = s at *
      have HG' : Hid (gentlyFrom (s :: l.drop (k + 1)) a (100 - k) = gentlyL l) := by rw [Hid, ← HS.out]; exact HG.out
      clear hc h4 HG HS
      obtain ⟨s0, s1, s2, s3, s4, s5, s6, s7, s8⟩ := hst.grow hgr
      obtain ⟨d1, d2, d3, rfl⟩ := s7.form
      have hgS := Grow.alloc wr (.cells #[.int .i64 s.k, .int .i64 s.n, .int .i64 s.m, .int .i64 s.d.k, .int .i64 s.d.n, .int .i64 s.d.m, .slice d1 d2 d3] 82)
      have m0 := row_at (heap_alloc_new wr (.cells #[.int .i64 s.k, .int .i64 s.n, .int .i64 s.m, .int .i64 s.d.k, .int .i64 s.d.n, .int .i64 s.d.m, .slice d1 d2 d3] 82)) 0 rfl
      have m1 := row_at (heap_alloc_new wr (.cells #[.int .i64 s.k, .int .i64 s.n, .int .i64 s.m, .int .i64 s.d.k, .int .i64 s.d.n, .int .i64 s.d.m, .slice d1 d2 d3] 82)) 1 rfl
      have m2 := row_at (heap_alloc_new wr (.cells #[.int .i64 s.k, .int .i64 s.n, .int .i64 s.m, .int .i64 s.d.k, .int .i64 s.d.n, .int .i64 s.d.m, .slice d1 d2 d3] 82)) 2 rfl
      have m3 := row_at (heap_alloc_new wr (.cells #[.int .i64 s.k, .int .i64 s.n, .int .i64 s.m, .int .i64 s.d.k, .int .i64 s.d.n, .int .i64 s.d.m, .slice d1 d2 d3] 82)) 3 rfl
      have m4 := row_at (heap_alloc_new wr (.cells #[.int .i64 s.k, .int .i64 s.n, .int .i64 s.m, .int .i64 s.d.k, .int .i64 s.d.n, .int .i64 s.d.m, .slice d1 d2 d3] 82)) 4 rfl
      have m5 := row_at (heap_alloc_new wr (.cells #[.int .i64 s.k, .int .i64 s.n, .int .i64 s.m, .int .i64 s.d.k, .int .i64 s.d.n, .int .i64 s.d.m, .slice d1 d2 d3] 82)) 5 rfl
      have m6 := row_at (heap_alloc_new wr (.cells #[.int .i64 s.k, .int .i64 s.n, .int .i64 s.m, .int .i64 s.d.k, .int .i64 s.d.n, .int .i64 s.d.m, .slice d1 d2 d3] 82)) 6 rfl
      have c0 := hgS.at b0
      have c1 := hgS.at b1
      have hcall := refStep_any _ _ a s _ (HV.out.grow hgS) ha ⟨_, rfl, s7.grow hgS, s8⟩
      have hgrS := hgr.trans hgS
      go_wp2_with fail
      refine hcall.mono ?_
      rintro e w3 ⟨r', rfl, hr', hg3⟩
      obtain ⟨p1', p2', p3', q1', q2', q3', rfl⟩ := hr'.form
      have hgX := Grow.alloc w3 (.cells #[.slice p1' p2' p3', .slice q1' q2' q3'] 39)
      have hg35 := hg3.trans hgX
      have hg5 := hgS.trans hg35
      have hA5 := stepA_arr ha s
      have n0 := hg35.at m0
      have n1 := hg35.at m1
      have n2 := hg35.at m2
      have n3 := hg35.at m3
      have n4 := hg35.at m4
      have n5 := hg35.at m5
      have n6 := hg35.at m6
      have e0 := hg5.at b0
      have e1 := hg5.at b1
      have HX : Hid (ArrV (w3.alloc (.cells #[.slice p1' p2' p3', .slice q1' q2' q3'] 39)) (.agg #[.slice p1' p2' p3', .slice q1' q2' q3']) (stepA a s)) := hr'.grow hgX
      clear hcall hr' m0 m1 m2 m3 m4 m5 m6 c0 c1 s0 s1 s2 s3 s4 s5 s6 hst
      generalize stepE a s = E at *
      by_cases h100 : k = 100
      · have Hf := hend _ hg5 (by have := HG'.out; rw [h100, gently_zero] at this; exact this)
        obtain ⟨t0, t1, f0, f1⟩ := two_open (hg5.block' hR)
        clear HB HV hend hA hR b0 b1 fA0 fA1 HX n0 n1 n2 n3 n4 n5 n6
        subst h100
        go_wp2
        refine bodyPost_ret (results_two Try.results48 _ _ w.heap.size _ rfl Try.underlying39 rfl Try.sizeA Hf.out.2.2.1 Hf.out.2.2.2) rfl ?_
        exact ⟨_, rfl, Hf.out.1, Hf.out.2.1⟩
      · have h100' : ¬ (k : Int) = 100 := by omega
        have hag := refAgain_any _ _ a s _ (HV.out.grow hg5) ha ⟨_, rfl, s7.grow hg5, s8⟩
        have hno : gentleB a s = false → a = gentlyL l := fun h => by have := HG'.out; rw [gently_no h] at this; exact this
        have Hyes : Hid (gentleB a s = true → gentlyFrom (l.drop (k + 1)) (stepA a s) (100 - (k + 1)) = gentlyL l) := fun h => by
          have := HG'.out
          rw [show 100 - k = (100 - (k + 1)) + 1 from by omega, gently_yes h] at this
          exact this
        have Hgb : Hid (gentleB a s = (!againB a s && decide (worstN (stepA a s) ≤ 1))) := rfl
        clear HG'
        cases hab : againB a s with
        | true =>
          have hno' := hno (by rw [Hgb.out, hab]; rfl)
          rw [hab] at hag
          clear hab
          go_wp2_with fail
          refine hag.mono ?_
          rintro e w6 ⟨rfl, hg6⟩
          have hg16 := hg5.trans hg6
          have Hf := hend _ hg16 hno'
          obtain ⟨t0, t1, f0, f1⟩ := two_open (hg16.block' hR)
          have o0 := hg16.at b0
          have o1 := hg16.at b1
          clear HB HV hend hA hR b0 b1 e0 e1 fA0 fA1 HX n0 n1 n2 n3 n4 n5 n6 hno hno' hag Hyes Hgb
          go_wp2
          refine bodyPost_ret (results_two Try.results48 _ _ w.heap.size _ rfl Try.underlying39 rfl Try.sizeA Hf.out.2.2.1 Hf.out.2.2.2) rfl ?_
          exact ⟨_, rfl, Hf.out.1, Hf.out.2.1⟩
        | false =>
          have x0 := row_at (heap_alloc_new w3 (.cells #[.slice p1' p2' p3', .slice q1' q2' q3'] 39)) 0 rfl
          have x1' := row_at (heap_alloc_new w3 (.cells #[.slice p1' p2' p3', .slice q1' q2' q3'] 39)) 1 rfl
          rw [hab] at hag
          have hwN := worstTo_le hA5.whole 3
          have HwN : Hid (worstTo (stepA a s) 3 = worstN (stepA a s)) := rfl
          rw [HwN.out] at hwN
          go_wp2_with fail
          refine hag.mono ?_
          rintro e w6 ⟨rfl, hg6⟩
          have z0 := hg6.at x0
          have z1 := hg6.at x1'
          clear n0 n1 n2 n3 n4 n5 n6 e0 e1 x0 x1' hag
          go_wp2_with fail
          refine (refWorst_any _ (stepA a s) _ (HX.out.grow hg6) hA5.whole).mono ?_
          rintro e w7 ⟨rfl, hg7⟩
          have hg17 := (hg5.trans hg6).trans hg7
          have hg67 := hg6.trans hg7
          have o0 := hg17.at b0
          have o1 := hg17.at b1
          have u0 := hg7.at z0
          have u1 := hg7.at z1
          by_cases hw1 : worstN (stepA a s) ≤ 1
          · have hG := Hyes.out (by rw [Hgb.out, hab]; simpa using hw1)
            have hB7 := BInv.put HB.out hg17 (HX.out.grow hg67) hA5.whole hA5.fours (by omega) (by omega)
            have HB7 : Hid (BInv w w1.heap.size w.heap.size _ _ (stepA a s) _) := hB7
            have g0 := (hg17.frozen (a := ⟨w1.heap.size, 0, none⟩) (cell_lt b0)).trans fA0
            have g1 := (hg17.frozen (a := ⟨w1.heap.size, 1, none⟩) (cell_lt b0)).trans fA1
            have HG7 : Hid (gentlyFrom (l.drop (k + 1)) (stepA a s) (100 - (k + 1)) = gentlyL l) := hG
            have HA7 : Hid (Arr (stepA a s)) := hA5
            clear hB7 HB HV hend hA hR b0 b1 z0 z1 fA0 fA1 HX hno Hyes Hgb hG hab HwN
            generalize worstN (stepA a s) = N at *
            have kb : ((k : Int) == 100) = false := by simpa using h100'
            have nb : decide (1 < (N : Int)) = false := by simp; omega
            have nb' : ¬ 1 < (N : Int) := by omega
            go_wp2
            go_roundw
            case rel => first | exact ⟨k + 1, _, _, _, by omega, by omega, by go_num, HG7, HA7, HB7.out⟩ | ((repeat apply Exists.intro); exact ⟨⟨k + 1, _, _, _, by omega, by omega, by go_num, HG7, HA7, HB7.out⟩, rfl⟩)
            case measure => simp [intOf]; omega
          · have hno' := hno (by rw [Hgb.out, hab]; simpa using hw1)
            have Hf := hend _ hg17 hno'
            obtain ⟨t0, t1, f0, f1⟩ := two_open (hg17.block' hR)
            clear HB HV hend hA hR b0 b1 z0 z1 fA0 fA1 HX hno hno' Hyes Hgb hab HwN
            generalize worstN (stepA a s) = N at *
            go_wp2
            refine bodyPost_ret (results_two Try.results48 _ _ w.heap.size _ rfl Try.underlying39 rfl Try.sizeA Hf.out.2.2.1 Hf.out.2.2.2) rfl ?_
            exact ⟨_, rfl, Hf.out.1, Hf.out.2.1⟩
    · have Hf := hend _ (Grow.refl _) (by have := HG.out; rw [List.drop_eq_nil_of_le (by omega), gently_end] at this; exact this)
      obtain ⟨t0, t1, f0, f1⟩ := two_open hR
      clear HB HV hend hA hR fA0 fA1
      go_wp2
      refine bodyPost_ret (results_two Try.results48 _ _ w.heap.size _ rfl Try.underlying39 rfl Try.sizeA Hf.out.2.2.1 Hf.out.2.2.2) rfl ?_
      exact ⟨_, rfl, Hf.out.1, Hf.out.2.1⟩

end Go.Proofs.Ytjggiameajndgab
