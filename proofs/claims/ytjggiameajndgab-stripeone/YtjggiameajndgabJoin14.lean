import Derived.Test.YtjggiameajndgabJoin13
/-
  What the reference's Play returns. Nothing old turns.
-/
namespace Go.Proofs.Ytjggiameajndgab
open Go.RowKit

/-- The cells of a step. -/
def StepC (w : World) (b o : Nat) (x : StepP) (dv : Value) : Prop :=
  w.cell? ⟨b, o, none⟩ = some (.int .i64 x.k) ∧ w.cell? ⟨b, o + 1, none⟩ = some (.int .i64 x.n) ∧ w.cell? ⟨b, o + 2, none⟩ = some (.int .i64 x.m) ∧ w.cell? ⟨b, o + 3, none⟩ = some (.int .i64 x.d.k) ∧
    w.cell? ⟨b, o + 4, none⟩ = some (.int .i64 x.d.n) ∧ w.cell? ⟨b, o + 5, none⟩ = some (.int .i64 x.d.m) ∧ w.cell? ⟨b, o + 6, none⟩ = some dv ∧ Bs w dv x.d.d ∧ x.n ≤ 9223372036854775807

theorem StepC.grow {w w' : World} {b o : Nat} {x : StepP} {dv : Value} (h : StepC w b o x dv) (hg : Grow w w') : StepC w' b o x dv := by
  obtain ⟨h0, h1, h2, h3, h4, h5, h6, h7, h8⟩ := h
  exact ⟨hg.at h0, hg.at h1, hg.at h2, hg.at h3, hg.at h4, hg.at h5, hg.at h6, h7.grow hg, h8⟩

/-- Steps, as they lie: seven cells each. -/
def Stps (w : World) (v : Value) (l : List StepP) : Prop :=
  ∃ ao cap, v = .slice ao l.length cap ∧ l.length ≤ cap ∧ cap ≤ maxLen ∧ (ao = none → cap = 0) ∧
    (0 < l.length → ∃ b off, ao = some ⟨b, off, none⟩ ∧ ∀ (i : Nat) s, l[i]? = some s → ∃ dv, StepC w b (off + i * 7) s dv)

theorem Stps.grow {w w' : World} {v : Value} {l : List StepP} (h : Stps w v l) (hg : Grow w w') : Stps w' v l := by
  obtain ⟨ao, cap, hv, h1, h2, h3, h4⟩ := h
  refine ⟨ao, cap, hv, h1, h2, h3, fun hp => ?_⟩
  obtain ⟨b, off, e, hc⟩ := h4 hp
  refine ⟨b, off, e, fun i s hi => ?_⟩
  obtain ⟨dv, hd⟩ := hc i s hi
  exact ⟨dv, hd.grow hg⟩

theorem Try.infoE : (Try.prog.info? 28).map (fun i => (i.zero, i.size, i.bytes)) = some (some (.int .i64 0), 1, 8) := by kernel_rfl

/-- Numbers are appended beside it. -/
theorem BInv.num {w w6 w7 : World} {A R : Nat} {x y es : Value} {b : ArrP} {B : Nat} {e : TypeId} {ns : List Int} (h : BInv w A R x y b w6) (hN : NumRow B e w6 es ns) (hg : GrownIn w6 w7 (fun k => es.ownBlock = some k)) (hA : A < B) (hR : R < B) (hw : w.heap.size ≤ B) (hi : b.is = []) : BInv w A R x y b w7 := by
  obtain ⟨⟨h1, h2⟩, h3, h4⟩ := h
  have hgb : w6.grownBy w7 es.ownBlock := ⟨hg.os, hg.tape, hg.output, hg.size, fun i hlt hne => hg.block i hlt (fun hk => hne hk.symm)⟩
  have hb := hN.base
  have lt : ∀ {j : Nat} {o : Obj}, w6.heap[j]? = some o → j < w6.heap.size := fun {j o} hj => by
    by_cases hlt : j < w6.heap.size
    · exact hlt
    · rw [Array.getElem?_eq_none (Nat.le_of_not_lt hlt)] at hj; cases hj
  have hX : ArrX es.ownBlock w6 (.agg #[x, y]) b := by
    cases hv : es.ownBlock with
    | none => exact ArrX.old h3.out (Grow.refl _) (fun _ h => nomatch h)
    | some g => exact (hN.2 g hv).arr h3.out hi
  refine ⟨⟨(hg.block A (lt h1) (fun hk => by have := (hb A hk).1; omega)).trans h1, (hg.block R (lt h2) (fun hk => by have := (hb R hk).1; omega)).trans h2⟩, (hX.step hgb).plain, ?_⟩
  exact h4.grown hgb (fun k hk => by have := (hb k hk).1; omega)

theorem BInv.grow {w wr w5 : World} {A R : Nat} {x y : Value} {b : ArrP} (h : BInv w A R x y b wr) (hg : Grow wr w5) : BInv w A R x y b w5 := by
  obtain ⟨⟨h1, h2⟩, h3, h4⟩ := h
  exact ⟨⟨hg.block' h1, hg.block' h2⟩, h3.out.grow hg, h4.trans hg⟩

theorem playEs_succ {l : List StepP} {k : Nat} {s : StepP} (h : l[k]? = some s) : playEs l k ++ [stepE (playTo l k) s] = playEs l (k + 1) := by
  simp [playEs, List.range_succ, h]
theorem playTo_succ {l : List StepP} {k : Nat} {s : StepP} (h : l[k]? = some s) : playTo l (k + 1) = stepA (playTo l k) s := by rw [playTo, h]
theorem playEs_length (l : List StepP) (k : Nat) : (playEs l k).length = k := by simp [playEs]

set_option maxRecDepth 20000 in
set_option maxHeartbeats 3200000 in
theorem refPlay_any (v : Value) (l : List StepP) (w : World) (h : Stps w v l) :
    Calls Try.prog 19 #[v] w fun e w' => ∃ r es, e = .returned (.tuple #[r, es]) ∧ ArrV w' r (playL l) ∧ Sl IntV w' es (playEs l (min l.length 100)) ∧ Grow w w' := by
  obtain ⟨i0, hi, hz0, hz1, hz2⟩ := info_parts Try.infoE
  obtain ⟨ao, cap, rfl, h1, h2, h3, h4⟩ := h
  unfold maxLen at h2
  have hgR : Grow w (w.alloc (.cells #[.slice none 0 0, .slice none 0 0] 39)) := Grow.alloc _ _
  have hR0 := heap_alloc_new w (.cells #[.slice none 0 0, .slice none 0 0] 39)
  go_enter Try.func19, Try.ntmps19
  go_wp2_with fail
  refine (refNew6_any _).mono ?_
  rintro e w1 ⟨r, rfl, hr, hg1⟩
  obtain ⟨p1, p2, p3, r1, r2, r3, rfl⟩ := hr.form
  have hgA : Grow w1 (w1.alloc (.cells #[.slice p1 p2 p3, .slice r1 r2 r3] 39)) := Grow.alloc _ _
  have hR1 := (hg1.trans hgA).block' hR0
  have hlR : w.heap.size < w1.heap.size := by have := hg1.size; simp at this; omega
  have hI : BInv w w1.heap.size w.heap.size (.slice p1 p2 p3) (.slice r1 r2 r3) (playTo l 0) (w1.alloc (.cells #[.slice p1 p2 p3, .slice r1 r2 r3] 39)) := ⟨⟨heap_alloc_new w1 _, hR1⟩, hr.grow hgA, (hgR.trans hg1).trans hgA⟩
  have hs2 : w1.heap.size + 1 ≤ (w1.alloc (.cells #[.slice p1 p2 p3, .slice r1 r2 r3] 39)).heap.size := by simp
  have harrs := playTo_arr l
  clear hr hR0 hR1 hgA hg1 hgR
  go_wp2
  go_loopw [5, 13] (fun es i wr => ∃ (k : Nat) (x y : Value), k ≤ l.length ∧ k ≤ 100 ∧ i = .int .i64 k ∧ Hid (NumRow (w1.heap.size + 1) 28 wr es (playEs l k)) ∧ BInv w w1.heap.size w.heap.size x y (playTo l k) wr ∧ w1.heap.size + 1 ≤ wr.heap.size) (fun _ i _ => 101 - (intOf i).toNat)
  case atStart => exact ⟨0, _, _, by omega, by omega, rfl, NumRow.nil _ _ _, hI, hs2⟩
  case round =>
    obtain ⟨k, x, y, hk, hk100, rfl, HN, hB, hsz⟩ := hrel
    have HB : Hid (BInv w w1.heap.size w.heap.size x y (playTo l k) wr) := hB
    obtain ⟨⟨hA, hR⟩, HV, hgr⟩ := hB
    obtain ⟨⟨x1, x2, x3, rfl⟩, y1, y2, y3, rfl⟩ := HV.out.form2
    have Hlen : Hid ((playEs l k).length = k) := playEs_length l k
    have hend : ∀ wf, Grow wr wf → k = min l.length 100 → Hid (ArrV ((wf.setCell ⟨w.heap.size, 0, none⟩ (.slice x1 x2 x3)).setCell ⟨w.heap.size, 1, none⟩ (.slice y1 y2 y3)) (.agg #[.slice x1 x2 x3, .slice y1 y2 y3]) (playL l) ∧ Sl IntV ((wf.setCell ⟨w.heap.size, 0, none⟩ (.slice x1 x2 x3)).setCell ⟨w.heap.size, 1, none⟩ (.slice y1 y2 y3)) u5 (playEs l (min l.length 100)) ∧ Grow w ((wf.setCell ⟨w.heap.size, 0, none⟩ (.slice x1 x2 x3)).setCell ⟨w.heap.size, 1, none⟩ (.slice y1 y2 y3)) ∧
        ((wf.setCell ⟨w.heap.size, 0, none⟩ (.slice x1 x2 x3)).setCell ⟨w.heap.size, 1, none⟩ (.slice y1 y2 y3)).cell? ⟨w.heap.size, 0, none⟩ = some (.slice x1 x2 x3) ∧ ((wf.setCell ⟨w.heap.size, 0, none⟩ (.slice x1 x2 x3)).setCell ⟨w.heap.size, 1, none⟩ (.slice y1 y2 y3)).cell? ⟨w.heap.size, 1, none⟩ = some (.slice y1 y2 y3)) := fun wf hwf e => by
      obtain ⟨hv, hg, z0, z1⟩ := (HB.out.grow hwf).done (harrs k).whole (harrs k).fours (Nat.le_refl _)
      refine ⟨by rw [playL, ← e]; exact hv, ?_, hg, z0, z1⟩
      rw [← e]
      have hN := HN.out.grow hwf
      exact ((hN.kept (grownIn_set wf w.heap.size 0 (.slice x1 x2 x3) (G := fun j => j = w.heap.size) rfl) (fun j hj e => by have := (hN.base j hj).1; omega)).kept (grownIn_set _ w.heap.size 1 (.slice y1 y2 y3) (G := fun j => j = w.heap.size) rfl) (fun j hj e => by have := (hN.base j hj).1; omega)).done
    have b0 := two_at0 hA
    have b1 := two_at1 hA
    have fA0 : wr.frozen? ⟨w1.heap.size, 0, none⟩ = false := frozen_of_row wr _ 0 _ _ hA
    have fA1 : wr.frozen? ⟨w1.heap.size, 1, none⟩ = false := frozen_of_row wr _ 1 _ _ hA
    by_cases hlt : k < l.length
    · obtain ⟨b, off, rfl, hc⟩ := h4 (by omega)
      obtain ⟨dv, hst⟩ := hc k l[k] (by simp [hlt])
      have HS : Hid (l[k]? = some l[k]) := by rw [Hid]; simp [hlt]
      generalize l[k] = s at *
      clear hc h4
      obtain ⟨s0, s1, s2, s3, s4, s5, s6, s7, s8⟩ := hst.grow hgr
      obtain ⟨d1, d2, d3, rfl⟩ := s7.form
      have hgS := Grow.alloc wr (.cells #[.int .i64 s.k, .int .i64 s.n, .int .i64 s.m, .int .i64 s.d.k, .int .i64 s.d.n, .int .i64 s.d.m, .slice d1 d2 d3] 82)
      have c0 := hgS.at b0
      have c1 := hgS.at b1
      by_cases h100 : k = 100
      · have Hf := hend _ hgS (by omega)
        obtain ⟨t0, t1, f0, f1⟩ := two_open (hgS.block' hR)
        clear HN HB HV hend hA hR b0 b1 fA0 fA1 hst Hlen
        subst h100
        go_wp2
        refine bodyPost_ret (results_two1 Try.results19 _ _ w.heap.size _ rfl Try.underlying39 rfl Try.sizeA Hf.out.2.2.2.1 Hf.out.2.2.2.2) rfl ?_
        exact ⟨_, _, rfl, Hf.out.1, Hf.out.2.1, Hf.out.2.2.1⟩
      · have h100' : ¬ (k : Int) = 100 := by omega
        have hcall := refStep_any _ _ (playTo l k) s _ (HV.out.grow hgS) (harrs k) ⟨_, rfl, s7.grow hgS, s8⟩
        have hgrS := hgr.trans hgS
        clear hend hA hR
        go_wp2_with fail
        refine hcall.mono ?_
        rintro e w3 ⟨r', rfl, hr', hg3⟩
        obtain ⟨p1', p2', p3', q1', q2', q3', rfl⟩ := hr'.form
        have hgX := Grow.alloc w3 (.cells #[.slice p1' p2' p3', .slice q1' q2' q3'] 39)
        have hg5 := (hgS.trans hg3).trans hgX
        have HS1 := playTo_succ HS.out
        have hA5 := stepA_arr (harrs k) s
        have hB5 := BInv.put HB.out hg5 (hr'.grow hgX) hA5.whole hA5.fours (by omega) (by omega)
        have hN5 := ((HN.out.grow hg5).kept (grownIn_set _ w1.heap.size 0 (.slice p1' p2' p3') (G := fun j => j = w1.heap.size) rfl) (fun j hj e => by have := (HN.out.base j hj).1; omega)).kept (grownIn_set _ w1.heap.size 1 (.slice q1' q2' q3') (G := fun j => j = w1.heap.size) rfl) (fun j hj e => by have := (HN.out.base j hj).1; omega)
        have e0 := hg5.at b0
        have e1 := hg5.at b1
        have g0 := (hg5.frozen (a := ⟨w1.heap.size, 0, none⟩) (cell_lt b0)).trans fA0
        have g1 := (hg5.frozen (a := ⟨w1.heap.size, 1, none⟩) (cell_lt b0)).trans fA1
        have hT := playEs_succ HS.out
        rw [← HS1] at hB5
        have HB5 : Hid (BInv w w1.heap.size w.heap.size _ _ (playTo l (k + 1)) _) := hB5
        have HN5 : Hid (NumRow (w1.heap.size + 1) 28 _ u5 (playEs l k)) := hN5
        have hsz5 : w1.heap.size + 1 ≤ ((((w3.alloc (.cells #[.slice p1' p2' p3', .slice q1' q2' q3'] 39)).setCell ⟨w1.heap.size, 0, none⟩ (.slice p1' p2' p3')).setCell ⟨w1.heap.size, 1, none⟩ (.slice q1' q2' q3'))).heap.size := by have := hg5.size; simp at this ⊢; omega
        have HT : Hid (playEs l k ++ [stepE (playTo l k) s] = playEs l (k + 1)) := hT
        clear hT hB5 hN5 HN HB HV hst hcall hr' HS1 s0 s1 s2 s3 s4 s5 s6 b0 b1 c0 c1 fA0 fA1
        generalize stepE (playTo l k) s = E at *
        go_wp2_with (first
          | (at_builtin; refine wpList_push_num rfl (.tmp 27) (.tmp 29) 40 rfl 28 i0 Try.underlying40 hi hz0 hz1 hz2 (w1.heap.size + 1) rfl HN5.out E hsz5 (by rw [Hlen.out]; omega) (w3.heap.size + 1) (by simp) rfl ?_; rintro g' cap' w7 hN7 hg7))
        rw [HT.out] at hN7
        have hB7 := HB5.out.num HN5.out hg7 (by omega) (by omega) (by omega) (harrs (k + 1)).none
        have HB7 : Hid (BInv w w1.heap.size w.heap.size _ _ (playTo l (k + 1)) w7) := hB7
        have hsz7 : w1.heap.size + 1 ≤ w7.heap.size := Nat.le_trans hsz5 hg7.size
        rw [Hlen.out] at hN7 ⊢
        clear hB7 HB5 HN5
        go_wp2
        go_roundw
        case rel => first | exact ⟨k + 1, _, _, by omega, by omega, by go_num, hN7, HB7.out, hsz7⟩ | ((repeat apply Exists.intro); exact ⟨⟨k + 1, _, _, by omega, by omega, by go_num, hN7, HB7.out, hsz7⟩, rfl⟩)
        case measure => simp [intOf]; omega
    · have Hf := hend _ (Grow.refl _) (by omega)
      obtain ⟨t0, t1, f0, f1⟩ := two_open hR
      clear HN HB HV hend hA hR fA0 fA1 Hlen
      go_wp2
      refine bodyPost_ret (results_two1 Try.results19 _ _ w.heap.size _ rfl Try.underlying39 rfl Try.sizeA Hf.out.2.2.2.1 Hf.out.2.2.2.2) rfl ?_
      exact ⟨_, _, rfl, Hf.out.1, Hf.out.2.1, Hf.out.2.2.1⟩

end Go.Proofs.Ytjggiameajndgab

/-
  How arguments that are steps, and slices of steps, are read.
-/
namespace Go.Proofs.Ytjggiameajndgab
open Go.ChangeShapes Go.WideShapes Go.ChangeAt Go.RowKit

section
variable {H : Type} {enc : TypeId × Value → H} {W : World} {base : Nat} {sp : Nat → Bool} {held : Bool}

theorem Try.cellsStep : Try.prog.cellsOf 82 = 7 := by kernel_rfl

set_option maxRecDepth 20000 in
/-- Cells of a step. -/
theorem step_cells {fuel : Nat} {cs : List Value} {x : DataW H × List MemPlace} (h : DataW.trod enc Try.prog W base sp held fuel 82 cs = some x) :
    ∃ (y : StepP) (dv : Value), cs = [.int .i64 y.k, .int .i64 y.n, .int .i64 y.m, .int .i64 y.d.k, .int .i64 y.d.n, .int .i64 y.d.m, dv] ∧ Bs W dv y.d.d ∧ y.n ≤ 9223372036854775807 := by
  obtain ⟨hlen, hf⟩ := field_at Try.underlying82 h
  rw [Try.cellsStep] at hlen
  obtain ⟨c0, c1, c2, c3, c4, c5, c6, rfl⟩ := seven_of hlen
  have g0 := hf 0 _ rfl
  have h0 : ∃ n y, DataW.trod enc Try.prog W base sp held n 3 (([c0, c1, c2, c3, c4, c5, c6].drop 0).take (Try.prog.cellsOf 3)) = some y := g0
  rw [Try.cellsInt] at h0
  obtain ⟨m0, y0, f0⟩ := h0
  have g1 := hf 1 _ rfl
  have h1 : ∃ n y, DataW.trod enc Try.prog W base sp held n 3 (([c0, c1, c2, c3, c4, c5, c6].drop 1).take (Try.prog.cellsOf 3)) = some y := g1
  rw [Try.cellsInt] at h1
  obtain ⟨m1, y1, f1⟩ := h1
  have g2 := hf 2 _ rfl
  have h2 : ∃ n y, DataW.trod enc Try.prog W base sp held n 3 (([c0, c1, c2, c3, c4, c5, c6].drop 2).take (Try.prog.cellsOf 3)) = some y := g2
  rw [Try.cellsInt] at h2
  obtain ⟨m2, y2, f2⟩ := h2
  have g3 := hf 3 _ rfl
  have h3 : ∃ n y, DataW.trod enc Try.prog W base sp held n 25 (([c0, c1, c2, c3, c4, c5, c6].drop 3).take (Try.prog.cellsOf 25)) = some y := g3
  rw [Try.cellsDeed] at h3
  obtain ⟨m3, y3, f3⟩ := h3
  obtain ⟨k, rfl, -⟩ := int_cell f0
  obtain ⟨n, rfl, hn⟩ := int_cell f1
  obtain ⟨m, rfl, -⟩ := int_cell f2
  obtain ⟨y, dv, e, hb, -⟩ := deed_cells f3
  simp only [List.drop_succ_cons, List.drop_zero, List.take_succ_cons, List.take_zero, List.cons.injEq, and_true] at e
  obtain ⟨rfl, rfl, rfl, rfl⟩ := e
  exact ⟨⟨k, n, m, y⟩, _, rfl, hb, (bounds_i64 hn).2⟩

set_option maxRecDepth 20000 in
/-- A step that is an argument. -/
theorem open_step {v : Value} {d : DataW H} {p : List MemPlace} {b0 : Nat} (hv : Value.okWide Try.prog W .any b0 82 v) (h : DataW.Trod enc Try.prog W base sp held 82 v d p) : ∃ y : StepP, StepV W v y := by
  obtain ⟨fuel, hf⟩ := h
  unfold Value.okWide at hv
  rw [Try.underlying82] at hv
  obtain ⟨cs, rfl, -, -⟩ := hv
  obtain ⟨y, dv, e, hb, hn⟩ := step_cells hf
  have e' : cs = #[.int .i64 y.k, .int .i64 y.n, .int .i64 y.m, .int .i64 y.d.k, .int .i64 y.d.n, .int .i64 y.d.m, dv] := Array.toList_inj.1 e
  exact ⟨y, dv, by rw [e'], hb, hn⟩

theorem addr_plain (b o j : Nat) : (⟨b, o, none⟩ : Addr).add j = ⟨b, o + j, none⟩ := by unfold Addr.add; split <;> simp_all

set_option maxRecDepth 20000 in
/-- Steps that are an argument. -/
theorem open_steps {v : Value} {d : DataW H} {p : List MemPlace} {b0 : Nat} (hv : Value.okWide Try.prog W .any b0 35 v) (h : DataW.Trod enc Try.prog W base sp held 35 v d p) : ∃ l : List StepP, Stps W v l ∧ ∀ s ∈ l, Octets s.d.d := by
  obtain ⟨a0, len0, cap0, rfl⟩ := okWide_slice Try.underlying35 hv
  obtain ⟨fuel, hf⟩ := h
  rcases Go.Deep.open_slice Try.underlying35 (by simpa [Value.cells] using hf) with ⟨hcs, _⟩ | ⟨a, len, cap, m, n, D, Pl, hcs, hb, hl, hm, hmm, hx, hV⟩
  · simp at hcs
    obtain ⟨rfl, rfl, rfl⟩ := hcs
    exact ⟨[], ⟨none, 0, rfl, Nat.le_refl _, Nat.zero_le _, fun _ => rfl, fun h => by simp at h⟩, fun s hs => by simp at hs⟩
  · simp at hcs
    obtain ⟨rfl, rfl, rfl⟩ := hcs
    have hlm : len0 ≤ m := by rw [hmm]; split <;> omega
    rw [Try.cellsStep] at hV
    have hch : ∀ i : Nat, ∃ y : StepP, i < len0 → ∃ dv, Bs W dv y.d.d ∧ y.n ≤ 9223372036854775807 ∧ ∀ j : Nat, j < 7 → W.cell? ((a.add (i * 7)).add j) = [Value.int .i64 y.k, .int .i64 y.n, .int .i64 y.m, .int .i64 y.d.k, .int .i64 y.d.n, .int .i64 y.d.m, dv][j]? := fun i => by
      by_cases hi : i < len0
      · obtain ⟨cs', hc, ht⟩ := hV i (by omega)
        obtain ⟨y, dv, rfl, hb, hn⟩ := step_cells ht
        obtain ⟨-, -, hcell⟩ := World.cells?_some hc
        exact ⟨y, fun _ => ⟨dv, hb, hn, hcell⟩⟩
      · exact ⟨⟨0, 0, 0, ⟨0, 0, 0, []⟩⟩, fun h => absurd h hi⟩
    obtain ⟨f, hf'⟩ : ∃ f : Nat → StepP, ∀ i, i < len0 → ∃ dv, Bs W dv (f i).d.d ∧ (f i).n ≤ 9223372036854775807 ∧ ∀ j : Nat, j < 7 → W.cell? ((a.add (i * 7)).add j) = [Value.int .i64 (f i).k, .int .i64 (f i).n, .int .i64 (f i).m, .int .i64 (f i).d.k, .int .i64 (f i).d.n, .int .i64 (f i).d.m, dv][j]? := ⟨fun i => (hch i).choose, fun i => (hch i).choose_spec⟩
    clear hch hV
    by_cases hp : 0 < len0
    · obtain ⟨b, off, spot⟩ := a
      have hspot : spot = none := by
        obtain ⟨dv, -, -, hc⟩ := hf' 0 hp
        have := World.cell?_spot (hc 0 (by omega))
        simpa [Addr.add] using this
      subst hspot
      refine ⟨(List.range len0).map f, ⟨some ⟨b, off, none⟩, cap0, by simp, by simpa using hl, hm, (fun h => nomatch h), fun _ => ⟨b, off, rfl, fun i s hs => ?_⟩⟩, fun s hs => ?_⟩
      · obtain ⟨hi, e⟩ := List.getElem?_eq_some_iff.1 hs
        have hi' : i < len0 := by simpa using hi
        have e' : s = f i := by rw [← e]; simp
        subst e'
        obtain ⟨dv, hb, hn, hc⟩ := hf' i hi'
        have hc' : ∀ j : Nat, j < 7 → W.cell? ⟨b, off + i * 7 + j, none⟩ = [Value.int .i64 (f i).k, .int .i64 (f i).n, .int .i64 (f i).m, .int .i64 (f i).d.k, .int .i64 (f i).d.n, .int .i64 (f i).d.m, dv][j]? := fun j hj => by rw [← hc j hj, addr_plain, addr_plain]
        exact ⟨dv, hc' 0 (by omega), hc' 1 (by omega), hc' 2 (by omega), hc' 3 (by omega), hc' 4 (by omega), hc' 5 (by omega), hc' 6 (by omega), hb, hn⟩
      · obtain ⟨i, hi, rfl⟩ := List.mem_map.1 hs
        obtain ⟨dv, hb, -, -⟩ := hf' i (List.mem_range.1 hi)
        exact hb.octets
    · obtain rfl : len0 = 0 := by omega
      exact ⟨[], ⟨some a, cap0, rfl, Nat.zero_le _, hm, (fun h => nomatch h), fun h => by simp at h⟩, fun s hs => by simp at hs⟩

end

end Go.Proofs.Ytjggiameajndgab
