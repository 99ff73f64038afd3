import Derived.Lib.SliceRun
import Derived.Laws.EntriesVeiled
import Derived.Test.YtjggiameajndgacJoin9
/-
  What the reference's Play returns. Nothing old turns.
-/
namespace Go.Proofs.Ytjggiameajndgac
open Go.RowKit

/-- The cells of a step. -/
def StepC (w : World) (b o : Nat) (x : StepP) (dv : Value) : Prop :=
  w.cell? ⟨b, o, none⟩ = some (.int .i64 x.k) ∧ w.cell? ⟨b, o + 1, none⟩ = some (.int .i64 x.n) ∧ w.cell? ⟨b, o + 2, none⟩ = some (.int .i64 x.m) ∧ w.cell? ⟨b, o + 3, none⟩ = some (.int .i64 x.d.k) ∧
    w.cell? ⟨b, o + 4, none⟩ = some (.int .i64 x.d.n) ∧ w.cell? ⟨b, o + 5, none⟩ = some (.int .i64 x.d.m) ∧ w.cell? ⟨b, o + 6, none⟩ = some dv ∧ Bs w dv x.d.d ∧ x.n ≤ 9223372036854775807

theorem StepC.grow {w w' : World} {b o : Nat} {x : StepP} {dv : Value} (h : StepC w b o x dv) (hg : Grow w w') : StepC w' b o x dv := by
  obtain ⟨h0, h1, h2, h3, h4, h5, h6, h7, h8⟩ := h
  exact ⟨hg.at h0, hg.at h1, hg.at h2, hg.at h3, hg.at h4, hg.at h5, hg.at h6, h7.grow hg, h8⟩

/-- Steps, as they lie: seven cells each. -/
def Stps (w : World) (v : Value) (l : List StepP) : Prop :=
  ∃ ao cap, v = .slice ao l.length cap ∧ l.length ≤ cap ∧ cap ≤ maxLen ∧ (ao = none → cap = 0) ∧
    (0 < l.length → ∃ b off, ao = some ⟨b, off, none⟩ ∧ ∀ (i : Nat) s, l[i]? = some s → ∃ dv, StepC w b (off + i * 7) s dv)

theorem Stps.grow {w w' : World} {v : Value} {l : List StepP} (h : Stps w v l) (hg : Grow w w') : Stps w' v l := by
  obtain ⟨ao, cap, hv, h1, h2, h3, h4⟩ := h
  refine ⟨ao, cap, hv, h1, h2, h3, fun hp => ?_⟩
  obtain ⟨b, off, e, hc⟩ := h4 hp
  refine ⟨b, off, e, fun i s hi => ?_⟩
  obtain ⟨dv, hd⟩ := hc i s hi
  exact ⟨dv, hd.grow hg⟩

theorem Try.infoE : (Try.prog.info? 30).map (fun i => (i.zero, i.size, i.bytes)) = some (some (.int .i64 0), 1, 8) := by kernel_rfl

/-- Numbers are appended beside it. -/
theorem BInv.num {w w6 w7 : World} {A R : Nat} {x y es : Value} {b : ArrP} {B : Nat} {e : TypeId} {ns : List Int} (h : BInv w A R x y b w6) (hN : NumRow B e w6 es ns) (hg : GrownIn w6 w7 (fun k => es.ownBlock = some k)) (hA : A < B) (hR : R < B) (hw : w.heap.size ≤ B) (hi : b.is = []) : BInv w A R x y b w7 := by
  obtain ⟨⟨h1, h2⟩, h3, h4⟩ := h
  have hgb : w6.grownBy w7 es.ownBlock := ⟨hg.os, hg.tape, hg.output, hg.size, fun i hlt hne => hg.block i hlt (fun hk => hne hk.symm)⟩
  have hb := hN.base
  have lt : ∀ {j : Nat} {o : Obj}, w6.heap[j]? = some o → j < w6.heap.size := fun {j o} hj => by
    by_cases hlt : j < w6.heap.size
    · exact hlt
    · rw [Array.getElem?_eq_none (Nat.le_of_not_lt hlt)] at hj; cases hj
  have hX : ArrX es.ownBlock w6 (.agg #[x, y]) b := by
    cases hv : es.ownBlock with
    | none => exact ArrX.old h3.out (Grow.refl _) (fun _ h => nomatch h)
    | some g => exact (hN.2 g hv).arr h3.out hi
  refine ⟨⟨(hg.block A (lt h1) (fun hk => by have := (hb A hk).1; omega)).trans h1, (hg.block R (lt h2) (fun hk => by have := (hb R hk).1; omega)).trans h2⟩, (hX.step hgb).plain, ?_⟩
  exact h4.grown hgb (fun k hk => by have := (hb k hk).1; omega)

theorem BInv.grow {w wr w5 : World} {A R : Nat} {x y : Value} {b : ArrP} (h : BInv w A R x y b wr) (hg : Grow wr w5) : BInv w A R x y b w5 := by
  obtain ⟨⟨h1, h2⟩, h3, h4⟩ := h
  exact ⟨⟨hg.block' h1, hg.block' h2⟩, h3.out.grow hg, h4.trans hg⟩

theorem playEs_succ {l : List StepP} {k : Nat} {s : StepP} (h : l[k]? = some s) : playEs l k ++ [stepE (playTo l k) s] = playEs l (k + 1) := by
  simp [playEs, List.range_succ, h]
theorem playTo_succ {l : List StepP} {k : Nat} {s : StepP} (h : l[k]? = some s) : playTo l (k + 1) = stepA (playTo l k) s := by rw [playTo, h]
theorem playEs_length (l : List StepP) (k : Nat) : (playEs l k).length = k := by simp [playEs]

set_option maxRecDepth 20000 in
set_option maxHeartbeats 3200000 in
theorem refPlay_any (v : Value) (l : List StepP) (w : World) (h : Stps w v l) :
    Calls Try.prog 15 #[v] w fun e w' => ∃ r es, e = .returned (.tuple #[r, es]) ∧ ArrV w' r (playL l) ∧ Sl IntV w' es (playEs l (min l.length 100)) ∧ Grow w w' := by
  obtain ⟨i0, hi, hz0, hz1, hz2⟩ := info_parts Try.infoE
  obtain ⟨ao, cap, rfl, h1, h2, h3, h4⟩ := h
  unfold maxLen at h2
  have hgR : Grow w (w.alloc (.cells #[.slice none 0 0, .slice none 0 0] 26)) := Grow.alloc _ _
  have hR0 := heap_alloc_new w (.cells #[.slice none 0 0, .slice none 0 0] 26)
  go_enter Try.func15, Try.ntmps15
  go_wp2_with fail
  refine (refNew6_any _).mono ?_
  rintro e w1 ⟨r, rfl, hr, hg1⟩
  obtain ⟨p1, p2, p3, r1, r2, r3, rfl⟩ := hr.form
  have hgA : Grow w1 (w1.alloc (.cells #[.slice p1 p2 p3, .slice r1 r2 r3] 26)) := Grow.alloc _ _
  have hR1 := (hg1.trans hgA).block' hR0
  have hlR : w.heap.size < w1.heap.size := by have := hg1.size; simp at this; omega
  have hI : BInv w w1.heap.size w.heap.size (.slice p1 p2 p3) (.slice r1 r2 r3) (playTo l 0) (w1.alloc (.cells #[.slice p1 p2 p3, .slice r1 r2 r3] 26)) := ⟨⟨heap_alloc_new w1 _, hR1⟩, hr.grow hgA, (hgR.trans hg1).trans hgA⟩
  have hs2 : w1.heap.size + 1 ≤ (w1.alloc (.cells #[.slice p1 p2 p3, .slice r1 r2 r3] 26)).heap.size := by simp
  have harrs := playTo_arr l
  clear hr hR0 hR1 hgA hg1 hgR
  go_wp2
  go_loopw [5, 13] (fun es i wr => ∃ (k : Nat) (x y : Value), k ≤ l.length ∧ k ≤ 100 ∧ i = .int .i64 k ∧ Hid (NumRow (w1.heap.size + 1) 30 wr es (playEs l k)) ∧ BInv w w1.heap.size w.heap.size x y (playTo l k) wr ∧ w1.heap.size + 1 ≤ wr.heap.size) (fun _ i _ => 101 - (intOf i).toNat)
  case atStart => exact ⟨0, _, _, by omega, by omega, rfl, NumRow.nil _ _ _, hI, hs2⟩
  case round =>
    obtain ⟨k, x, y, hk, hk100, rfl, HN, hB, hsz⟩ := hrel
    have HB : Hid (BInv w w1.heap.size w.heap.size x y (playTo l k) wr) := hB
    obtain ⟨⟨hA, hR⟩, HV, hgr⟩ := hB
    obtain ⟨⟨x1, x2, x3, rfl⟩, y1, y2, y3, rfl⟩ := HV.out.form2
    have Hlen : Hid ((playEs l k).length = k) := playEs_length l k
    have hend : ∀ wf, Grow wr wf → k = min l.length 100 → Hid (ArrV ((wf.setCell ⟨w.heap.size, 0, none⟩ (.slice x1 x2 x3)).setCell ⟨w.heap.size, 1, none⟩ (.slice y1 y2 y3)) (.agg #[.slice x1 x2 x3, .slice y1 y2 y3]) (playL l) ∧ Sl IntV ((wf.setCell ⟨w.heap.size, 0, none⟩ (.slice x1 x2 x3)).setCell ⟨w.heap.size, 1, none⟩ (.slice y1 y2 y3)) u5 (playEs l (min l.length 100)) ∧ Grow w ((wf.setCell ⟨w.heap.size, 0, none⟩ (.slice x1 x2 x3)).setCell ⟨w.heap.size, 1, none⟩ (.slice y1 y2 y3)) ∧
        ((wf.setCell ⟨w.heap.size, 0, none⟩ (.slice x1 x2 x3)).setCell ⟨w.heap.size, 1, none⟩ (.slice y1 y2 y3)).cell? ⟨w.heap.size, 0, none⟩ = some (.slice x1 x2 x3) ∧ ((wf.setCell ⟨w.heap.size, 0, none⟩ (.slice x1 x2 x3)).setCell ⟨w.heap.size, 1, none⟩ (.slice y1 y2 y3)).cell? ⟨w.heap.size, 1, none⟩ = some (.slice y1 y2 y3)) := fun wf hwf e => by
      obtain ⟨hv, hg, z0, z1⟩ := (HB.out.grow hwf).done (harrs k).whole (harrs k).fours (Nat.le_refl _)
      refine ⟨by rw [playL, ← e]; exact hv, ?_, hg, z0, z1⟩
      rw [← e]
      have hN := HN.out.grow hwf
      exact ((hN.kept (grownIn_set wf w.heap.size 0 (.slice x1 x2 x3) (G := fun j => j = w.heap.size) rfl) (fun j hj e => by have := (hN.base j hj).1; omega)).kept (grownIn_set _ w.heap.size 1 (.slice y1 y2 y3) (G := fun j => j = w.heap.size) rfl) (fun j hj e => by have := (hN.base j hj).1; omega)).done
    have b0 := two_at0 hA
    have b1 := two_at1 hA
    have fA0 : wr.frozen? ⟨w1.heap.size, 0, none⟩ = false := frozen_of_row wr _ 0 _ _ hA
    have fA1 : wr.frozen? ⟨w1.heap.size, 1, none⟩ = false := frozen_of_row wr _ 1 _ _ hA
    by_cases hlt : k < l.length
    · obtain ⟨b, off, rfl, hc⟩ := h4 (by omega)
      obtain ⟨dv, hst⟩ := hc k l[k] (by simp [hlt])
      have HS : Hid (l[k]? = some l[k]) := by rw [Hid]; simp [hlt]
      generalize l[k] = s at *
      clear hc h4
      obtain ⟨s0, s1, s2, s3, s4, s5, s6, s7, s8⟩ := hst.grow hgr
      obtain ⟨d1, d2, d3, rfl⟩ := s7.form
      have hgS := Grow.alloc wr (.cells #[.int .i64 s.k, .int .i64 s.n, .int .i64 s.m, .int .i64 s.d.k, .int .i64 s.d.n, .int .i64 s.d.m, .slice d1 d2 d3] 56)
      have c0 := hgS.at b0
      have c1 := hgS.at b1
      by_cases h100 : k = 100
      · have Hf := hend _ hgS (by omega)
        obtain ⟨t0, t1, f0, f1⟩ := two_open (hgS.block' hR)
        clear HN HB HV hend hA hR b0 b1 fA0 fA1 hst Hlen
        subst h100
        go_wp2
        refine bodyPost_ret (results_two1 Try.results15 _ _ w.heap.size _ rfl Try.underlying26 rfl Try.sizeA Hf.out.2.2.2.1 Hf.out.2.2.2.2) rfl ?_
        exact ⟨_, _, rfl, Hf.out.1, Hf.out.2.1, Hf.out.2.2.1⟩
      · have h100' : ¬ (k : Int) = 100 := by omega
        have hcall := refStep_any _ _ (playTo l k) s _ (HV.out.grow hgS) (harrs k) ⟨_, rfl, s7.grow hgS, s8⟩
        have hgrS := hgr.trans hgS
        clear hend hA hR
        go_wp2_with fail
        refine hcall.mono ?_
        rintro e w3 ⟨r', rfl, hr', hg3⟩
        obtain ⟨p1', p2', p3', q1', q2', q3', rfl⟩ := hr'.form
        have hgX := Grow.alloc w3 (.cells #[.slice p1' p2' p3', .slice q1' q2' q3'] 26)
        have hg5 := (hgS.trans hg3).trans hgX
        have HS1 := playTo_succ HS.out
        have hA5 := stepA_arr (harrs k) s
        have hB5 := BInv.put HB.out hg5 (hr'.grow hgX) hA5.whole hA5.fours (by omega) (by omega)
        have hN5 := ((HN.out.grow hg5).kept (grownIn_set _ w1.heap.size 0 (.slice p1' p2' p3') (G := fun j => j = w1.heap.size) rfl) (fun j hj e => by have := (HN.out.base j hj).1; omega)).kept (grownIn_set _ w1.heap.size 1 (.slice q1' q2' q3') (G := fun j => j = w1.heap.size) rfl) (fun j hj e => by have := (HN.out.base j hj).1; omega)
        have e0 := hg5.at b0
        have e1 := hg5.at b1
        have g0 := (hg5.frozen (a := ⟨w1.heap.size, 0, none⟩) (cell_lt b0)).trans fA0
        have g1 := (hg5.frozen (a := ⟨w1.heap.size, 1, none⟩) (cell_lt b0)).trans fA1
        have hT := playEs_succ HS.out
        rw [← HS1] at hB5
        have HB5 : Hid (BInv w w1.heap.size w.heap.size _ _ (playTo l (k + 1)) _) := hB5
        have HN5 : Hid (NumRow (w1.heap.size + 1) 30 _ u5 (playEs l k)) := hN5
        have hsz5 : w1.heap.size + 1 ≤ ((((w3.alloc (.cells #[.slice p1' p2' p3', .slice q1' q2' q3'] 26)).setCell ⟨w1.heap.size, 0, none⟩ (.slice p1' p2' p3')).setCell ⟨w1.heap.size, 1, none⟩ (.slice q1' q2' q3'))).heap.size := by have := hg5.size; simp at this ⊢; omega
        have HT : Hid (playEs l k ++ [stepE (playTo l k) s] = playEs l (k + 1)) := hT
        clear hT hB5 hN5 HN HB HV hst hcall hr' HS1 s0 s1 s2 s3 s4 s5 s6 b0 b1 c0 c1 fA0 fA1
        generalize stepE (playTo l k) s = E at *
        go_wp2_with (first
          | (at_builtin; refine wpList_push_num rfl (.tmp 27) (.tmp 29) 27 rfl 30 i0 Try.underlying27 hi hz0 hz1 hz2 (w1.heap.size + 1) rfl HN5.out E hsz5 (by rw [Hlen.out]; omega) (w3.heap.size + 1) (by simp) rfl ?_; rintro g' cap' w7 hN7 hg7))
        rw [HT.out] at hN7
        have hB7 := HB5.out.num HN5.out hg7 (by omega) (by omega) (by omega) (harrs (k + 1)).none
        have HB7 : Hid (BInv w w1.heap.size w.heap.size _ _ (playTo l (k + 1)) w7) := hB7
        have hsz7 : w1.heap.size + 1 ≤ w7.heap.size := Nat.le_trans hsz5 hg7.size
        rw [Hlen.out] at hN7 ⊢
        clear hB7 HB5 HN5
        go_wp2
        go_roundw
        case rel => first | exact ⟨k + 1, _, _, by omega, by omega, by go_num, hN7, HB7.out, hsz7⟩ | ((repeat apply Exists.intro); exact ⟨⟨k + 1, _, _, by omega, by omega, by go_num, hN7, HB7.out, hsz7⟩, rfl⟩)
        case measure => simp [intOf]; omega
    · have Hf := hend _ (Grow.refl _) (by omega)
      obtain ⟨t0, t1, f0, f1⟩ := two_open hR
      clear HN HB HV hend hA hR fA0 fA1 Hlen
      go_wp2
      refine bodyPost_ret (results_two1 Try.results15 _ _ w.heap.size _ rfl Try.underlying26 rfl Try.sizeA Hf.out.2.2.2.1 Hf.out.2.2.2.2) rfl ?_
      exact ⟨_, _, rfl, Hf.out.1, Hf.out.2.1, Hf.out.2.2.1⟩

end Go.Proofs.Ytjggiameajndgac

/-
  The two outright statements of chapter 2, walked: unlike cells look unlike; rot is found, and a wrong place. They return true, and nothing old turns.
-/
namespace Go.Proofs.Ytjggiameajndgac
open Go.RowKit

theorem read_yes (v : Value) (l : List Int) (d s : Int) (w : World) (hl : l.length = 4) (h : Bs w v (cellOf d s l)) :
    Calls Try.prog 94 #[v, .int .i64 d, .int .i64 s] w fun e w' => ∃ r, e = .returned (.tuple #[r, .int .i64 0]) ∧ Bs w' r l ∧ Grow w w' :=
  (read_any v _ d s w h).mono fun e w' ⟨r, he, hb, hg⟩ => by
    have := read_cell (d := d) (s := s) hl d s
    simp only [and_self, if_true] at this
    rw [this.1] at hb
    rw [this.2] at he
    exact ⟨r, he, hb, hg⟩

theorem read_no (v : Value) (l : List Int) (d s d' s' : Int) (w : World) (hl : l.length = 4) (hne : ¬ (d = d' ∧ s = s')) (h : Bs w v (cellOf d s l)) :
    Calls Try.prog 94 #[v, .int .i64 d', .int .i64 s'] w fun e w' => ∃ r, e = .returned (.tuple #[r, .int .i64 8]) ∧ Grow w w' :=
  (read_any v _ d' s' w h).mono fun e w' ⟨r, he, hb, hg⟩ => by
    have := read_cell (d := d) (s := s) hl d' s'
    rw [if_neg hne, if_neg hne] at this
    rw [this.2] at he
    exact ⟨r, he, hg⟩

theorem there_yes (d s : Int) (w : World) (h : 0 ≤ d ∧ d < 4 ∧ 0 ≤ s ∧ s < 3) : Calls Try.prog 45 #[.int .i64 d, .int .i64 s] w fun e w' => e = .returned (.bool true) ∧ w' = w := by
  rw [← show thereB d s = true from decide_eq_true h]; exact there_any d s w

theorem there_no (d s : Int) (w : World) (h : ¬ (0 ≤ d ∧ d < 4 ∧ 0 ≤ s ∧ s < 3)) : Calls Try.prog 45 #[.int .i64 d, .int .i64 s] w fun e w' => e = .returned (.bool false) ∧ w' = w := by
  rw [← show thereB d s = false from decide_eq_false h]; exact there_any d s w

theorem octets_abcd : Octets [97, 98, 99, 100] := by intro x hx; simp at hx; omega

theorem str_abcd : strOfNums [97, 98, 99, 100] = { data := #[97, 98, 99, 100] } := rfl

theorem read_rot (v : Value) (l : List Int) (d s : Int) (k : Nat) (c : Int) (w : World) (hd : 0 ≤ d ∧ d ≤ 255) (hs : 0 ≤ s ∧ s ≤ 255) (ho : Octets l) (hk : k < (cellOf d s l).length) (hc : 0 ≤ c ∧ c ≤ 255) (hne : (cellOf d s l).getD k 0 ≠ c) (h : Bs w v ((cellOf d s l).set k c)) :
    Calls Try.prog 94 #[v, .int .i64 d, .int .i64 s] w fun e w' => ∃ r, e = .returned (.tuple #[r, .int .i64 7]) ∧ Grow w w' :=
  (read_any v _ d s w h).mono fun e w' ⟨r, he, hb, hg⟩ => by
    rw [(read_turned hd hs ho hk hc hne d s).2] at he
    exact ⟨r, he, hg⟩

end Go.Proofs.Ytjggiameajndgac

/-
  What the program's Spare, Where and Block return; the reference's Spare on from 0. The program's make nothing.
-/
namespace Go.Proofs.Ytjggiameajndgac
open Go.RowKit

set_option maxRecDepth 20000 in
set_option maxHeartbeats 400000 in
theorem spare_any (s : Int) (w : World) (h0 : 0 ≤ s) (h1 : s ≤ 9223372036854775807) :
    Calls Try.prog 112 #[.int .i64 s] w fun e w' => e = .returned (.int .i64 (3 - s % 4)) ∧ w' = w := by
  go_enter Try.func112, Try.ntmps112
  go_wp2
  go_ret
  exact ⟨rfl, rfl⟩

set_option maxRecDepth 20000 in
set_option maxHeartbeats 400000 in
theorem spare_low (s : Int) (w : World) (h0 : 0 ≤ s) (h1 : s < 3) :
    Calls Try.prog 112 #[.int .i64 s] w fun e w' => e = .returned (.int .i64 (3 - s)) ∧ w' = w :=
  (spare_any s w h0 (by omega)).mono fun e w' ⟨he, hw⟩ => ⟨he.trans (ret_int (by omega)), hw⟩

set_option maxRecDepth 20000 in
set_option maxHeartbeats 400000 in
theorem refSpare_on (s : Int) (w : World) (h0 : 0 ≤ s) (h1 : s ≤ 9223372036854775807) :
    Calls Try.prog 87 #[.int .i64 s] w fun e w' => e = .returned (.int .i64 (3 - s % 4)) ∧ Grow w w' := by
  obtain h | h | h | h : s % 4 = 0 ∨ s % 4 = 1 ∨ s % 4 = 2 ∨ s % 4 = 3 := by omega
  all_goals
    rw [h]
    go_enter Try.func87, Try.ntmps87
    go_wp2
    go_ret
    exact ⟨rfl, Grow.alloc _ _⟩

set_option maxRecDepth 20000 in
set_option maxHeartbeats 1600000 in
theorem where_any (b : Int) (w : World) :
    Calls Try.prog 98 #[.int .i64 b] w fun e w' => e = .returned (.tuple #[.int .i64 (whereD b), .int .i64 (whereS b), .int .i64 (whereE b)]) ∧ w' = w := by
  by_cases hp : 0 ≤ b ∧ b < 9
  · obtain rfl | rfl | rfl | rfl | rfl | rfl | rfl | rfl | rfl : b = 0 ∨ b = 1 ∨ b = 2 ∨ b = 3 ∨ b = 4 ∨ b = 5 ∨ b = 6 ∨ b = 7 ∨ b = 8 := by omega
    all_goals
      go_enter Try.func98, Try.ntmps98
      go_wp2_with fail
      refine (spare_any _ _ (by omega) (by omega)).mono ?_
      rintro e w1 ⟨rfl, rfl⟩
      go_wp2_with fail
      go_ret3
      exact ⟨rfl, rfl⟩
  · have hw := where_out hp
    obtain ⟨h1, h2, h3⟩ := hw
    have hout : b < 0 ∨ (0 ≤ b ∧ 9 ≤ b) := by omega
    clear hp
    rcases hout with h | ⟨h, g⟩
    all_goals
      go_enter Try.func98, Try.ntmps98
      go_wp2
      go_ret3
      exact ⟨ret_int3 h1.symm h2.symm h3.symm, rfl⟩

set_option maxRecDepth 20000 in
set_option maxHeartbeats 1600000 in
theorem block_any (d s : Int) (w : World) :
    Calls Try.prog 119 #[.int .i64 d, .int .i64 s] w fun e w' => e = .returned (.tuple #[.int .i64 (blockN d s), .int .i64 (blockE d s)]) ∧ w' = w := by
  by_cases hp : 0 ≤ d ∧ d < 4 ∧ 0 ≤ s ∧ s < 3
  · have hT := fun w1 => there_yes d s w1 hp
    obtain ⟨hd0, hd1, hs0, hs1⟩ := hp
    obtain rfl | rfl | rfl | rfl : d = 0 ∨ d = 1 ∨ d = 2 ∨ d = 3 := by omega
    all_goals
      obtain rfl | rfl | rfl : s = 0 ∨ s = 1 ∨ s = 2 := by omega
      all_goals
        go_enter Try.func119, Try.ntmps119
        go_wp2_with fail
        refine (hT _).mono ?_
        rintro e w1 ⟨rfl, rfl⟩
        go_wp2_with fail
        refine (spare_any _ _ (by omega) (by omega)).mono ?_
        rintro e w1 ⟨rfl, rfl⟩
        go_wp2_with fail
        go_ret2
        exact ⟨rfl, rfl⟩
  · have HB : Hid (blockN d s = 0 ∧ blockE d s = 3) := by rw [Hid, blockN, blockE, if_neg hp, if_neg hp]; exact ⟨rfl, rfl⟩
    have hT := fun w1 => there_no d s w1 hp
    clear hp
    go_enter Try.func119, Try.ntmps119
    go_wp2_with fail
    refine (hT _).mono ?_
    rintro e w1 ⟨rfl, rfl⟩
    go_wp2_with fail
    go_ret2
    exact ⟨ret_int2 HB.out.1.symm HB.out.2.symm, rfl⟩

end Go.Proofs.Ytjggiameajndgac

/-
  Plain: deeds that name no block in common may change places; what is done twice.
-/
namespace Go.Proofs.Ytjggiameajndgac

/-- Does a deed name a block? -/
def namesB (x : DeedP) (n : Int) : Bool := decide (n = x.n ∨ (x.k = 2 ∧ n = x.m))

theorem getD_ext {a b : List (List Int)} (hl : a.length = b.length) (h : ∀ i, i < a.length → a.getD i [] = b.getD i []) : a = b := by
  refine List.ext_getElem hl fun i g1 g2 => ?_
  have := h i g1
  rw [List.getD_eq_getElem?_getD, List.getD_eq_getElem?_getD, List.getElem?_eq_getElem g1, List.getElem?_eq_getElem g2] at this
  exact this

theorem doL_at {ls : List (List Int)} {x : DeedP} {i : Nat} (h : i < ls.length) : (doL ls x).getD i [] = doAt ls x i := by
  simp [doL, List.getD_eq_getElem?_getD, h]

theorem doAt_free {ls : List (List Int)} {x : DeedP} {i : Nat} (h : namesB x i = false) : doAt ls x i = ls.getD i [] := by
  have h' : ¬ ((i : Int) = x.n ∨ (x.k = 2 ∧ (i : Int) = x.m)) := of_decide_eq_false h
  rw [doAt, if_neg (fun hc => h' (.inl hc.2)), if_neg (fun hc => h' (.inl hc.2)), if_neg (fun hc => h' (.inr hc))]

theorem named_n (x : DeedP) : namesB x x.n = true := by simp [namesB]
theorem named_m {x : DeedP} (h : x.k = 2) : namesB x x.m = true := by simp [namesB, h]

/-- What a deed makes of a block that it names hangs on those alone that it names. -/
theorem doAt_congr {ls ms : List (List Int)} {x : DeedP} (hr : wrongE x = 0) (h : ∀ j : Nat, j < 9 → namesB x j = true → ls.getD j [] = ms.getD j []) {i : Nat} (hi : i < 9) (hn : namesB x i = true) : doAt ls x i = doAt ms x i := by
  obtain ⟨hk, hn0, hn8, h1, h2⟩ := right_deed hr
  unfold doAt
  split
  · rfl
  split
  · rename_i hc
    have hm := whereE_zero (h2 hc.1).1
    refine h x.m.toNat (by omega) ?_
    rw [show ((x.m.toNat : Nat) : Int) = x.m from by omega]
    exact named_m hc.1
  split
  · refine h x.n.toNat (by omega) ?_
    rw [show ((x.n.toNat : Nat) : Int) = x.n from by omega]
    exact named_n x
  · exact h i hi hn

theorem do_apart {ls : List (List Int)} {a b : DeedP} (hl : ls.length = 9) (ha : wrongE a = 0) (hb : wrongE b = 0) (hap : ∀ n : Nat, n < 9 → ¬ (namesB a n = true ∧ namesB b n = true)) : doL (doL ls a) b = doL (doL ls b) a := by
  have hla : (doL ls a).length = 9 := by rw [doL_length, hl]
  have hlb : (doL ls b).length = 9 := by rw [doL_length, hl]
  have key : ∀ {x y : DeedP}, wrongE x = 0 → (∀ n : Nat, n < 9 → ¬ (namesB x n = true ∧ namesB y n = true)) → ∀ i : Nat, i < 9 → namesB y i = false → doAt (doL ls x) y i = doAt (doL ls y) x i := by
    intro x y hx hxy i hi hy
    rw [doAt_free hy, doL_at (by omega)]
    cases hxi : namesB x i with
    | true =>
      refine doAt_congr hx (fun j hj hxj => ?_) hi hxi
      rw [doL_at (by omega), doAt_free (x := y)]
      cases hyj : namesB y j with
      | false => rfl
      | true => exact absurd ⟨hxj, hyj⟩ (hxy j hj)
    | false => rw [doAt_free hxi, doAt_free hxi, doL_at (by omega), doAt_free hy]
  refine getD_ext (by simp only [doL_length]) fun i hi => ?_
  have hi9 : i < 9 := by simp only [doL_length, hl] at hi; exact hi
  rw [doL_at (by omega), doL_at (by omega)]
  cases hbi : namesB b i with
  | false => exact key ha hap i hi9 hbi
  | true =>
    have hai : namesB a i = false := by
      cases hai : namesB a i with
      | false => rfl
      | true => exact absurd ⟨hai, hbi⟩ (hap i hi9)
    exact (key hb (fun n hn hc => hap n hn ⟨hc.2, hc.1⟩) i hi9 hai).symm

theorem do_free {ls : List (List Int)} {a b : DeedP} (hl : ls.length = 9) {n : Nat} (hn : n < 9) (ha : namesB a n = false) (hb : namesB b n = false) : (doL (doL ls a) b).getD n [] = ls.getD n [] := by
  rw [doL_at (by rw [doL_length]; omega), doAt_free hb, doL_at (by omega), doAt_free ha]

/-- Two that change, and change again. -/
theorem do_swap_back {ls : List (List Int)} {x : DeedP} (hl : ls.length = 9) (hr : wrongE x = 0) (hk : x.k = 2) : doL (doL ls x) x = ls := by
  obtain ⟨-, hn0, hn8, -, h2⟩ := right_deed hr
  have hm := whereE_zero (h2 hk).1
  refine getD_ext (by rw [doL_length, doL_length]) fun i hi => ?_
  have hi9 : i < 9 := by rw [doL_length, doL_length, hl] at hi; exact hi
  rw [doL_at (by rw [doL_length]; omega)]
  have at_n : (doL ls x).getD x.n.toNat [] = ls.getD x.m.toNat [] := by rw [doL_at (by omega)]; exact doAt_n hk (by omega)
  have at_m : (doL ls x).getD x.m.toNat [] = ls.getD x.n.toNat [] := by
    rw [doL_at (by omega)]
    by_cases hnm : x.n = x.m
    · rw [doAt_n hk (by omega), hnm]
    · exact doAt_m hk (by omega) (by omega)
  by_cases hin : (i : Int) = x.n
  · rw [doAt_n hk hin, at_m, show x.n.toNat = i from by omega]
  · by_cases him : (i : Int) = x.m
    · rw [doAt_m hk hin him, at_n, show x.m.toNat = i from by omega]
    · rw [doAt_out hk hin him, doL_at (by omega), doAt_out hk hin him]

/-- What is written twice is as if it had been once. -/
theorem do_write_twice {ls : List (List Int)} {x : DeedP} (hl : ls.length = 9) (hk : x.k = 1) : doL (doL ls x) x = doL ls x := by
  refine getD_ext (by rw [doL_length]) fun i hi => ?_
  have hi9 : i < 9 := by rw [doL_length, doL_length, hl] at hi; exact hi
  rw [doL_at (by rw [doL_length]; omega)]
  by_cases hin : (i : Int) = x.n
  · rw [doAt_data hk hin, doL_at (by omega), doAt_data hk hin]
  · rw [doAt_old hk hin]

theorem do_write_at {ls : List (List Int)} {x : DeedP} (hl : ls.length = 9) (hr : wrongE x = 0) (hk : x.k = 1) : (doL ls x).getD x.n.toNat [] = x.d := by
  obtain ⟨-, hn0, hn8, -, -⟩ := right_deed hr
  rw [doL_at (by omega)]
  exact doAt_data hk (by omega)

theorem doL_four {ls : List (List Int)} {x : DeedP} (h4 : ∀ b ∈ ls, b.length = 4) (hl : ls.length = 9) (hr : wrongE x = 0) : ∀ b ∈ doL ls x, b.length = 4 := by
  obtain ⟨hk, hn0, hn8, h1, h2⟩ := right_deed hr
  have hg : ∀ k, k < 9 → (ls.getD k []).length = 4 := fun k hk => h4 _ (getD_mem (by omega))
  intro b hb
  simp only [doL, List.mem_map, List.mem_range] at hb
  obtain ⟨i, hi, rfl⟩ := hb
  unfold doAt
  split
  · rename_i h; exact (h1 h.1).2
  split
  · rename_i h
    have := whereE_zero (h2 h.1).1
    exact hg _ (by omega)
  split
  · exact hg _ (by omega)
  · exact hg _ (by omega)

end Go.Proofs.Ytjggiameajndgac

/-
  What the program's model.Wrong returns, by its parts. Nothing old turns.
-/
namespace Go.Proofs.Ytjggiameajndgac
open Go.RowKit

set_option maxRecDepth 20000 in
set_option maxHeartbeats 800000 in
theorem inOne_yes (n m : Int) (w : World) (h1 : whereE n = 0) (h2 : whereE m = 0) (h3 : whereS n = whereS m) :
    Calls Try.prog 106 #[.int .i64 n, .int .i64 m] w fun e w' => e = .returned (.bool true) ∧ w' = w := by
  have hN := fun w1 => where_any n w1
  have hM := fun w1 => where_any m w1
  rw [h1, h3] at hN
  rw [h2] at hM
  clear h1 h2 h3
  generalize whereS m = s at *
  generalize whereD m = d at *
  generalize whereD n = d' at *
  go_enter Try.func106, Try.ntmps106
  go_wp2_with fail
  refine (hN _).mono ?_
  rintro e w1 ⟨rfl, rfl⟩
  go_wp2_with fail
  refine (hM _).mono ?_
  rintro e w1 ⟨rfl, rfl⟩
  go_wp2
  go_ret
  exact ⟨rfl, rfl⟩

set_option maxRecDepth 20000 in
set_option maxHeartbeats 1600000 in
theorem inOne_no (n m : Int) (w : World) (h : ¬ (whereE n = 0 ∧ whereE m = 0 ∧ whereS n = whereS m)) :
    Calls Try.prog 106 #[.int .i64 n, .int .i64 m] w fun e w' => e = .returned (.bool false) ∧ w' = w := by
  have hN := fun w1 => where_any n w1
  have hM := fun w1 => where_any m w1
  generalize whereE n = en at *
  generalize whereE m = em at *
  generalize whereS n = s' at *
  generalize whereS m = s at *
  generalize whereD m = d at *
  generalize whereD n = d' at *
  by_cases h1 : en = 0
  · by_cases h2 : em = 0
    · have h3 : (s' == s) = false := by rw [beq_eq_false_iff_ne]; exact fun h3 => h ⟨h1, h2, h3⟩
      subst h1 h2
      clear h
      go_enter Try.func106, Try.ntmps106
      go_wp2_with fail
      refine (hN _).mono ?_
      rintro e w1 ⟨rfl, rfl⟩
      go_wp2_with fail
      refine (hM _).mono ?_
      rintro e w1 ⟨rfl, rfl⟩
      go_wp2
      go_ret
      exact ⟨rfl, rfl⟩
    · have h2' : (em == 0) = false := by simpa using h2
      subst h1
      clear h h2
      go_enter Try.func106, Try.ntmps106
      go_wp2_with fail
      refine (hN _).mono ?_
      rintro e w1 ⟨rfl, rfl⟩
      go_wp2_with fail
      refine (hM _).mono ?_
      rintro e w1 ⟨rfl, rfl⟩
      go_wp2
      go_ret
      exact ⟨rfl, rfl⟩
  · have h1' : (en == 0) = false := by simpa using h1
    clear h h1
    go_enter Try.func106, Try.ntmps106
    go_wp2_with fail
    refine (hN _).mono ?_
    rintro e w1 ⟨rfl, rfl⟩
    go_wp2_with fail
    refine (hM _).mono ?_
    rintro e w1 ⟨rfl, rfl⟩
    go_wp2
    go_ret
    exact ⟨rfl, rfl⟩

theorem whereE_in {n : Int} (h : 0 ≤ n ∧ n ≤ 8) : whereE n = 0 := by rw [whereE, if_pos (by omega)]
theorem whereE_out {n : Int} (h : n < 0 ∨ 8 < n) : whereE n = 3 := by rw [whereE, if_neg (by omega)]

set_option maxRecDepth 20000 in
set_option maxHeartbeats 1600000 in
theorem wrongWrite_any (v : Value) (x : DeedP) (w : World) (h : DeedV w v x) (hk : x.k = 1) :
    Calls Try.prog 91 #[v] w fun e w' => e = .returned (.int .i64 (wrongE x)) ∧ Grow w w' := by
  obtain ⟨dv, rfl, hb⟩ := h
  obtain ⟨ao, cap, rfl, h1, h2, -⟩ := hb
  unfold maxLen at h2
  have wn := w_n (x := x)
  have wm := w_m (x := x)
  have wl := w_len (x := x)
  have wo := w_ok (x := x)
  obtain ⟨k, n, m, d⟩ := x
  dsimp only at *
  subst hk
  generalize wrongE ⟨1, n, m, d⟩ = W at *
  generalize d.length = len at *
  have hgA : Grow w (w.alloc (.cells #[.int .i64 1, .int .i64 n, .int .i64 m, .slice ao len cap] 54)) := Grow.alloc _ _
  have hN := fun w1 => where_any n w1
  by_cases hn : 0 ≤ n ∧ n ≤ 8
  · rw [whereE_in hn] at hN
    by_cases hm : m = 0
    · subst hm
      by_cases hl : len = 4
      · have hW : W = 0 := wo rfl hn rfl hl
        subst hl hW
        clear wn wm wl wo hn
        go_enter Try.func91, Try.ntmps91
        go_wp2_with fail
        refine (hN _).mono ?_
        rintro e w1 ⟨rfl, rfl⟩
        go_wp2
        go_ret
        exact ⟨rfl, hgA⟩
      · have hW : W = 4 := wl rfl hn rfl hl
        have hl' : ¬ (len : Int) = 4 := by omega
        subst hW
        clear wn wm wl wo hn hl
        go_enter Try.func91, Try.ntmps91
        go_wp2_with fail
        refine (hN _).mono ?_
        rintro e w1 ⟨rfl, rfl⟩
        go_wp2
        go_ret
        exact ⟨rfl, hgA⟩
    · have hW : W = 3 := wm rfl hn hm
      subst hW
      clear wn wm wl wo hn
      go_enter Try.func91, Try.ntmps91
      go_wp2_with fail
      refine (hN _).mono ?_
      rintro e w1 ⟨rfl, rfl⟩
      go_wp2
      go_ret
      exact ⟨rfl, hgA⟩
  · rw [whereE_out (by omega)] at hN
    have hW : W = 3 := wn (.inl rfl) (by omega)
    subst hW
    clear wn wm wl wo hn
    go_enter Try.func91, Try.ntmps91
    go_wp2_with fail
    refine (hN _).mono ?_
    rintro e w1 ⟨rfl, rfl⟩
    go_wp2
    go_ret
    exact ⟨rfl, hgA⟩

set_option maxRecDepth 20000 in
set_option maxHeartbeats 1600000 in
theorem wrongSwap_any (v : Value) (x : DeedP) (w : World) (h : DeedV w v x) (hk : x.k = 2) :
    Calls Try.prog 92 #[v] w fun e w' => e = .returned (.int .i64 (wrongE x)) ∧ Grow w w' := by
  obtain ⟨dv, rfl, hb⟩ := h
  obtain ⟨ao, cap, rfl, h1, h2, -⟩ := hb
  unfold maxLen at h2
  have wn := w_n (x := x)
  have wa := w_at (x := x)
  have wu := w_much (x := x)
  have wp := w_ok2 (x := x)
  obtain ⟨k, n, m, d⟩ := x
  dsimp only at *
  subst hk
  generalize wrongE ⟨2, n, m, d⟩ = W at *
  generalize d.length = len at *
  have hgA : Grow w (w.alloc (.cells #[.int .i64 2, .int .i64 n, .int .i64 m, .slice ao len cap] 54)) := Grow.alloc _ _
  by_cases hn : whereE n = 0 ∧ whereE m = 0 ∧ whereS n = whereS m
  · have hI := fun w1 => inOne_yes n m w1 hn.1 hn.2.1 hn.2.2
    have hn8 : 0 ≤ n ∧ n ≤ 8 := by have := whereE_zero hn.1; omega
    have hnm : ¬ (whereE m ≠ 0 ∨ whereS n ≠ whereS m) := fun hc => by rcases hc with hc | hc; exact hc hn.2.1; exact hc hn.2.2
    by_cases hl : len = 0
    · have hW : W = 0 := wp rfl hn8 hnm hl
      subst hl hW
      clear wn wa wu wp hn hn8 hnm
      go_enter Try.func92, Try.ntmps92
      go_wp2_with fail
      refine (hI _).mono ?_
      rintro e w1 ⟨rfl, rfl⟩
      go_wp2
      go_ret
      exact ⟨rfl, hgA⟩
    · have hW : W = 4 := wu rfl hn8 hnm hl
      have hl' : ¬ (len : Int) = 0 := by omega
      subst hW
      clear wn wa wu wp hn hn8 hnm hl
      go_enter Try.func92, Try.ntmps92
      go_wp2_with fail
      refine (hI _).mono ?_
      rintro e w1 ⟨rfl, rfl⟩
      go_wp2
      go_ret
      exact ⟨rfl, hgA⟩
  · have hI := fun w1 => inOne_no n m w1 hn
    have hW : W = 3 := by
      by_cases h8 : 0 ≤ n ∧ n ≤ 8
      · refine wa rfl h8 ?_
        by_cases hm : whereE m = 0
        · exact .inr fun hs => hn ⟨whereE_in h8, hm, hs⟩
        · exact .inl hm
      · exact wn (.inr rfl) (by omega)
    subst hW
    clear wn wa wu wp hn
    go_enter Try.func92, Try.ntmps92
    go_wp2_with fail
    refine (hI _).mono ?_
    rintro e w1 ⟨rfl, rfl⟩
    go_wp2
    go_ret
    exact ⟨rfl, hgA⟩

set_option maxRecDepth 20000 in
set_option maxHeartbeats 1600000 in
theorem modelWrong_any (v : Value) (x : DeedP) (w : World) (h : DeedV w v x) : Calls Try.prog 68 #[v] w fun e w' => e = .returned (.int .i64 (wrongE x)) ∧ Grow w w' := by
  have hd := h
  obtain ⟨dv, rfl, hb⟩ := h
  obtain ⟨d1, d2, d3, rfl⟩ := hb.form
  have hg := Grow.alloc w (.cells #[.int .i64 x.k, .int .i64 x.n, .int .i64 x.m, .slice d1 d2 d3] 54)
  by_cases h1 : x.k = 1
  · have hW := wrongWrite_any _ x _ (hd.grow hg) h1
    clear hd hb
    generalize wrongE x = E at *
    rw [h1] at hW hg ⊢
    clear h1
    go_enter Try.func68, Try.ntmps68
    go_wp2_with fail
    refine hW.mono ?_
    rintro e w1 ⟨rfl, hg1⟩
    go_wp2
    go_ret
    exact ⟨rfl, hg.trans hg1⟩
  · by_cases h2 : x.k = 2
    · have hW := wrongSwap_any _ x _ (hd.grow hg) h2
      clear hd hb h1
      generalize wrongE x = E at *
      rw [h2] at hW hg ⊢
      clear h2
      go_enter Try.func68, Try.ntmps68
      go_wp2_with fail
      refine hW.mono ?_
      rintro e w1 ⟨rfl, hg1⟩
      go_wp2
      go_ret
      exact ⟨rfl, hg.trans hg1⟩
    · have hW : Hid (wrongE x = 1) := w_kind h1 h2
      go_enter Try.func68, Try.ntmps68
      go_wp2
      go_ret
      exact ⟨ret_int hW.out.symm, hg⟩

end Go.Proofs.Ytjggiameajndgac

/-
  What the program's model.Same returns, by slices.EqualFunc and bytes.Equal. Nothing old turns.
-/
namespace Go.Proofs.Ytjggiameajndgac
open Go.RowKit

set_option maxRecDepth 20000 in
set_option maxHeartbeats 800000 in
theorem bytesEqual_any (v u : Value) (a b : List Int) (w : World) (h : Bs w v a) (g : Bs w u b) :
    Calls Try.prog 122 #[v, u] w fun e w' => e = .returned (.bool (a == b)) ∧ Grow w w' := by
  have hc1 := run_convert_bs (P := Try.prog) 52 5 9 Try.underlying52 Try.underlying5 Try.underlying9 h
  have hc2 := run_convert_bs (P := Try.prog) 52 5 9 Try.underlying52 Try.underlying5 Try.underlying9 g
  have HB : Hid (((strOfNums a).toList == (strOfNums b).toList) = (a == b)) := str_beq h.octets g.octets
  clear h g
  go_enter Try.func122, Try.ntmps122
  go_wp2
  go_ret
  exact ⟨ret_bool HB.out, Grow.refl _⟩

set_option maxRecDepth 20000 in
set_option maxHeartbeats 1600000 in
theorem equalFunc_any (va vb : Value) (a b : List (List Int)) (w : World) (ha : Bss w va a) (hb : Bss w vb b) :
    Calls Try.prog 121 #[va, vb, .func (.func 122) #[] #[]] w fun e w' => e = .returned (.bool (a == b)) ∧ Grow w w' := by
  obtain ⟨aa, ca, rfl, h1, h2, h3, h4⟩ := ha
  obtain ⟨ab, cb, rfl, g1, g2, g3, g4⟩ := hb
  unfold maxLen at h2 g2
  by_cases hl : a.length = b.length
  · have HL : Hid (a.length = b.length) := hl
    rw [← hl] at g1 ⊢
    clear hl
    go_enter Try.func121, Try.ntmps121
    go_wp2
    go_loopw [17] (fun i wr => ∃ k : Nat, k ≤ a.length ∧ i = .int .i64 k ∧ Hid (∀ j, j < k → a.getD j [] = b.getD j []) ∧ Grow w wr) (fun i _ => a.length - (intOf i).toNat)
    case atStart => exact ⟨0, by omega, rfl, (fun j hj => by omega), Grow.refl _⟩
    case round =>
      obtain ⟨k, hk, rfl, HK, hgr⟩ := hrel
      by_cases hlt : k < a.length
      · obtain ⟨ba, offa, rfl, hca⟩ := h4 (by omega)
        obtain ⟨bb, offb, rfl, hcb⟩ := g4 (by have := HL.out; omega)
        obtain ⟨xa, cxa, hxa, hba⟩ := Sl.bytesAt hca hlt
        obtain ⟨xb, cxb, hxb, hbb⟩ := Sl.bytesAt hcb (k := k) (by have := HL.out; omega)
        have hxa' := hgr.at hxa
        have hxb' := hgr.at hxb
        have hE := bytesEqual_any _ _ _ _ _ (hba.grow hgr) (hbb.grow hgr)
        clear hca hcb h4 g4 hxa hxb hba hbb
        by_cases he : a.getD k [] = b.getD k []
        · have HK' : Hid (∀ j, j < k + 1 → a.getD j [] = b.getD j []) := fun j hj => by
            by_cases hjk : j = k
            · subst hjk; exact he
            · exact HK.out j (by omega)
          rw [show (a.getD k [] == b.getD k []) = true from by rw [he]; simp] at hE
          clear he
          generalize (a.getD k []).length = n at *
          generalize (b.getD k []).length = m at *
          go_wp2_with fail
          refine hE.mono ?_
          rintro e w1 ⟨rfl, hg1⟩
          go_wp2
          go_roundw
          case rel => first | exact ⟨k + 1, by omega, by go_num, HK', hgr.trans hg1⟩ | ((repeat apply Exists.intro); exact ⟨⟨k + 1, by omega, by go_num, HK', hgr.trans hg1⟩, rfl⟩)
          case measure => simp [intOf]; omega
        · have HE : Hid ((a == b) = false) := same_no he
          rw [show (a.getD k [] == b.getD k []) = false from by rw [beq_eq_false_iff_ne]; exact he] at hE
          clear he
          generalize (a.getD k []).length = n at *
          generalize (b.getD k []).length = m at *
          go_wp2_with fail
          refine hE.mono ?_
          rintro e w1 ⟨rfl, hg1⟩
          go_wp2
          go_ret
          exact ⟨ret_bool HE.out.symm, hgr.trans hg1⟩
      · have HE : Hid ((a == b) = true) := same_yes HL.out (fun j hj => HK.out j (by omega))
        go_wp2
        go_ret
        exact ⟨ret_bool HE.out.symm, hgr⟩
  · have HE : Hid ((a == b) = false) := same_len hl
    have hl' : ¬ (a.length : Int) = (b.length : Int) := by omega
    clear hl
    go_enter Try.func121, Try.ntmps121
    go_wp2
    go_ret
    exact ⟨ret_bool HE.out.symm, Grow.refl _⟩

set_option maxRecDepth 20000 in
theorem modelSame_any (v u : Value) (a b : List (List Int)) (w : World) (h : Bss w v a) (g : Bss w u b) (_ha : a.length = 9) (_hb : b.length = 9) :
    Calls Try.prog 118 #[v, u] w fun e w' => e = .returned (.bool (a == b)) ∧ Grow w w' := by
  obtain ⟨av, cv, rfl⟩ := Sl.form h
  obtain ⟨au, cu, rfl⟩ := Sl.form g
  have hcall := equalFunc_any _ _ _ _ w h g
  clear _ha _hb
  generalize a.length = n at *
  generalize b.length = m at *
  go_enter Try.func118, Try.ntmps118
  go_wp2_with fail
  refine hcall.mono ?_
  rintro e w1 ⟨rfl, hg1⟩
  go_wp2
  go_ret
  exact ⟨rfl, hg1⟩

end Go.Proofs.Ytjggiameajndgac

/-
  What the program's model.New and bytes.Clone return. Nothing old turns.
-/
namespace Go.Proofs.Ytjggiameajndgac
open Go.RowKit

/-- A row of nine, made. -/
def nines : Array Value := #[.slice none 0 0, .slice none 0 0, .slice none 0 0, .slice none 0 0, .slice none 0 0, .slice none 0 0, .slice none 0 0, .slice none 0 0, .slice none 0 0]

theorem Try.made9 (w : World) : (Instr.makeSlice 41 (.int .i64 9) (.int .i64 9)).run Try.prog w = .ok (.slice (some ⟨w.heap.size, 0, none⟩) 9 9) (w.alloc (.cells nines 52)) :=
  (run_make_row' (P := Try.prog) 41 52 (.slice none 0 0) 24 Try.underlying41 Try.infoS rfl .i64 .i64 9 (by decide) (by decide) w).trans (by rw [show madeCells #[.slice none 0 0] 9 = nines from Array.toList_inj.1 (toList_madeCells_one _ _)])

theorem Rowing.made9 (w : World) : Rowing Bs w.heap.size 52 (w.alloc (.cells nines 52)) (.slice (some ⟨w.heap.size, 0, none⟩) 9 9) (List.replicate 9 []) := by
  refine ⟨nines.toList, ⟨rfl, .inr ⟨w.heap.size, 9, nines, rfl, Nat.le_refl _, heap_alloc_new w _, Nat.le_refl _, by unfold maxLen; omega, rfl, rfl⟩⟩, rfl, fun i u x hu hx w' _ => ?_⟩
  have hu' : u = .slice none 0 0 := by
    have := List.mem_of_getElem? hu
    simpa [nines] using this
  have hx' : x = [] := by
    have := List.mem_of_getElem? hx
    simpa using this
  subst hu' hx'
  exact Bs.nil _

/-- The first k are filled. -/
def upTo (f : Nat → List Int) (k : Nat) : List (List Int) := (List.range 9).map fun i => if i < k then f i else []

theorem upTo_zero (f : Nat → List Int) : upTo f 0 = List.replicate 9 [] := by simp [upTo]; decide
theorem upTo_all (f : Nat → List Int) : upTo f 9 = (List.range 9).map f := List.map_congr_left fun _ hi => if_pos (List.mem_range.1 hi)
theorem upTo_length (f : Nat → List Int) (k : Nat) : (upTo f k).length = 9 := by simp [upTo]
theorem upTo_set (f : Nat → List Int) {k : Nat} (_h : k < 9) : (upTo f k).set k (f k) = upTo f (k + 1) := by
  refine List.ext_getElem (by simp [upTo]) fun i h1 h2 => ?_
  rw [List.getElem_set]
  simp only [upTo, List.getElem_map, List.getElem_range]
  by_cases hik : k = i
  · subst hik; rw [if_pos rfl, if_pos (by omega)]
  · rw [if_neg hik]
    by_cases hlt : i < k
    · rw [if_pos hlt, if_pos (by omega)]
    · rw [if_neg hlt, if_neg (by omega)]

set_option maxRecDepth 20000 in
set_option maxHeartbeats 800000 in
theorem modelNew_any (w : World) : Calls Try.prog 113 #[] w fun e w' => ∃ r, e = .returned r ∧ Bss w' r (List.replicate 9 nought) ∧ Grow w w' := by
  have hmk := Try.made9 w
  have hst : Hid (Rowing Bs w.heap.size 52 (w.alloc (.cells nines 52)) (.slice (some ⟨w.heap.size, 0, none⟩) 9 9) (upTo (fun _ => nought) 0)) := by rw [upTo_zero]; exact Rowing.made9 w
  have hend : Hid (upTo (fun _ => nought) 9 = List.replicate 9 nought) := by rw [Hid, upTo_all]; rfl
  go_enter Try.func113, Try.ntmps113
  go_wp2
  go_loopw [6] (fun i wr => ∃ k : Nat, k ≤ 9 ∧ i = .int .i64 k ∧ Hid (Rowing Bs w.heap.size 52 wr (.slice (some ⟨w.heap.size, 0, none⟩) 9 9) (upTo (fun _ => nought) k)) ∧ Grow w wr) (fun i _ => 9 - (intOf i).toNat)
  case atStart => exact ⟨0, by omega, rfl, hst, Grow.alloc _ _⟩
  case round =>
    obtain ⟨k, hk, rfl, HR, hgr⟩ := hrel
    clear hst hmk
    by_cases hlt : k < 9
    · have hmk := Try.made4 wr
      have hgA : Grow wr (wr.alloc (.cells #[.int .u8 0, .int .u8 0, .int .u8 0, .int .u8 0] 5)) := Grow.alloc _ _
      have hrow := HR.out.grow hgA
      have hb : w.heap.size < wr.heap.size := (HR.out.base _ rfl).2
      have hoff : Off Bs (some w.heap.size) (wr.alloc (.cells #[.int .u8 0, .int .u8 0, .int .u8 0, .int .u8 0] 5)) (.slice (some ⟨wr.heap.size, 0, none⟩) 4 4) nought := Off.row (l := nought) (heap_alloc_new wr _) rfl (by unfold maxLen; omega) nought_oct (fun e => by injection e with e; omega)
      obtain ⟨⟨u0, hu0⟩, hf0⟩ := hrow.at (k := k) (by rw [upTo_length]; exact hlt)
      have hpast := World.setCell_alloc_past (w := wr) (.cells #[.int .u8 0, .int .u8 0, .int .u8 0, .int .u8 0] 5) w.heap.size k (.slice (some ⟨wr.heap.size, 0, none⟩) 4 4) hb
      have hrow1 := hrow.stored k hoff
      have hg1 := (hgr.trans hgA).grown (grown_set (wr.alloc (.cells #[.int .u8 0, .int .u8 0, .int .u8 0, .int .u8 0] 5)) w.heap.size k (.slice (some ⟨wr.heap.size, 0, none⟩) 4 4)) (fun j hj => by cases hj; exact Nat.le_refl _)
      rw [upTo_set (fun _ => nought) hlt, hpast] at hrow1
      rw [hpast] at hg1
      have HR1 : Hid (Rowing Bs _ _ _ _ _) := hrow1
      clear hrow1 hpast
      clear HR hgA hrow hoff
      go_wp2
      go_roundw
      case rel => first | exact ⟨k + 1, by omega, by go_num, HR1, hg1⟩ | ((repeat apply Exists.intro); exact ⟨⟨k + 1, by omega, by go_num, HR1, hg1⟩, rfl⟩)
      case measure => simp [intOf]; omega
    · obtain rfl : k = 9 := by omega
      go_wp2
      go_ret
      exact ⟨_, rfl, by rw [← hend.out]; exact HR.out.done, hgr⟩

set_option maxRecDepth 20000 in
set_option maxHeartbeats 800000 in
theorem bytesClone_some (v : Value) (l : List Int) (w : World) (h : Bs w v l) (hp : 0 < l.length) (hm : l.length ≤ 1000) :
    Calls Try.prog 76 #[v] w fun e w' => ∃ r, e = .returned r ∧ (∀ g, (∀ k, g = some k → k < w.heap.size) → Off Bs g w' r l) ∧ Grow w w' := by
  obtain ⟨i0, hi, hz0, hz1, hz2⟩ := info_parts Try.infoB
  have hoc := h.octets
  obtain ⟨ao, cap, rfl, h1, h2, h3, h4, h5⟩ := h
  have hsrc := h5.src
  obtain ⟨b, off, rfl, hc⟩ := h5 hp
  have hsrc' := hsrc _ rfl
  unfold maxLen at h2
  have HO : Hid (∀ (v' : Value) w', w'.ownsRow w.heap.size 5 1 v' l.length (l.map (Value.int .u8)) → ∀ g : Option Nat, (∀ k, g = some k → k < w.heap.size) → Off Bs g w' v' l) := fun v' w' ho g hg => Off.own ho hoc hg
  have qT : ∀ (w : World) (a : Option Addr) (n c n' c' : Nat), (binOp .eql 52 (.slice a n c) (.slice none n' c')).run Try.prog w = .ok (.bool a.isNone) w := fun w a n c n' c' => Lib.run_eql_slice_nil w _ _ a n c n' c' Try.underlying52
  have hlm : (l.map (Value.int .u8)).length = l.length := by simp
  have hone := u8_oneCell l
  clear h5 hc hsrc hoc
  generalize l.map (Value.int .u8) = news at *
  have HLM : Hid (news.length = l.length) := hlm
  generalize l.length = n at *
  clear hlm
  go_enter Try.func76, Try.ntmps76
  go_wp2_with (first
    | (at_builtin; refine wpList_append_copy rfl (.tmp 5) (.tmp 6) 52 rfl 5 i0 (.int .u8 0) 1 Try.underlying52 hi hz0 hz1 hz2 rfl w.heap.size (heap_alloc_new w _) w (Grow.alloc _ _) (Nat.le_refl _) rfl ⟨b, off, none⟩ n cap news rfl HLM.out hsrc' hone hp (by omega) (by omega) ?_; rintro g1 cg w1 hown hg1 - - - -; have HX := HO.out _ _ hown; have HX' : Hid (_ ∧ _) := And.intro HX hg1; clear HX hown))
  go_wp2
  go_ret
  exact ⟨_, rfl, HX'.out.1, hg1⟩

end Go.Proofs.Ytjggiameajndgac

/-
  What the program's model.Do returns, by the closures that tell what each block is behind a deed. Nothing old turns.
-/
namespace Go.Proofs.Ytjggiameajndgac
open Go.RowKit

set_option maxRecDepth 20000 in
set_option maxHeartbeats 800000 in
theorem asItWas_any (n : Int) (L : Nat) (v : Value) (ls : List (List Int)) (w : World) (h : Bss w v ls) (hl : ls.length = 9) (h0 : 0 ≤ n) (h9 : n < 9) (hL : w.cell? ⟨L, 0, none⟩ = some v) :
    Calls Try.prog 107 #[.int .i64 n, .pointer (some ⟨L, 0, none⟩)] w fun e w' => ∃ r, e = .returned r ∧ Bs w r (ls.getD n.toNat []) ∧ w' = w := by
  obtain ⟨k, rfl⟩ := Int.eq_ofNat_of_zero_le h0
  obtain ⟨ao, cap, rfl, hc1, hc2⟩ := h.form'
  obtain ⟨b, off, u, rfl, hu, hr⟩ := h.elem (k := k) (by omega) []
  obtain ⟨x1, x2, x3, rfl⟩ := hr.form
  rw [hl] at hL hc1
  simp only [Int.toNat_natCast]
  clear h hl h0
  go_enter Try.func107, Try.ntmps107
  go_wp2
  go_ret
  exact ⟨_, rfl, hr, rfl⟩

/-- What a closure of the deed's has at hand: the deed in D, the blocks in L, the closure that tells them in A. -/
def Hand (D L A : Nat) (v d1 : Value) (x : DeedP) (w : World) : Prop :=
  w.cell? ⟨D, 1, none⟩ = some (.int .i64 x.n) ∧ w.cell? ⟨D, 2, none⟩ = some (.int .i64 x.m) ∧ w.cell? ⟨D, 3, none⟩ = some d1 ∧ w.cell? ⟨L, 0, none⟩ = some v ∧ w.cell? ⟨A, 0, none⟩ = some (.func (.func 107) #[] #[.pointer (some ⟨L, 0, none⟩)])

theorem Hand.grow {D L A : Nat} {v d1 : Value} {x : DeedP} {w w' : World} (h : Hand D L A v d1 x w) (hg : Grow w w') : Hand D L A v d1 x w' := ⟨hg.at h.1, hg.at h.2.1, hg.at h.2.2.1, hg.at h.2.2.2.1, hg.at h.2.2.2.2⟩

set_option maxRecDepth 20000 in
set_option maxHeartbeats 800000 in
theorem written_any (k : Nat) (D L A : Nat) (v d1 : Value) (x : DeedP) (ls : List (List Int)) (w : World) (hH : Hand D L A v d1 x w) (h : Bss w v ls) (hb : Bs w d1 x.d) (hl : ls.length = 9) (h9 : k < 9) (hk1 : x.k = 1) :
    Calls Try.prog 108 #[.int .i64 k, .pointer (some ⟨D, 0, none⟩), .pointer (some ⟨A, 0, none⟩)] w fun e w' => ∃ r, e = .returned r ∧ Bs w r (doAt ls x k) ∧ w' = w := by
  obtain ⟨c1, -, c3, c4, c5⟩ := hH
  by_cases hn : (k : Int) = x.n
  · rw [doAt_data hk1 hn]
    rw [← hn] at c1
    clear hn
    go_enter Try.func108, Try.ntmps108
    go_wp2
    go_ret
    exact ⟨_, rfl, hb, rfl⟩
  · rw [doAt_old hk1 hn]
    have hW := asItWas_any k L v ls w h hl (by omega) (by omega) c4
    simp only [Int.toNat_natCast] at hW
    have hn' : ((k : Int) == x.n) = false := by rw [beq_eq_false_iff_ne]; exact hn
    clear h hb
    go_enter Try.func108, Try.ntmps108
    go_wp2_with fail
    refine hW.mono ?_
    rintro e w1 ⟨r, rfl, hr, rfl⟩
    go_wp2
    go_ret
    exact ⟨_, rfl, hr, rfl⟩

set_option maxRecDepth 20000 in
set_option maxHeartbeats 1600000 in
theorem swapped_any (k : Nat) (D L A : Nat) (v d1 : Value) (x : DeedP) (ls : List (List Int)) (w : World) (hH : Hand D L A v d1 x w) (h : Bss w v ls) (hl : ls.length = 9) (h9 : k < 9) (hk2 : x.k = 2) (hr : wrongE x = 0) :
    Calls Try.prog 109 #[.int .i64 k, .pointer (some ⟨D, 0, none⟩), .pointer (some ⟨A, 0, none⟩)] w fun e w' => ∃ r, e = .returned r ∧ Bs w r (doAt ls x k) ∧ w' = w := by
  obtain ⟨c1, c2, -, c4, c5⟩ := hH
  obtain ⟨-, hn0, hn8, -, h2⟩ := right_deed hr
  have hm := whereE_zero (h2 hk2).1
  by_cases hn : (k : Int) = x.n
  · rw [doAt_n hk2 hn]
    have hW := asItWas_any x.m L v ls w h hl hm.1 hm.2 c4
    rw [← hn] at c1
    clear h hn h2
    go_enter Try.func109, Try.ntmps109
    go_wp2_with fail
    refine hW.mono ?_
    rintro e w1 ⟨r, rfl, hr, rfl⟩
    go_wp2
    go_ret
    exact ⟨_, rfl, hr, rfl⟩
  · have hn' : ((k : Int) == x.n) = false := by rw [beq_eq_false_iff_ne]; exact hn
    by_cases hkm : (k : Int) = x.m
    · rw [doAt_m hk2 hn hkm]
      have hW := asItWas_any x.n L v ls w h hl hn0 (by omega) c4
      rw [← hkm] at c2
      clear h hn h2 hkm hm
      go_enter Try.func109, Try.ntmps109
      go_wp2_with fail
      refine hW.mono ?_
      rintro e w1 ⟨r, rfl, hr, rfl⟩
      go_wp2
      go_ret
      exact ⟨_, rfl, hr, rfl⟩
    · rw [doAt_out hk2 hn hkm]
      have hm' : ((k : Int) == x.m) = false := by rw [beq_eq_false_iff_ne]; exact hkm
      have hW := asItWas_any k L v ls w h hl (by omega) (by omega) c4
      simp only [Int.toNat_natCast] at hW
      clear h hn h2 hkm hm
      go_enter Try.func109, Try.ntmps109
      go_wp2_with fail
      refine hW.mono ?_
      rintro e w1 ⟨r, rfl, hr, rfl⟩
      go_wp2
      go_ret
      exact ⟨_, rfl, hr, rfl⟩

/-- The closure that tells what a block is behind a right deed. -/
def afterV (x : DeedP) (D A : Nat) : Value := .func (.func (if x.k = 1 then 108 else 109)) #[] #[.pointer (some ⟨D, 0, none⟩), .pointer (some ⟨A, 0, none⟩)]

set_option maxRecDepth 20000 in
set_option maxHeartbeats 1600000 in
theorem behind_any (v dv : Value) (ls : List (List Int)) (x : DeedP) (w : World) (h : Bss w v ls) (hd : DeedV w dv x) (hl : ls.length = 9) (hr : wrongE x = 0) :
    Calls Try.prog 93 #[v, dv] w fun e w' => ∃ D L A d1, e = .returned (afterV x D A) ∧ Hand D L A v d1 x w' ∧ Bs w' d1 x.d ∧ Grow w w' := by
  have hd' := hd
  obtain ⟨dv, rfl, hb⟩ := hd
  obtain ⟨d1, d2, d3, rfl⟩ := hb.form
  obtain ⟨av, cv, rfl⟩ := Sl.form h
  obtain ⟨o1, ho1⟩ : ∃ o : Obj, o = .cells #[.slice av ls.length cv] 41 := ⟨_, rfl⟩
  obtain ⟨o2, ho2⟩ : ∃ o : Obj, o = .cells #[.int .i64 x.k, .int .i64 x.n, .int .i64 x.m, .slice d1 d2 d3] 54 := ⟨_, rfl⟩
  obtain ⟨o3, ho3⟩ : ∃ o : Obj, o = .cells #[.func (.func 107) #[] #[.pointer (some ⟨w.heap.size, 0, none⟩)]] 111 := ⟨_, rfl⟩
  obtain ⟨W, hW⟩ : ∃ W, W = ((w.alloc o1).alloc o2).alloc o3 := ⟨_, rfl⟩
  obtain ⟨H1, H2, H3⟩ := heap3 w o1 o2 o3
  rw [← hW] at H1 H2 H3
  have hgW : Grow w W := by rw [hW]; exact ((Grow.alloc _ _).trans (Grow.alloc _ _)).trans (Grow.alloc _ _)
  rw [ho1] at H1
  rw [ho2] at H2
  rw [ho3] at H3
  have k0 : W.cell? ⟨w.heap.size + 1, 0, none⟩ = some (.int .i64 x.k) := row_at H2 0 rfl
  have k1 : W.cell? ⟨w.heap.size + 1, 1, none⟩ = some (.int .i64 x.n) := row_at H2 1 rfl
  have k2 : W.cell? ⟨w.heap.size + 1, 2, none⟩ = some (.int .i64 x.m) := row_at H2 2 rfl
  have k3 : W.cell? ⟨w.heap.size + 1, 3, none⟩ = some (.slice d1 d2 d3) := row_at H2 3 rfl
  have kl : W.cell? ⟨w.heap.size, 0, none⟩ = some (.slice av ls.length cv) := row_at H1 0 rfl
  have HA : Hid (Hand (w.heap.size + 1) w.heap.size (w.heap.size + 1 + 1) (.slice av ls.length cv) (.slice d1 d2 d3) x W) := ⟨k1, k2, k3, kl, row_at H3 0 rfl⟩
  have hmw := fun w1 hg => modelWrong_any _ x w1 (hd'.grow (w' := w1) hg)
  rw [hr] at hmw
  rw [hl] at kl ho1 HA ⊢
  have HB : Hid (Bs W (.slice d1 d2 d3) x.d) := hb.grow hgW
  obtain ⟨hk, -⟩ := right_deed hr
  clear H1 H2 H3 h hd' hb hr k1 k2 k3
  have hmf : ∀ (fn : Fn) (first cap : Array Value) (w : World), (Instr.makeFunc fn first cap).run Try.prog w = .ok (.func fn first cap) w := fun _ _ _ _ => rfl
  subst ho1 ho2 ho3
  rcases hk with hk | hk
  · have HV : Hid (∀ D A, afterV x D A = .func (.func 108) #[] #[.pointer (some ⟨D, 0, none⟩), .pointer (some ⟨A, 0, none⟩)]) := fun D A => by rw [afterV, if_pos hk]
    rw [hk] at k0 hW hmw ⊢
    go_enter Try.func93, Try.ntmps93
    go_wp2_with fail
    rw [← hW]
    refine (hmw _ hgW).mono ?_
    rintro e w1 ⟨rfl, hg1⟩
    have c0 := hg1.at k0
    clear k0 kl hW
    go_wp2
    go_ret
    exact ⟨_, _, _, _, congrArg Ending.returned (HV.out _ _).symm, HA.out.grow hg1, HB.out.grow hg1, hgW.trans hg1⟩
  · have HV : Hid (∀ D A, afterV x D A = .func (.func 109) #[] #[.pointer (some ⟨D, 0, none⟩), .pointer (some ⟨A, 0, none⟩)]) := fun D A => by rw [afterV, if_neg (by omega)]
    rw [hk] at k0 hW hmw ⊢
    go_enter Try.func93, Try.ntmps93
    go_wp2_with fail
    rw [← hW]
    refine (hmw _ hgW).mono ?_
    rintro e w1 ⟨rfl, hg1⟩
    have c0 := hg1.at k0
    clear k0 kl hW
    go_wp2
    go_ret
    exact ⟨_, _, _, _, congrArg Ending.returned (HV.out _ _).symm, HA.out.grow hg1, HB.out.grow hg1, hgW.trans hg1⟩

set_option maxRecDepth 20000 in
set_option maxHeartbeats 3200000 in
theorem modelDo_any (v dv : Value) (ls : List (List Int)) (x : DeedP) (w : World) (h : Bss w v ls) (hd : DeedV w dv x) (hl : ls.length = 9) (h4 : ∀ b ∈ ls, b.length = 4) (hr : wrongE x = 0) :
    Calls Try.prog 69 #[v, dv] w fun e w' => ∃ r, e = .returned r ∧ Bss w' r (doL ls x) ∧ Grow w w' := by
  have hv := h
  have hd' := hd
  obtain ⟨dv, rfl, hb⟩ := hd
  obtain ⟨d1, d2, d3, rfl⟩ := hb.form
  obtain ⟨av, cv, rfl⟩ := Sl.form h
  have hg := Grow.alloc w (.cells #[.int .i64 x.k, .int .i64 x.n, .int .i64 x.m, .slice d1 d2 d3] 54)
  have hcall := behind_any _ _ ls x _ (h.grow hg) (hd'.grow hg) hl hr
  have hlen : ∀ k : Nat, k < 9 → (doAt ls x k).length = 4 := fun k hk => by
    rw [← doL_at (by omega)]
    exact doL_four h4 hl hr _ (getD_mem (by rw [doL_length]; omega))
  have hend : Hid (upTo (doAt ls x) 9 = doL ls x) := by rw [Hid, upTo_all, doL, hl]
  have hafter : ∀ (k D L A : Nat) (q : Value) (w1 : World), k < 9 → Grow w w1 → Hand D L A (.slice av ls.length cv) q x w1 → Bs w1 q x.d → (x.k = 1 → Calls Try.prog 108 #[.int .i64 k, .pointer (some ⟨D, 0, none⟩), .pointer (some ⟨A, 0, none⟩)] w1 fun e w' => ∃ r, e = .returned r ∧ Bs w1 r (doAt ls x k) ∧ w' = w1) ∧ (x.k = 2 → Calls Try.prog 109 #[.int .i64 k, .pointer (some ⟨D, 0, none⟩), .pointer (some ⟨A, 0, none⟩)] w1 fun e w' => ∃ r, e = .returned r ∧ Bs w1 r (doAt ls x k) ∧ w' = w1) := fun k D L A q w1 hk hg1 hH hq =>
    ⟨fun h1 => written_any k D L A _ q x ls w1 hH (hv.grow hg1) hq hl hk h1, fun h2 => swapped_any k D L A _ q x ls w1 hH (hv.grow hg1) hl hk h2 hr⟩
  obtain ⟨hk, -⟩ := right_deed hr
  rw [hl] at hcall hafter ⊢
  clear hl h hd' hb h4 hr hv
  have HF : Hid (_ ∧ _) := And.intro hafter hlen
  clear hafter hlen
  rcases hk with hk | hk
  all_goals
    generalize doAt ls x = da at *
    generalize doL ls x = dl at *
    rw [hk] at hcall hg ⊢
    have HK : Hid (x.k = _) := hk
    clear hk
    go_enter Try.func69, Try.ntmps69
    go_wp2_with fail
    refine hcall.mono ?_
    rintro e w1 ⟨D, L, A, q, rfl, hH, hq, hg1⟩
    clear hcall
    have hmk := Try.made9 w1
    have hst : Hid (Rowing Bs w1.heap.size 52 (w1.alloc (.cells nines 52)) (.slice (some ⟨w1.heap.size, 0, none⟩) 9 9) (upTo da 0)) := by rw [upTo_zero]; exact Rowing.made9 w1
    have hgw1 := hg.trans hg1
    first | rw [afterV, if_pos HK.out] | rw [afterV, if_neg (by rw [HK.out]; decide)]
    have HHD : Hid (Hand D L A (.slice av 9 cv) q x w1 ∧ Bs w1 q x.d) := ⟨hH, hq⟩
    clear hH hq
    go_wp2
    go_loopw [16] (fun i wr => ∃ k : Nat, k ≤ 9 ∧ i = .int .i64 k ∧ Hid (Rowing Bs w1.heap.size 52 wr (.slice (some ⟨w1.heap.size, 0, none⟩) 9 9) (upTo da k)) ∧ Grow w1 wr) (fun i _ => 9 - (intOf i).toNat)
    case atStart => exact ⟨0, by omega, rfl, hst, Grow.alloc _ _⟩
    case round =>
      obtain ⟨k, hk9, rfl, HR, hgr⟩ := hrel
      clear hst hmk
      by_cases hlt : k < 9
      · have hA := HF.out.1 k D L A q wr hlt (hgw1.trans hgr) (HHD.out.1.grow hgr) (HHD.out.2.grow hgr)
        first | have hA' := hA.1 HK.out | have hA' := hA.2 HK.out
        have hdk : Hid ((da k).length = 4) := HF.out.2 k hlt
        have hb : w1.heap.size < wr.heap.size := (HR.out.base _ rfl).2
        go_wp2_with fail
        refine hA'.mono ?_
        rintro e w2 ⟨r, rfl, hr, hw2⟩
        subst hw2
        go_wp2_with fail
        refine (bytesClone_some _ _ _ hr (by rw [hdk.out]; omega) (by rw [hdk.out]; omega)).mono ?_
        rintro e w3 ⟨r3, rfl, hoff3, hg3⟩
        have hrow := HR.out.grow hg3
        obtain ⟨⟨u0, hu0⟩, hf0⟩ := hrow.at (k := k) (by rw [upTo_length]; exact hlt)
        have hoff := hoff3 (some w1.heap.size) (fun j hj => by cases hj; exact hb)
        obtain ⟨y1, y2, y3, rfl⟩ := hoff.here.form
        have hrow1 := hrow.stored k hoff
        rw [upTo_set da hlt] at hrow1
        have hg4 := (hgr.trans hg3).grown (grown_set w3 w1.heap.size k (.slice y1 y2 y3)) (fun j hj => by cases hj; exact Nat.le_refl _)
        have HR1 : Hid (Rowing Bs _ _ _ _ _) := hrow1
        clear HR hrow hoff hoff3 hrow1 hA hA' hr
        go_wp2
        go_roundw
        case rel => first | exact ⟨k + 1, by omega, by go_num, HR1, hg4⟩ | ((repeat apply Exists.intro); exact ⟨⟨k + 1, by omega, by go_num, HR1, hg4⟩, rfl⟩)
        case measure => simp [intOf]; omega
      · obtain rfl : k = 9 := by omega
        go_wp2
        go_ret
        exact ⟨_, rfl, by rw [← hend.out]; exact HR.out.done, hgw1.trans hgr⟩

end Go.Proofs.Ytjggiameajndgac
