/-
  What the reference's NewBlocks, RightBlocks, Wrong and Do return. Nothing old turns.
-/
import Derived.Test.YtjggiameajndgabDoorWalkRefModel
import Derived.Test.YtjggiameajndgabDoorInfos
namespace Go.Proofs.YtjggiameajndgabDoor
open Go.RowKit

/-- A block of noughts. -/
def nought : List Int := [0, 0, 0, 0]
theorem nought_oct : Octets nought := by intro x hx; simp [nought] at hx; omega

theorem replicate_push (k : Nat) (x : List Int) : List.replicate k x ++ [x] = List.replicate (k + 1) x := (List.replicate_succ').symm

/-- Blocks, all of them. -/
def rightBlocksB (ls : List (List Int)) : Bool := ls.all (fun b => b.length == 4) && decide (ls.length = 9)

theorem rb_no {ls : List (List Int)} {k : Nat} (hk : k < ls.length) (h : (ls.getD k []).length ≠ 4) : rightBlocksB ls = false := by
  rw [rightBlocksB, Bool.and_eq_false_iff]
  left
  rw [List.all_eq_false]
  exact ⟨ls.getD k [], by simp [List.getD_eq_getElem?_getD, hk], by simpa using h⟩

theorem rb_end {ls : List (List Int)} (h : ∀ k, k < ls.length → (ls.getD k []).length = 4) : rightBlocksB ls = decide (ls.length = 9) := by
  have : ls.all (fun b => b.length == 4) = true := by
    rw [List.all_eq_true]
    intro b hb
    obtain ⟨i, hi, rfl⟩ := List.mem_iff_getElem.1 hb
    have := h i hi
    simpa [List.getD_eq_getElem?_getD, hi] using this
  rw [rightBlocksB, this, Bool.true_and]

theorem rb_all {ls : List (List Int)} (h : rightBlocksB ls = true) : (∀ b ∈ ls, b.length = 4) ∧ ls.length = 9 := by
  simp [rightBlocksB] at h
  exact h

/-- A deed, as it lies. -/
def DeedV (w : World) (v : Value) (x : DeedP) : Prop := ∃ dv, v = .agg #[.int .i64 x.k, .int .i64 x.n, .int .i64 x.m, dv] ∧ Bs w dv x.d
theorem DeedV.grow {w w' : World} {v : Value} {x : DeedP} (h : DeedV w v x) (hg : Grow w w') : DeedV w' v x := by
  obtain ⟨dv, hv, hb⟩ := h
  exact ⟨dv, hv, hb.grow hg⟩

theorem w_kind {x : DeedP} (h : x.k ≠ 1) (h2 : x.k ≠ 2) : wrongE x = 1 := by rw [wrongE, if_pos ⟨h, h2⟩]
theorem w_n {x : DeedP} (h : x.k = 1 ∨ x.k = 2) (h2 : x.n < 0 ∨ 8 < x.n) : wrongE x = 3 := by rw [wrongE, if_neg (by omega), if_pos h2]
theorem w_m {x : DeedP} (h : x.k = 1) (h2 : 0 ≤ x.n ∧ x.n ≤ 8) (h3 : x.m ≠ 0) : wrongE x = 3 := by rw [wrongE, if_neg (by omega), if_neg (by omega), if_pos h, if_pos h3]
theorem w_len {x : DeedP} (h : x.k = 1) (h2 : 0 ≤ x.n ∧ x.n ≤ 8) (h3 : x.m = 0) (h4 : x.d.length ≠ 4) : wrongE x = 4 := by rw [wrongE, if_neg (by omega), if_neg (by omega), if_pos h, if_neg (by omega), if_pos h4]
theorem w_ok {x : DeedP} (h : x.k = 1) (h2 : 0 ≤ x.n ∧ x.n ≤ 8) (h3 : x.m = 0) (h4 : x.d.length = 4) : wrongE x = 0 := by rw [wrongE, if_neg (by omega), if_neg (by omega), if_pos h, if_neg (by omega), if_neg (by omega)]
theorem w_at {x : DeedP} (h : x.k = 2) (h2 : 0 ≤ x.n ∧ x.n ≤ 8) (h3 : whereE x.m ≠ 0 ∨ whereS x.n ≠ whereS x.m) : wrongE x = 3 := by rw [wrongE, if_neg (by omega), if_neg (by omega), if_neg (by omega), if_pos h3]
theorem w_much {x : DeedP} (h : x.k = 2) (h2 : 0 ≤ x.n ∧ x.n ≤ 8) (h3 : ¬ (whereE x.m ≠ 0 ∨ whereS x.n ≠ whereS x.m)) (h4 : x.d.length ≠ 0) : wrongE x = 4 := by rw [wrongE, if_neg (by omega), if_neg (by omega), if_neg (by omega), if_neg h3, if_pos h4]
theorem w_ok2 {x : DeedP} (h : x.k = 2) (h2 : 0 ≤ x.n ∧ x.n ≤ 8) (h3 : ¬ (whereE x.m ≠ 0 ∨ whereS x.n ≠ whereS x.m)) (h4 : x.d.length = 0) : wrongE x = 0 := by rw [wrongE, if_neg (by omega), if_neg (by omega), if_neg (by omega), if_neg h3, if_neg (by omega)]

set_option maxRecDepth 20000 in
set_option maxHeartbeats 1600000 in
theorem refWrong_any (v : Value) (x : DeedP) (w : World) (h : DeedV w v x) :
    Calls Tryd.prog 8 #[v] w fun e w' => e = .returned (.int .i64 (wrongE x)) ∧ Grow w w' := by
  obtain ⟨dv, rfl, hb⟩ := h
  obtain ⟨ao, cap, rfl, h1, h2, -⟩ := hb
  unfold maxLen at h2
  have wk := w_kind (x := x)
  have wn := w_n (x := x)
  have wm := w_m (x := x)
  have wl := w_len (x := x)
  have wo := w_ok (x := x)
  have wa := w_at (x := x)
  have wu := w_much (x := x)
  have wp := w_ok2 (x := x)
  obtain ⟨k, n, m, d⟩ := x
  dsimp only at *
  generalize wrongE ⟨k, n, m, d⟩ = W at *
  generalize d.length = len at *
  have hgA : Grow w (w.alloc (.cells #[.int .i64 k, .int .i64 n, .int .i64 m, .slice ao len cap] 24)) := Grow.alloc _ _
  by_cases k1 : k = 1
  · subst k1
    by_cases n0 : n < 0
    · have HW : Hid (W = 3) := wn (.inl rfl) (.inl n0)
      clear wk wn wm wl wo wa wu wp
      go_enter Tryd.func8, Tryd.ntmps8
      go_wp2
      go_ret
      exact ⟨ret_int HW.out.symm, hgA⟩
    by_cases n8 : 8 < n
    · have HW : Hid (W = 3) := wn (.inl rfl) (.inr n8)
      clear wk wn wm wl wo wa wu wp
      go_enter Tryd.func8, Tryd.ntmps8
      go_wp2
      go_ret
      exact ⟨ret_int HW.out.symm, hgA⟩
    by_cases m0 : m = 0
    · subst m0
      by_cases l4 : len = 4
      · subst l4
        have HW : Hid (W = 0) := wo rfl (by omega) rfl rfl
        clear wk wn wm wl wo wa wu wp
        go_enter Tryd.func8, Tryd.ntmps8
        go_wp2
        go_ret
        exact ⟨ret_int HW.out.symm, hgA⟩
      · have HW : Hid (W = 4) := wl rfl (by omega) rfl l4
        have l4' : ¬ (len : Int) = 4 := by omega
        clear wk wn wm wl wo wa wu wp
        go_enter Tryd.func8, Tryd.ntmps8
        go_wp2
        go_ret
        exact ⟨ret_int HW.out.symm, hgA⟩
    · have HW : Hid (W = 3) := wm rfl (by omega) m0
      clear wk wn wm wl wo wa wu wp
      go_enter Tryd.func8, Tryd.ntmps8
      go_wp2
      go_ret
      exact ⟨ret_int HW.out.symm, hgA⟩
  by_cases k2 : k = 2
  · subst k2
    by_cases n0 : n < 0
    · have HW : Hid (W = 3) := wn (.inr rfl) (.inl n0)
      clear wk wn wm wl wo wa wu wp
      go_enter Tryd.func8, Tryd.ntmps8
      go_wp2
      go_ret
      exact ⟨ret_int HW.out.symm, hgA⟩
    by_cases n8 : 8 < n
    · have HW : Hid (W = 3) := wn (.inr rfl) (.inr n8)
      clear wk wn wm wl wo wa wu wp
      go_enter Tryd.func8, Tryd.ntmps8
      go_wp2
      go_ret
      exact ⟨ret_int HW.out.symm, hgA⟩
    have wa' := wa rfl (by omega)
    have wu' := wu rfl (by omega)
    have wp' := wp rfl (by omega)
    clear wk wn wm wl wo wa wu wp
    have HF : Hid ((whereE m ≠ 0 ∨ whereS n ≠ whereS m → W = 3) ∧ (¬ (whereE m ≠ 0 ∨ whereS n ≠ whereS m) → len ≠ 0 → W = 4) ∧ (¬ (whereE m ≠ 0 ∨ whereS n ≠ whereS m) → len = 0 → W = 0)) := ⟨wa', wu', wp'⟩
    clear wa' wu' wp'
    go_enter Tryd.func8, Tryd.ntmps8
    go_wp2_with fail
    refine (refWhere_any _ _).mono ?_
    rintro e w1 ⟨rfl, hg1⟩
    have hcell := fun i : Nat => hg1.cell (p := ⟨w.heap.size, i, none⟩) (by simp)
    have c2 := (hcell 2).trans (show _ = some (Value.int .i64 m) by simp)
    have c3 := (hcell 3).trans (show _ = some (Value.slice ao len cap) by simp)
    clear hcell
    go_wp2_with fail
    refine (refWhere_any _ _).mono ?_
    rintro e w2 ⟨rfl, hg2⟩
    have hlt : w.heap.size < w1.heap.size := by have := hg1.size; simp at this; omega
    have c3' := (hg2.cell (p := ⟨w.heap.size, 3, none⟩) hlt).trans c3
    have hg := (hgA.trans hg1).trans hg2
    clear c2 c3 hg1 hg2
    generalize hE : whereE m = E at *
    generalize hA : whereS n = A at *
    generalize hB : whereS m = B at *
    clear hE hA hB
    by_cases e0 : E = 0
    · subst e0
      by_cases ab : A = B
      · subst ab
        by_cases l0 : len = 0
        · subst l0
          have HW : Hid (W = 0) := HF.out.2.2 (by simp) rfl
          clear HF
          go_wp2
          go_ret
          exact ⟨ret_int HW.out.symm, hg⟩
        · have HW : Hid (W = 4) := HF.out.2.1 (by simp) l0
          have l0' : ¬ (len : Int) = 0 := by omega
          clear HF
          go_wp2
          go_ret
          exact ⟨ret_int HW.out.symm, hg⟩
      · have HW : Hid (W = 3) := HF.out.1 (.inr ab)
        clear HF
        go_wp2
        go_ret
        exact ⟨ret_int HW.out.symm, hg⟩
    · have HW : Hid (W = 3) := HF.out.1 (.inl e0)
      clear HF
      go_wp2
      go_ret
      exact ⟨ret_int HW.out.symm, hg⟩
  · have HW : Hid (W = 1) := wk k1 k2
    have k1' : (k != 1) = true := by simpa using k1
    have k2' : (k != 2) = true := by simpa using k2
    clear wk wn wm wl wo wa wu wp
    go_enter Tryd.func8, Tryd.ntmps8
    go_wp2
    go_ret
    exact ⟨ret_int HW.out.symm, hgA⟩

end Go.Proofs.YtjggiameajndgabDoor
