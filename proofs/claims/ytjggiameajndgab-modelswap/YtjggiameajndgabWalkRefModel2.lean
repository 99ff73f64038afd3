/-
  What the reference's NewBlocks, RightBlocks, Wrong and Do return. Nothing old turns.
-/
import Derived.Test.YtjggiameajndgabWalkRefModel
import Derived.Test.YtjggiameajndgabInfos
namespace Go.Proofs.Ytjggiameajndgab
open Go.RowKit

/-- A block of noughts. -/
def nought : List Int := [0, 0, 0, 0]
theorem nought_oct : Octets nought := by intro x hx; simp [nought] at hx; omega

theorem replicate_push (k : Nat) (x : List Int) : List.replicate k x ++ [x] = List.replicate (k + 1) x := (List.replicate_succ').symm

set_option maxRecDepth 20000 in
set_option maxHeartbeats 800000 in
theorem refNew_any (w : World) :
    Calls Try.prog 75 #[] w fun e w' => ∃ r, e = .returned r ∧ Rowing Bs w.heap.size 23 w' r (List.replicate 9 nought) ∧ Grow w w' := by
  obtain ⟨i0, hi, hz0, hz1, hz2⟩ := info_parts Try.infoS
  go_enter Try.func75, Try.ntmps75
  go_wp2
  go_loopw [1, 2] (fun v i wr => ∃ k : Nat, k ≤ 9 ∧ i = .int .i64 k ∧ Hid (Rowing Bs w.heap.size 23 wr v (List.replicate k nought)) ∧ Grow w wr) (fun _ i _ => 9 - (intOf i).toNat)
  case atStart => exact ⟨0, by omega, rfl, Rowing.nil _ _ _ _, Grow.refl _⟩
  case round =>
    obtain ⟨k, hk, rfl, HR, hgr⟩ := hrel
    by_cases hlt : k < 9
    · have hgA : Grow wr (wr.alloc (.cells #[.int .u8 0, .int .u8 0, .int .u8 0, .int .u8 0] 5)) := Grow.alloc _ _
      have hrow := HR.out.grow hgA
      have hoff : Off Bs u1.ownBlock (wr.alloc (.cells #[.int .u8 0, .int .u8 0, .int .u8 0, .int .u8 0] 5)) (.slice (some ⟨wr.heap.size, 0, none⟩) 4 4) nought := Off.row (l := nought) (heap_alloc_new wr _) rfl (by unfold maxLen; omega) nought_oct (fun e => by have := (HR.out.base _ e).2; omega)
      have hg1 := hgr.trans hgA
      clear HR hgA
      go_wp2_with (first
        | (at_builtin; refine wpList_push rfl (.tmp 4) (.tmp 6) 22 rfl i0 (.slice none 0 0) 24 Try.underlying22 hi hz0 hz1 hz2 rfl w hg1 rfl rfl hrow rfl hoff (wr.heap.size + 1) (by simp) rfl (by rw [List.length_replicate]; omega) (by rw [List.length_replicate]; omega) ?_; rintro v1 w1 - hrow1 hg2))
      rw [replicate_push] at hrow1
      go_wp2
      go_roundw
      case rel => first | exact ⟨k + 1, by omega, by go_num, hrow1, hg2⟩ | ((repeat apply Exists.intro); exact ⟨⟨k + 1, by omega, by go_num, hrow1, hg2⟩, rfl⟩)
      case measure => simp [intOf]; omega
    · obtain rfl : k = 9 := by omega
      go_wp2
      go_ret
      exact ⟨_, rfl, HR.out, hgr⟩

/-- Blocks, all of them. -/
def rightBlocksB (ls : List (List Int)) : Bool := ls.all (fun b => b.length == 4) && decide (ls.length = 9)

theorem rb_no {ls : List (List Int)} {k : Nat} (hk : k < ls.length) (h : (ls.getD k []).length ≠ 4) : rightBlocksB ls = false := by
  rw [rightBlocksB, Bool.and_eq_false_iff]
  left
  rw [List.all_eq_false]
  exact ⟨ls.getD k [], by simp [List.getD_eq_getElem?_getD, hk], by simpa using h⟩

theorem rb_end {ls : List (List Int)} (h : ∀ k, k < ls.length → (ls.getD k []).length = 4) : rightBlocksB ls = decide (ls.length = 9) := by
  have : ls.all (fun b => b.length == 4) = true := by
    rw [List.all_eq_true]
    intro b hb
    obtain ⟨i, hi, rfl⟩ := List.mem_iff_getElem.1 hb
    have := h i hi
    simpa [List.getD_eq_getElem?_getD, hi] using this
  rw [rightBlocksB, this, Bool.true_and]

theorem rb_all {ls : List (List Int)} (h : rightBlocksB ls = true) : (∀ b ∈ ls, b.length = 4) ∧ ls.length = 9 := by
  simp [rightBlocksB] at h
  exact h

set_option maxRecDepth 20000 in
set_option maxHeartbeats 400000 in
theorem refRight_any (v : Value) (ls : List (List Int)) (w : World) (h : Bss w v ls) :
    Calls Try.prog 14 #[v] w fun e w' => e = .returned (.bool (rightBlocksB ls)) ∧ w' = w := by
  obtain ⟨ao, cap, rfl, h1, h2, h3, h4⟩ := h
  unfold maxLen at h2
  go_enter Try.func14, Try.ntmps14
  go_wp2
  go_loop [7] (fun i => ∃ k : Nat, k ≤ ls.length ∧ i = .int .i64 k ∧ Hid (∀ j, j < k → (ls.getD j []).length = 4)) (fun i => ls.length - (intOf i).toNat)
  case atStart => exact ⟨0, by omega, rfl, (fun j hj => by omega)⟩
  case round =>
    obtain ⟨k, hk, rfl, HK⟩ := hrel
    by_cases hlt : k < ls.length
    · obtain ⟨b, off, rfl, hc⟩ := h4 (by omega)
      obtain ⟨ak, ck, hck, hbk⟩ := Sl.bytesAt hc hlt
      have hn := hbk.len
      unfold maxLen at hn
      clear hc h4 hbk
      by_cases h0 : (ls.getD k []).length = 4
      · have HK' : Hid (∀ j, j < k + 1 → (ls.getD j []).length = 4) := fun j hj => by
          by_cases hjk : j = k
          · subst hjk; exact h0
          · exact HK.out j (by omega)
        rw [h0] at hck
        clear h0
        go_wp2
        go_round
        case rel => exact ⟨k + 1, by omega, by go_num, HK'⟩
        case measure => simp [intOf]; omega
      · have HE : Hid (rightBlocksB ls = false) := rb_no hlt h0
        generalize (ls.getD k []).length = n at *
        have h0' : ¬ (n : Int) = 4 := by omega
        go_wp2
        go_ret
        exact ⟨ret_bool HE.out.symm, rfl⟩
    · have HE : Hid (rightBlocksB ls = decide (ls.length = 9)) := rb_end fun j hj => HK.out j (by omega)
      go_wp2
      go_ret
      exact ⟨ret_bool (by rw [HE.out]; exact decide_eq_decide.2 (by omega)), rfl⟩

/-- A deed, as it lies. -/
def DeedV (w : World) (v : Value) (x : DeedP) : Prop := ∃ dv, v = .agg #[.int .i64 x.k, .int .i64 x.n, .int .i64 x.m, dv] ∧ Bs w dv x.d
theorem DeedV.grow {w w' : World} {v : Value} {x : DeedP} (h : DeedV w v x) (hg : Grow w w') : DeedV w' v x := by
  obtain ⟨dv, hv, hb⟩ := h
  exact ⟨dv, hv, hb.grow hg⟩

theorem w_kind {x : DeedP} (h : x.k ≠ 1) (h2 : x.k ≠ 2) : wrongE x = 1 := by rw [wrongE, if_pos ⟨h, h2⟩]
theorem w_n {x : DeedP} (h : x.k = 1 ∨ x.k = 2) (h2 : x.n < 0 ∨ 8 < x.n) : wrongE x = 3 := by rw [wrongE, if_neg (by omega), if_pos h2]
theorem w_m {x : DeedP} (h : x.k = 1) (h2 : 0 ≤ x.n ∧ x.n ≤ 8) (h3 : x.m ≠ 0) : wrongE x = 3 := by rw [wrongE, if_neg (by omega), if_neg (by omega), if_pos h, if_pos h3]
theorem w_len {x : DeedP} (h : x.k = 1) (h2 : 0 ≤ x.n ∧ x.n ≤ 8) (h3 : x.m = 0) (h4 : x.d.length ≠ 4) : wrongE x = 4 := by rw [wrongE, if_neg (by omega), if_neg (by omega), if_pos h, if_neg (by omega), if_pos h4]
theorem w_ok {x : DeedP} (h : x.k = 1) (h2 : 0 ≤ x.n ∧ x.n ≤ 8) (h3 : x.m = 0) (h4 : x.d.length = 4) : wrongE x = 0 := by rw [wrongE, if_neg (by omega), if_neg (by omega), if_pos h, if_neg (by omega), if_neg (by omega)]
theorem w_at {x : DeedP} (h : x.k = 2) (h2 : 0 ≤ x.n ∧ x.n ≤ 8) (h3 : whereE x.m ≠ 0 ∨ whereS x.n ≠ whereS x.m) : wrongE x = 3 := by rw [wrongE, if_neg (by omega), if_neg (by omega), if_neg (by omega), if_pos h3]
theorem w_much {x : DeedP} (h : x.k = 2) (h2 : 0 ≤ x.n ∧ x.n ≤ 8) (h3 : ¬ (whereE x.m ≠ 0 ∨ whereS x.n ≠ whereS x.m)) (h4 : x.d.length ≠ 0) : wrongE x = 4 := by rw [wrongE, if_neg (by omega), if_neg (by omega), if_neg (by omega), if_neg h3, if_pos h4]
theorem w_ok2 {x : DeedP} (h : x.k = 2) (h2 : 0 ≤ x.n ∧ x.n ≤ 8) (h3 : ¬ (whereE x.m ≠ 0 ∨ whereS x.n ≠ whereS x.m)) (h4 : x.d.length = 0) : wrongE x = 0 := by rw [wrongE, if_neg (by omega), if_neg (by omega), if_neg (by omega), if_neg h3, if_neg (by omega)]

set_option maxRecDepth 20000 in
set_option maxHeartbeats 1600000 in
theorem refWrong_any (v : Value) (x : DeedP) (w : World) (h : DeedV w v x) :
    Calls Try.prog 49 #[v] w fun e w' => e = .returned (.int .i64 (wrongE x)) ∧ Grow w w' := by
  obtain ⟨dv, rfl, hb⟩ := h
  obtain ⟨ao, cap, rfl, h1, h2, -⟩ := hb
  unfold maxLen at h2
  have wk := w_kind (x := x)
  have wn := w_n (x := x)
  have wm := w_m (x := x)
  have wl := w_len (x := x)
  have wo := w_ok (x := x)
  have wa := w_at (x := x)
  have wu := w_much (x := x)
  have wp := w_ok2 (x := x)
  obtain ⟨k, n, m, d⟩ := x
  dsimp only at *
  generalize wrongE ⟨k, n, m, d⟩ = W at *
  generalize d.length = len at *
  have hgA : Grow w (w.alloc (.cells #[.int .i64 k, .int .i64 n, .int .i64 m, .slice ao len cap] 25)) := Grow.alloc _ _
  by_cases k1 : k = 1
  · subst k1
    by_cases n0 : n < 0
    · have HW : Hid (W = 3) := wn (.inl rfl) (.inl n0)
      clear wk wn wm wl wo wa wu wp
      go_enter Try.func49, Try.ntmps49
      go_wp2
      go_ret
      exact ⟨ret_int HW.out.symm, hgA⟩
    by_cases n8 : 8 < n
    · have HW : Hid (W = 3) := wn (.inl rfl) (.inr n8)
      clear wk wn wm wl wo wa wu wp
      go_enter Try.func49, Try.ntmps49
      go_wp2
      go_ret
      exact ⟨ret_int HW.out.symm, hgA⟩
    by_cases m0 : m = 0
    · subst m0
      by_cases l4 : len = 4
      · subst l4
        have HW : Hid (W = 0) := wo rfl (by omega) rfl rfl
        clear wk wn wm wl wo wa wu wp
        go_enter Try.func49, Try.ntmps49
        go_wp2
        go_ret
        exact ⟨ret_int HW.out.symm, hgA⟩
      · have HW : Hid (W = 4) := wl rfl (by omega) rfl l4
        have l4' : ¬ (len : Int) = 4 := by omega
        clear wk wn wm wl wo wa wu wp
        go_enter Try.func49, Try.ntmps49
        go_wp2
        go_ret
        exact ⟨ret_int HW.out.symm, hgA⟩
    · have HW : Hid (W = 3) := wm rfl (by omega) m0
      clear wk wn wm wl wo wa wu wp
      go_enter Try.func49, Try.ntmps49
      go_wp2
      go_ret
      exact ⟨ret_int HW.out.symm, hgA⟩
  by_cases k2 : k = 2
  · subst k2
    by_cases n0 : n < 0
    · have HW : Hid (W = 3) := wn (.inr rfl) (.inl n0)
      clear wk wn wm wl wo wa wu wp
      go_enter Try.func49, Try.ntmps49
      go_wp2
      go_ret
      exact ⟨ret_int HW.out.symm, hgA⟩
    by_cases n8 : 8 < n
    · have HW : Hid (W = 3) := wn (.inr rfl) (.inr n8)
      clear wk wn wm wl wo wa wu wp
      go_enter Try.func49, Try.ntmps49
      go_wp2
      go_ret
      exact ⟨ret_int HW.out.symm, hgA⟩
    have wa' := wa rfl (by omega)
    have wu' := wu rfl (by omega)
    have wp' := wp rfl (by omega)
    clear wk wn wm wl wo wa wu wp
    have HF : Hid ((whereE m ≠ 0 ∨ whereS n ≠ whereS m → W = 3) ∧ (¬ (whereE m ≠ 0 ∨ whereS n ≠ whereS m) → len ≠ 0 → W = 4) ∧ (¬ (whereE m ≠ 0 ∨ whereS n ≠ whereS m) → len = 0 → W = 0)) := ⟨wa', wu', wp'⟩
    clear wa' wu' wp'
    go_enter Try.func49, Try.ntmps49
    go_wp2_with fail
    refine (refWhere_any _ _).mono ?_
    rintro e w1 ⟨rfl, hg1⟩
    have hcell := fun i : Nat => hg1.cell (p := ⟨w.heap.size, i, none⟩) (by simp)
    have c2 := (hcell 2).trans (show _ = some (Value.int .i64 m) by simp)
    have c3 := (hcell 3).trans (show _ = some (Value.slice ao len cap) by simp)
    clear hcell
    go_wp2_with fail
    refine (refWhere_any _ _).mono ?_
    rintro e w2 ⟨rfl, hg2⟩
    have hlt : w.heap.size < w1.heap.size := by have := hg1.size; simp at this; omega
    have c3' := (hg2.cell (p := ⟨w.heap.size, 3, none⟩) hlt).trans c3
    have hg := (hgA.trans hg1).trans hg2
    clear c2 c3 hg1 hg2
    generalize hE : whereE m = E at *
    generalize hA : whereS n = A at *
    generalize hB : whereS m = B at *
    clear hE hA hB
    by_cases e0 : E = 0
    · subst e0
      by_cases ab : A = B
      · subst ab
        by_cases l0 : len = 0
        · subst l0
          have HW : Hid (W = 0) := HF.out.2.2 (by simp) rfl
          clear HF
          go_wp2
          go_ret
          exact ⟨ret_int HW.out.symm, hg⟩
        · have HW : Hid (W = 4) := HF.out.2.1 (by simp) l0
          have l0' : ¬ (len : Int) = 0 := by omega
          clear HF
          go_wp2
          go_ret
          exact ⟨ret_int HW.out.symm, hg⟩
      · have HW : Hid (W = 3) := HF.out.1 (.inr ab)
        clear HF
        go_wp2
        go_ret
        exact ⟨ret_int HW.out.symm, hg⟩
    · have HW : Hid (W = 3) := HF.out.1 (.inl e0)
      clear HF
      go_wp2
      go_ret
      exact ⟨ret_int HW.out.symm, hg⟩
  · have HW : Hid (W = 1) := wk k1 k2
    have k1' : (k != 1) = true := by simpa using k1
    have k2' : (k != 2) = true := by simpa using k2
    clear wk wn wm wl wo wa wu wp
    go_enter Try.func49, Try.ntmps49
    go_wp2
    go_ret
    exact ⟨ret_int HW.out.symm, hgA⟩

end Go.Proofs.Ytjggiameajndgab
