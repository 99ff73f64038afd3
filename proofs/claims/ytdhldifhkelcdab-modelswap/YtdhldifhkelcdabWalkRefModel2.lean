/-
  What the reference's NewBlocks, RightBlocks, Wrong and Do return. Nothing old turns.
-/
import Derived.Test.YtdhldifhkelcdabWalkRefModel
import Derived.Test.YtdhldifhkelcdabInfos
namespace Go.Proofs.Ytdhldifhkelcdab
open Go.RowKit

/-- A block of noughts. -/
def nought : List Int := [0, 0, 0, 0]
theorem nought_oct : Octets nought := by intro x hx; simp [nought] at hx; omega

theorem replicate_push (k : Nat) (x : List Int) : List.replicate k x ++ [x] = List.replicate (k + 1) x := (List.replicate_succ').symm

/-- Blocks, all of them. -/
def rightBlocksB (ls : List (List Int)) : Bool := ls.all (fun b => b.length == 4) && decide (ls.length = 9)

theorem rb_no {ls : List (List Int)} {k : Nat} (hk : k < ls.length) (h : (ls.getD k []).length ≠ 4) : rightBlocksB ls = false := by
  rw [rightBlocksB, Bool.and_eq_false_iff]
  left
  rw [List.all_eq_false]
  exact ⟨ls.getD k [], by simp [List.getD_eq_getElem?_getD, hk], by simpa using h⟩

theorem rb_end {ls : List (List Int)} (h : ∀ k, k < ls.length → (ls.getD k []).length = 4) : rightBlocksB ls = decide (ls.length = 9) := by
  have : ls.all (fun b => b.length == 4) = true := by
    rw [List.all_eq_true]
    intro b hb
    obtain ⟨i, hi, rfl⟩ := List.mem_iff_getElem.1 hb
    have := h i hi
    simpa [List.getD_eq_getElem?_getD, hi] using this
  rw [rightBlocksB, this, Bool.true_and]

theorem rb_all {ls : List (List Int)} (h : rightBlocksB ls = true) : (∀ b ∈ ls, b.length = 4) ∧ ls.length = 9 := by
  simp [rightBlocksB] at h
  exact h

set_option maxRecDepth 20000 in
set_option maxHeartbeats 400000 in
theorem refRight_any (v : Value) (ls : List (List Int)) (w : World) (h : Bss w v ls) :
    Calls Try.prog 6 #[v] w fun e w' => e = .returned (.bool (rightBlocksB ls)) ∧ w' = w := by
  obtain ⟨ao, cap, rfl, h1, h2, h3, h4⟩ := h
  unfold maxLen at h2
  go_enter Try.func6, Try.ntmps6
  go_wp2
  go_loop [7] (fun i => ∃ k : Nat, k ≤ ls.length ∧ i = .int .i64 k ∧ Hid (∀ j, j < k → (ls.getD j []).length = 4)) (fun i => ls.length - (intOf i).toNat)
  case atStart => exact ⟨0, by omega, rfl, (fun j hj => by omega)⟩
  case round =>
    obtain ⟨k, hk, rfl, HK⟩ := hrel
    by_cases hlt : k < ls.length
    · obtain ⟨b, off, rfl, hc⟩ := h4 (by omega)
      obtain ⟨ak, ck, hck, hbk⟩ := Sl.bytesAt hc hlt
      have hn := hbk.len
      unfold maxLen at hn
      clear hc h4 hbk
      by_cases h0 : (ls.getD k []).length = 4
      · have HK' : Hid (∀ j, j < k + 1 → (ls.getD j []).length = 4) := fun j hj => by
          by_cases hjk : j = k
          · subst hjk; exact h0
          · exact HK.out j (by omega)
        rw [h0] at hck
        clear h0
        go_wp2
        go_round
        case rel => exact ⟨k + 1, by omega, by go_num, HK'⟩
        case measure => simp [intOf]; omega
      · have HE : Hid (rightBlocksB ls = false) := rb_no hlt h0
        generalize (ls.getD k []).length = n at *
        have h0' : ¬ (n : Int) = 4 := by omega
        go_wp2
        go_ret
        exact ⟨ret_bool HE.out.symm, rfl⟩
    · have HE : Hid (rightBlocksB ls = decide (ls.length = 9)) := rb_end fun j hj => HK.out j (by omega)
      go_wp2
      go_ret
      exact ⟨ret_bool (by rw [HE.out]; exact decide_eq_decide.2 (by omega)), rfl⟩

/-- A deed, as it lies. -/
def DeedV (w : World) (v : Value) (x : DeedP) : Prop := ∃ dv, v = .agg #[.int .i64 x.k, .int .i64 x.n, .int .i64 x.m, dv] ∧ Bs w dv x.d
theorem DeedV.grow {w w' : World} {v : Value} {x : DeedP} (h : DeedV w v x) (hg : Grow w w') : DeedV w' v x := by
  obtain ⟨dv, hv, hb⟩ := h
  exact ⟨dv, hv, hb.grow hg⟩

theorem w_kind {x : DeedP} (h : x.k ≠ 1) (h2 : x.k ≠ 2) : wrongE x = 1 := by rw [wrongE, if_pos ⟨h, h2⟩]
theorem w_n {x : DeedP} (h : x.k = 1 ∨ x.k = 2) (h2 : x.n < 0 ∨ 8 < x.n) : wrongE x = 3 := by rw [wrongE, if_neg (by omega), if_pos h2]
theorem w_m {x : DeedP} (h : x.k = 1) (h2 : 0 ≤ x.n ∧ x.n ≤ 8) (h3 : x.m ≠ 0) : wrongE x = 3 := by rw [wrongE, if_neg (by omega), if_neg (by omega), if_pos h, if_pos h3]
theorem w_len {x : DeedP} (h : x.k = 1) (h2 : 0 ≤ x.n ∧ x.n ≤ 8) (h3 : x.m = 0) (h4 : x.d.length ≠ 4) : wrongE x = 4 := by rw [wrongE, if_neg (by omega), if_neg (by omega), if_pos h, if_neg (by omega), if_pos h4]
theorem w_ok {x : DeedP} (h : x.k = 1) (h2 : 0 ≤ x.n ∧ x.n ≤ 8) (h3 : x.m = 0) (h4 : x.d.length = 4) : wrongE x = 0 := by rw [wrongE, if_neg (by omega), if_neg (by omega), if_pos h, if_neg (by omega), if_neg (by omega)]
theorem w_at {x : DeedP} (h : x.k = 2) (h2 : 0 ≤ x.n ∧ x.n ≤ 8) (h3 : whereE x.m ≠ 0 ∨ whereS x.n ≠ whereS x.m) : wrongE x = 3 := by rw [wrongE, if_neg (by omega), if_neg (by omega), if_neg (by omega), if_pos h3]
theorem w_much {x : DeedP} (h : x.k = 2) (h2 : 0 ≤ x.n ∧ x.n ≤ 8) (h3 : ¬ (whereE x.m ≠ 0 ∨ whereS x.n ≠ whereS x.m)) (h4 : x.d.length ≠ 0) : wrongE x = 4 := by rw [wrongE, if_neg (by omega), if_neg (by omega), if_neg (by omega), if_neg h3, if_pos h4]
theorem w_ok2 {x : DeedP} (h : x.k = 2) (h2 : 0 ≤ x.n ∧ x.n ≤ 8) (h3 : ¬ (whereE x.m ≠ 0 ∨ whereS x.n ≠ whereS x.m)) (h4 : x.d.length = 0) : wrongE x = 0 := by rw [wrongE, if_neg (by omega), if_neg (by omega), if_neg (by omega), if_neg h3, if_neg (by omega)]

end Go.Proofs.Ytdhldifhkelcdab
