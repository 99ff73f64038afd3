/-
  What sum.Of and the reference's Sum return: the sum of the bytes that they are handed; nothing in memory turns.
-/
import Derived.Test.YtjggiameajndgabProg
import Derived.Test.YtjggiameajndgabBase
namespace Go.Proofs.Ytjggiameajndgab
open Go.RowKit

set_option maxRecDepth 20000 in
set_option maxHeartbeats 400000 in
theorem of_any (v : Value) (l : List Int) (w : World) (h : Bs w v l) :
    Calls Try.prog 94 #[v] w fun e w' => e = .returned (.int .i64 (sumOf l)) ∧ w' = w := by
  obtain ⟨ao, cap, rfl, h1, h2, h3, h4, h5⟩ := h
  unfold maxLen at h2
  go_enter Try.func94, Try.ntmps94
  go_wp2
  go_loop [3, 8] (fun s i => ∃ k : Nat, k ≤ l.length ∧ i = .int .i64 k ∧ s = .int .i64 (sumOf (l.take k))) (fun _ i => l.length - (intOf i).toNat)
  case atStart => exact ⟨0, Nat.zero_le _, rfl, rfl⟩
  case round =>
    obtain ⟨k, hk, rfl, rfl⟩ := hrel
    have hs := sumOf_bd (l.take k)
    have hx := getD_bd h4 k
    by_cases hlt : k < l.length
    · obtain ⟨b, off, rfl, hc⟩ := h5 (by omega)
      have hck := hc k hlt
      have HS : Hid (sumOf (l.take (k + 1)) = (sumOf (l.take k) * 151 + l.getD k 0 + 1) % 65521) := sumOf_take_succ l k hlt
      clear hc
      generalize l.getD k 0 = x at *
      go_wp2
      go_round
      case rel => exact ⟨k + 1, by omega, by go_num, by rw [HS.out]⟩
      case measure => simp [intOf]; omega
    · go_wp2
      go_ret
      exact ⟨ret_int (by rw [List.take_of_length_le (by omega)]), rfl⟩

set_option maxRecDepth 20000 in
set_option maxHeartbeats 400000 in
theorem refSum_any (v : Value) (l : List Int) (w : World) (h : Bs w v l) :
    Calls Try.prog 95 #[v] w fun e w' => e = .returned (.int .i64 (sumOf l)) ∧ w' = w := by
  obtain ⟨ao, cap, rfl, h1, h2, h3, h4, h5⟩ := h
  unfold maxLen at h2
  go_enter Try.func95, Try.ntmps95
  go_wp2
  go_loop [3, 7] (fun s i => ∃ k : Nat, k ≤ l.length ∧ i = .int .i64 k ∧ s = .int .i64 (sumOf (l.take k))) (fun _ i => l.length - (intOf i).toNat)
  case atStart => exact ⟨0, Nat.zero_le _, rfl, rfl⟩
  case round =>
    obtain ⟨k, hk, rfl, rfl⟩ := hrel
    have hs := sumOf_bd (l.take k)
    have hx := getD_bd h4 k
    by_cases hlt : k < l.length
    · obtain ⟨b, off, rfl, hc⟩ := h5 (by omega)
      have hck := hc k hlt
      have HS : Hid (sumOf (l.take (k + 1)) = (151 * sumOf (l.take k) + l.getD k 0 + 1) % 65521) := by rw [Hid, Int.mul_comm 151]; exact sumOf_take_succ l k hlt
      clear hc
      generalize l.getD k 0 = x at *
      go_wp2
      go_round
      case rel => exact ⟨k + 1, by omega, by go_num, by rw [HS.out]⟩
      case measure => simp [intOf]; omega
    · go_wp2
      go_ret
      exact ⟨ret_int (by rw [List.take_of_length_le (by omega)]), rfl⟩

end Go.Proofs.Ytjggiameajndgab
