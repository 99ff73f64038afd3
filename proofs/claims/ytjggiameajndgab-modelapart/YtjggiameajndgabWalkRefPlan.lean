/-
  What the reference's Spare, Where and Block return: they make memory, and nothing old turns.
-/
import Derived.Test.YtjggiameajndgabProg
import Derived.Test.YtjggiameajndgabCellMath
import Derived.Test.YtjggiameajndgabGrow
namespace Go.Proofs.Ytjggiameajndgab
open Go.RowKit

theorem ret_int3 {k k2 k3 : IntKind} {a b a2 b2 a3 b3 : Int} (h : a = b) (h2 : a2 = b2) (h3 : a3 = b3) : Ending.returned (.tuple #[.int k a, .int k2 a2, .int k3 a3]) = .returned (.tuple #[.int k b, .int k2 b2, .int k3 b3]) := by rw [h, h2, h3]

set_option maxRecDepth 20000 in
set_option maxHeartbeats 400000 in
theorem refSpare_any (s : Int) (w : World) (h0 : 0 ≤ s) (h1 : s < 3) :
    Calls Try.prog 76 #[.int .i64 s] w fun e w' => e = .returned (.int .i64 (3 - s)) ∧ Grow w w' := by
  obtain rfl | rfl | rfl : s = 0 ∨ s = 1 ∨ s = 2 := by omega
  all_goals
    go_enter Try.func76, Try.ntmps76
    go_wp2
    go_ret
    exact ⟨rfl, Grow.alloc _ _⟩

set_option maxRecDepth 20000 in
set_option maxHeartbeats 1600000 in
theorem refWhere_any (b : Int) (w : World) :
    Calls Try.prog 51 #[.int .i64 b] w fun e w' => e = .returned (.tuple #[.int .i64 (whereD b), .int .i64 (whereS b), .int .i64 (whereE b)]) ∧ Grow w w' := by
  go_enter Try.func51, Try.ntmps51
  go_wp2
  go_loopw [5, 8] (fun n i wr => ∃ k : Nat, k ≤ 3 ∧ i = .int .i64 k ∧ n = .int .i64 (3 * k) ∧ (b < 0 ∨ 3 * (k : Int) ≤ b) ∧ Grow w wr) (fun _ i _ => 3 - (intOf i).toNat)
  case atStart => exact ⟨0, by omega, rfl, rfl, by omega, Grow.refl _⟩
  case round =>
    obtain ⟨k, hk, rfl, rfl, hb, hg⟩ := hrel
    by_cases hlt : k < 3
    · obtain ⟨wo, hwo⟩ : ∃ wo : World, wo = wr := ⟨_, rfl⟩
      subst hwo
      have hd : decide ((k : Int) < 3) = true := by simp; omega
      go_wp2
      go_loopw [5, 11] (fun n j wr => ∃ (m : Nat) (c : Int), m ≤ 4 ∧ j = .int .i64 m ∧ n = .int .i64 c ∧ 0 ≤ c ∧ c ≤ 12 ∧ Hid (c = 3 * (k : Int) + (if 3 - (k : Int) < m then (m : Int) - 1 else m)) ∧ (b < 0 ∨ c ≤ b) ∧ Grow w wr) (fun _ j _ => 4 - (intOf j).toNat)
      case atStart => exact ⟨0, 3 * k, by omega, rfl, rfl, by omega, by omega, by rw [Hid, if_neg (by omega)]; omega, hb, hg⟩
      case round =>
        obtain ⟨m, c, hm, rfl, rfl, hc0, hc1, HC, hb', hg'⟩ := hrel
        by_cases hm4 : m < 4
        · go_wp2_with fail
          refine (refSpare_any _ _ (by omega) (by omega)).mono ?_
          rintro e w1 ⟨rfl, hg1⟩
          by_cases hsp : (m : Int) = 3 - k
          · go_wp2_with fail
            go_roundw
            case rel => first | exact ⟨m + 1, c, by omega, by go_num, rfl, hc0, hc1, by have := HC.out; rw [Hid]; split at this <;> (split <;> omega), hb', hg'.trans hg1⟩ | ((repeat apply Exists.intro); exact ⟨⟨m + 1, c, by omega, by go_num, rfl, hc0, hc1, by have := HC.out; rw [Hid]; split at this <;> (split <;> omega), hb', hg'.trans hg1⟩, rfl⟩)
            case measure => simp [intOf]; omega
          · by_cases hcb : c = b
            · have hw := where_hit (n := b) (s := k) (d := m) (by omega) (by omega) (by omega) (by omega) hsp (by rw [← hcb]; exact HC.out)
              obtain ⟨h1, h2, h3⟩ := hw
              go_wp2_with fail
              go_ret3
              exact ⟨ret_int3 h1.symm h2.symm h3.symm, hg'.trans hg1⟩
            · go_wp2_with fail
              go_roundw
              case rel => first | exact ⟨m + 1, c + 1, by omega, by go_num, rfl, by omega, by have := HC.out; split at this <;> omega, by have := HC.out; rw [Hid]; split at this <;> (split <;> omega), by omega, hg'.trans hg1⟩ | ((repeat apply Exists.intro); exact ⟨⟨m + 1, c + 1, by omega, by go_num, rfl, by omega, by have := HC.out; split at this <;> omega, by have := HC.out; rw [Hid]; split at this <;> (split <;> omega), by omega, hg'.trans hg1⟩, rfl⟩)
              case measure => simp [intOf]; omega
        · go_wp2_with fail
          go_roundw
          case rel => first | exact ⟨k + 1, by omega, by go_num, by have := HC.out; rw [if_pos (by omega)] at this; exact congrArg _ (by omega), by have := HC.out; rw [if_pos (by omega)] at this; omega, hg'⟩ | ((repeat apply Exists.intro); exact ⟨⟨k + 1, by omega, by go_num, by have := HC.out; rw [if_pos (by omega)] at this; exact congrArg _ (by omega), by have := HC.out; rw [if_pos (by omega)] at this; omega, hg'⟩, rfl⟩)
          case measure => simp [intOf]; omega
    · have hw := where_out (n := b) (by omega)
      obtain ⟨h1, h2, h3⟩ := hw
      go_wp2
      go_ret3
      exact ⟨ret_int3 h1.symm h2.symm h3.symm, hg⟩

theorem ret_int2 {k k2 : IntKind} {a b a2 b2 : Int} (h : a = b) (h2 : a2 = b2) : Ending.returned (.tuple #[.int k a, .int k2 a2]) = .returned (.tuple #[.int k b, .int k2 b2]) := by rw [h, h2]

end Go.Proofs.Ytjggiameajndgab
