/-
  Chapter 4's statements with the document's answer, and there and back, walked: they return true, and nothing old turns.
-/
import Derived.Test.YtjggiameajndgaaWalkPlan
namespace Go.Proofs.Ytjggiameajndgaa
open Go.RowKit

set_option maxRecDepth 20000 in
set_option maxHeartbeats 3200000 in
theorem planTells_walk (b d s : Int) (w : World) :
    Calls Try.prog 11 #[.int .i64 b, .int .i64 d, .int .i64 s] w fun e w' => e = .returned (.bool true) ∧ Grow w w' := by
  have hc : s < 0 ∨ (0 ≤ s ∧ 1000000 < s) ∨ (0 ≤ s ∧ s ≤ 1000000) := by omega
  rcases hc with h | ⟨h, h'⟩ | ⟨h, h'⟩
  all_goals
    go_enter Try.func11, Try.ntmps11
    go_wp2_with fail
    refine (where_any _ _).mono ?_
    rintro e w0 ⟨rfl, rfl⟩
    go_wp2_with fail
    refine (refWhere_any _ _).mono ?_
    rintro e w1 ⟨rfl, hg1⟩
    go_wp2_with fail
    refine (block_any _ _ _).mono ?_
    rintro e w0 ⟨rfl, rfl⟩
    go_wp2_with fail
    refine (refBlock_any _ _ _).mono ?_
    rintro e w2 ⟨rfl, hg2⟩
    go_wp2_with fail
  · go_ret
    exact ⟨rfl, hg1.trans hg2⟩
  · go_ret
    exact ⟨rfl, hg1.trans hg2⟩
  · refine (spare_any _ _ h (by omega)).mono ?_
    rintro e w0 ⟨rfl, rfl⟩
    go_wp2_with fail
    refine (refSpare_on _ _ h (by omega)).mono ?_
    rintro e w3 ⟨rfl, hg3⟩
    go_wp2_with fail
    go_ret
    exact ⟨rfl, (hg1.trans hg2).trans hg3⟩

set_option maxRecDepth 20000 in
set_option maxHeartbeats 1600000 in
theorem alive4_any (w : World) : Calls Try.prog 40 #[] w fun e w' => e = .returned (.bool true) ∧ w' = w := by
  have h1 := where_any 5 w
  rw [show whereD 5 = 3 from rfl, show whereS 5 = 1 from rfl, show whereE 5 = 0 from rfl] at h1
  have h2 := block_any 3 1 w
  rw [show blockN 3 1 = 5 from rfl, show blockE 3 1 = 0 from rfl] at h2
  have h3 := where_any 9 w
  rw [show whereD 9 = 0 from rfl, show whereS 9 = 0 from rfl, show whereE 9 = 3 from rfl] at h3
  have h4 := block_any 2 1 w
  rw [show blockN 2 1 = -1 from rfl, show blockE 2 1 = 0 from rfl] at h4
  go_enter Try.func40, Try.ntmps40
  go_wp2_with fail
  refine h1.mono ?_
  rintro e w0 ⟨rfl, rfl⟩
  go_wp2_with fail
  refine h2.mono ?_
  rintro e w1 ⟨rfl, rfl⟩
  go_wp2_with fail
  refine h3.mono ?_
  rintro e w2 ⟨rfl, rfl⟩
  go_wp2_with fail
  refine (spare_low _ _ (by omega) (by omega)).mono ?_
  rintro e w3 ⟨rfl, rfl⟩
  go_wp2_with fail
  refine h4.mono ?_
  rintro e w4 ⟨rfl, rfl⟩
  go_wp2_with fail
  go_ret
  exact ⟨rfl, rfl⟩

set_option maxRecDepth 20000 in
set_option maxHeartbeats 3200000 in
theorem planBack_walk (d s : Int) (w : World) :
    Calls Try.prog 12 #[.int .i64 d, .int .i64 s] w fun e w' => e = .returned (.bool true) ∧ Grow w w' := by
  by_cases hp : 0 ≤ d ∧ d < 4 ∧ 0 ≤ s ∧ s < 3
  · obtain ⟨hd0, hd1, hs0, hs1⟩ := hp
    by_cases hsp : d = 3 - s
    · have hB : ∀ w1, Calls Try.prog 37 #[.int .i64 d, .int .i64 s] w1 fun e w' => e = .returned (.tuple #[.int .i64 (-1), .int .i64 0]) ∧ w' = w1 := by
        intro w1
        have := block_any d s w1
        rwa [show blockN d s = -1 from by rw [blockN, if_pos ⟨hd0, hd1, hs0, hs1⟩, if_pos hsp], show blockE d s = 0 from by rw [blockE, if_pos ⟨hd0, hd1, hs0, hs1⟩]] at this
      have hS := fun w1 => spare_low s w1 hs0 hs1
      rw [← hsp] at hS
      clear hsp
      go_enter Try.func12, Try.ntmps12
      go_wp2_with fail
      refine (alive4_any _).mono ?_
      rintro e w0 ⟨rfl, rfl⟩
      go_wp2_with fail
      refine (hB _).mono ?_
      rintro e w1 ⟨rfl, rfl⟩
      go_wp2_with fail
      refine (hS _).mono ?_
      rintro e w1 ⟨rfl, rfl⟩
      go_wp2_with fail
      go_ret
      exact ⟨rfl, Grow.refl _⟩
    · obtain ⟨n, hn⟩ : ∃ n, n = 3 * s + (if d < 3 - s then d else d - 1) := ⟨_, rfl⟩
      have hB : ∀ w1, Calls Try.prog 37 #[.int .i64 d, .int .i64 s] w1 fun e w' => e = .returned (.tuple #[.int .i64 n, .int .i64 0]) ∧ w' = w1 := by
        intro w1
        have := block_any d s w1
        rwa [show blockN d s = n from by rw [blockN, if_pos ⟨hd0, hd1, hs0, hs1⟩, if_neg hsp, hn], show blockE d s = 0 from by rw [blockE, if_pos ⟨hd0, hd1, hs0, hs1⟩]] at this
      have hW : ∀ w1, Calls Try.prog 35 #[.int .i64 n] w1 fun e w' => e = .returned (.tuple #[.int .i64 d, .int .i64 s, .int .i64 0]) ∧ w' = w1 := by
        intro w1
        have := where_any n w1
        have hh := where_hit (n := n) hs0 hs1 hd0 hd1 hsp (by rw [hn]; split <;> (split <;> omega))
        rwa [hh.1, hh.2.1, hh.2.2] at this
      have hn0 : 0 ≤ n := by split at hn <;> omega
      have hn1 : n < 9 := by split at hn <;> omega
      clear hn hsp
      go_enter Try.func12, Try.ntmps12
      go_wp2_with fail
      refine (alive4_any _).mono ?_
      rintro e w0 ⟨rfl, rfl⟩
      go_wp2_with fail
      refine (hB _).mono ?_
      rintro e w1 ⟨rfl, rfl⟩
      go_wp2_with fail
      refine (hW _).mono ?_
      rintro e w1 ⟨rfl, rfl⟩
      go_wp2_with fail
      go_ret
      exact ⟨rfl, Grow.refl _⟩
  · have hB : ∀ w1, Calls Try.prog 37 #[.int .i64 d, .int .i64 s] w1 fun e w' => e = .returned (.tuple #[.int .i64 0, .int .i64 3]) ∧ w' = w1 := by
      intro w1
      have := block_any d s w1
      rwa [show blockN d s = 0 from by rw [blockN, if_neg hp], show blockE d s = 3 from by rw [blockE, if_neg hp]] at this
    have hout : d < 0 ∨ (0 ≤ d ∧ 4 ≤ d) ∨ (0 ≤ d ∧ d < 4 ∧ s < 0) ∨ (0 ≤ d ∧ d < 4 ∧ 0 ≤ s ∧ 3 ≤ s) := by omega
    clear hp
    rcases hout with h | ⟨h, g⟩ | ⟨h, g, g2⟩ | ⟨h, g, g2, g3⟩
    all_goals
      go_enter Try.func12, Try.ntmps12
      go_wp2_with fail
      refine (alive4_any _).mono ?_
      rintro e w0 ⟨rfl, rfl⟩
      go_wp2_with fail
      refine (hB _).mono ?_
      rintro e w1 ⟨rfl, rfl⟩
      go_wp2_with fail
      go_ret
      exact ⟨rfl, Grow.refl _⟩

end Go.Proofs.Ytjggiameajndgaa
