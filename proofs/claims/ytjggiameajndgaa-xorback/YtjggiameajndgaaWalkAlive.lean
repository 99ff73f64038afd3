/-
  What the closed fact at the head of the outright statement returns: true.
-/
import Derived.Test.YtjggiameajndgaaWalkSealed
import Derived.Deep.AppendLies
import Derived.Lib.SlBytesConst
namespace Go.Proofs.Ytjggiameajndgaa
open Go.RowKit

theorem of_nil (w : World) : Calls Try.prog 15 #[.slice none 0 0] w fun e w' => e = .returned (.int .i64 13) ∧ w' = w := of_any _ [] w (Bs.nil w)

theorem sealed_yes (v : Value) (l : List Int) (w : World) (h : Bs w v l) (hs : sealedB l = true) :
    Calls Try.prog 19 #[v] w fun e w' => e = .returned (.bool true) ∧ ∃ n, w' = w.drewN n := by rw [← hs]; exact sealed_any v l w h

theorem sealed_no (v : Value) (l : List Int) (w : World) (h : Bs w v l) (hs : sealedB l = false) :
    Calls Try.prog 19 #[v] w fun e w' => e = .returned (.bool false) ∧ ∃ n, w' = w.drewN n := by rw [← hs]; exact sealed_any v l w h

theorem octets_ab : Octets [97, 98] := by intro x hx; simp at hx; omega

theorem below_drewN {B : Nat} {a w : World} (h : Below B a w) (n : Nat) : Below B a (w.drewN n) := ⟨h.os, h.tape, h.output, h.size, h.block⟩

set_option maxRecDepth 20000 in
set_option maxHeartbeats 800000 in
theorem alive_any (w : World) : Calls Try.prog 21 #[] w fun e w' => e = .returned (.bool true) ∧ Below w.heap.size w w' := by
  have hab : Bs (w.alloc (.cells #[.int .u8 97, .int .u8 98] 5 (2, 3))) (.slice (some ⟨w.heap.size, 0, none⟩) 2 2) [97, 98] := by
    refine ⟨some ⟨w.heap.size, 0, none⟩, 2, rfl, by simp, by unfold maxLen; omega, (fun h => nomatch h), octets_ab, fun _ => ⟨w.heap.size, 0, rfl, fun i hi => ?_⟩⟩
    match i, hi with
    | 0, _ => simp only [World.cell?, heap_alloc_new w]; rfl
    | 1, _ => simp only [World.cell?, heap_alloc_new w]; rfl
  have hcv := Lib.run_convert_bytes_const (P := Try.prog) w 22 5 #[.int .u8 97, .int .u8 98] 2 2 Try.underlying22 Try.underlying5
  go_enter Try.func21, Try.ntmps21
  go_wp2_with fail
  refine (seal_any _ [97, 98] _ (by simp) hab).mono ?_
  rintro e w1 ⟨r, rfl, hown, hb⟩
  obtain ⟨g, cap, rfl, hg, hg'⟩ := hown.form (by simp)
  have hbs := Bs.of_own hown (sealOf_octets _ octets_ab)
  go_wp2_with fail
  refine (of_nil _).mono ?_
  rintro e w' ⟨rfl, rfl⟩
  go_wp2_with fail
  refine (sealed_yes _ _ _ hbs (sealedB_seal _)).mono ?_
  rintro e w' ⟨rfl, n, rfl⟩
  go_wp2_with fail
  refine (sealed_no _ [] _ (Bs.nil _) rfl).mono ?_
  rintro e w' ⟨rfl, n', rfl⟩
  go_wp2_with fail
  go_ret
  exact ⟨rfl, below_drewN (((Below.refl _ _).alloc (Nat.le_refl _) _).trans (hb.mono (by simp))) _⟩

end Go.Proofs.Ytjggiameajndgaa
