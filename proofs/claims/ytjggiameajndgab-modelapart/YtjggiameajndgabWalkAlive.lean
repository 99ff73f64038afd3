/-
  What the closed fact at the head of the outright statement returns: true.
-/
import Derived.Test.YtjggiameajndgabWalkSealed
import Derived.Deep.AppendLies
import Derived.Lib.SlBytesConst
namespace Go.Proofs.Ytjggiameajndgab
open Go.RowKit

theorem of_nil (w : World) : Calls Try.prog 94 #[.slice none 0 0] w fun e w' => e = .returned (.int .i64 13) ∧ w' = w := of_any _ [] w (Bs.nil w)

theorem sealed_yes (v : Value) (l : List Int) (w : World) (h : Bs w v l) (hs : sealedB l = true) :
    Calls Try.prog 92 #[v] w fun e w' => e = .returned (.bool true) ∧ ∃ n, w' = w.drewN n := by rw [← hs]; exact sealed_any v l w h

theorem sealed_no (v : Value) (l : List Int) (w : World) (h : Bs w v l) (hs : sealedB l = false) :
    Calls Try.prog 92 #[v] w fun e w' => e = .returned (.bool false) ∧ ∃ n, w' = w.drewN n := by rw [← hs]; exact sealed_any v l w h

theorem octets_ab : Octets [97, 98] := by intro x hx; simp at hx; omega

theorem below_drewN {B : Nat} {a w : World} (h : Below B a w) (n : Nat) : Below B a (w.drewN n) := ⟨h.os, h.tape, h.output, h.size, h.block⟩

end Go.Proofs.Ytjggiameajndgab
