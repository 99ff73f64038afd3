/-
  What the closed fact at the head of the outright statement returns: true.
-/
import Derived.Test.YtjggiameajndgabDoorWalkSealed
import Derived.Deep.AppendLies
import Derived.Lib.SlBytesConst
namespace Go.Proofs.YtjggiameajndgabDoor
open Go.RowKit

theorem octets_ab : Octets [97, 98] := by intro x hx; simp at hx; omega

theorem below_drewN {B : Nat} {a w : World} (h : Below B a w) (n : Nat) : Below B a (w.drewN n) := ⟨h.os, h.tape, h.output, h.size, h.block⟩

end Go.Proofs.YtjggiameajndgabDoor
