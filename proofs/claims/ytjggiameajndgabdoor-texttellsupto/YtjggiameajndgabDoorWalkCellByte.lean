/-
  The two outright statements of chapter 2, walked: unlike cells look unlike; rot is found, and a wrong place. They return true, and nothing old turns.
-/
import Derived.Test.YtjggiameajndgabDoorWalkCell2
namespace Go.Proofs.YtjggiameajndgabDoor
open Go.RowKit

theorem octets_abcd : Octets [97, 98, 99, 100] := by intro x hx; simp at hx; omega

theorem str_abcd : strOfNums [97, 98, 99, 100] = { data := #[97, 98, 99, 100] } := rfl

end Go.Proofs.YtjggiameajndgabDoor
