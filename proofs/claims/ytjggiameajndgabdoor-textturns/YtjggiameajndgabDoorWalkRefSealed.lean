/-
  What the reference's Sealed returns: whether the bytes end with the sum of what is ahead; nothing old turns.
-/
import Derived.Test.YtjggiameajndgabDoorWalkSealed
import Derived.Test.YtjggiameajndgabDoorGrow
import Derived.Deep.AppendLies
namespace Go.Proofs.YtjggiameajndgabDoor
open Go.RowKit

/-- New memory that reads as these bytes. -/
def NewBs (l : List Int) (v : Value) (w : World) : Prop := ∃ g cap, v = .slice (some ⟨g, 0, none⟩) l.length cap ∧ Bs w v l
theorem NewBs.stable (l : List Int) : ∀ (v : Value) (x y : World), NewBs l v x → Grow x y → NewBs l v y := fun _ _ _ ⟨g, cap, hv, hb⟩ h => ⟨g, cap, hv, hb.grow h⟩

end Go.Proofs.YtjggiameajndgabDoor
