/-
  What the program's table says of the types of elements.
-/
import Derived.Test.YtjggiameajndgabDoorProg
import Derived.WalkKit
namespace Go.Proofs.YtjggiameajndgabDoor

theorem Tryd.infoS : (Tryd.prog.info? 22).map (fun i => (i.zero, i.size, i.bytes)) = some (some (.slice none 0 0), 1, 24) := by kernel_rfl

end Go.Proofs.YtjggiameajndgabDoor
