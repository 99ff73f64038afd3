/-
  What sum.Seal and the reference's Seal return: new memory that holds the bytes with their sum behind; nothing old turns.
-/
import Derived.Test.YtjggiameajndgabDoorWalkSum
namespace Go.Proofs.YtjggiameajndgabDoor
open Go.RowKit

theorem Tryd.infoB : (Tryd.prog.info? 5).map (fun i => (i.zero, i.size, i.bytes)) = some (some (.int .u8 0), 1, 1) := by kernel_rfl

end Go.Proofs.YtjggiameajndgabDoor
