/-
  What sum.Of and the reference's Sum return: the sum of the bytes that they are handed; nothing in memory turns.
-/
import Derived.Test.YtjggiameajndgabDoorProg
import Derived.Test.YtjggiameajndgabDoorBase
namespace Go.Proofs.YtjggiameajndgabDoor
open Go.RowKit

end Go.Proofs.YtjggiameajndgabDoor
