/-
  What sum.Of and the reference's Sum return: the sum of the bytes that they are handed; nothing in memory turns.
-/
import Derived.Test.YtdhldifhkelcdabProg
import Derived.Test.YtdhldifhkelcdabBase
namespace Go.Proofs.Ytdhldifhkelcdab
open Go.RowKit

end Go.Proofs.Ytdhldifhkelcdab
