/-
  What the reference's Spare, Where and Block return: they make memory, and nothing old turns.
-/
import Derived.Test.YtdhldifhkelcdabProg
import Derived.Test.YtdhldifhkelcdabCellMath
import Derived.Test.YtdhldifhkelcdabGrow
namespace Go.Proofs.Ytdhldifhkelcdab
open Go.RowKit

theorem ret_int3 {k k2 k3 : IntKind} {a b a2 b2 a3 b3 : Int} (h : a = b) (h2 : a2 = b2) (h3 : a3 = b3) : Ending.returned (.tuple #[.int k a, .int k2 a2, .int k3 a3]) = .returned (.tuple #[.int k b, .int k2 b2, .int k3 b3]) := by rw [h, h2, h3]

theorem ret_int2 {k k2 : IntKind} {a b a2 b2 : Int} (h : a = b) (h2 : a2 = b2) : Ending.returned (.tuple #[.int k a, .int k2 a2]) = .returned (.tuple #[.int k b, .int k2 b2]) := by rw [h, h2]

end Go.Proofs.Ytdhldifhkelcdab
