/-
  Chapter 5's statements, walked over what the program's model returns.
-/
import Derived.Test.YtdhldifhkelcdabWalkModel
import Derived.Test.YtdhldifhkelcdabWalkCellByte
import Derived.Test.YtdhldifhkelcdabHeaps
namespace Go.Proofs.Ytdhldifhkelcdab
open Go.RowKit

/-- A slice of slices of bytes. -/
def AnBss (ls : List (List Int)) (v : Value) (w : World) : Prop := Bss w v ls
theorem AnBss.stable (ls : List (List Int)) : ∀ (v : Value) (x y : World), AnBss ls v x → Grow x y → AnBss ls v y := fun _ _ _ h hg => Bss.grow h hg

end Go.Proofs.Ytdhldifhkelcdab
