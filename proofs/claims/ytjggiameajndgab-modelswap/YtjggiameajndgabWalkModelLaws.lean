/-
  Chapter 5's statements, walked over what the program's model returns.
-/
import Derived.Test.YtjggiameajndgabWalkModel
import Derived.Test.YtjggiameajndgabWalkCellByte
import Derived.Test.YtjggiameajndgabHeaps
namespace Go.Proofs.Ytjggiameajndgab
open Go.RowKit

/-- A slice of slices of bytes. -/
def AnBss (ls : List (List Int)) (v : Value) (w : World) : Prop := Bss w v ls
theorem AnBss.stable (ls : List (List Int)) : ∀ (v : Value) (x y : World), AnBss ls v x → Grow x y → AnBss ls v y := fun _ _ _ h hg => Bss.grow h hg

theorem refSame_eq (v u : Value) (a : List (List Int)) (w : World) (h : Bss w v a) (g : Bss w u a) : Calls Try.prog 20 #[v, u] w fun e w' => e = .returned (.bool true) ∧ Grow w w' := by
  have := refSame_any v u a a w h g
  rwa [show (a == a) = true from by simp] at this

end Go.Proofs.Ytjggiameajndgab
