/-
  What the reference's Parse returns, of any text.
-/
import Derived.Test.YtjggiameajndgabDoorWalkRefParse2
namespace Go.Proofs.YtjggiameajndgabDoor
open Go.RowKit

theorem refParse_any (s : List UInt8) (w : World) (hs : s.length ≤ 4398046511104) (hlaid : Laid w) :
    Calls Tryd.prog 6 #[.string (str s)] w fun e w' => ∃ v, e = .returned (.tuple #[v, .int .i64 (parseP s).2]) ∧ DeedV w' v (parseP s).1 ∧ Grow w w' := by
  by_cases h : (split s).getD 0 [] = wrW
  · exact refParse_write s w hs hlaid h
  · exact refParse_rest s w hs hlaid h

end Go.Proofs.YtjggiameajndgabDoor
