/-
  What the reference's SameBytes, NewBlocks, Wrong and Do return. Nothing old turns.
-/
import Derived.Test.YtjggiameajndgabDoorModelMath
import Derived.Test.YtjggiameajndgabDoorRowing
import Derived.Test.YtjggiameajndgabDoorWalkRefPlan
namespace Go.Proofs.YtjggiameajndgabDoor
open Go.RowKit

theorem same_no {a b : List (List Int)} {k : Nat} (h : a.getD k [] ≠ b.getD k []) : (a == b) = false := by
  rw [beq_eq_false_iff_ne]
  intro h0
  exact h (by rw [h0])

theorem same_yes {a b : List (List Int)} (hl : a.length = b.length) (h : ∀ k, k < a.length → a.getD k [] = b.getD k []) : (a == b) = true := by
  rw [beq_iff_eq]
  refine List.ext_getElem hl fun i h1 h2 => ?_
  have := h i h1
  simpa [List.getD_eq_getElem?_getD, h1, h2] using this

theorem same_len {a b : List (List Int)} (h : a.length ≠ b.length) : (a == b) = false := by
  rw [beq_eq_false_iff_ne]
  intro h0
  exact h (by rw [h0])

theorem getD_mem {a : List (List Int)} {k : Nat} (h : k < a.length) : a.getD k [] ∈ a := by simp [List.getD_eq_getElem?_getD, h]

end Go.Proofs.YtjggiameajndgabDoor
