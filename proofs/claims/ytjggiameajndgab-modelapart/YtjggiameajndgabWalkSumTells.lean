/-
  The statement that the sum, the seal and the test are the document's own, walked: whatever bytes: it returns true, and nothing old turns.
-/
import Derived.Test.YtjggiameajndgabWalkRefSealed
namespace Go.Proofs.Ytjggiameajndgab
open Go.RowKit

theorem seal_new (v : Value) (l : List Int) (w : World) (hlen : l.length ≤ 140737488351232) (h : Bs w v l) :
    Calls Try.prog 89 #[v] w fun e w' => ∃ r, e = .returned r ∧ NewBs (sealOf l) r w' ∧ Grow w w' :=
  (seal_any v l w hlen h).mono fun e w' ⟨r, he, hown, hb⟩ => by
    obtain ⟨g, cap, rfl, -, -⟩ := hown.form (by omega)
    exact ⟨_, he, ⟨g, cap, by rw [sealOf_length], Bs.of_own hown (sealOf_octets l h.octets)⟩, hb⟩

end Go.Proofs.Ytjggiameajndgab
