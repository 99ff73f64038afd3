/-
  The outright statement of chapter 1, walked: whatever bytes, whatever place, whatever byte: it returns true, and nothing old turns.
-/
import Derived.Test.YtjggiameajndgabWalkAlive
namespace Go.Proofs.Ytjggiameajndgab
open Go.RowKit

/-- Behind a store into a row of the call's own that holds bytes: the bytes with that one turned. -/
theorem Bs.stored {w : World} {base : Nat} {e : TypeId} {g n cap k : Nat} {l : List Int} {c : Int} (h : w.ownsRow base e 1 (.slice (some ⟨g, 0, none⟩) n cap) n (l.map (Value.int .u8))) (ho : Octets l) (hc : 0 ≤ c ∧ c ≤ 255) :
    Bs (w.setCell ⟨g, k, none⟩ (.int .u8 c)) (.slice (some ⟨g, 0, none⟩) n cap) (l.set k c) := by
  have h1 := (h.stored k (.int .u8 c)).1
  rw [← List.map_set] at h1
  refine Bs.of_own h1 fun x hx => ?_
  rcases List.mem_or_eq_of_mem_set hx with hx | rfl
  · exact ho x hx
  · exact hc

end Go.Proofs.Ytjggiameajndgab
