/-
  Stores into rows of the call's own.
-/
import Derived.Test.YtjggiameajndgabArrayBase
namespace Go.Proofs.Ytjggiameajndgab
open Go.RowKit

section
variable {α : Type} {R : World → Value → α → Prop} {w w0 w1 : World} {u v : Value} {x : α} {xs : List α} {B : Nat} {e : TypeId}

theorem grown_set (w : World) (g k : Nat) (u : Value) : w.grownBy (w.setCell ⟨g, k, none⟩ u) (some g) := ⟨rfl, rfl, rfl, by simp, fun j _ hj => Below.heap_setCell w _ _ j (fun e => hj (by rw [e]))⟩

/-- The form of a row that has an element. -/
theorem Rowing.form (h : Rowing R B e w v xs) (hp : 0 < xs.length) : ∃ g cap, v = .slice (some ⟨g, 0, none⟩) xs.length cap ∧ B ≤ g ∧ g < w.heap.size := by
  obtain ⟨us, h1, _, _⟩ := h
  exact h1.form hp

theorem Rowing.cap {g n cap : Nat} (h : Rowing R B e w (.slice (some ⟨g, 0, none⟩) n cap) xs) : xs.length = n ∧ n ≤ cap ∧ cap ≤ 9223372036854775807 := by
  obtain ⟨ao, c, e1, h1, h2⟩ := h.done.form'
  injection e1 with _ e2 e3
  omega

/-- Its cells may be written. -/
theorem Rowing.at {g n cap : Nat} (h : Rowing R B e w (.slice (some ⟨g, 0, none⟩) n cap) xs) {k : Nat} (hk : k < xs.length) : (∃ u, w.cell? ⟨g, k, none⟩ = some u) ∧ w.frozen? ⟨g, k, none⟩ = false := by
  obtain ⟨rfl, -⟩ := h.cap
  obtain ⟨us, h1, h2, _⟩ := h
  refine ⟨⟨us[k]'(by omega), ?_⟩, h1.frozenAt k⟩
  rw [h1.cellAt k (by omega)]
  simp [show k < us.length by omega]

theorem Rowing.stored {g n cap : Nat} (h : Rowing R B e w (.slice (some ⟨g, 0, none⟩) n cap) xs) (k : Nat) (hoff : Off R (some g) w u x) : Rowing R B e (w.setCell ⟨g, k, none⟩ u) (.slice (some ⟨g, 0, none⟩) n cap) (xs.set k x) := by
  obtain ⟨rfl, -⟩ := h.cap
  obtain ⟨us, h1, h2, h3⟩ := h
  have hg := grown_set w g k u
  refine ⟨us.set k u, by rw [List.length_set]; exact (h1.stored k u).1, by simp [h2], fun i q y hq hy => ?_⟩
  by_cases hik : i = k
  · subst hik
    have hlt : i < us.length := by
      by_cases hlt : i < us.length
      · exact hlt
      · rw [List.getElem?_eq_none (by simp; omega)] at hq; cases hq
    rw [List.getElem?_set_self hlt] at hq
    rw [List.getElem?_set_self (by omega)] at hy
    cases hq
    cases hy
    exact hoff.step hg
  · rw [List.getElem?_set_ne (fun e => hik e.symm)] at hq hy
    exact (h3 i q y hq hy).step hg

end

end Go.Proofs.Ytjggiameajndgab
