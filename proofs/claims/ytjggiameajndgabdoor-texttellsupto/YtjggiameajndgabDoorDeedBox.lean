/-
  A deed that lies in a block: read whole, answered.
-/
import Derived.Test.YtjggiameajndgabDoorArrayBase
import Derived.Test.YtjggiameajndgabDoorInfos
namespace Go.Proofs.YtjggiameajndgabDoor
open Go.RowKit

theorem Tryd.sizeD : (Tryd.prog.info? 24).map (·.size) = some 4 := by kernel_rfl

/-- A struct that lies in four cells, read whole. -/
theorem run_loadVar_four {P : Program} {ty : TypeId} (w : World) (g : Nat) (d : TypeDesc) {x y z u : Value} (hu : P.underlying ty = some d) (hd : (match d with | .struct _ | .array _ _ => true | _ => false) = true) (hi : (P.info? ty).map (·.size) = some 4)
    (h0 : w.cell? ⟨g, 0, none⟩ = some x) (h1 : w.cell? ⟨g, 1, none⟩ = some y) (h2 : w.cell? ⟨g, 2, none⟩ = some z) (h3 : w.cell? ⟨g, 3, none⟩ = some u) : (loadVar ty ⟨g, 0, none⟩).run P w = .ok (.agg #[x, y, z, u]) w := by
  have hl := run_loadCells_list (P := P) w ⟨g, 0, none⟩ [x, y, z, u] (fun j v hj => by
    match j, hj with
    | 0, hj => simp at hj; subst hj; simpa [Addr.add] using h0
    | 1, hj => simp at hj; subst hj; simpa [Addr.add] using h1
    | 2, hj => simp at hj; subst hj; simpa [Addr.add] using h2
    | 3, hj => simp at hj; subst hj; simpa [Addr.add] using h3)
  simp only [List.length_cons, List.length_nil] at hl
  cases hq : P.info? ty with
  | none => simp [hq] at hi
  | some i =>
    have hs : i.size = 4 := by simpa [hq] using hi
    have hagg : (isAgg ty).run P w = .ok true w := by
      unfold isAgg
      rw [Sem.run_bind, run_underlying hu w]
      cases d <;> simp_all
    simp [loadVar, Sem.run_bind, hagg, sizeOf, typeInfo, hq, hs, hl]

/-- Results the first of which lies in four cells. -/
theorem results_four1 {P : Program} {fn : Func} {p u : Tmp} {ty : TypeId} (h : fn.results = #[.cell p ty, .tmp u]) (tmps : Array Value) (w : World) (g : Nat) (d : TypeDesc) {x y z q : Value}
    (hp : tmps.getD p undef = .pointer (some ⟨g, 0, none⟩)) (hu : P.underlying ty = some d) (hd : (match d with | .struct _ | .array _ _ => true | _ => false) = true) (hi : (P.info? ty).map (·.size) = some 4)
    (h0 : w.cell? ⟨g, 0, none⟩ = some x) (h1 : w.cell? ⟨g, 1, none⟩ = some y) (h2 : w.cell? ⟨g, 2, none⟩ = some z) (h3 : w.cell? ⟨g, 3, none⟩ = some q) : (results fn tmps).run P w = .ok (.tuple #[.agg #[x, y, z, q], tmps.getD u undef]) w := by
  have hp' : tmps[p]?.getD undef = .pointer (some ⟨g, 0, none⟩) := by simpa using hp
  simp [results, h, hp', asAddr, run_loadVar_four w g d hu hd hi h0 h1 h2 h3, Result.andThen]

theorem cset_ne {w : World} {p a : Addr} {v : Value} (h : p.block ≠ a.block ∨ p.off ≠ a.off) : (w.setCell p v).cell? a = w.cell? a :=
  World.cell?_setCell_other w p a v (fun e => by rw [e] at h; simp at h)

/-- A deed's block. -/
def Box4 (w : World) (g : Nat) (a b c d : Value) : Prop :=
  w.cell? ⟨g, 0, none⟩ = some a ∧ w.cell? ⟨g, 1, none⟩ = some b ∧ w.cell? ⟨g, 2, none⟩ = some c ∧ w.cell? ⟨g, 3, none⟩ = some d ∧ ∀ i, w.frozen? ⟨g, i, none⟩ = false

theorem Box4.new {w : World} {g : Nat} {a b c d : Value} {t : TypeId} (h : w.heap[g]? = some (.cells #[a, b, c, d] t)) : Box4 w g a b c d :=
  ⟨by simp [World.cell?, h], by simp [World.cell?, h], by simp [World.cell?, h], by simp [World.cell?, h], fun i => by simp [World.frozen?, h]⟩

theorem Box4.lt {w : World} {g : Nat} {a b c d : Value} (h : Box4 w g a b c d) : g < w.heap.size := cell_lt h.1

theorem Box4.grow {w w' : World} {g : Nat} {a b c d : Value} (h : Box4 w g a b c d) (hg : Grow w w') : Box4 w' g a b c d :=
  ⟨hg.at h.1, hg.at h.2.1, hg.at h.2.2.1, hg.at h.2.2.2.1, fun i => (hg.frozen (a := ⟨g, i, none⟩) h.lt).trans (h.2.2.2.2 i)⟩

theorem fset {w : World} {p a : Addr} {v : Value} : (w.setCell p v).frozen? a = w.frozen? a := by simp

/-- Another block is written. -/
theorem Box4.other {w : World} {g k : Nat} {a b c d : Value} (h : Box4 w g a b c d) (hk : k ≠ g) (i : Nat) (u : Value) : Box4 (w.setCell ⟨k, i, none⟩ u) g a b c d :=
  ⟨(cset_ne (.inl hk)).trans h.1, (cset_ne (.inl hk)).trans h.2.1, (cset_ne (.inl hk)).trans h.2.2.1, (cset_ne (.inl hk)).trans h.2.2.2.1, fun i => fset.trans (h.2.2.2.2 i)⟩

theorem Box4.kept {w w' : World} {g : Nat} {a b c d : Value} {row : Option Nat} (h : Box4 w g a b c d) (hg : w.grownBy w' row) (hne : row ≠ some g) : Box4 w' g a b c d := by
  have hb := hg.block g h.lt (fun e => hne e.symm)
  refine ⟨?_, ?_, ?_, ?_, fun i => (World.frozen?_of_block (a := ⟨g, i, none⟩) hb).trans (h.2.2.2.2 i)⟩
  all_goals simp only [World.cell?, hb]
  · exact h.1
  · exact h.2.1
  · exact h.2.2.1
  · exact h.2.2.2.1

theorem Box4.set0 {w : World} {g : Nat} {a b c d : Value} (h : Box4 w g a b c d) (u : Value) : Box4 (w.setCell ⟨g, 0, none⟩ u) g u b c d :=
  ⟨World.cell?_setCell_same _ _ _ h.1, (cset_ne (.inr (by simp))).trans h.2.1, (cset_ne (.inr (by simp))).trans h.2.2.1, (cset_ne (.inr (by simp))).trans h.2.2.2.1, fun i => fset.trans (h.2.2.2.2 i)⟩

theorem Box4.set1 {w : World} {g : Nat} {a b c d : Value} (h : Box4 w g a b c d) (u : Value) : Box4 (w.setCell ⟨g, 1, none⟩ u) g a u c d :=
  ⟨(cset_ne (.inr (by simp))).trans h.1, World.cell?_setCell_same _ _ _ h.2.1, (cset_ne (.inr (by simp))).trans h.2.2.1, (cset_ne (.inr (by simp))).trans h.2.2.2.1, fun i => fset.trans (h.2.2.2.2 i)⟩

theorem Box4.set2 {w : World} {g : Nat} {a b c d : Value} (h : Box4 w g a b c d) (u : Value) : Box4 (w.setCell ⟨g, 2, none⟩ u) g a b u d :=
  ⟨(cset_ne (.inr (by simp))).trans h.1, (cset_ne (.inr (by simp))).trans h.2.1, World.cell?_setCell_same _ _ _ h.2.2.1, (cset_ne (.inr (by simp))).trans h.2.2.2.1, fun i => fset.trans (h.2.2.2.2 i)⟩

theorem Box4.set3 {w : World} {g : Nat} {a b c d : Value} (h : Box4 w g a b c d) (u : Value) : Box4 (w.setCell ⟨g, 3, none⟩ u) g a b c u :=
  ⟨(cset_ne (.inr (by simp))).trans h.1, (cset_ne (.inr (by simp))).trans h.2.1, (cset_ne (.inr (by simp))).trans h.2.2.1, World.cell?_setCell_same _ _ _ h.2.2.2.1, fun i => fset.trans (h.2.2.2.2 i)⟩

theorem Grow.set' {w0 w : World} (h : Grow w0 w) {g k : Nat} (hg : w0.heap.size ≤ g) (u : Value) : Grow w0 (w.setCell ⟨g, k, none⟩ u) := Below.setCell h (p := ⟨g, k, none⟩) hg u

/-- Its four cells are written anew. -/
theorem Box4.put {w0 w : World} {g : Nat} {a b c d : Value} (h : Box4 w g a b c d) (hg : Grow w0 w) (hw : w0.heap.size ≤ g) (x y z u : Value) :
    Box4 ((((w.setCell ⟨g, 0, none⟩ x).setCell ⟨g, 1, none⟩ y).setCell ⟨g, 2, none⟩ z).setCell ⟨g, 3, none⟩ u) g x y z u ∧
    Grow w0 ((((w.setCell ⟨g, 0, none⟩ x).setCell ⟨g, 1, none⟩ y).setCell ⟨g, 2, none⟩ z).setCell ⟨g, 3, none⟩ u) :=
  ⟨(((h.set0 x).set1 y).set2 z).set3 u, (((hg.set' hw x).set' hw y).set' hw z).set' hw u⟩

end Go.Proofs.YtjggiameajndgabDoor
