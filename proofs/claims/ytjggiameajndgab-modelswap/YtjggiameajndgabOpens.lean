/-
  How arguments that are deeds, steps, and slices of steps are read.
-/
import Derived.Test.YtjggiameajndgabWalkRefModel2
import Derived.Test.YtjggiameajndgabOpen
import Derived.Deep.Slices
namespace Go.Proofs.Ytjggiameajndgab
open Go.ChangeShapes Go.WideShapes Go.ChangeAt Go.RowKit

theorem four_of {α : Type} {cs : List α} (h : cs.length = 4) : ∃ c0 c1 c2 c3, cs = [c0, c1, c2, c3] := by
  match cs, h with
  | [c0, c1, c2, c3], _ => exact ⟨_, _, _, _, rfl⟩
theorem seven_of {α : Type} {cs : List α} (h : cs.length = 7) : ∃ c0 c1 c2 c3 c4 c5 c6, cs = [c0, c1, c2, c3, c4, c5, c6] := by
  match cs, h with
  | [c0, c1, c2, c3, c4, c5, c6], _ => exact ⟨_, _, _, _, _, _, _, rfl⟩

section
variable {H : Type} {enc : TypeId × Value → H} {W : World} {base : Nat} {sp : Nat → Bool} {held : Bool}

/-- Fields of a struct, each with its own reading. -/
theorem field_at {P : Program} {fuel : Nat} {t : TypeId} {cs : List Value} {x : DataW H × List MemPlace} {fs : Array Field} (ht : P.underlying t = some (.struct fs)) (h : DataW.trod enc P W base sp held fuel t cs = some x) :
    cs.length = P.cellsOf t ∧ ∀ (i : Nat) (f : Field), fs[i]? = some f → ∃ n y, DataW.trod enc P W base sp held n f.type ((cs.drop f.offset).take (P.cellsOf f.type)) = some y := by
  obtain ⟨xs, n, -, -, hlen, hxl, hf⟩ := DataW.trod_struct ht h
  refine ⟨hlen, fun i f hi => ?_⟩
  have hlt : i < fs.size := (Array.getElem?_eq_some_iff.1 hi).1
  have := hf i f hi
  rw [List.getElem?_eq_getElem (by omega)] at this
  exact ⟨n, _, this⟩

theorem Try.cellsDeed : Try.prog.cellsOf 25 = 4 := by kernel_rfl
theorem Try.cellsInt : Try.prog.cellsOf 3 = 1 := by kernel_rfl
theorem Try.cellsBs : Try.prog.cellsOf 23 = 1 := by kernel_rfl
theorem Try.cellsB : Try.prog.cellsOf 5 = 1 := by kernel_rfl

theorem int_cell {n : Nat} {c : Value} {y : DataW H × List MemPlace} (h : DataW.trod enc Try.prog W base sp held n 3 [c] = some y) : ∃ k, c = .int .i64 k ∧ (Lit.int .i64 k).wf = true := by
  obtain ⟨k, e, -, hw⟩ := DataW.trod_int Try.underlying3 h
  exact ⟨k, by simpa using e, hw⟩

set_option maxRecDepth 20000 in
/-- Cells of a deed. -/
theorem deed_cells {fuel : Nat} {cs : List Value} {x : DataW H × List MemPlace} (h : DataW.trod enc Try.prog W base sp held fuel 25 cs = some x) :
    ∃ (y : DeedP) (dv : Value), cs = [.int .i64 y.k, .int .i64 y.n, .int .i64 y.m, dv] ∧ Bs W dv y.d ∧ (Lit.int .i64 y.k).wf = true ∧ (Lit.int .i64 y.n).wf = true ∧ (Lit.int .i64 y.m).wf = true := by
  obtain ⟨hlen, hf⟩ := field_at Try.underlying25 h
  rw [Try.cellsDeed] at hlen
  obtain ⟨c0, c1, c2, c3, rfl⟩ := four_of hlen
  have g0 := hf 0 _ rfl
  have h0 : ∃ n y, DataW.trod enc Try.prog W base sp held n 3 (([c0, c1, c2, c3].drop 0).take (Try.prog.cellsOf 3)) = some y := g0
  rw [Try.cellsInt] at h0
  obtain ⟨m0, y0, f0⟩ := h0
  have g1 := hf 1 _ rfl
  have h1 : ∃ n y, DataW.trod enc Try.prog W base sp held n 3 (([c0, c1, c2, c3].drop 1).take (Try.prog.cellsOf 3)) = some y := g1
  rw [Try.cellsInt] at h1
  obtain ⟨m1, y1, f1⟩ := h1
  have g2 := hf 2 _ rfl
  have h2 : ∃ n y, DataW.trod enc Try.prog W base sp held n 3 (([c0, c1, c2, c3].drop 2).take (Try.prog.cellsOf 3)) = some y := g2
  rw [Try.cellsInt] at h2
  obtain ⟨m2, y2, f2⟩ := h2
  have g3 := hf 3 _ rfl
  have h3 : ∃ n y, DataW.trod enc Try.prog W base sp held n 23 (([c0, c1, c2, c3].drop 3).take (Try.prog.cellsOf 23)) = some y := g3
  rw [Try.cellsBs] at h3
  obtain ⟨m3, y3, f3⟩ := h3
  obtain ⟨k, rfl, hk⟩ := int_cell f0
  obtain ⟨n, rfl, hn⟩ := int_cell f1
  obtain ⟨m, rfl, hm⟩ := int_cell f2
  obtain ⟨l, hl⟩ := bs_of_trod Try.underlying23 Try.underlying5 Try.cellsB f3
  exact ⟨⟨k, n, m, l⟩, _, rfl, hl, hk, hn, hm⟩

set_option maxRecDepth 20000 in
/-- A deed that is an argument. -/
theorem open_deed {v : Value} {d : DataW H} {p : List MemPlace} {b0 : Nat} (hv : Value.okWide Try.prog W .any b0 25 v) (h : DataW.Trod enc Try.prog W base sp held 25 v d p) :
    ∃ y : DeedP, DeedV W v y ∧ (-9223372036854775808 ≤ y.n ∧ y.n ≤ 9223372036854775807) ∧ (-9223372036854775808 ≤ y.m ∧ y.m ≤ 9223372036854775807) := by
  obtain ⟨fuel, hf⟩ := h
  unfold Value.okWide at hv
  rw [Try.underlying25] at hv
  obtain ⟨cs, rfl, -, -⟩ := hv
  obtain ⟨y, dv, e, hb, -, hn, hm⟩ := deed_cells hf
  have e' : cs = #[.int .i64 y.k, .int .i64 y.n, .int .i64 y.m, dv] := Array.toList_inj.1 e
  exact ⟨y, ⟨dv, by rw [e'], hb⟩, bounds_i64 hn, bounds_i64 hm⟩

end

end Go.Proofs.Ytjggiameajndgab
