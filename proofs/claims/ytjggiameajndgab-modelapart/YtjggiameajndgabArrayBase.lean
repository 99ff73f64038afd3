/-
  An array, plain and as it lies: disks of cells, and intents.
-/
import Derived.Test.YtjggiameajndgabRowing
namespace Go.Proofs.Ytjggiameajndgab
open Go.RowKit

/-- An array. -/
structure ArrP where
  ds : List (List (List Int))
  is : List (Int × List (List Int))

/-- Intents, as they lie: two cells each. -/
def Its (w : World) (v : Value) (l : List (Int × List (List Int))) : Prop :=
  ∃ ao cap, v = .slice ao l.length cap ∧ l.length ≤ cap ∧ cap ≤ maxLen ∧ (ao = none → cap = 0) ∧
    (0 < l.length → ∃ b off, ao = some ⟨b, off, none⟩ ∧ ∀ (i : Nat) p, l[i]? = some p → w.cell? ⟨b, off + i * 2, none⟩ = some (.int .i64 p.1) ∧ ∃ cv, w.cell? ⟨b, off + i * 2 + 1, none⟩ = some cv ∧ Bss w cv p.2)

theorem Its.stays : Stays Its := fun w w' v l h hg => by
  obtain ⟨ao, cap, hv, h1, h2, h3, h4⟩ := h
  refine ⟨ao, cap, hv, h1, h2, h3, fun hp => ?_⟩
  obtain ⟨b, off, e, hc⟩ := h4 hp
  refine ⟨b, off, e, fun i p hi => ?_⟩
  obtain ⟨h5, cv, h6, h7⟩ := hc i p hi
  exact ⟨hg.at h5, cv, hg.at h6, h7.grow hg⟩

theorem Its.nil (w : World) : Its w (.slice none 0 0) [] := ⟨none, 0, rfl, Nat.le_refl _, Nat.zero_le _, fun _ => rfl, fun h => by simp at h⟩

/-- Disks, as they lie. -/
abbrev Dks := Sl Bss
theorem Dks.stays : Stays Dks := Sl.stays Bss.stays

/-- An array, as it lies. -/
def ArrV (w : World) (v : Value) (a : ArrP) : Prop := ∃ dv iv, v = .agg #[dv, iv] ∧ Dks w dv a.ds ∧ Its w iv a.is
theorem ArrV.stays : Stays ArrV := fun _ _ _ _ ⟨dv, iv, hv, h1, h2⟩ hg => ⟨dv, iv, hv, Dks.stays _ _ _ _ h1 hg, Its.stays _ _ _ _ h2 hg⟩
theorem ArrV.grow {w w' : World} {v : Value} {a : ArrP} (h : ArrV w v a) (hg : Grow w w') : ArrV w' v a := ArrV.stays _ _ _ _ h hg

theorem Its.form {w : World} {v : Value} {l : List (Int × List (List Int))} (h : Its w v l) : ∃ ao cap, v = .slice ao l.length cap ∧ l.length ≤ cap ∧ cap ≤ 9223372036854775807 := by
  obtain ⟨ao, cap, rfl, h1, h2, -⟩ := h
  unfold maxLen at h2
  exact ⟨_, _, rfl, h1, by omega⟩

theorem Sl.form' {α : Type} {R : World → Value → α → Prop} {w : World} {v : Value} {xs : List α} (h : Sl R w v xs) : ∃ ao cap, v = .slice ao xs.length cap ∧ xs.length ≤ cap ∧ cap ≤ 9223372036854775807 := by
  obtain ⟨ao, cap, rfl, h1, h2, -⟩ := h
  unfold maxLen at h2
  exact ⟨_, _, rfl, h1, by omega⟩

/-- An element of a slice: its cell, and how it reads. -/
theorem Sl.elem {α : Type} {R : World → Value → α → Prop} {w : World} {ao : Option Addr} {n cap : Nat} {xs : List α} (h : Sl R w (.slice ao n cap) xs) {k : Nat} (hk : k < xs.length) (d : α) :
    ∃ b off u, ao = some ⟨b, off, none⟩ ∧ w.cell? ⟨b, off + k, none⟩ = some u ∧ R w u (xs.getD k d) := by
  obtain ⟨a1, c1, e1, -, -, -, h⟩ := h
  injection e1 with e1 _ _
  subst e1
  obtain ⟨b, off, e2, hc⟩ := h (by omega)
  obtain ⟨u, hu, hr⟩ := hc k (xs.getD k d) (by simp [List.getD_eq_getElem?_getD, hk])
  exact ⟨b, off, u, e2, hu, hr⟩

/-- An element that is itself a slice: its cell, and how it reads. -/
theorem Sl.elems {α : Type} {R : World → Value → α → Prop} {w : World} {ao : Option Addr} {n cap : Nat} {xss : List (List α)} (h : Sl (Sl R) w (.slice ao n cap) xss) {k : Nat} (hk : k < xss.length) :
    ∃ b off a' c', ao = some ⟨b, off, none⟩ ∧ w.cell? ⟨b, off + k, none⟩ = some (.slice a' (xss.getD k []).length c') ∧ Sl R w (.slice a' (xss.getD k []).length c') (xss.getD k []) := by
  obtain ⟨b, off, u, e, hu, hr⟩ := h.elem hk []
  obtain ⟨a', c', rfl⟩ := hr.form
  exact ⟨b, off, a', c', e, hu, hr⟩

/-- An array, as it lies, whose cells are readable whatever is written into g. -/
def ArrG (g : Option Nat) (w : World) (v : Value) (a : ArrP) : Prop := ∃ dv iv, v = .agg #[dv, iv] ∧ Sl (Sl (Off Bs g)) w dv a.ds ∧ Its w iv a.is

theorem ArrG.of {g : Option Nat} {w0 w : World} {v : Value} {a : ArrP} (h : ArrV w0 v a) (hG : Grow w0 w) (hg : ∀ k, g = some k → w0.heap.size ≤ k) : ArrG g w v a := by
  obtain ⟨dv, iv, hv, h1, h2⟩ := h
  exact ⟨dv, iv, hv, Sl.lift (fun _ _ h => Sl.lift (fun _ _ h => Off.old Bs.stays h hG hg) h hG) h1 hG, Its.stays _ _ _ _ h2 hG⟩

theorem ArrG.plain {g : Option Nat} {w : World} {v : Value} {a : ArrP} (h : ArrG g w v a) : ArrV w v a := by
  obtain ⟨dv, iv, hv, h1, h2⟩ := h
  exact ⟨dv, iv, hv, Sl.lift (fun _ _ h => h.off) h1 (Grow.refl _), h2⟩

theorem ArrG.grow {g : Option Nat} {w w' : World} {v : Value} {a : ArrP} (h : ArrG g w v a) (hG : Grow w w') : ArrG g w' v a := by
  obtain ⟨dv, iv, hv, h1, h2⟩ := h
  exact ⟨dv, iv, hv, Sl.lift (fun _ _ h => Sl.lift (fun _ _ h => h.grow hG) h hG) h1 hG, Its.stays _ _ _ _ h2 hG⟩

/-- The row does not lie in g. -/
def RowOff (g : Option Nat) (v : Value) (n : Nat) : Prop := 0 < n → ∀ b, v.ownBlock = some b → g ≠ some b

/-- A slice whose row does not lie in g. -/
def SlX {α : Type} (g : Option Nat) (R : World → Value → α → Prop) (w : World) (v : Value) (xs : List α) : Prop := Sl R w v xs ∧ RowOff g v xs.length

theorem SlX.step {α : Type} {g : Option Nat} {R R' : World → Value → α → Prop} {w w' : World} {v : Value} {xs : List α} (h : SlX g R w v xs) (hR : ∀ u x, R w u x → R' w' u x) (hg : w.grownBy w' g) : SlX g R' w' v xs := by
  obtain ⟨⟨ao, cap, hv, h1, h2, h3, h4⟩, h5⟩ := h
  refine ⟨⟨ao, cap, hv, h1, h2, h3, fun hp => ?_⟩, h5⟩
  obtain ⟨b, off, e, hc⟩ := h4 hp
  refine ⟨b, off, e, fun i x hx => ?_⟩
  obtain ⟨u, hu, hr⟩ := hc i x hx
  have hb := h5 hp b (by rw [hv, e]; rfl)
  exact ⟨u, hg.cell (a := ⟨b, off + i, none⟩) hu (fun e => hb e.symm), hR u x hr⟩

theorem SlX.old {α : Type} {g : Option Nat} {R R' : World → Value → α → Prop} {w0 w : World} {v : Value} {xs : List α} (h : Sl R w0 v xs) (hR : ∀ u x, R w0 u x → R' w u x) (hG : Grow w0 w) (hg : ∀ k, g = some k → w0.heap.size ≤ k) : SlX g R' w v xs := by
  refine ⟨Sl.lift hR h hG, fun hp b hb e => ?_⟩
  obtain ⟨ao, cap, rfl, h1, h2, h3, h4⟩ := h
  obtain ⟨b', off, rfl, hc⟩ := h4 hp
  obtain ⟨u, hu, _⟩ := hc 0 (xs[0]) (by simp [hp])
  have h6 := cell_lt hu
  have h7 := hg b e
  simp only [Value.ownBlock, Option.some.injEq] at hb
  omega

abbrev BssX (g : Option Nat) := SlX g (Off Bs g)
abbrev DksX (g : Option Nat) := SlX g (BssX g)

theorem BssX.step {g : Option Nat} {w w' : World} {v : Value} {ls : List (List Int)} (h : BssX g w v ls) (hg : w.grownBy w' g) : BssX g w' v ls := SlX.step h (fun _ _ h => h.step hg) hg
theorem BssX.old {g : Option Nat} {w0 w : World} {v : Value} {ls : List (List Int)} (h : Bss w0 v ls) (hG : Grow w0 w) (hg : ∀ k, g = some k → w0.heap.size ≤ k) : BssX g w v ls := SlX.old h (fun _ _ h => Off.old Bs.stays h hG hg) hG hg
theorem BssX.plain {g : Option Nat} {w : World} {v : Value} {ls : List (List Int)} (h : BssX g w v ls) : Bss w v ls := Sl.off h.1
theorem DksX.step {g : Option Nat} {w w' : World} {v : Value} {ds : List (List (List Int))} (h : DksX g w v ds) (hg : w.grownBy w' g) : DksX g w' v ds := SlX.step h (fun _ _ h => BssX.step h hg) hg
theorem DksX.old {g : Option Nat} {w0 w : World} {v : Value} {ds : List (List (List Int))} (h : Dks w0 v ds) (hG : Grow w0 w) (hg : ∀ k, g = some k → w0.heap.size ≤ k) : DksX g w v ds := SlX.old h (fun _ _ h => BssX.old h hG hg) hG hg
theorem DksX.plain {g : Option Nat} {w : World} {v : Value} {ds : List (List (List Int))} (h : DksX g w v ds) : Dks w v ds := Sl.lift (fun _ _ h => BssX.plain h) h.1 (Grow.refl _)

/-- Intents, none of whose rows lies in g. -/
def ItsX (g : Option Nat) (w : World) (v : Value) (l : List (Int × List (List Int))) : Prop :=
  (∃ ao cap, v = .slice ao l.length cap ∧ l.length ≤ cap ∧ cap ≤ maxLen ∧ (ao = none → cap = 0) ∧
    (0 < l.length → ∃ b off, ao = some ⟨b, off, none⟩ ∧ ∀ (i : Nat) p, l[i]? = some p → w.cell? ⟨b, off + i * 2, none⟩ = some (.int .i64 p.1) ∧ ∃ cv, w.cell? ⟨b, off + i * 2 + 1, none⟩ = some cv ∧ BssX g w cv p.2)) ∧ RowOff g v l.length

theorem ItsX.step {g : Option Nat} {w w' : World} {v : Value} {l : List (Int × List (List Int))} (h : ItsX g w v l) (hg : w.grownBy w' g) : ItsX g w' v l := by
  obtain ⟨⟨ao, cap, hv, h1, h2, h3, h4⟩, h5⟩ := h
  refine ⟨⟨ao, cap, hv, h1, h2, h3, fun hp => ?_⟩, h5⟩
  obtain ⟨b, off, e, hc⟩ := h4 hp
  refine ⟨b, off, e, fun i p hi => ?_⟩
  obtain ⟨h6, cv, h7, h8⟩ := hc i p hi
  have hb := h5 hp b (by rw [hv, e]; rfl)
  exact ⟨hg.cell h6 (fun e => hb e.symm), cv, hg.cell h7 (fun e => hb e.symm), BssX.step h8 hg⟩

theorem ItsX.old {g : Option Nat} {w0 w : World} {v : Value} {l : List (Int × List (List Int))} (h : Its w0 v l) (hG : Grow w0 w) (hg : ∀ k, g = some k → w0.heap.size ≤ k) : ItsX g w v l := by
  obtain ⟨ao, cap, rfl, h1, h2, h3, h4⟩ := h
  refine ⟨⟨ao, cap, rfl, h1, h2, h3, fun hp => ?_⟩, fun hp b hb e => ?_⟩
  · obtain ⟨b, off, e, hc⟩ := h4 hp
    refine ⟨b, off, e, fun i p hi => ?_⟩
    obtain ⟨h6, cv, h7, h8⟩ := hc i p hi
    exact ⟨hG.at h6, cv, hG.at h7, BssX.old h8 hG hg⟩
  · obtain ⟨b', off, rfl, hc⟩ := h4 hp
    obtain ⟨h6, _⟩ := hc 0 (l[0]) (by simp [hp])
    have h6 := cell_lt h6
    have h7 := hg b e
    simp only [Value.ownBlock, Option.some.injEq] at hb
    omega

theorem ItsX.plain {g : Option Nat} {w : World} {v : Value} {l : List (Int × List (List Int))} (h : ItsX g w v l) : Its w v l := by
  obtain ⟨⟨ao, cap, hv, h1, h2, h3, h4⟩, h5⟩ := h
  refine ⟨ao, cap, hv, h1, h2, h3, fun hp => ?_⟩
  obtain ⟨b, off, e, hc⟩ := h4 hp
  refine ⟨b, off, e, fun i p hi => ?_⟩
  obtain ⟨h6, cv, h7, h8⟩ := hc i p hi
  exact ⟨h6, cv, h7, h8.plain⟩

theorem ItsX.nil (g : Option Nat) (w : World) : ItsX g w (.slice none 0 0) [] := ⟨Its.nil w |> fun ⟨ao, cap, h1, h2, h3, h4, _⟩ => ⟨ao, cap, h1, h2, h3, h4, fun h => by simp at h⟩, fun h => by simp at h⟩

/-- An array, as it lies, none of whose rows lies in g. -/
def ArrX (g : Option Nat) (w : World) (v : Value) (a : ArrP) : Prop := ∃ dv iv, v = .agg #[dv, iv] ∧ DksX g w dv a.ds ∧ ItsX g w iv a.is
theorem ArrX.step {g : Option Nat} {w w' : World} {v : Value} {a : ArrP} (h : ArrX g w v a) (hg : w.grownBy w' g) : ArrX g w' v a := by
  obtain ⟨dv, iv, hv, h1, h2⟩ := h
  exact ⟨dv, iv, hv, DksX.step h1 hg, h2.step hg⟩
theorem ArrX.grow {g : Option Nat} {w w' : World} {v : Value} {a : ArrP} (h : ArrX g w v a) (hg : Grow w w') : ArrX g w' v a := h.step (hg.by g)
theorem ArrX.old {g : Option Nat} {w0 w : World} {v : Value} {a : ArrP} (h : ArrV w0 v a) (hG : Grow w0 w) (hg : ∀ k, g = some k → w0.heap.size ≤ k) : ArrX g w v a := by
  obtain ⟨dv, iv, hv, h1, h2⟩ := h
  exact ⟨dv, iv, hv, DksX.old h1 hG hg, ItsX.old h2 hG hg⟩
theorem ArrX.plain {g : Option Nat} {w : World} {v : Value} {a : ArrP} (h : ArrX g w v a) : ArrV w v a := by
  obtain ⟨dv, iv, hv, h1, h2⟩ := h
  exact ⟨dv, iv, hv, h1.plain, h2.plain⟩
theorem ArrX.toG {g : Option Nat} {w : World} {v : Value} {a : ArrP} (h : ArrX g w v a) : ArrG g w v a := by
  obtain ⟨dv, iv, hv, h1, h2⟩ := h
  exact ⟨dv, iv, hv, Sl.lift (fun _ _ h => h.1) h1.1 (Grow.refl _), h2.plain⟩

/-- The cells of a stripe. -/
def cellsL (a : ArrP) (s : Nat) : List (List Int) := a.ds.map fun d => d.getD s []

/-- Four disks of three cells each. -/
def Whole (a : ArrP) : Prop := a.ds.length = 4 ∧ (∀ d ∈ a.ds, d.length = 3)

theorem cellsL_length (a : ArrP) (s : Nat) : (cellsL a s).length = a.ds.length := by simp [cellsL]

theorem cells_take_succ {a : ArrP} {k : Nat} (h : k < a.ds.length) (s : Nat) : (a.ds.take k).map (fun d => d.getD s []) ++ [(a.ds.getD k []).getD s []] = (a.ds.take (k + 1)).map (fun d => d.getD s []) := by
  rw [List.take_add_one, List.map_append]
  congr 1
  simp [h, List.getD_eq_getElem?_getD]

/-- A struct that lies in two cells, read whole. -/
theorem run_loadVar_two {P : Program} {ty : TypeId} (w : World) (g : Nat) (d : TypeDesc) {x y : Value} (hu : P.underlying ty = some d) (hd : (match d with | .struct _ | .array _ _ => true | _ => false) = true) (hi : (P.info? ty).map (·.size) = some 2)
    (h0 : w.cell? ⟨g, 0, none⟩ = some x) (h1 : w.cell? ⟨g, 1, none⟩ = some y) : (loadVar ty ⟨g, 0, none⟩).run P w = .ok (.agg #[x, y]) w := by
  have hl := run_loadCells_list (P := P) w ⟨g, 0, none⟩ [x, y] (fun j v hj => by
    match j, hj with
    | 0, hj => simp at hj; subst hj; simpa [Addr.add] using h0
    | 1, hj => simp at hj; subst hj; simpa [Addr.add] using h1)
  simp only [List.length_cons, List.length_nil] at hl
  cases hq : P.info? ty with
  | none => simp [hq] at hi
  | some i =>
    have hs : i.size = 2 := by simpa [hq] using hi
    have hagg : (isAgg ty).run P w = .ok true w := by
      unfold isAgg
      rw [Sem.run_bind, run_underlying hu w]
      cases d <;> simp_all
    simp [loadVar, Sem.run_bind, hagg, sizeOf, typeInfo, hq, hs, hl]

/-- Results one of which lies in two cells. -/
theorem results_two {P : Program} {fn : Func} {p : Tmp} {ty : TypeId} (h : fn.results = #[.cell p ty]) (tmps : Array Value) (w : World) (g : Nat) (d : TypeDesc) {x y : Value}
    (hp : tmps.getD p undef = .pointer (some ⟨g, 0, none⟩)) (hu : P.underlying ty = some d) (hd : (match d with | .struct _ | .array _ _ => true | _ => false) = true) (hi : (P.info? ty).map (·.size) = some 2)
    (h0 : w.cell? ⟨g, 0, none⟩ = some x) (h1 : w.cell? ⟨g, 1, none⟩ = some y) : (results fn tmps).run P w = .ok (.agg #[x, y]) w := by
  have hp' : tmps[p]?.getD undef = .pointer (some ⟨g, 0, none⟩) := by simpa using hp
  simp [results, h, hp', asAddr, run_loadVar_two w g d hu hd hi h0 h1]

theorem results_two1 {P : Program} {fn : Func} {p u : Tmp} {ty : TypeId} (h : fn.results = #[.cell p ty, .tmp u]) (tmps : Array Value) (w : World) (g : Nat) (d : TypeDesc) {x y : Value}
    (hp : tmps.getD p undef = .pointer (some ⟨g, 0, none⟩)) (hu : P.underlying ty = some d) (hd : (match d with | .struct _ | .array _ _ => true | _ => false) = true) (hi : (P.info? ty).map (·.size) = some 2)
    (h0 : w.cell? ⟨g, 0, none⟩ = some x) (h1 : w.cell? ⟨g, 1, none⟩ = some y) : (results fn tmps).run P w = .ok (.tuple #[.agg #[x, y], tmps.getD u undef]) w := by
  have hp' : tmps[p]?.getD undef = .pointer (some ⟨g, 0, none⟩) := by simpa using hp
  simp [results, h, hp', asAddr, run_loadVar_two w g d hu hd hi h0 h1, Result.andThen]

theorem results_two2 {P : Program} {fn : Func} {p u v : Tmp} {ty : TypeId} (h : fn.results = #[.cell p ty, .tmp u, .tmp v]) (tmps : Array Value) (w : World) (g : Nat) (d : TypeDesc) {x y : Value}
    (hp : tmps.getD p undef = .pointer (some ⟨g, 0, none⟩)) (hu : P.underlying ty = some d) (hd : (match d with | .struct _ | .array _ _ => true | _ => false) = true) (hi : (P.info? ty).map (·.size) = some 2)
    (h0 : w.cell? ⟨g, 0, none⟩ = some x) (h1 : w.cell? ⟨g, 1, none⟩ = some y) : (results fn tmps).run P w = .ok (.tuple #[.agg #[x, y], tmps.getD u undef, tmps.getD v undef]) w := by
  have hp' : tmps[p]?.getD undef = .pointer (some ⟨g, 0, none⟩) := by simpa using hp
  simp [results, h, hp', asAddr, run_loadVar_two w g d hu hd hi h0 h1, Result.andThen]

end Go.Proofs.Ytjggiameajndgab
