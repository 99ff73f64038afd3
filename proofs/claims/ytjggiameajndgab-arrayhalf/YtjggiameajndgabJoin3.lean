import Derived.Deep.Matrix
import Derived.ProofKit
import Derived.OpenShut
import Derived.Deep.AppendLies
import Derived.Test.YtjggiameajndgabJoin2
/-
  A slice whose elements are one cell each, read element by element; of slices of bytes, of slices of these, and so on. It reads so still where nothing old has turned.
-/
namespace Go.Proofs.Ytjggiameajndgab
open Go.RowKit Go.ChangeShapes Go.WideShapes Go.ChangeAt

/-- The value v is a slice; its cells read as xs, each by R. -/
def Sl {α : Type} (R : World → Value → α → Prop) (w : World) (v : Value) (xs : List α) : Prop :=
  ∃ ao cap, v = .slice ao xs.length cap ∧ xs.length ≤ cap ∧ cap ≤ maxLen ∧ (ao = none → cap = 0) ∧
    (0 < xs.length → ∃ b off, ao = some ⟨b, off, none⟩ ∧ ∀ (i : Nat) x, xs[i]? = some x → ∃ u, w.cell? ⟨b, off + i, none⟩ = some u ∧ R w u x)

/-- A slice of slices of bytes. -/
abbrev Bss := Sl Bs

theorem Sl.nil {α : Type} (R : World → Value → α → Prop) (w : World) : Sl R w (.slice none 0 0) [] :=
  ⟨none, 0, rfl, Nat.le_refl _, Nat.zero_le _, fun _ => rfl, fun h => by simp at h⟩

theorem Sl.len {α : Type} {R : World → Value → α → Prop} {w : World} {v : Value} {xs : List α} (h : Sl R w v xs) : xs.length ≤ maxLen := by
  obtain ⟨_, _, _, h1, h2, _⟩ := h; omega

theorem Sl.all {α : Type} {R : World → Value → α → Prop} {w : World} {v : Value} {xs : List α} (h : Sl R w v xs) : ∀ x ∈ xs, ∃ u, R w u x := by
  intro x hx
  obtain ⟨ao, cap, hv, h1, h2, h3, h4⟩ := h
  obtain ⟨i, hi, rfl⟩ := List.mem_iff_getElem.1 hx
  obtain ⟨b, off, e, hc⟩ := h4 (by omega)
  obtain ⟨u, _, hu⟩ := hc i xs[i] (by simp [hi])
  exact ⟨u, hu⟩

theorem Sl.below {α : Type} {R : World → Value → α → Prop} {w w' : World} {v : Value} {xs : List α} (hR : ∀ u x, R w u x → R w' u x) (h : Sl R w v xs) (hb : Below w.heap.size w w') : Sl R w' v xs := by
  obtain ⟨ao, cap, hv, h1, h2, h3, h4⟩ := h
  refine ⟨ao, cap, hv, h1, h2, h3, fun hp => ?_⟩
  obtain ⟨b, off, e, hc⟩ := h4 hp
  refine ⟨b, off, e, fun i x hx => ?_⟩
  obtain ⟨u, hu, hr⟩ := hc i x hx
  exact ⟨u, by rw [hb.cell (p := ⟨b, off + i, none⟩) (cell_lt hu)]; exact hu, hR u x hr⟩

theorem Sl.lift {α : Type} {R R' : World → Value → α → Prop} {w w' : World} {v : Value} {xs : List α} (hR : ∀ u x, R w u x → R' w' u x) (h : Sl R w v xs) (hb : Below w.heap.size w w') : Sl R' w' v xs := by
  obtain ⟨ao, cap, hv, h1, h2, h3, h4⟩ := h
  refine ⟨ao, cap, hv, h1, h2, h3, fun hp => ?_⟩
  obtain ⟨b, off, e, hc⟩ := h4 hp
  refine ⟨b, off, e, fun i x hx => ?_⟩
  obtain ⟨u, hu, hr⟩ := hc i x hx
  exact ⟨u, by rw [hb.cell (p := ⟨b, off + i, none⟩) (cell_lt hu)]; exact hu, hR u x hr⟩

theorem Bss.grow {w w' : World} {v : Value} {ls : List (List Int)} (h : Bss w v ls) (hb : Grow w w') : Bss w' v ls := Sl.below (fun _ _ h => h.grow hb) h hb

theorem Bss.octets {w : World} {v : Value} {ls : List (List Int)} (h : Bss w v ls) : ∀ b ∈ ls, Octets b := fun b hb => by
  obtain ⟨u, hu⟩ := h.all b hb
  exact hu.octets

/-- One slice of bytes of a slice of them: its cell, and how it reads. -/
theorem Sl.bytesAt {w : World} {b off : Nat} {ls : List (List Int)} (hc : ∀ (i : Nat) x, ls[i]? = some x → ∃ u, w.cell? ⟨b, off + i, none⟩ = some u ∧ Bs w u x) {k : Nat} (hk : k < ls.length) :
    ∃ ao cap, w.cell? ⟨b, off + k, none⟩ = some (.slice ao (ls.getD k []).length cap) ∧ Bs w (.slice ao (ls.getD k []).length cap) (ls.getD k []) := by
  obtain ⟨u, hu, hr⟩ := hc k (ls.getD k []) (by simp [List.getD_eq_getElem?_getD, hk])
  have hr' := hr
  obtain ⟨ao, cap, rfl, -⟩ := hr
  exact ⟨ao, cap, hu, hr'⟩

/-- A row of the call's own is a slice that reads so. -/
theorem Sl.of_own {α : Type} {R : World → Value → α → Prop} {w : World} {base : Nat} {e : TypeId} {v : Value} {n : Nat} {us : List Value} {xs : List α} (h : w.ownsRow base e 1 v n us) (hn : xs.length = n)
    (hR : ∀ (i : Nat) u x, us[i]? = some u → xs[i]? = some x → R w u x) : Sl R w v xs := by
  obtain ⟨hl, h⟩ := h
  subst hn
  rcases h with ⟨rfl, h0⟩ | ⟨g, cap, cur, rfl, hg, hh, hc, hm, hs, ht⟩
  · have : xs = [] := List.eq_nil_of_length_eq_zero h0
    subst this
    exact Sl.nil R w
  · refine ⟨some ⟨g, 0, none⟩, cap, rfl, hc, hm, (fun h => nomatch h), fun _ => ⟨g, 0, rfl, fun i x hx => ?_⟩⟩
    have hi : i < xs.length := by
      by_cases hi : i < xs.length
      · exact hi
      · simp [List.getElem?_eq_none (Nat.le_of_not_lt hi)] at hx
    have hiu : i < us.length := by omega
    have h1 : cur.toList[i]? = some us[i] := by
      have h2 : (cur.toList.take (xs.length * 1))[i]? = some us[i] := by
        rw [ht]; simp [hiu]
      rw [List.getElem?_take] at h2
      split at h2
      · exact h2
      · cases h2
    refine ⟨us[i], ?_, hR i us[i] x (by simp [hiu]) hx⟩
    simp [World.cell?, hh]
    simpa using h1

/-- A row that is known whole. -/
theorem Sl.row {α : Type} {R : World → Value → α → Prop} {w : World} {e : TypeId} {mk : Nat × Nat} {g n : Nat} {us : List Value} {xs : List α} (hg : w.heap[g]? = some (.cells us.toArray e mk)) (hn : xs.length = n) (hu : us.length = n) (h : n ≤ maxLen)
    (hR : ∀ (i : Nat) u x, us[i]? = some u → xs[i]? = some x → R w u x) : Sl R w (.slice (some ⟨g, 0, none⟩) n n) xs := by
  subst hn
  refine ⟨some ⟨g, 0, none⟩, xs.length, rfl, Nat.le_refl _, h, (fun h => nomatch h), fun _ => ⟨g, 0, rfl, fun i x hx => ?_⟩⟩
  have hi : i < xs.length := by
    by_cases hi : i < xs.length
    · exact hi
    · simp [List.getElem?_eq_none (Nat.le_of_not_lt hi)] at hx
  have hiu : i < us.length := by omega
  refine ⟨us[i], ?_, hR i us[i] x (by simp [hiu]) hx⟩
  simp only [World.cell?, hg]
  simp [hiu]

/-- What lies in a slice, one cell each, as a list of values. -/
theorem Sl.values {α : Type} {R : World → Value → α → Prop} {w : World} {ao : Option Addr} {n cap : Nat} {xs : List α} (h : Sl R w (.slice ao n cap) xs) :
    ∃ us : List Value, us.length = n ∧ xs.length = n ∧ (∀ ad, ao = some ad → ∀ (j : Nat) u, us[j]? = some u → w.cell? (ad.add j) = some u) ∧ (∀ (i : Nat) u x, us[i]? = some u → xs[i]? = some x → R w u x) := by
  obtain ⟨a1, c1, e1, h1, h2, h3, h4⟩ := h
  injection e1 with e1 e2 e3
  subst e1 e2 e3
  by_cases hp : 0 < xs.length
  · obtain ⟨b, off, rfl, hc⟩ := h4 hp
    have hch : ∀ i : Nat, ∃ u : Value, ∀ x, xs[i]? = some x → w.cell? ⟨b, off + i, none⟩ = some u ∧ R w u x := by
      intro i
      by_cases hi : i < xs.length
      · obtain ⟨u, hu, hr⟩ := hc i xs[i] (by simp [hi])
        refine ⟨u, fun x hx => ?_⟩
        simp [hi] at hx
        subst hx
        exact ⟨hu, hr⟩
      · exact ⟨.slice none 0 0, fun x hx => by simp [List.getElem?_eq_none (Nat.le_of_not_lt hi)] at hx⟩
    refine ⟨(List.range xs.length).map fun i => (hch i).choose, by simp, rfl, ?_, ?_⟩
    · intro ad had j u hu
      injection had with had
      subst had
      simp only [List.getElem?_map, Option.map_eq_some_iff] at hu
      obtain ⟨j', hj', rfl⟩ := hu
      obtain ⟨hj, rfl⟩ := List.getElem?_eq_some_iff.1 hj'
      simp at hj
      have hplain : (⟨b, off, none⟩ : Addr).add j = ⟨b, off + j, none⟩ := by unfold Addr.add; split <;> simp_all
      rw [hplain]
      simpa using ((hch j).choose_spec xs[j] (by simp [hj])).1
    · intro i u x hu hx
      simp only [List.getElem?_map, Option.map_eq_some_iff] at hu
      obtain ⟨j', hj', rfl⟩ := hu
      obtain ⟨hj, rfl⟩ := List.getElem?_eq_some_iff.1 hj'
      simp at hj
      simpa using ((hch i).choose_spec x hx).2
  · have hx : xs = [] := List.eq_nil_of_length_eq_zero (by omega)
    subst hx
    exact ⟨[], rfl, rfl, fun _ _ j u hu => by simp at hu, fun i u x hu => by simp at hu⟩

/-- Slices are one cell each. -/
theorem bs_oneCell {w : World} {us : List Value} {ls : List (List Int)} (hl : us.length = ls.length) (h : ∀ (i : Nat) u x, us[i]? = some u → ls[i]? = some x → Bs w u x) : ∀ u ∈ us, u.oneCell' = true := by
  intro u hu
  obtain ⟨i, hi, rfl⟩ := List.mem_iff_getElem.1 hu
  obtain ⟨ao, cap, e, -⟩ := h i us[i] (ls[i]'(by omega)) (by simp [hi]) (by simp [show i < ls.length by omega])
  rw [e]
  rfl

theorem wf_octet' {n : Int} (h : (Lit.int .u8 n).wf = true) : 0 ≤ n ∧ n ≤ 255 := by
  have := bounds_u8 h
  omega

/-- A cell that is a slice of bytes: what it reads as. -/
theorem bs_of_trod {P : Program} {H : Type} {enc : TypeId × Value → H} {W : World} {base : Nat} {sp : Nat → Bool} {held : Bool} {t e : TypeId} {v : Value} {fuel : Nat} {x : DataW H × List MemPlace}
    (ht : P.underlying t = some (.slice e)) (he : P.underlying e = some (.int .u8)) (hc : P.cellsOf e = 1) (h : DataW.trod enc P W base sp held fuel t [v] = some x) :
    ∃ l, Bs W v l := by
  rcases open_ints ht he hc h with ⟨hcs, _⟩ | ⟨x, len0, cap0, zs, hcs, _, hl, hm, hz, hx, hcell, hwz⟩
  · simp at hcs
    subst hcs
    exact ⟨[], Bs.nil W⟩
  · simp at hcs
    subst hcs
    have hlz : len0 ≤ zs.length := by rw [hz]; split <;> omega
    have hlen : (zs.take len0).length = len0 := by simp; omega
    refine ⟨zs.take len0, ⟨some x, cap0, by rw [hlen], by omega, hm, (fun h => nomatch h), fun n hn => wf_octet' (hwz n (List.mem_of_mem_take hn)), fun hp => ?_⟩⟩
    rw [hlen] at hp
    obtain ⟨b, off, spot⟩ := x
    have hspot : spot = none := by simpa [Addr.add] using World.cell?_spot (hcell 0 (by omega))
    subst hspot
    refine ⟨b, off, rfl, fun i hi => ?_⟩
    rw [hlen] at hi
    have hplain : (⟨b, off, none⟩ : Addr).add i = ⟨b, off + i, none⟩ := by unfold Addr.add; split <;> simp_all
    rw [← hplain, hcell i (by omega)]
    simp [List.getD_eq_getElem?_getD, hi]

/-- A cell that is a slice of one-cell elements: what it reads as, where each element does. -/
theorem sl_of_trod {α : Type} {R : World → Value → α → Prop} {P : Program} {H : Type} {enc : TypeId × Value → H} {W : World} {base : Nat} {sp : Nat → Bool} {held : Bool} {t e : TypeId} {v : Value} {fuel : Nat} {x : DataW H × List MemPlace}
    (ht : P.underlying t = some (.slice e)) (hc : P.cellsOf e = 1) (hR : ∀ n u y, DataW.trod enc P W base sp held n e [u] = some y → ∃ l, R W u l) (h : DataW.trod enc P W base sp held fuel t [v] = some x) :
    ∃ xs, Sl R W v xs := by
  rcases Go.Deep.open_slice1 ht hc h with ⟨hcs, _⟩ | ⟨a, len, cap, m, n, V, D, Pl, hcs, hb, hl, hm, hmm, hx, hV⟩
  · simp at hcs
    subst hcs
    exact ⟨[], Sl.nil R W⟩
  · simp at hcs
    subst hcs
    have hlm : len ≤ m := by rw [hmm]; split <;> omega
    have hch : ∀ i : Nat, i < len → ∃ l, R W (V i) l := fun i hi => hR n (V i) _ (hV i (by omega)).2
    by_cases hp : 0 < len
    · obtain ⟨d, _⟩ := hch 0 hp
      have hch' : ∀ i : Nat, ∃ l, i < len → R W (V i) l := fun i => by
        by_cases hi : i < len
        · obtain ⟨l, hl⟩ := hch i hi
          exact ⟨l, fun _ => hl⟩
        · exact ⟨d, fun h => absurd h hi⟩
      have hspot := World.cell?_spot (hV 0 (by omega)).1
      obtain ⟨b, off, spot⟩ := a
      have hspot : spot = none := by simpa [Addr.add] using hspot
      subst hspot
      refine ⟨(List.range len).map fun i => (hch' i).choose, some ⟨b, off, none⟩, cap, by simp, by simpa using hl, hm, (fun h => nomatch h), fun _ => ⟨b, off, rfl, fun i x hx => ?_⟩⟩
      simp only [List.getElem?_map, Option.map_eq_some_iff] at hx
      obtain ⟨j', hj', rfl⟩ := hx
      obtain ⟨hj, rfl⟩ := List.getElem?_eq_some_iff.1 hj'
      simp at hj
      have hplain : (⟨b, off, none⟩ : Addr).add i = ⟨b, off + i, none⟩ := by unfold Addr.add; split <;> simp_all
      refine ⟨V i, by rw [← hplain]; exact (hV i (by omega)).1, ?_⟩
      simpa using (hch' i).choose_spec hj
    · obtain rfl : len = 0 := by omega
      exact ⟨[], some a, cap, rfl, Nat.zero_le _, hm, (fun h => nomatch h), fun h => by simp at h⟩

/-- A slice of slices of bytes that came in: what it reads as. -/
theorem bss_of_trod {P : Program} {H : Type} {enc : TypeId × Value → H} {W : World} {base : Nat} {sp : Nat → Bool} {held : Bool} {t e q : TypeId} {v : Value} {fuel : Nat} {x : DataW H × List MemPlace}
    (ht : P.underlying t = some (.slice e)) (he : P.underlying e = some (.slice q)) (hq : P.underlying q = some (.int .u8)) (ce : P.cellsOf e = 1) (cq : P.cellsOf q = 1) (h : DataW.trod enc P W base sp held fuel t [v] = some x) :
    ∃ ls, Bss W v ls := sl_of_trod ht ce (fun _ _ _ h => bs_of_trod he hq cq h) h


/-- A slice of slices of bytes that is an argument: what it reads as. -/
theorem open_bss {P : Program} {H : Type} {enc : TypeId × Value → H} {W : World} {base : Nat} {sp : Nat → Bool} {held : Bool} {t e q : TypeId} {v : Value} {d : DataW H} {p : List MemPlace}
    (ht : P.underlying t = some (.slice e)) (he : P.underlying e = some (.slice q)) (hq : P.underlying q = some (.int .u8)) (ce : P.cellsOf e = 1) (cq : P.cellsOf q = 1) {b0 : Nat} (hv : Value.okWide P W .any b0 t v)
    (h : DataW.Trod enc P W base sp held t v d p) : ∃ ls, Bss W v ls := by
  obtain ⟨a0, len0, cap0, rfl⟩ := okWide_slice ht hv
  obtain ⟨fuel, hf⟩ := h
  exact bss_of_trod ht he hq ce cq (v := .slice a0 len0 cap0) (by simpa [Value.cells] using hf)

theorem Bs.cells {w : World} {b off n cap : Nat} {l : List Int} (h : Bs w (.slice (some ⟨b, off, none⟩) n cap) l) : ∀ i, i < l.length → w.cell? ⟨b, off + i, none⟩ = some (.int .u8 (l.getD i 0)) := by
  intro i hi
  obtain ⟨a1, c1, e1, -, -, -, -, h⟩ := h
  injection e1 with e1 _ _
  obtain ⟨b', off', e2, hc⟩ := h (by omega)
  rw [← e1] at e2
  injection e2 with e2
  injection e2 with e3 e4
  subst e3 e4
  exact hc i hi

theorem Bs.form {w : World} {v : Value} {l : List Int} (h : Bs w v l) : ∃ ao n cap, v = .slice ao n cap := by
  obtain ⟨ao, cap, rfl, -⟩ := h
  exact ⟨_, _, _, rfl⟩

/-- New memory that reads as these slices of bytes. -/
def NewBss (ls : List (List Int)) (v : Value) (w : World) : Prop := ∃ g cap, v = .slice (some ⟨g, 0, none⟩) ls.length cap ∧ Bss w v ls

theorem NewBss.stable (ls : List (List Int)) : ∀ (v : Value) (x y : World), NewBss ls v x → Grow x y → NewBss ls v y := fun _ _ _ ⟨g, cap, hv, hb⟩ h => ⟨g, cap, hv, hb.grow h⟩

/-- Values that read as these slices of bytes. -/
def BsL (w : World) (us : List Value) (ls : List (List Int)) : Prop := us.length = ls.length ∧ ∀ (i : Nat) u x, us[i]? = some u → ls[i]? = some x → Bs w u x

theorem BsL.grow {w w' : World} {us : List Value} {ls : List (List Int)} (h : BsL w us ls) (hg : Grow w w') : BsL w' us ls := ⟨h.1, fun i u x hu hx => (h.2 i u x hu hx).grow hg⟩

theorem BsL.nil (w : World) : BsL w [] [] := ⟨rfl, fun i u x hu => by simp at hu⟩

theorem BsL.one {w : World} {v : Value} {l : List Int} (h : Bs w v l) : BsL w [v] [l] := ⟨rfl, fun i u x hu hx => by
  match i, hu, hx with
  | 0, hu, hx => simp at hu hx; subst hu hx; exact h
  | n + 1, hu, _ => simp at hu⟩

theorem BsL.append {w : World} {us vs : List Value} {ls ms : List (List Int)} (h : BsL w us ls) (g : BsL w vs ms) : BsL w (us ++ vs) (ls ++ ms) :=
  ⟨by simp [h.1, g.1], fun i u x hu hx => by
    by_cases hi : i < us.length
    · rw [List.getElem?_append_left hi] at hu
      rw [List.getElem?_append_left (by have := h.1; omega)] at hx
      exact h.2 i u x hu hx
    · rw [List.getElem?_append_right (by omega)] at hu
      rw [List.getElem?_append_right (by have := h.1; omega)] at hx
      have := h.1
      exact g.2 _ u x hu (by rw [this]; exact hx)⟩

theorem BsL.oneCell {w : World} {us : List Value} {ls : List (List Int)} (h : BsL w us ls) : ∀ u ∈ us, u.oneCell' = true := bs_oneCell h.1 h.2

theorem BsL.own {w : World} {base : Nat} {e : TypeId} {v : Value} {n : Nat} {us : List Value} {ls : List (List Int)} (h : BsL w us ls) (ho : w.ownsRow base e 1 v n us) (hn : ls.length = n) : Bss w v ls := Sl.of_own ho hn h.2

/-- A slice of slices of bytes, by its values. -/
theorem Bss.values {w : World} {ao : Option Addr} {n cap : Nat} {ls : List (List Int)} (h : Bss w (.slice ao n cap) ls) :
    ∃ us : List Value, us.length = n ∧ ls.length = n ∧ (∀ ad, ao = some ad → ∀ (j : Nat) u, us[j]? = some u → w.cell? (ad.add j) = some u) ∧ BsL w us ls ∧ (ao = none → n = 0 ∧ cap = 0) := by
  obtain ⟨us, h1, h2, h3, h4⟩ := Sl.values h
  refine ⟨us, h1, h2, h3, ⟨by omega, h4⟩, fun hn => ?_⟩
  obtain ⟨a1, c1, e1, k1, k2, k3, -⟩ := h
  injection e1 with e1 e2 e3
  have := k3 (by rw [← e1]; exact hn)
  omega

theorem Sl.form {α : Type} {R : World → Value → α → Prop} {w : World} {v : Value} {xs : List α} (h : Sl R w v xs) : ∃ ao cap, v = .slice ao xs.length cap := by
  obtain ⟨ao, cap, rfl, -⟩ := h
  exact ⟨_, _, rfl⟩

theorem cell_lt' {w : World} {a : Addr} {v : Value} (h : w.cell? a = some v) : a.block < w.heap.size := by
  by_cases hb : a.block < w.heap.size
  · exact hb
  · exfalso
    simp [World.cell?, Array.getElem?_eq_none (Nat.le_of_not_lt hb)] at h

theorem Grow.at {w w' : World} (hg : Grow w w') {a : Addr} {v : Value} (h : w.cell? a = some v) : w'.cell? a = some v := (hg.cell (p := a) (cell_lt' h)).trans h

theorem Grow.grown {w0 w w' : World} {row : Option Nat} (h : Grow w0 w) (hg : w.grownBy w' row) (hrow : ∀ k, row = some k → w0.heap.size ≤ k) : Grow w0 w' := Below.grown h hg h.size hrow

/-- It reads so still where another block alone was written. -/
theorem Bs.grownBy {w w' : World} {g off n cap : Nat} {l : List Int} {row : Option Nat} (h : Bs w (.slice (some ⟨g, off, none⟩) n cap) l) (hg : w.grownBy w' row) (hne : some g ≠ row) : Bs w' (.slice (some ⟨g, off, none⟩) n cap) l := by
  have hc := h.cells
  obtain ⟨ao, c1, e1, h1, h2, h3, h4, h5⟩ := h
  injection e1 with e1 e2 e3
  subst e1 e2 e3
  exact ⟨_, _, rfl, h1, h2, h3, h4, fun _ => ⟨g, off, rfl, fun i hi => hg.cell (a := ⟨g, off + i, none⟩) (hc i hi) hne⟩⟩

theorem Sl.cells {α : Type} {R : World → Value → α → Prop} {w : World} {b off n cap : Nat} {xs : List α} (h : Sl R w (.slice (some ⟨b, off, none⟩) n cap) xs) : ∀ (i : Nat) x, xs[i]? = some x → ∃ u, w.cell? ⟨b, off + i, none⟩ = some u ∧ R w u x := by
  intro i x hx
  obtain ⟨a1, c1, e1, -, -, -, h⟩ := h
  injection e1 with e1 _ _
  have hi : i < xs.length := by
    by_cases hi : i < xs.length
    · exact hi
    · simp [List.getElem?_eq_none (Nat.le_of_not_lt hi)] at hx
  obtain ⟨b', off', e2, hc⟩ := h (by omega)
  rw [← e1] at e2
  injection e2 with e2
  injection e2 with e3 e4
  subst e3 e4
  exact hc i x hx

end Go.Proofs.Ytjggiameajndgab

/-
  A row of the call's own that grows element by element, each element readable whatever is written into the row itself. A law for the walk: append of one element.
-/
namespace Go.Proofs.Ytjggiameajndgab
open Go.RowKit

/-- It reads so in every world that agrees with w off the row g. -/
def Off {α : Type} (R : World → Value → α → Prop) (g : Option Nat) (w : World) (u : Value) (x : α) : Prop := ∀ w', w.grownBy w' g → R w' u x

/-- What reads so reads so still where nothing old has turned. -/
def Stays {α : Type} (R : World → Value → α → Prop) : Prop := ∀ w w' u x, R w u x → Grow w w' → R w' u x

theorem Grow.by {w w' : World} (h : Grow w w') (g : Option Nat) : w.grownBy w' g := ⟨h.os, h.tape, h.output, h.size, fun k hk _ => h.block k hk⟩
theorem Grow.of {w w' : World} (h : w.grownBy w' none) : Grow w w' := ⟨h.os, h.tape, h.output, h.size, fun k hk => h.block k hk (by simp)⟩

theorem Bs.stays : Stays Bs := fun _ _ _ _ h g => h.grow g
theorem Sl.stays {α : Type} {R : World → Value → α → Prop} (hR : Stays R) : Stays (Sl R) := fun _ _ _ _ h g => Sl.below (fun u x h => hR _ _ u x h g) h g
theorem Bss.stays : Stays Bss := Sl.stays Bs.stays

section
variable {α : Type} {R : World → Value → α → Prop} {g : Option Nat} {w w0 w1 : World} {u v : Value} {x : α} {xs : List α} {B : Nat} {e : TypeId}

theorem Off.here (h : Off R g w u x) : R w u x := h w ⟨rfl, rfl, rfl, Nat.le_refl _, fun _ _ _ => rfl⟩
theorem Off.step (h : Off R g w u x) (hg : w.grownBy w1 g) : Off R g w1 u x := fun w' h' => h w' (hg.trans h')
theorem Off.grow (h : Off R g w u x) (hg : Grow w w1) : Off R g w1 u x := h.step (hg.by g)
theorem Off.move (h : Off R g w u x) (hg : w.grownBy w1 g) {k : Nat} (hk : w.heap.size ≤ k) : Off R (some k) w1 u x := fun w' h' =>
  h w' ⟨h'.os.trans hg.os, h'.tape.trans hg.tape, h'.output.trans hg.output, Nat.le_trans hg.size h'.size, fun j hj hne => (h'.block j (Nat.lt_of_lt_of_le hj hg.size) (fun e => by injection e with e; omega)).trans (hg.block j hj hne)⟩
theorem Off.old (hR : Stays R) (h : R w0 u x) (hg : Grow w0 w) (hk : ∀ k, g = some k → w0.heap.size ≤ k) : Off R g w u x := fun w' h' =>
  hR w0 w' u x h ⟨h'.os.trans hg.os, h'.tape.trans hg.tape, h'.output.trans hg.output, Nat.le_trans hg.size h'.size, fun j hj => (h'.block j (Nat.lt_of_lt_of_le hj hg.size) (fun e => by have := hk j e.symm; omega)).trans (hg.block j hj)⟩
theorem Off.plain (hR : Stays R) (h : R w u x) : Off R none w u x := Off.old hR h (Grow.refl _) (fun _ h => nomatch h)

/-- The slice v of the call's own reads as xs; it may be written on. -/
def Rowing (R : World → Value → α → Prop) (B : Nat) (e : TypeId) (w : World) (v : Value) (xs : List α) : Prop :=
  ∃ us, w.ownsRow B e 1 v xs.length us ∧ us.length = xs.length ∧ ∀ (i : Nat) u x, us[i]? = some u → xs[i]? = some x → Off R v.ownBlock w u x

theorem Rowing.nil (R : World → Value → α → Prop) (B : Nat) (e : TypeId) (w : World) : Rowing R B e w (.slice none 0 0) [] :=
  ⟨[], World.ownsRow_nil _ _ _ _, rfl, fun i u x hu => by simp at hu⟩

theorem Rowing.lit0 (R : World → Value → α → Prop) {B : Nat} (e : TypeId) (w : World) (hB : B ≤ w.heap.size) : Rowing R B e (w.alloc (.cells #[] e)) (.slice (some ⟨w.heap.size, 0, none⟩) 0 0) [] :=
  ⟨[], World.ownsRow_lit w #[] 0 hB (Nat.zero_le _) rfl, rfl, fun i u x hu => by simp at hu⟩

theorem Rowing.grow (h : Rowing R B e w v xs) (hg : Grow w w1) : Rowing R B e w1 v xs := by
  obtain ⟨us, h1, h2, h3⟩ := h
  exact ⟨us, grow_own h1 hg, h2, fun i u x hu hx => (h3 i u x hu hx).grow hg⟩

theorem Rowing.done (h : Rowing R B e w v xs) : Sl R w v xs := by
  obtain ⟨us, h1, _, h3⟩ := h
  exact Sl.of_own h1 rfl (fun i u x hu hx => (h3 i u x hu hx).here)

theorem Rowing.base (h : Rowing R B e w v xs) : ∀ k, v.ownBlock = some k → B ≤ k ∧ k < w.heap.size := by
  obtain ⟨us, h1, _, _⟩ := h
  exact h1.lt

theorem Rowing.low (h : Rowing R B e w v xs) {B' : Nat} (hb : B' ≤ B) : Rowing R B' e w v xs := by
  obtain ⟨us, h1, h2, h3⟩ := h
  exact ⟨us, ⟨h1.1, h1.2.imp id fun ⟨g, cap, cur, k1, k2, k3⟩ => ⟨g, cap, cur, k1, Nat.le_trans hb k2, k3⟩⟩, h2, h3⟩

theorem Rowing.len (h : Rowing R B e w v xs) : xs.length ≤ maxLen := h.done.len

/-- An append of one element to such a row. -/
theorem wpList_push {P : Program} {ops : Array Oper} {rest : List Oper} {o : Oper} {a : Act} {Q : Exit → Act → World → Prop} (hgd : o.guard = none) (s y : Operand) (t : TypeId)
    (ho : o.op = .call { callee := .builtin .append, args := #[s, y], argTypes := #[t, t] })
    (i : TypeInfo) (z : Value) (bytes : Nat) (ht : P.underlying t = some (.slice e)) (hi : P.info? e = some i) (hz : i.zero = some z)
    (hsize : i.size = 1) (hby : i.bytes = bytes) (hzs : z.cells.size = 1)
    (w0 : World) (hG : Grow w0 w) (hB : w0.heap.size = B)
    (hs : a.eval s = v) (hrow : Rowing R B e w v xs) (hu1 : u.oneCell' = true) (hoff : Off R v.ownBlock w u x)
    (H : Nat) (hH : w.heap.size = H) (hy : a.eval y = .slice (some ⟨H, 0, none⟩) 1 1)
    (h63 : xs.length + 1 ≤ 4611686018427387904) (hbytes : (xs.length + 1) * bytes ≤ 140737488355328)
    (h : ∀ v' w', (∃ g cap, v' = .slice (some ⟨g, 0, none⟩) (xs.length + 1) cap) → Rowing R B e w' v' (xs ++ [x]) → Grow w0 w' → wpList P ops Q rest (a.put o.dst v') w') :
    wpList P ops Q (o :: rest) a (w.alloc (.cells #[u] e)) := by
  subst hH
  obtain ⟨us, h1, h2, h3⟩ := hrow
  have hsz : w.heap.size < (w.alloc (.cells #[u] e)).heap.size := by simp
  have hgA : Grow w (w.alloc (.cells #[u] e)) := (Below.refl _ _).alloc (Nat.le_refl _) _
  refine wpList_append_lies _ hgd s y t ho B e i z 1 bytes ht hi hz hsize hby hzs (by decide) v xs.length us hs (h1.alloc _) ⟨w.heap.size, 0, none⟩ 1 1 [u] hy rfl ?_ ?_ (by decide) (by unfold maxLen; omega) hbytes (by have := hG.size; omega) _ rfl ?_
  · exact fun j q hj => World.news_of_block (heap_alloc_new w _) j q (by simpa using hj)
  · intro q hq
    simp at hq
    subst hq
    exact hu1
  · intro g' cap w' hown hgr hat _
    refine h _ _ ⟨g', cap, rfl⟩ ⟨us ++ [u], by simpa using hown, by simp [h2], fun j q y' hq hy' => ?_⟩ (Below.grown (hG.trans hgA) hgr (Nat.le_trans hG.size (Nat.le_of_lt hsz)) (fun k hk => by have := (h1.lt k hk).1; omega))
    have key : ∀ q y', Off R v.ownBlock w q y' → Off R (some g') w' q y' := by
      intro q y' hq
      have hq' := hq.grow hgA
      rcases hat with hat | hat
      · rw [← hat]; exact hq'.step hgr
      · exact hq'.move hgr (by omega)
    show Off R (some g') w' q y'
    by_cases hj : j < us.length
    · rw [List.getElem?_append_left hj] at hq
      rw [List.getElem?_append_left (by omega)] at hy'
      exact key q y' (h3 j q y' hq hy')
    · rw [List.getElem?_append_right (by omega)] at hq
      rw [List.getElem?_append_right (by omega)] at hy'
      obtain hj0 : j - us.length = 0 := by
        by_cases h0 : j - us.length = 0
        · exact h0
        · rw [List.getElem?_eq_none (by simp; omega)] at hq; cases hq
      rw [hj0] at hq
      rw [← h2, hj0] at hy'
      simp at hq hy'
      subst hq hy'
      exact key _ _ hoff

end

/-- Bytes of a row of the call's own are readable whatever is written elsewhere. -/
theorem Off.own {w : World} {B : Nat} {e : TypeId} {v : Value} {n : Nat} {l : List Int} {g : Option Nat} (h : w.ownsRow B e 1 v n (l.map (Value.int .u8))) (ho : Octets l) (hg : ∀ k, g = some k → k < B) : Off Bs g w v l := fun w' h' =>
  Bs.of_own (h.kept h' (by
    cases hv : v.ownBlock with
    | none => exact .inl rfl
    | some b => exact .inr fun e => by have := hg b e.symm; have := (h.lt b hv).1; omega)) ho

/-- Bytes of a row that is known whole are readable whatever is written elsewhere. -/
theorem Off.row {w : World} {e : TypeId} {mk : Nat × Nat} {b : Nat} {l : List Int} {n : Nat} {g : Option Nat} (hb : w.heap[b]? = some (.cells (l.map (Value.int .u8)).toArray e mk)) (hn : l.length = n) (hm : n ≤ maxLen) (ho : Octets l) (hg : g ≠ some b) : Off Bs g w (.slice (some ⟨b, 0, none⟩) n n) l := fun w' h' => by
  have hlt : b < w.heap.size := by
    by_cases hlt : b < w.heap.size
    · exact hlt
    · rw [Array.getElem?_eq_none (Nat.le_of_not_lt hlt)] at hb; cases hb
  have hb' := (h'.block b hlt (fun e => hg e.symm)).trans hb
  subst hn
  refine ⟨some ⟨b, 0, none⟩, l.length, rfl, Nat.le_refl _, hm, (fun h => nomatch h), ho, fun _ => ⟨b, 0, rfl, fun i hi => ?_⟩⟩
  simp only [World.cell?, hb']
  simp [hi, List.getD_eq_getElem?_getD]

theorem Off.stays {α : Type} (R : World → Value → α → Prop) (g : Option Nat) : Stays (Off R g) := fun _ _ _ _ h hg => h.grow hg

/-- Slices whose elements are readable whatever is written into g read as they should. -/
theorem Sl.off {α : Type} {R : World → Value → α → Prop} {g : Option Nat} {w : World} {v : Value} {xs : List α} (h : Sl (Off R g) w v xs) : Sl R w v xs := by
  obtain ⟨ao, cap, hv, h1, h2, h3, h4⟩ := h
  refine ⟨ao, cap, hv, h1, h2, h3, fun hp => ?_⟩
  obtain ⟨b, off, e, hc⟩ := h4 hp
  refine ⟨b, off, e, fun i x hx => ?_⟩
  obtain ⟨u, hu, hr⟩ := hc i x hx
  exact ⟨u, hu, hr.here⟩

/-- Bytes of a row that is known whole, whatever is written into two others. -/
theorem Off.row2 {w : World} {e : TypeId} {mk : Nat × Nat} {b : Nat} {l : List Int} {n : Nat} {g g' : Option Nat} (hb : w.heap[b]? = some (.cells (l.map (Value.int .u8)).toArray e mk)) (hn : l.length = n) (hm : n ≤ maxLen) (ho : Octets l) (hg : g ≠ some b) (hg' : g' ≠ some b) : Off (Off Bs g) g' w (.slice (some ⟨b, 0, none⟩) n n) l := fun w' h' => by
  have hlt : b < w.heap.size := by
    by_cases hlt : b < w.heap.size
    · exact hlt
    · rw [Array.getElem?_eq_none (Nat.le_of_not_lt hlt)] at hb; cases hb
  exact Off.row ((h'.block b hlt (fun e => hg' e.symm)).trans hb) hn hm ho hg

theorem Grow.frozen {w w' : World} (hg : Grow w w') {a : Addr} (ha : a.block < w.heap.size) : w'.frozen? a = w.frozen? a := World.frozen?_of_block (hg.block a.block ha)

/-- An append of a slice to an empty row that was made for it: a copy of the call's own. -/
theorem wp_append_copy {P : Program} {w : World} {o : Oper} {a : Act} {K : Act → World → Prop} {Q : Exit → Act → World → Prop} (s y : Operand) (t : TypeId)
    (ho : o.op = .call { callee := .builtin .append, args := #[s, y], argTypes := #[t, t] })
    (e : TypeId) (i : TypeInfo) (z : Value) (bytes : Nat) (ht : P.underlying t = some (.slice e)) (hi : P.info? e = some i) (hz : i.zero = some z)
    (hsize : i.size = 1) (hby : i.bytes = bytes) (hzs : z.cells.size = 1)
    (H : Nat) (hE : w.heap[H]? = some (.cells #[] e (0, 0))) (w0 : World) (hG : Grow w0 w) (hH : w0.heap.size ≤ H) (hs : a.eval s = .slice (some ⟨H, 0, none⟩) 0 0)
    (ad : Addr) (m c : Nat) (news : List Value) (hy : a.eval y = .slice (some ad) m c) (hl : news.length = m) (hnews : ∀ (j : Nat) u, news[j]? = some u → w0.cell? (ad.add j) = some u) (h1 : ∀ u ∈ news, u.oneCell' = true)
    (hm : 0 < m) (h63 : m ≤ 4611686018427387904) (hbytes : m * bytes ≤ 140737488355328)
    (h : ∀ g cap w', w'.ownsRow w0.heap.size e 1 (.slice (some ⟨g, 0, none⟩) m cap) m news → Grow w0 w' → w0.heap.size ≤ g → (∀ k, k < w.heap.size → k ≠ H → w'.heap[k]? = w.heap[k]?) → w.heap.size ≤ w'.heap.size → (g = H ∨ g = w.heap.size) → K (a.put o.dst (.slice (some ⟨g, 0, none⟩) m cap)) w') : o.wp P a w K Q := by
  have hlt : H < w.heap.size := by
    by_cases hlt : H < w.heap.size
    · exact hlt
    · rw [Array.getElem?_eq_none (Nat.le_of_not_lt hlt)] at hE; cases hE
  have hown : w.ownsRow w0.heap.size e 1 (.slice (some ⟨H, 0, none⟩) 0 0) 0 [] := ⟨rfl, .inr ⟨H, 0, #[], rfl, hH, hE, Nat.le_refl _, Nat.zero_le _, rfl, rfl⟩⟩
  refine wp_append_lies w s y t ho w0.heap.size e i z 1 bytes ht hi hz hsize hby hzs (by decide) _ 0 [] hs hown ad m c news hy (by omega) (fun j u hu => hG.at (hnews j u hu)) h1 hm (by unfold maxLen; omega) (by simpa using hbytes) hG.size _ rfl ?_
  intro g cap w' h2 h3 h4 h5
  simp only [Nat.zero_add, List.nil_append] at h2 ⊢
  refine h g cap w' h2 (hG.grown h3 (fun k hk => by cases hk; exact hH)) ?_ (fun k hk hne => h3.block k hk (fun e => hne (by cases e; rfl))) h3.size ?_
  · rcases h4 with h4 | h4
    · cases h4; exact hH
    · rw [h4]; exact hG.size
  · rcases h4 with h4 | h4
    · cases h4; exact .inl rfl
    · exact .inr h4

theorem wpList_append_copy {P : Program} {w : World} {ops : Array Oper} {rest : List Oper} {o : Oper} {a : Act} {Q : Exit → Act → World → Prop} (hgd : o.guard = none) (s y : Operand) (t : TypeId)
    (ho : o.op = .call { callee := .builtin .append, args := #[s, y], argTypes := #[t, t] })
    (e : TypeId) (i : TypeInfo) (z : Value) (bytes : Nat) (ht : P.underlying t = some (.slice e)) (hi : P.info? e = some i) (hz : i.zero = some z)
    (hsize : i.size = 1) (hby : i.bytes = bytes) (hzs : z.cells.size = 1)
    (H : Nat) (hE : w.heap[H]? = some (.cells #[] e (0, 0))) (w0 : World) (hG : Grow w0 w) (hH : w0.heap.size ≤ H) (hs : a.eval s = .slice (some ⟨H, 0, none⟩) 0 0)
    (ad : Addr) (m c : Nat) (news : List Value) (hy : a.eval y = .slice (some ad) m c) (hl : news.length = m) (hnews : ∀ (j : Nat) u, news[j]? = some u → w0.cell? (ad.add j) = some u) (h1 : ∀ u ∈ news, u.oneCell' = true)
    (hm : 0 < m) (h63 : m ≤ 4611686018427387904) (hbytes : m * bytes ≤ 140737488355328)
    (h : ∀ g cap w', w'.ownsRow w0.heap.size e 1 (.slice (some ⟨g, 0, none⟩) m cap) m news → Grow w0 w' → w0.heap.size ≤ g → (∀ k, k < w.heap.size → k ≠ H → w'.heap[k]? = w.heap[k]?) → w.heap.size ≤ w'.heap.size → (g = H ∨ g = w.heap.size) → wpList P ops Q rest (a.put o.dst (.slice (some ⟨g, 0, none⟩) m cap)) w') : wpList P ops Q (o :: rest) a w :=
  wpList_plain hgd fun _ hK => wp_append_copy s y t ho e i z bytes ht hi hz hsize hby hzs H hE w0 hG hH hs ad m c news hy hl hnews h1 hm h63 hbytes fun g cap w' a1 a2 a3 a4 a5 a6 => hK _ _ (h g cap w' a1 a2 a3 a4 a5 a6)

theorem step_append_copy {P : Program} {w : World} {ops : Array Oper} {o : Oper} {a : Act} {K : Act → World → Prop} {Q : Exit → Act → World → Prop} {E : Prop} (hgd : o.guard = none) (s y : Operand) (t : TypeId)
    (ho : o.op = .call { callee := .builtin .append, args := #[s, y], argTypes := #[t, t] })
    (e : TypeId) (i : TypeInfo) (z : Value) (bytes : Nat) (ht : P.underlying t = some (.slice e)) (hi : P.info? e = some i) (hz : i.zero = some z)
    (hsize : i.size = 1) (hby : i.bytes = bytes) (hzs : z.cells.size = 1)
    (H : Nat) (hE : w.heap[H]? = some (.cells #[] e (0, 0))) (w0 : World) (hG : Grow w0 w) (hH : w0.heap.size ≤ H) (hs : a.eval s = .slice (some ⟨H, 0, none⟩) 0 0)
    (ad : Addr) (m c : Nat) (news : List Value) (hy : a.eval y = .slice (some ad) m c) (hl : news.length = m) (hnews : ∀ (j : Nat) u, news[j]? = some u → w0.cell? (ad.add j) = some u) (h1 : ∀ u ∈ news, u.oneCell' = true)
    (hm : 0 < m) (h63 : m ≤ 4611686018427387904) (hbytes : m * bytes ≤ 140737488355328)
    (h : ∀ g cap w', w'.ownsRow w0.heap.size e 1 (.slice (some ⟨g, 0, none⟩) m cap) m news → Grow w0 w' → w0.heap.size ≤ g → (∀ k, k < w.heap.size → k ≠ H → w'.heap[k]? = w.heap[k]?) → w.heap.size ≤ w'.heap.size → (g = H ∨ g = w.heap.size) → K (a.put o.dst (.slice (some ⟨g, 0, none⟩) m cap)) w') :
    if Region.wanted o (yielded ops a.tmps) = true then Oper.wp P o a w K Q else E := by
  have hw : Region.wanted o (yielded ops a.tmps) = true := by simp [Region.wanted, hgd]
  rw [if_pos hw]
  exact wp_append_copy s y t ho e i z bytes ht hi hz hsize hby hzs H hE w0 hG hH hs ad m c news hy hl hnews h1 hm h63 hbytes h

end Go.Proofs.Ytjggiameajndgab

/-
  An array, plain and as it lies: disks of cells, and intents.
-/
namespace Go.Proofs.Ytjggiameajndgab
open Go.RowKit

/-- An array. -/
structure ArrP where
  ds : List (List (List Int))
  is : List (Int × List (List Int))

/-- Intents, as they lie: two cells each. -/
def Its (w : World) (v : Value) (l : List (Int × List (List Int))) : Prop :=
  ∃ ao cap, v = .slice ao l.length cap ∧ l.length ≤ cap ∧ cap ≤ maxLen ∧ (ao = none → cap = 0) ∧
    (0 < l.length → ∃ b off, ao = some ⟨b, off, none⟩ ∧ ∀ (i : Nat) p, l[i]? = some p → w.cell? ⟨b, off + i * 2, none⟩ = some (.int .i64 p.1) ∧ ∃ cv, w.cell? ⟨b, off + i * 2 + 1, none⟩ = some cv ∧ Bss w cv p.2)

theorem Its.stays : Stays Its := fun w w' v l h hg => by
  obtain ⟨ao, cap, hv, h1, h2, h3, h4⟩ := h
  refine ⟨ao, cap, hv, h1, h2, h3, fun hp => ?_⟩
  obtain ⟨b, off, e, hc⟩ := h4 hp
  refine ⟨b, off, e, fun i p hi => ?_⟩
  obtain ⟨h5, cv, h6, h7⟩ := hc i p hi
  exact ⟨hg.at h5, cv, hg.at h6, h7.grow hg⟩

theorem Its.nil (w : World) : Its w (.slice none 0 0) [] := ⟨none, 0, rfl, Nat.le_refl _, Nat.zero_le _, fun _ => rfl, fun h => by simp at h⟩

/-- Disks, as they lie. -/
abbrev Dks := Sl Bss
theorem Dks.stays : Stays Dks := Sl.stays Bss.stays

/-- An array, as it lies. -/
def ArrV (w : World) (v : Value) (a : ArrP) : Prop := ∃ dv iv, v = .agg #[dv, iv] ∧ Dks w dv a.ds ∧ Its w iv a.is
theorem ArrV.stays : Stays ArrV := fun _ _ _ _ ⟨dv, iv, hv, h1, h2⟩ hg => ⟨dv, iv, hv, Dks.stays _ _ _ _ h1 hg, Its.stays _ _ _ _ h2 hg⟩
theorem ArrV.grow {w w' : World} {v : Value} {a : ArrP} (h : ArrV w v a) (hg : Grow w w') : ArrV w' v a := ArrV.stays _ _ _ _ h hg

theorem Its.form {w : World} {v : Value} {l : List (Int × List (List Int))} (h : Its w v l) : ∃ ao cap, v = .slice ao l.length cap ∧ l.length ≤ cap ∧ cap ≤ 9223372036854775807 := by
  obtain ⟨ao, cap, rfl, h1, h2, -⟩ := h
  unfold maxLen at h2
  exact ⟨_, _, rfl, h1, by omega⟩

theorem Sl.form' {α : Type} {R : World → Value → α → Prop} {w : World} {v : Value} {xs : List α} (h : Sl R w v xs) : ∃ ao cap, v = .slice ao xs.length cap ∧ xs.length ≤ cap ∧ cap ≤ 9223372036854775807 := by
  obtain ⟨ao, cap, rfl, h1, h2, -⟩ := h
  unfold maxLen at h2
  exact ⟨_, _, rfl, h1, by omega⟩

/-- An element of a slice: its cell, and how it reads. -/
theorem Sl.elem {α : Type} {R : World → Value → α → Prop} {w : World} {ao : Option Addr} {n cap : Nat} {xs : List α} (h : Sl R w (.slice ao n cap) xs) {k : Nat} (hk : k < xs.length) (d : α) :
    ∃ b off u, ao = some ⟨b, off, none⟩ ∧ w.cell? ⟨b, off + k, none⟩ = some u ∧ R w u (xs.getD k d) := by
  obtain ⟨a1, c1, e1, -, -, -, h⟩ := h
  injection e1 with e1 _ _
  subst e1
  obtain ⟨b, off, e2, hc⟩ := h (by omega)
  obtain ⟨u, hu, hr⟩ := hc k (xs.getD k d) (by simp [List.getD_eq_getElem?_getD, hk])
  exact ⟨b, off, u, e2, hu, hr⟩

/-- An element that is itself a slice: its cell, and how it reads. -/
theorem Sl.elems {α : Type} {R : World → Value → α → Prop} {w : World} {ao : Option Addr} {n cap : Nat} {xss : List (List α)} (h : Sl (Sl R) w (.slice ao n cap) xss) {k : Nat} (hk : k < xss.length) :
    ∃ b off a' c', ao = some ⟨b, off, none⟩ ∧ w.cell? ⟨b, off + k, none⟩ = some (.slice a' (xss.getD k []).length c') ∧ Sl R w (.slice a' (xss.getD k []).length c') (xss.getD k []) := by
  obtain ⟨b, off, u, e, hu, hr⟩ := h.elem hk []
  obtain ⟨a', c', rfl⟩ := hr.form
  exact ⟨b, off, a', c', e, hu, hr⟩

/-- An array, as it lies, whose cells are readable whatever is written into g. -/
def ArrG (g : Option Nat) (w : World) (v : Value) (a : ArrP) : Prop := ∃ dv iv, v = .agg #[dv, iv] ∧ Sl (Sl (Off Bs g)) w dv a.ds ∧ Its w iv a.is

theorem ArrG.of {g : Option Nat} {w0 w : World} {v : Value} {a : ArrP} (h : ArrV w0 v a) (hG : Grow w0 w) (hg : ∀ k, g = some k → w0.heap.size ≤ k) : ArrG g w v a := by
  obtain ⟨dv, iv, hv, h1, h2⟩ := h
  exact ⟨dv, iv, hv, Sl.lift (fun _ _ h => Sl.lift (fun _ _ h => Off.old Bs.stays h hG hg) h hG) h1 hG, Its.stays _ _ _ _ h2 hG⟩

theorem ArrG.plain {g : Option Nat} {w : World} {v : Value} {a : ArrP} (h : ArrG g w v a) : ArrV w v a := by
  obtain ⟨dv, iv, hv, h1, h2⟩ := h
  exact ⟨dv, iv, hv, Sl.lift (fun _ _ h => h.off) h1 (Grow.refl _), h2⟩

theorem ArrG.grow {g : Option Nat} {w w' : World} {v : Value} {a : ArrP} (h : ArrG g w v a) (hG : Grow w w') : ArrG g w' v a := by
  obtain ⟨dv, iv, hv, h1, h2⟩ := h
  exact ⟨dv, iv, hv, Sl.lift (fun _ _ h => Sl.lift (fun _ _ h => h.grow hG) h hG) h1 hG, Its.stays _ _ _ _ h2 hG⟩

/-- The row does not lie in g. -/
def RowOff (g : Option Nat) (v : Value) (n : Nat) : Prop := 0 < n → ∀ b, v.ownBlock = some b → g ≠ some b

/-- A slice whose row does not lie in g. -/
def SlX {α : Type} (g : Option Nat) (R : World → Value → α → Prop) (w : World) (v : Value) (xs : List α) : Prop := Sl R w v xs ∧ RowOff g v xs.length

theorem SlX.step {α : Type} {g : Option Nat} {R R' : World → Value → α → Prop} {w w' : World} {v : Value} {xs : List α} (h : SlX g R w v xs) (hR : ∀ u x, R w u x → R' w' u x) (hg : w.grownBy w' g) : SlX g R' w' v xs := by
  obtain ⟨⟨ao, cap, hv, h1, h2, h3, h4⟩, h5⟩ := h
  refine ⟨⟨ao, cap, hv, h1, h2, h3, fun hp => ?_⟩, h5⟩
  obtain ⟨b, off, e, hc⟩ := h4 hp
  refine ⟨b, off, e, fun i x hx => ?_⟩
  obtain ⟨u, hu, hr⟩ := hc i x hx
  have hb := h5 hp b (by rw [hv, e]; rfl)
  exact ⟨u, hg.cell (a := ⟨b, off + i, none⟩) hu (fun e => hb e.symm), hR u x hr⟩

theorem SlX.old {α : Type} {g : Option Nat} {R R' : World → Value → α → Prop} {w0 w : World} {v : Value} {xs : List α} (h : Sl R w0 v xs) (hR : ∀ u x, R w0 u x → R' w u x) (hG : Grow w0 w) (hg : ∀ k, g = some k → w0.heap.size ≤ k) : SlX g R' w v xs := by
  refine ⟨Sl.lift hR h hG, fun hp b hb e => ?_⟩
  obtain ⟨ao, cap, rfl, h1, h2, h3, h4⟩ := h
  obtain ⟨b', off, rfl, hc⟩ := h4 hp
  obtain ⟨u, hu, _⟩ := hc 0 (xs[0]) (by simp [hp])
  have h6 := cell_lt hu
  have h7 := hg b e
  simp only [Value.ownBlock, Option.some.injEq] at hb
  omega

abbrev BssX (g : Option Nat) := SlX g (Off Bs g)
abbrev DksX (g : Option Nat) := SlX g (BssX g)

theorem BssX.step {g : Option Nat} {w w' : World} {v : Value} {ls : List (List Int)} (h : BssX g w v ls) (hg : w.grownBy w' g) : BssX g w' v ls := SlX.step h (fun _ _ h => h.step hg) hg
theorem BssX.old {g : Option Nat} {w0 w : World} {v : Value} {ls : List (List Int)} (h : Bss w0 v ls) (hG : Grow w0 w) (hg : ∀ k, g = some k → w0.heap.size ≤ k) : BssX g w v ls := SlX.old h (fun _ _ h => Off.old Bs.stays h hG hg) hG hg
theorem BssX.plain {g : Option Nat} {w : World} {v : Value} {ls : List (List Int)} (h : BssX g w v ls) : Bss w v ls := Sl.off h.1
theorem DksX.step {g : Option Nat} {w w' : World} {v : Value} {ds : List (List (List Int))} (h : DksX g w v ds) (hg : w.grownBy w' g) : DksX g w' v ds := SlX.step h (fun _ _ h => BssX.step h hg) hg
theorem DksX.old {g : Option Nat} {w0 w : World} {v : Value} {ds : List (List (List Int))} (h : Dks w0 v ds) (hG : Grow w0 w) (hg : ∀ k, g = some k → w0.heap.size ≤ k) : DksX g w v ds := SlX.old h (fun _ _ h => BssX.old h hG hg) hG hg
theorem DksX.plain {g : Option Nat} {w : World} {v : Value} {ds : List (List (List Int))} (h : DksX g w v ds) : Dks w v ds := Sl.lift (fun _ _ h => BssX.plain h) h.1 (Grow.refl _)

/-- Intents, none of whose rows lies in g. -/
def ItsX (g : Option Nat) (w : World) (v : Value) (l : List (Int × List (List Int))) : Prop :=
  (∃ ao cap, v = .slice ao l.length cap ∧ l.length ≤ cap ∧ cap ≤ maxLen ∧ (ao = none → cap = 0) ∧
    (0 < l.length → ∃ b off, ao = some ⟨b, off, none⟩ ∧ ∀ (i : Nat) p, l[i]? = some p → w.cell? ⟨b, off + i * 2, none⟩ = some (.int .i64 p.1) ∧ ∃ cv, w.cell? ⟨b, off + i * 2 + 1, none⟩ = some cv ∧ BssX g w cv p.2)) ∧ RowOff g v l.length

theorem ItsX.step {g : Option Nat} {w w' : World} {v : Value} {l : List (Int × List (List Int))} (h : ItsX g w v l) (hg : w.grownBy w' g) : ItsX g w' v l := by
  obtain ⟨⟨ao, cap, hv, h1, h2, h3, h4⟩, h5⟩ := h
  refine ⟨⟨ao, cap, hv, h1, h2, h3, fun hp => ?_⟩, h5⟩
  obtain ⟨b, off, e, hc⟩ := h4 hp
  refine ⟨b, off, e, fun i p hi => ?_⟩
  obtain ⟨h6, cv, h7, h8⟩ := hc i p hi
  have hb := h5 hp b (by rw [hv, e]; rfl)
  exact ⟨hg.cell h6 (fun e => hb e.symm), cv, hg.cell h7 (fun e => hb e.symm), BssX.step h8 hg⟩

theorem ItsX.old {g : Option Nat} {w0 w : World} {v : Value} {l : List (Int × List (List Int))} (h : Its w0 v l) (hG : Grow w0 w) (hg : ∀ k, g = some k → w0.heap.size ≤ k) : ItsX g w v l := by
  obtain ⟨ao, cap, rfl, h1, h2, h3, h4⟩ := h
  refine ⟨⟨ao, cap, rfl, h1, h2, h3, fun hp => ?_⟩, fun hp b hb e => ?_⟩
  · obtain ⟨b, off, e, hc⟩ := h4 hp
    refine ⟨b, off, e, fun i p hi => ?_⟩
    obtain ⟨h6, cv, h7, h8⟩ := hc i p hi
    exact ⟨hG.at h6, cv, hG.at h7, BssX.old h8 hG hg⟩
  · obtain ⟨b', off, rfl, hc⟩ := h4 hp
    obtain ⟨h6, _⟩ := hc 0 (l[0]) (by simp [hp])
    have h6 := cell_lt h6
    have h7 := hg b e
    simp only [Value.ownBlock, Option.some.injEq] at hb
    omega

theorem ItsX.plain {g : Option Nat} {w : World} {v : Value} {l : List (Int × List (List Int))} (h : ItsX g w v l) : Its w v l := by
  obtain ⟨⟨ao, cap, hv, h1, h2, h3, h4⟩, h5⟩ := h
  refine ⟨ao, cap, hv, h1, h2, h3, fun hp => ?_⟩
  obtain ⟨b, off, e, hc⟩ := h4 hp
  refine ⟨b, off, e, fun i p hi => ?_⟩
  obtain ⟨h6, cv, h7, h8⟩ := hc i p hi
  exact ⟨h6, cv, h7, h8.plain⟩

theorem ItsX.nil (g : Option Nat) (w : World) : ItsX g w (.slice none 0 0) [] := ⟨Its.nil w |> fun ⟨ao, cap, h1, h2, h3, h4, _⟩ => ⟨ao, cap, h1, h2, h3, h4, fun h => by simp at h⟩, fun h => by simp at h⟩

/-- An array, as it lies, none of whose rows lies in g. -/
def ArrX (g : Option Nat) (w : World) (v : Value) (a : ArrP) : Prop := ∃ dv iv, v = .agg #[dv, iv] ∧ DksX g w dv a.ds ∧ ItsX g w iv a.is
theorem ArrX.step {g : Option Nat} {w w' : World} {v : Value} {a : ArrP} (h : ArrX g w v a) (hg : w.grownBy w' g) : ArrX g w' v a := by
  obtain ⟨dv, iv, hv, h1, h2⟩ := h
  exact ⟨dv, iv, hv, DksX.step h1 hg, h2.step hg⟩
theorem ArrX.grow {g : Option Nat} {w w' : World} {v : Value} {a : ArrP} (h : ArrX g w v a) (hg : Grow w w') : ArrX g w' v a := h.step (hg.by g)
theorem ArrX.old {g : Option Nat} {w0 w : World} {v : Value} {a : ArrP} (h : ArrV w0 v a) (hG : Grow w0 w) (hg : ∀ k, g = some k → w0.heap.size ≤ k) : ArrX g w v a := by
  obtain ⟨dv, iv, hv, h1, h2⟩ := h
  exact ⟨dv, iv, hv, DksX.old h1 hG hg, ItsX.old h2 hG hg⟩
theorem ArrX.plain {g : Option Nat} {w : World} {v : Value} {a : ArrP} (h : ArrX g w v a) : ArrV w v a := by
  obtain ⟨dv, iv, hv, h1, h2⟩ := h
  exact ⟨dv, iv, hv, h1.plain, h2.plain⟩
theorem ArrX.toG {g : Option Nat} {w : World} {v : Value} {a : ArrP} (h : ArrX g w v a) : ArrG g w v a := by
  obtain ⟨dv, iv, hv, h1, h2⟩ := h
  exact ⟨dv, iv, hv, Sl.lift (fun _ _ h => h.1) h1.1 (Grow.refl _), h2.plain⟩

/-- The cells of a stripe. -/
def cellsL (a : ArrP) (s : Nat) : List (List Int) := a.ds.map fun d => d.getD s []

/-- Four disks of three cells each. -/
def Whole (a : ArrP) : Prop := a.ds.length = 4 ∧ (∀ d ∈ a.ds, d.length = 3)

theorem cellsL_length (a : ArrP) (s : Nat) : (cellsL a s).length = a.ds.length := by simp [cellsL]

theorem cells_take_succ {a : ArrP} {k : Nat} (h : k < a.ds.length) (s : Nat) : (a.ds.take k).map (fun d => d.getD s []) ++ [(a.ds.getD k []).getD s []] = (a.ds.take (k + 1)).map (fun d => d.getD s []) := by
  rw [List.take_add_one, List.map_append]
  congr 1
  simp [h, List.getD_eq_getElem?_getD]

/-- A struct that lies in two cells, read whole. -/
theorem run_loadVar_two {P : Program} {ty : TypeId} (w : World) (g : Nat) (d : TypeDesc) {x y : Value} (hu : P.underlying ty = some d) (hd : (match d with | .struct _ | .array _ _ => true | _ => false) = true) (hi : (P.info? ty).map (·.size) = some 2)
    (h0 : w.cell? ⟨g, 0, none⟩ = some x) (h1 : w.cell? ⟨g, 1, none⟩ = some y) : (loadVar ty ⟨g, 0, none⟩).run P w = .ok (.agg #[x, y]) w := by
  have hl := run_loadCells_list (P := P) w ⟨g, 0, none⟩ [x, y] (fun j v hj => by
    match j, hj with
    | 0, hj => simp at hj; subst hj; simpa [Addr.add] using h0
    | 1, hj => simp at hj; subst hj; simpa [Addr.add] using h1)
  simp only [List.length_cons, List.length_nil] at hl
  cases hq : P.info? ty with
  | none => simp [hq] at hi
  | some i =>
    have hs : i.size = 2 := by simpa [hq] using hi
    have hagg : (isAgg ty).run P w = .ok true w := by
      unfold isAgg
      rw [Sem.run_bind, run_underlying hu w]
      cases d <;> simp_all
    simp [loadVar, Sem.run_bind, hagg, sizeOf, typeInfo, hq, hs, hl]

/-- Results one of which lies in two cells. -/
theorem results_two {P : Program} {fn : Func} {p : Tmp} {ty : TypeId} (h : fn.results = #[.cell p ty]) (tmps : Array Value) (w : World) (g : Nat) (d : TypeDesc) {x y : Value}
    (hp : tmps.getD p undef = .pointer (some ⟨g, 0, none⟩)) (hu : P.underlying ty = some d) (hd : (match d with | .struct _ | .array _ _ => true | _ => false) = true) (hi : (P.info? ty).map (·.size) = some 2)
    (h0 : w.cell? ⟨g, 0, none⟩ = some x) (h1 : w.cell? ⟨g, 1, none⟩ = some y) : (results fn tmps).run P w = .ok (.agg #[x, y]) w := by
  have hp' : tmps[p]?.getD undef = .pointer (some ⟨g, 0, none⟩) := by simpa using hp
  simp [results, h, hp', asAddr, run_loadVar_two w g d hu hd hi h0 h1]

theorem results_two1 {P : Program} {fn : Func} {p u : Tmp} {ty : TypeId} (h : fn.results = #[.cell p ty, .tmp u]) (tmps : Array Value) (w : World) (g : Nat) (d : TypeDesc) {x y : Value}
    (hp : tmps.getD p undef = .pointer (some ⟨g, 0, none⟩)) (hu : P.underlying ty = some d) (hd : (match d with | .struct _ | .array _ _ => true | _ => false) = true) (hi : (P.info? ty).map (·.size) = some 2)
    (h0 : w.cell? ⟨g, 0, none⟩ = some x) (h1 : w.cell? ⟨g, 1, none⟩ = some y) : (results fn tmps).run P w = .ok (.tuple #[.agg #[x, y], tmps.getD u undef]) w := by
  have hp' : tmps[p]?.getD undef = .pointer (some ⟨g, 0, none⟩) := by simpa using hp
  simp [results, h, hp', asAddr, run_loadVar_two w g d hu hd hi h0 h1, Result.andThen]

theorem results_two2 {P : Program} {fn : Func} {p u v : Tmp} {ty : TypeId} (h : fn.results = #[.cell p ty, .tmp u, .tmp v]) (tmps : Array Value) (w : World) (g : Nat) (d : TypeDesc) {x y : Value}
    (hp : tmps.getD p undef = .pointer (some ⟨g, 0, none⟩)) (hu : P.underlying ty = some d) (hd : (match d with | .struct _ | .array _ _ => true | _ => false) = true) (hi : (P.info? ty).map (·.size) = some 2)
    (h0 : w.cell? ⟨g, 0, none⟩ = some x) (h1 : w.cell? ⟨g, 1, none⟩ = some y) : (results fn tmps).run P w = .ok (.tuple #[.agg #[x, y], tmps.getD u undef, tmps.getD v undef]) w := by
  have hp' : tmps[p]?.getD undef = .pointer (some ⟨g, 0, none⟩) := by simpa using hp
  simp [results, h, hp', asAddr, run_loadVar_two w g d hu hd hi h0 h1, Result.andThen]

end Go.Proofs.Ytjggiameajndgab

/-
  Plain: blocks together, by columns of natural numbers. What the bits of a column come to, counted one by one, is the column's xor.
-/
namespace Go.Proofs.Ytjggiameajndgab

/-- Numbers together. -/
def xN : List Nat → Nat
  | [] => 0
  | a :: l => a ^^^ xN l

theorem xN_append (l m : List Nat) : xN (l ++ m) = xN l ^^^ xN m := by
  induction l with
  | nil => simp [xN]
  | cons a l ih => simp [xN, ih, Nat.xor_assoc]

theorem xN_lt {l : List Nat} (h : ∀ x ∈ l, x < 256) : xN l < 256 := by
  induction l with
  | nil => simp [xN]
  | cons a l ih =>
    have h1 := h a (by simp)
    have h2 := ih (fun x hx => h x (by simp [hx]))
    exact Nat.xor_lt_two_pow (n := 8) h1 h2

theorem xN_reverse (l : List Nat) : xN l.reverse = xN l := by
  induction l with
  | nil => rfl
  | cons a l ih => simp [xN, xN_append, ih, Nat.xor_comm]

/-- The numbers at one place of all blocks. -/
def col (ls : List (List Int)) (i : Nat) : List Nat := ls.map fun b => (b.getD i 0).toNat

theorem col_append (ls ms : List (List Int)) (i : Nat) : col (ls ++ ms) i = col ls i ++ col ms i := by simp [col]
theorem col_reverse (ls : List (List Int)) (i : Nat) : col ls.reverse i = (col ls i).reverse := by simp [col]

/-- Of one place of all blocks. -/
def xC (ls : List (List Int)) (i : Nat) : Nat := xN (col ls i)

theorem xC_append (ls ms : List (List Int)) (i : Nat) : xC (ls ++ ms) i = xC ls i ^^^ xC ms i := by simp [xC, col_append, xN_append]
theorem xC_nil (i : Nat) : xC [] i = 0 := rfl
theorem xC_cons (a : List Int) (ls : List (List Int)) (i : Nat) : xC (a :: ls) i = (a.getD i 0).toNat ^^^ xC ls i := rfl
theorem xC_one (a : List Int) (i : Nat) : xC [a] i = (a.getD i 0).toNat := by simp [xC, col, xN]
theorem xC_reverse (ls : List (List Int)) (i : Nat) : xC ls.reverse i = xC ls i := by rw [xC, col_reverse, xN_reverse, xC]

/-- Blocks: each of four bytes. -/
def Blocks (ls : List (List Int)) : Prop := ∀ b ∈ ls, b.length = 4 ∧ Octets b

theorem octet_toNat {b : List Int} (h : Octets b) (i : Nat) : (b.getD i 0).toNat < 256 := by
  by_cases hi : i < b.length
  · have := h (b.getD i 0) (by simp [List.getD_eq_getElem?_getD, hi])
    omega
  · simp [List.getD_eq_getElem?_getD, hi]

theorem xC_lt {ls : List (List Int)} (h : ∀ b ∈ ls, Octets b) (i : Nat) : xC ls i < 256 := by
  refine xN_lt fun x hx => ?_
  obtain ⟨b, hb, rfl⟩ := List.mem_map.1 hx
  exact octet_toNat (h b hb) i

/-- Blocks together. -/
def xorAll (ls : List (List Int)) : List Int := [(xC ls 0 : Int), (xC ls 1 : Int), (xC ls 2 : Int), (xC ls 3 : Int)]

theorem xorAll_length (ls : List (List Int)) : (xorAll ls).length = 4 := rfl

theorem xorAll_octets {ls : List (List Int)} (h : ∀ b ∈ ls, Octets b) : Octets (xorAll ls) := by
  have h0 := xC_lt h 0
  have h1 := xC_lt h 1
  have h2 := xC_lt h 2
  have h3 := xC_lt h 3
  intro x hx
  simp [xorAll] at hx
  rcases hx with rfl | rfl | rfl | rfl <;> omega

theorem xorAll_getD (ls : List (List Int)) {i : Nat} (hi : i < 4) : (xorAll ls).getD i 0 = (xC ls i : Int) := by
  match i, hi with
  | 0, _ => rfl
  | 1, _ => rfl
  | 2, _ => rfl
  | 3, _ => rfl

theorem xorAll_toNat (ls : List (List Int)) {i : Nat} (hi : i < 4) : ((xorAll ls).getD i 0).toNat = xC ls i := by
  rw [xorAll_getD ls hi]; rfl

theorem xorAll_congr {ls ms : List (List Int)} (h : ∀ i, i < 4 → xC ls i = xC ms i) : xorAll ls = xorAll ms := by
  unfold xorAll
  rw [h 0 (by omega), h 1 (by omega), h 2 (by omega), h 3 (by omega)]

/-- One block is what it is. -/
theorem xorAll_block {a : List Int} (hl : a.length = 4) (ho : Octets a) {ls : List (List Int)} (h : ∀ i, i < 4 → xC ls i = (a.getD i 0).toNat) : xorAll ls = a := by
  match a, hl with
  | [a0, a1, a2, a3], _ =>
    have h0 := h 0 (by omega)
    have h1 := h 1 (by omega)
    have h2 := h 2 (by omega)
    have h3 := h 3 (by omega)
    have b0 := ho a0 (by simp)
    have b1 := ho a1 (by simp)
    have b2 := ho a2 (by simp)
    have b3 := ho a3 (by simp)
    simp at h0 h1 h2 h3
    unfold xorAll
    rw [h0, h1, h2, h3]
    simp
    omega

theorem xorAll_nil : xorAll [] = [0, 0, 0, 0] := rfl

theorem xor_back (a b : Nat) : a ^^^ (b ^^^ a) = b := by rw [Nat.xor_comm b a, ← Nat.xor_assoc, Nat.xor_self, Nat.zero_xor]

/-- A block twice is not at all. -/
theorem xorAll_twice (a : List Int) (ls : List (List Int)) : xorAll (a :: ls ++ [a]) = xorAll ls := by
  refine xorAll_congr fun i _ => ?_
  rw [xC_append, xC_cons, xC_one, Nat.xor_assoc, xor_back]

theorem xorAll_swap (a b : List Int) : xorAll [a, b] = xorAll [b, a] := by
  refine xorAll_congr fun i _ => ?_
  rw [xC_cons a [b], xC_cons b [a], xC_one, xC_one, Nat.xor_comm]

theorem xorAll_again {a b : List Int} (hl : a.length = 4) (ho : Octets a) : xorAll [xorAll [a, b], b] = a := by
  refine xorAll_block hl ho fun i hi => ?_
  rw [xC_cons, xorAll_toNat _ hi, xC_one, xC_cons, xC_one, Nat.xor_assoc, Nat.xor_self, Nat.xor_zero]

/-- Blocks, and what they are together, are noughts together. -/
theorem xorAll_even (ls : List (List Int)) : xorAll (ls ++ [xorAll ls]) = [0, 0, 0, 0] := by
  rw [← xorAll_nil]
  refine xorAll_congr fun i hi => ?_
  rw [xC_append, xC_one, xorAll_toNat _ hi, Nat.xor_self, xC_nil]

/-- All but one, from the last to the first. -/
def others (ls : List (List Int)) (k : Nat) : Nat → List (List Int)
  | 0 => []
  | n + 1 => if n = k then others ls k n else ls.getD n [] :: others ls k n

theorem xC_take_succ (ls : List (List Int)) {n : Nat} (h : n < ls.length) (i : Nat) : xC (ls.take (n + 1)) i = xC (ls.take n) i ^^^ ((ls.getD n []).getD i 0).toNat := by
  rw [List.take_add_one, xC_append]
  simp [h, xC_one, List.getD_eq_getElem?_getD]

theorem xC_others (ls : List (List Int)) (k i : Nat) : ∀ n, n ≤ ls.length → xC (others ls k n) i = xC (ls.take n) i ^^^ (if k < n then ((ls.getD k []).getD i 0).toNat else 0)
  | 0, _ => by simp [others, xC_nil]
  | n + 1, h => by
    rw [others, xC_take_succ ls (by omega)]
    have ih := xC_others ls k i n (by omega)
    by_cases hk : n = k
    · subst hk
      rw [if_pos rfl, ih, if_neg (by omega), if_pos (by omega), Nat.xor_zero, Nat.xor_assoc, Nat.xor_self, Nat.xor_zero]
    · rw [if_neg hk, xC_cons, ih]
      by_cases hn : k < n
      · rw [if_pos hn, if_pos (by omega), ← Nat.xor_assoc, Nat.xor_comm ((ls.getD n []).getD i 0).toNat]
      · rw [if_neg hn, if_neg (by omega), Nat.xor_zero, Nat.xor_zero, Nat.xor_comm]

theorem others_mem {ls : List (List Int)} {k : Nat} : ∀ {n}, n ≤ ls.length → ∀ b ∈ others ls k n, b ∈ ls
  | 0, _, b, hb => by simp [others] at hb
  | n + 1, h, b, hb => by
    rw [others] at hb
    split at hb
    · exact others_mem (by omega) b hb
    · rcases List.mem_cons.1 hb with rfl | hb
      · simp [List.getD_eq_getElem?_getD, show n < ls.length from by omega]
      · exact others_mem (by omega) b hb

theorem others_length (ls : List (List Int)) (k : Nat) : ∀ n, (others ls k n).length ≤ n
  | 0 => by simp [others]
  | n + 1 => by
    have := others_length ls k n
    rw [others]
    split
    · omega
    · simp; omega

/-- Any one of blocks that are noughts together is what all the others are. -/
theorem xorAll_others {ls : List (List Int)} {k : Nat} (hk : k < ls.length) (hl : (ls.getD k []).length = 4) (ho : Octets (ls.getD k [])) :
    xorAll (others (ls ++ [xorAll ls]) k (ls.length + 1)) = ls.getD k [] := by
  refine xorAll_block hl ho fun i hi => ?_
  rw [xC_others _ _ _ _ (by simp), List.take_of_length_le (by simp), xC_append, xC_one, xorAll_toNat _ hi, Nat.xor_self, Nat.zero_xor, if_pos (by omega)]
  simp [List.getD_eq_getElem?_getD, List.getElem?_append_left hk]

/-- How many of the blocks have bit j at place i. -/
def cnt (ls : List (List Int)) (i j : Nat) : Nat := (ls.filter fun b => (b.getD i 0).toNat.testBit j).length

theorem cnt_take_succ (ls : List (List Int)) {n : Nat} (h : n < ls.length) (i j : Nat) : cnt (ls.take (n + 1)) i j = cnt (ls.take n) i j + (if ((ls.getD n []).getD i 0).toNat / 2 ^ j % 2 = 1 then 1 else 0) := by
  rw [List.take_add_one, cnt, List.filter_append, List.length_append, cnt]
  simp only [h, getElem?_pos, Option.toList_some, List.filter_cons, List.filter_nil, Nat.testBit_eq_decide_div_mod_eq, List.getD_eq_getElem?_getD, Option.getD_some]
  split <;> rename_i h1 <;> simp at h1 <;> simp [h1]

theorem cnt_le (ls : List (List Int)) (i j n : Nat) : cnt (ls.take n) i j ≤ n := by
  have h := List.length_filter_le (fun b => ((b : List Int).getD i 0).toNat.testBit j) (ls.take n)
  simp [cnt] at h ⊢
  omega

theorem cnt_bit (ls : List (List Int)) (i j : Nat) : (cnt ls i j) % 2 = ((xC ls i).testBit j).toNat := by
  induction ls with
  | nil => simp [cnt, xC_nil]
  | cons a ls ih =>
    rw [xC_cons, Nat.testBit_xor]
    have h : cnt (a :: ls) i j = cnt ls i j + ((a.getD i 0).toNat.testBit j).toNat := by
      simp only [cnt, List.filter_cons]
      cases (a.getD i 0).toNat.testBit j <;> simp
    rw [h]
    cases h1 : (a.getD i 0).toNat.testBit j <;> cases h2 : (xC ls i).testBit j <;> simp [h2] at ih ⊢ <;> omega

/-- A number's lower bits, one more. -/
theorem low_succ (x j : Nat) : x % 2 ^ (j + 1) = x % 2 ^ j + 2 ^ j * (x.testBit j).toNat := by
  rw [Nat.pow_succ, Nat.mod_mul, Nat.testBit_eq_decide_div_mod_eq]
  have := Nat.mod_lt (x / 2 ^ j) (show 0 < 2 by omega)
  generalize x / 2 ^ j % 2 = y at *
  obtain rfl | rfl : y = 0 ∨ y = 1 := by omega
  all_goals simp

theorem low_cnt (ls : List (List Int)) (i j : Nat) : xC ls i % 2 ^ (j + 1) = xC ls i % 2 ^ j + 2 ^ j * (cnt ls i j % 2) := by rw [low_succ, cnt_bit]

end Go.Proofs.Ytjggiameajndgab
