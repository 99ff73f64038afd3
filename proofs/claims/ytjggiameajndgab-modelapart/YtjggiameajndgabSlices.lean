/-
  A slice whose elements are one cell each, read element by element; of slices of bytes, of slices of these, and so on. It reads so still where nothing old has turned.
-/
import Derived.Test.YtjggiameajndgabGrow
import Derived.Deep.Matrix
import Derived.ProofKit
import Derived.OpenShut
namespace Go.Proofs.Ytjggiameajndgab
open Go.RowKit Go.ChangeShapes Go.WideShapes Go.ChangeAt

/-- The value v is a slice; its cells read as xs, each by R. -/
def Sl {α : Type} (R : World → Value → α → Prop) (w : World) (v : Value) (xs : List α) : Prop :=
  ∃ ao cap, v = .slice ao xs.length cap ∧ xs.length ≤ cap ∧ cap ≤ maxLen ∧ (ao = none → cap = 0) ∧
    (0 < xs.length → ∃ b off, ao = some ⟨b, off, none⟩ ∧ ∀ (i : Nat) x, xs[i]? = some x → ∃ u, w.cell? ⟨b, off + i, none⟩ = some u ∧ R w u x)

/-- A slice of slices of bytes. -/
abbrev Bss := Sl Bs

theorem Sl.nil {α : Type} (R : World → Value → α → Prop) (w : World) : Sl R w (.slice none 0 0) [] :=
  ⟨none, 0, rfl, Nat.le_refl _, Nat.zero_le _, fun _ => rfl, fun h => by simp at h⟩

theorem Sl.len {α : Type} {R : World → Value → α → Prop} {w : World} {v : Value} {xs : List α} (h : Sl R w v xs) : xs.length ≤ maxLen := by
  obtain ⟨_, _, _, h1, h2, _⟩ := h; omega

theorem Sl.all {α : Type} {R : World → Value → α → Prop} {w : World} {v : Value} {xs : List α} (h : Sl R w v xs) : ∀ x ∈ xs, ∃ u, R w u x := by
  intro x hx
  obtain ⟨ao, cap, hv, h1, h2, h3, h4⟩ := h
  obtain ⟨i, hi, rfl⟩ := List.mem_iff_getElem.1 hx
  obtain ⟨b, off, e, hc⟩ := h4 (by omega)
  obtain ⟨u, _, hu⟩ := hc i xs[i] (by simp [hi])
  exact ⟨u, hu⟩

theorem Sl.below {α : Type} {R : World → Value → α → Prop} {w w' : World} {v : Value} {xs : List α} (hR : ∀ u x, R w u x → R w' u x) (h : Sl R w v xs) (hb : Below w.heap.size w w') : Sl R w' v xs := by
  obtain ⟨ao, cap, hv, h1, h2, h3, h4⟩ := h
  refine ⟨ao, cap, hv, h1, h2, h3, fun hp => ?_⟩
  obtain ⟨b, off, e, hc⟩ := h4 hp
  refine ⟨b, off, e, fun i x hx => ?_⟩
  obtain ⟨u, hu, hr⟩ := hc i x hx
  exact ⟨u, by rw [hb.cell (p := ⟨b, off + i, none⟩) (cell_lt hu)]; exact hu, hR u x hr⟩

theorem Sl.lift {α : Type} {R R' : World → Value → α → Prop} {w w' : World} {v : Value} {xs : List α} (hR : ∀ u x, R w u x → R' w' u x) (h : Sl R w v xs) (hb : Below w.heap.size w w') : Sl R' w' v xs := by
  obtain ⟨ao, cap, hv, h1, h2, h3, h4⟩ := h
  refine ⟨ao, cap, hv, h1, h2, h3, fun hp => ?_⟩
  obtain ⟨b, off, e, hc⟩ := h4 hp
  refine ⟨b, off, e, fun i x hx => ?_⟩
  obtain ⟨u, hu, hr⟩ := hc i x hx
  exact ⟨u, by rw [hb.cell (p := ⟨b, off + i, none⟩) (cell_lt hu)]; exact hu, hR u x hr⟩

theorem Bss.grow {w w' : World} {v : Value} {ls : List (List Int)} (h : Bss w v ls) (hb : Grow w w') : Bss w' v ls := Sl.below (fun _ _ h => h.grow hb) h hb

theorem Bss.octets {w : World} {v : Value} {ls : List (List Int)} (h : Bss w v ls) : ∀ b ∈ ls, Octets b := fun b hb => by
  obtain ⟨u, hu⟩ := h.all b hb
  exact hu.octets

/-- One slice of bytes of a slice of them: its cell, and how it reads. -/
theorem Sl.bytesAt {w : World} {b off : Nat} {ls : List (List Int)} (hc : ∀ (i : Nat) x, ls[i]? = some x → ∃ u, w.cell? ⟨b, off + i, none⟩ = some u ∧ Bs w u x) {k : Nat} (hk : k < ls.length) :
    ∃ ao cap, w.cell? ⟨b, off + k, none⟩ = some (.slice ao (ls.getD k []).length cap) ∧ Bs w (.slice ao (ls.getD k []).length cap) (ls.getD k []) := by
  obtain ⟨u, hu, hr⟩ := hc k (ls.getD k []) (by simp [List.getD_eq_getElem?_getD, hk])
  have hr' := hr
  obtain ⟨ao, cap, rfl, -⟩ := hr
  exact ⟨ao, cap, hu, hr'⟩

/-- A row of the call's own is a slice that reads so. -/
theorem Sl.of_own {α : Type} {R : World → Value → α → Prop} {w : World} {base : Nat} {e : TypeId} {v : Value} {n : Nat} {us : List Value} {xs : List α} (h : w.ownsRow base e 1 v n us) (hn : xs.length = n)
    (hR : ∀ (i : Nat) u x, us[i]? = some u → xs[i]? = some x → R w u x) : Sl R w v xs := by
  obtain ⟨hl, h⟩ := h
  subst hn
  rcases h with ⟨rfl, h0⟩ | ⟨g, cap, cur, rfl, hg, hh, hc, hm, hs, ht⟩
  · have : xs = [] := List.eq_nil_of_length_eq_zero h0
    subst this
    exact Sl.nil R w
  · refine ⟨some ⟨g, 0, none⟩, cap, rfl, hc, hm, (fun h => nomatch h), fun _ => ⟨g, 0, rfl, fun i x hx => ?_⟩⟩
    have hi : i < xs.length := by
      by_cases hi : i < xs.length
      · exact hi
      · simp [List.getElem?_eq_none (Nat.le_of_not_lt hi)] at hx
    have hiu : i < us.length := by omega
    have h1 : cur.toList[i]? = some us[i] := by
      have h2 : (cur.toList.take (xs.length * 1))[i]? = some us[i] := by
        rw [ht]; simp [hiu]
      rw [List.getElem?_take] at h2
      split at h2
      · exact h2
      · cases h2
    refine ⟨us[i], ?_, hR i us[i] x (by simp [hiu]) hx⟩
    simp [World.cell?, hh]
    simpa using h1

/-- A row that is known whole. -/
theorem Sl.row {α : Type} {R : World → Value → α → Prop} {w : World} {e : TypeId} {mk : Nat × Nat} {g n : Nat} {us : List Value} {xs : List α} (hg : w.heap[g]? = some (.cells us.toArray e mk)) (hn : xs.length = n) (hu : us.length = n) (h : n ≤ maxLen)
    (hR : ∀ (i : Nat) u x, us[i]? = some u → xs[i]? = some x → R w u x) : Sl R w (.slice (some ⟨g, 0, none⟩) n n) xs := by
  subst hn
  refine ⟨some ⟨g, 0, none⟩, xs.length, rfl, Nat.le_refl _, h, (fun h => nomatch h), fun _ => ⟨g, 0, rfl, fun i x hx => ?_⟩⟩
  have hi : i < xs.length := by
    by_cases hi : i < xs.length
    · exact hi
    · simp [List.getElem?_eq_none (Nat.le_of_not_lt hi)] at hx
  have hiu : i < us.length := by omega
  refine ⟨us[i], ?_, hR i us[i] x (by simp [hiu]) hx⟩
  simp only [World.cell?, hg]
  simp [hiu]

/-- What lies in a slice, one cell each, as a list of values. -/
theorem Sl.values {α : Type} {R : World → Value → α → Prop} {w : World} {ao : Option Addr} {n cap : Nat} {xs : List α} (h : Sl R w (.slice ao n cap) xs) :
    ∃ us : List Value, us.length = n ∧ xs.length = n ∧ (∀ ad, ao = some ad → ∀ (j : Nat) u, us[j]? = some u → w.cell? (ad.add j) = some u) ∧ (∀ (i : Nat) u x, us[i]? = some u → xs[i]? = some x → R w u x) := by
  obtain ⟨a1, c1, e1, h1, h2, h3, h4⟩ := h
  injection e1 with e1 e2 e3
  subst e1 e2 e3
  by_cases hp : 0 < xs.length
  · obtain ⟨b, off, rfl, hc⟩ := h4 hp
    have hch : ∀ i : Nat, ∃ u : Value, ∀ x, xs[i]? = some x → w.cell? ⟨b, off + i, none⟩ = some u ∧ R w u x := by
      intro i
      by_cases hi : i < xs.length
      · obtain ⟨u, hu, hr⟩ := hc i xs[i] (by simp [hi])
        refine ⟨u, fun x hx => ?_⟩
        simp [hi] at hx
        subst hx
        exact ⟨hu, hr⟩
      · exact ⟨.slice none 0 0, fun x hx => by simp [List.getElem?_eq_none (Nat.le_of_not_lt hi)] at hx⟩
    refine ⟨(List.range xs.length).map fun i => (hch i).choose, by simp, rfl, ?_, ?_⟩
    · intro ad had j u hu
      injection had with had
      subst had
      simp only [List.getElem?_map, Option.map_eq_some_iff] at hu
      obtain ⟨j', hj', rfl⟩ := hu
      obtain ⟨hj, rfl⟩ := List.getElem?_eq_some_iff.1 hj'
      simp at hj
      have hplain : (⟨b, off, none⟩ : Addr).add j = ⟨b, off + j, none⟩ := by unfold Addr.add; split <;> simp_all
      rw [hplain]
      simpa using ((hch j).choose_spec xs[j] (by simp [hj])).1
    · intro i u x hu hx
      simp only [List.getElem?_map, Option.map_eq_some_iff] at hu
      obtain ⟨j', hj', rfl⟩ := hu
      obtain ⟨hj, rfl⟩ := List.getElem?_eq_some_iff.1 hj'
      simp at hj
      simpa using ((hch i).choose_spec x hx).2
  · have hx : xs = [] := List.eq_nil_of_length_eq_zero (by omega)
    subst hx
    exact ⟨[], rfl, rfl, fun _ _ j u hu => by simp at hu, fun i u x hu => by simp at hu⟩

/-- Slices are one cell each. -/
theorem bs_oneCell {w : World} {us : List Value} {ls : List (List Int)} (hl : us.length = ls.length) (h : ∀ (i : Nat) u x, us[i]? = some u → ls[i]? = some x → Bs w u x) : ∀ u ∈ us, u.oneCell' = true := by
  intro u hu
  obtain ⟨i, hi, rfl⟩ := List.mem_iff_getElem.1 hu
  obtain ⟨ao, cap, e, -⟩ := h i us[i] (ls[i]'(by omega)) (by simp [hi]) (by simp [show i < ls.length by omega])
  rw [e]
  rfl

theorem wf_octet' {n : Int} (h : (Lit.int .u8 n).wf = true) : 0 ≤ n ∧ n ≤ 255 := by
  have := bounds_u8 h
  omega

/-- A cell that is a slice of bytes: what it reads as. -/
theorem bs_of_trod {P : Program} {H : Type} {enc : TypeId × Value → H} {W : World} {base : Nat} {sp : Nat → Bool} {held : Bool} {t e : TypeId} {v : Value} {fuel : Nat} {x : DataW H × List MemPlace}
    (ht : P.underlying t = some (.slice e)) (he : P.underlying e = some (.int .u8)) (hc : P.cellsOf e = 1) (h : DataW.trod enc P W base sp held fuel t [v] = some x) :
    ∃ l, Bs W v l := by
  rcases open_ints ht he hc h with ⟨hcs, _⟩ | ⟨x, len0, cap0, zs, hcs, _, hl, hm, hz, hx, hcell, hwz⟩
  · simp at hcs
    subst hcs
    exact ⟨[], Bs.nil W⟩
  · simp at hcs
    subst hcs
    have hlz : len0 ≤ zs.length := by rw [hz]; split <;> omega
    have hlen : (zs.take len0).length = len0 := by simp; omega
    refine ⟨zs.take len0, ⟨some x, cap0, by rw [hlen], by omega, hm, (fun h => nomatch h), fun n hn => wf_octet' (hwz n (List.mem_of_mem_take hn)), fun hp => ?_⟩⟩
    rw [hlen] at hp
    obtain ⟨b, off, spot⟩ := x
    have hspot : spot = none := by simpa [Addr.add] using World.cell?_spot (hcell 0 (by omega))
    subst hspot
    refine ⟨b, off, rfl, fun i hi => ?_⟩
    rw [hlen] at hi
    have hplain : (⟨b, off, none⟩ : Addr).add i = ⟨b, off + i, none⟩ := by unfold Addr.add; split <;> simp_all
    rw [← hplain, hcell i (by omega)]
    simp [List.getD_eq_getElem?_getD, hi]

/-- A cell that is a slice of one-cell elements: what it reads as, where each element does. -/
theorem sl_of_trod {α : Type} {R : World → Value → α → Prop} {P : Program} {H : Type} {enc : TypeId × Value → H} {W : World} {base : Nat} {sp : Nat → Bool} {held : Bool} {t e : TypeId} {v : Value} {fuel : Nat} {x : DataW H × List MemPlace}
    (ht : P.underlying t = some (.slice e)) (hc : P.cellsOf e = 1) (hR : ∀ n u y, DataW.trod enc P W base sp held n e [u] = some y → ∃ l, R W u l) (h : DataW.trod enc P W base sp held fuel t [v] = some x) :
    ∃ xs, Sl R W v xs := by
  rcases Go.Deep.open_slice1 ht hc h with ⟨hcs, _⟩ | ⟨a, len, cap, m, n, V, D, Pl, hcs, hb, hl, hm, hmm, hx, hV⟩
  · simp at hcs
    subst hcs
    exact ⟨[], Sl.nil R W⟩
  · simp at hcs
    subst hcs
    have hlm : len ≤ m := by rw [hmm]; split <;> omega
    have hch : ∀ i : Nat, i < len → ∃ l, R W (V i) l := fun i hi => hR n (V i) _ (hV i (by omega)).2
    by_cases hp : 0 < len
    · obtain ⟨d, _⟩ := hch 0 hp
      have hch' : ∀ i : Nat, ∃ l, i < len → R W (V i) l := fun i => by
        by_cases hi : i < len
        · obtain ⟨l, hl⟩ := hch i hi
          exact ⟨l, fun _ => hl⟩
        · exact ⟨d, fun h => absurd h hi⟩
      have hspot := World.cell?_spot (hV 0 (by omega)).1
      obtain ⟨b, off, spot⟩ := a
      have hspot : spot = none := by simpa [Addr.add] using hspot
      subst hspot
      refine ⟨(List.range len).map fun i => (hch' i).choose, some ⟨b, off, none⟩, cap, by simp, by simpa using hl, hm, (fun h => nomatch h), fun _ => ⟨b, off, rfl, fun i x hx => ?_⟩⟩
      simp only [List.getElem?_map, Option.map_eq_some_iff] at hx
      obtain ⟨j', hj', rfl⟩ := hx
      obtain ⟨hj, rfl⟩ := List.getElem?_eq_some_iff.1 hj'
      simp at hj
      have hplain : (⟨b, off, none⟩ : Addr).add i = ⟨b, off + i, none⟩ := by unfold Addr.add; split <;> simp_all
      refine ⟨V i, by rw [← hplain]; exact (hV i (by omega)).1, ?_⟩
      simpa using (hch' i).choose_spec hj
    · obtain rfl : len = 0 := by omega
      exact ⟨[], some a, cap, rfl, Nat.zero_le _, hm, (fun h => nomatch h), fun h => by simp at h⟩

/-- A slice of slices of bytes that came in: what it reads as. -/
theorem bss_of_trod {P : Program} {H : Type} {enc : TypeId × Value → H} {W : World} {base : Nat} {sp : Nat → Bool} {held : Bool} {t e q : TypeId} {v : Value} {fuel : Nat} {x : DataW H × List MemPlace}
    (ht : P.underlying t = some (.slice e)) (he : P.underlying e = some (.slice q)) (hq : P.underlying q = some (.int .u8)) (ce : P.cellsOf e = 1) (cq : P.cellsOf q = 1) (h : DataW.trod enc P W base sp held fuel t [v] = some x) :
    ∃ ls, Bss W v ls := sl_of_trod ht ce (fun _ _ _ h => bs_of_trod he hq cq h) h


/-- A slice of slices of bytes that is an argument: what it reads as. -/
theorem open_bss {P : Program} {H : Type} {enc : TypeId × Value → H} {W : World} {base : Nat} {sp : Nat → Bool} {held : Bool} {t e q : TypeId} {v : Value} {d : DataW H} {p : List MemPlace}
    (ht : P.underlying t = some (.slice e)) (he : P.underlying e = some (.slice q)) (hq : P.underlying q = some (.int .u8)) (ce : P.cellsOf e = 1) (cq : P.cellsOf q = 1) {b0 : Nat} (hv : Value.okWide P W .any b0 t v)
    (h : DataW.Trod enc P W base sp held t v d p) : ∃ ls, Bss W v ls := by
  obtain ⟨a0, len0, cap0, rfl⟩ := okWide_slice ht hv
  obtain ⟨fuel, hf⟩ := h
  exact bss_of_trod ht he hq ce cq (v := .slice a0 len0 cap0) (by simpa [Value.cells] using hf)

theorem Bs.cells {w : World} {b off n cap : Nat} {l : List Int} (h : Bs w (.slice (some ⟨b, off, none⟩) n cap) l) : ∀ i, i < l.length → w.cell? ⟨b, off + i, none⟩ = some (.int .u8 (l.getD i 0)) := by
  intro i hi
  obtain ⟨a1, c1, e1, -, -, -, -, h⟩ := h
  injection e1 with e1 _ _
  obtain ⟨b', off', e2, hc⟩ := h (by omega)
  rw [← e1] at e2
  injection e2 with e2
  injection e2 with e3 e4
  subst e3 e4
  exact hc i hi

theorem Bs.form {w : World} {v : Value} {l : List Int} (h : Bs w v l) : ∃ ao n cap, v = .slice ao n cap := by
  obtain ⟨ao, cap, rfl, -⟩ := h
  exact ⟨_, _, _, rfl⟩

/-- New memory that reads as these slices of bytes. -/
def NewBss (ls : List (List Int)) (v : Value) (w : World) : Prop := ∃ g cap, v = .slice (some ⟨g, 0, none⟩) ls.length cap ∧ Bss w v ls

theorem NewBss.stable (ls : List (List Int)) : ∀ (v : Value) (x y : World), NewBss ls v x → Grow x y → NewBss ls v y := fun _ _ _ ⟨g, cap, hv, hb⟩ h => ⟨g, cap, hv, hb.grow h⟩

/-- Values that read as these slices of bytes. -/
def BsL (w : World) (us : List Value) (ls : List (List Int)) : Prop := us.length = ls.length ∧ ∀ (i : Nat) u x, us[i]? = some u → ls[i]? = some x → Bs w u x

theorem BsL.grow {w w' : World} {us : List Value} {ls : List (List Int)} (h : BsL w us ls) (hg : Grow w w') : BsL w' us ls := ⟨h.1, fun i u x hu hx => (h.2 i u x hu hx).grow hg⟩

theorem BsL.nil (w : World) : BsL w [] [] := ⟨rfl, fun i u x hu => by simp at hu⟩

theorem BsL.one {w : World} {v : Value} {l : List Int} (h : Bs w v l) : BsL w [v] [l] := ⟨rfl, fun i u x hu hx => by
  match i, hu, hx with
  | 0, hu, hx => simp at hu hx; subst hu hx; exact h
  | n + 1, hu, _ => simp at hu⟩

theorem BsL.append {w : World} {us vs : List Value} {ls ms : List (List Int)} (h : BsL w us ls) (g : BsL w vs ms) : BsL w (us ++ vs) (ls ++ ms) :=
  ⟨by simp [h.1, g.1], fun i u x hu hx => by
    by_cases hi : i < us.length
    · rw [List.getElem?_append_left hi] at hu
      rw [List.getElem?_append_left (by have := h.1; omega)] at hx
      exact h.2 i u x hu hx
    · rw [List.getElem?_append_right (by omega)] at hu
      rw [List.getElem?_append_right (by have := h.1; omega)] at hx
      have := h.1
      exact g.2 _ u x hu (by rw [this]; exact hx)⟩

theorem BsL.oneCell {w : World} {us : List Value} {ls : List (List Int)} (h : BsL w us ls) : ∀ u ∈ us, u.oneCell' = true := bs_oneCell h.1 h.2

theorem BsL.own {w : World} {base : Nat} {e : TypeId} {v : Value} {n : Nat} {us : List Value} {ls : List (List Int)} (h : BsL w us ls) (ho : w.ownsRow base e 1 v n us) (hn : ls.length = n) : Bss w v ls := Sl.of_own ho hn h.2

/-- A slice of slices of bytes, by its values. -/
theorem Bss.values {w : World} {ao : Option Addr} {n cap : Nat} {ls : List (List Int)} (h : Bss w (.slice ao n cap) ls) :
    ∃ us : List Value, us.length = n ∧ ls.length = n ∧ (∀ ad, ao = some ad → ∀ (j : Nat) u, us[j]? = some u → w.cell? (ad.add j) = some u) ∧ BsL w us ls ∧ (ao = none → n = 0 ∧ cap = 0) := by
  obtain ⟨us, h1, h2, h3, h4⟩ := Sl.values h
  refine ⟨us, h1, h2, h3, ⟨by omega, h4⟩, fun hn => ?_⟩
  obtain ⟨a1, c1, e1, k1, k2, k3, -⟩ := h
  injection e1 with e1 e2 e3
  have := k3 (by rw [← e1]; exact hn)
  omega

theorem Sl.form {α : Type} {R : World → Value → α → Prop} {w : World} {v : Value} {xs : List α} (h : Sl R w v xs) : ∃ ao cap, v = .slice ao xs.length cap := by
  obtain ⟨ao, cap, rfl, -⟩ := h
  exact ⟨_, _, rfl⟩

theorem cell_lt' {w : World} {a : Addr} {v : Value} (h : w.cell? a = some v) : a.block < w.heap.size := by
  by_cases hb : a.block < w.heap.size
  · exact hb
  · exfalso
    simp [World.cell?, Array.getElem?_eq_none (Nat.le_of_not_lt hb)] at h

theorem Grow.at {w w' : World} (hg : Grow w w') {a : Addr} {v : Value} (h : w.cell? a = some v) : w'.cell? a = some v := (hg.cell (p := a) (cell_lt' h)).trans h

theorem Grow.grown {w0 w w' : World} {row : Option Nat} (h : Grow w0 w) (hg : w.grownBy w' row) (hrow : ∀ k, row = some k → w0.heap.size ≤ k) : Grow w0 w' := Below.grown h hg h.size hrow

/-- It reads so still where another block alone was written. -/
theorem Bs.grownBy {w w' : World} {g off n cap : Nat} {l : List Int} {row : Option Nat} (h : Bs w (.slice (some ⟨g, off, none⟩) n cap) l) (hg : w.grownBy w' row) (hne : some g ≠ row) : Bs w' (.slice (some ⟨g, off, none⟩) n cap) l := by
  have hc := h.cells
  obtain ⟨ao, c1, e1, h1, h2, h3, h4, h5⟩ := h
  injection e1 with e1 e2 e3
  subst e1 e2 e3
  exact ⟨_, _, rfl, h1, h2, h3, h4, fun _ => ⟨g, off, rfl, fun i hi => hg.cell (a := ⟨g, off + i, none⟩) (hc i hi) hne⟩⟩

theorem Sl.cells {α : Type} {R : World → Value → α → Prop} {w : World} {b off n cap : Nat} {xs : List α} (h : Sl R w (.slice (some ⟨b, off, none⟩) n cap) xs) : ∀ (i : Nat) x, xs[i]? = some x → ∃ u, w.cell? ⟨b, off + i, none⟩ = some u ∧ R w u x := by
  intro i x hx
  obtain ⟨a1, c1, e1, -, -, -, h⟩ := h
  injection e1 with e1 _ _
  have hi : i < xs.length := by
    by_cases hi : i < xs.length
    · exact hi
    · simp [List.getElem?_eq_none (Nat.le_of_not_lt hi)] at hx
  obtain ⟨b', off', e2, hc⟩ := h (by omega)
  rw [← e1] at e2
  injection e2 with e2
  injection e2 with e3 e4
  subst e3 e4
  exact hc i x hx

end Go.Proofs.Ytjggiameajndgab
