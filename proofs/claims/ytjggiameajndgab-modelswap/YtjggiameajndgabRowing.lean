/-
  A row of the call's own that grows element by element, each element readable whatever is written into the row itself. A law for the walk: append of one element.
-/
import Derived.Test.YtjggiameajndgabSlices
import Derived.Deep.AppendLies
namespace Go.Proofs.Ytjggiameajndgab
open Go.RowKit

/-- It reads so in every world that agrees with w off the row g. -/
def Off {α : Type} (R : World → Value → α → Prop) (g : Option Nat) (w : World) (u : Value) (x : α) : Prop := ∀ w', w.grownBy w' g → R w' u x

/-- What reads so reads so still where nothing old has turned. -/
def Stays {α : Type} (R : World → Value → α → Prop) : Prop := ∀ w w' u x, R w u x → Grow w w' → R w' u x

theorem Grow.by {w w' : World} (h : Grow w w') (g : Option Nat) : w.grownBy w' g := ⟨h.os, h.tape, h.output, h.size, fun k hk _ => h.block k hk⟩
theorem Grow.of {w w' : World} (h : w.grownBy w' none) : Grow w w' := ⟨h.os, h.tape, h.output, h.size, fun k hk => h.block k hk (by simp)⟩

theorem Bs.stays : Stays Bs := fun _ _ _ _ h g => h.grow g
theorem Sl.stays {α : Type} {R : World → Value → α → Prop} (hR : Stays R) : Stays (Sl R) := fun _ _ _ _ h g => Sl.below (fun u x h => hR _ _ u x h g) h g
theorem Bss.stays : Stays Bss := Sl.stays Bs.stays

section
variable {α : Type} {R : World → Value → α → Prop} {g : Option Nat} {w w0 w1 : World} {u v : Value} {x : α} {xs : List α} {B : Nat} {e : TypeId}

theorem Off.here (h : Off R g w u x) : R w u x := h w ⟨rfl, rfl, rfl, Nat.le_refl _, fun _ _ _ => rfl⟩
theorem Off.step (h : Off R g w u x) (hg : w.grownBy w1 g) : Off R g w1 u x := fun w' h' => h w' (hg.trans h')
theorem Off.grow (h : Off R g w u x) (hg : Grow w w1) : Off R g w1 u x := h.step (hg.by g)
theorem Off.move (h : Off R g w u x) (hg : w.grownBy w1 g) {k : Nat} (hk : w.heap.size ≤ k) : Off R (some k) w1 u x := fun w' h' =>
  h w' ⟨h'.os.trans hg.os, h'.tape.trans hg.tape, h'.output.trans hg.output, Nat.le_trans hg.size h'.size, fun j hj hne => (h'.block j (Nat.lt_of_lt_of_le hj hg.size) (fun e => by injection e with e; omega)).trans (hg.block j hj hne)⟩
theorem Off.old (hR : Stays R) (h : R w0 u x) (hg : Grow w0 w) (hk : ∀ k, g = some k → w0.heap.size ≤ k) : Off R g w u x := fun w' h' =>
  hR w0 w' u x h ⟨h'.os.trans hg.os, h'.tape.trans hg.tape, h'.output.trans hg.output, Nat.le_trans hg.size h'.size, fun j hj => (h'.block j (Nat.lt_of_lt_of_le hj hg.size) (fun e => by have := hk j e.symm; omega)).trans (hg.block j hj)⟩
theorem Off.plain (hR : Stays R) (h : R w u x) : Off R none w u x := Off.old hR h (Grow.refl _) (fun _ h => nomatch h)

/-- The slice v of the call's own reads as xs; it may be written on. -/
def Rowing (R : World → Value → α → Prop) (B : Nat) (e : TypeId) (w : World) (v : Value) (xs : List α) : Prop :=
  ∃ us, w.ownsRow B e 1 v xs.length us ∧ us.length = xs.length ∧ ∀ (i : Nat) u x, us[i]? = some u → xs[i]? = some x → Off R v.ownBlock w u x

theorem Rowing.nil (R : World → Value → α → Prop) (B : Nat) (e : TypeId) (w : World) : Rowing R B e w (.slice none 0 0) [] :=
  ⟨[], World.ownsRow_nil _ _ _ _, rfl, fun i u x hu => by simp at hu⟩

theorem Rowing.lit0 (R : World → Value → α → Prop) {B : Nat} (e : TypeId) (w : World) (hB : B ≤ w.heap.size) : Rowing R B e (w.alloc (.cells #[] e)) (.slice (some ⟨w.heap.size, 0, none⟩) 0 0) [] :=
  ⟨[], World.ownsRow_lit w #[] 0 hB (Nat.zero_le _) rfl, rfl, fun i u x hu => by simp at hu⟩

theorem Rowing.grow (h : Rowing R B e w v xs) (hg : Grow w w1) : Rowing R B e w1 v xs := by
  obtain ⟨us, h1, h2, h3⟩ := h
  exact ⟨us, grow_own h1 hg, h2, fun i u x hu hx => (h3 i u x hu hx).grow hg⟩

theorem Rowing.done (h : Rowing R B e w v xs) : Sl R w v xs := by
  obtain ⟨us, h1, _, h3⟩ := h
  exact Sl.of_own h1 rfl (fun i u x hu hx => (h3 i u x hu hx).here)

theorem Rowing.base (h : Rowing R B e w v xs) : ∀ k, v.ownBlock = some k → B ≤ k ∧ k < w.heap.size := by
  obtain ⟨us, h1, _, _⟩ := h
  exact h1.lt

theorem Rowing.low (h : Rowing R B e w v xs) {B' : Nat} (hb : B' ≤ B) : Rowing R B' e w v xs := by
  obtain ⟨us, h1, h2, h3⟩ := h
  exact ⟨us, ⟨h1.1, h1.2.imp id fun ⟨g, cap, cur, k1, k2, k3⟩ => ⟨g, cap, cur, k1, Nat.le_trans hb k2, k3⟩⟩, h2, h3⟩

theorem Rowing.len (h : Rowing R B e w v xs) : xs.length ≤ maxLen := h.done.len

/-- An append of one element to such a row. -/
theorem wpList_push {P : Program} {ops : Array Oper} {rest : List Oper} {o : Oper} {a : Act} {Q : Exit → Act → World → Prop} (hgd : o.guard = none) (s y : Operand) (t : TypeId)
    (ho : o.op = .call { callee := .builtin .append, args := #[s, y], argTypes := #[t, t] })
    (i : TypeInfo) (z : Value) (bytes : Nat) (ht : P.underlying t = some (.slice e)) (hi : P.info? e = some i) (hz : i.zero = some z)
    (hsize : i.size = 1) (hby : i.bytes = bytes) (hzs : z.cells.size = 1)
    (w0 : World) (hG : Grow w0 w) (hB : w0.heap.size = B)
    (hs : a.eval s = v) (hrow : Rowing R B e w v xs) (hu1 : u.oneCell' = true) (hoff : Off R v.ownBlock w u x)
    (H : Nat) (hH : w.heap.size = H) (hy : a.eval y = .slice (some ⟨H, 0, none⟩) 1 1)
    (h63 : xs.length + 1 ≤ 4611686018427387904) (hbytes : (xs.length + 1) * bytes ≤ 140737488355328)
    (h : ∀ v' w', (∃ g cap, v' = .slice (some ⟨g, 0, none⟩) (xs.length + 1) cap) → Rowing R B e w' v' (xs ++ [x]) → Grow w0 w' → wpList P ops Q rest (a.put o.dst v') w') :
    wpList P ops Q (o :: rest) a (w.alloc (.cells #[u] e)) := by
  subst hH
  obtain ⟨us, h1, h2, h3⟩ := hrow
  have hsz : w.heap.size < (w.alloc (.cells #[u] e)).heap.size := by simp
  have hgA : Grow w (w.alloc (.cells #[u] e)) := (Below.refl _ _).alloc (Nat.le_refl _) _
  refine wpList_append_lies _ hgd s y t ho B e i z 1 bytes ht hi hz hsize hby hzs (by decide) v xs.length us hs (h1.alloc _) ⟨w.heap.size, 0, none⟩ 1 1 [u] hy rfl ?_ ?_ (by decide) (by unfold maxLen; omega) hbytes (by have := hG.size; omega) _ rfl ?_
  · exact fun j q hj => World.news_of_block (heap_alloc_new w _) j q (by simpa using hj)
  · intro q hq
    simp at hq
    subst hq
    exact hu1
  · intro g' cap w' hown hgr hat _
    refine h _ _ ⟨g', cap, rfl⟩ ⟨us ++ [u], by simpa using hown, by simp [h2], fun j q y' hq hy' => ?_⟩ (Below.grown (hG.trans hgA) hgr (Nat.le_trans hG.size (Nat.le_of_lt hsz)) (fun k hk => by have := (h1.lt k hk).1; omega))
    have key : ∀ q y', Off R v.ownBlock w q y' → Off R (some g') w' q y' := by
      intro q y' hq
      have hq' := hq.grow hgA
      rcases hat with hat | hat
      · rw [← hat]; exact hq'.step hgr
      · exact hq'.move hgr (by omega)
    show Off R (some g') w' q y'
    by_cases hj : j < us.length
    · rw [List.getElem?_append_left hj] at hq
      rw [List.getElem?_append_left (by omega)] at hy'
      exact key q y' (h3 j q y' hq hy')
    · rw [List.getElem?_append_right (by omega)] at hq
      rw [List.getElem?_append_right (by omega)] at hy'
      obtain hj0 : j - us.length = 0 := by
        by_cases h0 : j - us.length = 0
        · exact h0
        · rw [List.getElem?_eq_none (by simp; omega)] at hq; cases hq
      rw [hj0] at hq
      rw [← h2, hj0] at hy'
      simp at hq hy'
      subst hq hy'
      exact key _ _ hoff

end

/-- Bytes of a row of the call's own are readable whatever is written elsewhere. -/
theorem Off.own {w : World} {B : Nat} {e : TypeId} {v : Value} {n : Nat} {l : List Int} {g : Option Nat} (h : w.ownsRow B e 1 v n (l.map (Value.int .u8))) (ho : Octets l) (hg : ∀ k, g = some k → k < B) : Off Bs g w v l := fun w' h' =>
  Bs.of_own (h.kept h' (by
    cases hv : v.ownBlock with
    | none => exact .inl rfl
    | some b => exact .inr fun e => by have := hg b e.symm; have := (h.lt b hv).1; omega)) ho

/-- Bytes of a row that is known whole are readable whatever is written elsewhere. -/
theorem Off.row {w : World} {e : TypeId} {mk : Nat × Nat} {b : Nat} {l : List Int} {n : Nat} {g : Option Nat} (hb : w.heap[b]? = some (.cells (l.map (Value.int .u8)).toArray e mk)) (hn : l.length = n) (hm : n ≤ maxLen) (ho : Octets l) (hg : g ≠ some b) : Off Bs g w (.slice (some ⟨b, 0, none⟩) n n) l := fun w' h' => by
  have hlt : b < w.heap.size := by
    by_cases hlt : b < w.heap.size
    · exact hlt
    · rw [Array.getElem?_eq_none (Nat.le_of_not_lt hlt)] at hb; cases hb
  have hb' := (h'.block b hlt (fun e => hg e.symm)).trans hb
  subst hn
  refine ⟨some ⟨b, 0, none⟩, l.length, rfl, Nat.le_refl _, hm, (fun h => nomatch h), ho, fun _ => ⟨b, 0, rfl, fun i hi => ?_⟩⟩
  simp only [World.cell?, hb']
  simp [hi, List.getD_eq_getElem?_getD]

theorem Off.stays {α : Type} (R : World → Value → α → Prop) (g : Option Nat) : Stays (Off R g) := fun _ _ _ _ h hg => h.grow hg

/-- Slices whose elements are readable whatever is written into g read as they should. -/
theorem Sl.off {α : Type} {R : World → Value → α → Prop} {g : Option Nat} {w : World} {v : Value} {xs : List α} (h : Sl (Off R g) w v xs) : Sl R w v xs := by
  obtain ⟨ao, cap, hv, h1, h2, h3, h4⟩ := h
  refine ⟨ao, cap, hv, h1, h2, h3, fun hp => ?_⟩
  obtain ⟨b, off, e, hc⟩ := h4 hp
  refine ⟨b, off, e, fun i x hx => ?_⟩
  obtain ⟨u, hu, hr⟩ := hc i x hx
  exact ⟨u, hu, hr.here⟩

/-- Bytes of a row that is known whole, whatever is written into two others. -/
theorem Off.row2 {w : World} {e : TypeId} {mk : Nat × Nat} {b : Nat} {l : List Int} {n : Nat} {g g' : Option Nat} (hb : w.heap[b]? = some (.cells (l.map (Value.int .u8)).toArray e mk)) (hn : l.length = n) (hm : n ≤ maxLen) (ho : Octets l) (hg : g ≠ some b) (hg' : g' ≠ some b) : Off (Off Bs g) g' w (.slice (some ⟨b, 0, none⟩) n n) l := fun w' h' => by
  have hlt : b < w.heap.size := by
    by_cases hlt : b < w.heap.size
    · exact hlt
    · rw [Array.getElem?_eq_none (Nat.le_of_not_lt hlt)] at hb; cases hb
  exact Off.row ((h'.block b hlt (fun e => hg' e.symm)).trans hb) hn hm ho hg

theorem Grow.frozen {w w' : World} (hg : Grow w w') {a : Addr} (ha : a.block < w.heap.size) : w'.frozen? a = w.frozen? a := World.frozen?_of_block (hg.block a.block ha)

/-- An append of a slice to an empty row that was made for it: a copy of the call's own. -/
theorem wp_append_copy {P : Program} {w : World} {o : Oper} {a : Act} {K : Act → World → Prop} {Q : Exit → Act → World → Prop} (s y : Operand) (t : TypeId)
    (ho : o.op = .call { callee := .builtin .append, args := #[s, y], argTypes := #[t, t] })
    (e : TypeId) (i : TypeInfo) (z : Value) (bytes : Nat) (ht : P.underlying t = some (.slice e)) (hi : P.info? e = some i) (hz : i.zero = some z)
    (hsize : i.size = 1) (hby : i.bytes = bytes) (hzs : z.cells.size = 1)
    (H : Nat) (hE : w.heap[H]? = some (.cells #[] e (0, 0))) (w0 : World) (hG : Grow w0 w) (hH : w0.heap.size ≤ H) (hs : a.eval s = .slice (some ⟨H, 0, none⟩) 0 0)
    (ad : Addr) (m c : Nat) (news : List Value) (hy : a.eval y = .slice (some ad) m c) (hl : news.length = m) (hnews : ∀ (j : Nat) u, news[j]? = some u → w0.cell? (ad.add j) = some u) (h1 : ∀ u ∈ news, u.oneCell' = true)
    (hm : 0 < m) (h63 : m ≤ 4611686018427387904) (hbytes : m * bytes ≤ 140737488355328)
    (h : ∀ g cap w', w'.ownsRow w0.heap.size e 1 (.slice (some ⟨g, 0, none⟩) m cap) m news → Grow w0 w' → w0.heap.size ≤ g → (∀ k, k < w.heap.size → k ≠ H → w'.heap[k]? = w.heap[k]?) → w.heap.size ≤ w'.heap.size → (g = H ∨ g = w.heap.size) → K (a.put o.dst (.slice (some ⟨g, 0, none⟩) m cap)) w') : o.wp P a w K Q := by
  have hlt : H < w.heap.size := by
    by_cases hlt : H < w.heap.size
    · exact hlt
    · rw [Array.getElem?_eq_none (Nat.le_of_not_lt hlt)] at hE; cases hE
  have hown : w.ownsRow w0.heap.size e 1 (.slice (some ⟨H, 0, none⟩) 0 0) 0 [] := ⟨rfl, .inr ⟨H, 0, #[], rfl, hH, hE, Nat.le_refl _, Nat.zero_le _, rfl, rfl⟩⟩
  refine wp_append_lies w s y t ho w0.heap.size e i z 1 bytes ht hi hz hsize hby hzs (by decide) _ 0 [] hs hown ad m c news hy (by omega) (fun j u hu => hG.at (hnews j u hu)) h1 hm (by unfold maxLen; omega) (by simpa using hbytes) hG.size _ rfl ?_
  intro g cap w' h2 h3 h4 h5
  simp only [Nat.zero_add, List.nil_append] at h2 ⊢
  refine h g cap w' h2 (hG.grown h3 (fun k hk => by cases hk; exact hH)) ?_ (fun k hk hne => h3.block k hk (fun e => hne (by cases e; rfl))) h3.size ?_
  · rcases h4 with h4 | h4
    · cases h4; exact hH
    · rw [h4]; exact hG.size
  · rcases h4 with h4 | h4
    · cases h4; exact .inl rfl
    · exact .inr h4

theorem wpList_append_copy {P : Program} {w : World} {ops : Array Oper} {rest : List Oper} {o : Oper} {a : Act} {Q : Exit → Act → World → Prop} (hgd : o.guard = none) (s y : Operand) (t : TypeId)
    (ho : o.op = .call { callee := .builtin .append, args := #[s, y], argTypes := #[t, t] })
    (e : TypeId) (i : TypeInfo) (z : Value) (bytes : Nat) (ht : P.underlying t = some (.slice e)) (hi : P.info? e = some i) (hz : i.zero = some z)
    (hsize : i.size = 1) (hby : i.bytes = bytes) (hzs : z.cells.size = 1)
    (H : Nat) (hE : w.heap[H]? = some (.cells #[] e (0, 0))) (w0 : World) (hG : Grow w0 w) (hH : w0.heap.size ≤ H) (hs : a.eval s = .slice (some ⟨H, 0, none⟩) 0 0)
    (ad : Addr) (m c : Nat) (news : List Value) (hy : a.eval y = .slice (some ad) m c) (hl : news.length = m) (hnews : ∀ (j : Nat) u, news[j]? = some u → w0.cell? (ad.add j) = some u) (h1 : ∀ u ∈ news, u.oneCell' = true)
    (hm : 0 < m) (h63 : m ≤ 4611686018427387904) (hbytes : m * bytes ≤ 140737488355328)
    (h : ∀ g cap w', w'.ownsRow w0.heap.size e 1 (.slice (some ⟨g, 0, none⟩) m cap) m news → Grow w0 w' → w0.heap.size ≤ g → (∀ k, k < w.heap.size → k ≠ H → w'.heap[k]? = w.heap[k]?) → w.heap.size ≤ w'.heap.size → (g = H ∨ g = w.heap.size) → wpList P ops Q rest (a.put o.dst (.slice (some ⟨g, 0, none⟩) m cap)) w') : wpList P ops Q (o :: rest) a w :=
  wpList_plain hgd fun _ hK => wp_append_copy s y t ho e i z bytes ht hi hz hsize hby hzs H hE w0 hG hH hs ad m c news hy hl hnews h1 hm h63 hbytes fun g cap w' a1 a2 a3 a4 a5 a6 => hK _ _ (h g cap w' a1 a2 a3 a4 a5 a6)

theorem step_append_copy {P : Program} {w : World} {ops : Array Oper} {o : Oper} {a : Act} {K : Act → World → Prop} {Q : Exit → Act → World → Prop} {E : Prop} (hgd : o.guard = none) (s y : Operand) (t : TypeId)
    (ho : o.op = .call { callee := .builtin .append, args := #[s, y], argTypes := #[t, t] })
    (e : TypeId) (i : TypeInfo) (z : Value) (bytes : Nat) (ht : P.underlying t = some (.slice e)) (hi : P.info? e = some i) (hz : i.zero = some z)
    (hsize : i.size = 1) (hby : i.bytes = bytes) (hzs : z.cells.size = 1)
    (H : Nat) (hE : w.heap[H]? = some (.cells #[] e (0, 0))) (w0 : World) (hG : Grow w0 w) (hH : w0.heap.size ≤ H) (hs : a.eval s = .slice (some ⟨H, 0, none⟩) 0 0)
    (ad : Addr) (m c : Nat) (news : List Value) (hy : a.eval y = .slice (some ad) m c) (hl : news.length = m) (hnews : ∀ (j : Nat) u, news[j]? = some u → w0.cell? (ad.add j) = some u) (h1 : ∀ u ∈ news, u.oneCell' = true)
    (hm : 0 < m) (h63 : m ≤ 4611686018427387904) (hbytes : m * bytes ≤ 140737488355328)
    (h : ∀ g cap w', w'.ownsRow w0.heap.size e 1 (.slice (some ⟨g, 0, none⟩) m cap) m news → Grow w0 w' → w0.heap.size ≤ g → (∀ k, k < w.heap.size → k ≠ H → w'.heap[k]? = w.heap[k]?) → w.heap.size ≤ w'.heap.size → (g = H ∨ g = w.heap.size) → K (a.put o.dst (.slice (some ⟨g, 0, none⟩) m cap)) w') :
    if Region.wanted o (yielded ops a.tmps) = true then Oper.wp P o a w K Q else E := by
  have hw : Region.wanted o (yielded ops a.tmps) = true := by simp [Region.wanted, hgd]
  rw [if_pos hw]
  exact wp_append_copy s y t ho e i z bytes ht hi hz hsize hby hzs H hE w0 hG hH hs ad m c news hy hl hnews h1 hm h63 hbytes h

end Go.Proofs.Ytjggiameajndgab
