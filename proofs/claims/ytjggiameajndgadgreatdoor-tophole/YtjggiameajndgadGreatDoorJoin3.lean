import Derived.Deep.AppendLies
import Derived.Test.YtjggiameajndgadGreatDoorProg
import Derived.WalkKit
import Derived.Test.YtjggiameajndgadGreatDoorShelf
import Derived.ProofKit
import Derived.OpenShut
import Derived.Deep.Slices
import Derived.Test.YtjggiameajndgadGreatDoorCards
import Derived.Test.YtjggiameajndgadGreatDoorTie
import Derived.LaidMore
import Derived.Lay
import Derived.SevenTiedAt
import Derived.Stop.Joined
import Derived.Stop.LaidErr
import Derived.Lib.LaidTab
import Derived.Deep.DeepHandedRow
import Derived.ShutString
import Derived.ChangeOld
import Derived.SizedLaws
import Derived.Test.YtjggiameajndgadGreatDoorJoin2
/-
  A row of the call's own that grows element by element, each element readable whatever is written into the row itself. A law for the walk: append of one element.
-/
namespace Go.Proofs.YtjggiameajndgadGreatDoor
open Go.RowKit

/-- It reads so in every world that agrees with w off the row g. -/
def Off {α : Type} (R : World → Value → α → Prop) (g : Option Nat) (w : World) (u : Value) (x : α) : Prop := ∀ w', w.grownBy w' g → R w' u x

/-- What reads so reads so still where nothing old has turned. -/
def Stays {α : Type} (R : World → Value → α → Prop) : Prop := ∀ w w' u x, R w u x → Grow w w' → R w' u x

theorem Grow.by {w w' : World} (h : Grow w w') (g : Option Nat) : w.grownBy w' g := ⟨h.os, h.tape, h.output, h.size, fun k hk _ => h.block k hk⟩
theorem Grow.of {w w' : World} (h : w.grownBy w' none) : Grow w w' := ⟨h.os, h.tape, h.output, h.size, fun k hk => h.block k hk (by simp)⟩

theorem Bs.stays : Stays Bs := fun _ _ _ _ h g => h.grow g
theorem Sl.stays {α : Type} {R : World → Value → α → Prop} (hR : Stays R) : Stays (Sl R) := fun _ _ _ _ h g => Sl.below (fun u x h => hR _ _ u x h g) h g
theorem Bss.stays : Stays Bss := Sl.stays Bs.stays

section
variable {α : Type} {R : World → Value → α → Prop} {g : Option Nat} {w w0 w1 : World} {u v : Value} {x : α} {xs : List α} {B : Nat} {e : TypeId}

theorem Off.here (h : Off R g w u x) : R w u x := h w ⟨rfl, rfl, rfl, Nat.le_refl _, fun _ _ _ => rfl⟩
theorem Off.step (h : Off R g w u x) (hg : w.grownBy w1 g) : Off R g w1 u x := fun w' h' => h w' (hg.trans h')
theorem Off.grow (h : Off R g w u x) (hg : Grow w w1) : Off R g w1 u x := h.step (hg.by g)
theorem Off.move (h : Off R g w u x) (hg : w.grownBy w1 g) {k : Nat} (hk : w.heap.size ≤ k) : Off R (some k) w1 u x := fun w' h' =>
  h w' ⟨h'.os.trans hg.os, h'.tape.trans hg.tape, h'.output.trans hg.output, Nat.le_trans hg.size h'.size, fun j hj hne => (h'.block j (Nat.lt_of_lt_of_le hj hg.size) (fun e => by injection e with e; omega)).trans (hg.block j hj hne)⟩
theorem Off.old (hR : Stays R) (h : R w0 u x) (hg : Grow w0 w) (hk : ∀ k, g = some k → w0.heap.size ≤ k) : Off R g w u x := fun w' h' =>
  hR w0 w' u x h ⟨h'.os.trans hg.os, h'.tape.trans hg.tape, h'.output.trans hg.output, Nat.le_trans hg.size h'.size, fun j hj => (h'.block j (Nat.lt_of_lt_of_le hj hg.size) (fun e => by have := hk j e.symm; omega)).trans (hg.block j hj)⟩
theorem Off.plain (hR : Stays R) (h : R w u x) : Off R none w u x := Off.old hR h (Grow.refl _) (fun _ h => nomatch h)

/-- The slice v of the call's own reads as xs; it may be written on. -/
def Rowing (R : World → Value → α → Prop) (B : Nat) (e : TypeId) (w : World) (v : Value) (xs : List α) : Prop :=
  ∃ us, w.ownsRow B e 1 v xs.length us ∧ us.length = xs.length ∧ ∀ (i : Nat) u x, us[i]? = some u → xs[i]? = some x → Off R v.ownBlock w u x

theorem Rowing.nil (R : World → Value → α → Prop) (B : Nat) (e : TypeId) (w : World) : Rowing R B e w (.slice none 0 0) [] :=
  ⟨[], World.ownsRow_nil _ _ _ _, rfl, fun i u x hu => by simp at hu⟩

theorem Rowing.lit0 (R : World → Value → α → Prop) {B : Nat} (e : TypeId) (w : World) (hB : B ≤ w.heap.size) : Rowing R B e (w.alloc (.cells #[] e)) (.slice (some ⟨w.heap.size, 0, none⟩) 0 0) [] :=
  ⟨[], World.ownsRow_lit w #[] 0 hB (Nat.zero_le _) rfl, rfl, fun i u x hu => by simp at hu⟩

theorem Rowing.grow (h : Rowing R B e w v xs) (hg : Grow w w1) : Rowing R B e w1 v xs := by
  obtain ⟨us, h1, h2, h3⟩ := h
  exact ⟨us, grow_own h1 hg, h2, fun i u x hu hx => (h3 i u x hu hx).grow hg⟩

theorem Rowing.done (h : Rowing R B e w v xs) : Sl R w v xs := by
  obtain ⟨us, h1, _, h3⟩ := h
  exact Sl.of_own h1 rfl (fun i u x hu hx => (h3 i u x hu hx).here)

theorem Rowing.base (h : Rowing R B e w v xs) : ∀ k, v.ownBlock = some k → B ≤ k ∧ k < w.heap.size := by
  obtain ⟨us, h1, _, _⟩ := h
  exact h1.lt

theorem Rowing.low (h : Rowing R B e w v xs) {B' : Nat} (hb : B' ≤ B) : Rowing R B' e w v xs := by
  obtain ⟨us, h1, h2, h3⟩ := h
  exact ⟨us, ⟨h1.1, h1.2.imp id fun ⟨g, cap, cur, k1, k2, k3⟩ => ⟨g, cap, cur, k1, Nat.le_trans hb k2, k3⟩⟩, h2, h3⟩

theorem Rowing.len (h : Rowing R B e w v xs) : xs.length ≤ maxLen := h.done.len

/-- An append of one element to such a row. -/
theorem wpList_push {P : Program} {ops : Array Oper} {rest : List Oper} {o : Oper} {a : Act} {Q : Exit → Act → World → Prop} (hgd : o.guard = none) (s y : Operand) (t : TypeId)
    (ho : o.op = .call { callee := .builtin .append, args := #[s, y], argTypes := #[t, t] })
    (i : TypeInfo) (z : Value) (bytes : Nat) (ht : P.underlying t = some (.slice e)) (hi : P.info? e = some i) (hz : i.zero = some z)
    (hsize : i.size = 1) (hby : i.bytes = bytes) (hzs : z.cells.size = 1)
    (w0 : World) (hG : Grow w0 w) (hB : w0.heap.size = B)
    (hs : a.eval s = v) (hrow : Rowing R B e w v xs) (hu1 : u.oneCell' = true) (hoff : Off R v.ownBlock w u x)
    (H : Nat) (hH : w.heap.size = H) (hy : a.eval y = .slice (some ⟨H, 0, none⟩) 1 1)
    (h63 : xs.length + 1 ≤ 4611686018427387904) (hbytes : (xs.length + 1) * bytes ≤ 140737488355328)
    (h : ∀ v' w', (∃ g cap, v' = .slice (some ⟨g, 0, none⟩) (xs.length + 1) cap) → Rowing R B e w' v' (xs ++ [x]) → Grow w0 w' → wpList P ops Q rest (a.put o.dst v') w') :
    wpList P ops Q (o :: rest) a (w.alloc (.cells #[u] e)) := by
  subst hH
  obtain ⟨us, h1, h2, h3⟩ := hrow
  have hsz : w.heap.size < (w.alloc (.cells #[u] e)).heap.size := by simp
  have hgA : Grow w (w.alloc (.cells #[u] e)) := (Below.refl _ _).alloc (Nat.le_refl _) _
  refine wpList_append_lies _ hgd s y t ho B e i z 1 bytes ht hi hz hsize hby hzs (by decide) v xs.length us hs (h1.alloc _) ⟨w.heap.size, 0, none⟩ 1 1 [u] hy rfl ?_ ?_ (by decide) (by unfold maxLen; omega) hbytes (by have := hG.size; omega) _ rfl ?_
  · exact fun j q hj => World.news_of_block (heap_alloc_new w _) j q (by simpa using hj)
  · intro q hq
    simp at hq
    subst hq
    exact hu1
  · intro g' cap w' hown hgr hat _
    refine h _ _ ⟨g', cap, rfl⟩ ⟨us ++ [u], by simpa using hown, by simp [h2], fun j q y' hq hy' => ?_⟩ (Below.grown (hG.trans hgA) hgr (Nat.le_trans hG.size (Nat.le_of_lt hsz)) (fun k hk => by have := (h1.lt k hk).1; omega))
    have key : ∀ q y', Off R v.ownBlock w q y' → Off R (some g') w' q y' := by
      intro q y' hq
      have hq' := hq.grow hgA
      rcases hat with hat | hat
      · rw [← hat]; exact hq'.step hgr
      · exact hq'.move hgr (by omega)
    show Off R (some g') w' q y'
    by_cases hj : j < us.length
    · rw [List.getElem?_append_left hj] at hq
      rw [List.getElem?_append_left (by omega)] at hy'
      exact key q y' (h3 j q y' hq hy')
    · rw [List.getElem?_append_right (by omega)] at hq
      rw [List.getElem?_append_right (by omega)] at hy'
      obtain hj0 : j - us.length = 0 := by
        by_cases h0 : j - us.length = 0
        · exact h0
        · rw [List.getElem?_eq_none (by simp; omega)] at hq; cases hq
      rw [hj0] at hq
      rw [← h2, hj0] at hy'
      simp at hq hy'
      subst hq hy'
      exact key _ _ hoff

end

/-- Bytes of a row of the call's own are readable whatever is written elsewhere. -/
theorem Off.own {w : World} {B : Nat} {e : TypeId} {v : Value} {n : Nat} {l : List Int} {g : Option Nat} (h : w.ownsRow B e 1 v n (l.map (Value.int .u8))) (ho : Octets l) (hg : ∀ k, g = some k → k < B) : Off Bs g w v l := fun w' h' =>
  Bs.of_own (h.kept h' (by
    cases hv : v.ownBlock with
    | none => exact .inl rfl
    | some b => exact .inr fun e => by have := hg b e.symm; have := (h.lt b hv).1; omega)) ho

/-- Bytes of a row that is known whole are readable whatever is written elsewhere. -/
theorem Off.row {w : World} {e : TypeId} {mk : Nat × Nat} {b : Nat} {l : List Int} {n : Nat} {g : Option Nat} (hb : w.heap[b]? = some (.cells (l.map (Value.int .u8)).toArray e mk)) (hn : l.length = n) (hm : n ≤ maxLen) (ho : Octets l) (hg : g ≠ some b) : Off Bs g w (.slice (some ⟨b, 0, none⟩) n n) l := fun w' h' => by
  have hlt : b < w.heap.size := by
    by_cases hlt : b < w.heap.size
    · exact hlt
    · rw [Array.getElem?_eq_none (Nat.le_of_not_lt hlt)] at hb; cases hb
  have hb' := (h'.block b hlt (fun e => hg e.symm)).trans hb
  subst hn
  refine ⟨some ⟨b, 0, none⟩, l.length, rfl, Nat.le_refl _, hm, (fun h => nomatch h), ho, fun _ => ⟨b, 0, rfl, fun i hi => ?_⟩⟩
  simp only [World.cell?, hb']
  simp [hi, List.getD_eq_getElem?_getD]

theorem Off.stays {α : Type} (R : World → Value → α → Prop) (g : Option Nat) : Stays (Off R g) := fun _ _ _ _ h hg => h.grow hg

/-- Slices whose elements are readable whatever is written into g read as they should. -/
theorem Sl.off {α : Type} {R : World → Value → α → Prop} {g : Option Nat} {w : World} {v : Value} {xs : List α} (h : Sl (Off R g) w v xs) : Sl R w v xs := by
  obtain ⟨ao, cap, hv, h1, h2, h3, h4⟩ := h
  refine ⟨ao, cap, hv, h1, h2, h3, fun hp => ?_⟩
  obtain ⟨b, off, e, hc⟩ := h4 hp
  refine ⟨b, off, e, fun i x hx => ?_⟩
  obtain ⟨u, hu, hr⟩ := hc i x hx
  exact ⟨u, hu, hr.here⟩

/-- Bytes of a row that is known whole, whatever is written into two others. -/
theorem Off.row2 {w : World} {e : TypeId} {mk : Nat × Nat} {b : Nat} {l : List Int} {n : Nat} {g g' : Option Nat} (hb : w.heap[b]? = some (.cells (l.map (Value.int .u8)).toArray e mk)) (hn : l.length = n) (hm : n ≤ maxLen) (ho : Octets l) (hg : g ≠ some b) (hg' : g' ≠ some b) : Off (Off Bs g) g' w (.slice (some ⟨b, 0, none⟩) n n) l := fun w' h' => by
  have hlt : b < w.heap.size := by
    by_cases hlt : b < w.heap.size
    · exact hlt
    · rw [Array.getElem?_eq_none (Nat.le_of_not_lt hlt)] at hb; cases hb
  exact Off.row ((h'.block b hlt (fun e => hg' e.symm)).trans hb) hn hm ho hg

theorem Grow.frozen {w w' : World} (hg : Grow w w') {a : Addr} (ha : a.block < w.heap.size) : w'.frozen? a = w.frozen? a := World.frozen?_of_block (hg.block a.block ha)

/-- An append of a slice to an empty row that was made for it: a copy of the call's own. -/
theorem wp_append_copy {P : Program} {w : World} {o : Oper} {a : Act} {K : Act → World → Prop} {Q : Exit → Act → World → Prop} (s y : Operand) (t : TypeId)
    (ho : o.op = .call { callee := .builtin .append, args := #[s, y], argTypes := #[t, t] })
    (e : TypeId) (i : TypeInfo) (z : Value) (bytes : Nat) (ht : P.underlying t = some (.slice e)) (hi : P.info? e = some i) (hz : i.zero = some z)
    (hsize : i.size = 1) (hby : i.bytes = bytes) (hzs : z.cells.size = 1)
    (H : Nat) (hE : w.heap[H]? = some (.cells #[] e (0, 0))) (w0 : World) (hG : Grow w0 w) (hH : w0.heap.size ≤ H) (hs : a.eval s = .slice (some ⟨H, 0, none⟩) 0 0)
    (ad : Addr) (m c : Nat) (news : List Value) (hy : a.eval y = .slice (some ad) m c) (hl : news.length = m) (hnews : ∀ (j : Nat) u, news[j]? = some u → w0.cell? (ad.add j) = some u) (h1 : ∀ u ∈ news, u.oneCell' = true)
    (hm : 0 < m) (h63 : m ≤ 4611686018427387904) (hbytes : m * bytes ≤ 140737488355328)
    (h : ∀ g cap w', w'.ownsRow w0.heap.size e 1 (.slice (some ⟨g, 0, none⟩) m cap) m news → Grow w0 w' → w0.heap.size ≤ g → (∀ k, k < w.heap.size → k ≠ H → w'.heap[k]? = w.heap[k]?) → w.heap.size ≤ w'.heap.size → (g = H ∨ g = w.heap.size) → K (a.put o.dst (.slice (some ⟨g, 0, none⟩) m cap)) w') : o.wp P a w K Q := by
  have hlt : H < w.heap.size := by
    by_cases hlt : H < w.heap.size
    · exact hlt
    · rw [Array.getElem?_eq_none (Nat.le_of_not_lt hlt)] at hE; cases hE
  have hown : w.ownsRow w0.heap.size e 1 (.slice (some ⟨H, 0, none⟩) 0 0) 0 [] := ⟨rfl, .inr ⟨H, 0, #[], rfl, hH, hE, Nat.le_refl _, Nat.zero_le _, rfl, rfl⟩⟩
  refine wp_append_lies w s y t ho w0.heap.size e i z 1 bytes ht hi hz hsize hby hzs (by decide) _ 0 [] hs hown ad m c news hy (by omega) (fun j u hu => hG.at (hnews j u hu)) h1 hm (by unfold maxLen; omega) (by simpa using hbytes) hG.size _ rfl ?_
  intro g cap w' h2 h3 h4 h5
  simp only [Nat.zero_add, List.nil_append] at h2 ⊢
  refine h g cap w' h2 (hG.grown h3 (fun k hk => by cases hk; exact hH)) ?_ (fun k hk hne => h3.block k hk (fun e => hne (by cases e; rfl))) h3.size ?_
  · rcases h4 with h4 | h4
    · cases h4; exact hH
    · rw [h4]; exact hG.size
  · rcases h4 with h4 | h4
    · cases h4; exact .inl rfl
    · exact .inr h4

theorem wpList_append_copy {P : Program} {w : World} {ops : Array Oper} {rest : List Oper} {o : Oper} {a : Act} {Q : Exit → Act → World → Prop} (hgd : o.guard = none) (s y : Operand) (t : TypeId)
    (ho : o.op = .call { callee := .builtin .append, args := #[s, y], argTypes := #[t, t] })
    (e : TypeId) (i : TypeInfo) (z : Value) (bytes : Nat) (ht : P.underlying t = some (.slice e)) (hi : P.info? e = some i) (hz : i.zero = some z)
    (hsize : i.size = 1) (hby : i.bytes = bytes) (hzs : z.cells.size = 1)
    (H : Nat) (hE : w.heap[H]? = some (.cells #[] e (0, 0))) (w0 : World) (hG : Grow w0 w) (hH : w0.heap.size ≤ H) (hs : a.eval s = .slice (some ⟨H, 0, none⟩) 0 0)
    (ad : Addr) (m c : Nat) (news : List Value) (hy : a.eval y = .slice (some ad) m c) (hl : news.length = m) (hnews : ∀ (j : Nat) u, news[j]? = some u → w0.cell? (ad.add j) = some u) (h1 : ∀ u ∈ news, u.oneCell' = true)
    (hm : 0 < m) (h63 : m ≤ 4611686018427387904) (hbytes : m * bytes ≤ 140737488355328)
    (h : ∀ g cap w', w'.ownsRow w0.heap.size e 1 (.slice (some ⟨g, 0, none⟩) m cap) m news → Grow w0 w' → w0.heap.size ≤ g → (∀ k, k < w.heap.size → k ≠ H → w'.heap[k]? = w.heap[k]?) → w.heap.size ≤ w'.heap.size → (g = H ∨ g = w.heap.size) → wpList P ops Q rest (a.put o.dst (.slice (some ⟨g, 0, none⟩) m cap)) w') : wpList P ops Q (o :: rest) a w :=
  wpList_plain hgd fun _ hK => wp_append_copy s y t ho e i z bytes ht hi hz hsize hby hzs H hE w0 hG hH hs ad m c news hy hl hnews h1 hm h63 hbytes fun g cap w' a1 a2 a3 a4 a5 a6 => hK _ _ (h g cap w' a1 a2 a3 a4 a5 a6)

theorem step_append_copy {P : Program} {w : World} {ops : Array Oper} {o : Oper} {a : Act} {K : Act → World → Prop} {Q : Exit → Act → World → Prop} {E : Prop} (hgd : o.guard = none) (s y : Operand) (t : TypeId)
    (ho : o.op = .call { callee := .builtin .append, args := #[s, y], argTypes := #[t, t] })
    (e : TypeId) (i : TypeInfo) (z : Value) (bytes : Nat) (ht : P.underlying t = some (.slice e)) (hi : P.info? e = some i) (hz : i.zero = some z)
    (hsize : i.size = 1) (hby : i.bytes = bytes) (hzs : z.cells.size = 1)
    (H : Nat) (hE : w.heap[H]? = some (.cells #[] e (0, 0))) (w0 : World) (hG : Grow w0 w) (hH : w0.heap.size ≤ H) (hs : a.eval s = .slice (some ⟨H, 0, none⟩) 0 0)
    (ad : Addr) (m c : Nat) (news : List Value) (hy : a.eval y = .slice (some ad) m c) (hl : news.length = m) (hnews : ∀ (j : Nat) u, news[j]? = some u → w0.cell? (ad.add j) = some u) (h1 : ∀ u ∈ news, u.oneCell' = true)
    (hm : 0 < m) (h63 : m ≤ 4611686018427387904) (hbytes : m * bytes ≤ 140737488355328)
    (h : ∀ g cap w', w'.ownsRow w0.heap.size e 1 (.slice (some ⟨g, 0, none⟩) m cap) m news → Grow w0 w' → w0.heap.size ≤ g → (∀ k, k < w.heap.size → k ≠ H → w'.heap[k]? = w.heap[k]?) → w.heap.size ≤ w'.heap.size → (g = H ∨ g = w.heap.size) → K (a.put o.dst (.slice (some ⟨g, 0, none⟩) m cap)) w') :
    if Region.wanted o (yielded ops a.tmps) = true then Oper.wp P o a w K Q else E := by
  have hw : Region.wanted o (yielded ops a.tmps) = true := by simp [Region.wanted, hgd]
  rw [if_pos hw]
  exact wp_append_copy s y t ho e i z bytes ht hi hz hsize hby hzs H hE w0 hG hH hs ad m c news hy hl hnews h1 hm h63 hbytes h

end Go.Proofs.YtjggiameajndgadGreatDoor

/-
  What the reference's Spare, Where and Block return: they make memory, and nothing old turns.
-/
namespace Go.Proofs.YtjggiameajndgadGreatDoor
open Go.RowKit

theorem ret_int3 {k k2 k3 : IntKind} {a b a2 b2 a3 b3 : Int} (h : a = b) (h2 : a2 = b2) (h3 : a3 = b3) : Ending.returned (.tuple #[.int k a, .int k2 a2, .int k3 a3]) = .returned (.tuple #[.int k b, .int k2 b2, .int k3 b3]) := by rw [h, h2, h3]

theorem ret_int2 {k k2 : IntKind} {a b a2 b2 : Int} (h : a = b) (h2 : a2 = b2) : Ending.returned (.tuple #[.int k a, .int k2 a2]) = .returned (.tuple #[.int k b, .int k2 b2]) := by rw [h, h2]

end Go.Proofs.YtjggiameajndgadGreatDoor

/-
  What the reference's SameBytes, NewBlocks, Wrong and Do return. Nothing old turns.
-/
namespace Go.Proofs.YtjggiameajndgadGreatDoor
open Go.RowKit

theorem same_no {a b : List (List Int)} {k : Nat} (h : a.getD k [] ≠ b.getD k []) : (a == b) = false := by
  rw [beq_eq_false_iff_ne]
  intro h0
  exact h (by rw [h0])

theorem same_yes {a b : List (List Int)} (hl : a.length = b.length) (h : ∀ k, k < a.length → a.getD k [] = b.getD k []) : (a == b) = true := by
  rw [beq_iff_eq]
  refine List.ext_getElem hl fun i h1 h2 => ?_
  have := h i h1
  simpa [List.getD_eq_getElem?_getD, h1, h2] using this

theorem same_len {a b : List (List Int)} (h : a.length ≠ b.length) : (a == b) = false := by
  rw [beq_eq_false_iff_ne]
  intro h0
  exact h (by rw [h0])

theorem getD_mem {a : List (List Int)} {k : Nat} (h : k < a.length) : a.getD k [] ∈ a := by simp [List.getD_eq_getElem?_getD, h]

end Go.Proofs.YtjggiameajndgadGreatDoor

/-
  What the program's table says of the types of elements.
-/
namespace Go.Proofs.YtjggiameajndgadGreatDoor

theorem Tryz.infoS : (Tryz.prog.info? 34).map (fun i => (i.zero, i.size, i.bytes)) = some (some (.slice none 0 0), 1, 24) := by kernel_rfl

end Go.Proofs.YtjggiameajndgadGreatDoor

/-
  What the reference's NewBlocks, RightBlocks, Wrong and Do return. Nothing old turns.
-/
namespace Go.Proofs.YtjggiameajndgadGreatDoor
open Go.RowKit

/-- A block of noughts. -/
def nought : List Int := [0, 0, 0, 0]
theorem nought_oct : Octets nought := by intro x hx; simp [nought] at hx; omega

theorem replicate_push (k : Nat) (x : List Int) : List.replicate k x ++ [x] = List.replicate (k + 1) x := (List.replicate_succ').symm

/-- Blocks, all of them. -/
def rightBlocksB (ls : List (List Int)) : Bool := ls.all (fun b => b.length == 4) && decide (ls.length = 9)

theorem rb_no {ls : List (List Int)} {k : Nat} (hk : k < ls.length) (h : (ls.getD k []).length ≠ 4) : rightBlocksB ls = false := by
  rw [rightBlocksB, Bool.and_eq_false_iff]
  left
  rw [List.all_eq_false]
  exact ⟨ls.getD k [], by simp [List.getD_eq_getElem?_getD, hk], by simpa using h⟩

theorem rb_end {ls : List (List Int)} (h : ∀ k, k < ls.length → (ls.getD k []).length = 4) : rightBlocksB ls = decide (ls.length = 9) := by
  have : ls.all (fun b => b.length == 4) = true := by
    rw [List.all_eq_true]
    intro b hb
    obtain ⟨i, hi, rfl⟩ := List.mem_iff_getElem.1 hb
    have := h i hi
    simpa [List.getD_eq_getElem?_getD, hi] using this
  rw [rightBlocksB, this, Bool.true_and]

theorem rb_all {ls : List (List Int)} (h : rightBlocksB ls = true) : (∀ b ∈ ls, b.length = 4) ∧ ls.length = 9 := by
  simp [rightBlocksB] at h
  exact h

/-- A deed, as it lies. -/
def DeedV (w : World) (v : Value) (x : DeedP) : Prop := ∃ dv, v = .agg #[.int .i64 x.k, .int .i64 x.n, .int .i64 x.m, dv] ∧ Bs w dv x.d
theorem DeedV.grow {w w' : World} {v : Value} {x : DeedP} (h : DeedV w v x) (hg : Grow w w') : DeedV w' v x := by
  obtain ⟨dv, hv, hb⟩ := h
  exact ⟨dv, hv, hb.grow hg⟩

theorem w_kind {x : DeedP} (h : x.k ≠ 1) (h2 : x.k ≠ 2) : wrongE x = 1 := by rw [wrongE, if_pos ⟨h, h2⟩]
theorem w_n {x : DeedP} (h : x.k = 1 ∨ x.k = 2) (h2 : x.n < 0 ∨ 8 < x.n) : wrongE x = 3 := by rw [wrongE, if_neg (by omega), if_pos h2]
theorem w_m {x : DeedP} (h : x.k = 1) (h2 : 0 ≤ x.n ∧ x.n ≤ 8) (h3 : x.m ≠ 0) : wrongE x = 3 := by rw [wrongE, if_neg (by omega), if_neg (by omega), if_pos h, if_pos h3]
theorem w_len {x : DeedP} (h : x.k = 1) (h2 : 0 ≤ x.n ∧ x.n ≤ 8) (h3 : x.m = 0) (h4 : x.d.length ≠ 4) : wrongE x = 4 := by rw [wrongE, if_neg (by omega), if_neg (by omega), if_pos h, if_neg (by omega), if_pos h4]
theorem w_ok {x : DeedP} (h : x.k = 1) (h2 : 0 ≤ x.n ∧ x.n ≤ 8) (h3 : x.m = 0) (h4 : x.d.length = 4) : wrongE x = 0 := by rw [wrongE, if_neg (by omega), if_neg (by omega), if_pos h, if_neg (by omega), if_neg (by omega)]
theorem w_at {x : DeedP} (h : x.k = 2) (h2 : 0 ≤ x.n ∧ x.n ≤ 8) (h3 : whereE x.m ≠ 0 ∨ whereS x.n ≠ whereS x.m) : wrongE x = 3 := by rw [wrongE, if_neg (by omega), if_neg (by omega), if_neg (by omega), if_pos h3]
theorem w_much {x : DeedP} (h : x.k = 2) (h2 : 0 ≤ x.n ∧ x.n ≤ 8) (h3 : ¬ (whereE x.m ≠ 0 ∨ whereS x.n ≠ whereS x.m)) (h4 : x.d.length ≠ 0) : wrongE x = 4 := by rw [wrongE, if_neg (by omega), if_neg (by omega), if_neg (by omega), if_neg h3, if_pos h4]
theorem w_ok2 {x : DeedP} (h : x.k = 2) (h2 : 0 ≤ x.n ∧ x.n ≤ 8) (h3 : ¬ (whereE x.m ≠ 0 ∨ whereS x.n ≠ whereS x.m)) (h4 : x.d.length = 0) : wrongE x = 0 := by rw [wrongE, if_neg (by omega), if_neg (by omega), if_neg (by omega), if_neg h3, if_neg (by omega)]

end Go.Proofs.YtjggiameajndgadGreatDoor

/-
  What the reference's SameDeed returns; strconv.Itoa of a small number.
-/
namespace Go.Proofs.YtjggiameajndgadGreatDoor
open Go.RowKit

/-- Are they one? -/
def sameD (x y : DeedP) : Bool := decide (x.k = y.k ∧ x.n = y.n ∧ x.m = y.m ∧ x.d = y.d)

theorem sameD_iff {x y : DeedP} : sameD x y = true ↔ x = y := by
  obtain ⟨k, n, m, d⟩ := x
  obtain ⟨k', n', m', d'⟩ := y
  simp [sameD]

/-- A text as a value. -/
def str (l : List UInt8) : ByteArray := ⟨l.toArray⟩

theorem str_size (l : List UInt8) : (str l).size = l.length := by simp [str, ByteArray.size]

theorem str_append (a b : List UInt8) : str a ++ str b = str (a ++ b) := by
  simp only [str, ByteArray.mk_append_mk]

/-- strconv.Itoa of a small number. -/
theorem itoa_any (k : Nat) (hk : k < 10) (w : World) :
    Calls Tryz.prog 77 #[.int .i64 k] w fun e w' => e = .returned (.string (str (Lib.itoa k))) ∧ Grow w w' := by
  refine (Tryz.strconv_Itoa_small k (by omega) w).mono ?_
  rintro e w' ⟨rfl, rfl⟩
  refine ⟨?_, Grow.refl _⟩
  have : Lib.decDigits k = Lib.itoa k := by
    rw [itoa_small k hk, Lib.decDigits, dif_pos hk]
  rw [this]; rfl

end Go.Proofs.YtjggiameajndgadGreatDoor

/-
  The library's variables that strconv reads; strconv.Atoi and Itoa over texts.
-/
namespace Go.Proofs.YtjggiameajndgadGreatDoor
open Go.RowKit

theorem var_grow {P : Program} {w w' : World} {n : String} {cs : Array Value} (hv : w.var? P n = some cs) (h : Grow w w') : w'.var? P n = some cs := by
  unfold World.var? at hv ⊢
  cases hg : P.globalNamed n with
  | none => rw [hg] at hv; cases hv
  | some g =>
    rw [hg] at hv
    simp only [Option.bind_some] at hv ⊢
    have hlt : g < w.heap.size := by
      by_cases hq : g < w.heap.size
      · exact hq
      · rw [Array.getElem?_eq_none (Nat.le_of_not_lt hq)] at hv; cases hv
    rw [h.block g hlt]
    exact hv

/-- They hold what the library lays. -/
def Laid (w : World) : Prop :=
  Lib.TabIs Tryz.prog w "internal/strconv.uint64pow10" .u64 Lib.pow10Tab ∧ (∃ tp p, w.var? Tryz.prog "strconv.ErrSyntax" = some #[.iface tp p]) ∧ (∃ tp p, w.var? Tryz.prog "strconv.ErrRange" = some #[.iface tp p])

theorem Laid.grow {w w' : World} (h : Laid w) (hg : Grow w w') : Laid w' := by
  obtain ⟨h1, ⟨a, b, h2⟩, ⟨c, d, h3⟩⟩ := h
  exact ⟨var_grow h1 hg, ⟨a, b, var_grow h2 hg⟩, ⟨c, d, var_grow h3 hg⟩⟩

theorem itoa_full (n : Int) (h0 : -9223372036854775808 ≤ n) (h1 : n ≤ 9223372036854775807) (w : World) (h : Laid w) :
    Calls Tryz.prog 77 #[.int .i64 n] w fun e w' => e = .returned (.string (str (Lib.itoa n))) ∧ Grow w w' := by
  refine (Tryz.strconv_Itoa n h0 h1 w h.1).mono ?_
  rintro e w' ⟨rfl, k, os, rfl⟩
  refine ⟨rfl, rfl, rfl, rfl, ?_, fun j hj => ?_⟩
  · simp [Sort.grow, World.drewN]
  · simp only [Sort.grow, World.drewN]
    exact Array.getElem?_append_left hj

theorem atoi_full (l : List UInt8) (hl : l.length ≤ 281474976710656) (w : World) (h : Laid w) :
    Calls Tryz.prog 76 #[.string (str l)] w fun e w' => Grow w w' ∧ ((∃ v, Lib.atoiAll l = .ok v ∧ -9223372036854775808 ≤ v ∧ v ≤ 9223372036854775807 ∧ e = .returned (.tuple #[.int .i64 v, .nilIface])) ∨ ((∀ v, Lib.atoiAll l ≠ .ok v) ∧ ∃ v p, e = .returned (.tuple #[.int .i64 v, .iface 134 p]))) := by
  have hd : (str l).data.toList = l := by simp [str]
  obtain ⟨-, ⟨a, b, h2⟩, ⟨c, d, h3⟩⟩ := h
  cases hA : Lib.atoiAll l with
  | ok v =>
    refine (Tryz.strconv_Atoi_ok (str l) (by rw [str_size]; omega) v (by rw [hd]; exact hA) w).mono ?_
    rintro e w' ⟨rfl, hw⟩
    obtain ⟨b0, b1⟩ := Lib.atoiAll_bounds hA
    refine ⟨?_, .inl ⟨v, rfl, b0, b1, rfl⟩⟩
    rcases hw with rfl | ⟨t, rfl⟩
    · exact Grow.refl _
    · exact Lib.bytesWorld_below _ _ _
  | «syntax» =>
    refine (Tryz.strconv_Atoi_syntax_var (str l) (by rw [str_size]; omega) (by rw [hd]; exact hA) a b w h2).mono ?_
    rintro e w' ⟨N, rfl, -, -, hb⟩
    exact ⟨hb, .inr ⟨(fun v h => by cases h), _, _, rfl⟩⟩
  | range =>
    refine (Tryz.strconv_Atoi_range_var (str l) (by rw [str_size]; omega) (by rw [hd]; exact hA) c d w h3).mono ?_
    rintro e w' ⟨N, rfl, -, -, hb⟩
    exact ⟨hb, .inr ⟨(fun v h => by cases h), _, _, rfl⟩⟩

end Go.Proofs.YtjggiameajndgadGreatDoor

/-
  How an argument that is a slice of bytes is read: by its cells, and within the reach of the row.
-/
namespace Go.Proofs.YtjggiameajndgadGreatDoor
open Go.ChangeShapes Go.WideShapes Go.ChangeAt Go.RowKit

theorem wf_octet {n : Int} (h : (Lit.int .u8 n).wf = true) : 0 ≤ n ∧ n ≤ 255 := by
  have := bounds_u8 h
  omega

/-- A slice of bytes that came in: what it reads as. -/
theorem open_bs {P : Program} {H : Type} {enc : TypeId × Value → H} {W : World} {base : Nat} {sp : Nat → Bool} {held : Bool} {t e : TypeId} {v : Value} {d : DataW H} {p : List MemPlace}
    (ht : P.underlying t = some (.slice e)) (he : P.underlying e = some (.int .u8)) (hc : P.cellsOf e = 1) {b0 : Nat} (hv : Value.okWide P W .any b0 t v)
    (h : DataW.Trod enc P W base sp held t v d p) :
    ∃ l, Bs W v l ∧ (l = [] ∨ ∃ elems spare, d = .slice elems spare ∧ l.length ≤ elems.length + spare.length) := by
  obtain ⟨a0, len0, cap0, rfl⟩ := okWide_slice ht hv
  obtain ⟨fuel, hf⟩ := h
  rcases open_ints ht he hc hf with ⟨hcs, _⟩ | ⟨x, l, c, zs, hcs, _, hl, hm, hz, hx, hcell, hwz⟩
  · simp [Value.cells] at hcs
    obtain ⟨rfl, rfl, rfl⟩ := hcs
    exact ⟨[], Bs.nil W, .inl rfl⟩
  · simp [Value.cells] at hcs
    obtain ⟨rfl, rfl, rfl⟩ := hcs
    have hlz : len0 ≤ zs.length := by rw [hz]; split <;> omega
    have hlen : (zs.take len0).length = len0 := by simp; omega
    refine ⟨zs.take len0, ⟨some x, cap0, by rw [hlen], by omega, hm, (fun h => nomatch h), fun n hn => wf_octet (hwz n (List.mem_of_mem_take hn)), fun hp => ?_⟩, .inr ?_⟩
    · rw [hlen] at hp
      obtain ⟨b, off, spot⟩ := x
      have hspot : spot = none := by simpa [Addr.add] using World.cell?_spot (hcell 0 (by omega))
      subst hspot
      refine ⟨b, off, rfl, fun i hi => ?_⟩
      rw [hlen] at hi
      have hplain : (⟨b, off, none⟩ : Addr).add i = ⟨b, off + i, none⟩ := by unfold Addr.add; split <;> simp_all
      rw [← hplain, hcell i (by omega)]
      simp [List.getD_eq_getElem?_getD, hi]
    · simp only [Prod.mk.injEq] at hx
      exact ⟨_, _, hx.1, by simp [lits]⟩

end Go.Proofs.YtjggiameajndgadGreatDoor

/-
  How arguments that are deeds, steps, and slices of steps are read.
-/
namespace Go.Proofs.YtjggiameajndgadGreatDoor
open Go.ChangeShapes Go.WideShapes Go.ChangeAt Go.RowKit

theorem four_of {α : Type} {cs : List α} (h : cs.length = 4) : ∃ c0 c1 c2 c3, cs = [c0, c1, c2, c3] := by
  match cs, h with
  | [c0, c1, c2, c3], _ => exact ⟨_, _, _, _, rfl⟩
theorem seven_of {α : Type} {cs : List α} (h : cs.length = 7) : ∃ c0 c1 c2 c3 c4 c5 c6, cs = [c0, c1, c2, c3, c4, c5, c6] := by
  match cs, h with
  | [c0, c1, c2, c3, c4, c5, c6], _ => exact ⟨_, _, _, _, _, _, _, rfl⟩

section
variable {H : Type} {enc : TypeId × Value → H} {W : World} {base : Nat} {sp : Nat → Bool} {held : Bool}

/-- Fields of a struct, each with its own reading. -/
theorem field_at {P : Program} {fuel : Nat} {t : TypeId} {cs : List Value} {x : DataW H × List MemPlace} {fs : Array Field} (ht : P.underlying t = some (.struct fs)) (h : DataW.trod enc P W base sp held fuel t cs = some x) :
    cs.length = P.cellsOf t ∧ ∀ (i : Nat) (f : Field), fs[i]? = some f → ∃ n y, DataW.trod enc P W base sp held n f.type ((cs.drop f.offset).take (P.cellsOf f.type)) = some y := by
  obtain ⟨xs, n, -, -, hlen, hxl, hf⟩ := DataW.trod_struct ht h
  refine ⟨hlen, fun i f hi => ?_⟩
  have hlt : i < fs.size := (Array.getElem?_eq_some_iff.1 hi).1
  have := hf i f hi
  rw [List.getElem?_eq_getElem (by omega)] at this
  exact ⟨n, _, this⟩

theorem Tryz.cellsDeed : Tryz.prog.cellsOf 36 = 4 := by kernel_rfl
theorem Tryz.cellsInt : Tryz.prog.cellsOf 3 = 1 := by kernel_rfl
theorem Tryz.cellsBs : Tryz.prog.cellsOf 34 = 1 := by kernel_rfl
theorem Tryz.cellsB : Tryz.prog.cellsOf 5 = 1 := by kernel_rfl

theorem int_cell {n : Nat} {c : Value} {y : DataW H × List MemPlace} (h : DataW.trod enc Tryz.prog W base sp held n 3 [c] = some y) : ∃ k, c = .int .i64 k ∧ (Lit.int .i64 k).wf = true := by
  obtain ⟨k, e, -, hw⟩ := DataW.trod_int Tryz.underlying3 h
  exact ⟨k, by simpa using e, hw⟩

set_option maxRecDepth 20000 in
/-- Cells of a deed. -/
theorem deed_cells {fuel : Nat} {cs : List Value} {x : DataW H × List MemPlace} (h : DataW.trod enc Tryz.prog W base sp held fuel 36 cs = some x) :
    ∃ (y : DeedP) (dv : Value), cs = [.int .i64 y.k, .int .i64 y.n, .int .i64 y.m, dv] ∧ Bs W dv y.d ∧ (Lit.int .i64 y.k).wf = true ∧ (Lit.int .i64 y.n).wf = true ∧ (Lit.int .i64 y.m).wf = true := by
  obtain ⟨hlen, hf⟩ := field_at Tryz.underlying36 h
  rw [Tryz.cellsDeed] at hlen
  obtain ⟨c0, c1, c2, c3, rfl⟩ := four_of hlen
  have g0 := hf 0 _ rfl
  have h0 : ∃ n y, DataW.trod enc Tryz.prog W base sp held n 3 (([c0, c1, c2, c3].drop 0).take (Tryz.prog.cellsOf 3)) = some y := g0
  rw [Tryz.cellsInt] at h0
  obtain ⟨m0, y0, f0⟩ := h0
  have g1 := hf 1 _ rfl
  have h1 : ∃ n y, DataW.trod enc Tryz.prog W base sp held n 3 (([c0, c1, c2, c3].drop 1).take (Tryz.prog.cellsOf 3)) = some y := g1
  rw [Tryz.cellsInt] at h1
  obtain ⟨m1, y1, f1⟩ := h1
  have g2 := hf 2 _ rfl
  have h2 : ∃ n y, DataW.trod enc Tryz.prog W base sp held n 3 (([c0, c1, c2, c3].drop 2).take (Tryz.prog.cellsOf 3)) = some y := g2
  rw [Tryz.cellsInt] at h2
  obtain ⟨m2, y2, f2⟩ := h2
  have g3 := hf 3 _ rfl
  have h3 : ∃ n y, DataW.trod enc Tryz.prog W base sp held n 34 (([c0, c1, c2, c3].drop 3).take (Tryz.prog.cellsOf 34)) = some y := g3
  rw [Tryz.cellsBs] at h3
  obtain ⟨m3, y3, f3⟩ := h3
  obtain ⟨k, rfl, hk⟩ := int_cell f0
  obtain ⟨n, rfl, hn⟩ := int_cell f1
  obtain ⟨m, rfl, hm⟩ := int_cell f2
  obtain ⟨l, hl⟩ := bs_of_trod Tryz.underlying34 Tryz.underlying5 Tryz.cellsB f3
  exact ⟨⟨k, n, m, l⟩, _, rfl, hl, hk, hn, hm⟩

set_option maxRecDepth 20000 in
/-- A deed that is an argument. -/
theorem open_deed {v : Value} {d : DataW H} {p : List MemPlace} {b0 : Nat} (hv : Value.okWide Tryz.prog W .any b0 36 v) (h : DataW.Trod enc Tryz.prog W base sp held 36 v d p) :
    ∃ y : DeedP, DeedV W v y ∧ (-9223372036854775808 ≤ y.n ∧ y.n ≤ 9223372036854775807) ∧ (-9223372036854775808 ≤ y.m ∧ y.m ≤ 9223372036854775807) := by
  obtain ⟨fuel, hf⟩ := h
  unfold Value.okWide at hv
  rw [Tryz.underlying36] at hv
  obtain ⟨cs, rfl, -, -⟩ := hv
  obtain ⟨y, dv, e, hb, -, hn, hm⟩ := deed_cells hf
  have e' : cs = #[.int .i64 y.k, .int .i64 y.n, .int .i64 y.m, dv] := Array.toList_inj.1 e
  exact ⟨y, ⟨dv, by rw [e'], hb⟩, bounds_i64 hn, bounds_i64 hm⟩

end

end Go.Proofs.YtjggiameajndgadGreatDoor

/-
  What the listed variables give the walks of the top statements; and a world that holds them.
-/
namespace Go.Proofs.YtjggiameajndgadGreatDoor
open Go.ChangeShapes Go.WideShapes Go.ChangeAt Go.RowKit

theorem own6 : ownKnob Tryz.prog.godebug = none := by kernel_rfl
theorem laidOut6 : laidOutB Tryz.prog = true := by kernel_rfl

theorem star : "*" ++ "errors.errorString" = "*errors.errorString" := by decide
theorem rowErr (u : TypeId) (h : Tryz.prog.typeName? 3 u = some "*errors.errorString") : u = 160 :=
  typeName_ptr_named (nm := "errors.errorString") (by rw [star]; kernel_rfl) (by kernel_rfl) (by decide) u (by rw [star]; exact h)
theorem cellsErr : Tryz.prog.cellsOf 162 = 1 := by kernel_rfl
theorem cellsStr : Tryz.prog.cellsOf 9 = 1 := by kernel_rfl
theorem cells64 : Tryz.prog.cellsOf 145 = 1 := by kernel_rfl
theorem cellsPow : Tryz.prog.cellsOf 164 = 20 := by kernel_rfl

/-- The listed variables hold what strconv reads. -/
theorem laid_of {W : World} (h0 : laidMetH Tryz.prog Rows.topDisksRow.laid W) : Laid W := by
  rw [MakeChecks.laidMetH_plain _ _ _ (by kernel_rfl)] at h0
  have h2 := h0.tail.tail
  have h4 := h2.tail.tail
  have h5 := h4.tail
  refine ⟨?_, ?_, ?_⟩
  · exact Lib.tabIs_of_head (k := .u64) (zs := Lib.pow10Tab) (g := 5) (by kernel_rfl) (by kernel_rfl) Tryz.underlying164 Tryz.underlying145 cells64 cellsPow h2
  · obtain ⟨a, s, hv, -, -, -⟩ := laid_sentinel (g := 3) h5 (by kernel_rfl) (by kernel_rfl) Tryz.underlying117 rowErr Tryz.underlying160 Tryz.underlying162 rfl rfl Tryz.underlying9 cellsErr cellsStr
    exact ⟨_, _, hv⟩
  · obtain ⟨a, s, hv, -, -, -⟩ := laid_sentinel (g := 4) h4 (by kernel_rfl) (by kernel_rfl) Tryz.underlying117 rowErr Tryz.underlying160 Tryz.underlying162 rfl rfl Tryz.underlying9 cellsErr cellsStr
    exact ⟨_, _, hv⟩

end Go.Proofs.YtjggiameajndgadGreatDoor

/-
  An array, plain and as it lies: disks of cells, and intents.
-/
namespace Go.Proofs.YtjggiameajndgadGreatDoor
open Go.RowKit

/-- An array. -/
structure ArrP where
  ds : List (List (List Int))
  is : List (Int × List (List Int))

/-- Intents, as they lie: two cells each. -/
def Its (w : World) (v : Value) (l : List (Int × List (List Int))) : Prop :=
  ∃ ao cap, v = .slice ao l.length cap ∧ l.length ≤ cap ∧ cap ≤ maxLen ∧ (ao = none → cap = 0) ∧
    (0 < l.length → ∃ b off, ao = some ⟨b, off, none⟩ ∧ ∀ (i : Nat) p, l[i]? = some p → w.cell? ⟨b, off + i * 2, none⟩ = some (.int .i64 p.1) ∧ ∃ cv, w.cell? ⟨b, off + i * 2 + 1, none⟩ = some cv ∧ Bss w cv p.2)

theorem Its.stays : Stays Its := fun w w' v l h hg => by
  obtain ⟨ao, cap, hv, h1, h2, h3, h4⟩ := h
  refine ⟨ao, cap, hv, h1, h2, h3, fun hp => ?_⟩
  obtain ⟨b, off, e, hc⟩ := h4 hp
  refine ⟨b, off, e, fun i p hi => ?_⟩
  obtain ⟨h5, cv, h6, h7⟩ := hc i p hi
  exact ⟨hg.at h5, cv, hg.at h6, h7.grow hg⟩

theorem Its.nil (w : World) : Its w (.slice none 0 0) [] := ⟨none, 0, rfl, Nat.le_refl _, Nat.zero_le _, fun _ => rfl, fun h => by simp at h⟩

/-- Disks, as they lie. -/
abbrev Dks := Sl Bss
theorem Dks.stays : Stays Dks := Sl.stays Bss.stays

/-- An array, as it lies. -/
def ArrV (w : World) (v : Value) (a : ArrP) : Prop := ∃ dv iv, v = .agg #[dv, iv] ∧ Dks w dv a.ds ∧ Its w iv a.is
theorem ArrV.stays : Stays ArrV := fun _ _ _ _ ⟨dv, iv, hv, h1, h2⟩ hg => ⟨dv, iv, hv, Dks.stays _ _ _ _ h1 hg, Its.stays _ _ _ _ h2 hg⟩
theorem ArrV.grow {w w' : World} {v : Value} {a : ArrP} (h : ArrV w v a) (hg : Grow w w') : ArrV w' v a := ArrV.stays _ _ _ _ h hg

theorem Its.form {w : World} {v : Value} {l : List (Int × List (List Int))} (h : Its w v l) : ∃ ao cap, v = .slice ao l.length cap ∧ l.length ≤ cap ∧ cap ≤ 9223372036854775807 := by
  obtain ⟨ao, cap, rfl, h1, h2, -⟩ := h
  unfold maxLen at h2
  exact ⟨_, _, rfl, h1, by omega⟩

theorem Sl.form' {α : Type} {R : World → Value → α → Prop} {w : World} {v : Value} {xs : List α} (h : Sl R w v xs) : ∃ ao cap, v = .slice ao xs.length cap ∧ xs.length ≤ cap ∧ cap ≤ 9223372036854775807 := by
  obtain ⟨ao, cap, rfl, h1, h2, -⟩ := h
  unfold maxLen at h2
  exact ⟨_, _, rfl, h1, by omega⟩

/-- An element of a slice: its cell, and how it reads. -/
theorem Sl.elem {α : Type} {R : World → Value → α → Prop} {w : World} {ao : Option Addr} {n cap : Nat} {xs : List α} (h : Sl R w (.slice ao n cap) xs) {k : Nat} (hk : k < xs.length) (d : α) :
    ∃ b off u, ao = some ⟨b, off, none⟩ ∧ w.cell? ⟨b, off + k, none⟩ = some u ∧ R w u (xs.getD k d) := by
  obtain ⟨a1, c1, e1, -, -, -, h⟩ := h
  injection e1 with e1 _ _
  subst e1
  obtain ⟨b, off, e2, hc⟩ := h (by omega)
  obtain ⟨u, hu, hr⟩ := hc k (xs.getD k d) (by simp [List.getD_eq_getElem?_getD, hk])
  exact ⟨b, off, u, e2, hu, hr⟩

/-- An element that is itself a slice: its cell, and how it reads. -/
theorem Sl.elems {α : Type} {R : World → Value → α → Prop} {w : World} {ao : Option Addr} {n cap : Nat} {xss : List (List α)} (h : Sl (Sl R) w (.slice ao n cap) xss) {k : Nat} (hk : k < xss.length) :
    ∃ b off a' c', ao = some ⟨b, off, none⟩ ∧ w.cell? ⟨b, off + k, none⟩ = some (.slice a' (xss.getD k []).length c') ∧ Sl R w (.slice a' (xss.getD k []).length c') (xss.getD k []) := by
  obtain ⟨b, off, u, e, hu, hr⟩ := h.elem hk []
  obtain ⟨a', c', rfl⟩ := hr.form
  exact ⟨b, off, a', c', e, hu, hr⟩

/-- An array, as it lies, whose cells are readable whatever is written into g. -/
def ArrG (g : Option Nat) (w : World) (v : Value) (a : ArrP) : Prop := ∃ dv iv, v = .agg #[dv, iv] ∧ Sl (Sl (Off Bs g)) w dv a.ds ∧ Its w iv a.is

theorem ArrG.of {g : Option Nat} {w0 w : World} {v : Value} {a : ArrP} (h : ArrV w0 v a) (hG : Grow w0 w) (hg : ∀ k, g = some k → w0.heap.size ≤ k) : ArrG g w v a := by
  obtain ⟨dv, iv, hv, h1, h2⟩ := h
  exact ⟨dv, iv, hv, Sl.lift (fun _ _ h => Sl.lift (fun _ _ h => Off.old Bs.stays h hG hg) h hG) h1 hG, Its.stays _ _ _ _ h2 hG⟩

theorem ArrG.plain {g : Option Nat} {w : World} {v : Value} {a : ArrP} (h : ArrG g w v a) : ArrV w v a := by
  obtain ⟨dv, iv, hv, h1, h2⟩ := h
  exact ⟨dv, iv, hv, Sl.lift (fun _ _ h => h.off) h1 (Grow.refl _), h2⟩

theorem ArrG.grow {g : Option Nat} {w w' : World} {v : Value} {a : ArrP} (h : ArrG g w v a) (hG : Grow w w') : ArrG g w' v a := by
  obtain ⟨dv, iv, hv, h1, h2⟩ := h
  exact ⟨dv, iv, hv, Sl.lift (fun _ _ h => Sl.lift (fun _ _ h => h.grow hG) h hG) h1 hG, Its.stays _ _ _ _ h2 hG⟩

/-- The row does not lie in g. -/
def RowOff (g : Option Nat) (v : Value) (n : Nat) : Prop := 0 < n → ∀ b, v.ownBlock = some b → g ≠ some b

/-- A slice whose row does not lie in g. -/
def SlX {α : Type} (g : Option Nat) (R : World → Value → α → Prop) (w : World) (v : Value) (xs : List α) : Prop := Sl R w v xs ∧ RowOff g v xs.length

theorem SlX.step {α : Type} {g : Option Nat} {R R' : World → Value → α → Prop} {w w' : World} {v : Value} {xs : List α} (h : SlX g R w v xs) (hR : ∀ u x, R w u x → R' w' u x) (hg : w.grownBy w' g) : SlX g R' w' v xs := by
  obtain ⟨⟨ao, cap, hv, h1, h2, h3, h4⟩, h5⟩ := h
  refine ⟨⟨ao, cap, hv, h1, h2, h3, fun hp => ?_⟩, h5⟩
  obtain ⟨b, off, e, hc⟩ := h4 hp
  refine ⟨b, off, e, fun i x hx => ?_⟩
  obtain ⟨u, hu, hr⟩ := hc i x hx
  have hb := h5 hp b (by rw [hv, e]; rfl)
  exact ⟨u, hg.cell (a := ⟨b, off + i, none⟩) hu (fun e => hb e.symm), hR u x hr⟩

theorem SlX.old {α : Type} {g : Option Nat} {R R' : World → Value → α → Prop} {w0 w : World} {v : Value} {xs : List α} (h : Sl R w0 v xs) (hR : ∀ u x, R w0 u x → R' w u x) (hG : Grow w0 w) (hg : ∀ k, g = some k → w0.heap.size ≤ k) : SlX g R' w v xs := by
  refine ⟨Sl.lift hR h hG, fun hp b hb e => ?_⟩
  obtain ⟨ao, cap, rfl, h1, h2, h3, h4⟩ := h
  obtain ⟨b', off, rfl, hc⟩ := h4 hp
  obtain ⟨u, hu, _⟩ := hc 0 (xs[0]) (by simp [hp])
  have h6 := cell_lt hu
  have h7 := hg b e
  simp only [Value.ownBlock, Option.some.injEq] at hb
  omega

abbrev BssX (g : Option Nat) := SlX g (Off Bs g)
abbrev DksX (g : Option Nat) := SlX g (BssX g)

theorem BssX.step {g : Option Nat} {w w' : World} {v : Value} {ls : List (List Int)} (h : BssX g w v ls) (hg : w.grownBy w' g) : BssX g w' v ls := SlX.step h (fun _ _ h => h.step hg) hg
theorem BssX.old {g : Option Nat} {w0 w : World} {v : Value} {ls : List (List Int)} (h : Bss w0 v ls) (hG : Grow w0 w) (hg : ∀ k, g = some k → w0.heap.size ≤ k) : BssX g w v ls := SlX.old h (fun _ _ h => Off.old Bs.stays h hG hg) hG hg
theorem BssX.plain {g : Option Nat} {w : World} {v : Value} {ls : List (List Int)} (h : BssX g w v ls) : Bss w v ls := Sl.off h.1
theorem DksX.step {g : Option Nat} {w w' : World} {v : Value} {ds : List (List (List Int))} (h : DksX g w v ds) (hg : w.grownBy w' g) : DksX g w' v ds := SlX.step h (fun _ _ h => BssX.step h hg) hg
theorem DksX.old {g : Option Nat} {w0 w : World} {v : Value} {ds : List (List (List Int))} (h : Dks w0 v ds) (hG : Grow w0 w) (hg : ∀ k, g = some k → w0.heap.size ≤ k) : DksX g w v ds := SlX.old h (fun _ _ h => BssX.old h hG hg) hG hg
theorem DksX.plain {g : Option Nat} {w : World} {v : Value} {ds : List (List (List Int))} (h : DksX g w v ds) : Dks w v ds := Sl.lift (fun _ _ h => BssX.plain h) h.1 (Grow.refl _)

/-- Intents, none of whose rows lies in g. -/
def ItsX (g : Option Nat) (w : World) (v : Value) (l : List (Int × List (List Int))) : Prop :=
  (∃ ao cap, v = .slice ao l.length cap ∧ l.length ≤ cap ∧ cap ≤ maxLen ∧ (ao = none → cap = 0) ∧
    (0 < l.length → ∃ b off, ao = some ⟨b, off, none⟩ ∧ ∀ (i : Nat) p, l[i]? = some p → w.cell? ⟨b, off + i * 2, none⟩ = some (.int .i64 p.1) ∧ ∃ cv, w.cell? ⟨b, off + i * 2 + 1, none⟩ = some cv ∧ BssX g w cv p.2)) ∧ RowOff g v l.length

theorem ItsX.step {g : Option Nat} {w w' : World} {v : Value} {l : List (Int × List (List Int))} (h : ItsX g w v l) (hg : w.grownBy w' g) : ItsX g w' v l := by
  obtain ⟨⟨ao, cap, hv, h1, h2, h3, h4⟩, h5⟩ := h
  refine ⟨⟨ao, cap, hv, h1, h2, h3, fun hp => ?_⟩, h5⟩
  obtain ⟨b, off, e, hc⟩ := h4 hp
  refine ⟨b, off, e, fun i p hi => ?_⟩
  obtain ⟨h6, cv, h7, h8⟩ := hc i p hi
  have hb := h5 hp b (by rw [hv, e]; rfl)
  exact ⟨hg.cell h6 (fun e => hb e.symm), cv, hg.cell h7 (fun e => hb e.symm), BssX.step h8 hg⟩

theorem ItsX.old {g : Option Nat} {w0 w : World} {v : Value} {l : List (Int × List (List Int))} (h : Its w0 v l) (hG : Grow w0 w) (hg : ∀ k, g = some k → w0.heap.size ≤ k) : ItsX g w v l := by
  obtain ⟨ao, cap, rfl, h1, h2, h3, h4⟩ := h
  refine ⟨⟨ao, cap, rfl, h1, h2, h3, fun hp => ?_⟩, fun hp b hb e => ?_⟩
  · obtain ⟨b, off, e, hc⟩ := h4 hp
    refine ⟨b, off, e, fun i p hi => ?_⟩
    obtain ⟨h6, cv, h7, h8⟩ := hc i p hi
    exact ⟨hG.at h6, cv, hG.at h7, BssX.old h8 hG hg⟩
  · obtain ⟨b', off, rfl, hc⟩ := h4 hp
    obtain ⟨h6, _⟩ := hc 0 (l[0]) (by simp [hp])
    have h6 := cell_lt h6
    have h7 := hg b e
    simp only [Value.ownBlock, Option.some.injEq] at hb
    omega

theorem ItsX.plain {g : Option Nat} {w : World} {v : Value} {l : List (Int × List (List Int))} (h : ItsX g w v l) : Its w v l := by
  obtain ⟨⟨ao, cap, hv, h1, h2, h3, h4⟩, h5⟩ := h
  refine ⟨ao, cap, hv, h1, h2, h3, fun hp => ?_⟩
  obtain ⟨b, off, e, hc⟩ := h4 hp
  refine ⟨b, off, e, fun i p hi => ?_⟩
  obtain ⟨h6, cv, h7, h8⟩ := hc i p hi
  exact ⟨h6, cv, h7, h8.plain⟩

theorem ItsX.nil (g : Option Nat) (w : World) : ItsX g w (.slice none 0 0) [] := ⟨Its.nil w |> fun ⟨ao, cap, h1, h2, h3, h4, _⟩ => ⟨ao, cap, h1, h2, h3, h4, fun h => by simp at h⟩, fun h => by simp at h⟩

/-- An array, as it lies, none of whose rows lies in g. -/
def ArrX (g : Option Nat) (w : World) (v : Value) (a : ArrP) : Prop := ∃ dv iv, v = .agg #[dv, iv] ∧ DksX g w dv a.ds ∧ ItsX g w iv a.is
theorem ArrX.step {g : Option Nat} {w w' : World} {v : Value} {a : ArrP} (h : ArrX g w v a) (hg : w.grownBy w' g) : ArrX g w' v a := by
  obtain ⟨dv, iv, hv, h1, h2⟩ := h
  exact ⟨dv, iv, hv, DksX.step h1 hg, h2.step hg⟩
theorem ArrX.grow {g : Option Nat} {w w' : World} {v : Value} {a : ArrP} (h : ArrX g w v a) (hg : Grow w w') : ArrX g w' v a := h.step (hg.by g)
theorem ArrX.old {g : Option Nat} {w0 w : World} {v : Value} {a : ArrP} (h : ArrV w0 v a) (hG : Grow w0 w) (hg : ∀ k, g = some k → w0.heap.size ≤ k) : ArrX g w v a := by
  obtain ⟨dv, iv, hv, h1, h2⟩ := h
  exact ⟨dv, iv, hv, DksX.old h1 hG hg, ItsX.old h2 hG hg⟩
theorem ArrX.plain {g : Option Nat} {w : World} {v : Value} {a : ArrP} (h : ArrX g w v a) : ArrV w v a := by
  obtain ⟨dv, iv, hv, h1, h2⟩ := h
  exact ⟨dv, iv, hv, h1.plain, h2.plain⟩
theorem ArrX.toG {g : Option Nat} {w : World} {v : Value} {a : ArrP} (h : ArrX g w v a) : ArrG g w v a := by
  obtain ⟨dv, iv, hv, h1, h2⟩ := h
  exact ⟨dv, iv, hv, Sl.lift (fun _ _ h => h.1) h1.1 (Grow.refl _), h2.plain⟩

/-- The cells of a stripe. -/
def cellsL (a : ArrP) (s : Nat) : List (List Int) := a.ds.map fun d => d.getD s []

/-- Four disks of three cells each. -/
def Whole (a : ArrP) : Prop := a.ds.length = 4 ∧ (∀ d ∈ a.ds, d.length = 3)

theorem cellsL_length (a : ArrP) (s : Nat) : (cellsL a s).length = a.ds.length := by simp [cellsL]

theorem cells_take_succ {a : ArrP} {k : Nat} (h : k < a.ds.length) (s : Nat) : (a.ds.take k).map (fun d => d.getD s []) ++ [(a.ds.getD k []).getD s []] = (a.ds.take (k + 1)).map (fun d => d.getD s []) := by
  rw [List.take_add_one, List.map_append]
  congr 1
  simp [h, List.getD_eq_getElem?_getD]

/-- A struct that lies in two cells, read whole. -/
theorem run_loadVar_two {P : Program} {ty : TypeId} (w : World) (g : Nat) (d : TypeDesc) {x y : Value} (hu : P.underlying ty = some d) (hd : (match d with | .struct _ | .array _ _ => true | _ => false) = true) (hi : (P.info? ty).map (·.size) = some 2)
    (h0 : w.cell? ⟨g, 0, none⟩ = some x) (h1 : w.cell? ⟨g, 1, none⟩ = some y) : (loadVar ty ⟨g, 0, none⟩).run P w = .ok (.agg #[x, y]) w := by
  have hl := run_loadCells_list (P := P) w ⟨g, 0, none⟩ [x, y] (fun j v hj => by
    match j, hj with
    | 0, hj => simp at hj; subst hj; simpa [Addr.add] using h0
    | 1, hj => simp at hj; subst hj; simpa [Addr.add] using h1)
  simp only [List.length_cons, List.length_nil] at hl
  cases hq : P.info? ty with
  | none => simp [hq] at hi
  | some i =>
    have hs : i.size = 2 := by simpa [hq] using hi
    have hagg : (isAgg ty).run P w = .ok true w := by
      unfold isAgg
      rw [Sem.run_bind, run_underlying hu w]
      cases d <;> simp_all
    simp [loadVar, Sem.run_bind, hagg, sizeOf, typeInfo, hq, hs, hl]

/-- Results one of which lies in two cells. -/
theorem results_two {P : Program} {fn : Func} {p : Tmp} {ty : TypeId} (h : fn.results = #[.cell p ty]) (tmps : Array Value) (w : World) (g : Nat) (d : TypeDesc) {x y : Value}
    (hp : tmps.getD p undef = .pointer (some ⟨g, 0, none⟩)) (hu : P.underlying ty = some d) (hd : (match d with | .struct _ | .array _ _ => true | _ => false) = true) (hi : (P.info? ty).map (·.size) = some 2)
    (h0 : w.cell? ⟨g, 0, none⟩ = some x) (h1 : w.cell? ⟨g, 1, none⟩ = some y) : (results fn tmps).run P w = .ok (.agg #[x, y]) w := by
  have hp' : tmps[p]?.getD undef = .pointer (some ⟨g, 0, none⟩) := by simpa using hp
  simp [results, h, hp', asAddr, run_loadVar_two w g d hu hd hi h0 h1]

theorem results_two1 {P : Program} {fn : Func} {p u : Tmp} {ty : TypeId} (h : fn.results = #[.cell p ty, .tmp u]) (tmps : Array Value) (w : World) (g : Nat) (d : TypeDesc) {x y : Value}
    (hp : tmps.getD p undef = .pointer (some ⟨g, 0, none⟩)) (hu : P.underlying ty = some d) (hd : (match d with | .struct _ | .array _ _ => true | _ => false) = true) (hi : (P.info? ty).map (·.size) = some 2)
    (h0 : w.cell? ⟨g, 0, none⟩ = some x) (h1 : w.cell? ⟨g, 1, none⟩ = some y) : (results fn tmps).run P w = .ok (.tuple #[.agg #[x, y], tmps.getD u undef]) w := by
  have hp' : tmps[p]?.getD undef = .pointer (some ⟨g, 0, none⟩) := by simpa using hp
  simp [results, h, hp', asAddr, run_loadVar_two w g d hu hd hi h0 h1, Result.andThen]

theorem results_two2 {P : Program} {fn : Func} {p u v : Tmp} {ty : TypeId} (h : fn.results = #[.cell p ty, .tmp u, .tmp v]) (tmps : Array Value) (w : World) (g : Nat) (d : TypeDesc) {x y : Value}
    (hp : tmps.getD p undef = .pointer (some ⟨g, 0, none⟩)) (hu : P.underlying ty = some d) (hd : (match d with | .struct _ | .array _ _ => true | _ => false) = true) (hi : (P.info? ty).map (·.size) = some 2)
    (h0 : w.cell? ⟨g, 0, none⟩ = some x) (h1 : w.cell? ⟨g, 1, none⟩ = some y) : (results fn tmps).run P w = .ok (.tuple #[.agg #[x, y], tmps.getD u undef, tmps.getD v undef]) w := by
  have hp' : tmps[p]?.getD undef = .pointer (some ⟨g, 0, none⟩) := by simpa using hp
  simp [results, h, hp', asAddr, run_loadVar_two w g d hu hd hi h0 h1, Result.andThen]

end Go.Proofs.YtjggiameajndgadGreatDoor
