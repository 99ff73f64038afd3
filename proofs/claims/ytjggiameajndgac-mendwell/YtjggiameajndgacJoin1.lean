import Derived.WalkKit
import Derived.Deep.Draws
import Derived.Laws.AppendOwnNone
import Derived.Orders
import Derived.Laws.BytesArg
/-
  Plain mathematics of the sum: no program text is named here. What the sum of a list of bytes is, that two states of the sum never meet behind the same bytes, and that a sealed list with one byte turned is sealed no more.
-/
namespace Go.Proofs.Ytjggiameajndgac

/-- One byte more. -/
def sumStep (s x : Int) : Int := (s * 151 + x + 1) % 65521

/-- The sum that began at s, behind the bytes l. -/
def sumFrom (s : Int) : List Int → Int
  | [] => s
  | x :: r => sumFrom (sumStep s x) r

/-- The sum of bytes. -/
def sumOf (l : List Int) : Int := sumFrom 13 l

/-- Bytes with their sum behind. -/
def sealOf (l : List Int) : List Int := l ++ [sumOf l / 256, sumOf l % 256]

/-- Do these bytes end with the sum of what is ahead? -/
def sealedB (l : List Int) : Bool := decide (2 ≤ l.length) && (sealOf (l.take (l.length - 2)) == l)

/-- All of them are bytes. -/
def Octets (l : List Int) : Prop := ∀ x ∈ l, 0 ≤ x ∧ x ≤ 255

theorem sumFrom_snoc (s : Int) (l : List Int) (x : Int) : sumFrom s (l ++ [x]) = sumStep (sumFrom s l) x := by
  induction l generalizing s with
  | nil => rfl
  | cons y r ih => exact ih _

theorem sumOf_snoc (l : List Int) (x : Int) : sumOf (l ++ [x]) = (sumOf l * 151 + x + 1) % 65521 := sumFrom_snoc _ _ _

theorem sumStep_bd (s x : Int) : 0 ≤ sumStep s x ∧ sumStep s x < 65521 := by unfold sumStep; omega

theorem sumFrom_bd (s : Int) (l : List Int) (h0 : 0 ≤ s) (h1 : s < 65521) : 0 ≤ sumFrom s l ∧ sumFrom s l < 65521 := by
  induction l generalizing s with
  | nil => exact ⟨h0, h1⟩
  | cons y r ih => exact ih _ (sumStep_bd s y).1 (sumStep_bd s y).2

theorem sumOf_bd (l : List Int) : 0 ≤ sumOf l ∧ sumOf l < 65521 := sumFrom_bd 13 l (by omega) (by omega)

theorem sumOf_take_succ (l : List Int) (k : Nat) (h : k < l.length) : sumOf (l.take (k + 1)) = (sumOf (l.take k) * 151 + l.getD k 0 + 1) % 65521 := by
  rw [List.take_succ_eq_append_getElem h, sumOf_snoc]
  simp [List.getD_eq_getElem?_getD, h]

theorem sumStep_inj (s t x : Int) (hs : 0 ≤ s) (hs' : s < 65521) (ht : 0 ≤ t) (ht' : t < 65521) (h : sumStep s x = sumStep t x) : s = t := by
  unfold sumStep at h
  omega

theorem sumStep_byte (s x y : Int) (hx : 0 ≤ x ∧ x ≤ 255) (hy : 0 ≤ y ∧ y ≤ 255) (h : sumStep s x = sumStep s y) : x = y := by
  unfold sumStep at h
  omega

theorem sumFrom_inj (s t : Int) (l : List Int) (hs : 0 ≤ s) (hs' : s < 65521) (ht : 0 ≤ t) (ht' : t < 65521) (h : sumFrom s l = sumFrom t l) : s = t := by
  induction l generalizing s t with
  | nil => exact h
  | cons y r ih => exact sumStep_inj s t y hs hs' ht ht' (ih _ _ (sumStep_bd s y).1 (sumStep_bd s y).2 (sumStep_bd t y).1 (sumStep_bd t y).2 h)

/-- One byte turned: another sum. -/
theorem sumFrom_set (s : Int) (l : List Int) (k : Nat) (c : Int) (hk : k < l.length) (hl : Octets l) (hc : 0 ≤ c ∧ c ≤ 255) (h : sumFrom s (l.set k c) = sumFrom s l) : l[k] = c := by
  induction l generalizing s k with
  | nil => simp at hk
  | cons y r ih =>
    cases k with
    | zero =>
      have e := sumFrom_inj _ _ r (sumStep_bd s c).1 (sumStep_bd s c).2 (sumStep_bd s y).1 (sumStep_bd s y).2 h
      exact (sumStep_byte s c y hc (hl y (by simp)) e).symm
    | succ k => exact ih _ k (by simpa using hk) (fun x hx => hl x (by simp [hx])) h

theorem sealOf_length (l : List Int) : (sealOf l).length = l.length + 2 := by simp [sealOf]

theorem sealOf_octets (l : List Int) (h : Octets l) : Octets (sealOf l) := by
  intro x hx
  have := sumOf_bd l
  simp [sealOf] at hx
  rcases hx with hx | rfl | rfl
  · exact h x hx
  · omega
  · omega

theorem sealedB_seal (l : List Int) : sealedB (sealOf l) = true := by
  have h : (sealOf l).take ((sealOf l).length - 2) = l := by simp [sealOf]
  rw [sealedB, h]
  simp [sealOf_length]

/-- What is sealed is so no more if one of its bytes is another one. -/
theorem sealedB_turned (l : List Int) (k : Nat) (c : Int) (hk : k < (sealOf l).length) (hl : Octets l) (hc : 0 ≤ c ∧ c ≤ 255) (hne : (sealOf l).getD k 0 ≠ c) : sealedB ((sealOf l).set k c) = false := by
  have hlen := sealOf_length l
  by_cases hs : sealedB ((sealOf l).set k c) = true
  · exfalso
    apply hne
    rw [sealedB, Bool.and_eq_true] at hs
    have e := eq_of_beq hs.2
    have hlen' : ((sealOf l).set k c).length = l.length + 2 := by simp [hlen]
    rw [hlen'] at e
    have ht : ((sealOf l).set k c).take (l.length + 2 - 2) = l.set k c := by
      rw [show l.length + 2 - 2 = l.length from by omega, List.take_set]
      simp [sealOf]
    rw [ht] at e
    by_cases hkl : k < l.length
    · have e2 : (sealOf l).set k c = l.set k c ++ [sumOf l / 256, sumOf l % 256] := by
        rw [sealOf, List.set_append_left _ _ hkl]
      rw [e2, sealOf] at e
      have e3 := List.append_cancel_left e
      simp at e3
      have b1 := sumOf_bd l
      have b2 := sumOf_bd (l.set k c)
      have e4 : sumOf (l.set k c) = sumOf l := by omega
      have := sumFrom_set 13 l k c hkl hl hc e4
      rw [List.getD_eq_getElem?_getD, sealOf, List.getElem?_append_left hkl]
      simp [hkl, this]
    · have e2 : l.set k c = l := by rw [List.set_eq_of_length_le (by omega)]
      rw [e2] at e
      have e3 : (sealOf l).getD k 0 = ((sealOf l).set k c).getD k 0 := by rw [← e]
      rw [e3]
      simp [List.getD_eq_getElem?_getD, hk]
  · simpa using hs

/-- The program's own test of the two last bytes. -/
theorem sealedB_eq (l : List Int) (hl : Octets l) (n : Nat) (hn : l.length = n + 2) : sealedB l = (l.getD n 0 * 256 + l.getD (n + 1) 0 == sumOf (l.take n)) := by
  have h0 : n < l.length := by omega
  have h1 : n + 1 < l.length := by omega
  have hsp : l = l.take n ++ [l.getD n 0, l.getD (n + 1) 0] := by
    conv => lhs; rw [← List.take_append_drop n l]
    congr 1
    rw [List.drop_eq_getElem_cons h0, List.drop_eq_getElem_cons h1, List.drop_of_length_le (by omega)]
    simp [List.getD_eq_getElem?_getD, h0, h1]
  have b := sumOf_bd (l.take n)
  have c0 := hl (l.getD n 0) (by simp [List.getD_eq_getElem?_getD, h0])
  have c1 := hl (l.getD (n + 1) 0) (by simp [List.getD_eq_getElem?_getD, h1])
  rw [sealedB, hn, show n + 2 - 2 = n from by omega, sealOf]
  conv => lhs; rhs; rhs; rw [hsp]
  rw [Bool.eq_iff_iff]
  simp only [Bool.and_eq_true, decide_eq_true_eq, beq_iff_eq]
  constructor
  · rintro ⟨_, h⟩
    have := List.append_cancel_left h
    simp only [List.cons.injEq, and_true] at this
    omega
  · intro h
    refine ⟨by omega, ?_⟩
    congr 1
    simp only [List.cons.injEq, and_true]
    omega

theorem sealedB_of (l : List Int) (n : Nat) (hn : l.length = n + 2) : sealedB l = (sealOf (l.take n) == l) := by
  rw [sealedB, hn, show n + 2 - 2 = n from by omega]
  simp

theorem sealedB_short (l : List Int) (h : l.length < 2) : sealedB l = false := by
  simp [sealedB]
  omega

end Go.Proofs.Ytjggiameajndgac

/-
  What a value that is a slice of bytes reads as, in a world; and that it reads so still in every world in which nothing old has turned.
-/
namespace Go.Proofs.Ytjggiameajndgac
open Go.RowKit

/-- Where there is a byte at all, the address leads to a row of cells that hold the bytes l. -/
def Cs (w : World) (ao : Option Addr) (l : List Int) : Prop :=
  0 < l.length → ∃ b off, ao = some ⟨b, off, none⟩ ∧ ∀ i, i < l.length → w.cell? ⟨b, off + i, none⟩ = some (.int .u8 (l.getD i 0))

/-- The value v is a slice of bytes that reads as l. -/
def Bs (w : World) (v : Value) (l : List Int) : Prop :=
  ∃ ao cap, v = .slice ao l.length cap ∧ l.length ≤ cap ∧ cap ≤ maxLen ∧ (ao = none → cap = 0) ∧ Octets l ∧ Cs w ao l

theorem Bs.octets {w : World} {v : Value} {l : List Int} (h : Bs w v l) : Octets l := by
  obtain ⟨_, _, _, _, _, _, h, _⟩ := h; exact h

theorem Bs.len {w : World} {v : Value} {l : List Int} (h : Bs w v l) : l.length ≤ maxLen := by
  obtain ⟨_, _, _, h1, h2, _⟩ := h; omega

theorem Bs.nil (w : World) : Bs w (.slice none 0 0) [] :=
  ⟨none, 0, rfl, Nat.le_refl _, Nat.zero_le _, fun _ => rfl, fun x hx => by simp at hx, fun h => by simp at h⟩

theorem cell_lt {w : World} {b o : Nat} {v : Value} (h : w.cell? ⟨b, o, none⟩ = some v) : b < w.heap.size := by
  by_cases hb : b < w.heap.size
  · exact hb
  · exfalso
    simp [World.cell?, Array.getElem?_eq_none (Nat.le_of_not_lt hb)] at h

theorem Cs.below {w w' : World} {ao : Option Addr} {l : List Int} (h : Cs w ao l) (hb : Below w.heap.size w w') : Cs w' ao l := by
  intro hp
  obtain ⟨b, off, e, hc⟩ := h hp
  refine ⟨b, off, e, fun i hi => ?_⟩
  have := hc i hi
  rw [hb.cell (p := ⟨b, off + i, none⟩) (cell_lt this)]
  exact this

/-- It reads so still where nothing old has turned. -/
theorem Bs.below {w w' : World} {v : Value} {l : List Int} (h : Bs w v l) (hb : Below w.heap.size w w') : Bs w' v l := by
  obtain ⟨ao, cap, hv, h1, h2, h3, h4, h5⟩ := h
  exact ⟨ao, cap, hv, h1, h2, h3, h4, h5.below hb⟩

theorem Cs.src {w : World} {ao : Option Addr} {l : List Int} (h : Cs w ao l) : ∀ ad, ao = some ad → ∀ j u, (l.map (Value.int .u8))[j]? = some u → w.cell? (ad.add j) = some u := by
  intro ad had j u hu
  have hj : j < l.length := by
    by_cases hj : j < l.length
    · exact hj
    · simp [List.getElem?_eq_none (Nat.le_of_not_lt hj)] at hu
  obtain ⟨b, off, e, hc⟩ := h (by omega)
  rw [had] at e
  obtain rfl := Option.some.inj e
  have := hc j hj
  have hplain : (⟨b, off, none⟩ : Addr).add j = ⟨b, off + j, none⟩ := by unfold Addr.add; split <;> simp_all
  rw [hplain, this]
  simp [hj, List.getD_eq_getElem?_getD] at hu ⊢
  exact hu

theorem u8_oneCell (l : List Int) : ∀ u ∈ l.map (Value.int .u8), u.oneCell' = true := by
  intro u hu
  simp at hu
  obtain ⟨x, _, rfl⟩ := hu
  rfl

/-- A row of the call's own that holds bytes is a slice that reads as them. -/
theorem Bs.of_own {w : World} {base : Nat} {e : TypeId} {v : Value} {n : Nat} {l : List Int} (h : w.ownsRow base e 1 v n (l.map (Value.int .u8))) (ho : Octets l) : Bs w v l := by
  obtain ⟨hl, h⟩ := h
  have hn : l.length = n := by simpa using hl
  subst hn
  rcases h with ⟨rfl, h0⟩ | ⟨g, cap, cur, rfl, hg, hh, hc, hm, hs, ht⟩
  · have : l = [] := List.eq_nil_of_length_eq_zero h0
    subst this
    exact Bs.nil w
  · refine ⟨some ⟨g, 0, none⟩, cap, rfl, hc, hm, (fun h => nomatch h), ho, fun _ => ⟨g, 0, rfl, fun i hi => ?_⟩⟩
    have h1 : cur.toList[i]? = some (Value.int .u8 (l.getD i 0)) := by
      have h2 : (cur.toList.take (l.length * 1))[i]? = some (Value.int .u8 (l.getD i 0)) := by
        rw [ht]; simp [hi, List.getD_eq_getElem?_getD]
      rw [List.getElem?_take] at h2
      split at h2
      · exact h2
      · cases h2
    simp [World.cell?, hh]
    simpa using h1

theorem Bs.drewN {w : World} {v : Value} {l : List Int} (h : Bs w v l) (n : Nat) : Bs (w.drewN n) v l := by
  obtain ⟨ao, cap, hv, h1, h2, h3, h4, h5⟩ := h
  exact ⟨ao, cap, hv, h1, h2, h3, h4, h5⟩

/-- An append to a row of the call's own, of whatever slice of one-cell elements: nil or not. -/
theorem wpList_append_own_any {P : Program} (w : World) {ops : Array Oper} {rest : List Oper} {o : Oper} {a : Act} {Q : Exit → Act → World → Prop} (hgd : o.guard = none) (s x : Operand) (t : TypeId)
    (ho : o.op = .call { callee := .builtin .append, args := #[s, x], argTypes := #[t, t] })
    (base : Nat) (e : TypeId) (i : TypeInfo) (z : Value) (bytes : Nat) (ht : P.underlying t = some (.slice e)) (hi : P.info? e = some i) (hz : i.zero = some z)
    (hsize : i.size = 1) (hby : i.bytes = bytes) (hzs : z.cells.size = 1)
    (v : Value) (n : Nat) (xs : List Value) (hs : a.eval s = v) (hown : w.ownsRow base e 1 v n xs)
    (ao : Option Addr) (m c : Nat) (news : List Value) (hx : a.eval x = .slice ao m c) (hl : news.length = m) (hnone : ao = none → m = 0 ∧ c = 0)
    (hnews : ∀ ad, ao = some ad → ∀ j u, news[j]? = some u → w.cell? (ad.add j) = some u) (h1 : ∀ u ∈ news, u.oneCell' = true)
    (h63 : n + m ≤ maxLen) (hbytes : (n + m) * bytes ≤ 140737488355328) (hbase : base ≤ w.heap.size)
    (h : ∀ v' w', w'.ownsRow base e 1 v' (n + m) (xs ++ news) → w.grownBy w' v.ownBlock → wpList P ops Q rest (a.put o.dst v') w') : wpList P ops Q (o :: rest) a w := by
  cases ao with
  | some ad => exact wpList_append_own w hgd s x t ho base e i z 1 bytes ht hi hz hsize hby hzs (by decide) v n xs hs hown ad m c news hx (by simpa using hl) (hnews ad rfl) h1 h63 hbytes hbase (fun v' w' a b _ => h v' w' a b)
  | none =>
    obtain ⟨rfl, rfl⟩ := hnone rfl
    obtain rfl : news = [] := List.eq_nil_of_length_eq_zero hl
    exact wpList_append_own_none hgd s x t ho base e i 1 ht hi v n xs hs hown hx (h v w (by simpa using hown) (World.grownBy.refl _ _))

/-- A row of the call's own lies at its base or above. -/
theorem own_base {w : World} {base : Nat} {e : TypeId} {v : Value} {n : Nat} {xs : List Value} (h : w.ownsRow base e 1 v n xs) : ∀ k, v.ownBlock = some k → base ≤ k := fun k hk => (h.lt k hk).1

theorem getD_bd {l : List Int} (h : Octets l) (i : Nat) : 0 ≤ l.getD i 0 ∧ l.getD i 0 ≤ 255 := by
  by_cases hi : i < l.length
  · exact h _ (by simp [List.getD_eq_getElem?_getD, hi])
  · simp [List.getD_eq_getElem?_getD, hi]

theorem ret_int {k : IntKind} {a b : Int} (h : a = b) : Ending.returned (.int k a) = .returned (.int k b) := by rw [h]
theorem ret_bool {a b : Bool} (h : a = b) : Ending.returned (.bool a) = .returned (.bool b) := by rw [h]

end Go.Proofs.Ytjggiameajndgac

/-
  A region that draws its order, each of whose operations is shown once, in whatever world may have come of the others: E is how the world may move on, each operation has a condition on what it yields that stays true as the world moves on, and may lean on the conditions of those alone that it waits for.
-/
namespace Go.Proofs.Ytjggiameajndgac
open Go.RowKit

/-- What is asked behind one operation. -/
def SQ (E : World → World → Prop) (a : Act) (dst : Option Tmp) (w : World) (R : Value → World → Prop) : Exit → Act → World → Prop
  | .normal, a', w' => ∃ v, a' = a.put dst v ∧ E w w' ∧ R v w'
  | _, _, _ => False

/-- What is known of those that an operation waits for. -/
def depFacts (done : List ((Value → World → Prop) × Value)) (w : World) : List Edge → Prop
  | [] => True
  | e :: r => (if Region.binds .any e = true then (match done[e.on]? with | some x => x.1 x.2 w | none => True) else True) ∧ depFacts done w r

/-- Each operation, in the order of the text. -/
def StepsS (E : World → World → Prop) (P : Program) (ops : Array Oper) (w0 : World) : List Oper → List (Value → World → Prop) → List ((Value → World → Prop) × Value) → Act → Prop
  | o :: rest, R :: Rs, done, a => (∀ w, E w0 w → depFacts done w o.after.toList → wpList P ops (SQ E a o.dst w R) [o] a w) ∧ ∀ v, StepsS E P ops w0 rest Rs (done ++ [(R, v)]) (a.put o.dst v)
  | _, _, _, _ => True

/-- One operation at a time, the frame behind it written out. -/
theorem StepsS.cons {E : World → World → Prop} {P : Program} {ops : Array Oper} {w0 : World} {o : Oper} {rest : List Oper} {R : Value → World → Prop} {Rs : List (Value → World → Prop)} {done : List ((Value → World → Prop) × Value)} {a : Act}
    (h1 : ∀ w, E w0 w → depFacts done w o.after.toList → wpList P ops (SQ E a o.dst w R) [o] a w) (h2 : ∀ v, ∃ a' d', a.put o.dst v = a' ∧ done ++ [(R, v)] = d' ∧ StepsS E P ops w0 rest Rs d' a') : StepsS E P ops w0 (o :: rest) (R :: Rs) done a :=
  ⟨h1, fun v => by obtain ⟨a', d', rfl, rfl, h⟩ := h2 v; exact h⟩

/-- What is asked behind the region. -/
def FinS (Q : Exit → Act → World → Prop) (w : World) : List Oper → List (Value → World → Prop) → Act → Prop
  | o :: rest, R :: Rs, a => ∀ v, R v w → FinS Q w rest Rs (a.put o.dst v)
  | _, _, a => Q .normal a w

/-- One yield at a time, the frame behind it written out. -/
theorem FinS.cons {Q : Exit → Act → World → Prop} {w : World} {o : Oper} {rest : List Oper} {R : Value → World → Prop} {Rs : List (Value → World → Prop)} {a : Act} (h : ∀ v, R v w → ∃ a', a.put o.dst v = a' ∧ FinS Q w rest Rs a') : FinS Q w (o :: rest) (R :: Rs) a :=
  fun v hv => by obtain ⟨a', rfl, h⟩ := h v hv; exact h

/-- The frame behind the first i operations of the text. -/
def lexP : List Oper → (Nat → Value) → Nat → Act → Act
  | o :: l, vs, i + 1, a => lexP l (fun j => vs (j + 1)) i (a.put o.dst (vs 0))
  | _, _, _, a => a

def zipDone : List (Value → World → Prop) → (Nat → Value) → Nat → List ((Value → World → Prop) × Value)
  | R :: Rs, vs, i + 1 => (R, vs 0) :: zipDone Rs (fun j => vs (j + 1)) i
  | _, _, _ => []

theorem zipDone_get : ∀ (Rs : List (Value → World → Prop)) (vs : Nat → Value) (i j : Nat) (x : (Value → World → Prop) × Value), (zipDone Rs vs i)[j]? = some x → Rs[j]? = some x.1 ∧ x.2 = vs j
  | [], _, _, _, _, h => by simp [zipDone] at h
  | _ :: _, _, 0, _, _, h => by simp [zipDone] at h
  | R :: Rs, vs, i + 1, 0, x, h => by simp [zipDone] at h; subst h; simp
  | R :: Rs, vs, i + 1, j + 1, x, h => by
    simp [zipDone] at h
    have := zipDone_get Rs (fun j => vs (j + 1)) i j x h
    simpa using this

/-- The destination of operation number j. -/
def dstAt (l : List Oper) (j : Nat) : Option Tmp := (l[j]?).bind (·.dst)

theorem lexP_succ : ∀ (l : List Oper) (vs : Nat → Value) (i : Nat) (a : Act), i < l.length → lexP l vs (i + 1) a = (lexP l vs i a).put (dstAt l i) (vs i)
  | [], _, _, _, h => by simp at h
  | o :: l, vs, 0, a, _ => by cases l <;> simp [lexP, dstAt]
  | o :: l, vs, i + 1, a, h => by
    have := lexP_succ l (fun j => vs (j + 1)) i (a.put o.dst (vs 0)) (by simpa using h)
    simpa [lexP, dstAt] using this

theorem steps_at {E : World → World → Prop} {P : Program} {ops : Array Oper} {w0 : World} : ∀ (i : Nat) (l : List Oper) (Rs : List (Value → World → Prop)) (done : List ((Value → World → Prop) × Value)) (a : Act) (vs : Nat → Value) (o : Oper) (R : Value → World → Prop) (w : World),
    StepsS E P ops w0 l Rs done a → l[i]? = some o → Rs[i]? = some R → E w0 w → depFacts (done ++ zipDone Rs vs i) w o.after.toList → wpList P ops (SQ E (lexP l vs i a) o.dst w R) [o] (lexP l vs i a) w
  | _, [], _, _, _, _, _, _, _, _, h, _, _, _ => by simp at h
  | _, _ :: _, [], _, _, _, _, _, _, _, _, h, _, _ => by simp at h
  | 0, o :: l, R :: Rs, done, a, vs, o', R', w, hs, h1, h2, hE, hd => by
    simp at h1 h2
    subst h1 h2
    simp [zipDone] at hd
    exact hs.1 w hE hd
  | i + 1, o :: l, R :: Rs, done, a, vs, o', R', w, hs, h1, h2, hE, hd =>
    steps_at i l Rs (done ++ [(R, vs 0)]) (a.put o.dst (vs 0)) (fun j => vs (j + 1)) o' R' w (hs.2 (vs 0)) (by simpa using h1) (by simpa using h2) hE (by simpa [zipDone] using hd)

theorem fin_at {Q : Exit → Act → World → Prop} {w : World} : ∀ (l : List Oper) (Rs : List (Value → World → Prop)) (a : Act) (vs : Nat → Value), FinS Q w l Rs a → Rs.length = l.length → (∀ (i : Nat) (R : Value → World → Prop), Rs[i]? = some R → R (vs i) w) → Q .normal (lexP l vs l.length a) w
  | [], _, _, _, h, _, _ => by simpa [FinS, lexP] using h
  | _ :: _, [], _, _, _, h, _ => by simp at h
  | o :: l, R :: Rs, a, vs, h, hl, hR => by
    have h1 := h (vs 0) (hR 0 R (by simp))
    exact fin_at l Rs (a.put o.dst (vs 0)) (fun j => vs (j + 1)) h1 (by simpa using hl) (fun i R' hi => hR (i + 1) R' (by simpa using hi))

/-- The frame a is a0 but for the yields of the operations in L. -/
structure Sh (l : List Oper) (L : Nat → Prop) (vs : Nat → Value) (a0 a : Act) : Prop where
  defers : a.defers = a0.defers
  size : a.tmps.size = a0.tmps.size
  old : ∀ t, (∀ j, L j → dstAt l j ≠ some t) → a.tmps[t]? = a0.tmps[t]?
  new : ∀ j t, L j → dstAt l j = some t → t < a0.tmps.size → a.tmps[t]? = some (vs j)

theorem Act.put_size (a : Act) (d : Option Tmp) (v : Value) : (a.put d v).tmps.size = a.tmps.size := by cases d <;> simp [Act.put]
theorem Act.put_defers' (a : Act) (d : Option Tmp) (v : Value) : (a.put d v).defers = a.defers := by cases d <;> simp [Act.put]

theorem Act.put_get_ne (a : Act) (d : Option Tmp) (v : Value) (t : Tmp) (h : d ≠ some t) : (a.put d v).tmps[t]? = a.tmps[t]? := by
  cases d with
  | none => rfl
  | some d => simp [Act.put, Array.getElem?_setIfInBounds_ne (show d ≠ t from fun e => h (by rw [e]))]

theorem Act.put_get (a : Act) (v : Value) (t : Tmp) (h : t < a.tmps.size) : (a.put (some t) v).tmps[t]? = some v := by
  simp [Act.put, h]

/-- No two operations have one destination. -/
def Apart (l : List Oper) : Prop := ∀ i j t, dstAt l i = some t → dstAt l j = some t → i = j

theorem Sh.put {l : List Oper} {L L' : Nat → Prop} {vs vs' : Nat → Value} {a0 a : Act} (hap : Apart l) (h : Sh l L vs a0 a) (i : Nat) (hi : ¬ L i) (hL : ∀ j, L' j ↔ L j ∨ j = i) (v : Value) (hv : ∀ j, L j → vs' j = vs j) (hvi : vs' i = v) :
    Sh l L' vs' a0 (a.put (dstAt l i) v) := by
  refine ⟨by rw [Act.put_defers', h.defers], by rw [Act.put_size, h.size], fun t ht => ?_, fun j t hj hd hlt => ?_⟩
  · rw [Act.put_get_ne _ _ _ _ (ht i ((hL i).2 (.inr rfl)))]
    exact h.old t fun j hj => ht j ((hL j).2 (.inl hj))
  · rcases (hL j).1 hj with hj | rfl
    · rw [Act.put_get_ne _ _ _ _ (fun e => hi (by rw [hap i j t e hd]; exact hj)), hv j hj]
      exact h.new j t hj hd hlt
    · rw [hd, Act.put_get _ _ _ (by rw [h.size]; exact hlt), hvi]

theorem lexP_sh (l : List Oper) (hap : Apart l) (vs : Nat → Value) (a0 : Act) : ∀ i, i ≤ l.length → Sh l (fun j => j < i) vs a0 (lexP l vs i a0)
  | 0, _ => ⟨by cases l <;> simp [lexP], by cases l <;> simp [lexP], fun t _ => by cases l <;> simp [lexP], fun j t h => by simp at h⟩
  | i + 1, h => by
    rw [lexP_succ l vs i a0 (by omega)]
    exact (lexP_sh l hap vs a0 i (by omega)).put hap i (by simp) (fun j => by omega) _ (fun _ _ => rfl) rfl

theorem Sh.eq {l : List Oper} {L L' : Nat → Prop} {vs : Nat → Value} {a0 a b : Act} (h : Sh l L vs a0 a) (h' : Sh l L' vs a0 b) (hL : ∀ j t, dstAt l j = some t → (L j ↔ L' j)) : a = b := by
  have ht : a.tmps = b.tmps := by
    apply Array.ext_getElem?
    intro t
    by_cases hlt : t < a0.tmps.size
    · by_cases hex : ∃ j, L j ∧ dstAt l j = some t
      · obtain ⟨j, hj, hd⟩ := hex
        rw [h.new j t hj hd hlt, h'.new j t ((hL j t hd).1 hj) hd hlt]
      · rw [h.old t (fun j hj hd => hex ⟨j, hj, hd⟩), h'.old t (fun j hj hd => hex ⟨j, (hL j t hd).2 hj, hd⟩)]
    · rw [Array.getElem?_eq_none (by rw [h.size]; omega), Array.getElem?_eq_none (by rw [h'.size]; omega)]
  have hd : a.defers = b.defers := h.defers.trans h'.defers.symm
  cases a; cases b; simp_all

theorem put_eq_of {a b : Act} (hs : a.tmps.size = b.tmps.size) (d : Option Tmp) (u v : Value) (h : b.put d u = b.put d v) : a.put d u = a.put d v := by
  cases d with
  | none => rfl
  | some d =>
    by_cases hd : d < b.tmps.size
    · have h1 := congrArg (fun x : Act => x.tmps[d]?) h
      simp only [Act.put_get _ _ _ hd, Option.some.injEq] at h1
      rw [h1]
    · simp [Act.put, Array.setIfInBounds, show ¬ d < a.tmps.size from by rw [hs]; exact hd]

/-- From the frame of the text's order to the frame at hand. -/
theorem wpOp_of_SQ {E : World → World → Prop} {P : Program} {ops : Array Oper} {Q : Exit → Act → World → Prop} {i : Nat} {o : Oper} {a b : Act} {w : World} {R : Value → World → Prop} {K : Act → World → Prop} (ho : ops[i]? = some o)
    (hs : a.tmps.size = b.tmps.size) (he : execOp a.eval o = execOp b.eval o) (hw : Region.wanted o (yielded ops a.tmps) = Region.wanted o (yielded ops b.tmps))
    (h : wpList P ops (SQ E b o.dst w R) [o] b w) (hK : ∀ v w', E w w' → R v w' → K (a.put o.dst v) w') : wpOp P ops Q i K a w := by
  have fin : ∀ u w', SQ E b o.dst w R .normal (b.put o.dst u) w' → K (a.put o.dst u) w' := by
    rintro u w' ⟨v, hv, hE, hR⟩
    rw [put_eq_of hs _ _ _ hv]
    exact hK v w' hE hR
  unfold wpOp
  simp only [ho]
  unfold wpList at h
  rw [hw]
  split
  · rename_i hwt
    rw [if_pos hwt] at h
    rcases h with h | ⟨_, a', w', hf⟩
    case inr => exact hf.elim
    refine .inl ?_
    unfold Oper.wp at *
    rw [he]
    generalize (execOp b.eval o).run P w = r at *
    cases r with
    | ok n w' =>
      cases n <;> simp only [Oper.upon] at h ⊢
      case value u => exact fin _ _ h
      case skip => exact fin _ _ h
      case defer d =>
        obtain ⟨v, hv, _⟩ := (show SQ E b o.dst w R .normal _ _ from h)
        have h1 := congrArg (fun x : Act => x.defers.length) hv
        simp [Act.put_defers'] at h1
      case enter f args =>
        refine Calls.mono h fun e w'' hh => ?_
        cases e with
        | returned u => exact fin _ _ hh
        | panicked c => exact (show False from hh).elim
        | outgrown => obtain ⟨_, _, hf⟩ := (show LetsOut _ from hh); exact (show False from hf).elim
      case row row args => exact Rows.mono h fun u w'' hh => fin _ _ hh
    | halt x w' =>
      cases x <;> simp only [Oper.upon] at h ⊢
      case panic u => exact (show False from h).elim
  · rename_i hwt
    rw [if_neg hwt] at h
    exact fin _ _ h

theorem execOp_agree {ops : Array Oper} (o : Oper) (hs : ∀ cs b, o.op ≠ .select cs b) (a b : Act) (h : ∀ t, t ∈ o.looksAt ops → a.tmps[t]? = b.tmps[t]?) : execOp a.eval o = execOp b.eval o :=
  execOp_congr o hs fun x hx => by
    cases x with
    | tmp t =>
      have := h t (List.mem_append_left _ (List.mem_filterMap.2 ⟨.tmp t, by simpa using hx, rfl⟩))
      simp only [Act.eval, Array.getD_eq_getD_getElem?, this]
    | _ => rfl

theorem wanted_agree {ops : Array Oper} (o : Oper) (a b : Act) (h : ∀ t, t ∈ o.looksAt ops → a.tmps[t]? = b.tmps[t]?) : Region.wanted o (yielded ops a.tmps) = Region.wanted o (yielded ops b.tmps) := by
  unfold Region.wanted
  cases hg : o.guard with
  | none => rfl
  | some gw =>
    obtain ⟨g, want⟩ := gw
    have hy : yielded ops a.tmps g = yielded ops b.tmps g := by
      unfold yielded
      cases ht : (ops[g]?).bind (·.dst) with
      | none => rfl
      | some t =>
        have := h t (by simp [Oper.looksAt, hg, ht])
        simp [this]
    simp only [hy]

/-- What is asked of a region's own shape: destinations apart; whoever looks at another's yield waits for it, or is waited for by it; nobody waits for a later one; no select. -/
def stableB (l : List Oper) : Bool :=
  let n := l.length
  (List.range n).all fun i => (match l[i]? with
    | none => true
    | some o => (match o.op with | .select _ _ => false | _ => true) && o.after.all (fun e => !Region.binds .any e || decide (e.on < i)) &&
      (List.range n).all fun j => j == i || (match l[j]? with
        | none => true
        | some p => (match p.dst with
          | none => true
          | some d => o.dst != some d && (!(o.looksAt l.toArray).contains d || (if j < i then o.after.any (fun e => Region.binds .any e && e.on == j) else p.after.any (fun e => Region.binds .any e && e.on == i))))))

theorem stableB_spec {l : List Oper} (h : stableB l = true) {i : Nat} {o : Oper} (ho : l[i]? = some o) :
    (∀ cs b, o.op ≠ .select cs b) ∧ (∀ e ∈ o.after, Region.binds .any e = true → e.on < i) ∧
    ∀ j p d, l[j]? = some p → j ≠ i → p.dst = some d → o.dst ≠ some d ∧ (d ∈ o.looksAt l.toArray → (j < i → ∃ e ∈ o.after, Region.binds .any e = true ∧ e.on = j) ∧ (¬ j < i → ∃ e ∈ p.after, Region.binds .any e = true ∧ e.on = i)) := by
  have hi : i < l.length := (List.getElem?_eq_some_iff.1 ho).1
  have h1 := List.all_eq_true.1 h i (List.mem_range.2 hi)
  simp only [ho, Bool.and_eq_true] at h1
  obtain ⟨⟨h1, h2⟩, h3⟩ := h1
  refine ⟨fun cs b e => by rw [e] at h1; simp at h1, fun e he hb => ?_, fun j p d hp hj hd => ?_⟩
  · have := Array.all_eq_true_iff_forall_mem.1 h2 e he
    simpa [hb] using this
  · have hjl : j < l.length := (List.getElem?_eq_some_iff.1 hp).1
    have h4 := List.all_eq_true.1 h3 j (List.mem_range.2 hjl)
    simp only [hp, hd, Bool.or_eq_true, beq_iff_eq, hj, false_or, Bool.and_eq_true, bne_iff_ne, Bool.not_eq_true'] at h4
    refine ⟨h4.1, fun hl => ?_⟩
    rcases h4.2 with h5 | h5
    · rw [List.contains_iff_mem.2 hl] at h5; cases h5
    · constructor
      · intro hlt
        rw [if_pos hlt] at h5
        rw [← Array.any_toList] at h5
        obtain ⟨e, he, hb⟩ := List.any_eq_true.1 h5
        simp only [Bool.and_eq_true, beq_iff_eq] at hb
        exact ⟨e, by simpa using he, hb.1, hb.2⟩
      · intro hlt
        rw [if_neg hlt] at h5
        rw [← Array.any_toList] at h5
        obtain ⟨e, he, hb⟩ := List.any_eq_true.1 h5
        simp only [Bool.and_eq_true, beq_iff_eq] at hb
        exact ⟨e, by simpa using he, hb.1, hb.2⟩

theorem depFacts_of {done : List ((Value → World → Prop) × Value)} {w : World} : ∀ (es : List Edge), (∀ e ∈ es, Region.binds .any e = true → ∀ x, done[e.on]? = some x → x.1 x.2 w) → depFacts done w es
  | [], _ => trivial
  | e :: r, h => by
    refine ⟨?_, depFacts_of r fun e' he' => h e' (by simp [he'])⟩
    split
    · rename_i hb
      split
      · rename_i x hx; exact h e (by simp) hb x hx
      · trivial
    · trivial

theorem replicate_getD (n j : Nat) : (Array.replicate n false).getD j false = false := by
  by_cases h : j < n <;> simp [h]

theorem getD_false_true {listed : Array Bool} {j : Nat} (h : listed.getD j true = false) : listed.getD j false = false := by
  rcases Nat.lt_or_ge j listed.size with h' | h'
  · simpa [h'] using h
  · simp [Array.getElem?_eq_none h']

theorem getD_true_of {listed : Array Bool} {j : Nat} (hlt : j < listed.size) (h : ¬ listed.getD j true = false) : listed.getD j false = true := by
  simpa [hlt] using h

/-- What is known of the one that is waited for by edge number k. -/
theorem dep_at {done : List ((Value → World → Prop) × Value)} {w : World} : ∀ {es : List Edge}, depFacts done w es → ∀ (k : Nat) {e : Edge}, es[k]? = some e → ∀ {R : Value → World → Prop} {v : Value}, Region.binds .any e = true → done[e.on]? = some (R, v) → R v w
  | [], _, _, _, h, _, _, _, _ => by simp at h
  | e :: r, hd, 0, e', h, R, v, hb, hx => by
    simp at h
    subst h
    have h1 := hd.1
    rw [if_pos hb, hx] at h1
    exact h1
  | e :: r, hd, k + 1, e', h, R, v, hb, hx => dep_at hd.2 k (by simpa using h) hb hx

section
variable {E : World → World → Prop} {P : Program} {Q : Exit → Act → World → Prop} {l : List Oper} {Rs : List (Value → World → Prop)} {a0 : Act} {w0 : World}

/-- Where the walk stands, whatever order was taken. -/
structure InvS (E : World → World → Prop) (l : List Oper) (Rs : List (Value → World → Prop)) (a0 : Act) (w0 : World) (listed : Array Bool) (a : Act) (w : World) (vs : Nat → Value) : Prop where
  size : listed.size = l.length
  moved : E w0 w
  shape : Sh l (fun j => listed.getD j false = true) vs a0 a
  holds : ∀ (i : Nat) (R : Value → World → Prop), listed.getD i false = true → Rs[i]? = some R → R (vs i) w
  closed : ∀ (j : Nat) (o : Oper), l[j]? = some o → listed.getD j false = true → ∀ e ∈ o.after, Region.binds .any e = true → listed.getD e.on false = true

theorem apart_of (hB : stableB l = true) : Apart l := by
  intro i j t hi hj
  by_cases hij : i = j
  · exact hij
  · exfalso
    unfold dstAt at hi hj
    cases hoi : l[i]? with
    | none => simp [hoi] at hi
    | some oi =>
      cases hoj : l[j]? with
      | none => simp [hoj] at hj
      | some oj =>
        simp only [hoi, Option.bind_some] at hi
        simp only [hoj, Option.bind_some] at hj
        exact ((stableB_spec hB hoj).2.2 i oi t hoi hij hi).1 hj

theorem InvS.all_done {listed : Array Bool} {a : Act} {w : World} {vs : Nat → Value} (hB : stableB l = true) (hlen : Rs.length = l.length) (hfin : ∀ w', E w0 w' → FinS Q w' l Rs a0) (h : InvS E l Rs a0 w0 listed a w vs)
    (hall : ∀ i, i < l.length → listed.getD i false = true) : Q .normal a w := by
  have h1 := fin_at l Rs a0 vs (hfin w h.moved) hlen (fun i R hi => h.holds i R (hall i (by rw [← hlen]; exact (List.getElem?_eq_some_iff.1 hi).1)) hi)
  have h2 : a = lexP l vs l.length a0 := h.shape.eq (lexP_sh l (apart_of hB) vs a0 l.length (Nat.le_refl _)) (fun j t hd => by
    have hj : j < l.length := by
      unfold dstAt at hd
      cases ho : l[j]? with
      | none => simp [ho] at hd
      | some o => exact (List.getElem?_eq_some_iff.1 ho).1
    exact ⟨fun _ => hj, fun _ => hall j hj⟩)
  rw [h2]
  exact h1

theorem InvS.ready_nil {listed : Array Bool} {a : Act} {w : World} {vs : Nat → Value} (hB : stableB l = true) (h : InvS E l Rs a0 w0 listed a w vs) (hr : Region.ready .any l.toArray listed = []) : ∀ i, i < l.length → listed.getD i false = true := by
  intro i
  induction i using Nat.strongRecOn with
  | _ i ih =>
    intro hi
    by_cases hu : listed.getD i true = false
    · exfalso
      have hm : i ∈ Region.ready .any l.toArray listed := mem_ready.2 ⟨hu, l[i], by simp [hi], fun e he hb => by
        have := (stableB_spec hB (i := i) (o := l[i]) (by simp [hi])).2.1 e he hb
        exact ih e.on this (by omega)⟩
      rw [hr] at hm
      cases hm
    · exact getD_true_of (by rw [h.size]; exact hi) hu

theorem InvS.agree {listed : Array Bool} {a : Act} {w : World} {vs : Nat → Value} (hB : stableB l = true) (h : InvS E l Rs a0 w0 listed a w vs) {i : Nat} {o : Oper} (ho : l[i]? = some o) (hu : listed.getD i true = false)
    (hall : ∀ e ∈ o.after, Region.binds .any e = true → listed.getD e.on false = true) (t : Tmp) (ht : t ∈ o.looksAt l.toArray) : a.tmps[t]? = (lexP l vs i a0).tmps[t]? := by
  have hi : i < l.length := (List.getElem?_eq_some_iff.1 ho).1
  have hsh := lexP_sh l (apart_of hB) vs a0 i (by omega)
  have hui := getD_false_true hu
  have hspec := (stableB_spec hB ho).2.2
  have key : ∀ j, dstAt l j = some t → (listed.getD j false = true ↔ j < i) := by
    intro j hd
    unfold dstAt at hd
    cases hp : l[j]? with
    | none => simp [hp] at hd
    | some p =>
      simp only [hp, Option.bind_some] at hd
      by_cases hji : j = i
      · subst hji; rw [hui]; simp
      · have h1 := (hspec j p t hp hji hd).2 ht
        by_cases hlt : j < i
        · obtain ⟨e, he, hb, rfl⟩ := h1.1 hlt
          simp [hall e he hb, hlt]
        · obtain ⟨e, he, hb, hon⟩ := h1.2 hlt
          constructor
          · intro hlj
            have := h.closed j p hp hlj e he hb
            rw [hon, hui] at this
            cases this
          · intro hc; exact absurd hc hlt
  by_cases hex : ∃ j, dstAt l j = some t ∧ j < i
  · obtain ⟨j, hd, hlt⟩ := hex
    by_cases hsz : t < a0.tmps.size
    · rw [h.shape.new j t ((key j hd).2 hlt) hd hsz, hsh.new j t hlt hd hsz]
    · rw [Array.getElem?_eq_none (by rw [h.shape.size]; exact Nat.le_of_not_lt hsz), Array.getElem?_eq_none (by rw [hsh.size]; exact Nat.le_of_not_lt hsz)]
  · rw [h.shape.old t (fun j hj hd => hex ⟨j, hd, (key j hd).1 hj⟩), hsh.old t (fun j hj hd => hex ⟨j, hd, hj⟩)]

theorem wpAny_stable (hB : stableB l = true) (hlen : Rs.length = l.length) (htr : ∀ x y z, E x y → E y z → E x z) (hst : ∀ R ∈ Rs, ∀ v x y, R v x → E x y → R v y)
    (hsteps : StepsS E P l.toArray w0 l Rs [] a0) (hfin : ∀ w', E w0 w' → FinS Q w' l Rs a0) :
    ∀ (fuel : Nat) (listed : Array Bool) (a : Act) (w : World) (vs : Nat → Value), listed.toList.count false = fuel → InvS E l Rs a0 w0 listed a w vs → wpAny P .any l.toArray Q fuel listed a w := by
  intro fuel
  induction fuel with
  | zero =>
    intro listed a w vs hc h
    have hall : ∀ i, i < l.length → listed.getD i false = true := by
      intro i hi
      have hi' : i < listed.size := by rw [h.size]; exact hi
      have hnm := List.count_eq_zero.1 hc
      refine getD_true_of hi' fun hu => hnm ?_
      have : listed[i] = false := by simpa [hi'] using hu
      rw [← this]
      simp
    refine ⟨?_, h.all_done hB hlen hfin hall⟩
    apply List.eq_nil_iff_forall_not_mem.2
    intro j hj
    obtain ⟨hu, o, ho, _⟩ := mem_ready.1 hj
    have hjl : j < l.length := by
      have := (Array.getElem?_eq_some_iff.1 ho).1
      simpa using this
    have := hall j hjl
    rw [getD_false_true hu] at this
    cases this
  | succ fuel ih =>
    intro listed a w vs hc h
    refine ⟨fun hr => h.all_done hB hlen hfin (h.ready_nil hB hr), fun i hi => ?_⟩
    obtain ⟨hu, o, ho', hall⟩ := mem_ready.1 hi
    have ho : l[i]? = some o := by simpa using ho'
    have hil : i < l.length := (List.getElem?_eq_some_iff.1 ho).1
    obtain ⟨R, hR⟩ : ∃ R, Rs[i]? = some R := ⟨Rs[i]'(by omega), by simp [show i < Rs.length by omega]⟩
    have hsp := stableB_spec hB ho
    have hd : depFacts ([] ++ zipDone Rs vs i) w o.after.toList := depFacts_of _ fun e he hb x hx => by
      have hz := zipDone_get Rs vs i e.on x (by simpa using hx)
      rw [hz.2]
      exact h.holds e.on x.1 (hall e (by simpa using he) hb) hz.1
    have hw := steps_at i l Rs [] a0 vs o R w hsteps ho hR h.moved hd
    have hag := h.agree hB ho hu hall
    have hdst : dstAt l i = o.dst := by simp [dstAt, ho]
    refine wpOp_of_SQ ho' ?_ (execOp_agree o hsp.1 _ _ hag) (wanted_agree o _ _ hag) hw ?_
    · rw [h.shape.size, (lexP_sh l (apart_of hB) vs a0 i (by omega)).size]
    · intro v w' hE hRv
      have hui := getD_false_true hu
      have hsz : i < listed.size := by rw [h.size]; exact hil
      have hset : ∀ j, (listed.setIfInBounds i true).getD j false = true ↔ listed.getD j false = true ∨ j = i := by
        intro j
        by_cases hij : i = j
        · subst hij; simp [hsz]
        · rw [getD_set_ne false hij]
          constructor
          · exact .inl
          · rintro (h1 | h1)
            · exact h1
            · exact absurd h1.symm hij
      refine ih _ _ _ (fun j => if j = i then v else vs j) ?_ ⟨by simp [h.size], htr _ _ _ h.moved hE, ?_, ?_, ?_⟩
      · have hli : listed.toList[i]'(by simpa using hsz) = false := by
          have : listed[i] = false := by simpa [hsz] using hu
          simpa using this
        rw [Array.toList_setIfInBounds, List.count, List.countP_set (by simpa using hsz)]
        rw [List.count] at hc
        rw [hc, hli, if_pos (by rfl), if_neg (by decide)]
        omega
      · rw [← hdst]
        refine h.shape.put (apart_of hB) i (by rw [hui]; simp) hset v (fun j hj => ?_) (by simp)
        have hji : j ≠ i := fun e => by rw [e, hui] at hj; cases hj
        simp [hji]
      · intro j R' hj hR'
        rcases (hset j).1 hj with hj' | rfl
        · have hji : j ≠ i := fun e => by rw [e, hui] at hj'; cases hj'
          simp only [hji, if_false]
          exact hst R' (List.mem_of_getElem? hR') _ _ _ (h.holds j R' hj' hR') hE
        · rw [hR] at hR'
          obtain rfl := Option.some.inj hR'
          simpa using hRv
      · intro j p hp hj e he hb
        rcases (hset j).1 hj with hj' | rfl
        · exact (hset e.on).2 (.inl (h.closed j p hp hj' e he hb))
        · rw [ho] at hp
          obtain rfl := Option.some.inj hp
          exact (hset e.on).2 (.inl (hall e he hb))

/-- The law: a region that draws its order. -/
theorem wp_region_stable {id : Nat} {w : World} (E : World → World → Prop) (Rs : List (Value → World → Prop)) (hm : P.follows .mixedOrders = true) (hB : stableB l = true) (hlen : Rs.length = l.length)
    (hrefl : ∀ x, E x x) (htr : ∀ x y z, E x y → E y z → E x z) (hst : ∀ R ∈ Rs, ∀ v x y, R v x → E x y → R v y)
    (hsteps : StepsS E P l.toArray { w with drawn := w.drawn + 1 } l Rs [] a0) (hfin : ∀ w', E { w with drawn := w.drawn + 1 } w' → FinS Q w' l Rs a0) : (Code.region id l.toArray true).wp P Q a0 w := by
  refine wp_region_any hm ?_
  refine wpAny_stable hB hlen htr hst hsteps hfin _ _ _ _ (fun _ => undef) (by simp) ⟨by simp, hrefl _, ⟨rfl, rfl, fun _ _ => rfl, fun j t hj => ?_⟩, fun i R hi => ?_, fun j o _ hj => ?_⟩
  · rw [replicate_getD] at hj; cases hj
  · rw [replicate_getD] at hi; cases hi
  · rw [replicate_getD] at hj; cases hj

end

end Go.Proofs.Ytjggiameajndgac

/-
  The world moves on: nothing that was there has turned. What a slice of bytes converts to; strings of bytes that are alike.
-/
namespace Go.Proofs.Ytjggiameajndgac
open Go.RowKit

/-- Nothing that was there has turned. -/
def Grow (w w' : World) : Prop := Below w.heap.size w w'
theorem Grow.refl (w : World) : Grow w w := Below.refl _ _
theorem Grow.trans {x y z : World} (h : Grow x y) (k : Grow y z) : Grow x z := Below.trans h (Below.mono k h.size)
theorem Grow.drewN (w : World) (n : Nat) : Grow w (w.drewN n) := ⟨rfl, rfl, rfl, Nat.le_refl _, fun _ _ => rfl⟩
theorem Grow.drew {w w' : World} (h : Grow { w with drawn := w.drawn + 1 } w') : Grow w w' := ⟨h.os, h.tape, h.output, h.size, h.block⟩

theorem Grow.alloc (w : World) (b : Obj) : Grow w (w.alloc b) := (Below.refl _ _).alloc (Nat.le_refl _) _

/-- It is this value. -/
def IsV (c v : Value) (_ : World) : Prop := v = c

theorem IsV.eq {c v : Value} {w : World} (h : IsV c v w) : v = c := h
theorem IsV.stable (c : Value) : ∀ (v : Value) (x y : World), IsV c v x → Grow x y → IsV c v y := fun _ _ _ h _ => h

theorem Bs.grow {w w' : World} {v : Value} {l : List Int} (h : Bs w v l) (hb : Grow w w') : Bs w' v l := h.below hb

theorem grow_own {w1 w2 : World} {base : Nat} {e : TypeId} {v : Value} {n : Nat} {xs : List Value} (h : w1.ownsRow base e 1 v n xs) (hg : Grow w1 w2) : w2.ownsRow base e 1 v n xs := by
  obtain ⟨h1, h2⟩ := h
  refine ⟨h1, ?_⟩
  rcases h2 with h2 | ⟨g, cap, cur, hv, hb, hh, hr⟩
  · exact .inl h2
  · have hlt : g < w1.heap.size := by
      by_cases hlt : g < w1.heap.size
      · exact hlt
      · rw [Array.getElem?_eq_none (Nat.le_of_not_lt hlt)] at hh; cases hh
    exact .inr ⟨g, cap, cur, hv, hb, (hg.block g hlt).trans hh, hr⟩

/-- A slice of bytes as a string. -/
theorem run_convert_bs {P : Program} {w : World} {v : Value} {l : List Int} (src e dst : TypeId) (hs : P.underlying src = some (.slice e)) (he : P.underlying e = some (.int .u8)) (hd : P.underlying dst = some .string) (h : Bs w v l) :
    (convert src dst v).run P w = .ok (.string (strOfNums l)) w := by
  obtain ⟨ao, cap, rfl, h1, h2, h3, h4, h5⟩ := h
  cases ao with
  | none =>
    have : l = [] := List.eq_nil_of_length_eq_zero (by have := h3 rfl; omega)
    subst this
    exact run_convert_bytes_nil w src e hs he _ _ dst hd
  | some ad =>
    by_cases hl : 0 < l.length
    · obtain ⟨b, off, e1, hc⟩ := h5 hl
      obtain rfl := Option.some.inj e1
      exact run_convert_bytes_arg w src e hs he b off l.length cap l rfl hc dst hd
    · have : l = [] := List.eq_nil_of_length_eq_zero (by omega)
      subst this
      have hl : (loadCells ad 0).run P w = .ok (([] : List Int).map (Value.int .u8)).toArray w := by
        have := run_loadCells_list (P := P) w ad [] (fun j v hj => by simp at hj)
        simpa using this
      rw [run_convert_bytes_string w src dst e _ _ cap hs he hd]
      show (Conv.bytesToString (.slice (some ad) 0 cap)).run P w = _
      rw [run_bytesToString w ad 0 cap [] hl]
      rfl

theorem ofNat_inj {x y : Int} (hx : 0 ≤ x ∧ x ≤ 255) (hy : 0 ≤ y ∧ y ≤ 255) (h : UInt8.ofNat x.toNat = UInt8.ofNat y.toNat) : x = y := by
  have := congrArg UInt8.toNat h
  simp only [UInt8.toNat_ofNat'] at this
  omega

theorem strOfNums_inj {a b : List Int} (ha : Octets a) (hb : Octets b) (h : strOfNums a = strOfNums b) : a = b := by
  have h1 : a.map (fun n => UInt8.ofNat n.toNat) = b.map (fun n => UInt8.ofNat n.toNat) := by
    rw [← strOfNums_data, ← strOfNums_data, h]
  clear h
  induction a generalizing b with
  | nil => cases b with
    | nil => rfl
    | cons y r => simp at h1
  | cons x s ih =>
    cases b with
    | nil => simp at h1
    | cons y r =>
      simp only [List.map_cons, List.cons.injEq] at h1
      rw [ofNat_inj (ha x (by simp)) (hb y (by simp)) h1.1, ih (fun z hz => ha z (by simp [hz])) (fun z hz => hb z (by simp [hz])) h1.2]

/-- Strings of bytes are alike where the bytes are. -/
theorem str_beq {a b : List Int} (ha : Octets a) (hb : Octets b) : ((strOfNums a).toList == (strOfNums b).toList) = (a == b) := by
  rw [Bool.eq_iff_iff, beq_iff_eq, beq_iff_eq, ByteArray.toList_eq, ByteArray.toList_eq]
  constructor
  · intro h
    refine strOfNums_inj ha hb ?_
    have h1 : (strOfNums a).data = (strOfNums b).data := Array.toList_inj.1 h
    cases hx : strOfNums a
    cases hy : strOfNums b
    rw [hx, hy] at h1
    simpa using h1
  · intro h
    rw [h]

end Go.Proofs.Ytjggiameajndgac
