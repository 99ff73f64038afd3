/-
  Plain mathematics of the sum: no program text is named here. What the sum of a list of bytes is, that two states of the sum never meet behind the same bytes, and that a sealed list with one byte turned is sealed no more.
-/
namespace Go.Proofs.Ytjggiameajndgab

/-- One byte more. -/
def sumStep (s x : Int) : Int := (s * 151 + x + 1) % 65521

/-- The sum that began at s, behind the bytes l. -/
def sumFrom (s : Int) : List Int → Int
  | [] => s
  | x :: r => sumFrom (sumStep s x) r

/-- The sum of bytes. -/
def sumOf (l : List Int) : Int := sumFrom 13 l

/-- Bytes with their sum behind. -/
def sealOf (l : List Int) : List Int := l ++ [sumOf l / 256, sumOf l % 256]

/-- Do these bytes end with the sum of what is ahead? -/
def sealedB (l : List Int) : Bool := decide (2 ≤ l.length) && (sealOf (l.take (l.length - 2)) == l)

/-- All of them are bytes. -/
def Octets (l : List Int) : Prop := ∀ x ∈ l, 0 ≤ x ∧ x ≤ 255

theorem sumFrom_snoc (s : Int) (l : List Int) (x : Int) : sumFrom s (l ++ [x]) = sumStep (sumFrom s l) x := by
  induction l generalizing s with
  | nil => rfl
  | cons y r ih => exact ih _

theorem sumOf_snoc (l : List Int) (x : Int) : sumOf (l ++ [x]) = (sumOf l * 151 + x + 1) % 65521 := sumFrom_snoc _ _ _

theorem sumStep_bd (s x : Int) : 0 ≤ sumStep s x ∧ sumStep s x < 65521 := by unfold sumStep; omega

theorem sumFrom_bd (s : Int) (l : List Int) (h0 : 0 ≤ s) (h1 : s < 65521) : 0 ≤ sumFrom s l ∧ sumFrom s l < 65521 := by
  induction l generalizing s with
  | nil => exact ⟨h0, h1⟩
  | cons y r ih => exact ih _ (sumStep_bd s y).1 (sumStep_bd s y).2

theorem sumOf_bd (l : List Int) : 0 ≤ sumOf l ∧ sumOf l < 65521 := sumFrom_bd 13 l (by omega) (by omega)

theorem sumOf_take_succ (l : List Int) (k : Nat) (h : k < l.length) : sumOf (l.take (k + 1)) = (sumOf (l.take k) * 151 + l.getD k 0 + 1) % 65521 := by
  rw [List.take_succ_eq_append_getElem h, sumOf_snoc]
  simp [List.getD_eq_getElem?_getD, h]

theorem sumStep_inj (s t x : Int) (hs : 0 ≤ s) (hs' : s < 65521) (ht : 0 ≤ t) (ht' : t < 65521) (h : sumStep s x = sumStep t x) : s = t := by
  unfold sumStep at h
  omega

theorem sumStep_byte (s x y : Int) (hx : 0 ≤ x ∧ x ≤ 255) (hy : 0 ≤ y ∧ y ≤ 255) (h : sumStep s x = sumStep s y) : x = y := by
  unfold sumStep at h
  omega

theorem sumFrom_inj (s t : Int) (l : List Int) (hs : 0 ≤ s) (hs' : s < 65521) (ht : 0 ≤ t) (ht' : t < 65521) (h : sumFrom s l = sumFrom t l) : s = t := by
  induction l generalizing s t with
  | nil => exact h
  | cons y r ih => exact sumStep_inj s t y hs hs' ht ht' (ih _ _ (sumStep_bd s y).1 (sumStep_bd s y).2 (sumStep_bd t y).1 (sumStep_bd t y).2 h)

/-- One byte turned: another sum. -/
theorem sumFrom_set (s : Int) (l : List Int) (k : Nat) (c : Int) (hk : k < l.length) (hl : Octets l) (hc : 0 ≤ c ∧ c ≤ 255) (h : sumFrom s (l.set k c) = sumFrom s l) : l[k] = c := by
  induction l generalizing s k with
  | nil => simp at hk
  | cons y r ih =>
    cases k with
    | zero =>
      have e := sumFrom_inj _ _ r (sumStep_bd s c).1 (sumStep_bd s c).2 (sumStep_bd s y).1 (sumStep_bd s y).2 h
      exact (sumStep_byte s c y hc (hl y (by simp)) e).symm
    | succ k => exact ih _ k (by simpa using hk) (fun x hx => hl x (by simp [hx])) h

theorem sealOf_length (l : List Int) : (sealOf l).length = l.length + 2 := by simp [sealOf]

theorem sealOf_octets (l : List Int) (h : Octets l) : Octets (sealOf l) := by
  intro x hx
  have := sumOf_bd l
  simp [sealOf] at hx
  rcases hx with hx | rfl | rfl
  · exact h x hx
  · omega
  · omega

theorem sealedB_seal (l : List Int) : sealedB (sealOf l) = true := by
  have h : (sealOf l).take ((sealOf l).length - 2) = l := by simp [sealOf]
  rw [sealedB, h]
  simp [sealOf_length]

/-- What is sealed is so no more if one of its bytes is another one. -/
theorem sealedB_turned (l : List Int) (k : Nat) (c : Int) (hk : k < (sealOf l).length) (hl : Octets l) (hc : 0 ≤ c ∧ c ≤ 255) (hne : (sealOf l).getD k 0 ≠ c) : sealedB ((sealOf l).set k c) = false := by
  have hlen := sealOf_length l
  by_cases hs : sealedB ((sealOf l).set k c) = true
  · exfalso
    apply hne
    rw [sealedB, Bool.and_eq_true] at hs
    have e := eq_of_beq hs.2
    have hlen' : ((sealOf l).set k c).length = l.length + 2 := by simp [hlen]
    rw [hlen'] at e
    have ht : ((sealOf l).set k c).take (l.length + 2 - 2) = l.set k c := by
      rw [show l.length + 2 - 2 = l.length from by omega, List.take_set]
      simp [sealOf]
    rw [ht] at e
    by_cases hkl : k < l.length
    · have e2 : (sealOf l).set k c = l.set k c ++ [sumOf l / 256, sumOf l % 256] := by
        rw [sealOf, List.set_append_left _ _ hkl]
      rw [e2, sealOf] at e
      have e3 := List.append_cancel_left e
      simp at e3
      have b1 := sumOf_bd l
      have b2 := sumOf_bd (l.set k c)
      have e4 : sumOf (l.set k c) = sumOf l := by omega
      have := sumFrom_set 13 l k c hkl hl hc e4
      rw [List.getD_eq_getElem?_getD, sealOf, List.getElem?_append_left hkl]
      simp [hkl, this]
    · have e2 : l.set k c = l := by rw [List.set_eq_of_length_le (by omega)]
      rw [e2] at e
      have e3 : (sealOf l).getD k 0 = ((sealOf l).set k c).getD k 0 := by rw [← e]
      rw [e3]
      simp [List.getD_eq_getElem?_getD, hk]
  · simpa using hs

/-- The program's own test of the two last bytes. -/
theorem sealedB_eq (l : List Int) (hl : Octets l) (n : Nat) (hn : l.length = n + 2) : sealedB l = (l.getD n 0 * 256 + l.getD (n + 1) 0 == sumOf (l.take n)) := by
  have h0 : n < l.length := by omega
  have h1 : n + 1 < l.length := by omega
  have hsp : l = l.take n ++ [l.getD n 0, l.getD (n + 1) 0] := by
    conv => lhs; rw [← List.take_append_drop n l]
    congr 1
    rw [List.drop_eq_getElem_cons h0, List.drop_eq_getElem_cons h1, List.drop_of_length_le (by omega)]
    simp [List.getD_eq_getElem?_getD, h0, h1]
  have b := sumOf_bd (l.take n)
  have c0 := hl (l.getD n 0) (by simp [List.getD_eq_getElem?_getD, h0])
  have c1 := hl (l.getD (n + 1) 0) (by simp [List.getD_eq_getElem?_getD, h1])
  rw [sealedB, hn, show n + 2 - 2 = n from by omega, sealOf]
  conv => lhs; rhs; rhs; rw [hsp]
  rw [Bool.eq_iff_iff]
  simp only [Bool.and_eq_true, decide_eq_true_eq, beq_iff_eq]
  constructor
  · rintro ⟨_, h⟩
    have := List.append_cancel_left h
    simp only [List.cons.injEq, and_true] at this
    omega
  · intro h
    refine ⟨by omega, ?_⟩
    congr 1
    simp only [List.cons.injEq, and_true]
    omega

theorem sealedB_of (l : List Int) (n : Nat) (hn : l.length = n + 2) : sealedB l = (sealOf (l.take n) == l) := by
  rw [sealedB, hn, show n + 2 - 2 = n from by omega]
  simp

theorem sealedB_short (l : List Int) (h : l.length < 2) : sealedB l = false := by
  simp [sealedB]
  omega

end Go.Proofs.Ytjggiameajndgab
