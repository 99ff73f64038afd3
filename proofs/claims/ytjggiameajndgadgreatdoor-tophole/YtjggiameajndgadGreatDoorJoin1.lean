import Derived.Lib.AtoiAll
import Derived.Lib.ItoaNum
import Derived.WalkKit
import Derived.Deep.Draws
import Derived.Laws.AppendOwnNone
/-
  Plain mathematics of the sum: no program text is named here. What the sum of a list of bytes is, that two states of the sum never meet behind the same bytes, and that a sealed list with one byte turned is sealed no more.
-/
namespace Go.Proofs.YtjggiameajndgadGreatDoor

/-- One byte more. -/
def sumStep (s x : Int) : Int := (s * 151 + x + 1) % 65521

/-- The sum that began at s, behind the bytes l. -/
def sumFrom (s : Int) : List Int → Int
  | [] => s
  | x :: r => sumFrom (sumStep s x) r

/-- The sum of bytes. -/
def sumOf (l : List Int) : Int := sumFrom 13 l

/-- Bytes with their sum behind. -/
def sealOf (l : List Int) : List Int := l ++ [sumOf l / 256, sumOf l % 256]

/-- Do these bytes end with the sum of what is ahead? -/
def sealedB (l : List Int) : Bool := decide (2 ≤ l.length) && (sealOf (l.take (l.length - 2)) == l)

/-- All of them are bytes. -/
def Octets (l : List Int) : Prop := ∀ x ∈ l, 0 ≤ x ∧ x ≤ 255

theorem sumFrom_snoc (s : Int) (l : List Int) (x : Int) : sumFrom s (l ++ [x]) = sumStep (sumFrom s l) x := by
  induction l generalizing s with
  | nil => rfl
  | cons y r ih => exact ih _

theorem sumOf_snoc (l : List Int) (x : Int) : sumOf (l ++ [x]) = (sumOf l * 151 + x + 1) % 65521 := sumFrom_snoc _ _ _

theorem sumStep_bd (s x : Int) : 0 ≤ sumStep s x ∧ sumStep s x < 65521 := by unfold sumStep; omega

theorem sumFrom_bd (s : Int) (l : List Int) (h0 : 0 ≤ s) (h1 : s < 65521) : 0 ≤ sumFrom s l ∧ sumFrom s l < 65521 := by
  induction l generalizing s with
  | nil => exact ⟨h0, h1⟩
  | cons y r ih => exact ih _ (sumStep_bd s y).1 (sumStep_bd s y).2

theorem sumOf_bd (l : List Int) : 0 ≤ sumOf l ∧ sumOf l < 65521 := sumFrom_bd 13 l (by omega) (by omega)

theorem sumOf_take_succ (l : List Int) (k : Nat) (h : k < l.length) : sumOf (l.take (k + 1)) = (sumOf (l.take k) * 151 + l.getD k 0 + 1) % 65521 := by
  rw [List.take_succ_eq_append_getElem h, sumOf_snoc]
  simp [List.getD_eq_getElem?_getD, h]

theorem sumStep_inj (s t x : Int) (hs : 0 ≤ s) (hs' : s < 65521) (ht : 0 ≤ t) (ht' : t < 65521) (h : sumStep s x = sumStep t x) : s = t := by
  unfold sumStep at h
  omega

theorem sumStep_byte (s x y : Int) (hx : 0 ≤ x ∧ x ≤ 255) (hy : 0 ≤ y ∧ y ≤ 255) (h : sumStep s x = sumStep s y) : x = y := by
  unfold sumStep at h
  omega

theorem sumFrom_inj (s t : Int) (l : List Int) (hs : 0 ≤ s) (hs' : s < 65521) (ht : 0 ≤ t) (ht' : t < 65521) (h : sumFrom s l = sumFrom t l) : s = t := by
  induction l generalizing s t with
  | nil => exact h
  | cons y r ih => exact sumStep_inj s t y hs hs' ht ht' (ih _ _ (sumStep_bd s y).1 (sumStep_bd s y).2 (sumStep_bd t y).1 (sumStep_bd t y).2 h)

/-- One byte turned: another sum. -/
theorem sumFrom_set (s : Int) (l : List Int) (k : Nat) (c : Int) (hk : k < l.length) (hl : Octets l) (hc : 0 ≤ c ∧ c ≤ 255) (h : sumFrom s (l.set k c) = sumFrom s l) : l[k] = c := by
  induction l generalizing s k with
  | nil => simp at hk
  | cons y r ih =>
    cases k with
    | zero =>
      have e := sumFrom_inj _ _ r (sumStep_bd s c).1 (sumStep_bd s c).2 (sumStep_bd s y).1 (sumStep_bd s y).2 h
      exact (sumStep_byte s c y hc (hl y (by simp)) e).symm
    | succ k => exact ih _ k (by simpa using hk) (fun x hx => hl x (by simp [hx])) h

theorem sealOf_length (l : List Int) : (sealOf l).length = l.length + 2 := by simp [sealOf]

theorem sealOf_octets (l : List Int) (h : Octets l) : Octets (sealOf l) := by
  intro x hx
  have := sumOf_bd l
  simp [sealOf] at hx
  rcases hx with hx | rfl | rfl
  · exact h x hx
  · omega
  · omega

theorem sealedB_seal (l : List Int) : sealedB (sealOf l) = true := by
  have h : (sealOf l).take ((sealOf l).length - 2) = l := by simp [sealOf]
  rw [sealedB, h]
  simp [sealOf_length]

/-- What is sealed is so no more if one of its bytes is another one. -/
theorem sealedB_turned (l : List Int) (k : Nat) (c : Int) (hk : k < (sealOf l).length) (hl : Octets l) (hc : 0 ≤ c ∧ c ≤ 255) (hne : (sealOf l).getD k 0 ≠ c) : sealedB ((sealOf l).set k c) = false := by
  have hlen := sealOf_length l
  by_cases hs : sealedB ((sealOf l).set k c) = true
  · exfalso
    apply hne
    rw [sealedB, Bool.and_eq_true] at hs
    have e := eq_of_beq hs.2
    have hlen' : ((sealOf l).set k c).length = l.length + 2 := by simp [hlen]
    rw [hlen'] at e
    have ht : ((sealOf l).set k c).take (l.length + 2 - 2) = l.set k c := by
      rw [show l.length + 2 - 2 = l.length from by omega, List.take_set]
      simp [sealOf]
    rw [ht] at e
    by_cases hkl : k < l.length
    · have e2 : (sealOf l).set k c = l.set k c ++ [sumOf l / 256, sumOf l % 256] := by
        rw [sealOf, List.set_append_left _ _ hkl]
      rw [e2, sealOf] at e
      have e3 := List.append_cancel_left e
      simp at e3
      have b1 := sumOf_bd l
      have b2 := sumOf_bd (l.set k c)
      have e4 : sumOf (l.set k c) = sumOf l := by omega
      have := sumFrom_set 13 l k c hkl hl hc e4
      rw [List.getD_eq_getElem?_getD, sealOf, List.getElem?_append_left hkl]
      simp [hkl, this]
    · have e2 : l.set k c = l := by rw [List.set_eq_of_length_le (by omega)]
      rw [e2] at e
      have e3 : (sealOf l).getD k 0 = ((sealOf l).set k c).getD k 0 := by rw [← e]
      rw [e3]
      simp [List.getD_eq_getElem?_getD, hk]
  · simpa using hs

/-- The program's own test of the two last bytes. -/
theorem sealedB_eq (l : List Int) (hl : Octets l) (n : Nat) (hn : l.length = n + 2) : sealedB l = (l.getD n 0 * 256 + l.getD (n + 1) 0 == sumOf (l.take n)) := by
  have h0 : n < l.length := by omega
  have h1 : n + 1 < l.length := by omega
  have hsp : l = l.take n ++ [l.getD n 0, l.getD (n + 1) 0] := by
    conv => lhs; rw [← List.take_append_drop n l]
    congr 1
    rw [List.drop_eq_getElem_cons h0, List.drop_eq_getElem_cons h1, List.drop_of_length_le (by omega)]
    simp [List.getD_eq_getElem?_getD, h0, h1]
  have b := sumOf_bd (l.take n)
  have c0 := hl (l.getD n 0) (by simp [List.getD_eq_getElem?_getD, h0])
  have c1 := hl (l.getD (n + 1) 0) (by simp [List.getD_eq_getElem?_getD, h1])
  rw [sealedB, hn, show n + 2 - 2 = n from by omega, sealOf]
  conv => lhs; rhs; rhs; rw [hsp]
  rw [Bool.eq_iff_iff]
  simp only [Bool.and_eq_true, decide_eq_true_eq, beq_iff_eq]
  constructor
  · rintro ⟨_, h⟩
    have := List.append_cancel_left h
    simp only [List.cons.injEq, and_true] at this
    omega
  · intro h
    refine ⟨by omega, ?_⟩
    congr 1
    simp only [List.cons.injEq, and_true]
    omega

theorem sealedB_of (l : List Int) (n : Nat) (hn : l.length = n + 2) : sealedB l = (sealOf (l.take n) == l) := by
  rw [sealedB, hn, show n + 2 - 2 = n from by omega]
  simp

theorem sealedB_short (l : List Int) (h : l.length < 2) : sealedB l = false := by
  simp [sealedB]
  omega

end Go.Proofs.YtjggiameajndgadGreatDoor

/-
  Plain mathematics of places and cells: which places there are, where a block is, what is at a place, what a cell's bytes are, and what any bytes have at a place.
-/
namespace Go.Proofs.YtjggiameajndgadGreatDoor

/-- Is there such a place? -/
def thereB (d s : Int) : Bool := decide (0 ≤ d ∧ d < 4 ∧ 0 ≤ s ∧ s < 3)

/-- The disk that holds a stripe's xor. -/
def spareOf (s : Int) : Int := 3 - s

/-- A block's disk within a stripe, by its number there. -/
def diskOf (s r : Int) : Int := if r < 3 - s then r else r + 1

/-- Is there such a block? -/
def blockB (n : Int) : Bool := decide (0 ≤ n ∧ n < 9)

/-- Where a block is: disk, stripe, error. -/
def whereD (n : Int) : Int := if 0 ≤ n ∧ n < 9 then diskOf (n / 3) (n % 3) else 0
def whereS (n : Int) : Int := if 0 ≤ n ∧ n < 9 then n / 3 else 0
def whereE (n : Int) : Int := if 0 ≤ n ∧ n < 9 then 0 else 3

/-- What block is at a place (-1: the xor), and the error. -/
def blockN (d s : Int) : Int := if 0 ≤ d ∧ d < 4 ∧ 0 ≤ s ∧ s < 3 then (if d = 3 - s then -1 else 3 * s + (if d < 3 - s then d else d - 1)) else 0
def blockE (d s : Int) : Int := if 0 ≤ d ∧ d < 4 ∧ 0 ≤ s ∧ s < 3 then 0 else 3

/-- A cell's bytes. -/
def cellOf (d s : Int) (data : List Int) : List Int := sealOf (d :: s :: data)

/-- What bytes have at a place: the data, and the error. -/
def readX (l : List Int) (d s : Int) : List Int :=
  if l.length = 8 ∧ sealedB l = true then (if l.getD 0 0 = d ∧ l.getD 1 0 = s then (l.drop 2).take 4 else []) else []
def readE (l : List Int) (d s : Int) : Int :=
  if l.length = 8 ∧ sealedB l = true then (if l.getD 0 0 = d ∧ l.getD 1 0 = s then 0 else 8) else 7

theorem read_sum {l : List Int} (d s : Int) (h : ¬ (l.length = 8 ∧ sealedB l = true)) : readX l d s = [] ∧ readE l d s = 7 := by simp [readX, readE, h]
theorem read_place {l : List Int} {d s : Int} (h : l.length = 8 ∧ sealedB l = true) (hp : ¬ (l.getD 0 0 = d ∧ l.getD 1 0 = s)) : readX l d s = [] ∧ readE l d s = 8 := by
  rw [readX, readE, if_pos h, if_pos h, if_neg hp, if_neg hp]; exact ⟨rfl, rfl⟩
theorem read_ok {l : List Int} {d s : Int} (h : l.length = 8 ∧ sealedB l = true) (hp : l.getD 0 0 = d ∧ l.getD 1 0 = s) : readX l d s = (l.drop 2).take 4 ∧ readE l d s = 0 := by
  rw [readX, readE, if_pos h, if_pos h, if_pos hp, if_pos hp]; exact ⟨rfl, rfl⟩

theorem thereB_iff {d s : Int} : thereB d s = true ↔ 0 ≤ d ∧ d < 4 ∧ 0 ≤ s ∧ s < 3 := by simp [thereB]
theorem blockE_there (d s : Int) : thereB d s = (blockE d s == 0) := by
  unfold thereB blockE
  by_cases h : 0 ≤ d ∧ d < 4 ∧ 0 ≤ s ∧ s < 3 <;> simp [h]

theorem cellOf_length (d s : Int) (l : List Int) : (cellOf d s l).length = l.length + 4 := by simp [cellOf, sealOf_length]

theorem cellOf_octets {d s : Int} {l : List Int} (hd : 0 ≤ d ∧ d ≤ 255) (hs : 0 ≤ s ∧ s ≤ 255) (h : Octets l) : Octets (cellOf d s l) := by
  refine sealOf_octets _ fun x hx => ?_
  simp at hx
  rcases hx with rfl | rfl | hx
  · exact hd
  · exact hs
  · exact h x hx

theorem octets_cons {d s : Int} {l : List Int} (hd : 0 ≤ d ∧ d ≤ 255) (hs : 0 ≤ s ∧ s ≤ 255) (h : Octets l) : Octets (d :: s :: l) := by
  intro x hx
  simp at hx
  rcases hx with rfl | rfl | hx
  · exact hd
  · exact hs
  · exact h x hx

/-- A cell is read at a place: its data where that is its own place, else none. -/
theorem read_cell {d s : Int} {l : List Int} (hl : l.length = 4) (d' s' : Int) :
    readX (cellOf d s l) d' s' = (if d = d' ∧ s = s' then l else []) ∧ readE (cellOf d s l) d' s' = (if d = d' ∧ s = s' then 0 else 8) := by
  have h : (cellOf d s l).length = 8 ∧ sealedB (cellOf d s l) = true := ⟨by rw [cellOf_length, hl], sealedB_seal _⟩
  have h0 : (cellOf d s l).getD 0 0 = d := rfl
  have h1 : (cellOf d s l).getD 1 0 = s := rfl
  rw [readX, readE, if_pos h, if_pos h, h0, h1]
  refine ⟨?_, rfl⟩
  congr 1
  simp [cellOf, sealOf, hl]

theorem cellOf_inj {d s d' s' : Int} {l l' : List Int} (hl : l.length = 4) (hl' : l'.length = 4) : (cellOf d s l == cellOf d' s' l') = (d == d' && s == s' && l == l') := by
  rw [Bool.eq_iff_iff]
  simp only [beq_iff_eq, Bool.and_eq_true]
  constructor
  · intro h
    have e := congrArg (List.take 6) h
    have key : ∀ (d s : Int) (l : List Int), l.length = 4 → (cellOf d s l).take 6 = d :: s :: l := by
      intro d s l hl; simp [cellOf, sealOf, hl]
    rw [key d s l hl, key d' s' l' hl'] at e
    simp at e
    exact ⟨⟨e.1, e.2.1⟩, e.2.2⟩
  · rintro ⟨⟨rfl, rfl⟩, rfl⟩
    rfl

/-- A cell one of whose bytes is another one is none. -/
theorem read_turned {d s : Int} {l : List Int} (hd : 0 ≤ d ∧ d ≤ 255) (hs : 0 ≤ s ∧ s ≤ 255) (ho : Octets l) {k : Nat} {c : Int} (hk : k < (cellOf d s l).length) (hc : 0 ≤ c ∧ c ≤ 255) (hne : (cellOf d s l).getD k 0 ≠ c) (d' s' : Int) :
    readX ((cellOf d s l).set k c) d' s' = [] ∧ readE ((cellOf d s l).set k c) d' s' = 7 := by
  refine read_sum _ _ fun ⟨_, h⟩ => ?_
  have := sealedB_turned (d :: s :: l) k c hk (octets_cons hd hs ho) hc hne
  rw [cellOf, this] at h
  cases h

/-- Which blocks are ahead of a place in a stripe. -/
theorem where_hit {n s d : Int} (hs0 : 0 ≤ s) (hs1 : s < 3) (hd0 : 0 ≤ d) (hd1 : d < 4) (hne : d ≠ 3 - s) (h : n = 3 * s + (if 3 - s < d then d - 1 else d)) : whereD n = d ∧ whereS n = s ∧ whereE n = 0 := by
  have hb : 0 ≤ n ∧ n < 9 := by split at h <;> omega
  have hq : n / 3 = s := by split at h <;> omega
  have hr : n % 3 = (if 3 - s < d then d - 1 else d) := by split at h <;> (rename_i h1; simp only [h1, if_true, if_false]; omega)
  rw [whereD, whereS, whereE, if_pos hb, if_pos hb, if_pos hb, hq, diskOf, hr]
  refine ⟨?_, rfl, rfl⟩
  by_cases h1 : 3 - s < d
  · simp only [h1, if_true]; split <;> omega
  · simp only [h1, if_false]; split <;> omega

theorem where_out {n : Int} (h : ¬ (0 ≤ n ∧ n < 9)) : whereD n = 0 ∧ whereS n = 0 ∧ whereE n = 3 := by
  simp only [whereD, whereS, whereE, if_neg h]; exact ⟨trivial, trivial, trivial⟩

theorem block_hit {n d s : Int} (hn : 0 ≤ n ∧ n < 9) (hd : whereD n = d) (hs : whereS n = s) : blockN d s = n ∧ blockE d s = 0 := by
  rw [whereD, if_pos hn, diskOf] at hd
  rw [whereS, if_pos hn] at hs
  have hp : 0 ≤ d ∧ d < 4 ∧ 0 ≤ s ∧ s < 3 := by split at hd <;> omega
  rw [blockN, blockE, if_pos hp, if_pos hp]
  refine ⟨?_, rfl⟩
  split at hd
  · rw [if_neg (by omega), if_pos (by omega)]; omega
  · rw [if_neg (by omega), if_neg (by omega)]; omega

theorem block_none {d s : Int} (hp : 0 ≤ d ∧ d < 4 ∧ 0 ≤ s ∧ s < 3) (h : ∀ n, 0 ≤ n → n < 9 → ¬ (whereD n = d ∧ whereS n = s)) : blockN d s = -1 ∧ blockE d s = 0 := by
  rw [blockN, blockE, if_pos hp, if_pos hp]
  refine ⟨?_, rfl⟩
  by_cases hsp : d = 3 - s
  · rw [if_pos hsp]
  · exfalso
    have := where_hit (n := 3 * s + (if 3 - s < d then d - 1 else d)) hp.2.2.1 hp.2.2.2 hp.1 hp.2.1 hsp rfl
    refine h _ ?_ ?_ ⟨this.1, this.2.1⟩ <;> (split <;> omega)

end Go.Proofs.YtjggiameajndgadGreatDoor

/-
  Plain: what is wrong with a deed, and what blocks are behind one.
-/
namespace Go.Proofs.YtjggiameajndgadGreatDoor

/-- A deed. -/
structure DeedP where
  k : Int
  n : Int
  m : Int
  d : List Int

/-- What is wrong with it. -/
def wrongE (x : DeedP) : Int :=
  if x.k ≠ 1 ∧ x.k ≠ 2 then 1
  else if x.n < 0 ∨ 8 < x.n then 3
  else if x.k = 1 then (if x.m ≠ 0 then 3 else if x.d.length ≠ 4 then 4 else 0)
  else if whereE x.m ≠ 0 ∨ whereS x.n ≠ whereS x.m then 3
  else if x.d.length ≠ 0 then 4 else 0

/-- What is at place i behind it. -/
def doAt (ls : List (List Int)) (x : DeedP) (i : Nat) : List Int :=
  if x.k = 1 ∧ (i : Int) = x.n then x.d
  else if x.k = 2 ∧ (i : Int) = x.n then ls.getD x.m.toNat []
  else if x.k = 2 ∧ (i : Int) = x.m then ls.getD x.n.toNat []
  else ls.getD i []

/-- What blocks are behind it. -/
def doL (ls : List (List Int)) (x : DeedP) : List (List Int) := (List.range ls.length).map (doAt ls x)

theorem doL_length (ls : List (List Int)) (x : DeedP) : (doL ls x).length = ls.length := by simp [doL]

/-- What must be to be right. -/
theorem right_deed {x : DeedP} (h : wrongE x = 0) : (x.k = 1 ∨ x.k = 2) ∧ 0 ≤ x.n ∧ x.n ≤ 8 ∧ (x.k = 1 → x.m = 0 ∧ x.d.length = 4) ∧ (x.k = 2 → whereE x.m = 0 ∧ whereS x.n = whereS x.m ∧ x.d.length = 0) := by
  unfold wrongE at h
  split at h
  · cases h
  rename_i h1
  split at h
  · cases h
  rename_i h2
  split at h
  · rename_i h3
    split at h
    · cases h
    rename_i h4
    split at h
    · cases h
    rename_i h5
    exact ⟨.inl h3, by omega, by omega, fun _ => ⟨Decidable.not_not.1 h4, Decidable.not_not.1 h5⟩, fun h => by omega⟩
  · rename_i h3
    split at h
    · cases h
    rename_i h4
    split at h
    · cases h
    rename_i h5
    have h6 : x.k = 2 := by omega
    exact ⟨.inr h6, by omega, by omega, (fun h => absurd h h3), fun _ => ⟨Decidable.byContradiction fun h => h4 (.inl h), Decidable.byContradiction fun h => h4 (.inr h), Decidable.not_not.1 h5⟩⟩

end Go.Proofs.YtjggiameajndgadGreatDoor

/-
  Plain: a deed's text, and a text's deed.
-/
namespace Go.Proofs.YtjggiameajndgadGreatDoor

/-- Two digits of a byte. -/
def hexD (k : Nat) : UInt8 := if k < 10 then UInt8.ofNat (48 + k) else UInt8.ofNat (87 + k)

/-- What a digit is. -/
def hexV (c : UInt8) : Option Nat :=
  if 48 ≤ c.toNat ∧ c.toNat ≤ 57 then some (c.toNat - 48) else if 97 ≤ c.toNat ∧ c.toNat ≤ 102 then some (c.toNat - 87) else none

theorem hexV_D : ∀ k : Nat, k < 16 → hexV (hexD k) = some k := by decide

theorem hexV_lt {c : UInt8} {k : Nat} (h : hexV c = some k) : k < 16 ∧ hexD k = c := by
  unfold hexV at h
  split at h
  · rename_i h1
    injection h with h
    subst h
    refine ⟨by omega, ?_⟩
    unfold hexD
    rw [if_pos (by omega)]
    apply UInt8.toNat_inj.1
    rw [UInt8.toNat_ofNat']
    omega
  · split at h
    · rename_i h1
      injection h with h
      subst h
      refine ⟨by omega, ?_⟩
      unfold hexD
      rw [if_neg (by omega)]
      apply UInt8.toNat_inj.1
      rw [UInt8.toNat_ofNat']
      omega
    · cases h

/-- Two digits of each. -/
def hexL : List Int → List UInt8
  | [] => []
  | c :: r => hexD (c / 16).toNat :: hexD (c % 16).toNat :: hexL r

/-- What the digits are. -/
def unhex : List UInt8 → Option (List Int)
  | [] => some []
  | [_] => none
  | a :: b :: r =>
    match hexV a, hexV b, unhex r with
    | some x, some y, some l => some (((16 * x + y : Nat) : Int) :: l)
    | _, _, _ => none

theorem unhex_hex : ∀ d : List Int, (∀ c ∈ d, 0 ≤ c ∧ c < 256) → unhex (hexL d) = some d
  | [], _ => rfl
  | c :: r, h => by
    obtain ⟨h0, h1⟩ := h c (List.mem_cons_self ..)
    have hr := unhex_hex r fun x hx => h x (List.mem_cons_of_mem _ hx)
    simp only [hexL, unhex, hr, hexV_D _ (show (c / 16).toNat < 16 by omega), hexV_D _ (show (c % 16).toNat < 16 by omega)]
    congr 2
    omega

theorem hex_unhex : ∀ (b : List UInt8) (d : List Int), unhex b = some d → hexL d = b ∧ ∀ c ∈ d, 0 ≤ c ∧ c < 256
  | [], d, h => by
    simp only [unhex] at h
    injection h with h
    subst h
    exact ⟨rfl, fun c hc => by cases hc⟩
  | [_], d, h => by simp [unhex] at h
  | a :: b :: r, d, h => by
    simp only [unhex] at h
    split at h
    · rename_i x y l hx hy hl
      injection h with h
      subst h
      obtain ⟨x0, x1⟩ := hexV_lt hx
      obtain ⟨y0, y1⟩ := hexV_lt hy
      obtain ⟨i1, i2⟩ := hex_unhex r l hl
      constructor
      · simp only [hexL, i1]
        rw [show (((16 * x + y : Nat) : Int) / 16).toNat = x by omega, show (((16 * x + y : Nat) : Int) % 16).toNat = y by omega, x1, y1]
      · intro c hc
        rcases List.mem_cons.1 hc with rfl | hc
        · omega
        · exact i2 c hc
    · cases h

/-- No digit is a blank. -/
theorem hexD_blank : ∀ k : Nat, k < 16 → hexD k ≠ 32 := by decide

theorem hexL_blank : ∀ d : List Int, (∀ c ∈ d, 0 ≤ c ∧ c < 256) → 32 ∉ hexL d
  | [], _ => by simp [hexL]
  | c :: r, h => by
    obtain ⟨h0, h1⟩ := h c (List.mem_cons_self ..)
    have hr := hexL_blank r fun x hx => h x (List.mem_cons_of_mem _ hx)
    have a1 := hexD_blank (c / 16).toNat (by omega)
    have a2 := hexD_blank (c % 16).toNat (by omega)
    simp only [hexL, List.mem_cons, not_or]
    exact ⟨fun e => a1 e.symm, fun e => a2 e.symm, hr⟩

theorem hexL_length : ∀ d : List Int, (hexL d).length = 2 * d.length
  | [] => rfl
  | c :: r => by simp only [hexL, List.length_cons, hexL_length r]; omega

/-- The words between single blanks. -/
def split : List UInt8 → List (List UInt8)
  | [] => [[]]
  | c :: r => if c = 32 then [] :: split r else (c :: (split r).headD []) :: (split r).tail

/-- Words with a blank between. -/
def join : List (List UInt8) → List UInt8
  | [] => []
  | [w] => w
  | w :: ws => w ++ 32 :: join ws

theorem split_ne : ∀ s, split s ≠ []
  | [] => by simp [split]
  | c :: r => by simp only [split]; split <;> simp

theorem join_cons (w : List UInt8) {ws : List (List UInt8)} (h : ws ≠ []) : join (w :: ws) = w ++ 32 :: join ws := by
  cases ws with
  | nil => exact absurd rfl h
  | cons => rfl

theorem join_split : ∀ s, join (split s) = s
  | [] => rfl
  | c :: r => by
    have ih := join_split r
    simp only [split]
    split
    · rename_i h
      subst h
      rw [join_cons _ (split_ne r), ih]
      rfl
    · revert ih
      cases hs : split r with
      | nil => exact absurd hs (split_ne r)
      | cons w ws =>
        cases ws with
        | nil => intro ih; simp only [join] at ih; subst ih; rfl
        | cons v vs =>
          intro ih
          rw [join_cons _ (by simp)] at ih
          show join ((c :: w) :: v :: vs) = _
          rw [join_cons _ (by simp), List.cons_append, ih]

theorem split_word : ∀ w : List UInt8, 32 ∉ w → split w = [w]
  | [], _ => rfl
  | c :: r, h => by
    have h1 : c ≠ 32 := fun e => h (e ▸ List.mem_cons_self ..)
    have ih := split_word r fun e => h (List.mem_cons_of_mem _ e)
    simp only [split, if_neg h1, ih]
    rfl

theorem split_append : ∀ (w s : List UInt8), 32 ∉ w → split (w ++ 32 :: s) = w :: split s
  | [], s, _ => by simp [split]
  | c :: r, s, h => by
    have h1 : c ≠ 32 := fun e => h (e ▸ List.mem_cons_self ..)
    have ih := split_append r s fun e => h (List.mem_cons_of_mem _ e)
    simp only [List.cons_append, split, if_neg h1, ih]
    rfl

/-- A number that is written as it must be. -/
def numL (w : List UInt8) : Option Int :=
  match Lib.atoiAll w with
  | .ok v => if Lib.itoa v = w then some v else none
  | _ => none

theorem numL_some {w : List UInt8} {v : Int} (h : numL w = some v) : Lib.itoa v = w := by
  unfold numL at h
  split at h
  · split at h
    · rename_i h1
      injection h with h
      subst h
      exact h1
    · cases h
  · cases h

theorem itoa_small (k : Nat) (h : k < 10) : Lib.itoa (k : Int) = [UInt8.ofNat (48 + k)] := by
  unfold Lib.itoa
  rw [if_neg (by omega), Int.toNat_natCast, Lib.decDigits, dif_pos h]

theorem numL_small (k : Nat) (h : k < 10) : numL (Lib.itoa (k : Int)) = some (k : Int) := by
  unfold numL
  rw [itoa_small k h]
  have h1 : Lib.atoiAll [UInt8.ofNat (48 + k)] = .ok (k : Int) := by
    revert k; decide
  rw [h1]
  simp only [itoa_small k h, if_true]

theorem itoa_blank (k : Nat) (h : k < 10) : 32 ∉ Lib.itoa (k : Int) := by
  rw [itoa_small k h]
  revert k; decide

def wrW : List UInt8 := [119, 114, 105, 116, 101]
def swW : List UInt8 := [115, 119, 97, 112]

/-- A deed's text. -/
def printP (x : DeedP) : List UInt8 :=
  if x.k = 2 then swW ++ 32 :: (Lib.itoa x.n ++ 32 :: Lib.itoa x.m) else wrW ++ 32 :: (Lib.itoa x.n ++ 32 :: hexL x.d)

/-- Nothing, and why. -/
def noP (e : Int) : DeedP × Int := (⟨0, 0, 0, []⟩, e)

def chkP (x : DeedP) : DeedP × Int := if wrongE x = 0 then (x, 0) else noP (wrongE x)

/-- What the two words behind the first are. -/
def form (k : Int) (a b : List UInt8) : Option DeedP :=
  match numL a with
  | none => none
  | some n =>
    if k = 1 then (match unhex b with | none => none | some d => some ⟨1, n, 0, d⟩)
    else (match numL b with | none => none | some m => some ⟨2, n, m, []⟩)

/-- What the words are. -/
def wordsP (k : Int) (ws : List (List UInt8)) : DeedP × Int :=
  match ws with
  | [_, a, b] => (match form k a b with | none => noP 2 | some x => chkP x)
  | _ => noP 2

/-- A text's deed. -/
def parseP (s : List UInt8) : DeedP × Int :=
  if (split s).headD [] = wrW then wordsP 1 (split s)
  else if (split s).headD [] = swW then wordsP 2 (split s)
  else noP 1

/-- A right deed comes back from its text. -/
theorem parse_print (x : DeedP) (h : wrongE x = 0) (hb : ∀ c ∈ x.d, 0 ≤ c ∧ c < 256) : parseP (printP x) = (x, 0) := by
  obtain ⟨hk, n0, n1, h1, h2⟩ := right_deed h
  obtain ⟨k, n, m, d⟩ := x
  simp only at *
  obtain ⟨n, rfl⟩ : ∃ j : Nat, n = (j : Int) := ⟨n.toNat, by omega⟩
  have hn : n < 10 := by omega
  rcases hk with rfl | rfl
  · obtain ⟨rfl, -⟩ := h1 rfl
    have hs : split (printP ⟨1, (n : Int), 0, d⟩) = [wrW, Lib.itoa (n : Int), hexL d] := by
      unfold printP
      rw [if_neg (by decide : ¬ ((1 : Int) = 2)), split_append _ _ (by decide), split_append _ _ (itoa_blank n hn), split_word _ (hexL_blank d hb)]
    unfold parseP
    rw [hs]
    simp only [List.headD_cons, if_true, wordsP, form, numL_small n hn, unhex_hex d hb, chkP, h]
  · obtain ⟨m1, m2, m3⟩ := h2 rfl
    have hm : 0 ≤ m ∧ m ≤ 8 := by
      unfold whereE at m1
      split at m1 <;> omega
    obtain ⟨m, rfl⟩ : ∃ j : Nat, m = (j : Int) := ⟨m.toNat, by omega⟩
    have hm : m < 10 := by omega
    obtain rfl : d = [] := List.length_eq_zero_iff.1 m3
    have hs : split (printP ⟨2, (n : Int), (m : Int), []⟩) = [swW, Lib.itoa (n : Int), Lib.itoa (m : Int)] := by
      unfold printP
      rw [if_pos rfl, split_append _ _ (by decide), split_append _ _ (itoa_blank n hn), split_word _ (itoa_blank m hm)]
    unfold parseP
    rw [hs]
    simp only [List.headD_cons, show ¬ swW = wrW by decide, if_false, if_true, wordsP, form, numL_small n hn, numL_small m hm, show ¬ ((2 : Int) = 1) by decide, chkP, h]

theorem chk_ok {x y : DeedP} (h : chkP x = (y, 0)) : x = y ∧ wrongE x = 0 := by
  unfold chkP at h
  split at h
  · rename_i h1
    injection h with h
    exact ⟨h, h1⟩
  · rename_i h1
    unfold noP at h
    injection h with _ h
    exact absurd h h1

theorem form_print {k : Int} {a b : List UInt8} {x : DeedP} (hk : k = 1 ∨ k = 2) (h : form k a b = some x) :
    x.k = k ∧ printP x = join [if k = 1 then wrW else swW, a, b] ∧ ∀ c ∈ x.d, 0 ≤ c ∧ c < 256 := by
  unfold form at h
  split at h
  · cases h
  rename_i n hn
  have hn := numL_some hn
  rcases hk with rfl | rfl
  · rw [if_pos rfl] at h
    split at h
    · cases h
    rename_i d hd
    injection h with h
    subst h
    obtain ⟨e1, e2⟩ := hex_unhex _ _ hd
    refine ⟨rfl, ?_, e2⟩
    simp only [printP, show ¬ ((1 : Int) = 2) by decide, if_false, if_true, join, hn, e1]
  · rw [if_neg (by decide)] at h
    split at h
    · cases h
    rename_i m hm
    have hm := numL_some hm
    injection h with h
    subst h
    refine ⟨rfl, ?_, fun c hc => by cases hc⟩
    simp only [printP, show ¬ ((2 : Int) = 1) by decide, if_false, if_true, join, hn, hm]

theorem words_ok {k : Int} {ws : List (List UInt8)} {x : DeedP} (hk : k = 1 ∨ k = 2) (h0 : ws.headD [] = if k = 1 then wrW else swW) (h : wordsP k ws = (x, 0)) :
    printP x = join ws ∧ wrongE x = 0 ∧ ∀ c ∈ x.d, 0 ≤ c ∧ c < 256 := by
  unfold wordsP at h
  split at h
  · rename_i w a b
    simp only [List.headD_cons] at h0
    subst h0
    split at h
    · simp [noP] at h
    · rename_i y hy
      obtain ⟨rfl, hw⟩ := chk_ok h
      obtain ⟨-, e1, e2⟩ := form_print hk hy
      exact ⟨e1, hw, e2⟩
  · simp [noP] at h

/-- A text that is read is its deed's. -/
theorem print_parse {s : List UInt8} {x : DeedP} (h : parseP s = (x, 0)) : printP x = s ∧ wrongE x = 0 ∧ ∀ c ∈ x.d, 0 ≤ c ∧ c < 256 := by
  unfold parseP at h
  split at h
  · rename_i h0
    have h1 := words_ok (.inl rfl) (by rw [h0]; rfl) h
    rwa [join_split] at h1
  · split at h
    · rename_i h0
      have h1 := words_ok (.inr rfl) (by rw [h0]; rfl) h
      rwa [join_split] at h1
    · simp [noP] at h

/-- Unlike ones have unlike texts. -/
theorem print_inj {x y : DeedP} (hx : wrongE x = 0) (hxb : ∀ c ∈ x.d, 0 ≤ c ∧ c < 256) (hy : wrongE y = 0) (hyb : ∀ c ∈ y.d, 0 ≤ c ∧ c < 256) (h : printP x = printP y) : x = y := by
  have h1 := parse_print x hx hxb
  rw [h, parse_print y hy hyb] at h1
  injection h1 with h1
  exact h1.symm

end Go.Proofs.YtjggiameajndgadGreatDoor

/-
  What a value that is a slice of bytes reads as, in a world; and that it reads so still in every world in which nothing old has turned.
-/
namespace Go.Proofs.YtjggiameajndgadGreatDoor
open Go.RowKit

/-- Where there is a byte at all, the address leads to a row of cells that hold the bytes l. -/
def Cs (w : World) (ao : Option Addr) (l : List Int) : Prop :=
  0 < l.length → ∃ b off, ao = some ⟨b, off, none⟩ ∧ ∀ i, i < l.length → w.cell? ⟨b, off + i, none⟩ = some (.int .u8 (l.getD i 0))

/-- The value v is a slice of bytes that reads as l. -/
def Bs (w : World) (v : Value) (l : List Int) : Prop :=
  ∃ ao cap, v = .slice ao l.length cap ∧ l.length ≤ cap ∧ cap ≤ maxLen ∧ (ao = none → cap = 0) ∧ Octets l ∧ Cs w ao l

theorem Bs.octets {w : World} {v : Value} {l : List Int} (h : Bs w v l) : Octets l := by
  obtain ⟨_, _, _, _, _, _, h, _⟩ := h; exact h

theorem Bs.len {w : World} {v : Value} {l : List Int} (h : Bs w v l) : l.length ≤ maxLen := by
  obtain ⟨_, _, _, h1, h2, _⟩ := h; omega

theorem Bs.nil (w : World) : Bs w (.slice none 0 0) [] :=
  ⟨none, 0, rfl, Nat.le_refl _, Nat.zero_le _, fun _ => rfl, fun x hx => by simp at hx, fun h => by simp at h⟩

theorem cell_lt {w : World} {b o : Nat} {v : Value} (h : w.cell? ⟨b, o, none⟩ = some v) : b < w.heap.size := by
  by_cases hb : b < w.heap.size
  · exact hb
  · exfalso
    simp [World.cell?, Array.getElem?_eq_none (Nat.le_of_not_lt hb)] at h

theorem Cs.below {w w' : World} {ao : Option Addr} {l : List Int} (h : Cs w ao l) (hb : Below w.heap.size w w') : Cs w' ao l := by
  intro hp
  obtain ⟨b, off, e, hc⟩ := h hp
  refine ⟨b, off, e, fun i hi => ?_⟩
  have := hc i hi
  rw [hb.cell (p := ⟨b, off + i, none⟩) (cell_lt this)]
  exact this

/-- It reads so still where nothing old has turned. -/
theorem Bs.below {w w' : World} {v : Value} {l : List Int} (h : Bs w v l) (hb : Below w.heap.size w w') : Bs w' v l := by
  obtain ⟨ao, cap, hv, h1, h2, h3, h4, h5⟩ := h
  exact ⟨ao, cap, hv, h1, h2, h3, h4, h5.below hb⟩

theorem Cs.src {w : World} {ao : Option Addr} {l : List Int} (h : Cs w ao l) : ∀ ad, ao = some ad → ∀ j u, (l.map (Value.int .u8))[j]? = some u → w.cell? (ad.add j) = some u := by
  intro ad had j u hu
  have hj : j < l.length := by
    by_cases hj : j < l.length
    · exact hj
    · simp [List.getElem?_eq_none (Nat.le_of_not_lt hj)] at hu
  obtain ⟨b, off, e, hc⟩ := h (by omega)
  rw [had] at e
  obtain rfl := Option.some.inj e
  have := hc j hj
  have hplain : (⟨b, off, none⟩ : Addr).add j = ⟨b, off + j, none⟩ := by unfold Addr.add; split <;> simp_all
  rw [hplain, this]
  simp [hj, List.getD_eq_getElem?_getD] at hu ⊢
  exact hu

theorem u8_oneCell (l : List Int) : ∀ u ∈ l.map (Value.int .u8), u.oneCell' = true := by
  intro u hu
  simp at hu
  obtain ⟨x, _, rfl⟩ := hu
  rfl

/-- A row of the call's own that holds bytes is a slice that reads as them. -/
theorem Bs.of_own {w : World} {base : Nat} {e : TypeId} {v : Value} {n : Nat} {l : List Int} (h : w.ownsRow base e 1 v n (l.map (Value.int .u8))) (ho : Octets l) : Bs w v l := by
  obtain ⟨hl, h⟩ := h
  have hn : l.length = n := by simpa using hl
  subst hn
  rcases h with ⟨rfl, h0⟩ | ⟨g, cap, cur, rfl, hg, hh, hc, hm, hs, ht⟩
  · have : l = [] := List.eq_nil_of_length_eq_zero h0
    subst this
    exact Bs.nil w
  · refine ⟨some ⟨g, 0, none⟩, cap, rfl, hc, hm, (fun h => nomatch h), ho, fun _ => ⟨g, 0, rfl, fun i hi => ?_⟩⟩
    have h1 : cur.toList[i]? = some (Value.int .u8 (l.getD i 0)) := by
      have h2 : (cur.toList.take (l.length * 1))[i]? = some (Value.int .u8 (l.getD i 0)) := by
        rw [ht]; simp [hi, List.getD_eq_getElem?_getD]
      rw [List.getElem?_take] at h2
      split at h2
      · exact h2
      · cases h2
    simp [World.cell?, hh]
    simpa using h1

theorem Bs.drewN {w : World} {v : Value} {l : List Int} (h : Bs w v l) (n : Nat) : Bs (w.drewN n) v l := by
  obtain ⟨ao, cap, hv, h1, h2, h3, h4, h5⟩ := h
  exact ⟨ao, cap, hv, h1, h2, h3, h4, h5⟩

/-- An append to a row of the call's own, of whatever slice of one-cell elements: nil or not. -/
theorem wpList_append_own_any {P : Program} (w : World) {ops : Array Oper} {rest : List Oper} {o : Oper} {a : Act} {Q : Exit → Act → World → Prop} (hgd : o.guard = none) (s x : Operand) (t : TypeId)
    (ho : o.op = .call { callee := .builtin .append, args := #[s, x], argTypes := #[t, t] })
    (base : Nat) (e : TypeId) (i : TypeInfo) (z : Value) (bytes : Nat) (ht : P.underlying t = some (.slice e)) (hi : P.info? e = some i) (hz : i.zero = some z)
    (hsize : i.size = 1) (hby : i.bytes = bytes) (hzs : z.cells.size = 1)
    (v : Value) (n : Nat) (xs : List Value) (hs : a.eval s = v) (hown : w.ownsRow base e 1 v n xs)
    (ao : Option Addr) (m c : Nat) (news : List Value) (hx : a.eval x = .slice ao m c) (hl : news.length = m) (hnone : ao = none → m = 0 ∧ c = 0)
    (hnews : ∀ ad, ao = some ad → ∀ j u, news[j]? = some u → w.cell? (ad.add j) = some u) (h1 : ∀ u ∈ news, u.oneCell' = true)
    (h63 : n + m ≤ maxLen) (hbytes : (n + m) * bytes ≤ 140737488355328) (hbase : base ≤ w.heap.size)
    (h : ∀ v' w', w'.ownsRow base e 1 v' (n + m) (xs ++ news) → w.grownBy w' v.ownBlock → wpList P ops Q rest (a.put o.dst v') w') : wpList P ops Q (o :: rest) a w := by
  cases ao with
  | some ad => exact wpList_append_own w hgd s x t ho base e i z 1 bytes ht hi hz hsize hby hzs (by decide) v n xs hs hown ad m c news hx (by simpa using hl) (hnews ad rfl) h1 h63 hbytes hbase (fun v' w' a b _ => h v' w' a b)
  | none =>
    obtain ⟨rfl, rfl⟩ := hnone rfl
    obtain rfl : news = [] := List.eq_nil_of_length_eq_zero hl
    exact wpList_append_own_none hgd s x t ho base e i 1 ht hi v n xs hs hown hx (h v w (by simpa using hown) (World.grownBy.refl _ _))

/-- A row of the call's own lies at its base or above. -/
theorem own_base {w : World} {base : Nat} {e : TypeId} {v : Value} {n : Nat} {xs : List Value} (h : w.ownsRow base e 1 v n xs) : ∀ k, v.ownBlock = some k → base ≤ k := fun k hk => (h.lt k hk).1

theorem getD_bd {l : List Int} (h : Octets l) (i : Nat) : 0 ≤ l.getD i 0 ∧ l.getD i 0 ≤ 255 := by
  by_cases hi : i < l.length
  · exact h _ (by simp [List.getD_eq_getElem?_getD, hi])
  · simp [List.getD_eq_getElem?_getD, hi]

theorem ret_int {k : IntKind} {a b : Int} (h : a = b) : Ending.returned (.int k a) = .returned (.int k b) := by rw [h]
theorem ret_bool {a b : Bool} (h : a = b) : Ending.returned (.bool a) = .returned (.bool b) := by rw [h]

end Go.Proofs.YtjggiameajndgadGreatDoor
