/-
  Plain: blocks together, by columns of natural numbers. What the bits of a column come to, counted one by one, is the column's xor.
-/
import Derived.Test.YtjggiameajndgaaMath
namespace Go.Proofs.Ytjggiameajndgaa

/-- Numbers together. -/
def xN : List Nat → Nat
  | [] => 0
  | a :: l => a ^^^ xN l

theorem xN_append (l m : List Nat) : xN (l ++ m) = xN l ^^^ xN m := by
  induction l with
  | nil => simp [xN]
  | cons a l ih => simp [xN, ih, Nat.xor_assoc]

theorem xN_lt {l : List Nat} (h : ∀ x ∈ l, x < 256) : xN l < 256 := by
  induction l with
  | nil => simp [xN]
  | cons a l ih =>
    have h1 := h a (by simp)
    have h2 := ih (fun x hx => h x (by simp [hx]))
    exact Nat.xor_lt_two_pow (n := 8) h1 h2

theorem xN_reverse (l : List Nat) : xN l.reverse = xN l := by
  induction l with
  | nil => rfl
  | cons a l ih => simp [xN, xN_append, ih, Nat.xor_comm]

/-- The numbers at one place of all blocks. -/
def col (ls : List (List Int)) (i : Nat) : List Nat := ls.map fun b => (b.getD i 0).toNat

theorem col_append (ls ms : List (List Int)) (i : Nat) : col (ls ++ ms) i = col ls i ++ col ms i := by simp [col]
theorem col_reverse (ls : List (List Int)) (i : Nat) : col ls.reverse i = (col ls i).reverse := by simp [col]

/-- Of one place of all blocks. -/
def xC (ls : List (List Int)) (i : Nat) : Nat := xN (col ls i)

theorem xC_append (ls ms : List (List Int)) (i : Nat) : xC (ls ++ ms) i = xC ls i ^^^ xC ms i := by simp [xC, col_append, xN_append]
theorem xC_nil (i : Nat) : xC [] i = 0 := rfl
theorem xC_cons (a : List Int) (ls : List (List Int)) (i : Nat) : xC (a :: ls) i = (a.getD i 0).toNat ^^^ xC ls i := rfl
theorem xC_one (a : List Int) (i : Nat) : xC [a] i = (a.getD i 0).toNat := by simp [xC, col, xN]
theorem xC_reverse (ls : List (List Int)) (i : Nat) : xC ls.reverse i = xC ls i := by rw [xC, col_reverse, xN_reverse, xC]

/-- Blocks: each of four bytes. -/
def Blocks (ls : List (List Int)) : Prop := ∀ b ∈ ls, b.length = 4 ∧ Octets b

theorem octet_toNat {b : List Int} (h : Octets b) (i : Nat) : (b.getD i 0).toNat < 256 := by
  by_cases hi : i < b.length
  · have := h (b.getD i 0) (by simp [List.getD_eq_getElem?_getD, hi])
    omega
  · simp [List.getD_eq_getElem?_getD, hi]

theorem xC_lt {ls : List (List Int)} (h : ∀ b ∈ ls, Octets b) (i : Nat) : xC ls i < 256 := by
  refine xN_lt fun x hx => ?_
  obtain ⟨b, hb, rfl⟩ := List.mem_map.1 hx
  exact octet_toNat (h b hb) i

/-- Blocks together. -/
def xorAll (ls : List (List Int)) : List Int := [(xC ls 0 : Int), (xC ls 1 : Int), (xC ls 2 : Int), (xC ls 3 : Int)]

theorem xorAll_length (ls : List (List Int)) : (xorAll ls).length = 4 := rfl

theorem xorAll_octets {ls : List (List Int)} (h : ∀ b ∈ ls, Octets b) : Octets (xorAll ls) := by
  have h0 := xC_lt h 0
  have h1 := xC_lt h 1
  have h2 := xC_lt h 2
  have h3 := xC_lt h 3
  intro x hx
  simp [xorAll] at hx
  rcases hx with rfl | rfl | rfl | rfl <;> omega

theorem xorAll_getD (ls : List (List Int)) {i : Nat} (hi : i < 4) : (xorAll ls).getD i 0 = (xC ls i : Int) := by
  match i, hi with
  | 0, _ => rfl
  | 1, _ => rfl
  | 2, _ => rfl
  | 3, _ => rfl

theorem xorAll_toNat (ls : List (List Int)) {i : Nat} (hi : i < 4) : ((xorAll ls).getD i 0).toNat = xC ls i := by
  rw [xorAll_getD ls hi]; rfl

theorem xorAll_congr {ls ms : List (List Int)} (h : ∀ i, i < 4 → xC ls i = xC ms i) : xorAll ls = xorAll ms := by
  unfold xorAll
  rw [h 0 (by omega), h 1 (by omega), h 2 (by omega), h 3 (by omega)]

/-- One block is what it is. -/
theorem xorAll_block {a : List Int} (hl : a.length = 4) (ho : Octets a) {ls : List (List Int)} (h : ∀ i, i < 4 → xC ls i = (a.getD i 0).toNat) : xorAll ls = a := by
  match a, hl with
  | [a0, a1, a2, a3], _ =>
    have h0 := h 0 (by omega)
    have h1 := h 1 (by omega)
    have h2 := h 2 (by omega)
    have h3 := h 3 (by omega)
    have b0 := ho a0 (by simp)
    have b1 := ho a1 (by simp)
    have b2 := ho a2 (by simp)
    have b3 := ho a3 (by simp)
    simp at h0 h1 h2 h3
    unfold xorAll
    rw [h0, h1, h2, h3]
    simp
    omega

theorem xorAll_nil : xorAll [] = [0, 0, 0, 0] := rfl

theorem xor_back (a b : Nat) : a ^^^ (b ^^^ a) = b := by rw [Nat.xor_comm b a, ← Nat.xor_assoc, Nat.xor_self, Nat.zero_xor]

/-- A block twice is not at all. -/
theorem xorAll_twice (a : List Int) (ls : List (List Int)) : xorAll (a :: ls ++ [a]) = xorAll ls := by
  refine xorAll_congr fun i _ => ?_
  rw [xC_append, xC_cons, xC_one, Nat.xor_assoc, xor_back]

theorem xorAll_swap (a b : List Int) : xorAll [a, b] = xorAll [b, a] := by
  refine xorAll_congr fun i _ => ?_
  rw [xC_cons a [b], xC_cons b [a], xC_one, xC_one, Nat.xor_comm]

theorem xorAll_again {a b : List Int} (hl : a.length = 4) (ho : Octets a) : xorAll [xorAll [a, b], b] = a := by
  refine xorAll_block hl ho fun i hi => ?_
  rw [xC_cons, xorAll_toNat _ hi, xC_one, xC_cons, xC_one, Nat.xor_assoc, Nat.xor_self, Nat.xor_zero]

/-- Blocks, and what they are together, are noughts together. -/
theorem xorAll_even (ls : List (List Int)) : xorAll (ls ++ [xorAll ls]) = [0, 0, 0, 0] := by
  rw [← xorAll_nil]
  refine xorAll_congr fun i hi => ?_
  rw [xC_append, xC_one, xorAll_toNat _ hi, Nat.xor_self, xC_nil]

/-- All but one, from the last to the first. -/
def others (ls : List (List Int)) (k : Nat) : Nat → List (List Int)
  | 0 => []
  | n + 1 => if n = k then others ls k n else ls.getD n [] :: others ls k n

theorem xC_take_succ (ls : List (List Int)) {n : Nat} (h : n < ls.length) (i : Nat) : xC (ls.take (n + 1)) i = xC (ls.take n) i ^^^ ((ls.getD n []).getD i 0).toNat := by
  rw [List.take_add_one, xC_append]
  simp [h, xC_one, List.getD_eq_getElem?_getD]

theorem xC_others (ls : List (List Int)) (k i : Nat) : ∀ n, n ≤ ls.length → xC (others ls k n) i = xC (ls.take n) i ^^^ (if k < n then ((ls.getD k []).getD i 0).toNat else 0)
  | 0, _ => by simp [others, xC_nil]
  | n + 1, h => by
    rw [others, xC_take_succ ls (by omega)]
    have ih := xC_others ls k i n (by omega)
    by_cases hk : n = k
    · subst hk
      rw [if_pos rfl, ih, if_neg (by omega), if_pos (by omega), Nat.xor_zero, Nat.xor_assoc, Nat.xor_self, Nat.xor_zero]
    · rw [if_neg hk, xC_cons, ih]
      by_cases hn : k < n
      · rw [if_pos hn, if_pos (by omega), ← Nat.xor_assoc, Nat.xor_comm ((ls.getD n []).getD i 0).toNat]
      · rw [if_neg hn, if_neg (by omega), Nat.xor_zero, Nat.xor_zero, Nat.xor_comm]

theorem others_mem {ls : List (List Int)} {k : Nat} : ∀ {n}, n ≤ ls.length → ∀ b ∈ others ls k n, b ∈ ls
  | 0, _, b, hb => by simp [others] at hb
  | n + 1, h, b, hb => by
    rw [others] at hb
    split at hb
    · exact others_mem (by omega) b hb
    · rcases List.mem_cons.1 hb with rfl | hb
      · simp [List.getD_eq_getElem?_getD, show n < ls.length from by omega]
      · exact others_mem (by omega) b hb

theorem others_length (ls : List (List Int)) (k : Nat) : ∀ n, (others ls k n).length ≤ n
  | 0 => by simp [others]
  | n + 1 => by
    have := others_length ls k n
    rw [others]
    split
    · omega
    · simp; omega

/-- Any one of blocks that are noughts together is what all the others are. -/
theorem xorAll_others {ls : List (List Int)} {k : Nat} (hk : k < ls.length) (hl : (ls.getD k []).length = 4) (ho : Octets (ls.getD k [])) :
    xorAll (others (ls ++ [xorAll ls]) k (ls.length + 1)) = ls.getD k [] := by
  refine xorAll_block hl ho fun i hi => ?_
  rw [xC_others _ _ _ _ (by simp), List.take_of_length_le (by simp), xC_append, xC_one, xorAll_toNat _ hi, Nat.xor_self, Nat.zero_xor, if_pos (by omega)]
  simp [List.getD_eq_getElem?_getD, List.getElem?_append_left hk]

/-- How many of the blocks have bit j at place i. -/
def cnt (ls : List (List Int)) (i j : Nat) : Nat := (ls.filter fun b => (b.getD i 0).toNat.testBit j).length

theorem cnt_take_succ (ls : List (List Int)) {n : Nat} (h : n < ls.length) (i j : Nat) : cnt (ls.take (n + 1)) i j = cnt (ls.take n) i j + (if ((ls.getD n []).getD i 0).toNat / 2 ^ j % 2 = 1 then 1 else 0) := by
  rw [List.take_add_one, cnt, List.filter_append, List.length_append, cnt]
  simp only [h, getElem?_pos, Option.toList_some, List.filter_cons, List.filter_nil, Nat.testBit_eq_decide_div_mod_eq, List.getD_eq_getElem?_getD, Option.getD_some]
  split <;> rename_i h1 <;> simp at h1 <;> simp [h1]

theorem cnt_le (ls : List (List Int)) (i j n : Nat) : cnt (ls.take n) i j ≤ n := by
  have h := List.length_filter_le (fun b => ((b : List Int).getD i 0).toNat.testBit j) (ls.take n)
  simp [cnt] at h ⊢
  omega

theorem cnt_bit (ls : List (List Int)) (i j : Nat) : (cnt ls i j) % 2 = ((xC ls i).testBit j).toNat := by
  induction ls with
  | nil => simp [cnt, xC_nil]
  | cons a ls ih =>
    rw [xC_cons, Nat.testBit_xor]
    have h : cnt (a :: ls) i j = cnt ls i j + ((a.getD i 0).toNat.testBit j).toNat := by
      simp only [cnt, List.filter_cons]
      cases (a.getD i 0).toNat.testBit j <;> simp
    rw [h]
    cases h1 : (a.getD i 0).toNat.testBit j <;> cases h2 : (xC ls i).testBit j <;> simp [h2] at ih ⊢ <;> omega

/-- A number's lower bits, one more. -/
theorem low_succ (x j : Nat) : x % 2 ^ (j + 1) = x % 2 ^ j + 2 ^ j * (x.testBit j).toNat := by
  rw [Nat.pow_succ, Nat.mod_mul, Nat.testBit_eq_decide_div_mod_eq]
  have := Nat.mod_lt (x / 2 ^ j) (show 0 < 2 by omega)
  generalize x / 2 ^ j % 2 = y at *
  obtain rfl | rfl : y = 0 ∨ y = 1 := by omega
  all_goals simp

theorem low_cnt (ls : List (List Int)) (i j : Nat) : xC ls i % 2 ^ (j + 1) = xC ls i % 2 ^ j + 2 ^ j * (cnt ls i j % 2) := by rw [low_succ, cnt_bit]

end Go.Proofs.Ytjggiameajndgaa
