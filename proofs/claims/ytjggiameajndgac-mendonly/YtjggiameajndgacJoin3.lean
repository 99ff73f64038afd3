import Derived.Test.YtjggiameajndgacProg
import Derived.WalkKit
import Derived.Test.YtjggiameajndgacJoin2
/-
  Stores into rows of the call's own.
-/
namespace Go.Proofs.Ytjggiameajndgac
open Go.RowKit

section
variable {α : Type} {R : World → Value → α → Prop} {w w0 w1 : World} {u v : Value} {x : α} {xs : List α} {B : Nat} {e : TypeId}

theorem grown_set (w : World) (g k : Nat) (u : Value) : w.grownBy (w.setCell ⟨g, k, none⟩ u) (some g) := ⟨rfl, rfl, rfl, by simp, fun j _ hj => Below.heap_setCell w _ _ j (fun e => hj (by rw [e]))⟩

/-- The form of a row that has an element. -/
theorem Rowing.form (h : Rowing R B e w v xs) (hp : 0 < xs.length) : ∃ g cap, v = .slice (some ⟨g, 0, none⟩) xs.length cap ∧ B ≤ g ∧ g < w.heap.size := by
  obtain ⟨us, h1, _, _⟩ := h
  exact h1.form hp

theorem Rowing.cap {g n cap : Nat} (h : Rowing R B e w (.slice (some ⟨g, 0, none⟩) n cap) xs) : xs.length = n ∧ n ≤ cap ∧ cap ≤ 9223372036854775807 := by
  obtain ⟨ao, c, e1, h1, h2⟩ := h.done.form'
  injection e1 with _ e2 e3
  omega

/-- Its cells may be written. -/
theorem Rowing.at {g n cap : Nat} (h : Rowing R B e w (.slice (some ⟨g, 0, none⟩) n cap) xs) {k : Nat} (hk : k < xs.length) : (∃ u, w.cell? ⟨g, k, none⟩ = some u) ∧ w.frozen? ⟨g, k, none⟩ = false := by
  obtain ⟨rfl, -⟩ := h.cap
  obtain ⟨us, h1, h2, _⟩ := h
  refine ⟨⟨us[k]'(by omega), ?_⟩, h1.frozenAt k⟩
  rw [h1.cellAt k (by omega)]
  simp [show k < us.length by omega]

theorem Rowing.stored {g n cap : Nat} (h : Rowing R B e w (.slice (some ⟨g, 0, none⟩) n cap) xs) (k : Nat) (hoff : Off R (some g) w u x) : Rowing R B e (w.setCell ⟨g, k, none⟩ u) (.slice (some ⟨g, 0, none⟩) n cap) (xs.set k x) := by
  obtain ⟨rfl, -⟩ := h.cap
  obtain ⟨us, h1, h2, h3⟩ := h
  have hg := grown_set w g k u
  refine ⟨us.set k u, by rw [List.length_set]; exact (h1.stored k u).1, by simp [h2], fun i q y hq hy => ?_⟩
  by_cases hik : i = k
  · subst hik
    have hlt : i < us.length := by
      by_cases hlt : i < us.length
      · exact hlt
      · rw [List.getElem?_eq_none (by simp; omega)] at hq; cases hq
    rw [List.getElem?_set_self hlt] at hq
    rw [List.getElem?_set_self (by omega)] at hy
    cases hq
    cases hy
    exact hoff.step hg
  · rw [List.getElem?_set_ne (fun e => hik e.symm)] at hq hy
    exact (h3 i q y hq hy).step hg

end

end Go.Proofs.Ytjggiameajndgac

/-
  New blocks, and their cells.
-/
namespace Go.Proofs.Ytjggiameajndgac
open Go.RowKit

/-- Three new blocks. -/
theorem heap3 (w : World) (o1 o2 o3 : Obj) : (((w.alloc o1).alloc o2).alloc o3).heap[w.heap.size]? = some o1 ∧ (((w.alloc o1).alloc o2).alloc o3).heap[w.heap.size + 1]? = some o2 ∧ (((w.alloc o1).alloc o2).alloc o3).heap[w.heap.size + 1 + 1]? = some o3 :=
  ⟨(heap_alloc_old _ _ (by simp; omega)).trans ((heap_alloc_old _ _ (by simp)).trans (heap_alloc_new w o1)), (heap_alloc_old _ _ (by simp)).trans (heap_alloc2_new w o1 o2), by
    have := heap_alloc2_new (w.alloc o1) o2 o3
    simpa using this⟩

theorem row_at {w : World} {A : Nat} {cs : Array Value} {t : TypeId} {mk : Nat × Nat} (h : w.heap[A]? = some (.cells cs t mk)) (k : Nat) {v : Value} (hk : cs[k]? = some v) : w.cell? ⟨A, k, none⟩ = some v := by rw [cell_of_row w A k _ _ _ h]; exact hk

end Go.Proofs.Ytjggiameajndgac

/-
  Plain: blocks together, by columns of natural numbers. What the bits of a column come to, counted one by one, is the column's xor.
-/
namespace Go.Proofs.Ytjggiameajndgac

/-- Numbers together. -/
def xN : List Nat → Nat
  | [] => 0
  | a :: l => a ^^^ xN l

theorem xN_append (l m : List Nat) : xN (l ++ m) = xN l ^^^ xN m := by
  induction l with
  | nil => simp [xN]
  | cons a l ih => simp [xN, ih, Nat.xor_assoc]

theorem xN_lt {l : List Nat} (h : ∀ x ∈ l, x < 256) : xN l < 256 := by
  induction l with
  | nil => simp [xN]
  | cons a l ih =>
    have h1 := h a (by simp)
    have h2 := ih (fun x hx => h x (by simp [hx]))
    exact Nat.xor_lt_two_pow (n := 8) h1 h2

theorem xN_reverse (l : List Nat) : xN l.reverse = xN l := by
  induction l with
  | nil => rfl
  | cons a l ih => simp [xN, xN_append, ih, Nat.xor_comm]

/-- The numbers at one place of all blocks. -/
def col (ls : List (List Int)) (i : Nat) : List Nat := ls.map fun b => (b.getD i 0).toNat

theorem col_append (ls ms : List (List Int)) (i : Nat) : col (ls ++ ms) i = col ls i ++ col ms i := by simp [col]
theorem col_reverse (ls : List (List Int)) (i : Nat) : col ls.reverse i = (col ls i).reverse := by simp [col]

/-- Of one place of all blocks. -/
def xC (ls : List (List Int)) (i : Nat) : Nat := xN (col ls i)

theorem xC_append (ls ms : List (List Int)) (i : Nat) : xC (ls ++ ms) i = xC ls i ^^^ xC ms i := by simp [xC, col_append, xN_append]
theorem xC_nil (i : Nat) : xC [] i = 0 := rfl
theorem xC_cons (a : List Int) (ls : List (List Int)) (i : Nat) : xC (a :: ls) i = (a.getD i 0).toNat ^^^ xC ls i := rfl
theorem xC_one (a : List Int) (i : Nat) : xC [a] i = (a.getD i 0).toNat := by simp [xC, col, xN]
theorem xC_reverse (ls : List (List Int)) (i : Nat) : xC ls.reverse i = xC ls i := by rw [xC, col_reverse, xN_reverse, xC]

/-- Blocks: each of four bytes. -/
def Blocks (ls : List (List Int)) : Prop := ∀ b ∈ ls, b.length = 4 ∧ Octets b

theorem octet_toNat {b : List Int} (h : Octets b) (i : Nat) : (b.getD i 0).toNat < 256 := by
  by_cases hi : i < b.length
  · have := h (b.getD i 0) (by simp [List.getD_eq_getElem?_getD, hi])
    omega
  · simp [List.getD_eq_getElem?_getD, hi]

theorem xC_lt {ls : List (List Int)} (h : ∀ b ∈ ls, Octets b) (i : Nat) : xC ls i < 256 := by
  refine xN_lt fun x hx => ?_
  obtain ⟨b, hb, rfl⟩ := List.mem_map.1 hx
  exact octet_toNat (h b hb) i

/-- Blocks together. -/
def xorAll (ls : List (List Int)) : List Int := [(xC ls 0 : Int), (xC ls 1 : Int), (xC ls 2 : Int), (xC ls 3 : Int)]

theorem xorAll_length (ls : List (List Int)) : (xorAll ls).length = 4 := rfl

theorem xorAll_octets {ls : List (List Int)} (h : ∀ b ∈ ls, Octets b) : Octets (xorAll ls) := by
  have h0 := xC_lt h 0
  have h1 := xC_lt h 1
  have h2 := xC_lt h 2
  have h3 := xC_lt h 3
  intro x hx
  simp [xorAll] at hx
  rcases hx with rfl | rfl | rfl | rfl <;> omega

theorem xorAll_getD (ls : List (List Int)) {i : Nat} (hi : i < 4) : (xorAll ls).getD i 0 = (xC ls i : Int) := by
  match i, hi with
  | 0, _ => rfl
  | 1, _ => rfl
  | 2, _ => rfl
  | 3, _ => rfl

theorem xorAll_toNat (ls : List (List Int)) {i : Nat} (hi : i < 4) : ((xorAll ls).getD i 0).toNat = xC ls i := by
  rw [xorAll_getD ls hi]; rfl

theorem xorAll_congr {ls ms : List (List Int)} (h : ∀ i, i < 4 → xC ls i = xC ms i) : xorAll ls = xorAll ms := by
  unfold xorAll
  rw [h 0 (by omega), h 1 (by omega), h 2 (by omega), h 3 (by omega)]

/-- One block is what it is. -/
theorem xorAll_block {a : List Int} (hl : a.length = 4) (ho : Octets a) {ls : List (List Int)} (h : ∀ i, i < 4 → xC ls i = (a.getD i 0).toNat) : xorAll ls = a := by
  match a, hl with
  | [a0, a1, a2, a3], _ =>
    have h0 := h 0 (by omega)
    have h1 := h 1 (by omega)
    have h2 := h 2 (by omega)
    have h3 := h 3 (by omega)
    have b0 := ho a0 (by simp)
    have b1 := ho a1 (by simp)
    have b2 := ho a2 (by simp)
    have b3 := ho a3 (by simp)
    simp at h0 h1 h2 h3
    unfold xorAll
    rw [h0, h1, h2, h3]
    simp
    omega

theorem xorAll_nil : xorAll [] = [0, 0, 0, 0] := rfl

theorem xor_back (a b : Nat) : a ^^^ (b ^^^ a) = b := by rw [Nat.xor_comm b a, ← Nat.xor_assoc, Nat.xor_self, Nat.zero_xor]

/-- A block twice is not at all. -/
theorem xorAll_twice (a : List Int) (ls : List (List Int)) : xorAll (a :: ls ++ [a]) = xorAll ls := by
  refine xorAll_congr fun i _ => ?_
  rw [xC_append, xC_cons, xC_one, Nat.xor_assoc, xor_back]

theorem xorAll_swap (a b : List Int) : xorAll [a, b] = xorAll [b, a] := by
  refine xorAll_congr fun i _ => ?_
  rw [xC_cons a [b], xC_cons b [a], xC_one, xC_one, Nat.xor_comm]

theorem xorAll_again {a b : List Int} (hl : a.length = 4) (ho : Octets a) : xorAll [xorAll [a, b], b] = a := by
  refine xorAll_block hl ho fun i hi => ?_
  rw [xC_cons, xorAll_toNat _ hi, xC_one, xC_cons, xC_one, Nat.xor_assoc, Nat.xor_self, Nat.xor_zero]

/-- Blocks, and what they are together, are noughts together. -/
theorem xorAll_even (ls : List (List Int)) : xorAll (ls ++ [xorAll ls]) = [0, 0, 0, 0] := by
  rw [← xorAll_nil]
  refine xorAll_congr fun i hi => ?_
  rw [xC_append, xC_one, xorAll_toNat _ hi, Nat.xor_self, xC_nil]

/-- All but one, from the last to the first. -/
def others (ls : List (List Int)) (k : Nat) : Nat → List (List Int)
  | 0 => []
  | n + 1 => if n = k then others ls k n else ls.getD n [] :: others ls k n

theorem xC_take_succ (ls : List (List Int)) {n : Nat} (h : n < ls.length) (i : Nat) : xC (ls.take (n + 1)) i = xC (ls.take n) i ^^^ ((ls.getD n []).getD i 0).toNat := by
  rw [List.take_add_one, xC_append]
  simp [h, xC_one, List.getD_eq_getElem?_getD]

theorem xC_others (ls : List (List Int)) (k i : Nat) : ∀ n, n ≤ ls.length → xC (others ls k n) i = xC (ls.take n) i ^^^ (if k < n then ((ls.getD k []).getD i 0).toNat else 0)
  | 0, _ => by simp [others, xC_nil]
  | n + 1, h => by
    rw [others, xC_take_succ ls (by omega)]
    have ih := xC_others ls k i n (by omega)
    by_cases hk : n = k
    · subst hk
      rw [if_pos rfl, ih, if_neg (by omega), if_pos (by omega), Nat.xor_zero, Nat.xor_assoc, Nat.xor_self, Nat.xor_zero]
    · rw [if_neg hk, xC_cons, ih]
      by_cases hn : k < n
      · rw [if_pos hn, if_pos (by omega), ← Nat.xor_assoc, Nat.xor_comm ((ls.getD n []).getD i 0).toNat]
      · rw [if_neg hn, if_neg (by omega), Nat.xor_zero, Nat.xor_zero, Nat.xor_comm]

theorem others_mem {ls : List (List Int)} {k : Nat} : ∀ {n}, n ≤ ls.length → ∀ b ∈ others ls k n, b ∈ ls
  | 0, _, b, hb => by simp [others] at hb
  | n + 1, h, b, hb => by
    rw [others] at hb
    split at hb
    · exact others_mem (by omega) b hb
    · rcases List.mem_cons.1 hb with rfl | hb
      · simp [List.getD_eq_getElem?_getD, show n < ls.length from by omega]
      · exact others_mem (by omega) b hb

theorem others_length (ls : List (List Int)) (k : Nat) : ∀ n, (others ls k n).length ≤ n
  | 0 => by simp [others]
  | n + 1 => by
    have := others_length ls k n
    rw [others]
    split
    · omega
    · simp; omega

/-- Any one of blocks that are noughts together is what all the others are. -/
theorem xorAll_others {ls : List (List Int)} {k : Nat} (hk : k < ls.length) (hl : (ls.getD k []).length = 4) (ho : Octets (ls.getD k [])) :
    xorAll (others (ls ++ [xorAll ls]) k (ls.length + 1)) = ls.getD k [] := by
  refine xorAll_block hl ho fun i hi => ?_
  rw [xC_others _ _ _ _ (by simp), List.take_of_length_le (by simp), xC_append, xC_one, xorAll_toNat _ hi, Nat.xor_self, Nat.zero_xor, if_pos (by omega)]
  simp [List.getD_eq_getElem?_getD, List.getElem?_append_left hk]

/-- How many of the blocks have bit j at place i. -/
def cnt (ls : List (List Int)) (i j : Nat) : Nat := (ls.filter fun b => (b.getD i 0).toNat.testBit j).length

theorem cnt_take_succ (ls : List (List Int)) {n : Nat} (h : n < ls.length) (i j : Nat) : cnt (ls.take (n + 1)) i j = cnt (ls.take n) i j + (if ((ls.getD n []).getD i 0).toNat / 2 ^ j % 2 = 1 then 1 else 0) := by
  rw [List.take_add_one, cnt, List.filter_append, List.length_append, cnt]
  simp only [h, getElem?_pos, Option.toList_some, List.filter_cons, List.filter_nil, Nat.testBit_eq_decide_div_mod_eq, List.getD_eq_getElem?_getD, Option.getD_some]
  split <;> rename_i h1 <;> simp at h1 <;> simp [h1]

theorem cnt_le (ls : List (List Int)) (i j n : Nat) : cnt (ls.take n) i j ≤ n := by
  have h := List.length_filter_le (fun b => ((b : List Int).getD i 0).toNat.testBit j) (ls.take n)
  simp [cnt] at h ⊢
  omega

theorem cnt_bit (ls : List (List Int)) (i j : Nat) : (cnt ls i j) % 2 = ((xC ls i).testBit j).toNat := by
  induction ls with
  | nil => simp [cnt, xC_nil]
  | cons a ls ih =>
    rw [xC_cons, Nat.testBit_xor]
    have h : cnt (a :: ls) i j = cnt ls i j + ((a.getD i 0).toNat.testBit j).toNat := by
      simp only [cnt, List.filter_cons]
      cases (a.getD i 0).toNat.testBit j <;> simp
    rw [h]
    cases h1 : (a.getD i 0).toNat.testBit j <;> cases h2 : (xC ls i).testBit j <;> simp [h2] at ih ⊢ <;> omega

/-- A number's lower bits, one more. -/
theorem low_succ (x j : Nat) : x % 2 ^ (j + 1) = x % 2 ^ j + 2 ^ j * (x.testBit j).toNat := by
  rw [Nat.pow_succ, Nat.mod_mul, Nat.testBit_eq_decide_div_mod_eq]
  have := Nat.mod_lt (x / 2 ^ j) (show 0 < 2 by omega)
  generalize x / 2 ^ j % 2 = y at *
  obtain rfl | rfl : y = 0 ∨ y = 1 := by omega
  all_goals simp

theorem low_cnt (ls : List (List Int)) (i j : Nat) : xC ls i % 2 ^ (j + 1) = xC ls i % 2 ^ j + 2 ^ j * (cnt ls i j % 2) := by rw [low_succ, cnt_bit]

end Go.Proofs.Ytjggiameajndgac

/-
  Plain mathematics of places and cells: which places there are, where a block is, what is at a place, what a cell's bytes are, and what any bytes have at a place.
-/
namespace Go.Proofs.Ytjggiameajndgac

/-- Is there such a place? -/
def thereB (d s : Int) : Bool := decide (0 ≤ d ∧ d < 4 ∧ 0 ≤ s ∧ s < 3)

/-- The disk that holds a stripe's xor. -/
def spareOf (s : Int) : Int := 3 - s

/-- A block's disk within a stripe, by its number there. -/
def diskOf (s r : Int) : Int := if r < 3 - s then r else r + 1

/-- Is there such a block? -/
def blockB (n : Int) : Bool := decide (0 ≤ n ∧ n < 9)

/-- Where a block is: disk, stripe, error. -/
def whereD (n : Int) : Int := if 0 ≤ n ∧ n < 9 then diskOf (n / 3) (n % 3) else 0
def whereS (n : Int) : Int := if 0 ≤ n ∧ n < 9 then n / 3 else 0
def whereE (n : Int) : Int := if 0 ≤ n ∧ n < 9 then 0 else 3

/-- What block is at a place (-1: the xor), and the error. -/
def blockN (d s : Int) : Int := if 0 ≤ d ∧ d < 4 ∧ 0 ≤ s ∧ s < 3 then (if d = 3 - s then -1 else 3 * s + (if d < 3 - s then d else d - 1)) else 0
def blockE (d s : Int) : Int := if 0 ≤ d ∧ d < 4 ∧ 0 ≤ s ∧ s < 3 then 0 else 3

/-- A cell's bytes. -/
def cellOf (d s : Int) (data : List Int) : List Int := sealOf (d :: s :: data)

/-- What bytes have at a place: the data, and the error. -/
def readX (l : List Int) (d s : Int) : List Int :=
  if l.length = 8 ∧ sealedB l = true then (if l.getD 0 0 = d ∧ l.getD 1 0 = s then (l.drop 2).take 4 else []) else []
def readE (l : List Int) (d s : Int) : Int :=
  if l.length = 8 ∧ sealedB l = true then (if l.getD 0 0 = d ∧ l.getD 1 0 = s then 0 else 8) else 7

theorem read_sum {l : List Int} (d s : Int) (h : ¬ (l.length = 8 ∧ sealedB l = true)) : readX l d s = [] ∧ readE l d s = 7 := by simp [readX, readE, h]
theorem read_place {l : List Int} {d s : Int} (h : l.length = 8 ∧ sealedB l = true) (hp : ¬ (l.getD 0 0 = d ∧ l.getD 1 0 = s)) : readX l d s = [] ∧ readE l d s = 8 := by
  rw [readX, readE, if_pos h, if_pos h, if_neg hp, if_neg hp]; exact ⟨rfl, rfl⟩
theorem read_ok {l : List Int} {d s : Int} (h : l.length = 8 ∧ sealedB l = true) (hp : l.getD 0 0 = d ∧ l.getD 1 0 = s) : readX l d s = (l.drop 2).take 4 ∧ readE l d s = 0 := by
  rw [readX, readE, if_pos h, if_pos h, if_pos hp, if_pos hp]; exact ⟨rfl, rfl⟩

theorem thereB_iff {d s : Int} : thereB d s = true ↔ 0 ≤ d ∧ d < 4 ∧ 0 ≤ s ∧ s < 3 := by simp [thereB]
theorem blockE_there (d s : Int) : thereB d s = (blockE d s == 0) := by
  unfold thereB blockE
  by_cases h : 0 ≤ d ∧ d < 4 ∧ 0 ≤ s ∧ s < 3 <;> simp [h]

theorem cellOf_length (d s : Int) (l : List Int) : (cellOf d s l).length = l.length + 4 := by simp [cellOf, sealOf_length]

theorem cellOf_octets {d s : Int} {l : List Int} (hd : 0 ≤ d ∧ d ≤ 255) (hs : 0 ≤ s ∧ s ≤ 255) (h : Octets l) : Octets (cellOf d s l) := by
  refine sealOf_octets _ fun x hx => ?_
  simp at hx
  rcases hx with rfl | rfl | hx
  · exact hd
  · exact hs
  · exact h x hx

theorem octets_cons {d s : Int} {l : List Int} (hd : 0 ≤ d ∧ d ≤ 255) (hs : 0 ≤ s ∧ s ≤ 255) (h : Octets l) : Octets (d :: s :: l) := by
  intro x hx
  simp at hx
  rcases hx with rfl | rfl | hx
  · exact hd
  · exact hs
  · exact h x hx

/-- A cell is read at a place: its data where that is its own place, else none. -/
theorem read_cell {d s : Int} {l : List Int} (hl : l.length = 4) (d' s' : Int) :
    readX (cellOf d s l) d' s' = (if d = d' ∧ s = s' then l else []) ∧ readE (cellOf d s l) d' s' = (if d = d' ∧ s = s' then 0 else 8) := by
  have h : (cellOf d s l).length = 8 ∧ sealedB (cellOf d s l) = true := ⟨by rw [cellOf_length, hl], sealedB_seal _⟩
  have h0 : (cellOf d s l).getD 0 0 = d := rfl
  have h1 : (cellOf d s l).getD 1 0 = s := rfl
  rw [readX, readE, if_pos h, if_pos h, h0, h1]
  refine ⟨?_, rfl⟩
  congr 1
  simp [cellOf, sealOf, hl]

theorem cellOf_inj {d s d' s' : Int} {l l' : List Int} (hl : l.length = 4) (hl' : l'.length = 4) : (cellOf d s l == cellOf d' s' l') = (d == d' && s == s' && l == l') := by
  rw [Bool.eq_iff_iff]
  simp only [beq_iff_eq, Bool.and_eq_true]
  constructor
  · intro h
    have e := congrArg (List.take 6) h
    have key : ∀ (d s : Int) (l : List Int), l.length = 4 → (cellOf d s l).take 6 = d :: s :: l := by
      intro d s l hl; simp [cellOf, sealOf, hl]
    rw [key d s l hl, key d' s' l' hl'] at e
    simp at e
    exact ⟨⟨e.1, e.2.1⟩, e.2.2⟩
  · rintro ⟨⟨rfl, rfl⟩, rfl⟩
    rfl

/-- A cell one of whose bytes is another one is none. -/
theorem read_turned {d s : Int} {l : List Int} (hd : 0 ≤ d ∧ d ≤ 255) (hs : 0 ≤ s ∧ s ≤ 255) (ho : Octets l) {k : Nat} {c : Int} (hk : k < (cellOf d s l).length) (hc : 0 ≤ c ∧ c ≤ 255) (hne : (cellOf d s l).getD k 0 ≠ c) (d' s' : Int) :
    readX ((cellOf d s l).set k c) d' s' = [] ∧ readE ((cellOf d s l).set k c) d' s' = 7 := by
  refine read_sum _ _ fun ⟨_, h⟩ => ?_
  have := sealedB_turned (d :: s :: l) k c hk (octets_cons hd hs ho) hc hne
  rw [cellOf, this] at h
  cases h

/-- Which blocks are ahead of a place in a stripe. -/
theorem where_hit {n s d : Int} (hs0 : 0 ≤ s) (hs1 : s < 3) (hd0 : 0 ≤ d) (hd1 : d < 4) (hne : d ≠ 3 - s) (h : n = 3 * s + (if 3 - s < d then d - 1 else d)) : whereD n = d ∧ whereS n = s ∧ whereE n = 0 := by
  have hb : 0 ≤ n ∧ n < 9 := by split at h <;> omega
  have hq : n / 3 = s := by split at h <;> omega
  have hr : n % 3 = (if 3 - s < d then d - 1 else d) := by split at h <;> (rename_i h1; simp only [h1, if_true, if_false]; omega)
  rw [whereD, whereS, whereE, if_pos hb, if_pos hb, if_pos hb, hq, diskOf, hr]
  refine ⟨?_, rfl, rfl⟩
  by_cases h1 : 3 - s < d
  · simp only [h1, if_true]; split <;> omega
  · simp only [h1, if_false]; split <;> omega

theorem where_out {n : Int} (h : ¬ (0 ≤ n ∧ n < 9)) : whereD n = 0 ∧ whereS n = 0 ∧ whereE n = 3 := by
  simp only [whereD, whereS, whereE, if_neg h]; exact ⟨trivial, trivial, trivial⟩

theorem block_hit {n d s : Int} (hn : 0 ≤ n ∧ n < 9) (hd : whereD n = d) (hs : whereS n = s) : blockN d s = n ∧ blockE d s = 0 := by
  rw [whereD, if_pos hn, diskOf] at hd
  rw [whereS, if_pos hn] at hs
  have hp : 0 ≤ d ∧ d < 4 ∧ 0 ≤ s ∧ s < 3 := by split at hd <;> omega
  rw [blockN, blockE, if_pos hp, if_pos hp]
  refine ⟨?_, rfl⟩
  split at hd
  · rw [if_neg (by omega), if_pos (by omega)]; omega
  · rw [if_neg (by omega), if_neg (by omega)]; omega

theorem block_none {d s : Int} (hp : 0 ≤ d ∧ d < 4 ∧ 0 ≤ s ∧ s < 3) (h : ∀ n, 0 ≤ n → n < 9 → ¬ (whereD n = d ∧ whereS n = s)) : blockN d s = -1 ∧ blockE d s = 0 := by
  rw [blockN, blockE, if_pos hp, if_pos hp]
  refine ⟨?_, rfl⟩
  by_cases hsp : d = 3 - s
  · rw [if_pos hsp]
  · exfalso
    have := where_hit (n := 3 * s + (if 3 - s < d then d - 1 else d)) hp.2.2.1 hp.2.2.2 hp.1 hp.2.1 hsp rfl
    refine h _ ?_ ?_ ⟨this.1, this.2.1⟩ <;> (split <;> omega)

end Go.Proofs.Ytjggiameajndgac

/-
  Plain: which cells of a stripe are none, what they have, cells of that.
-/
namespace Go.Proofs.Ytjggiameajndgac

/-- Whether cell d of a stripe is none. -/
def isBad (ls : List (List Int)) (s : Int) (d : Nat) : Bool := readE (ls.getD d []) d s != 0

/-- The first n disks whose cell is none, rising. -/
def badTo (ls : List (List Int)) (s : Int) (n : Nat) : List Nat := (List.range n).filter (isBad ls s)
def badL (ls : List (List Int)) (s : Int) : List Nat := badTo ls s ls.length

theorem badTo_succ (ls : List (List Int)) (s : Int) (n : Nat) : badTo ls s (n + 1) = badTo ls s n ++ (if isBad ls s n then [n] else []) := by
  rw [badTo, List.range_succ, List.filter_append, badTo]
  simp only [List.filter_cons, List.filter_nil]

theorem badTo_length (ls : List (List Int)) (s : Int) (n : Nat) : (badTo ls s n).length ≤ n := by
  have := List.length_filter_le (isBad ls s) (List.range n)
  simpa [badTo] using this

/-- What the first n cells, but d, have. -/
def restTo (ls : List (List Int)) (s : Int) (d n : Nat) : List (List Int) := ((List.range n).filter (fun k => k != d)).map fun (k : Nat) => readX (ls.getD k []) k s

theorem restTo_skip (ls : List (List Int)) (s : Int) {d n : Nat} (h : n = d) : restTo ls s d (n + 1) = restTo ls s d n := by
  rw [restTo, List.range_succ, List.filter_append, restTo]
  simp [h]

theorem restTo_take (ls : List (List Int)) (s : Int) {d n : Nat} (h : n ≠ d) : restTo ls s d (n + 1) = restTo ls s d n ++ [readX (ls.getD n []) n s] := by
  rw [restTo, List.range_succ, List.filter_append, restTo]
  simp [h]

theorem restTo_length (ls : List (List Int)) (s : Int) (d n : Nat) : (restTo ls s d n).length ≤ n := by
  have := List.length_filter_le (fun k => k != d) (List.range n)
  simpa [restTo] using this

/-- What cell d has, or all others together. -/
def datAt (ls : List (List Int)) (s : Int) (d : Nat) : List Int := if isBad ls s d then xorAll (restTo ls s d ls.length) else readX (ls.getD d []) d s

/-- What the cells have, and the error. -/
def dataE (ls : List (List Int)) (s : Int) : Int := if 1 < (badL ls s).length then 9 else 0
def dataL (ls : List (List Int)) (s : Int) : List (List Int) := if 1 < (badL ls s).length then [] else (List.range ls.length).map (datAt ls s)

/-- Cells of data. -/
def makeL (ds : List (List Int)) (s : Int) : List (List Int) := (List.range ds.length).map fun (d : Nat) => cellOf d s (ds.getD d [])

theorem readX_length {l : List Int} {d s : Int} (h : readE l d s = 0) : (readX l d s).length = 4 := by
  unfold readE at h
  unfold readX
  split at h
  · rename_i h1
    rw [if_pos h1]
    split at h
    · rename_i h2
      rw [if_pos h2]
      simp
      omega
    · cases h
  · cases h

theorem readX_octets {l : List Int} {d s : Int} (h : Octets l) : Octets (readX l d s) := by
  unfold readX
  split
  · split
    · exact fun x hx => h x (List.mem_of_mem_drop (List.mem_of_mem_take hx))
    · intro x hx; simp at hx
  · intro x hx; simp at hx

/-- Where one alone is none, the others are of four bytes. -/
theorem rest_blocks {ls : List (List Int)} {s : Int} {d : Nat} (hd : d < ls.length) (hb : isBad ls s d = true) (h1 : (badL ls s).length ≤ 1) {n : Nat} (hn : n ≤ ls.length) : ∀ b ∈ restTo ls s d n, b.length = 4 := by
  intro b hb'
  simp only [restTo, List.mem_map, List.mem_filter, List.mem_range] at hb'
  obtain ⟨k, ⟨hk, hkd⟩, rfl⟩ := hb'
  refine readX_length ?_
  have hkd' : k ≠ d := by simpa using hkd
  by_cases hbk : isBad ls s k = true
  · exfalso
    have hm1 : d ∈ badL ls s := by simp [badL, badTo, hd, hb]
    have hm2 : k ∈ badL ls s := by simp [badL, badTo, hbk]; omega
    match hB : badL ls s, h1 with
    | [], _ => rw [hB] at hm1; simp at hm1
    | [y], _ =>
      rw [hB] at hm1 hm2
      simp at hm1 hm2
      omega
  · simpa [isBad] using hbk

end Go.Proofs.Ytjggiameajndgac

/-
  Plain: what is wrong with a deed, and what blocks are behind one.
-/
namespace Go.Proofs.Ytjggiameajndgac

/-- A deed. -/
structure DeedP where
  k : Int
  n : Int
  m : Int
  d : List Int

/-- What is wrong with it. -/
def wrongE (x : DeedP) : Int :=
  if x.k ≠ 1 ∧ x.k ≠ 2 then 1
  else if x.n < 0 ∨ 8 < x.n then 3
  else if x.k = 1 then (if x.m ≠ 0 then 3 else if x.d.length ≠ 4 then 4 else 0)
  else if whereE x.m ≠ 0 ∨ whereS x.n ≠ whereS x.m then 3
  else if x.d.length ≠ 0 then 4 else 0

/-- What is at place i behind it. -/
def doAt (ls : List (List Int)) (x : DeedP) (i : Nat) : List Int :=
  if x.k = 1 ∧ (i : Int) = x.n then x.d
  else if x.k = 2 ∧ (i : Int) = x.n then ls.getD x.m.toNat []
  else if x.k = 2 ∧ (i : Int) = x.m then ls.getD x.n.toNat []
  else ls.getD i []

/-- What blocks are behind it. -/
def doL (ls : List (List Int)) (x : DeedP) : List (List Int) := (List.range ls.length).map (doAt ls x)

theorem doL_length (ls : List (List Int)) (x : DeedP) : (doL ls x).length = ls.length := by simp [doL]

/-- What must be to be right. -/
theorem right_deed {x : DeedP} (h : wrongE x = 0) : (x.k = 1 ∨ x.k = 2) ∧ 0 ≤ x.n ∧ x.n ≤ 8 ∧ (x.k = 1 → x.m = 0 ∧ x.d.length = 4) ∧ (x.k = 2 → whereE x.m = 0 ∧ whereS x.n = whereS x.m ∧ x.d.length = 0) := by
  unfold wrongE at h
  split at h
  · cases h
  rename_i h1
  split at h
  · cases h
  rename_i h2
  split at h
  · rename_i h3
    split at h
    · cases h
    rename_i h4
    split at h
    · cases h
    rename_i h5
    exact ⟨.inl h3, by omega, by omega, fun _ => ⟨Decidable.not_not.1 h4, Decidable.not_not.1 h5⟩, fun h => by omega⟩
  · rename_i h3
    split at h
    · cases h
    rename_i h4
    split at h
    · cases h
    rename_i h5
    have h6 : x.k = 2 := by omega
    exact ⟨.inr h6, by omega, by omega, (fun h => absurd h h3), fun _ => ⟨Decidable.byContradiction fun h => h4 (.inl h), Decidable.byContradiction fun h => h4 (.inr h), Decidable.not_not.1 h5⟩⟩

end Go.Proofs.Ytjggiameajndgac

/-
  Plain: what an array's blocks are.
-/
namespace Go.Proofs.Ytjggiameajndgac

/-- A cell. -/
def cellAt (a : ArrP) (d s : Nat) : List Int := (a.ds.getD d []).getD s []

/-- Where block n is. -/
def dOf (n : Int) : Nat := (whereD n).toNat
def sOf (n : Int) : Nat := (whereS n).toNat

theorem where_bd {n : Int} (h : 0 ≤ n ∧ n < 9) : whereD n = (dOf n : Int) ∧ whereS n = (sOf n : Int) ∧ whereE n = 0 ∧ dOf n < 4 ∧ sOf n < 3 := by
  have h1 : 0 ≤ whereD n ∧ whereD n < 4 := by
    rw [whereD, if_pos h, diskOf]
    have h3 : 0 ≤ n / 3 ∧ n / 3 < 3 := by omega
    have h4 : 0 ≤ n % 3 ∧ n % 3 < 3 := by omega
    split <;> omega
  have h2 : 0 ≤ whereS n ∧ whereS n < 3 := by
    rw [whereS, if_pos h]
    omega
  refine ⟨?_, ?_, if_pos h, ?_, ?_⟩ <;> simp only [dOf, sOf] <;> omega

/-- What block n is, and the error. -/
def rdE (a : ArrP) (n : Int) : Int := if 0 ≤ n ∧ n < 9 then (if readE (cellAt a (dOf n) (sOf n)) (dOf n) (sOf n) = 0 then 0 else dataE (cellsL a (sOf n)) (sOf n)) else 3
def rdX (a : ArrP) (n : Int) : List Int := if 0 ≤ n ∧ n < 9 then (if readE (cellAt a (dOf n) (sOf n)) (dOf n) (sOf n) = 0 then readX (cellAt a (dOf n) (sOf n)) (dOf n) (sOf n) else (dataL (cellsL a (sOf n)) (sOf n)).getD (dOf n) []) else []

theorem dataL_nil {ls : List (List Int)} {s : Int} (h : dataE ls s ≠ 0) : dataL ls s = [] := by
  unfold dataE at h
  split at h
  · rename_i h1; exact if_pos h1
  · exact absurd rfl h

theorem dataL_length {ls : List (List Int)} {s : Int} (h : dataE ls s = 0) : (dataL ls s).length = ls.length := by
  unfold dataE at h
  split at h
  · cases h
  · rename_i h1; rw [dataL, if_neg h1]; simp

/-- The first that is not nought, of so many from i on. -/
def firstE (f : Nat → Int) (i : Nat) : Nat → Int
  | 0 => 0
  | n + 1 => if f i ≠ 0 then f i else firstE f (i + 1) n

theorem firstE_skip (f : Nat → Int) : ∀ (m i r : Nat), (∀ j, i ≤ j → j < i + m → f j = 0) → firstE f i (m + r) = firstE f (i + m) r
  | 0, i, r, _ => by simp
  | m + 1, i, r, h => by
    rw [show m + 1 + r = (m + r) + 1 by omega, firstE, if_neg (by simp [h i (Nat.le_refl _) (by omega)]), firstE_skip f m (i + 1) r (fun j h1 h2 => h j (by omega) (by omega)), show i + 1 + m = i + (m + 1) by omega]

/-- What an array's blocks are, and the error. -/
def blkE (a : ArrP) : Int := firstE (fun n => rdE a (n : Nat)) 0 9
def blkL (a : ArrP) : List (List Int) := if blkE a = 0 then (List.range 9).map (fun n => rdX a (n : Nat)) else []

theorem blkE_no {a : ArrP} {k : Nat} (hk : k < 9) (h : ∀ j, j < k → rdE a (j : Nat) = 0) (he : rdE a (k : Nat) ≠ 0) : blkE a = rdE a (k : Nat) := by
  have := firstE_skip (fun n => rdE a (n : Nat)) k 0 (9 - k) (fun j _ h2 => h j (by omega))
  rw [blkE, show 9 = k + (9 - k) by omega, this, show 9 - k = (8 - k) + 1 by omega, firstE, if_pos (by simpa using he)]
  simp

theorem blkE_ok {a : ArrP} (h : ∀ j, j < 9 → rdE a (j : Nat) = 0) : blkE a = 0 := by
  have := firstE_skip (fun n => rdE a (n : Nat)) 9 0 0 (fun j _ h2 => h j (by omega))
  rw [blkE]
  simpa [firstE] using this

theorem blk_succ (a : ArrP) (k : Nat) : (List.range k).map (fun n => rdX a (n : Nat)) ++ [rdX a (k : Nat)] = (List.range (k + 1)).map (fun n => rdX a (n : Nat)) := by simp [List.range_succ]

end Go.Proofs.Ytjggiameajndgac

/-
  What the program's table says of the types of elements.
-/
namespace Go.Proofs.Ytjggiameajndgac

theorem Try.infoS : (Try.prog.info? 52).map (fun i => (i.zero, i.size, i.bytes)) = some (some (.slice none 0 0), 1, 24) := by kernel_rfl

end Go.Proofs.Ytjggiameajndgac

/-
  What the reference's Spare, Where and Block return: they make memory, and nothing old turns.
-/
namespace Go.Proofs.Ytjggiameajndgac
open Go.RowKit

theorem ret_int3 {k k2 k3 : IntKind} {a b a2 b2 a3 b3 : Int} (h : a = b) (h2 : a2 = b2) (h3 : a3 = b3) : Ending.returned (.tuple #[.int k a, .int k2 a2, .int k3 a3]) = .returned (.tuple #[.int k b, .int k2 b2, .int k3 b3]) := by rw [h, h2, h3]

set_option maxRecDepth 20000 in
set_option maxHeartbeats 400000 in
theorem refSpare_any (s : Int) (w : World) (h0 : 0 ≤ s) (h1 : s < 3) :
    Calls Try.prog 87 #[.int .i64 s] w fun e w' => e = .returned (.int .i64 (3 - s)) ∧ Grow w w' := by
  obtain rfl | rfl | rfl : s = 0 ∨ s = 1 ∨ s = 2 := by omega
  all_goals
    go_enter Try.func87, Try.ntmps87
    go_wp2
    go_ret
    exact ⟨rfl, Grow.alloc _ _⟩

set_option maxRecDepth 20000 in
set_option maxHeartbeats 1600000 in
theorem refWhere_any (b : Int) (w : World) :
    Calls Try.prog 65 #[.int .i64 b] w fun e w' => e = .returned (.tuple #[.int .i64 (whereD b), .int .i64 (whereS b), .int .i64 (whereE b)]) ∧ Grow w w' := by
  go_enter Try.func65, Try.ntmps65
  go_wp2
  go_loopw [5, 8] (fun n i wr => ∃ k : Nat, k ≤ 3 ∧ i = .int .i64 k ∧ n = .int .i64 (3 * k) ∧ (b < 0 ∨ 3 * (k : Int) ≤ b) ∧ Grow w wr) (fun _ i _ => 3 - (intOf i).toNat)
  case atStart => exact ⟨0, by omega, rfl, rfl, by omega, Grow.refl _⟩
  case round =>
    obtain ⟨k, hk, rfl, rfl, hb, hg⟩ := hrel
    by_cases hlt : k < 3
    · obtain ⟨wo, hwo⟩ : ∃ wo : World, wo = wr := ⟨_, rfl⟩
      subst hwo
      have hd : decide ((k : Int) < 3) = true := by simp; omega
      go_wp2
      go_loopw [5, 11] (fun n j wr => ∃ (m : Nat) (c : Int), m ≤ 4 ∧ j = .int .i64 m ∧ n = .int .i64 c ∧ 0 ≤ c ∧ c ≤ 12 ∧ Hid (c = 3 * (k : Int) + (if 3 - (k : Int) < m then (m : Int) - 1 else m)) ∧ (b < 0 ∨ c ≤ b) ∧ Grow w wr) (fun _ j _ => 4 - (intOf j).toNat)
      case atStart => exact ⟨0, 3 * k, by omega, rfl, rfl, by omega, by omega, by rw [Hid, if_neg (by omega)]; omega, hb, hg⟩
      case round =>
        obtain ⟨m, c, hm, rfl, rfl, hc0, hc1, HC, hb', hg'⟩ := hrel
        by_cases hm4 : m < 4
        · go_wp2_with fail
          refine (refSpare_any _ _ (by omega) (by omega)).mono ?_
          rintro e w1 ⟨rfl, hg1⟩
          by_cases hsp : (m : Int) = 3 - k
          · go_wp2_with fail
            go_roundw
            case rel => first | exact ⟨m + 1, c, by omega, by go_num, rfl, hc0, hc1, by have := HC.out; rw [Hid]; split at this <;> (split <;> omega), hb', hg'.trans hg1⟩ | ((repeat apply Exists.intro); exact ⟨⟨m + 1, c, by omega, by go_num, rfl, hc0, hc1, by have := HC.out; rw [Hid]; split at this <;> (split <;> omega), hb', hg'.trans hg1⟩, rfl⟩)
            case measure => simp [intOf]; omega
          · by_cases hcb : c = b
            · have hw := where_hit (n := b) (s := k) (d := m) (by omega) (by omega) (by omega) (by omega) hsp (by rw [← hcb]; exact HC.out)
              obtain ⟨h1, h2, h3⟩ := hw
              go_wp2_with fail
              go_ret3
              exact ⟨ret_int3 h1.symm h2.symm h3.symm, hg'.trans hg1⟩
            · go_wp2_with fail
              go_roundw
              case rel => first | exact ⟨m + 1, c + 1, by omega, by go_num, rfl, by omega, by have := HC.out; split at this <;> omega, by have := HC.out; rw [Hid]; split at this <;> (split <;> omega), by omega, hg'.trans hg1⟩ | ((repeat apply Exists.intro); exact ⟨⟨m + 1, c + 1, by omega, by go_num, rfl, by omega, by have := HC.out; split at this <;> omega, by have := HC.out; rw [Hid]; split at this <;> (split <;> omega), by omega, hg'.trans hg1⟩, rfl⟩)
              case measure => simp [intOf]; omega
        · go_wp2_with fail
          go_roundw
          case rel => first | exact ⟨k + 1, by omega, by go_num, by have := HC.out; rw [if_pos (by omega)] at this; exact congrArg _ (by omega), by have := HC.out; rw [if_pos (by omega)] at this; omega, hg'⟩ | ((repeat apply Exists.intro); exact ⟨⟨k + 1, by omega, by go_num, by have := HC.out; rw [if_pos (by omega)] at this; exact congrArg _ (by omega), by have := HC.out; rw [if_pos (by omega)] at this; omega, hg'⟩, rfl⟩)
          case measure => simp [intOf]; omega
    · have hw := where_out (n := b) (by omega)
      obtain ⟨h1, h2, h3⟩ := hw
      go_wp2
      go_ret3
      exact ⟨ret_int3 h1.symm h2.symm h3.symm, hg⟩

theorem ret_int2 {k k2 : IntKind} {a b a2 b2 : Int} (h : a = b) (h2 : a2 = b2) : Ending.returned (.tuple #[.int k a, .int k2 a2]) = .returned (.tuple #[.int k b, .int k2 b2]) := by rw [h, h2]

end Go.Proofs.Ytjggiameajndgac

/-
  What the reference's SameBytes, NewBlocks, Wrong and Do return. Nothing old turns.
-/
namespace Go.Proofs.Ytjggiameajndgac
open Go.RowKit

theorem same_no {a b : List (List Int)} {k : Nat} (h : a.getD k [] ≠ b.getD k []) : (a == b) = false := by
  rw [beq_eq_false_iff_ne]
  intro h0
  exact h (by rw [h0])

theorem same_yes {a b : List (List Int)} (hl : a.length = b.length) (h : ∀ k, k < a.length → a.getD k [] = b.getD k []) : (a == b) = true := by
  rw [beq_iff_eq]
  refine List.ext_getElem hl fun i h1 h2 => ?_
  have := h i h1
  simpa [List.getD_eq_getElem?_getD, h1, h2] using this

theorem same_len {a b : List (List Int)} (h : a.length ≠ b.length) : (a == b) = false := by
  rw [beq_eq_false_iff_ne]
  intro h0
  exact h (by rw [h0])

theorem getD_mem {a : List (List Int)} {k : Nat} (h : k < a.length) : a.getD k [] ∈ a := by simp [List.getD_eq_getElem?_getD, h]

set_option maxRecDepth 20000 in
set_option maxHeartbeats 800000 in
theorem refSame_any (va vb : Value) (a b : List (List Int)) (w : World) (ha : Bss w va a) (hb : Bss w vb b) :
    Calls Try.prog 25 #[va, vb] w fun e w' => e = .returned (.bool (a == b)) ∧ Grow w w' := by
  have hoa := ha.octets
  have hob := hb.octets
  obtain ⟨aa, ca, rfl, h1, h2, h3, h4⟩ := ha
  obtain ⟨ab, cb, rfl, g1, g2, g3, g4⟩ := hb
  unfold maxLen at h2 g2
  by_cases hl : a.length = b.length
  · have HL : Hid (a.length = b.length) := hl
    rw [← hl] at g1 ⊢
    clear hl
    go_enter Try.func25, Try.ntmps25
    go_wp2
    go_loopw [13] (fun i wr => ∃ k : Nat, k ≤ a.length ∧ i = .int .i64 k ∧ Hid (∀ j, j < k → a.getD j [] = b.getD j []) ∧ Grow w wr) (fun i _ => a.length - (intOf i).toNat)
    case atStart => exact ⟨0, by omega, rfl, (fun j hj => by omega), Grow.refl _⟩
    case round =>
      obtain ⟨k, hk, rfl, HK, hgr⟩ := hrel
      by_cases hlt : k < a.length
      · obtain ⟨ba, offa, rfl, hca⟩ := h4 (by omega)
        obtain ⟨bb, offb, rfl, hcb⟩ := g4 (by have := HL.out; omega)
        obtain ⟨xa, cxa, hxa, hba⟩ := Sl.bytesAt hca hlt
        obtain ⟨xb, cxb, hxb, hbb⟩ := Sl.bytesAt hcb (k := k) (by have := HL.out; omega)
        have hxa' := (hgr.cell (p := ⟨ba, offa + k, none⟩) (cell_lt hxa)).trans hxa
        have hxb' := (hgr.cell (p := ⟨bb, offb + k, none⟩) (cell_lt hxb)).trans hxb
        have hba' := hba.grow hgr
        have hbb' := hbb.grow hgr
        have hya := hoa _ (getD_mem hlt)
        have hyb := hob _ (getD_mem (a := b) (k := k) (by have := HL.out; omega))
        have HB : Hid (((strOfNums (a.getD k [])).toList == (strOfNums (b.getD k [])).toList) = (a.getD k [] == b.getD k [])) := str_beq hya hyb
        clear hca hcb h4 g4 hxa hxb hba hbb hya hyb
        by_cases he : a.getD k [] = b.getD k []
        · have HK' : Hid (∀ j, j < k + 1 → a.getD j [] = b.getD j []) := fun j hj => by
            by_cases hjk : j = k
            · subst hjk; exact he
            · exact HK.out j (by omega)
          rw [← he] at hxb' hbb'
          clear he HB
          generalize a.getD k [] = ak at *
          generalize ak.length = n at *
          go_wp2_with fail
          refine wp_region_stable Grow [IsV (.slice (some ⟨ba, offa, none⟩) a.length ca), IsV (.int .i64 k), IsV (.pointer (some ⟨ba, offa + k, none⟩)), IsV (.slice xa n cxa), IsV (.string (strOfNums (ak))), IsV (.slice (some ⟨bb, offb, none⟩) a.length cb), IsV (.int .i64 k), IsV (.pointer (some ⟨bb, offb + k, none⟩)), IsV (.slice xb n cxb), IsV (.string (strOfNums (ak))), IsV (.bool false)] (by kernel_rfl) (by kernel_rfl) rfl Grow.refl (fun _ _ _ => Grow.trans) ?_ ?_ ?_
          · repeat (refine List.forall_mem_cons.2 ⟨by first | exact IsV.stable _, ?_⟩)
            exact fun R hR => nomatch hR
          · skip
            refine StepsS.cons ?_ fun v0 => ⟨_, _, by simp only [Act.put, List.setIfInBounds_toArray, List.set_cons_succ, List.set_cons_zero]; first | done | rfl, by simp only [List.nil_append]; first | done | rfl, ?_⟩
            · intro w1 hE hd
              clear hd
              go_wp2
              exact ⟨_, rfl, Grow.refl _, rfl⟩
            refine StepsS.cons ?_ fun v1 => ⟨_, _, by simp only [Act.put, List.setIfInBounds_toArray, List.set_cons_succ, List.set_cons_zero]; first | done | rfl, by simp only [List.nil_append, List.cons_append]; first | done | rfl, ?_⟩
            · intro w1 hE hd
              clear hd
              go_wp2
              exact ⟨_, rfl, Grow.refl _, rfl⟩
            refine StepsS.cons ?_ fun v2 => ⟨_, _, by simp only [Act.put, List.setIfInBounds_toArray, List.set_cons_succ, List.set_cons_zero]; first | done | rfl, by simp only [List.nil_append, List.cons_append]; first | done | rfl, ?_⟩
            · intro w1 hE hd
              obtain rfl := IsV.eq (dep_at hd 0 rfl rfl rfl)
              obtain rfl := IsV.eq (dep_at hd 1 rfl rfl rfl)
              clear hd
              go_wp2
              exact ⟨_, rfl, Grow.refl _, rfl⟩
            refine StepsS.cons ?_ fun v3 => ⟨_, _, by simp only [Act.put, List.setIfInBounds_toArray, List.set_cons_succ, List.set_cons_zero]; first | done | rfl, by simp only [List.nil_append, List.cons_append]; first | done | rfl, ?_⟩
            · intro w1 hE hd
              obtain rfl := IsV.eq (dep_at hd 0 rfl rfl rfl)
              clear hd
              have hcq1 := (hE.drew.cell (p := ⟨ba, offa + k, none⟩) (cell_lt hxa')).trans hxa'
              go_wp2
              exact ⟨_, rfl, Grow.refl _, rfl⟩
            refine StepsS.cons ?_ fun v4 => ⟨_, _, by simp only [Act.put, List.setIfInBounds_toArray, List.set_cons_succ, List.set_cons_zero]; first | done | rfl, by simp only [List.nil_append, List.cons_append]; first | done | rfl, ?_⟩
            · intro w1 hE hd
              obtain rfl := IsV.eq (dep_at hd 0 rfl rfl rfl)
              clear hd
              have hcv := run_convert_bs (P := Try.prog) 52 5 9 Try.underlying52 Try.underlying5 Try.underlying9 (hba'.grow hE.drew)
              go_wp2
              exact ⟨_, rfl, Grow.refl _, rfl⟩
            refine StepsS.cons ?_ fun v5 => ⟨_, _, by simp only [Act.put, List.setIfInBounds_toArray, List.set_cons_succ, List.set_cons_zero]; first | done | rfl, by simp only [List.nil_append, List.cons_append]; first | done | rfl, ?_⟩
            · intro w1 hE hd
              clear hd
              go_wp2
              exact ⟨_, rfl, Grow.refl _, rfl⟩
            refine StepsS.cons ?_ fun v6 => ⟨_, _, by simp only [Act.put, List.setIfInBounds_toArray, List.set_cons_succ, List.set_cons_zero]; first | done | rfl, by simp only [List.nil_append, List.cons_append]; first | done | rfl, ?_⟩
            · intro w1 hE hd
              clear hd
              go_wp2
              exact ⟨_, rfl, Grow.refl _, rfl⟩
            refine StepsS.cons ?_ fun v7 => ⟨_, _, by simp only [Act.put, List.setIfInBounds_toArray, List.set_cons_succ, List.set_cons_zero]; first | done | rfl, by simp only [List.nil_append, List.cons_append]; first | done | rfl, ?_⟩
            · intro w1 hE hd
              obtain rfl := IsV.eq (dep_at hd 0 rfl rfl rfl)
              obtain rfl := IsV.eq (dep_at hd 1 rfl rfl rfl)
              clear hd
              go_wp2
              exact ⟨_, rfl, Grow.refl _, rfl⟩
            refine StepsS.cons ?_ fun v8 => ⟨_, _, by simp only [Act.put, List.setIfInBounds_toArray, List.set_cons_succ, List.set_cons_zero]; first | done | rfl, by simp only [List.nil_append, List.cons_append]; first | done | rfl, ?_⟩
            · intro w1 hE hd
              obtain rfl := IsV.eq (dep_at hd 0 rfl rfl rfl)
              clear hd
              have hcq1 := (hE.drew.cell (p := ⟨bb, offb + k, none⟩) (cell_lt hxb')).trans hxb'
              go_wp2
              exact ⟨_, rfl, Grow.refl _, rfl⟩
            refine StepsS.cons ?_ fun v9 => ⟨_, _, by simp only [Act.put, List.setIfInBounds_toArray, List.set_cons_succ, List.set_cons_zero]; first | done | rfl, by simp only [List.nil_append, List.cons_append]; first | done | rfl, ?_⟩
            · intro w1 hE hd
              obtain rfl := IsV.eq (dep_at hd 0 rfl rfl rfl)
              clear hd
              have hcv := run_convert_bs (P := Try.prog) 52 5 9 Try.underlying52 Try.underlying5 Try.underlying9 (hbb'.grow hE.drew)
              go_wp2
              exact ⟨_, rfl, Grow.refl _, rfl⟩
            refine StepsS.cons ?_ fun v10 => ⟨_, _, by simp only [Act.put, List.setIfInBounds_toArray, List.set_cons_succ, List.set_cons_zero]; first | done | rfl, by simp only [List.nil_append, List.cons_append]; first | done | rfl, ?_⟩
            · intro w1 hE hd
              obtain rfl := IsV.eq (dep_at hd 0 rfl rfl rfl)
              obtain rfl := IsV.eq (dep_at hd 1 rfl rfl rfl)
              clear hd
              go_wp2
              exact ⟨_, rfl, Grow.refl _, rfl⟩
            trivial
          intro wR hwR
          refine FinS.cons ?_; rintro _ rfl; refine ⟨_, by simp only [Act.put, List.setIfInBounds_toArray, List.set_cons_succ, List.set_cons_zero]; first | done | rfl, ?_⟩
          refine FinS.cons ?_; rintro _ rfl; refine ⟨_, by simp only [Act.put, List.setIfInBounds_toArray, List.set_cons_succ, List.set_cons_zero]; first | done | rfl, ?_⟩
          refine FinS.cons ?_; rintro _ rfl; refine ⟨_, by simp only [Act.put, List.setIfInBounds_toArray, List.set_cons_succ, List.set_cons_zero]; first | done | rfl, ?_⟩
          refine FinS.cons ?_; rintro _ rfl; refine ⟨_, by simp only [Act.put, List.setIfInBounds_toArray, List.set_cons_succ, List.set_cons_zero]; first | done | rfl, ?_⟩
          refine FinS.cons ?_; rintro _ rfl; refine ⟨_, by simp only [Act.put, List.setIfInBounds_toArray, List.set_cons_succ, List.set_cons_zero]; first | done | rfl, ?_⟩
          refine FinS.cons ?_; rintro _ rfl; refine ⟨_, by simp only [Act.put, List.setIfInBounds_toArray, List.set_cons_succ, List.set_cons_zero]; first | done | rfl, ?_⟩
          refine FinS.cons ?_; rintro _ rfl; refine ⟨_, by simp only [Act.put, List.setIfInBounds_toArray, List.set_cons_succ, List.set_cons_zero]; first | done | rfl, ?_⟩
          refine FinS.cons ?_; rintro _ rfl; refine ⟨_, by simp only [Act.put, List.setIfInBounds_toArray, List.set_cons_succ, List.set_cons_zero]; first | done | rfl, ?_⟩
          refine FinS.cons ?_; rintro _ rfl; refine ⟨_, by simp only [Act.put, List.setIfInBounds_toArray, List.set_cons_succ, List.set_cons_zero]; first | done | rfl, ?_⟩
          refine FinS.cons ?_; rintro _ rfl; refine ⟨_, by simp only [Act.put, List.setIfInBounds_toArray, List.set_cons_succ, List.set_cons_zero]; first | done | rfl, ?_⟩
          refine FinS.cons ?_; rintro _ rfl; refine ⟨_, by simp only [Act.put, List.setIfInBounds_toArray, List.set_cons_succ, List.set_cons_zero]; first | done | rfl, ?_⟩
          first | show Exit.then _ _ _ _ _ | show Exit.inBlock _ _ _ _ _
          go_wp2
          go_roundw
          case rel => first | exact ⟨k + 1, by omega, by go_num, HK', hgr.trans hwR.drew⟩ | ((repeat apply Exists.intro); exact ⟨⟨k + 1, by omega, by go_num, HK', hgr.trans hwR.drew⟩, rfl⟩)
          case measure => simp [intOf]; omega
        · have HE : Hid ((a == b) = false) := same_no he
          have HF : Hid ((a.getD k [] == b.getD k []) = false) := by rw [Hid, beq_eq_false_iff_ne]; exact he
          clear he
          generalize a.getD k [] = ak at *
          generalize b.getD k [] = bk at *
          generalize ak.length = n at *
          generalize bk.length = m at *
          go_wp2_with fail
          refine wp_region_stable Grow [IsV (.slice (some ⟨ba, offa, none⟩) a.length ca), IsV (.int .i64 k), IsV (.pointer (some ⟨ba, offa + k, none⟩)), IsV (.slice xa n cxa), IsV (.string (strOfNums (ak))), IsV (.slice (some ⟨bb, offb, none⟩) a.length cb), IsV (.int .i64 k), IsV (.pointer (some ⟨bb, offb + k, none⟩)), IsV (.slice xb m cxb), IsV (.string (strOfNums (bk))), IsV (.bool (true))] (by kernel_rfl) (by kernel_rfl) rfl Grow.refl (fun _ _ _ => Grow.trans) ?_ ?_ ?_
          · repeat (refine List.forall_mem_cons.2 ⟨by first | exact IsV.stable _, ?_⟩)
            exact fun R hR => nomatch hR
          · skip
            refine StepsS.cons ?_ fun v0 => ⟨_, _, by simp only [Act.put, List.setIfInBounds_toArray, List.set_cons_succ, List.set_cons_zero]; first | done | rfl, by simp only [List.nil_append]; first | done | rfl, ?_⟩
            · intro w1 hE hd
              clear hd
              go_wp2
              exact ⟨_, rfl, Grow.refl _, rfl⟩
            refine StepsS.cons ?_ fun v1 => ⟨_, _, by simp only [Act.put, List.setIfInBounds_toArray, List.set_cons_succ, List.set_cons_zero]; first | done | rfl, by simp only [List.nil_append, List.cons_append]; first | done | rfl, ?_⟩
            · intro w1 hE hd
              clear hd
              go_wp2
              exact ⟨_, rfl, Grow.refl _, rfl⟩
            refine StepsS.cons ?_ fun v2 => ⟨_, _, by simp only [Act.put, List.setIfInBounds_toArray, List.set_cons_succ, List.set_cons_zero]; first | done | rfl, by simp only [List.nil_append, List.cons_append]; first | done | rfl, ?_⟩
            · intro w1 hE hd
              obtain rfl := IsV.eq (dep_at hd 0 rfl rfl rfl)
              obtain rfl := IsV.eq (dep_at hd 1 rfl rfl rfl)
              clear hd
              go_wp2
              exact ⟨_, rfl, Grow.refl _, rfl⟩
            refine StepsS.cons ?_ fun v3 => ⟨_, _, by simp only [Act.put, List.setIfInBounds_toArray, List.set_cons_succ, List.set_cons_zero]; first | done | rfl, by simp only [List.nil_append, List.cons_append]; first | done | rfl, ?_⟩
            · intro w1 hE hd
              obtain rfl := IsV.eq (dep_at hd 0 rfl rfl rfl)
              clear hd
              have hcq1 := (hE.drew.cell (p := ⟨ba, offa + k, none⟩) (cell_lt hxa')).trans hxa'
              go_wp2
              exact ⟨_, rfl, Grow.refl _, rfl⟩
            refine StepsS.cons ?_ fun v4 => ⟨_, _, by simp only [Act.put, List.setIfInBounds_toArray, List.set_cons_succ, List.set_cons_zero]; first | done | rfl, by simp only [List.nil_append, List.cons_append]; first | done | rfl, ?_⟩
            · intro w1 hE hd
              obtain rfl := IsV.eq (dep_at hd 0 rfl rfl rfl)
              clear hd
              have hcv := run_convert_bs (P := Try.prog) 52 5 9 Try.underlying52 Try.underlying5 Try.underlying9 (hba'.grow hE.drew)
              go_wp2
              exact ⟨_, rfl, Grow.refl _, rfl⟩
            refine StepsS.cons ?_ fun v5 => ⟨_, _, by simp only [Act.put, List.setIfInBounds_toArray, List.set_cons_succ, List.set_cons_zero]; first | done | rfl, by simp only [List.nil_append, List.cons_append]; first | done | rfl, ?_⟩
            · intro w1 hE hd
              clear hd
              go_wp2
              exact ⟨_, rfl, Grow.refl _, rfl⟩
            refine StepsS.cons ?_ fun v6 => ⟨_, _, by simp only [Act.put, List.setIfInBounds_toArray, List.set_cons_succ, List.set_cons_zero]; first | done | rfl, by simp only [List.nil_append, List.cons_append]; first | done | rfl, ?_⟩
            · intro w1 hE hd
              clear hd
              go_wp2
              exact ⟨_, rfl, Grow.refl _, rfl⟩
            refine StepsS.cons ?_ fun v7 => ⟨_, _, by simp only [Act.put, List.setIfInBounds_toArray, List.set_cons_succ, List.set_cons_zero]; first | done | rfl, by simp only [List.nil_append, List.cons_append]; first | done | rfl, ?_⟩
            · intro w1 hE hd
              obtain rfl := IsV.eq (dep_at hd 0 rfl rfl rfl)
              obtain rfl := IsV.eq (dep_at hd 1 rfl rfl rfl)
              clear hd
              go_wp2
              exact ⟨_, rfl, Grow.refl _, rfl⟩
            refine StepsS.cons ?_ fun v8 => ⟨_, _, by simp only [Act.put, List.setIfInBounds_toArray, List.set_cons_succ, List.set_cons_zero]; first | done | rfl, by simp only [List.nil_append, List.cons_append]; first | done | rfl, ?_⟩
            · intro w1 hE hd
              obtain rfl := IsV.eq (dep_at hd 0 rfl rfl rfl)
              clear hd
              have hcq1 := (hE.drew.cell (p := ⟨bb, offb + k, none⟩) (cell_lt hxb')).trans hxb'
              go_wp2
              exact ⟨_, rfl, Grow.refl _, rfl⟩
            refine StepsS.cons ?_ fun v9 => ⟨_, _, by simp only [Act.put, List.setIfInBounds_toArray, List.set_cons_succ, List.set_cons_zero]; first | done | rfl, by simp only [List.nil_append, List.cons_append]; first | done | rfl, ?_⟩
            · intro w1 hE hd
              obtain rfl := IsV.eq (dep_at hd 0 rfl rfl rfl)
              clear hd
              have hcv := run_convert_bs (P := Try.prog) 52 5 9 Try.underlying52 Try.underlying5 Try.underlying9 (hbb'.grow hE.drew)
              go_wp2
              exact ⟨_, rfl, Grow.refl _, rfl⟩
            refine StepsS.cons ?_ fun v10 => ⟨_, _, by simp only [Act.put, List.setIfInBounds_toArray, List.set_cons_succ, List.set_cons_zero]; first | done | rfl, by simp only [List.nil_append, List.cons_append]; first | done | rfl, ?_⟩
            · intro w1 hE hd
              obtain rfl := IsV.eq (dep_at hd 0 rfl rfl rfl)
              obtain rfl := IsV.eq (dep_at hd 1 rfl rfl rfl)
              clear hd
              go_wp2
              exact ⟨_, rfl, Grow.refl _, congrArg Value.bool (by rw [HB.out, HF.out]; rfl)⟩
            trivial
          intro wR hwR
          refine FinS.cons ?_; rintro _ rfl; refine ⟨_, by simp only [Act.put, List.setIfInBounds_toArray, List.set_cons_succ, List.set_cons_zero]; first | done | rfl, ?_⟩
          refine FinS.cons ?_; rintro _ rfl; refine ⟨_, by simp only [Act.put, List.setIfInBounds_toArray, List.set_cons_succ, List.set_cons_zero]; first | done | rfl, ?_⟩
          refine FinS.cons ?_; rintro _ rfl; refine ⟨_, by simp only [Act.put, List.setIfInBounds_toArray, List.set_cons_succ, List.set_cons_zero]; first | done | rfl, ?_⟩
          refine FinS.cons ?_; rintro _ rfl; refine ⟨_, by simp only [Act.put, List.setIfInBounds_toArray, List.set_cons_succ, List.set_cons_zero]; first | done | rfl, ?_⟩
          refine FinS.cons ?_; rintro _ rfl; refine ⟨_, by simp only [Act.put, List.setIfInBounds_toArray, List.set_cons_succ, List.set_cons_zero]; first | done | rfl, ?_⟩
          refine FinS.cons ?_; rintro _ rfl; refine ⟨_, by simp only [Act.put, List.setIfInBounds_toArray, List.set_cons_succ, List.set_cons_zero]; first | done | rfl, ?_⟩
          refine FinS.cons ?_; rintro _ rfl; refine ⟨_, by simp only [Act.put, List.setIfInBounds_toArray, List.set_cons_succ, List.set_cons_zero]; first | done | rfl, ?_⟩
          refine FinS.cons ?_; rintro _ rfl; refine ⟨_, by simp only [Act.put, List.setIfInBounds_toArray, List.set_cons_succ, List.set_cons_zero]; first | done | rfl, ?_⟩
          refine FinS.cons ?_; rintro _ rfl; refine ⟨_, by simp only [Act.put, List.setIfInBounds_toArray, List.set_cons_succ, List.set_cons_zero]; first | done | rfl, ?_⟩
          refine FinS.cons ?_; rintro _ rfl; refine ⟨_, by simp only [Act.put, List.setIfInBounds_toArray, List.set_cons_succ, List.set_cons_zero]; first | done | rfl, ?_⟩
          refine FinS.cons ?_; rintro _ rfl; refine ⟨_, by simp only [Act.put, List.setIfInBounds_toArray, List.set_cons_succ, List.set_cons_zero]; first | done | rfl, ?_⟩
          first | show Exit.then _ _ _ _ _ | show Exit.inBlock _ _ _ _ _
          go_wp2
          go_ret
          exact ⟨ret_bool HE.out.symm, hgr.trans hwR.drew⟩
      · have HE : Hid ((a == b) = true) := same_yes HL.out (fun j hj => HK.out j (by omega))
        go_wp2
        go_ret
        exact ⟨ret_bool HE.out.symm, hgr⟩
  · have HE : Hid ((a == b) = false) := same_len hl
    have hl' : ¬ (a.length : Int) = (b.length : Int) := by omega
    clear hl
    go_enter Try.func25, Try.ntmps25
    go_wp2
    go_ret
    exact ⟨ret_bool HE.out.symm, Grow.refl _⟩

end Go.Proofs.Ytjggiameajndgac
