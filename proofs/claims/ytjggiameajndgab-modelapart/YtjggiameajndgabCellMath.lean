/-
  Plain mathematics of places and cells: which places there are, where a block is, what is at a place, what a cell's bytes are, and what any bytes have at a place.
-/
import Derived.Test.YtjggiameajndgabMath
namespace Go.Proofs.Ytjggiameajndgab

/-- Is there such a place? -/
def thereB (d s : Int) : Bool := decide (0 ≤ d ∧ d < 4 ∧ 0 ≤ s ∧ s < 3)

/-- The disk that holds a stripe's xor. -/
def spareOf (s : Int) : Int := 3 - s

/-- A block's disk within a stripe, by its number there. -/
def diskOf (s r : Int) : Int := if r < 3 - s then r else r + 1

/-- Is there such a block? -/
def blockB (n : Int) : Bool := decide (0 ≤ n ∧ n < 9)

/-- Where a block is: disk, stripe, error. -/
def whereD (n : Int) : Int := if 0 ≤ n ∧ n < 9 then diskOf (n / 3) (n % 3) else 0
def whereS (n : Int) : Int := if 0 ≤ n ∧ n < 9 then n / 3 else 0
def whereE (n : Int) : Int := if 0 ≤ n ∧ n < 9 then 0 else 3

/-- What block is at a place (-1: the xor), and the error. -/
def blockN (d s : Int) : Int := if 0 ≤ d ∧ d < 4 ∧ 0 ≤ s ∧ s < 3 then (if d = 3 - s then -1 else 3 * s + (if d < 3 - s then d else d - 1)) else 0
def blockE (d s : Int) : Int := if 0 ≤ d ∧ d < 4 ∧ 0 ≤ s ∧ s < 3 then 0 else 3

/-- A cell's bytes. -/
def cellOf (d s : Int) (data : List Int) : List Int := sealOf (d :: s :: data)

/-- What bytes have at a place: the data, and the error. -/
def readX (l : List Int) (d s : Int) : List Int :=
  if l.length = 8 ∧ sealedB l = true then (if l.getD 0 0 = d ∧ l.getD 1 0 = s then (l.drop 2).take 4 else []) else []
def readE (l : List Int) (d s : Int) : Int :=
  if l.length = 8 ∧ sealedB l = true then (if l.getD 0 0 = d ∧ l.getD 1 0 = s then 0 else 8) else 7

theorem read_sum {l : List Int} (d s : Int) (h : ¬ (l.length = 8 ∧ sealedB l = true)) : readX l d s = [] ∧ readE l d s = 7 := by simp [readX, readE, h]
theorem read_place {l : List Int} {d s : Int} (h : l.length = 8 ∧ sealedB l = true) (hp : ¬ (l.getD 0 0 = d ∧ l.getD 1 0 = s)) : readX l d s = [] ∧ readE l d s = 8 := by
  rw [readX, readE, if_pos h, if_pos h, if_neg hp, if_neg hp]; exact ⟨rfl, rfl⟩
theorem read_ok {l : List Int} {d s : Int} (h : l.length = 8 ∧ sealedB l = true) (hp : l.getD 0 0 = d ∧ l.getD 1 0 = s) : readX l d s = (l.drop 2).take 4 ∧ readE l d s = 0 := by
  rw [readX, readE, if_pos h, if_pos h, if_pos hp, if_pos hp]; exact ⟨rfl, rfl⟩

theorem thereB_iff {d s : Int} : thereB d s = true ↔ 0 ≤ d ∧ d < 4 ∧ 0 ≤ s ∧ s < 3 := by simp [thereB]
theorem blockE_there (d s : Int) : thereB d s = (blockE d s == 0) := by
  unfold thereB blockE
  by_cases h : 0 ≤ d ∧ d < 4 ∧ 0 ≤ s ∧ s < 3 <;> simp [h]

theorem cellOf_length (d s : Int) (l : List Int) : (cellOf d s l).length = l.length + 4 := by simp [cellOf, sealOf_length]

theorem cellOf_octets {d s : Int} {l : List Int} (hd : 0 ≤ d ∧ d ≤ 255) (hs : 0 ≤ s ∧ s ≤ 255) (h : Octets l) : Octets (cellOf d s l) := by
  refine sealOf_octets _ fun x hx => ?_
  simp at hx
  rcases hx with rfl | rfl | hx
  · exact hd
  · exact hs
  · exact h x hx

theorem octets_cons {d s : Int} {l : List Int} (hd : 0 ≤ d ∧ d ≤ 255) (hs : 0 ≤ s ∧ s ≤ 255) (h : Octets l) : Octets (d :: s :: l) := by
  intro x hx
  simp at hx
  rcases hx with rfl | rfl | hx
  · exact hd
  · exact hs
  · exact h x hx

/-- A cell is read at a place: its data where that is its own place, else none. -/
theorem read_cell {d s : Int} {l : List Int} (hl : l.length = 4) (d' s' : Int) :
    readX (cellOf d s l) d' s' = (if d = d' ∧ s = s' then l else []) ∧ readE (cellOf d s l) d' s' = (if d = d' ∧ s = s' then 0 else 8) := by
  have h : (cellOf d s l).length = 8 ∧ sealedB (cellOf d s l) = true := ⟨by rw [cellOf_length, hl], sealedB_seal _⟩
  have h0 : (cellOf d s l).getD 0 0 = d := rfl
  have h1 : (cellOf d s l).getD 1 0 = s := rfl
  rw [readX, readE, if_pos h, if_pos h, h0, h1]
  refine ⟨?_, rfl⟩
  congr 1
  simp [cellOf, sealOf, hl]

theorem cellOf_inj {d s d' s' : Int} {l l' : List Int} (hl : l.length = 4) (hl' : l'.length = 4) : (cellOf d s l == cellOf d' s' l') = (d == d' && s == s' && l == l') := by
  rw [Bool.eq_iff_iff]
  simp only [beq_iff_eq, Bool.and_eq_true]
  constructor
  · intro h
    have e := congrArg (List.take 6) h
    have key : ∀ (d s : Int) (l : List Int), l.length = 4 → (cellOf d s l).take 6 = d :: s :: l := by
      intro d s l hl; simp [cellOf, sealOf, hl]
    rw [key d s l hl, key d' s' l' hl'] at e
    simp at e
    exact ⟨⟨e.1, e.2.1⟩, e.2.2⟩
  · rintro ⟨⟨rfl, rfl⟩, rfl⟩
    rfl

/-- A cell one of whose bytes is another one is none. -/
theorem read_turned {d s : Int} {l : List Int} (hd : 0 ≤ d ∧ d ≤ 255) (hs : 0 ≤ s ∧ s ≤ 255) (ho : Octets l) {k : Nat} {c : Int} (hk : k < (cellOf d s l).length) (hc : 0 ≤ c ∧ c ≤ 255) (hne : (cellOf d s l).getD k 0 ≠ c) (d' s' : Int) :
    readX ((cellOf d s l).set k c) d' s' = [] ∧ readE ((cellOf d s l).set k c) d' s' = 7 := by
  refine read_sum _ _ fun ⟨_, h⟩ => ?_
  have := sealedB_turned (d :: s :: l) k c hk (octets_cons hd hs ho) hc hne
  rw [cellOf, this] at h
  cases h

/-- Which blocks are ahead of a place in a stripe. -/
theorem where_hit {n s d : Int} (hs0 : 0 ≤ s) (hs1 : s < 3) (hd0 : 0 ≤ d) (hd1 : d < 4) (hne : d ≠ 3 - s) (h : n = 3 * s + (if 3 - s < d then d - 1 else d)) : whereD n = d ∧ whereS n = s ∧ whereE n = 0 := by
  have hb : 0 ≤ n ∧ n < 9 := by split at h <;> omega
  have hq : n / 3 = s := by split at h <;> omega
  have hr : n % 3 = (if 3 - s < d then d - 1 else d) := by split at h <;> (rename_i h1; simp only [h1, if_true, if_false]; omega)
  rw [whereD, whereS, whereE, if_pos hb, if_pos hb, if_pos hb, hq, diskOf, hr]
  refine ⟨?_, rfl, rfl⟩
  by_cases h1 : 3 - s < d
  · simp only [h1, if_true]; split <;> omega
  · simp only [h1, if_false]; split <;> omega

theorem where_out {n : Int} (h : ¬ (0 ≤ n ∧ n < 9)) : whereD n = 0 ∧ whereS n = 0 ∧ whereE n = 3 := by
  simp only [whereD, whereS, whereE, if_neg h]; exact ⟨trivial, trivial, trivial⟩

theorem block_hit {n d s : Int} (hn : 0 ≤ n ∧ n < 9) (hd : whereD n = d) (hs : whereS n = s) : blockN d s = n ∧ blockE d s = 0 := by
  rw [whereD, if_pos hn, diskOf] at hd
  rw [whereS, if_pos hn] at hs
  have hp : 0 ≤ d ∧ d < 4 ∧ 0 ≤ s ∧ s < 3 := by split at hd <;> omega
  rw [blockN, blockE, if_pos hp, if_pos hp]
  refine ⟨?_, rfl⟩
  split at hd
  · rw [if_neg (by omega), if_pos (by omega)]; omega
  · rw [if_neg (by omega), if_neg (by omega)]; omega

theorem block_none {d s : Int} (hp : 0 ≤ d ∧ d < 4 ∧ 0 ≤ s ∧ s < 3) (h : ∀ n, 0 ≤ n → n < 9 → ¬ (whereD n = d ∧ whereS n = s)) : blockN d s = -1 ∧ blockE d s = 0 := by
  rw [blockN, blockE, if_pos hp, if_pos hp]
  refine ⟨?_, rfl⟩
  by_cases hsp : d = 3 - s
  · rw [if_pos hsp]
  · exfalso
    have := where_hit (n := 3 * s + (if 3 - s < d then d - 1 else d)) hp.2.2.1 hp.2.2.2 hp.1 hp.2.1 hsp rfl
    refine h _ ?_ ?_ ⟨this.1, this.2.1⟩ <;> (split <;> omega)

end Go.Proofs.Ytjggiameajndgab
