import Derived.Test.YtjggiameajndgabProg
import Derived.WalkKit
import Derived.Test.YtjggiameajndgabJoin3
/-
  Plain mathematics of places and cells: which places there are, where a block is, what is at a place, what a cell's bytes are, and what any bytes have at a place.
-/
namespace Go.Proofs.Ytjggiameajndgab

/-- Is there such a place? -/
def thereB (d s : Int) : Bool := decide (0 ≤ d ∧ d < 4 ∧ 0 ≤ s ∧ s < 3)

/-- The disk that holds a stripe's xor. -/
def spareOf (s : Int) : Int := 3 - s

/-- A block's disk within a stripe, by its number there. -/
def diskOf (s r : Int) : Int := if r < 3 - s then r else r + 1

/-- Is there such a block? -/
def blockB (n : Int) : Bool := decide (0 ≤ n ∧ n < 9)

/-- Where a block is: disk, stripe, error. -/
def whereD (n : Int) : Int := if 0 ≤ n ∧ n < 9 then diskOf (n / 3) (n % 3) else 0
def whereS (n : Int) : Int := if 0 ≤ n ∧ n < 9 then n / 3 else 0
def whereE (n : Int) : Int := if 0 ≤ n ∧ n < 9 then 0 else 3

/-- What block is at a place (-1: the xor), and the error. -/
def blockN (d s : Int) : Int := if 0 ≤ d ∧ d < 4 ∧ 0 ≤ s ∧ s < 3 then (if d = 3 - s then -1 else 3 * s + (if d < 3 - s then d else d - 1)) else 0
def blockE (d s : Int) : Int := if 0 ≤ d ∧ d < 4 ∧ 0 ≤ s ∧ s < 3 then 0 else 3

/-- A cell's bytes. -/
def cellOf (d s : Int) (data : List Int) : List Int := sealOf (d :: s :: data)

/-- What bytes have at a place: the data, and the error. -/
def readX (l : List Int) (d s : Int) : List Int :=
  if l.length = 8 ∧ sealedB l = true then (if l.getD 0 0 = d ∧ l.getD 1 0 = s then (l.drop 2).take 4 else []) else []
def readE (l : List Int) (d s : Int) : Int :=
  if l.length = 8 ∧ sealedB l = true then (if l.getD 0 0 = d ∧ l.getD 1 0 = s then 0 else 8) else 7

theorem read_sum {l : List Int} (d s : Int) (h : ¬ (l.length = 8 ∧ sealedB l = true)) : readX l d s = [] ∧ readE l d s = 7 := by simp [readX, readE, h]
theorem read_place {l : List Int} {d s : Int} (h : l.length = 8 ∧ sealedB l = true) (hp : ¬ (l.getD 0 0 = d ∧ l.getD 1 0 = s)) : readX l d s = [] ∧ readE l d s = 8 := by
  rw [readX, readE, if_pos h, if_pos h, if_neg hp, if_neg hp]; exact ⟨rfl, rfl⟩
theorem read_ok {l : List Int} {d s : Int} (h : l.length = 8 ∧ sealedB l = true) (hp : l.getD 0 0 = d ∧ l.getD 1 0 = s) : readX l d s = (l.drop 2).take 4 ∧ readE l d s = 0 := by
  rw [readX, readE, if_pos h, if_pos h, if_pos hp, if_pos hp]; exact ⟨rfl, rfl⟩

theorem thereB_iff {d s : Int} : thereB d s = true ↔ 0 ≤ d ∧ d < 4 ∧ 0 ≤ s ∧ s < 3 := by simp [thereB]
theorem blockE_there (d s : Int) : thereB d s = (blockE d s == 0) := by
  unfold thereB blockE
  by_cases h : 0 ≤ d ∧ d < 4 ∧ 0 ≤ s ∧ s < 3 <;> simp [h]

theorem cellOf_length (d s : Int) (l : List Int) : (cellOf d s l).length = l.length + 4 := by simp [cellOf, sealOf_length]

theorem cellOf_octets {d s : Int} {l : List Int} (hd : 0 ≤ d ∧ d ≤ 255) (hs : 0 ≤ s ∧ s ≤ 255) (h : Octets l) : Octets (cellOf d s l) := by
  refine sealOf_octets _ fun x hx => ?_
  simp at hx
  rcases hx with rfl | rfl | hx
  · exact hd
  · exact hs
  · exact h x hx

theorem octets_cons {d s : Int} {l : List Int} (hd : 0 ≤ d ∧ d ≤ 255) (hs : 0 ≤ s ∧ s ≤ 255) (h : Octets l) : Octets (d :: s :: l) := by
  intro x hx
  simp at hx
  rcases hx with rfl | rfl | hx
  · exact hd
  · exact hs
  · exact h x hx

/-- A cell is read at a place: its data where that is its own place, else none. -/
theorem read_cell {d s : Int} {l : List Int} (hl : l.length = 4) (d' s' : Int) :
    readX (cellOf d s l) d' s' = (if d = d' ∧ s = s' then l else []) ∧ readE (cellOf d s l) d' s' = (if d = d' ∧ s = s' then 0 else 8) := by
  have h : (cellOf d s l).length = 8 ∧ sealedB (cellOf d s l) = true := ⟨by rw [cellOf_length, hl], sealedB_seal _⟩
  have h0 : (cellOf d s l).getD 0 0 = d := rfl
  have h1 : (cellOf d s l).getD 1 0 = s := rfl
  rw [readX, readE, if_pos h, if_pos h, h0, h1]
  refine ⟨?_, rfl⟩
  congr 1
  simp [cellOf, sealOf, hl]

theorem cellOf_inj {d s d' s' : Int} {l l' : List Int} (hl : l.length = 4) (hl' : l'.length = 4) : (cellOf d s l == cellOf d' s' l') = (d == d' && s == s' && l == l') := by
  rw [Bool.eq_iff_iff]
  simp only [beq_iff_eq, Bool.and_eq_true]
  constructor
  · intro h
    have e := congrArg (List.take 6) h
    have key : ∀ (d s : Int) (l : List Int), l.length = 4 → (cellOf d s l).take 6 = d :: s :: l := by
      intro d s l hl; simp [cellOf, sealOf, hl]
    rw [key d s l hl, key d' s' l' hl'] at e
    simp at e
    exact ⟨⟨e.1, e.2.1⟩, e.2.2⟩
  · rintro ⟨⟨rfl, rfl⟩, rfl⟩
    rfl

/-- A cell one of whose bytes is another one is none. -/
theorem read_turned {d s : Int} {l : List Int} (hd : 0 ≤ d ∧ d ≤ 255) (hs : 0 ≤ s ∧ s ≤ 255) (ho : Octets l) {k : Nat} {c : Int} (hk : k < (cellOf d s l).length) (hc : 0 ≤ c ∧ c ≤ 255) (hne : (cellOf d s l).getD k 0 ≠ c) (d' s' : Int) :
    readX ((cellOf d s l).set k c) d' s' = [] ∧ readE ((cellOf d s l).set k c) d' s' = 7 := by
  refine read_sum _ _ fun ⟨_, h⟩ => ?_
  have := sealedB_turned (d :: s :: l) k c hk (octets_cons hd hs ho) hc hne
  rw [cellOf, this] at h
  cases h

/-- Which blocks are ahead of a place in a stripe. -/
theorem where_hit {n s d : Int} (hs0 : 0 ≤ s) (hs1 : s < 3) (hd0 : 0 ≤ d) (hd1 : d < 4) (hne : d ≠ 3 - s) (h : n = 3 * s + (if 3 - s < d then d - 1 else d)) : whereD n = d ∧ whereS n = s ∧ whereE n = 0 := by
  have hb : 0 ≤ n ∧ n < 9 := by split at h <;> omega
  have hq : n / 3 = s := by split at h <;> omega
  have hr : n % 3 = (if 3 - s < d then d - 1 else d) := by split at h <;> (rename_i h1; simp only [h1, if_true, if_false]; omega)
  rw [whereD, whereS, whereE, if_pos hb, if_pos hb, if_pos hb, hq, diskOf, hr]
  refine ⟨?_, rfl, rfl⟩
  by_cases h1 : 3 - s < d
  · simp only [h1, if_true]; split <;> omega
  · simp only [h1, if_false]; split <;> omega

theorem where_out {n : Int} (h : ¬ (0 ≤ n ∧ n < 9)) : whereD n = 0 ∧ whereS n = 0 ∧ whereE n = 3 := by
  simp only [whereD, whereS, whereE, if_neg h]; exact ⟨trivial, trivial, trivial⟩

theorem block_hit {n d s : Int} (hn : 0 ≤ n ∧ n < 9) (hd : whereD n = d) (hs : whereS n = s) : blockN d s = n ∧ blockE d s = 0 := by
  rw [whereD, if_pos hn, diskOf] at hd
  rw [whereS, if_pos hn] at hs
  have hp : 0 ≤ d ∧ d < 4 ∧ 0 ≤ s ∧ s < 3 := by split at hd <;> omega
  rw [blockN, blockE, if_pos hp, if_pos hp]
  refine ⟨?_, rfl⟩
  split at hd
  · rw [if_neg (by omega), if_pos (by omega)]; omega
  · rw [if_neg (by omega), if_neg (by omega)]; omega

theorem block_none {d s : Int} (hp : 0 ≤ d ∧ d < 4 ∧ 0 ≤ s ∧ s < 3) (h : ∀ n, 0 ≤ n → n < 9 → ¬ (whereD n = d ∧ whereS n = s)) : blockN d s = -1 ∧ blockE d s = 0 := by
  rw [blockN, blockE, if_pos hp, if_pos hp]
  refine ⟨?_, rfl⟩
  by_cases hsp : d = 3 - s
  · rw [if_pos hsp]
  · exfalso
    have := where_hit (n := 3 * s + (if 3 - s < d then d - 1 else d)) hp.2.2.1 hp.2.2.2 hp.1 hp.2.1 hsp rfl
    refine h _ ?_ ?_ ⟨this.1, this.2.1⟩ <;> (split <;> omega)

end Go.Proofs.Ytjggiameajndgab

/-
  Plain: which cells of a stripe are none, what they have, cells of that.
-/
namespace Go.Proofs.Ytjggiameajndgab

/-- Whether cell d of a stripe is none. -/
def isBad (ls : List (List Int)) (s : Int) (d : Nat) : Bool := readE (ls.getD d []) d s != 0

/-- The first n disks whose cell is none, rising. -/
def badTo (ls : List (List Int)) (s : Int) (n : Nat) : List Nat := (List.range n).filter (isBad ls s)
def badL (ls : List (List Int)) (s : Int) : List Nat := badTo ls s ls.length

theorem badTo_succ (ls : List (List Int)) (s : Int) (n : Nat) : badTo ls s (n + 1) = badTo ls s n ++ (if isBad ls s n then [n] else []) := by
  rw [badTo, List.range_succ, List.filter_append, badTo]
  simp only [List.filter_cons, List.filter_nil]

theorem badTo_length (ls : List (List Int)) (s : Int) (n : Nat) : (badTo ls s n).length ≤ n := by
  have := List.length_filter_le (isBad ls s) (List.range n)
  simpa [badTo] using this

/-- What the first n cells, but d, have. -/
def restTo (ls : List (List Int)) (s : Int) (d n : Nat) : List (List Int) := ((List.range n).filter (fun k => k != d)).map fun (k : Nat) => readX (ls.getD k []) k s

theorem restTo_skip (ls : List (List Int)) (s : Int) {d n : Nat} (h : n = d) : restTo ls s d (n + 1) = restTo ls s d n := by
  rw [restTo, List.range_succ, List.filter_append, restTo]
  simp [h]

theorem restTo_take (ls : List (List Int)) (s : Int) {d n : Nat} (h : n ≠ d) : restTo ls s d (n + 1) = restTo ls s d n ++ [readX (ls.getD n []) n s] := by
  rw [restTo, List.range_succ, List.filter_append, restTo]
  simp [h]

theorem restTo_length (ls : List (List Int)) (s : Int) (d n : Nat) : (restTo ls s d n).length ≤ n := by
  have := List.length_filter_le (fun k => k != d) (List.range n)
  simpa [restTo] using this

/-- What cell d has, or all others together. -/
def datAt (ls : List (List Int)) (s : Int) (d : Nat) : List Int := if isBad ls s d then xorAll (restTo ls s d ls.length) else readX (ls.getD d []) d s

/-- What the cells have, and the error. -/
def dataE (ls : List (List Int)) (s : Int) : Int := if 1 < (badL ls s).length then 9 else 0
def dataL (ls : List (List Int)) (s : Int) : List (List Int) := if 1 < (badL ls s).length then [] else (List.range ls.length).map (datAt ls s)

/-- Cells of data. -/
def makeL (ds : List (List Int)) (s : Int) : List (List Int) := (List.range ds.length).map fun (d : Nat) => cellOf d s (ds.getD d [])

theorem readX_length {l : List Int} {d s : Int} (h : readE l d s = 0) : (readX l d s).length = 4 := by
  unfold readE at h
  unfold readX
  split at h
  · rename_i h1
    rw [if_pos h1]
    split at h
    · rename_i h2
      rw [if_pos h2]
      simp
      omega
    · cases h
  · cases h

theorem readX_octets {l : List Int} {d s : Int} (h : Octets l) : Octets (readX l d s) := by
  unfold readX
  split
  · split
    · exact fun x hx => h x (List.mem_of_mem_drop (List.mem_of_mem_take hx))
    · intro x hx; simp at hx
  · intro x hx; simp at hx

/-- Where one alone is none, the others are of four bytes. -/
theorem rest_blocks {ls : List (List Int)} {s : Int} {d : Nat} (hd : d < ls.length) (hb : isBad ls s d = true) (h1 : (badL ls s).length ≤ 1) {n : Nat} (hn : n ≤ ls.length) : ∀ b ∈ restTo ls s d n, b.length = 4 := by
  intro b hb'
  simp only [restTo, List.mem_map, List.mem_filter, List.mem_range] at hb'
  obtain ⟨k, ⟨hk, hkd⟩, rfl⟩ := hb'
  refine readX_length ?_
  have hkd' : k ≠ d := by simpa using hkd
  by_cases hbk : isBad ls s k = true
  · exfalso
    have hm1 : d ∈ badL ls s := by simp [badL, badTo, hd, hb]
    have hm2 : k ∈ badL ls s := by simp [badL, badTo, hbk]; omega
    match hB : badL ls s, h1 with
    | [], _ => rw [hB] at hm1; simp at hm1
    | [y], _ =>
      rw [hB] at hm1 hm2
      simp at hm1 hm2
      omega
  · simpa [isBad] using hbk

end Go.Proofs.Ytjggiameajndgab

/-
  Plain: what is wrong with a deed, and what blocks are behind one.
-/
namespace Go.Proofs.Ytjggiameajndgab

/-- A deed. -/
structure DeedP where
  k : Int
  n : Int
  m : Int
  d : List Int

/-- What is wrong with it. -/
def wrongE (x : DeedP) : Int :=
  if x.k ≠ 1 ∧ x.k ≠ 2 then 1
  else if x.n < 0 ∨ 8 < x.n then 3
  else if x.k = 1 then (if x.m ≠ 0 then 3 else if x.d.length ≠ 4 then 4 else 0)
  else if whereE x.m ≠ 0 ∨ whereS x.n ≠ whereS x.m then 3
  else if x.d.length ≠ 0 then 4 else 0

/-- What is at place i behind it. -/
def doAt (ls : List (List Int)) (x : DeedP) (i : Nat) : List Int :=
  if x.k = 1 ∧ (i : Int) = x.n then x.d
  else if x.k = 2 ∧ (i : Int) = x.n then ls.getD x.m.toNat []
  else if x.k = 2 ∧ (i : Int) = x.m then ls.getD x.n.toNat []
  else ls.getD i []

/-- What blocks are behind it. -/
def doL (ls : List (List Int)) (x : DeedP) : List (List Int) := (List.range ls.length).map (doAt ls x)

theorem doL_length (ls : List (List Int)) (x : DeedP) : (doL ls x).length = ls.length := by simp [doL]

/-- What must be to be right. -/
theorem right_deed {x : DeedP} (h : wrongE x = 0) : (x.k = 1 ∨ x.k = 2) ∧ 0 ≤ x.n ∧ x.n ≤ 8 ∧ (x.k = 1 → x.m = 0 ∧ x.d.length = 4) ∧ (x.k = 2 → whereE x.m = 0 ∧ whereS x.n = whereS x.m ∧ x.d.length = 0) := by
  unfold wrongE at h
  split at h
  · cases h
  rename_i h1
  split at h
  · cases h
  rename_i h2
  split at h
  · rename_i h3
    split at h
    · cases h
    rename_i h4
    split at h
    · cases h
    rename_i h5
    exact ⟨.inl h3, by omega, by omega, fun _ => ⟨Decidable.not_not.1 h4, Decidable.not_not.1 h5⟩, fun h => by omega⟩
  · rename_i h3
    split at h
    · cases h
    rename_i h4
    split at h
    · cases h
    rename_i h5
    have h6 : x.k = 2 := by omega
    exact ⟨.inr h6, by omega, by omega, (fun h => absurd h h3), fun _ => ⟨Decidable.byContradiction fun h => h4 (.inl h), Decidable.byContradiction fun h => h4 (.inr h), Decidable.not_not.1 h5⟩⟩

end Go.Proofs.Ytjggiameajndgab

/-
  Plain: what an array's blocks are.
-/
namespace Go.Proofs.Ytjggiameajndgab

/-- A cell. -/
def cellAt (a : ArrP) (d s : Nat) : List Int := (a.ds.getD d []).getD s []

/-- Where block n is. -/
def dOf (n : Int) : Nat := (whereD n).toNat
def sOf (n : Int) : Nat := (whereS n).toNat

theorem where_bd {n : Int} (h : 0 ≤ n ∧ n < 9) : whereD n = (dOf n : Int) ∧ whereS n = (sOf n : Int) ∧ whereE n = 0 ∧ dOf n < 4 ∧ sOf n < 3 := by
  have h1 : 0 ≤ whereD n ∧ whereD n < 4 := by
    rw [whereD, if_pos h, diskOf]
    have h3 : 0 ≤ n / 3 ∧ n / 3 < 3 := by omega
    have h4 : 0 ≤ n % 3 ∧ n % 3 < 3 := by omega
    split <;> omega
  have h2 : 0 ≤ whereS n ∧ whereS n < 3 := by
    rw [whereS, if_pos h]
    omega
  refine ⟨?_, ?_, if_pos h, ?_, ?_⟩ <;> simp only [dOf, sOf] <;> omega

/-- What block n is, and the error. -/
def rdE (a : ArrP) (n : Int) : Int := if 0 ≤ n ∧ n < 9 then (if readE (cellAt a (dOf n) (sOf n)) (dOf n) (sOf n) = 0 then 0 else dataE (cellsL a (sOf n)) (sOf n)) else 3
def rdX (a : ArrP) (n : Int) : List Int := if 0 ≤ n ∧ n < 9 then (if readE (cellAt a (dOf n) (sOf n)) (dOf n) (sOf n) = 0 then readX (cellAt a (dOf n) (sOf n)) (dOf n) (sOf n) else (dataL (cellsL a (sOf n)) (sOf n)).getD (dOf n) []) else []

theorem dataL_nil {ls : List (List Int)} {s : Int} (h : dataE ls s ≠ 0) : dataL ls s = [] := by
  unfold dataE at h
  split at h
  · rename_i h1; exact if_pos h1
  · exact absurd rfl h

theorem dataL_length {ls : List (List Int)} {s : Int} (h : dataE ls s = 0) : (dataL ls s).length = ls.length := by
  unfold dataE at h
  split at h
  · cases h
  · rename_i h1; rw [dataL, if_neg h1]; simp

/-- The first that is not nought, of so many from i on. -/
def firstE (f : Nat → Int) (i : Nat) : Nat → Int
  | 0 => 0
  | n + 1 => if f i ≠ 0 then f i else firstE f (i + 1) n

theorem firstE_skip (f : Nat → Int) : ∀ (m i r : Nat), (∀ j, i ≤ j → j < i + m → f j = 0) → firstE f i (m + r) = firstE f (i + m) r
  | 0, i, r, _ => by simp
  | m + 1, i, r, h => by
    rw [show m + 1 + r = (m + r) + 1 by omega, firstE, if_neg (by simp [h i (Nat.le_refl _) (by omega)]), firstE_skip f m (i + 1) r (fun j h1 h2 => h j (by omega) (by omega)), show i + 1 + m = i + (m + 1) by omega]

/-- What an array's blocks are, and the error. -/
def blkE (a : ArrP) : Int := firstE (fun n => rdE a (n : Nat)) 0 9
def blkL (a : ArrP) : List (List Int) := if blkE a = 0 then (List.range 9).map (fun n => rdX a (n : Nat)) else []

theorem blkE_no {a : ArrP} {k : Nat} (hk : k < 9) (h : ∀ j, j < k → rdE a (j : Nat) = 0) (he : rdE a (k : Nat) ≠ 0) : blkE a = rdE a (k : Nat) := by
  have := firstE_skip (fun n => rdE a (n : Nat)) k 0 (9 - k) (fun j _ h2 => h j (by omega))
  rw [blkE, show 9 = k + (9 - k) by omega, this, show 9 - k = (8 - k) + 1 by omega, firstE, if_pos (by simpa using he)]
  simp

theorem blkE_ok {a : ArrP} (h : ∀ j, j < 9 → rdE a (j : Nat) = 0) : blkE a = 0 := by
  have := firstE_skip (fun n => rdE a (n : Nat)) 9 0 0 (fun j _ h2 => h j (by omega))
  rw [blkE]
  simpa [firstE] using this

theorem blk_succ (a : ArrP) (k : Nat) : (List.range k).map (fun n => rdX a (n : Nat)) ++ [rdX a (k : Nat)] = (List.range (k + 1)).map (fun n => rdX a (n : Nat)) := by simp [List.range_succ]

end Go.Proofs.Ytjggiameajndgab

/-
  What the program's table says of the types of elements.
-/
namespace Go.Proofs.Ytjggiameajndgab

theorem Try.infoS : (Try.prog.info? 23).map (fun i => (i.zero, i.size, i.bytes)) = some (some (.slice none 0 0), 1, 24) := by kernel_rfl

end Go.Proofs.Ytjggiameajndgab

/-
  What the reference's Spare, Where and Block return: they make memory, and nothing old turns.
-/
namespace Go.Proofs.Ytjggiameajndgab
open Go.RowKit

theorem ret_int3 {k k2 k3 : IntKind} {a b a2 b2 a3 b3 : Int} (h : a = b) (h2 : a2 = b2) (h3 : a3 = b3) : Ending.returned (.tuple #[.int k a, .int k2 a2, .int k3 a3]) = .returned (.tuple #[.int k b, .int k2 b2, .int k3 b3]) := by rw [h, h2, h3]

set_option maxRecDepth 20000 in
set_option maxHeartbeats 400000 in
theorem refSpare_any (s : Int) (w : World) (h0 : 0 ≤ s) (h1 : s < 3) :
    Calls Try.prog 76 #[.int .i64 s] w fun e w' => e = .returned (.int .i64 (3 - s)) ∧ Grow w w' := by
  obtain rfl | rfl | rfl : s = 0 ∨ s = 1 ∨ s = 2 := by omega
  all_goals
    go_enter Try.func76, Try.ntmps76
    go_wp2
    go_ret
    exact ⟨rfl, Grow.alloc _ _⟩

set_option maxRecDepth 20000 in
set_option maxHeartbeats 1600000 in
theorem refWhere_any (b : Int) (w : World) :
    Calls Try.prog 51 #[.int .i64 b] w fun e w' => e = .returned (.tuple #[.int .i64 (whereD b), .int .i64 (whereS b), .int .i64 (whereE b)]) ∧ Grow w w' := by
  go_enter Try.func51, Try.ntmps51
  go_wp2
  go_loopw [5, 8] (fun n i wr => ∃ k : Nat, k ≤ 3 ∧ i = .int .i64 k ∧ n = .int .i64 (3 * k) ∧ (b < 0 ∨ 3 * (k : Int) ≤ b) ∧ Grow w wr) (fun _ i _ => 3 - (intOf i).toNat)
  case atStart => exact ⟨0, by omega, rfl, rfl, by omega, Grow.refl _⟩
  case round =>
    obtain ⟨k, hk, rfl, rfl, hb, hg⟩ := hrel
    by_cases hlt : k < 3
    · obtain ⟨wo, hwo⟩ : ∃ wo : World, wo = wr := ⟨_, rfl⟩
      subst hwo
      have hd : decide ((k : Int) < 3) = true := by simp; omega
      go_wp2
      go_loopw [5, 11] (fun n j wr => ∃ (m : Nat) (c : Int), m ≤ 4 ∧ j = .int .i64 m ∧ n = .int .i64 c ∧ 0 ≤ c ∧ c ≤ 12 ∧ Hid (c = 3 * (k : Int) + (if 3 - (k : Int) < m then (m : Int) - 1 else m)) ∧ (b < 0 ∨ c ≤ b) ∧ Grow w wr) (fun _ j _ => 4 - (intOf j).toNat)
      case atStart => exact ⟨0, 3 * k, by omega, rfl, rfl, by omega, by omega, by rw [Hid, if_neg (by omega)]; omega, hb, hg⟩
      case round =>
        obtain ⟨m, c, hm, rfl, rfl, hc0, hc1, HC, hb', hg'⟩ := hrel
        by_cases hm4 : m < 4
        · go_wp2_with fail
          refine (refSpare_any _ _ (by omega) (by omega)).mono ?_
          rintro e w1 ⟨rfl, hg1⟩
          by_cases hsp : (m : Int) = 3 - k
          · go_wp2_with fail
            go_roundw
            case rel => first | exact ⟨m + 1, c, by omega, by go_num, rfl, hc0, hc1, by have := HC.out; rw [Hid]; split at this <;> (split <;> omega), hb', hg'.trans hg1⟩ | ((repeat apply Exists.intro); exact ⟨⟨m + 1, c, by omega, by go_num, rfl, hc0, hc1, by have := HC.out; rw [Hid]; split at this <;> (split <;> omega), hb', hg'.trans hg1⟩, rfl⟩)
            case measure => simp [intOf]; omega
          · by_cases hcb : c = b
            · have hw := where_hit (n := b) (s := k) (d := m) (by omega) (by omega) (by omega) (by omega) hsp (by rw [← hcb]; exact HC.out)
              obtain ⟨h1, h2, h3⟩ := hw
              go_wp2_with fail
              go_ret3
              exact ⟨ret_int3 h1.symm h2.symm h3.symm, hg'.trans hg1⟩
            · go_wp2_with fail
              go_roundw
              case rel => first | exact ⟨m + 1, c + 1, by omega, by go_num, rfl, by omega, by have := HC.out; split at this <;> omega, by have := HC.out; rw [Hid]; split at this <;> (split <;> omega), by omega, hg'.trans hg1⟩ | ((repeat apply Exists.intro); exact ⟨⟨m + 1, c + 1, by omega, by go_num, rfl, by omega, by have := HC.out; split at this <;> omega, by have := HC.out; rw [Hid]; split at this <;> (split <;> omega), by omega, hg'.trans hg1⟩, rfl⟩)
              case measure => simp [intOf]; omega
        · go_wp2_with fail
          go_roundw
          case rel => first | exact ⟨k + 1, by omega, by go_num, by have := HC.out; rw [if_pos (by omega)] at this; exact congrArg _ (by omega), by have := HC.out; rw [if_pos (by omega)] at this; omega, hg'⟩ | ((repeat apply Exists.intro); exact ⟨⟨k + 1, by omega, by go_num, by have := HC.out; rw [if_pos (by omega)] at this; exact congrArg _ (by omega), by have := HC.out; rw [if_pos (by omega)] at this; omega, hg'⟩, rfl⟩)
          case measure => simp [intOf]; omega
    · have hw := where_out (n := b) (by omega)
      obtain ⟨h1, h2, h3⟩ := hw
      go_wp2
      go_ret3
      exact ⟨ret_int3 h1.symm h2.symm h3.symm, hg⟩

theorem ret_int2 {k k2 : IntKind} {a b a2 b2 : Int} (h : a = b) (h2 : a2 = b2) : Ending.returned (.tuple #[.int k a, .int k2 a2]) = .returned (.tuple #[.int k b, .int k2 b2]) := by rw [h, h2]

end Go.Proofs.Ytjggiameajndgab

/-
  What the reference's SameBytes, NewBlocks, Wrong and Do return. Nothing old turns.
-/
namespace Go.Proofs.Ytjggiameajndgab
open Go.RowKit

theorem same_no {a b : List (List Int)} {k : Nat} (h : a.getD k [] ≠ b.getD k []) : (a == b) = false := by
  rw [beq_eq_false_iff_ne]
  intro h0
  exact h (by rw [h0])

theorem same_yes {a b : List (List Int)} (hl : a.length = b.length) (h : ∀ k, k < a.length → a.getD k [] = b.getD k []) : (a == b) = true := by
  rw [beq_iff_eq]
  refine List.ext_getElem hl fun i h1 h2 => ?_
  have := h i h1
  simpa [List.getD_eq_getElem?_getD, h1, h2] using this

theorem same_len {a b : List (List Int)} (h : a.length ≠ b.length) : (a == b) = false := by
  rw [beq_eq_false_iff_ne]
  intro h0
  exact h (by rw [h0])

theorem getD_mem {a : List (List Int)} {k : Nat} (h : k < a.length) : a.getD k [] ∈ a := by simp [List.getD_eq_getElem?_getD, h]

set_option maxRecDepth 20000 in
set_option maxHeartbeats 800000 in
theorem refSame_any (va vb : Value) (a b : List (List Int)) (w : World) (ha : Bss w va a) (hb : Bss w vb b) :
    Calls Try.prog 20 #[va, vb] w fun e w' => e = .returned (.bool (a == b)) ∧ Grow w w' := by
  have hoa := ha.octets
  have hob := hb.octets
  obtain ⟨aa, ca, rfl, h1, h2, h3, h4⟩ := ha
  obtain ⟨ab, cb, rfl, g1, g2, g3, g4⟩ := hb
  unfold maxLen at h2 g2
  by_cases hl : a.length = b.length
  · have HL : Hid (a.length = b.length) := hl
    rw [← hl] at g1 ⊢
    clear hl
    go_enter Try.func20, Try.ntmps20
    go_wp2
    go_loopw [13] (fun i wr => ∃ k : Nat, k ≤ a.length ∧ i = .int .i64 k ∧ Hid (∀ j, j < k → a.getD j [] = b.getD j []) ∧ Grow w wr) (fun i _ => a.length - (intOf i).toNat)
    case atStart => exact ⟨0, by omega, rfl, (fun j hj => by omega), Grow.refl _⟩
    case round =>
      obtain ⟨k, hk, rfl, HK, hgr⟩ := hrel
      by_cases hlt : k < a.length
      · obtain ⟨ba, offa, rfl, hca⟩ := h4 (by omega)
        obtain ⟨bb, offb, rfl, hcb⟩ := g4 (by have := HL.out; omega)
        obtain ⟨xa, cxa, hxa, hba⟩ := Sl.bytesAt hca hlt
        obtain ⟨xb, cxb, hxb, hbb⟩ := Sl.bytesAt hcb (k := k) (by have := HL.out; omega)
        have hxa' := (hgr.cell (p := ⟨ba, offa + k, none⟩) (cell_lt hxa)).trans hxa
        have hxb' := (hgr.cell (p := ⟨bb, offb + k, none⟩) (cell_lt hxb)).trans hxb
        have hba' := hba.grow hgr
        have hbb' := hbb.grow hgr
        have hya := hoa _ (getD_mem hlt)
        have hyb := hob _ (getD_mem (a := b) (k := k) (by have := HL.out; omega))
        have HB : Hid (((strOfNums (a.getD k [])).toList == (strOfNums (b.getD k [])).toList) = (a.getD k [] == b.getD k [])) := str_beq hya hyb
        clear hca hcb h4 g4 hxa hxb hba hbb hya hyb
        by_cases he : a.getD k [] = b.getD k []
        · have HK' : Hid (∀ j, j < k + 1 → a.getD j [] = b.getD j []) := fun j hj => by
            by_cases hjk : j = k
            · subst hjk; exact he
            · exact HK.out j (by omega)
          rw [← he] at hxb' hbb'
          clear he HB
          generalize a.getD k [] = ak at *
          generalize ak.length = n at *
          go_wp2_with fail
          refine wp_region_stable Grow [IsV (.slice (some ⟨ba, offa, none⟩) a.length ca), IsV (.int .i64 k), IsV (.pointer (some ⟨ba, offa + k, none⟩)), IsV (.slice xa n cxa), IsV (.string (strOfNums (ak))), IsV (.slice (some ⟨bb, offb, none⟩) a.length cb), IsV (.int .i64 k), IsV (.pointer (some ⟨bb, offb + k, none⟩)), IsV (.slice xb n cxb), IsV (.string (strOfNums (ak))), IsV (.bool false)] (by kernel_rfl) (by kernel_rfl) rfl Grow.refl (fun _ _ _ => Grow.trans) ?_ ?_ ?_
          · repeat (refine List.forall_mem_cons.2 ⟨by first | exact IsV.stable _, ?_⟩)
            exact fun R hR => nomatch hR
          · skip
            refine StepsS.cons ?_ fun v0 => ⟨_, _, by simp only [Act.put, List.setIfInBounds_toArray, List.set_cons_succ, List.set_cons_zero]; first | done | rfl, by simp only [List.nil_append]; first | done | rfl, ?_⟩
            · intro w1 hE hd
              clear hd
              go_wp2
              exact ⟨_, rfl, Grow.refl _, rfl⟩
            refine StepsS.cons ?_ fun v1 => ⟨_, _, by simp only [Act.put, List.setIfInBounds_toArray, List.set_cons_succ, List.set_cons_zero]; first | done | rfl, by simp only [List.nil_append, List.cons_append]; first | done | rfl, ?_⟩
            · intro w1 hE hd
              clear hd
              go_wp2
              exact ⟨_, rfl, Grow.refl _, rfl⟩
            refine StepsS.cons ?_ fun v2 => ⟨_, _, by simp only [Act.put, List.setIfInBounds_toArray, List.set_cons_succ, List.set_cons_zero]; first | done | rfl, by simp only [List.nil_append, List.cons_append]; first | done | rfl, ?_⟩
            · intro w1 hE hd
              obtain rfl := IsV.eq (dep_at hd 0 rfl rfl rfl)
              obtain rfl := IsV.eq (dep_at hd 1 rfl rfl rfl)
              clear hd
              go_wp2
              exact ⟨_, rfl, Grow.refl _, rfl⟩
            refine StepsS.cons ?_ fun v3 => ⟨_, _, by simp only [Act.put, List.setIfInBounds_toArray, List.set_cons_succ, List.set_cons_zero]; first | done | rfl, by simp only [List.nil_append, List.cons_append]; first | done | rfl, ?_⟩
            · intro w1 hE hd
              obtain rfl := IsV.eq (dep_at hd 0 rfl rfl rfl)
              clear hd
              have hcq1 := (hE.drew.cell (p := ⟨ba, offa + k, none⟩) (cell_lt hxa')).trans hxa'
              go_wp2
              exact ⟨_, rfl, Grow.refl _, rfl⟩
            refine StepsS.cons ?_ fun v4 => ⟨_, _, by simp only [Act.put, List.setIfInBounds_toArray, List.set_cons_succ, List.set_cons_zero]; first | done | rfl, by simp only [List.nil_append, List.cons_append]; first | done | rfl, ?_⟩
            · intro w1 hE hd
              obtain rfl := IsV.eq (dep_at hd 0 rfl rfl rfl)
              clear hd
              have hcv := run_convert_bs (P := Try.prog) 23 5 9 Try.underlying23 Try.underlying5 Try.underlying9 (hba'.grow hE.drew)
              go_wp2
              exact ⟨_, rfl, Grow.refl _, rfl⟩
            refine StepsS.cons ?_ fun v5 => ⟨_, _, by simp only [Act.put, List.setIfInBounds_toArray, List.set_cons_succ, List.set_cons_zero]; first | done | rfl, by simp only [List.nil_append, List.cons_append]; first | done | rfl, ?_⟩
            · intro w1 hE hd
              clear hd
              go_wp2
              exact ⟨_, rfl, Grow.refl _, rfl⟩
            refine StepsS.cons ?_ fun v6 => ⟨_, _, by simp only [Act.put, List.setIfInBounds_toArray, List.set_cons_succ, List.set_cons_zero]; first | done | rfl, by simp only [List.nil_append, List.cons_append]; first | done | rfl, ?_⟩
            · intro w1 hE hd
              clear hd
              go_wp2
              exact ⟨_, rfl, Grow.refl _, rfl⟩
            refine StepsS.cons ?_ fun v7 => ⟨_, _, by simp only [Act.put, List.setIfInBounds_toArray, List.set_cons_succ, List.set_cons_zero]; first | done | rfl, by simp only [List.nil_append, List.cons_append]; first | done | rfl, ?_⟩
            · intro w1 hE hd
              obtain rfl := IsV.eq (dep_at hd 0 rfl rfl rfl)
              obtain rfl := IsV.eq (dep_at hd 1 rfl rfl rfl)
              clear hd
              go_wp2
              exact ⟨_, rfl, Grow.refl _, rfl⟩
            refine StepsS.cons ?_ fun v8 => ⟨_, _, by simp only [Act.put, List.setIfInBounds_toArray, List.set_cons_succ, List.set_cons_zero]; first | done | rfl, by simp only [List.nil_append, List.cons_append]; first | done | rfl, ?_⟩
            · intro w1 hE hd
              obtain rfl := IsV.eq (dep_at hd 0 rfl rfl rfl)
              clear hd
              have hcq1 := (hE.drew.cell (p := ⟨bb, offb + k, none⟩) (cell_lt hxb')).trans hxb'
              go_wp2
              exact ⟨_, rfl, Grow.refl _, rfl⟩
            refine StepsS.cons ?_ fun v9 => ⟨_, _, by simp only [Act.put, List.setIfInBounds_toArray, List.set_cons_succ, List.set_cons_zero]; first | done | rfl, by simp only [List.nil_append, List.cons_append]; first | done | rfl, ?_⟩
            · intro w1 hE hd
              obtain rfl := IsV.eq (dep_at hd 0 rfl rfl rfl)
              clear hd
              have hcv := run_convert_bs (P := Try.prog) 23 5 9 Try.underlying23 Try.underlying5 Try.underlying9 (hbb'.grow hE.drew)
              go_wp2
              exact ⟨_, rfl, Grow.refl _, rfl⟩
            refine StepsS.cons ?_ fun v10 => ⟨_, _, by simp only [Act.put, List.setIfInBounds_toArray, List.set_cons_succ, List.set_cons_zero]; first | done | rfl, by simp only [List.nil_append, List.cons_append]; first | done | rfl, ?_⟩
            · intro w1 hE hd
              obtain rfl := IsV.eq (dep_at hd 0 rfl rfl rfl)
              obtain rfl := IsV.eq (dep_at hd 1 rfl rfl rfl)
              clear hd
              go_wp2
              exact ⟨_, rfl, Grow.refl _, rfl⟩
            trivial
          intro wR hwR
          refine FinS.cons ?_; rintro _ rfl; refine ⟨_, by simp only [Act.put, List.setIfInBounds_toArray, List.set_cons_succ, List.set_cons_zero]; first | done | rfl, ?_⟩
          refine FinS.cons ?_; rintro _ rfl; refine ⟨_, by simp only [Act.put, List.setIfInBounds_toArray, List.set_cons_succ, List.set_cons_zero]; first | done | rfl, ?_⟩
          refine FinS.cons ?_; rintro _ rfl; refine ⟨_, by simp only [Act.put, List.setIfInBounds_toArray, List.set_cons_succ, List.set_cons_zero]; first | done | rfl, ?_⟩
          refine FinS.cons ?_; rintro _ rfl; refine ⟨_, by simp only [Act.put, List.setIfInBounds_toArray, List.set_cons_succ, List.set_cons_zero]; first | done | rfl, ?_⟩
          refine FinS.cons ?_; rintro _ rfl; refine ⟨_, by simp only [Act.put, List.setIfInBounds_toArray, List.set_cons_succ, List.set_cons_zero]; first | done | rfl, ?_⟩
          refine FinS.cons ?_; rintro _ rfl; refine ⟨_, by simp only [Act.put, List.setIfInBounds_toArray, List.set_cons_succ, List.set_cons_zero]; first | done | rfl, ?_⟩
          refine FinS.cons ?_; rintro _ rfl; refine ⟨_, by simp only [Act.put, List.setIfInBounds_toArray, List.set_cons_succ, List.set_cons_zero]; first | done | rfl, ?_⟩
          refine FinS.cons ?_; rintro _ rfl; refine ⟨_, by simp only [Act.put, List.setIfInBounds_toArray, List.set_cons_succ, List.set_cons_zero]; first | done | rfl, ?_⟩
          refine FinS.cons ?_; rintro _ rfl; refine ⟨_, by simp only [Act.put, List.setIfInBounds_toArray, List.set_cons_succ, List.set_cons_zero]; first | done | rfl, ?_⟩
          refine FinS.cons ?_; rintro _ rfl; refine ⟨_, by simp only [Act.put, List.setIfInBounds_toArray, List.set_cons_succ, List.set_cons_zero]; first | done | rfl, ?_⟩
          refine FinS.cons ?_; rintro _ rfl; refine ⟨_, by simp only [Act.put, List.setIfInBounds_toArray, List.set_cons_succ, List.set_cons_zero]; first | done | rfl, ?_⟩
          first | show Exit.then _ _ _ _ _ | show Exit.inBlock _ _ _ _ _
          go_wp2
          go_roundw
          case rel => first | exact ⟨k + 1, by omega, by go_num, HK', hgr.trans hwR.drew⟩ | ((repeat apply Exists.intro); exact ⟨⟨k + 1, by omega, by go_num, HK', hgr.trans hwR.drew⟩, rfl⟩)
          case measure => simp [intOf]; omega
        · have HE : Hid ((a == b) = false) := same_no he
          have HF : Hid ((a.getD k [] == b.getD k []) = false) := by rw [Hid, beq_eq_false_iff_ne]; exact he
          clear he
          generalize a.getD k [] = ak at *
          generalize b.getD k [] = bk at *
          generalize ak.length = n at *
          generalize bk.length = m at *
          go_wp2_with fail
          refine wp_region_stable Grow [IsV (.slice (some ⟨ba, offa, none⟩) a.length ca), IsV (.int .i64 k), IsV (.pointer (some ⟨ba, offa + k, none⟩)), IsV (.slice xa n cxa), IsV (.string (strOfNums (ak))), IsV (.slice (some ⟨bb, offb, none⟩) a.length cb), IsV (.int .i64 k), IsV (.pointer (some ⟨bb, offb + k, none⟩)), IsV (.slice xb m cxb), IsV (.string (strOfNums (bk))), IsV (.bool (true))] (by kernel_rfl) (by kernel_rfl) rfl Grow.refl (fun _ _ _ => Grow.trans) ?_ ?_ ?_
          · repeat (refine List.forall_mem_cons.2 ⟨by first | exact IsV.stable _, ?_⟩)
            exact fun R hR => nomatch hR
          · skip
            refine StepsS.cons ?_ fun v0 => ⟨_, _, by simp only [Act.put, List.setIfInBounds_toArray, List.set_cons_succ, List.set_cons_zero]; first | done | rfl, by simp only [List.nil_append]; first | done | rfl, ?_⟩
            · intro w1 hE hd
              clear hd
              go_wp2
              exact ⟨_, rfl, Grow.refl _, rfl⟩
            refine StepsS.cons ?_ fun v1 => ⟨_, _, by simp only [Act.put, List.setIfInBounds_toArray, List.set_cons_succ, List.set_cons_zero]; first | done | rfl, by simp only [List.nil_append, List.cons_append]; first | done | rfl, ?_⟩
            · intro w1 hE hd
              clear hd
              go_wp2
              exact ⟨_, rfl, Grow.refl _, rfl⟩
            refine StepsS.cons ?_ fun v2 => ⟨_, _, by simp only [Act.put, List.setIfInBounds_toArray, List.set_cons_succ, List.set_cons_zero]; first | done | rfl, by simp only [List.nil_append, List.cons_append]; first | done | rfl, ?_⟩
            · intro w1 hE hd
              obtain rfl := IsV.eq (dep_at hd 0 rfl rfl rfl)
              obtain rfl := IsV.eq (dep_at hd 1 rfl rfl rfl)
              clear hd
              go_wp2
              exact ⟨_, rfl, Grow.refl _, rfl⟩
            refine StepsS.cons ?_ fun v3 => ⟨_, _, by simp only [Act.put, List.setIfInBounds_toArray, List.set_cons_succ, List.set_cons_zero]; first | done | rfl, by simp only [List.nil_append, List.cons_append]; first | done | rfl, ?_⟩
            · intro w1 hE hd
              obtain rfl := IsV.eq (dep_at hd 0 rfl rfl rfl)
              clear hd
              have hcq1 := (hE.drew.cell (p := ⟨ba, offa + k, none⟩) (cell_lt hxa')).trans hxa'
              go_wp2
              exact ⟨_, rfl, Grow.refl _, rfl⟩
            refine StepsS.cons ?_ fun v4 => ⟨_, _, by simp only [Act.put, List.setIfInBounds_toArray, List.set_cons_succ, List.set_cons_zero]; first | done | rfl, by simp only [List.nil_append, List.cons_append]; first | done | rfl, ?_⟩
            · intro w1 hE hd
              obtain rfl := IsV.eq (dep_at hd 0 rfl rfl rfl)
              clear hd
              have hcv := run_convert_bs (P := Try.prog) 23 5 9 Try.underlying23 Try.underlying5 Try.underlying9 (hba'.grow hE.drew)
              go_wp2
              exact ⟨_, rfl, Grow.refl _, rfl⟩
            refine StepsS.cons ?_ fun v5 => ⟨_, _, by simp only [Act.put, List.setIfInBounds_toArray, List.set_cons_succ, List.set_cons_zero]; first | done | rfl, by simp only [List.nil_append, List.cons_append]; first | done | rfl, ?_⟩
            · intro w1 hE hd
              clear hd
              go_wp2
              exact ⟨_, rfl, Grow.refl _, rfl⟩
            refine StepsS.cons ?_ fun v6 => ⟨_, _, by simp only [Act.put, List.setIfInBounds_toArray, List.set_cons_succ, List.set_cons_zero]; first | done | rfl, by simp only [List.nil_append, List.cons_append]; first | done | rfl, ?_⟩
            · intro w1 hE hd
              clear hd
              go_wp2
              exact ⟨_, rfl, Grow.refl _, rfl⟩
            refine StepsS.cons ?_ fun v7 => ⟨_, _, by simp only [Act.put, List.setIfInBounds_toArray, List.set_cons_succ, List.set_cons_zero]; first | done | rfl, by simp only [List.nil_append, List.cons_append]; first | done | rfl, ?_⟩
            · intro w1 hE hd
              obtain rfl := IsV.eq (dep_at hd 0 rfl rfl rfl)
              obtain rfl := IsV.eq (dep_at hd 1 rfl rfl rfl)
              clear hd
              go_wp2
              exact ⟨_, rfl, Grow.refl _, rfl⟩
            refine StepsS.cons ?_ fun v8 => ⟨_, _, by simp only [Act.put, List.setIfInBounds_toArray, List.set_cons_succ, List.set_cons_zero]; first | done | rfl, by simp only [List.nil_append, List.cons_append]; first | done | rfl, ?_⟩
            · intro w1 hE hd
              obtain rfl := IsV.eq (dep_at hd 0 rfl rfl rfl)
              clear hd
              have hcq1 := (hE.drew.cell (p := ⟨bb, offb + k, none⟩) (cell_lt hxb')).trans hxb'
              go_wp2
              exact ⟨_, rfl, Grow.refl _, rfl⟩
            refine StepsS.cons ?_ fun v9 => ⟨_, _, by simp only [Act.put, List.setIfInBounds_toArray, List.set_cons_succ, List.set_cons_zero]; first | done | rfl, by simp only [List.nil_append, List.cons_append]; first | done | rfl, ?_⟩
            · intro w1 hE hd
              obtain rfl := IsV.eq (dep_at hd 0 rfl rfl rfl)
              clear hd
              have hcv := run_convert_bs (P := Try.prog) 23 5 9 Try.underlying23 Try.underlying5 Try.underlying9 (hbb'.grow hE.drew)
              go_wp2
              exact ⟨_, rfl, Grow.refl _, rfl⟩
            refine StepsS.cons ?_ fun v10 => ⟨_, _, by simp only [Act.put, List.setIfInBounds_toArray, List.set_cons_succ, List.set_cons_zero]; first | done | rfl, by simp only [List.nil_append, List.cons_append]; first | done | rfl, ?_⟩
            · intro w1 hE hd
              obtain rfl := IsV.eq (dep_at hd 0 rfl rfl rfl)
              obtain rfl := IsV.eq (dep_at hd 1 rfl rfl rfl)
              clear hd
              go_wp2
              exact ⟨_, rfl, Grow.refl _, congrArg Value.bool (by rw [HB.out, HF.out]; rfl)⟩
            trivial
          intro wR hwR
          refine FinS.cons ?_; rintro _ rfl; refine ⟨_, by simp only [Act.put, List.setIfInBounds_toArray, List.set_cons_succ, List.set_cons_zero]; first | done | rfl, ?_⟩
          refine FinS.cons ?_; rintro _ rfl; refine ⟨_, by simp only [Act.put, List.setIfInBounds_toArray, List.set_cons_succ, List.set_cons_zero]; first | done | rfl, ?_⟩
          refine FinS.cons ?_; rintro _ rfl; refine ⟨_, by simp only [Act.put, List.setIfInBounds_toArray, List.set_cons_succ, List.set_cons_zero]; first | done | rfl, ?_⟩
          refine FinS.cons ?_; rintro _ rfl; refine ⟨_, by simp only [Act.put, List.setIfInBounds_toArray, List.set_cons_succ, List.set_cons_zero]; first | done | rfl, ?_⟩
          refine FinS.cons ?_; rintro _ rfl; refine ⟨_, by simp only [Act.put, List.setIfInBounds_toArray, List.set_cons_succ, List.set_cons_zero]; first | done | rfl, ?_⟩
          refine FinS.cons ?_; rintro _ rfl; refine ⟨_, by simp only [Act.put, List.setIfInBounds_toArray, List.set_cons_succ, List.set_cons_zero]; first | done | rfl, ?_⟩
          refine FinS.cons ?_; rintro _ rfl; refine ⟨_, by simp only [Act.put, List.setIfInBounds_toArray, List.set_cons_succ, List.set_cons_zero]; first | done | rfl, ?_⟩
          refine FinS.cons ?_; rintro _ rfl; refine ⟨_, by simp only [Act.put, List.setIfInBounds_toArray, List.set_cons_succ, List.set_cons_zero]; first | done | rfl, ?_⟩
          refine FinS.cons ?_; rintro _ rfl; refine ⟨_, by simp only [Act.put, List.setIfInBounds_toArray, List.set_cons_succ, List.set_cons_zero]; first | done | rfl, ?_⟩
          refine FinS.cons ?_; rintro _ rfl; refine ⟨_, by simp only [Act.put, List.setIfInBounds_toArray, List.set_cons_succ, List.set_cons_zero]; first | done | rfl, ?_⟩
          refine FinS.cons ?_; rintro _ rfl; refine ⟨_, by simp only [Act.put, List.setIfInBounds_toArray, List.set_cons_succ, List.set_cons_zero]; first | done | rfl, ?_⟩
          first | show Exit.then _ _ _ _ _ | show Exit.inBlock _ _ _ _ _
          go_wp2
          go_ret
          exact ⟨ret_bool HE.out.symm, hgr.trans hwR.drew⟩
      · have HE : Hid ((a == b) = true) := same_yes HL.out (fun j hj => HK.out j (by omega))
        go_wp2
        go_ret
        exact ⟨ret_bool HE.out.symm, hgr⟩
  · have HE : Hid ((a == b) = false) := same_len hl
    have hl' : ¬ (a.length : Int) = (b.length : Int) := by omega
    clear hl
    go_enter Try.func20, Try.ntmps20
    go_wp2
    go_ret
    exact ⟨ret_bool HE.out.symm, Grow.refl _⟩

end Go.Proofs.Ytjggiameajndgab

/-
  What the reference's NewBlocks, RightBlocks, Wrong and Do return. Nothing old turns.
-/
namespace Go.Proofs.Ytjggiameajndgab
open Go.RowKit

/-- A block of noughts. -/
def nought : List Int := [0, 0, 0, 0]
theorem nought_oct : Octets nought := by intro x hx; simp [nought] at hx; omega

theorem replicate_push (k : Nat) (x : List Int) : List.replicate k x ++ [x] = List.replicate (k + 1) x := (List.replicate_succ').symm

set_option maxRecDepth 20000 in
set_option maxHeartbeats 800000 in
theorem refNew_any (w : World) :
    Calls Try.prog 75 #[] w fun e w' => ∃ r, e = .returned r ∧ Rowing Bs w.heap.size 23 w' r (List.replicate 9 nought) ∧ Grow w w' := by
  obtain ⟨i0, hi, hz0, hz1, hz2⟩ := info_parts Try.infoS
  go_enter Try.func75, Try.ntmps75
  go_wp2
  go_loopw [1, 2] (fun v i wr => ∃ k : Nat, k ≤ 9 ∧ i = .int .i64 k ∧ Hid (Rowing Bs w.heap.size 23 wr v (List.replicate k nought)) ∧ Grow w wr) (fun _ i _ => 9 - (intOf i).toNat)
  case atStart => exact ⟨0, by omega, rfl, Rowing.nil _ _ _ _, Grow.refl _⟩
  case round =>
    obtain ⟨k, hk, rfl, HR, hgr⟩ := hrel
    by_cases hlt : k < 9
    · have hgA : Grow wr (wr.alloc (.cells #[.int .u8 0, .int .u8 0, .int .u8 0, .int .u8 0] 5)) := Grow.alloc _ _
      have hrow := HR.out.grow hgA
      have hoff : Off Bs u1.ownBlock (wr.alloc (.cells #[.int .u8 0, .int .u8 0, .int .u8 0, .int .u8 0] 5)) (.slice (some ⟨wr.heap.size, 0, none⟩) 4 4) nought := Off.row (l := nought) (heap_alloc_new wr _) rfl (by unfold maxLen; omega) nought_oct (fun e => by have := (HR.out.base _ e).2; omega)
      have hg1 := hgr.trans hgA
      clear HR hgA
      go_wp2_with (first
        | (at_builtin; refine wpList_push rfl (.tmp 4) (.tmp 6) 22 rfl i0 (.slice none 0 0) 24 Try.underlying22 hi hz0 hz1 hz2 rfl w hg1 rfl rfl hrow rfl hoff (wr.heap.size + 1) (by simp) rfl (by rw [List.length_replicate]; omega) (by rw [List.length_replicate]; omega) ?_; rintro v1 w1 - hrow1 hg2))
      rw [replicate_push] at hrow1
      go_wp2
      go_roundw
      case rel => first | exact ⟨k + 1, by omega, by go_num, hrow1, hg2⟩ | ((repeat apply Exists.intro); exact ⟨⟨k + 1, by omega, by go_num, hrow1, hg2⟩, rfl⟩)
      case measure => simp [intOf]; omega
    · obtain rfl : k = 9 := by omega
      go_wp2
      go_ret
      exact ⟨_, rfl, HR.out, hgr⟩

/-- Blocks, all of them. -/
def rightBlocksB (ls : List (List Int)) : Bool := ls.all (fun b => b.length == 4) && decide (ls.length = 9)

theorem rb_no {ls : List (List Int)} {k : Nat} (hk : k < ls.length) (h : (ls.getD k []).length ≠ 4) : rightBlocksB ls = false := by
  rw [rightBlocksB, Bool.and_eq_false_iff]
  left
  rw [List.all_eq_false]
  exact ⟨ls.getD k [], by simp [List.getD_eq_getElem?_getD, hk], by simpa using h⟩

theorem rb_end {ls : List (List Int)} (h : ∀ k, k < ls.length → (ls.getD k []).length = 4) : rightBlocksB ls = decide (ls.length = 9) := by
  have : ls.all (fun b => b.length == 4) = true := by
    rw [List.all_eq_true]
    intro b hb
    obtain ⟨i, hi, rfl⟩ := List.mem_iff_getElem.1 hb
    have := h i hi
    simpa [List.getD_eq_getElem?_getD, hi] using this
  rw [rightBlocksB, this, Bool.true_and]

theorem rb_all {ls : List (List Int)} (h : rightBlocksB ls = true) : (∀ b ∈ ls, b.length = 4) ∧ ls.length = 9 := by
  simp [rightBlocksB] at h
  exact h

set_option maxRecDepth 20000 in
set_option maxHeartbeats 400000 in
theorem refRight_any (v : Value) (ls : List (List Int)) (w : World) (h : Bss w v ls) :
    Calls Try.prog 14 #[v] w fun e w' => e = .returned (.bool (rightBlocksB ls)) ∧ w' = w := by
  obtain ⟨ao, cap, rfl, h1, h2, h3, h4⟩ := h
  unfold maxLen at h2
  go_enter Try.func14, Try.ntmps14
  go_wp2
  go_loop [7] (fun i => ∃ k : Nat, k ≤ ls.length ∧ i = .int .i64 k ∧ Hid (∀ j, j < k → (ls.getD j []).length = 4)) (fun i => ls.length - (intOf i).toNat)
  case atStart => exact ⟨0, by omega, rfl, (fun j hj => by omega)⟩
  case round =>
    obtain ⟨k, hk, rfl, HK⟩ := hrel
    by_cases hlt : k < ls.length
    · obtain ⟨b, off, rfl, hc⟩ := h4 (by omega)
      obtain ⟨ak, ck, hck, hbk⟩ := Sl.bytesAt hc hlt
      have hn := hbk.len
      unfold maxLen at hn
      clear hc h4 hbk
      by_cases h0 : (ls.getD k []).length = 4
      · have HK' : Hid (∀ j, j < k + 1 → (ls.getD j []).length = 4) := fun j hj => by
          by_cases hjk : j = k
          · subst hjk; exact h0
          · exact HK.out j (by omega)
        rw [h0] at hck
        clear h0
        go_wp2
        go_round
        case rel => exact ⟨k + 1, by omega, by go_num, HK'⟩
        case measure => simp [intOf]; omega
      · have HE : Hid (rightBlocksB ls = false) := rb_no hlt h0
        generalize (ls.getD k []).length = n at *
        have h0' : ¬ (n : Int) = 4 := by omega
        go_wp2
        go_ret
        exact ⟨ret_bool HE.out.symm, rfl⟩
    · have HE : Hid (rightBlocksB ls = decide (ls.length = 9)) := rb_end fun j hj => HK.out j (by omega)
      go_wp2
      go_ret
      exact ⟨ret_bool (by rw [HE.out]; exact decide_eq_decide.2 (by omega)), rfl⟩

/-- A deed, as it lies. -/
def DeedV (w : World) (v : Value) (x : DeedP) : Prop := ∃ dv, v = .agg #[.int .i64 x.k, .int .i64 x.n, .int .i64 x.m, dv] ∧ Bs w dv x.d
theorem DeedV.grow {w w' : World} {v : Value} {x : DeedP} (h : DeedV w v x) (hg : Grow w w') : DeedV w' v x := by
  obtain ⟨dv, hv, hb⟩ := h
  exact ⟨dv, hv, hb.grow hg⟩

theorem w_kind {x : DeedP} (h : x.k ≠ 1) (h2 : x.k ≠ 2) : wrongE x = 1 := by rw [wrongE, if_pos ⟨h, h2⟩]
theorem w_n {x : DeedP} (h : x.k = 1 ∨ x.k = 2) (h2 : x.n < 0 ∨ 8 < x.n) : wrongE x = 3 := by rw [wrongE, if_neg (by omega), if_pos h2]
theorem w_m {x : DeedP} (h : x.k = 1) (h2 : 0 ≤ x.n ∧ x.n ≤ 8) (h3 : x.m ≠ 0) : wrongE x = 3 := by rw [wrongE, if_neg (by omega), if_neg (by omega), if_pos h, if_pos h3]
theorem w_len {x : DeedP} (h : x.k = 1) (h2 : 0 ≤ x.n ∧ x.n ≤ 8) (h3 : x.m = 0) (h4 : x.d.length ≠ 4) : wrongE x = 4 := by rw [wrongE, if_neg (by omega), if_neg (by omega), if_pos h, if_neg (by omega), if_pos h4]
theorem w_ok {x : DeedP} (h : x.k = 1) (h2 : 0 ≤ x.n ∧ x.n ≤ 8) (h3 : x.m = 0) (h4 : x.d.length = 4) : wrongE x = 0 := by rw [wrongE, if_neg (by omega), if_neg (by omega), if_pos h, if_neg (by omega), if_neg (by omega)]
theorem w_at {x : DeedP} (h : x.k = 2) (h2 : 0 ≤ x.n ∧ x.n ≤ 8) (h3 : whereE x.m ≠ 0 ∨ whereS x.n ≠ whereS x.m) : wrongE x = 3 := by rw [wrongE, if_neg (by omega), if_neg (by omega), if_neg (by omega), if_pos h3]
theorem w_much {x : DeedP} (h : x.k = 2) (h2 : 0 ≤ x.n ∧ x.n ≤ 8) (h3 : ¬ (whereE x.m ≠ 0 ∨ whereS x.n ≠ whereS x.m)) (h4 : x.d.length ≠ 0) : wrongE x = 4 := by rw [wrongE, if_neg (by omega), if_neg (by omega), if_neg (by omega), if_neg h3, if_pos h4]
theorem w_ok2 {x : DeedP} (h : x.k = 2) (h2 : 0 ≤ x.n ∧ x.n ≤ 8) (h3 : ¬ (whereE x.m ≠ 0 ∨ whereS x.n ≠ whereS x.m)) (h4 : x.d.length = 0) : wrongE x = 0 := by rw [wrongE, if_neg (by omega), if_neg (by omega), if_neg (by omega), if_neg h3, if_neg (by omega)]

set_option maxRecDepth 20000 in
set_option maxHeartbeats 1600000 in
theorem refWrong_any (v : Value) (x : DeedP) (w : World) (h : DeedV w v x) :
    Calls Try.prog 49 #[v] w fun e w' => e = .returned (.int .i64 (wrongE x)) ∧ Grow w w' := by
  obtain ⟨dv, rfl, hb⟩ := h
  obtain ⟨ao, cap, rfl, h1, h2, -⟩ := hb
  unfold maxLen at h2
  have wk := w_kind (x := x)
  have wn := w_n (x := x)
  have wm := w_m (x := x)
  have wl := w_len (x := x)
  have wo := w_ok (x := x)
  have wa := w_at (x := x)
  have wu := w_much (x := x)
  have wp := w_ok2 (x := x)
  obtain ⟨k, n, m, d⟩ := x
  dsimp only at *
  generalize wrongE ⟨k, n, m, d⟩ = W at *
  generalize d.length = len at *
  have hgA : Grow w (w.alloc (.cells #[.int .i64 k, .int .i64 n, .int .i64 m, .slice ao len cap] 25)) := Grow.alloc _ _
  by_cases k1 : k = 1
  · subst k1
    by_cases n0 : n < 0
    · have HW : Hid (W = 3) := wn (.inl rfl) (.inl n0)
      clear wk wn wm wl wo wa wu wp
      go_enter Try.func49, Try.ntmps49
      go_wp2
      go_ret
      exact ⟨ret_int HW.out.symm, hgA⟩
    by_cases n8 : 8 < n
    · have HW : Hid (W = 3) := wn (.inl rfl) (.inr n8)
      clear wk wn wm wl wo wa wu wp
      go_enter Try.func49, Try.ntmps49
      go_wp2
      go_ret
      exact ⟨ret_int HW.out.symm, hgA⟩
    by_cases m0 : m = 0
    · subst m0
      by_cases l4 : len = 4
      · subst l4
        have HW : Hid (W = 0) := wo rfl (by omega) rfl rfl
        clear wk wn wm wl wo wa wu wp
        go_enter Try.func49, Try.ntmps49
        go_wp2
        go_ret
        exact ⟨ret_int HW.out.symm, hgA⟩
      · have HW : Hid (W = 4) := wl rfl (by omega) rfl l4
        have l4' : ¬ (len : Int) = 4 := by omega
        clear wk wn wm wl wo wa wu wp
        go_enter Try.func49, Try.ntmps49
        go_wp2
        go_ret
        exact ⟨ret_int HW.out.symm, hgA⟩
    · have HW : Hid (W = 3) := wm rfl (by omega) m0
      clear wk wn wm wl wo wa wu wp
      go_enter Try.func49, Try.ntmps49
      go_wp2
      go_ret
      exact ⟨ret_int HW.out.symm, hgA⟩
  by_cases k2 : k = 2
  · subst k2
    by_cases n0 : n < 0
    · have HW : Hid (W = 3) := wn (.inr rfl) (.inl n0)
      clear wk wn wm wl wo wa wu wp
      go_enter Try.func49, Try.ntmps49
      go_wp2
      go_ret
      exact ⟨ret_int HW.out.symm, hgA⟩
    by_cases n8 : 8 < n
    · have HW : Hid (W = 3) := wn (.inr rfl) (.inr n8)
      clear wk wn wm wl wo wa wu wp
      go_enter Try.func49, Try.ntmps49
      go_wp2
      go_ret
      exact ⟨ret_int HW.out.symm, hgA⟩
    have wa' := wa rfl (by omega)
    have wu' := wu rfl (by omega)
    have wp' := wp rfl (by omega)
    clear wk wn wm wl wo wa wu wp
    have HF : Hid ((whereE m ≠ 0 ∨ whereS n ≠ whereS m → W = 3) ∧ (¬ (whereE m ≠ 0 ∨ whereS n ≠ whereS m) → len ≠ 0 → W = 4) ∧ (¬ (whereE m ≠ 0 ∨ whereS n ≠ whereS m) → len = 0 → W = 0)) := ⟨wa', wu', wp'⟩
    clear wa' wu' wp'
    go_enter Try.func49, Try.ntmps49
    go_wp2_with fail
    refine (refWhere_any _ _).mono ?_
    rintro e w1 ⟨rfl, hg1⟩
    have hcell := fun i : Nat => hg1.cell (p := ⟨w.heap.size, i, none⟩) (by simp)
    have c2 := (hcell 2).trans (show _ = some (Value.int .i64 m) by simp)
    have c3 := (hcell 3).trans (show _ = some (Value.slice ao len cap) by simp)
    clear hcell
    go_wp2_with fail
    refine (refWhere_any _ _).mono ?_
    rintro e w2 ⟨rfl, hg2⟩
    have hlt : w.heap.size < w1.heap.size := by have := hg1.size; simp at this; omega
    have c3' := (hg2.cell (p := ⟨w.heap.size, 3, none⟩) hlt).trans c3
    have hg := (hgA.trans hg1).trans hg2
    clear c2 c3 hg1 hg2
    generalize hE : whereE m = E at *
    generalize hA : whereS n = A at *
    generalize hB : whereS m = B at *
    clear hE hA hB
    by_cases e0 : E = 0
    · subst e0
      by_cases ab : A = B
      · subst ab
        by_cases l0 : len = 0
        · subst l0
          have HW : Hid (W = 0) := HF.out.2.2 (by simp) rfl
          clear HF
          go_wp2
          go_ret
          exact ⟨ret_int HW.out.symm, hg⟩
        · have HW : Hid (W = 4) := HF.out.2.1 (by simp) l0
          have l0' : ¬ (len : Int) = 0 := by omega
          clear HF
          go_wp2
          go_ret
          exact ⟨ret_int HW.out.symm, hg⟩
      · have HW : Hid (W = 3) := HF.out.1 (.inr ab)
        clear HF
        go_wp2
        go_ret
        exact ⟨ret_int HW.out.symm, hg⟩
    · have HW : Hid (W = 3) := HF.out.1 (.inl e0)
      clear HF
      go_wp2
      go_ret
      exact ⟨ret_int HW.out.symm, hg⟩
  · have HW : Hid (W = 1) := wk k1 k2
    have k1' : (k != 1) = true := by simpa using k1
    have k2' : (k != 2) = true := by simpa using k2
    clear wk wn wm wl wo wa wu wp
    go_enter Try.func49, Try.ntmps49
    go_wp2
    go_ret
    exact ⟨ret_int HW.out.symm, hgA⟩

end Go.Proofs.Ytjggiameajndgab

/-
  What the reference's Cells returns. Nothing old turns.
-/
namespace Go.Proofs.Ytjggiameajndgab
open Go.RowKit

set_option maxRecDepth 20000 in
set_option maxHeartbeats 1600000 in
theorem refCells_row (v : Value) (a : ArrP) (s : Nat) (w : World) (g : Option Nat) (h : ArrG g w v a) (ha : Whole a) (hs : s < 3) :
    Calls Try.prog 22 #[v, .int .i64 s] w fun e w' => ∃ r, e = .returned r ∧ Rowing (Off Bs g) w.heap.size 23 w' r (cellsL a s) ∧ Grow w w' := by
  obtain ⟨i0, hi, hz0, hz1, hz2⟩ := info_parts Try.infoS
  obtain ⟨dv, iv, rfl, hd, hit⟩ := h
  obtain ⟨ad, cd, rfl, hd1, hd2⟩ := hd.form'
  obtain ⟨ai, ci, rfl, hi1, hi2⟩ := hit.form
  obtain ⟨ha4, ha3⟩ := ha
  have HC : Hid (cellsL a s = (a.ds.take 4).map (fun d => d.getD s [])) := by rw [Hid, cellsL, List.take_of_length_le (by omega)]
  have HT : Hid (∀ k, k < 4 → (a.ds.take k).map (fun d => d.getD s []) ++ [(a.ds.getD k []).getD s []] = (a.ds.take (k + 1)).map (fun d => d.getD s [])) := fun k hk => cells_take_succ (by omega) s
  have HK : Hid (∀ k, k < 4 → ∃ b off a' c' b' off' u' n' cc', ad = some ⟨b, off, none⟩ ∧ w.cell? ⟨b, off + k, none⟩ = some (.slice a' 3 c') ∧ a' = some ⟨b', off', none⟩ ∧ w.cell? ⟨b', off' + s, none⟩ = some (.slice u' n' cc') ∧ Off Bs g w (.slice u' n' cc') ((a.ds.getD k []).getD s [])) := fun k hk => by
    obtain ⟨b, off, a', c', e1, e2, e3⟩ := hd.elems (k := k) (by omega)
    have h3 : (a.ds.getD k []).length = 3 := ha3 _ (by simp [List.getD_eq_getElem?_getD, show k < a.ds.length by omega])
    obtain ⟨b', off', u', e4, e5, e6⟩ := e3.elem (k := s) (by omega) []
    obtain ⟨x1, x2, x3, rfl⟩ := e6.here.form
    rw [h3] at e2
    exact ⟨b, off, a', c', b', off', x1, x2, x3, e1, e2, e4, e5, e6⟩
  rw [ha4] at hd1 ⊢
  clear hd hit ha3
  generalize a.is.length = ni at *
  have hgA : Grow w (w.alloc (.cells #[.slice ad 4 cd, .slice ai ni ci] 39)) := Grow.alloc _ _
  go_enter Try.func22, Try.ntmps22
  go_wp2
  obtain ⟨w1, hw1⟩ : ∃ w1, w1 = w.alloc (.cells #[.slice ad 4 cd, .slice ai ni ci] 39) := ⟨_, rfl⟩
  rw [← hw1] at hgA ⊢
  clear hw1
  go_loopw [5, 11] (fun r i wr => ∃ k : Nat, k ≤ 4 ∧ i = .int .i64 k ∧ Hid (Rowing (Off Bs g) w1.heap.size 23 wr r ((a.ds.take k).map (fun d => d.getD s []))) ∧ Grow w1 wr) (fun _ i _ => 4 - (intOf i).toNat)
  case atStart => exact ⟨0, by omega, rfl, Rowing.nil _ _ _ _, Grow.refl _⟩
  case round =>
    obtain ⟨k, hk, rfl, HR, hgr⟩ := hrel
    by_cases hlt : k < 4
    · obtain ⟨b, off, a', c', b', off', u', n', cc', rfl, hc1, rfl, hc2, hb⟩ := HK.out k hlt
      have hgw := hgA.trans hgr
      have hc1' := hgw.at hc1
      have hc2' := hgw.at hc2
      have Hoff : Hid (Off (Off Bs g) u5.ownBlock wr (.slice u' n' cc') ((a.ds.getD k []).getD s [])) := Off.old (Off.stays Bs g) (hb.grow hgA) hgr (fun j hj => (HR.out.base j hj).1)
      have hT := HT.out k hlt
      have hln : ((a.ds.take k).map (fun d => d.getD s [])).length ≤ k := by simp; omega
      clear hc1 hc2 hb
      go_wp2_with (first
        | (at_builtin; refine wpList_push rfl (.tmp 15) (.tmp 20) 22 rfl i0 (.slice none 0 0) 24 Try.underlying22 hi hz0 hz1 hz2 rfl w1 hgr rfl rfl HR.out rfl Hoff.out wr.heap.size rfl rfl (by omega) (by omega) ?_; rintro v1 w2 - hrow1 hg2))
      rw [hT] at hrow1
      go_wp2
      go_roundw
      case rel => first | exact ⟨k + 1, by omega, by go_num, hrow1, hg2⟩ | ((repeat apply Exists.intro); exact ⟨⟨k + 1, by omega, by go_num, hrow1, hg2⟩, rfl⟩)
      case measure => simp [intOf]; omega
    · obtain rfl : k = 4 := by omega
      go_wp2
      go_ret
      exact ⟨_, rfl, by rw [HC.out]; exact HR.out.low hgA.size, hgA.trans hgr⟩

theorem refCells_off (v : Value) (a : ArrP) (s : Nat) (w : World) (g : Option Nat) (h : ArrG g w v a) (ha : Whole a) (hs : s < 3) :
    Calls Try.prog 22 #[v, .int .i64 s] w fun e w' => ∃ r, e = .returned r ∧ Sl (Off Bs g) w' r (cellsL a s) ∧ Grow w w' :=
  (refCells_row v a s w g h ha hs).mono fun _ _ ⟨r, he, hr, hg⟩ => ⟨r, he, hr.done, hg⟩

theorem refCells_any (v : Value) (a : ArrP) (s : Nat) (w : World) (h : ArrV w v a) (ha : Whole a) (hs : s < 3) :
    Calls Try.prog 22 #[v, .int .i64 s] w fun e w' => ∃ r, e = .returned r ∧ Bss w' r (cellsL a s) ∧ Grow w w' :=
  (refCells_off v a s w none (ArrG.of h (Grow.refl _) (fun _ h => nomatch h)) ha hs).mono fun _ _ ⟨r, he, hr, hg⟩ => ⟨r, he, hr.off, hg⟩

end Go.Proofs.Ytjggiameajndgab
