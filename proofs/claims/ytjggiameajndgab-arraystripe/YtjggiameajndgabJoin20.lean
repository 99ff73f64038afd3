import Derived.Test.YtjggiameajndgabJoin19
/-
  Plain: what of each stripe one cell at most is none of, has all its data; what steps make of them.
-/
namespace Go.Proofs.Ytjggiameajndgab

theorem cellsL_getD (a : ArrP) (s d : Nat) : (cellsL a s).getD d [] = cellAt a d s := by
  simp only [cellsL, cellAt, List.getD_eq_getElem?_getD, List.getElem?_map]
  cases a.ds[d]? <;> simp

/-- Whether a cell is none. -/
def badB (a : ArrP) (d s : Nat) : Bool := readE (cellAt a d s) d s != 0

theorem isBad_eq (a : ArrP) (s d : Nat) : isBad (cellsL a s) s d = badB a d s := by rw [isBad, cellsL_getD, badB]

theorem badL_eq {a : ArrP} (ha : Whole a) (s : Nat) : badL (cellsL a s) s = (List.range 4).filter (fun d => badB a d s) := by
  rw [badL, badTo, cellsL_length, ha.1]
  exact List.filter_congr fun d _ => isBad_eq a s d

theorem badN_eq {a : ArrP} (ha : Whole a) (s : Nat) : badN a s = (badB a 0 s).toNat + (badB a 1 s).toNat + (badB a 2 s).toNat + (badB a 3 s).toNat := by
  rw [badN, badL_eq ha, show List.range 4 = [0, 1, 2, 3] from rfl]
  simp only [List.filter_cons, List.filter_nil]
  cases badB a 0 s <;> cases badB a 1 s <;> cases badB a 2 s <;> cases badB a 3 s <;> rfl

theorem worstTo_le_iff (a : ArrP) (n : Nat) : ∀ k, worstTo a k ≤ n ↔ ∀ s, s < k → badN a s ≤ n
  | 0 => by simp [worstTo]
  | k + 1 => by
    rw [worstTo]
    have ih := worstTo_le_iff a n k
    constructor
    · intro h s hs
      by_cases hsk : s = k
      · subst hsk; split at h <;> omega
      · exact ih.1 (by split at h <;> omega) s (by omega)
    · intro h
      have h1 := h k (by omega)
      have h2 := ih.2 (fun s hs => h s (by omega))
      split <;> omega

theorem worstN_le {a : ArrP} {n : Nat} : worstN a ≤ n ↔ ∀ s, s < 3 → badN a s ≤ n := worstTo_le_iff a n 3

/-- Blocks that are noughts together. -/
def EvenB (ds : List (List Int)) : Prop := ∀ i, i < 4 → xC ds i = 0

/-- Stripe s has ds, as far as its cells are not none. -/
structure Holds (a : ArrP) (s : Nat) (ds : List (List Int)) : Prop where
  len : ds.length = 4
  blocks : Blocks ds
  even : EvenB ds
  reads : ∀ d, d < 4 → badB a d s = false → readX (cellAt a d s) d s = ds.getD d []

theorem four {ds : List (List Int)} (h : ds.length = 4) : ds = [ds.getD 0 [], ds.getD 1 [], ds.getD 2 [], ds.getD 3 []] := by
  match ds, h with
  | [a, b, c, d], _ => rfl

theorem xC_four (a b c d : List Int) (i : Nat) : xC [a, b, c, d] i = (a.getD i 0).toNat ^^^ ((b.getD i 0).toNat ^^^ ((c.getD i 0).toNat ^^^ (d.getD i 0).toNat)) := by
  rw [xC_cons, xC_cons, xC_cons, xC_one]
theorem xC_three (a b c : List Int) (i : Nat) : xC [a, b, c] i = (a.getD i 0).toNat ^^^ ((b.getD i 0).toNat ^^^ (c.getD i 0).toNat) := by
  rw [xC_cons, xC_cons, xC_one]

theorem xor_eq_of {a b : Nat} (h : a ^^^ b = 0) : a = b := by
  have h2 : a ^^^ b ^^^ b = b := by rw [h, Nat.zero_xor]
  rwa [Nat.xor_assoc, Nat.xor_self, Nat.xor_zero] at h2

theorem xor_left (a b c : Nat) : a ^^^ (b ^^^ c) = b ^^^ (a ^^^ c) := by rw [← Nat.xor_assoc, Nat.xor_comm a b, Nat.xor_assoc]

/-- Of four that are noughts together each is what the others are. -/
theorem even_others {a b c d : List Int} (h : EvenB [a, b, c, d]) (i : Nat) (hi : i < 4) :
    xC [b, c, d] i = (a.getD i 0).toNat ∧ xC [a, c, d] i = (b.getD i 0).toNat ∧ xC [a, b, d] i = (c.getD i 0).toNat ∧ xC [a, b, c] i = (d.getD i 0).toNat := by
  have h1 := h i hi
  rw [xC_four] at h1
  simp only [xC_three]
  generalize (a.getD i 0).toNat = x at *
  generalize (b.getD i 0).toNat = y at *
  generalize (c.getD i 0).toNat = z at *
  generalize (d.getD i 0).toNat = t at *
  have e1 := xor_eq_of h1
  refine ⟨e1.symm, ?_, ?_, ?_⟩
  · rw [e1, Nat.xor_assoc, Nat.xor_self, Nat.xor_zero]
  · rw [e1, Nat.xor_assoc, xor_left (z ^^^ t) y t, ← Nat.xor_assoc y y, Nat.xor_self, Nat.zero_xor, Nat.xor_assoc, Nat.xor_self, Nat.xor_zero]
  · rw [e1, Nat.xor_assoc, xor_left (z ^^^ t) y z, ← Nat.xor_assoc y y, Nat.xor_self, Nat.zero_xor, Nat.xor_comm z t, Nat.xor_assoc, Nat.xor_self, Nat.xor_zero]

theorem rest_eq (ls : List (List Int)) (s : Int) :
    restTo ls s 0 4 = [readX (ls.getD 1 []) (1 : Nat) s, readX (ls.getD 2 []) (2 : Nat) s, readX (ls.getD 3 []) (3 : Nat) s] ∧ restTo ls s 1 4 = [readX (ls.getD 0 []) (0 : Nat) s, readX (ls.getD 2 []) (2 : Nat) s, readX (ls.getD 3 []) (3 : Nat) s] ∧
    restTo ls s 2 4 = [readX (ls.getD 0 []) (0 : Nat) s, readX (ls.getD 1 []) (1 : Nat) s, readX (ls.getD 3 []) (3 : Nat) s] ∧ restTo ls s 3 4 = [readX (ls.getD 0 []) (0 : Nat) s, readX (ls.getD 1 []) (1 : Nat) s, readX (ls.getD 2 []) (2 : Nat) s] := ⟨rfl, rfl, rfl, rfl⟩

theorem one_bad {a : ArrP} (ha : Whole a) {s d k : Nat} (hb : badN a s ≤ 1) (hd : badB a d s = true) (h1 : d < 4) (h2 : k < 4) (hne : d ≠ k) : badB a k s = false := by
  rw [badN_eq ha] at hb
  cases hk : badB a k s with
  | false => rfl
  | true =>
    exfalso
    have t : ∀ x : Bool, x = true → x.toNat = 1 := fun x hx => by rw [hx]; rfl
    have hd' := t _ hd
    have hk' := t _ hk
    obtain rfl | rfl | rfl | rfl : d = 0 ∨ d = 1 ∨ d = 2 ∨ d = 3 := by omega
    all_goals obtain rfl | rfl | rfl | rfl : k = 0 ∨ k = 1 ∨ k = 2 ∨ k = 3 := by omega
    all_goals omega

/-- Where one at most is none, the data are all there. -/
theorem Holds.data {a : ArrP} (ha : Whole a) {s : Nat} {ds : List (List Int)} (h : Holds a s ds) (hb : badN a s ≤ 1) : dataE (cellsL a s) s = 0 ∧ dataL (cellsL a s) s = ds := by
  have hn : ¬ 1 < (badL (cellsL a s) s).length := by have : badN a s = (badL (cellsL a s) s).length := rfl; omega
  refine ⟨if_neg hn, ?_⟩
  rw [dataL, if_neg hn, cellsL_length, ha.1, show List.range 4 = [0, 1, 2, 3] from rfl]
  have hgood : ∀ d k, badB a d s = true → d < 4 → k < 4 → d ≠ k → badB a k s = false := fun d k hd h1 h2 hne => one_bad ha hb hd h1 h2 hne
  have hdat : ∀ d, datAt (cellsL a s) s d = if badB a d s then xorAll (restTo (cellsL a s) s d 4) else readX (cellAt a d s) d s := fun d => by
    rw [datAt, isBad_eq, cellsL_length, ha.1, cellsL_getD]
  obtain ⟨r0, r1, r2, r3⟩ := rest_eq (cellsL a s) s
  simp only [cellsL_getD] at r0 r1 r2 r3
  have g := h.reads
  have g0 := g 0 (by omega)
  have g1 := g 1 (by omega)
  have g2 := g 2 (by omega)
  have g3 := g 3 (by omega)
  have h4 := four h.len
  have he := h.even
  have hbl : ∀ d, d < 4 → (ds.getD d []).length = 4 ∧ Octets (ds.getD d []) := fun d hd => h.blocks _ (getD_mem (by rw [h.len]; exact hd))
  have b0 := hbl 0 (by omega)
  have b1 := hbl 1 (by omega)
  have b2 := hbl 2 (by omega)
  have b3 := hbl 3 (by omega)
  rw [h4] at he ⊢
  simp only [List.map_cons, List.map_nil, hdat, r0, r1, r2, r3]
  generalize ds.getD 0 [] = x0 at *
  generalize ds.getD 1 [] = x1 at *
  generalize ds.getD 2 [] = x2 at *
  generalize ds.getD 3 [] = x3 at *
  have e0 := fun i hi => (even_others he i hi).1
  have e1 := fun i hi => (even_others he i hi).2.1
  have e2 := fun i hi => (even_others he i hi).2.2.1
  have e3 := fun i hi => (even_others he i hi).2.2.2
  have k0 : (if badB a 0 s = true then xorAll [readX (cellAt a 1 s) (1 : Nat) s, readX (cellAt a 2 s) (2 : Nat) s, readX (cellAt a 3 s) (3 : Nat) s] else readX (cellAt a 0 s) (0 : Nat) s) = x0 := by
    by_cases hh : badB a 0 s = true
    · rw [if_pos hh, g1 (hgood 0 1 hh (by omega) (by omega) (by omega)), g2 (hgood 0 2 hh (by omega) (by omega) (by omega)), g3 (hgood 0 3 hh (by omega) (by omega) (by omega))]
      exact xorAll_block b0.1 b0.2 e0
    · rw [if_neg hh]; exact g0 (by simpa using hh)
  have k1 : (if badB a 1 s = true then xorAll [readX (cellAt a 0 s) (0 : Nat) s, readX (cellAt a 2 s) (2 : Nat) s, readX (cellAt a 3 s) (3 : Nat) s] else readX (cellAt a 1 s) (1 : Nat) s) = x1 := by
    by_cases hh : badB a 1 s = true
    · rw [if_pos hh, g0 (hgood 1 0 hh (by omega) (by omega) (by omega)), g2 (hgood 1 2 hh (by omega) (by omega) (by omega)), g3 (hgood 1 3 hh (by omega) (by omega) (by omega))]
      exact xorAll_block b1.1 b1.2 e1
    · rw [if_neg hh]; exact g1 (by simpa using hh)
  have k2 : (if badB a 2 s = true then xorAll [readX (cellAt a 0 s) (0 : Nat) s, readX (cellAt a 1 s) (1 : Nat) s, readX (cellAt a 3 s) (3 : Nat) s] else readX (cellAt a 2 s) (2 : Nat) s) = x2 := by
    by_cases hh : badB a 2 s = true
    · rw [if_pos hh, g0 (hgood 2 0 hh (by omega) (by omega) (by omega)), g1 (hgood 2 1 hh (by omega) (by omega) (by omega)), g3 (hgood 2 3 hh (by omega) (by omega) (by omega))]
      exact xorAll_block b2.1 b2.2 e2
    · rw [if_neg hh]; exact g2 (by simpa using hh)
  have k3 : (if badB a 3 s = true then xorAll [readX (cellAt a 0 s) (0 : Nat) s, readX (cellAt a 1 s) (1 : Nat) s, readX (cellAt a 2 s) (2 : Nat) s] else readX (cellAt a 3 s) (3 : Nat) s) = x3 := by
    by_cases hh : badB a 3 s = true
    · rw [if_pos hh, g0 (hgood 3 0 hh (by omega) (by omega) (by omega)), g1 (hgood 3 1 hh (by omega) (by omega) (by omega)), g2 (hgood 3 2 hh (by omega) (by omega) (by omega))]
      exact xorAll_block b3.1 b3.2 e3
    · rw [if_neg hh]; exact g3 (by simpa using hh)
  rw [k0, k1, k2, k3]

/-- An array all of whose stripes have what D says, and of each of which one cell at most is none. -/
structure Inv (a : ArrP) (D : Nat → List (List Int)) : Prop where
  arr : Arr a
  holds : ∀ s, s < 3 → Holds a s (D s)
  few : ∀ s, s < 3 → badN a s ≤ 1

/-- What its blocks are. -/
def Bk (D : Nat → List (List Int)) : List (List Int) := (List.range 9).map fun n => (D (sOf (n : Nat))).getD (dOf (n : Nat)) []

theorem Bk_getD (D : Nat → List (List Int)) {n : Nat} (h : n < 9) : (Bk D).getD n [] = (D (sOf (n : Nat))).getD (dOf (n : Nat)) [] := by
  simp [Bk, List.getD_eq_getElem?_getD, h]
theorem Bk_length (D : Nat → List (List Int)) : (Bk D).length = 9 := by simp [Bk]

theorem badB_false {a : ArrP} {d s : Nat} : badB a d s = false ↔ readE (cellAt a d s) d s = 0 := by simp [badB]

/-- A block is told, and it is what D says. -/
theorem Inv.read {a : ArrP} {D : Nat → List (List Int)} (h : Inv a D) {n : Nat} (hn : n < 9) : rdE a (n : Nat) = 0 ∧ rdX a (n : Nat) = (D (sOf (n : Nat))).getD (dOf (n : Nat)) [] := by
  obtain ⟨-, -, -, hd4, hs3⟩ := where_bd (n := (n : Int)) (by omega)
  have hh := h.holds _ hs3
  obtain ⟨e1, e2⟩ := hh.data h.arr.whole (h.few _ hs3)
  have hc : 0 ≤ (n : Int) ∧ (n : Int) < 9 := by omega
  rw [rdE, rdX, if_pos hc, if_pos hc, e1, e2]
  by_cases hr : readE (cellAt a (dOf (n : Nat)) (sOf (n : Nat))) (dOf (n : Nat)) (sOf (n : Nat)) = 0
  · rw [if_pos hr, if_pos hr]
    exact ⟨rfl, hh.reads _ hd4 (badB_false.2 hr)⟩
  · rw [if_neg hr, if_neg hr]
    exact ⟨rfl, rfl⟩

theorem Inv.blocks {a : ArrP} {D : Nat → List (List Int)} (h : Inv a D) : blkE a = 0 ∧ blkL a = Bk D := by
  have h1 : blkE a = 0 := blkE_ok fun j hj => (h.read hj).1
  refine ⟨h1, ?_⟩
  rw [blkL, if_pos h1]
  exact List.map_congr_left fun n hn => (h.read (List.mem_range.1 hn)).2

/-- A cell that is none, or has what it should. -/
theorem Holds.with {a : ArrP} (ha : Whole a) {s : Nat} {ds : List (List Int)} (h : Holds a s ds) {d0 s0 : Nat} (hd : d0 < 4) (hs : s0 < 3) {l : List Int} (hl : s0 = s → readE l d0 s0 = 0 → readX l d0 s0 = ds.getD d0 []) : Holds (withL a d0 s0 l) s ds := by
  refine ⟨h.len, h.blocks, h.even, fun d hd4 hb => ?_⟩
  have hc := ha.cellAt_with hd hs l d s
  by_cases hds : d = d0 ∧ s = s0
  · rw [if_pos hds] at hc
    obtain ⟨rfl, rfl⟩ := hds
    rw [hc]
    rw [badB_false, hc] at hb
    exact hl rfl hb
  · rw [if_neg hds] at hc
    rw [hc]
    rw [badB_false, hc] at hb
    exact h.reads d hd4 (badB_false.2 hb)

theorem readE_nil (d s : Int) : readE [] d s = 7 := by simp [readE]

theorem read_is_cell {l : List Int} {d s : Nat} (h : readE l d s = 0) : l = cellOf d s (readX l d s) ∧ l.length = 8 := by
  unfold readE at h
  split at h
  · rename_i h1
    split at h
    · rename_i h2
      rw [readX, if_pos h1, if_pos h2]
      obtain ⟨hl, hsl⟩ := h1
      refine ⟨?_, hl⟩
      rw [sealedB_of l 6 hl, beq_iff_eq] at hsl
      rw [cellOf]
      rw [show (d : Int) :: (s : Int) :: (l.drop 2).take 4 = l.take 6 from ?_]
      · exact hsl.symm
      · rw [← h2.1, ← h2.2]
        match l, hl with
        | [a0, a1, a2, a3, a4, a5, a6, a7], _ => rfl
    · cases h
  · cases h

theorem rotI_ne (x : Int) : rotI x ≠ x := by unfold rotI; split <;> omega
theorem rotI_back (x : Int) : rotI (rotI x) = x := by unfold rotI; split <;> (split <;> omega)

/-- A cell that is not none, one byte of which rots, is none. -/
theorem rot_bad {l : List Int} {d s k : Nat} (hd : d < 4) (hs : s < 3) (h : readE l d s = 0) (ho : Octets (readX l d s)) (hk : k < l.length) : readE (rotB l k) d s = 7 := by
  obtain ⟨e, hl⟩ := read_is_cell h
  have hoc : Octets l := by rw [e]; exact cellOf_octets (by omega) (by omega) ho
  have hb := hoc (l.getD k 0) (by simp [List.getD_eq_getElem?_getD, hk])
  have := (read_turned (d := (d : Int)) (s := (s : Int)) (l := readX l d s) (by omega) (by omega) ho (k := k) (c := rotI (l.getD k 0)) (by rw [← e]; exact hk) (rotI_bd hb) (by rw [← e]; exact fun h => rotI_ne _ h.symm) d s).2
  rw [← e] at this
  exact this

theorem new_cell {d s : Nat} (hd : d < 4) (hs : s < 3) : cellAt newP d s = cellOf d s nought := by
  simp [cellAt, newP, newDs, newRow, List.getD_eq_getElem?_getD, hd, hs]

theorem nought_even : EvenB [nought, nought, nought, nought] := by
  intro i hi
  rw [xC_four]
  match i, hi with
  | 0, _ => rfl
  | 1, _ => rfl
  | 2, _ => rfl
  | 3, _ => rfl

theorem newP_inv : Inv newP (fun _ => [nought, nought, nought, nought]) := by
  have hb : ∀ d s, d < 4 → s < 3 → badB newP d s = false := fun d s hd hs => by
    rw [badB_false, new_cell hd hs, (read_cell (d := d) (s := s) (l := nought) rfl d s).2, if_pos ⟨rfl, rfl⟩]
  refine ⟨newP_arr, fun s hs => ⟨rfl, fun b hb => ?_, nought_even, fun d hd _ => ?_⟩, fun s hs => ?_⟩
  · simp at hb; subst hb; exact ⟨rfl, nought_oct⟩
  · rw [new_cell hd hs, (read_cell (d := d) (s := s) (l := nought) rfl d s).1, if_pos ⟨rfl, rfl⟩]
    match d, hd with
    | 0, _ => rfl
    | 1, _ => rfl
    | 2, _ => rfl
    | 3, _ => rfl
  · rw [badN_eq newP_whole, hb 0 s (by omega) hs, hb 1 s (by omega) hs, hb 2 s (by omega) hs, hb 3 s (by omega) hs]
    simp

end Go.Proofs.Ytjggiameajndgab

/-
  Plain: what gentle steps make of what stripes hold, and of blocks.
-/
namespace Go.Proofs.Ytjggiameajndgab

theorem sOf_eq {n : Nat} (h : n < 9) : sOf (n : Nat) = n / 3 := by
  simp only [sOf, whereS]
  rw [if_pos (by omega)]
  omega

/-- Where the disks of what is planned are, blocks are what they were to be. -/
theorem planOut_at (bl : List (List Int)) {n : Nat} (hn : n < 9) : (planOut bl (sOf (n : Nat))).getD (dOf (n : Nat)) [] = bl.getD n [] := by
  obtain ⟨-, -, -, -, hs3⟩ := where_bd (n := (n : Int)) (by omega)
  rw [planOut_eq _ _ hs3]
  obtain rfl | rfl | rfl | rfl | rfl | rfl | rfl | rfl | rfl : n = 0 ∨ n = 1 ∨ n = 2 ∨ n = 3 ∨ n = 4 ∨ n = 5 ∨ n = 6 ∨ n = 7 ∨ n = 8 := by omega
  all_goals rfl

theorem xor_self3 (x y z : Nat) : x ^^^ (y ^^^ (z ^^^ (x ^^^ (y ^^^ z)))) = 0 := by
  rw [xor_left z x, xor_left y x, ← Nat.xor_assoc x x, Nat.xor_self, Nat.zero_xor, xor_left z y, ← Nat.xor_assoc y y, Nat.xor_self, Nat.zero_xor, Nat.xor_self]

theorem planOut_even (bl : List (List Int)) {s : Nat} (hs : s < 3) : EvenB (planOut bl s) := by
  intro i hi
  rw [planOut_eq _ _ hs]
  split
  · rw [xC_four, xorAll_toNat _ hi, xC_three, xor_self3]
  split
  · rw [xC_four, xorAll_toNat _ hi, xC_three]
    generalize ((bl.getD 3 []).getD i 0).toNat = x
    generalize ((bl.getD 4 []).getD i 0).toNat = y
    generalize ((bl.getD 5 []).getD i 0).toNat = z
    rw [Nat.xor_comm (x ^^^ (y ^^^ z)) z, xor_self3]
  · rw [xC_four, xorAll_toNat _ hi, xC_three]
    generalize ((bl.getD 6 []).getD i 0).toNat = x
    generalize ((bl.getD 7 []).getD i 0).toNat = y
    generalize ((bl.getD 8 []).getD i 0).toNat = z
    rw [xor_left (x ^^^ (y ^^^ z)) y z, Nat.xor_comm (x ^^^ (y ^^^ z)) z, xor_self3]

theorem planOut_octets {bl : List (List Int)} (h : ∀ b ∈ bl, Octets b) (hl : bl.length = 9) {s : Nat} (hs : s < 3) : ∀ b ∈ planOut bl s, Octets b := by
  have hg : ∀ k, k < 9 → Octets (bl.getD k []) := fun k hk => h _ (getD_mem (by omega))
  have hx : ∀ i j k, i < 9 → j < 9 → k < 9 → Octets (xorAll [bl.getD i [], bl.getD j [], bl.getD k []]) := fun i j k hi hj hk => xorAll_octets fun b hb => by
    simp only [List.mem_cons, List.not_mem_nil, or_false] at hb
    rcases hb with rfl | rfl | rfl
    · exact hg i hi
    · exact hg j hj
    · exact hg k hk
  rw [planOut_eq bl s hs]
  intro b hb
  split at hb
  · simp only [List.mem_cons, List.not_mem_nil, or_false] at hb
    rcases hb with rfl | rfl | rfl | rfl
    · exact hg 0 (by omega)
    · exact hg 1 (by omega)
    · exact hg 2 (by omega)
    · exact hx 0 1 2 (by omega) (by omega) (by omega)
  split at hb
  · simp only [List.mem_cons, List.not_mem_nil, or_false] at hb
    rcases hb with rfl | rfl | rfl | rfl
    · exact hg 3 (by omega)
    · exact hg 4 (by omega)
    · exact hx 3 4 5 (by omega) (by omega) (by omega)
    · exact hg 5 (by omega)
  · simp only [List.mem_cons, List.not_mem_nil, or_false] at hb
    rcases hb with rfl | rfl | rfl | rfl
    · exact hg 6 (by omega)
    · exact hx 6 7 8 (by omega) (by omega) (by omega)
    · exact hg 7 (by omega)
    · exact hg 8 (by omega)

theorem doAt_octets {ls : List (List Int)} {x : DeedP} (h : ∀ b ∈ ls, Octets b) (hx : Octets x.d) (i : Nat) : Octets (doAt ls x i) := by
  have hg : ∀ k, Octets (ls.getD k []) := fun k => by
    by_cases hk : k < ls.length
    · exact h _ (getD_mem hk)
    · rw [List.getD_eq_getElem?_getD, List.getElem?_eq_none (by omega)]; intro y hy; simp at hy
  unfold doAt
  split
  · exact hx
  split
  · exact hg _
  split
  · exact hg _
  · exact hg _

/-- What an intent's cells are: each reads as what is planned. -/
theorem make_cell {ds : List (List Int)} (h4 : ∀ b ∈ ds, b.length = 4) (hl : ds.length = 4) {d s : Nat} (hd : d < 4) : (makeL ds s).getD d [] = cellOf d s (ds.getD d []) ∧ readE ((makeL ds s).getD d []) d s = 0 ∧ readX ((makeL ds s).getD d []) d s = ds.getD d [] := by
  have e : (makeL ds s).getD d [] = cellOf d s (ds.getD d []) := by
    simp [makeL, List.getD_eq_getElem?_getD, hl, hd]
  have hlen : (ds.getD d []).length = 4 := h4 _ (getD_mem (by omega))
  have := read_cell (d := (d : Int)) (s := (s : Int)) hlen d s
  rw [e, this.1, this.2]
  simp

/-- All cells of a stripe are put. -/
theorem put_holds {a : ArrP} (ha : Whole a) {s : Nat} (hs : s < 3) {ds : List (List Int)} (hl : ds.length = 4) (hb : Blocks ds) (he : EvenB ds) :
    Holds (putTo a (makeL ds s) s 4) s ds ∧ (∀ d, d < 4 → badB (putTo a (makeL ds s) s 4) d s = false) ∧ badN (putTo a (makeL ds s) s 4) s = 0 := by
  have h4 : ∀ b ∈ ds, b.length = 4 := fun b hbm => (hb b hbm).1
  have hc : ∀ d, d < 4 → cellAt (putTo a (makeL ds s) s 4) d s = (makeL ds s).getD d [] := fun d hd => by rw [putTo_twice_at ha _ hs d s 4 (Nat.le_refl _), if_pos ⟨hd, rfl⟩]
  have hbad : ∀ d, d < 4 → badB (putTo a (makeL ds s) s 4) d s = false := fun d hd => by rw [badB_false, hc d hd, (make_cell h4 hl hd).2.1]
  refine ⟨⟨hl, hb, he, fun d hd _ => by rw [hc d hd, (make_cell h4 hl hd).2.2]⟩, hbad, ?_⟩
  rw [badN_eq (putTo_whole ha _ _ 4 (Nat.le_refl _)), hbad 0 (by omega), hbad 1 (by omega), hbad 2 (by omega), hbad 3 (by omega)]
  rfl

theorem cell_other {a b : ArrP} {s : Nat} (h : ∀ d, d < 4 → cellAt a d s = cellAt b d s) {ds : List (List Int)} (hh : Holds a s ds) : Holds b s ds := by
  refine ⟨hh.len, hh.blocks, hh.even, fun d hd hb => ?_⟩
  rw [badB_false, ← h d hd] at hb
  rw [← h d hd]
  exact hh.reads d hd (badB_false.2 hb)

theorem badN_other {a b : ArrP} (ha : Whole a) (hb : Whole b) {s : Nat} (h : ∀ d, d < 4 → cellAt a d s = cellAt b d s) : badN a s = badN b s := by
  rw [badN_eq ha, badN_eq hb]
  simp only [badB]
  rw [h 0 (by omega), h 1 (by omega), h 2 (by omega), h 3 (by omega)]

/-- A stripe's cells are put; the others are as they were. -/
theorem Inv.put {a : ArrP} {D : Nat → List (List Int)} (h : Inv a D) {s : Nat} (hs : s < 3) {ds : List (List Int)} (hl : ds.length = 4) (hb : Blocks ds) (he : EvenB ds) :
    Inv (putTo a (makeL ds s) s 4) (fun t => if t = s then ds else D t) := by
  have hA : Arr (putTo a (makeL ds s) s 4) := putTo_arr h.arr (fun b hb' => by rw [makeL_mem (fun b h => (hb b h).1) b hb']; omega) hs 4 (Nat.le_refl _)
  obtain ⟨h1, -, h3⟩ := put_holds h.arr.whole hs hl hb he
  have hc : ∀ t, t ≠ s → ∀ d, d < 4 → cellAt a d t = cellAt (putTo a (makeL ds s) s 4) d t := fun t ht d hd => by rw [putTo_twice_at h.arr.whole _ hs d t 4 (Nat.le_refl _), if_neg (fun hc => ht hc.2)]
  refine ⟨hA, fun t ht => ?_, fun t ht => ?_⟩
  · by_cases hts : t = s
    · subst hts; simp only [if_true]; exact h1
    · simp only [if_neg hts]; exact cell_other (hc t hts) (h.holds t ht)
  · by_cases hts : t = s
    · subst hts; omega
    · rw [← badN_other h.arr.whole hA.whole (hc t hts)]; exact h.few t ht

theorem Inv.planE {a : ArrP} {D : Nat → List (List Int)} (h : Inv a D) (x : DeedP) : planE a x = wrongE x := by
  unfold Go.Proofs.Ytjggiameajndgab.planE
  split
  · rfl
  · rename_i hw
    have hw0 : wrongE x = 0 := Decidable.not_not.1 hw
    obtain ⟨-, hn0, hn8, -, -⟩ := right_deed hw0
    obtain ⟨-, -, -, -, hs3⟩ := where_bd (n := x.n) (by omega)
    rw [((h.holds _ hs3).data h.arr.whole (h.few _ hs3)).1, hw0]

/-- What stripes hold behind a deed. -/
def doD (D : Nat → List (List Int)) (x : DeedP) : Nat → List (List Int) := fun t => if t = sOf x.n then planOut (doL (spreadTo (D (sOf x.n)) (sOf x.n) 9) x) (sOf x.n) else D t

theorem Inv.doA {a : ArrP} {D : Nat → List (List Int)} (h : Inv a D) {x : DeedP} (hw : wrongE x = 0) (hx : Octets x.d) : Inv (doA a x) (doD D x) := by
  have he : Go.Proofs.Ytjggiameajndgab.planE a x = 0 := (h.planE x).trans hw
  obtain ⟨s, hs3, hsx, -, -, hi⟩ := planI_ok he
  obtain ⟨e1, e2⟩ := (h.holds s hs3).data h.arr.whole (h.few s hs3)
  have hbl : planBl a x = doL (spreadTo (D s) s 9) x := by rw [planBl, ← hsx, e2]
  have hbs := planBl_blocks h.arr.whole he
  rw [doA_eq h.arr he, hi]
  simp only [Int.toNat_natCast]
  have hoct : ∀ b ∈ planBl a x, Octets b := fun b hb => by
    rw [hbl, doL] at hb
    obtain ⟨i, -, rfl⟩ := List.mem_map.1 hb
    refine doAt_octets (fun c hc => ?_) hx i
    simp only [spreadTo, List.mem_map, List.mem_range] at hc
    obtain ⟨n, hn, rfl⟩ := hc
    split
    · obtain ⟨-, -, -, hd4, -⟩ := where_bd (n := (n : Int)) (by omega)
      exact ((h.holds s hs3).blocks _ (getD_mem (by rw [(h.holds s hs3).len]; exact hd4))).2
    · exact nought_oct
  have hI := h.put hs3 (planOut_length (planBl a x) s) (fun b hb => ⟨planOut_blocks hbs.1 hbs.2 hs3 b hb, planOut_octets hoct hbs.2 hs3 b hb⟩) (planOut_even (planBl a x) hs3)
  rw [hbl] at hI ⊢
  rw [show doD D x = fun t => if t = s then planOut (doL (spreadTo (D s) s 9) x) s else D t from by funext t; rw [doD, ← hsx]]
  exact hI

theorem ext_getD {a b : List (List Int)} (hl : a.length = b.length) (h : ∀ i, i < a.length → a.getD i [] = b.getD i []) : a = b := by
  refine List.ext_getElem hl fun i g1 g2 => ?_
  have := h i g1
  rw [List.getD_eq_getElem?_getD, List.getD_eq_getElem?_getD, List.getElem?_eq_getElem g1, List.getElem?_eq_getElem g2] at this
  exact this

theorem doL_getD {ls : List (List Int)} {x : DeedP} {i : Nat} (h : i < ls.length) : (doL ls x).getD i [] = doAt ls x i := by
  simp [doL, List.getD_eq_getElem?_getD, h]

/-- Blocks behind a deed are what is meant. -/
theorem Bk_doD (D : Nat → List (List Int)) {x : DeedP} (hw : wrongE x = 0) : Bk (doD D x) = doL (Bk D) x := by
  obtain ⟨hk, hn0, hn8, h1, h2⟩ := right_deed hw
  obtain ⟨n, hn⟩ := Int.eq_ofNat_of_zero_le hn0
  have hn9 : n < 9 := by omega
  refine ext_getD (by rw [Bk_length, doL_length, Bk_length]) fun i g1 => ?_
  have hi9 : i < 9 := by rw [Bk_length] at g1; exact g1
  have hsp : ∀ k : Nat, k < 9 → sOf (k : Nat) = sOf x.n → (spreadTo (D (sOf x.n)) (sOf x.n) 9).getD k [] = (Bk D).getD k [] := fun k hk9 hks => by
    rw [Bk_getD D hk9, hks]
    simp [spreadTo, List.getD_eq_getElem?_getD, hk9, hks]
  have hm : x.k = 2 → ∃ m : Nat, x.m = (m : Int) ∧ m < 9 ∧ sOf (m : Nat) = sOf x.n := fun hk2 => by
    obtain ⟨e1, e2, -⟩ := h2 hk2
    have := whereE_zero e1
    obtain ⟨m, hm⟩ := Int.eq_ofNat_of_zero_le this.1
    exact ⟨m, hm, by omega, by rw [hm] at e2; simp only [sOf, e2]⟩
  rw [doL_getD (by rw [Bk_length]; exact hi9), Bk_getD _ hi9]
  by_cases hs : sOf (i : Nat) = sOf x.n
  · rw [doD, if_pos hs, ← hs, planOut_at _ hi9, hs]
    rw [doL_getD (by rw [spreadTo_length]; exact hi9)]
    unfold doAt
    split
    · rfl
    split
    · rename_i hc
      obtain ⟨m, e1, e2, e3⟩ := hm hc.1
      rw [e1, Int.toNat_natCast]
      exact hsp m e2 e3
    split
    · have e : x.n.toNat = n := by omega
      rw [e]
      exact hsp n hn9 (by rw [hn])
    · exact hsp i hi9 hs
  · rw [doD, if_neg hs, ← Bk_getD D hi9]
    unfold doAt
    rw [if_neg (fun hc => hs (by rw [hc.2])), if_neg (fun hc => hs (by rw [hc.2])), if_neg (fun hc => by
      obtain ⟨m, e1, e2, e3⟩ := hm hc.1
      exact hs (by rw [hc.2, e1, e3]))]

/-- One cell is another one, that is none. -/
theorem Inv.spoil {a : ArrP} {D : Nat → List (List Int)} (h : Inv a D) {d s : Nat} (hd : d < 4) (hs : s < 3) {l : List Int} (hl : l.length ≤ 8) (hr : readE l d s ≠ 0) (hf : ∀ t, t < 3 → badN (withL a d s l) t ≤ 1) : Inv (withL a d s l) D :=
  ⟨h.arr.with hd hs hl, fun t ht => (h.holds t ht).with h.arr.whole hd hs (fun _ he => absurd he hr), hf⟩

theorem holds_gone {a : ArrP} (ha : Arr a) {D : Nat → List (List Int)} (h : ∀ s, s < 3 → Holds a s (D s)) {d : Nat} (hd : d < 4) : ∀ k, k ≤ 3 → ∀ s, s < 3 → Holds (goneTo a d k) s (D s)
  | 0, _ => h
  | k + 1, hk => fun s hs => (holds_gone ha h hd k (by omega) s hs).with (goneTo_arr ha hd k (by omega)).whole hd (by omega) (fun _ he => by rw [readE_nil] at he; cases he)

/-- A disk that has nothing. -/
theorem Inv.gone {a : ArrP} {D : Nat → List (List Int)} (h : Inv a D) (d : Int) (hf : worstN (goneL a d) ≤ 1) : Inv (goneL a d) D := by
  refine ⟨goneL_arr h.arr d, fun s hs => ?_, worstN_le.1 hf⟩
  unfold goneL
  split
  · exact h.holds s hs
  · exact holds_gone h.arr h.holds (by omega) 3 (Nat.le_refl _) s hs

/-- A byte rots, of a cell that is not none. -/
theorem Inv.rot {a : ArrP} {D : Nat → List (List Int)} (h : Inv a D) {d s k : Int} (hr : rotOk a d s k → readE (cellAt a d.toNat s.toNat) d s = 0) (hf : worstN (rotL a d s k) ≤ 1) : Inv (rotL a d s k) D := by
  refine ⟨rotL_arr h.arr d s k, fun t ht => ?_, worstN_le.1 hf⟩
  unfold rotL
  split
  · rename_i hk
    have hr' := hr hk
    obtain ⟨h1, h2, h3, h4, h5, h6⟩ := hk
    obtain ⟨d, rfl⟩ := Int.eq_ofNat_of_zero_le h1
    obtain ⟨s, rfl⟩ := Int.eq_ofNat_of_zero_le h3
    simp only [Int.toNat_natCast] at *
    have hd4 : d < 4 := by omega
    have hs3 : s < 3 := by omega
    have hread := (h.holds s hs3).reads d hd4 (badB_false.2 hr')
    have hoct : Octets (readX (cellAt a d s) d s) := by rw [hread]; exact ((h.holds s hs3).blocks _ (getD_mem (by rw [(h.holds s hs3).len]; exact hd4))).2
    refine (h.holds t ht).with h.arr.whole hd4 hs3 (fun _ he => ?_)
    rw [rot_bad hd4 hs3 hr' hoct (by omega)] at he
    cases he
  · exact h.holds t ht

/-- A stripe is mended. -/
theorem Inv.mend {a : ArrP} {D : Nat → List (List Int)} (h : Inv a D) (s : Int) : Inv (mendL a s) D := by
  unfold mendL
  split
  · exact h
  · rename_i hn
    have hs : ¬ (s < 0 ∨ 2 < s) := fun hc => hn (.inl hc)
    obtain ⟨s, rfl⟩ := Int.eq_ofNat_of_zero_le (show 0 ≤ s by omega)
    simp only [Int.toNat_natCast]
    have hs3 : s < 3 := by omega
    have hh := h.holds s hs3
    rw [(hh.data h.arr.whole (h.few s hs3)).2]
    have := h.put hs3 hh.len hh.blocks hh.even
    rwa [show (fun t => if t = s then D s else D t) = D from by funext t; split; subst_vars; rfl; rfl] at this

/-- What stripes hold behind a step. -/
def stepD (D : Nat → List (List Int)) (x : StepP) : Nat → List (List Int) := if wrongE x.d = 0 ∧ (x.k = 1 ∨ (x.k = 2 ∧ 0 < x.n)) then doD D x.d else D

theorem doA_wrong {a : ArrP} {D : Nat → List (List Int)} (h : Inv a D) {x : DeedP} (hw : wrongE x ≠ 0) : doA a x = a := by
  rw [doA, h.planE x, if_neg hw]
theorem fallA_wrong {a : ArrP} {D : Nat → List (List Int)} (h : Inv a D) {x : DeedP} (hw : wrongE x ≠ 0) (n : Int) : fallA a x n = a := by
  rw [fallA, h.planE x, if_neg hw]

/-- A gentle step. -/
theorem Inv.step {a : ArrP} {D : Nat → List (List Int)} (h : Inv a D) {x : StepP} (hx : Octets x.d.d) (hg : gentleB a x = true) : Inv (stepA a x) (stepD D x) := by
  rw [gentleB, Bool.and_eq_true] at hg
  obtain ⟨hag, hw1⟩ := hg
  have hf : worstN (stepA a x) ≤ 1 := of_decide_eq_true hw1
  have hag' : againB a x = false := by simpa using hag
  clear hag hw1
  unfold stepA at hf ⊢
  by_cases k1 : x.k = 1
  · simp only [if_pos k1] at hf ⊢
    by_cases hw : wrongE x.d = 0
    · rw [stepD, if_pos ⟨hw, .inl k1⟩]; exact h.doA hw hx
    · rw [stepD, if_neg (fun hc => hw hc.1), doA_wrong h hw]; exact h
  by_cases k2 : x.k = 2
  · simp only [if_neg k1, if_pos k2] at hf ⊢
    by_cases hw : wrongE x.d = 0
    · rw [fallA_eq h.arr ((h.planE x.d).trans hw)]
      split
      · rename_i hn
        rw [stepD, if_neg (fun hc => by rcases hc.2 with hc | hc <;> omega)]; exact h
      · rename_i hn
        rw [stepD, if_pos ⟨hw, .inr ⟨k2, by omega⟩⟩]; exact h.doA hw hx
    · rw [stepD, if_neg (fun hc => hw hc.1), fallA_wrong h hw]; exact h
  have hD : stepD D x = D := if_neg (fun hc => by rcases hc.2 with hc | hc <;> omega)
  rw [hD]
  simp only [if_neg k1, if_neg k2] at hf ⊢
  by_cases k3 : x.k = 3
  · simp only [if_pos k3] at hf ⊢
    split at hf
    · rename_i hn; rw [if_pos hn]; exact h
    · rename_i hn
      rw [if_neg hn]
      refine h.rot (fun hk => ?_) hf
      have hcond := hk
      obtain ⟨g1, g2, g3, g4, -, -⟩ := hcond
      rw [againB, decide_eq_false_iff_not] at hag'
      exact Decidable.byContradiction fun hc => hag' ⟨k3, by omega, by omega, hc⟩
  simp only [if_neg k3] at hf ⊢
  by_cases k4 : x.k = 4
  · simp only [if_pos k4] at hf ⊢
    exact h.gone _ hf
  simp only [if_neg k4] at hf ⊢
  split
  · exact h.mend _
  · exact h

theorem Bk_stepD (D : Nat → List (List Int)) (x : StepP) : Bk (stepD D x) = if wrongE x.d = 0 ∧ (x.k = 1 ∨ (x.k = 2 ∧ 0 < x.n)) then doL (Bk D) x.d else Bk D := by
  unfold stepD
  split
  · rename_i h; exact Bk_doD D h.1
  · rfl

theorem Inv.gently : ∀ (n : Nat) (l : List StepP) {a : ArrP} {D : Nat → List (List Int)}, (∀ s ∈ l, Octets s.d.d) → Inv a D → ∃ D', Inv (gentlyFrom l a n) D'
  | 0, l, a, D, _, h => ⟨D, by rw [gentlyFrom]; exact h⟩
  | n + 1, [], a, D, _, h => ⟨D, by rw [gentlyFrom]; exact h⟩
  | n + 1, s :: r, a, D, ho, h => by
    rw [gentlyFrom]
    split
    · rename_i hg
      exact Inv.gently n r (fun t ht => ho t (by simp [ht])) (h.step (ho s (by simp)) hg)
    · exact ⟨D, h⟩

/-- Gentle play. -/
theorem gently_inv {l : List StepP} (ho : ∀ s ∈ l, Octets s.d.d) : ∃ D, Inv (gentlyL l) D := Inv.gently 100 l ho newP_inv

end Go.Proofs.Ytjggiameajndgab

/-
  Plain: mended, it is well; one harm is no loss; turned twice it is as it was; any one of four may be gone.
-/
namespace Go.Proofs.Ytjggiameajndgab

theorem mendE_inv {a : ArrP} {D : Nat → List (List Int)} (h : Inv a D) {s : Nat} (hs : s < 3) : mendE a (s : Int) = 0 := by
  rw [mendE, if_neg (by omega)]
  simp only [Int.toNat_natCast]
  exact ((h.holds s hs).data h.arr.whole (h.few s hs)).1

theorem mendN_nat {a : ArrP} {s : Nat} (hs : s < 3) : mendN a (s : Int) = badN a s := by
  rw [mendN, if_neg (by omega)]
  simp

theorem mend_eq {a : ArrP} {D : Nat → List (List Int)} (h : Inv a D) {s : Nat} (hs : s < 3) : mendL a (s : Int) = putTo a (makeL (D s) s) s 4 := by
  obtain ⟨e1, e2⟩ := (h.holds s hs).data h.arr.whole (h.few s hs)
  rw [mendL, if_neg]
  · simp only [Int.toNat_natCast, e2]
  · simp only [Int.toNat_natCast]
    rintro (hc | hc)
    · omega
    · exact hc e1

/-- Behind mending a stripe none of its cells is none; the others are as they were. -/
theorem mend_bad {a : ArrP} {D : Nat → List (List Int)} (h : Inv a D) {s : Nat} (hs : s < 3) : badN (mendL a (s : Int)) s = 0 ∧ ∀ t, t ≠ s → badN (mendL a (s : Int)) t = badN a t := by
  rw [mend_eq h hs]
  have hh := h.holds s hs
  refine ⟨(put_holds h.arr.whole hs hh.len hh.blocks hh.even).2.2, fun t ht => ?_⟩
  refine (badN_other h.arr.whole (putTo_whole h.arr.whole _ _ 4 (Nat.le_refl _)) fun d hd => ?_).symm
  rw [putTo_twice_at h.arr.whole _ hs d t 4 (Nat.le_refl _), if_neg (fun hc => ht hc.2)]

theorem bad_zero {a : ArrP} (ha : Whole a) {s : Nat} (h : badN a s = 0) {d : Nat} (hd : d < 4) : badB a d s = false := by
  rw [badN_eq ha] at h
  cases hb : badB a d s with
  | false => rfl
  | true =>
    exfalso
    have t : (badB a d s).toNat = 1 := by rw [hb]; rfl
    obtain rfl | rfl | rfl | rfl : d = 0 ∨ d = 1 ∨ d = 2 ∨ d = 3 := by omega
    all_goals omega

/-- A stripe that is well is as it was when it is mended. -/
theorem mend_well {a : ArrP} {D : Nat → List (List Int)} (h : Inv a D) {s : Nat} (hs : s < 3) (hb : badN a s = 0) : mendL a (s : Int) = a := by
  rw [mend_eq h hs]
  have hh := h.holds s hs
  refine arr_ext (putTo_whole h.arr.whole _ _ 4 (Nat.le_refl _)) h.arr.whole (putTo_is _ _ _ _) fun d t hd ht => ?_
  rw [putTo_twice_at h.arr.whole _ hs d t 4 (Nat.le_refl _)]
  split
  · rename_i hc
    obtain ⟨-, rfl⟩ := hc
    have hg := bad_zero h.arr.whole hb hd
    rw [(make_cell (fun b hb => (hh.blocks b hb).1) hh.len hd).1, ← hh.reads d hd hg]
    exact (read_is_cell (badB_false.1 hg)).1.symm
  · rfl

/-- All is mended. -/
def mendAll (a : ArrP) : ArrP := mendL (mendL (mendL a (0 : Nat)) (1 : Nat)) (2 : Nat)

theorem mendAll_inv {a : ArrP} {D : Nat → List (List Int)} (h : Inv a D) : Inv (mendAll a) D := ((h.mend _).mend _).mend _

theorem mendAll_bad {a : ArrP} {D : Nat → List (List Int)} (h : Inv a D) : ∀ s, s < 3 → badN (mendAll a) s = 0 := by
  have h1 := h.mend ((0 : Nat) : Int)
  have h2 := h1.mend ((1 : Nat) : Int)
  obtain ⟨b0, o0⟩ := mend_bad h (s := 0) (by omega)
  obtain ⟨b1, o1⟩ := mend_bad h1 (s := 1) (by omega)
  obtain ⟨b2, o2⟩ := mend_bad h2 (s := 2) (by omega)
  intro s hs
  obtain rfl | rfl | rfl : s = 0 ∨ s = 1 ∨ s = 2 := by omega
  · exact (o2 0 (by omega)).trans ((o1 0 (by omega)).trans b0)
  · exact (o2 1 (by omega)).trans b1
  · exact b2

theorem mendAll_worst {a : ArrP} {D : Nat → List (List Int)} (h : Inv a D) : worstN (mendAll a) = 0 := by
  have := worstN_le.2 (fun s hs => Nat.le_of_eq (mendAll_bad h s hs))
  omega

/-- Mended again nothing changes. -/
theorem mendAll_again {a : ArrP} {D : Nat → List (List Int)} (h : Inv a D) (hb : ∀ s, s < 3 → badN a s = 0) : mendAll a = a ∧ mendL a (0 : Nat) = a ∧ mendL a (1 : Nat) = a ∧ mendL a (2 : Nat) = a := by
  have e0 := mend_well h (s := 0) (by omega) (hb 0 (by omega))
  have e1 := mend_well h (s := 1) (by omega) (hb 1 (by omega))
  have e2 := mend_well h (s := 2) (by omega) (hb 2 (by omega))
  exact ⟨by rw [mendAll, e0, e1, e2], e0, e1, e2⟩

/-- Mending changes no cell of another stripe. -/
theorem mendL_other {a : ArrP} (ha : Whole a) (s : Int) {d t : Nat} (h : (t : Int) ≠ s) : cellAt (mendL a s) d t = cellAt a d t := by
  unfold mendL
  split
  · rfl
  · rename_i hn
    have hs : ¬ (s < 0 ∨ 2 < s) := fun hc => hn (.inl hc)
    rw [putTo_twice_at ha _ (by omega) d t 4 (Nat.le_refl _), if_neg (fun hc => h (by omega))]

/-- A byte that rots twice is what it was. -/
theorem rotB_back (l : List Int) (k : Nat) : rotB (rotB l k) k = l := by
  by_cases hk : k < l.length
  · refine List.ext_getElem (by simp [rotB]) fun i h1 h2 => ?_
    simp only [rotB]
    rw [List.getElem_set]
    split
    · rename_i e
      subst e
      rw [List.getD_eq_getElem?_getD, List.getElem?_set_self hk]
      simp only [Option.getD_some]
      rw [rotI_back, List.getD_eq_getElem?_getD, List.getElem?_eq_getElem hk]
      rfl
    · rename_i e
      rw [List.getElem_set, if_neg e]
  · rw [rotB, rotB, List.set_eq_of_length_le (by rw [List.length_set]; omega), List.set_eq_of_length_le (by omega)]

theorem rotB_ne {l : List Int} {k : Nat} (hk : k < l.length) : rotB l k ≠ l := fun h => by
  have := congrArg (fun x => List.getD x k 0) h
  simp only [rotB] at this
  rw [List.getD_eq_getElem?_getD, List.getElem?_set_self hk] at this
  exact rotI_ne _ this

theorem rot_twice {a : ArrP} (ha : Whole a) (d s k : Int) : rotE (rotL a d s k) d s k = rotE a d s k ∧ rotL (rotL a d s k) d s k = a ∧ (rotE a d s k = 0 → rotL a d s k ≠ a) := by
  by_cases hk : rotOk a d s k
  · have hk' := hk
    obtain ⟨h1, h2, h3, h4, h5, h6⟩ := hk'
    have hd : d.toNat < 4 := by omega
    have hs : s.toNat < 3 := by omega
    have e1 : rotL a d s k = withL a d.toNat s.toNat (rotB (cellAt a d.toNat s.toNat) k.toNat) := if_pos hk
    have hc : cellAt (rotL a d s k) d.toNat s.toNat = rotB (cellAt a d.toNat s.toNat) k.toNat := by rw [e1, ha.cellAt_with hd hs, if_pos ⟨rfl, rfl⟩]
    have hok : rotOk (rotL a d s k) d s k := ⟨h1, h2, h3, h4, h5, by rw [hc, rotB, List.length_set]; exact h6⟩
    refine ⟨by rw [rotE, rotE, if_pos hok, if_pos hk], ?_, fun _ he => ?_⟩
    · rw [rotL, if_pos hok, hc, rotB_back]
      have hw : Whole (rotL a d s k) := by rw [e1]; exact withL_whole ha hd _
      refine arr_ext (withL_whole hw hd _) ha (by rw [e1]; rfl) fun d' s' hd' hs' => ?_
      rw [hw.cellAt_with hd hs]
      split
      · rename_i hc'; rw [hc'.1, hc'.2]
      · rename_i hc'; rw [e1, ha.cellAt_with hd hs, if_neg hc']
    · rw [he] at hc
      exact rotB_ne (by omega) hc.symm
  · have e1 : rotL a d s k = a := if_neg hk
    refine ⟨by rw [e1], by rw [e1, e1], fun h => ?_⟩
    rw [rotE, if_neg hk] at h
    cases h

theorem gone_cell {a : ArrP} (ha : Arr a) {d : Nat} (hd : d < 4) (d' s' : Nat) : ∀ k, k ≤ 3 → cellAt (goneTo a d k) d' s' = if d' = d ∧ s' < k then [] else cellAt a d' s'
  | 0, _ => by simp [goneTo]
  | k + 1, hk => by
    rw [goneTo, (goneTo_arr ha hd k (by omega)).whole.cellAt_with hd (by omega), gone_cell ha hd d' s' k (by omega)]
    by_cases h1 : d' = d ∧ s' = k
    · rw [if_pos h1, if_pos ⟨h1.1, by omega⟩]
    · rw [if_neg h1]
      by_cases h2 : d' = d ∧ s' < k
      · rw [if_pos h2, if_pos ⟨h2.1, by omega⟩]
      · rw [if_neg h2, if_neg (fun h => by
          by_cases h3 : s' = k
          · exact h1 ⟨h.1, h3⟩
          · exact h2 ⟨h.1, by omega⟩)]

theorem goneTo_is (a : ArrP) (d : Nat) : ∀ k, (goneTo a d k).is = a.is
  | 0 => rfl
  | k + 1 => by rw [goneTo]; exact goneTo_is a d k

/-- A disk that is gone twice is gone. -/
theorem gone_twice {a : ArrP} (ha : Arr a) (d : Int) : goneL (goneL a d) d = goneL a d := by
  by_cases h : d < 0 ∨ 3 < d
  · rw [goneL, if_pos h]
  · have e : ∀ b, goneL b d = goneTo b d.toNat 3 := fun b => if_neg h
    rw [e a, e]
    have hd : d.toNat < 4 := by omega
    have h1 := goneTo_arr ha hd 3 (Nat.le_refl _)
    refine arr_ext (goneTo_arr h1 hd 3 (Nat.le_refl _)).whole h1.whole (goneTo_is _ _ _) fun d' s' hd' hs' => ?_
    rw [gone_cell h1 hd d' s' 3 (Nat.le_refl _), gone_cell ha hd d' s' 3 (Nat.le_refl _)]
    split <;> rfl

/-- How many are none where one is another one that is none. -/
theorem badN_spoil {a : ArrP} (ha : Whole a) {d s : Nat} (hd : d < 4) (h0 : badN a s = 0) {b : ArrP} (hb : Whole b) (hc : ∀ d', d' < 4 → d' ≠ d → cellAt b d' s = cellAt a d' s) (hr : readE (cellAt b d s) d s ≠ 0) : badN b s = 1 := by
  have g : ∀ d', d' < 4 → d' ≠ d → badB b d' s = false := fun d' h1 h2 => by rw [badB_false, hc d' h1 h2]; exact badB_false.1 (bad_zero ha h0 h1)
  have gd : badB b d s = true := by simpa [badB] using hr
  rw [badN_eq hb]
  obtain rfl | rfl | rfl | rfl : d = 0 ∨ d = 1 ∨ d = 2 ∨ d = 3 := by omega
  · rw [gd, g 1 (by omega) (by omega), g 2 (by omega) (by omega), g 3 (by omega) (by omega)]; rfl
  · rw [gd, g 0 (by omega) (by omega), g 2 (by omega) (by omega), g 3 (by omega) (by omega)]; rfl
  · rw [gd, g 0 (by omega) (by omega), g 1 (by omega) (by omega), g 3 (by omega) (by omega)]; rfl
  · rw [gd, g 0 (by omega) (by omega), g 1 (by omega) (by omega), g 2 (by omega) (by omega)]; rfl

theorem worst_one {a : ArrP} (h : ∀ s, s < 3 → badN a s ≤ 1) {s : Nat} (hs : s < 3) (h1 : badN a s = 1) : worstN a = 1 := by
  have := worstN_le.2 h
  have h2 : ¬ worstN a ≤ 0 := fun hc => by have := worstN_le.1 hc s hs; omega
  omega

theorem worst_zero {a : ArrP} : worstN a = 0 ↔ ∀ s, s < 3 → badN a s = 0 := by
  constructor
  · intro h s hs
    have := worstN_le.1 (Nat.le_of_eq h) s hs
    omega
  · intro h
    have := worstN_le.2 (fun s hs => Nat.le_of_eq (h s hs))
    omega

/-- Of an array that is well a disk may be gone. -/
theorem gone_one {a : ArrP} {D : Nat → List (List Int)} (h : Inv a D) (h0 : worstN a = 0) {d : Int} (hd : 0 ≤ d ∧ d ≤ 3) : worstN (goneL a d) = 1 ∧ Inv (goneL a d) D := by
  have hz := worst_zero.1 h0
  have e : goneL a d = goneTo a d.toNat 3 := if_neg (by omega)
  have hd4 : d.toNat < 4 := by omega
  have hA := goneTo_arr h.arr hd4 3 (Nat.le_refl _)
  have hb : ∀ s, s < 3 → badN (goneL a d) s = 1 := fun s hs => by
    rw [e]
    refine badN_spoil h.arr.whole hd4 (hz s hs) hA.whole (fun d' _ hne => ?_) ?_
    · rw [gone_cell h.arr hd4 d' s 3 (Nat.le_refl _), if_neg (fun hc => hne hc.1)]
    · rw [gone_cell h.arr hd4 _ s 3 (Nat.le_refl _), if_pos ⟨rfl, hs⟩, readE_nil]; decide
  have hw : worstN (goneL a d) = 1 := worst_one (fun s hs => Nat.le_of_eq (hb s hs)) (s := 0) (by omega) (hb 0 (by omega))
  exact ⟨hw, h.gone d (Nat.le_of_eq hw)⟩

/-- Of an array that is well a byte may rot. -/
theorem rot_one {a : ArrP} {D : Nat → List (List Int)} (h : Inv a D) (h0 : worstN a = 0) {d s k : Int} (hk : rotOk a d s k) : worstN (rotL a d s k) = 1 ∧ Inv (rotL a d s k) D := by
  have hz := worst_zero.1 h0
  have e : rotL a d s k = withL a d.toNat s.toNat (rotB (cellAt a d.toNat s.toNat) k.toNat) := if_pos hk
  have hk' := hk
  obtain ⟨h1, h2, h3, h4, h5, h6⟩ := hk'
  have hd4 : d.toNat < 4 := by omega
  have hs3 : s.toNat < 3 := by omega
  have hgood := bad_zero h.arr.whole (hz _ hs3) hd4
  have hr : readE (cellAt a d.toNat s.toNat) d s = 0 := by
    have := badB_false.1 hgood
    rwa [show ((d.toNat : Nat) : Int) = d from by omega, show ((s.toNat : Nat) : Int) = s from by omega] at this
  have hread := (h.holds _ hs3).reads _ hd4 hgood
  have hoct : Octets (readX (cellAt a d.toNat s.toNat) d.toNat s.toNat) := by rw [hread]; exact ((h.holds _ hs3).blocks _ (getD_mem (by rw [(h.holds _ hs3).len]; exact hd4))).2
  have hA := rotL_arr h.arr d s k
  have hc : ∀ d' s', cellAt (rotL a d s k) d' s' = if d' = d.toNat ∧ s' = s.toNat then rotB (cellAt a d.toNat s.toNat) k.toNat else cellAt a d' s' := fun d' s' => by rw [e, h.arr.whole.cellAt_with hd4 hs3]
  have hb1 : badN (rotL a d s k) s.toNat = 1 := by
    refine badN_spoil h.arr.whole hd4 (hz _ hs3) hA.whole (fun d' _ hne => ?_) ?_
    · rw [hc, if_neg (fun hc => hne hc.1)]
    · rw [hc, if_pos ⟨rfl, rfl⟩, rot_bad hd4 hs3 (badB_false.1 hgood) hoct (by omega)]; decide
  have hb : ∀ t, t < 3 → badN (rotL a d s k) t ≤ 1 := fun t ht => by
    by_cases hts : t = s.toNat
    · subst hts; omega
    · rw [badN_other hA.whole h.arr.whole (fun d' _ => by rw [hc, if_neg (fun hc => hts hc.2)]), hz t ht]; omega
  have hw := worst_one hb hs3 hb1
  exact ⟨hw, h.rot (fun _ => hr) (Nat.le_of_eq hw)⟩

/-- Four cells, as an array that has them in each stripe. -/
def wrap4 (ls : List (List Int)) : ArrP := ⟨ls.map fun c => [c, c, c], []⟩
theorem wrap4_whole {ls : List (List Int)} (h : ls.length = 4) : Whole (wrap4 ls) := ⟨by simp [wrap4, h], fun x hx => by
  simp only [wrap4, List.mem_map] at hx
  obtain ⟨c, -, rfl⟩ := hx
  rfl⟩
theorem wrap4_cells {ls : List (List Int)} {s : Nat} (hs : s < 3) : cellsL (wrap4 ls) s = ls := by
  obtain rfl | rfl | rfl : s = 0 ∨ s = 1 ∨ s = 2 := by omega
  all_goals
    simp only [cellsL, wrap4, List.map_map]
    exact List.map_id ls
theorem wrap4_at {ls : List (List Int)} {s : Nat} (hs : s < 3) (d : Nat) : cellAt (wrap4 ls) d s = ls.getD d [] := by rw [← cellsL_getD, wrap4_cells hs]

theorem badL_wrap {ls : List (List Int)} (h : ls.length = 4) {s : Nat} (hs : s < 3) : badL ls s = (List.range 4).filter (fun d => badB (wrap4 ls) d s) := by
  have := badL_eq (wrap4_whole h) s
  rwa [wrap4_cells hs] at this

end Go.Proofs.Ytjggiameajndgab

/-
  Plain: what the laws of arrays rest on.
-/
namespace Go.Proofs.Ytjggiameajndgab

theorem model_yes {a : ArrP} {D : Nat → List (List Int)} (h : Inv a D) {x : DeedP} (hw : wrongE x = 0) (hx : Octets x.d) : planE a x = 0 ∧ blkE (doA a x) = 0 ∧ blkL (doA a x) = doL (blkL a) x ∧ (blkL a).length = 9 := by
  have h1 := (h.doA hw hx).blocks
  have h0 := h.blocks
  refine ⟨(h.planE x).trans hw, h1.1, ?_, ?_⟩
  · rw [h1.2, Bk_doD D hw, h0.2]
  · rw [h0.2, Bk_length]

theorem model_no {a : ArrP} {D : Nat → List (List Int)} (h : Inv a D) {x : DeedP} (hw : wrongE x ≠ 0) : planE a x = wrongE x ∧ doA a x = a := ⟨h.planE x, doA_wrong h hw⟩

theorem half_plain {a : ArrP} {D : Nat → List (List Int)} (h : Inv a D) {x : DeedP} (hx : Octets x.d) (he : planE a x = 0) (n : Int) : wrongE x = 0 ∧ blkE (mountL (writeL a (planI a x) n)) = 0 ∧ (mountL (writeL a (planI a x) n)).is = [] ∧ (blkL (mountL (writeL a (planI a x) n)) = blkL a ∨ blkL (mountL (writeL a (planI a x) n)) = doL (blkL a) x) := by
  have hw : wrongE x = 0 := (h.planE x).symm.trans he
  have e : mountL (writeL a (planI a x) n) = fallA a x n := by rw [fallA, if_pos he]
  have hA := fallA_arr h.arr x n
  have hm := model_yes h hw hx
  have h0 := h.blocks
  rw [e]
  refine ⟨hw, ?_, hA.none, ?_⟩
  · rw [fallA_eq h.arr he]
    split
    · exact h0.1
    · exact hm.2.1
  · rw [fallA_eq h.arr he]
    split
    · exact .inl rfl
    · exact .inr hm.2.2.1

theorem read_plain {a : ArrP} {D : Nat → List (List Int)} (h : Inv a D) (h0 : worstN a = 0) {n : Int} (hn : 0 ≤ n ∧ n < 9) : rdE a n = 0 ∧ rdE (goneL a (whereD n)) n = 0 ∧ rdX (goneL a (whereD n)) n = rdX a n ∧ (rdX a n).length = 4 := by
  obtain ⟨e1, -, -, hd4, hs3⟩ := where_bd hn
  obtain ⟨k, rfl⟩ : ∃ k : Nat, n = (k : Int) := ⟨n.toNat, by omega⟩
  have hk : k < 9 := by omega
  have hg := (gone_one h h0 (d := whereD (k : Int)) (by omega)).2
  have r1 := h.read hk
  have r2 := hg.read hk
  refine ⟨r1.1, r2.1, r2.2.trans r1.2.symm, ?_⟩
  rw [r1.2]
  exact ((h.holds _ hs3).blocks _ (getD_mem (by rw [(h.holds _ hs3).len]; exact hd4))).1

theorem doA_no {a : ArrP} {x : DeedP} (he : planE a x ≠ 0) : doA a x = a := if_neg he

theorem stripe_cells {a : ArrP} (ha : Arr a) {x : DeedP} (he : planE a x = 0) (d t : Nat) : cellAt (doA a x) d t = if d < 4 ∧ t = sOf x.n then (makeL (planOut (planBl a x) (sOf x.n)) (sOf x.n)).getD d [] else cellAt a d t := by
  obtain ⟨s, hs3, hsx, -, -, hi⟩ := planI_ok he
  rw [doA_eq ha he, hi, ← hsx]
  simp only [Int.toNat_natCast]
  exact putTo_twice_at ha.whole _ hs3 d t 4 (Nat.le_refl _)

theorem stripe_other {a : ArrP} (ha : Arr a) {x : DeedP} (he : planE a x = 0) {t : Nat} (ht : t ≠ sOf x.n) : cellsL (doA a x) t = cellsL a t := by
  refine ext_getD (by rw [cellsL_length, cellsL_length, (doA_arr ha x).whole.1, ha.whole.1]) fun i hi => ?_
  rw [cellsL_getD, cellsL_getD, stripe_cells ha he, if_neg (fun hc => ht hc.2)]

theorem stripe_own {a : ArrP} (ha : Arr a) {x : DeedP} (he : planE a x = 0) : dataE (cellsL (doA a x) (sOf x.n)) (sOf x.n) = 0 ∧ badL (cellsL (doA a x) (sOf x.n)) (sOf x.n) = [] ∧ xorAll (dataL (cellsL (doA a x) (sOf x.n)) (sOf x.n)) = [0, 0, 0, 0] ∧ ∀ b ∈ dataL (cellsL (doA a x) (sOf x.n)) (sOf x.n), b.length = 4 := by
  obtain ⟨s, hs3, hsx, -, -, hi⟩ := planI_ok he
  obtain ⟨hb4, hb9⟩ := planBl_blocks ha.whole he
  have h4 : ∀ b ∈ planOut (planBl a x) s, b.length = 4 := planOut_blocks hb4 hb9 hs3
  have hl : (planOut (planBl a x) s).length = 4 := planOut_length _ _
  have hev := planOut_even (planBl a x) hs3
  have hml : (makeL (planOut (planBl a x) s) s).length = 4 := by rw [makeL, List.length_map, List.length_range, hl]
  have hc : cellsL (doA a x) s = makeL (planOut (planBl a x) s) s := by
    refine ext_getD (by rw [cellsL_length, (doA_arr ha x).whole.1, hml]) fun i hi' => ?_
    rw [cellsL_length, (doA_arr ha x).whole.1] at hi'
    rw [cellsL_getD, stripe_cells ha he, ← hsx, if_pos ⟨hi', rfl⟩]
  rw [← hsx, hc]
  generalize planOut (planBl a x) s = ds at *
  have hb : ∀ d, d < 4 → isBad (makeL ds s) s d = false := fun d hd => by rw [isBad, (make_cell h4 hl hd).2.1]; rfl
  have hbad : badL (makeL ds s) s = [] := by
    rw [badL, badTo, hml, List.filter_eq_nil_iff]
    intro d hd
    rw [hb d (List.mem_range.1 hd)]
    decide
  have hd : dataL (makeL ds s) s = ds := by
    rw [dataL, if_neg (by rw [hbad]; decide), hml]
    refine ext_getD (by rw [List.length_map, List.length_range, hl]) fun i hi' => ?_
    rw [List.length_map, List.length_range] at hi'
    have : datAt (makeL ds s) s i = ds.getD i [] := by
      rw [datAt, hb i hi']
      exact (make_cell h4 hl hi').2.2
    simp [List.getD_eq_getElem?_getD, hi', this]
  refine ⟨by rw [dataE, hbad]; rfl, hbad, ?_, by rw [hd]; exact h4⟩
  rw [hd, xorAll, hev 0 (by omega), hev 1 (by omega), hev 2 (by omega), hev 3 (by omega)]
  rfl

theorem plan_no {a : ArrP} {x : DeedP} (he : planE a x ≠ 0) : (planI a x).2 = [] := by rw [planI, if_pos he]

end Go.Proofs.Ytjggiameajndgab
