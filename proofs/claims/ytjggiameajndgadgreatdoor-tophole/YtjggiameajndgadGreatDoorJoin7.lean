import Derived.Maps.OwnSet
import Derived.Test.YtjggiameajndgadGreatDoorJoin6
/-
  Plain: mended, it is well; one harm is no loss; turned twice it is as it was; any one of four may be gone.
-/
namespace Go.Proofs.YtjggiameajndgadGreatDoor

theorem mendE_inv {a : ArrP} {D : Nat → List (List Int)} (h : Inv a D) {s : Nat} (hs : s < 3) : mendE a (s : Int) = 0 := by
  rw [mendE, if_neg (by omega)]
  simp only [Int.toNat_natCast]
  exact ((h.holds s hs).data h.arr.whole (h.few s hs)).1

theorem mendN_nat {a : ArrP} {s : Nat} (hs : s < 3) : mendN a (s : Int) = badN a s := by
  rw [mendN, if_neg (by omega)]
  simp

theorem mend_eq {a : ArrP} {D : Nat → List (List Int)} (h : Inv a D) {s : Nat} (hs : s < 3) : mendL a (s : Int) = putTo a (makeL (D s) s) s 4 := by
  obtain ⟨e1, e2⟩ := (h.holds s hs).data h.arr.whole (h.few s hs)
  rw [mendL, if_neg]
  · simp only [Int.toNat_natCast, e2]
  · simp only [Int.toNat_natCast]
    rintro (hc | hc)
    · omega
    · exact hc e1

/-- Behind mending a stripe none of its cells is none; the others are as they were. -/
theorem mend_bad {a : ArrP} {D : Nat → List (List Int)} (h : Inv a D) {s : Nat} (hs : s < 3) : badN (mendL a (s : Int)) s = 0 ∧ ∀ t, t ≠ s → badN (mendL a (s : Int)) t = badN a t := by
  rw [mend_eq h hs]
  have hh := h.holds s hs
  refine ⟨(put_holds h.arr.whole hs hh.len hh.blocks hh.even).2.2, fun t ht => ?_⟩
  refine (badN_other h.arr.whole (putTo_whole h.arr.whole _ _ 4 (Nat.le_refl _)) fun d hd => ?_).symm
  rw [putTo_twice_at h.arr.whole _ hs d t 4 (Nat.le_refl _), if_neg (fun hc => ht hc.2)]

theorem bad_zero {a : ArrP} (ha : Whole a) {s : Nat} (h : badN a s = 0) {d : Nat} (hd : d < 4) : badB a d s = false := by
  rw [badN_eq ha] at h
  cases hb : badB a d s with
  | false => rfl
  | true =>
    exfalso
    have t : (badB a d s).toNat = 1 := by rw [hb]; rfl
    obtain rfl | rfl | rfl | rfl : d = 0 ∨ d = 1 ∨ d = 2 ∨ d = 3 := by omega
    all_goals omega

/-- A stripe that is well is as it was when it is mended. -/
theorem mend_well {a : ArrP} {D : Nat → List (List Int)} (h : Inv a D) {s : Nat} (hs : s < 3) (hb : badN a s = 0) : mendL a (s : Int) = a := by
  rw [mend_eq h hs]
  have hh := h.holds s hs
  refine arr_ext (putTo_whole h.arr.whole _ _ 4 (Nat.le_refl _)) h.arr.whole (putTo_is _ _ _ _) fun d t hd ht => ?_
  rw [putTo_twice_at h.arr.whole _ hs d t 4 (Nat.le_refl _)]
  split
  · rename_i hc
    obtain ⟨-, rfl⟩ := hc
    have hg := bad_zero h.arr.whole hb hd
    rw [(make_cell (fun b hb => (hh.blocks b hb).1) hh.len hd).1, ← hh.reads d hd hg]
    exact (read_is_cell (badB_false.1 hg)).1.symm
  · rfl

/-- All is mended. -/
def mendAll (a : ArrP) : ArrP := mendL (mendL (mendL a (0 : Nat)) (1 : Nat)) (2 : Nat)

theorem mendAll_inv {a : ArrP} {D : Nat → List (List Int)} (h : Inv a D) : Inv (mendAll a) D := ((h.mend _).mend _).mend _

theorem mendAll_bad {a : ArrP} {D : Nat → List (List Int)} (h : Inv a D) : ∀ s, s < 3 → badN (mendAll a) s = 0 := by
  have h1 := h.mend ((0 : Nat) : Int)
  have h2 := h1.mend ((1 : Nat) : Int)
  obtain ⟨b0, o0⟩ := mend_bad h (s := 0) (by omega)
  obtain ⟨b1, o1⟩ := mend_bad h1 (s := 1) (by omega)
  obtain ⟨b2, o2⟩ := mend_bad h2 (s := 2) (by omega)
  intro s hs
  obtain rfl | rfl | rfl : s = 0 ∨ s = 1 ∨ s = 2 := by omega
  · exact (o2 0 (by omega)).trans ((o1 0 (by omega)).trans b0)
  · exact (o2 1 (by omega)).trans b1
  · exact b2

theorem mendAll_worst {a : ArrP} {D : Nat → List (List Int)} (h : Inv a D) : worstN (mendAll a) = 0 := by
  have := worstN_le.2 (fun s hs => Nat.le_of_eq (mendAll_bad h s hs))
  omega

/-- Mended again nothing changes. -/
theorem mendAll_again {a : ArrP} {D : Nat → List (List Int)} (h : Inv a D) (hb : ∀ s, s < 3 → badN a s = 0) : mendAll a = a ∧ mendL a (0 : Nat) = a ∧ mendL a (1 : Nat) = a ∧ mendL a (2 : Nat) = a := by
  have e0 := mend_well h (s := 0) (by omega) (hb 0 (by omega))
  have e1 := mend_well h (s := 1) (by omega) (hb 1 (by omega))
  have e2 := mend_well h (s := 2) (by omega) (hb 2 (by omega))
  exact ⟨by rw [mendAll, e0, e1, e2], e0, e1, e2⟩

/-- Mending changes no cell of another stripe. -/
theorem mendL_other {a : ArrP} (ha : Whole a) (s : Int) {d t : Nat} (h : (t : Int) ≠ s) : cellAt (mendL a s) d t = cellAt a d t := by
  unfold mendL
  split
  · rfl
  · rename_i hn
    have hs : ¬ (s < 0 ∨ 2 < s) := fun hc => hn (.inl hc)
    rw [putTo_twice_at ha _ (by omega) d t 4 (Nat.le_refl _), if_neg (fun hc => h (by omega))]

/-- A byte that rots twice is what it was. -/
theorem rotB_back (l : List Int) (k : Nat) : rotB (rotB l k) k = l := by
  by_cases hk : k < l.length
  · refine List.ext_getElem (by simp [rotB]) fun i h1 h2 => ?_
    simp only [rotB]
    rw [List.getElem_set]
    split
    · rename_i e
      subst e
      rw [List.getD_eq_getElem?_getD, List.getElem?_set_self hk]
      simp only [Option.getD_some]
      rw [rotI_back, List.getD_eq_getElem?_getD, List.getElem?_eq_getElem hk]
      rfl
    · rename_i e
      rw [List.getElem_set, if_neg e]
  · rw [rotB, rotB, List.set_eq_of_length_le (by rw [List.length_set]; omega), List.set_eq_of_length_le (by omega)]

theorem rotB_ne {l : List Int} {k : Nat} (hk : k < l.length) : rotB l k ≠ l := fun h => by
  have := congrArg (fun x => List.getD x k 0) h
  simp only [rotB] at this
  rw [List.getD_eq_getElem?_getD, List.getElem?_set_self hk] at this
  exact rotI_ne _ this

theorem rot_twice {a : ArrP} (ha : Whole a) (d s k : Int) : rotE (rotL a d s k) d s k = rotE a d s k ∧ rotL (rotL a d s k) d s k = a ∧ (rotE a d s k = 0 → rotL a d s k ≠ a) := by
  by_cases hk : rotOk a d s k
  · have hk' := hk
    obtain ⟨h1, h2, h3, h4, h5, h6⟩ := hk'
    have hd : d.toNat < 4 := by omega
    have hs : s.toNat < 3 := by omega
    have e1 : rotL a d s k = withL a d.toNat s.toNat (rotB (cellAt a d.toNat s.toNat) k.toNat) := if_pos hk
    have hc : cellAt (rotL a d s k) d.toNat s.toNat = rotB (cellAt a d.toNat s.toNat) k.toNat := by rw [e1, ha.cellAt_with hd hs, if_pos ⟨rfl, rfl⟩]
    have hok : rotOk (rotL a d s k) d s k := ⟨h1, h2, h3, h4, h5, by rw [hc, rotB, List.length_set]; exact h6⟩
    refine ⟨by rw [rotE, rotE, if_pos hok, if_pos hk], ?_, fun _ he => ?_⟩
    · rw [rotL, if_pos hok, hc, rotB_back]
      have hw : Whole (rotL a d s k) := by rw [e1]; exact withL_whole ha hd _
      refine arr_ext (withL_whole hw hd _) ha (by rw [e1]; rfl) fun d' s' hd' hs' => ?_
      rw [hw.cellAt_with hd hs]
      split
      · rename_i hc'; rw [hc'.1, hc'.2]
      · rename_i hc'; rw [e1, ha.cellAt_with hd hs, if_neg hc']
    · rw [he] at hc
      exact rotB_ne (by omega) hc.symm
  · have e1 : rotL a d s k = a := if_neg hk
    refine ⟨by rw [e1], by rw [e1, e1], fun h => ?_⟩
    rw [rotE, if_neg hk] at h
    cases h

theorem gone_cell {a : ArrP} (ha : Arr a) {d : Nat} (hd : d < 4) (d' s' : Nat) : ∀ k, k ≤ 3 → cellAt (goneTo a d k) d' s' = if d' = d ∧ s' < k then [] else cellAt a d' s'
  | 0, _ => by simp [goneTo]
  | k + 1, hk => by
    rw [goneTo, (goneTo_arr ha hd k (by omega)).whole.cellAt_with hd (by omega), gone_cell ha hd d' s' k (by omega)]
    by_cases h1 : d' = d ∧ s' = k
    · rw [if_pos h1, if_pos ⟨h1.1, by omega⟩]
    · rw [if_neg h1]
      by_cases h2 : d' = d ∧ s' < k
      · rw [if_pos h2, if_pos ⟨h2.1, by omega⟩]
      · rw [if_neg h2, if_neg (fun h => by
          by_cases h3 : s' = k
          · exact h1 ⟨h.1, h3⟩
          · exact h2 ⟨h.1, by omega⟩)]

theorem goneTo_is (a : ArrP) (d : Nat) : ∀ k, (goneTo a d k).is = a.is
  | 0 => rfl
  | k + 1 => by rw [goneTo]; exact goneTo_is a d k

/-- A disk that is gone twice is gone. -/
theorem gone_twice {a : ArrP} (ha : Arr a) (d : Int) : goneL (goneL a d) d = goneL a d := by
  by_cases h : d < 0 ∨ 3 < d
  · rw [goneL, if_pos h]
  · have e : ∀ b, goneL b d = goneTo b d.toNat 3 := fun b => if_neg h
    rw [e a, e]
    have hd : d.toNat < 4 := by omega
    have h1 := goneTo_arr ha hd 3 (Nat.le_refl _)
    refine arr_ext (goneTo_arr h1 hd 3 (Nat.le_refl _)).whole h1.whole (goneTo_is _ _ _) fun d' s' hd' hs' => ?_
    rw [gone_cell h1 hd d' s' 3 (Nat.le_refl _), gone_cell ha hd d' s' 3 (Nat.le_refl _)]
    split <;> rfl

/-- How many are none where one is another one that is none. -/
theorem badN_spoil {a : ArrP} (ha : Whole a) {d s : Nat} (hd : d < 4) (h0 : badN a s = 0) {b : ArrP} (hb : Whole b) (hc : ∀ d', d' < 4 → d' ≠ d → cellAt b d' s = cellAt a d' s) (hr : readE (cellAt b d s) d s ≠ 0) : badN b s = 1 := by
  have g : ∀ d', d' < 4 → d' ≠ d → badB b d' s = false := fun d' h1 h2 => by rw [badB_false, hc d' h1 h2]; exact badB_false.1 (bad_zero ha h0 h1)
  have gd : badB b d s = true := by simpa [badB] using hr
  rw [badN_eq hb]
  obtain rfl | rfl | rfl | rfl : d = 0 ∨ d = 1 ∨ d = 2 ∨ d = 3 := by omega
  · rw [gd, g 1 (by omega) (by omega), g 2 (by omega) (by omega), g 3 (by omega) (by omega)]; rfl
  · rw [gd, g 0 (by omega) (by omega), g 2 (by omega) (by omega), g 3 (by omega) (by omega)]; rfl
  · rw [gd, g 0 (by omega) (by omega), g 1 (by omega) (by omega), g 3 (by omega) (by omega)]; rfl
  · rw [gd, g 0 (by omega) (by omega), g 1 (by omega) (by omega), g 2 (by omega) (by omega)]; rfl

theorem worst_one {a : ArrP} (h : ∀ s, s < 3 → badN a s ≤ 1) {s : Nat} (hs : s < 3) (h1 : badN a s = 1) : worstN a = 1 := by
  have := worstN_le.2 h
  have h2 : ¬ worstN a ≤ 0 := fun hc => by have := worstN_le.1 hc s hs; omega
  omega

theorem worst_zero {a : ArrP} : worstN a = 0 ↔ ∀ s, s < 3 → badN a s = 0 := by
  constructor
  · intro h s hs
    have := worstN_le.1 (Nat.le_of_eq h) s hs
    omega
  · intro h
    have := worstN_le.2 (fun s hs => Nat.le_of_eq (h s hs))
    omega

/-- Of an array that is well a disk may be gone. -/
theorem gone_one {a : ArrP} {D : Nat → List (List Int)} (h : Inv a D) (h0 : worstN a = 0) {d : Int} (hd : 0 ≤ d ∧ d ≤ 3) : worstN (goneL a d) = 1 ∧ Inv (goneL a d) D := by
  have hz := worst_zero.1 h0
  have e : goneL a d = goneTo a d.toNat 3 := if_neg (by omega)
  have hd4 : d.toNat < 4 := by omega
  have hA := goneTo_arr h.arr hd4 3 (Nat.le_refl _)
  have hb : ∀ s, s < 3 → badN (goneL a d) s = 1 := fun s hs => by
    rw [e]
    refine badN_spoil h.arr.whole hd4 (hz s hs) hA.whole (fun d' _ hne => ?_) ?_
    · rw [gone_cell h.arr hd4 d' s 3 (Nat.le_refl _), if_neg (fun hc => hne hc.1)]
    · rw [gone_cell h.arr hd4 _ s 3 (Nat.le_refl _), if_pos ⟨rfl, hs⟩, readE_nil]; decide
  have hw : worstN (goneL a d) = 1 := worst_one (fun s hs => Nat.le_of_eq (hb s hs)) (s := 0) (by omega) (hb 0 (by omega))
  exact ⟨hw, h.gone d (Nat.le_of_eq hw)⟩

/-- Of an array that is well a byte may rot. -/
theorem rot_one {a : ArrP} {D : Nat → List (List Int)} (h : Inv a D) (h0 : worstN a = 0) {d s k : Int} (hk : rotOk a d s k) : worstN (rotL a d s k) = 1 ∧ Inv (rotL a d s k) D := by
  have hz := worst_zero.1 h0
  have e : rotL a d s k = withL a d.toNat s.toNat (rotB (cellAt a d.toNat s.toNat) k.toNat) := if_pos hk
  have hk' := hk
  obtain ⟨h1, h2, h3, h4, h5, h6⟩ := hk'
  have hd4 : d.toNat < 4 := by omega
  have hs3 : s.toNat < 3 := by omega
  have hgood := bad_zero h.arr.whole (hz _ hs3) hd4
  have hr : readE (cellAt a d.toNat s.toNat) d s = 0 := by
    have := badB_false.1 hgood
    rwa [show ((d.toNat : Nat) : Int) = d from by omega, show ((s.toNat : Nat) : Int) = s from by omega] at this
  have hread := (h.holds _ hs3).reads _ hd4 hgood
  have hoct : Octets (readX (cellAt a d.toNat s.toNat) d.toNat s.toNat) := by rw [hread]; exact ((h.holds _ hs3).blocks _ (getD_mem (by rw [(h.holds _ hs3).len]; exact hd4))).2
  have hA := rotL_arr h.arr d s k
  have hc : ∀ d' s', cellAt (rotL a d s k) d' s' = if d' = d.toNat ∧ s' = s.toNat then rotB (cellAt a d.toNat s.toNat) k.toNat else cellAt a d' s' := fun d' s' => by rw [e, h.arr.whole.cellAt_with hd4 hs3]
  have hb1 : badN (rotL a d s k) s.toNat = 1 := by
    refine badN_spoil h.arr.whole hd4 (hz _ hs3) hA.whole (fun d' _ hne => ?_) ?_
    · rw [hc, if_neg (fun hc => hne hc.1)]
    · rw [hc, if_pos ⟨rfl, rfl⟩, rot_bad hd4 hs3 (badB_false.1 hgood) hoct (by omega)]; decide
  have hb : ∀ t, t < 3 → badN (rotL a d s k) t ≤ 1 := fun t ht => by
    by_cases hts : t = s.toNat
    · subst hts; omega
    · rw [badN_other hA.whole h.arr.whole (fun d' _ => by rw [hc, if_neg (fun hc => hts hc.2)]), hz t ht]; omega
  have hw := worst_one hb hs3 hb1
  exact ⟨hw, h.rot (fun _ => hr) (Nat.le_of_eq hw)⟩

/-- Four cells, as an array that has them in each stripe. -/
def wrap4 (ls : List (List Int)) : ArrP := ⟨ls.map fun c => [c, c, c], []⟩
theorem wrap4_whole {ls : List (List Int)} (h : ls.length = 4) : Whole (wrap4 ls) := ⟨by simp [wrap4, h], fun x hx => by
  simp only [wrap4, List.mem_map] at hx
  obtain ⟨c, -, rfl⟩ := hx
  rfl⟩
theorem wrap4_cells {ls : List (List Int)} {s : Nat} (hs : s < 3) : cellsL (wrap4 ls) s = ls := by
  obtain rfl | rfl | rfl : s = 0 ∨ s = 1 ∨ s = 2 := by omega
  all_goals
    simp only [cellsL, wrap4, List.map_map]
    exact List.map_id ls
theorem wrap4_at {ls : List (List Int)} {s : Nat} (hs : s < 3) (d : Nat) : cellAt (wrap4 ls) d s = ls.getD d [] := by rw [← cellsL_getD, wrap4_cells hs]

theorem badL_wrap {ls : List (List Int)} (h : ls.length = 4) {s : Nat} (hs : s < 3) : badL ls s = (List.range 4).filter (fun d => badB (wrap4 ls) d s) := by
  have := badL_eq (wrap4_whole h) s
  rwa [wrap4_cells hs] at this

end Go.Proofs.YtjggiameajndgadGreatDoor

/-
  Plain: what the laws of arrays rest on.
-/
namespace Go.Proofs.YtjggiameajndgadGreatDoor

theorem model_yes {a : ArrP} {D : Nat → List (List Int)} (h : Inv a D) {x : DeedP} (hw : wrongE x = 0) (hx : Octets x.d) : planE a x = 0 ∧ blkE (doA a x) = 0 ∧ blkL (doA a x) = doL (blkL a) x ∧ (blkL a).length = 9 := by
  have h1 := (h.doA hw hx).blocks
  have h0 := h.blocks
  refine ⟨(h.planE x).trans hw, h1.1, ?_, ?_⟩
  · rw [h1.2, Bk_doD D hw, h0.2]
  · rw [h0.2, Bk_length]

theorem model_no {a : ArrP} {D : Nat → List (List Int)} (h : Inv a D) {x : DeedP} (hw : wrongE x ≠ 0) : planE a x = wrongE x ∧ doA a x = a := ⟨h.planE x, doA_wrong h hw⟩

theorem half_plain {a : ArrP} {D : Nat → List (List Int)} (h : Inv a D) {x : DeedP} (hx : Octets x.d) (he : planE a x = 0) (n : Int) : wrongE x = 0 ∧ blkE (mountL (writeL a (planI a x) n)) = 0 ∧ (mountL (writeL a (planI a x) n)).is = [] ∧ (blkL (mountL (writeL a (planI a x) n)) = blkL a ∨ blkL (mountL (writeL a (planI a x) n)) = doL (blkL a) x) := by
  have hw : wrongE x = 0 := (h.planE x).symm.trans he
  have e : mountL (writeL a (planI a x) n) = fallA a x n := by rw [fallA, if_pos he]
  have hA := fallA_arr h.arr x n
  have hm := model_yes h hw hx
  have h0 := h.blocks
  rw [e]
  refine ⟨hw, ?_, hA.none, ?_⟩
  · rw [fallA_eq h.arr he]
    split
    · exact h0.1
    · exact hm.2.1
  · rw [fallA_eq h.arr he]
    split
    · exact .inl rfl
    · exact .inr hm.2.2.1

theorem read_plain {a : ArrP} {D : Nat → List (List Int)} (h : Inv a D) (h0 : worstN a = 0) {n : Int} (hn : 0 ≤ n ∧ n < 9) : rdE a n = 0 ∧ rdE (goneL a (whereD n)) n = 0 ∧ rdX (goneL a (whereD n)) n = rdX a n ∧ (rdX a n).length = 4 := by
  obtain ⟨e1, -, -, hd4, hs3⟩ := where_bd hn
  obtain ⟨k, rfl⟩ : ∃ k : Nat, n = (k : Int) := ⟨n.toNat, by omega⟩
  have hk : k < 9 := by omega
  have hg := (gone_one h h0 (d := whereD (k : Int)) (by omega)).2
  have r1 := h.read hk
  have r2 := hg.read hk
  refine ⟨r1.1, r2.1, r2.2.trans r1.2.symm, ?_⟩
  rw [r1.2]
  exact ((h.holds _ hs3).blocks _ (getD_mem (by rw [(h.holds _ hs3).len]; exact hd4))).1

theorem doA_no {a : ArrP} {x : DeedP} (he : planE a x ≠ 0) : doA a x = a := if_neg he

theorem stripe_cells {a : ArrP} (ha : Arr a) {x : DeedP} (he : planE a x = 0) (d t : Nat) : cellAt (doA a x) d t = if d < 4 ∧ t = sOf x.n then (makeL (planOut (planBl a x) (sOf x.n)) (sOf x.n)).getD d [] else cellAt a d t := by
  obtain ⟨s, hs3, hsx, -, -, hi⟩ := planI_ok he
  rw [doA_eq ha he, hi, ← hsx]
  simp only [Int.toNat_natCast]
  exact putTo_twice_at ha.whole _ hs3 d t 4 (Nat.le_refl _)

theorem stripe_other {a : ArrP} (ha : Arr a) {x : DeedP} (he : planE a x = 0) {t : Nat} (ht : t ≠ sOf x.n) : cellsL (doA a x) t = cellsL a t := by
  refine ext_getD (by rw [cellsL_length, cellsL_length, (doA_arr ha x).whole.1, ha.whole.1]) fun i hi => ?_
  rw [cellsL_getD, cellsL_getD, stripe_cells ha he, if_neg (fun hc => ht hc.2)]

theorem stripe_own {a : ArrP} (ha : Arr a) {x : DeedP} (he : planE a x = 0) : dataE (cellsL (doA a x) (sOf x.n)) (sOf x.n) = 0 ∧ badL (cellsL (doA a x) (sOf x.n)) (sOf x.n) = [] ∧ xorAll (dataL (cellsL (doA a x) (sOf x.n)) (sOf x.n)) = [0, 0, 0, 0] ∧ ∀ b ∈ dataL (cellsL (doA a x) (sOf x.n)) (sOf x.n), b.length = 4 := by
  obtain ⟨s, hs3, hsx, -, -, hi⟩ := planI_ok he
  obtain ⟨hb4, hb9⟩ := planBl_blocks ha.whole he
  have h4 : ∀ b ∈ planOut (planBl a x) s, b.length = 4 := planOut_blocks hb4 hb9 hs3
  have hl : (planOut (planBl a x) s).length = 4 := planOut_length _ _
  have hev := planOut_even (planBl a x) hs3
  have hml : (makeL (planOut (planBl a x) s) s).length = 4 := by rw [makeL, List.length_map, List.length_range, hl]
  have hc : cellsL (doA a x) s = makeL (planOut (planBl a x) s) s := by
    refine ext_getD (by rw [cellsL_length, (doA_arr ha x).whole.1, hml]) fun i hi' => ?_
    rw [cellsL_length, (doA_arr ha x).whole.1] at hi'
    rw [cellsL_getD, stripe_cells ha he, ← hsx, if_pos ⟨hi', rfl⟩]
  rw [← hsx, hc]
  generalize planOut (planBl a x) s = ds at *
  have hb : ∀ d, d < 4 → isBad (makeL ds s) s d = false := fun d hd => by rw [isBad, (make_cell h4 hl hd).2.1]; rfl
  have hbad : badL (makeL ds s) s = [] := by
    rw [badL, badTo, hml, List.filter_eq_nil_iff]
    intro d hd
    rw [hb d (List.mem_range.1 hd)]
    decide
  have hd : dataL (makeL ds s) s = ds := by
    rw [dataL, if_neg (by rw [hbad]; decide), hml]
    refine ext_getD (by rw [List.length_map, List.length_range, hl]) fun i hi' => ?_
    rw [List.length_map, List.length_range] at hi'
    have : datAt (makeL ds s) s i = ds.getD i [] := by
      rw [datAt, hb i hi']
      exact (make_cell h4 hl hi').2.2
    simp [List.getD_eq_getElem?_getD, hi', this]
  refine ⟨by rw [dataE, hbad]; rfl, hbad, ?_, by rw [hd]; exact h4⟩
  rw [hd, xorAll, hev 0 (by omega), hev 1 (by omega), hev 2 (by omega), hev 3 (by omega)]
  rfl

theorem plan_no {a : ArrP} {x : DeedP} (he : planE a x ≠ 0) : (planI a x).2 = [] := by rw [planI, if_pos he]

end Go.Proofs.YtjggiameajndgadGreatDoor

/-
  Plain: what the laws of mending rest on.
-/
namespace Go.Proofs.YtjggiameajndgadGreatDoor

/-- How many cells each stripe told, when all is mended. -/
def mendNs (a : ArrP) : List Nat := [mendN a (0 : Nat), mendN (mendL a (0 : Nat)) (1 : Nat), mendN (mendL (mendL a (0 : Nat)) (1 : Nat)) (2 : Nat)]

theorem mendAll_arr {a : ArrP} (h : Arr a) : Arr (mendAll a) := mendL_arr (mendL_arr (mendL_arr h _) _) _

theorem mendNs_zero {a : ArrP} {D : Nat → List (List Int)} (h : Inv a D) : mendNs (mendAll a) = [0, 0, 0] := by
  have hb := mendAll_bad h
  obtain ⟨-, e0, e1, -⟩ := mendAll_again (mendAll_inv h) hb
  rw [mendNs, e0, e1, mendN_nat (by omega), mendN_nat (by omega), mendN_nat (by omega), hb 0 (by omega), hb 1 (by omega), hb 2 (by omega)]

theorem mendAll_blocks {a : ArrP} {D : Nat → List (List Int)} (h : Inv a D) : blkE a = 0 ∧ blkE (mendAll a) = 0 ∧ blkL (mendAll a) = blkL a := by
  have h1 := h.blocks
  have h2 := (mendAll_inv h).blocks
  exact ⟨h1.1, h2.1, h2.2.trans h1.2.symm⟩

theorem mendAll_twice {a : ArrP} {D : Nat → List (List Int)} (h : Inv a D) : mendAll (mendAll a) = mendAll a := (mendAll_again (mendAll_inv h) (mendAll_bad h)).1

theorem mend_no {a : ArrP} {s : Int} (h : mendE a s ≠ 0) : mendL a s = a ∧ (mendE a s = 3 ∨ 1 < mendN a s) := by
  by_cases hs : s < 0 ∨ 2 < s
  · exact ⟨by rw [mendL, if_pos (.inl hs)], .inl (by rw [mendE, if_pos hs])⟩
  · rw [mendE, if_neg hs] at h
    refine ⟨by rw [mendL, if_pos (.inr h)], .inr ?_⟩
    rw [mendN, if_neg hs, badN]
    obtain ⟨k, rfl⟩ : ∃ k : Nat, s = (k : Int) := ⟨s.toNat, by omega⟩
    simp only [Int.toNat_natCast] at h ⊢
    by_cases hc : 1 < (badL (cellsL a k) k).length
    · exact hc
    · exact absurd (if_neg hc) h

theorem mend_yes {a : ArrP} {s : Int} (h : mendE a s = 0) : (0 ≤ s ∧ s < 3) ∧ mendN a s ≤ 1 := by
  by_cases hs : s < 0 ∨ 2 < s
  · rw [mendE, if_pos hs] at h
    exact absurd h (by decide)
  · rw [mendE, if_neg hs] at h
    refine ⟨by omega, ?_⟩
    rw [mendN, if_neg hs, badN]
    obtain ⟨k, rfl⟩ : ∃ k : Nat, s = (k : Int) := ⟨s.toNat, by omega⟩
    simp only [Int.toNat_natCast] at h ⊢
    by_cases hc : 1 < (badL (cellsL a k) k).length
    · rw [dataE, if_pos hc] at h
      exact absurd h (by decide)
    · omega

theorem mend_other {a : ArrP} (ha : Arr a) {s : Int} {t : Nat} (h : (t : Int) ≠ s) : cellsL (mendL a s) t = cellsL a t := by
  refine ext_getD (by rw [cellsL_length, cellsL_length, (mendL_arr ha s).whole.1, ha.whole.1]) fun i hi => ?_
  rw [cellsL_getD, cellsL_getD, mendL_other ha.whole s h]

end Go.Proofs.YtjggiameajndgadGreatDoor

/-
  Plain: deeds that name no block in common may change places; what is done twice.
-/
namespace Go.Proofs.YtjggiameajndgadGreatDoor

/-- Does a deed name a block? -/
def namesB (x : DeedP) (n : Int) : Bool := decide (n = x.n ∨ (x.k = 2 ∧ n = x.m))

theorem getD_ext {a b : List (List Int)} (hl : a.length = b.length) (h : ∀ i, i < a.length → a.getD i [] = b.getD i []) : a = b := by
  refine List.ext_getElem hl fun i g1 g2 => ?_
  have := h i g1
  rw [List.getD_eq_getElem?_getD, List.getD_eq_getElem?_getD, List.getElem?_eq_getElem g1, List.getElem?_eq_getElem g2] at this
  exact this

theorem doL_at {ls : List (List Int)} {x : DeedP} {i : Nat} (h : i < ls.length) : (doL ls x).getD i [] = doAt ls x i := by
  simp [doL, List.getD_eq_getElem?_getD, h]

theorem doAt_free {ls : List (List Int)} {x : DeedP} {i : Nat} (h : namesB x i = false) : doAt ls x i = ls.getD i [] := by
  have h' : ¬ ((i : Int) = x.n ∨ (x.k = 2 ∧ (i : Int) = x.m)) := of_decide_eq_false h
  rw [doAt, if_neg (fun hc => h' (.inl hc.2)), if_neg (fun hc => h' (.inl hc.2)), if_neg (fun hc => h' (.inr hc))]

theorem named_n (x : DeedP) : namesB x x.n = true := by simp [namesB]
theorem named_m {x : DeedP} (h : x.k = 2) : namesB x x.m = true := by simp [namesB, h]

/-- What a deed makes of a block that it names hangs on those alone that it names. -/
theorem doAt_congr {ls ms : List (List Int)} {x : DeedP} (hr : wrongE x = 0) (h : ∀ j : Nat, j < 9 → namesB x j = true → ls.getD j [] = ms.getD j []) {i : Nat} (hi : i < 9) (hn : namesB x i = true) : doAt ls x i = doAt ms x i := by
  obtain ⟨hk, hn0, hn8, h1, h2⟩ := right_deed hr
  unfold doAt
  split
  · rfl
  split
  · rename_i hc
    have hm := whereE_zero (h2 hc.1).1
    refine h x.m.toNat (by omega) ?_
    rw [show ((x.m.toNat : Nat) : Int) = x.m from by omega]
    exact named_m hc.1
  split
  · refine h x.n.toNat (by omega) ?_
    rw [show ((x.n.toNat : Nat) : Int) = x.n from by omega]
    exact named_n x
  · exact h i hi hn

theorem do_apart {ls : List (List Int)} {a b : DeedP} (hl : ls.length = 9) (ha : wrongE a = 0) (hb : wrongE b = 0) (hap : ∀ n : Nat, n < 9 → ¬ (namesB a n = true ∧ namesB b n = true)) : doL (doL ls a) b = doL (doL ls b) a := by
  have hla : (doL ls a).length = 9 := by rw [doL_length, hl]
  have hlb : (doL ls b).length = 9 := by rw [doL_length, hl]
  have key : ∀ {x y : DeedP}, wrongE x = 0 → (∀ n : Nat, n < 9 → ¬ (namesB x n = true ∧ namesB y n = true)) → ∀ i : Nat, i < 9 → namesB y i = false → doAt (doL ls x) y i = doAt (doL ls y) x i := by
    intro x y hx hxy i hi hy
    rw [doAt_free hy, doL_at (by omega)]
    cases hxi : namesB x i with
    | true =>
      refine doAt_congr hx (fun j hj hxj => ?_) hi hxi
      rw [doL_at (by omega), doAt_free (x := y)]
      cases hyj : namesB y j with
      | false => rfl
      | true => exact absurd ⟨hxj, hyj⟩ (hxy j hj)
    | false => rw [doAt_free hxi, doAt_free hxi, doL_at (by omega), doAt_free hy]
  refine getD_ext (by simp only [doL_length]) fun i hi => ?_
  have hi9 : i < 9 := by simp only [doL_length, hl] at hi; exact hi
  rw [doL_at (by omega), doL_at (by omega)]
  cases hbi : namesB b i with
  | false => exact key ha hap i hi9 hbi
  | true =>
    have hai : namesB a i = false := by
      cases hai : namesB a i with
      | false => rfl
      | true => exact absurd ⟨hai, hbi⟩ (hap i hi9)
    exact (key hb (fun n hn hc => hap n hn ⟨hc.2, hc.1⟩) i hi9 hai).symm

theorem do_free {ls : List (List Int)} {a b : DeedP} (hl : ls.length = 9) {n : Nat} (hn : n < 9) (ha : namesB a n = false) (hb : namesB b n = false) : (doL (doL ls a) b).getD n [] = ls.getD n [] := by
  rw [doL_at (by rw [doL_length]; omega), doAt_free hb, doL_at (by omega), doAt_free ha]

/-- Two that change, and change again. -/
theorem do_swap_back {ls : List (List Int)} {x : DeedP} (hl : ls.length = 9) (hr : wrongE x = 0) (hk : x.k = 2) : doL (doL ls x) x = ls := by
  obtain ⟨-, hn0, hn8, -, h2⟩ := right_deed hr
  have hm := whereE_zero (h2 hk).1
  refine getD_ext (by rw [doL_length, doL_length]) fun i hi => ?_
  have hi9 : i < 9 := by rw [doL_length, doL_length, hl] at hi; exact hi
  rw [doL_at (by rw [doL_length]; omega)]
  have at_n : (doL ls x).getD x.n.toNat [] = ls.getD x.m.toNat [] := by rw [doL_at (by omega)]; exact doAt_n hk (by omega)
  have at_m : (doL ls x).getD x.m.toNat [] = ls.getD x.n.toNat [] := by
    rw [doL_at (by omega)]
    by_cases hnm : x.n = x.m
    · rw [doAt_n hk (by omega), hnm]
    · exact doAt_m hk (by omega) (by omega)
  by_cases hin : (i : Int) = x.n
  · rw [doAt_n hk hin, at_m, show x.n.toNat = i from by omega]
  · by_cases him : (i : Int) = x.m
    · rw [doAt_m hk hin him, at_n, show x.m.toNat = i from by omega]
    · rw [doAt_out hk hin him, doL_at (by omega), doAt_out hk hin him]

/-- What is written twice is as if it had been once. -/
theorem do_write_twice {ls : List (List Int)} {x : DeedP} (hl : ls.length = 9) (hk : x.k = 1) : doL (doL ls x) x = doL ls x := by
  refine getD_ext (by rw [doL_length]) fun i hi => ?_
  have hi9 : i < 9 := by rw [doL_length, doL_length, hl] at hi; exact hi
  rw [doL_at (by rw [doL_length]; omega)]
  by_cases hin : (i : Int) = x.n
  · rw [doAt_data hk hin, doL_at (by omega), doAt_data hk hin]
  · rw [doAt_old hk hin]

theorem do_write_at {ls : List (List Int)} {x : DeedP} (hl : ls.length = 9) (hr : wrongE x = 0) (hk : x.k = 1) : (doL ls x).getD x.n.toNat [] = x.d := by
  obtain ⟨-, hn0, hn8, -, -⟩ := right_deed hr
  rw [doL_at (by omega)]
  exact doAt_data hk (by omega)

theorem doL_four {ls : List (List Int)} {x : DeedP} (h4 : ∀ b ∈ ls, b.length = 4) (hl : ls.length = 9) (hr : wrongE x = 0) : ∀ b ∈ doL ls x, b.length = 4 := by
  obtain ⟨hk, hn0, hn8, h1, h2⟩ := right_deed hr
  have hg : ∀ k, k < 9 → (ls.getD k []).length = 4 := fun k hk => h4 _ (getD_mem (by omega))
  intro b hb
  simp only [doL, List.mem_map, List.mem_range] at hb
  obtain ⟨i, hi, rfl⟩ := hb
  unfold doAt
  split
  · rename_i h; exact (h1 h.1).2
  split
  · rename_i h
    have := whereE_zero (h2 h.1).1
    exact hg _ (by omega)
  split
  · exact hg _ (by omega)
  · exact hg _ (by omega)

end Go.Proofs.YtjggiameajndgadGreatDoor

/-
  Plain: arrays behind texts; disks that go one behind the other; rot that is slower than mending; a deed that falls; two disks.
-/
namespace Go.Proofs.YtjggiameajndgadGreatDoor

/-- An array behind deeds. -/
def addL (l : List DeedP) : ArrP := l.foldl doA newP

theorem addL_inv : ∀ (l : List DeedP) {a : ArrP} {D : Nat → List (List Int)}, (∀ x ∈ l, wrongE x = 0 ∧ Octets x.d) → Inv a D → ∃ D', Inv (l.foldl doA a) D'
  | [], a, D, _, h => ⟨D, h⟩
  | x :: r, a, D, ho, h => by
    obtain ⟨h1, h2⟩ := ho x (by simp)
    exact addL_inv r (fun y hy => ho y (by simp [hy])) (h.doA h1 h2)

/-- What the full array's deeds are. -/
def fullDs : List DeedP := (List.range 9).map fun (n : Nat) => ⟨1, (n : Int), 0, [16 * (n : Int), 16 * (n : Int) + 1, 16 * (n : Int) + 2, 16 * (n : Int) + 3]⟩
def fullA : ArrP := addL fullDs
/-- What its blocks are. -/
def wantL : List (List Int) := blkL fullA

theorem fullDs_right : ∀ x ∈ fullDs, wrongE x = 0 ∧ Octets x.d := by
  intro x hx
  simp only [fullDs, List.mem_map, List.mem_range] at hx
  obtain ⟨n, hn, rfl⟩ := hx
  refine ⟨?_, ?_⟩
  · unfold wrongE
    rw [if_neg (by simp), if_neg (by simp; omega), if_pos rfl, if_neg (by simp), if_neg (by simp)]
  · intro y hy
    simp at hy
    omega

/-- As many as there are, and all are there. -/
def AllThere (a : ArrP) : Prop := ∃ D, Inv a D ∧ Bk D = wantL

theorem AllThere.blocks {a : ArrP} (h : AllThere a) : blkE a = 0 ∧ blkL a = wantL := by
  obtain ⟨D, hI, hB⟩ := h
  exact ⟨hI.blocks.1, hI.blocks.2.trans hB⟩
theorem AllThere.arr {a : ArrP} (h : AllThere a) : Arr a := by
  obtain ⟨D, hI, -⟩ := h
  exact hI.arr

theorem full_there : AllThere fullA := by
  obtain ⟨D, hD⟩ := addL_inv fullDs fullDs_right newP_inv
  exact ⟨D, hD, hD.blocks.2.symm⟩
theorem full_worst : worstN fullA = 0 := by kernel_rfl
theorem wantL_length : wantL.length = 9 := by
  obtain ⟨D, hI, hB⟩ := full_there
  rw [← hB, Bk_length]

theorem wantL_four : ∀ b ∈ wantL, b.length = 4 := by
  have h : wantL.all (fun b => b.length == 4) = true := by kernel_rfl
  intro b hb
  rw [List.all_eq_true] at h
  simpa using h b hb

/-- A disk is another one. -/
theorem AllThere.gone {a : ArrP} (h : AllThere a) (h0 : worstN a = 0) {d : Int} (hd : 0 ≤ d ∧ d ≤ 3) : AllThere (goneL a d) := by
  obtain ⟨D, hI, hB⟩ := h
  exact ⟨D, (gone_one hI h0 hd).2, hB⟩

/-- All is mended. -/
theorem AllThere.mend {a : ArrP} (h : AllThere a) : AllThere (mendAll a) ∧ worstN (mendAll a) = 0 := by
  obtain ⟨D, hI, hB⟩ := h
  exact ⟨⟨D, mendAll_inv hI, hB⟩, mendAll_worst hI⟩

/-- A byte of a cell rots, of a stripe that is well. -/
theorem rot_stripe {a : ArrP} {D : Nat → List (List Int)} (h : Inv a D) {d s k : Nat} (hd : d < 4) (hs : s < 3) (hk : k < 8) (h0 : badN a s = 0) :
    rotE a d s k = 0 ∧ Inv (rotL a d s k) D ∧ badN (rotL a d s k) s = 1 ∧ ∀ t, t < 3 → t ≠ s → badN (rotL a d s k) t = badN a t := by
  have hgood := bad_zero h.arr.whole h0 hd
  have hlen : (cellAt a d s).length = 8 := by
    have hr := badB_false.1 hgood
    have h1 := read_is_cell hr
    rw [h1.1, cellOf_length]
    have hread := (h.holds _ hs).reads _ hd hgood
    rw [hread, ((h.holds _ hs).blocks _ (getD_mem (by rw [(h.holds _ hs).len]; exact hd))).1]
  have hok : rotOk a d s k := by
    refine ⟨by omega, by omega, by omega, by omega, by omega, ?_⟩
    simp only [Int.toNat_natCast]
    rw [hlen]
    omega
  have e : rotL a d s k = withL a d s (rotB (cellAt a d s) k) := by
    rw [rotL, if_pos hok]
    simp only [Int.toNat_natCast]
  have hr : readE (cellAt a d s) d s = 0 := badB_false.1 hgood
  have hread := (h.holds _ hs).reads _ hd hgood
  have hoct : Octets (readX (cellAt a d s) d s) := by rw [hread]; exact ((h.holds _ hs).blocks _ (getD_mem (by rw [(h.holds _ hs).len]; exact hd))).2
  have hA := rotL_arr h.arr d s k
  have hc : ∀ d' s', cellAt (rotL a d s k) d' s' = if d' = d ∧ s' = s then rotB (cellAt a d s) k else cellAt a d' s' := fun d' s' => by rw [e, h.arr.whole.cellAt_with hd hs]
  have hb1 : badN (rotL a d s k) s = 1 := by
    refine badN_spoil h.arr.whole hd h0 hA.whole (fun d' _ hne => ?_) ?_
    · rw [hc, if_neg (fun hc => hne hc.1)]
    · rw [hc, if_pos ⟨rfl, rfl⟩, rot_bad hd hs hr hoct (by omega)]; decide
  have hbo : ∀ t, t < 3 → t ≠ s → badN (rotL a d s k) t = badN a t := fun t _ hts => badN_other hA.whole h.arr.whole (fun d' _ => by rw [hc, if_neg (fun hc => hts hc.2)])
  refine ⟨if_pos hok, h.rot (fun _ => by simp only [Int.toNat_natCast]; exact hr) (worstN_le.2 fun t ht => ?_), hb1, hbo⟩
  by_cases hts : t = s
  · subst hts; omega
  · rw [hbo t ht hts]; exact h.few t ht

/-- Behind a deed its stripe is well, the others are as they were. -/
theorem doA_worst {a : ArrP} {D : Nat → List (List Int)} (h : Inv a D) (h0 : worstN a = 0) {x : DeedP} (hw : wrongE x = 0) (hx : Octets x.d) : worstN (doA a x) = 0 := by
  have hz := worst_zero.1 h0
  have hI := h.doA hw hx
  have he : planE a x = 0 := (h.planE x).trans hw
  obtain ⟨s, hs3, hsx, -, -, hi⟩ := planI_ok he
  refine worst_zero.2 fun t ht => ?_
  by_cases hts : t = s
  · subst hts
    have hb : ∀ d, d < 4 → badB (doA a x) d t = false := fun d hd => by
      rw [badB_false, doA_eq h.arr he, hi]
      simp only [Int.toNat_natCast]
      rw [putTo_twice_at h.arr.whole _ ht d t 4 (Nat.le_refl _), if_pos ⟨hd, rfl⟩]
      have hbl := planBl_blocks h.arr.whole he
      exact (make_cell (planOut_blocks hbl.1 hbl.2 ht) (planOut_length _ _) hd).2.1
    rw [badN_eq hI.arr.whole, hb 0 (by omega), hb 1 (by omega), hb 2 (by omega), hb 3 (by omega)]
    rfl
  · rw [← badN_other h.arr.whole hI.arr.whole (fun d hd => ?_), hz t ht]
    rw [doA_eq h.arr he, hi]
    simp only [Int.toNat_natCast]
    rw [putTo_twice_at h.arr.whole _ hs3 d t 4 (Nat.le_refl _), if_neg (fun hc => hts hc.2)]

/-- A deed that falls, and a disk that is gone then. -/
theorem hole_plain {x : DeedP} (hw : wrongE x = 0) (hx : Octets x.d) (m : Int) {d : Int} (hd : 0 ≤ d ∧ d ≤ 3) :
    planE fullA x = 0 ∧ blkE (goneL (fallA fullA x m) d) = 0 ∧ (blkL (goneL (fallA fullA x m) d) = wantL ∨ blkL (goneL (fallA fullA x m) d) = doL wantL x) ∧
      (∀ i : Nat, i < 9 → (i : Int) ≠ x.n → (x.k ≠ 2 ∨ (i : Int) ≠ x.m) → (blkL (goneL (fallA fullA x m) d)).getD i [] = wantL.getD i []) := by
  obtain ⟨D, hI, hB⟩ := full_there
  have he : planE fullA x = 0 := (hI.planE x).trans hw
  have hne : ∀ i : Nat, i < 9 → (i : Int) ≠ x.n → (x.k ≠ 2 ∨ (i : Int) ≠ x.m) → (doL wantL x).getD i [] = wantL.getD i [] := fun i hi h1 h2 => by
    rw [doL_at (by rw [wantL_length]; exact hi)]
    unfold doAt
    rw [if_neg (fun hc => h1 hc.2), if_neg (fun hc => h1 hc.2), if_neg (fun hc => by
      rcases h2 with h2 | h2
      · exact h2 hc.1
      · exact h2 hc.2)]
  refine ⟨he, ?_⟩
  rw [fallA_eq hI.arr he]
  split
  · obtain ⟨-, h2⟩ := gone_one hI full_worst hd
    have hb := h2.blocks
    rw [hB] at hb
    exact ⟨hb.1, .inl hb.2, fun i _ _ _ => by rw [hb.2]⟩
  · have hI2 := hI.doA hw hx
    obtain ⟨-, h2⟩ := gone_one hI2 (doA_worst hI full_worst hw hx) hd
    have hb := h2.blocks
    rw [Bk_doD D hw, hB] at hb
    exact ⟨hb.1, .inr hb.2, fun i hi h1 h2 => by rw [hb.2]; exact hne i hi h1 h2⟩

/-- All is there, and a cell of each of the first j stripes is none, no other one. -/
def RotI (j : Nat) (a : ArrP) : Prop := ∃ D, Inv a D ∧ Bk D = wantL ∧ (∀ t, t < 3 → t < j → badN a t = 1) ∧ (∀ t, t < 3 → j ≤ t → badN a t = 0)

theorem RotI.start {a : ArrP} (h : AllThere a) (h0 : worstN a = 0) : RotI 0 a := by
  obtain ⟨D, hI, hB⟩ := h
  exact ⟨D, hI, hB, fun t _ h => by omega, fun t ht _ => worst_zero.1 h0 t ht⟩
theorem RotI.arr {j : Nat} {a : ArrP} (h : RotI j a) : Arr a := by
  obtain ⟨D, hI, -⟩ := h
  exact hI.arr
theorem RotI.there {j : Nat} {a : ArrP} (h : RotI j a) : AllThere a := by
  obtain ⟨D, hI, hB, -⟩ := h
  exact ⟨D, hI, hB⟩
theorem RotI.worst {a : ArrP} (h : RotI 3 a) : worstN a = 1 := by
  obtain ⟨D, hI, -, h1, -⟩ := h
  exact worst_one (fun s hs => Nat.le_of_eq (h1 s hs hs)) (s := 0) (by omega) (h1 0 (by omega) (by omega))
theorem RotI.rot {j : Nat} {a : ArrP} (h : RotI j a) {d k : Nat} (hd : d < 4) (hj : j < 3) (hk : k < 8) : rotE a d j k = 0 ∧ RotI (j + 1) (rotL a d j k) := by
  obtain ⟨D, hI, hB, h1, h2⟩ := h
  obtain ⟨e, hI', hb, ho⟩ := rot_stripe hI hd hj hk (h2 j hj (Nat.le_refl _))
  refine ⟨e, D, hI', hB, fun t ht htj => ?_, fun t ht htj => ?_⟩
  · by_cases e : t = j
    · subst e; exact hb
    · rw [ho t ht e]; exact h1 t ht (by omega)
  · rw [ho t ht (by omega)]; exact h2 t ht (by omega)

/-- An array behind the first k deeds. -/
def addTo (ds : List DeedP) (k : Nat) : ArrP := (ds.take k).foldl doA newP
theorem addTo_all (ds : List DeedP) : addTo ds ds.length = addL ds := by rw [addTo, List.take_length]; rfl
theorem addTo_inv {ds : List DeedP} (hr : ∀ x ∈ ds, wrongE x = 0 ∧ Octets x.d) (k : Nat) : ∃ D, Inv (addTo ds k) D := addL_inv _ (fun x hx => hr x (List.mem_of_mem_take hx)) newP_inv
theorem addTo_arr {ds : List DeedP} (hr : ∀ x ∈ ds, wrongE x = 0 ∧ Octets x.d) (k : Nat) : Arr (addTo ds k) := (addTo_inv hr k).choose_spec.arr
theorem addTo_step {ds : List DeedP} (hr : ∀ x ∈ ds, wrongE x = 0 ∧ Octets x.d) {k : Nat} {x : DeedP} (hx : ds[k]? = some x) :
    stepE (addTo ds k) ⟨1, 0, 0, x⟩ = 0 ∧ stepA (addTo ds k) ⟨1, 0, 0, x⟩ = addTo ds (k + 1) := by
  obtain ⟨D, hD⟩ := addTo_inv hr k
  obtain ⟨hk, hx'⟩ := List.getElem?_eq_some_iff.1 hx
  refine ⟨(if_pos rfl).trans ((hD.planE x).trans (hr x (List.mem_of_getElem? hx)).1), ?_⟩
  rw [show stepA (addTo ds k) ⟨1, 0, 0, x⟩ = doA (addTo ds k) x from if_pos rfl]
  rw [addTo, addTo, List.take_succ_eq_append_getElem hk, List.foldl_append, hx']
  rfl

/-- Of two disks: what is told of a block, as it is, or lost. -/
def twoA (d e : Nat) : ArrP := goneL (goneL fullA d) e
def toldB (d e : Nat) (n : Nat) : Bool := rdE (twoA d e) (n : Nat) == 9 || (rdE (twoA d e) (n : Nat) == 0 && rdX (twoA d e) (n : Nat) == wantL.getD n [])
def lostN (d e : Nat) : Nat → Nat
  | 0 => 0
  | k + 1 => lostN d e k + if rdE (twoA d e) (k : Nat) = 9 then 1 else 0
theorem two_all : (List.range 4).all (fun d => (List.range 4).all fun e => d == e || ((List.range 9).all (fun n => toldB d e n) && decide (0 < lostN d e 9))) = true := by kernel_rfl

theorem two_plain {d e : Nat} (hd : d < 4) (he : e < 4) (hne : d ≠ e) : (∀ n, n < 9 → toldB d e n = true) ∧ 0 < lostN d e 9 := by
  have h := two_all
  rw [List.all_eq_true] at h
  have h1 := h d (List.mem_range.2 hd)
  rw [List.all_eq_true] at h1
  have h2 := h1 e (List.mem_range.2 he)
  rw [Bool.or_eq_true, Bool.and_eq_true, List.all_eq_true] at h2
  rcases h2 with h2 | ⟨h2, h3⟩
  · exact absurd (by simpa using h2) hne
  · exact ⟨fun n hn => h2 n (List.mem_range.2 hn), by simpa using h3⟩

end Go.Proofs.YtjggiameajndgadGreatDoor

/-
  What the reference's Print returns, of a right deed.
-/
namespace Go.Proofs.YtjggiameajndgadGreatDoor
open Go.RowKit

/-- A digit as the walk reads it. -/
theorem hex_at (k : Nat) (hk : k < 16) : (({ data := #[48, 49, 50, 51, 52, 53, 54, 55, 56, 57, 97, 98, 99, 100, 101, 102] } : ByteArray).data.toList.getD k 0).toNat = (hexD k).toNat := by
  revert k; decide

/-- A cell of a block. -/
theorem row_cell {w : World} {b : Nat} {xs : Array Value} {t : TypeId} {q : Nat × Nat} (h : w.heap[b]? = some (.cells xs t q)) (i : Nat) {v : Value} (hv : xs[i]? = some v) : w.cell? ⟨b, i, none⟩ = some v := by
  simp [World.cell?, h, hv]

theorem hexD_lt : ∀ k : Nat, k < 16 → (hexD k).toNat < 128 := by decide

theorem hex_enc (k : Nat) (hk : k < 16) : Utf8.encode ((hexD k).toNat : Int) = str [hexD k] := by
  have h := hexD_lt k hk
  have hv : Utf8.valid ((hexD k).toNat : Int) = true := by
    simp [Utf8.valid]; omega
  unfold Utf8.encode
  simp only [hv, if_true, Int.toNat_natCast, h]
  simp [str]

theorem hexL_take {d : List Int} {k : Nat} (hk : k < d.length) : hexL (d.take (k + 1)) = hexL (d.take k) ++ [hexD (d.getD k 0 / 16).toNat, hexD (d.getD k 0 % 16).toNat] := by
  induction d generalizing k with
  | nil => simp at hk
  | cons c r ih =>
    cases k with
    | zero => simp [hexL]
    | succ k =>
      simp only [List.take_succ_cons, hexL, List.cons_append, List.getD_cons_succ]
      rw [ih (by simpa using hk)]

theorem hex_index {w : World} (c : Int) (h0 : 0 ≤ c) (h1 : c < 16) :
    (Instr.index 9 (.string { data := #[48, 49, 50, 51, 52, 53, 54, 55, 56, 57, 97, 98, 99, 100, 101, 102] }) (.int .u8 c)).run Tryz.prog w = .ok (.int .u8 ((hexD c.toNat).toNat : Int)) w := by
  obtain ⟨k, rfl⟩ : ∃ j : Nat, c = (j : Int) := ⟨c.toNat, by omega⟩
  have hk : k < 16 := by omega
  rw [run_index_string _ _ _ _ _ Tryz.underlying9, dif_pos ⟨by omega, by simp [ByteArray.size]; omega⟩]
  have h := hex_at k hk
  simp only [Int.toNat_natCast]
  congr 2
  rw [← h]
  simp [List.getD_eq_getElem?_getD, ByteArray.getElem_eq_getElem_data, hk]

theorem hex_index64 {w : World} (k : Nat) (hk : k < 16) :
    (Instr.index 9 (.string { data := #[48, 49, 50, 51, 52, 53, 54, 55, 56, 57, 97, 98, 99, 100, 101, 102] }) (.int .i64 k)).run Tryz.prog w = .ok (.int .u8 ((hexD k).toNat : Int)) w := by
  rw [run_index_string _ _ _ _ _ Tryz.underlying9, dif_pos ⟨by omega, by simp [ByteArray.size]; omega⟩]
  have h := hex_at k hk
  simp only [Int.toNat_natCast]
  congr 2
  rw [← h]
  simp [List.getD_eq_getElem?_getD, ByteArray.getElem_eq_getElem_data, hk]

theorem hex_conv {w : World} (k : Nat) (hk : k < 16) : (convert 5 9 (.int .u8 ((hexD k).toNat : Int))).run Tryz.prog w = .ok (.string (str [hexD k])) w := by
  rw [run_convert_int_string _ _ _ _ _ (by rw [Tryz.underlying5]; rfl) Tryz.underlying9, hex_enc k hk]

end Go.Proofs.YtjggiameajndgadGreatDoor

/-
  The maps of package text: which kind a first word is of, which half of a byte a digit stands for; and what they answer when asked.
-/
namespace Go.Proofs.YtjggiameajndgadGreatDoor
open Go.RowKit Go.Maps

theorem lawS : Keyed Tryz.prog 9 := string_keyed Tryz.underlying9
theorem lawB : Keyed Tryz.prog 5 := int_keyed Tryz.underlying5
theorem wf8 {a : Int} (h0 : 0 ≤ a) (h1 : a ≤ 255) : (Lit.int .u8 a).wf = true := WalkArith.wf_u8 ⟨h0, h1⟩
theorem zero64 (w : World) : (zeroValue 3).run Tryz.prog w = .ok (.int .i64 0) w := by kernel_rfl
theorem zero8 (w : World) : (zeroValue 5).run Tryz.prog w = .ok (.int .u8 0) w := by kernel_rfl

/-- What the first map reads as. -/
def kindsD : DataW Unit := ((DataW.map []).put (.string wrW) (.lit (.int .i64 1))).put (.string swW) (.lit (.int .i64 2))

/-- What the second map reads as behind k digits. -/
def halvesD : Nat → DataW Unit
  | 0 => .map []
  | k + 1 => (halvesD k).put (.int .u8 ((hexD k).toNat : Int)) (.lit (.int .u8 (k : Int)))

/-- The value is a map of the call's own that reads as D. -/
def OwnM (k e : TypeId) (n : Nat) (D : DataW Unit) (v : Value) (w : World) : Prop :=
  ∃ b, v = .map (some b) ∧ w.ownsMap Tryz.prog k (plainElem (H := Unit) Tryz.prog e) b n D

theorem OwnM.grow {k e : TypeId} {n : Nat} {D : DataW Unit} {v : Value} {w w' : World} (h : OwnM k e n D v w) (hg : Grow w w') : OwnM k e n D v w' := by
  obtain ⟨b, rfl, es, clock, hb, r⟩ := h
  have hlt : b < w.heap.size := (Array.getElem?_eq_some_iff.1 hb).1
  exact ⟨b, rfl, es, clock, (hg.block b hlt).trans hb, r⟩

theorem OwnM.kept {k e : TypeId} {n : Nat} {D : DataW Unit} {b : Nat} {w w' : World} {row : Option Nat} (h : OwnM k e n D (.map (some b)) w) (hg : w.grownBy w' row) (hne : some b ≠ row) : OwnM k e n D (.map (some b)) w' := by
  obtain ⟨b', hb, h⟩ := h
  injection hb with hb
  injection hb with hb
  subst hb
  exact ⟨_, rfl, h.kept hg hne⟩

theorem OwnM.stable {k e : TypeId} {n : Nat} (D : DataW Unit) : ∀ (v : Value) (x y : World), OwnM k e n D v x → Grow x y → OwnM k e n D v y := fun _ _ _ h hg => h.grow hg

/-- The number that a datum is. -/
def numD : DataW Unit → Int
  | .lit (.int _ c) => c
  | _ => 0

/-- Of which kind a first word is. -/
def kindN (l : List UInt8) : Int := if l = wrW then 1 else if l = swW then 2 else 0

theorem kinds_has (l : List UInt8) : Maps.has kindsD (.string l) = decide (l = wrW ∨ l = swW) := by
  by_cases h2 : l = swW
  · subst h2; rfl
  · rw [kindsD, has_put_other (by simpa using h2)]
    by_cases h1 : l = wrW
    · subst h1; rfl
    · rw [has_put_other (by simpa using h1)]
      simp [h1, h2, Maps.has]

theorem kinds_at (l : List UInt8) : kindsD.atKey (.string l) (.lit (.int .i64 0)) = .lit (.int .i64 (kindN l)) := by
  unfold kindN
  by_cases h2 : l = swW
  · subst h2; rfl
  · rw [kindsD, atKey_put_other (by simpa using h2)]
    by_cases h1 : l = wrW
    · subst h1; rfl
    · rw [atKey_put_other (by simpa using h1), if_neg h1, if_neg h2]
      rfl

theorem halves_has : ∀ c : Fin 256, Maps.has (halvesD 16) (.int .u8 ((c.val : Nat) : Int)) = (hexV (UInt8.ofNat c.val)).isSome := by decide +kernel
theorem halves_at : ∀ c : Fin 256, numD ((halvesD 16).atKey (.int .u8 ((c.val : Nat) : Int)) (.lit (.int .u8 0))) = (((hexV (UInt8.ofNat c.val)).getD 0 : Nat) : Int) := by decide +kernel

/-- The first map is asked. -/
theorem kinds_look {w : World} {v : Value} {n : Nat} (h : OwnM 9 3 n kindsD v w) (l : List UInt8) (hl : l.length ≤ maxLen) :
    (Instr.lookup 98 v (.string (str l)) true).run Tryz.prog w = .ok (.tuple #[.int .i64 (kindN l), .bool (decide (l = wrW ∨ l = swW))]) w := by
  obtain ⟨b, rfl, h⟩ := h
  have hkey := WideMaps.keyOf_string_mk (P := Tryz.prog) Tryz.underlying9 (s := str l) (by rw [str_size]; exact hl)
  rw [show (str l).data.toList = l from by simp [str]] at hkey
  obtain ⟨u, ps, hrun, hu⟩ := h.look_ok lawS Tryz.underlying98 (zero64 w) (plainElem_int Tryz.underlying3 (by decide)) hkey
  obtain ⟨c, rfl, hc, -⟩ := plainElem_int_inv Tryz.underlying3 hu
  have h1 : kindsD.atKey (.string l) (.lit (.int .i64 0)) = .lit (.int .i64 c) := congrArg Prod.fst hc
  have h2 : kindN l = c := congrArg numD ((kinds_at l).symm.trans h1)
  subst h2
  rw [hrun, kinds_has]

/-- The second map is asked. -/
theorem halves_look {w : World} {v : Value} {n : Nat} (h : OwnM 5 5 n (halvesD 16) v w) (c : UInt8) :
    (Instr.lookup 121 v (.int .u8 (c.toNat : Int)) true).run Tryz.prog w = .ok (.tuple #[.int .u8 (((hexV c).getD 0 : Nat) : Int), .bool (hexV c).isSome]) w := by
  obtain ⟨b, rfl, h⟩ := h
  have hlt := c.toNat_lt
  have hkey := keyOf_int_mk (P := Tryz.prog) Tryz.underlying5 (a := (c.toNat : Int)) (wf8 (by omega) (by omega))
  obtain ⟨u, ps, hrun, hu⟩ := h.look_ok lawB Tryz.underlying121 (zero8 w) (plainElem_int Tryz.underlying5 (by decide)) hkey
  obtain ⟨d, rfl, hc, -⟩ := plainElem_int_inv Tryz.underlying5 hu
  have e0 : UInt8.ofNat c.toNat = c := UInt8.ofNat_toNat
  have h1 := halves_at ⟨c.toNat, hlt⟩
  have h2 := halves_has ⟨c.toNat, hlt⟩
  simp only [e0] at h1 h2
  have h3 : (halvesD 16).atKey (.int .u8 (c.toNat : Int)) (.lit (.int .u8 0)) = .lit (.int .u8 d) := congrArg Prod.fst hc
  have h4 : d = (((hexV c).getD 0 : Nat) : Int) := (congrArg numD h3).symm.trans h1
  subst h4
  rw [hrun, h2]

set_option maxRecDepth 20000 in
set_option maxHeartbeats 800000 in
theorem kinds_any (w : World) :
    Calls Tryz.prog 59 #[] w fun e w' => ∃ v, e = .returned v ∧ OwnM 9 3 2 kindsD v w' ∧ Grow w w' := by
  have hmm := @run_makeMap Tryz.prog
  have o0 := World.ownsMap_made w Tryz.prog 9 (plainElem (H := Unit) Tryz.prog 3)
  have k1 := WideMaps.keyOf_string_mk (P := Tryz.prog) Tryz.underlying9 (s := { data := #[119, 114, 105, 116, 101] }) (by decide)
  have k2 := WideMaps.keyOf_string_mk (P := Tryz.prog) Tryz.underlying9 (s := { data := #[115, 119, 97, 112] }) (by decide)
  obtain ⟨w1, r1, o1, g1⟩ := o0.update lawS Tryz.underlying98 (by decide) k1 (plainElem_int (a := 1) Tryz.underlying3 (by decide))
  obtain ⟨w2, r2, o2, g2⟩ := o1.update lawS Tryz.underlying98 (by decide) k2 (plainElem_int (a := 2) Tryz.underlying3 (by decide))
  have O2 : Hid _ := o2
  have G : Grow w w2 := Grow.grown (Grow.grown (Grow.alloc w (.map #[] 0)) g1 (fun j hj => by cases hj; exact Nat.le_refl _)) g2 (fun j hj => by cases hj; exact Nat.le_refl _)
  clear o0 o1 o2 k1 k2 g1 g2
  go_enter Tryz.func59, Tryz.ntmps59
  go_wp2
  go_ret
  exact ⟨_, rfl, ⟨_, rfl, O2.out⟩, G⟩

set_option maxRecDepth 20000 in
set_option maxHeartbeats 800000 in
theorem halves_any (w : World) :
    Calls Tryz.prog 78 #[] w fun e w' => ∃ v, e = .returned v ∧ OwnM 5 5 16 (halvesD 16) v w' ∧ Grow w w' ∧ ∀ b, v = .map (some b) → w.heap.size ≤ b := by
  have hmm : ∀ w, (Instr.makeMap 121 (some (.int .i64 16))).run Tryz.prog w = .ok (.map (some w.heap.size)) (w.alloc (.map #[] 0)) := fun w => rfl
  go_enter Tryz.func78, Tryz.ntmps78
  go_wp2_with fail
  go_loopw [4] (fun i wr => ∃ k : Nat, k ≤ 16 ∧ i = .int .i64 k ∧ wr.ownsMap Tryz.prog 5 (plainElem (H := Unit) Tryz.prog 5) w.heap.size k (halvesD k) ∧ Grow w wr) (fun i _ => 16 - (intOf i).toNat)
  case atStart => exact ⟨0, by omega, rfl, World.ownsMap_made _ _ _ _, Grow.alloc _ _⟩
  case round =>
    obtain ⟨k, hk, rfl, hown, hg⟩ := hrel
    by_cases hlt : k < 16
    · have hix := fun w => hex_index64 (w := w) k hlt
      have hd := hexD_lt k hlt
      have hkey : keyOf Tryz.prog 5 (.int .u8 ((hexD k).toNat : Int)) = some (.int .u8 ((hexD k).toNat : Int)) := keyOf_int_mk Tryz.underlying5 (wf8 (by omega) (by omega))
      go_wp2_with (first
        | (at_mapUpdate; refine wpList_mapUpdate_own _ rfl _ _ _ 121 rfl 5 5 lawB Tryz.underlying121 _ w.heap.size k _ rfl hown (by unfold maxLen; omega) _ _ _ rfl rfl hkey (.lit (.int .u8 (k : Int))) [] (plainElem_int Tryz.underlying5 (wf8 (by omega) (by omega))) ?_; intro w1 hown1 hgrow1))
      go_roundw
      case rel => first | exact ⟨k + 1, by omega, by go_num, hown1, hg.grown hgrow1 (fun j hj => by cases hj; exact Nat.le_refl _)⟩ | ((repeat apply Exists.intro); exact ⟨⟨k + 1, by omega, by go_num, hown1, hg.grown hgrow1 (fun j hj => by cases hj; exact Nat.le_refl _)⟩, rfl⟩)
      case measure => simp [intOf]; omega
    · obtain rfl : k = 16 := by omega
      go_wp2_with fail
      go_ret
      exact ⟨_, rfl, ⟨_, rfl, hown⟩, hg, fun b hb => by cases hb; exact Nat.le_refl _⟩

end Go.Proofs.YtjggiameajndgadGreatDoor

/-
  Plain: the words of a text, blank by blank; the digits of a word, one by one.
-/
namespace Go.Proofs.YtjggiameajndgadGreatDoor

/-- Behind i letters: words, and where the next one begins. -/
def Spl (s : List UInt8) (i f : Nat) (ws : List (List UInt8)) : Prop :=
  ws.length ≤ i ∧ ((i ≤ s.length ∧ f ≤ i ∧ ws ++ split (s.drop f) = split s ∧ 32 ∉ (s.drop f).take (i - f)) ∨ (i = s.length + 1 ∧ f ≤ i ∧ ws = split s))

theorem Spl.start (s : List UInt8) : Spl s 0 0 [] := ⟨Nat.le_refl _, .inl ⟨Nat.zero_le _, Nat.le_refl _, by simp, by simp⟩⟩

theorem drop_word {s : List UInt8} {f i : Nat} (hf : f ≤ i) (hi : i < s.length) : s.drop f = (s.drop f).take (i - f) ++ s.getD i 0 :: s.drop (i + 1) := by
  have h1 : s.drop f = (s.drop f).take (i - f) ++ (s.drop f).drop (i - f) := (List.take_append_drop _ _).symm
  have h2 : (s.drop f).drop (i - f) = s.getD i 0 :: s.drop (i + 1) := by
    rw [List.drop_drop, show f + (i - f) = i by omega, List.drop_eq_getElem_cons hi]
    simp [List.getD_eq_getElem?_getD, hi]
  rw [h2] at h1
  exact h1

theorem Spl.blank {s : List UInt8} {i f : Nat} {ws : List (List UInt8)} (h : Spl s i f ws) (hi : i < s.length) (hb : s.getD i 0 = 32) : Spl s (i + 1) (i + 1) (ws ++ [(s.drop f).take (i - f)]) := by
  obtain ⟨hl, ⟨-, hf, he, hn⟩ | ⟨hc, -⟩⟩ := h
  · refine ⟨by simp; omega, .inl ⟨by omega, Nat.le_refl _, ?_, by simp⟩⟩
    rw [← he]
    conv => rhs; rw [drop_word hf hi, hb, split_append _ _ hn]
    simp
  · omega

theorem Spl.last {s : List UInt8} {f : Nat} {ws : List (List UInt8)} (h : Spl s s.length f ws) : Spl s (s.length + 1) (s.length + 1) (ws ++ [(s.drop f).take (s.length - f)]) := by
  obtain ⟨hl, ⟨-, hf, he, hn⟩ | ⟨hc, -⟩⟩ := h
  · refine ⟨by simp; omega, .inr ⟨rfl, Nat.le_refl _, ?_⟩⟩
    rw [← he, List.take_of_length_le (by simp)]
    rw [List.take_of_length_le (by simp)] at hn
    rw [split_word _ hn]
  · omega

theorem Spl.other {s : List UInt8} {i f : Nat} {ws : List (List UInt8)} (h : Spl s i f ws) (hi : i < s.length) (hb : s.getD i 0 ≠ 32) : Spl s (i + 1) f ws := by
  obtain ⟨hl, ⟨-, hf, he, hn⟩ | ⟨hc, -⟩⟩ := h
  · refine ⟨by omega, .inl ⟨by omega, by omega, he, ?_⟩⟩
    rw [drop_word hf hi]
    have hlen : ((s.drop f).take (i - f)).length = i - f := by simp; omega
    rw [show i + 1 - f = ((s.drop f).take (i - f)).length + 1 by rw [hlen]; omega, List.take_length_add_append]
    simp only [List.take_succ_cons, List.take_zero, List.mem_append, List.mem_singleton, not_or]
    exact ⟨hn, fun e => hb e.symm⟩
  · omega

theorem Spl.done {s : List UInt8} {f : Nat} {ws : List (List UInt8)} (h : Spl s (s.length + 1) f ws) : ws = split s := by
  obtain ⟨-, ⟨hc, -⟩ | ⟨-, -, h⟩⟩ := h
  · omega
  · exact h

theorem Spl.from_le {s : List UInt8} {i f : Nat} {ws : List (List UInt8)} (h : Spl s i f ws) : f ≤ i := by
  obtain ⟨-, ⟨-, h, -⟩ | ⟨-, h, -⟩⟩ := h <;> exact h

theorem split_length : ∀ s : List UInt8, (split s).length ≤ s.length + 1
  | [] => by simp [split]
  | c :: r => by
    have ih := split_length r
    have := split_ne r
    simp only [split]
    split
    · simp; omega
    · simp; omega

/-- What a digit is said to be behind j looks. -/
def cvAt (x : UInt8) (j : Nat) : Int :=
  match hexV x with
  | some v => if v < j then (v : Int) else -1
  | none => -1

theorem cvAt_zero (x : UInt8) : cvAt x 0 = -1 := by
  unfold cvAt
  split
  · rw [if_neg (by omega)]
  · rfl

theorem cvAt_hit {x : UInt8} {j : Nat} (hj : j < 16) (h : hexD j = x) : cvAt x (j + 1) = (j : Int) := by
  subst h
  unfold cvAt
  rw [hexV_D j hj]
  simp

theorem cvAt_miss {x : UInt8} {j : Nat} (h : hexD j ≠ x) : cvAt x (j + 1) = cvAt x j := by
  unfold cvAt
  split
  · rename_i v hv
    have h1 := hexV_lt hv
    have h2 : v ≠ j := fun e => h (e ▸ h1.2)
    by_cases hlt : v < j
    · rw [if_pos hlt, if_pos (by omega)]
    · rw [if_neg hlt, if_neg (by omega)]
  · rfl

theorem cvAt_end (x : UInt8) : cvAt x 16 = match hexV x with | some v => (v : Int) | none => -1 := by
  unfold cvAt
  split
  · rename_i v hv
    rw [if_pos (hexV_lt hv).1]
  · rfl

theorem unhex_snoc : ∀ (a : List UInt8) (d : List Int) (x y : UInt8) (u v : Nat), unhex a = some d → hexV x = some u → hexV y = some v → unhex (a ++ [x, y]) = some (d ++ [((16 * u + v : Nat) : Int)])
  | [], d, x, y, u, v, h, hx, hy => by
    simp only [unhex] at h
    injection h with h
    subst h
    simp only [List.nil_append, unhex, hx, hy]
  | [_], d, x, y, u, v, h, hx, hy => by simp [unhex] at h
  | a :: b :: r, d, x, y, u, v, h, hx, hy => by
    simp only [unhex] at h
    split at h
    · rename_i p q l hp hq hl
      injection h with h
      subst h
      have ih := unhex_snoc r l x y u v hl hx hy
      simp only [List.cons_append, unhex, hp, hq, ih]
    · cases h

theorem unhex_all : ∀ (b : List UInt8) (d : List Int), unhex b = some d → b.length = 2 * d.length ∧ ∀ c ∈ b, hexV c ≠ none
  | [], d, h => by
    simp only [unhex] at h
    injection h with h
    subst h
    exact ⟨rfl, fun c hc => by cases hc⟩
  | [_], d, h => by simp [unhex] at h
  | a :: b :: r, d, h => by
    simp only [unhex] at h
    split at h
    · rename_i p q l hp hq hl
      injection h with h
      subst h
      obtain ⟨i1, i2⟩ := unhex_all r l hl
      refine ⟨by simp only [List.length_cons, i1]; omega, ?_⟩
      intro c hc
      rcases List.mem_cons.1 hc with rfl | hc
      · rw [hp]; simp
      · rcases List.mem_cons.1 hc with rfl | hc
        · rw [hq]; simp
        · exact i2 c hc
    · cases h

theorem unhex_odd {b : List UInt8} (h : b.length % 2 = 1) : unhex b = none := by
  cases hu : unhex b with
  | none => rfl
  | some d => have := (unhex_all b d hu).1; omega

theorem unhex_bad {b : List UInt8} {i : Nat} (hi : i < b.length) (h : hexV (b.getD i 0) = none) : unhex b = none := by
  cases hu : unhex b with
  | none => rfl
  | some d => exact absurd h ((unhex_all b d hu).2 _ (by simp [List.getD_eq_getElem?_getD, hi]))

/-- Behind i digits: bytes, and the half that is left. -/
def Hx (b : List UInt8) (i : Nat) (d : List Int) (n : Int) : Prop :=
  d.length = i / 2 ∧ (∀ c ∈ d, 0 ≤ c ∧ c ≤ 255) ∧ ((i % 2 = 0 ∧ n = 0 ∧ unhex (b.take i) = some d) ∨ (i % 2 = 1 ∧ ∃ u : Nat, n = (u : Int) ∧ u < 16 ∧ hexV (b.getD (i - 1) 0) = some u ∧ unhex (b.take (i - 1)) = some d))

theorem Hx.start (b : List UInt8) : Hx b 0 [] 0 := ⟨rfl, (fun c hc => by cases hc), .inl ⟨rfl, rfl, rfl⟩⟩

theorem Hx.first {b : List UInt8} {i v : Nat} {d : List Int} {n : Int} (h : Hx b i d n) (h2 : i % 2 = 0) (hv : hexV (b.getD i 0) = some v) : n = 0 ∧ Hx b (i + 1) d (16 * n + v) := by
  obtain ⟨hl, ho, ⟨-, rfl, hu⟩ | ⟨hc, -⟩⟩ := h
  · exact ⟨rfl, by omega, ho, .inr ⟨by omega, v, by omega, (hexV_lt hv).1, hv, hu⟩⟩
  · omega

theorem Hx.second {b : List UInt8} {i v : Nat} {d : List Int} {n : Int} (h : Hx b i d n) (h2 : i % 2 = 1) (hi : i < b.length) (hv : hexV (b.getD i 0) = some v) : 0 ≤ 16 * n + v ∧ 16 * n + v ≤ 255 ∧ Hx b (i + 1) (d ++ [16 * n + v]) 0 := by
  obtain ⟨hl, ho, ⟨hc, -⟩ | ⟨-, u, rfl, hu16, hx, hu⟩⟩ := h
  · omega
  · have hv16 := (hexV_lt hv).1
    refine ⟨by omega, by omega, by simp; omega, ?_, .inl ⟨by omega, rfl, ?_⟩⟩
    · intro c hc
      rcases List.mem_append.1 hc with hc | hc
      · exact ho c hc
      · rcases List.mem_singleton.1 hc with rfl
        omega
    · have e : b.take (i + 1) = b.take (i - 1) ++ [b.getD (i - 1) 0, b.getD i 0] := by
        obtain ⟨j, rfl⟩ : ∃ j, i = j + 1 := ⟨i - 1, by omega⟩
        have g1 : b[j]? = some b[j] := List.getElem?_eq_getElem (by omega)
        have g2 : b[j + 1]? = some b[j + 1] := List.getElem?_eq_getElem hi
        rw [Nat.add_sub_cancel, List.take_add_one, List.take_add_one, List.getD_eq_getElem?_getD, List.getD_eq_getElem?_getD, g1, g2, List.append_assoc]
        rfl
      rw [e, unhex_snoc _ _ _ _ _ _ hu hx hv]
      congr 2

theorem Hx.done {b : List UInt8} {d : List Int} {n : Int} (h : Hx b b.length d n) (h2 : b.length % 2 = 0) : unhex b = some d := by
  obtain ⟨-, -, ⟨-, -, hu⟩ | ⟨hc, -⟩⟩ := h
  · rwa [List.take_length] at hu
  · omega

end Go.Proofs.YtjggiameajndgadGreatDoor
