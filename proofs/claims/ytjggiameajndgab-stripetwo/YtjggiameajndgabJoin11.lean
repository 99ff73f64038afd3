import Derived.Lib.SliceRun
import Derived.Test.YtjggiameajndgabJoin10
/-
  Plain: mended, it is well; one harm is no loss; turned twice it is as it was; any one of four may be gone.
-/
namespace Go.Proofs.Ytjggiameajndgab

theorem mendE_inv {a : ArrP} {D : Nat → List (List Int)} (h : Inv a D) {s : Nat} (hs : s < 3) : mendE a (s : Int) = 0 := by
  rw [mendE, if_neg (by omega)]
  simp only [Int.toNat_natCast]
  exact ((h.holds s hs).data h.arr.whole (h.few s hs)).1

theorem mendN_nat {a : ArrP} {s : Nat} (hs : s < 3) : mendN a (s : Int) = badN a s := by
  rw [mendN, if_neg (by omega)]
  simp

theorem mend_eq {a : ArrP} {D : Nat → List (List Int)} (h : Inv a D) {s : Nat} (hs : s < 3) : mendL a (s : Int) = putTo a (makeL (D s) s) s 4 := by
  obtain ⟨e1, e2⟩ := (h.holds s hs).data h.arr.whole (h.few s hs)
  rw [mendL, if_neg]
  · simp only [Int.toNat_natCast, e2]
  · simp only [Int.toNat_natCast]
    rintro (hc | hc)
    · omega
    · exact hc e1

/-- Behind mending a stripe none of its cells is none; the others are as they were. -/
theorem mend_bad {a : ArrP} {D : Nat → List (List Int)} (h : Inv a D) {s : Nat} (hs : s < 3) : badN (mendL a (s : Int)) s = 0 ∧ ∀ t, t ≠ s → badN (mendL a (s : Int)) t = badN a t := by
  rw [mend_eq h hs]
  have hh := h.holds s hs
  refine ⟨(put_holds h.arr.whole hs hh.len hh.blocks hh.even).2.2, fun t ht => ?_⟩
  refine (badN_other h.arr.whole (putTo_whole h.arr.whole _ _ 4 (Nat.le_refl _)) fun d hd => ?_).symm
  rw [putTo_twice_at h.arr.whole _ hs d t 4 (Nat.le_refl _), if_neg (fun hc => ht hc.2)]

theorem bad_zero {a : ArrP} (ha : Whole a) {s : Nat} (h : badN a s = 0) {d : Nat} (hd : d < 4) : badB a d s = false := by
  rw [badN_eq ha] at h
  cases hb : badB a d s with
  | false => rfl
  | true =>
    exfalso
    have t : (badB a d s).toNat = 1 := by rw [hb]; rfl
    obtain rfl | rfl | rfl | rfl : d = 0 ∨ d = 1 ∨ d = 2 ∨ d = 3 := by omega
    all_goals omega

/-- A stripe that is well is as it was when it is mended. -/
theorem mend_well {a : ArrP} {D : Nat → List (List Int)} (h : Inv a D) {s : Nat} (hs : s < 3) (hb : badN a s = 0) : mendL a (s : Int) = a := by
  rw [mend_eq h hs]
  have hh := h.holds s hs
  refine arr_ext (putTo_whole h.arr.whole _ _ 4 (Nat.le_refl _)) h.arr.whole (putTo_is _ _ _ _) fun d t hd ht => ?_
  rw [putTo_twice_at h.arr.whole _ hs d t 4 (Nat.le_refl _)]
  split
  · rename_i hc
    obtain ⟨-, rfl⟩ := hc
    have hg := bad_zero h.arr.whole hb hd
    rw [(make_cell (fun b hb => (hh.blocks b hb).1) hh.len hd).1, ← hh.reads d hd hg]
    exact (read_is_cell (badB_false.1 hg)).1.symm
  · rfl

/-- All is mended. -/
def mendAll (a : ArrP) : ArrP := mendL (mendL (mendL a (0 : Nat)) (1 : Nat)) (2 : Nat)

theorem mendAll_inv {a : ArrP} {D : Nat → List (List Int)} (h : Inv a D) : Inv (mendAll a) D := ((h.mend _).mend _).mend _

theorem mendAll_bad {a : ArrP} {D : Nat → List (List Int)} (h : Inv a D) : ∀ s, s < 3 → badN (mendAll a) s = 0 := by
  have h1 := h.mend ((0 : Nat) : Int)
  have h2 := h1.mend ((1 : Nat) : Int)
  obtain ⟨b0, o0⟩ := mend_bad h (s := 0) (by omega)
  obtain ⟨b1, o1⟩ := mend_bad h1 (s := 1) (by omega)
  obtain ⟨b2, o2⟩ := mend_bad h2 (s := 2) (by omega)
  intro s hs
  obtain rfl | rfl | rfl : s = 0 ∨ s = 1 ∨ s = 2 := by omega
  · exact (o2 0 (by omega)).trans ((o1 0 (by omega)).trans b0)
  · exact (o2 1 (by omega)).trans b1
  · exact b2

theorem mendAll_worst {a : ArrP} {D : Nat → List (List Int)} (h : Inv a D) : worstN (mendAll a) = 0 := by
  have := worstN_le.2 (fun s hs => Nat.le_of_eq (mendAll_bad h s hs))
  omega

/-- Mended again nothing changes. -/
theorem mendAll_again {a : ArrP} {D : Nat → List (List Int)} (h : Inv a D) (hb : ∀ s, s < 3 → badN a s = 0) : mendAll a = a ∧ mendL a (0 : Nat) = a ∧ mendL a (1 : Nat) = a ∧ mendL a (2 : Nat) = a := by
  have e0 := mend_well h (s := 0) (by omega) (hb 0 (by omega))
  have e1 := mend_well h (s := 1) (by omega) (hb 1 (by omega))
  have e2 := mend_well h (s := 2) (by omega) (hb 2 (by omega))
  exact ⟨by rw [mendAll, e0, e1, e2], e0, e1, e2⟩

/-- Mending changes no cell of another stripe. -/
theorem mendL_other {a : ArrP} (ha : Whole a) (s : Int) {d t : Nat} (h : (t : Int) ≠ s) : cellAt (mendL a s) d t = cellAt a d t := by
  unfold mendL
  split
  · rfl
  · rename_i hn
    have hs : ¬ (s < 0 ∨ 2 < s) := fun hc => hn (.inl hc)
    rw [putTo_twice_at ha _ (by omega) d t 4 (Nat.le_refl _), if_neg (fun hc => h (by omega))]

/-- A byte that rots twice is what it was. -/
theorem rotB_back (l : List Int) (k : Nat) : rotB (rotB l k) k = l := by
  by_cases hk : k < l.length
  · refine List.ext_getElem (by simp [rotB]) fun i h1 h2 => ?_
    simp only [rotB]
    rw [List.getElem_set]
    split
    · rename_i e
      subst e
      rw [List.getD_eq_getElem?_getD, List.getElem?_set_self hk]
      simp only [Option.getD_some]
      rw [rotI_back, List.getD_eq_getElem?_getD, List.getElem?_eq_getElem hk]
      rfl
    · rename_i e
      rw [List.getElem_set, if_neg e]
  · rw [rotB, rotB, List.set_eq_of_length_le (by rw [List.length_set]; omega), List.set_eq_of_length_le (by omega)]

theorem rotB_ne {l : List Int} {k : Nat} (hk : k < l.length) : rotB l k ≠ l := fun h => by
  have := congrArg (fun x => List.getD x k 0) h
  simp only [rotB] at this
  rw [List.getD_eq_getElem?_getD, List.getElem?_set_self hk] at this
  exact rotI_ne _ this

theorem rot_twice {a : ArrP} (ha : Whole a) (d s k : Int) : rotE (rotL a d s k) d s k = rotE a d s k ∧ rotL (rotL a d s k) d s k = a ∧ (rotE a d s k = 0 → rotL a d s k ≠ a) := by
  by_cases hk : rotOk a d s k
  · have hk' := hk
    obtain ⟨h1, h2, h3, h4, h5, h6⟩ := hk'
    have hd : d.toNat < 4 := by omega
    have hs : s.toNat < 3 := by omega
    have e1 : rotL a d s k = withL a d.toNat s.toNat (rotB (cellAt a d.toNat s.toNat) k.toNat) := if_pos hk
    have hc : cellAt (rotL a d s k) d.toNat s.toNat = rotB (cellAt a d.toNat s.toNat) k.toNat := by rw [e1, ha.cellAt_with hd hs, if_pos ⟨rfl, rfl⟩]
    have hok : rotOk (rotL a d s k) d s k := ⟨h1, h2, h3, h4, h5, by rw [hc, rotB, List.length_set]; exact h6⟩
    refine ⟨by rw [rotE, rotE, if_pos hok, if_pos hk], ?_, fun _ he => ?_⟩
    · rw [rotL, if_pos hok, hc, rotB_back]
      have hw : Whole (rotL a d s k) := by rw [e1]; exact withL_whole ha hd _
      refine arr_ext (withL_whole hw hd _) ha (by rw [e1]; rfl) fun d' s' hd' hs' => ?_
      rw [hw.cellAt_with hd hs]
      split
      · rename_i hc'; rw [hc'.1, hc'.2]
      · rename_i hc'; rw [e1, ha.cellAt_with hd hs, if_neg hc']
    · rw [he] at hc
      exact rotB_ne (by omega) hc.symm
  · have e1 : rotL a d s k = a := if_neg hk
    refine ⟨by rw [e1], by rw [e1, e1], fun h => ?_⟩
    rw [rotE, if_neg hk] at h
    cases h

theorem gone_cell {a : ArrP} (ha : Arr a) {d : Nat} (hd : d < 4) (d' s' : Nat) : ∀ k, k ≤ 3 → cellAt (goneTo a d k) d' s' = if d' = d ∧ s' < k then [] else cellAt a d' s'
  | 0, _ => by simp [goneTo]
  | k + 1, hk => by
    rw [goneTo, (goneTo_arr ha hd k (by omega)).whole.cellAt_with hd (by omega), gone_cell ha hd d' s' k (by omega)]
    by_cases h1 : d' = d ∧ s' = k
    · rw [if_pos h1, if_pos ⟨h1.1, by omega⟩]
    · rw [if_neg h1]
      by_cases h2 : d' = d ∧ s' < k
      · rw [if_pos h2, if_pos ⟨h2.1, by omega⟩]
      · rw [if_neg h2, if_neg (fun h => by
          by_cases h3 : s' = k
          · exact h1 ⟨h.1, h3⟩
          · exact h2 ⟨h.1, by omega⟩)]

theorem goneTo_is (a : ArrP) (d : Nat) : ∀ k, (goneTo a d k).is = a.is
  | 0 => rfl
  | k + 1 => by rw [goneTo]; exact goneTo_is a d k

/-- A disk that is gone twice is gone. -/
theorem gone_twice {a : ArrP} (ha : Arr a) (d : Int) : goneL (goneL a d) d = goneL a d := by
  by_cases h : d < 0 ∨ 3 < d
  · rw [goneL, if_pos h]
  · have e : ∀ b, goneL b d = goneTo b d.toNat 3 := fun b => if_neg h
    rw [e a, e]
    have hd : d.toNat < 4 := by omega
    have h1 := goneTo_arr ha hd 3 (Nat.le_refl _)
    refine arr_ext (goneTo_arr h1 hd 3 (Nat.le_refl _)).whole h1.whole (goneTo_is _ _ _) fun d' s' hd' hs' => ?_
    rw [gone_cell h1 hd d' s' 3 (Nat.le_refl _), gone_cell ha hd d' s' 3 (Nat.le_refl _)]
    split <;> rfl

/-- How many are none where one is another one that is none. -/
theorem badN_spoil {a : ArrP} (ha : Whole a) {d s : Nat} (hd : d < 4) (h0 : badN a s = 0) {b : ArrP} (hb : Whole b) (hc : ∀ d', d' < 4 → d' ≠ d → cellAt b d' s = cellAt a d' s) (hr : readE (cellAt b d s) d s ≠ 0) : badN b s = 1 := by
  have g : ∀ d', d' < 4 → d' ≠ d → badB b d' s = false := fun d' h1 h2 => by rw [badB_false, hc d' h1 h2]; exact badB_false.1 (bad_zero ha h0 h1)
  have gd : badB b d s = true := by simpa [badB] using hr
  rw [badN_eq hb]
  obtain rfl | rfl | rfl | rfl : d = 0 ∨ d = 1 ∨ d = 2 ∨ d = 3 := by omega
  · rw [gd, g 1 (by omega) (by omega), g 2 (by omega) (by omega), g 3 (by omega) (by omega)]; rfl
  · rw [gd, g 0 (by omega) (by omega), g 2 (by omega) (by omega), g 3 (by omega) (by omega)]; rfl
  · rw [gd, g 0 (by omega) (by omega), g 1 (by omega) (by omega), g 3 (by omega) (by omega)]; rfl
  · rw [gd, g 0 (by omega) (by omega), g 1 (by omega) (by omega), g 2 (by omega) (by omega)]; rfl

theorem worst_one {a : ArrP} (h : ∀ s, s < 3 → badN a s ≤ 1) {s : Nat} (hs : s < 3) (h1 : badN a s = 1) : worstN a = 1 := by
  have := worstN_le.2 h
  have h2 : ¬ worstN a ≤ 0 := fun hc => by have := worstN_le.1 hc s hs; omega
  omega

theorem worst_zero {a : ArrP} : worstN a = 0 ↔ ∀ s, s < 3 → badN a s = 0 := by
  constructor
  · intro h s hs
    have := worstN_le.1 (Nat.le_of_eq h) s hs
    omega
  · intro h
    have := worstN_le.2 (fun s hs => Nat.le_of_eq (h s hs))
    omega

/-- Of an array that is well a disk may be gone. -/
theorem gone_one {a : ArrP} {D : Nat → List (List Int)} (h : Inv a D) (h0 : worstN a = 0) {d : Int} (hd : 0 ≤ d ∧ d ≤ 3) : worstN (goneL a d) = 1 ∧ Inv (goneL a d) D := by
  have hz := worst_zero.1 h0
  have e : goneL a d = goneTo a d.toNat 3 := if_neg (by omega)
  have hd4 : d.toNat < 4 := by omega
  have hA := goneTo_arr h.arr hd4 3 (Nat.le_refl _)
  have hb : ∀ s, s < 3 → badN (goneL a d) s = 1 := fun s hs => by
    rw [e]
    refine badN_spoil h.arr.whole hd4 (hz s hs) hA.whole (fun d' _ hne => ?_) ?_
    · rw [gone_cell h.arr hd4 d' s 3 (Nat.le_refl _), if_neg (fun hc => hne hc.1)]
    · rw [gone_cell h.arr hd4 _ s 3 (Nat.le_refl _), if_pos ⟨rfl, hs⟩, readE_nil]; decide
  have hw : worstN (goneL a d) = 1 := worst_one (fun s hs => Nat.le_of_eq (hb s hs)) (s := 0) (by omega) (hb 0 (by omega))
  exact ⟨hw, h.gone d (Nat.le_of_eq hw)⟩

/-- Of an array that is well a byte may rot. -/
theorem rot_one {a : ArrP} {D : Nat → List (List Int)} (h : Inv a D) (h0 : worstN a = 0) {d s k : Int} (hk : rotOk a d s k) : worstN (rotL a d s k) = 1 ∧ Inv (rotL a d s k) D := by
  have hz := worst_zero.1 h0
  have e : rotL a d s k = withL a d.toNat s.toNat (rotB (cellAt a d.toNat s.toNat) k.toNat) := if_pos hk
  have hk' := hk
  obtain ⟨h1, h2, h3, h4, h5, h6⟩ := hk'
  have hd4 : d.toNat < 4 := by omega
  have hs3 : s.toNat < 3 := by omega
  have hgood := bad_zero h.arr.whole (hz _ hs3) hd4
  have hr : readE (cellAt a d.toNat s.toNat) d s = 0 := by
    have := badB_false.1 hgood
    rwa [show ((d.toNat : Nat) : Int) = d from by omega, show ((s.toNat : Nat) : Int) = s from by omega] at this
  have hread := (h.holds _ hs3).reads _ hd4 hgood
  have hoct : Octets (readX (cellAt a d.toNat s.toNat) d.toNat s.toNat) := by rw [hread]; exact ((h.holds _ hs3).blocks _ (getD_mem (by rw [(h.holds _ hs3).len]; exact hd4))).2
  have hA := rotL_arr h.arr d s k
  have hc : ∀ d' s', cellAt (rotL a d s k) d' s' = if d' = d.toNat ∧ s' = s.toNat then rotB (cellAt a d.toNat s.toNat) k.toNat else cellAt a d' s' := fun d' s' => by rw [e, h.arr.whole.cellAt_with hd4 hs3]
  have hb1 : badN (rotL a d s k) s.toNat = 1 := by
    refine badN_spoil h.arr.whole hd4 (hz _ hs3) hA.whole (fun d' _ hne => ?_) ?_
    · rw [hc, if_neg (fun hc => hne hc.1)]
    · rw [hc, if_pos ⟨rfl, rfl⟩, rot_bad hd4 hs3 (badB_false.1 hgood) hoct (by omega)]; decide
  have hb : ∀ t, t < 3 → badN (rotL a d s k) t ≤ 1 := fun t ht => by
    by_cases hts : t = s.toNat
    · subst hts; omega
    · rw [badN_other hA.whole h.arr.whole (fun d' _ => by rw [hc, if_neg (fun hc => hts hc.2)]), hz t ht]; omega
  have hw := worst_one hb hs3 hb1
  exact ⟨hw, h.rot (fun _ => hr) (Nat.le_of_eq hw)⟩

/-- Four cells, as an array that has them in each stripe. -/
def wrap4 (ls : List (List Int)) : ArrP := ⟨ls.map fun c => [c, c, c], []⟩
theorem wrap4_whole {ls : List (List Int)} (h : ls.length = 4) : Whole (wrap4 ls) := ⟨by simp [wrap4, h], fun x hx => by
  simp only [wrap4, List.mem_map] at hx
  obtain ⟨c, -, rfl⟩ := hx
  rfl⟩
theorem wrap4_cells {ls : List (List Int)} {s : Nat} (hs : s < 3) : cellsL (wrap4 ls) s = ls := by
  obtain rfl | rfl | rfl : s = 0 ∨ s = 1 ∨ s = 2 := by omega
  all_goals
    simp only [cellsL, wrap4, List.map_map]
    exact List.map_id ls
theorem wrap4_at {ls : List (List Int)} {s : Nat} (hs : s < 3) (d : Nat) : cellAt (wrap4 ls) d s = ls.getD d [] := by rw [← cellsL_getD, wrap4_cells hs]

theorem badL_wrap {ls : List (List Int)} (h : ls.length = 4) {s : Nat} (hs : s < 3) : badL ls s = (List.range 4).filter (fun d => badB (wrap4 ls) d s) := by
  have := badL_eq (wrap4_whole h) s
  rwa [wrap4_cells hs] at this

end Go.Proofs.Ytjggiameajndgab

/-
  Plain: four cells, one or two of which are none.
-/
namespace Go.Proofs.Ytjggiameajndgab

/-- Four blocks that are noughts together, made cells, of which those in G are gone. -/
theorem cells_hold {ds : List (List Int)} (hl : ds.length = 4) (hb : Blocks ds) (he : EvenB ds) {s : Nat} (hs : s < 3) {ls : List (List Int)} (hc : ∀ d, d < 4 → ls.getD d [] = (makeL ds s).getD d [] ∨ ls.getD d [] = []) : Holds (wrap4 ls) s ds := by
  have h4 : ∀ b ∈ ds, b.length = 4 := fun b h => (hb b h).1
  refine ⟨hl, hb, he, fun d hd hg => ?_⟩
  rw [wrap4_at hs]
  rw [badB_false, wrap4_at hs] at hg
  rcases hc d hd with e | e
  · rw [e]; exact (make_cell h4 hl hd).2.2
  · rw [e, readE_nil] at hg; cases hg

theorem badB_wrap {ds : List (List Int)} (hl : ds.length = 4) (h4 : ∀ b ∈ ds, b.length = 4) {s : Nat} (hs : s < 3) {ls : List (List Int)} {d : Nat} (hd : d < 4) : (ls.getD d [] = (makeL ds s).getD d [] → badB (wrap4 ls) d s = false) ∧ (ls.getD d [] = [] → badB (wrap4 ls) d s = true) := by
  constructor
  · intro e
    rw [badB_false, wrap4_at hs, e]
    exact (make_cell h4 hl hd).2.1
  · intro e
    rw [badB, wrap4_at hs, e, readE_nil]
    rfl

theorem set_getD (l : List (List Int)) (k d : Nat) (x : List Int) (hk : k < l.length) : (l.set k x).getD d [] = if d = k then x else l.getD d [] := by
  by_cases h : d = k
  · subst h; rw [if_pos rfl, List.getD_eq_getElem?_getD, List.getElem?_set_self hk]; rfl
  · rw [if_neg h, List.getD_eq_getElem?_getD, List.getElem?_set_ne (fun e => h e.symm), ← List.getD_eq_getElem?_getD]

/-- None is none. -/
theorem make_bad {ds : List (List Int)} (hl : ds.length = 4) (h4 : ∀ b ∈ ds, b.length = 4) {s : Nat} (hs : s < 3) : badL (makeL ds s) s = [] := by
  have hm : (makeL ds s).length = 4 := by rw [makeL_length, hl]
  rw [badL_wrap hm hs, List.filter_eq_nil_iff]
  intro d hd
  rw [(badB_wrap hl h4 hs (List.mem_range.1 hd)).1 rfl]
  decide

/-- One is gone. -/
theorem one_gone {ds : List (List Int)} (hl : ds.length = 4) (hb : Blocks ds) (he : EvenB ds) {s : Nat} (hs : s < 3) {g : Nat} (hg : g < 4) :
    dataE ((makeL ds s).set g []) s = 0 ∧ dataL ((makeL ds s).set g []) s = ds ∧ (badL ((makeL ds s).set g []) s).length = 1 := by
  have h4 : ∀ b ∈ ds, b.length = 4 := fun b h => (hb b h).1
  have hm : (makeL ds s).length = 4 := by rw [makeL_length, hl]
  have hls : ((makeL ds s).set g []).length = 4 := by rw [List.length_set, hm]
  have hat : ∀ d, ((makeL ds s).set g []).getD d [] = if d = g then [] else (makeL ds s).getD d [] := fun d => set_getD _ g d [] (by omega)
  have hH : Holds (wrap4 ((makeL ds s).set g [])) s ds := cells_hold hl hb he hs (fun d hd => by
    rw [hat]; split
    · exact .inr rfl
    · exact .inl rfl)
  have hbad : ∀ d, d < 4 → badB (wrap4 ((makeL ds s).set g [])) d s = decide (d = g) := fun d hd => by
    by_cases h : d = g
    · rw [(badB_wrap hl h4 hs hd).2 (by rw [hat, if_pos h])]; simp [h]
    · rw [(badB_wrap hl h4 hs hd).1 (by rw [hat, if_neg h])]; simp [h]
  have hN : badN (wrap4 ((makeL ds s).set g [])) s = 1 := by
    rw [badN_eq (wrap4_whole hls), hbad 0 (by omega), hbad 1 (by omega), hbad 2 (by omega), hbad 3 (by omega)]
    obtain rfl | rfl | rfl | rfl : g = 0 ∨ g = 1 ∨ g = 2 ∨ g = 3 := by omega
    all_goals rfl
  have := hH.data (wrap4_whole hls) (Nat.le_of_eq hN)
  rw [wrap4_cells hs] at this
  refine ⟨this.1, this.2, ?_⟩
  have h2 := hN
  rw [badN, wrap4_cells hs] at h2
  exact h2

/-- Two are gone. -/
theorem two_gone {ds : List (List Int)} (hl : ds.length = 4) (h4 : ∀ b ∈ ds, b.length = 4) {s : Nat} (hs : s < 3) {one two : Nat} (h1 : one < two) (h2 : two < 4) :
    dataE (((makeL ds s).set one []).set two []) s = 9 ∧ dataL (((makeL ds s).set one []).set two []) s = [] ∧ badL (((makeL ds s).set one []).set two []) s = [one, two] := by
  have hm : (makeL ds s).length = 4 := by rw [makeL_length, hl]
  have hls : (((makeL ds s).set one []).set two []).length = 4 := by rw [List.length_set, List.length_set, hm]
  have hat : ∀ d, (((makeL ds s).set one []).set two []).getD d [] = if d = two then [] else if d = one then [] else (makeL ds s).getD d [] := fun d => by
    rw [set_getD _ two d [] (by rw [List.length_set]; omega), set_getD _ one d [] (by omega)]
  have hbad : ∀ d, d < 4 → badB (wrap4 (((makeL ds s).set one []).set two [])) d s = decide (d = one ∨ d = two) := fun d hd => by
    by_cases h : d = two
    · rw [(badB_wrap hl h4 hs hd).2 (by rw [hat, if_pos h])]; simp [h]
    · by_cases h' : d = one
      · rw [(badB_wrap hl h4 hs hd).2 (by rw [hat, if_neg h, if_pos h'])]; simp [h']
      · rw [(badB_wrap hl h4 hs hd).1 (by rw [hat, if_neg h, if_neg h'])]; simp [h, h']
  have hB : badL (((makeL ds s).set one []).set two []) s = [one, two] := by
    rw [badL_wrap hls hs, show List.range 4 = [0, 1, 2, 3] from rfl]
    simp only [List.filter_cons, List.filter_nil, hbad 0 (by omega), hbad 1 (by omega), hbad 2 (by omega), hbad 3 (by omega)]
    obtain ⟨rfl, rfl⟩ | ⟨rfl, rfl⟩ | ⟨rfl, rfl⟩ | ⟨rfl, rfl⟩ | ⟨rfl, rfl⟩ | ⟨rfl, rfl⟩ : (one = 0 ∧ two = 1) ∨ (one = 0 ∧ two = 2) ∨ (one = 0 ∧ two = 3) ∨ (one = 1 ∧ two = 2) ∨ (one = 1 ∧ two = 3) ∨ (one = 2 ∧ two = 3) := by omega
    all_goals rfl
  have hlt : 1 < (badL (((makeL ds s).set one []).set two []) s).length := by rw [hB]; exact Nat.lt_succ_self 1
  exact ⟨if_pos hlt, if_pos hlt, hB⟩

/-- Three blocks, and their xor. -/
theorem three_even (ts : List (List Int)) : EvenB (ts ++ [xorAll ts]) := by
  intro i hi
  rw [xC_append, xC_one, xorAll_toNat _ hi, Nat.xor_self]

theorem three_blocks {ts : List (List Int)} (h4 : ∀ b ∈ ts, b.length = 4) (ho : ∀ b ∈ ts, Octets b) : Blocks (ts ++ [xorAll ts]) := by
  intro b hb
  rcases List.mem_append.1 hb with hb | hb
  · exact ⟨h4 b hb, ho b hb⟩
  · simp only [List.mem_singleton] at hb
    subst hb
    exact ⟨rfl, xorAll_octets ho⟩

end Go.Proofs.Ytjggiameajndgab

/-
  Plain: deeds that name no block in common may change places; what is done twice.
-/
namespace Go.Proofs.Ytjggiameajndgab

/-- Does a deed name a block? -/
def namesB (x : DeedP) (n : Int) : Bool := decide (n = x.n ∨ (x.k = 2 ∧ n = x.m))

theorem getD_ext {a b : List (List Int)} (hl : a.length = b.length) (h : ∀ i, i < a.length → a.getD i [] = b.getD i []) : a = b := by
  refine List.ext_getElem hl fun i g1 g2 => ?_
  have := h i g1
  rw [List.getD_eq_getElem?_getD, List.getD_eq_getElem?_getD, List.getElem?_eq_getElem g1, List.getElem?_eq_getElem g2] at this
  exact this

theorem doL_at {ls : List (List Int)} {x : DeedP} {i : Nat} (h : i < ls.length) : (doL ls x).getD i [] = doAt ls x i := by
  simp [doL, List.getD_eq_getElem?_getD, h]

theorem doAt_free {ls : List (List Int)} {x : DeedP} {i : Nat} (h : namesB x i = false) : doAt ls x i = ls.getD i [] := by
  have h' : ¬ ((i : Int) = x.n ∨ (x.k = 2 ∧ (i : Int) = x.m)) := of_decide_eq_false h
  rw [doAt, if_neg (fun hc => h' (.inl hc.2)), if_neg (fun hc => h' (.inl hc.2)), if_neg (fun hc => h' (.inr hc))]

theorem named_n (x : DeedP) : namesB x x.n = true := by simp [namesB]
theorem named_m {x : DeedP} (h : x.k = 2) : namesB x x.m = true := by simp [namesB, h]

/-- What a deed makes of a block that it names hangs on those alone that it names. -/
theorem doAt_congr {ls ms : List (List Int)} {x : DeedP} (hr : wrongE x = 0) (h : ∀ j : Nat, j < 9 → namesB x j = true → ls.getD j [] = ms.getD j []) {i : Nat} (hi : i < 9) (hn : namesB x i = true) : doAt ls x i = doAt ms x i := by
  obtain ⟨hk, hn0, hn8, h1, h2⟩ := right_deed hr
  unfold doAt
  split
  · rfl
  split
  · rename_i hc
    have hm := whereE_zero (h2 hc.1).1
    refine h x.m.toNat (by omega) ?_
    rw [show ((x.m.toNat : Nat) : Int) = x.m from by omega]
    exact named_m hc.1
  split
  · refine h x.n.toNat (by omega) ?_
    rw [show ((x.n.toNat : Nat) : Int) = x.n from by omega]
    exact named_n x
  · exact h i hi hn

theorem do_apart {ls : List (List Int)} {a b : DeedP} (hl : ls.length = 9) (ha : wrongE a = 0) (hb : wrongE b = 0) (hap : ∀ n : Nat, n < 9 → ¬ (namesB a n = true ∧ namesB b n = true)) : doL (doL ls a) b = doL (doL ls b) a := by
  have hla : (doL ls a).length = 9 := by rw [doL_length, hl]
  have hlb : (doL ls b).length = 9 := by rw [doL_length, hl]
  have key : ∀ {x y : DeedP}, wrongE x = 0 → (∀ n : Nat, n < 9 → ¬ (namesB x n = true ∧ namesB y n = true)) → ∀ i : Nat, i < 9 → namesB y i = false → doAt (doL ls x) y i = doAt (doL ls y) x i := by
    intro x y hx hxy i hi hy
    rw [doAt_free hy, doL_at (by omega)]
    cases hxi : namesB x i with
    | true =>
      refine doAt_congr hx (fun j hj hxj => ?_) hi hxi
      rw [doL_at (by omega), doAt_free (x := y)]
      cases hyj : namesB y j with
      | false => rfl
      | true => exact absurd ⟨hxj, hyj⟩ (hxy j hj)
    | false => rw [doAt_free hxi, doAt_free hxi, doL_at (by omega), doAt_free hy]
  refine getD_ext (by simp only [doL_length]) fun i hi => ?_
  have hi9 : i < 9 := by simp only [doL_length, hl] at hi; exact hi
  rw [doL_at (by omega), doL_at (by omega)]
  cases hbi : namesB b i with
  | false => exact key ha hap i hi9 hbi
  | true =>
    have hai : namesB a i = false := by
      cases hai : namesB a i with
      | false => rfl
      | true => exact absurd ⟨hai, hbi⟩ (hap i hi9)
    exact (key hb (fun n hn hc => hap n hn ⟨hc.2, hc.1⟩) i hi9 hai).symm

theorem do_free {ls : List (List Int)} {a b : DeedP} (hl : ls.length = 9) {n : Nat} (hn : n < 9) (ha : namesB a n = false) (hb : namesB b n = false) : (doL (doL ls a) b).getD n [] = ls.getD n [] := by
  rw [doL_at (by rw [doL_length]; omega), doAt_free hb, doL_at (by omega), doAt_free ha]

/-- Two that change, and change again. -/
theorem do_swap_back {ls : List (List Int)} {x : DeedP} (hl : ls.length = 9) (hr : wrongE x = 0) (hk : x.k = 2) : doL (doL ls x) x = ls := by
  obtain ⟨-, hn0, hn8, -, h2⟩ := right_deed hr
  have hm := whereE_zero (h2 hk).1
  refine getD_ext (by rw [doL_length, doL_length]) fun i hi => ?_
  have hi9 : i < 9 := by rw [doL_length, doL_length, hl] at hi; exact hi
  rw [doL_at (by rw [doL_length]; omega)]
  have at_n : (doL ls x).getD x.n.toNat [] = ls.getD x.m.toNat [] := by rw [doL_at (by omega)]; exact doAt_n hk (by omega)
  have at_m : (doL ls x).getD x.m.toNat [] = ls.getD x.n.toNat [] := by
    rw [doL_at (by omega)]
    by_cases hnm : x.n = x.m
    · rw [doAt_n hk (by omega), hnm]
    · exact doAt_m hk (by omega) (by omega)
  by_cases hin : (i : Int) = x.n
  · rw [doAt_n hk hin, at_m, show x.n.toNat = i from by omega]
  · by_cases him : (i : Int) = x.m
    · rw [doAt_m hk hin him, at_n, show x.m.toNat = i from by omega]
    · rw [doAt_out hk hin him, doL_at (by omega), doAt_out hk hin him]

/-- What is written twice is as if it had been once. -/
theorem do_write_twice {ls : List (List Int)} {x : DeedP} (hl : ls.length = 9) (hk : x.k = 1) : doL (doL ls x) x = doL ls x := by
  refine getD_ext (by rw [doL_length]) fun i hi => ?_
  have hi9 : i < 9 := by rw [doL_length, doL_length, hl] at hi; exact hi
  rw [doL_at (by rw [doL_length]; omega)]
  by_cases hin : (i : Int) = x.n
  · rw [doAt_data hk hin, doL_at (by omega), doAt_data hk hin]
  · rw [doAt_old hk hin]

theorem do_write_at {ls : List (List Int)} {x : DeedP} (hl : ls.length = 9) (hr : wrongE x = 0) (hk : x.k = 1) : (doL ls x).getD x.n.toNat [] = x.d := by
  obtain ⟨-, hn0, hn8, -, -⟩ := right_deed hr
  rw [doL_at (by omega)]
  exact doAt_data hk (by omega)

theorem doL_four {ls : List (List Int)} {x : DeedP} (h4 : ∀ b ∈ ls, b.length = 4) (hl : ls.length = 9) (hr : wrongE x = 0) : ∀ b ∈ doL ls x, b.length = 4 := by
  obtain ⟨hk, hn0, hn8, h1, h2⟩ := right_deed hr
  have hg : ∀ k, k < 9 → (ls.getD k []).length = 4 := fun k hk => h4 _ (getD_mem (by omega))
  intro b hb
  simp only [doL, List.mem_map, List.mem_range] at hb
  obtain ⟨i, hi, rfl⟩ := hb
  unfold doAt
  split
  · rename_i h; exact (h1 h.1).2
  split
  · rename_i h
    have := whereE_zero (h2 h.1).1
    exact hg _ (by omega)
  split
  · exact hg _ (by omega)
  · exact hg _ (by omega)

end Go.Proofs.Ytjggiameajndgab

/-
  The two outright statements of chapter 2, walked: unlike cells look unlike; rot is found, and a wrong place. They return true, and nothing old turns.
-/
namespace Go.Proofs.Ytjggiameajndgab
open Go.RowKit

theorem read_yes (v : Value) (l : List Int) (d s : Int) (w : World) (hl : l.length = 4) (h : Bs w v (cellOf d s l)) :
    Calls Try.prog 73 #[v, .int .i64 d, .int .i64 s] w fun e w' => ∃ r, e = .returned (.tuple #[r, .int .i64 0]) ∧ Bs w' r l ∧ Grow w w' :=
  (read_any v _ d s w h).mono fun e w' ⟨r, he, hb, hg⟩ => by
    have := read_cell (d := d) (s := s) hl d s
    simp only [and_self, if_true] at this
    rw [this.1] at hb
    rw [this.2] at he
    exact ⟨r, he, hb, hg⟩

theorem read_no (v : Value) (l : List Int) (d s d' s' : Int) (w : World) (hl : l.length = 4) (hne : ¬ (d = d' ∧ s = s')) (h : Bs w v (cellOf d s l)) :
    Calls Try.prog 73 #[v, .int .i64 d', .int .i64 s'] w fun e w' => ∃ r, e = .returned (.tuple #[r, .int .i64 8]) ∧ Grow w w' :=
  (read_any v _ d' s' w h).mono fun e w' ⟨r, he, hb, hg⟩ => by
    have := read_cell (d := d) (s := s) hl d' s'
    rw [if_neg hne, if_neg hne] at this
    rw [this.2] at he
    exact ⟨r, he, hg⟩

theorem there_yes (d s : Int) (w : World) (h : 0 ≤ d ∧ d < 4 ∧ 0 ≤ s ∧ s < 3) : Calls Try.prog 97 #[.int .i64 d, .int .i64 s] w fun e w' => e = .returned (.bool true) ∧ w' = w := by
  rw [← show thereB d s = true from decide_eq_true h]; exact there_any d s w

theorem there_no (d s : Int) (w : World) (h : ¬ (0 ≤ d ∧ d < 4 ∧ 0 ≤ s ∧ s < 3)) : Calls Try.prog 97 #[.int .i64 d, .int .i64 s] w fun e w' => e = .returned (.bool false) ∧ w' = w := by
  rw [← show thereB d s = false from decide_eq_false h]; exact there_any d s w

theorem octets_abcd : Octets [97, 98, 99, 100] := by intro x hx; simp at hx; omega

theorem str_abcd : strOfNums [97, 98, 99, 100] = { data := #[97, 98, 99, 100] } := rfl

theorem read_rot (v : Value) (l : List Int) (d s : Int) (k : Nat) (c : Int) (w : World) (hd : 0 ≤ d ∧ d ≤ 255) (hs : 0 ≤ s ∧ s ≤ 255) (ho : Octets l) (hk : k < (cellOf d s l).length) (hc : 0 ≤ c ∧ c ≤ 255) (hne : (cellOf d s l).getD k 0 ≠ c) (h : Bs w v ((cellOf d s l).set k c)) :
    Calls Try.prog 73 #[v, .int .i64 d, .int .i64 s] w fun e w' => ∃ r, e = .returned (.tuple #[r, .int .i64 7]) ∧ Grow w w' :=
  (read_any v _ d s w h).mono fun e w' ⟨r, he, hb, hg⟩ => by
    rw [(read_turned hd hs ho hk hc hne d s).2] at he
    exact ⟨r, he, hg⟩

end Go.Proofs.Ytjggiameajndgab

/-
  What the program's Spare, Where and Block return; the reference's Spare on from 0. The program's make nothing.
-/
namespace Go.Proofs.Ytjggiameajndgab
open Go.RowKit

set_option maxRecDepth 20000 in
set_option maxHeartbeats 400000 in
theorem spare_any (s : Int) (w : World) (h0 : 0 ≤ s) (h1 : s ≤ 9223372036854775807) :
    Calls Try.prog 91 #[.int .i64 s] w fun e w' => e = .returned (.int .i64 (3 - s % 4)) ∧ w' = w := by
  go_enter Try.func91, Try.ntmps91
  go_wp2
  go_ret
  exact ⟨rfl, rfl⟩

set_option maxRecDepth 20000 in
set_option maxHeartbeats 400000 in
theorem spare_low (s : Int) (w : World) (h0 : 0 ≤ s) (h1 : s < 3) :
    Calls Try.prog 91 #[.int .i64 s] w fun e w' => e = .returned (.int .i64 (3 - s)) ∧ w' = w :=
  (spare_any s w h0 (by omega)).mono fun e w' ⟨he, hw⟩ => ⟨he.trans (ret_int (by omega)), hw⟩

set_option maxRecDepth 20000 in
set_option maxHeartbeats 400000 in
theorem refSpare_on (s : Int) (w : World) (h0 : 0 ≤ s) (h1 : s ≤ 9223372036854775807) :
    Calls Try.prog 76 #[.int .i64 s] w fun e w' => e = .returned (.int .i64 (3 - s % 4)) ∧ Grow w w' := by
  obtain h | h | h | h : s % 4 = 0 ∨ s % 4 = 1 ∨ s % 4 = 2 ∨ s % 4 = 3 := by omega
  all_goals
    rw [h]
    go_enter Try.func76, Try.ntmps76
    go_wp2
    go_ret
    exact ⟨rfl, Grow.alloc _ _⟩

set_option maxRecDepth 20000 in
set_option maxHeartbeats 1600000 in
theorem where_any (b : Int) (w : World) :
    Calls Try.prog 72 #[.int .i64 b] w fun e w' => e = .returned (.tuple #[.int .i64 (whereD b), .int .i64 (whereS b), .int .i64 (whereE b)]) ∧ w' = w := by
  by_cases hp : 0 ≤ b ∧ b < 9
  · obtain rfl | rfl | rfl | rfl | rfl | rfl | rfl | rfl | rfl : b = 0 ∨ b = 1 ∨ b = 2 ∨ b = 3 ∨ b = 4 ∨ b = 5 ∨ b = 6 ∨ b = 7 ∨ b = 8 := by omega
    all_goals
      go_enter Try.func72, Try.ntmps72
      go_wp2_with fail
      refine (spare_any _ _ (by omega) (by omega)).mono ?_
      rintro e w1 ⟨rfl, rfl⟩
      go_wp2_with fail
      go_ret3
      exact ⟨rfl, rfl⟩
  · have hw := where_out hp
    obtain ⟨h1, h2, h3⟩ := hw
    have hout : b < 0 ∨ (0 ≤ b ∧ 9 ≤ b) := by omega
    clear hp
    rcases hout with h | ⟨h, g⟩
    all_goals
      go_enter Try.func72, Try.ntmps72
      go_wp2
      go_ret3
      exact ⟨ret_int3 h1.symm h2.symm h3.symm, rfl⟩

set_option maxRecDepth 20000 in
set_option maxHeartbeats 1600000 in
theorem block_any (d s : Int) (w : World) :
    Calls Try.prog 96 #[.int .i64 d, .int .i64 s] w fun e w' => e = .returned (.tuple #[.int .i64 (blockN d s), .int .i64 (blockE d s)]) ∧ w' = w := by
  by_cases hp : 0 ≤ d ∧ d < 4 ∧ 0 ≤ s ∧ s < 3
  · have hT := fun w1 => there_yes d s w1 hp
    obtain ⟨hd0, hd1, hs0, hs1⟩ := hp
    obtain rfl | rfl | rfl | rfl : d = 0 ∨ d = 1 ∨ d = 2 ∨ d = 3 := by omega
    all_goals
      obtain rfl | rfl | rfl : s = 0 ∨ s = 1 ∨ s = 2 := by omega
      all_goals
        go_enter Try.func96, Try.ntmps96
        go_wp2_with fail
        refine (hT _).mono ?_
        rintro e w1 ⟨rfl, rfl⟩
        go_wp2_with fail
        refine (spare_any _ _ (by omega) (by omega)).mono ?_
        rintro e w1 ⟨rfl, rfl⟩
        go_wp2_with fail
        go_ret2
        exact ⟨rfl, rfl⟩
  · have HB : Hid (blockN d s = 0 ∧ blockE d s = 3) := by rw [Hid, blockN, blockE, if_neg hp, if_neg hp]; exact ⟨rfl, rfl⟩
    have hT := fun w1 => there_no d s w1 hp
    clear hp
    go_enter Try.func96, Try.ntmps96
    go_wp2_with fail
    refine (hT _).mono ?_
    rintro e w1 ⟨rfl, rfl⟩
    go_wp2_with fail
    go_ret2
    exact ⟨ret_int2 HB.out.1.symm HB.out.2.symm, rfl⟩

end Go.Proofs.Ytjggiameajndgab

/-
  What the program's model.Wrong returns, by its parts. Nothing old turns.
-/
namespace Go.Proofs.Ytjggiameajndgab
open Go.RowKit

set_option maxRecDepth 20000 in
set_option maxHeartbeats 800000 in
theorem inOne_yes (n m : Int) (w : World) (h1 : whereE n = 0) (h2 : whereE m = 0) (h3 : whereS n = whereS m) :
    Calls Try.prog 80 #[.int .i64 n, .int .i64 m] w fun e w' => e = .returned (.bool true) ∧ w' = w := by
  have hN := fun w1 => where_any n w1
  have hM := fun w1 => where_any m w1
  rw [h1, h3] at hN
  rw [h2] at hM
  clear h1 h2 h3
  generalize whereS m = s at *
  generalize whereD m = d at *
  generalize whereD n = d' at *
  go_enter Try.func80, Try.ntmps80
  go_wp2_with fail
  refine (hN _).mono ?_
  rintro e w1 ⟨rfl, rfl⟩
  go_wp2_with fail
  refine (hM _).mono ?_
  rintro e w1 ⟨rfl, rfl⟩
  go_wp2
  go_ret
  exact ⟨rfl, rfl⟩

set_option maxRecDepth 20000 in
set_option maxHeartbeats 1600000 in
theorem inOne_no (n m : Int) (w : World) (h : ¬ (whereE n = 0 ∧ whereE m = 0 ∧ whereS n = whereS m)) :
    Calls Try.prog 80 #[.int .i64 n, .int .i64 m] w fun e w' => e = .returned (.bool false) ∧ w' = w := by
  have hN := fun w1 => where_any n w1
  have hM := fun w1 => where_any m w1
  generalize whereE n = en at *
  generalize whereE m = em at *
  generalize whereS n = s' at *
  generalize whereS m = s at *
  generalize whereD m = d at *
  generalize whereD n = d' at *
  by_cases h1 : en = 0
  · by_cases h2 : em = 0
    · have h3 : (s' == s) = false := by rw [beq_eq_false_iff_ne]; exact fun h3 => h ⟨h1, h2, h3⟩
      subst h1 h2
      clear h
      go_enter Try.func80, Try.ntmps80
      go_wp2_with fail
      refine (hN _).mono ?_
      rintro e w1 ⟨rfl, rfl⟩
      go_wp2_with fail
      refine (hM _).mono ?_
      rintro e w1 ⟨rfl, rfl⟩
      go_wp2
      go_ret
      exact ⟨rfl, rfl⟩
    · have h2' : (em == 0) = false := by simpa using h2
      subst h1
      clear h h2
      go_enter Try.func80, Try.ntmps80
      go_wp2_with fail
      refine (hN _).mono ?_
      rintro e w1 ⟨rfl, rfl⟩
      go_wp2_with fail
      refine (hM _).mono ?_
      rintro e w1 ⟨rfl, rfl⟩
      go_wp2
      go_ret
      exact ⟨rfl, rfl⟩
  · have h1' : (en == 0) = false := by simpa using h1
    clear h h1
    go_enter Try.func80, Try.ntmps80
    go_wp2_with fail
    refine (hN _).mono ?_
    rintro e w1 ⟨rfl, rfl⟩
    go_wp2_with fail
    refine (hM _).mono ?_
    rintro e w1 ⟨rfl, rfl⟩
    go_wp2
    go_ret
    exact ⟨rfl, rfl⟩

theorem whereE_in {n : Int} (h : 0 ≤ n ∧ n ≤ 8) : whereE n = 0 := by rw [whereE, if_pos (by omega)]
theorem whereE_out {n : Int} (h : n < 0 ∨ 8 < n) : whereE n = 3 := by rw [whereE, if_neg (by omega)]

set_option maxRecDepth 20000 in
set_option maxHeartbeats 1600000 in
theorem wrongWrite_any (v : Value) (x : DeedP) (w : World) (h : DeedV w v x) (hk : x.k = 1) :
    Calls Try.prog 55 #[v] w fun e w' => e = .returned (.int .i64 (wrongE x)) ∧ Grow w w' := by
  obtain ⟨dv, rfl, hb⟩ := h
  obtain ⟨ao, cap, rfl, h1, h2, -⟩ := hb
  unfold maxLen at h2
  have wn := w_n (x := x)
  have wm := w_m (x := x)
  have wl := w_len (x := x)
  have wo := w_ok (x := x)
  obtain ⟨k, n, m, d⟩ := x
  dsimp only at *
  subst hk
  generalize wrongE ⟨1, n, m, d⟩ = W at *
  generalize d.length = len at *
  have hgA : Grow w (w.alloc (.cells #[.int .i64 1, .int .i64 n, .int .i64 m, .slice ao len cap] 25)) := Grow.alloc _ _
  have hN := fun w1 => where_any n w1
  by_cases hn : 0 ≤ n ∧ n ≤ 8
  · rw [whereE_in hn] at hN
    by_cases hm : m = 0
    · subst hm
      by_cases hl : len = 4
      · have hW : W = 0 := wo rfl hn rfl hl
        subst hl hW
        clear wn wm wl wo hn
        go_enter Try.func55, Try.ntmps55
        go_wp2_with fail
        refine (hN _).mono ?_
        rintro e w1 ⟨rfl, rfl⟩
        go_wp2
        go_ret
        exact ⟨rfl, hgA⟩
      · have hW : W = 4 := wl rfl hn rfl hl
        have hl' : ¬ (len : Int) = 4 := by omega
        subst hW
        clear wn wm wl wo hn hl
        go_enter Try.func55, Try.ntmps55
        go_wp2_with fail
        refine (hN _).mono ?_
        rintro e w1 ⟨rfl, rfl⟩
        go_wp2
        go_ret
        exact ⟨rfl, hgA⟩
    · have hW : W = 3 := wm rfl hn hm
      subst hW
      clear wn wm wl wo hn
      go_enter Try.func55, Try.ntmps55
      go_wp2_with fail
      refine (hN _).mono ?_
      rintro e w1 ⟨rfl, rfl⟩
      go_wp2
      go_ret
      exact ⟨rfl, hgA⟩
  · rw [whereE_out (by omega)] at hN
    have hW : W = 3 := wn (.inl rfl) (by omega)
    subst hW
    clear wn wm wl wo hn
    go_enter Try.func55, Try.ntmps55
    go_wp2_with fail
    refine (hN _).mono ?_
    rintro e w1 ⟨rfl, rfl⟩
    go_wp2
    go_ret
    exact ⟨rfl, hgA⟩

set_option maxRecDepth 20000 in
set_option maxHeartbeats 1600000 in
theorem wrongSwap_any (v : Value) (x : DeedP) (w : World) (h : DeedV w v x) (hk : x.k = 2) :
    Calls Try.prog 56 #[v] w fun e w' => e = .returned (.int .i64 (wrongE x)) ∧ Grow w w' := by
  obtain ⟨dv, rfl, hb⟩ := h
  obtain ⟨ao, cap, rfl, h1, h2, -⟩ := hb
  unfold maxLen at h2
  have wn := w_n (x := x)
  have wa := w_at (x := x)
  have wu := w_much (x := x)
  have wp := w_ok2 (x := x)
  obtain ⟨k, n, m, d⟩ := x
  dsimp only at *
  subst hk
  generalize wrongE ⟨2, n, m, d⟩ = W at *
  generalize d.length = len at *
  have hgA : Grow w (w.alloc (.cells #[.int .i64 2, .int .i64 n, .int .i64 m, .slice ao len cap] 25)) := Grow.alloc _ _
  by_cases hn : whereE n = 0 ∧ whereE m = 0 ∧ whereS n = whereS m
  · have hI := fun w1 => inOne_yes n m w1 hn.1 hn.2.1 hn.2.2
    have hn8 : 0 ≤ n ∧ n ≤ 8 := by have := whereE_zero hn.1; omega
    have hnm : ¬ (whereE m ≠ 0 ∨ whereS n ≠ whereS m) := fun hc => by rcases hc with hc | hc; exact hc hn.2.1; exact hc hn.2.2
    by_cases hl : len = 0
    · have hW : W = 0 := wp rfl hn8 hnm hl
      subst hl hW
      clear wn wa wu wp hn hn8 hnm
      go_enter Try.func56, Try.ntmps56
      go_wp2_with fail
      refine (hI _).mono ?_
      rintro e w1 ⟨rfl, rfl⟩
      go_wp2
      go_ret
      exact ⟨rfl, hgA⟩
    · have hW : W = 4 := wu rfl hn8 hnm hl
      have hl' : ¬ (len : Int) = 0 := by omega
      subst hW
      clear wn wa wu wp hn hn8 hnm hl
      go_enter Try.func56, Try.ntmps56
      go_wp2_with fail
      refine (hI _).mono ?_
      rintro e w1 ⟨rfl, rfl⟩
      go_wp2
      go_ret
      exact ⟨rfl, hgA⟩
  · have hI := fun w1 => inOne_no n m w1 hn
    have hW : W = 3 := by
      by_cases h8 : 0 ≤ n ∧ n ≤ 8
      · refine wa rfl h8 ?_
        by_cases hm : whereE m = 0
        · exact .inr fun hs => hn ⟨whereE_in h8, hm, hs⟩
        · exact .inl hm
      · exact wn (.inr rfl) (by omega)
    subst hW
    clear wn wa wu wp hn
    go_enter Try.func56, Try.ntmps56
    go_wp2_with fail
    refine (hI _).mono ?_
    rintro e w1 ⟨rfl, rfl⟩
    go_wp2
    go_ret
    exact ⟨rfl, hgA⟩

set_option maxRecDepth 20000 in
set_option maxHeartbeats 1600000 in
theorem modelWrong_any (v : Value) (x : DeedP) (w : World) (h : DeedV w v x) : Calls Try.prog 15 #[v] w fun e w' => e = .returned (.int .i64 (wrongE x)) ∧ Grow w w' := by
  have hd := h
  obtain ⟨dv, rfl, hb⟩ := h
  obtain ⟨d1, d2, d3, rfl⟩ := hb.form
  have hg := Grow.alloc w (.cells #[.int .i64 x.k, .int .i64 x.n, .int .i64 x.m, .slice d1 d2 d3] 25)
  by_cases h1 : x.k = 1
  · have hW := wrongWrite_any _ x _ (hd.grow hg) h1
    clear hd hb
    generalize wrongE x = E at *
    rw [h1] at hW hg ⊢
    clear h1
    go_enter Try.func15, Try.ntmps15
    go_wp2_with fail
    refine hW.mono ?_
    rintro e w1 ⟨rfl, hg1⟩
    go_wp2
    go_ret
    exact ⟨rfl, hg.trans hg1⟩
  · by_cases h2 : x.k = 2
    · have hW := wrongSwap_any _ x _ (hd.grow hg) h2
      clear hd hb h1
      generalize wrongE x = E at *
      rw [h2] at hW hg ⊢
      clear h2
      go_enter Try.func15, Try.ntmps15
      go_wp2_with fail
      refine hW.mono ?_
      rintro e w1 ⟨rfl, hg1⟩
      go_wp2
      go_ret
      exact ⟨rfl, hg.trans hg1⟩
    · have hW : Hid (wrongE x = 1) := w_kind h1 h2
      go_enter Try.func15, Try.ntmps15
      go_wp2
      go_ret
      exact ⟨ret_int hW.out.symm, hg⟩

end Go.Proofs.Ytjggiameajndgab

/-
  What the program's model.Same returns, by slices.EqualFunc and bytes.Equal. Nothing old turns.
-/
namespace Go.Proofs.Ytjggiameajndgab
open Go.RowKit

set_option maxRecDepth 20000 in
set_option maxHeartbeats 800000 in
theorem bytesEqual_any (v u : Value) (a b : List Int) (w : World) (h : Bs w v a) (g : Bs w u b) :
    Calls Try.prog 60 #[v, u] w fun e w' => e = .returned (.bool (a == b)) ∧ Grow w w' := by
  have hc1 := run_convert_bs (P := Try.prog) 23 5 9 Try.underlying23 Try.underlying5 Try.underlying9 h
  have hc2 := run_convert_bs (P := Try.prog) 23 5 9 Try.underlying23 Try.underlying5 Try.underlying9 g
  have HB : Hid (((strOfNums a).toList == (strOfNums b).toList) = (a == b)) := str_beq h.octets g.octets
  clear h g
  go_enter Try.func60, Try.ntmps60
  go_wp2
  go_ret
  exact ⟨ret_bool HB.out, Grow.refl _⟩

set_option maxRecDepth 20000 in
set_option maxHeartbeats 1600000 in
theorem equalFunc_any (va vb : Value) (a b : List (List Int)) (w : World) (ha : Bss w va a) (hb : Bss w vb b) :
    Calls Try.prog 59 #[va, vb, .func (.func 60) #[] #[]] w fun e w' => e = .returned (.bool (a == b)) ∧ Grow w w' := by
  obtain ⟨aa, ca, rfl, h1, h2, h3, h4⟩ := ha
  obtain ⟨ab, cb, rfl, g1, g2, g3, g4⟩ := hb
  unfold maxLen at h2 g2
  by_cases hl : a.length = b.length
  · have HL : Hid (a.length = b.length) := hl
    rw [← hl] at g1 ⊢
    clear hl
    go_enter Try.func59, Try.ntmps59
    go_wp2
    go_loopw [17] (fun i wr => ∃ k : Nat, k ≤ a.length ∧ i = .int .i64 k ∧ Hid (∀ j, j < k → a.getD j [] = b.getD j []) ∧ Grow w wr) (fun i _ => a.length - (intOf i).toNat)
    case atStart => exact ⟨0, by omega, rfl, (fun j hj => by omega), Grow.refl _⟩
    case round =>
      obtain ⟨k, hk, rfl, HK, hgr⟩ := hrel
      by_cases hlt : k < a.length
      · obtain ⟨ba, offa, rfl, hca⟩ := h4 (by omega)
        obtain ⟨bb, offb, rfl, hcb⟩ := g4 (by have := HL.out; omega)
        obtain ⟨xa, cxa, hxa, hba⟩ := Sl.bytesAt hca hlt
        obtain ⟨xb, cxb, hxb, hbb⟩ := Sl.bytesAt hcb (k := k) (by have := HL.out; omega)
        have hxa' := hgr.at hxa
        have hxb' := hgr.at hxb
        have hE := bytesEqual_any _ _ _ _ _ (hba.grow hgr) (hbb.grow hgr)
        clear hca hcb h4 g4 hxa hxb hba hbb
        by_cases he : a.getD k [] = b.getD k []
        · have HK' : Hid (∀ j, j < k + 1 → a.getD j [] = b.getD j []) := fun j hj => by
            by_cases hjk : j = k
            · subst hjk; exact he
            · exact HK.out j (by omega)
          rw [show (a.getD k [] == b.getD k []) = true from by rw [he]; simp] at hE
          clear he
          generalize (a.getD k []).length = n at *
          generalize (b.getD k []).length = m at *
          go_wp2_with fail
          refine hE.mono ?_
          rintro e w1 ⟨rfl, hg1⟩
          go_wp2
          go_roundw
          case rel => first | exact ⟨k + 1, by omega, by go_num, HK', hgr.trans hg1⟩ | ((repeat apply Exists.intro); exact ⟨⟨k + 1, by omega, by go_num, HK', hgr.trans hg1⟩, rfl⟩)
          case measure => simp [intOf]; omega
        · have HE : Hid ((a == b) = false) := same_no he
          rw [show (a.getD k [] == b.getD k []) = false from by rw [beq_eq_false_iff_ne]; exact he] at hE
          clear he
          generalize (a.getD k []).length = n at *
          generalize (b.getD k []).length = m at *
          go_wp2_with fail
          refine hE.mono ?_
          rintro e w1 ⟨rfl, hg1⟩
          go_wp2
          go_ret
          exact ⟨ret_bool HE.out.symm, hgr.trans hg1⟩
      · have HE : Hid ((a == b) = true) := same_yes HL.out (fun j hj => HK.out j (by omega))
        go_wp2
        go_ret
        exact ⟨ret_bool HE.out.symm, hgr⟩
  · have HE : Hid ((a == b) = false) := same_len hl
    have hl' : ¬ (a.length : Int) = (b.length : Int) := by omega
    clear hl
    go_enter Try.func59, Try.ntmps59
    go_wp2
    go_ret
    exact ⟨ret_bool HE.out.symm, Grow.refl _⟩

set_option maxRecDepth 20000 in
theorem modelSame_any (v u : Value) (a b : List (List Int)) (w : World) (h : Bss w v a) (g : Bss w u b) (_ha : a.length = 9) (_hb : b.length = 9) :
    Calls Try.prog 18 #[v, u] w fun e w' => e = .returned (.bool (a == b)) ∧ Grow w w' := by
  obtain ⟨av, cv, rfl⟩ := Sl.form h
  obtain ⟨au, cu, rfl⟩ := Sl.form g
  have hcall := equalFunc_any _ _ _ _ w h g
  clear _ha _hb
  generalize a.length = n at *
  generalize b.length = m at *
  go_enter Try.func18, Try.ntmps18
  go_wp2_with fail
  refine hcall.mono ?_
  rintro e w1 ⟨rfl, hg1⟩
  go_wp2
  go_ret
  exact ⟨rfl, hg1⟩

end Go.Proofs.Ytjggiameajndgab

/-
  What the program's model.New and bytes.Clone return. Nothing old turns.
-/
namespace Go.Proofs.Ytjggiameajndgab
open Go.RowKit

/-- A row of nine, made. -/
def nines : Array Value := #[.slice none 0 0, .slice none 0 0, .slice none 0 0, .slice none 0 0, .slice none 0 0, .slice none 0 0, .slice none 0 0, .slice none 0 0, .slice none 0 0]

theorem Try.made9 (w : World) : (Instr.makeSlice 22 (.int .i64 9) (.int .i64 9)).run Try.prog w = .ok (.slice (some ⟨w.heap.size, 0, none⟩) 9 9) (w.alloc (.cells nines 23)) :=
  (run_make_row' (P := Try.prog) 22 23 (.slice none 0 0) 24 Try.underlying22 Try.infoS rfl .i64 .i64 9 (by decide) (by decide) w).trans (by rw [show madeCells #[.slice none 0 0] 9 = nines from Array.toList_inj.1 (toList_madeCells_one _ _)])

theorem Rowing.made9 (w : World) : Rowing Bs w.heap.size 23 (w.alloc (.cells nines 23)) (.slice (some ⟨w.heap.size, 0, none⟩) 9 9) (List.replicate 9 []) := by
  refine ⟨nines.toList, ⟨rfl, .inr ⟨w.heap.size, 9, nines, rfl, Nat.le_refl _, heap_alloc_new w _, Nat.le_refl _, by unfold maxLen; omega, rfl, rfl⟩⟩, rfl, fun i u x hu hx w' _ => ?_⟩
  have hu' : u = .slice none 0 0 := by
    have := List.mem_of_getElem? hu
    simpa [nines] using this
  have hx' : x = [] := by
    have := List.mem_of_getElem? hx
    simpa using this
  subst hu' hx'
  exact Bs.nil _

/-- The first k are filled. -/
def upTo (f : Nat → List Int) (k : Nat) : List (List Int) := (List.range 9).map fun i => if i < k then f i else []

theorem upTo_zero (f : Nat → List Int) : upTo f 0 = List.replicate 9 [] := by simp [upTo]; decide
theorem upTo_all (f : Nat → List Int) : upTo f 9 = (List.range 9).map f := List.map_congr_left fun _ hi => if_pos (List.mem_range.1 hi)
theorem upTo_length (f : Nat → List Int) (k : Nat) : (upTo f k).length = 9 := by simp [upTo]
theorem upTo_set (f : Nat → List Int) {k : Nat} (_h : k < 9) : (upTo f k).set k (f k) = upTo f (k + 1) := by
  refine List.ext_getElem (by simp [upTo]) fun i h1 h2 => ?_
  rw [List.getElem_set]
  simp only [upTo, List.getElem_map, List.getElem_range]
  by_cases hik : k = i
  · subst hik; rw [if_pos rfl, if_pos (by omega)]
  · rw [if_neg hik]
    by_cases hlt : i < k
    · rw [if_pos hlt, if_pos (by omega)]
    · rw [if_neg hlt, if_neg (by omega)]

set_option maxRecDepth 20000 in
set_option maxHeartbeats 800000 in
theorem modelNew_any (w : World) : Calls Try.prog 54 #[] w fun e w' => ∃ r, e = .returned r ∧ Bss w' r (List.replicate 9 nought) ∧ Grow w w' := by
  have hmk := Try.made9 w
  have hst : Hid (Rowing Bs w.heap.size 23 (w.alloc (.cells nines 23)) (.slice (some ⟨w.heap.size, 0, none⟩) 9 9) (upTo (fun _ => nought) 0)) := by rw [upTo_zero]; exact Rowing.made9 w
  have hend : Hid (upTo (fun _ => nought) 9 = List.replicate 9 nought) := by rw [Hid, upTo_all]; rfl
  go_enter Try.func54, Try.ntmps54
  go_wp2
  go_loopw [6] (fun i wr => ∃ k : Nat, k ≤ 9 ∧ i = .int .i64 k ∧ Hid (Rowing Bs w.heap.size 23 wr (.slice (some ⟨w.heap.size, 0, none⟩) 9 9) (upTo (fun _ => nought) k)) ∧ Grow w wr) (fun i _ => 9 - (intOf i).toNat)
  case atStart => exact ⟨0, by omega, rfl, hst, Grow.alloc _ _⟩
  case round =>
    obtain ⟨k, hk, rfl, HR, hgr⟩ := hrel
    clear hst hmk
    by_cases hlt : k < 9
    · have hmk := Try.made4 wr
      have hgA : Grow wr (wr.alloc (.cells #[.int .u8 0, .int .u8 0, .int .u8 0, .int .u8 0] 5)) := Grow.alloc _ _
      have hrow := HR.out.grow hgA
      have hb : w.heap.size < wr.heap.size := (HR.out.base _ rfl).2
      have hoff : Off Bs (some w.heap.size) (wr.alloc (.cells #[.int .u8 0, .int .u8 0, .int .u8 0, .int .u8 0] 5)) (.slice (some ⟨wr.heap.size, 0, none⟩) 4 4) nought := Off.row (l := nought) (heap_alloc_new wr _) rfl (by unfold maxLen; omega) nought_oct (fun e => by injection e with e; omega)
      obtain ⟨⟨u0, hu0⟩, hf0⟩ := hrow.at (k := k) (by rw [upTo_length]; exact hlt)
      have hpast := World.setCell_alloc_past (w := wr) (.cells #[.int .u8 0, .int .u8 0, .int .u8 0, .int .u8 0] 5) w.heap.size k (.slice (some ⟨wr.heap.size, 0, none⟩) 4 4) hb
      have hrow1 := hrow.stored k hoff
      have hg1 := (hgr.trans hgA).grown (grown_set (wr.alloc (.cells #[.int .u8 0, .int .u8 0, .int .u8 0, .int .u8 0] 5)) w.heap.size k (.slice (some ⟨wr.heap.size, 0, none⟩) 4 4)) (fun j hj => by cases hj; exact Nat.le_refl _)
      rw [upTo_set (fun _ => nought) hlt, hpast] at hrow1
      rw [hpast] at hg1
      have HR1 : Hid (Rowing Bs _ _ _ _ _) := hrow1
      clear hrow1 hpast
      clear HR hgA hrow hoff
      go_wp2
      go_roundw
      case rel => first | exact ⟨k + 1, by omega, by go_num, HR1, hg1⟩ | ((repeat apply Exists.intro); exact ⟨⟨k + 1, by omega, by go_num, HR1, hg1⟩, rfl⟩)
      case measure => simp [intOf]; omega
    · obtain rfl : k = 9 := by omega
      go_wp2
      go_ret
      exact ⟨_, rfl, by rw [← hend.out]; exact HR.out.done, hgr⟩

set_option maxRecDepth 20000 in
set_option maxHeartbeats 800000 in
theorem bytesClone_some (v : Value) (l : List Int) (w : World) (h : Bs w v l) (hp : 0 < l.length) (hm : l.length ≤ 1000) :
    Calls Try.prog 58 #[v] w fun e w' => ∃ r, e = .returned r ∧ (∀ g, (∀ k, g = some k → k < w.heap.size) → Off Bs g w' r l) ∧ Grow w w' := by
  obtain ⟨i0, hi, hz0, hz1, hz2⟩ := info_parts Try.infoB
  have hoc := h.octets
  obtain ⟨ao, cap, rfl, h1, h2, h3, h4, h5⟩ := h
  have hsrc := h5.src
  obtain ⟨b, off, rfl, hc⟩ := h5 hp
  have hsrc' := hsrc _ rfl
  unfold maxLen at h2
  have HO : Hid (∀ (v' : Value) w', w'.ownsRow w.heap.size 5 1 v' l.length (l.map (Value.int .u8)) → ∀ g : Option Nat, (∀ k, g = some k → k < w.heap.size) → Off Bs g w' v' l) := fun v' w' ho g hg => Off.own ho hoc hg
  have qT : ∀ (w : World) (a : Option Addr) (n c n' c' : Nat), (binOp .eql 23 (.slice a n c) (.slice none n' c')).run Try.prog w = .ok (.bool a.isNone) w := fun w a n c n' c' => Lib.run_eql_slice_nil w _ _ a n c n' c' Try.underlying23
  have hlm : (l.map (Value.int .u8)).length = l.length := by simp
  have hone := u8_oneCell l
  clear h5 hc hsrc hoc
  generalize l.map (Value.int .u8) = news at *
  have HLM : Hid (news.length = l.length) := hlm
  generalize l.length = n at *
  clear hlm
  go_enter Try.func58, Try.ntmps58
  go_wp2_with (first
    | (at_builtin; refine wpList_append_copy rfl (.tmp 5) (.tmp 6) 23 rfl 5 i0 (.int .u8 0) 1 Try.underlying23 hi hz0 hz1 hz2 rfl w.heap.size (heap_alloc_new w _) w (Grow.alloc _ _) (Nat.le_refl _) rfl ⟨b, off, none⟩ n cap news rfl HLM.out hsrc' hone hp (by omega) (by omega) ?_; rintro g1 cg w1 hown hg1 - - - -; have HX := HO.out _ _ hown; have HX' : Hid (_ ∧ _) := And.intro HX hg1; clear HX hown))
  go_wp2
  go_ret
  exact ⟨_, rfl, HX'.out.1, hg1⟩

end Go.Proofs.Ytjggiameajndgab
