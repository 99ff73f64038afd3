import Derived.Lib.MinMax
import Derived.Test.YtjggiameajndgacJoin13
/-
  Plain: what gentle steps make of what stripes hold, and of blocks.
-/
namespace Go.Proofs.Ytjggiameajndgac

theorem sOf_eq {n : Nat} (h : n < 9) : sOf (n : Nat) = n / 3 := by
  simp only [sOf, whereS]
  rw [if_pos (by omega)]
  omega

/-- Where the disks of what is planned are, blocks are what they were to be. -/
theorem planOut_at (bl : List (List Int)) {n : Nat} (hn : n < 9) : (planOut bl (sOf (n : Nat))).getD (dOf (n : Nat)) [] = bl.getD n [] := by
  obtain ⟨-, -, -, -, hs3⟩ := where_bd (n := (n : Int)) (by omega)
  rw [planOut_eq _ _ hs3]
  obtain rfl | rfl | rfl | rfl | rfl | rfl | rfl | rfl | rfl : n = 0 ∨ n = 1 ∨ n = 2 ∨ n = 3 ∨ n = 4 ∨ n = 5 ∨ n = 6 ∨ n = 7 ∨ n = 8 := by omega
  all_goals rfl

theorem xor_self3 (x y z : Nat) : x ^^^ (y ^^^ (z ^^^ (x ^^^ (y ^^^ z)))) = 0 := by
  rw [xor_left z x, xor_left y x, ← Nat.xor_assoc x x, Nat.xor_self, Nat.zero_xor, xor_left z y, ← Nat.xor_assoc y y, Nat.xor_self, Nat.zero_xor, Nat.xor_self]

theorem planOut_even (bl : List (List Int)) {s : Nat} (hs : s < 3) : EvenB (planOut bl s) := by
  intro i hi
  rw [planOut_eq _ _ hs]
  split
  · rw [xC_four, xorAll_toNat _ hi, xC_three, xor_self3]
  split
  · rw [xC_four, xorAll_toNat _ hi, xC_three]
    generalize ((bl.getD 3 []).getD i 0).toNat = x
    generalize ((bl.getD 4 []).getD i 0).toNat = y
    generalize ((bl.getD 5 []).getD i 0).toNat = z
    rw [Nat.xor_comm (x ^^^ (y ^^^ z)) z, xor_self3]
  · rw [xC_four, xorAll_toNat _ hi, xC_three]
    generalize ((bl.getD 6 []).getD i 0).toNat = x
    generalize ((bl.getD 7 []).getD i 0).toNat = y
    generalize ((bl.getD 8 []).getD i 0).toNat = z
    rw [xor_left (x ^^^ (y ^^^ z)) y z, Nat.xor_comm (x ^^^ (y ^^^ z)) z, xor_self3]

theorem planOut_octets {bl : List (List Int)} (h : ∀ b ∈ bl, Octets b) (hl : bl.length = 9) {s : Nat} (hs : s < 3) : ∀ b ∈ planOut bl s, Octets b := by
  have hg : ∀ k, k < 9 → Octets (bl.getD k []) := fun k hk => h _ (getD_mem (by omega))
  have hx : ∀ i j k, i < 9 → j < 9 → k < 9 → Octets (xorAll [bl.getD i [], bl.getD j [], bl.getD k []]) := fun i j k hi hj hk => xorAll_octets fun b hb => by
    simp only [List.mem_cons, List.not_mem_nil, or_false] at hb
    rcases hb with rfl | rfl | rfl
    · exact hg i hi
    · exact hg j hj
    · exact hg k hk
  rw [planOut_eq bl s hs]
  intro b hb
  split at hb
  · simp only [List.mem_cons, List.not_mem_nil, or_false] at hb
    rcases hb with rfl | rfl | rfl | rfl
    · exact hg 0 (by omega)
    · exact hg 1 (by omega)
    · exact hg 2 (by omega)
    · exact hx 0 1 2 (by omega) (by omega) (by omega)
  split at hb
  · simp only [List.mem_cons, List.not_mem_nil, or_false] at hb
    rcases hb with rfl | rfl | rfl | rfl
    · exact hg 3 (by omega)
    · exact hg 4 (by omega)
    · exact hx 3 4 5 (by omega) (by omega) (by omega)
    · exact hg 5 (by omega)
  · simp only [List.mem_cons, List.not_mem_nil, or_false] at hb
    rcases hb with rfl | rfl | rfl | rfl
    · exact hg 6 (by omega)
    · exact hx 6 7 8 (by omega) (by omega) (by omega)
    · exact hg 7 (by omega)
    · exact hg 8 (by omega)

theorem doAt_octets {ls : List (List Int)} {x : DeedP} (h : ∀ b ∈ ls, Octets b) (hx : Octets x.d) (i : Nat) : Octets (doAt ls x i) := by
  have hg : ∀ k, Octets (ls.getD k []) := fun k => by
    by_cases hk : k < ls.length
    · exact h _ (getD_mem hk)
    · rw [List.getD_eq_getElem?_getD, List.getElem?_eq_none (by omega)]; intro y hy; simp at hy
  unfold doAt
  split
  · exact hx
  split
  · exact hg _
  split
  · exact hg _
  · exact hg _

/-- What an intent's cells are: each reads as what is planned. -/
theorem make_cell {ds : List (List Int)} (h4 : ∀ b ∈ ds, b.length = 4) (hl : ds.length = 4) {d s : Nat} (hd : d < 4) : (makeL ds s).getD d [] = cellOf d s (ds.getD d []) ∧ readE ((makeL ds s).getD d []) d s = 0 ∧ readX ((makeL ds s).getD d []) d s = ds.getD d [] := by
  have e : (makeL ds s).getD d [] = cellOf d s (ds.getD d []) := by
    simp [makeL, List.getD_eq_getElem?_getD, hl, hd]
  have hlen : (ds.getD d []).length = 4 := h4 _ (getD_mem (by omega))
  have := read_cell (d := (d : Int)) (s := (s : Int)) hlen d s
  rw [e, this.1, this.2]
  simp

/-- All cells of a stripe are put. -/
theorem put_holds {a : ArrP} (ha : Whole a) {s : Nat} (hs : s < 3) {ds : List (List Int)} (hl : ds.length = 4) (hb : Blocks ds) (he : EvenB ds) :
    Holds (putTo a (makeL ds s) s 4) s ds ∧ (∀ d, d < 4 → badB (putTo a (makeL ds s) s 4) d s = false) ∧ badN (putTo a (makeL ds s) s 4) s = 0 := by
  have h4 : ∀ b ∈ ds, b.length = 4 := fun b hbm => (hb b hbm).1
  have hc : ∀ d, d < 4 → cellAt (putTo a (makeL ds s) s 4) d s = (makeL ds s).getD d [] := fun d hd => by rw [putTo_twice_at ha _ hs d s 4 (Nat.le_refl _), if_pos ⟨hd, rfl⟩]
  have hbad : ∀ d, d < 4 → badB (putTo a (makeL ds s) s 4) d s = false := fun d hd => by rw [badB_false, hc d hd, (make_cell h4 hl hd).2.1]
  refine ⟨⟨hl, hb, he, fun d hd _ => by rw [hc d hd, (make_cell h4 hl hd).2.2]⟩, hbad, ?_⟩
  rw [badN_eq (putTo_whole ha _ _ 4 (Nat.le_refl _)), hbad 0 (by omega), hbad 1 (by omega), hbad 2 (by omega), hbad 3 (by omega)]
  rfl

theorem cell_other {a b : ArrP} {s : Nat} (h : ∀ d, d < 4 → cellAt a d s = cellAt b d s) {ds : List (List Int)} (hh : Holds a s ds) : Holds b s ds := by
  refine ⟨hh.len, hh.blocks, hh.even, fun d hd hb => ?_⟩
  rw [badB_false, ← h d hd] at hb
  rw [← h d hd]
  exact hh.reads d hd (badB_false.2 hb)

theorem badN_other {a b : ArrP} (ha : Whole a) (hb : Whole b) {s : Nat} (h : ∀ d, d < 4 → cellAt a d s = cellAt b d s) : badN a s = badN b s := by
  rw [badN_eq ha, badN_eq hb]
  simp only [badB]
  rw [h 0 (by omega), h 1 (by omega), h 2 (by omega), h 3 (by omega)]

/-- A stripe's cells are put; the others are as they were. -/
theorem Inv.put {a : ArrP} {D : Nat → List (List Int)} (h : Inv a D) {s : Nat} (hs : s < 3) {ds : List (List Int)} (hl : ds.length = 4) (hb : Blocks ds) (he : EvenB ds) :
    Inv (putTo a (makeL ds s) s 4) (fun t => if t = s then ds else D t) := by
  have hA : Arr (putTo a (makeL ds s) s 4) := putTo_arr h.arr (fun b hb' => by rw [makeL_mem (fun b h => (hb b h).1) b hb']; omega) hs 4 (Nat.le_refl _)
  obtain ⟨h1, -, h3⟩ := put_holds h.arr.whole hs hl hb he
  have hc : ∀ t, t ≠ s → ∀ d, d < 4 → cellAt a d t = cellAt (putTo a (makeL ds s) s 4) d t := fun t ht d hd => by rw [putTo_twice_at h.arr.whole _ hs d t 4 (Nat.le_refl _), if_neg (fun hc => ht hc.2)]
  refine ⟨hA, fun t ht => ?_, fun t ht => ?_⟩
  · by_cases hts : t = s
    · subst hts; simp only [if_true]; exact h1
    · simp only [if_neg hts]; exact cell_other (hc t hts) (h.holds t ht)
  · by_cases hts : t = s
    · subst hts; omega
    · rw [← badN_other h.arr.whole hA.whole (hc t hts)]; exact h.few t ht

theorem Inv.planE {a : ArrP} {D : Nat → List (List Int)} (h : Inv a D) (x : DeedP) : planE a x = wrongE x := by
  unfold Go.Proofs.Ytjggiameajndgac.planE
  split
  · rfl
  · rename_i hw
    have hw0 : wrongE x = 0 := Decidable.not_not.1 hw
    obtain ⟨-, hn0, hn8, -, -⟩ := right_deed hw0
    obtain ⟨-, -, -, -, hs3⟩ := where_bd (n := x.n) (by omega)
    rw [((h.holds _ hs3).data h.arr.whole (h.few _ hs3)).1, hw0]

/-- What stripes hold behind a deed. -/
def doD (D : Nat → List (List Int)) (x : DeedP) : Nat → List (List Int) := fun t => if t = sOf x.n then planOut (doL (spreadTo (D (sOf x.n)) (sOf x.n) 9) x) (sOf x.n) else D t

theorem Inv.doA {a : ArrP} {D : Nat → List (List Int)} (h : Inv a D) {x : DeedP} (hw : wrongE x = 0) (hx : Octets x.d) : Inv (doA a x) (doD D x) := by
  have he : Go.Proofs.Ytjggiameajndgac.planE a x = 0 := (h.planE x).trans hw
  obtain ⟨s, hs3, hsx, -, -, hi⟩ := planI_ok he
  obtain ⟨e1, e2⟩ := (h.holds s hs3).data h.arr.whole (h.few s hs3)
  have hbl : planBl a x = doL (spreadTo (D s) s 9) x := by rw [planBl, ← hsx, e2]
  have hbs := planBl_blocks h.arr.whole he
  rw [doA_eq h.arr he, hi]
  simp only [Int.toNat_natCast]
  have hoct : ∀ b ∈ planBl a x, Octets b := fun b hb => by
    rw [hbl, doL] at hb
    obtain ⟨i, -, rfl⟩ := List.mem_map.1 hb
    refine doAt_octets (fun c hc => ?_) hx i
    simp only [spreadTo, List.mem_map, List.mem_range] at hc
    obtain ⟨n, hn, rfl⟩ := hc
    split
    · obtain ⟨-, -, -, hd4, -⟩ := where_bd (n := (n : Int)) (by omega)
      exact ((h.holds s hs3).blocks _ (getD_mem (by rw [(h.holds s hs3).len]; exact hd4))).2
    · exact nought_oct
  have hI := h.put hs3 (planOut_length (planBl a x) s) (fun b hb => ⟨planOut_blocks hbs.1 hbs.2 hs3 b hb, planOut_octets hoct hbs.2 hs3 b hb⟩) (planOut_even (planBl a x) hs3)
  rw [hbl] at hI ⊢
  rw [show doD D x = fun t => if t = s then planOut (doL (spreadTo (D s) s 9) x) s else D t from by funext t; rw [doD, ← hsx]]
  exact hI

theorem ext_getD {a b : List (List Int)} (hl : a.length = b.length) (h : ∀ i, i < a.length → a.getD i [] = b.getD i []) : a = b := by
  refine List.ext_getElem hl fun i g1 g2 => ?_
  have := h i g1
  rw [List.getD_eq_getElem?_getD, List.getD_eq_getElem?_getD, List.getElem?_eq_getElem g1, List.getElem?_eq_getElem g2] at this
  exact this

theorem doL_getD {ls : List (List Int)} {x : DeedP} {i : Nat} (h : i < ls.length) : (doL ls x).getD i [] = doAt ls x i := by
  simp [doL, List.getD_eq_getElem?_getD, h]

/-- Blocks behind a deed are what is meant. -/
theorem Bk_doD (D : Nat → List (List Int)) {x : DeedP} (hw : wrongE x = 0) : Bk (doD D x) = doL (Bk D) x := by
  obtain ⟨hk, hn0, hn8, h1, h2⟩ := right_deed hw
  obtain ⟨n, hn⟩ := Int.eq_ofNat_of_zero_le hn0
  have hn9 : n < 9 := by omega
  refine ext_getD (by rw [Bk_length, doL_length, Bk_length]) fun i g1 => ?_
  have hi9 : i < 9 := by rw [Bk_length] at g1; exact g1
  have hsp : ∀ k : Nat, k < 9 → sOf (k : Nat) = sOf x.n → (spreadTo (D (sOf x.n)) (sOf x.n) 9).getD k [] = (Bk D).getD k [] := fun k hk9 hks => by
    rw [Bk_getD D hk9, hks]
    simp [spreadTo, List.getD_eq_getElem?_getD, hk9, hks]
  have hm : x.k = 2 → ∃ m : Nat, x.m = (m : Int) ∧ m < 9 ∧ sOf (m : Nat) = sOf x.n := fun hk2 => by
    obtain ⟨e1, e2, -⟩ := h2 hk2
    have := whereE_zero e1
    obtain ⟨m, hm⟩ := Int.eq_ofNat_of_zero_le this.1
    exact ⟨m, hm, by omega, by rw [hm] at e2; simp only [sOf, e2]⟩
  rw [doL_getD (by rw [Bk_length]; exact hi9), Bk_getD _ hi9]
  by_cases hs : sOf (i : Nat) = sOf x.n
  · rw [doD, if_pos hs, ← hs, planOut_at _ hi9, hs]
    rw [doL_getD (by rw [spreadTo_length]; exact hi9)]
    unfold doAt
    split
    · rfl
    split
    · rename_i hc
      obtain ⟨m, e1, e2, e3⟩ := hm hc.1
      rw [e1, Int.toNat_natCast]
      exact hsp m e2 e3
    split
    · have e : x.n.toNat = n := by omega
      rw [e]
      exact hsp n hn9 (by rw [hn])
    · exact hsp i hi9 hs
  · rw [doD, if_neg hs, ← Bk_getD D hi9]
    unfold doAt
    rw [if_neg (fun hc => hs (by rw [hc.2])), if_neg (fun hc => hs (by rw [hc.2])), if_neg (fun hc => by
      obtain ⟨m, e1, e2, e3⟩ := hm hc.1
      exact hs (by rw [hc.2, e1, e3]))]

/-- One cell is another one, that is none. -/
theorem Inv.spoil {a : ArrP} {D : Nat → List (List Int)} (h : Inv a D) {d s : Nat} (hd : d < 4) (hs : s < 3) {l : List Int} (hl : l.length ≤ 8) (hr : readE l d s ≠ 0) (hf : ∀ t, t < 3 → badN (withL a d s l) t ≤ 1) : Inv (withL a d s l) D :=
  ⟨h.arr.with hd hs hl, fun t ht => (h.holds t ht).with h.arr.whole hd hs (fun _ he => absurd he hr), hf⟩

theorem holds_gone {a : ArrP} (ha : Arr a) {D : Nat → List (List Int)} (h : ∀ s, s < 3 → Holds a s (D s)) {d : Nat} (hd : d < 4) : ∀ k, k ≤ 3 → ∀ s, s < 3 → Holds (goneTo a d k) s (D s)
  | 0, _ => h
  | k + 1, hk => fun s hs => (holds_gone ha h hd k (by omega) s hs).with (goneTo_arr ha hd k (by omega)).whole hd (by omega) (fun _ he => by rw [readE_nil] at he; cases he)

/-- A disk that has nothing. -/
theorem Inv.gone {a : ArrP} {D : Nat → List (List Int)} (h : Inv a D) (d : Int) (hf : worstN (goneL a d) ≤ 1) : Inv (goneL a d) D := by
  refine ⟨goneL_arr h.arr d, fun s hs => ?_, worstN_le.1 hf⟩
  unfold goneL
  split
  · exact h.holds s hs
  · exact holds_gone h.arr h.holds (by omega) 3 (Nat.le_refl _) s hs

/-- A byte rots, of a cell that is not none. -/
theorem Inv.rot {a : ArrP} {D : Nat → List (List Int)} (h : Inv a D) {d s k : Int} (hr : rotOk a d s k → readE (cellAt a d.toNat s.toNat) d s = 0) (hf : worstN (rotL a d s k) ≤ 1) : Inv (rotL a d s k) D := by
  refine ⟨rotL_arr h.arr d s k, fun t ht => ?_, worstN_le.1 hf⟩
  unfold rotL
  split
  · rename_i hk
    have hr' := hr hk
    obtain ⟨h1, h2, h3, h4, h5, h6⟩ := hk
    obtain ⟨d, rfl⟩ := Int.eq_ofNat_of_zero_le h1
    obtain ⟨s, rfl⟩ := Int.eq_ofNat_of_zero_le h3
    simp only [Int.toNat_natCast] at *
    have hd4 : d < 4 := by omega
    have hs3 : s < 3 := by omega
    have hread := (h.holds s hs3).reads d hd4 (badB_false.2 hr')
    have hoct : Octets (readX (cellAt a d s) d s) := by rw [hread]; exact ((h.holds s hs3).blocks _ (getD_mem (by rw [(h.holds s hs3).len]; exact hd4))).2
    refine (h.holds t ht).with h.arr.whole hd4 hs3 (fun _ he => ?_)
    rw [rot_bad hd4 hs3 hr' hoct (by omega)] at he
    cases he
  · exact h.holds t ht

/-- A stripe is mended. -/
theorem Inv.mend {a : ArrP} {D : Nat → List (List Int)} (h : Inv a D) (s : Int) : Inv (mendL a s) D := by
  unfold mendL
  split
  · exact h
  · rename_i hn
    have hs : ¬ (s < 0 ∨ 2 < s) := fun hc => hn (.inl hc)
    obtain ⟨s, rfl⟩ := Int.eq_ofNat_of_zero_le (show 0 ≤ s by omega)
    simp only [Int.toNat_natCast]
    have hs3 : s < 3 := by omega
    have hh := h.holds s hs3
    rw [(hh.data h.arr.whole (h.few s hs3)).2]
    have := h.put hs3 hh.len hh.blocks hh.even
    rwa [show (fun t => if t = s then D s else D t) = D from by funext t; split; subst_vars; rfl; rfl] at this

/-- What stripes hold behind a step. -/
def stepD (D : Nat → List (List Int)) (x : StepP) : Nat → List (List Int) := if wrongE x.d = 0 ∧ (x.k = 1 ∨ (x.k = 2 ∧ 0 < x.n)) then doD D x.d else D

theorem doA_wrong {a : ArrP} {D : Nat → List (List Int)} (h : Inv a D) {x : DeedP} (hw : wrongE x ≠ 0) : doA a x = a := by
  rw [doA, h.planE x, if_neg hw]
theorem fallA_wrong {a : ArrP} {D : Nat → List (List Int)} (h : Inv a D) {x : DeedP} (hw : wrongE x ≠ 0) (n : Int) : fallA a x n = a := by
  rw [fallA, h.planE x, if_neg hw]

/-- A gentle step. -/
theorem Inv.step {a : ArrP} {D : Nat → List (List Int)} (h : Inv a D) {x : StepP} (hx : Octets x.d.d) (hg : gentleB a x = true) : Inv (stepA a x) (stepD D x) := by
  rw [gentleB, Bool.and_eq_true] at hg
  obtain ⟨hag, hw1⟩ := hg
  have hf : worstN (stepA a x) ≤ 1 := of_decide_eq_true hw1
  have hag' : againB a x = false := by simpa using hag
  clear hag hw1
  unfold stepA at hf ⊢
  by_cases k1 : x.k = 1
  · simp only [if_pos k1] at hf ⊢
    by_cases hw : wrongE x.d = 0
    · rw [stepD, if_pos ⟨hw, .inl k1⟩]; exact h.doA hw hx
    · rw [stepD, if_neg (fun hc => hw hc.1), doA_wrong h hw]; exact h
  by_cases k2 : x.k = 2
  · simp only [if_neg k1, if_pos k2] at hf ⊢
    by_cases hw : wrongE x.d = 0
    · rw [fallA_eq h.arr ((h.planE x.d).trans hw)]
      split
      · rename_i hn
        rw [stepD, if_neg (fun hc => by rcases hc.2 with hc | hc <;> omega)]; exact h
      · rename_i hn
        rw [stepD, if_pos ⟨hw, .inr ⟨k2, by omega⟩⟩]; exact h.doA hw hx
    · rw [stepD, if_neg (fun hc => hw hc.1), fallA_wrong h hw]; exact h
  have hD : stepD D x = D := if_neg (fun hc => by rcases hc.2 with hc | hc <;> omega)
  rw [hD]
  simp only [if_neg k1, if_neg k2] at hf ⊢
  by_cases k3 : x.k = 3
  · simp only [if_pos k3] at hf ⊢
    split at hf
    · rename_i hn; rw [if_pos hn]; exact h
    · rename_i hn
      rw [if_neg hn]
      refine h.rot (fun hk => ?_) hf
      have hcond := hk
      obtain ⟨g1, g2, g3, g4, -, -⟩ := hcond
      rw [againB, decide_eq_false_iff_not] at hag'
      exact Decidable.byContradiction fun hc => hag' ⟨k3, by omega, by omega, hc⟩
  simp only [if_neg k3] at hf ⊢
  by_cases k4 : x.k = 4
  · simp only [if_pos k4] at hf ⊢
    exact h.gone _ hf
  simp only [if_neg k4] at hf ⊢
  split
  · exact h.mend _
  · exact h

theorem Bk_stepD (D : Nat → List (List Int)) (x : StepP) : Bk (stepD D x) = if wrongE x.d = 0 ∧ (x.k = 1 ∨ (x.k = 2 ∧ 0 < x.n)) then doL (Bk D) x.d else Bk D := by
  unfold stepD
  split
  · rename_i h; exact Bk_doD D h.1
  · rfl

theorem Inv.gently : ∀ (n : Nat) (l : List StepP) {a : ArrP} {D : Nat → List (List Int)}, (∀ s ∈ l, Octets s.d.d) → Inv a D → ∃ D', Inv (gentlyFrom l a n) D'
  | 0, l, a, D, _, h => ⟨D, by rw [gentlyFrom]; exact h⟩
  | n + 1, [], a, D, _, h => ⟨D, by rw [gentlyFrom]; exact h⟩
  | n + 1, s :: r, a, D, ho, h => by
    rw [gentlyFrom]
    split
    · rename_i hg
      exact Inv.gently n r (fun t ht => ho t (by simp [ht])) (h.step (ho s (by simp)) hg)
    · exact ⟨D, h⟩

/-- Gentle play. -/
theorem gently_inv {l : List StepP} (ho : ∀ s ∈ l, Octets s.d.d) : ∃ D, Inv (gentlyL l) D := Inv.gently 100 l ho newP_inv

end Go.Proofs.Ytjggiameajndgac

/-
  Plain: mended, it is well; one harm is no loss; turned twice it is as it was; any one of four may be gone.
-/
namespace Go.Proofs.Ytjggiameajndgac

theorem mendE_inv {a : ArrP} {D : Nat → List (List Int)} (h : Inv a D) {s : Nat} (hs : s < 3) : mendE a (s : Int) = 0 := by
  rw [mendE, if_neg (by omega)]
  simp only [Int.toNat_natCast]
  exact ((h.holds s hs).data h.arr.whole (h.few s hs)).1

theorem mendN_nat {a : ArrP} {s : Nat} (hs : s < 3) : mendN a (s : Int) = badN a s := by
  rw [mendN, if_neg (by omega)]
  simp

theorem mend_eq {a : ArrP} {D : Nat → List (List Int)} (h : Inv a D) {s : Nat} (hs : s < 3) : mendL a (s : Int) = putTo a (makeL (D s) s) s 4 := by
  obtain ⟨e1, e2⟩ := (h.holds s hs).data h.arr.whole (h.few s hs)
  rw [mendL, if_neg]
  · simp only [Int.toNat_natCast, e2]
  · simp only [Int.toNat_natCast]
    rintro (hc | hc)
    · omega
    · exact hc e1

/-- Behind mending a stripe none of its cells is none; the others are as they were. -/
theorem mend_bad {a : ArrP} {D : Nat → List (List Int)} (h : Inv a D) {s : Nat} (hs : s < 3) : badN (mendL a (s : Int)) s = 0 ∧ ∀ t, t ≠ s → badN (mendL a (s : Int)) t = badN a t := by
  rw [mend_eq h hs]
  have hh := h.holds s hs
  refine ⟨(put_holds h.arr.whole hs hh.len hh.blocks hh.even).2.2, fun t ht => ?_⟩
  refine (badN_other h.arr.whole (putTo_whole h.arr.whole _ _ 4 (Nat.le_refl _)) fun d hd => ?_).symm
  rw [putTo_twice_at h.arr.whole _ hs d t 4 (Nat.le_refl _), if_neg (fun hc => ht hc.2)]

theorem bad_zero {a : ArrP} (ha : Whole a) {s : Nat} (h : badN a s = 0) {d : Nat} (hd : d < 4) : badB a d s = false := by
  rw [badN_eq ha] at h
  cases hb : badB a d s with
  | false => rfl
  | true =>
    exfalso
    have t : (badB a d s).toNat = 1 := by rw [hb]; rfl
    obtain rfl | rfl | rfl | rfl : d = 0 ∨ d = 1 ∨ d = 2 ∨ d = 3 := by omega
    all_goals omega

/-- A stripe that is well is as it was when it is mended. -/
theorem mend_well {a : ArrP} {D : Nat → List (List Int)} (h : Inv a D) {s : Nat} (hs : s < 3) (hb : badN a s = 0) : mendL a (s : Int) = a := by
  rw [mend_eq h hs]
  have hh := h.holds s hs
  refine arr_ext (putTo_whole h.arr.whole _ _ 4 (Nat.le_refl _)) h.arr.whole (putTo_is _ _ _ _) fun d t hd ht => ?_
  rw [putTo_twice_at h.arr.whole _ hs d t 4 (Nat.le_refl _)]
  split
  · rename_i hc
    obtain ⟨-, rfl⟩ := hc
    have hg := bad_zero h.arr.whole hb hd
    rw [(make_cell (fun b hb => (hh.blocks b hb).1) hh.len hd).1, ← hh.reads d hd hg]
    exact (read_is_cell (badB_false.1 hg)).1.symm
  · rfl

/-- All is mended. -/
def mendAll (a : ArrP) : ArrP := mendL (mendL (mendL a (0 : Nat)) (1 : Nat)) (2 : Nat)

theorem mendAll_inv {a : ArrP} {D : Nat → List (List Int)} (h : Inv a D) : Inv (mendAll a) D := ((h.mend _).mend _).mend _

theorem mendAll_bad {a : ArrP} {D : Nat → List (List Int)} (h : Inv a D) : ∀ s, s < 3 → badN (mendAll a) s = 0 := by
  have h1 := h.mend ((0 : Nat) : Int)
  have h2 := h1.mend ((1 : Nat) : Int)
  obtain ⟨b0, o0⟩ := mend_bad h (s := 0) (by omega)
  obtain ⟨b1, o1⟩ := mend_bad h1 (s := 1) (by omega)
  obtain ⟨b2, o2⟩ := mend_bad h2 (s := 2) (by omega)
  intro s hs
  obtain rfl | rfl | rfl : s = 0 ∨ s = 1 ∨ s = 2 := by omega
  · exact (o2 0 (by omega)).trans ((o1 0 (by omega)).trans b0)
  · exact (o2 1 (by omega)).trans b1
  · exact b2

theorem mendAll_worst {a : ArrP} {D : Nat → List (List Int)} (h : Inv a D) : worstN (mendAll a) = 0 := by
  have := worstN_le.2 (fun s hs => Nat.le_of_eq (mendAll_bad h s hs))
  omega

/-- Mended again nothing changes. -/
theorem mendAll_again {a : ArrP} {D : Nat → List (List Int)} (h : Inv a D) (hb : ∀ s, s < 3 → badN a s = 0) : mendAll a = a ∧ mendL a (0 : Nat) = a ∧ mendL a (1 : Nat) = a ∧ mendL a (2 : Nat) = a := by
  have e0 := mend_well h (s := 0) (by omega) (hb 0 (by omega))
  have e1 := mend_well h (s := 1) (by omega) (hb 1 (by omega))
  have e2 := mend_well h (s := 2) (by omega) (hb 2 (by omega))
  exact ⟨by rw [mendAll, e0, e1, e2], e0, e1, e2⟩

/-- Mending changes no cell of another stripe. -/
theorem mendL_other {a : ArrP} (ha : Whole a) (s : Int) {d t : Nat} (h : (t : Int) ≠ s) : cellAt (mendL a s) d t = cellAt a d t := by
  unfold mendL
  split
  · rfl
  · rename_i hn
    have hs : ¬ (s < 0 ∨ 2 < s) := fun hc => hn (.inl hc)
    rw [putTo_twice_at ha _ (by omega) d t 4 (Nat.le_refl _), if_neg (fun hc => h (by omega))]

/-- A byte that rots twice is what it was. -/
theorem rotB_back (l : List Int) (k : Nat) : rotB (rotB l k) k = l := by
  by_cases hk : k < l.length
  · refine List.ext_getElem (by simp [rotB]) fun i h1 h2 => ?_
    simp only [rotB]
    rw [List.getElem_set]
    split
    · rename_i e
      subst e
      rw [List.getD_eq_getElem?_getD, List.getElem?_set_self hk]
      simp only [Option.getD_some]
      rw [rotI_back, List.getD_eq_getElem?_getD, List.getElem?_eq_getElem hk]
      rfl
    · rename_i e
      rw [List.getElem_set, if_neg e]
  · rw [rotB, rotB, List.set_eq_of_length_le (by rw [List.length_set]; omega), List.set_eq_of_length_le (by omega)]

theorem rotB_ne {l : List Int} {k : Nat} (hk : k < l.length) : rotB l k ≠ l := fun h => by
  have := congrArg (fun x => List.getD x k 0) h
  simp only [rotB] at this
  rw [List.getD_eq_getElem?_getD, List.getElem?_set_self hk] at this
  exact rotI_ne _ this

theorem rot_twice {a : ArrP} (ha : Whole a) (d s k : Int) : rotE (rotL a d s k) d s k = rotE a d s k ∧ rotL (rotL a d s k) d s k = a ∧ (rotE a d s k = 0 → rotL a d s k ≠ a) := by
  by_cases hk : rotOk a d s k
  · have hk' := hk
    obtain ⟨h1, h2, h3, h4, h5, h6⟩ := hk'
    have hd : d.toNat < 4 := by omega
    have hs : s.toNat < 3 := by omega
    have e1 : rotL a d s k = withL a d.toNat s.toNat (rotB (cellAt a d.toNat s.toNat) k.toNat) := if_pos hk
    have hc : cellAt (rotL a d s k) d.toNat s.toNat = rotB (cellAt a d.toNat s.toNat) k.toNat := by rw [e1, ha.cellAt_with hd hs, if_pos ⟨rfl, rfl⟩]
    have hok : rotOk (rotL a d s k) d s k := ⟨h1, h2, h3, h4, h5, by rw [hc, rotB, List.length_set]; exact h6⟩
    refine ⟨by rw [rotE, rotE, if_pos hok, if_pos hk], ?_, fun _ he => ?_⟩
    · rw [rotL, if_pos hok, hc, rotB_back]
      have hw : Whole (rotL a d s k) := by rw [e1]; exact withL_whole ha hd _
      refine arr_ext (withL_whole hw hd _) ha (by rw [e1]; rfl) fun d' s' hd' hs' => ?_
      rw [hw.cellAt_with hd hs]
      split
      · rename_i hc'; rw [hc'.1, hc'.2]
      · rename_i hc'; rw [e1, ha.cellAt_with hd hs, if_neg hc']
    · rw [he] at hc
      exact rotB_ne (by omega) hc.symm
  · have e1 : rotL a d s k = a := if_neg hk
    refine ⟨by rw [e1], by rw [e1, e1], fun h => ?_⟩
    rw [rotE, if_neg hk] at h
    cases h

theorem gone_cell {a : ArrP} (ha : Arr a) {d : Nat} (hd : d < 4) (d' s' : Nat) : ∀ k, k ≤ 3 → cellAt (goneTo a d k) d' s' = if d' = d ∧ s' < k then [] else cellAt a d' s'
  | 0, _ => by simp [goneTo]
  | k + 1, hk => by
    rw [goneTo, (goneTo_arr ha hd k (by omega)).whole.cellAt_with hd (by omega), gone_cell ha hd d' s' k (by omega)]
    by_cases h1 : d' = d ∧ s' = k
    · rw [if_pos h1, if_pos ⟨h1.1, by omega⟩]
    · rw [if_neg h1]
      by_cases h2 : d' = d ∧ s' < k
      · rw [if_pos h2, if_pos ⟨h2.1, by omega⟩]
      · rw [if_neg h2, if_neg (fun h => by
          by_cases h3 : s' = k
          · exact h1 ⟨h.1, h3⟩
          · exact h2 ⟨h.1, by omega⟩)]

theorem goneTo_is (a : ArrP) (d : Nat) : ∀ k, (goneTo a d k).is = a.is
  | 0 => rfl
  | k + 1 => by rw [goneTo]; exact goneTo_is a d k

/-- A disk that is gone twice is gone. -/
theorem gone_twice {a : ArrP} (ha : Arr a) (d : Int) : goneL (goneL a d) d = goneL a d := by
  by_cases h : d < 0 ∨ 3 < d
  · rw [goneL, if_pos h]
  · have e : ∀ b, goneL b d = goneTo b d.toNat 3 := fun b => if_neg h
    rw [e a, e]
    have hd : d.toNat < 4 := by omega
    have h1 := goneTo_arr ha hd 3 (Nat.le_refl _)
    refine arr_ext (goneTo_arr h1 hd 3 (Nat.le_refl _)).whole h1.whole (goneTo_is _ _ _) fun d' s' hd' hs' => ?_
    rw [gone_cell h1 hd d' s' 3 (Nat.le_refl _), gone_cell ha hd d' s' 3 (Nat.le_refl _)]
    split <;> rfl

/-- How many are none where one is another one that is none. -/
theorem badN_spoil {a : ArrP} (ha : Whole a) {d s : Nat} (hd : d < 4) (h0 : badN a s = 0) {b : ArrP} (hb : Whole b) (hc : ∀ d', d' < 4 → d' ≠ d → cellAt b d' s = cellAt a d' s) (hr : readE (cellAt b d s) d s ≠ 0) : badN b s = 1 := by
  have g : ∀ d', d' < 4 → d' ≠ d → badB b d' s = false := fun d' h1 h2 => by rw [badB_false, hc d' h1 h2]; exact badB_false.1 (bad_zero ha h0 h1)
  have gd : badB b d s = true := by simpa [badB] using hr
  rw [badN_eq hb]
  obtain rfl | rfl | rfl | rfl : d = 0 ∨ d = 1 ∨ d = 2 ∨ d = 3 := by omega
  · rw [gd, g 1 (by omega) (by omega), g 2 (by omega) (by omega), g 3 (by omega) (by omega)]; rfl
  · rw [gd, g 0 (by omega) (by omega), g 2 (by omega) (by omega), g 3 (by omega) (by omega)]; rfl
  · rw [gd, g 0 (by omega) (by omega), g 1 (by omega) (by omega), g 3 (by omega) (by omega)]; rfl
  · rw [gd, g 0 (by omega) (by omega), g 1 (by omega) (by omega), g 2 (by omega) (by omega)]; rfl

theorem worst_one {a : ArrP} (h : ∀ s, s < 3 → badN a s ≤ 1) {s : Nat} (hs : s < 3) (h1 : badN a s = 1) : worstN a = 1 := by
  have := worstN_le.2 h
  have h2 : ¬ worstN a ≤ 0 := fun hc => by have := worstN_le.1 hc s hs; omega
  omega

theorem worst_zero {a : ArrP} : worstN a = 0 ↔ ∀ s, s < 3 → badN a s = 0 := by
  constructor
  · intro h s hs
    have := worstN_le.1 (Nat.le_of_eq h) s hs
    omega
  · intro h
    have := worstN_le.2 (fun s hs => Nat.le_of_eq (h s hs))
    omega

/-- Of an array that is well a disk may be gone. -/
theorem gone_one {a : ArrP} {D : Nat → List (List Int)} (h : Inv a D) (h0 : worstN a = 0) {d : Int} (hd : 0 ≤ d ∧ d ≤ 3) : worstN (goneL a d) = 1 ∧ Inv (goneL a d) D := by
  have hz := worst_zero.1 h0
  have e : goneL a d = goneTo a d.toNat 3 := if_neg (by omega)
  have hd4 : d.toNat < 4 := by omega
  have hA := goneTo_arr h.arr hd4 3 (Nat.le_refl _)
  have hb : ∀ s, s < 3 → badN (goneL a d) s = 1 := fun s hs => by
    rw [e]
    refine badN_spoil h.arr.whole hd4 (hz s hs) hA.whole (fun d' _ hne => ?_) ?_
    · rw [gone_cell h.arr hd4 d' s 3 (Nat.le_refl _), if_neg (fun hc => hne hc.1)]
    · rw [gone_cell h.arr hd4 _ s 3 (Nat.le_refl _), if_pos ⟨rfl, hs⟩, readE_nil]; decide
  have hw : worstN (goneL a d) = 1 := worst_one (fun s hs => Nat.le_of_eq (hb s hs)) (s := 0) (by omega) (hb 0 (by omega))
  exact ⟨hw, h.gone d (Nat.le_of_eq hw)⟩

/-- Of an array that is well a byte may rot. -/
theorem rot_one {a : ArrP} {D : Nat → List (List Int)} (h : Inv a D) (h0 : worstN a = 0) {d s k : Int} (hk : rotOk a d s k) : worstN (rotL a d s k) = 1 ∧ Inv (rotL a d s k) D := by
  have hz := worst_zero.1 h0
  have e : rotL a d s k = withL a d.toNat s.toNat (rotB (cellAt a d.toNat s.toNat) k.toNat) := if_pos hk
  have hk' := hk
  obtain ⟨h1, h2, h3, h4, h5, h6⟩ := hk'
  have hd4 : d.toNat < 4 := by omega
  have hs3 : s.toNat < 3 := by omega
  have hgood := bad_zero h.arr.whole (hz _ hs3) hd4
  have hr : readE (cellAt a d.toNat s.toNat) d s = 0 := by
    have := badB_false.1 hgood
    rwa [show ((d.toNat : Nat) : Int) = d from by omega, show ((s.toNat : Nat) : Int) = s from by omega] at this
  have hread := (h.holds _ hs3).reads _ hd4 hgood
  have hoct : Octets (readX (cellAt a d.toNat s.toNat) d.toNat s.toNat) := by rw [hread]; exact ((h.holds _ hs3).blocks _ (getD_mem (by rw [(h.holds _ hs3).len]; exact hd4))).2
  have hA := rotL_arr h.arr d s k
  have hc : ∀ d' s', cellAt (rotL a d s k) d' s' = if d' = d.toNat ∧ s' = s.toNat then rotB (cellAt a d.toNat s.toNat) k.toNat else cellAt a d' s' := fun d' s' => by rw [e, h.arr.whole.cellAt_with hd4 hs3]
  have hb1 : badN (rotL a d s k) s.toNat = 1 := by
    refine badN_spoil h.arr.whole hd4 (hz _ hs3) hA.whole (fun d' _ hne => ?_) ?_
    · rw [hc, if_neg (fun hc => hne hc.1)]
    · rw [hc, if_pos ⟨rfl, rfl⟩, rot_bad hd4 hs3 (badB_false.1 hgood) hoct (by omega)]; decide
  have hb : ∀ t, t < 3 → badN (rotL a d s k) t ≤ 1 := fun t ht => by
    by_cases hts : t = s.toNat
    · subst hts; omega
    · rw [badN_other hA.whole h.arr.whole (fun d' _ => by rw [hc, if_neg (fun hc => hts hc.2)]), hz t ht]; omega
  have hw := worst_one hb hs3 hb1
  exact ⟨hw, h.rot (fun _ => hr) (Nat.le_of_eq hw)⟩

/-- Four cells, as an array that has them in each stripe. -/
def wrap4 (ls : List (List Int)) : ArrP := ⟨ls.map fun c => [c, c, c], []⟩
theorem wrap4_whole {ls : List (List Int)} (h : ls.length = 4) : Whole (wrap4 ls) := ⟨by simp [wrap4, h], fun x hx => by
  simp only [wrap4, List.mem_map] at hx
  obtain ⟨c, -, rfl⟩ := hx
  rfl⟩
theorem wrap4_cells {ls : List (List Int)} {s : Nat} (hs : s < 3) : cellsL (wrap4 ls) s = ls := by
  obtain rfl | rfl | rfl : s = 0 ∨ s = 1 ∨ s = 2 := by omega
  all_goals
    simp only [cellsL, wrap4, List.map_map]
    exact List.map_id ls
theorem wrap4_at {ls : List (List Int)} {s : Nat} (hs : s < 3) (d : Nat) : cellAt (wrap4 ls) d s = ls.getD d [] := by rw [← cellsL_getD, wrap4_cells hs]

theorem badL_wrap {ls : List (List Int)} (h : ls.length = 4) {s : Nat} (hs : s < 3) : badL ls s = (List.range 4).filter (fun d => badB (wrap4 ls) d s) := by
  have := badL_eq (wrap4_whole h) s
  rwa [wrap4_cells hs] at this

end Go.Proofs.Ytjggiameajndgac

/-
  Plain: what the laws of arrays rest on.
-/
namespace Go.Proofs.Ytjggiameajndgac

theorem model_yes {a : ArrP} {D : Nat → List (List Int)} (h : Inv a D) {x : DeedP} (hw : wrongE x = 0) (hx : Octets x.d) : planE a x = 0 ∧ blkE (doA a x) = 0 ∧ blkL (doA a x) = doL (blkL a) x ∧ (blkL a).length = 9 := by
  have h1 := (h.doA hw hx).blocks
  have h0 := h.blocks
  refine ⟨(h.planE x).trans hw, h1.1, ?_, ?_⟩
  · rw [h1.2, Bk_doD D hw, h0.2]
  · rw [h0.2, Bk_length]

theorem model_no {a : ArrP} {D : Nat → List (List Int)} (h : Inv a D) {x : DeedP} (hw : wrongE x ≠ 0) : planE a x = wrongE x ∧ doA a x = a := ⟨h.planE x, doA_wrong h hw⟩

theorem half_plain {a : ArrP} {D : Nat → List (List Int)} (h : Inv a D) {x : DeedP} (hx : Octets x.d) (he : planE a x = 0) (n : Int) : wrongE x = 0 ∧ blkE (mountL (writeL a (planI a x) n)) = 0 ∧ (mountL (writeL a (planI a x) n)).is = [] ∧ (blkL (mountL (writeL a (planI a x) n)) = blkL a ∨ blkL (mountL (writeL a (planI a x) n)) = doL (blkL a) x) := by
  have hw : wrongE x = 0 := (h.planE x).symm.trans he
  have e : mountL (writeL a (planI a x) n) = fallA a x n := by rw [fallA, if_pos he]
  have hA := fallA_arr h.arr x n
  have hm := model_yes h hw hx
  have h0 := h.blocks
  rw [e]
  refine ⟨hw, ?_, hA.none, ?_⟩
  · rw [fallA_eq h.arr he]
    split
    · exact h0.1
    · exact hm.2.1
  · rw [fallA_eq h.arr he]
    split
    · exact .inl rfl
    · exact .inr hm.2.2.1

theorem read_plain {a : ArrP} {D : Nat → List (List Int)} (h : Inv a D) (h0 : worstN a = 0) {n : Int} (hn : 0 ≤ n ∧ n < 9) : rdE a n = 0 ∧ rdE (goneL a (whereD n)) n = 0 ∧ rdX (goneL a (whereD n)) n = rdX a n ∧ (rdX a n).length = 4 := by
  obtain ⟨e1, -, -, hd4, hs3⟩ := where_bd hn
  obtain ⟨k, rfl⟩ : ∃ k : Nat, n = (k : Int) := ⟨n.toNat, by omega⟩
  have hk : k < 9 := by omega
  have hg := (gone_one h h0 (d := whereD (k : Int)) (by omega)).2
  have r1 := h.read hk
  have r2 := hg.read hk
  refine ⟨r1.1, r2.1, r2.2.trans r1.2.symm, ?_⟩
  rw [r1.2]
  exact ((h.holds _ hs3).blocks _ (getD_mem (by rw [(h.holds _ hs3).len]; exact hd4))).1

theorem doA_no {a : ArrP} {x : DeedP} (he : planE a x ≠ 0) : doA a x = a := if_neg he

theorem stripe_cells {a : ArrP} (ha : Arr a) {x : DeedP} (he : planE a x = 0) (d t : Nat) : cellAt (doA a x) d t = if d < 4 ∧ t = sOf x.n then (makeL (planOut (planBl a x) (sOf x.n)) (sOf x.n)).getD d [] else cellAt a d t := by
  obtain ⟨s, hs3, hsx, -, -, hi⟩ := planI_ok he
  rw [doA_eq ha he, hi, ← hsx]
  simp only [Int.toNat_natCast]
  exact putTo_twice_at ha.whole _ hs3 d t 4 (Nat.le_refl _)

theorem stripe_other {a : ArrP} (ha : Arr a) {x : DeedP} (he : planE a x = 0) {t : Nat} (ht : t ≠ sOf x.n) : cellsL (doA a x) t = cellsL a t := by
  refine ext_getD (by rw [cellsL_length, cellsL_length, (doA_arr ha x).whole.1, ha.whole.1]) fun i hi => ?_
  rw [cellsL_getD, cellsL_getD, stripe_cells ha he, if_neg (fun hc => ht hc.2)]

theorem stripe_own {a : ArrP} (ha : Arr a) {x : DeedP} (he : planE a x = 0) : dataE (cellsL (doA a x) (sOf x.n)) (sOf x.n) = 0 ∧ badL (cellsL (doA a x) (sOf x.n)) (sOf x.n) = [] ∧ xorAll (dataL (cellsL (doA a x) (sOf x.n)) (sOf x.n)) = [0, 0, 0, 0] ∧ ∀ b ∈ dataL (cellsL (doA a x) (sOf x.n)) (sOf x.n), b.length = 4 := by
  obtain ⟨s, hs3, hsx, -, -, hi⟩ := planI_ok he
  obtain ⟨hb4, hb9⟩ := planBl_blocks ha.whole he
  have h4 : ∀ b ∈ planOut (planBl a x) s, b.length = 4 := planOut_blocks hb4 hb9 hs3
  have hl : (planOut (planBl a x) s).length = 4 := planOut_length _ _
  have hev := planOut_even (planBl a x) hs3
  have hml : (makeL (planOut (planBl a x) s) s).length = 4 := by rw [makeL, List.length_map, List.length_range, hl]
  have hc : cellsL (doA a x) s = makeL (planOut (planBl a x) s) s := by
    refine ext_getD (by rw [cellsL_length, (doA_arr ha x).whole.1, hml]) fun i hi' => ?_
    rw [cellsL_length, (doA_arr ha x).whole.1] at hi'
    rw [cellsL_getD, stripe_cells ha he, ← hsx, if_pos ⟨hi', rfl⟩]
  rw [← hsx, hc]
  generalize planOut (planBl a x) s = ds at *
  have hb : ∀ d, d < 4 → isBad (makeL ds s) s d = false := fun d hd => by rw [isBad, (make_cell h4 hl hd).2.1]; rfl
  have hbad : badL (makeL ds s) s = [] := by
    rw [badL, badTo, hml, List.filter_eq_nil_iff]
    intro d hd
    rw [hb d (List.mem_range.1 hd)]
    decide
  have hd : dataL (makeL ds s) s = ds := by
    rw [dataL, if_neg (by rw [hbad]; decide), hml]
    refine ext_getD (by rw [List.length_map, List.length_range, hl]) fun i hi' => ?_
    rw [List.length_map, List.length_range] at hi'
    have : datAt (makeL ds s) s i = ds.getD i [] := by
      rw [datAt, hb i hi']
      exact (make_cell h4 hl hi').2.2
    simp [List.getD_eq_getElem?_getD, hi', this]
  refine ⟨by rw [dataE, hbad]; rfl, hbad, ?_, by rw [hd]; exact h4⟩
  rw [hd, xorAll, hev 0 (by omega), hev 1 (by omega), hev 2 (by omega), hev 3 (by omega)]
  rfl

theorem plan_no {a : ArrP} {x : DeedP} (he : planE a x ≠ 0) : (planI a x).2 = [] := by rw [planI, if_pos he]

end Go.Proofs.Ytjggiameajndgac

/-
  Plain: what the laws of mending rest on.
-/
namespace Go.Proofs.Ytjggiameajndgac

/-- How many cells each stripe told, when all is mended. -/
def mendNs (a : ArrP) : List Nat := [mendN a (0 : Nat), mendN (mendL a (0 : Nat)) (1 : Nat), mendN (mendL (mendL a (0 : Nat)) (1 : Nat)) (2 : Nat)]

theorem mendAll_arr {a : ArrP} (h : Arr a) : Arr (mendAll a) := mendL_arr (mendL_arr (mendL_arr h _) _) _

theorem mendNs_zero {a : ArrP} {D : Nat → List (List Int)} (h : Inv a D) : mendNs (mendAll a) = [0, 0, 0] := by
  have hb := mendAll_bad h
  obtain ⟨-, e0, e1, -⟩ := mendAll_again (mendAll_inv h) hb
  rw [mendNs, e0, e1, mendN_nat (by omega), mendN_nat (by omega), mendN_nat (by omega), hb 0 (by omega), hb 1 (by omega), hb 2 (by omega)]

theorem mendAll_blocks {a : ArrP} {D : Nat → List (List Int)} (h : Inv a D) : blkE a = 0 ∧ blkE (mendAll a) = 0 ∧ blkL (mendAll a) = blkL a := by
  have h1 := h.blocks
  have h2 := (mendAll_inv h).blocks
  exact ⟨h1.1, h2.1, h2.2.trans h1.2.symm⟩

theorem mendAll_twice {a : ArrP} {D : Nat → List (List Int)} (h : Inv a D) : mendAll (mendAll a) = mendAll a := (mendAll_again (mendAll_inv h) (mendAll_bad h)).1

theorem mend_no {a : ArrP} {s : Int} (h : mendE a s ≠ 0) : mendL a s = a ∧ (mendE a s = 3 ∨ 1 < mendN a s) := by
  by_cases hs : s < 0 ∨ 2 < s
  · exact ⟨by rw [mendL, if_pos (.inl hs)], .inl (by rw [mendE, if_pos hs])⟩
  · rw [mendE, if_neg hs] at h
    refine ⟨by rw [mendL, if_pos (.inr h)], .inr ?_⟩
    rw [mendN, if_neg hs, badN]
    obtain ⟨k, rfl⟩ : ∃ k : Nat, s = (k : Int) := ⟨s.toNat, by omega⟩
    simp only [Int.toNat_natCast] at h ⊢
    by_cases hc : 1 < (badL (cellsL a k) k).length
    · exact hc
    · exact absurd (if_neg hc) h

theorem mend_yes {a : ArrP} {s : Int} (h : mendE a s = 0) : (0 ≤ s ∧ s < 3) ∧ mendN a s ≤ 1 := by
  by_cases hs : s < 0 ∨ 2 < s
  · rw [mendE, if_pos hs] at h
    exact absurd h (by decide)
  · rw [mendE, if_neg hs] at h
    refine ⟨by omega, ?_⟩
    rw [mendN, if_neg hs, badN]
    obtain ⟨k, rfl⟩ : ∃ k : Nat, s = (k : Int) := ⟨s.toNat, by omega⟩
    simp only [Int.toNat_natCast] at h ⊢
    by_cases hc : 1 < (badL (cellsL a k) k).length
    · rw [dataE, if_pos hc] at h
      exact absurd h (by decide)
    · omega

theorem mend_other {a : ArrP} (ha : Arr a) {s : Int} {t : Nat} (h : (t : Int) ≠ s) : cellsL (mendL a s) t = cellsL a t := by
  refine ext_getD (by rw [cellsL_length, cellsL_length, (mendL_arr ha s).whole.1, ha.whole.1]) fun i hi => ?_
  rw [cellsL_getD, cellsL_getD, mendL_other ha.whole s h]

end Go.Proofs.Ytjggiameajndgac

/-
  What the program's mend.All returns: an array of the call's own, and how many cells of each stripe were none. Nothing old turns.
-/
namespace Go.Proofs.Ytjggiameajndgac
open Go.RowKit

/-- The first k stripes are mended. -/
def mendTo (a : ArrP) : Nat → ArrP
  | 0 => a
  | k + 1 => mendL (mendTo a k) (k : Nat)

theorem mendTo_arr {a : ArrP} (h : Arr a) : ∀ k, Arr (mendTo a k)
  | 0 => h
  | k + 1 => mendL_arr (mendTo_arr h k) _

/-- What the first k have told. -/
def toldTo (a : ArrP) (k : Nat) : List Int := (List.range 3).map fun i => if i < k then (mendN (mendTo a i) (i : Nat) : Int) else 0
def toldC (a : ArrP) (k : Nat) : Array Value := ((toldTo a k).map (Value.int .i64)).toArray

theorem toldC_set (a : ArrP) {k : Nat} (hk : k < 3) : (toldC a k).setIfInBounds k (.int .i64 (mendN (mendTo a k) (k : Nat))) = toldC a (k + 1) := by
  obtain rfl | rfl | rfl : k = 0 ∨ k = 1 ∨ k = 2 := by omega
  all_goals rfl
theorem toldC_size (a : ArrP) (k : Nat) : (toldC a k).size = 3 := by simp [toldC, toldTo]
theorem toldC_all (a : ArrP) : toldC a 3 = ((mendNs a).map (fun (n : Nat) => Value.int .i64 (n : Int))).toArray := rfl

theorem Try.made3 (w : World) : (Instr.makeSlice 35 (.int .i64 3) (.int .i64 3)).run Try.prog w = .ok (.slice (some ⟨w.heap.size, 0, none⟩) 3 3) (w.alloc (.cells #[.int .i64 0, .int .i64 0, .int .i64 0] 3)) :=
  (run_make_row' (P := Try.prog) 35 3 (.int .i64 0) 8 Try.underlying35 Try.infoI rfl .i64 .i64 3 (by decide) (by decide) w).trans (by rw [show madeCells #[.int .i64 0] 3 = #[Value.int .i64 0, .int .i64 0, .int .i64 0] from Array.toList_inj.1 (toList_madeCells_one _ _)])

theorem K4.set' {w : World} {b k : Nat} {u : Value} {cs : Array Value} {t : TypeId} {mk : Nat × Nat} (hb : w.heap[b]? = some (.cells cs t mk)) (ht : t ≠ 5 ∧ t ≠ 52 ∧ t ≠ 41) (hi : t ≠ 80) : K4 w (w.setCell ⟨b, k, none⟩ u) := ⟨K3.set hb ht, fun j cs' hj => by
  refine set_other hj fun e => ?_
  subst e
  rw [hb] at hj
  injection hj with hj
  injection hj with _ hj _
  exact hi hj⟩

/-- The boxes of a call: the result, what is mended, what was told. -/
def AllBox (n q t : Nat) (dv iv : Value) (cs : Array Value) (w : World) : Prop := w.heap[n + 1]? = some (.cells #[.slice none 0 0, .slice none 0 0] 26 (0, 0)) ∧ w.heap[q]? = some (.cells #[dv, iv] 26 (0, 0)) ∧ w.heap[t]? = some (.cells cs 3 (0, 0)) ∧ n + 1 < q ∧ q < t

theorem AllBox.grow {n q t : Nat} {dv iv : Value} {cs : Array Value} {w w' : World} (h : AllBox n q t dv iv cs w) (hg : Grow w w') : AllBox n q t dv iv cs w' := ⟨hg.block' h.1, hg.block' h.2.1, hg.block' h.2.2.1, h.2.2.2⟩

theorem AllBox.next {n q t B : Nat} {dv iv dv' iv' u : Value} {cs : Array Value} {bs : List Nat} {a : ArrP} {w w0 : World} (k : Nat) (h : AllBox n q t dv iv cs w) (hO : OwnA B bs w dv' iv' a) (hg : Grow w0 w) (h0 : w0.heap.size = n) :
    AllBox n q t dv' iv' (cs.setIfInBounds k u) (((w.setCell ⟨q, 0, none⟩ dv').setCell ⟨q, 1, none⟩ iv').setCell ⟨t, k, none⟩ u) ∧
    OwnA B bs (((w.setCell ⟨q, 0, none⟩ dv').setCell ⟨q, 1, none⟩ iv').setCell ⟨t, k, none⟩ u) dv' iv' a ∧
    Grow w0 (((w.setCell ⟨q, 0, none⟩ dv').setCell ⟨q, 1, none⟩ iv').setCell ⟨t, k, none⟩ u) := by
  obtain ⟨h1, h2, h3, h4, h5⟩ := h
  have e1 := two_set0 (z := dv') h2
  have e2 := two_set1 (z := iv') e1
  have t2 : ((w.setCell ⟨q, 0, none⟩ dv').setCell ⟨q, 1, none⟩ iv').heap[t]? = some (.cells cs 3 (0, 0)) := set_other (set_other h3 (by omega)) (by omega)
  refine ⟨⟨set_other (set_other (set_other h1 (by omega)) (by omega)) (by omega), set_other e2 (by omega), ?_, h4, h5⟩, ?_, ?_⟩
  · exact heap_setCell_same _ t k _ _ _ t2
  · exact ((hO.k4 (K4.set h2)).k4 (K4.set e1)).k4 (K4.set' t2 (by decide) (by decide))
  · exact ((hg.set (by omega) _).set (by omega) _).set (by omega) _

set_option maxRecDepth 20000 in
set_option maxHeartbeats 6400000 in
theorem mendAll_any (v : Value) (a : ArrP) (w : World) (h : ArrV w v a) (ha : Arr a) :
    Calls Try.prog 21 #[v] w fun e w' => ∃ bs dv iv T, e = .returned (.tuple #[.agg #[dv, iv], .slice (some ⟨T, 0, none⟩) 3 3]) ∧ OwnA w.heap.size bs w' dv iv (mendAll a) ∧ w'.heap[T]? = some (.cells ((mendNs a).map (fun (n : Nat) => Value.int .i64 (n : Int))).toArray 3 (0, 0)) ∧ Grow w w' := by
  have harr := h
  obtain ⟨a1, n1, c1, a2, n2, c2, rfl⟩ := h.form
  clear h
  obtain ⟨W, hW⟩ : ∃ W, W = (w.alloc (.cells #[.slice a1 n1 c1, .slice a2 n2 c2] 26)).alloc (.cells #[.slice none 0 0, .slice none 0 0] 26) := ⟨_, rfl⟩
  have hgW : Grow w W := by rw [hW]; exact (Grow.alloc _ _).trans (Grow.alloc _ _)
  have H1 : W.heap[w.heap.size]? = some (.cells #[.slice a1 n1 c1, .slice a2 n2 c2] 26 (0, 0)) := by rw [hW]; exact (heap_alloc_old _ _ (by simp)).trans (heap_alloc_new w _)
  have HR : Hid (W.heap[w.heap.size + 1]? = some (.cells #[.slice none 0 0, .slice none 0 0] 26 (0, 0))) := by rw [Hid, hW]; exact heap_alloc2_new w _ _
  have k0 := two_at0 H1
  have k1 := two_at1 H1
  have HA : Hid (∀ k, Arr (mendTo a k)) := mendTo_arr ha
  have hOw := own_any (.agg #[.slice a1 n1 c1, .slice a2 n2 c2]) a W (harr.grow hgW) ha.whole ha.short (.inl ha.none)
  clear harr ha H1
  go_enter Try.func21, Try.ntmps21
  go_wp2_with fail
  rw [← hW]
  clear hW
  refine hOw.mono ?_
  rintro e w1 ⟨bs0, dv0, iv0, rfl, hO, hg1⟩
  clear hOw k0 k1
  obtain ⟨⟨x1, x2, x3, rfl⟩, y1, y2, y3, rfl⟩ := hO.forms
  obtain ⟨q, hq⟩ : ∃ q, q = w1.heap.size := ⟨_, rfl⟩
  have hmk := Try.made3 (w1.alloc (.cells #[.slice x1 x2 x3, .slice y1 y2 y3] 26))
  obtain ⟨W2, hW2⟩ : ∃ W2, W2 = (w1.alloc (.cells #[.slice x1 x2 x3, .slice y1 y2 y3] 26)).alloc (.cells #[.int .i64 0, .int .i64 0, .int .i64 0] 3) := ⟨_, rfl⟩
  have hg2 : Grow w1 W2 := by rw [hW2]; exact (Grow.alloc _ _).trans (Grow.alloc _ _)
  have hgw := (hgW.trans hg1).trans hg2
  have HB0 : Hid (AllBox w.heap.size q (q + 1) (.slice x1 x2 x3) (.slice y1 y2 y3) (toldC a 0) W2) := by
    refine ⟨hg2.block' (hg1.block' HR.out), ?_, ?_, ?_, by omega⟩
    · rw [hW2, hq]; exact (heap_alloc_old _ _ (by simp)).trans (heap_alloc_new w1 _)
    · rw [hW2, hq]; exact heap_alloc2_new w1 _ _
    · have := heap_lt HR.out
      have := hg1.size
      omega
  have HO0 : Hid (OwnA w.heap.size bs0 W2 (.slice x1 x2 x3) (.slice y1 y2 y3) (mendTo a 0)) := (hO.k4 hg2.k4).low hgW.size
  clear hO hg1 hg2 hgW HR
  go_wp2
  rw [← hW2, ← hq]
  clear hW2 hq hmk
  go_loopw [12] (fun i wr => ∃ (k : Nat) (dv iv : Value) (bs : List Nat), k ≤ 3 ∧ i = .int .i64 k ∧ (∃ x1 x2 x3, dv = .slice x1 x2 x3) ∧ (∃ x1 x2 x3, iv = .slice x1 x2 x3) ∧ Hid (AllBox w.heap.size q (q + 1) dv iv (toldC a k) wr) ∧ Hid (OwnA w.heap.size bs wr dv iv (mendTo a k)) ∧ Grow w wr) (fun i _ => 3 - (intOf i).toNat)
  case atStart => exact ⟨0, _, _, bs0, by omega, rfl, ⟨_, _, _, rfl⟩, ⟨_, _, _, rfl⟩, HB0, HO0, hgw⟩
  case round =>
    obtain ⟨k, dv, iv, bs, hk, rfl, ⟨d1, d2, d3, rfl⟩, ⟨j1, j2, j3, rfl⟩, HB, HO, hgr⟩ := hrel
    clear HB0 HO0 hgw
    have b0 := two_at0 HB.out.2.1
    have b1 := two_at1 HB.out.2.1
    by_cases hlt : k < 3
    · have hA := HA.out k
      have hSt := mendStripe_any (.agg #[.slice d1 d2 d3, .slice j1 j2 j3]) (mendTo a k) (k : Nat) wr HO.out.arr hA.whole hA.short (.inl hA.none)
      have HTS : Hid ((toldC a k).setIfInBounds k (.int .i64 (mendN (mendTo a k) (k : Nat))) = toldC a (k + 1)) := toldC_set a hlt
      have HM : Hid (mendL (mendTo a k) (k : Nat) = mendTo a (k + 1)) := rfl
      rw [HM.out] at hSt
      generalize mendN (mendTo a k) ((k : Nat) : Int) = bn at *
      generalize mendE (mendTo a k) ((k : Nat) : Int) = E at *
      clear hA
      go_wp2_with fail
      refine hSt.mono ?_
      rintro e w2 ⟨bs2, dv2, iv2, rfl, hO2, hg2⟩
      clear hSt b0 b1
      obtain ⟨⟨p1, p2, p3, rfl⟩, o1, o2, o3, rfl⟩ := hO2.forms
      have hB2 := HB.out.grow hg2
      have hgr2 := hgr.trans hg2
      obtain ⟨hN1, hN2, hN3⟩ := hB2.next (u := .int .i64 (bn : Int)) k (hO2.low hgr.size) hgr2 rfl
      rw [HTS.out] at hN1
      have HN : Hid (AllBox _ _ _ _ _ _ _ ∧ OwnA _ _ _ _ _ _) := ⟨hN1, hN2⟩
      have b0 := two_at0 hB2.2.1
      have b1 := two_at1 hB2.2.1
      have f0 : w2.frozen? ⟨q, 0, none⟩ = false := frozen_of_row w2 _ 0 _ _ hB2.2.1
      have f1 : w2.frozen? ⟨q, 1, none⟩ = false := frozen_of_row w2 _ 1 _ _ hB2.2.1
      obtain ⟨u0, hu0⟩ : ∃ u0, w2.cell? ⟨q + 1, k, none⟩ = some u0 := ⟨(toldC a k)[k]'(by rw [toldC_size]; exact hlt), row_at hB2.2.2.1 k (by simp [toldC_size, hlt])⟩
      have f2 : w2.frozen? ⟨q + 1, k, none⟩ = false := frozen_of_row w2 _ k _ _ hB2.2.2.1
      clear hB2 hN1 hN2 hO2 HB HO HTS
      go_wp2
      go_roundw
      case rel => first | exact ⟨k + 1, _, _, _, by omega, by go_num, ⟨_, _, _, rfl⟩, ⟨_, _, _, rfl⟩, HN.out.1, HN.out.2, hN3⟩ | ((repeat apply Exists.intro); exact ⟨⟨k + 1, _, _, _, by omega, by go_num, ⟨_, _, _, rfl⟩, ⟨_, _, _, rfl⟩, HN.out.1, HN.out.2, hN3⟩, rfl⟩)
      case measure => simp [intOf]; omega
    · have HK : Hid (k = 3) := by rw [Hid]; omega
      have hB3 := HB.out
      have hO3 := HO.out
      rw [HK.out] at hB3 hO3
      obtain ⟨HF, z0, z1⟩ := mend_end hB3.1 hO3 hgr (by omega) (Nat.le_refl _)
      have HT : Hid (((wr.setCell ⟨w.heap.size + 1, 0, none⟩ (.slice d1 d2 d3)).setCell ⟨w.heap.size + 1, 1, none⟩ (.slice j1 j2 j3)).heap[q + 1]? = some (.cells ((mendNs a).map (fun (n : Nat) => Value.int .i64 (n : Int))).toArray 3 (0, 0))) := by
        have := hB3.2.2.2
        rw [Hid, ← toldC_all]
        exact set_other (set_other hB3.2.2.1 (by omega)) (by omega)
      have r0 := two_at0 hB3.1
      have r1 := two_at1 hB3.1
      have f0 : wr.frozen? ⟨w.heap.size + 1, 0, none⟩ = false := frozen_of_row wr _ 0 _ _ hB3.1
      have f1 : wr.frozen? ⟨w.heap.size + 1, 1, none⟩ = false := frozen_of_row wr _ 1 _ _ hB3.1
      have hno : ¬ ((k : Int) < 3) := by omega
      clear hB3 hO3 HB HO hk hlt
      go_wp2
      refine bodyPost_ret (results_two1 Try.results21 _ _ (w.heap.size + 1) _ rfl Try.underlying26 rfl Try.sizeA z0 z1) rfl ?_
      exact ⟨_, _, _, _, rfl, HF.out.1, HT.out, HF.out.2⟩

end Go.Proofs.Ytjggiameajndgac

/-
  What the program's mend.Worst returns. Nothing old turns.
-/
namespace Go.Proofs.Ytjggiameajndgac
open Go.RowKit

set_option maxRecDepth 20000 in
set_option maxHeartbeats 1600000 in
theorem mendWorst_any (v : Value) (a : ArrP) (w : World) (h : ArrV w v a) (ha : Whole a) (h8 : ∀ d s, (cellAt a d s).length ≤ 8) :
    Calls Try.prog 19 #[v] w fun e w' => e = .returned (.int .i64 (worstN a)) ∧ Grow w w' := by
  have harr := h
  obtain ⟨a1, n1, c1, a2, n2, c2, rfl⟩ := h.form
  clear h
  have hgA : Grow w (w.alloc (.cells #[.slice a1 n1 c1, .slice a2 n2 c2] 26)) := Grow.alloc _ _
  have hbl := fun k => badN_le ha k
  go_enter Try.func19, Try.ntmps19
  go_wp2
  obtain ⟨w1, hw1⟩ : ∃ w1, w1 = w.alloc (.cells #[.slice a1 n1 c1, .slice a2 n2 c2] 26) := ⟨_, rfl⟩
  have k0 : w1.cell? ⟨w.heap.size, 0, none⟩ = some (.slice a1 n1 c1) := by rw [hw1]; simp
  have k1 : w1.cell? ⟨w.heap.size, 1, none⟩ = some (.slice a2 n2 c2) := by rw [hw1]; simp
  rw [← hw1] at hgA ⊢
  clear hw1
  go_loopw [3, 5] (fun m i wr => ∃ (k n : Nat), k ≤ 3 ∧ i = .int .i64 k ∧ m = .int .i64 n ∧ n ≤ 4 ∧ Hid (n = worstTo a k) ∧ Grow w1 wr) (fun _ i _ => 3 - (intOf i).toNat)
  case atStart => exact ⟨0, 0, by omega, rfl, rfl, by omega, rfl, Grow.refl _⟩
  case round =>
    obtain ⟨k, n, hk, rfl, rfl, hn4, HN, hgr⟩ := hrel
    by_cases hlt : k < 3
    · have c0 := hgr.at k0
      have c1 := hgr.at k1
      have hgw := hgA.trans hgr
      clear k0 k1
      go_wp2_with fail
      refine (stripeCells_row _ a k _ (harr.grow hgw) ha h8 hlt).mono ?_
      rintro e w2 ⟨rc, rfl, hrc, hg2⟩
      have hC := hrc.done
      obtain ⟨ac, cc, rfl⟩ := Sl.form hC
      go_wp2_with fail
      refine (stripeBad_any _ _ k _ hC (by rw [cellsL_length, ha.1]) hlt).mono ?_
      rintro e w3 ⟨rb, rfl, hrb, hg3⟩
      obtain ⟨ab, cb, rfl, hb1, hb2⟩ := hrb.form'
      have hlen : (ints (badL (cellsL a k) k)).length = badN a k := by simp [ints, badN]
      rw [hlen] at hb1 ⊢
      have hb4 := hbl k
      have hgr3 := (hgr.trans hg2).trans hg3
      have HS : Hid (worstTo a (k + 1) = if worstTo a k < badN a k then badN a k else worstTo a k) := rfl
      clear hrb hrc hC hlen hbl
      generalize badN a k = bn at *
      have HN' : Hid (max n bn = worstTo a (k + 1)) := by
        rw [Hid, HS.out, ← HN.out]
        split <;> omega
      have hmx : max (n : Int) (bn : Int) = ((max n bn : Nat) : Int) := by omega
      have hm4 : max n bn ≤ 4 := by omega
      go_wp2
      go_roundw
      case rel => first | exact ⟨k + 1, max n bn, by omega, by go_num, rfl, hm4, HN', hgr3⟩ | ((repeat apply Exists.intro); exact ⟨⟨k + 1, max n bn, by omega, by go_num, rfl, hm4, HN', hgr3⟩, rfl⟩)
      case measure => simp [intOf]; omega
    · obtain rfl : k = 3 := by omega
      go_wp2
      go_ret
      exact ⟨ret_int (by rw [HN.out]; rfl), hgA.trans hgr⟩

end Go.Proofs.Ytjggiameajndgac
