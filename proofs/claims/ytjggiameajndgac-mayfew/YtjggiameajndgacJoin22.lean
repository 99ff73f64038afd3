import Derived.Test.YtjggiameajndgacJoin21
/-
  Plain: what gentle steps make of what stripes hold, and of blocks.
-/
namespace Go.Proofs.Ytjggiameajndgac

theorem sOf_eq {n : Nat} (h : n < 9) : sOf (n : Nat) = n / 3 := by
  simp only [sOf, whereS]
  rw [if_pos (by omega)]
  omega

/-- Where the disks of what is planned are, blocks are what they were to be. -/
theorem planOut_at (bl : List (List Int)) {n : Nat} (hn : n < 9) : (planOut bl (sOf (n : Nat))).getD (dOf (n : Nat)) [] = bl.getD n [] := by
  obtain ⟨-, -, -, -, hs3⟩ := where_bd (n := (n : Int)) (by omega)
  rw [planOut_eq _ _ hs3]
  obtain rfl | rfl | rfl | rfl | rfl | rfl | rfl | rfl | rfl : n = 0 ∨ n = 1 ∨ n = 2 ∨ n = 3 ∨ n = 4 ∨ n = 5 ∨ n = 6 ∨ n = 7 ∨ n = 8 := by omega
  all_goals rfl

theorem xor_self3 (x y z : Nat) : x ^^^ (y ^^^ (z ^^^ (x ^^^ (y ^^^ z)))) = 0 := by
  rw [xor_left z x, xor_left y x, ← Nat.xor_assoc x x, Nat.xor_self, Nat.zero_xor, xor_left z y, ← Nat.xor_assoc y y, Nat.xor_self, Nat.zero_xor, Nat.xor_self]

theorem planOut_even (bl : List (List Int)) {s : Nat} (hs : s < 3) : EvenB (planOut bl s) := by
  intro i hi
  rw [planOut_eq _ _ hs]
  split
  · rw [xC_four, xorAll_toNat _ hi, xC_three, xor_self3]
  split
  · rw [xC_four, xorAll_toNat _ hi, xC_three]
    generalize ((bl.getD 3 []).getD i 0).toNat = x
    generalize ((bl.getD 4 []).getD i 0).toNat = y
    generalize ((bl.getD 5 []).getD i 0).toNat = z
    rw [Nat.xor_comm (x ^^^ (y ^^^ z)) z, xor_self3]
  · rw [xC_four, xorAll_toNat _ hi, xC_three]
    generalize ((bl.getD 6 []).getD i 0).toNat = x
    generalize ((bl.getD 7 []).getD i 0).toNat = y
    generalize ((bl.getD 8 []).getD i 0).toNat = z
    rw [xor_left (x ^^^ (y ^^^ z)) y z, Nat.xor_comm (x ^^^ (y ^^^ z)) z, xor_self3]

theorem planOut_octets {bl : List (List Int)} (h : ∀ b ∈ bl, Octets b) (hl : bl.length = 9) {s : Nat} (hs : s < 3) : ∀ b ∈ planOut bl s, Octets b := by
  have hg : ∀ k, k < 9 → Octets (bl.getD k []) := fun k hk => h _ (getD_mem (by omega))
  have hx : ∀ i j k, i < 9 → j < 9 → k < 9 → Octets (xorAll [bl.getD i [], bl.getD j [], bl.getD k []]) := fun i j k hi hj hk => xorAll_octets fun b hb => by
    simp only [List.mem_cons, List.not_mem_nil, or_false] at hb
    rcases hb with rfl | rfl | rfl
    · exact hg i hi
    · exact hg j hj
    · exact hg k hk
  rw [planOut_eq bl s hs]
  intro b hb
  split at hb
  · simp only [List.mem_cons, List.not_mem_nil, or_false] at hb
    rcases hb with rfl | rfl | rfl | rfl
    · exact hg 0 (by omega)
    · exact hg 1 (by omega)
    · exact hg 2 (by omega)
    · exact hx 0 1 2 (by omega) (by omega) (by omega)
  split at hb
  · simp only [List.mem_cons, List.not_mem_nil, or_false] at hb
    rcases hb with rfl | rfl | rfl | rfl
    · exact hg 3 (by omega)
    · exact hg 4 (by omega)
    · exact hx 3 4 5 (by omega) (by omega) (by omega)
    · exact hg 5 (by omega)
  · simp only [List.mem_cons, List.not_mem_nil, or_false] at hb
    rcases hb with rfl | rfl | rfl | rfl
    · exact hg 6 (by omega)
    · exact hx 6 7 8 (by omega) (by omega) (by omega)
    · exact hg 7 (by omega)
    · exact hg 8 (by omega)

theorem doAt_octets {ls : List (List Int)} {x : DeedP} (h : ∀ b ∈ ls, Octets b) (hx : Octets x.d) (i : Nat) : Octets (doAt ls x i) := by
  have hg : ∀ k, Octets (ls.getD k []) := fun k => by
    by_cases hk : k < ls.length
    · exact h _ (getD_mem hk)
    · rw [List.getD_eq_getElem?_getD, List.getElem?_eq_none (by omega)]; intro y hy; simp at hy
  unfold doAt
  split
  · exact hx
  split
  · exact hg _
  split
  · exact hg _
  · exact hg _

/-- What an intent's cells are: each reads as what is planned. -/
theorem make_cell {ds : List (List Int)} (h4 : ∀ b ∈ ds, b.length = 4) (hl : ds.length = 4) {d s : Nat} (hd : d < 4) : (makeL ds s).getD d [] = cellOf d s (ds.getD d []) ∧ readE ((makeL ds s).getD d []) d s = 0 ∧ readX ((makeL ds s).getD d []) d s = ds.getD d [] := by
  have e : (makeL ds s).getD d [] = cellOf d s (ds.getD d []) := by
    simp [makeL, List.getD_eq_getElem?_getD, hl, hd]
  have hlen : (ds.getD d []).length = 4 := h4 _ (getD_mem (by omega))
  have := read_cell (d := (d : Int)) (s := (s : Int)) hlen d s
  rw [e, this.1, this.2]
  simp

/-- All cells of a stripe are put. -/
theorem put_holds {a : ArrP} (ha : Whole a) {s : Nat} (hs : s < 3) {ds : List (List Int)} (hl : ds.length = 4) (hb : Blocks ds) (he : EvenB ds) :
    Holds (putTo a (makeL ds s) s 4) s ds ∧ (∀ d, d < 4 → badB (putTo a (makeL ds s) s 4) d s = false) ∧ badN (putTo a (makeL ds s) s 4) s = 0 := by
  have h4 : ∀ b ∈ ds, b.length = 4 := fun b hbm => (hb b hbm).1
  have hc : ∀ d, d < 4 → cellAt (putTo a (makeL ds s) s 4) d s = (makeL ds s).getD d [] := fun d hd => by rw [putTo_twice_at ha _ hs d s 4 (Nat.le_refl _), if_pos ⟨hd, rfl⟩]
  have hbad : ∀ d, d < 4 → badB (putTo a (makeL ds s) s 4) d s = false := fun d hd => by rw [badB_false, hc d hd, (make_cell h4 hl hd).2.1]
  refine ⟨⟨hl, hb, he, fun d hd _ => by rw [hc d hd, (make_cell h4 hl hd).2.2]⟩, hbad, ?_⟩
  rw [badN_eq (putTo_whole ha _ _ 4 (Nat.le_refl _)), hbad 0 (by omega), hbad 1 (by omega), hbad 2 (by omega), hbad 3 (by omega)]
  rfl

theorem cell_other {a b : ArrP} {s : Nat} (h : ∀ d, d < 4 → cellAt a d s = cellAt b d s) {ds : List (List Int)} (hh : Holds a s ds) : Holds b s ds := by
  refine ⟨hh.len, hh.blocks, hh.even, fun d hd hb => ?_⟩
  rw [badB_false, ← h d hd] at hb
  rw [← h d hd]
  exact hh.reads d hd (badB_false.2 hb)

theorem badN_other {a b : ArrP} (ha : Whole a) (hb : Whole b) {s : Nat} (h : ∀ d, d < 4 → cellAt a d s = cellAt b d s) : badN a s = badN b s := by
  rw [badN_eq ha, badN_eq hb]
  simp only [badB]
  rw [h 0 (by omega), h 1 (by omega), h 2 (by omega), h 3 (by omega)]

/-- A stripe's cells are put; the others are as they were. -/
theorem Inv.put {a : ArrP} {D : Nat → List (List Int)} (h : Inv a D) {s : Nat} (hs : s < 3) {ds : List (List Int)} (hl : ds.length = 4) (hb : Blocks ds) (he : EvenB ds) :
    Inv (putTo a (makeL ds s) s 4) (fun t => if t = s then ds else D t) := by
  have hA : Arr (putTo a (makeL ds s) s 4) := putTo_arr h.arr (fun b hb' => by rw [makeL_mem (fun b h => (hb b h).1) b hb']; omega) hs 4 (Nat.le_refl _)
  obtain ⟨h1, -, h3⟩ := put_holds h.arr.whole hs hl hb he
  have hc : ∀ t, t ≠ s → ∀ d, d < 4 → cellAt a d t = cellAt (putTo a (makeL ds s) s 4) d t := fun t ht d hd => by rw [putTo_twice_at h.arr.whole _ hs d t 4 (Nat.le_refl _), if_neg (fun hc => ht hc.2)]
  refine ⟨hA, fun t ht => ?_, fun t ht => ?_⟩
  · by_cases hts : t = s
    · subst hts; simp only [if_true]; exact h1
    · simp only [if_neg hts]; exact cell_other (hc t hts) (h.holds t ht)
  · by_cases hts : t = s
    · subst hts; omega
    · rw [← badN_other h.arr.whole hA.whole (hc t hts)]; exact h.few t ht

theorem Inv.planE {a : ArrP} {D : Nat → List (List Int)} (h : Inv a D) (x : DeedP) : planE a x = wrongE x := by
  unfold Go.Proofs.Ytjggiameajndgac.planE
  split
  · rfl
  · rename_i hw
    have hw0 : wrongE x = 0 := Decidable.not_not.1 hw
    obtain ⟨-, hn0, hn8, -, -⟩ := right_deed hw0
    obtain ⟨-, -, -, -, hs3⟩ := where_bd (n := x.n) (by omega)
    rw [((h.holds _ hs3).data h.arr.whole (h.few _ hs3)).1, hw0]

/-- What stripes hold behind a deed. -/
def doD (D : Nat → List (List Int)) (x : DeedP) : Nat → List (List Int) := fun t => if t = sOf x.n then planOut (doL (spreadTo (D (sOf x.n)) (sOf x.n) 9) x) (sOf x.n) else D t

theorem Inv.doA {a : ArrP} {D : Nat → List (List Int)} (h : Inv a D) {x : DeedP} (hw : wrongE x = 0) (hx : Octets x.d) : Inv (doA a x) (doD D x) := by
  have he : Go.Proofs.Ytjggiameajndgac.planE a x = 0 := (h.planE x).trans hw
  obtain ⟨s, hs3, hsx, -, -, hi⟩ := planI_ok he
  obtain ⟨e1, e2⟩ := (h.holds s hs3).data h.arr.whole (h.few s hs3)
  have hbl : planBl a x = doL (spreadTo (D s) s 9) x := by rw [planBl, ← hsx, e2]
  have hbs := planBl_blocks h.arr.whole he
  rw [doA_eq h.arr he, hi]
  simp only [Int.toNat_natCast]
  have hoct : ∀ b ∈ planBl a x, Octets b := fun b hb => by
    rw [hbl, doL] at hb
    obtain ⟨i, -, rfl⟩ := List.mem_map.1 hb
    refine doAt_octets (fun c hc => ?_) hx i
    simp only [spreadTo, List.mem_map, List.mem_range] at hc
    obtain ⟨n, hn, rfl⟩ := hc
    split
    · obtain ⟨-, -, -, hd4, -⟩ := where_bd (n := (n : Int)) (by omega)
      exact ((h.holds s hs3).blocks _ (getD_mem (by rw [(h.holds s hs3).len]; exact hd4))).2
    · exact nought_oct
  have hI := h.put hs3 (planOut_length (planBl a x) s) (fun b hb => ⟨planOut_blocks hbs.1 hbs.2 hs3 b hb, planOut_octets hoct hbs.2 hs3 b hb⟩) (planOut_even (planBl a x) hs3)
  rw [hbl] at hI ⊢
  rw [show doD D x = fun t => if t = s then planOut (doL (spreadTo (D s) s 9) x) s else D t from by funext t; rw [doD, ← hsx]]
  exact hI

theorem ext_getD {a b : List (List Int)} (hl : a.length = b.length) (h : ∀ i, i < a.length → a.getD i [] = b.getD i []) : a = b := by
  refine List.ext_getElem hl fun i g1 g2 => ?_
  have := h i g1
  rw [List.getD_eq_getElem?_getD, List.getD_eq_getElem?_getD, List.getElem?_eq_getElem g1, List.getElem?_eq_getElem g2] at this
  exact this

theorem doL_getD {ls : List (List Int)} {x : DeedP} {i : Nat} (h : i < ls.length) : (doL ls x).getD i [] = doAt ls x i := by
  simp [doL, List.getD_eq_getElem?_getD, h]

/-- Blocks behind a deed are what is meant. -/
theorem Bk_doD (D : Nat → List (List Int)) {x : DeedP} (hw : wrongE x = 0) : Bk (doD D x) = doL (Bk D) x := by
  obtain ⟨hk, hn0, hn8, h1, h2⟩ := right_deed hw
  obtain ⟨n, hn⟩ := Int.eq_ofNat_of_zero_le hn0
  have hn9 : n < 9 := by omega
  refine ext_getD (by rw [Bk_length, doL_length, Bk_length]) fun i g1 => ?_
  have hi9 : i < 9 := by rw [Bk_length] at g1; exact g1
  have hsp : ∀ k : Nat, k < 9 → sOf (k : Nat) = sOf x.n → (spreadTo (D (sOf x.n)) (sOf x.n) 9).getD k [] = (Bk D).getD k [] := fun k hk9 hks => by
    rw [Bk_getD D hk9, hks]
    simp [spreadTo, List.getD_eq_getElem?_getD, hk9, hks]
  have hm : x.k = 2 → ∃ m : Nat, x.m = (m : Int) ∧ m < 9 ∧ sOf (m : Nat) = sOf x.n := fun hk2 => by
    obtain ⟨e1, e2, -⟩ := h2 hk2
    have := whereE_zero e1
    obtain ⟨m, hm⟩ := Int.eq_ofNat_of_zero_le this.1
    exact ⟨m, hm, by omega, by rw [hm] at e2; simp only [sOf, e2]⟩
  rw [doL_getD (by rw [Bk_length]; exact hi9), Bk_getD _ hi9]
  by_cases hs : sOf (i : Nat) = sOf x.n
  · rw [doD, if_pos hs, ← hs, planOut_at _ hi9, hs]
    rw [doL_getD (by rw [spreadTo_length]; exact hi9)]
    unfold doAt
    split
    · rfl
    split
    · rename_i hc
      obtain ⟨m, e1, e2, e3⟩ := hm hc.1
      rw [e1, Int.toNat_natCast]
      exact hsp m e2 e3
    split
    · have e : x.n.toNat = n := by omega
      rw [e]
      exact hsp n hn9 (by rw [hn])
    · exact hsp i hi9 hs
  · rw [doD, if_neg hs, ← Bk_getD D hi9]
    unfold doAt
    rw [if_neg (fun hc => hs (by rw [hc.2])), if_neg (fun hc => hs (by rw [hc.2])), if_neg (fun hc => by
      obtain ⟨m, e1, e2, e3⟩ := hm hc.1
      exact hs (by rw [hc.2, e1, e3]))]

/-- One cell is another one, that is none. -/
theorem Inv.spoil {a : ArrP} {D : Nat → List (List Int)} (h : Inv a D) {d s : Nat} (hd : d < 4) (hs : s < 3) {l : List Int} (hl : l.length ≤ 8) (hr : readE l d s ≠ 0) (hf : ∀ t, t < 3 → badN (withL a d s l) t ≤ 1) : Inv (withL a d s l) D :=
  ⟨h.arr.with hd hs hl, fun t ht => (h.holds t ht).with h.arr.whole hd hs (fun _ he => absurd he hr), hf⟩

theorem holds_gone {a : ArrP} (ha : Arr a) {D : Nat → List (List Int)} (h : ∀ s, s < 3 → Holds a s (D s)) {d : Nat} (hd : d < 4) : ∀ k, k ≤ 3 → ∀ s, s < 3 → Holds (goneTo a d k) s (D s)
  | 0, _ => h
  | k + 1, hk => fun s hs => (holds_gone ha h hd k (by omega) s hs).with (goneTo_arr ha hd k (by omega)).whole hd (by omega) (fun _ he => by rw [readE_nil] at he; cases he)

/-- A disk that has nothing. -/
theorem Inv.gone {a : ArrP} {D : Nat → List (List Int)} (h : Inv a D) (d : Int) (hf : worstN (goneL a d) ≤ 1) : Inv (goneL a d) D := by
  refine ⟨goneL_arr h.arr d, fun s hs => ?_, worstN_le.1 hf⟩
  unfold goneL
  split
  · exact h.holds s hs
  · exact holds_gone h.arr h.holds (by omega) 3 (Nat.le_refl _) s hs

/-- A byte rots, of a cell that is not none. -/
theorem Inv.rot {a : ArrP} {D : Nat → List (List Int)} (h : Inv a D) {d s k : Int} (hr : rotOk a d s k → readE (cellAt a d.toNat s.toNat) d s = 0) (hf : worstN (rotL a d s k) ≤ 1) : Inv (rotL a d s k) D := by
  refine ⟨rotL_arr h.arr d s k, fun t ht => ?_, worstN_le.1 hf⟩
  unfold rotL
  split
  · rename_i hk
    have hr' := hr hk
    obtain ⟨h1, h2, h3, h4, h5, h6⟩ := hk
    obtain ⟨d, rfl⟩ := Int.eq_ofNat_of_zero_le h1
    obtain ⟨s, rfl⟩ := Int.eq_ofNat_of_zero_le h3
    simp only [Int.toNat_natCast] at *
    have hd4 : d < 4 := by omega
    have hs3 : s < 3 := by omega
    have hread := (h.holds s hs3).reads d hd4 (badB_false.2 hr')
    have hoct : Octets (readX (cellAt a d s) d s) := by rw [hread]; exact ((h.holds s hs3).blocks _ (getD_mem (by rw [(h.holds s hs3).len]; exact hd4))).2
    refine (h.holds t ht).with h.arr.whole hd4 hs3 (fun _ he => ?_)
    rw [rot_bad hd4 hs3 hr' hoct (by omega)] at he
    cases he
  · exact h.holds t ht

/-- A stripe is mended. -/
theorem Inv.mend {a : ArrP} {D : Nat → List (List Int)} (h : Inv a D) (s : Int) : Inv (mendL a s) D := by
  unfold mendL
  split
  · exact h
  · rename_i hn
    have hs : ¬ (s < 0 ∨ 2 < s) := fun hc => hn (.inl hc)
    obtain ⟨s, rfl⟩ := Int.eq_ofNat_of_zero_le (show 0 ≤ s by omega)
    simp only [Int.toNat_natCast]
    have hs3 : s < 3 := by omega
    have hh := h.holds s hs3
    rw [(hh.data h.arr.whole (h.few s hs3)).2]
    have := h.put hs3 hh.len hh.blocks hh.even
    rwa [show (fun t => if t = s then D s else D t) = D from by funext t; split; subst_vars; rfl; rfl] at this

/-- What stripes hold behind a step. -/
def stepD (D : Nat → List (List Int)) (x : StepP) : Nat → List (List Int) := if wrongE x.d = 0 ∧ (x.k = 1 ∨ (x.k = 2 ∧ 0 < x.n)) then doD D x.d else D

theorem doA_wrong {a : ArrP} {D : Nat → List (List Int)} (h : Inv a D) {x : DeedP} (hw : wrongE x ≠ 0) : doA a x = a := by
  rw [doA, h.planE x, if_neg hw]
theorem fallA_wrong {a : ArrP} {D : Nat → List (List Int)} (h : Inv a D) {x : DeedP} (hw : wrongE x ≠ 0) (n : Int) : fallA a x n = a := by
  rw [fallA, h.planE x, if_neg hw]

/-- A gentle step. -/
theorem Inv.step {a : ArrP} {D : Nat → List (List Int)} (h : Inv a D) {x : StepP} (hx : Octets x.d.d) (hg : gentleB a x = true) : Inv (stepA a x) (stepD D x) := by
  rw [gentleB, Bool.and_eq_true] at hg
  obtain ⟨hag, hw1⟩ := hg
  have hf : worstN (stepA a x) ≤ 1 := of_decide_eq_true hw1
  have hag' : againB a x = false := by simpa using hag
  clear hag hw1
  unfold stepA at hf ⊢
  by_cases k1 : x.k = 1
  · simp only [if_pos k1] at hf ⊢
    by_cases hw : wrongE x.d = 0
    · rw [stepD, if_pos ⟨hw, .inl k1⟩]; exact h.doA hw hx
    · rw [stepD, if_neg (fun hc => hw hc.1), doA_wrong h hw]; exact h
  by_cases k2 : x.k = 2
  · simp only [if_neg k1, if_pos k2] at hf ⊢
    by_cases hw : wrongE x.d = 0
    · rw [fallA_eq h.arr ((h.planE x.d).trans hw)]
      split
      · rename_i hn
        rw [stepD, if_neg (fun hc => by rcases hc.2 with hc | hc <;> omega)]; exact h
      · rename_i hn
        rw [stepD, if_pos ⟨hw, .inr ⟨k2, by omega⟩⟩]; exact h.doA hw hx
    · rw [stepD, if_neg (fun hc => hw hc.1), fallA_wrong h hw]; exact h
  have hD : stepD D x = D := if_neg (fun hc => by rcases hc.2 with hc | hc <;> omega)
  rw [hD]
  simp only [if_neg k1, if_neg k2] at hf ⊢
  by_cases k3 : x.k = 3
  · simp only [if_pos k3] at hf ⊢
    split at hf
    · rename_i hn; rw [if_pos hn]; exact h
    · rename_i hn
      rw [if_neg hn]
      refine h.rot (fun hk => ?_) hf
      have hcond := hk
      obtain ⟨g1, g2, g3, g4, -, -⟩ := hcond
      rw [againB, decide_eq_false_iff_not] at hag'
      exact Decidable.byContradiction fun hc => hag' ⟨k3, by omega, by omega, hc⟩
  simp only [if_neg k3] at hf ⊢
  by_cases k4 : x.k = 4
  · simp only [if_pos k4] at hf ⊢
    exact h.gone _ hf
  simp only [if_neg k4] at hf ⊢
  split
  · exact h.mend _
  · exact h

theorem Bk_stepD (D : Nat → List (List Int)) (x : StepP) : Bk (stepD D x) = if wrongE x.d = 0 ∧ (x.k = 1 ∨ (x.k = 2 ∧ 0 < x.n)) then doL (Bk D) x.d else Bk D := by
  unfold stepD
  split
  · rename_i h; exact Bk_doD D h.1
  · rfl

theorem Inv.gently : ∀ (n : Nat) (l : List StepP) {a : ArrP} {D : Nat → List (List Int)}, (∀ s ∈ l, Octets s.d.d) → Inv a D → ∃ D', Inv (gentlyFrom l a n) D'
  | 0, l, a, D, _, h => ⟨D, by rw [gentlyFrom]; exact h⟩
  | n + 1, [], a, D, _, h => ⟨D, by rw [gentlyFrom]; exact h⟩
  | n + 1, s :: r, a, D, ho, h => by
    rw [gentlyFrom]
    split
    · rename_i hg
      exact Inv.gently n r (fun t ht => ho t (by simp [ht])) (h.step (ho s (by simp)) hg)
    · exact ⟨D, h⟩

/-- Gentle play. -/
theorem gently_inv {l : List StepP} (ho : ∀ s ∈ l, Octets s.d.d) : ∃ D, Inv (gentlyL l) D := Inv.gently 100 l ho newP_inv

end Go.Proofs.Ytjggiameajndgac

/-
  Plain: mended, it is well; one harm is no loss; turned twice it is as it was; any one of four may be gone.
-/
namespace Go.Proofs.Ytjggiameajndgac

theorem mendE_inv {a : ArrP} {D : Nat → List (List Int)} (h : Inv a D) {s : Nat} (hs : s < 3) : mendE a (s : Int) = 0 := by
  rw [mendE, if_neg (by omega)]
  simp only [Int.toNat_natCast]
  exact ((h.holds s hs).data h.arr.whole (h.few s hs)).1

theorem mendN_nat {a : ArrP} {s : Nat} (hs : s < 3) : mendN a (s : Int) = badN a s := by
  rw [mendN, if_neg (by omega)]
  simp

theorem mend_eq {a : ArrP} {D : Nat → List (List Int)} (h : Inv a D) {s : Nat} (hs : s < 3) : mendL a (s : Int) = putTo a (makeL (D s) s) s 4 := by
  obtain ⟨e1, e2⟩ := (h.holds s hs).data h.arr.whole (h.few s hs)
  rw [mendL, if_neg]
  · simp only [Int.toNat_natCast, e2]
  · simp only [Int.toNat_natCast]
    rintro (hc | hc)
    · omega
    · exact hc e1

/-- Behind mending a stripe none of its cells is none; the others are as they were. -/
theorem mend_bad {a : ArrP} {D : Nat → List (List Int)} (h : Inv a D) {s : Nat} (hs : s < 3) : badN (mendL a (s : Int)) s = 0 ∧ ∀ t, t ≠ s → badN (mendL a (s : Int)) t = badN a t := by
  rw [mend_eq h hs]
  have hh := h.holds s hs
  refine ⟨(put_holds h.arr.whole hs hh.len hh.blocks hh.even).2.2, fun t ht => ?_⟩
  refine (badN_other h.arr.whole (putTo_whole h.arr.whole _ _ 4 (Nat.le_refl _)) fun d hd => ?_).symm
  rw [putTo_twice_at h.arr.whole _ hs d t 4 (Nat.le_refl _), if_neg (fun hc => ht hc.2)]

theorem bad_zero {a : ArrP} (ha : Whole a) {s : Nat} (h : badN a s = 0) {d : Nat} (hd : d < 4) : badB a d s = false := by
  rw [badN_eq ha] at h
  cases hb : badB a d s with
  | false => rfl
  | true =>
    exfalso
    have t : (badB a d s).toNat = 1 := by rw [hb]; rfl
    obtain rfl | rfl | rfl | rfl : d = 0 ∨ d = 1 ∨ d = 2 ∨ d = 3 := by omega
    all_goals omega

/-- A stripe that is well is as it was when it is mended. -/
theorem mend_well {a : ArrP} {D : Nat → List (List Int)} (h : Inv a D) {s : Nat} (hs : s < 3) (hb : badN a s = 0) : mendL a (s : Int) = a := by
  rw [mend_eq h hs]
  have hh := h.holds s hs
  refine arr_ext (putTo_whole h.arr.whole _ _ 4 (Nat.le_refl _)) h.arr.whole (putTo_is _ _ _ _) fun d t hd ht => ?_
  rw [putTo_twice_at h.arr.whole _ hs d t 4 (Nat.le_refl _)]
  split
  · rename_i hc
    obtain ⟨-, rfl⟩ := hc
    have hg := bad_zero h.arr.whole hb hd
    rw [(make_cell (fun b hb => (hh.blocks b hb).1) hh.len hd).1, ← hh.reads d hd hg]
    exact (read_is_cell (badB_false.1 hg)).1.symm
  · rfl

/-- All is mended. -/
def mendAll (a : ArrP) : ArrP := mendL (mendL (mendL a (0 : Nat)) (1 : Nat)) (2 : Nat)

theorem mendAll_inv {a : ArrP} {D : Nat → List (List Int)} (h : Inv a D) : Inv (mendAll a) D := ((h.mend _).mend _).mend _

theorem mendAll_bad {a : ArrP} {D : Nat → List (List Int)} (h : Inv a D) : ∀ s, s < 3 → badN (mendAll a) s = 0 := by
  have h1 := h.mend ((0 : Nat) : Int)
  have h2 := h1.mend ((1 : Nat) : Int)
  obtain ⟨b0, o0⟩ := mend_bad h (s := 0) (by omega)
  obtain ⟨b1, o1⟩ := mend_bad h1 (s := 1) (by omega)
  obtain ⟨b2, o2⟩ := mend_bad h2 (s := 2) (by omega)
  intro s hs
  obtain rfl | rfl | rfl : s = 0 ∨ s = 1 ∨ s = 2 := by omega
  · exact (o2 0 (by omega)).trans ((o1 0 (by omega)).trans b0)
  · exact (o2 1 (by omega)).trans b1
  · exact b2

theorem mendAll_worst {a : ArrP} {D : Nat → List (List Int)} (h : Inv a D) : worstN (mendAll a) = 0 := by
  have := worstN_le.2 (fun s hs => Nat.le_of_eq (mendAll_bad h s hs))
  omega

/-- Mended again nothing changes. -/
theorem mendAll_again {a : ArrP} {D : Nat → List (List Int)} (h : Inv a D) (hb : ∀ s, s < 3 → badN a s = 0) : mendAll a = a ∧ mendL a (0 : Nat) = a ∧ mendL a (1 : Nat) = a ∧ mendL a (2 : Nat) = a := by
  have e0 := mend_well h (s := 0) (by omega) (hb 0 (by omega))
  have e1 := mend_well h (s := 1) (by omega) (hb 1 (by omega))
  have e2 := mend_well h (s := 2) (by omega) (hb 2 (by omega))
  exact ⟨by rw [mendAll, e0, e1, e2], e0, e1, e2⟩

/-- Mending changes no cell of another stripe. -/
theorem mendL_other {a : ArrP} (ha : Whole a) (s : Int) {d t : Nat} (h : (t : Int) ≠ s) : cellAt (mendL a s) d t = cellAt a d t := by
  unfold mendL
  split
  · rfl
  · rename_i hn
    have hs : ¬ (s < 0 ∨ 2 < s) := fun hc => hn (.inl hc)
    rw [putTo_twice_at ha _ (by omega) d t 4 (Nat.le_refl _), if_neg (fun hc => h (by omega))]

/-- A byte that rots twice is what it was. -/
theorem rotB_back (l : List Int) (k : Nat) : rotB (rotB l k) k = l := by
  by_cases hk : k < l.length
  · refine List.ext_getElem (by simp [rotB]) fun i h1 h2 => ?_
    simp only [rotB]
    rw [List.getElem_set]
    split
    · rename_i e
      subst e
      rw [List.getD_eq_getElem?_getD, List.getElem?_set_self hk]
      simp only [Option.getD_some]
      rw [rotI_back, List.getD_eq_getElem?_getD, List.getElem?_eq_getElem hk]
      rfl
    · rename_i e
      rw [List.getElem_set, if_neg e]
  · rw [rotB, rotB, List.set_eq_of_length_le (by rw [List.length_set]; omega), List.set_eq_of_length_le (by omega)]

theorem rotB_ne {l : List Int} {k : Nat} (hk : k < l.length) : rotB l k ≠ l := fun h => by
  have := congrArg (fun x => List.getD x k 0) h
  simp only [rotB] at this
  rw [List.getD_eq_getElem?_getD, List.getElem?_set_self hk] at this
  exact rotI_ne _ this

theorem rot_twice {a : ArrP} (ha : Whole a) (d s k : Int) : rotE (rotL a d s k) d s k = rotE a d s k ∧ rotL (rotL a d s k) d s k = a ∧ (rotE a d s k = 0 → rotL a d s k ≠ a) := by
  by_cases hk : rotOk a d s k
  · have hk' := hk
    obtain ⟨h1, h2, h3, h4, h5, h6⟩ := hk'
    have hd : d.toNat < 4 := by omega
    have hs : s.toNat < 3 := by omega
    have e1 : rotL a d s k = withL a d.toNat s.toNat (rotB (cellAt a d.toNat s.toNat) k.toNat) := if_pos hk
    have hc : cellAt (rotL a d s k) d.toNat s.toNat = rotB (cellAt a d.toNat s.toNat) k.toNat := by rw [e1, ha.cellAt_with hd hs, if_pos ⟨rfl, rfl⟩]
    have hok : rotOk (rotL a d s k) d s k := ⟨h1, h2, h3, h4, h5, by rw [hc, rotB, List.length_set]; exact h6⟩
    refine ⟨by rw [rotE, rotE, if_pos hok, if_pos hk], ?_, fun _ he => ?_⟩
    · rw [rotL, if_pos hok, hc, rotB_back]
      have hw : Whole (rotL a d s k) := by rw [e1]; exact withL_whole ha hd _
      refine arr_ext (withL_whole hw hd _) ha (by rw [e1]; rfl) fun d' s' hd' hs' => ?_
      rw [hw.cellAt_with hd hs]
      split
      · rename_i hc'; rw [hc'.1, hc'.2]
      · rename_i hc'; rw [e1, ha.cellAt_with hd hs, if_neg hc']
    · rw [he] at hc
      exact rotB_ne (by omega) hc.symm
  · have e1 : rotL a d s k = a := if_neg hk
    refine ⟨by rw [e1], by rw [e1, e1], fun h => ?_⟩
    rw [rotE, if_neg hk] at h
    cases h

theorem gone_cell {a : ArrP} (ha : Arr a) {d : Nat} (hd : d < 4) (d' s' : Nat) : ∀ k, k ≤ 3 → cellAt (goneTo a d k) d' s' = if d' = d ∧ s' < k then [] else cellAt a d' s'
  | 0, _ => by simp [goneTo]
  | k + 1, hk => by
    rw [goneTo, (goneTo_arr ha hd k (by omega)).whole.cellAt_with hd (by omega), gone_cell ha hd d' s' k (by omega)]
    by_cases h1 : d' = d ∧ s' = k
    · rw [if_pos h1, if_pos ⟨h1.1, by omega⟩]
    · rw [if_neg h1]
      by_cases h2 : d' = d ∧ s' < k
      · rw [if_pos h2, if_pos ⟨h2.1, by omega⟩]
      · rw [if_neg h2, if_neg (fun h => by
          by_cases h3 : s' = k
          · exact h1 ⟨h.1, h3⟩
          · exact h2 ⟨h.1, by omega⟩)]

theorem goneTo_is (a : ArrP) (d : Nat) : ∀ k, (goneTo a d k).is = a.is
  | 0 => rfl
  | k + 1 => by rw [goneTo]; exact goneTo_is a d k

/-- A disk that is gone twice is gone. -/
theorem gone_twice {a : ArrP} (ha : Arr a) (d : Int) : goneL (goneL a d) d = goneL a d := by
  by_cases h : d < 0 ∨ 3 < d
  · rw [goneL, if_pos h]
  · have e : ∀ b, goneL b d = goneTo b d.toNat 3 := fun b => if_neg h
    rw [e a, e]
    have hd : d.toNat < 4 := by omega
    have h1 := goneTo_arr ha hd 3 (Nat.le_refl _)
    refine arr_ext (goneTo_arr h1 hd 3 (Nat.le_refl _)).whole h1.whole (goneTo_is _ _ _) fun d' s' hd' hs' => ?_
    rw [gone_cell h1 hd d' s' 3 (Nat.le_refl _), gone_cell ha hd d' s' 3 (Nat.le_refl _)]
    split <;> rfl

/-- How many are none where one is another one that is none. -/
theorem badN_spoil {a : ArrP} (ha : Whole a) {d s : Nat} (hd : d < 4) (h0 : badN a s = 0) {b : ArrP} (hb : Whole b) (hc : ∀ d', d' < 4 → d' ≠ d → cellAt b d' s = cellAt a d' s) (hr : readE (cellAt b d s) d s ≠ 0) : badN b s = 1 := by
  have g : ∀ d', d' < 4 → d' ≠ d → badB b d' s = false := fun d' h1 h2 => by rw [badB_false, hc d' h1 h2]; exact badB_false.1 (bad_zero ha h0 h1)
  have gd : badB b d s = true := by simpa [badB] using hr
  rw [badN_eq hb]
  obtain rfl | rfl | rfl | rfl : d = 0 ∨ d = 1 ∨ d = 2 ∨ d = 3 := by omega
  · rw [gd, g 1 (by omega) (by omega), g 2 (by omega) (by omega), g 3 (by omega) (by omega)]; rfl
  · rw [gd, g 0 (by omega) (by omega), g 2 (by omega) (by omega), g 3 (by omega) (by omega)]; rfl
  · rw [gd, g 0 (by omega) (by omega), g 1 (by omega) (by omega), g 3 (by omega) (by omega)]; rfl
  · rw [gd, g 0 (by omega) (by omega), g 1 (by omega) (by omega), g 2 (by omega) (by omega)]; rfl

theorem worst_one {a : ArrP} (h : ∀ s, s < 3 → badN a s ≤ 1) {s : Nat} (hs : s < 3) (h1 : badN a s = 1) : worstN a = 1 := by
  have := worstN_le.2 h
  have h2 : ¬ worstN a ≤ 0 := fun hc => by have := worstN_le.1 hc s hs; omega
  omega

theorem worst_zero {a : ArrP} : worstN a = 0 ↔ ∀ s, s < 3 → badN a s = 0 := by
  constructor
  · intro h s hs
    have := worstN_le.1 (Nat.le_of_eq h) s hs
    omega
  · intro h
    have := worstN_le.2 (fun s hs => Nat.le_of_eq (h s hs))
    omega

/-- Of an array that is well a disk may be gone. -/
theorem gone_one {a : ArrP} {D : Nat → List (List Int)} (h : Inv a D) (h0 : worstN a = 0) {d : Int} (hd : 0 ≤ d ∧ d ≤ 3) : worstN (goneL a d) = 1 ∧ Inv (goneL a d) D := by
  have hz := worst_zero.1 h0
  have e : goneL a d = goneTo a d.toNat 3 := if_neg (by omega)
  have hd4 : d.toNat < 4 := by omega
  have hA := goneTo_arr h.arr hd4 3 (Nat.le_refl _)
  have hb : ∀ s, s < 3 → badN (goneL a d) s = 1 := fun s hs => by
    rw [e]
    refine badN_spoil h.arr.whole hd4 (hz s hs) hA.whole (fun d' _ hne => ?_) ?_
    · rw [gone_cell h.arr hd4 d' s 3 (Nat.le_refl _), if_neg (fun hc => hne hc.1)]
    · rw [gone_cell h.arr hd4 _ s 3 (Nat.le_refl _), if_pos ⟨rfl, hs⟩, readE_nil]; decide
  have hw : worstN (goneL a d) = 1 := worst_one (fun s hs => Nat.le_of_eq (hb s hs)) (s := 0) (by omega) (hb 0 (by omega))
  exact ⟨hw, h.gone d (Nat.le_of_eq hw)⟩

/-- Of an array that is well a byte may rot. -/
theorem rot_one {a : ArrP} {D : Nat → List (List Int)} (h : Inv a D) (h0 : worstN a = 0) {d s k : Int} (hk : rotOk a d s k) : worstN (rotL a d s k) = 1 ∧ Inv (rotL a d s k) D := by
  have hz := worst_zero.1 h0
  have e : rotL a d s k = withL a d.toNat s.toNat (rotB (cellAt a d.toNat s.toNat) k.toNat) := if_pos hk
  have hk' := hk
  obtain ⟨h1, h2, h3, h4, h5, h6⟩ := hk'
  have hd4 : d.toNat < 4 := by omega
  have hs3 : s.toNat < 3 := by omega
  have hgood := bad_zero h.arr.whole (hz _ hs3) hd4
  have hr : readE (cellAt a d.toNat s.toNat) d s = 0 := by
    have := badB_false.1 hgood
    rwa [show ((d.toNat : Nat) : Int) = d from by omega, show ((s.toNat : Nat) : Int) = s from by omega] at this
  have hread := (h.holds _ hs3).reads _ hd4 hgood
  have hoct : Octets (readX (cellAt a d.toNat s.toNat) d.toNat s.toNat) := by rw [hread]; exact ((h.holds _ hs3).blocks _ (getD_mem (by rw [(h.holds _ hs3).len]; exact hd4))).2
  have hA := rotL_arr h.arr d s k
  have hc : ∀ d' s', cellAt (rotL a d s k) d' s' = if d' = d.toNat ∧ s' = s.toNat then rotB (cellAt a d.toNat s.toNat) k.toNat else cellAt a d' s' := fun d' s' => by rw [e, h.arr.whole.cellAt_with hd4 hs3]
  have hb1 : badN (rotL a d s k) s.toNat = 1 := by
    refine badN_spoil h.arr.whole hd4 (hz _ hs3) hA.whole (fun d' _ hne => ?_) ?_
    · rw [hc, if_neg (fun hc => hne hc.1)]
    · rw [hc, if_pos ⟨rfl, rfl⟩, rot_bad hd4 hs3 (badB_false.1 hgood) hoct (by omega)]; decide
  have hb : ∀ t, t < 3 → badN (rotL a d s k) t ≤ 1 := fun t ht => by
    by_cases hts : t = s.toNat
    · subst hts; omega
    · rw [badN_other hA.whole h.arr.whole (fun d' _ => by rw [hc, if_neg (fun hc => hts hc.2)]), hz t ht]; omega
  have hw := worst_one hb hs3 hb1
  exact ⟨hw, h.rot (fun _ => hr) (Nat.le_of_eq hw)⟩

/-- Four cells, as an array that has them in each stripe. -/
def wrap4 (ls : List (List Int)) : ArrP := ⟨ls.map fun c => [c, c, c], []⟩
theorem wrap4_whole {ls : List (List Int)} (h : ls.length = 4) : Whole (wrap4 ls) := ⟨by simp [wrap4, h], fun x hx => by
  simp only [wrap4, List.mem_map] at hx
  obtain ⟨c, -, rfl⟩ := hx
  rfl⟩
theorem wrap4_cells {ls : List (List Int)} {s : Nat} (hs : s < 3) : cellsL (wrap4 ls) s = ls := by
  obtain rfl | rfl | rfl : s = 0 ∨ s = 1 ∨ s = 2 := by omega
  all_goals
    simp only [cellsL, wrap4, List.map_map]
    exact List.map_id ls
theorem wrap4_at {ls : List (List Int)} {s : Nat} (hs : s < 3) (d : Nat) : cellAt (wrap4 ls) d s = ls.getD d [] := by rw [← cellsL_getD, wrap4_cells hs]

theorem badL_wrap {ls : List (List Int)} (h : ls.length = 4) {s : Nat} (hs : s < 3) : badL ls s = (List.range 4).filter (fun d => badB (wrap4 ls) d s) := by
  have := badL_eq (wrap4_whole h) s
  rwa [wrap4_cells hs] at this

end Go.Proofs.Ytjggiameajndgac

/-
  Plain: how far any steps are gentle; what may be behind one.
-/
namespace Go.Proofs.Ytjggiameajndgac

/-- How many steps are gentle, from an array on. -/
def gentleN (a : ArrP) : List StepP → Nat
  | [] => 0
  | s :: r => if gentleB a s then gentleN (stepA a s) r + 1 else 0

theorem gentleN_le : ∀ (l : List StepP) (a : ArrP), gentleN a l ≤ l.length
  | [], a => Nat.le_refl _
  | s :: r, a => by
    rw [gentleN]
    split
    · have := gentleN_le r (stepA a s)
      simp
      exact this
    · simp
theorem gentleN_no {a : ArrP} {s : StepP} {r : List StepP} (h : gentleB a s = false) : gentleN a (s :: r) = 0 := by rw [gentleN, h]; rfl
theorem gentleN_yes {a : ArrP} {s : StepP} {r : List StepP} (h : gentleB a s = true) : gentleN a (s :: r) = gentleN (stepA a s) r + 1 := by rw [gentleN, h]; rfl

end Go.Proofs.Ytjggiameajndgac

/-
  What the reference's Lists returns. Nothing old turns.
-/
namespace Go.Proofs.Ytjggiameajndgac
open Go.RowKit

/-- Lists that may be. -/
def listsL (ls : List (List Int)) (s : StepP) : List (List (List Int)) := if wrongE s.d = 0 then (if s.k = 1 then [doL ls s.d] else if s.k = 2 then [ls, doL ls s.d] else [ls]) else [ls]

theorem Sl.lit1 {α : Type} {R : World → Value → α → Prop} {w : World} {e : TypeId} {u : Value} {x : α} (h : R (w.alloc (.cells #[u] e)) u x) : Sl R (w.alloc (.cells #[u] e)) (.slice (some ⟨w.heap.size, 0, none⟩) 1 1) [x] := by
  refine ⟨some ⟨w.heap.size, 0, none⟩, 1, rfl, Nat.le_refl _, by unfold maxLen; omega, (fun h => nomatch h), fun _ => ⟨w.heap.size, 0, rfl, fun i y hy => ?_⟩⟩
  match i, hy with
  | 0, hy =>
    simp at hy
    subst hy
    exact ⟨u, row_at (heap_alloc_new w _) 0 rfl, h⟩

theorem Sl.lit2 {α : Type} {R : World → Value → α → Prop} {w : World} {e : TypeId} {u u' : Value} {x x' : α} (h : R (w.alloc (.cells #[u, u'] e)) u x) (h' : R (w.alloc (.cells #[u, u'] e)) u' x') : Sl R (w.alloc (.cells #[u, u'] e)) (.slice (some ⟨w.heap.size, 0, none⟩) 2 2) [x, x'] := by
  refine ⟨some ⟨w.heap.size, 0, none⟩, 2, rfl, Nat.le_refl _, by unfold maxLen; omega, (fun h => nomatch h), fun _ => ⟨w.heap.size, 0, rfl, fun i y hy => ?_⟩⟩
  match i, hy with
  | 0, hy =>
    simp at hy
    subst hy
    exact ⟨u, row_at (heap_alloc_new w _) 0 rfl, h⟩
  | 1, hy =>
    simp at hy
    subst hy
    exact ⟨u', row_at (heap_alloc_new w _) 1 rfl, h'⟩

set_option maxRecDepth 20000 in
set_option maxHeartbeats 3200000 in
theorem refLists_any (v sv : Value) (ls : List (List Int)) (x : StepP) (w : World) (h : Bss w v ls) (hl : ls.length = 9) (hs : StepV w sv x) :
    Calls Try.prog 42 #[v, sv] w fun e w' => ∃ r, e = .returned r ∧ Dks w' r (listsL ls x) ∧ Grow w w' := by
  obtain ⟨dv, rfl, hbd, -⟩ := hs
  obtain ⟨d1, d2, d3, rfl⟩ := hbd.form
  obtain ⟨av, cv, rfl⟩ := Sl.form h
  obtain ⟨W, hW⟩ : ∃ W, W = w.alloc (.cells #[.int .i64 x.k, .int .i64 x.n, .int .i64 x.m, .int .i64 x.d.k, .int .i64 x.d.n, .int .i64 x.d.m, .slice d1 d2 d3] 56) := ⟨_, rfl⟩
  have H := heap_alloc_new w (.cells #[.int .i64 x.k, .int .i64 x.n, .int .i64 x.m, .int .i64 x.d.k, .int .i64 x.d.n, .int .i64 x.d.m, .slice d1 d2 d3] 56)
  have hgW : Grow w W := by rw [hW]; exact Grow.alloc _ _
  rw [← hW] at H
  have s0 : W.cell? ⟨w.heap.size, 0, none⟩ = some (.int .i64 x.k) := row_at H 0 rfl
  have s3 : W.cell? ⟨w.heap.size, 3, none⟩ = some (.int .i64 x.d.k) := row_at H 3 rfl
  have s4 : W.cell? ⟨w.heap.size, 4, none⟩ = some (.int .i64 x.d.n) := row_at H 4 rfl
  have s5 : W.cell? ⟨w.heap.size, 5, none⟩ = some (.int .i64 x.d.m) := row_at H 5 rfl
  have s6 : W.cell? ⟨w.heap.size, 6, none⟩ = some (.slice d1 d2 d3) := row_at H 6 rfl
  have hdeed : DeedV W (.agg #[.int .i64 x.d.k, .int .i64 x.d.n, .int .i64 x.d.m, .slice d1 d2 d3]) x.d := ⟨_, rfl, hbd.grow hgW⟩
  have hwr := refWrong_any _ x.d W hdeed
  have Hl : Hid (ls.length = 9) := hl
  have hb := h
  rw [hl] at h ⊢
  by_cases hw0 : wrongE x.d = 0
  · have HW : Hid (wrongE x.d = 0) := hw0
    rw [hw0] at hwr
    by_cases x1 : x.k = 1
    · have HL : Hid (listsL ls x = [doL ls x.d]) := (if_pos hw0).trans (if_pos x1)
      rw [x1] at s0 hW ⊢
      clear x1 hw0 hl
      go_enter Try.func42, Try.ntmps42
      go_wp2_with fail
      rw [← hW]
      refine hwr.mono ?_
      rintro e w1 ⟨rfl, hg1⟩
      have t0 := hg1.at s0
      have t3 := hg1.at s3
      have t4 := hg1.at s4
      have t5 := hg1.at s5
      have t6 := hg1.at s6
      clear s0 s3 s4 s5 s6 hW hwr H
      go_wp2_with fail
      refine (refDo_any _ _ ls x.d _ (Sl.stays Bs.stays _ _ _ _ h (hgW.trans hg1)) (hdeed.grow hg1) Hl.out HW.out).mono ?_
      rintro e w2 ⟨r, rfl, hr, hg2⟩
      obtain ⟨ar, cr, rfl⟩ := Sl.form hr
      have hgL := Grow.alloc w2 (.cells #[.slice ar (doL ls x.d).length cr] 41)
      have HF : Hid (Dks _ _ [doL ls x.d] ∧ Grow w _) := ⟨Sl.lit1 (Sl.stays Bs.stays _ _ _ _ hr hgL), ((hgW.trans hg1).trans hg2).trans hgL⟩
      clear hgL hr
      generalize (doL ls x.d).length = nd at *
      go_wp2
      go_ret
      exact ⟨_, rfl, by rw [HL.out]; exact HF.out.1, HF.out.2⟩
    by_cases x2 : x.k = 2
    · have HL : Hid (listsL ls x = [ls, doL ls x.d]) := (if_pos hw0).trans ((if_neg x1).trans (if_pos x2))
      rw [x2] at s0 hW ⊢
      clear x1 x2 hw0 hl
      go_enter Try.func42, Try.ntmps42
      go_wp2_with fail
      rw [← hW]
      refine hwr.mono ?_
      rintro e w1 ⟨rfl, hg1⟩
      have t0 := hg1.at s0
      have t3 := hg1.at s3
      have t4 := hg1.at s4
      have t5 := hg1.at s5
      have t6 := hg1.at s6
      clear s0 s3 s4 s5 s6 hW hwr H
      go_wp2_with fail
      refine (refDo_any _ _ ls x.d _ (Sl.stays Bs.stays _ _ _ _ h (hgW.trans hg1)) (hdeed.grow hg1) Hl.out HW.out).mono ?_
      rintro e w2 ⟨r, rfl, hr, hg2⟩
      obtain ⟨ar, cr, rfl⟩ := Sl.form hr
      have hgL := Grow.alloc w2 (.cells #[.slice av 9 cv, .slice ar (doL ls x.d).length cr] 41)
      have hgT := ((hgW.trans hg1).trans hg2).trans hgL
      have HF : Hid (Dks _ _ [ls, doL ls x.d] ∧ Grow w _) := ⟨Sl.lit2 (Sl.stays Bs.stays _ _ _ _ h hgT) (Sl.stays Bs.stays _ _ _ _ hr hgL), hgT⟩
      clear hgL hr hgT
      generalize (doL ls x.d).length = nd at *
      go_wp2
      go_ret
      exact ⟨_, rfl, by rw [HL.out]; exact HF.out.1, HF.out.2⟩
    · have HL : Hid (listsL ls x = [ls]) := (if_pos hw0).trans ((if_neg x1).trans (if_neg x2))
      have y1 : (x.k == 1) = false := by simpa using x1
      have y2 : (x.k == 2) = false := by simpa using x2
      clear hw0 hl x1 x2
      go_enter Try.func42, Try.ntmps42
      go_wp2_with fail
      rw [← hW]
      refine hwr.mono ?_
      rintro e w1 ⟨rfl, hg1⟩
      have t0 := hg1.at s0
      have hgL := Grow.alloc w1 (.cells #[.slice av 9 cv] 41)
      have hgT := (hgW.trans hg1).trans hgL
      have HF : Hid (Dks _ _ [ls] ∧ Grow w _) := ⟨Sl.lit1 (Sl.stays Bs.stays _ _ _ _ h hgT), hgT⟩
      clear s0 s3 s4 s5 s6 hW hwr H hgL hgT
      go_wp2
      go_ret
      exact ⟨_, rfl, by rw [HL.out]; exact HF.out.1, HF.out.2⟩
  · have HL : Hid (listsL ls x = [ls]) := if_neg hw0
    clear hl
    generalize wrongE x.d = E at *
    have he' : (E == 0) = false := by simpa using hw0
    go_enter Try.func42, Try.ntmps42
    go_wp2_with fail
    rw [← hW]
    refine hwr.mono ?_
    rintro e w1 ⟨rfl, hg1⟩
    have hgL := Grow.alloc w1 (.cells #[.slice av 9 cv] 41)
    have hgT := (hgW.trans hg1).trans hgL
    have HF : Hid (Dks _ _ [ls] ∧ Grow w _) := ⟨Sl.lit1 (Sl.stays Bs.stays _ _ _ _ h hgT), hgT⟩
    clear s0 s3 s4 s5 s6 hW hwr H hgL hgT
    go_wp2
    go_ret
    exact ⟨_, rfl, by rw [HL.out]; exact HF.out.1, HF.out.2⟩

end Go.Proofs.Ytjggiameajndgac

/-
  Plain: behind a gentle step its blocks are one of what may be; arrays whose stripes hold what they should have right blocks.
-/
namespace Go.Proofs.Ytjggiameajndgac

theorem Inv.gentle {a : ArrP} {D : Nat → List (List Int)} (h : Inv a D) {s : StepP} (hx : Octets s.d.d) (hg : gentleB a s = true) :
    Inv (stepA a s) (stepD D s) ∧ blkE (stepA a s) = 0 ∧ blkL (stepA a s) ∈ listsL (blkL a) s := by
  have h2 := h.step hx hg
  refine ⟨h2, h2.blocks.1, ?_⟩
  rw [h2.blocks.2, h.blocks.2, Bk_stepD]
  unfold listsL
  by_cases hw : wrongE s.d = 0
  · rw [if_pos hw]
    by_cases k1 : s.k = 1
    · rw [if_pos k1, if_pos ⟨hw, .inl k1⟩]; simp
    · rw [if_neg k1]
      by_cases k2 : s.k = 2
      · rw [if_pos k2]
        split <;> simp
      · rw [if_neg k2, if_neg (fun hc => by rcases hc.2 with hc | hc; exact k1 hc; exact k2 hc.1)]; simp
  · rw [if_neg hw, if_neg (fun hc => hw hc.1)]; simp

theorem Inv.right {a : ArrP} {D : Nat → List (List Int)} (h : Inv a D) : rightBlocksB (blkL a) = true ∧ (blkL a).length = 9 := by
  rw [h.blocks.2]
  refine ⟨?_, Bk_length D⟩
  rw [rightBlocksB, Bool.and_eq_true, List.all_eq_true]
  refine ⟨fun b hb => ?_, by simp [Bk_length]⟩
  simp only [Bk, List.mem_map, List.mem_range] at hb
  obtain ⟨n, hn, rfl⟩ := hb
  obtain ⟨-, -, -, hd4, hs3⟩ := where_bd (n := (n : Int)) (by omega)
  have := ((h.holds _ hs3).blocks _ (getD_mem (by rw [(h.holds _ hs3).len]; exact hd4))).1
  simpa using this

/-- A step that can be handed in. -/
def StpOk (s : StepP) : Prop := Octets s.d.d ∧ -9223372036854775808 ≤ s.n

end Go.Proofs.Ytjggiameajndgac

/-
  What a walk keeps between its steps: the array in a box A, what does a step in a box D, the array's blocks in a box H.
-/
namespace Go.Proofs.Ytjggiameajndgac
open Go.RowKit

/-- One or two cells that are slices: nothing of an array lies there, and nothing of blocks. -/
def FewC (R : Nat) (w : World) : Prop := ∀ (off : Nat) (u : Value), w.cell? ⟨R, off, none⟩ = some u → off < 2 ∧ ∃ a b c, u = .slice a b c

theorem FewC.of_one {R : Nat} {w : World} {a : Option Addr} {b c : Nat} {t : TypeId} (h : w.heap[R]? = some (.cells #[.slice a b c] t (0, 0))) : FewC R w := fun off u hu => by
  rw [cell_of_row w R off _ _ _ h] at hu
  match off, hu with
  | 0, hu => simp at hu; exact ⟨by omega, _, _, _, hu.symm⟩
  | n + 1, hu => simp at hu

theorem FewC.of_two {R : Nat} {w : World} {a a' : Option Addr} {b c b' c' : Nat} {t : TypeId} (h : w.heap[R]? = some (.cells #[.slice a b c, .slice a' b' c'] t (0, 0))) : FewC R w := fun _ _ hu =>
  Two.cell ⟨_, _, _, _, _, _, _, h⟩ hu

theorem FewC.bytes {R : Nat} {w : World} (h : FewC R w) {u : Value} {l : List Int} (hb : Bs w u l) : Off Bs (some R) w u l := fun w' hg => by
  obtain ⟨ao, cap, hv, h1, h2, h3, h4, h5⟩ := hb
  refine ⟨ao, cap, hv, h1, h2, h3, h4, fun hp => ?_⟩
  obtain ⟨b, off, e, hc⟩ := h5 hp
  refine ⟨b, off, e, fun i hi => hg.cell (hc i hi) (fun e => ?_)⟩
  simp only [Option.some.injEq] at e
  subst e
  obtain ⟨_, _, _, this⟩ := (h _ _ (hc i hi)).2
  cases this

theorem FewC.row {α : Type} {R : Nat} {Q : World → Value → α → Prop} {w : World} (h : FewC R w) {v : Value} {xs : List α} (hs : Sl Q w v xs) (hl : 3 ≤ xs.length) : RowOff (some R) v xs.length := fun _ b hb e => by
  obtain ⟨ao, cap, rfl, h1, h2, h3, h4⟩ := hs
  obtain ⟨b', off, rfl, hc⟩ := h4 (by omega)
  simp only [Value.ownBlock, Option.some.injEq] at hb e
  subst hb e
  obtain ⟨u, hu, _⟩ := hc 2 (xs[2]) (by simp [show 2 < xs.length by omega])
  have := (h _ _ hu).1
  omega

theorem FewC.bss {R : Nat} {w : World} (h : FewC R w) {v : Value} {ls : List (List Int)} (hs : Bss w v ls) (hl : 3 ≤ ls.length) : BssX (some R) w v ls := ⟨Sl.lift (fun _ _ hb => h.bytes hb) hs (Grow.refl _), h.row hs hl⟩

theorem FewC.arr {R : Nat} {w : World} (h : FewC R w) {v : Value} {b : ArrP} (hv : ArrV w v b) (hw : Whole b) (hi : Fours b) : ArrX (some R) w v b := by
  obtain ⟨dv, iv, e, h1, h2⟩ := hv
  refine ⟨dv, iv, e, ⟨?_, h.row h1 (by have := hw.1; omega)⟩, ?_, ?_⟩
  · obtain ⟨ao, cap, hv, k1, k2, k3, k4⟩ := h1
    refine ⟨ao, cap, hv, k1, k2, k3, fun hp => ?_⟩
    obtain ⟨b', off, e, hc⟩ := k4 hp
    refine ⟨b', off, e, fun i x hx => ?_⟩
    obtain ⟨u, hu, hr⟩ := hc i x hx
    exact ⟨u, hu, h.bss hr (by rw [hw.2 x (List.mem_of_getElem? hx)]; omega)⟩
  · obtain ⟨ao, cap, hv, k1, k2, k3, k4⟩ := h2
    refine ⟨ao, cap, hv, k1, k2, k3, fun hp => ?_⟩
    obtain ⟨b', off, e, hc⟩ := k4 hp
    refine ⟨b', off, e, fun i p hx => ?_⟩
    obtain ⟨h6, cv, h7, h8⟩ := hc i p hx
    exact ⟨h6, cv, h7, h.bss h8 (by rw [hi p (List.mem_of_getElem? hx)]; omega)⟩
  · intro hp b' hb e9
    obtain ⟨ao, cap, rfl, k1, k2, k3, k4⟩ := h2
    obtain ⟨b'', off, rfl, hc⟩ := k4 hp
    simp only [Value.ownBlock, Option.some.injEq] at hb
    injection e9 with e9
    subst hb e9
    obtain ⟨_, _, _, this⟩ := (h _ _ (hc 0 (b.is[0]) (by simp [hp])).1).2
    cases this

/-- Blocks, as they lie; lists of them. -/
def BssP (ls : List (List Int)) (v : Value) (w : World) : Prop := Bss w v ls
theorem BssP.stable (ls : List (List Int)) : ∀ (v : Value) (x y : World), BssP ls v x → Grow x y → BssP ls v y := fun _ _ _ h hg => Bss.grow h hg
def DksP (ls : List (List (List Int))) (v : Value) (w : World) : Prop := Dks w v ls
theorem DksP.stable (ls : List (List (List Int))) : ∀ (v : Value) (x y : World), DksP ls v x → Grow x y → DksP ls v y := fun _ _ _ h hg => Dks.stays _ _ _ _ h hg

/-- What a walk of steps keeps. -/
def MInv (w : World) (A D H : Nat) (fv x y hv : Value) (a : ArrP) (wr : World) : Prop :=
  (wr.heap[A]? = some (.cells #[x, y] 26 (0, 0)) ∧ wr.heap[D]? = some (.cells #[fv] 107 (0, 0)) ∧ wr.heap[H]? = some (.cells #[hv] 41 (0, 0))) ∧
    (ArrV wr (.agg #[x, y]) a ∧ Bss wr hv (blkL a)) ∧ Grow w wr

theorem MInv.grow {w wr w5 : World} {A D H : Nat} {fv x y hv : Value} {a : ArrP} (h : MInv w A D H fv x y hv a wr) (hg : Grow wr w5) : MInv w A D H fv x y hv a w5 := by
  obtain ⟨⟨h1, h2, h3⟩, ⟨h4, h5⟩, h6⟩ := h
  exact ⟨⟨hg.block' h1, hg.block' h2, hg.block' h3⟩, ⟨h4.grow hg, Bss.grow h5 hg⟩, h6.trans hg⟩

/-- The boxes get what is behind a step. -/
theorem MInv.put {w wr w5 : World} {A D H : Nat} {fv x y hv x' y' hv' : Value} {a a' : ArrP} (h : MInv w A D H fv x y hv a wr) (hg : Grow wr w5) (hv5 : ArrV w5 (.agg #[x', y']) a') (hb5 : Bss w5 hv' (blkL a')) (hA' : Arr a') (hl : (blkL a').length = 9)
    (hA : w.heap.size ≤ A) (hH : w.heap.size ≤ H) (hAD : D ≠ A) (hAH : H ≠ A) (hDH : D ≠ H) :
    MInv w A D H fv x' y' hv' a' (((w5.setCell ⟨A, 0, none⟩ x').setCell ⟨A, 1, none⟩ y').setCell ⟨H, 0, none⟩ hv') := by
  obtain ⟨⟨h1, h2, h3⟩, ⟨h4, h5⟩, h6⟩ := h
  obtain ⟨⟨a1, n1, c1, rfl⟩, a2, n2, c2, rfl⟩ := h4.form2
  obtain ⟨u1, u2, rfl⟩ := h5.form
  have g1 := hg.block' h1
  have g2 := hg.block' h2
  have g3 := hg.block' h3
  have FA : FewC A w5 := FewC.of_two g1
  have k3 : ((w5.setCell ⟨A, 0, none⟩ x').setCell ⟨A, 1, none⟩ y').heap[H]? = _ := set_other (set_other g3 hAH) hAH
  have FH : FewC H ((w5.setCell ⟨A, 0, none⟩ x').setCell ⟨A, 1, none⟩ y') := FewC.of_one k3
  refine ⟨⟨set_other (two_set1 (two_set0 g1)) (Ne.symm hAH), set_other (set_other (set_other g2 hAD) hAD) hDH, one_setCell k3⟩, ⟨?_, ?_⟩, (((h6.trans hg).set hA _).set hA _).set hH _⟩
  · exact (ArrX.step (FH.arr (ArrX.plain (ArrX.step (ArrX.step (FA.arr hv5 hA'.whole hA'.fours) (by_set w5 A 0 x')) (by_set _ A 1 y'))) hA'.whole hA'.fours) (by_set _ H 0 hv')).plain
  · exact BssX.plain (BssX.step (FH.bss (BssX.plain (BssX.step (BssX.step (FA.bss hb5 (by omega)) (by_set w5 A 0 x')) (by_set _ A 1 y'))) (by omega)) (by_set _ H 0 hv'))

end Go.Proofs.Ytjggiameajndgac
