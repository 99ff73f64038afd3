import Derived.ProofKit
import Derived.OpenShut
import Derived.Deep.Slices
import Derived.Test.YtjggiameajndgacJoin21
/-
  Plain: what gentle steps make of what stripes hold, and of blocks.
-/
namespace Go.Proofs.Ytjggiameajndgac

theorem sOf_eq {n : Nat} (h : n < 9) : sOf (n : Nat) = n / 3 := by
  simp only [sOf, whereS]
  rw [if_pos (by omega)]
  omega

/-- Where the disks of what is planned are, blocks are what they were to be. -/
theorem planOut_at (bl : List (List Int)) {n : Nat} (hn : n < 9) : (planOut bl (sOf (n : Nat))).getD (dOf (n : Nat)) [] = bl.getD n [] := by
  obtain ⟨-, -, -, -, hs3⟩ := where_bd (n := (n : Int)) (by omega)
  rw [planOut_eq _ _ hs3]
  obtain rfl | rfl | rfl | rfl | rfl | rfl | rfl | rfl | rfl : n = 0 ∨ n = 1 ∨ n = 2 ∨ n = 3 ∨ n = 4 ∨ n = 5 ∨ n = 6 ∨ n = 7 ∨ n = 8 := by omega
  all_goals rfl

theorem xor_self3 (x y z : Nat) : x ^^^ (y ^^^ (z ^^^ (x ^^^ (y ^^^ z)))) = 0 := by
  rw [xor_left z x, xor_left y x, ← Nat.xor_assoc x x, Nat.xor_self, Nat.zero_xor, xor_left z y, ← Nat.xor_assoc y y, Nat.xor_self, Nat.zero_xor, Nat.xor_self]

theorem planOut_even (bl : List (List Int)) {s : Nat} (hs : s < 3) : EvenB (planOut bl s) := by
  intro i hi
  rw [planOut_eq _ _ hs]
  split
  · rw [xC_four, xorAll_toNat _ hi, xC_three, xor_self3]
  split
  · rw [xC_four, xorAll_toNat _ hi, xC_three]
    generalize ((bl.getD 3 []).getD i 0).toNat = x
    generalize ((bl.getD 4 []).getD i 0).toNat = y
    generalize ((bl.getD 5 []).getD i 0).toNat = z
    rw [Nat.xor_comm (x ^^^ (y ^^^ z)) z, xor_self3]
  · rw [xC_four, xorAll_toNat _ hi, xC_three]
    generalize ((bl.getD 6 []).getD i 0).toNat = x
    generalize ((bl.getD 7 []).getD i 0).toNat = y
    generalize ((bl.getD 8 []).getD i 0).toNat = z
    rw [xor_left (x ^^^ (y ^^^ z)) y z, Nat.xor_comm (x ^^^ (y ^^^ z)) z, xor_self3]

theorem planOut_octets {bl : List (List Int)} (h : ∀ b ∈ bl, Octets b) (hl : bl.length = 9) {s : Nat} (hs : s < 3) : ∀ b ∈ planOut bl s, Octets b := by
  have hg : ∀ k, k < 9 → Octets (bl.getD k []) := fun k hk => h _ (getD_mem (by omega))
  have hx : ∀ i j k, i < 9 → j < 9 → k < 9 → Octets (xorAll [bl.getD i [], bl.getD j [], bl.getD k []]) := fun i j k hi hj hk => xorAll_octets fun b hb => by
    simp only [List.mem_cons, List.not_mem_nil, or_false] at hb
    rcases hb with rfl | rfl | rfl
    · exact hg i hi
    · exact hg j hj
    · exact hg k hk
  rw [planOut_eq bl s hs]
  intro b hb
  split at hb
  · simp only [List.mem_cons, List.not_mem_nil, or_false] at hb
    rcases hb with rfl | rfl | rfl | rfl
    · exact hg 0 (by omega)
    · exact hg 1 (by omega)
    · exact hg 2 (by omega)
    · exact hx 0 1 2 (by omega) (by omega) (by omega)
  split at hb
  · simp only [List.mem_cons, List.not_mem_nil, or_false] at hb
    rcases hb with rfl | rfl | rfl | rfl
    · exact hg 3 (by omega)
    · exact hg 4 (by omega)
    · exact hx 3 4 5 (by omega) (by omega) (by omega)
    · exact hg 5 (by omega)
  · simp only [List.mem_cons, List.not_mem_nil, or_false] at hb
    rcases hb with rfl | rfl | rfl | rfl
    · exact hg 6 (by omega)
    · exact hx 6 7 8 (by omega) (by omega) (by omega)
    · exact hg 7 (by omega)
    · exact hg 8 (by omega)

theorem doAt_octets {ls : List (List Int)} {x : DeedP} (h : ∀ b ∈ ls, Octets b) (hx : Octets x.d) (i : Nat) : Octets (doAt ls x i) := by
  have hg : ∀ k, Octets (ls.getD k []) := fun k => by
    by_cases hk : k < ls.length
    · exact h _ (getD_mem hk)
    · rw [List.getD_eq_getElem?_getD, List.getElem?_eq_none (by omega)]; intro y hy; simp at hy
  unfold doAt
  split
  · exact hx
  split
  · exact hg _
  split
  · exact hg _
  · exact hg _

/-- What an intent's cells are: each reads as what is planned. -/
theorem make_cell {ds : List (List Int)} (h4 : ∀ b ∈ ds, b.length = 4) (hl : ds.length = 4) {d s : Nat} (hd : d < 4) : (makeL ds s).getD d [] = cellOf d s (ds.getD d []) ∧ readE ((makeL ds s).getD d []) d s = 0 ∧ readX ((makeL ds s).getD d []) d s = ds.getD d [] := by
  have e : (makeL ds s).getD d [] = cellOf d s (ds.getD d []) := by
    simp [makeL, List.getD_eq_getElem?_getD, hl, hd]
  have hlen : (ds.getD d []).length = 4 := h4 _ (getD_mem (by omega))
  have := read_cell (d := (d : Int)) (s := (s : Int)) hlen d s
  rw [e, this.1, this.2]
  simp

/-- All cells of a stripe are put. -/
theorem put_holds {a : ArrP} (ha : Whole a) {s : Nat} (hs : s < 3) {ds : List (List Int)} (hl : ds.length = 4) (hb : Blocks ds) (he : EvenB ds) :
    Holds (putTo a (makeL ds s) s 4) s ds ∧ (∀ d, d < 4 → badB (putTo a (makeL ds s) s 4) d s = false) ∧ badN (putTo a (makeL ds s) s 4) s = 0 := by
  have h4 : ∀ b ∈ ds, b.length = 4 := fun b hbm => (hb b hbm).1
  have hc : ∀ d, d < 4 → cellAt (putTo a (makeL ds s) s 4) d s = (makeL ds s).getD d [] := fun d hd => by rw [putTo_twice_at ha _ hs d s 4 (Nat.le_refl _), if_pos ⟨hd, rfl⟩]
  have hbad : ∀ d, d < 4 → badB (putTo a (makeL ds s) s 4) d s = false := fun d hd => by rw [badB_false, hc d hd, (make_cell h4 hl hd).2.1]
  refine ⟨⟨hl, hb, he, fun d hd _ => by rw [hc d hd, (make_cell h4 hl hd).2.2]⟩, hbad, ?_⟩
  rw [badN_eq (putTo_whole ha _ _ 4 (Nat.le_refl _)), hbad 0 (by omega), hbad 1 (by omega), hbad 2 (by omega), hbad 3 (by omega)]
  rfl

theorem cell_other {a b : ArrP} {s : Nat} (h : ∀ d, d < 4 → cellAt a d s = cellAt b d s) {ds : List (List Int)} (hh : Holds a s ds) : Holds b s ds := by
  refine ⟨hh.len, hh.blocks, hh.even, fun d hd hb => ?_⟩
  rw [badB_false, ← h d hd] at hb
  rw [← h d hd]
  exact hh.reads d hd (badB_false.2 hb)

theorem badN_other {a b : ArrP} (ha : Whole a) (hb : Whole b) {s : Nat} (h : ∀ d, d < 4 → cellAt a d s = cellAt b d s) : badN a s = badN b s := by
  rw [badN_eq ha, badN_eq hb]
  simp only [badB]
  rw [h 0 (by omega), h 1 (by omega), h 2 (by omega), h 3 (by omega)]

/-- A stripe's cells are put; the others are as they were. -/
theorem Inv.put {a : ArrP} {D : Nat → List (List Int)} (h : Inv a D) {s : Nat} (hs : s < 3) {ds : List (List Int)} (hl : ds.length = 4) (hb : Blocks ds) (he : EvenB ds) :
    Inv (putTo a (makeL ds s) s 4) (fun t => if t = s then ds else D t) := by
  have hA : Arr (putTo a (makeL ds s) s 4) := putTo_arr h.arr (fun b hb' => by rw [makeL_mem (fun b h => (hb b h).1) b hb']; omega) hs 4 (Nat.le_refl _)
  obtain ⟨h1, -, h3⟩ := put_holds h.arr.whole hs hl hb he
  have hc : ∀ t, t ≠ s → ∀ d, d < 4 → cellAt a d t = cellAt (putTo a (makeL ds s) s 4) d t := fun t ht d hd => by rw [putTo_twice_at h.arr.whole _ hs d t 4 (Nat.le_refl _), if_neg (fun hc => ht hc.2)]
  refine ⟨hA, fun t ht => ?_, fun t ht => ?_⟩
  · by_cases hts : t = s
    · subst hts; simp only [if_true]; exact h1
    · simp only [if_neg hts]; exact cell_other (hc t hts) (h.holds t ht)
  · by_cases hts : t = s
    · subst hts; omega
    · rw [← badN_other h.arr.whole hA.whole (hc t hts)]; exact h.few t ht

theorem Inv.planE {a : ArrP} {D : Nat → List (List Int)} (h : Inv a D) (x : DeedP) : planE a x = wrongE x := by
  unfold Go.Proofs.Ytjggiameajndgac.planE
  split
  · rfl
  · rename_i hw
    have hw0 : wrongE x = 0 := Decidable.not_not.1 hw
    obtain ⟨-, hn0, hn8, -, -⟩ := right_deed hw0
    obtain ⟨-, -, -, -, hs3⟩ := where_bd (n := x.n) (by omega)
    rw [((h.holds _ hs3).data h.arr.whole (h.few _ hs3)).1, hw0]

/-- What stripes hold behind a deed. -/
def doD (D : Nat → List (List Int)) (x : DeedP) : Nat → List (List Int) := fun t => if t = sOf x.n then planOut (doL (spreadTo (D (sOf x.n)) (sOf x.n) 9) x) (sOf x.n) else D t

theorem Inv.doA {a : ArrP} {D : Nat → List (List Int)} (h : Inv a D) {x : DeedP} (hw : wrongE x = 0) (hx : Octets x.d) : Inv (doA a x) (doD D x) := by
  have he : Go.Proofs.Ytjggiameajndgac.planE a x = 0 := (h.planE x).trans hw
  obtain ⟨s, hs3, hsx, -, -, hi⟩ := planI_ok he
  obtain ⟨e1, e2⟩ := (h.holds s hs3).data h.arr.whole (h.few s hs3)
  have hbl : planBl a x = doL (spreadTo (D s) s 9) x := by rw [planBl, ← hsx, e2]
  have hbs := planBl_blocks h.arr.whole he
  rw [doA_eq h.arr he, hi]
  simp only [Int.toNat_natCast]
  have hoct : ∀ b ∈ planBl a x, Octets b := fun b hb => by
    rw [hbl, doL] at hb
    obtain ⟨i, -, rfl⟩ := List.mem_map.1 hb
    refine doAt_octets (fun c hc => ?_) hx i
    simp only [spreadTo, List.mem_map, List.mem_range] at hc
    obtain ⟨n, hn, rfl⟩ := hc
    split
    · obtain ⟨-, -, -, hd4, -⟩ := where_bd (n := (n : Int)) (by omega)
      exact ((h.holds s hs3).blocks _ (getD_mem (by rw [(h.holds s hs3).len]; exact hd4))).2
    · exact nought_oct
  have hI := h.put hs3 (planOut_length (planBl a x) s) (fun b hb => ⟨planOut_blocks hbs.1 hbs.2 hs3 b hb, planOut_octets hoct hbs.2 hs3 b hb⟩) (planOut_even (planBl a x) hs3)
  rw [hbl] at hI ⊢
  rw [show doD D x = fun t => if t = s then planOut (doL (spreadTo (D s) s 9) x) s else D t from by funext t; rw [doD, ← hsx]]
  exact hI

theorem ext_getD {a b : List (List Int)} (hl : a.length = b.length) (h : ∀ i, i < a.length → a.getD i [] = b.getD i []) : a = b := by
  refine List.ext_getElem hl fun i g1 g2 => ?_
  have := h i g1
  rw [List.getD_eq_getElem?_getD, List.getD_eq_getElem?_getD, List.getElem?_eq_getElem g1, List.getElem?_eq_getElem g2] at this
  exact this

theorem doL_getD {ls : List (List Int)} {x : DeedP} {i : Nat} (h : i < ls.length) : (doL ls x).getD i [] = doAt ls x i := by
  simp [doL, List.getD_eq_getElem?_getD, h]

/-- Blocks behind a deed are what is meant. -/
theorem Bk_doD (D : Nat → List (List Int)) {x : DeedP} (hw : wrongE x = 0) : Bk (doD D x) = doL (Bk D) x := by
  obtain ⟨hk, hn0, hn8, h1, h2⟩ := right_deed hw
  obtain ⟨n, hn⟩ := Int.eq_ofNat_of_zero_le hn0
  have hn9 : n < 9 := by omega
  refine ext_getD (by rw [Bk_length, doL_length, Bk_length]) fun i g1 => ?_
  have hi9 : i < 9 := by rw [Bk_length] at g1; exact g1
  have hsp : ∀ k : Nat, k < 9 → sOf (k : Nat) = sOf x.n → (spreadTo (D (sOf x.n)) (sOf x.n) 9).getD k [] = (Bk D).getD k [] := fun k hk9 hks => by
    rw [Bk_getD D hk9, hks]
    simp [spreadTo, List.getD_eq_getElem?_getD, hk9, hks]
  have hm : x.k = 2 → ∃ m : Nat, x.m = (m : Int) ∧ m < 9 ∧ sOf (m : Nat) = sOf x.n := fun hk2 => by
    obtain ⟨e1, e2, -⟩ := h2 hk2
    have := whereE_zero e1
    obtain ⟨m, hm⟩ := Int.eq_ofNat_of_zero_le this.1
    exact ⟨m, hm, by omega, by rw [hm] at e2; simp only [sOf, e2]⟩
  rw [doL_getD (by rw [Bk_length]; exact hi9), Bk_getD _ hi9]
  by_cases hs : sOf (i : Nat) = sOf x.n
  · rw [doD, if_pos hs, ← hs, planOut_at _ hi9, hs]
    rw [doL_getD (by rw [spreadTo_length]; exact hi9)]
    unfold doAt
    split
    · rfl
    split
    · rename_i hc
      obtain ⟨m, e1, e2, e3⟩ := hm hc.1
      rw [e1, Int.toNat_natCast]
      exact hsp m e2 e3
    split
    · have e : x.n.toNat = n := by omega
      rw [e]
      exact hsp n hn9 (by rw [hn])
    · exact hsp i hi9 hs
  · rw [doD, if_neg hs, ← Bk_getD D hi9]
    unfold doAt
    rw [if_neg (fun hc => hs (by rw [hc.2])), if_neg (fun hc => hs (by rw [hc.2])), if_neg (fun hc => by
      obtain ⟨m, e1, e2, e3⟩ := hm hc.1
      exact hs (by rw [hc.2, e1, e3]))]

/-- One cell is another one, that is none. -/
theorem Inv.spoil {a : ArrP} {D : Nat → List (List Int)} (h : Inv a D) {d s : Nat} (hd : d < 4) (hs : s < 3) {l : List Int} (hl : l.length ≤ 8) (hr : readE l d s ≠ 0) (hf : ∀ t, t < 3 → badN (withL a d s l) t ≤ 1) : Inv (withL a d s l) D :=
  ⟨h.arr.with hd hs hl, fun t ht => (h.holds t ht).with h.arr.whole hd hs (fun _ he => absurd he hr), hf⟩

theorem holds_gone {a : ArrP} (ha : Arr a) {D : Nat → List (List Int)} (h : ∀ s, s < 3 → Holds a s (D s)) {d : Nat} (hd : d < 4) : ∀ k, k ≤ 3 → ∀ s, s < 3 → Holds (goneTo a d k) s (D s)
  | 0, _ => h
  | k + 1, hk => fun s hs => (holds_gone ha h hd k (by omega) s hs).with (goneTo_arr ha hd k (by omega)).whole hd (by omega) (fun _ he => by rw [readE_nil] at he; cases he)

/-- A disk that has nothing. -/
theorem Inv.gone {a : ArrP} {D : Nat → List (List Int)} (h : Inv a D) (d : Int) (hf : worstN (goneL a d) ≤ 1) : Inv (goneL a d) D := by
  refine ⟨goneL_arr h.arr d, fun s hs => ?_, worstN_le.1 hf⟩
  unfold goneL
  split
  · exact h.holds s hs
  · exact holds_gone h.arr h.holds (by omega) 3 (Nat.le_refl _) s hs

/-- A byte rots, of a cell that is not none. -/
theorem Inv.rot {a : ArrP} {D : Nat → List (List Int)} (h : Inv a D) {d s k : Int} (hr : rotOk a d s k → readE (cellAt a d.toNat s.toNat) d s = 0) (hf : worstN (rotL a d s k) ≤ 1) : Inv (rotL a d s k) D := by
  refine ⟨rotL_arr h.arr d s k, fun t ht => ?_, worstN_le.1 hf⟩
  unfold rotL
  split
  · rename_i hk
    have hr' := hr hk
    obtain ⟨h1, h2, h3, h4, h5, h6⟩ := hk
    obtain ⟨d, rfl⟩ := Int.eq_ofNat_of_zero_le h1
    obtain ⟨s, rfl⟩ := Int.eq_ofNat_of_zero_le h3
    simp only [Int.toNat_natCast] at *
    have hd4 : d < 4 := by omega
    have hs3 : s < 3 := by omega
    have hread := (h.holds s hs3).reads d hd4 (badB_false.2 hr')
    have hoct : Octets (readX (cellAt a d s) d s) := by rw [hread]; exact ((h.holds s hs3).blocks _ (getD_mem (by rw [(h.holds s hs3).len]; exact hd4))).2
    refine (h.holds t ht).with h.arr.whole hd4 hs3 (fun _ he => ?_)
    rw [rot_bad hd4 hs3 hr' hoct (by omega)] at he
    cases he
  · exact h.holds t ht

/-- A stripe is mended. -/
theorem Inv.mend {a : ArrP} {D : Nat → List (List Int)} (h : Inv a D) (s : Int) : Inv (mendL a s) D := by
  unfold mendL
  split
  · exact h
  · rename_i hn
    have hs : ¬ (s < 0 ∨ 2 < s) := fun hc => hn (.inl hc)
    obtain ⟨s, rfl⟩ := Int.eq_ofNat_of_zero_le (show 0 ≤ s by omega)
    simp only [Int.toNat_natCast]
    have hs3 : s < 3 := by omega
    have hh := h.holds s hs3
    rw [(hh.data h.arr.whole (h.few s hs3)).2]
    have := h.put hs3 hh.len hh.blocks hh.even
    rwa [show (fun t => if t = s then D s else D t) = D from by funext t; split; subst_vars; rfl; rfl] at this

/-- What stripes hold behind a step. -/
def stepD (D : Nat → List (List Int)) (x : StepP) : Nat → List (List Int) := if wrongE x.d = 0 ∧ (x.k = 1 ∨ (x.k = 2 ∧ 0 < x.n)) then doD D x.d else D

theorem doA_wrong {a : ArrP} {D : Nat → List (List Int)} (h : Inv a D) {x : DeedP} (hw : wrongE x ≠ 0) : doA a x = a := by
  rw [doA, h.planE x, if_neg hw]
theorem fallA_wrong {a : ArrP} {D : Nat → List (List Int)} (h : Inv a D) {x : DeedP} (hw : wrongE x ≠ 0) (n : Int) : fallA a x n = a := by
  rw [fallA, h.planE x, if_neg hw]

/-- A gentle step. -/
theorem Inv.step {a : ArrP} {D : Nat → List (List Int)} (h : Inv a D) {x : StepP} (hx : Octets x.d.d) (hg : gentleB a x = true) : Inv (stepA a x) (stepD D x) := by
  rw [gentleB, Bool.and_eq_true] at hg
  obtain ⟨hag, hw1⟩ := hg
  have hf : worstN (stepA a x) ≤ 1 := of_decide_eq_true hw1
  have hag' : againB a x = false := by simpa using hag
  clear hag hw1
  unfold stepA at hf ⊢
  by_cases k1 : x.k = 1
  · simp only [if_pos k1] at hf ⊢
    by_cases hw : wrongE x.d = 0
    · rw [stepD, if_pos ⟨hw, .inl k1⟩]; exact h.doA hw hx
    · rw [stepD, if_neg (fun hc => hw hc.1), doA_wrong h hw]; exact h
  by_cases k2 : x.k = 2
  · simp only [if_neg k1, if_pos k2] at hf ⊢
    by_cases hw : wrongE x.d = 0
    · rw [fallA_eq h.arr ((h.planE x.d).trans hw)]
      split
      · rename_i hn
        rw [stepD, if_neg (fun hc => by rcases hc.2 with hc | hc <;> omega)]; exact h
      · rename_i hn
        rw [stepD, if_pos ⟨hw, .inr ⟨k2, by omega⟩⟩]; exact h.doA hw hx
    · rw [stepD, if_neg (fun hc => hw hc.1), fallA_wrong h hw]; exact h
  have hD : stepD D x = D := if_neg (fun hc => by rcases hc.2 with hc | hc <;> omega)
  rw [hD]
  simp only [if_neg k1, if_neg k2] at hf ⊢
  by_cases k3 : x.k = 3
  · simp only [if_pos k3] at hf ⊢
    split at hf
    · rename_i hn; rw [if_pos hn]; exact h
    · rename_i hn
      rw [if_neg hn]
      refine h.rot (fun hk => ?_) hf
      have hcond := hk
      obtain ⟨g1, g2, g3, g4, -, -⟩ := hcond
      rw [againB, decide_eq_false_iff_not] at hag'
      exact Decidable.byContradiction fun hc => hag' ⟨k3, by omega, by omega, hc⟩
  simp only [if_neg k3] at hf ⊢
  by_cases k4 : x.k = 4
  · simp only [if_pos k4] at hf ⊢
    exact h.gone _ hf
  simp only [if_neg k4] at hf ⊢
  split
  · exact h.mend _
  · exact h

theorem Bk_stepD (D : Nat → List (List Int)) (x : StepP) : Bk (stepD D x) = if wrongE x.d = 0 ∧ (x.k = 1 ∨ (x.k = 2 ∧ 0 < x.n)) then doL (Bk D) x.d else Bk D := by
  unfold stepD
  split
  · rename_i h; exact Bk_doD D h.1
  · rfl

theorem Inv.gently : ∀ (n : Nat) (l : List StepP) {a : ArrP} {D : Nat → List (List Int)}, (∀ s ∈ l, Octets s.d.d) → Inv a D → ∃ D', Inv (gentlyFrom l a n) D'
  | 0, l, a, D, _, h => ⟨D, by rw [gentlyFrom]; exact h⟩
  | n + 1, [], a, D, _, h => ⟨D, by rw [gentlyFrom]; exact h⟩
  | n + 1, s :: r, a, D, ho, h => by
    rw [gentlyFrom]
    split
    · rename_i hg
      exact Inv.gently n r (fun t ht => ho t (by simp [ht])) (h.step (ho s (by simp)) hg)
    · exact ⟨D, h⟩

/-- Gentle play. -/
theorem gently_inv {l : List StepP} (ho : ∀ s ∈ l, Octets s.d.d) : ∃ D, Inv (gentlyL l) D := Inv.gently 100 l ho newP_inv

end Go.Proofs.Ytjggiameajndgac

/-
  Plain: mended, it is well; one harm is no loss; turned twice it is as it was; any one of four may be gone.
-/
namespace Go.Proofs.Ytjggiameajndgac

theorem mendE_inv {a : ArrP} {D : Nat → List (List Int)} (h : Inv a D) {s : Nat} (hs : s < 3) : mendE a (s : Int) = 0 := by
  rw [mendE, if_neg (by omega)]
  simp only [Int.toNat_natCast]
  exact ((h.holds s hs).data h.arr.whole (h.few s hs)).1

theorem mendN_nat {a : ArrP} {s : Nat} (hs : s < 3) : mendN a (s : Int) = badN a s := by
  rw [mendN, if_neg (by omega)]
  simp

theorem mend_eq {a : ArrP} {D : Nat → List (List Int)} (h : Inv a D) {s : Nat} (hs : s < 3) : mendL a (s : Int) = putTo a (makeL (D s) s) s 4 := by
  obtain ⟨e1, e2⟩ := (h.holds s hs).data h.arr.whole (h.few s hs)
  rw [mendL, if_neg]
  · simp only [Int.toNat_natCast, e2]
  · simp only [Int.toNat_natCast]
    rintro (hc | hc)
    · omega
    · exact hc e1

/-- Behind mending a stripe none of its cells is none; the others are as they were. -/
theorem mend_bad {a : ArrP} {D : Nat → List (List Int)} (h : Inv a D) {s : Nat} (hs : s < 3) : badN (mendL a (s : Int)) s = 0 ∧ ∀ t, t ≠ s → badN (mendL a (s : Int)) t = badN a t := by
  rw [mend_eq h hs]
  have hh := h.holds s hs
  refine ⟨(put_holds h.arr.whole hs hh.len hh.blocks hh.even).2.2, fun t ht => ?_⟩
  refine (badN_other h.arr.whole (putTo_whole h.arr.whole _ _ 4 (Nat.le_refl _)) fun d hd => ?_).symm
  rw [putTo_twice_at h.arr.whole _ hs d t 4 (Nat.le_refl _), if_neg (fun hc => ht hc.2)]

theorem bad_zero {a : ArrP} (ha : Whole a) {s : Nat} (h : badN a s = 0) {d : Nat} (hd : d < 4) : badB a d s = false := by
  rw [badN_eq ha] at h
  cases hb : badB a d s with
  | false => rfl
  | true =>
    exfalso
    have t : (badB a d s).toNat = 1 := by rw [hb]; rfl
    obtain rfl | rfl | rfl | rfl : d = 0 ∨ d = 1 ∨ d = 2 ∨ d = 3 := by omega
    all_goals omega

/-- A stripe that is well is as it was when it is mended. -/
theorem mend_well {a : ArrP} {D : Nat → List (List Int)} (h : Inv a D) {s : Nat} (hs : s < 3) (hb : badN a s = 0) : mendL a (s : Int) = a := by
  rw [mend_eq h hs]
  have hh := h.holds s hs
  refine arr_ext (putTo_whole h.arr.whole _ _ 4 (Nat.le_refl _)) h.arr.whole (putTo_is _ _ _ _) fun d t hd ht => ?_
  rw [putTo_twice_at h.arr.whole _ hs d t 4 (Nat.le_refl _)]
  split
  · rename_i hc
    obtain ⟨-, rfl⟩ := hc
    have hg := bad_zero h.arr.whole hb hd
    rw [(make_cell (fun b hb => (hh.blocks b hb).1) hh.len hd).1, ← hh.reads d hd hg]
    exact (read_is_cell (badB_false.1 hg)).1.symm
  · rfl

/-- All is mended. -/
def mendAll (a : ArrP) : ArrP := mendL (mendL (mendL a (0 : Nat)) (1 : Nat)) (2 : Nat)

theorem mendAll_inv {a : ArrP} {D : Nat → List (List Int)} (h : Inv a D) : Inv (mendAll a) D := ((h.mend _).mend _).mend _

theorem mendAll_bad {a : ArrP} {D : Nat → List (List Int)} (h : Inv a D) : ∀ s, s < 3 → badN (mendAll a) s = 0 := by
  have h1 := h.mend ((0 : Nat) : Int)
  have h2 := h1.mend ((1 : Nat) : Int)
  obtain ⟨b0, o0⟩ := mend_bad h (s := 0) (by omega)
  obtain ⟨b1, o1⟩ := mend_bad h1 (s := 1) (by omega)
  obtain ⟨b2, o2⟩ := mend_bad h2 (s := 2) (by omega)
  intro s hs
  obtain rfl | rfl | rfl : s = 0 ∨ s = 1 ∨ s = 2 := by omega
  · exact (o2 0 (by omega)).trans ((o1 0 (by omega)).trans b0)
  · exact (o2 1 (by omega)).trans b1
  · exact b2

theorem mendAll_worst {a : ArrP} {D : Nat → List (List Int)} (h : Inv a D) : worstN (mendAll a) = 0 := by
  have := worstN_le.2 (fun s hs => Nat.le_of_eq (mendAll_bad h s hs))
  omega

/-- Mended again nothing changes. -/
theorem mendAll_again {a : ArrP} {D : Nat → List (List Int)} (h : Inv a D) (hb : ∀ s, s < 3 → badN a s = 0) : mendAll a = a ∧ mendL a (0 : Nat) = a ∧ mendL a (1 : Nat) = a ∧ mendL a (2 : Nat) = a := by
  have e0 := mend_well h (s := 0) (by omega) (hb 0 (by omega))
  have e1 := mend_well h (s := 1) (by omega) (hb 1 (by omega))
  have e2 := mend_well h (s := 2) (by omega) (hb 2 (by omega))
  exact ⟨by rw [mendAll, e0, e1, e2], e0, e1, e2⟩

/-- Mending changes no cell of another stripe. -/
theorem mendL_other {a : ArrP} (ha : Whole a) (s : Int) {d t : Nat} (h : (t : Int) ≠ s) : cellAt (mendL a s) d t = cellAt a d t := by
  unfold mendL
  split
  · rfl
  · rename_i hn
    have hs : ¬ (s < 0 ∨ 2 < s) := fun hc => hn (.inl hc)
    rw [putTo_twice_at ha _ (by omega) d t 4 (Nat.le_refl _), if_neg (fun hc => h (by omega))]

/-- A byte that rots twice is what it was. -/
theorem rotB_back (l : List Int) (k : Nat) : rotB (rotB l k) k = l := by
  by_cases hk : k < l.length
  · refine List.ext_getElem (by simp [rotB]) fun i h1 h2 => ?_
    simp only [rotB]
    rw [List.getElem_set]
    split
    · rename_i e
      subst e
      rw [List.getD_eq_getElem?_getD, List.getElem?_set_self hk]
      simp only [Option.getD_some]
      rw [rotI_back, List.getD_eq_getElem?_getD, List.getElem?_eq_getElem hk]
      rfl
    · rename_i e
      rw [List.getElem_set, if_neg e]
  · rw [rotB, rotB, List.set_eq_of_length_le (by rw [List.length_set]; omega), List.set_eq_of_length_le (by omega)]

theorem rotB_ne {l : List Int} {k : Nat} (hk : k < l.length) : rotB l k ≠ l := fun h => by
  have := congrArg (fun x => List.getD x k 0) h
  simp only [rotB] at this
  rw [List.getD_eq_getElem?_getD, List.getElem?_set_self hk] at this
  exact rotI_ne _ this

theorem rot_twice {a : ArrP} (ha : Whole a) (d s k : Int) : rotE (rotL a d s k) d s k = rotE a d s k ∧ rotL (rotL a d s k) d s k = a ∧ (rotE a d s k = 0 → rotL a d s k ≠ a) := by
  by_cases hk : rotOk a d s k
  · have hk' := hk
    obtain ⟨h1, h2, h3, h4, h5, h6⟩ := hk'
    have hd : d.toNat < 4 := by omega
    have hs : s.toNat < 3 := by omega
    have e1 : rotL a d s k = withL a d.toNat s.toNat (rotB (cellAt a d.toNat s.toNat) k.toNat) := if_pos hk
    have hc : cellAt (rotL a d s k) d.toNat s.toNat = rotB (cellAt a d.toNat s.toNat) k.toNat := by rw [e1, ha.cellAt_with hd hs, if_pos ⟨rfl, rfl⟩]
    have hok : rotOk (rotL a d s k) d s k := ⟨h1, h2, h3, h4, h5, by rw [hc, rotB, List.length_set]; exact h6⟩
    refine ⟨by rw [rotE, rotE, if_pos hok, if_pos hk], ?_, fun _ he => ?_⟩
    · rw [rotL, if_pos hok, hc, rotB_back]
      have hw : Whole (rotL a d s k) := by rw [e1]; exact withL_whole ha hd _
      refine arr_ext (withL_whole hw hd _) ha (by rw [e1]; rfl) fun d' s' hd' hs' => ?_
      rw [hw.cellAt_with hd hs]
      split
      · rename_i hc'; rw [hc'.1, hc'.2]
      · rename_i hc'; rw [e1, ha.cellAt_with hd hs, if_neg hc']
    · rw [he] at hc
      exact rotB_ne (by omega) hc.symm
  · have e1 : rotL a d s k = a := if_neg hk
    refine ⟨by rw [e1], by rw [e1, e1], fun h => ?_⟩
    rw [rotE, if_neg hk] at h
    cases h

theorem gone_cell {a : ArrP} (ha : Arr a) {d : Nat} (hd : d < 4) (d' s' : Nat) : ∀ k, k ≤ 3 → cellAt (goneTo a d k) d' s' = if d' = d ∧ s' < k then [] else cellAt a d' s'
  | 0, _ => by simp [goneTo]
  | k + 1, hk => by
    rw [goneTo, (goneTo_arr ha hd k (by omega)).whole.cellAt_with hd (by omega), gone_cell ha hd d' s' k (by omega)]
    by_cases h1 : d' = d ∧ s' = k
    · rw [if_pos h1, if_pos ⟨h1.1, by omega⟩]
    · rw [if_neg h1]
      by_cases h2 : d' = d ∧ s' < k
      · rw [if_pos h2, if_pos ⟨h2.1, by omega⟩]
      · rw [if_neg h2, if_neg (fun h => by
          by_cases h3 : s' = k
          · exact h1 ⟨h.1, h3⟩
          · exact h2 ⟨h.1, by omega⟩)]

theorem goneTo_is (a : ArrP) (d : Nat) : ∀ k, (goneTo a d k).is = a.is
  | 0 => rfl
  | k + 1 => by rw [goneTo]; exact goneTo_is a d k

/-- A disk that is gone twice is gone. -/
theorem gone_twice {a : ArrP} (ha : Arr a) (d : Int) : goneL (goneL a d) d = goneL a d := by
  by_cases h : d < 0 ∨ 3 < d
  · rw [goneL, if_pos h]
  · have e : ∀ b, goneL b d = goneTo b d.toNat 3 := fun b => if_neg h
    rw [e a, e]
    have hd : d.toNat < 4 := by omega
    have h1 := goneTo_arr ha hd 3 (Nat.le_refl _)
    refine arr_ext (goneTo_arr h1 hd 3 (Nat.le_refl _)).whole h1.whole (goneTo_is _ _ _) fun d' s' hd' hs' => ?_
    rw [gone_cell h1 hd d' s' 3 (Nat.le_refl _), gone_cell ha hd d' s' 3 (Nat.le_refl _)]
    split <;> rfl

/-- How many are none where one is another one that is none. -/
theorem badN_spoil {a : ArrP} (ha : Whole a) {d s : Nat} (hd : d < 4) (h0 : badN a s = 0) {b : ArrP} (hb : Whole b) (hc : ∀ d', d' < 4 → d' ≠ d → cellAt b d' s = cellAt a d' s) (hr : readE (cellAt b d s) d s ≠ 0) : badN b s = 1 := by
  have g : ∀ d', d' < 4 → d' ≠ d → badB b d' s = false := fun d' h1 h2 => by rw [badB_false, hc d' h1 h2]; exact badB_false.1 (bad_zero ha h0 h1)
  have gd : badB b d s = true := by simpa [badB] using hr
  rw [badN_eq hb]
  obtain rfl | rfl | rfl | rfl : d = 0 ∨ d = 1 ∨ d = 2 ∨ d = 3 := by omega
  · rw [gd, g 1 (by omega) (by omega), g 2 (by omega) (by omega), g 3 (by omega) (by omega)]; rfl
  · rw [gd, g 0 (by omega) (by omega), g 2 (by omega) (by omega), g 3 (by omega) (by omega)]; rfl
  · rw [gd, g 0 (by omega) (by omega), g 1 (by omega) (by omega), g 3 (by omega) (by omega)]; rfl
  · rw [gd, g 0 (by omega) (by omega), g 1 (by omega) (by omega), g 2 (by omega) (by omega)]; rfl

theorem worst_one {a : ArrP} (h : ∀ s, s < 3 → badN a s ≤ 1) {s : Nat} (hs : s < 3) (h1 : badN a s = 1) : worstN a = 1 := by
  have := worstN_le.2 h
  have h2 : ¬ worstN a ≤ 0 := fun hc => by have := worstN_le.1 hc s hs; omega
  omega

theorem worst_zero {a : ArrP} : worstN a = 0 ↔ ∀ s, s < 3 → badN a s = 0 := by
  constructor
  · intro h s hs
    have := worstN_le.1 (Nat.le_of_eq h) s hs
    omega
  · intro h
    have := worstN_le.2 (fun s hs => Nat.le_of_eq (h s hs))
    omega

/-- Of an array that is well a disk may be gone. -/
theorem gone_one {a : ArrP} {D : Nat → List (List Int)} (h : Inv a D) (h0 : worstN a = 0) {d : Int} (hd : 0 ≤ d ∧ d ≤ 3) : worstN (goneL a d) = 1 ∧ Inv (goneL a d) D := by
  have hz := worst_zero.1 h0
  have e : goneL a d = goneTo a d.toNat 3 := if_neg (by omega)
  have hd4 : d.toNat < 4 := by omega
  have hA := goneTo_arr h.arr hd4 3 (Nat.le_refl _)
  have hb : ∀ s, s < 3 → badN (goneL a d) s = 1 := fun s hs => by
    rw [e]
    refine badN_spoil h.arr.whole hd4 (hz s hs) hA.whole (fun d' _ hne => ?_) ?_
    · rw [gone_cell h.arr hd4 d' s 3 (Nat.le_refl _), if_neg (fun hc => hne hc.1)]
    · rw [gone_cell h.arr hd4 _ s 3 (Nat.le_refl _), if_pos ⟨rfl, hs⟩, readE_nil]; decide
  have hw : worstN (goneL a d) = 1 := worst_one (fun s hs => Nat.le_of_eq (hb s hs)) (s := 0) (by omega) (hb 0 (by omega))
  exact ⟨hw, h.gone d (Nat.le_of_eq hw)⟩

/-- Of an array that is well a byte may rot. -/
theorem rot_one {a : ArrP} {D : Nat → List (List Int)} (h : Inv a D) (h0 : worstN a = 0) {d s k : Int} (hk : rotOk a d s k) : worstN (rotL a d s k) = 1 ∧ Inv (rotL a d s k) D := by
  have hz := worst_zero.1 h0
  have e : rotL a d s k = withL a d.toNat s.toNat (rotB (cellAt a d.toNat s.toNat) k.toNat) := if_pos hk
  have hk' := hk
  obtain ⟨h1, h2, h3, h4, h5, h6⟩ := hk'
  have hd4 : d.toNat < 4 := by omega
  have hs3 : s.toNat < 3 := by omega
  have hgood := bad_zero h.arr.whole (hz _ hs3) hd4
  have hr : readE (cellAt a d.toNat s.toNat) d s = 0 := by
    have := badB_false.1 hgood
    rwa [show ((d.toNat : Nat) : Int) = d from by omega, show ((s.toNat : Nat) : Int) = s from by omega] at this
  have hread := (h.holds _ hs3).reads _ hd4 hgood
  have hoct : Octets (readX (cellAt a d.toNat s.toNat) d.toNat s.toNat) := by rw [hread]; exact ((h.holds _ hs3).blocks _ (getD_mem (by rw [(h.holds _ hs3).len]; exact hd4))).2
  have hA := rotL_arr h.arr d s k
  have hc : ∀ d' s', cellAt (rotL a d s k) d' s' = if d' = d.toNat ∧ s' = s.toNat then rotB (cellAt a d.toNat s.toNat) k.toNat else cellAt a d' s' := fun d' s' => by rw [e, h.arr.whole.cellAt_with hd4 hs3]
  have hb1 : badN (rotL a d s k) s.toNat = 1 := by
    refine badN_spoil h.arr.whole hd4 (hz _ hs3) hA.whole (fun d' _ hne => ?_) ?_
    · rw [hc, if_neg (fun hc => hne hc.1)]
    · rw [hc, if_pos ⟨rfl, rfl⟩, rot_bad hd4 hs3 (badB_false.1 hgood) hoct (by omega)]; decide
  have hb : ∀ t, t < 3 → badN (rotL a d s k) t ≤ 1 := fun t ht => by
    by_cases hts : t = s.toNat
    · subst hts; omega
    · rw [badN_other hA.whole h.arr.whole (fun d' _ => by rw [hc, if_neg (fun hc => hts hc.2)]), hz t ht]; omega
  have hw := worst_one hb hs3 hb1
  exact ⟨hw, h.rot (fun _ => hr) (Nat.le_of_eq hw)⟩

/-- Four cells, as an array that has them in each stripe. -/
def wrap4 (ls : List (List Int)) : ArrP := ⟨ls.map fun c => [c, c, c], []⟩
theorem wrap4_whole {ls : List (List Int)} (h : ls.length = 4) : Whole (wrap4 ls) := ⟨by simp [wrap4, h], fun x hx => by
  simp only [wrap4, List.mem_map] at hx
  obtain ⟨c, -, rfl⟩ := hx
  rfl⟩
theorem wrap4_cells {ls : List (List Int)} {s : Nat} (hs : s < 3) : cellsL (wrap4 ls) s = ls := by
  obtain rfl | rfl | rfl : s = 0 ∨ s = 1 ∨ s = 2 := by omega
  all_goals
    simp only [cellsL, wrap4, List.map_map]
    exact List.map_id ls
theorem wrap4_at {ls : List (List Int)} {s : Nat} (hs : s < 3) (d : Nat) : cellAt (wrap4 ls) d s = ls.getD d [] := by rw [← cellsL_getD, wrap4_cells hs]

theorem badL_wrap {ls : List (List Int)} (h : ls.length = 4) {s : Nat} (hs : s < 3) : badL ls s = (List.range 4).filter (fun d => badB (wrap4 ls) d s) := by
  have := badL_eq (wrap4_whole h) s
  rwa [wrap4_cells hs] at this

end Go.Proofs.Ytjggiameajndgac

/-
  mhlaw11.PlaySafe returns true, whatever it is handed; nothing old turns.
-/
namespace Go.Proofs.Ytjggiameajndgac
open Go.RowKit

theorem wrong_write {n : Nat} (hn : n < 9) {d : List Int} (hd : d.length = 4) : wrongE ⟨1, (n : Int), 0, d⟩ = 0 := by
  unfold wrongE
  rw [if_neg (by simp), if_neg (by simp; omega), if_pos rfl, if_neg (by simp), if_neg (by simp [hd])]

/-- What is so as long as nothing but gentle steps comes, none of which names the block. -/
def SafeI (n : Nat) (d : List Int) (a : ArrP) : Prop := ∃ D, Inv a D ∧ (Bk D).getD n [] = d

theorem SafeI.arr {n : Nat} {d : List Int} {a : ArrP} (h : SafeI n d a) : Arr a := h.choose_spec.1.arr

theorem SafeI.write {n : Nat} (hn : n < 9) {d : List Int} (hd : d.length = 4) (ho : Octets d) {a : ArrP} {D : Nat → List (List Int)} (h : Inv a D) :
    stepE a ⟨1, 0, 0, ⟨1, (n : Int), 0, d⟩⟩ = 0 ∧ SafeI n d (stepA a ⟨1, 0, 0, ⟨1, (n : Int), 0, d⟩⟩) := by
  have hw := wrong_write hn hd
  refine ⟨(if_pos rfl).trans ((h.planE _).trans hw), doD D ⟨1, (n : Int), 0, d⟩, ?_, ?_⟩
  · rw [show stepA a ⟨1, 0, 0, ⟨1, (n : Int), 0, d⟩⟩ = doA a ⟨1, (n : Int), 0, d⟩ from if_pos rfl]
    exact h.doA hw ho
  · rw [Bk_doD D hw, doL_getD (by rw [Bk_length]; exact hn)]
    exact if_pos ⟨rfl, rfl⟩

theorem SafeI.step {n : Nat} (hn : n < 9) {d : List Int} {a : ArrP} (h : SafeI n d a) {x : StepP} (hx : Octets x.d.d) (hg : gentleB a x = true) (hno : ¬ ((x.k = 1 ∨ x.k = 2) ∧ (x.d.n = n ∨ x.d.m = n))) : SafeI n d (stepA a x) := by
  obtain ⟨D, hI, hB⟩ := h
  refine ⟨stepD D x, hI.step hx hg, ?_⟩
  rw [Bk_stepD]
  split
  · rename_i hc
    have h1 : ¬ (x.d.n = n ∨ x.d.m = n) := fun h => hno ⟨by rcases hc.2 with h' | h'; exact .inl h'; exact .inr h'.1, h⟩
    rw [doL_getD (by rw [Bk_length]; exact hn), ← hB]
    unfold doAt
    rw [if_neg (fun hc => h1 (.inl hc.2.symm)), if_neg (fun hc => h1 (.inl hc.2.symm)), if_neg (fun hc => h1 (.inr hc.2.symm))]
  · exact hB

theorem SafeI.read {n : Nat} (hn : n < 9) {d : List Int} {a : ArrP} (h : SafeI n d a) : rdE a (n : Nat) = 0 ∧ rdX a (n : Nat) = d := by
  obtain ⟨D, hI, hB⟩ := h
  obtain ⟨h1, h2⟩ := hI.read hn
  exact ⟨h1, by rw [h2, ← Bk_getD D hn]; exact hB⟩

set_option maxRecDepth 20000 in
set_option maxHeartbeats 12800000 in
theorem playSafe_walk (v dv mv : Value) (l more : List StepP) (n : Int) (d : List Int) (w : World) (h : Stps w v l) (ho : ∀ s ∈ l, Octets s.d.d) (hd : Bs w dv d) (hm : Stps w mv more) (hmo : ∀ s ∈ more, Octets s.d.d) :
    Calls Try.prog 10 #[v, .int .i64 n, dv, mv] w fun e w' => e = .returned (.bool true) ∧ Grow w w' := by
  obtain ⟨D, hI⟩ := gently_inv ho
  have hdoct := hd.octets
  have hdb := hd
  obtain ⟨d1, d3, rfl, -, -, -, -, -⟩ := hd
  obtain ⟨ao, cap, rfl, g1, g2, g3, g4⟩ := hm
  unfold maxLen at g2
  have hcase : n < 0 ∨ (0 ≤ n ∧ 9 ≤ n) ∨ (0 ≤ n ∧ n < 9 ∧ d.length ≠ 4) ∨ (0 ≤ n ∧ n < 9 ∧ d.length = 4 ∧ 60 < more.length) ∨ (0 ≤ n ∧ n < 9 ∧ d.length = 4 ∧ more.length ≤ 60) := by omega
  rcases hcase with c1 | ⟨c1, c2⟩ | ⟨c1, c2, c3⟩ | ⟨c1, c2, c3, c4⟩ | ⟨c1, c2, c3, c4⟩
  · clear hI h hdb g4 ho hmo hdoct
    go_enter Try.func10, Try.ntmps10
    go_wp2_with fail
    refine (alive11_any w).mono ?_
    rintro e w1 ⟨rfl, hg1⟩
    go_wp2
    go_ret
    exact ⟨rfl, hg1⟩
  · have c1' : ¬ n < 0 := by omega
    clear hI h hdb g4 ho hmo hdoct
    go_enter Try.func10, Try.ntmps10
    go_wp2_with fail
    refine (alive11_any w).mono ?_
    rintro e w1 ⟨rfl, hg1⟩
    go_wp2
    go_ret
    exact ⟨rfl, hg1⟩
  · have c1' : ¬ n < 0 := by omega
    have c2' : ¬ 9 ≤ n := by omega
    have c3' : ((d.length : Int) != 4) = true := by simp; omega
    clear hI h hdb g4 ho hmo hdoct
    go_enter Try.func10, Try.ntmps10
    go_wp2_with fail
    refine (alive11_any w).mono ?_
    rintro e w1 ⟨rfl, hg1⟩
    go_wp2
    go_ret
    exact ⟨rfl, hg1⟩
  · have c1' : ¬ n < 0 := by omega
    have c2' : ¬ 9 ≤ n := by omega
    have c4' : (60 : Int) < (more.length : Int) := by omega
    rw [c3]
    clear hI h hdb g4 ho hmo hdoct c3
    go_enter Try.func10, Try.ntmps10
    go_wp2_with fail
    refine (alive11_any w).mono ?_
    rintro e w1 ⟨rfl, hg1⟩
    go_wp2
    go_ret
    exact ⟨rfl, hg1⟩
  obtain ⟨n, rfl⟩ := Int.eq_ofNat_of_zero_le c1
  have hn9 : n < 9 := by omega
  have c1' : ¬ (n : Int) < 0 := by omega
  have c2' : ¬ 9 ≤ (n : Int) := by omega
  have c4' : ¬ (60 : Int) < (more.length : Int) := by omega
  rw [c3] at hdb ⊢
  have HDB : Hid (Bs w (.slice d1 4 d3) d) := hdb
  have HM : Hid (∀ s ∈ more, Octets s.d.d) := hmo
  have HSt : Hid (∀ a D, Inv a D → stepE a ⟨1, 0, 0, ⟨1, (n : Int), 0, d⟩⟩ = 0 ∧ SafeI n d (stepA a ⟨1, 0, 0, ⟨1, (n : Int), 0, d⟩⟩)) := fun a D hI => SafeI.write hn9 c3 hdoct hI
  clear hdb hmo hdoct c3 ho c1 c2
  go_enter Try.func10, Try.ntmps10
  go_wp2_with fail
  refine (alive11_any w).mono ?_
  rintro e w1 ⟨rfl, hg1⟩
  go_wp2_with fail
  refine (refGently_any v l w1 (h.grow hg1)).mono ?_
  rintro e w2 ⟨ra, rfl, hra, hg2⟩
  obtain ⟨a1, n1, c1, a2, n2, c2, rfl⟩ := hra.form
  generalize gentlyL l = a at *
  have hA := hI.arr
  obtain ⟨hE0, hS0⟩ := HSt.out a D hI
  obtain ⟨W2, b1, hW2, hb1, hgA, HB1, k0, k1, HV⟩ := boxed hra
  have hgw2 := (hg1.trans hg2).trans hgA
  have hDo := playDo_any _ (.agg #[.int .i64 1, .int .i64 0, .int .i64 0, .int .i64 1, .int .i64 n, .int .i64 0, .slice d1 4 d3]) a ⟨1, 0, 0, ⟨1, (n : Int), 0, d⟩⟩ W2 HV.out hA ⟨_, rfl, HDB.out.grow hgw2, by show (0 : Int) ≤ _; omega⟩
  rw [hE0] at hDo
  have HS0 : Hid (SafeI n d (stepA a ⟨1, 0, 0, ⟨1, (n : Int), 0, d⟩⟩)) := hS0
  have Hb1 : Hid (w.heap.size ≤ b1) := by rw [Hid, hb1]; exact (hg1.trans hg2).size
  clear hra hgA hg1 hg2 hI hA hE0 hS0 HSt h HV
  subst hW2
  go_wp2_with fail
  rw [← hb1]
  refine hDo.mono ?_
  rintro e w3 ⟨r3, rfl, hr3, hg3⟩
  clear hDo k0 k1 hb1
  generalize w2.alloc (.cells #[.slice a1 n1 c1, .slice a2 n2 c2] 26) = W2 at *
  generalize stepA a ⟨1, 0, 0, ⟨1, (n : Int), 0, d⟩⟩ = a0 at *
  obtain ⟨x1, x2, x3, y1, y2, y3, rfl⟩ := hr3.form
  obtain ⟨W3, hW3, HB3, i0, i1, HX, r0, r1, f0, f1, HK⟩ := reboxed (hg3.block' HB1.out) hr3 HS0.out.arr
  have hgw3 := HK.out.1 _ (hgw2.trans hg3) Hb1.out
  clear hr3 hg3 hgw2 HK HB1 i0 i1
  subst hW3
  go_wp2
  generalize (w3.setCell ⟨b1, 0, none⟩ (.slice x1 x2 x3)).setCell ⟨b1, 1, none⟩ (.slice y1 y2 y3) = W3 at *
  clear r0 r1 f0 f1
  go_loopw [50] (fun i wr => ∃ (k : Nat) (x y : Value) (a : ArrP), k ≤ more.length ∧ i = .int .i64 k ∧ (∃ x1 x2 x3, x = .slice x1 x2 x3) ∧ (∃ x1 x2 x3, y = .slice x1 x2 x3) ∧ Hid (wr.heap[b1]? = some (.cells #[x, y] 26 (0, 0))) ∧ Hid (ArrV wr (.agg #[x, y]) a) ∧ Hid (SafeI n d a) ∧ Grow w wr) (fun i _ => more.length - (intOf i).toNat)
  case atStart => exact ⟨0, _, _, a0, by omega, rfl, ⟨_, _, _, rfl⟩, ⟨_, _, _, rfl⟩, HB3, HX, HS0, hgw3⟩
  case round =>
    obtain ⟨k, x, y, a, hk, rfl, ⟨z1, z2, z3, rfl⟩, ⟨z4, z5, z6, rfl⟩, HB, HV, HI, hgr⟩ := hrel
    clear HB3 HX HS0 hgw3
    have hread := fun wf hg => refRead6_any (.agg #[.slice z1 z2 z3, .slice z4 z5 z6]) a (n : Nat) wf (HV.out.grow (hg : Grow wr wf)) HI.out.arr.whole
    rw [(HI.out.read hn9).1, (HI.out.read hn9).2] at hread
    have HRd : Hid (∀ wf, Grow wr wf → wf.cell? ⟨b1, 0, none⟩ = some (.slice z1 z2 z3) ∧ wf.cell? ⟨b1, 1, none⟩ = some (.slice z4 z5 z6) ∧ Calls Try.prog 37 #[.agg #[.slice z1 z2 z3, .slice z4 z5 z6], .int .i64 (n : Nat)] wf fun e w' => ∃ r, e = .returned (.tuple #[r, .int .i64 0]) ∧ Bs w' r d ∧ Grow wf w') := fun wf hg => ⟨two_at0 (hg.block' HB.out), two_at1 (hg.block' HB.out), hread wf hg⟩
    clear hread
    by_cases hlt : k < more.length
    · obtain ⟨b, off, rfl, hc⟩ := g4 (by omega)
      obtain ⟨sv, hst⟩ := hc k more[k] (by simp [hlt])
      have HO : Hid (Octets more[k].d.d) := HM.out _ (List.getElem_mem hlt)
      generalize more[k] = s at *
      have hst' := hst.grow hgr
      have hbS := hst'.2.2.2.2.2.2.2.1
      have hmS := hst'.2.2.2.2.2.2.2.2
      obtain ⟨s1', s2', s3', rfl⟩ := hbS.form
      obtain ⟨WS, bS, hWS, hbS', hgS, HS⟩ := stepBox hbS hmS
      obtain ⟨s0, s1, s2, s3, s4, s5, s6, -, -⟩ := hst'
      have hki : (k : Int) < (more.length : Int) := by omega
      have hklen : k < more.length := hlt
      clear hc g4 hst hbS hmS
      generalize more.length = M at *
      by_cases hbrk : (s.k = 1 ∨ s.k = 2) ∧ (s.d.n = n ∨ s.d.m = n)
      · have hrd := HRd.out WS hgS
        obtain ⟨k0, k1, hrd⟩ := hrd
        have hgf := hgr.trans hgS
        clear HRd HB HV HI
        obtain ⟨hk12, hnm⟩ := hbrk
        obtain ⟨q1, q2, hq1, hq2, hq⟩ : ∃ q1 q2 : Bool, (s.k == 1) = q1 ∧ (s.k == 2) = q2 ∧ (q1 = true ∨ (q1 = false ∧ q2 = true)) := ⟨_, _, rfl, rfl, by rcases hk12 with h | h <;> simp [h]⟩
        obtain ⟨q3, q4, hq3, hq4, hq'⟩ : ∃ q3 q4 : Bool, (s.d.n == (n : Int)) = q3 ∧ (s.d.m == (n : Int)) = q4 ∧ (q3 = true ∨ (q3 = false ∧ q4 = true)) := ⟨_, _, rfl, rfl, by
          by_cases h3 : s.d.n = (n : Int)
          · exact .inl (by simpa using h3)
          · exact .inr ⟨by simpa using h3, by rcases hnm with h | h; exact absurd h h3; simpa using h⟩⟩
        clear hk12 hnm
        rcases hq with rfl | ⟨rfl, rfl⟩ <;> rcases hq' with rfl | ⟨rfl, rfl⟩
        all_goals
          subst hWS
          go_wp2_with fail
          refine hrd.mono ?_
          rintro e w9 ⟨r9, rfl, hr9, hg9⟩
          clear hrd k0 k1
          have cv1 := run_convert_bs (P := Try.prog) 52 5 9 Try.underlying52 Try.underlying5 Try.underlying9 hr9
          have cv2 := run_convert_bs (P := Try.prog) 52 5 9 Try.underlying52 Try.underlying5 Try.underlying9 (HDB.out.grow (hgf.trans hg9))
          obtain ⟨o1, o2, o3, rfl⟩ := hr9.form
          clear hr9
          go_wp2
          go_ret
          exact ⟨rfl, hgf.trans hg9⟩
      · obtain ⟨t0, t1, t2, t3, t4, t5, t6, t7, t8⟩ := HS.out
        have hgrS := hgr.trans hgS
        have k0 := two_at0 (hgS.block' HB.out)
        have k1 := two_at1 (hgS.block' HB.out)
        have HSf : Hid (gentleB a s = true → SafeI n d (stepA a s)) := fun hg => HI.out.step hn9 HO.out hg hbrk
        have Hgb : Hid (gentleB a s = (!againB a s && decide (worstN (stepA a s) ≤ 1))) := rfl
        have hDo := playDo_any _ (.agg #[.int .i64 s.k, .int .i64 s.n, .int .i64 s.m, .int .i64 s.d.k, .int .i64 s.d.n, .int .i64 s.d.m, .slice s1' s2' s3']) a s WS (HV.out.grow hgS) HI.out.arr ⟨_, rfl, t7, t8⟩
        have HDo : Hid (Calls Try.prog 33 #[.agg #[.slice z1 z2 z3, .slice z4 z5 z6], .agg #[.int .i64 s.k, .int .i64 s.n, .int .i64 s.m, .int .i64 s.d.k, .int .i64 s.d.n, .int .i64 s.d.m, .slice s1' s2' s3']] WS fun e w' => ∃ r, e = .returned (.tuple #[r, .int .i64 (stepE a s)]) ∧ ArrV w' r (stepA a s) ∧ Grow WS w') := hDo
        clear hDo t7 t8
        obtain ⟨q1, q2, hq1, hq2⟩ : ∃ q1 q2 : Bool, (s.k == 1) = q1 ∧ (s.k == 2) = q2 := ⟨_, _, rfl, rfl⟩
        obtain ⟨q3, q4, hq3, hq4⟩ : ∃ q3 q4 : Bool, (s.d.n == (n : Int)) = q3 ∧ (s.d.m == (n : Int)) = q4 := ⟨_, _, rfl, rfl⟩
        have hq : (q1 = false ∧ q2 = false) ∨ (q1 = true ∧ q3 = false ∧ q4 = false) ∨ (q1 = false ∧ q2 = true ∧ q3 = false ∧ q4 = false) := by
          subst hq1 hq2 hq3 hq4
          simp only [beq_eq_false_iff_ne, beq_iff_eq]
          by_cases e1 : s.k = 1
          · exact .inr (.inl ⟨e1, fun h => hbrk ⟨.inl e1, .inl h⟩, fun h => hbrk ⟨.inl e1, .inr h⟩⟩)
          · by_cases e2 : s.k = 2
            · exact .inr (.inr ⟨e1, e2, fun h => hbrk ⟨.inr e2, .inl h⟩, fun h => hbrk ⟨.inr e2, .inr h⟩⟩)
            · exact .inl ⟨e1, e2⟩
        clear hbrk
        rcases hq with ⟨rfl, rfl⟩ | ⟨rfl, rfl, rfl⟩ | ⟨rfl, rfl, rfl, rfl⟩
        all_goals
          subst hWS
          go_wp2_with fail
          rw [← hbS']
          refine HDo.out.mono ?_
          rintro e w3 ⟨r3, rfl, hr3, hg3⟩
          clear HDo hbS' t0 t1 t2 t3 t4 t5 t6 k0 k1 s0 s1 s2 s3 s4 s5 s6 hq1 hq2 hq3 hq4
          generalize wr.alloc _ = WS at *
          obtain ⟨p1, p2, p3, p4, p5, p6, rfl⟩ := hr3.form
          obtain ⟨W3, b3, hW3, hb3, hgB, HB3, m0, m1, HX⟩ := boxed hr3
          have hgS3 := hg3.trans hgB
          have hgr3 := hgS.trans hgS3
          have k0 := two_at0 (hgr3.block' HB.out)
          have k1 := two_at1 (hgr3.block' HB.out)
          obtain ⟨t0, t1, t2, t3, t4, t5, t6, t7, t8⟩ := HS.out.grow hgS3
          have hag := refAgain_any _ (.agg #[.int .i64 s.k, .int .i64 s.n, .int .i64 s.m, .int .i64 s.d.k, .int .i64 s.d.n, .int .i64 s.d.m, .slice s1' s2' s3']) a s W3 (HV.out.grow hgr3) HI.out.arr ⟨_, rfl, t7, t8⟩
          have HXA : Hid (Arr (stepA a s)) := stepA_arr HI.out.arr s
          have hgr3' := hgr.trans hgr3
          generalize stepE a s = E at *
          clear t7 t8 hr3 hg3 hgB hgS3 hgS
          cases hab : againB a s with
          | true =>
            rw [hab] at hag
            clear hab HSf Hgb HX HXA m0 m1 HB3
            subst hW3
            go_wp2_with fail
            rw [← hb3]
            refine hag.mono ?_
            rintro e w4 ⟨rfl, hg4⟩
            clear hag hb3 k0 k1 t0 t1 t2 t3 t4 t5 t6
            obtain ⟨k0, k1, hrd⟩ := HRd.out w4 (hgr3.trans hg4)
            have hgf := hgr3'.trans hg4
            clear HRd HB HV HI HS
            go_wp2_with fail
            refine hrd.mono ?_
            rintro e w9 ⟨r9, rfl, hr9, hg9⟩
            clear hrd k0 k1
            have cv1 := run_convert_bs (P := Try.prog) 52 5 9 Try.underlying52 Try.underlying5 Try.underlying9 hr9
            have cv2 := run_convert_bs (P := Try.prog) 52 5 9 Try.underlying52 Try.underlying5 Try.underlying9 (HDB.out.grow (hgf.trans hg9))
            obtain ⟨o1, o2, o3, rfl⟩ := hr9.form
            clear hr9
            go_wp2
            go_ret
            exact ⟨rfl, hgf.trans hg9⟩
          | false =>
            rw [hab] at hag
            subst hW3
            go_wp2_with fail
            rw [← hb3]
            refine hag.mono ?_
            rintro e w4 ⟨rfl, hg4⟩
            clear hag hb3 k0 k1 t0 t1 t2 t3 t4 t5 t6
            generalize w3.alloc (.cells #[.slice p1 p2 p3, .slice p4 p5 p6] 26) = W3 at *
            have u0 := hg4.at m0
            have u1 := hg4.at m1
            have hWo := refWorst_any (.agg #[.slice p1 p2 p3, .slice p4 p5 p6]) (stepA a s) w4 (HX.out.grow hg4) HXA.out.whole
            go_wp2_with fail
            refine hWo.mono ?_
            rintro e w5 ⟨rfl, hg5⟩
            clear hWo u0 u1
            have hg35 := hg4.trans hg5
            have hgr5 := hgr3.trans hg35
            have hgf := hgr3'.trans hg35
            by_cases hw1 : worstN (stepA a s) ≤ 1
            · have hS := HSf.out (by rw [Hgb.out, hab]; simpa using hw1)
              have HS' : Hid (SafeI n d (stepA a s)) := hS
              have u0 := hg35.at m0
              have u1 := hg35.at m1
              obtain ⟨W5, hW5, HB5, j0, j1, HY, r0, r1, f0, f1, HK⟩ := reboxed (hgr5.block' HB.out) (HX.out.grow hg35) HXA.out
              have hgf5 := HK.out.1 _ hgf Hb1.out
              have nb : ¬ 1 < ((worstN (stepA a s) : Nat) : Int) := by omega
              clear hS hab HSf Hgb HX HXA m0 m1 HB3 HB HV HI HS HK HRd j0 j1
              generalize worstN (stepA a s) = N at *
              subst hW5
              go_wp2
              go_roundw
              case rel => first | exact ⟨k + 1, _, _, _, by omega, by go_num, ⟨_, _, _, rfl⟩, ⟨_, _, _, rfl⟩, HB5, HY, HS', hgf5⟩ | ((repeat apply Exists.intro); exact ⟨⟨k + 1, _, _, _, by omega, by go_num, ⟨_, _, _, rfl⟩, ⟨_, _, _, rfl⟩, HB5, HY, HS', hgf5⟩, rfl⟩)
              case measure => simp [intOf]; omega
            · have nb : 1 < ((worstN (stepA a s) : Nat) : Int) := by omega
              obtain ⟨k0, k1, hrd⟩ := HRd.out w5 hgr5
              clear hab HSf Hgb HX HXA m0 m1 HB3 HB HV HI HS HRd
              generalize worstN (stepA a s) = N at *
              go_wp2_with fail
              refine hrd.mono ?_
              rintro e w9 ⟨r9, rfl, hr9, hg9⟩
              clear hrd k0 k1
              have cv1 := run_convert_bs (P := Try.prog) 52 5 9 Try.underlying52 Try.underlying5 Try.underlying9 hr9
              have cv2 := run_convert_bs (P := Try.prog) 52 5 9 Try.underlying52 Try.underlying5 Try.underlying9 (HDB.out.grow (hgf.trans hg9))
              obtain ⟨o1, o2, o3, rfl⟩ := hr9.form
              clear hr9
              go_wp2
              go_ret
              exact ⟨rfl, hgf.trans hg9⟩
    · have hno : ¬ ((k : Int) < (more.length : Int)) := by omega
      obtain ⟨k0, k1, hrd⟩ := HRd.out wr (Grow.refl _)
      have hgf := hgr
      clear HRd HB HV HI
      go_wp2_with fail
      refine hrd.mono ?_
      rintro e w9 ⟨r9, rfl, hr9, hg9⟩
      clear hrd k0 k1
      have cv1 := run_convert_bs (P := Try.prog) 52 5 9 Try.underlying52 Try.underlying5 Try.underlying9 hr9
      have cv2 := run_convert_bs (P := Try.prog) 52 5 9 Try.underlying52 Try.underlying5 Try.underlying9 (HDB.out.grow (hgf.trans hg9))
      obtain ⟨o1, o2, o3, rfl⟩ := hr9.form
      clear hr9
      go_wp2
      go_ret
      exact ⟨rfl, hgf.trans hg9⟩

end Go.Proofs.Ytjggiameajndgac

/-
  How an argument that is a slice of bytes is read: by its cells, and within the reach of the row.
-/
namespace Go.Proofs.Ytjggiameajndgac
open Go.ChangeShapes Go.WideShapes Go.ChangeAt Go.RowKit

theorem wf_octet {n : Int} (h : (Lit.int .u8 n).wf = true) : 0 ≤ n ∧ n ≤ 255 := by
  have := bounds_u8 h
  omega

/-- A slice of bytes that came in: what it reads as. -/
theorem open_bs {P : Program} {H : Type} {enc : TypeId × Value → H} {W : World} {base : Nat} {sp : Nat → Bool} {held : Bool} {t e : TypeId} {v : Value} {d : DataW H} {p : List MemPlace}
    (ht : P.underlying t = some (.slice e)) (he : P.underlying e = some (.int .u8)) (hc : P.cellsOf e = 1) {b0 : Nat} (hv : Value.okWide P W .any b0 t v)
    (h : DataW.Trod enc P W base sp held t v d p) :
    ∃ l, Bs W v l ∧ (l = [] ∨ ∃ elems spare, d = .slice elems spare ∧ l.length ≤ elems.length + spare.length) := by
  obtain ⟨a0, len0, cap0, rfl⟩ := okWide_slice ht hv
  obtain ⟨fuel, hf⟩ := h
  rcases open_ints ht he hc hf with ⟨hcs, _⟩ | ⟨x, l, c, zs, hcs, _, hl, hm, hz, hx, hcell, hwz⟩
  · simp [Value.cells] at hcs
    obtain ⟨rfl, rfl, rfl⟩ := hcs
    exact ⟨[], Bs.nil W, .inl rfl⟩
  · simp [Value.cells] at hcs
    obtain ⟨rfl, rfl, rfl⟩ := hcs
    have hlz : len0 ≤ zs.length := by rw [hz]; split <;> omega
    have hlen : (zs.take len0).length = len0 := by simp; omega
    refine ⟨zs.take len0, ⟨some x, cap0, by rw [hlen], by omega, hm, (fun h => nomatch h), fun n hn => wf_octet (hwz n (List.mem_of_mem_take hn)), fun hp => ?_⟩, .inr ?_⟩
    · rw [hlen] at hp
      obtain ⟨b, off, spot⟩ := x
      have hspot : spot = none := by simpa [Addr.add] using World.cell?_spot (hcell 0 (by omega))
      subst hspot
      refine ⟨b, off, rfl, fun i hi => ?_⟩
      rw [hlen] at hi
      have hplain : (⟨b, off, none⟩ : Addr).add i = ⟨b, off + i, none⟩ := by unfold Addr.add; split <;> simp_all
      rw [← hplain, hcell i (by omega)]
      simp [List.getD_eq_getElem?_getD, hi]
    · simp only [Prod.mk.injEq] at hx
      exact ⟨_, _, hx.1, by simp [lits]⟩

end Go.Proofs.Ytjggiameajndgac

/-
  How arguments that are deeds, steps, and slices of steps are read.
-/
namespace Go.Proofs.Ytjggiameajndgac
open Go.ChangeShapes Go.WideShapes Go.ChangeAt Go.RowKit

theorem four_of {α : Type} {cs : List α} (h : cs.length = 4) : ∃ c0 c1 c2 c3, cs = [c0, c1, c2, c3] := by
  match cs, h with
  | [c0, c1, c2, c3], _ => exact ⟨_, _, _, _, rfl⟩
theorem seven_of {α : Type} {cs : List α} (h : cs.length = 7) : ∃ c0 c1 c2 c3 c4 c5 c6, cs = [c0, c1, c2, c3, c4, c5, c6] := by
  match cs, h with
  | [c0, c1, c2, c3, c4, c5, c6], _ => exact ⟨_, _, _, _, _, _, _, rfl⟩

section
variable {H : Type} {enc : TypeId × Value → H} {W : World} {base : Nat} {sp : Nat → Bool} {held : Bool}

/-- Fields of a struct, each with its own reading. -/
theorem field_at {P : Program} {fuel : Nat} {t : TypeId} {cs : List Value} {x : DataW H × List MemPlace} {fs : Array Field} (ht : P.underlying t = some (.struct fs)) (h : DataW.trod enc P W base sp held fuel t cs = some x) :
    cs.length = P.cellsOf t ∧ ∀ (i : Nat) (f : Field), fs[i]? = some f → ∃ n y, DataW.trod enc P W base sp held n f.type ((cs.drop f.offset).take (P.cellsOf f.type)) = some y := by
  obtain ⟨xs, n, -, -, hlen, hxl, hf⟩ := DataW.trod_struct ht h
  refine ⟨hlen, fun i f hi => ?_⟩
  have hlt : i < fs.size := (Array.getElem?_eq_some_iff.1 hi).1
  have := hf i f hi
  rw [List.getElem?_eq_getElem (by omega)] at this
  exact ⟨n, _, this⟩

theorem Try.cellsDeed : Try.prog.cellsOf 54 = 4 := by kernel_rfl
theorem Try.cellsInt : Try.prog.cellsOf 3 = 1 := by kernel_rfl
theorem Try.cellsBs : Try.prog.cellsOf 52 = 1 := by kernel_rfl
theorem Try.cellsB : Try.prog.cellsOf 5 = 1 := by kernel_rfl

theorem int_cell {n : Nat} {c : Value} {y : DataW H × List MemPlace} (h : DataW.trod enc Try.prog W base sp held n 3 [c] = some y) : ∃ k, c = .int .i64 k ∧ (Lit.int .i64 k).wf = true := by
  obtain ⟨k, e, -, hw⟩ := DataW.trod_int Try.underlying3 h
  exact ⟨k, by simpa using e, hw⟩

set_option maxRecDepth 20000 in
/-- Cells of a deed. -/
theorem deed_cells {fuel : Nat} {cs : List Value} {x : DataW H × List MemPlace} (h : DataW.trod enc Try.prog W base sp held fuel 54 cs = some x) :
    ∃ (y : DeedP) (dv : Value), cs = [.int .i64 y.k, .int .i64 y.n, .int .i64 y.m, dv] ∧ Bs W dv y.d ∧ (Lit.int .i64 y.k).wf = true ∧ (Lit.int .i64 y.n).wf = true ∧ (Lit.int .i64 y.m).wf = true := by
  obtain ⟨hlen, hf⟩ := field_at Try.underlying54 h
  rw [Try.cellsDeed] at hlen
  obtain ⟨c0, c1, c2, c3, rfl⟩ := four_of hlen
  have g0 := hf 0 _ rfl
  have h0 : ∃ n y, DataW.trod enc Try.prog W base sp held n 3 (([c0, c1, c2, c3].drop 0).take (Try.prog.cellsOf 3)) = some y := g0
  rw [Try.cellsInt] at h0
  obtain ⟨m0, y0, f0⟩ := h0
  have g1 := hf 1 _ rfl
  have h1 : ∃ n y, DataW.trod enc Try.prog W base sp held n 3 (([c0, c1, c2, c3].drop 1).take (Try.prog.cellsOf 3)) = some y := g1
  rw [Try.cellsInt] at h1
  obtain ⟨m1, y1, f1⟩ := h1
  have g2 := hf 2 _ rfl
  have h2 : ∃ n y, DataW.trod enc Try.prog W base sp held n 3 (([c0, c1, c2, c3].drop 2).take (Try.prog.cellsOf 3)) = some y := g2
  rw [Try.cellsInt] at h2
  obtain ⟨m2, y2, f2⟩ := h2
  have g3 := hf 3 _ rfl
  have h3 : ∃ n y, DataW.trod enc Try.prog W base sp held n 52 (([c0, c1, c2, c3].drop 3).take (Try.prog.cellsOf 52)) = some y := g3
  rw [Try.cellsBs] at h3
  obtain ⟨m3, y3, f3⟩ := h3
  obtain ⟨k, rfl, hk⟩ := int_cell f0
  obtain ⟨n, rfl, hn⟩ := int_cell f1
  obtain ⟨m, rfl, hm⟩ := int_cell f2
  obtain ⟨l, hl⟩ := bs_of_trod Try.underlying52 Try.underlying5 Try.cellsB f3
  exact ⟨⟨k, n, m, l⟩, _, rfl, hl, hk, hn, hm⟩

set_option maxRecDepth 20000 in
/-- A deed that is an argument. -/
theorem open_deed {v : Value} {d : DataW H} {p : List MemPlace} {b0 : Nat} (hv : Value.okWide Try.prog W .any b0 54 v) (h : DataW.Trod enc Try.prog W base sp held 54 v d p) :
    ∃ y : DeedP, DeedV W v y ∧ (-9223372036854775808 ≤ y.n ∧ y.n ≤ 9223372036854775807) ∧ (-9223372036854775808 ≤ y.m ∧ y.m ≤ 9223372036854775807) := by
  obtain ⟨fuel, hf⟩ := h
  unfold Value.okWide at hv
  rw [Try.underlying54] at hv
  obtain ⟨cs, rfl, -, -⟩ := hv
  obtain ⟨y, dv, e, hb, -, hn, hm⟩ := deed_cells hf
  have e' : cs = #[.int .i64 y.k, .int .i64 y.n, .int .i64 y.m, dv] := Array.toList_inj.1 e
  exact ⟨y, ⟨dv, by rw [e'], hb⟩, bounds_i64 hn, bounds_i64 hm⟩

end

end Go.Proofs.Ytjggiameajndgac
