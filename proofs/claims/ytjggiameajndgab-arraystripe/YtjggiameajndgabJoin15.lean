import Derived.Test.YtjggiameajndgabJoin14
/-
  What the reference's Rot returns: an array with a byte that has turned. Nothing old turns.
-/
namespace Go.Proofs.Ytjggiameajndgab
open Go.RowKit

/-- A byte, its lowest bit turned. -/
def rotI (x : Int) : Int := if x % 2 = 0 then x + 1 else x - 1
def rotB (l : List Int) (k : Nat) : List Int := l.set k (rotI (l.getD k 0))

def rotOk (a : ArrP) (d s k : Int) : Prop := 0 ≤ d ∧ d ≤ 3 ∧ 0 ≤ s ∧ s ≤ 2 ∧ 0 ≤ k ∧ k < (cellAt a d.toNat s.toNat).length
instance (a : ArrP) (d s k : Int) : Decidable (rotOk a d s k) := by unfold rotOk; infer_instance
def rotE (a : ArrP) (d s k : Int) : Int := if rotOk a d s k then 0 else 6
def rotL (a : ArrP) (d s k : Int) : ArrP := if rotOk a d s k then withL a d.toNat s.toNat (rotB (cellAt a d.toNat s.toNat) k.toNat) else a

theorem rotI_bd {x : Int} (h : 0 ≤ x ∧ x ≤ 255) : 0 ≤ rotI x ∧ rotI x ≤ 255 := by unfold rotI; split <;> omega
theorem rotB_octets {l : List Int} (h : Octets l) (k : Nat) : Octets (rotB l k) := fun x hx => by
  rcases List.mem_or_eq_of_mem_set hx with hx | rfl
  · exact h x hx
  · exact rotI_bd (getD_bd h k)

set_option maxRecDepth 20000 in
set_option maxHeartbeats 6400000 in
theorem refRot_no (v : Value) (a : ArrP) (d s k : Int) (w : World) (h : ArrV w v a) (ha : Whole a) (hk : ¬ rotOk a d s k) :
    Calls Try.prog 84 #[v, .int .i64 d, .int .i64 s, .int .i64 k] w fun e w' => ∃ r, e = .returned (.tuple #[r, .int .i64 (rotE a d s k)]) ∧ ArrV w' r (rotL a d s k) ∧ Grow w w' := by
  have HE : Hid (rotE a d s k = 6 ∧ rotL a d s k = a) := ⟨if_neg hk, if_neg hk⟩
  have hcase : d < 0 ∨ (0 ≤ d ∧ 3 < d) ∨ (0 ≤ d ∧ d ≤ 3 ∧ s < 0) ∨ (0 ≤ d ∧ d ≤ 3 ∧ 0 ≤ s ∧ 2 < s) ∨ (0 ≤ d ∧ d ≤ 3 ∧ 0 ≤ s ∧ s ≤ 2 ∧ k < 0) ∨ (0 ≤ d ∧ d ≤ 3 ∧ 0 ≤ s ∧ s ≤ 2 ∧ 0 ≤ k ∧ ((cellAt a d.toNat s.toNat).length : Int) ≤ k) := by
    unfold rotOk at hk
    omega
  clear hk
  obtain ⟨dv, iv, e, hd, hit⟩ := ArrX.old (g := none) h (Grow.refl w) (fun _ h => nomatch h) |>.toG
  obtain ⟨a1, n1, c1, a2, n2, c2, rfl⟩ := h.form
  have hgF : Grow w ((w.alloc (.cells #[.slice a1 n1 c1, .slice a2 n2 c2] 39)).alloc (.cells #[.slice a1 n1 c1, .slice a2 n2 c2] 39)) := (Grow.alloc _ _).trans (Grow.alloc _ _)
  have hfin : Hid (_ ∧ _) := ⟨h.grow hgF, hgF⟩
  rcases hcase with h1 | ⟨h1, h2⟩ | ⟨h1, h2, h3⟩ | ⟨h1, h2, h3, h4⟩ | ⟨h1, h2, h3, h4, h5⟩ | ⟨h1, h2, h3, h4, h5, h6⟩
  case inr.inr.inr.inr.inr =>
    simp only [Value.agg.injEq] at e
    have e := congrArg Array.toList e
    simp at e
    obtain ⟨rfl, rfl⟩ := e
    obtain ⟨d, rfl⟩ := Int.eq_ofNat_of_zero_le h1
    obtain ⟨s, rfl⟩ := Int.eq_ofNat_of_zero_le h3
    have hn : n1 = 4 := by
      obtain ⟨q1, q2, q3⟩ := hd.form
      injection q3 with _ q4 _
      rw [q4, ha.1]
    subst hn
    obtain ⟨b, off, c', b', off', u', n', cc', rfl, hc1, hc2, hb, h3c⟩ := ArrG.cell hd ha (k := d) (s := s) (by omega) (by omega)
    have hl := hb.here.len
    unfold maxLen at hl
    obtain ⟨_, _, e2, -⟩ := hb.here
    injection e2 with _ e3 _
    simp only [Int.toNat_natCast] at h6
    rw [← e3] at h6 hl
    have gA := Grow.alloc w (.cells #[.slice (some ⟨b, off, none⟩) 4 c1, .slice a2 n2 c2] 39)
    have gB := gA.trans (Grow.alloc _ (.cells #[.slice none 0 0, .slice none 0 0] 39))
    have hc1' := gB.at hc1
    have hc2' := gB.at hc2
    have hdi : (d : Int) < 4 := by omega
    have hsi : (s : Int) < 3 := by omega
    clear hc1 hc2 hd hit hb gA gB hgF h
    go_enter Try.func84, Try.ntmps84
    go_wp2
    refine bodyPost_ret (results_two1 Try.results84 _ _ (w.heap.size + 1) _ rfl Try.underlying39 rfl Try.sizeA (x := .slice (some ⟨b, off, none⟩) 4 c1) (y := .slice a2 n2 c2) (by simp) (by simp)) rfl ?_
    exact ⟨_, ret_bs2 HE.out.1.symm, by rw [HE.out.2]; exact hfin.out.1, hfin.out.2⟩
  all_goals
    clear hd hit e h hgF
    go_enter Try.func84, Try.ntmps84
    go_wp2
    refine bodyPost_ret (results_two1 Try.results84 _ _ (w.heap.size + 1) _ rfl Try.underlying39 rfl Try.sizeA (x := .slice a1 n1 c1) (y := .slice a2 n2 c2) (by simp) (by simp)) rfl ?_
    exact ⟨_, ret_bs2 HE.out.1.symm, by rw [HE.out.2]; exact hfin.out.1, hfin.out.2⟩

theorem rotB_map (l : List Int) (k : Nat) (z : Int) (h : z = rotI (l.getD k 0)) : (l.map (Value.int .u8)).set k (.int .u8 z) = (rotB l k).map (Value.int .u8) := by rw [rotB, List.map_set, h]

set_option maxRecDepth 20000 in
set_option maxHeartbeats 6400000 in
theorem refRot_yes (v : Value) (a : ArrP) (d s k : Nat) (w : World) (h : ArrV w v a) (ha : Whole a) (hi : Fours a) (hd4 : d < 4) (hs3 : s < 3) (hk : k < (cellAt a d s).length) (h1000 : (cellAt a d s).length ≤ 1000) :
    Calls Try.prog 84 #[v, .int .i64 d, .int .i64 s, .int .i64 k] w fun e w' => ∃ r, e = .returned (.tuple #[r, .int .i64 0]) ∧ ArrV w' r (withL a d s (rotB (cellAt a d s) k)) ∧ Grow w w' := by
  obtain ⟨i0, hj, hz0, hz1, hz2⟩ := info_parts Try.infoB
  obtain ⟨dv, iv, e, hd, hit⟩ := ArrX.old (g := none) h (Grow.refl w) (fun _ h => nomatch h) |>.toG
  obtain ⟨a1, n1, c1, a2, n2, c2, rfl⟩ := h.form
  simp only [Value.agg.injEq] at e
  have e := congrArg Array.toList e
  simp at e
  obtain ⟨rfl, rfl⟩ := e
  have hn : n1 = 4 := by
    obtain ⟨q1, q2, q3⟩ := hd.form
    injection q3 with _ q4 _
    rw [q4, ha.1]
  subst hn
  obtain ⟨b, off, c', b', off', u', n', cc', rfl, hc1, hc2, hbo, h3c⟩ := ArrG.cell hd ha hd4 hs3
  have hb := hbo.here
  have hoc := hb.octets
  have hll := hb.len
  unfold maxLen at hll
  obtain ⟨ao, cb, e2, hcl, -, -, -, hcs⟩ := hb
  injection e2 with e4 e3 e5
  subst e4 e5
  obtain ⟨bb, ob, rfl, -⟩ := hcs (by omega)
  have HS : Hid (∀ (j : Nat) u, ((cellAt a d s).map (Value.int .u8))[j]? = some u → w.cell? ((⟨bb, ob, none⟩ : Addr).add j) = some u) := fun j u hu => hcs.src _ rfl j u hu
  have HL : Hid ((cellAt a d s).length = n') := e3.symm
  have hkn : k < n' := by omega
  have hn1000 : n' ≤ 1000 := by omega
  have hwW := withL_whole (s := s) ha hd4 (rotB (cellAt a d s) k)
  have hwF : Fours (withL a d s (rotB (cellAt a d s) k)) := hi
  generalize cellAt a d s = l at *
  clear hk e3 hcs hbo h1000 hll
  obtain ⟨W, hW⟩ : ∃ W, W = (w.alloc (.cells #[.slice (some ⟨b, off, none⟩) 4 c1, .slice a2 n2 c2] 39)).alloc (.cells #[.slice none 0 0, .slice none 0 0] 39) := ⟨_, rfl⟩
  have hgW : Grow w W := by rw [hW]; exact (Grow.alloc _ _).trans (Grow.alloc _ _)
  have hI : BInv w w.heap.size (w.heap.size + 1) (.slice (some ⟨b, off, none⟩) 4 c1) (.slice a2 n2 c2) a W := ⟨by rw [hW]; exact ⟨(heap_alloc_old _ _ (by simp)).trans (heap_alloc_new w _), heap_alloc2_new w _ _⟩, h.grow hgW, hgW⟩
  have HW : Hid (W.heap.size = w.heap.size + 1 + 1) := by rw [Hid, hW]; simp
  have HE0 : Hid ((W.alloc (.cells #[] 5)).heap[w.heap.size + 1 + 1]? = some (.cells #[] 5 (0, 0))) := by
    have := heap_alloc_new W (.cells #[] 5)
    rw [HW.out] at this
    exact this
  have gE : Grow W (W.alloc (.cells #[] 5)) := Grow.alloc _ _
  have hc1' := (hgW.trans gE).at hc1
  have hc2' := (hgW.trans gE).at hc2
  have hc1'' := hgW.at hc1
  have hc2'' := hgW.at hc2
  have hdi : (d : Int) < 4 := by omega
  have hsi : (s : Int) < 3 := by omega
  have hki : (k : Int) < n' := by omega
  have HH : Hid (∀ (j : Nat) u, (l.map (Value.int .u8))[j]? = some u → W.cell? ((⟨bb, ob, none⟩ : Addr).add j) = some u) := fun j u hu => hgW.at (HS.out j u hu)
  have hx := getD_bd hoc k
  have Hl : Hid ((l.map (Value.int .u8)).length = n') := by rw [Hid, List.length_map]; exact HL.out
  have Hk : Hid ((l.map (Value.int .u8))[k]? = some (.int .u8 (l.getD k 0))) := by
    rw [Hid, List.getElem?_map]
    have := HL.out
    simp [List.getD_eq_getElem?_getD, show k < l.length by omega]
  have qa0 := two_at0 hI.1.out.1
  have qa1 := two_at1 hI.1.out.1
  have qa0' := gE.at qa0
  have qa1' := gE.at qa1
  have t1 : decide ((d : Int) < 0) = false := by simp
  have t2 : decide (3 < (d : Int)) = false := by simp; omega
  have t3 : decide ((s : Int) < 0) = false := by simp
  have t4 : decide (2 < (s : Int)) = false := by simp; omega
  have t5 : decide ((k : Int) < 0) = false := by simp
  have qr0 := two_at0 hI.1.out.2
  have qr1 := two_at1 hI.1.out.2
  have fr0 : W.frozen? ⟨w.heap.size + 1, 0, none⟩ = false := frozen_of_row W _ 0 _ _ hI.1.out.2
  have fr1 : W.frozen? ⟨w.heap.size + 1, 1, none⟩ = false := frozen_of_row W _ 1 _ _ hI.1.out.2
  have HM : Hid (∀ (z : Int) (w1 : World) (g1 cg : Nat), z = rotI (l.getD k 0) → w1.ownsRow W.heap.size 5 1 (.slice (some ⟨g1, 0, none⟩) n' cg) n' (l.map (Value.int .u8)) → Grow W w1 → W.heap.size ≤ g1 →
      Bs (w1.setCell ⟨g1, k, none⟩ (.int .u8 z)) (.slice (some ⟨g1, 0, none⟩) n' cg) (rotB l k) ∧ Grow W (w1.setCell ⟨g1, k, none⟩ (.int .u8 z))) := fun z w1 g1 cg hz ho hg hle =>
    ⟨Bs.of_own (by have := (ho.stored k (.int .u8 z)).1; rw [rotB_map l k z hz] at this; exact this) (rotB_octets hoc k), hg.set hle _⟩
  generalize l.getD k 0 = x at *
  by_cases hp : x % 2 = 0
  · have HR : Hid (rotI x = x + 1) := if_pos hp
    go_enter Try.func84, Try.ntmps84
    subst hW
    go_wp2_with (first
      | (at_builtin; refine wpList_append_copy rfl (.tmp 43) (.tmp 51) 23 rfl 5 i0 (.int .u8 0) 1 Try.underlying23 hj hz0 hz1 hz2 rfl (w.heap.size + 1 + 1) HE0.out _ gE (Nat.le_of_eq HW.out) rfl ⟨bb, ob, none⟩ n' cc' (l.map (Value.int .u8)) rfl Hl.out HH.out (u8_oneCell _) (by omega) (by omega) (by omega) ?_; rintro g1 cg w1 hown hg1 hle - - -; have kx : w1.cell? ⟨g1, k, none⟩ = some (.int .u8 x) := (hown.cellAt k (by omega)).trans (Hk.out); have fx : w1.frozen? ⟨g1, k, none⟩ = false := hown.frozenAt k; have hX := HM.out (x + 1) w1 g1 cg HR.out.symm hown hg1 hle; have HX : Hid (_ ∧ _) := hX; have b0 := hX.2.at qa0; have b1 := hX.2.at qa1; clear hown hle hX))
    refine (refWith_any _ _ a d s (rotB l k) _ (h.grow (hgW.trans HX.out.2)) ha hd4 hs3 HX.out.1).mono ?_
    rintro e w5 ⟨r, rfl, hr, hg5⟩
    obtain ⟨p1, p2, p3, o1, o2, o3, rfl⟩ := hr.form
    have hg15 := HX.out.2.trans hg5
    have b05 := hg15.at qr0
    have b15 := hg15.at qr1
    have f05 := (hg15.frozen (a := ⟨w.heap.size + 1, 0, none⟩) (cell_lt qr0)).trans fr0
    have f15 := (hg15.frozen (a := ⟨w.heap.size + 1, 1, none⟩) (cell_lt qr0)).trans fr1
    have hb5 := two_set1 (z := .slice o1 o2 o3) (two_set0 (z := .slice p1 p2 p3) (hg15.block' hI.1.out.2))
    have z0 := two_at0 hb5
    have z1 := two_at1 hb5
    have hfin : Hid (_ ∧ _) := ⟨Two.store (R := w.heap.size + 1) ⟨_, _, _, _, _, _, _, hg15.block' hI.1.out.2⟩ hr hwW hwF (.slice p1 p2 p3) (.slice o1 o2 o3), ((hgW.trans hg15).set (g := w.heap.size + 1) (k := 0) (by omega) (.slice p1 p2 p3)).set (g := w.heap.size + 1) (k := 1) (by omega) (.slice o1 o2 o3)⟩
    clear hb5 hr
    go_wp2
    refine bodyPost_ret (results_two1 Try.results84 _ _ (w.heap.size + 1) _ rfl Try.underlying39 rfl Try.sizeA z0 z1) rfl ?_
    exact ⟨_, rfl, hfin.out.1, hfin.out.2⟩
  · have HR : Hid (rotI x = x - 1) := if_neg hp
    go_enter Try.func84, Try.ntmps84
    subst hW
    go_wp2_with (first
      | (at_builtin; refine wpList_append_copy rfl (.tmp 43) (.tmp 51) 23 rfl 5 i0 (.int .u8 0) 1 Try.underlying23 hj hz0 hz1 hz2 rfl (w.heap.size + 1 + 1) HE0.out _ gE (Nat.le_of_eq HW.out) rfl ⟨bb, ob, none⟩ n' cc' (l.map (Value.int .u8)) rfl Hl.out HH.out (u8_oneCell _) (by omega) (by omega) (by omega) ?_; rintro g1 cg w1 hown hg1 hle - - -; have kx : w1.cell? ⟨g1, k, none⟩ = some (.int .u8 x) := (hown.cellAt k (by omega)).trans (Hk.out); have fx : w1.frozen? ⟨g1, k, none⟩ = false := hown.frozenAt k; have hX := HM.out (x - 1) w1 g1 cg HR.out.symm hown hg1 hle; have HX : Hid (_ ∧ _) := hX; have b0 := hX.2.at qa0; have b1 := hX.2.at qa1; clear hown hle hX))
    refine (refWith_any _ _ a d s (rotB l k) _ (h.grow (hgW.trans HX.out.2)) ha hd4 hs3 HX.out.1).mono ?_
    rintro e w5 ⟨r, rfl, hr, hg5⟩
    obtain ⟨p1, p2, p3, o1, o2, o3, rfl⟩ := hr.form
    have hg15 := HX.out.2.trans hg5
    have b05 := hg15.at qr0
    have b15 := hg15.at qr1
    have f05 := (hg15.frozen (a := ⟨w.heap.size + 1, 0, none⟩) (cell_lt qr0)).trans fr0
    have f15 := (hg15.frozen (a := ⟨w.heap.size + 1, 1, none⟩) (cell_lt qr0)).trans fr1
    have hb5 := two_set1 (z := .slice o1 o2 o3) (two_set0 (z := .slice p1 p2 p3) (hg15.block' hI.1.out.2))
    have z0 := two_at0 hb5
    have z1 := two_at1 hb5
    have hfin : Hid (_ ∧ _) := ⟨Two.store (R := w.heap.size + 1) ⟨_, _, _, _, _, _, _, hg15.block' hI.1.out.2⟩ hr hwW hwF (.slice p1 p2 p3) (.slice o1 o2 o3), ((hgW.trans hg15).set (g := w.heap.size + 1) (k := 0) (by omega) (.slice p1 p2 p3)).set (g := w.heap.size + 1) (k := 1) (by omega) (.slice o1 o2 o3)⟩
    clear hb5 hr
    go_wp2
    refine bodyPost_ret (results_two1 Try.results84 _ _ (w.heap.size + 1) _ rfl Try.underlying39 rfl Try.sizeA z0 z1) rfl ?_
    exact ⟨_, rfl, hfin.out.1, hfin.out.2⟩

theorem refRot_any (v : Value) (a : ArrP) (d s k : Int) (w : World) (h : ArrV w v a) (ha : Whole a) (hi : Fours a) (h1000 : ∀ d s, (cellAt a d s).length ≤ 1000) :
    Calls Try.prog 84 #[v, .int .i64 d, .int .i64 s, .int .i64 k] w fun e w' => ∃ r, e = .returned (.tuple #[r, .int .i64 (rotE a d s k)]) ∧ ArrV w' r (rotL a d s k) ∧ Grow w w' := by
  by_cases hk : rotOk a d s k
  · have hk' := hk
    obtain ⟨h1, h2, h3, h4, h5, h6⟩ := hk'
    obtain ⟨d, rfl⟩ := Int.eq_ofNat_of_zero_le h1
    obtain ⟨s, rfl⟩ := Int.eq_ofNat_of_zero_le h3
    obtain ⟨k, rfl⟩ := Int.eq_ofNat_of_zero_le h5
    simp only [Int.toNat_natCast] at h6
    rw [rotE, rotL, if_pos hk, if_pos hk]
    simp only [Int.toNat_natCast]
    exact refRot_yes v a d s k w h ha hi (by omega) (by omega) (by omega) (h1000 d s)
  · exact refRot_no v a d s k w h ha hk

end Go.Proofs.Ytjggiameajndgab

/-
  What the reference's New returns: an array of noughts. Nothing old turns.
-/
namespace Go.Proofs.Ytjggiameajndgab
open Go.RowKit

/-- The first m cells of disk d, of noughts. -/
def newRow (d m : Nat) : List (List Int) := (List.range m).map fun (s : Nat) => cellOf d s nought
/-- The first k disks. -/
def newDs (k : Nat) : List (List (List Int)) := (List.range k).map fun d => newRow d 3
def newP : ArrP := ⟨newDs 4, []⟩

theorem newRow_succ (d m : Nat) : newRow d m ++ [cellOf d m nought] = newRow d (m + 1) := by simp [newRow, List.range_succ]
theorem newDs_succ (k : Nat) : newDs k ++ [newRow k 3] = newDs (k + 1) := by simp [newDs, List.range_succ]
theorem newP_whole : Whole newP := by
  refine ⟨by simp [newP, newDs], fun x hx => ?_⟩
  simp only [newP, newDs, List.mem_map] at hx
  obtain ⟨d, _, rfl⟩ := hx
  simp [newRow]
theorem newP_fours : Fours newP := fun p hp => by simp [newP] at hp

set_option maxRecDepth 20000 in
set_option maxHeartbeats 6400000 in
theorem refNew6_any (w : World) :
    Calls Try.prog 33 #[] w fun e w' => ∃ r, e = .returned r ∧ ArrV w' r newP ∧ Grow w w' := by
  obtain ⟨i0, hi, hz0, hz1, hz2⟩ := info_parts Try.infoS
  obtain ⟨i1, hj, hy0, hy1, hy2⟩ := info_parts Try.infoD
  obtain ⟨W, hW⟩ : ∃ W, W = (w.alloc (.cells #[.slice none 0 0, .slice none 0 0] 39)).alloc (.cells #[.slice none 0 0, .slice none 0 0] 39) := ⟨_, rfl⟩
  have hgW : Grow w W := by rw [hW]; exact (Grow.alloc _ _).trans (Grow.alloc _ _)
  have hbR : W.heap[w.heap.size]? = some (.cells #[.slice none 0 0, .slice none 0 0] 39 (0, 0)) := by rw [hW]; exact (heap_alloc_old _ _ (by simp)).trans (heap_alloc_new w _)
  have hbA : W.heap[w.heap.size + 1]? = some (.cells #[.slice none 0 0, .slice none 0 0] 39 (0, 0)) := by rw [hW]; exact heap_alloc2_new w _ _
  have HW : Hid (W.heap.size = w.heap.size + 2) := by rw [Hid, hW]; simp
  have HI : Hid (W.heap[w.heap.size]? = some (.cells #[.slice none 0 0, .slice none 0 0] 39 (0, 0)) ∧ W.heap[w.heap.size + 1]? = some (.cells #[.slice none 0 0, .slice none 0 0] 39 (0, 0))) := ⟨hbR, hbA⟩
  clear hbR hbA
  obtain ⟨F, hF⟩ : ∃ F : Nat → Prop, F = fun k => k = w.heap.size ∨ k = w.heap.size + 1 := ⟨_, rfl⟩
  have HF : Hid (F w.heap.size ∧ F (w.heap.size + 1) ∧ ∀ k, F k → k < w.heap.size + 2) := by rw [Hid, hF]; exact ⟨.inl rfl, .inr rfl, fun k hk => by omega⟩
  clear hF
  go_enter Try.func33, Try.ntmps33
  go_wp2
  rw [← hW]
  clear hW
  go_loopw [6] (fun q wr => ∃ (k : Nat) (dv : Value), k ≤ 4 ∧ q = .int .i64 k ∧ (∃ x1 x2 x3, dv = .slice x1 x2 x3) ∧ Hid (wr.heap[w.heap.size]? = some (.cells #[.slice none 0 0, .slice none 0 0] 39 (0, 0)) ∧ wr.heap[w.heap.size + 1]? = some (.cells #[dv, .slice none 0 0] 39 (0, 0))) ∧ Hid (RowingF F Bss (w.heap.size + 2) 22 wr dv (newDs k)) ∧ Grow w wr) (fun q _ => 4 - (intOf q).toNat)
  case atStart => exact ⟨0, _, by omega, rfl, ⟨_, _, _, rfl⟩, HI, RowingF.nil _ _ _ _ _, hgW⟩
  case round =>
    obtain ⟨k, dv, hk, rfl, ⟨x1, x2, x3, rfl⟩, HB, HR, hgr⟩ := hrel
    have hsz : w.heap.size + 2 ≤ wr.heap.size := by
      have := cell_lt (two_at0 HB.out.2)
      omega
    by_cases hlt : k < 4
    · obtain ⟨wo, hwo⟩ : ∃ wo : World, wo = wr := ⟨_, rfl⟩
      subst hwo
      have hd : decide ((k : Int) < 4) = true := by simp; omega
      go_wp2
      go_loopw [3, 9] (fun lv i wr => ∃ (m : Nat), m ≤ 3 ∧ i = .int .i64 m ∧ Hid (RowingF (fun j => F j ∨ (Value.slice x1 x2 x3).ownBlock = some j) Bs wo.heap.size 23 wr lv (newRow k m)) ∧ Grow wo wr) (fun _ i _ => 3 - (intOf i).toNat)
      case atStart => exact ⟨0, by omega, rfl, RowingF.nil _ _ _ _ _, Grow.refl _⟩
      case round =>
        obtain ⟨m, hm, rfl, HL, hgm⟩ := hrel
        by_cases hm3 : m < 3
        · have hgZ : Grow wr (wr.alloc (.cells #[.int .u8 0, .int .u8 0, .int .u8 0, .int .u8 0] 5)) := Grow.alloc _ _
          have hbz : Bs (wr.alloc (.cells #[.int .u8 0, .int .u8 0, .int .u8 0, .int .u8 0] 5)) (.slice (some ⟨wr.heap.size, 0, none⟩) 4 4) nought := Bs.row (l := nought) (heap_alloc_new wr _) rfl (by unfold maxLen; omega) nought_oct
          have hoc : Octets (cellOf (k : Int) m nought) := cellOf_octets (by omega) (by omega) nought_oct
          have hT := newRow_succ k m
          have hln : (newRow k m).length = m := by simp [newRow]
          go_wp2_with fail
          refine (refBytes_own _ nought k m _ (by simp [nought]) (by omega) (by omega) hbz).mono ?_
          rintro e w1 ⟨r, rfl, hown, hg1⟩
          have hg2 := hgZ.trans hg1
          obtain ⟨gr, cr, rfl, -, -⟩ := hown.form (by omega)
          have Hrow : Hid (RowingF (fun j => F j ∨ (Value.slice x1 x2 x3).ownBlock = some j) Bs wo.heap.size 23 w1 u3 (newRow k m)) := HL.out.grow hg2
          have Hoff : Hid (OffG Bs (fun j => (F j ∨ (Value.slice x1 x2 x3).ownBlock = some j) ∨ u3.ownBlock = some j) w1 (.slice (some ⟨gr, 0, none⟩) (nought.length + 4) cr) (cellOf k m nought)) :=
            OffG.own hown hoc (fun j hj => by
              have h2 := hgm.size
              have h3 := hgZ.size
              rcases hj with (hj | hj) | hj
              · have := HF.out.2.2 j hj; omega
              · have := (HR.out.base j hj).2; omega
              · have := (HL.out.base j hj).2; omega)
          have hgo := hgm.trans hg2
          clear HL hown hbz hoc hgZ
          rw [show nought.length = 4 from rfl] at Hoff ⊢
          go_wp2_with (first
            | (at_builtin; refine wpList_pushF rfl (.tmp 12) (.tmp 17) 22 rfl i0 (.slice none 0 0) 24 Try.underlying22 hi hz0 hz1 hz2 rfl wo hgo (Nat.le_refl _) hgo.size rfl Hrow.out rfl Hoff.out w1.heap.size rfl rfl (by omega) (by omega) ?_; rintro v1 w2 - hrow1 hg3 -))
          rw [hT] at hrow1
          go_wp2
          go_roundw
          case rel => first | exact ⟨m + 1, by omega, by go_num, hrow1, hg3⟩ | ((repeat apply Exists.intro); exact ⟨⟨m + 1, by omega, by go_num, hrow1, hg3⟩, rfl⟩)
          case measure => simp [intOf]; omega
        · obtain rfl : m = 3 := by omega
          obtain ⟨l1, l2, hl⟩ := HL.out.done.form
          have Hrow : Hid (RowingF F Bss (w.heap.size + 2) 22 wr (.slice x1 x2 x3) (newDs k)) := HR.out.grow hgm
          have Hoff : Hid (OffG Bss (fun j => F j ∨ (Value.slice x1 x2 x3).ownBlock = some j) wr u3 (newRow k 3)) := HL.out.off (fun j hj => hj) (fun j hj hG => by
            have h1 := (HL.out.base j hj).1
            rcases hG with hG | hG
            · have := HF.out.2.2 j hG; omega
            · have := (HR.out.base j hG).2; omega)
          subst hl
          have hbR := hgm.block' HB.out.1
          have hbA := hgm.block' HB.out.2
          have a0 := two_at0 hbA
          have fA0 : wr.frozen? ⟨w.heap.size + 1, 0, none⟩ = false := frozen_of_row wr _ 0 _ _ hbA
          have HB' : Hid (wr.heap[w.heap.size]? = some (.cells #[.slice none 0 0, .slice none 0 0] 39 (0, 0)) ∧ wr.heap[w.heap.size + 1]? = some (.cells #[.slice x1 x2 x3, .slice none 0 0] 39 (0, 0))) := ⟨hbR, hbA⟩
          have hgw := hgr.trans hgm
          have hT := newDs_succ k
          have hln : (newDs k).length = k := by simp [newDs]
          have hsz' : w.heap.size + 2 ≤ wr.heap.size := by have := hgm.size; omega
          have hb0 : ∀ j, (Value.slice x1 x2 x3).ownBlock = some j → w.heap.size + 2 ≤ j := fun j hj => (HR.out.base j hj).1
          have Hb0 : Hid (∀ j, (Value.slice x1 x2 x3).ownBlock = some j → w.heap.size + 2 ≤ j) := hb0
          have gE := Grow.alloc wr (.cells #[.slice l1 (newRow k 3).length l2] 22)
          have a0' := gE.at a0
          clear hb0 HL HR HB hbR hbA
          generalize (newRow k 3).length = L3 at *
          go_wp2_with (first
            | (at_builtin; refine wpList_pushF rfl (.tmp 21) (.tmp 23) 36 rfl i1 (.slice none 0 0) 24 Try.underlying36 hj hy0 hy1 hy2 rfl w hgw (by omega) hsz' rfl Hrow.out rfl Hoff.out wr.heap.size rfl rfl (by omega) (by omega) ?_; rintro v1 w2 ⟨g2, c2, rfl⟩ hrow2 hg2 hin2; have HB2 : Hid (w2.heap[w.heap.size]? = some (.cells #[.slice none 0 0, .slice none 0 0] 39 (0, 0)) ∧ w2.heap[w.heap.size + 1]? = some (.cells #[.slice x1 x2 x3, .slice none 0 0] 39 (0, 0))) := ⟨(hin2.block _ (by omega) (fun e => by have := Hb0.out _ e; omega)).trans HB'.out.1, (hin2.block _ (by omega) (fun e => by have := Hb0.out _ e; omega)).trans HB'.out.2⟩; have a02 := two_at0 HB2.out.2; have fA02 : w2.frozen? ⟨w.heap.size + 1, 0, none⟩ = false := frozen_of_row w2 _ 0 _ _ HB2.out.2))
          rw [hT] at hrow2
          have hne : g2 ≠ w.heap.size + 1 := by have := (hrow2.base g2 rfl).1; omega
          have HN : Hid (RowingF F Bss (w.heap.size + 2) 22 (w2.setCell ⟨w.heap.size + 1, 0, none⟩ (.slice (some ⟨g2, 0, none⟩) ((newDs k).length + 1) c2)) (.slice (some ⟨g2, 0, none⟩) ((newDs k).length + 1) c2) (newDs (k + 1))) := hrow2.set HF.out.2.1 (by simp [Value.ownBlock]; exact hne) 0 _
          have HB3 : Hid ((w2.setCell ⟨w.heap.size + 1, 0, none⟩ (.slice (some ⟨g2, 0, none⟩) ((newDs k).length + 1) c2)).heap[w.heap.size]? = some (.cells #[.slice none 0 0, .slice none 0 0] 39 (0, 0)) ∧ (w2.setCell ⟨w.heap.size + 1, 0, none⟩ (.slice (some ⟨g2, 0, none⟩) ((newDs k).length + 1) c2)).heap[w.heap.size + 1]? = some (.cells #[.slice (some ⟨g2, 0, none⟩) ((newDs k).length + 1) c2, .slice none 0 0] 39 (0, 0))) := ⟨set_other HB2.out.1 (by omega), two_set0 HB2.out.2⟩
          have hg3 := hg2.set (g := w.heap.size + 1) (k := 0) (by omega) (.slice (some ⟨g2, 0, none⟩) ((newDs k).length + 1) c2)
          rw [hln] at HN HB3 hg3
          clear hrow2 hin2 HB2 Hrow Hoff HB' gE
          go_roundw
          case rel => first | exact ⟨k + 1, _, by omega, by go_num, ⟨_, _, _, rfl⟩, HB3, HN, hg3⟩ | ((repeat apply Exists.intro); exact ⟨⟨k + 1, _, by omega, by go_num, ⟨_, _, _, rfl⟩, HB3, HN, hg3⟩, rfl⟩)
          case measure => simp [intOf]; omega
    · obtain rfl : k = 4 := by omega
      have a0 := two_at0 HB.out.2
      have a1 := two_at1 HB.out.2
      have r0 := two_at0 HB.out.1
      have r1 := two_at1 HB.out.1
      have f0 : wr.frozen? ⟨w.heap.size, 0, none⟩ = false := frozen_of_row wr _ 0 _ _ HB.out.1
      have f1 : wr.frozen? ⟨w.heap.size, 1, none⟩ = false := frozen_of_row wr _ 1 _ _ HB.out.1
      have hne : (Value.slice x1 x2 x3).ownBlock ≠ some w.heap.size := fun e => by have := (HR.out.base _ e).1; omega
      have hb := two_set1 (z := .slice none 0 0) (two_set0 (z := .slice x1 x2 x3) HB.out.1)
      have z0 := two_at0 hb
      have z1 := two_at1 hb
      have hfin : Hid (ArrV ((wr.setCell ⟨w.heap.size, 0, none⟩ (.slice x1 x2 x3)).setCell ⟨w.heap.size, 1, none⟩ (.slice none 0 0)) (.agg #[.slice x1 x2 x3, .slice none 0 0]) newP ∧ Grow w ((wr.setCell ⟨w.heap.size, 0, none⟩ (.slice x1 x2 x3)).setCell ⟨w.heap.size, 1, none⟩ (.slice none 0 0))) :=
        ⟨⟨_, _, rfl, ((HR.out.set HF.out.1 hne 0 _).set HF.out.1 hne 1 _).done, Its.nil _⟩, (hgr.set (Nat.le_refl _) _).set (Nat.le_refl _) _⟩
      clear hb HB HR HF
      go_wp2
      refine bodyPost_ret (results_two Try.results33 _ _ w.heap.size _ rfl Try.underlying39 rfl Try.sizeA z0 z1) rfl ?_
      exact ⟨_, rfl, hfin.out.1, hfin.out.2⟩

end Go.Proofs.Ytjggiameajndgab

/-
  Plain: what arrays are that come of steps; what a step makes of one.
-/
namespace Go.Proofs.Ytjggiameajndgab

/-- An array that came of steps. -/
structure Arr (a : ArrP) : Prop where
  whole : Whole a
  none : a.is = []
  short : ∀ d s, (cellAt a d s).length ≤ 8

theorem Arr.fours {a : ArrP} (h : Arr a) : Fours a := fun p hp => by rw [h.none] at hp; simp at hp

theorem cellAt_with {a : ArrP} {d s : Nat} {l : List Int} (hd : d < a.ds.length) (hs : s < (a.ds.getD d []).length) (d' s' : Nat) : cellAt (withL a d s l) d' s' = if d' = d ∧ s' = s then l else cellAt a d' s' := by
  simp only [cellAt, withL]
  by_cases h1 : d' = d
  · subst h1
    have e1 : (a.ds.set d' ((a.ds.getD d' []).set s l)).getD d' [] = (a.ds.getD d' []).set s l := by simp [List.getD_eq_getElem?_getD, hd]
    rw [e1]
    by_cases h2 : s' = s
    · subst h2
      rw [if_pos ⟨rfl, rfl⟩]
      rw [List.getD_eq_getElem?_getD, List.getElem?_set_self hs]
      rfl
    · rw [if_neg (fun h => h2 h.2), List.getD_eq_getElem?_getD, List.getElem?_set_ne (fun e => h2 e.symm), ← List.getD_eq_getElem?_getD]
  · rw [if_neg (fun h => h1 h.1)]
    rw [List.getD_eq_getElem?_getD (l := a.ds.set _ _), List.getElem?_set_ne (fun e => h1 e.symm), ← List.getD_eq_getElem?_getD]

theorem Whole.cellAt_with {a : ArrP} (ha : Whole a) {d s : Nat} (hd : d < 4) (hs : s < 3) (l : List Int) (d' s' : Nat) : cellAt (withL a d s l) d' s' = if d' = d ∧ s' = s then l else cellAt a d' s' := by
  have hdl : d < a.ds.length := by have := ha.1; omega
  refine Go.Proofs.Ytjggiameajndgab.cellAt_with hdl ?_ d' s'
  rw [ha.2 _ (by simp [List.getD_eq_getElem?_getD, hdl])]
  exact hs

theorem Arr.with {a : ArrP} (h : Arr a) {d s : Nat} (hd : d < 4) (hs : s < 3) {l : List Int} (hl : l.length ≤ 8) : Arr (withL a d s l) :=
  ⟨withL_whole h.whole hd l, h.none, fun d' s' => by rw [h.whole.cellAt_with hd hs]; split; exact hl; exact h.short d' s'⟩

theorem newP_arr : Arr newP := ⟨newP_whole, rfl, fun d s => by
  simp only [cellAt, newP, newDs, newRow, List.getD_eq_getElem?_getD]
  by_cases hd : d < 4
  · rw [List.getElem?_map, List.getElem?_range hd]
    simp only [Option.map_some, Option.getD_some]
    by_cases hs : s < 3
    · rw [List.getElem?_map, List.getElem?_range hs]
      simp only [Option.map_some, Option.getD_some]
      rw [cellOf_length]
      simp [nought]
    · rw [List.getElem?_eq_none (by simp; omega)]
      simp
  · rw [List.getElem?_eq_none (l := List.map _ (List.range 4)) (by simp; omega)]
    simp⟩

/-- All of an intent's writes: its cells, and no intents. -/
theorem writeTo_six_eq (a : ArrP) (i : Int × List (List Int)) : writeTo a i 6 = { putTo { a with is := [i] } i.2 i.1.toNat 4 with is := [] } := rfl

theorem putTo_arr {a : ArrP} (h : Arr a) {cs : List (List Int)} (hc : ∀ b ∈ cs, b.length ≤ 8) {s : Nat} (hs : s < 3) : ∀ k, k ≤ 4 → Arr (putTo a cs s k)
  | 0, _ => h
  | k + 1, hk => (putTo_arr h hc hs k (by omega)).with (by omega) hs (by
    by_cases hkl : k < cs.length
    · exact hc _ (getD_mem hkl)
    · rw [List.getD_eq_getElem?_getD, List.getElem?_eq_none (by omega)]; simp)

theorem putTo_ds (a b : ArrP) (h : a.ds = b.ds) (cs : List (List Int)) (s : Nat) : ∀ k, (putTo a cs s k).ds = (putTo b cs s k).ds
  | 0 => h
  | k + 1 => by simp only [putTo, withL]; rw [putTo_ds a b h cs s k]

theorem putTo_is (a : ArrP) (cs : List (List Int)) (s : Nat) : ∀ k, (putTo a cs s k).is = a.is
  | 0 => rfl
  | k + 1 => by simp only [putTo, withL]; exact putTo_is a cs s k

/-- Whatever its intents were, all six of an intent come to this. -/
theorem six_eq {a : ArrP} {i : Int × List (List Int)} : writeTo a i 6 = { putTo a i.2 i.1.toNat 4 with is := [] } := by
  rw [writeTo_six_eq]
  have := putTo_ds { a with is := [i] } a rfl i.2 i.1.toNat 4
  cases h1 : putTo { a with is := [i] } i.2 i.1.toNat 4
  cases h2 : putTo a i.2 i.1.toNat 4
  rw [h1, h2] at this
  simp only at this ⊢
  rw [this]

theorem putTo_none {a : ArrP} (h : a.is = []) (cs : List (List Int)) (s k : Nat) : { putTo a cs s k with is := [] } = putTo a cs s k := by
  have := putTo_is a cs s k
  rw [h] at this
  cases h1 : putTo a cs s k
  rw [h1] at this
  simp only at this ⊢
  rw [this]

theorem writeTo_is_mid (a : ArrP) (i : Int × List (List Int)) : ∀ k, 1 ≤ k → k ≤ 5 → (writeTo a i k).is = [i]
  | 1, _, _ => rfl
  | 2, _, _ => rfl
  | 3, _, _ => rfl
  | 4, _, _ => rfl
  | 5, _, _ => rfl

/-- Starting anew. -/
def mountL (a : ArrP) : ArrP := match a.is with | [] => a | i :: _ => writeTo a i 6

/-- A deed done. -/
def doA (a : ArrP) (x : DeedP) : ArrP := if planE a x = 0 then writeTo a (planI a x) 6 else a

/-- A deed that falls behind n of its writes. -/
def fallA (a : ArrP) (x : DeedP) (n : Int) : ArrP := if planE a x = 0 then mountL (writeL a (planI a x) n) else a

/-- A step. -/
structure StepP where
  k : Int
  n : Int
  m : Int
  d : DeedP

def stepE (a : ArrP) (s : StepP) : Int :=
  if s.k = 1 then planE a s.d else if s.k = 2 then planE a s.d else if s.k = 3 then (if s.n < 0 then 6 else rotE a (s.n / 3) (s.n % 3) s.m) else if s.k = 4 then goneE s.n else if s.k = 5 then mendE a s.n else 1
def stepA (a : ArrP) (s : StepP) : ArrP :=
  if s.k = 1 then doA a s.d else if s.k = 2 then fallA a s.d s.n else if s.k = 3 then (if s.n < 0 then a else rotL a (s.n / 3) (s.n % 3) s.m) else if s.k = 4 then goneL a s.n else if s.k = 5 then mendL a s.n else a

theorem planI_ok {a : ArrP} {x : DeedP} (h : planE a x = 0) : ∃ s : Nat, s < 3 ∧ s = sOf x.n ∧ wrongE x = 0 ∧ dataE (cellsL a s) s = 0 ∧ planI a x = ((s : Int), makeL (planOut (planBl a x) s) s) := by
  have hw0 : wrongE x = 0 := by
    unfold planE at h
    split at h
    · exact h
    · rename_i h'; exact Decidable.not_not.1 h'
  have hde : dataE (cellsL a (sOf x.n)) (sOf x.n) = 0 := by
    unfold planE at h
    rwa [if_neg (by simp [hw0])] at h
  obtain ⟨-, hn0, hn8, -, -⟩ := right_deed hw0
  obtain ⟨-, -, -, -, hs3⟩ := where_bd (n := x.n) (by omega)
  exact ⟨sOf x.n, hs3, rfl, hw0, hde, if_neg (by simp [h])⟩

theorem planBl_blocks {a : ArrP} (ha : Whole a) {x : DeedP} (h : planE a x = 0) : (∀ b ∈ planBl a x, b.length = 4) ∧ (planBl a x).length = 9 := by
  obtain ⟨s, hs3, rfl, hw0, hde, -⟩ := planI_ok h
  have hdl := dataL_length hde
  rw [cellsL_length, ha.1] at hdl
  exact ⟨doL_blocks (spread_blocks (dataL_blocks hde) hdl _ 9) (spreadTo_length _ _ _) hw0, by rw [planBl, doL_length, spreadTo_length]⟩

theorem makeL_mem {ds : List (List Int)} {s : Int} (h4 : ∀ b ∈ ds, b.length = 4) : ∀ b ∈ makeL ds s, b.length = 8 := by
  intro b hb
  simp only [makeL, List.mem_map, List.mem_range] at hb
  obtain ⟨d, hd, rfl⟩ := hb
  rw [cellOf_length, h4 _ (getD_mem hd)]

theorem planI_cells {a : ArrP} (ha : Whole a) {x : DeedP} (h : planE a x = 0) : (planI a x).2.length = 4 ∧ ∀ b ∈ (planI a x).2, b.length = 8 := by
  obtain ⟨s, hs3, -, -, -, he⟩ := planI_ok h
  obtain ⟨h4, h9⟩ := planBl_blocks ha h
  rw [he]
  exact ⟨by rw [makeL_length, planOut_length], makeL_mem (planOut_blocks h4 h9 hs3)⟩

theorem doA_eq {a : ArrP} (h : Arr a) {x : DeedP} (he : planE a x = 0) : doA a x = putTo a (planI a x).2 (planI a x).1.toNat 4 := by
  rw [doA, if_pos he, six_eq, putTo_none h.none]

theorem doA_arr {a : ArrP} (h : Arr a) (x : DeedP) : Arr (doA a x) := by
  by_cases he : planE a x = 0
  · obtain ⟨s, hs3, -, -, -, hi⟩ := planI_ok he
    rw [doA_eq h he]
    refine putTo_arr h (fun b hb => by rw [(planI_cells h.whole he).2 b hb]; omega) ?_ 4 (Nat.le_refl _)
    rw [hi]
    simpa using hs3
  · rw [doA, if_neg he]; exact h

/-- Behind a fall it is as it was, or as if the deed had been done. -/
theorem putTo_twice_at {a : ArrP} (ha : Whole a) (cs : List (List Int)) {s : Nat} (hs : s < 3) (d' s' : Nat) : ∀ k, k ≤ 4 → cellAt (putTo a cs s k) d' s' = if d' < k ∧ s' = s then cs.getD d' [] else cellAt a d' s'
  | 0, _ => by simp [putTo]
  | k + 1, hk => by
    rw [putTo, (putTo_whole ha cs s k (by omega)).cellAt_with (by omega) hs, putTo_twice_at ha cs hs d' s' k (by omega)]
    by_cases h1 : d' = k ∧ s' = s
    · rw [if_pos h1, if_pos ⟨by omega, h1.2⟩, h1.1]
    · rw [if_neg h1]
      by_cases h2 : d' < k ∧ s' = s
      · rw [if_pos h2, if_pos ⟨by omega, h2.2⟩]
      · rw [if_neg h2, if_neg (fun h => by
          by_cases h3 : d' = k
          · exact h1 ⟨h3, h.2⟩
          · exact h2 ⟨by omega, h.2⟩)]

/-- Arrays of the same cells are the same. -/
theorem arr_ext {a b : ArrP} (ha : Whole a) (hb : Whole b) (hi : a.is = b.is) (h : ∀ d s, d < 4 → s < 3 → cellAt a d s = cellAt b d s) : a = b := by
  obtain ⟨ads, ais⟩ := a
  obtain ⟨bds, bis⟩ := b
  obtain ⟨ha1, ha2⟩ := ha
  obtain ⟨hb1, hb2⟩ := hb
  simp only at ha1 ha2 hb1 hb2 hi
  simp only [ArrP.mk.injEq]
  refine ⟨List.ext_getElem (by omega) fun i h1 h2 => List.ext_getElem (by rw [ha2 _ (List.getElem_mem h1), hb2 _ (List.getElem_mem h2)]) fun j g1 g2 => ?_, hi⟩
  have h3 : ads[i].length = 3 := ha2 _ (List.getElem_mem h1)
  have := h i j (by omega) (by omega)
  simpa [cellAt, List.getD_eq_getElem?_getD, h1, h2, g1, g2] using this

theorem writeTo_mid_ds (a : ArrP) (i : Int × List (List Int)) : ∀ k, k ≤ 4 → (writeTo a i (k + 1)).ds = (putTo a i.2 i.1.toNat k).ds
  | 0, _ => rfl
  | 1, _ => rfl
  | 2, _ => rfl
  | 3, _ => rfl
  | 4, _ => rfl

theorem cellAt_ds {a b : ArrP} (h : a.ds = b.ds) (d s : Nat) : cellAt a d s = cellAt b d s := by rw [cellAt, cellAt, h]

theorem fallA_eq {a : ArrP} (h : Arr a) {x : DeedP} (he : planE a x = 0) (n : Int) : fallA a x n = if n ≤ 0 then a else doA a x := by
  obtain ⟨s, hs3, -, -, -, hi⟩ := planI_ok he
  rw [fallA, if_pos he]
  split
  · rename_i hn
    rw [show writeL a (planI a x) n = a from by rw [writeL, show many6 n = 0 from by unfold many6; omega]; rfl, mountL, h.none]
  · rename_i hn
    rw [doA, if_pos he]
    by_cases h6 : 6 ≤ n
    · rw [writeL, show many6 n = 6 from by unfold many6; omega]
      rw [mountL]
      rfl
    · obtain ⟨k, hk, hk4⟩ : ∃ k, many6 n = k + 1 ∧ k ≤ 4 := ⟨(n - 1).toNat, by unfold many6; omega, by omega⟩
      rw [writeL, hk, mountL, writeTo_is_mid a _ (k + 1) (by omega) (by omega)]
      simp only
      rw [six_eq, six_eq]
      have hs : (planI a x).1.toNat = s := by rw [hi]; simp
      rw [hs]
      have hw1 : Whole (writeTo a (planI a x) (k + 1)) := writeTo_whole h.whole _ _
      refine arr_ext (a := { putTo _ _ _ _ with is := [] }) (b := { putTo _ _ _ _ with is := [] }) (putTo_whole hw1 _ _ 4 (Nat.le_refl _)) (putTo_whole h.whole _ _ 4 (Nat.le_refl _)) rfl fun d' s' hd' hs' => ?_
      show cellAt (putTo _ _ _ _) d' s' = cellAt (putTo _ _ _ _) d' s'
      rw [putTo_twice_at hw1 _ hs3 d' s' 4 (Nat.le_refl _), putTo_twice_at h.whole _ hs3 d' s' 4 (Nat.le_refl _)]
      split
      · rfl
      · rename_i hns
        rw [cellAt_ds (writeTo_mid_ds a (planI a x) k hk4), hs, putTo_twice_at h.whole _ hs3 d' s' k hk4, if_neg (fun hc => hns ⟨hd', hc.2⟩)]

theorem fallA_arr {a : ArrP} (h : Arr a) (x : DeedP) (n : Int) : Arr (fallA a x n) := by
  by_cases he : planE a x = 0
  · rw [fallA_eq h he]
    split
    · exact h
    · exact doA_arr h x
  · rw [fallA, if_neg he]; exact h

theorem rotL_arr {a : ArrP} (h : Arr a) (d s k : Int) : Arr (rotL a d s k) := by
  unfold rotL
  split
  · rename_i hk
    obtain ⟨h1, h2, h3, h4, h5, h6⟩ := hk
    exact h.with (by omega) (by omega) (by rw [rotB, List.length_set]; exact h.short _ _)
  · exact h

theorem goneTo_arr {a : ArrP} (h : Arr a) {d : Nat} (hd : d < 4) : ∀ k, k ≤ 3 → Arr (goneTo a d k)
  | 0, _ => h
  | k + 1, hk => (goneTo_arr h hd k (by omega)).with hd (by omega) (by simp)

theorem goneL_arr {a : ArrP} (h : Arr a) (d : Int) : Arr (goneL a d) := by
  unfold goneL
  split
  · exact h
  · exact goneTo_arr h (by omega) 3 (Nat.le_refl _)

theorem mendL_arr {a : ArrP} (h : Arr a) (s : Int) : Arr (mendL a s) := by
  unfold mendL
  split
  · exact h
  · rename_i hn
    have hde : dataE (cellsL a s.toNat) s = 0 := Decidable.byContradiction fun hc => hn (.inr hc)
    have hs : ¬ (s < 0 ∨ 2 < s) := fun hc => hn (.inl hc)
    exact putTo_arr h (fun b hb => by rw [makeL_mem (dataL_blocks hde) b hb]; omega) (by omega) 4 (Nat.le_refl _)

theorem stepA_arr {a : ArrP} (h : Arr a) (s : StepP) : Arr (stepA a s) := by
  unfold stepA
  split
  · exact doA_arr h _
  split
  · exact fallA_arr h _ _
  split
  · split
    · exact h
    · exact rotL_arr h _ _ _
  split
  · exact goneL_arr h _
  split
  · exact mendL_arr h _
  · exact h

/-- What steps come to: at most a hundred. -/
def playTo (l : List StepP) : Nat → ArrP
  | 0 => newP
  | k + 1 => match l[k]? with | some s => stepA (playTo l k) s | none => playTo l k
def playL (l : List StepP) : ArrP := playTo l (min l.length 100)
def playEs (l : List StepP) (k : Nat) : List Int := (List.range k).map fun i => match l[i]? with | some s => stepE (playTo l i) s | none => 0

theorem playTo_arr (l : List StepP) : ∀ k, Arr (playTo l k)
  | 0 => newP_arr
  | k + 1 => by
    rw [playTo]
    split
    · exact stepA_arr (playTo_arr l k) _
    · exact playTo_arr l k

/-- Does a cell rot that is none? -/
def againB (a : ArrP) (s : StepP) : Bool := decide (s.k = 3 ∧ 0 ≤ s.n ∧ s.n ≤ 11 ∧ readE (cellAt a (s.n / 3).toNat (s.n % 3).toNat) (s.n / 3) (s.n % 3) ≠ 0)

/-- May this step be taken? -/
def gentleB (a : ArrP) (s : StepP) : Bool := !againB a s && decide (worstN (stepA a s) ≤ 1)

/-- How far steps are gentle, from k on, of at most so many. -/
def gentlyFrom (l : List StepP) (a : ArrP) : Nat → ArrP
  | 0 => a
  | n + 1 => match l with | [] => a | s :: r => if gentleB a s then gentlyFrom r (stepA a s) n else a
def gentlyL (l : List StepP) : ArrP := gentlyFrom l newP 100

theorem gentlyFrom_arr : ∀ (n : Nat) (l : List StepP) (a : ArrP), Arr a → Arr (gentlyFrom l a n)
  | 0, l, a, h => by rw [gentlyFrom]; exact h
  | n + 1, [], a, h => by rw [gentlyFrom]; exact h
  | n + 1, s :: r, a, h => by
    rw [gentlyFrom]
    split
    · exact gentlyFrom_arr n r _ (stepA_arr h s)
    · exact h

end Go.Proofs.Ytjggiameajndgab

/-
  What the program's array.Mount returns: an array of the call's own, what was noted done. Nothing old turns.
-/
namespace Go.Proofs.Ytjggiameajndgab
open Go.RowKit

/-- The boxes of a call: the result, what is written. -/
def MBox (n q : Nat) (dv iv : Value) (w : World) : Prop := w.heap[n + 1]? = some (.cells #[.slice none 0 0, .slice none 0 0] 39 (0, 0)) ∧ w.heap[q]? = some (.cells #[dv, iv] 39 (0, 0)) ∧ n + 2 ≤ q
theorem MBox.grow {n q : Nat} {dv iv : Value} {w w' : World} (h : MBox n q dv iv w) (hg : Grow w w') : MBox n q dv iv w' := ⟨hg.block' h.1, hg.block' h.2.1, h.2.2⟩
theorem MBox.set {n q : Nat} {dv iv d' i' : Value} {w : World} (h : MBox n q dv iv w) : MBox n q d' i' ((w.setCell ⟨q, 0, none⟩ d').setCell ⟨q, 1, none⟩ i') := ⟨set_other (set_other h.1 (by have := h.2.2; omega)) (by have := h.2.2; omega), two_set1 (two_set0 h.2.1), h.2.2⟩

theorem mount_end {w wr : World} {q : Nat} {dv iv : Value} {bs : List Nat} {a : ArrP} (hB : MBox w.heap.size q dv iv wr) (hO : OwnA (w.heap.size + 2) bs wr dv iv a) (hg : Grow w wr) :
    Hid (OwnA w.heap.size bs ((wr.setCell ⟨w.heap.size + 1, 0, none⟩ dv).setCell ⟨w.heap.size + 1, 1, none⟩ iv) dv iv a ∧ Grow w ((wr.setCell ⟨w.heap.size + 1, 0, none⟩ dv).setCell ⟨w.heap.size + 1, 1, none⟩ iv)) ∧
    ((wr.setCell ⟨w.heap.size + 1, 0, none⟩ dv).setCell ⟨w.heap.size + 1, 1, none⟩ iv).cell? ⟨w.heap.size + 1, 0, none⟩ = some dv ∧ ((wr.setCell ⟨w.heap.size + 1, 0, none⟩ dv).setCell ⟨w.heap.size + 1, 1, none⟩ iv).cell? ⟨w.heap.size + 1, 1, none⟩ = some iv := by
  have h1 := two_set0 (z := dv) hB.1
  have h2 := two_set1 (z := iv) h1
  exact ⟨⟨((hO.k4 (K4.set hB.1)).k4 (K4.set h1)).low (by omega), (hg.set (by omega) _).set (by omega) _⟩, two_at0 h2, two_at1 h2⟩

/-- Intents that there are: none, or one of four cells, of a stripe. -/
def Fewer (a : ArrP) : Prop := a.is = [] ∨ ∃ (s : Nat) (cs : List (List Int)), a.is = [((s : Int), cs)] ∧ s < 3 ∧ cs.length = 4 ∧ ∀ b ∈ cs, b.length ≤ 8
theorem Fewer.few {a : ArrP} (h : Fewer a) : Few a := h.imp id fun ⟨s, cs, h1, _, h2, h3⟩ => ⟨(s : Int), cs, h1, h2, h3⟩

set_option maxRecDepth 20000 in
set_option maxHeartbeats 6400000 in
theorem mount_any (v : Value) (a : ArrP) (w : World) (h : ArrV w v a) (ha : Whole a) (h8 : ∀ d s, (cellAt a d s).length ≤ 8) (hI : Fewer a) :
    Calls Try.prog 45 #[v] w fun e w' => ∃ bs dv iv, e = .returned (.agg #[dv, iv]) ∧ OwnA w.heap.size bs w' dv iv (mountL a) ∧ Grow w w' := by
  have HA : Hid (ArrV w v a ∧ Whole a ∧ (∀ d s, (cellAt a d s).length ≤ 8) ∧ Fewer a) := ⟨h, ha, h8, hI⟩
  obtain ⟨dv0, iv0, rfl, hd, hit⟩ := h
  obtain ⟨ad, cd, rfl, hd1, hd2⟩ := hd.form'
  obtain ⟨ai, ci, rfl, hi1, hi2⟩ := hit.form
  have Hi : Hid (Its w (.slice ai a.is.length ci) a.is) := hit
  generalize hnd : a.ds.length = nd at *
  generalize hni : a.is.length = ni at *
  have HN : Hid (a.is.length = ni) := hni
  obtain ⟨W, hW⟩ : ∃ W, W = (w.alloc (.cells #[.slice ad nd cd, .slice ai ni ci] 39)).alloc (.cells #[.slice none 0 0, .slice none 0 0] 39) := ⟨_, rfl⟩
  have hgW : Grow w W := by rw [hW]; exact (Grow.alloc _ _).trans (Grow.alloc _ _)
  have HB0 : Hid (W.heap[w.heap.size]? = some (.cells #[.slice ad nd cd, .slice ai ni ci] 39 (0, 0)) ∧ W.heap[w.heap.size + 1]? = some (.cells #[.slice none 0 0, .slice none 0 0] 39 (0, 0))) := by
    rw [Hid, hW]
    exact ⟨by rw [heap_alloc_old _ _ (by simp)]; exact heap_alloc_new w _, heap_alloc2_new w _ _⟩
  have a00 := two_at0 HB0.out.1
  have a01 := two_at1 HB0.out.1
  have hcall := own_any (.agg #[.slice ad nd cd, .slice ai ni ci]) a W (HA.out.1.grow hgW) ha h8 hI.few
  clear hit hd h8 hI hnd hni ha
  go_enter Try.func45, Try.ntmps45
  go_wp2_with fail
  rw [← hW]
  clear hW
  refine hcall.mono ?_
  rintro e w1 ⟨bs0, dv0, iv0, rfl, hO, hg1⟩
  clear hcall
  obtain ⟨⟨x1, x2, x3, rfl⟩, y1, y2, y3, rfl⟩ := hO.forms
  obtain ⟨q, hq⟩ : ∃ q, q = w1.heap.size := ⟨_, rfl⟩
  obtain ⟨W2, hW2⟩ : ∃ W2, W2 = w1.alloc (.cells #[.slice x1 x2 x3, .slice y1 y2 y3] 39) := ⟨_, rfl⟩
  have hg2 : Grow w1 W2 := by rw [hW2]; exact Grow.alloc _ _
  have hszW : w.heap.size + 2 ≤ W.heap.size := by have := heap_lt HB0.out.2; omega
  have HB : Hid (MBox w.heap.size q (.slice x1 x2 x3) (.slice y1 y2 y3) W2) := ⟨hg2.block' (hg1.block' HB0.out.2), by rw [hq, hW2]; exact heap_alloc_new w1 _, by have := hg1.size; omega⟩
  have HO : Hid (OwnA (w.heap.size + 2) bs0 W2 (.slice x1 x2 x3) (.slice y1 y2 y3) a) := (hO.k4 hg2.k4).low hszW
  have hgr := (hgW.trans hg1).trans hg2
  have a11 : w1.cell? ⟨w.heap.size, 1, none⟩ = some (.slice ai ni ci) := hg1.at a01
  have a12 : (w1.alloc (.cells #[.slice x1 x2 x3, .slice y1 y2 y3] 39)).cell? ⟨w.heap.size, 1, none⟩ = some (.slice ai ni ci) := (Grow.alloc _ _).at a11
  clear hO hg1 hg2 hgW HB0 a00 a01 hszW
  rcases HA.out.2.2.2 with hIe | ⟨s, cs, hIe, hs3, hc4, hc8⟩
  · have hn0 : ni = 0 := by rw [← HN.out, hIe]; rfl
    subst hn0
    have HM : Hid (mountL a = a) := by unfold mountL; rw [Hid, hIe]
    clear hIe
    go_wp2_with fail
    rw [← hW2, ← hq]
    clear hW2 hq a11 a12
    go_loopw [11] (fun p wr => p = .int .i64 0 ∧ wr = W2) (fun _ _ => 0)
    case atStart => exact ⟨rfl, rfl⟩
    case round =>
      obtain ⟨rfl, rfl⟩ := hrel
      obtain ⟨HE, z0, z1⟩ := mount_end HB.out HO.out hgr
      have d0 := two_at0 HB.out.2.1
      have d1 := two_at1 HB.out.2.1
      have r0 := two_at0 HB.out.1
      have r1 := two_at1 HB.out.1
      have f0 : wr.frozen? ⟨w.heap.size + 1, 0, none⟩ = false := frozen_of_row wr _ 0 _ _ HB.out.1
      have f1 : wr.frozen? ⟨w.heap.size + 1, 1, none⟩ = false := frozen_of_row wr _ 1 _ _ HB.out.1
      clear HB HO
      go_wp2_with fail
      refine bodyPost_ret (results_two Try.results45 _ _ (w.heap.size + 1) _ rfl Try.underlying39 rfl Try.sizeA z0 z1) rfl ?_
      have hO := HE.out.1
      rw [← HM.out] at hO
      exact ⟨_, _, _, rfl, hO, HE.out.2⟩
  · have hn1 : ni = 1 := by rw [← HN.out, hIe]; rfl
    subst hn1
    have HM : Hid (mountL a = writeL a ((s : Int), cs) 6) := by unfold mountL; rw [Hid, hIe]; rfl
    have hi := Hi.out
    rw [hIe] at hi
    obtain ⟨aq, cq, e0, hq3, hq4, hq5, h4⟩ := hi
    injection e0 with e1 e9 e3
    clear e9
    obtain ⟨b, off, e2, hcc⟩ := h4 (by simp)
    rw [← e1] at e2
    subst e2
    obtain ⟨hs0, cv, hs1, hcv⟩ := hcc 0 ((s : Int), cs) rfl
    obtain ⟨ac, nc, ce, rfl⟩ : ∃ a n c, cv = .slice a n c := by
      obtain ⟨a, c, e⟩ := hcv.form
      exact ⟨_, _, _, e⟩
    simp only [Nat.zero_mul, Nat.add_zero] at hs0 hs1
    have Hcv : Hid (Bss w (.slice ac nc ce) cs ∧ cs.length = 4 ∧ ∀ b ∈ cs, b.length ≤ 8) := ⟨hcv, hc4, hc8⟩
    have c0 := hgr.at hs0
    have c1 := hgr.at hs1
    clear h4 hcc e1 e3 hq3 hq4 hq5 hIe Hi HN hcv hc4 hc8 hs0 hs1
    go_wp2_with fail
    rw [← hW2, ← hq]
    clear hW2 hq a11 a12
    go_loopw [11] (fun p wr => (p = .int .i64 0 ∧ wr = W2) ∨ (p = .int .i64 1 ∧ ∃ dv iv bs, (∃ x1 x2 x3, dv = .slice x1 x2 x3) ∧ (∃ x1 x2 x3, iv = .slice x1 x2 x3) ∧ Hid (MBox w.heap.size q dv iv wr) ∧ Hid (OwnA (w.heap.size + 2) bs wr dv iv (mountL a)) ∧ Grow w wr)) (fun p _ => 1 - (intOf p).toNat)
    case atStart => exact .inl ⟨rfl, rfl⟩
    case round =>
      rcases hrel with ⟨rfl, rfl⟩ | ⟨rfl, dv, iv, bs, ⟨k1, k2, k3, rfl⟩, ⟨j1, j2, j3, rfl⟩, HB1, HO1, hg1⟩
      · obtain ⟨WA, hWA⟩ : ∃ WA, WA = wr.alloc (.cells #[.int .i64 s, .slice ac nc ce] 62) := ⟨_, rfl⟩
        have hgA : Grow wr WA := by rw [hWA]; exact Grow.alloc _ _
        have hbA : WA.heap[wr.heap.size]? = some (.cells #[.int .i64 s, .slice ac nc ce] 62 (0, 0)) := by rw [hWA]; exact heap_alloc_new wr _
        have vA0 := two_at0 hbA
        have vA1 := two_at1 hbA
        have hBA := HB.out.grow hgA
        have d0 := two_at0 hBA.2.1
        have d1 := two_at1 hBA.2.1
        have hOA := HO.out.k4 hgA.k4
        have hcall := write_any (.agg #[.slice x1 x2 x3, .slice y1 y2 y3]) (.agg #[.int .i64 s, .slice ac nc ce]) a s cs 6 WA hOA.arr HA.out.2.1 HA.out.2.2.1 HA.out.2.2.2.few ⟨_, rfl, Hcv.out.1.grow (hgr.trans hgA)⟩ hs3 Hcv.out.2.1 Hcv.out.2.2
        have hqn := hBA.2.2
        have hszA := heap_lt hBA.2.1
        have HBA : Hid (MBox _ _ _ _ _) := hBA
        clear hbA hBA hOA HB HO
        subst hWA
        go_wp2_with fail
        refine hcall.mono ?_
        rintro e w5 ⟨bs5, dv5, iv5, rfl, hO5, hg5⟩
        clear hcall
        obtain ⟨⟨k1, k2, k3, rfl⟩, j1, j2, j3, rfl⟩ := hO5.forms
        have hB5 := HBA.out.grow hg5
        have t0 := two_at0 hB5.2.1
        have t1 := two_at1 hB5.2.1
        have f0 : w5.frozen? ⟨q, 0, none⟩ = false := frozen_of_row w5 _ 0 _ _ hB5.2.1
        have f1 : w5.frozen? ⟨q, 1, none⟩ = false := frozen_of_row w5 _ 1 _ _ hB5.2.1
        have HB6 : Hid (MBox _ _ _ _ _) := hB5.set (d' := .slice k1 k2 k3) (i' := .slice j1 j2 j3)
        have HO6 : Hid (OwnA (w.heap.size + 2) bs5 ((w5.setCell ⟨q, 0, none⟩ (.slice k1 k2 k3)).setCell ⟨q, 1, none⟩ (.slice j1 j2 j3)) (.slice k1 k2 k3) (.slice j1 j2 j3) (mountL a)) := by
          rw [HM.out]
          exact ((hO5.low (by omega)).k4 (K4.set hB5.2.1)).k4 (K4.set (two_set0 hB5.2.1))
        have hg6 := (((hgr.trans hgA).trans hg5).set (g := q) (k := 0) (by omega) (.slice k1 k2 k3)).set (g := q) (k := 1) (by omega) (.slice j1 j2 j3)
        clear hO5 hB5 HBA vA0 vA1 d0 d1 c0 c1 hg5 hgA
        go_wp2_with fail
        go_roundw
        case rel => exact .inr ⟨rfl, _, _, _, ⟨_, _, _, rfl⟩, ⟨_, _, _, rfl⟩, HB6, HO6, hg6⟩
        case measure => simp [intOf]
      · obtain ⟨HE, z0, z1⟩ := mount_end HB1.out HO1.out hg1
        have d0 := two_at0 HB1.out.2.1
        have d1 := two_at1 HB1.out.2.1
        have r0 := two_at0 HB1.out.1
        have r1 := two_at1 HB1.out.1
        have f0 : wr.frozen? ⟨w.heap.size + 1, 0, none⟩ = false := frozen_of_row wr _ 0 _ _ HB1.out.1
        have f1 : wr.frozen? ⟨w.heap.size + 1, 1, none⟩ = false := frozen_of_row wr _ 1 _ _ HB1.out.1
        clear HB1 HO1 HB HO
        go_wp2_with fail
        refine bodyPost_ret (results_two Try.results45 _ _ (w.heap.size + 1) _ rfl Try.underlying39 rfl Try.sizeA z0 z1) rfl ?_
        exact ⟨_, _, _, rfl, HE.out.1, HE.out.2⟩

end Go.Proofs.Ytjggiameajndgab

/-
  What the program's array.Do returns: an array of the call's own. Nothing old turns.
-/
namespace Go.Proofs.Ytjggiameajndgab
open Go.RowKit

/-- An intent that there is: its stripe, its cells. -/
theorem planI_yes {a : ArrP} (ha : Whole a) {x : DeedP} (he : planE a x = 0) : ∃ (s : Nat) (cs : List (List Int)), planI a x = ((s : Int), cs) ∧ s < 3 ∧ cs.length = 4 ∧ ∀ b ∈ cs, b.length ≤ 8 := by
  obtain ⟨s, hs3, -, -, -, hi⟩ := planI_ok he
  obtain ⟨h4, h8⟩ := planI_cells ha he
  rw [hi] at h4 h8
  exact ⟨s, _, hi, hs3, h4, fun b hb => by rw [h8 b hb]; omega⟩

/-- Two cells of a block of an array, set. -/
theorem do_end {w wr : World} {q : Nat} {dv iv u0 u1 : Value} {bs : List Nat} {a : ArrP} {B : Nat} (hB : wr.heap[q]? = some (.cells #[u0, u1] 39 (0, 0))) (hO : OwnA B bs wr dv iv a) (hg : Grow w wr) (hq : w.heap.size ≤ q) (hb : w.heap.size ≤ B) :
    Hid (OwnA w.heap.size bs ((wr.setCell ⟨q, 0, none⟩ dv).setCell ⟨q, 1, none⟩ iv) dv iv a ∧ Grow w ((wr.setCell ⟨q, 0, none⟩ dv).setCell ⟨q, 1, none⟩ iv)) ∧
    ((wr.setCell ⟨q, 0, none⟩ dv).setCell ⟨q, 1, none⟩ iv).cell? ⟨q, 0, none⟩ = some dv ∧ ((wr.setCell ⟨q, 0, none⟩ dv).setCell ⟨q, 1, none⟩ iv).cell? ⟨q, 1, none⟩ = some iv := by
  have h1 := two_set0 (z := dv) hB
  have h2 := two_set1 (z := iv) h1
  exact ⟨⟨((hO.k4 (K4.set hB)).k4 (K4.set h1)).low hb, (hg.set hq _).set hq _⟩, two_at0 h2, two_at1 h2⟩

set_option maxRecDepth 20000 in
set_option maxHeartbeats 6400000 in
theorem arrDo_any (v dv : Value) (a : ArrP) (x : DeedP) (w : World) (h : ArrV w v a) (ha : Whole a) (h8 : ∀ d s, (cellAt a d s).length ≤ 8) (hI : Few a) (hd : DeedV w dv x) :
    Calls Try.prog 34 #[v, dv] w fun e w' => ∃ bs dv iv, e = .returned (.tuple #[.agg #[dv, iv], .int .i64 (planE a x)]) ∧ OwnA w.heap.size bs w' dv iv (doA a x) ∧ Grow w w' := by
  have harr := h
  have hdeed := hd
  obtain ⟨a1, n1, c1, a2, n2, c2, rfl⟩ := h.form
  obtain ⟨sv, rfl, hbd⟩ := hd
  obtain ⟨d1, d2, d3, rfl⟩ := hbd.form
  clear h hbd
  obtain ⟨W, hW⟩ : ∃ W, W = ((w.alloc (.cells #[.slice a1 n1 c1, .slice a2 n2 c2] 39)).alloc (.cells #[.int .i64 x.k, .int .i64 x.n, .int .i64 x.m, .slice d1 d2 d3] 25)).alloc (.cells #[.slice none 0 0, .slice none 0 0] 39) := ⟨_, rfl⟩
  have hgW : Grow w W := by rw [hW]; exact ((Grow.alloc _ _).trans (Grow.alloc _ _)).trans (Grow.alloc _ _)
  obtain ⟨H1, H2, H3⟩ := heap3 w (.cells #[.slice a1 n1 c1, .slice a2 n2 c2] 39) (.cells #[.int .i64 x.k, .int .i64 x.n, .int .i64 x.m, .slice d1 d2 d3] 25) (.cells #[.slice none 0 0, .slice none 0 0] 39)
  rw [← hW] at H1 H2 H3
  have k0 : W.cell? ⟨w.heap.size, 0, none⟩ = some (.slice a1 n1 c1) := row_at H1 0 rfl
  have k1 : W.cell? ⟨w.heap.size, 1, none⟩ = some (.slice a2 n2 c2) := row_at H1 1 rfl
  have d0' : W.cell? ⟨w.heap.size + 1, 0, none⟩ = some (.int .i64 x.k) := row_at H2 0 rfl
  have d1' : W.cell? ⟨w.heap.size + 1, 1, none⟩ = some (.int .i64 x.n) := row_at H2 1 rfl
  have d2' : W.cell? ⟨w.heap.size + 1, 2, none⟩ = some (.int .i64 x.m) := row_at H2 2 rfl
  have d3' : W.cell? ⟨w.heap.size + 1, 3, none⟩ = some (.slice d1 d2 d3) := row_at H2 3 rfl
  have HR : Hid (W.heap[w.heap.size + 1 + 1]? = some (.cells #[.slice none 0 0, .slice none 0 0] 39 (0, 0))) := H3
  clear H1 H2 H3
  have hP := arrPlan_any (.agg #[.slice a1 n1 c1, .slice a2 n2 c2]) (.agg #[.int .i64 x.k, .int .i64 x.n, .int .i64 x.m, .slice d1 d2 d3]) a x W (harr.grow hgW) ha h8 (hdeed.grow hgW)
  have HA : Hid (ArrV w (.agg #[.slice a1 n1 c1, .slice a2 n2 c2]) a ∧ Whole a ∧ (∀ d s, (cellAt a d s).length ≤ 8) ∧ Few a) := ⟨harr, ha, h8, hI⟩
  clear harr ha h8 hI hdeed
  go_enter Try.func34, Try.ntmps34
  go_wp2_with fail
  rw [← hW]
  clear hW
  refine hP.mono ?_
  rintro e w1 ⟨r, rfl, hr, hg1⟩
  clear hP d0' d1' d2' d3'
  obtain ⟨cv, rfl, hcv⟩ := hr
  obtain ⟨ac, nc, cc, rfl⟩ : ∃ a n c, cv = .slice a n c := by
    obtain ⟨a, c, e⟩ := hcv.form
    exact ⟨_, _, _, e⟩
  have hcv : Bss w1 (.slice ac nc cc) (planI a x).2 := hcv
  generalize hix : (planI a x).1 = ix at *
  have HIX : Hid ((planI a x).1 = ix) := hix
  have gA : Grow w1 (w1.alloc (.cells #[.int .i64 ix, .slice ac nc cc] 62)) := Grow.alloc _ _
  have hg02 := hg1.trans gA
  have hgw := hgW.trans hg02
  have q0 := hg02.at k0
  have q1 := hg02.at k1
  have hR := hg02.block' HR.out
  have hbI : (w1.alloc (.cells #[.int .i64 ix, .slice ac nc cc] 62)).heap[w1.heap.size]? = some (.cells #[.int .i64 ix, .slice ac nc cc] 62 (0, 0)) := heap_alloc_new w1 _
  have i0 := two_at0 hbI
  have i1 := two_at1 hbI
  have HCV : Hid (Bss (w1.alloc (.cells #[.int .i64 ix, .slice ac nc cc] 62)) (.slice ac nc cc) (planI a x).2) := hcv.grow gA
  obtain ⟨W2, hW2⟩ : ∃ W2, W2 = w1.alloc (.cells #[.int .i64 ix, .slice ac nc cc] 62) := ⟨_, rfl⟩
  by_cases he : planE a x = 0
  · obtain ⟨s, cs, hi, hs3, hc4, hc8⟩ := planI_yes HA.out.2.1 he
    have HDo : Hid (doA a x = writeL a ((s : Int), cs) 6) := by rw [Hid, doA, if_pos he, hi]; rfl
    have HE : Hid (planE a x = 0) := he
    obtain rfl : ix = (s : Int) := by rw [← HIX.out, hi]
    have hwc := write_any (.agg #[.slice a1 n1 c1, .slice a2 n2 c2]) (.agg #[.int .i64 s, .slice ac nc cc]) a s cs 6 (w1.alloc (.cells #[.int .i64 s, .slice ac nc cc] 62)) (HA.out.1.grow hgw) HA.out.2.1 HA.out.2.2.1 HA.out.2.2.2 ⟨_, rfl, by have := HCV.out; rw [hi] at this; exact this⟩ hs3 hc4 hc8
    rw [he]
    clear hcv hbI hi hc4 hc8 hix he k0 k1 hW2 HIX
    go_wp2_with fail
    refine hwc.mono ?_
    rintro e w3 ⟨bs, dv, iv, rfl, hO, hg3⟩
    clear hwc
    obtain ⟨⟨x1, x2, x3, rfl⟩, y1, y2, y3, rfl⟩ := hO.forms
    have hR3 := hg3.block' hR
    have r0 := two_at0 hR3
    have r1 := two_at1 hR3
    have f0 : w3.frozen? ⟨w.heap.size + 1 + 1, 0, none⟩ = false := frozen_of_row w3 _ 0 _ _ hR3
    have f1 : w3.frozen? ⟨w.heap.size + 1 + 1, 1, none⟩ = false := frozen_of_row w3 _ 1 _ _ hR3
    have hE := do_end hR3 hO (hgw.trans hg3) (by omega) hgw.size
    obtain ⟨HF, z0, z1⟩ := hE
    clear hO hR3 hR i0 i1 q0 q1
    go_wp2
    refine bodyPost_ret (results_two1 Try.results34 _ _ (w.heap.size + 1 + 1) _ rfl Try.underlying39 rfl Try.sizeA z0 z1) rfl ?_
    rw [HE.out]
    exact ⟨_, _, _, rfl, by rw [HDo.out]; exact HF.out.1, HF.out.2⟩
  · have HDo : Hid (doA a x = a) := if_neg he
    have hoc := own_any (.agg #[.slice a1 n1 c1, .slice a2 n2 c2]) a (w1.alloc (.cells #[.int .i64 ix, .slice ac nc cc] 62)) (HA.out.1.grow hgw) HA.out.2.1 HA.out.2.2.1 HA.out.2.2.2
    clear hcv hbI hix k0 k1 hW2 HIX HCV
    generalize hE0 : planE a x = E at *
    have he' : (E != 0) = true := by simpa using he
    have HE : Hid (planE a x = E) := hE0
    clear hE0
    go_wp2_with fail
    refine hoc.mono ?_
    rintro e w3 ⟨bs, dv, iv, rfl, hO, hg3⟩
    clear hoc
    obtain ⟨⟨x1, x2, x3, rfl⟩, y1, y2, y3, rfl⟩ := hO.forms
    have hR3 := hg3.block' hR
    have r0 := two_at0 hR3
    have r1 := two_at1 hR3
    have f0 : w3.frozen? ⟨w.heap.size + 1 + 1, 0, none⟩ = false := frozen_of_row w3 _ 0 _ _ hR3
    have f1 : w3.frozen? ⟨w.heap.size + 1 + 1, 1, none⟩ = false := frozen_of_row w3 _ 1 _ _ hR3
    obtain ⟨HF, z0, z1⟩ := do_end hR3 hO (hgw.trans hg3) (by omega) hgw.size
    clear hO hR3 hR i0 i1 q0 q1
    go_wp2
    refine bodyPost_ret (results_two1 Try.results34 _ _ (w.heap.size + 1 + 1) _ rfl Try.underlying39 rfl Try.sizeA z0 z1) rfl ?_
    rw [HE.out]
    exact ⟨_, _, _, rfl, by rw [HDo.out]; exact HF.out.1, HF.out.2⟩

end Go.Proofs.Ytjggiameajndgab
