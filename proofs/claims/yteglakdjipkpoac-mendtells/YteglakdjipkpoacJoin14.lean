import Derived.Lib.MinMax
import Derived.Test.YteglakdjipkpoacJoin13
/-
  What the program's mend.All returns: an array of the call's own, and how many cells of each stripe were none. Nothing old turns.
-/
namespace Go.Proofs.Yteglakdjipkpoac
open Go.RowKit

/-- The first k stripes are mended. -/
def mendTo (a : ArrP) : Nat → ArrP
  | 0 => a
  | k + 1 => mendL (mendTo a k) (k : Nat)

theorem mendTo_arr {a : ArrP} (h : Arr a) : ∀ k, Arr (mendTo a k)
  | 0 => h
  | k + 1 => mendL_arr (mendTo_arr h k) _

/-- What the first k have told. -/
def toldTo (a : ArrP) (k : Nat) : List Int := (List.range 3).map fun i => if i < k then (mendN (mendTo a i) (i : Nat) : Int) else 0
def toldC (a : ArrP) (k : Nat) : Array Value := ((toldTo a k).map (Value.int .i64)).toArray

theorem toldC_set (a : ArrP) {k : Nat} (hk : k < 3) : (toldC a k).setIfInBounds k (.int .i64 (mendN (mendTo a k) (k : Nat))) = toldC a (k + 1) := by
  obtain rfl | rfl | rfl : k = 0 ∨ k = 1 ∨ k = 2 := by omega
  all_goals rfl
theorem toldC_size (a : ArrP) (k : Nat) : (toldC a k).size = 3 := by simp [toldC, toldTo]
theorem toldC_all (a : ArrP) : toldC a 3 = ((mendNs a).map (fun (n : Nat) => Value.int .i64 (n : Int))).toArray := rfl

theorem Try.made3 (w : World) : (Instr.makeSlice 35 (.int .i64 3) (.int .i64 3)).run Try.prog w = .ok (.slice (some ⟨w.heap.size, 0, none⟩) 3 3) (w.alloc (.cells #[.int .i64 0, .int .i64 0, .int .i64 0] 3)) :=
  (run_make_row' (P := Try.prog) 35 3 (.int .i64 0) 8 Try.underlying35 Try.infoI rfl .i64 .i64 3 (by decide) (by decide) w).trans (by rw [show madeCells #[.int .i64 0] 3 = #[Value.int .i64 0, .int .i64 0, .int .i64 0] from Array.toList_inj.1 (toList_madeCells_one _ _)])

theorem K4.set' {w : World} {b k : Nat} {u : Value} {cs : Array Value} {t : TypeId} {mk : Nat × Nat} (hb : w.heap[b]? = some (.cells cs t mk)) (ht : t ≠ 5 ∧ t ≠ 48 ∧ t ≠ 41) (hi : t ≠ 63) : K4 w (w.setCell ⟨b, k, none⟩ u) := ⟨K3.set hb ht, fun j cs' hj => by
  refine set_other hj fun e => ?_
  subst e
  rw [hb] at hj
  injection hj with hj
  injection hj with _ hj _
  exact hi hj⟩

/-- The boxes of a call: the result, what is mended, what was told. -/
def AllBox (n q t : Nat) (dv iv : Value) (cs : Array Value) (w : World) : Prop := w.heap[n + 1]? = some (.cells #[.slice none 0 0, .slice none 0 0] 26 (0, 0)) ∧ w.heap[q]? = some (.cells #[dv, iv] 26 (0, 0)) ∧ w.heap[t]? = some (.cells cs 3 (0, 0)) ∧ n + 1 < q ∧ q < t

theorem AllBox.grow {n q t : Nat} {dv iv : Value} {cs : Array Value} {w w' : World} (h : AllBox n q t dv iv cs w) (hg : Grow w w') : AllBox n q t dv iv cs w' := ⟨hg.block' h.1, hg.block' h.2.1, hg.block' h.2.2.1, h.2.2.2⟩

theorem AllBox.next {n q t B : Nat} {dv iv dv' iv' u : Value} {cs : Array Value} {bs : List Nat} {a : ArrP} {w w0 : World} (k : Nat) (h : AllBox n q t dv iv cs w) (hO : OwnA B bs w dv' iv' a) (hg : Grow w0 w) (h0 : w0.heap.size = n) :
    AllBox n q t dv' iv' (cs.setIfInBounds k u) (((w.setCell ⟨q, 0, none⟩ dv').setCell ⟨q, 1, none⟩ iv').setCell ⟨t, k, none⟩ u) ∧
    OwnA B bs (((w.setCell ⟨q, 0, none⟩ dv').setCell ⟨q, 1, none⟩ iv').setCell ⟨t, k, none⟩ u) dv' iv' a ∧
    Grow w0 (((w.setCell ⟨q, 0, none⟩ dv').setCell ⟨q, 1, none⟩ iv').setCell ⟨t, k, none⟩ u) := by
  obtain ⟨h1, h2, h3, h4, h5⟩ := h
  have e1 := two_set0 (z := dv') h2
  have e2 := two_set1 (z := iv') e1
  have t2 : ((w.setCell ⟨q, 0, none⟩ dv').setCell ⟨q, 1, none⟩ iv').heap[t]? = some (.cells cs 3 (0, 0)) := set_other (set_other h3 (by omega)) (by omega)
  refine ⟨⟨set_other (set_other (set_other h1 (by omega)) (by omega)) (by omega), set_other e2 (by omega), ?_, h4, h5⟩, ?_, ?_⟩
  · exact heap_setCell_same _ t k _ _ _ t2
  · exact ((hO.k4 (K4.set h2)).k4 (K4.set e1)).k4 (K4.set' t2 (by decide) (by decide))
  · exact ((hg.set (by omega) _).set (by omega) _).set (by omega) _

set_option maxRecDepth 20000 in
set_option maxHeartbeats 6400000 in
theorem mendAll_any (v : Value) (a : ArrP) (w : World) (h : ArrV w v a) (ha : Arr a) :
    Calls Try.prog 12 #[v] w fun e w' => ∃ bs dv iv T, e = .returned (.tuple #[.agg #[dv, iv], .slice (some ⟨T, 0, none⟩) 3 3]) ∧ OwnA w.heap.size bs w' dv iv (mendAll a) ∧ w'.heap[T]? = some (.cells ((mendNs a).map (fun (n : Nat) => Value.int .i64 (n : Int))).toArray 3 (0, 0)) ∧ Grow w w' := by
  have harr := h
  obtain ⟨a1, n1, c1, a2, n2, c2, rfl⟩ := h.form
  clear h
  obtain ⟨W, hW⟩ : ∃ W, W = (w.alloc (.cells #[.slice a1 n1 c1, .slice a2 n2 c2] 26)).alloc (.cells #[.slice none 0 0, .slice none 0 0] 26) := ⟨_, rfl⟩
  have hgW : Grow w W := by rw [hW]; exact (Grow.alloc _ _).trans (Grow.alloc _ _)
  have H1 : W.heap[w.heap.size]? = some (.cells #[.slice a1 n1 c1, .slice a2 n2 c2] 26 (0, 0)) := by rw [hW]; exact (heap_alloc_old _ _ (by simp)).trans (heap_alloc_new w _)
  have HR : Hid (W.heap[w.heap.size + 1]? = some (.cells #[.slice none 0 0, .slice none 0 0] 26 (0, 0))) := by rw [Hid, hW]; exact heap_alloc2_new w _ _
  have k0 := two_at0 H1
  have k1 := two_at1 H1
  have HA : Hid (∀ k, Arr (mendTo a k)) := mendTo_arr ha
  have hOw := own_any (.agg #[.slice a1 n1 c1, .slice a2 n2 c2]) a W (harr.grow hgW) ha.whole ha.short (.inl ha.none)
  clear harr ha H1
  go_enter Try.func12, Try.ntmps12
  go_wp2_with fail
  rw [← hW]
  clear hW
  refine hOw.mono ?_
  rintro e w1 ⟨bs0, dv0, iv0, rfl, hO, hg1⟩
  clear hOw k0 k1
  obtain ⟨⟨x1, x2, x3, rfl⟩, y1, y2, y3, rfl⟩ := hO.forms
  obtain ⟨q, hq⟩ : ∃ q, q = w1.heap.size := ⟨_, rfl⟩
  have hmk := Try.made3 (w1.alloc (.cells #[.slice x1 x2 x3, .slice y1 y2 y3] 26))
  obtain ⟨W2, hW2⟩ : ∃ W2, W2 = (w1.alloc (.cells #[.slice x1 x2 x3, .slice y1 y2 y3] 26)).alloc (.cells #[.int .i64 0, .int .i64 0, .int .i64 0] 3) := ⟨_, rfl⟩
  have hg2 : Grow w1 W2 := by rw [hW2]; exact (Grow.alloc _ _).trans (Grow.alloc _ _)
  have hgw := (hgW.trans hg1).trans hg2
  have HB0 : Hid (AllBox w.heap.size q (q + 1) (.slice x1 x2 x3) (.slice y1 y2 y3) (toldC a 0) W2) := by
    refine ⟨hg2.block' (hg1.block' HR.out), ?_, ?_, ?_, by omega⟩
    · rw [hW2, hq]; exact (heap_alloc_old _ _ (by simp)).trans (heap_alloc_new w1 _)
    · rw [hW2, hq]; exact heap_alloc2_new w1 _ _
    · have := heap_lt HR.out
      have := hg1.size
      omega
  have HO0 : Hid (OwnA w.heap.size bs0 W2 (.slice x1 x2 x3) (.slice y1 y2 y3) (mendTo a 0)) := (hO.k4 hg2.k4).low hgW.size
  clear hO hg1 hg2 hgW HR
  go_wp2
  rw [← hW2, ← hq]
  clear hW2 hq hmk
  go_loopw [12] (fun i wr => ∃ (k : Nat) (dv iv : Value) (bs : List Nat), k ≤ 3 ∧ i = .int .i64 k ∧ (∃ x1 x2 x3, dv = .slice x1 x2 x3) ∧ (∃ x1 x2 x3, iv = .slice x1 x2 x3) ∧ Hid (AllBox w.heap.size q (q + 1) dv iv (toldC a k) wr) ∧ Hid (OwnA w.heap.size bs wr dv iv (mendTo a k)) ∧ Grow w wr) (fun i _ => 3 - (intOf i).toNat)
  case atStart => exact ⟨0, _, _, bs0, by omega, rfl, ⟨_, _, _, rfl⟩, ⟨_, _, _, rfl⟩, HB0, HO0, hgw⟩
  case round =>
    obtain ⟨k, dv, iv, bs, hk, rfl, ⟨d1, d2, d3, rfl⟩, ⟨j1, j2, j3, rfl⟩, HB, HO, hgr⟩ := hrel
    clear HB0 HO0 hgw
    have b0 := two_at0 HB.out.2.1
    have b1 := two_at1 HB.out.2.1
    by_cases hlt : k < 3
    · have hA := HA.out k
      have hSt := mendStripe_any (.agg #[.slice d1 d2 d3, .slice j1 j2 j3]) (mendTo a k) (k : Nat) wr HO.out.arr hA.whole hA.short (.inl hA.none)
      have HTS : Hid ((toldC a k).setIfInBounds k (.int .i64 (mendN (mendTo a k) (k : Nat))) = toldC a (k + 1)) := toldC_set a hlt
      have HM : Hid (mendL (mendTo a k) (k : Nat) = mendTo a (k + 1)) := rfl
      rw [HM.out] at hSt
      generalize mendN (mendTo a k) ((k : Nat) : Int) = bn at *
      generalize mendE (mendTo a k) ((k : Nat) : Int) = E at *
      clear hA
      go_wp2_with fail
      refine hSt.mono ?_
      rintro e w2 ⟨bs2, dv2, iv2, rfl, hO2, hg2⟩
      clear hSt b0 b1
      obtain ⟨⟨p1, p2, p3, rfl⟩, o1, o2, o3, rfl⟩ := hO2.forms
      have hB2 := HB.out.grow hg2
      have hgr2 := hgr.trans hg2
      obtain ⟨hN1, hN2, hN3⟩ := hB2.next (u := .int .i64 (bn : Int)) k (hO2.low hgr.size) hgr2 rfl
      rw [HTS.out] at hN1
      have HN : Hid (AllBox _ _ _ _ _ _ _ ∧ OwnA _ _ _ _ _ _) := ⟨hN1, hN2⟩
      have b0 := two_at0 hB2.2.1
      have b1 := two_at1 hB2.2.1
      have f0 : w2.frozen? ⟨q, 0, none⟩ = false := frozen_of_row w2 _ 0 _ _ hB2.2.1
      have f1 : w2.frozen? ⟨q, 1, none⟩ = false := frozen_of_row w2 _ 1 _ _ hB2.2.1
      obtain ⟨u0, hu0⟩ : ∃ u0, w2.cell? ⟨q + 1, k, none⟩ = some u0 := ⟨(toldC a k)[k]'(by rw [toldC_size]; exact hlt), row_at hB2.2.2.1 k (by simp [toldC_size, hlt])⟩
      have f2 : w2.frozen? ⟨q + 1, k, none⟩ = false := frozen_of_row w2 _ k _ _ hB2.2.2.1
      clear hB2 hN1 hN2 hO2 HB HO HTS
      go_wp2
      go_roundw
      case rel => first | exact ⟨k + 1, _, _, _, by omega, by go_num, ⟨_, _, _, rfl⟩, ⟨_, _, _, rfl⟩, HN.out.1, HN.out.2, hN3⟩ | ((repeat apply Exists.intro); exact ⟨⟨k + 1, _, _, _, by omega, by go_num, ⟨_, _, _, rfl⟩, ⟨_, _, _, rfl⟩, HN.out.1, HN.out.2, hN3⟩, rfl⟩)
      case measure => simp [intOf]; omega
    · have HK : Hid (k = 3) := by rw [Hid]; omega
      have hB3 := HB.out
      have hO3 := HO.out
      rw [HK.out] at hB3 hO3
      obtain ⟨HF, z0, z1⟩ := mend_end hB3.1 hO3 hgr (by omega) (Nat.le_refl _)
      have HT : Hid (((wr.setCell ⟨w.heap.size + 1, 0, none⟩ (.slice d1 d2 d3)).setCell ⟨w.heap.size + 1, 1, none⟩ (.slice j1 j2 j3)).heap[q + 1]? = some (.cells ((mendNs a).map (fun (n : Nat) => Value.int .i64 (n : Int))).toArray 3 (0, 0))) := by
        have := hB3.2.2.2
        rw [Hid, ← toldC_all]
        exact set_other (set_other hB3.2.2.1 (by omega)) (by omega)
      have r0 := two_at0 hB3.1
      have r1 := two_at1 hB3.1
      have f0 : wr.frozen? ⟨w.heap.size + 1, 0, none⟩ = false := frozen_of_row wr _ 0 _ _ hB3.1
      have f1 : wr.frozen? ⟨w.heap.size + 1, 1, none⟩ = false := frozen_of_row wr _ 1 _ _ hB3.1
      have hno : ¬ ((k : Int) < 3) := by omega
      clear hB3 hO3 HB HO hk hlt
      go_wp2
      refine bodyPost_ret (results_two1 Try.results12 _ _ (w.heap.size + 1) _ rfl Try.underlying26 rfl Try.sizeA z0 z1) rfl ?_
      exact ⟨_, _, _, _, rfl, HF.out.1, HT.out, HF.out.2⟩

end Go.Proofs.Yteglakdjipkpoac

/-
  What the program's mend.Worst returns. Nothing old turns.
-/
namespace Go.Proofs.Yteglakdjipkpoac
open Go.RowKit

set_option maxRecDepth 20000 in
set_option maxHeartbeats 1600000 in
theorem mendWorst_any (v : Value) (a : ArrP) (w : World) (h : ArrV w v a) (ha : Whole a) (h8 : ∀ d s, (cellAt a d s).length ≤ 8) :
    Calls Try.prog 10 #[v] w fun e w' => e = .returned (.int .i64 (worstN a)) ∧ Grow w w' := by
  have harr := h
  obtain ⟨a1, n1, c1, a2, n2, c2, rfl⟩ := h.form
  clear h
  have hgA : Grow w (w.alloc (.cells #[.slice a1 n1 c1, .slice a2 n2 c2] 26)) := Grow.alloc _ _
  have hbl := fun k => badN_le ha k
  go_enter Try.func10, Try.ntmps10
  go_wp2
  obtain ⟨w1, hw1⟩ : ∃ w1, w1 = w.alloc (.cells #[.slice a1 n1 c1, .slice a2 n2 c2] 26) := ⟨_, rfl⟩
  have k0 : w1.cell? ⟨w.heap.size, 0, none⟩ = some (.slice a1 n1 c1) := by rw [hw1]; simp
  have k1 : w1.cell? ⟨w.heap.size, 1, none⟩ = some (.slice a2 n2 c2) := by rw [hw1]; simp
  rw [← hw1] at hgA ⊢
  clear hw1
  go_loopw [3, 5] (fun m i wr => ∃ (k n : Nat), k ≤ 3 ∧ i = .int .i64 k ∧ m = .int .i64 n ∧ n ≤ 4 ∧ Hid (n = worstTo a k) ∧ Grow w1 wr) (fun _ i _ => 3 - (intOf i).toNat)
  case atStart => exact ⟨0, 0, by omega, rfl, rfl, by omega, rfl, Grow.refl _⟩
  case round =>
    obtain ⟨k, n, hk, rfl, rfl, hn4, HN, hgr⟩ := hrel
    by_cases hlt : k < 3
    · have c0 := hgr.at k0
      have c1 := hgr.at k1
      have hgw := hgA.trans hgr
      clear k0 k1
      go_wp2_with fail
      refine (stripeCells_row _ a k _ (harr.grow hgw) ha h8 hlt).mono ?_
      rintro e w2 ⟨rc, rfl, hrc, hg2⟩
      have hC := hrc.done
      obtain ⟨ac, cc, rfl⟩ := Sl.form hC
      go_wp2_with fail
      refine (stripeBad_any _ _ k _ hC (by rw [cellsL_length, ha.1]) hlt).mono ?_
      rintro e w3 ⟨rb, rfl, hrb, hg3⟩
      obtain ⟨ab, cb, rfl, hb1, hb2⟩ := hrb.form'
      have hlen : (ints (badL (cellsL a k) k)).length = badN a k := by simp [ints, badN]
      rw [hlen] at hb1 ⊢
      have hb4 := hbl k
      have hgr3 := (hgr.trans hg2).trans hg3
      have HS : Hid (worstTo a (k + 1) = if worstTo a k < badN a k then badN a k else worstTo a k) := rfl
      clear hrb hrc hC hlen hbl
      generalize badN a k = bn at *
      have HN' : Hid (max n bn = worstTo a (k + 1)) := by
        rw [Hid, HS.out, ← HN.out]
        split <;> omega
      have hmx : max (n : Int) (bn : Int) = ((max n bn : Nat) : Int) := by omega
      have hm4 : max n bn ≤ 4 := by omega
      go_wp2
      go_roundw
      case rel => first | exact ⟨k + 1, max n bn, by omega, by go_num, rfl, hm4, HN', hgr3⟩ | ((repeat apply Exists.intro); exact ⟨⟨k + 1, max n bn, by omega, by go_num, rfl, hm4, HN', hgr3⟩, rfl⟩)
      case measure => simp [intOf]; omega
    · obtain rfl : k = 3 := by omega
      go_wp2
      go_ret
      exact ⟨ret_int (by rw [HN.out]; rfl), hgA.trans hgr⟩

end Go.Proofs.Yteglakdjipkpoac

/-
  What the reference's Plan returns: a deed's intent. Nothing old turns.
-/
namespace Go.Proofs.Yteglakdjipkpoac
open Go.RowKit

theorem Try.sizeI : (Try.prog.info? 63).map (·.size) = some 2 := by kernel_rfl

theorem Try.made4S (w : World) : (Instr.makeSlice 41 (.int .i64 4) (.int .i64 4)).run Try.prog w = .ok (.slice (some ⟨w.heap.size, 0, none⟩) 4 4) (w.alloc (.cells #[.slice none 0 0, .slice none 0 0, .slice none 0 0, .slice none 0 0] 48)) :=
  (run_make_row' (P := Try.prog) 41 48 (.slice none 0 0) 24 Try.underlying41 Try.infoS rfl .i64 .i64 4 (by decide) (by decide) w).trans (by rw [show madeCells #[.slice none 0 0] 4 = #[Value.slice none 0 0, .slice none 0 0, .slice none 0 0, .slice none 0 0] from Array.toList_inj.1 (toList_madeCells_one _ _)])

theorem RowingF.made4 (F : Nat → Prop) (w : World) : RowingF F Bs w.heap.size 48 (w.alloc (.cells #[.slice none 0 0, .slice none 0 0, .slice none 0 0, .slice none 0 0] 48)) (.slice (some ⟨w.heap.size, 0, none⟩) 4 4) (List.replicate 4 []) := by
  refine ⟨[.slice none 0 0, .slice none 0 0, .slice none 0 0, .slice none 0 0], ⟨rfl, .inr ⟨w.heap.size, 4, #[.slice none 0 0, .slice none 0 0, .slice none 0 0, .slice none 0 0], rfl, Nat.le_refl _, heap_alloc_new w _, Nat.le_refl _, by unfold maxLen; omega, rfl, rfl⟩⟩, rfl, fun i u x hu hx w' _ => ?_⟩
  have hu' : u = .slice none 0 0 := by
    have := List.mem_of_getElem? hu
    simpa using this
  have hx' : x = [] := by
    have := List.mem_of_getElem? hx
    simpa using this
  subst hu' hx'
  exact Bs.nil _

set_option maxRecDepth 20000 in
set_option maxHeartbeats 3200000 in
theorem refPlan_no (v dv : Value) (a : ArrP) (x : DeedP) (w : World) (h : ArrV w v a) (ha : Whole a) (hd : DeedV w dv x) (he : planE a x ≠ 0) :
    Calls Try.prog 36 #[v, dv] w fun e w' => ∃ r, e = .returned (.tuple #[r, .int .i64 (planE a x)]) ∧ IntentV w' r (planI a x) ∧ Grow w w' := by
  have HP : Hid (planI a x = (0, [])) := if_pos he
  have harr := h
  have hdeed := hd
  obtain ⟨a1, n1, c1, a2, n2, c2, rfl⟩ := h.form
  obtain ⟨sv, rfl, hbd⟩ := hd
  obtain ⟨d1, d2, d3, rfl⟩ := hbd.form
  clear h hbd
  obtain ⟨W, hW⟩ : ∃ W, W = ((w.alloc (.cells #[.slice a1 n1 c1, .slice a2 n2 c2] 26)).alloc (.cells #[.int .i64 x.k, .int .i64 x.n, .int .i64 x.m, .slice d1 d2 d3] 50)).alloc (.cells #[.int .i64 0, .slice none 0 0] 63) := ⟨_, rfl⟩
  have hgW : Grow w W := by rw [hW]; exact ((Grow.alloc _ _).trans (Grow.alloc _ _)).trans (Grow.alloc _ _)
  obtain ⟨H1, H2, H3⟩ := heap3 w (.cells #[.slice a1 n1 c1, .slice a2 n2 c2] 26) (.cells #[.int .i64 x.k, .int .i64 x.n, .int .i64 x.m, .slice d1 d2 d3] 50) (.cells #[.int .i64 0, .slice none 0 0] 63)
  rw [← hW] at H1 H2 H3
  have k0 : W.cell? ⟨w.heap.size, 0, none⟩ = some (.slice a1 n1 c1) := row_at H1 0 rfl
  have k1 : W.cell? ⟨w.heap.size, 1, none⟩ = some (.slice a2 n2 c2) := row_at H1 1 rfl
  have d0' : W.cell? ⟨w.heap.size + 1, 0, none⟩ = some (.int .i64 x.k) := row_at H2 0 rfl
  have d1' : W.cell? ⟨w.heap.size + 1, 1, none⟩ = some (.int .i64 x.n) := row_at H2 1 rfl
  have d2' : W.cell? ⟨w.heap.size + 1, 2, none⟩ = some (.int .i64 x.m) := row_at H2 2 rfl
  have d3' : W.cell? ⟨w.heap.size + 1, 3, none⟩ = some (.slice d1 d2 d3) := row_at H2 3 rfl
  have r0 : W.cell? ⟨w.heap.size + 1 + 1, 0, none⟩ = some (.int .i64 0) := row_at H3 0 rfl
  have r1 : W.cell? ⟨w.heap.size + 1 + 1, 1, none⟩ = some (.slice none 0 0) := row_at H3 1 rfl
  have f0 : W.frozen? ⟨w.heap.size + 1 + 1, 0, none⟩ = false := frozen_of_row W _ 0 _ _ H3
  have f1 : W.frozen? ⟨w.heap.size + 1 + 1, 1, none⟩ = false := frozen_of_row W _ 1 _ _ H3
  clear H1 H2 H3
  have hwr := refWrong_any _ x W (hdeed.grow hgW)
  have hWh := fun w1 => refWhere_any x.n w1
  have hlW : w.heap.size + 1 + 1 < W.heap.size := cell_lt r0
  by_cases hw0 : wrongE x = 0
  · obtain ⟨-, hn0, hn8, -, -⟩ := right_deed hw0
    obtain ⟨hD, hS, hE, hd4, hs3⟩ := where_bd (n := x.n) (by omega)
    have HE : Hid (planE a x = dataE (cellsL a (sOf x.n)) (sOf x.n)) := if_neg (by simp [hw0])
    rw [HE.out] at he
    rw [hD, hS, hE] at hWh
    rw [hw0] at hwr
    clear hD hS hE hw0
    generalize dOf x.n = dn at *
    generalize sOf x.n = s at *
    go_enter Try.func36, Try.ntmps36
    go_wp2_with fail
    rw [← hW]
    refine hwr.mono ?_
    rintro e w1 ⟨rfl, hg1⟩
    have e1 := hg1.at d1'
    go_wp2_with fail
    refine (hWh _).mono ?_
    rintro e w2 ⟨rfl, hg2⟩
    have hg02 := hg1.trans hg2
    have q0 := hg02.at k0
    have q1 := hg02.at k1
    clear hW
    go_wp2_with fail
    refine (refCells_any _ a s _ (harr.grow (hgW.trans hg02)) ha hs3).mono ?_
    rintro e w3 ⟨rc, rfl, hrc, hg3⟩
    go_wp2_with fail
    refine (refData_any _ _ s _ hrc (by rw [cellsL_length, ha.1]; omega)).mono ?_
    rintro e w4 ⟨rd, rfl, hrd, hg4⟩
    have hg04 := (hg02.trans hg3).trans hg4
    have t0 := hg04.at r0
    have t1 := hg04.at r1
    have z0 := (hg04.frozen (a := ⟨w.heap.size + 1 + 1, 0, none⟩) hlW).trans f0
    have z1 := (hg04.frozen (a := ⟨w.heap.size + 1 + 1, 1, none⟩) hlW).trans f1
    clear k0 k1 d0' d1' d2' d3' r0 r1 f0 f1 hwr hWh q0 q1 e1 hg1 hg2 hg3 hg4
    generalize dataE (cellsL a s) s = E at *
    have he' : (E != 0) = true := by simpa using he
    have hgF := hgW.trans hg04
    go_wp2
    refine bodyPost_ret (results_two1 Try.results36 _ _ (w.heap.size + 1 + 1) _ rfl Try.underlying63 rfl Try.sizeI (x := .int .i64 0) (y := .slice none 0 0) (by rw [cell_set_ne (by simp)]; exact World.cell?_setCell_same _ _ _ t0) (World.cell?_setCell_same _ _ _ (by rw [cell_set_ne (by simp)]; exact t1))) rfl ?_
    exact ⟨_, ret_bs2 HE.out.symm, by rw [HP.out]; exact ⟨_, rfl, Sl.nil _ _⟩, (hgF.set (by omega) _).set (by omega) _⟩
  · have HE : Hid (planE a x = wrongE x) := if_pos hw0
    clear he
    generalize wrongE x = E at *
    have he' : (E != 0) = true := by simpa using hw0
    go_enter Try.func36, Try.ntmps36
    go_wp2_with fail
    rw [← hW]
    refine hwr.mono ?_
    rintro e w1 ⟨rfl, hg1⟩
    have t0 := hg1.at r0
    have t1 := hg1.at r1
    have z0 := (hg1.frozen (a := ⟨w.heap.size + 1 + 1, 0, none⟩) hlW).trans f0
    have z1 := (hg1.frozen (a := ⟨w.heap.size + 1 + 1, 1, none⟩) hlW).trans f1
    clear k0 k1 d0' d1' d2' d3' r0 r1 f0 f1 hwr hWh hW
    have hgF := hgW.trans hg1
    go_wp2
    refine bodyPost_ret (results_two1 Try.results36 _ _ (w.heap.size + 1 + 1) _ rfl Try.underlying63 rfl Try.sizeI (x := .int .i64 0) (y := .slice none 0 0) (by rw [cell_set_ne (by simp)]; exact World.cell?_setCell_same _ _ _ t0) (World.cell?_setCell_same _ _ _ (by rw [cell_set_ne (by simp)]; exact t1))) rfl ?_
    exact ⟨_, ret_bs2 HE.out.symm, by rw [HP.out]; exact ⟨_, rfl, Sl.nil _ _⟩, (hgF.set (by omega) _).set (by omega) _⟩

set_option maxRecDepth 20000 in
set_option maxHeartbeats 6400000 in
theorem refPlan_yes (v dv : Value) (a : ArrP) (x : DeedP) (w : World) (h : ArrV w v a) (ha : Whole a) (hd : DeedV w dv x) (he : planE a x = 0) :
    Calls Try.prog 36 #[v, dv] w fun e w' => ∃ r, e = .returned (.tuple #[r, .int .i64 (planE a x)]) ∧ IntentV w' r (planI a x) ∧ Grow w w' := by
  obtain ⟨i0, hi, hz0, hz1, hz2⟩ := info_parts Try.infoS
  have hw0 : wrongE x = 0 := by
    unfold planE at he
    split at he
    · exact he
    · rename_i h; exact Decidable.not_not.1 h
  have hde : dataE (cellsL a (sOf x.n)) (sOf x.n) = 0 := by
    unfold planE at he
    rwa [if_neg (by simp [hw0])] at he
  have HP : Hid (planI a x = ((sOf x.n : Int), makeL (planOut (planBl a x) (sOf x.n)) (sOf x.n))) := if_neg (by simp [he])
  have HB : Hid (planBl a x = doL (spreadTo (dataL (cellsL a (sOf x.n)) (sOf x.n)) (sOf x.n) 9) x) := rfl
  have HE : Hid (planE a x = 0) := he
  have harr := h
  have hdeed := hd
  obtain ⟨a1, n1, c1, a2, n2, c2, rfl⟩ := h.form
  obtain ⟨sv, rfl, hbd⟩ := hd
  obtain ⟨d1, d2, d3, rfl⟩ := hbd.form
  clear h hbd he
  obtain ⟨W, hW⟩ : ∃ W, W = ((w.alloc (.cells #[.slice a1 n1 c1, .slice a2 n2 c2] 26)).alloc (.cells #[.int .i64 x.k, .int .i64 x.n, .int .i64 x.m, .slice d1 d2 d3] 50)).alloc (.cells #[.int .i64 0, .slice none 0 0] 63) := ⟨_, rfl⟩
  have hgW : Grow w W := by rw [hW]; exact ((Grow.alloc _ _).trans (Grow.alloc _ _)).trans (Grow.alloc _ _)
  obtain ⟨H1, H2, H3⟩ := heap3 w (.cells #[.slice a1 n1 c1, .slice a2 n2 c2] 26) (.cells #[.int .i64 x.k, .int .i64 x.n, .int .i64 x.m, .slice d1 d2 d3] 50) (.cells #[.int .i64 0, .slice none 0 0] 63)
  rw [← hW] at H1 H2 H3
  have k0 : W.cell? ⟨w.heap.size, 0, none⟩ = some (.slice a1 n1 c1) := row_at H1 0 rfl
  have k1 : W.cell? ⟨w.heap.size, 1, none⟩ = some (.slice a2 n2 c2) := row_at H1 1 rfl
  have d0' : W.cell? ⟨w.heap.size + 1, 0, none⟩ = some (.int .i64 x.k) := row_at H2 0 rfl
  have d1' : W.cell? ⟨w.heap.size + 1, 1, none⟩ = some (.int .i64 x.n) := row_at H2 1 rfl
  have d2' : W.cell? ⟨w.heap.size + 1, 2, none⟩ = some (.int .i64 x.m) := row_at H2 2 rfl
  have d3' : W.cell? ⟨w.heap.size + 1, 3, none⟩ = some (.slice d1 d2 d3) := row_at H2 3 rfl
  have hRW := H3
  clear H1 H2 H3
  have hwr := refWrong_any _ x W (hdeed.grow hgW)
  have hWh := fun w1 => refWhere_any x.n w1
  obtain ⟨-, hn0, hn8, -, -⟩ := right_deed hw0
  obtain ⟨hD, hS, hEw, hd4, hs3⟩ := where_bd (n := x.n) (by omega)
  rw [hD, hS, hEw] at hWh
  have Hw0 : Hid (wrongE x = 0) := hw0
  rw [hw0] at hwr
  clear hD hS hEw hw0
  generalize dOf x.n = dn at *
  generalize sOf x.n = s at *
  have hdl := dataL_length hde
  rw [cellsL_length, ha.1] at hdl
  have hdb := dataL_blocks hde
  go_enter Try.func36, Try.ntmps36
  go_wp2_with fail
  rw [← hW]
  refine hwr.mono ?_
  rintro e w1 ⟨rfl, hg1⟩
  have e1 := hg1.at d1'
  go_wp2_with fail
  refine (hWh _).mono ?_
  rintro e w2 ⟨rfl, hg2⟩
  have hg02 := hg1.trans hg2
  have q0 := hg02.at k0
  have q1 := hg02.at k1
  clear hW
  go_wp2_with fail
  refine (refCells_any _ a s _ (harr.grow (hgW.trans hg02)) ha hs3).mono ?_
  rintro e w3 ⟨rc, rfl, hrc, hg3⟩
  go_wp2_with fail
  refine (refData_any _ _ s _ hrc (by rw [cellsL_length, ha.1]; omega)).mono ?_
  rintro e w4 ⟨rd, rfl, hrd, hg4⟩
  rw [hde]
  have hg04 := (hg02.trans hg3).trans hg4
  clear k0 k1 hwr hWh q0 q1 e1 hg1 hg2 hg3 hg4 hrc hde
  generalize dataL (cellsL a s) s = ds at *
  obtain ⟨rda, rdc, rfl, hrd1, hrd2⟩ := hrd.form'
  rw [hdl] at hrd1 hrd ⊢
  obtain ⟨db, doff, du, rfl, -, -⟩ := hrd.elem (k := 0) (by omega) []
  go_wp2_with fail
  refine (refNew_any _).mono ?_
  rintro e w5 ⟨r, rfl, hrow, hg5⟩
  obtain ⟨g, cap, hr, hgb, hgl⟩ := hrow.form (by simp)
  rw [List.length_replicate] at hr
  subst hr
  rw [← spreadTo_zero ds s] at hrow
  have hcap := hrow.cap
  go_wp2
  go_loopw [52] (fun i wr => ∃ k : Nat, k ≤ 9 ∧ i = .int .i64 k ∧ Hid (Rowing Bs w4.heap.size 48 wr (.slice (some ⟨g, 0, none⟩) 9 cap) (spreadTo ds s k)) ∧ Grow w4 wr) (fun i _ => 9 - (intOf i).toNat)
  case atStart => exact ⟨0, by omega, rfl, hrow, hg5⟩
  case round =>
    obtain ⟨k, hk, rfl, HR, hgr⟩ := hrel
    by_cases hlt : k < 9
    · obtain ⟨hD, hS, hEw, hdk, hsk⟩ := where_bd (n := (k : Int)) (by omega)
      have hWk := fun w1 => refWhere_any (k : Int) w1
      rw [hD, hS, hEw] at hWk
      clear hD hS hEw
      obtain ⟨b', off', u', hb', hu', hr'⟩ := hrd.elem (k := dOf (k : Int)) (by omega) []
      injection hb' with hb'
      cases hb'
      obtain ⟨x1, x2, x3, rfl⟩ := hr'.form
      have Hin : Hid (sOf (k : Int) = s → (spreadTo ds s k).set k (ds.getD (dOf (k : Int)) []) = spreadTo ds s (k + 1)) := fun h => spreadTo_in h
      have Hout : Hid (sOf (k : Int) ≠ s → spreadTo ds s k = spreadTo ds s (k + 1)) := fun h => spreadTo_out h
      have Hlen : Hid ((spreadTo ds s k).length = 9) := spreadTo_length ds s k
      generalize dOf (k : Int) = dk at *
      generalize sOf (k : Int) = sk at *
      go_wp2_with fail
      refine (hWk _).mono ?_
      rintro e w6 ⟨rfl, hg6⟩
      have hgr6 := hgr.trans hg6
      have hu6 := hgr6.at hu'
      have HR6 : Hid (Rowing Bs w4.heap.size 48 w6 (.slice (some ⟨g, 0, none⟩) 9 cap) (spreadTo ds s k)) := HR.out.grow hg6
      obtain ⟨⟨uo, hcu⟩, hfu⟩ := HR6.out.at (k := k) (by rw [Hlen.out]; exact hlt)
      by_cases hsks : sk = s
      · have HN := HR6.out.stored k (u := .slice x1 x2 x3) (x := ds.getD dk []) (Off.old Bs.stays hr' hgr6 (fun j hj => by cases hj; exact hgb))
        rw [Hin.out hsks] at HN
        have HN' : Hid (Rowing Bs w4.heap.size 48 _ (.slice (some ⟨g, 0, none⟩) 9 cap) (spreadTo ds s (k + 1))) := HN
        clear HN HR HR6 Hin Hout Hlen hr'
        subst hsks
        go_wp2
        go_roundw
        case rel => first | exact ⟨k + 1, by omega, by go_num, HN', hgr6.set hgb _⟩ | ((repeat apply Exists.intro); exact ⟨⟨k + 1, by omega, by go_num, HN', hgr6.set hgb _⟩, rfl⟩)
        case measure => simp [intOf]; omega
      · have HN' : Hid (Rowing Bs w4.heap.size 48 w6 (.slice (some ⟨g, 0, none⟩) 9 cap) (spreadTo ds s (k + 1))) := by rw [Hid, ← Hout.out hsks]; exact HR6.out
        have hsk' : ¬ (sk : Int) = s := by omega
        clear HR HR6 Hin Hout Hlen hr' hsks
        go_wp2
        go_roundw
        case rel => first | exact ⟨k + 1, by omega, by go_num, HN', hgr6⟩ | ((repeat apply Exists.intro); exact ⟨⟨k + 1, by omega, by go_num, HN', hgr6⟩, rfl⟩)
        case measure => simp [intOf]; omega
    · have HK : Hid (k = 9) := by rw [Hid]; omega
      have HS9 : Hid (Bss wr (.slice (some ⟨g, 0, none⟩) 9 cap) (spreadTo ds s 9)) := by
        have := HR.out.done
        rw [HK.out] at this
        exact this
      have hg0r := hg04.trans hgr
      have e0 := hg0r.at d0'
      have e1 := hg0r.at d1'
      have e2 := hg0r.at d2'
      have e3 := hg0r.at d3'
      have hR6 := hg0r.block' hRW
      have hsb := spread_blocks hdb hdl s 9
      have Hb4 : Hid (∀ b ∈ planBl a x, b.length = 4) := by rw [Hid, HB.out]; exact doL_blocks hsb (spreadTo_length _ _ _) Hw0.out
      have Hb9 : Hid ((planBl a x).length = 9) := by rw [Hid, HB.out, doL_length, spreadTo_length]
      have hgwr := hgW.trans hg0r
      clear HR hrow hrd hRW d0' d1' d2' d3' hg5 hgl hcap
      go_wp2_with fail
      refine (refDo_any _ _ (spreadTo ds s 9) x _ HS9.out (hdeed.grow hgwr) (spreadTo_length _ _ _) Hw0.out).mono ?_
      rintro e w6 ⟨rb, rfl, hrb, hg6⟩
      rw [← HB.out] at hrb
      have hR7 := hg6.block' hR6
      have hgw6 := hgwr.trans hg6
      clear HB HS9 e0 e1 e2 e3 hR6 hsb hdb hdl
      generalize planBl a x = bl at *
      obtain ⟨rba, rbc, rfl, hrb1, hrb2⟩ := hrb.form'
      rw [Hb9.out] at hrb1 hrb ⊢
      obtain ⟨bb, boff, bu, rfl, -, -⟩ := hrb.elem (k := 0) (by rw [Hb9.out]; omega) []
      have hmk := Try.made4S w6
      have hwl : w.heap.size + 1 + 1 < w6.heap.size := by
        have := two_at0 hR7
        exact cell_lt this
      have hstart : Hid (RowingF (fun j => w6.heap.size < j) Bs w6.heap.size 48 (w6.alloc (.cells #[.slice none 0 0, .slice none 0 0, .slice none 0 0, .slice none 0 0] 48)) (.slice (some ⟨w6.heap.size, 0, none⟩) 4 4) (outTo bl s 0)) := RowingF.made4 _ w6
      have hgd : Grow w6 (w6.alloc (.cells #[.slice none 0 0, .slice none 0 0, .slice none 0 0, .slice none 0 0] 48)) := Grow.alloc _ _
      have hsz7 : w6.heap.size + 1 ≤ (w6.alloc (.cells #[.slice none 0 0, .slice none 0 0, .slice none 0 0, .slice none 0 0] 48)).heap.size := by simp
      go_wp2
      go_loopw [18, 78] (fun l i wr => ∃ k : Nat, k ≤ 9 ∧ i = .int .i64 k ∧ Hid (RowingF (fun j => j = w6.heap.size) Bs (w6.heap.size + 1) 48 wr l (rowTo bl s k)) ∧ Hid (RowingF (fun j => w6.heap.size < j) Bs w6.heap.size 48 wr (.slice (some ⟨w6.heap.size, 0, none⟩) 4 4) (outTo bl s k)) ∧ Grow w6 wr ∧ w6.heap.size + 1 ≤ wr.heap.size) (fun _ i _ => 9 - (intOf i).toNat)
      case atStart => exact ⟨0, by omega, rfl, RowingF.nil _ _ _ _ _, hstart, hgd, hsz7⟩
      case round =>
        obtain ⟨q, hq, rfl, HL, HO, hgr7, hsz⟩ := hrel
        clear hstart hmk hgd hsz7
        by_cases hlt9 : q < 9
        · obtain ⟨hD, hS, hEw, hdk, hsk⟩ := where_bd (n := (q : Int)) (by omega)
          have hWk := fun w1 => refWhere_any (q : Int) w1
          rw [hD, hS, hEw] at hWk
          clear hD hS hEw
          obtain ⟨b', off', u', hb', hu', hr'⟩ := hrb.elem (k := q) (by rw [Hb9.out]; omega) []
          injection hb' with hb'
          cases hb'
          obtain ⟨x1, x2, x3, rfl⟩ := hr'.form
          have Hin : Hid (sOf (q : Int) = s → (outTo bl s q).set (dOf (q : Int)) (bl.getD q []) = outTo bl s (q + 1) ∧ rowTo bl s q ++ [bl.getD q []] = rowTo bl s (q + 1)) := fun h => ⟨outTo_in h, rowTo_in h⟩
          have Hout : Hid (sOf (q : Int) ≠ s → outTo bl s q = outTo bl s (q + 1) ∧ rowTo bl s q = rowTo bl s (q + 1)) := fun h => ⟨outTo_out h, rowTo_out h⟩
          have Hlen : Hid ((outTo bl s q).length = 4) := outTo_length bl s q
          have hrl := rowTo_length bl s q
          generalize dOf (q : Int) = dk at *
          generalize sOf (q : Int) = sk at *
          have hu7 := hgr7.at hu'
          have hdk' : (dk : Int) < 4 := by omega
          go_wp2_with fail
          refine (hWk _).mono ?_
          rintro e w7 ⟨rfl, hg7⟩
          have hgr77 := hgr7.trans hg7
          have hsz77 : w6.heap.size + 1 ≤ w7.heap.size := Nat.le_trans hsz hg7.size
          have HL7 : Hid (RowingF (fun j => j = w6.heap.size) Bs (w6.heap.size + 1) 48 w7 u18 (rowTo bl s q)) := HL.out.grow hg7
          have HO7 : Hid (RowingF (fun j => w6.heap.size < j) Bs w6.heap.size 48 w7 (.slice (some ⟨w6.heap.size, 0, none⟩) 4 4) (outTo bl s q)) := HO.out.grow hg7
          clear HL HO
          by_cases hsks : sk = s
          · obtain ⟨⟨uo, hcu⟩, hfu⟩ := HO7.out.plain.at (k := dk) (by rw [Hlen.out]; exact hdk)
            have hbase := fun j hj => (HL7.out.base j hj).1
            have hoff := fun G hG => OffG.old (G := G) Bs.stays hr' hgr77 hG
            have HO8 : Hid (RowingF (fun j => w6.heap.size < j) Bs w6.heap.size 48 (w7.setCell ⟨w6.heap.size, dk, none⟩ (.slice x1 x2 x3)) (.slice (some ⟨w6.heap.size, 0, none⟩) 4 4) (outTo bl s (q + 1))) := by
              have := HO7.out.stored dk (hoff (fun j => w6.heap.size < j ∨ some w6.heap.size = some j) (fun j hj => by
                rcases hj with hj | hj
                · omega
                · injection hj with hj; omega))
              rw [(Hin.out hsks).1] at this
              exact this
            have hrowL := HL7.out.set (A := w6.heap.size) rfl (fun e => by have := hbase _ e; omega) dk (.slice x1 x2 x3)
            have hoffL : OffG Bs (fun j => j = w6.heap.size ∨ u18.ownBlock = some j) (w7.setCell ⟨w6.heap.size, dk, none⟩ (.slice x1 x2 x3)) (.slice x1 x2 x3) (bl.getD q []) := (hoff _ (fun j hj => by
                rcases hj with hj | hj
                · omega
                · have := hbase j hj; omega)).step (grownIn_set w7 w6.heap.size dk _ (.inl rfl))
            have hG8 : Grow w6 (w7.setCell ⟨w6.heap.size, dk, none⟩ (.slice x1 x2 x3)) := hgr77.set (by show w6.heap.size ≤ w6.heap.size; omega) _
            have hT := (Hin.out hsks).2
            have hsz8 : w6.heap.size + 1 ≤ (w7.setCell ⟨w6.heap.size, dk, none⟩ (.slice x1 x2 x3)).heap.size := by simpa using hsz77
            clear HL7 HO7 Hin Hout Hlen hoff hr'
            subst hsks
            go_wp2_with (first
              | (at_builtin; refine wpList_pushF rfl (.tmp 96) (.tmp 98) 41 rfl i0 (.slice none 0 0) 24 Try.underlying41 hi hz0 hz1 hz2 rfl w6 hG8 (by omega) hsz8 rfl hrowL rfl hoffL w7.heap.size (by simp) rfl (by omega) (by omega) ?_; rintro v1 w8 - hrow8 hg8 hgi8))
            rw [hT] at hrow8
            have HO9 := HO8.out.kept (hgi8.mono (fun j hj => by have := hbase j hj; show w6.heap.size < j; omega)) (fun j hj => by cases hj; exact Nat.lt_irrefl _)
            have HO9' : Hid (RowingF (fun j => w6.heap.size < j) Bs w6.heap.size 48 w8 (.slice (some ⟨w6.heap.size, 0, none⟩) 4 4) _) := HO9
            have hsz9 : w6.heap.size + 1 ≤ w8.heap.size := Nat.le_trans hsz8 hgi8.size
            clear HO9 HO8
            go_wp2
            go_roundw
            case rel => first | exact ⟨q + 1, by omega, by go_num, hrow8, HO9', hg8, hsz9⟩ | ((repeat apply Exists.intro); exact ⟨⟨q + 1, by omega, by go_num, hrow8, HO9', hg8, hsz9⟩, rfl⟩)
            case measure => simp [intOf]; omega
          · have hsk' : ¬ (sk : Int) = s := by omega
            have HL8 : Hid (RowingF (fun j => j = w6.heap.size) Bs (w6.heap.size + 1) 48 w7 u18 (rowTo bl s (q + 1))) := by rw [Hid, ← (Hout.out hsks).2]; exact HL7.out
            have HO8 : Hid (RowingF (fun j => w6.heap.size < j) Bs w6.heap.size 48 w7 (.slice (some ⟨w6.heap.size, 0, none⟩) 4 4) (outTo bl s (q + 1))) := by rw [Hid, ← (Hout.out hsks).1]; exact HO7.out
            clear HL7 HO7 Hin Hout Hlen hr' hsks
            go_wp2
            go_roundw
            case rel => first | exact ⟨q + 1, by omega, by go_num, HL8, HO8, hgr77, hsz77⟩ | ((repeat apply Exists.intro); exact ⟨⟨q + 1, by omega, by go_num, HL8, HO8, hgr77, hsz77⟩, rfl⟩)
            case measure => simp [intOf]; omega
        · have HQ : Hid (q = 9) := by rw [Hid]; omega
          have HLd : Hid (Bss wr u18 (rowTo bl s 9)) := by have := HL.out.done; rw [HQ.out] at this; exact this
          have HOp : Hid (Rowing Bs w6.heap.size 48 wr (.slice (some ⟨w6.heap.size, 0, none⟩) 4 4) (outTo bl s 9)) := by have := HO.out.plain; rw [HQ.out] at this; exact this
          have HX4 : Hid (∀ b ∈ rowTo bl s 9, b.length = 4) := rowTo_blocks Hb4.out Hb9.out s 9 (by omega)
          have hoct := xorAll_octets HLd.out.octets
          have hR8 := hgr7.block' hR7
          have hSp : ∀ w1, Calls Try.prog 56 #[.int .i64 (s : Int)] w1 fun e w' => e = .returned (.int .i64 ((3 - s : Nat) : Int)) ∧ Grow w1 w' := fun w1 => (refSpare_any (s : Int) w1 (by omega) (by omega)).mono fun e w' ⟨he, hg⟩ => ⟨he.trans (ret_int (by omega)), hg⟩
          have Hpo : Hid (planOut bl s = (outTo bl s 9).set (3 - s) (xorAll (rowTo bl s 9))) := rfl
          have Hpb : Hid (∀ b ∈ planOut bl s, b.length = 4) := planOut_blocks Hb4.out Hb9.out hs3
          have Hpl : Hid ((planOut bl s).length = 4) := planOut_length bl s
          have Hol : Hid ((outTo bl s 9).length = 4) := outTo_length bl s 9
          have htl : 3 - s < 4 := by omega
          clear HL HO hrb hR7
          generalize 3 - s = t at *
          have htl' : (t : Int) < 4 := by omega
          go_wp2_with fail
          refine (hSp _).mono ?_
          rintro e w7 ⟨rfl, hg7⟩
          go_wp2_with fail
          refine (refXor_new _ _ _ (HLd.out.grow hg7) HX4.out).mono ?_
          rintro e w8 ⟨rfl, HX, hg8⟩
          have hg78 := hg7.trans hg8
          have HO8 : Hid (Rowing Bs w6.heap.size 48 w8 (.slice (some ⟨w6.heap.size, 0, none⟩) 4 4) (outTo bl s 9)) := HOp.out.grow hg78
          obtain ⟨⟨uo, hcu⟩, hfu⟩ := HO8.out.at (k := t) (by rw [Hol.out]; exact htl)
          have hne : w6.heap.size ≠ w7.heap.size := by have := hg7.size; omega
          have hst := HO8.out.stored t (Off.row (g := some w6.heap.size) HX.out (xorAll_length _) (by unfold maxLen; omega) hoct (fun e => by injection e with e; exact hne e))
          rw [← Hpo.out] at hst
          have HS : Hid (Bss (w8.setCell ⟨w6.heap.size, t, none⟩ (.slice (some ⟨w7.heap.size, 0, none⟩) 4 4)) (.slice (some ⟨w6.heap.size, 0, none⟩) 4 4) (planOut bl s)) := hst.done
          have hgl8 : Grow w6 (w8.setCell ⟨w6.heap.size, t, none⟩ (.slice (some ⟨w7.heap.size, 0, none⟩) 4 4)) := (hgr7.trans hg78).set (by show w6.heap.size ≤ w6.heap.size; omega) _
          have hR9 : (w8.setCell ⟨w6.heap.size, t, none⟩ (.slice (some ⟨w7.heap.size, 0, none⟩) 4 4)).heap[w.heap.size + 1 + 1]? = _ := (Below.heap_setCell w8 ⟨w6.heap.size, t, none⟩ _ _ (by show w.heap.size + 1 + 1 ≠ w6.heap.size; omega)).trans (hg78.block' hR8)
          clear HOp HO8 hst HX HLd HX4 hR8 hoct Hpo Hol
          go_wp2_with fail
          refine (refMake_any _ _ (s : Int) _ HS.out (by rw [Hpl.out]; omega) (by omega) Hpb.out).mono ?_
          rintro e w9 ⟨rm, rfl, hrm, hg9⟩
          have hml : (makeL (planOut bl s) (s : Int)).length = 4 := by simp [makeL, Hpl.out]
          obtain ⟨ga, ca, hrf, hga, hgal⟩ := hrm.form (by omega)
          rw [hml] at hrf
          subst hrf
          have hR10 := hg9.block' hR9
          have hbx : BssX (some (w.heap.size + 1 + 1)) w9 (.slice (some ⟨ga, 0, none⟩) 4 ca) (makeL (planOut bl s) (s : Int)) := Itn.bss ⟨_, _, _, _, _, hR10⟩ hrm.done (by omega)
          have t0 := two_at0 hR10
          have t1 := two_at1 hR10
          have z0 : w9.frozen? ⟨w.heap.size + 1 + 1, 0, none⟩ = false := frozen_of_row w9 _ 0 _ _ hR10
          have z1 : w9.frozen? ⟨w.heap.size + 1 + 1, 1, none⟩ = false := frozen_of_row w9 _ 1 _ _ hR10
          have hgF := (hgw6.trans hgl8).trans hg9
          have Hbx : Hid (BssX (some (w.heap.size + 1 + 1)) w9 (.slice (some ⟨ga, 0, none⟩) 4 ca) (makeL (planOut bl s) (s : Int))) := hbx
          clear hbx hrm hR9 hR10 HS
          go_wp2
          refine bodyPost_ret (results_two1 Try.results36 _ _ (w.heap.size + 1 + 1) _ rfl Try.underlying63 rfl Try.sizeI (x := .int .i64 (s : Int)) (y := .slice (some ⟨ga, 0, none⟩) 4 ca) (by rw [cell_set_ne (by simp)]; exact World.cell?_setCell_same _ _ _ t0) (World.cell?_setCell_same _ _ _ (by rw [cell_set_ne (by simp)]; exact t1))) rfl ?_
          exact ⟨_, ret_bs2 HE.out.symm, by rw [HP.out]; exact ⟨_, rfl, ((Hbx.out.step (grown_set _ _ _ _)).step (grown_set _ _ _ _)).plain⟩, (hgF.set (by omega) _).set (by omega) _⟩

theorem refPlan_any (v dv : Value) (a : ArrP) (x : DeedP) (w : World) (h : ArrV w v a) (ha : Whole a) (hd : DeedV w dv x) :
    Calls Try.prog 36 #[v, dv] w fun e w' => ∃ r, e = .returned (.tuple #[r, .int .i64 (planE a x)]) ∧ IntentV w' r (planI a x) ∧ Grow w w' := by
  by_cases he : planE a x = 0
  · exact refPlan_yes v dv a x w h ha hd he
  · exact refPlan_no v dv a x w h ha hd he

end Go.Proofs.Yteglakdjipkpoac
