import Derived.Test.YtjggiameajndgabJoin12
/-
  What the reference's Do and Step return. Nothing old turns.
-/
namespace Go.Proofs.Ytjggiameajndgab
open Go.RowKit

/-- An array is laid into the two cells of the result. -/
theorem two_fin {w wN : World} {R : Nat} {x1 x2 x3 y1 y2 y3 : _} {p q : Value} {t : TypeId} {b : ArrP} (hR : wN.heap[R]? = some (.cells #[.slice x1 x2 x3, .slice y1 y2 y3] t (0, 0))) (hw : w.heap.size ≤ R) (hg : Grow w wN)
    (hv : ArrV wN (.agg #[p, q]) b) (hb : Whole b) (hf : Fours b) :
    ArrV ((wN.setCell ⟨R, 0, none⟩ p).setCell ⟨R, 1, none⟩ q) (.agg #[p, q]) b ∧ ((wN.setCell ⟨R, 0, none⟩ p).setCell ⟨R, 1, none⟩ q).cell? ⟨R, 0, none⟩ = some p ∧ ((wN.setCell ⟨R, 0, none⟩ p).setCell ⟨R, 1, none⟩ q).cell? ⟨R, 1, none⟩ = some q ∧ Grow w ((wN.setCell ⟨R, 0, none⟩ p).setCell ⟨R, 1, none⟩ q) :=
  ⟨Two.store ⟨_, _, _, _, _, _, _, hR⟩ hv hb hf _ _, by rw [cell_set_ne (by simp)]; exact World.cell?_setCell_same _ _ _ (two_at0 hR), World.cell?_setCell_same _ _ _ (by rw [cell_set_ne (by simp)]; exact two_at1 hR), (hg.set hw _).set hw _⟩

/-- What stands in a result's cells: they may be written. -/
theorem two_open {wN : World} {R : Nat} {x y : Value} {t : TypeId} (hR : wN.heap[R]? = some (.cells #[x, y] t (0, 0))) : wN.cell? ⟨R, 0, none⟩ = some x ∧ wN.cell? ⟨R, 1, none⟩ = some y ∧ wN.frozen? ⟨R, 0, none⟩ = false ∧ wN.frozen? ⟨R, 1, none⟩ = false :=
  ⟨two_at0 hR, two_at1 hR, frozen_of_row wN _ 0 _ _ hR, frozen_of_row wN _ 1 _ _ hR⟩

theorem ret_v2 {v : Value} {k2 : IntKind} {a2 b2 : Int} (h2 : a2 = b2) : Ending.returned (.tuple #[v, .int k2 a2]) = .returned (.tuple #[v, .int k2 b2]) := by rw [h2]

set_option maxRecDepth 20000 in
set_option maxHeartbeats 3200000 in
theorem refDo6_any (v dv : Value) (a : ArrP) (x : DeedP) (w : World) (h : ArrV w v a) (ha : Arr a) (hd : DeedV w dv x) :
    Calls Try.prog 35 #[v, dv] w fun e w' => ∃ r, e = .returned (.tuple #[r, .int .i64 (planE a x)]) ∧ ArrV w' r (doA a x) ∧ Grow w w' := by
  have harr := h
  have hdeed := hd
  obtain ⟨a1, n1, c1, a2, n2, c2, rfl⟩ := h.form
  obtain ⟨sv, rfl, hbd⟩ := hd
  obtain ⟨d1, d2, d3, rfl⟩ := hbd.form
  clear h hbd
  obtain ⟨W, hW⟩ : ∃ W, W = ((w.alloc (.cells #[.slice a1 n1 c1, .slice a2 n2 c2] 39)).alloc (.cells #[.int .i64 x.k, .int .i64 x.n, .int .i64 x.m, .slice d1 d2 d3] 25)).alloc (.cells #[.slice none 0 0, .slice none 0 0] 39) := ⟨_, rfl⟩
  have hgW : Grow w W := by rw [hW]; exact ((Grow.alloc _ _).trans (Grow.alloc _ _)).trans (Grow.alloc _ _)
  obtain ⟨H1, H2, H3⟩ := heap3 w (.cells #[.slice a1 n1 c1, .slice a2 n2 c2] 39) (.cells #[.int .i64 x.k, .int .i64 x.n, .int .i64 x.m, .slice d1 d2 d3] 25) (.cells #[.slice none 0 0, .slice none 0 0] 39)
  rw [← hW] at H1 H2 H3
  have k0 := row_at H1 0 rfl
  have k1 := row_at H1 1 rfl
  have d0' := row_at H2 0 rfl
  have d1' := row_at H2 1 rfl
  have d2' := row_at H2 2 rfl
  have d3' := row_at H2 3 rfl
  have hpl := refPlan_any _ _ a x W (harr.grow hgW) ha.whole (hdeed.grow hgW)
  have hlW : w.heap.size + 1 + 1 < W.heap.size := cell_lt (row_at H3 0 rfl)
  by_cases he : planE a x = 0
  · have HD : Hid (doA a x = writeTo a (planI a x) 6) := if_pos he
    have HE : Hid (planE a x = 0) := he
    obtain ⟨s, hs3, -, -, -, hi⟩ := planI_ok he
    obtain ⟨hc4, -⟩ := planI_cells ha.whole he
    have hA := doA_arr ha x
    rw [HD.out] at hA
    rw [hi] at hA hc4 hpl
    rw [he] at hpl
    have HD' : Hid (doA a x = writeTo a ((s : Int), makeL (planOut (planBl a x) s) s) 6) := by rw [Hid, HD.out, hi]
    clear HD hi he
    simp only at hc4
    generalize makeL (planOut (planBl a x) s) s = cs at *
    go_enter Try.func35, Try.ntmps35
    go_wp2_with fail
    rw [← hW]
    refine hpl.mono ?_
    rintro e w1 ⟨r, rfl, ⟨cv, rfl, hcv⟩, hg1⟩
    obtain ⟨vc, cc, rfl⟩ := hcv.form
    rw [hc4] at hcv ⊢
    clear hW hpl
    have q0 := hg1.at k0
    have q1 := hg1.at k1
    have hg2 : Grow w1 (w1.alloc (.cells #[.int .i64 s, .slice vc 4 cc] 62)) := Grow.alloc _ _
    have q0' := hg2.at q0
    have q1' := hg2.at q1
    have hgT := (hgW.trans hg1).trans hg2
    have hwr := refWrite_any _ _ a s cs 6 _ (harr.grow hgT) ha.whole ⟨_, rfl, hcv.grow hg2⟩ hs3 hc4 ha.fours
    have hR2 := (hg1.trans hg2).block' H3
    clear H1 H2 H3 k0 k1 d0' d1' d2' d3'
    go_wp2_with fail
    refine hwr.mono ?_
    rintro e w3 ⟨r, rfl, hr, hg3⟩
    rw [writeTo_six] at hr
    obtain ⟨p1, p2, p3, r1, r2, r3, rfl⟩ := hr.form
    have hR3 := hg3.block' hR2
    obtain ⟨t0, t1, f0, f1⟩ := two_open hR3
    obtain ⟨hv, z0, z1, hg⟩ := two_fin hR3 (by omega) (hgT.trans hg3) hr hA.whole hA.fours
    have hfin : Hid (_ ∧ _) := ⟨hv, hg⟩
    clear hv hg hr hwr hcv hR2 hR3 q0 q1 q0' q1'
    go_wp2
    refine bodyPost_ret (results_two1 Try.results35 _ _ (w.heap.size + 1 + 1) _ rfl Try.underlying39 rfl Try.sizeA z0 z1) rfl ?_
    exact ⟨_, ret_v2 HE.out.symm, by rw [HD'.out]; exact hfin.out.1, hfin.out.2⟩
  · have HD : Hid (doA a x = a) := if_neg he
    have HI : planI a x = (0, []) := if_pos he
    rw [HI] at hpl
    clear HI
    generalize planE a x = E at *
    have he' : (E != 0) = true := by simpa using he
    go_enter Try.func35, Try.ntmps35
    go_wp2_with fail
    rw [← hW]
    refine hpl.mono ?_
    rintro e w1 ⟨r, rfl, ⟨cv, rfl, hcv⟩, hg1⟩
    obtain ⟨vc, cc, rfl⟩ := hcv.form
    clear hW hpl
    simp only [List.length_nil]
    have q0 := hg1.at k0
    have q1 := hg1.at k1
    have hg2 : Grow w1 (w1.alloc (.cells #[.int .i64 0, .slice vc 0 cc] 62)) := Grow.alloc _ _
    have q0' := hg2.at q0
    have q1' := hg2.at q1
    have hgT := (hgW.trans hg1).trans hg2
    have hR2 := (hg1.trans hg2).block' H3
    clear H1 H2 H3 k0 k1 d0' d1' d2' d3'
    obtain ⟨t0, t1, f0, f1⟩ := two_open hR2
    obtain ⟨hv, z0, z1, hg⟩ := two_fin hR2 (by omega) hgT (harr.grow hgT) ha.whole ha.fours
    have hfin : Hid (_ ∧ _) := ⟨hv, hg⟩
    clear hv hg hcv hR2
    go_wp2
    refine bodyPost_ret (results_two1 Try.results35 _ _ (w.heap.size + 1 + 1) _ rfl Try.underlying39 rfl Try.sizeA z0 z1) rfl ?_
    exact ⟨_, rfl, by rw [HD.out]; exact hfin.out.1, hfin.out.2⟩

theorem refMount_any (v : Value) (b : ArrP) (w : World) (h : ArrV w v b) (hb : Whole b) (hi : b.is = [] ∨ ∃ (s : Nat) (cs : List (List Int)), b.is = [((s : Int), cs)] ∧ s < 3 ∧ cs.length = 4) :
    Calls Try.prog 46 #[v] w fun e w' => ∃ r, e = .returned r ∧ ArrV w' r (mountL b) ∧ Grow w w' := by
  rcases hi with hi | ⟨s, cs, hi, hs, hc⟩
  · have : mountL b = b := by rw [mountL, hi]
    rw [this]
    exact refMount_none v b w h hi
  · have : mountL b = writeTo b ((s : Int), cs) 6 := by rw [mountL, hi]
    rw [this]
    exact refMount_one v b s cs w h hb hi hs hc

/-- What intents there are behind some of the writes. -/
theorem writeL_is {a : ArrP} (h : a.is = []) (i : Int × List (List Int)) (n : Int) : (writeL a i n).is = [] ∨ (writeL a i n).is = [i] := by
  rw [writeL]
  have := many6_le n
  generalize many6 n = k at *
  by_cases h0 : k = 0
  · subst h0; exact .inl h
  by_cases h6 : k = 6
  · subst h6; exact .inl rfl
  · exact .inr (writeTo_is_mid a i k (by omega) (by omega))

/-- A step, as it lies. -/
def StepV (w : World) (v : Value) (x : StepP) : Prop := ∃ dv, v = .agg #[.int .i64 x.k, .int .i64 x.n, .int .i64 x.m, .int .i64 x.d.k, .int .i64 x.d.n, .int .i64 x.d.m, dv] ∧ Bs w dv x.d.d ∧ x.n ≤ 9223372036854775807
theorem StepV.grow {w w' : World} {v : Value} {x : StepP} (h : StepV w v x) (hg : Grow w w') : StepV w' v x := by
  obtain ⟨dv, hv, hb, hn⟩ := h
  exact ⟨dv, hv, hb.grow hg, hn⟩

/-- The world behind a step's boxes, and what stands there. -/
structure Boxes (w W : World) (a1 : Option Addr) (n1 c1 : Nat) (a2 : Option Addr) (n2 c2 : Nat) (x : StepP) (dv : Value) : Prop where
  grow : Grow w W
  k0 : W.cell? ⟨w.heap.size, 0, none⟩ = some (.slice a1 n1 c1)
  k1 : W.cell? ⟨w.heap.size, 1, none⟩ = some (.slice a2 n2 c2)
  s0 : W.cell? ⟨w.heap.size + 1, 0, none⟩ = some (.int .i64 x.k)
  s1 : W.cell? ⟨w.heap.size + 1, 1, none⟩ = some (.int .i64 x.n)
  s2 : W.cell? ⟨w.heap.size + 1, 2, none⟩ = some (.int .i64 x.m)
  s3 : W.cell? ⟨w.heap.size + 1, 3, none⟩ = some (.int .i64 x.d.k)
  s4 : W.cell? ⟨w.heap.size + 1, 4, none⟩ = some (.int .i64 x.d.n)
  s5 : W.cell? ⟨w.heap.size + 1, 5, none⟩ = some (.int .i64 x.d.m)
  s6 : W.cell? ⟨w.heap.size + 1, 6, none⟩ = some dv
  res : W.heap[w.heap.size + 1 + 1]? = some (.cells #[.slice none 0 0, .slice none 0 0] 39 (0, 0))

theorem Boxes.mk' (w : World) (a1 : Option Addr) (n1 c1 : Nat) (a2 : Option Addr) (n2 c2 : Nat) (x : StepP) (dv : Value) :
    Boxes w (((w.alloc (.cells #[.slice a1 n1 c1, .slice a2 n2 c2] 39)).alloc (.cells #[.int .i64 x.k, .int .i64 x.n, .int .i64 x.m, .int .i64 x.d.k, .int .i64 x.d.n, .int .i64 x.d.m, dv] 82)).alloc (.cells #[.slice none 0 0, .slice none 0 0] 39)) a1 n1 c1 a2 n2 c2 x dv := by
  obtain ⟨H1, H2, H3⟩ := heap3 w (.cells #[.slice a1 n1 c1, .slice a2 n2 c2] 39) (.cells #[.int .i64 x.k, .int .i64 x.n, .int .i64 x.m, .int .i64 x.d.k, .int .i64 x.d.n, .int .i64 x.d.m, dv] 82) (.cells #[.slice none 0 0, .slice none 0 0] 39)
  exact ⟨((Grow.alloc _ _).trans (Grow.alloc _ _)).trans (Grow.alloc _ _), row_at H1 0 rfl, row_at H1 1 rfl, row_at H2 0 rfl, row_at H2 1 rfl, row_at H2 2 rfl, row_at H2 3 rfl, row_at H2 4 rfl, row_at H2 5 rfl, row_at H2 6 rfl, H3⟩

set_option maxRecDepth 20000 in
set_option maxHeartbeats 1600000 in
theorem refStep_any (v sv : Value) (a : ArrP) (x : StepP) (w : World) (h : ArrV w v a) (ha : Arr a) (hs : StepV w sv x) :
    Calls Try.prog 61 #[v, sv] w fun e w' => ∃ r, e = .returned (.tuple #[r, .int .i64 (stepE a x)]) ∧ ArrV w' r (stepA a x) ∧ Grow w w' := by
  have harr := h
  obtain ⟨a1, n1, c1, a2, n2, c2, rfl⟩ := h.form
  obtain ⟨dv, rfl, hbd, hmax⟩ := hs
  obtain ⟨d1, d2, d3, rfl⟩ := hbd.form
  clear h
  obtain ⟨W, hW⟩ : ∃ W, W = ((w.alloc (.cells #[.slice a1 n1 c1, .slice a2 n2 c2] 39)).alloc (.cells #[.int .i64 x.k, .int .i64 x.n, .int .i64 x.m, .int .i64 x.d.k, .int .i64 x.d.n, .int .i64 x.d.m, .slice d1 d2 d3] 82)).alloc (.cells #[.slice none 0 0, .slice none 0 0] 39) := ⟨_, rfl⟩
  have HB : Boxes w W a1 n1 c1 a2 n2 c2 x (.slice d1 d2 d3) := by rw [hW]; exact Boxes.mk' ..
  obtain ⟨hgW, k0, k1, s0, s1, s2, s3, s4, s5, s6, hR⟩ := HB
  have hdeed : DeedV W (.agg #[.int .i64 x.d.k, .int .i64 x.d.n, .int .i64 x.d.m, .slice d1 d2 d3]) x.d := ⟨_, rfl, hbd.grow hgW⟩
  have harrW := harr.grow hgW
  clear hbd
  have hlW : w.heap.size ≤ w.heap.size + 1 + 1 := by omega
  by_cases x1 : x.k = 1
  · have HE : Hid (stepE a x = planE a x.d ∧ stepA a x = doA a x.d) := ⟨if_pos x1, if_pos x1⟩
    have hcall := refDo6_any _ _ a x.d W harrW ha hdeed
    have hA := doA_arr ha x.d
    rw [x1] at s0 hW ⊢
    clear x1
    go_enter Try.func61, Try.ntmps61
    go_wp2_with fail
    rw [← hW]
    refine hcall.mono ?_
    rintro e w1 ⟨r, rfl, hr, hg1⟩
    obtain ⟨p1, p2, p3, r1, r2, r3, rfl⟩ := hr.form
    have hR1 := hg1.block' hR
    obtain ⟨t0, t1, f0, f1⟩ := two_open hR1
    obtain ⟨hv, z0, z1, hg⟩ := two_fin hR1 hlW (hgW.trans hg1) hr hA.whole hA.fours
    have hfin : Hid (_ ∧ _) := ⟨hv, hg⟩
    clear hv hg hr hR hR1 hW k0 k1 s0 s1 s2 s3 s4 s5 s6 hcall
    go_wp2
    refine bodyPost_ret (results_two1 Try.results61 _ _ (w.heap.size + 1 + 1) _ rfl Try.underlying39 rfl Try.sizeA z0 z1) rfl ?_
    exact ⟨_, ret_v2 HE.out.1.symm, by rw [HE.out.2]; exact hfin.out.1, hfin.out.2⟩
  by_cases x2 : x.k = 2
  · have HE : Hid (stepE a x = planE a x.d ∧ stepA a x = fallA a x.d x.n) := ⟨(if_neg x1).trans (if_pos x2), (if_neg x1).trans (if_pos x2)⟩
    have hpl := refPlan_any _ _ a x.d W harrW ha.whole hdeed
    have hA := fallA_arr ha x.d x.n
    rw [x2] at s0 hW ⊢
    clear x1 x2
    by_cases he : planE a x.d = 0
    · have HD : Hid (fallA a x.d x.n = mountL (writeL a (planI a x.d) x.n)) := if_pos he
      have HE0 : Hid (planE a x.d = 0) := he
      obtain ⟨s, hs3, -, -, -, hi⟩ := planI_ok he
      obtain ⟨hc4, -⟩ := planI_cells ha.whole he
      have hwi := writeL_is ha.none (planI a x.d) x.n
      have hww : Whole (writeL a (planI a x.d) x.n) := writeTo_whole ha.whole _ _
      rw [HD.out] at hA
      rw [hi] at hA hc4 hpl hwi hww
      rw [he] at hpl
      have HD' : Hid (fallA a x.d x.n = mountL (writeL a ((s : Int), makeL (planOut (planBl a x.d) s) s) x.n)) := by rw [Hid, HD.out, hi]
      clear HD hi he
      simp only at hc4
      generalize makeL (planOut (planBl a x.d) s) s = cs at *
      go_enter Try.func61, Try.ntmps61
      go_wp2_with fail
      rw [← hW]
      refine hpl.mono ?_
      rintro e w1 ⟨r, rfl, ⟨cv, rfl, hcv⟩, hg1⟩
      obtain ⟨vc, cc, rfl⟩ := hcv.form
      rw [hc4] at hcv ⊢
      have hg2 : Grow w1 (w1.alloc (.cells #[.int .i64 s, .slice vc 4 cc] 62)) := Grow.alloc _ _
      have hg12 := hg1.trans hg2
      have q0 := hg1.at k0
      have q1 := hg1.at k1
      have q0' := hg12.at k0
      have q1' := hg12.at k1
      have q2' := hg12.at s1
      have hwr := refWrite_any _ _ a s cs x.n _ (harrW.grow hg12) ha.whole ⟨_, rfl, hcv.grow hg2⟩ hs3 hc4 ha.fours
      have hR2 := hg12.block' hR
      clear hW hpl hR k0 k1 s0 s1 s2 s3 s4 s5 s6
      go_wp2_with fail
      refine hwr.mono ?_
      rintro e w3 ⟨r, rfl, hr, hg3⟩
      go_wp2_with fail
      refine (refMount_any _ _ _ hr hww (by
        rcases hwi with hwi | hwi
        · exact .inl hwi
        · exact .inr ⟨s, cs, hwi, hs3, hc4⟩)).mono ?_
      rintro e w4 ⟨r', rfl, hr', hg4⟩
      obtain ⟨p1, p2, p3, r1, r2, r3, rfl⟩ := hr'.form
      have hg14 := (hg12.trans hg3).trans hg4
      have hR4 := (hg3.trans hg4).block' hR2
      obtain ⟨t0, t1, f0, f1⟩ := two_open hR4
      obtain ⟨hv, z0, z1, hg⟩ := two_fin hR4 hlW (hgW.trans hg14) hr' hA.whole hA.fours
      have hfin : Hid (_ ∧ _) := ⟨hv, hg⟩
      clear hv hg hr hr' hR2 hR4 hwr q0 q1 q0' q1' q2' hwi hww
      go_wp2
      refine bodyPost_ret (results_two1 Try.results61 _ _ (w.heap.size + 1 + 1) _ rfl Try.underlying39 rfl Try.sizeA z0 z1) rfl ?_
      exact ⟨_, ret_v2 (by rw [HE.out.1]; exact HE0.out.symm), by rw [HE.out.2, HD'.out]; exact hfin.out.1, hfin.out.2⟩
    · have HD : Hid (fallA a x.d x.n = a) := if_neg he
      have HI : planI a x.d = (0, []) := if_pos he
      rw [HI] at hpl
      clear HI
      generalize planE a x.d = E at *
      have he' : (E != 0) = true := by simpa using he
      go_enter Try.func61, Try.ntmps61
      go_wp2_with fail
      rw [← hW]
      refine hpl.mono ?_
      rintro e w1 ⟨r, rfl, ⟨cv, rfl, hcv⟩, hg1⟩
      obtain ⟨vc, cc, rfl⟩ := hcv.form
      simp only [List.length_nil]
      have hg2 : Grow w1 (w1.alloc (.cells #[.int .i64 0, .slice vc 0 cc] 62)) := Grow.alloc _ _
      have hg12 := hg1.trans hg2
      have q0 := hg1.at k0
      have q1 := hg1.at k1
      have q0' := hg12.at k0
      have q1' := hg12.at k1
      have hR2 := hg12.block' hR
      clear hW hpl hR k0 k1 s0 s1 s2 s3 s4 s5 s6
      obtain ⟨t0, t1, f0, f1⟩ := two_open hR2
      obtain ⟨hv, z0, z1, hg⟩ := two_fin hR2 hlW (hgW.trans hg12) (harrW.grow hg12) ha.whole ha.fours
      have hfin : Hid (_ ∧ _) := ⟨hv, hg⟩
      clear hv hg hcv hR2
      go_wp2
      refine bodyPost_ret (results_two1 Try.results61 _ _ (w.heap.size + 1 + 1) _ rfl Try.underlying39 rfl Try.sizeA z0 z1) rfl ?_
      exact ⟨_, ret_v2 HE.out.1.symm, by rw [HE.out.2, HD.out]; exact hfin.out.1, hfin.out.2⟩
  by_cases x3 : x.k = 3
  · have HE3 : Hid (stepE a x = (if x.n < 0 then 6 else rotE a (x.n / 3) (x.n % 3) x.m) ∧ stepA a x = (if x.n < 0 then a else rotL a (x.n / 3) (x.n % 3) x.m)) := ⟨(if_neg x1).trans ((if_neg x2).trans (if_pos x3)), (if_neg x1).trans ((if_neg x2).trans (if_pos x3))⟩
    rw [x3] at s0 hW ⊢
    clear x1 x2 x3
    by_cases hn : x.n < 0
    · have HE : Hid (stepE a x = 6 ∧ stepA a x = a) := ⟨HE3.out.1.trans (if_pos hn), HE3.out.2.trans (if_pos hn)⟩
      have hd' : decide (x.n < 0) = true := by simpa using hn
      obtain ⟨-, -, H3⟩ := heap3 w (.cells #[.slice a1 n1 c1, .slice a2 n2 c2] 39) (.cells #[.int .i64 3, .int .i64 x.n, .int .i64 x.m, .int .i64 x.d.k, .int .i64 x.d.n, .int .i64 x.d.m, .slice d1 d2 d3] 82) (.cells #[.slice a1 n1 c1, .slice a2 n2 c2] 39)
      have hgF : Grow w (((w.alloc (.cells #[.slice a1 n1 c1, .slice a2 n2 c2] 39)).alloc (.cells #[.int .i64 3, .int .i64 x.n, .int .i64 x.m, .int .i64 x.d.k, .int .i64 x.d.n, .int .i64 x.d.m, .slice d1 d2 d3] 82)).alloc (.cells #[.slice a1 n1 c1, .slice a2 n2 c2] 39)) := ((Grow.alloc _ _).trans (Grow.alloc _ _)).trans (Grow.alloc _ _)
      have hfin : Hid (_ ∧ _) := ⟨harr.grow hgF, hgF⟩
      have Hz : Hid (_ ∧ _) := ⟨two_at0 H3, two_at1 H3⟩
      clear hgF H3 hR hdeed harrW HE3 hW k0 k1 s0 s1 s2 s3 s4 s5 s6 hgW
      go_enter Try.func61, Try.ntmps61
      go_wp2_with fail
      refine bodyPost_ret (results_two1 Try.results61 _ _ (w.heap.size + 1 + 1) _ rfl Try.underlying39 rfl Try.sizeA Hz.out.1 Hz.out.2) rfl ?_
      exact ⟨_, ret_v2 HE.out.1.symm, by rw [HE.out.2]; exact hfin.out.1, hfin.out.2⟩
    · have HE : Hid (stepE a x = rotE a (x.n / 3) (x.n % 3) x.m ∧ stepA a x = rotL a (x.n / 3) (x.n % 3) x.m) := ⟨HE3.out.1.trans (if_neg hn), HE3.out.2.trans (if_neg hn)⟩
      have hcall := refRot_any _ a (x.n / 3) (x.n % 3) x.m W harrW ha.whole ha.fours (fun d s => by have := ha.short d s; omega)
      have hA := rotL_arr ha (x.n / 3) (x.n % 3) x.m
      have hn' : 0 ≤ x.n := by omega
      clear hn HE3 hdeed
      go_enter Try.func61, Try.ntmps61
      go_wp2_with fail
      rw [← hW]
      refine hcall.mono ?_
      rintro e w1 ⟨r, rfl, hr, hg1⟩
      obtain ⟨p1, p2, p3, r1, r2, r3, rfl⟩ := hr.form
      have hR1 := hg1.block' hR
      obtain ⟨t0, t1, f0, f1⟩ := two_open hR1
      obtain ⟨hv, z0, z1, hg⟩ := two_fin hR1 hlW (hgW.trans hg1) hr hA.whole hA.fours
      have hfin : Hid (_ ∧ _) := ⟨hv, hg⟩
      clear hv hg hr hR hR1 hW k0 k1 s0 s1 s2 s3 s4 s5 s6 hcall
      go_wp2
      refine bodyPost_ret (results_two1 Try.results61 _ _ (w.heap.size + 1 + 1) _ rfl Try.underlying39 rfl Try.sizeA z0 z1) rfl ?_
      exact ⟨_, ret_v2 HE.out.1.symm, by rw [HE.out.2]; exact hfin.out.1, hfin.out.2⟩
  by_cases x4 : x.k = 4
  · have HE : Hid (stepE a x = goneE x.n ∧ stepA a x = goneL a x.n) := ⟨(if_neg x1).trans ((if_neg x2).trans ((if_neg x3).trans (if_pos x4))), (if_neg x1).trans ((if_neg x2).trans ((if_neg x3).trans (if_pos x4)))⟩
    have hcall := refGone_any _ a x.n W harrW ha.whole ha.fours
    have hA := goneL_arr ha x.n
    rw [x4] at s0 hW ⊢
    clear x1 x2 x3 x4 hdeed
    go_enter Try.func61, Try.ntmps61
    go_wp2_with fail
    rw [← hW]
    refine hcall.mono ?_
    rintro e w1 ⟨r, rfl, hr, hg1⟩
    obtain ⟨p1, p2, p3, r1, r2, r3, rfl⟩ := hr.form
    have hR1 := hg1.block' hR
    obtain ⟨t0, t1, f0, f1⟩ := two_open hR1
    obtain ⟨hv, z0, z1, hg⟩ := two_fin hR1 hlW (hgW.trans hg1) hr hA.whole hA.fours
    have hfin : Hid (_ ∧ _) := ⟨hv, hg⟩
    clear hv hg hr hR hR1 hW k0 k1 s0 s1 s2 s3 s4 s5 s6 hcall
    go_wp2
    refine bodyPost_ret (results_two1 Try.results61 _ _ (w.heap.size + 1 + 1) _ rfl Try.underlying39 rfl Try.sizeA z0 z1) rfl ?_
    exact ⟨_, ret_v2 HE.out.1.symm, by rw [HE.out.2]; exact hfin.out.1, hfin.out.2⟩
  by_cases x5 : x.k = 5
  · have HE : Hid (stepE a x = mendE a x.n ∧ stepA a x = mendL a x.n) := ⟨(if_neg x1).trans ((if_neg x2).trans ((if_neg x3).trans ((if_neg x4).trans (if_pos x5)))), (if_neg x1).trans ((if_neg x2).trans ((if_neg x3).trans ((if_neg x4).trans (if_pos x5))))⟩
    have hcall := refMend_any _ a x.n W harrW ha.whole ha.fours
    have hA := mendL_arr ha x.n
    rw [x5] at s0 hW ⊢
    clear x1 x2 x3 x4 x5 hdeed
    go_enter Try.func61, Try.ntmps61
    go_wp2_with fail
    rw [← hW]
    refine hcall.mono ?_
    rintro e w1 ⟨r, rfl, hr, hg1⟩
    obtain ⟨p1, p2, p3, r1, r2, r3, rfl⟩ := hr.form
    have hg2 : Grow w1 (w1.alloc (.cells #[.slice p1 p2 p3, .slice r1 r2 r3] 39)) := Grow.alloc _ _
    have hg12 := hg1.trans hg2
    have hR1 := hg12.block' hR
    obtain ⟨t0, t1, f0, f1⟩ := two_open hR1
    obtain ⟨hv, z0, z1, hg⟩ := two_fin hR1 hlW (hgW.trans hg12) (hr.grow hg2) hA.whole hA.fours
    have hfin : Hid (_ ∧ _) := ⟨hv, hg⟩
    clear hv hg hr hR hR1 hW k0 k1 s0 s1 s2 s3 s4 s5 s6 hcall
    go_wp2
    refine bodyPost_ret (results_two1 Try.results61 _ _ (w.heap.size + 1 + 1) _ rfl Try.underlying39 rfl Try.sizeA z0 z1) rfl ?_
    exact ⟨_, ret_v2 HE.out.1.symm, by rw [HE.out.2]; exact hfin.out.1, hfin.out.2⟩
  · have HE : Hid (stepE a x = 1 ∧ stepA a x = a) := ⟨(if_neg x1).trans ((if_neg x2).trans ((if_neg x3).trans ((if_neg x4).trans (if_neg x5)))), (if_neg x1).trans ((if_neg x2).trans ((if_neg x3).trans ((if_neg x4).trans (if_neg x5))))⟩
    have y1 : (x.k == 1) = false := by simpa using x1
    have y2 : (x.k == 2) = false := by simpa using x2
    have y3 : (x.k == 3) = false := by simpa using x3
    have y4 : (x.k == 4) = false := by simpa using x4
    have y5 : (x.k == 5) = false := by simpa using x5
    obtain ⟨-, -, H3⟩ := heap3 w (.cells #[.slice a1 n1 c1, .slice a2 n2 c2] 39) (.cells #[.int .i64 x.k, .int .i64 x.n, .int .i64 x.m, .int .i64 x.d.k, .int .i64 x.d.n, .int .i64 x.d.m, .slice d1 d2 d3] 82) (.cells #[.slice a1 n1 c1, .slice a2 n2 c2] 39)
    have hgF : Grow w (((w.alloc (.cells #[.slice a1 n1 c1, .slice a2 n2 c2] 39)).alloc (.cells #[.int .i64 x.k, .int .i64 x.n, .int .i64 x.m, .int .i64 x.d.k, .int .i64 x.d.n, .int .i64 x.d.m, .slice d1 d2 d3] 82)).alloc (.cells #[.slice a1 n1 c1, .slice a2 n2 c2] 39)) := ((Grow.alloc _ _).trans (Grow.alloc _ _)).trans (Grow.alloc _ _)
    have hfin : Hid (_ ∧ _) := ⟨harr.grow hgF, hgF⟩
    have Hz : Hid (_ ∧ _) := ⟨two_at0 H3, two_at1 H3⟩
    clear hgF H3 hR hdeed harrW hW k0 k1 s0 s1 s2 s3 s4 s5 s6 hgW
    go_enter Try.func61, Try.ntmps61
    go_wp2_with fail
    refine bodyPost_ret (results_two1 Try.results61 _ _ (w.heap.size + 1 + 1) _ rfl Try.underlying39 rfl Try.sizeA Hz.out.1 Hz.out.2) rfl ?_
    exact ⟨_, ret_v2 HE.out.1.symm, by rw [HE.out.2]; exact hfin.out.1, hfin.out.2⟩

end Go.Proofs.Ytjggiameajndgab

/-
  What the reference's Play returns. Nothing old turns.
-/
namespace Go.Proofs.Ytjggiameajndgab
open Go.RowKit

/-- The cells of a step. -/
def StepC (w : World) (b o : Nat) (x : StepP) (dv : Value) : Prop :=
  w.cell? ⟨b, o, none⟩ = some (.int .i64 x.k) ∧ w.cell? ⟨b, o + 1, none⟩ = some (.int .i64 x.n) ∧ w.cell? ⟨b, o + 2, none⟩ = some (.int .i64 x.m) ∧ w.cell? ⟨b, o + 3, none⟩ = some (.int .i64 x.d.k) ∧
    w.cell? ⟨b, o + 4, none⟩ = some (.int .i64 x.d.n) ∧ w.cell? ⟨b, o + 5, none⟩ = some (.int .i64 x.d.m) ∧ w.cell? ⟨b, o + 6, none⟩ = some dv ∧ Bs w dv x.d.d ∧ x.n ≤ 9223372036854775807

theorem StepC.grow {w w' : World} {b o : Nat} {x : StepP} {dv : Value} (h : StepC w b o x dv) (hg : Grow w w') : StepC w' b o x dv := by
  obtain ⟨h0, h1, h2, h3, h4, h5, h6, h7, h8⟩ := h
  exact ⟨hg.at h0, hg.at h1, hg.at h2, hg.at h3, hg.at h4, hg.at h5, hg.at h6, h7.grow hg, h8⟩

/-- Steps, as they lie: seven cells each. -/
def Stps (w : World) (v : Value) (l : List StepP) : Prop :=
  ∃ ao cap, v = .slice ao l.length cap ∧ l.length ≤ cap ∧ cap ≤ maxLen ∧ (ao = none → cap = 0) ∧
    (0 < l.length → ∃ b off, ao = some ⟨b, off, none⟩ ∧ ∀ (i : Nat) s, l[i]? = some s → ∃ dv, StepC w b (off + i * 7) s dv)

theorem Stps.grow {w w' : World} {v : Value} {l : List StepP} (h : Stps w v l) (hg : Grow w w') : Stps w' v l := by
  obtain ⟨ao, cap, hv, h1, h2, h3, h4⟩ := h
  refine ⟨ao, cap, hv, h1, h2, h3, fun hp => ?_⟩
  obtain ⟨b, off, e, hc⟩ := h4 hp
  refine ⟨b, off, e, fun i s hi => ?_⟩
  obtain ⟨dv, hd⟩ := hc i s hi
  exact ⟨dv, hd.grow hg⟩

theorem Try.infoE : (Try.prog.info? 28).map (fun i => (i.zero, i.size, i.bytes)) = some (some (.int .i64 0), 1, 8) := by kernel_rfl

/-- Numbers are appended beside it. -/
theorem BInv.num {w w6 w7 : World} {A R : Nat} {x y es : Value} {b : ArrP} {B : Nat} {e : TypeId} {ns : List Int} (h : BInv w A R x y b w6) (hN : NumRow B e w6 es ns) (hg : GrownIn w6 w7 (fun k => es.ownBlock = some k)) (hA : A < B) (hR : R < B) (hw : w.heap.size ≤ B) (hi : b.is = []) : BInv w A R x y b w7 := by
  obtain ⟨⟨h1, h2⟩, h3, h4⟩ := h
  have hgb : w6.grownBy w7 es.ownBlock := ⟨hg.os, hg.tape, hg.output, hg.size, fun i hlt hne => hg.block i hlt (fun hk => hne hk.symm)⟩
  have hb := hN.base
  have lt : ∀ {j : Nat} {o : Obj}, w6.heap[j]? = some o → j < w6.heap.size := fun {j o} hj => by
    by_cases hlt : j < w6.heap.size
    · exact hlt
    · rw [Array.getElem?_eq_none (Nat.le_of_not_lt hlt)] at hj; cases hj
  have hX : ArrX es.ownBlock w6 (.agg #[x, y]) b := by
    cases hv : es.ownBlock with
    | none => exact ArrX.old h3.out (Grow.refl _) (fun _ h => nomatch h)
    | some g => exact (hN.2 g hv).arr h3.out hi
  refine ⟨⟨(hg.block A (lt h1) (fun hk => by have := (hb A hk).1; omega)).trans h1, (hg.block R (lt h2) (fun hk => by have := (hb R hk).1; omega)).trans h2⟩, (hX.step hgb).plain, ?_⟩
  exact h4.grown hgb (fun k hk => by have := (hb k hk).1; omega)

theorem BInv.grow {w wr w5 : World} {A R : Nat} {x y : Value} {b : ArrP} (h : BInv w A R x y b wr) (hg : Grow wr w5) : BInv w A R x y b w5 := by
  obtain ⟨⟨h1, h2⟩, h3, h4⟩ := h
  exact ⟨⟨hg.block' h1, hg.block' h2⟩, h3.out.grow hg, h4.trans hg⟩

theorem playEs_succ {l : List StepP} {k : Nat} {s : StepP} (h : l[k]? = some s) : playEs l k ++ [stepE (playTo l k) s] = playEs l (k + 1) := by
  simp [playEs, List.range_succ, h]
theorem playTo_succ {l : List StepP} {k : Nat} {s : StepP} (h : l[k]? = some s) : playTo l (k + 1) = stepA (playTo l k) s := by rw [playTo, h]
theorem playEs_length (l : List StepP) (k : Nat) : (playEs l k).length = k := by simp [playEs]

set_option maxRecDepth 20000 in
set_option maxHeartbeats 3200000 in
theorem refPlay_any (v : Value) (l : List StepP) (w : World) (h : Stps w v l) :
    Calls Try.prog 19 #[v] w fun e w' => ∃ r es, e = .returned (.tuple #[r, es]) ∧ ArrV w' r (playL l) ∧ Sl IntV w' es (playEs l (min l.length 100)) ∧ Grow w w' := by
  obtain ⟨i0, hi, hz0, hz1, hz2⟩ := info_parts Try.infoE
  obtain ⟨ao, cap, rfl, h1, h2, h3, h4⟩ := h
  unfold maxLen at h2
  have hgR : Grow w (w.alloc (.cells #[.slice none 0 0, .slice none 0 0] 39)) := Grow.alloc _ _
  have hR0 := heap_alloc_new w (.cells #[.slice none 0 0, .slice none 0 0] 39)
  go_enter Try.func19, Try.ntmps19
  go_wp2_with fail
  refine (refNew6_any _).mono ?_
  rintro e w1 ⟨r, rfl, hr, hg1⟩
  obtain ⟨p1, p2, p3, r1, r2, r3, rfl⟩ := hr.form
  have hgA : Grow w1 (w1.alloc (.cells #[.slice p1 p2 p3, .slice r1 r2 r3] 39)) := Grow.alloc _ _
  have hR1 := (hg1.trans hgA).block' hR0
  have hlR : w.heap.size < w1.heap.size := by have := hg1.size; simp at this; omega
  have hI : BInv w w1.heap.size w.heap.size (.slice p1 p2 p3) (.slice r1 r2 r3) (playTo l 0) (w1.alloc (.cells #[.slice p1 p2 p3, .slice r1 r2 r3] 39)) := ⟨⟨heap_alloc_new w1 _, hR1⟩, hr.grow hgA, (hgR.trans hg1).trans hgA⟩
  have hs2 : w1.heap.size + 1 ≤ (w1.alloc (.cells #[.slice p1 p2 p3, .slice r1 r2 r3] 39)).heap.size := by simp
  have harrs := playTo_arr l
  clear hr hR0 hR1 hgA hg1 hgR
  go_wp2
  go_loopw [5, 13] (fun es i wr => ∃ (k : Nat) (x y : Value), k ≤ l.length ∧ k ≤ 100 ∧ i = .int .i64 k ∧ Hid (NumRow (w1.heap.size + 1) 28 wr es (playEs l k)) ∧ BInv w w1.heap.size w.heap.size x y (playTo l k) wr ∧ w1.heap.size + 1 ≤ wr.heap.size) (fun _ i _ => 101 - (intOf i).toNat)
  case atStart => exact ⟨0, _, _, by omega, by omega, rfl, NumRow.nil _ _ _, hI, hs2⟩
  case round =>
    obtain ⟨k, x, y, hk, hk100, rfl, HN, hB, hsz⟩ := hrel
    have HB : Hid (BInv w w1.heap.size w.heap.size x y (playTo l k) wr) := hB
    obtain ⟨⟨hA, hR⟩, HV, hgr⟩ := hB
    obtain ⟨⟨x1, x2, x3, rfl⟩, y1, y2, y3, rfl⟩ := HV.out.form2
    have Hlen : Hid ((playEs l k).length = k) := playEs_length l k
    have hend : ∀ wf, Grow wr wf → k = min l.length 100 → Hid (ArrV ((wf.setCell ⟨w.heap.size, 0, none⟩ (.slice x1 x2 x3)).setCell ⟨w.heap.size, 1, none⟩ (.slice y1 y2 y3)) (.agg #[.slice x1 x2 x3, .slice y1 y2 y3]) (playL l) ∧ Sl IntV ((wf.setCell ⟨w.heap.size, 0, none⟩ (.slice x1 x2 x3)).setCell ⟨w.heap.size, 1, none⟩ (.slice y1 y2 y3)) u5 (playEs l (min l.length 100)) ∧ Grow w ((wf.setCell ⟨w.heap.size, 0, none⟩ (.slice x1 x2 x3)).setCell ⟨w.heap.size, 1, none⟩ (.slice y1 y2 y3)) ∧
        ((wf.setCell ⟨w.heap.size, 0, none⟩ (.slice x1 x2 x3)).setCell ⟨w.heap.size, 1, none⟩ (.slice y1 y2 y3)).cell? ⟨w.heap.size, 0, none⟩ = some (.slice x1 x2 x3) ∧ ((wf.setCell ⟨w.heap.size, 0, none⟩ (.slice x1 x2 x3)).setCell ⟨w.heap.size, 1, none⟩ (.slice y1 y2 y3)).cell? ⟨w.heap.size, 1, none⟩ = some (.slice y1 y2 y3)) := fun wf hwf e => by
      obtain ⟨hv, hg, z0, z1⟩ := (HB.out.grow hwf).done (harrs k).whole (harrs k).fours (Nat.le_refl _)
      refine ⟨by rw [playL, ← e]; exact hv, ?_, hg, z0, z1⟩
      rw [← e]
      have hN := HN.out.grow hwf
      exact ((hN.kept (grownIn_set wf w.heap.size 0 (.slice x1 x2 x3) (G := fun j => j = w.heap.size) rfl) (fun j hj e => by have := (hN.base j hj).1; omega)).kept (grownIn_set _ w.heap.size 1 (.slice y1 y2 y3) (G := fun j => j = w.heap.size) rfl) (fun j hj e => by have := (hN.base j hj).1; omega)).done
    have b0 := two_at0 hA
    have b1 := two_at1 hA
    have fA0 : wr.frozen? ⟨w1.heap.size, 0, none⟩ = false := frozen_of_row wr _ 0 _ _ hA
    have fA1 : wr.frozen? ⟨w1.heap.size, 1, none⟩ = false := frozen_of_row wr _ 1 _ _ hA
    by_cases hlt : k < l.length
    · obtain ⟨b, off, rfl, hc⟩ := h4 (by omega)
      obtain ⟨dv, hst⟩ := hc k l[k] (by simp [hlt])
      have HS : Hid (l[k]? = some l[k]) := by rw [Hid]; simp [hlt]
      generalize l[k] = s at *
      clear hc h4
      obtain ⟨s0, s1, s2, s3, s4, s5, s6, s7, s8⟩ := hst.grow hgr
      obtain ⟨d1, d2, d3, rfl⟩ := s7.form
      have hgS := Grow.alloc wr (.cells #[.int .i64 s.k, .int .i64 s.n, .int .i64 s.m, .int .i64 s.d.k, .int .i64 s.d.n, .int .i64 s.d.m, .slice d1 d2 d3] 82)
      have c0 := hgS.at b0
      have c1 := hgS.at b1
      by_cases h100 : k = 100
      · have Hf := hend _ hgS (by omega)
        obtain ⟨t0, t1, f0, f1⟩ := two_open (hgS.block' hR)
        clear HN HB HV hend hA hR b0 b1 fA0 fA1 hst Hlen
        subst h100
        go_wp2
        refine bodyPost_ret (results_two1 Try.results19 _ _ w.heap.size _ rfl Try.underlying39 rfl Try.sizeA Hf.out.2.2.2.1 Hf.out.2.2.2.2) rfl ?_
        exact ⟨_, _, rfl, Hf.out.1, Hf.out.2.1, Hf.out.2.2.1⟩
      · have h100' : ¬ (k : Int) = 100 := by omega
        have hcall := refStep_any _ _ (playTo l k) s _ (HV.out.grow hgS) (harrs k) ⟨_, rfl, s7.grow hgS, s8⟩
        have hgrS := hgr.trans hgS
        clear hend hA hR
        go_wp2_with fail
        refine hcall.mono ?_
        rintro e w3 ⟨r', rfl, hr', hg3⟩
        obtain ⟨p1', p2', p3', q1', q2', q3', rfl⟩ := hr'.form
        have hgX := Grow.alloc w3 (.cells #[.slice p1' p2' p3', .slice q1' q2' q3'] 39)
        have hg5 := (hgS.trans hg3).trans hgX
        have HS1 := playTo_succ HS.out
        have hA5 := stepA_arr (harrs k) s
        have hB5 := BInv.put HB.out hg5 (hr'.grow hgX) hA5.whole hA5.fours (by omega) (by omega)
        have hN5 := ((HN.out.grow hg5).kept (grownIn_set _ w1.heap.size 0 (.slice p1' p2' p3') (G := fun j => j = w1.heap.size) rfl) (fun j hj e => by have := (HN.out.base j hj).1; omega)).kept (grownIn_set _ w1.heap.size 1 (.slice q1' q2' q3') (G := fun j => j = w1.heap.size) rfl) (fun j hj e => by have := (HN.out.base j hj).1; omega)
        have e0 := hg5.at b0
        have e1 := hg5.at b1
        have g0 := (hg5.frozen (a := ⟨w1.heap.size, 0, none⟩) (cell_lt b0)).trans fA0
        have g1 := (hg5.frozen (a := ⟨w1.heap.size, 1, none⟩) (cell_lt b0)).trans fA1
        have hT := playEs_succ HS.out
        rw [← HS1] at hB5
        have HB5 : Hid (BInv w w1.heap.size w.heap.size _ _ (playTo l (k + 1)) _) := hB5
        have HN5 : Hid (NumRow (w1.heap.size + 1) 28 _ u5 (playEs l k)) := hN5
        have hsz5 : w1.heap.size + 1 ≤ ((((w3.alloc (.cells #[.slice p1' p2' p3', .slice q1' q2' q3'] 39)).setCell ⟨w1.heap.size, 0, none⟩ (.slice p1' p2' p3')).setCell ⟨w1.heap.size, 1, none⟩ (.slice q1' q2' q3'))).heap.size := by have := hg5.size; simp at this ⊢; omega
        have HT : Hid (playEs l k ++ [stepE (playTo l k) s] = playEs l (k + 1)) := hT
        clear hT hB5 hN5 HN HB HV hst hcall hr' HS1 s0 s1 s2 s3 s4 s5 s6 b0 b1 c0 c1 fA0 fA1
        generalize stepE (playTo l k) s = E at *
        go_wp2_with (first
          | (at_builtin; refine wpList_push_num rfl (.tmp 27) (.tmp 29) 40 rfl 28 i0 Try.underlying40 hi hz0 hz1 hz2 (w1.heap.size + 1) rfl HN5.out E hsz5 (by rw [Hlen.out]; omega) (w3.heap.size + 1) (by simp) rfl ?_; rintro g' cap' w7 hN7 hg7))
        rw [HT.out] at hN7
        have hB7 := HB5.out.num HN5.out hg7 (by omega) (by omega) (by omega) (harrs (k + 1)).none
        have HB7 : Hid (BInv w w1.heap.size w.heap.size _ _ (playTo l (k + 1)) w7) := hB7
        have hsz7 : w1.heap.size + 1 ≤ w7.heap.size := Nat.le_trans hsz5 hg7.size
        rw [Hlen.out] at hN7 ⊢
        clear hB7 HB5 HN5
        go_wp2
        go_roundw
        case rel => first | exact ⟨k + 1, _, _, by omega, by omega, by go_num, hN7, HB7.out, hsz7⟩ | ((repeat apply Exists.intro); exact ⟨⟨k + 1, _, _, by omega, by omega, by go_num, hN7, HB7.out, hsz7⟩, rfl⟩)
        case measure => simp [intOf]; omega
    · have Hf := hend _ (Grow.refl _) (by omega)
      obtain ⟨t0, t1, f0, f1⟩ := two_open hR
      clear HN HB HV hend hA hR fA0 fA1 Hlen
      go_wp2
      refine bodyPost_ret (results_two1 Try.results19 _ _ w.heap.size _ rfl Try.underlying39 rfl Try.sizeA Hf.out.2.2.2.1 Hf.out.2.2.2.2) rfl ?_
      exact ⟨_, _, rfl, Hf.out.1, Hf.out.2.1, Hf.out.2.2.1⟩

end Go.Proofs.Ytjggiameajndgab

/-
  Chapter 7's statement with the document's answer, walked over what the program's stripe returns.
-/
namespace Go.Proofs.Ytjggiameajndgab
open Go.RowKit

set_option maxRecDepth 20000 in
set_option maxHeartbeats 6400000 in
theorem stripeTells_walk (sv v u : Value) (l : List StepP) (s : Int) (ls ms : List (List Int)) (w : World) (hst : Stps w sv l) (h : Bss w v ls) (hu : Bss w u ms) :
    Calls Try.prog 5 #[sv, .int .i64 s, v, u] w fun e w' => e = .returned (.bool true) ∧ Grow w w' := by
  by_cases hin : 0 ≤ s ∧ s < 3
  · obtain ⟨hs0, hs3⟩ := hin
    obtain ⟨s, rfl⟩ := Int.eq_ofNat_of_zero_le hs0
    have hs3' : s < 3 := by omega
    have hP := refPlay_any sv l w hst
    have hA := playTo_arr l (min l.length 100)
    rw [show playTo l (min l.length 100) = playL l from rfl] at hA
    obtain ⟨asv, csv, esv⟩ : ∃ a c, sv = .slice a l.length c := by obtain ⟨a, c, e, -⟩ := hst; exact ⟨a, c, e⟩
    obtain ⟨av, cv, rfl, hv1, hv2⟩ := h.form'
    obtain ⟨au, cu, rfl, hu1, hu2⟩ := hu.form'
    subst esv
    clear hst
    generalize playL l = A at *
    generalize playEs l (min l.length 100) = ES at *
    generalize l.length = nl at *
    go_enter Try.func5, Try.ntmps5
    go_wp2_with fail
    refine hP.mono ?_
    rintro e w1 ⟨r, es, rfl, hr, hes, hg1⟩
    obtain ⟨p1, p2, p3, q1, q2, q3, rfl⟩ := hr.form
    obtain ⟨aes, ces, ees⟩ := Sl.form hes
    subst ees
    generalize ES.length = nes at *
    clear hes hP
    obtain ⟨W, hW⟩ : ∃ W, W = w1.alloc (.cells #[.slice p1 p2 p3, .slice q1 q2 q3] 39) := ⟨_, rfl⟩
    have hgA : Grow w1 W := by rw [hW]; exact Grow.alloc _ _
    have H := heap_alloc_new w1 (.cells #[.slice p1 p2 p3, .slice q1 q2 q3] 39)
    rw [← hW] at H
    have k0 : W.cell? ⟨w1.heap.size, 0, none⟩ = some (.slice p1 p2 p3) := row_at H 0 rfl
    have k1 : W.cell? ⟨w1.heap.size, 1, none⟩ = some (.slice q1 q2 q3) := row_at H 1 rfl
    have hrW := hr.grow hgA
    have hgW := hg1.trans hgA
    have hC1 : ∀ w2, Grow W w2 → Calls Try.prog 21 #[.agg #[.slice p1 p2 p3, .slice q1 q2 q3], .int .i64 s] w2 fun e w' => ∃ r, e = .returned r ∧ Bss w' r (cellsL A s) ∧ Grow w2 w' := fun w2 hg => (stripeCells_row _ A s w2 (hrW.grow hg) hA.whole hA.short hs3').mono fun _ _ ⟨r, he, hr, hg⟩ => ⟨r, he, hr.done, hg⟩
    have hC2 : ∀ w2, Grow W w2 → Calls Try.prog 22 #[.agg #[.slice p1 p2 p3, .slice q1 q2 q3], .int .i64 s] w2 fun e w' => ∃ r, e = .returned r ∧ Bss w' r (cellsL A s) ∧ Grow w2 w' := fun w2 hg => refCells_any _ A s w2 (hrW.grow hg) hA.whole hs3'
    clear hr H
    go_wp2_with fail
    rw [← hW]
    clear hW
    generalize cellsL A s = CL at *
    refine wp_region_stable Grow [IsV (.agg #[.slice p1 p2 p3, .slice q1 q2 q3]), IsV (.int .i64 s), AnBss CL, IsV (.agg #[.slice p1 p2 p3, .slice q1 q2 q3]), IsV (.int .i64 s), AnBss CL, IsV (.bool true), IsV (.bool false)] (by kernel_rfl) (by kernel_rfl) rfl Grow.refl (fun _ _ _ => Grow.trans) ?_ ?_ ?_
    · repeat (refine List.forall_mem_cons.2 ⟨by first | exact IsV.stable _ | exact AnBss.stable _, ?_⟩)
      exact fun R hR => nomatch hR
    · skip
      refine StepsS.cons ?_ fun v0 => ⟨_, _, by simp only [Act.put, List.setIfInBounds_toArray, List.set_cons_succ, List.set_cons_zero]; first | done | rfl, by simp only [List.nil_append]; first | done | rfl, ?_⟩
      · intro w1 hE hd
        clear hd
        have qq0 := hE.drew.at k0
        have qq1 := hE.drew.at k1
        go_wp2
        exact ⟨_, rfl, Grow.refl _, rfl⟩
      refine StepsS.cons ?_ fun v1 => ⟨_, _, by simp only [Act.put, List.setIfInBounds_toArray, List.set_cons_succ, List.set_cons_zero]; first | done | rfl, by simp only [List.nil_append, List.cons_append]; first | done | rfl, ?_⟩
      · intro w1 hE hd
        clear hd
        go_wp2
        exact ⟨_, rfl, Grow.refl _, rfl⟩
      refine StepsS.cons ?_ fun v2 => ⟨_, _, by simp only [Act.put, List.setIfInBounds_toArray, List.set_cons_succ, List.set_cons_zero]; first | done | rfl, by simp only [List.nil_append, List.cons_append]; first | done | rfl, ?_⟩
      · intro w1 hE hd
        obtain rfl := IsV.eq (dep_at hd 0 rfl rfl rfl)
        obtain rfl := IsV.eq (dep_at hd 1 rfl rfl rfl)
        clear hd
        go_wp2_with fail
        refine (hC1 _ hE.drew).mono ?_
        rintro e w4 ⟨r', rfl, hr', hg4⟩
        go_wp2_with fail
        exact ⟨_, rfl, hg4, hr'⟩
      refine StepsS.cons ?_ fun v3 => ⟨_, _, by simp only [Act.put, List.setIfInBounds_toArray, List.set_cons_succ, List.set_cons_zero]; first | done | rfl, by simp only [List.nil_append, List.cons_append]; first | done | rfl, ?_⟩
      · intro w1 hE hd
        clear hd
        have qq0 := hE.drew.at k0
        have qq1 := hE.drew.at k1
        go_wp2
        exact ⟨_, rfl, Grow.refl _, rfl⟩
      refine StepsS.cons ?_ fun v4 => ⟨_, _, by simp only [Act.put, List.setIfInBounds_toArray, List.set_cons_succ, List.set_cons_zero]; first | done | rfl, by simp only [List.nil_append, List.cons_append]; first | done | rfl, ?_⟩
      · intro w1 hE hd
        clear hd
        go_wp2
        exact ⟨_, rfl, Grow.refl _, rfl⟩
      refine StepsS.cons ?_ fun v5 => ⟨_, _, by simp only [Act.put, List.setIfInBounds_toArray, List.set_cons_succ, List.set_cons_zero]; first | done | rfl, by simp only [List.nil_append, List.cons_append]; first | done | rfl, ?_⟩
      · intro w1 hE hd
        obtain rfl := IsV.eq (dep_at hd 0 rfl rfl rfl)
        obtain rfl := IsV.eq (dep_at hd 1 rfl rfl rfl)
        clear hd
        go_wp2_with fail
        refine (hC2 _ hE.drew).mono ?_
        rintro e w4 ⟨r', rfl, hr', hg4⟩
        go_wp2_with fail
        exact ⟨_, rfl, hg4, hr'⟩
      refine StepsS.cons ?_ fun v6 => ⟨_, _, by simp only [Act.put, List.setIfInBounds_toArray, List.set_cons_succ, List.set_cons_zero]; first | done | rfl, by simp only [List.nil_append, List.cons_append]; first | done | rfl, ?_⟩
      · intro w1 hE hd
        have d2 := dep_at hd 0 rfl rfl rfl
        have d5 := dep_at hd 1 rfl rfl rfl
        clear hd
        go_wp2_with fail
        refine (refSame_eq _ _ CL _ d2 d5).mono ?_
        rintro e w4 ⟨rfl, hg4⟩
        go_wp2_with fail
        exact ⟨_, rfl, hg4, rfl⟩
      refine StepsS.cons ?_ fun v7 => ⟨_, _, by simp only [Act.put, List.setIfInBounds_toArray, List.set_cons_succ, List.set_cons_zero]; first | done | rfl, by simp only [List.nil_append, List.cons_append]; first | done | rfl, ?_⟩
      · intro w1 hE hd
        obtain rfl := IsV.eq (dep_at hd 0 rfl rfl rfl)
        clear hd
        go_wp2
        exact ⟨_, rfl, Grow.refl _, rfl⟩
      trivial
    intro wR hwR
    refine FinS.cons ?_; rintro _ rfl; refine ⟨_, by simp only [Act.put, List.setIfInBounds_toArray, List.set_cons_succ, List.set_cons_zero]; first | done | rfl, ?_⟩
    refine FinS.cons ?_; rintro _ rfl; refine ⟨_, by simp only [Act.put, List.setIfInBounds_toArray, List.set_cons_succ, List.set_cons_zero]; first | done | rfl, ?_⟩
    refine FinS.cons fun v2 h2 => ⟨_, by simp only [Act.put, List.setIfInBounds_toArray, List.set_cons_succ, List.set_cons_zero]; first | done | rfl, ?_⟩
    refine FinS.cons ?_; rintro _ rfl; refine ⟨_, by simp only [Act.put, List.setIfInBounds_toArray, List.set_cons_succ, List.set_cons_zero]; first | done | rfl, ?_⟩
    refine FinS.cons ?_; rintro _ rfl; refine ⟨_, by simp only [Act.put, List.setIfInBounds_toArray, List.set_cons_succ, List.set_cons_zero]; first | done | rfl, ?_⟩
    refine FinS.cons fun v5 h5 => ⟨_, by simp only [Act.put, List.setIfInBounds_toArray, List.set_cons_succ, List.set_cons_zero]; first | done | rfl, ?_⟩
    refine FinS.cons ?_; rintro _ rfl; refine ⟨_, by simp only [Act.put, List.setIfInBounds_toArray, List.set_cons_succ, List.set_cons_zero]; first | done | rfl, ?_⟩
    refine FinS.cons ?_; rintro _ rfl; refine ⟨_, by simp only [Act.put, List.setIfInBounds_toArray, List.set_cons_succ, List.set_cons_zero]; first | done | rfl, ?_⟩
    first | show Exit.then _ _ _ _ _ | show Exit.inBlock _ _ _ _ _
    have hgR := hgW.trans hwR.drew
    clear h2 h5 hC1 hC2 k0 k1 hrW
    by_cases hl4 : ls.length = 4
    · have hvR := h.grow hgR
      have hD := stripeData_row _ ls s wR none (Sl.lift (fun _ _ h => Off.plain Bs.stays h) hvR (Grow.refl _)) (fun _ h => nomatch h) hl4 hs3'
      have hD2 := fun w3 (hg : Grow wR w3) => refData_any _ ls s w3 (hvR.grow hg) (by omega)
      have hB1 := fun w3 (hg : Grow wR w3) => stripeBad_any _ ls s w3 (hvR.grow hg) hl4 hs3'
      have hB2 := fun w3 (hg : Grow wR w3) => refBad_any _ ls s w3 (hvR.grow hg) (by omega)
      rw [hl4] at hD hD2 hB1 hB2 hv1 ⊢
      clear hvR h hl4
      generalize dataE ls s = E at *
      generalize dataL ls s = DL at *
      generalize ints (badL ls s) = BL at *
      go_wp2_with fail
      refine hD.mono ?_
      rintro e w3 ⟨r3, rfl, hr3, hg3⟩
      go_wp2_with fail
      refine (hD2 _ hg3).mono ?_
      rintro e w4 ⟨r4, rfl, hr4, hg4⟩
      have hg34 := hg3.trans hg4
      go_wp2_with fail
      refine (hB1 _ hg34).mono ?_
      rintro e w5 ⟨r5, rfl, hr5, hg5⟩
      go_wp2_with fail
      refine (hB2 _ (hg34.trans hg5)).mono ?_
      rintro e w6 ⟨r6, rfl, hr6, hg6⟩
      have hS := refSame_eq r3 r4 DL w6 (Bss.grow (Sl.off hr3.done) ((hg4.trans hg5).trans hg6)) (hr4.grow (hg5.trans hg6))
      obtain ⟨a5, c5, rfl, hc51, hc52⟩ := hr5.form'
      obtain ⟨a6, c6, rfl, hc61, hc62⟩ := hr6.form'
      have hr5' := Sl.stays IntV.stays _ _ _ _ hr5 hg6
      clear hD hD2 hB1 hB2 hr3 hr4 hr5
      go_wp2_with fail
      refine hS.mono ?_
      rintro e w7 ⟨rfl, hg7⟩
      have hgw7 := (((hgR.trans hg34).trans hg5).trans hg6).trans hg7
      have h57 := Sl.stays IntV.stays _ _ _ _ hr5' hg7
      have h67 := Sl.stays IntV.stays _ _ _ _ hr6 hg7
      clear hS hr5' hr6
      go_wp2
      go_loopw [78] (fun i wr => ∃ k : Nat, k ≤ BL.length ∧ i = .int .i64 k ∧ Grow w7 wr) (fun i _ => BL.length - (intOf i).toNat)
      case atStart => exact ⟨0, by omega, rfl, Grow.refl _⟩
      case round =>
        obtain ⟨k, hk, rfl, hgk⟩ := hrel
        by_cases hlt : k < BL.length
        · obtain ⟨b5, o5, u5, e5, hu5, hi5⟩ := h57.elem hlt 0
          obtain ⟨b6, o6, u6, e6, hu6, hi6⟩ := h67.elem hlt 0
          subst e5 e6
          have hi5' : u5 = .int .i64 (BL.getD k 0) := hi5
          have hi6' : u6 = .int .i64 (BL.getD k 0) := hi6
          subst hi5' hi6'
          have hu5' := hgk.at hu5
          have hu6' := hgk.at hu6
          generalize BL.getD k 0 = X at *
          generalize BL.length = nb at *
          have hdk : decide ((k : Int) < (nb : Int)) = true := by simp; omega
          go_wp2_with fail
          refine wp_region_stable Grow [IsV (.slice (some ⟨b5, o5, none⟩) nb c5), IsV (.int .i64 k), IsV (.pointer (some ⟨b5, o5 + k, none⟩)), IsV (.int .i64 X), IsV (.slice (some ⟨b6, o6, none⟩) nb c6), IsV (.int .i64 k), IsV (.pointer (some ⟨b6, o6 + k, none⟩)), IsV (.int .i64 X), IsV (.bool false)] (by kernel_rfl) (by kernel_rfl) rfl Grow.refl (fun _ _ _ => Grow.trans) ?_ ?_ ?_
          · repeat (refine List.forall_mem_cons.2 ⟨by first | exact IsV.stable _, ?_⟩)
            exact fun R hR => nomatch hR
          · skip
            refine StepsS.cons ?_ fun v0 => ⟨_, _, by simp only [Act.put, List.setIfInBounds_toArray, List.set_cons_succ, List.set_cons_zero]; first | done | rfl, by simp only [List.nil_append]; first | done | rfl, ?_⟩
            · intro w1 hE hd
              clear hd
              go_wp2
              exact ⟨_, rfl, Grow.refl _, rfl⟩
            refine StepsS.cons ?_ fun v1 => ⟨_, _, by simp only [Act.put, List.setIfInBounds_toArray, List.set_cons_succ, List.set_cons_zero]; first | done | rfl, by simp only [List.nil_append, List.cons_append]; first | done | rfl, ?_⟩
            · intro w1 hE hd
              clear hd
              go_wp2
              exact ⟨_, rfl, Grow.refl _, rfl⟩
            refine StepsS.cons ?_ fun v2 => ⟨_, _, by simp only [Act.put, List.setIfInBounds_toArray, List.set_cons_succ, List.set_cons_zero]; first | done | rfl, by simp only [List.nil_append, List.cons_append]; first | done | rfl, ?_⟩
            · intro w1 hE hd
              obtain rfl := IsV.eq (dep_at hd 0 rfl rfl rfl)
              obtain rfl := IsV.eq (dep_at hd 1 rfl rfl rfl)
              clear hd
              go_wp2
              exact ⟨_, rfl, Grow.refl _, rfl⟩
            refine StepsS.cons ?_ fun v3 => ⟨_, _, by simp only [Act.put, List.setIfInBounds_toArray, List.set_cons_succ, List.set_cons_zero]; first | done | rfl, by simp only [List.nil_append, List.cons_append]; first | done | rfl, ?_⟩
            · intro w1 hE hd
              obtain rfl := IsV.eq (dep_at hd 0 rfl rfl rfl)
              clear hd
              have qq := hE.drew.at hu5'
              go_wp2
              exact ⟨_, rfl, Grow.refl _, rfl⟩
            refine StepsS.cons ?_ fun v4 => ⟨_, _, by simp only [Act.put, List.setIfInBounds_toArray, List.set_cons_succ, List.set_cons_zero]; first | done | rfl, by simp only [List.nil_append, List.cons_append]; first | done | rfl, ?_⟩
            · intro w1 hE hd
              clear hd
              go_wp2
              exact ⟨_, rfl, Grow.refl _, rfl⟩
            refine StepsS.cons ?_ fun v5 => ⟨_, _, by simp only [Act.put, List.setIfInBounds_toArray, List.set_cons_succ, List.set_cons_zero]; first | done | rfl, by simp only [List.nil_append, List.cons_append]; first | done | rfl, ?_⟩
            · intro w1 hE hd
              clear hd
              go_wp2
              exact ⟨_, rfl, Grow.refl _, rfl⟩
            refine StepsS.cons ?_ fun v6 => ⟨_, _, by simp only [Act.put, List.setIfInBounds_toArray, List.set_cons_succ, List.set_cons_zero]; first | done | rfl, by simp only [List.nil_append, List.cons_append]; first | done | rfl, ?_⟩
            · intro w1 hE hd
              obtain rfl := IsV.eq (dep_at hd 0 rfl rfl rfl)
              obtain rfl := IsV.eq (dep_at hd 1 rfl rfl rfl)
              clear hd
              go_wp2
              exact ⟨_, rfl, Grow.refl _, rfl⟩
            refine StepsS.cons ?_ fun v7 => ⟨_, _, by simp only [Act.put, List.setIfInBounds_toArray, List.set_cons_succ, List.set_cons_zero]; first | done | rfl, by simp only [List.nil_append, List.cons_append]; first | done | rfl, ?_⟩
            · intro w1 hE hd
              obtain rfl := IsV.eq (dep_at hd 0 rfl rfl rfl)
              clear hd
              have qq := hE.drew.at hu6'
              go_wp2
              exact ⟨_, rfl, Grow.refl _, rfl⟩
            refine StepsS.cons ?_ fun v8 => ⟨_, _, by simp only [Act.put, List.setIfInBounds_toArray, List.set_cons_succ, List.set_cons_zero]; first | done | rfl, by simp only [List.nil_append, List.cons_append]; first | done | rfl, ?_⟩
            · intro w1 hE hd
              obtain rfl := IsV.eq (dep_at hd 0 rfl rfl rfl)
              obtain rfl := IsV.eq (dep_at hd 1 rfl rfl rfl)
              clear hd
              go_wp2
              exact ⟨_, rfl, Grow.refl _, rfl⟩
            trivial
          intro wT hwT
          refine FinS.cons ?_; rintro _ rfl; refine ⟨_, by simp only [Act.put, List.setIfInBounds_toArray, List.set_cons_succ, List.set_cons_zero]; first | done | rfl, ?_⟩
          refine FinS.cons ?_; rintro _ rfl; refine ⟨_, by simp only [Act.put, List.setIfInBounds_toArray, List.set_cons_succ, List.set_cons_zero]; first | done | rfl, ?_⟩
          refine FinS.cons ?_; rintro _ rfl; refine ⟨_, by simp only [Act.put, List.setIfInBounds_toArray, List.set_cons_succ, List.set_cons_zero]; first | done | rfl, ?_⟩
          refine FinS.cons ?_; rintro _ rfl; refine ⟨_, by simp only [Act.put, List.setIfInBounds_toArray, List.set_cons_succ, List.set_cons_zero]; first | done | rfl, ?_⟩
          refine FinS.cons ?_; rintro _ rfl; refine ⟨_, by simp only [Act.put, List.setIfInBounds_toArray, List.set_cons_succ, List.set_cons_zero]; first | done | rfl, ?_⟩
          refine FinS.cons ?_; rintro _ rfl; refine ⟨_, by simp only [Act.put, List.setIfInBounds_toArray, List.set_cons_succ, List.set_cons_zero]; first | done | rfl, ?_⟩
          refine FinS.cons ?_; rintro _ rfl; refine ⟨_, by simp only [Act.put, List.setIfInBounds_toArray, List.set_cons_succ, List.set_cons_zero]; first | done | rfl, ?_⟩
          refine FinS.cons ?_; rintro _ rfl; refine ⟨_, by simp only [Act.put, List.setIfInBounds_toArray, List.set_cons_succ, List.set_cons_zero]; first | done | rfl, ?_⟩
          refine FinS.cons ?_; rintro _ rfl; refine ⟨_, by simp only [Act.put, List.setIfInBounds_toArray, List.set_cons_succ, List.set_cons_zero]; first | done | rfl, ?_⟩
          first | show Exit.then _ _ _ _ _ | show Exit.inBlock _ _ _ _ _
          go_wp2
          go_roundw
          case rel => first | exact ⟨k + 1, by omega, by go_num, hgk.trans hwT.drew⟩ | ((repeat apply Exists.intro); exact ⟨⟨k + 1, by omega, by go_num, hgk.trans hwT.drew⟩, rfl⟩)
          case measure => simp [intOf]; omega
        · have hdk : decide ((k : Int) < (BL.length : Int)) = false := by simp; omega
          go_wp2
          go_loopw [93] (fun i wr => ∃ q : Nat, q ≤ ms.length ∧ i = .int .i64 q ∧ Hid (∀ j, j < q → (ms.getD j []).length = 4) ∧ Grow w wr) (fun i _ => ms.length - (intOf i).toNat)
          case atStart => exact ⟨0, by omega, rfl, (fun j hj => by omega), hgw7.trans hgk⟩
          case round =>
            obtain ⟨q, hq, rfl, HQ, hgq⟩ := hrel
            by_cases hlq : q < ms.length
            · obtain ⟨bq, oq, uq, eq1, huq, hbq⟩ := hu.elem (k := q) hlq []
              subst eq1
              obtain ⟨y1, y2, y3, rfl⟩ := hbq.form
              obtain rfl : y2 = (ms.getD q []).length := by obtain ⟨_, _, e, -⟩ := hbq; injection e with _ e _
              have huq' := hgq.at huq
              have hn := hbq.len
              unfold maxLen at hn
              by_cases hq4 : (ms.getD q []).length = 4
              · have HQ' : Hid (∀ j, j < q + 1 → (ms.getD j []).length = 4) := fun j hj => by
                  by_cases hjq : j = q
                  · subst hjq; exact hq4
                  · exact HQ.out j (by omega)
                rw [hq4] at huq'
                clear hq4 hbq huq
                go_wp2
                go_roundw
                case rel => first | exact ⟨q + 1, by omega, by go_num, HQ', hgq⟩ | ((repeat apply Exists.intro); exact ⟨⟨q + 1, by omega, by go_num, HQ', hgq⟩, rfl⟩)
                case measure => simp [intOf]; omega
              · clear hbq huq
                generalize (ms.getD q []).length = n at *
                have hn4 : ¬ (n : Int) = 4 := by omega
                go_wp2
                go_ret
                exact ⟨rfl, hgq⟩
            · have hall : ∀ x ∈ ms, x.length = 4 := fun x hx => by
                obtain ⟨j, hj, rfl⟩ := List.mem_iff_getElem.1 hx
                have := HQ.out j (by omega)
                simpa [List.getD_eq_getElem?_getD, hj] using this
              have hdq : decide ((q : Int) < (ms.length : Int)) = false := by simp; omega
              by_cases hm4 : ms.length = 4
              · have hM := stripeMake_row _ ms s wr (hu.grow hgq) hm4 hs3' hall
                have hN := fun w8 (hg : Grow wr w8) => refMake_any _ ms s w8 (hu.grow (hgq.trans hg)) (by omega) (by omega) hall
                rw [hm4] at hM hN ⊢
                clear HQ hdq
                go_wp2_with fail
                refine hM.mono ?_
                rintro e w8 ⟨r8, rfl, hr8, hg8⟩
                go_wp2_with fail
                refine (hN _ hg8).mono ?_
                rintro e w9 ⟨r9, rfl, hr9, hg9⟩
                have hS := refSame_eq r8 r9 (makeL ms s) w9 (Bss.grow hr8.done hg9) hr9.done
                clear hr8 hr9 hM hN
                go_wp2_with fail
                refine hS.mono ?_
                rintro e w10 ⟨rfl, hg10⟩
                go_wp2
                go_ret
                exact ⟨rfl, ((hgq.trans hg8).trans hg9).trans hg10⟩
              · clear HQ
                generalize ms.length = nm at *
                have hm4' : ¬ (nm : Int) = 4 := by omega
                go_wp2
                go_ret
                exact ⟨rfl, hgq⟩
    · have hl4' : ¬ (ls.length : Int) = 4 := by omega
      clear h hl4
      generalize ls.length = nls at *
      go_wp2
      go_loopw [93] (fun i wr => ∃ q : Nat, q ≤ ms.length ∧ i = .int .i64 q ∧ Hid (∀ j, j < q → (ms.getD j []).length = 4) ∧ Grow w wr) (fun i _ => ms.length - (intOf i).toNat)
      case atStart => exact ⟨0, by omega, rfl, (fun j hj => by omega), hgR⟩
      case round =>
        obtain ⟨q, hq, rfl, HQ, hgq⟩ := hrel
        by_cases hlq : q < ms.length
        · obtain ⟨bq, oq, uq, eq1, huq, hbq⟩ := hu.elem (k := q) hlq []
          subst eq1
          obtain ⟨y1, y2, y3, rfl⟩ := hbq.form
          obtain rfl : y2 = (ms.getD q []).length := by obtain ⟨_, _, e, -⟩ := hbq; injection e with _ e _
          have huq' := hgq.at huq
          have hn := hbq.len
          unfold maxLen at hn
          by_cases hq4 : (ms.getD q []).length = 4
          · have HQ' : Hid (∀ j, j < q + 1 → (ms.getD j []).length = 4) := fun j hj => by
              by_cases hjq : j = q
              · subst hjq; exact hq4
              · exact HQ.out j (by omega)
            rw [hq4] at huq'
            clear hq4 hbq huq
            go_wp2
            go_roundw
            case rel => first | exact ⟨q + 1, by omega, by go_num, HQ', hgq⟩ | ((repeat apply Exists.intro); exact ⟨⟨q + 1, by omega, by go_num, HQ', hgq⟩, rfl⟩)
            case measure => simp [intOf]; omega
          · clear hbq huq
            generalize (ms.getD q []).length = n at *
            have hn4 : ¬ (n : Int) = 4 := by omega
            go_wp2
            go_ret
            exact ⟨rfl, hgq⟩
        · have hall : ∀ x ∈ ms, x.length = 4 := fun x hx => by
            obtain ⟨j, hj, rfl⟩ := List.mem_iff_getElem.1 hx
            have := HQ.out j (by omega)
            simpa [List.getD_eq_getElem?_getD, hj] using this
          have hdq : decide ((q : Int) < (ms.length : Int)) = false := by simp; omega
          by_cases hm4 : ms.length = 4
          · have hM := stripeMake_row _ ms s wr (hu.grow hgq) hm4 hs3' hall
            have hN := fun w8 (hg : Grow wr w8) => refMake_any _ ms s w8 (hu.grow (hgq.trans hg)) (by omega) (by omega) hall
            rw [hm4] at hM hN ⊢
            clear HQ hdq
            go_wp2_with fail
            refine hM.mono ?_
            rintro e w8 ⟨r8, rfl, hr8, hg8⟩
            go_wp2_with fail
            refine (hN _ hg8).mono ?_
            rintro e w9 ⟨r9, rfl, hr9, hg9⟩
            have hS := refSame_eq r8 r9 (makeL ms s) w9 (Bss.grow hr8.done hg9) hr9.done
            clear hr8 hr9 hM hN
            go_wp2_with fail
            refine hS.mono ?_
            rintro e w10 ⟨rfl, hg10⟩
            go_wp2
            go_ret
            exact ⟨rfl, ((hgq.trans hg8).trans hg9).trans hg10⟩
          · clear HQ
            generalize ms.length = nm at *
            have hm4' : ¬ (nm : Int) = 4 := by omega
            go_wp2
            go_ret
            exact ⟨rfl, hgq⟩
  · have hout : s < 0 ∨ (0 ≤ s ∧ 3 ≤ s) := by omega
    obtain ⟨asv, csv, rfl⟩ : ∃ a c, sv = .slice a l.length c := by obtain ⟨a, c, e, -⟩ := hst; exact ⟨a, c, e⟩
    obtain ⟨av, cv, rfl, -, -⟩ := h.form'
    obtain ⟨au, cu, rfl, -, -⟩ := hu.form'
    clear hin hst h hu
    generalize l.length = nl at *
    generalize ls.length = nls at *
    generalize ms.length = nms at *
    rcases hout with q | ⟨q, q1⟩
    all_goals
      go_enter Try.func5, Try.ntmps5
      go_wp2
      go_ret
      exact ⟨rfl, Grow.refl _⟩

end Go.Proofs.Ytjggiameajndgab
