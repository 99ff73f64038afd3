import Derived.Lib.SlBytesConst
import Derived.ProofKit
import Derived.OpenShut
import Derived.Deep.Slices
import Derived.Test.YtjggiameajndgacJoin20
/-
  What the program's play.Do and play.Play return. Nothing old turns.
-/
namespace Go.Proofs.Ytjggiameajndgac
open Go.RowKit

set_option maxRecDepth 20000 in
set_option maxHeartbeats 6400000 in
theorem playFall_any (v dv : Value) (a : ArrP) (x : DeedP) (n : Int) (w : World) (h : ArrV w v a) (hA : Arr a) (hd : DeedV w dv x) :
    Calls Try.prog 58 #[v, dv, .int .i64 n] w fun e w' => ∃ r, e = .returned (.tuple #[r, .int .i64 (planE a x)]) ∧ ArrV w' r (fallA a x n) ∧ Grow w w' := by
  have harr := h
  have hdeed := hd
  obtain ⟨a1, n1, c1, a2, n2, c2, rfl⟩ := h.form
  obtain ⟨sv, rfl, hbd⟩ := hd
  obtain ⟨d1, d2, d3, rfl⟩ := hbd.form
  clear h hbd
  obtain ⟨W, hW⟩ : ∃ W, W = ((w.alloc (.cells #[.slice a1 n1 c1, .slice a2 n2 c2] 26)).alloc (.cells #[.int .i64 x.k, .int .i64 x.n, .int .i64 x.m, .slice d1 d2 d3] 54)).alloc (.cells #[.slice none 0 0, .slice none 0 0] 26) := ⟨_, rfl⟩
  have hgW : Grow w W := by rw [hW]; exact ((Grow.alloc _ _).trans (Grow.alloc _ _)).trans (Grow.alloc _ _)
  obtain ⟨H1, H2, H3⟩ := heap3 w (.cells #[.slice a1 n1 c1, .slice a2 n2 c2] 26) (.cells #[.int .i64 x.k, .int .i64 x.n, .int .i64 x.m, .slice d1 d2 d3] 54) (.cells #[.slice none 0 0, .slice none 0 0] 26)
  rw [← hW] at H1 H2 H3
  have k0 : W.cell? ⟨w.heap.size, 0, none⟩ = some (.slice a1 n1 c1) := row_at H1 0 rfl
  have k1 : W.cell? ⟨w.heap.size, 1, none⟩ = some (.slice a2 n2 c2) := row_at H1 1 rfl
  have d0' : W.cell? ⟨w.heap.size + 1, 0, none⟩ = some (.int .i64 x.k) := row_at H2 0 rfl
  have d1' : W.cell? ⟨w.heap.size + 1, 1, none⟩ = some (.int .i64 x.n) := row_at H2 1 rfl
  have d2' : W.cell? ⟨w.heap.size + 1, 2, none⟩ = some (.int .i64 x.m) := row_at H2 2 rfl
  have d3' : W.cell? ⟨w.heap.size + 1, 3, none⟩ = some (.slice d1 d2 d3) := row_at H2 3 rfl
  have HR : Hid (W.heap[w.heap.size + 1 + 1]? = some (.cells #[.slice none 0 0, .slice none 0 0] 26 (0, 0))) := H3
  clear H1 H2 H3
  have hP := arrPlan_any (.agg #[.slice a1 n1 c1, .slice a2 n2 c2]) (.agg #[.int .i64 x.k, .int .i64 x.n, .int .i64 x.m, .slice d1 d2 d3]) a x W (harr.grow hgW) hA.whole hA.short (hdeed.grow hgW)
  have HA : Hid (ArrV w (.agg #[.slice a1 n1 c1, .slice a2 n2 c2]) a ∧ Arr a) := ⟨harr, hA⟩
  clear harr hA hdeed
  go_enter Try.func58, Try.ntmps58
  go_wp2_with fail
  rw [← hW]
  clear hW
  refine hP.mono ?_
  rintro e w1 ⟨r, rfl, hr, hg1⟩
  clear hP d0' d1' d2' d3'
  obtain ⟨cv, rfl, hcv⟩ := hr
  obtain ⟨ac, nc, cc, rfl⟩ : ∃ a n c, cv = .slice a n c := by
    obtain ⟨a, c, e⟩ := hcv.form
    exact ⟨_, _, _, e⟩
  have hcv : Bss w1 (.slice ac nc cc) (planI a x).2 := hcv
  generalize hix : (planI a x).1 = ix at *
  have HIX : Hid ((planI a x).1 = ix) := hix
  have gA : Grow w1 (w1.alloc (.cells #[.int .i64 ix, .slice ac nc cc] 80)) := Grow.alloc _ _
  have hg02 := hg1.trans gA
  have hgw := hgW.trans hg02
  have q0 := hg02.at k0
  have q1 := hg02.at k1
  have hR := hg02.block' HR.out
  have hbI : (w1.alloc (.cells #[.int .i64 ix, .slice ac nc cc] 80)).heap[w1.heap.size]? = some (.cells #[.int .i64 ix, .slice ac nc cc] 80 (0, 0)) := heap_alloc_new w1 _
  have i0 := two_at0 hbI
  have i1 := two_at1 hbI
  have HCV : Hid (Bss (w1.alloc (.cells #[.int .i64 ix, .slice ac nc cc] 80)) (.slice ac nc cc) (planI a x).2) := hcv.grow gA
  by_cases he : planE a x = 0
  · obtain ⟨s, cs, hi, hs3, hc4, hc8⟩ := planI_yes HA.out.2.whole he
    have HDo : Hid (fallA a x n = mountL (writeL a ((s : Int), cs) n)) := by rw [Hid, fallA, if_pos he, hi]
    have HE : Hid (planE a x = 0) := he
    obtain rfl : ix = (s : Int) := by rw [← HIX.out, hi]
    have hwc := write_any (.agg #[.slice a1 n1 c1, .slice a2 n2 c2]) (.agg #[.int .i64 s, .slice ac nc cc]) a s cs n (w1.alloc (.cells #[.int .i64 s, .slice ac nc cc] 80)) (HA.out.1.grow hgw) HA.out.2.whole HA.out.2.short (.inl HA.out.2.none) ⟨_, rfl, by have := HCV.out; rw [hi] at this; exact this⟩ hs3 hc4 hc8
    obtain ⟨hwl, hw8, hwf⟩ := writeL_few HA.out.2 s cs hs3 hc4 hc8 n
    have hMt := fun v w' hv => mount_any v (writeL a ((s : Int), cs) n) w' hv hwl hw8 hwf
    rw [he]
    clear hcv hbI hi hc4 hc8 hix he k0 k1 HIX HCV hwl hw8 hwf
    generalize mountL (writeL a ((s : Int), cs) n) = mt at *
    generalize writeL a ((s : Int), cs) n = wl at *
    go_wp2_with fail
    refine hwc.mono ?_
    rintro e w3 ⟨bs3, dv3, iv3, rfl, hO3, hg3⟩
    clear hwc
    have hMt' := hMt _ w3 hO3.arr
    clear hMt hO3
    go_wp2_with fail
    refine hMt'.mono ?_
    rintro e w4 ⟨bs, dv, iv, rfl, hO, hg4⟩
    clear hMt'
    obtain ⟨⟨x1, x2, x3, rfl⟩, y1, y2, y3, rfl⟩ := hO.forms
    have hg34 := hg3.trans hg4
    have hR3 := hg34.block' hR
    have r0 := two_at0 hR3
    have r1 := two_at1 hR3
    have f0 : w4.frozen? ⟨w.heap.size + 1 + 1, 0, none⟩ = false := frozen_of_row w4 _ 0 _ _ hR3
    have f1 : w4.frozen? ⟨w.heap.size + 1 + 1, 1, none⟩ = false := frozen_of_row w4 _ 1 _ _ hR3
    obtain ⟨HF, z0, z1⟩ := do_end hR3 hO (hgw.trans hg34) (by omega) (hgw.trans hg3).size
    clear hO hR3 hR i0 i1 q0 q1 hg3 hg4 hg34
    go_wp2
    refine bodyPost_ret (results_two1 Try.results58 _ _ (w.heap.size + 1 + 1) _ rfl Try.underlying26 rfl Try.sizeA z0 z1) rfl ?_
    rw [HE.out]
    exact ⟨_, rfl, by rw [HDo.out]; exact HF.out.1.arr, HF.out.2⟩
  · have HDo : Hid (fallA a x n = a) := if_neg he
    have hoc := own_any (.agg #[.slice a1 n1 c1, .slice a2 n2 c2]) a (w1.alloc (.cells #[.int .i64 ix, .slice ac nc cc] 80)) (HA.out.1.grow hgw) HA.out.2.whole HA.out.2.short (.inl HA.out.2.none)
    clear hcv hbI hix k0 k1 HIX HCV
    generalize hE0 : planE a x = E at *
    have he' : (E != 0) = true := by simpa using he
    have HE : Hid (planE a x = E) := hE0
    clear hE0
    go_wp2_with fail
    refine hoc.mono ?_
    rintro e w3 ⟨bs, dv, iv, rfl, hO, hg3⟩
    clear hoc
    obtain ⟨⟨x1, x2, x3, rfl⟩, y1, y2, y3, rfl⟩ := hO.forms
    have hR3 := hg3.block' hR
    have r0 := two_at0 hR3
    have r1 := two_at1 hR3
    have f0 : w3.frozen? ⟨w.heap.size + 1 + 1, 0, none⟩ = false := frozen_of_row w3 _ 0 _ _ hR3
    have f1 : w3.frozen? ⟨w.heap.size + 1 + 1, 1, none⟩ = false := frozen_of_row w3 _ 1 _ _ hR3
    obtain ⟨HF, z0, z1⟩ := do_end hR3 hO (hgw.trans hg3) (by omega) hgw.size
    clear hO hR3 hR i0 i1 q0 q1
    go_wp2
    refine bodyPost_ret (results_two1 Try.results58 _ _ (w.heap.size + 1 + 1) _ rfl Try.underlying26 rfl Try.sizeA z0 z1) rfl ?_
    rw [HE.out]
    exact ⟨_, rfl, by rw [HDo.out]; exact HF.out.1.arr, HF.out.2⟩

set_option maxRecDepth 20000 in
set_option maxHeartbeats 6400000 in
theorem playRot_any (v : Value) (a : ArrP) (p k : Int) (w : World) (h : ArrV w v a) (ha : Arr a) (hp : p ≤ 9223372036854775807) :
    Calls Try.prog 59 #[v, .int .i64 p, .int .i64 k] w fun e w' => ∃ r, e = .returned (.tuple #[r, .int .i64 (if p < 0 then 6 else rotE a (p / 3) (p % 3) k)]) ∧ ArrV w' r (if p < 0 then a else rotL a (p / 3) (p % 3) k) ∧ Grow w w' := by
  obtain ⟨a1, n1, c1, a2, n2, c2, rfl⟩ := h.form
  obtain ⟨W, hW⟩ : ∃ W, W = (w.alloc (.cells #[.slice a1 n1 c1, .slice a2 n2 c2] 26)).alloc (.cells #[.slice none 0 0, .slice none 0 0] 26) := ⟨_, rfl⟩
  have hgW : Grow w W := by rw [hW]; exact (Grow.alloc _ _).trans (Grow.alloc _ _)
  have H1 : W.heap[w.heap.size]? = some (.cells #[.slice a1 n1 c1, .slice a2 n2 c2] 26 (0, 0)) := by rw [hW]; exact (heap_alloc_old _ _ (by simp)).trans (heap_alloc_new w _)
  have hR : W.heap[w.heap.size + 1]? = some (.cells #[.slice none 0 0, .slice none 0 0] 26 (0, 0)) := by rw [hW]; exact heap_alloc2_new w _ _
  have k0 := two_at0 H1
  have k1 := two_at1 H1
  have harrW := h.grow hgW
  clear h H1
  by_cases hn : p < 0
  · have hcall := own_any _ a W harrW ha.whole ha.short (.inl ha.none)
    clear harrW
    go_enter Try.func59, Try.ntmps59
    go_wp2_with fail
    rw [← hW]
    clear hW
    refine hcall.mono ?_
    rintro e w1 ⟨bs, dv, iv, rfl, hO, hg1⟩
    obtain ⟨⟨x1, x2, x3, rfl⟩, y1, y2, y3, rfl⟩ := hO.forms
    have hR1 := hg1.block' hR
    obtain ⟨t0, t1, f0, f1⟩ := two_open hR1
    obtain ⟨HF, z0, z1⟩ := do_end hR1 hO (hgW.trans hg1) (by omega) hgW.size
    clear hO hR hR1 k0 k1 hcall ha
    go_wp2
    refine bodyPost_ret (results_two1 Try.results59 _ _ (w.heap.size + 1) _ rfl Try.underlying26 rfl Try.sizeA z0 z1) rfl ?_
    exact ⟨_, rfl, HF.out.1.arr, HF.out.2⟩
  · have hcall := harmRot_any _ a (p / 3) (p % 3) k W harrW ha
    have hA := rotL_arr ha (p / 3) (p % 3) k
    have hn' : 0 ≤ p := by omega
    clear hn harrW
    go_enter Try.func59, Try.ntmps59
    go_wp2_with fail
    rw [← hW]
    clear hW
    refine hcall.mono ?_
    rintro e w1 ⟨r, rfl, hr, hg1⟩
    obtain ⟨p1, p2, p3, r1, r2, r3, rfl⟩ := hr.form
    have hR1 := hg1.block' hR
    obtain ⟨t0, t1, f0, f1⟩ := two_open hR1
    obtain ⟨hv, z0, z1, hg⟩ := two_fin hR1 (by omega) (hgW.trans hg1) hr hA.whole hA.fours
    have hfin : Hid (_ ∧ _) := ⟨hv, hg⟩
    clear hv hg hr hR hR1 k0 k1 hcall hA ha
    go_wp2
    refine bodyPost_ret (results_two1 Try.results59 _ _ (w.heap.size + 1) _ rfl Try.underlying26 rfl Try.sizeA z0 z1) rfl ?_
    exact ⟨_, rfl, hfin.out.1, hfin.out.2⟩

theorem playDeed_any (v dv : Value) (a : ArrP) (x : DeedP) (w : World) (h : ArrV w v a) (ha : Arr a) (hd : DeedV w dv x) :
    Calls Try.prog 57 #[v, dv] w fun e w' => ∃ r, e = .returned (.tuple #[r, .int .i64 (planE a x)]) ∧ ArrV w' r (doA a x) ∧ Grow w w' :=
  (arrDo_any v dv a x w h ha.whole ha.short (.inl ha.none) hd).mono fun _ _ ⟨_, _, _, he, hO, hg⟩ => ⟨_, he, hO.arr, hg⟩

theorem playMend_any (v : Value) (a : ArrP) (s : Int) (w : World) (h : ArrV w v a) (ha : Arr a) :
    Calls Try.prog 16 #[v, .int .i64 s] w fun e w' => ∃ r, e = .returned (.tuple #[r, .int .i64 (mendN a s), .int .i64 (mendE a s)]) ∧ ArrV w' r (mendL a s) ∧ Grow w w' :=
  (mendStripe_any v a s w h ha.whole ha.short (.inl ha.none)).mono fun _ _ ⟨_, _, _, he, hO, hg⟩ => ⟨_, he, hO.arr, hg⟩

set_option maxRecDepth 20000 in
set_option maxHeartbeats 6400000 in
theorem playDo_any (v sv : Value) (a : ArrP) (x : StepP) (w : World) (h : ArrV w v a) (ha : Arr a) (hs : StepV w sv x) :
    Calls Try.prog 33 #[v, sv] w fun e w' => ∃ r, e = .returned (.tuple #[r, .int .i64 (stepE a x)]) ∧ ArrV w' r (stepA a x) ∧ Grow w w' := by
  have harr := h
  obtain ⟨a1, n1, c1, a2, n2, c2, rfl⟩ := h.form
  obtain ⟨dv, rfl, hbd, hmax⟩ := hs
  obtain ⟨d1, d2, d3, rfl⟩ := hbd.form
  clear h
  obtain ⟨W, hW⟩ : ∃ W, W = ((w.alloc (.cells #[.slice a1 n1 c1, .slice a2 n2 c2] 26)).alloc (.cells #[.int .i64 x.k, .int .i64 x.n, .int .i64 x.m, .int .i64 x.d.k, .int .i64 x.d.n, .int .i64 x.d.m, .slice d1 d2 d3] 56)).alloc (.cells #[.slice none 0 0, .slice none 0 0] 26) := ⟨_, rfl⟩
  have HB : Boxes w W a1 n1 c1 a2 n2 c2 x (.slice d1 d2 d3) := by rw [hW]; exact Boxes.mk' ..
  obtain ⟨hgW, k0, k1, s0, s1, s2, s3, s4, s5, s6, hR⟩ := HB
  have hdeed : DeedV W (.agg #[.int .i64 x.d.k, .int .i64 x.d.n, .int .i64 x.d.m, .slice d1 d2 d3]) x.d := ⟨_, rfl, hbd.grow hgW⟩
  have harrW := harr.grow hgW
  clear hbd
  have hlW : w.heap.size ≤ w.heap.size + 1 + 1 := by omega
  by_cases x1 : x.k = 1
  · have HE : Hid (stepE a x = planE a x.d ∧ stepA a x = doA a x.d) := ⟨if_pos x1, if_pos x1⟩
    have hcall := playDeed_any _ _ a x.d W harrW ha hdeed
    have hA := doA_arr ha x.d
    rw [x1] at s0 hW ⊢
    clear x1
    go_enter Try.func33, Try.ntmps33
    go_wp2_with fail
    rw [← hW]
    refine hcall.mono ?_
    rintro e w1 ⟨r, rfl, hr, hg1⟩
    obtain ⟨p1, p2, p3, r1, r2, r3, rfl⟩ := hr.form
    have hR1 := hg1.block' hR
    obtain ⟨t0, t1, f0, f1⟩ := two_open hR1
    obtain ⟨hv, z0, z1, hg⟩ := two_fin hR1 hlW (hgW.trans hg1) hr hA.whole hA.fours
    have hfin : Hid (_ ∧ _) := ⟨hv, hg⟩
    clear hv hg hr hR hR1 hW k0 k1 s0 s1 s2 s3 s4 s5 s6 hcall
    go_wp2
    refine bodyPost_ret (results_two1 Try.results33 _ _ (w.heap.size + 1 + 1) _ rfl Try.underlying26 rfl Try.sizeA z0 z1) rfl ?_
    exact ⟨_, ret_v2 HE.out.1.symm, by rw [HE.out.2]; exact hfin.out.1, hfin.out.2⟩
  by_cases x2 : x.k = 2
  · have HE : Hid (stepE a x = planE a x.d ∧ stepA a x = fallA a x.d x.n) := ⟨(if_neg x1).trans (if_pos x2), (if_neg x1).trans (if_pos x2)⟩
    have hcall := playFall_any _ _ a x.d x.n W harrW ha hdeed
    have hA := fallA_arr ha x.d x.n
    rw [x2] at s0 hW ⊢
    clear x1 x2
    go_enter Try.func33, Try.ntmps33
    go_wp2_with fail
    rw [← hW]
    refine hcall.mono ?_
    rintro e w1 ⟨r, rfl, hr, hg1⟩
    obtain ⟨p1, p2, p3, r1, r2, r3, rfl⟩ := hr.form
    have hR1 := hg1.block' hR
    obtain ⟨t0, t1, f0, f1⟩ := two_open hR1
    obtain ⟨hv, z0, z1, hg⟩ := two_fin hR1 hlW (hgW.trans hg1) hr hA.whole hA.fours
    have hfin : Hid (_ ∧ _) := ⟨hv, hg⟩
    clear hv hg hr hR hR1 hW k0 k1 s0 s1 s2 s3 s4 s5 s6 hcall
    go_wp2
    refine bodyPost_ret (results_two1 Try.results33 _ _ (w.heap.size + 1 + 1) _ rfl Try.underlying26 rfl Try.sizeA z0 z1) rfl ?_
    exact ⟨_, ret_v2 HE.out.1.symm, by rw [HE.out.2]; exact hfin.out.1, hfin.out.2⟩
  by_cases x3 : x.k = 3
  · have HE : Hid (stepE a x = (if x.n < 0 then 6 else rotE a (x.n / 3) (x.n % 3) x.m) ∧ stepA a x = (if x.n < 0 then a else rotL a (x.n / 3) (x.n % 3) x.m)) := ⟨(if_neg x1).trans ((if_neg x2).trans (if_pos x3)), (if_neg x1).trans ((if_neg x2).trans (if_pos x3))⟩
    have hcall := playRot_any _ a x.n x.m W harrW ha hmax
    have hA : Arr (if x.n < 0 then a else rotL a (x.n / 3) (x.n % 3) x.m) := by
      split
      · exact ha
      · exact rotL_arr ha _ _ _
    rw [x3] at s0 hW ⊢
    clear x1 x2 x3 hdeed
    generalize (if x.n < 0 then a else rotL a (x.n / 3) (x.n % 3) x.m) = A at *
    generalize (if x.n < 0 then 6 else rotE a (x.n / 3) (x.n % 3) x.m) = E at *
    go_enter Try.func33, Try.ntmps33
    go_wp2_with fail
    rw [← hW]
    refine hcall.mono ?_
    rintro e w1 ⟨r, rfl, hr, hg1⟩
    obtain ⟨p1, p2, p3, r1, r2, r3, rfl⟩ := hr.form
    have hR1 := hg1.block' hR
    obtain ⟨t0, t1, f0, f1⟩ := two_open hR1
    obtain ⟨hv, z0, z1, hg⟩ := two_fin hR1 hlW (hgW.trans hg1) hr hA.whole hA.fours
    have hfin : Hid (_ ∧ _) := ⟨hv, hg⟩
    clear hv hg hr hR hR1 hW k0 k1 s0 s1 s2 s3 s4 s5 s6 hcall
    go_wp2
    refine bodyPost_ret (results_two1 Try.results33 _ _ (w.heap.size + 1 + 1) _ rfl Try.underlying26 rfl Try.sizeA z0 z1) rfl ?_
    exact ⟨_, ret_v2 HE.out.1.symm, by rw [HE.out.2]; exact hfin.out.1, hfin.out.2⟩
  by_cases x4 : x.k = 4
  · have HE : Hid (stepE a x = goneE x.n ∧ stepA a x = goneL a x.n) := ⟨(if_neg x1).trans ((if_neg x2).trans ((if_neg x3).trans (if_pos x4))), (if_neg x1).trans ((if_neg x2).trans ((if_neg x3).trans (if_pos x4)))⟩
    have hcall := harmGone_any _ a x.n W harrW ha
    have hA := goneL_arr ha x.n
    rw [x4] at s0 hW ⊢
    clear x1 x2 x3 x4 hdeed
    go_enter Try.func33, Try.ntmps33
    go_wp2_with fail
    rw [← hW]
    refine hcall.mono ?_
    rintro e w1 ⟨r, rfl, hr, hg1⟩
    obtain ⟨p1, p2, p3, r1, r2, r3, rfl⟩ := hr.form
    have hR1 := hg1.block' hR
    obtain ⟨t0, t1, f0, f1⟩ := two_open hR1
    obtain ⟨hv, z0, z1, hg⟩ := two_fin hR1 hlW (hgW.trans hg1) hr hA.whole hA.fours
    have hfin : Hid (_ ∧ _) := ⟨hv, hg⟩
    clear hv hg hr hR hR1 hW k0 k1 s0 s1 s2 s3 s4 s5 s6 hcall
    go_wp2
    refine bodyPost_ret (results_two1 Try.results33 _ _ (w.heap.size + 1 + 1) _ rfl Try.underlying26 rfl Try.sizeA z0 z1) rfl ?_
    exact ⟨_, ret_v2 HE.out.1.symm, by rw [HE.out.2]; exact hfin.out.1, hfin.out.2⟩
  by_cases x5 : x.k = 5
  · have HE : Hid (stepE a x = mendE a x.n ∧ stepA a x = mendL a x.n) := ⟨(if_neg x1).trans ((if_neg x2).trans ((if_neg x3).trans ((if_neg x4).trans (if_pos x5)))), (if_neg x1).trans ((if_neg x2).trans ((if_neg x3).trans ((if_neg x4).trans (if_pos x5))))⟩
    have hcall := playMend_any _ a x.n W harrW ha
    have hA := mendL_arr ha x.n
    rw [x5] at s0 hW ⊢
    clear x1 x2 x3 x4 x5 hdeed
    go_enter Try.func33, Try.ntmps33
    go_wp2_with fail
    rw [← hW]
    refine hcall.mono ?_
    rintro e w1 ⟨r, rfl, hr, hg1⟩
    obtain ⟨p1, p2, p3, r1, r2, r3, rfl⟩ := hr.form
    have hg2 : Grow w1 (w1.alloc (.cells #[.slice p1 p2 p3, .slice r1 r2 r3] 26)) := Grow.alloc _ _
    have hg12 := hg1.trans hg2
    have hR1 := hg12.block' hR
    obtain ⟨t0, t1, f0, f1⟩ := two_open hR1
    obtain ⟨hv, z0, z1, hg⟩ := two_fin hR1 hlW (hgW.trans hg12) (hr.grow hg2) hA.whole hA.fours
    have hfin : Hid (_ ∧ _) := ⟨hv, hg⟩
    clear hv hg hr hR hR1 hW k0 k1 s0 s1 s2 s3 s4 s5 s6 hcall
    go_wp2
    refine bodyPost_ret (results_two1 Try.results33 _ _ (w.heap.size + 1 + 1) _ rfl Try.underlying26 rfl Try.sizeA z0 z1) rfl ?_
    exact ⟨_, ret_v2 HE.out.1.symm, by rw [HE.out.2]; exact hfin.out.1, hfin.out.2⟩
  · have HE : Hid (stepE a x = 1 ∧ stepA a x = a) := ⟨(if_neg x1).trans ((if_neg x2).trans ((if_neg x3).trans ((if_neg x4).trans (if_neg x5)))), (if_neg x1).trans ((if_neg x2).trans ((if_neg x3).trans ((if_neg x4).trans (if_neg x5))))⟩
    have y1 : (x.k == 1) = false := by simpa using x1
    have y2 : (x.k == 2) = false := by simpa using x2
    have y3 : (x.k == 3) = false := by simpa using x3
    have y4 : (x.k == 4) = false := by simpa using x4
    have y5 : (x.k == 5) = false := by simpa using x5
    have hcall := own_any _ a W harrW ha.whole ha.short (.inl ha.none)
    clear x1 x2 x3 x4 x5 hdeed harrW harr
    go_enter Try.func33, Try.ntmps33
    go_wp2_with fail
    rw [← hW]
    refine hcall.mono ?_
    rintro e w1 ⟨bs, dv, iv, rfl, hO, hg1⟩
    obtain ⟨⟨p1, p2, p3, rfl⟩, r1, r2, r3, rfl⟩ := hO.forms
    have hR1 := hg1.block' hR
    obtain ⟨t0, t1, f0, f1⟩ := two_open hR1
    obtain ⟨HF, z0, z1⟩ := do_end hR1 hO (hgW.trans hg1) hlW hgW.size
    clear hO hR hR1 hW k0 k1 s0 s1 s2 s3 s4 s5 s6 hcall ha
    go_wp2
    refine bodyPost_ret (results_two1 Try.results33 _ _ (w.heap.size + 1 + 1) _ rfl Try.underlying26 rfl Try.sizeA z0 z1) rfl ?_
    exact ⟨_, ret_v2 HE.out.1.symm, by rw [HE.out.2]; exact HF.out.1.arr, HF.out.2⟩

/-- What the first k have told, in a row as long as all. -/
def toldPs (l : List StepP) (k : Nat) : List Int := playEs l k ++ List.replicate (l.length - k) 0

theorem toldPs_length {l : List StepP} {k : Nat} (h : k ≤ l.length) : (toldPs l k).length = l.length := by
  rw [toldPs, List.length_append, playEs_length, List.length_replicate]; omega

theorem toldPs_set {l : List StepP} {k : Nat} {s : StepP} (h : l[k]? = some s) : (toldPs l k).set k (stepE (playTo l k) s) = toldPs l (k + 1) := by
  have hk : k < l.length := by
    by_cases hk : k < l.length
    · exact hk
    · rw [List.getElem?_eq_none (by omega)] at h; cases h
  rw [toldPs, toldPs, ← playEs_succ h, show l.length - k = (l.length - (k + 1)) + 1 by omega, List.replicate_succ, List.set_append, if_neg (by rw [playEs_length]; omega), playEs_length, Nat.sub_self, List.set_cons_zero, List.append_assoc]
  rfl

theorem toldPs_all {l : List StepP} {k : Nat} (h : k = l.length) : toldPs l k = playEs l l.length := by
  rw [toldPs, h, Nat.sub_self, List.replicate_zero, List.append_nil]

theorem NumRow.put {B : Nat} {e : TypeId} {w : World} {g n : Nat} {ns : List Int} (h : NumRow B e w (.slice (some ⟨g, 0, none⟩) n n) ns) (hn : ns.length = n) (j : Nat) (x : Int) : NumRow B e (w.setCell ⟨g, j, none⟩ (.int .i64 x)) (.slice (some ⟨g, 0, none⟩) n n) (ns.set j x) := by
  subst hn
  refine ⟨?_, fun g' hg' => ?_⟩
  · have := (h.1.stored j (.int .i64 x)).1
    rw [List.length_set, List.map_set]
    exact this
  · cases hg'
    obtain ⟨cs, t, mk, h1, h2⟩ := h.2 g rfl
    rcases h.1.2 with ⟨h', _⟩ | ⟨g', cap', cur, h', _, hg, _⟩
    · cases h'
    · injection h' with h'
      injection h' with h'
      injection h' with h'
      subst h'
      rw [hg] at h1
      injection h1 with h1
      injection h1 with h1 _ _
      subst h1
      refine ⟨_, _, _, heap_setCell_same w g j cur e (.int .i64 x) hg, fun u hu => ?_⟩
      rw [Array.toList_setIfInBounds] at hu
      rcases List.mem_or_eq_of_mem_set hu with hu | rfl
      · exact h2 u hu
      · exact ⟨x, rfl⟩

theorem NumRow.made (w : World) (e : TypeId) {n : Nat} (hn : n ≤ maxLen) : NumRow w.heap.size e (w.alloc (.cells (madeCells #[.int .i64 0] n) e)) (.slice (some ⟨w.heap.size, 0, none⟩) n n) (List.replicate n 0) := by
  refine ⟨?_, fun g hg => ?_⟩
  · have := World.ownsRow_lit (base := w.heap.size) (e := e) (size := 1) w (madeCells #[.int .i64 0] n) n (Nat.le_refl _) hn (by rw [size_madeCells, Nat.mul_one])
    rw [toList_madeCells_one] at this
    rw [List.length_replicate, List.map_replicate]
    exact this
  · cases hg
    refine ⟨_, _, _, heap_alloc_new w _, fun u hu => ?_⟩
    rw [toList_madeCells_one] at hu
    exact ⟨0, (List.mem_replicate.1 hu).2⟩

set_option maxRecDepth 20000 in
set_option maxHeartbeats 3200000 in
theorem playMany_any (v : Value) (l : List StepP) (w : World) (h : Stps w v l) (hm : 100 < l.length) :
    Calls Try.prog 32 #[v] w fun e w' => ∃ p1 c1 p2 n2 c2 p3 c3, e = .returned (.tuple #[.agg #[.slice p1 0 c1, .slice p2 n2 c2], .slice p3 0 c3, .int .i64 5]) ∧ Grow w w' := by
  obtain ⟨ao, cap, rfl, -, -, -, -⟩ := h
  have hgF : Grow w (w.alloc (.cells #[.slice none 0 0, .slice none 0 0] 26)) := Grow.alloc _ _
  have hm' : (100 : Int) < l.length := by omega
  clear hm
  go_enter Try.func32, Try.ntmps32
  go_wp2
  refine bodyPost_ret (results_two2 Try.results32 _ _ w.heap.size _ rfl Try.underlying26 rfl Try.sizeA (x := .slice none 0 0) (y := .slice none 0 0) (by simp) (by simp)) rfl ?_
  exact ⟨_, _, _, _, _, _, _, rfl, hgF⟩

set_option maxRecDepth 20000 in
set_option maxHeartbeats 6400000 in
theorem playPlay_any (v : Value) (l : List StepP) (w : World) (h : Stps w v l) (hm : l.length ≤ 100) :
    Calls Try.prog 32 #[v] w fun e w' => ∃ r es, e = .returned (.tuple #[r, es, .int .i64 0]) ∧ ArrV w' r (playL l) ∧ Sl IntV w' es (playEs l l.length) ∧ Grow w w' := by
  obtain ⟨ao, cap, rfl, h1, h2, h3, h4⟩ := h
  unfold maxLen at h2
  have hgR : Grow w (w.alloc (.cells #[.slice none 0 0, .slice none 0 0] 26)) := Grow.alloc _ _
  have hR0 := heap_alloc_new w (.cells #[.slice none 0 0, .slice none 0 0] 26)
  have hm' : (l.length : Int) ≤ 100 := by omega
  go_enter Try.func32, Try.ntmps32
  go_wp2_with fail
  refine (arrNew_any _).mono ?_
  rintro e w1 ⟨r, rfl, hr, hg1⟩
  obtain ⟨p1, p2, p3, r1, r2, r3, rfl⟩ := hr.form
  obtain ⟨q, hq⟩ : ∃ q, q = w1.heap.size := ⟨_, rfl⟩
  have hmk := run_make_row' (P := Try.prog) 27 30 (.int .i64 0) 8 Try.underlying27 Try.infoE rfl .i64 .i64 l.length (by omega) (by omega) (w1.alloc (.cells #[.slice p1 p2 p3, .slice r1 r2 r3] 26))
  have hgA : Grow w1 (w1.alloc (.cells #[.slice p1 p2 p3, .slice r1 r2 r3] 26)) := Grow.alloc _ _
  obtain ⟨W2, hW2⟩ : ∃ W2, W2 = (w1.alloc (.cells #[.slice p1 p2 p3, .slice r1 r2 r3] 26)).alloc (.cells (madeCells #[.int .i64 0] l.length) 30) := ⟨_, rfl⟩
  have hg2 : Grow w1 W2 := by rw [hW2]; exact hgA.trans (Grow.alloc _ _)
  have hlR : w.heap.size < q := by have := hg1.size; simp at this; omega
  have hI : BInv w q w.heap.size (.slice p1 p2 p3) (.slice r1 r2 r3) (playTo l 0) W2 := ⟨⟨by rw [hW2, hq]; exact (heap_alloc_old _ _ (by simp)).trans (heap_alloc_new w1 _), (hg1.trans hg2).block' hR0⟩, hr.grow hg2, (hgR.trans hg1).trans hg2⟩
  have hN : NumRow (q + 1) 30 W2 (.slice (some ⟨q + 1, 0, none⟩) l.length l.length) (toldPs l 0) := by
    have := NumRow.made (w1.alloc (.cells #[.slice p1 p2 p3, .slice r1 r2 r3] 26)) 30 (n := l.length) (by unfold maxLen; omega)
    rw [← hW2, show (w1.alloc (.cells #[.slice p1 p2 p3, .slice r1 r2 r3] 26)).heap.size = q + 1 from by rw [hq]; simp] at this
    exact this
  have harrs := playTo_arr l
  clear hr hR0 hgA hg1 hgR hg2
  go_wp2
  rw [← hW2, ← hq]
  clear hW2 hq hmk
  go_loopw [19] (fun i wr => ∃ (k : Nat) (x y : Value), k ≤ l.length ∧ i = .int .i64 k ∧ Hid (NumRow (q + 1) 30 wr (.slice (some ⟨q + 1, 0, none⟩) l.length l.length) (toldPs l k)) ∧ BInv w q w.heap.size x y (playTo l k) wr) (fun i _ => l.length - (intOf i).toNat)
  case atStart => exact ⟨0, _, _, by omega, rfl, hN, hI⟩
  case round =>
    obtain ⟨k, x, y, hk, rfl, HN, hB⟩ := hrel
    have HB : Hid (BInv w q w.heap.size x y (playTo l k) wr) := hB
    obtain ⟨⟨hA, hR⟩, HV, hgr⟩ := hB
    obtain ⟨⟨x1, x2, x3, rfl⟩, y1, y2, y3, rfl⟩ := HV.out.form2
    clear hN hI
    by_cases hlt : k < l.length
    · obtain ⟨b, off, rfl, hc⟩ := h4 (by omega)
      obtain ⟨dv, hst⟩ := hc k l[k] (by simp [hlt])
      have HS : Hid (l[k]? = some l[k]) := by rw [Hid]; simp [hlt]
      generalize l[k] = s at *
      clear hc h4
      obtain ⟨s0, s1, s2, s3, s4, s5, s6, s7, s8⟩ := hst.grow hgr
      obtain ⟨d1, d2, d3, rfl⟩ := s7.form
      have b0 := two_at0 hA
      have b1 := two_at1 hA
      have fA0 : wr.frozen? ⟨q, 0, none⟩ = false := frozen_of_row wr _ 0 _ _ hA
      have fA1 : wr.frozen? ⟨q, 1, none⟩ = false := frozen_of_row wr _ 1 _ _ hA
      have hgS := Grow.alloc wr (.cells #[.int .i64 s.k, .int .i64 s.n, .int .i64 s.m, .int .i64 s.d.k, .int .i64 s.d.n, .int .i64 s.d.m, .slice d1 d2 d3] 56)
      have c0 := hgS.at b0
      have c1 := hgS.at b1
      have hcall := playDo_any _ _ (playTo l k) s _ (HV.out.grow hgS) (harrs k) ⟨_, rfl, s7.grow hgS, s8⟩
      have hki : (k : Int) < l.length := by omega
      clear hA hR
      go_wp2_with fail
      refine hcall.mono ?_
      rintro e w3 ⟨r', rfl, hr', hg3⟩
      obtain ⟨p1', p2', p3', q1', q2', q3', rfl⟩ := hr'.form
      have hg5 := hgS.trans hg3
      have HS1 := playTo_succ HS.out
      have hA5 := stepA_arr (harrs k) s
      have hB5 := BInv.put HB.out hg5 hr' hA5.whole hA5.fours (by omega) (by omega)
      have hN3 := HN.out.grow hg5
      have hN5 := (hN3.kept (grownIn_set w3 q 0 (.slice p1' p2' p3') (G := fun j => j = q) rfl) (fun j hj e => by have := (hN3.base j hj).1; omega)).kept (grownIn_set _ q 1 (.slice q1' q2' q3') (G := fun j => j = q) rfl) (fun j hj e => by have := (hN3.base j hj).1; omega)
      have hLt := toldPs_length (l := l) hk
      have hN7 := hN5.put hLt k (stepE (playTo l k) s)
      rw [toldPs_set HS.out] at hN7
      rw [← HS1] at hB5
      have hB7 := hB5.num hN5 (grownIn_set _ (q + 1) k (.int .i64 (stepE (playTo l k) s)) rfl) (by omega) (by omega) (by omega) (harrs (k + 1)).none
      have HF : Hid (_ ∧ _) := ⟨hN7, hB7⟩
      have e0 := hg5.at b0
      have e1 := hg5.at b1
      have g0 := (hg5.frozen (a := ⟨q, 0, none⟩) (cell_lt b0)).trans fA0
      have g1 := (hg5.frozen (a := ⟨q, 1, none⟩) (cell_lt b0)).trans fA1
      have ho3 := hN3.1
      rw [hLt] at ho3
      obtain ⟨u0, hu0⟩ : ∃ u0, w3.cell? ⟨q + 1, k, none⟩ = some u0 := ⟨.int .i64 ((toldPs l k)[k]'(by omega)), by
        rw [ho3.cellAt k (by omega), List.getElem?_map, List.getElem?_eq_getElem (by omega)]; rfl⟩
      have f2 : w3.frozen? ⟨q + 1, k, none⟩ = false := ho3.frozenAt k
      clear hN7 hB7 hB5 hN5 hN3 ho3 hLt HN HB HV hst hcall hr' HS1 s0 s1 s2 s3 s4 s5 s6 s7 s8 b0 b1 c0 c1 fA0 fA1 hA5 hg5 hg3 hgS hgr HS
      generalize stepE (playTo l k) s = E at *
      go_wp2
      go_roundw
      case rel => first | exact ⟨k + 1, _, _, by omega, by go_num, HF.out.1, HF.out.2⟩ | ((repeat apply Exists.intro); exact ⟨⟨k + 1, _, _, by omega, by go_num, HF.out.1, HF.out.2⟩, rfl⟩)
      case measure => simp [intOf]; omega
    · have HK : Hid (k = l.length) := by rw [Hid]; omega
      obtain ⟨hv, hg, z0, z1⟩ := HB.out.done (harrs k).whole (harrs k).fours (Nat.le_refl _)
      obtain ⟨t0, t1, f0, f1⟩ := two_open hR
      have b0 := two_at0 hA
      have b1 := two_at1 hA
      have hN3 := HN.out
      have hN5 := ((hN3.kept (grownIn_set wr w.heap.size 0 (.slice x1 x2 x3) (G := fun j => j = w.heap.size) rfl) (fun j hj e => by have := (hN3.base j hj).1; omega)).kept (grownIn_set _ w.heap.size 1 (.slice y1 y2 y3) (G := fun j => j = w.heap.size) rfl) (fun j hj e => by have := (hN3.base j hj).1; omega)).done
      rw [toldPs_all HK.out] at hN5
      have hpl : playTo l k = playL l := by rw [playL, HK.out, Nat.min_eq_left hm]
      rw [hpl] at hv
      have HF : Hid (_ ∧ _ ∧ _) := ⟨hv, hN5, hg⟩
      have hno : ¬ ((k : Int) < l.length) := by omega
      clear hv hN5 hN3 hg hpl HN HB HV hA hR hgr hlt hk
      go_wp2
      refine bodyPost_ret (results_two2 Try.results32 _ _ w.heap.size _ rfl Try.underlying26 rfl Try.sizeA z0 z1) rfl ?_
      exact ⟨_, _, rfl, HF.out.1, HF.out.2.1, HF.out.2.2⟩

end Go.Proofs.Ytjggiameajndgac

/-
  Same of an array and itself; same of blocks and themselves.
-/
namespace Go.Proofs.Ytjggiameajndgac
open Go.RowKit

theorem same6_self (va vb : Value) (a : ArrP) (w : World) (ha : ArrV w va a) (hb : ArrV w vb a) : Calls Try.prog 18 #[va, vb] w fun e w' => e = .returned (.bool true) ∧ Grow w w' := by
  have := refSame6_any va vb a a w ha hb
  rwa [sameB_iff.2 rfl] at this

theorem refSame_self (v u : Value) (a : List (List Int)) (w : World) (h : Bss w v a) (g : Bss w u a) : Calls Try.prog 25 #[v, u] w fun e w' => e = .returned (.bool true) ∧ Grow w w' := by
  have := refSame_any v u a a w h g
  rwa [show (a == a) = true from by simp] at this

end Go.Proofs.Ytjggiameajndgac

/-
  Arrays in boxes of the call's own: a new box, and a box that gets another array.
-/
namespace Go.Proofs.Ytjggiameajndgac
open Go.RowKit

theorem heap_lt1 {w : World} {b : Nat} {o : Obj} (h : w.heap[b]? = some o) : b < w.heap.size := by
  by_cases hb : b < w.heap.size
  · exact hb
  · rw [Array.getElem?_eq_none (Nat.le_of_not_lt hb)] at h; cases h

theorem boxed {w1 : World} {x y : Value} {a : ArrP} (h : ArrV w1 (.agg #[x, y]) a) :
    ∃ W b, W = w1.alloc (.cells #[x, y] 26) ∧ b = w1.heap.size ∧ Grow w1 W ∧ Hid (W.heap[b]? = some (.cells #[x, y] 26 (0, 0))) ∧ W.cell? ⟨b, 0, none⟩ = some x ∧ W.cell? ⟨b, 1, none⟩ = some y ∧ Hid (ArrV W (.agg #[x, y]) a) :=
  ⟨_, _, rfl, rfl, Grow.alloc _ _, heap_alloc_new w1 _, two_at0 (heap_alloc_new w1 _), two_at1 (heap_alloc_new w1 _), h.grow (Grow.alloc _ _)⟩

/-- What a box is when it gets another array. -/
theorem reboxed {w6 : World} {b a1 a2 a4 a5 : Nat} {a0 a3 : Option Addr} {x y : Value} {a : ArrP} (hB : w6.heap[b]? = some (.cells #[.slice a0 a1 a2, .slice a3 a4 a5] 26 (0, 0))) (hv : ArrV w6 (.agg #[x, y]) a) (ha : Arr a) :
    ∃ W, W = (w6.setCell ⟨b, 0, none⟩ x).setCell ⟨b, 1, none⟩ y ∧ Hid (W.heap[b]? = some (.cells #[x, y] 26 (0, 0))) ∧ W.cell? ⟨b, 0, none⟩ = some x ∧ W.cell? ⟨b, 1, none⟩ = some y ∧ Hid (ArrV W (.agg #[x, y]) a) ∧
      w6.cell? ⟨b, 0, none⟩ = some (.slice a0 a1 a2) ∧ w6.cell? ⟨b, 1, none⟩ = some (.slice a3 a4 a5) ∧ w6.frozen? ⟨b, 0, none⟩ = false ∧ w6.frozen? ⟨b, 1, none⟩ = false ∧
      Hid ((∀ w0, Grow w0 w6 → w0.heap.size ≤ b → Grow w0 W) ∧ (∀ (c : Nat) o, c ≠ b → w6.heap[c]? = some o → W.heap[c]? = some o) ∧ (∀ v c, ArrV w6 v c → Arr c → ArrV W v c)) := by
  have hT : Two b w6 := ⟨_, _, _, _, _, _, _, hB⟩
  have hb := two_set1 (z := y) (two_set0 (z := x) hB)
  refine ⟨_, rfl, hb, two_at0 hb, two_at1 hb, hT.store hv ha.whole ha.fours x y, two_at0 hB, two_at1 hB, frozen_of_row w6 b 0 _ _ hB, frozen_of_row w6 b 1 _ _ hB, fun w0 hg h0 => (hg.set h0 x).set h0 y, fun c o hc ho => ?_, fun v c hv hc => hT.store hv hc.whole hc.fours x y⟩
  exact set_other (set_other ho hc) hc

/-- A cell of an array, as it lies. -/
theorem ArrV.cellOf {w : World} {p1 a2 : Option Addr} {n1 c1 n2 c2 : Nat} {a : ArrP} (h : ArrV w (.agg #[.slice p1 n1 c1, .slice a2 n2 c2]) a) (ha : Whole a) {d s : Nat} (hd : d < 4) (hs : s < 3) :
    n1 = 4 ∧ 4 ≤ c1 ∧ c1 ≤ 9223372036854775807 ∧ ∃ b off c' b' off' u' n' cc', p1 = some ⟨b, off, none⟩ ∧ w.cell? ⟨b, off + d, none⟩ = some (.slice (some ⟨b', off', none⟩) 3 c') ∧ w.cell? ⟨b', off' + s, none⟩ = some (.slice u' n' cc') ∧ Bs w (.slice u' n' cc') (cellAt a d s) ∧ 3 ≤ c' := by
  obtain ⟨dv, iv, e, h1, h2⟩ := h
  simp only [Value.agg.injEq] at e
  have e := congrArg Array.toList e
  simp at e
  obtain ⟨rfl, rfl⟩ := e
  obtain ⟨_, _, e1, g1, g2⟩ := h1.form'
  injection e1 with _ e2 e3
  have hn : n1 = 4 := by rw [e2, ha.1]
  subst hn
  obtain ⟨b, off, c', b', off', u', n', cc', hE, hc1, hc2, hb, h3c⟩ := ArrG.cell (g := none) (ad := p1) (cd := c1) (a := a) (w := w) (Sl.lift (fun _ _ h => Sl.lift (fun _ _ h => Off.plain Bs.stays h) h (Grow.refl _)) h1 (Grow.refl w)) ha hd hs
  exact ⟨rfl, by omega, by omega, b, off, c', b', off', u', n', cc', hE, hc1, hc2, hb.here, h3c⟩

/-- A byte of a slice of bytes, as it lies. -/
theorem Bs.byteOf {w : World} {u : Option Addr} {n c : Nat} {l : List Int} (h : Bs w (.slice u n c) l) {k : Nat} (hk : k < l.length) : n = l.length ∧ ∃ b off, u = some ⟨b, off, none⟩ ∧ w.cell? ⟨b, off + k, none⟩ = some (.int .u8 (l.getD k 0)) := by
  obtain ⟨_, _, e, -, -, -, -, h⟩ := h
  injection e with e1 e2 _
  obtain ⟨b, off, e3, hc⟩ := h (by omega)
  exact ⟨e2, b, off, e1.trans e3, hc k hk⟩

theorem Bs.lenOf {w : World} {u : Option Addr} {n c : Nat} {l : List Int} (h : Bs w (.slice u n c) l) : n = l.length := by
  obtain ⟨_, _, e, -⟩ := h
  injection e

/-- Bytes of a constant. -/
theorem Bs.lit1 {w : World} {e : TypeId} {l : List Int} (h : l.length ≤ maxLen) (ho : Octets l) (mk : Nat × Nat) : Bs (w.alloc (.cells (l.map (Value.int .u8)).toArray e mk)) (.slice (some ⟨w.heap.size, 0, none⟩) l.length l.length) l := by
  refine ⟨some ⟨w.heap.size, 0, none⟩, l.length, rfl, Nat.le_refl _, h, (fun h => nomatch h), ho, fun _ => ⟨w.heap.size, 0, rfl, fun i hi => ?_⟩⟩
  simp only [World.cell?, heap_alloc_new w]
  simp [hi, List.getD_eq_getElem?_getD]

theorem ArrV.lens {w : World} {p1 p2 : Option Addr} {n1 c1 n2 c2 : Nat} {a : ArrP} (h : ArrV w (.agg #[.slice p1 n1 c1, .slice p2 n2 c2]) a) (ha : Arr a) : n1 = 4 ∧ n2 = 0 := by
  obtain ⟨dv, iv, e, h1, h2⟩ := h
  simp only [Value.agg.injEq] at e
  have e := congrArg Array.toList e
  simp at e
  obtain ⟨rfl, rfl⟩ := e
  obtain ⟨_, _, e1, -⟩ := h1.form'
  obtain ⟨_, _, e2, -⟩ := h2.form
  injection e1 with _ e1 _
  injection e2 with _ e2 _
  rw [ha.whole.1] at e1
  rw [ha.none] at e2
  exact ⟨e1, e2⟩

/-- A step in a box of its own. -/
theorem stepBox {w : World} {x : StepP} {d1 : Option Addr} {d2 d3 : Nat} (hb : Bs w (.slice d1 d2 d3) x.d.d) (hm : x.n ≤ 9223372036854775807) :
    ∃ W b, W = w.alloc (.cells #[.int .i64 x.k, .int .i64 x.n, .int .i64 x.m, .int .i64 x.d.k, .int .i64 x.d.n, .int .i64 x.d.m, .slice d1 d2 d3] 56) ∧ b = w.heap.size ∧ Grow w W ∧ Hid (StepC W b 0 x (.slice d1 d2 d3)) := by
  refine ⟨_, _, rfl, rfl, Grow.alloc _ _, ?_⟩
  have h := heap_alloc_new w (.cells #[.int .i64 x.k, .int .i64 x.n, .int .i64 x.m, .int .i64 x.d.k, .int .i64 x.d.n, .int .i64 x.d.m, .slice d1 d2 d3] 56)
  exact ⟨row_at h 0 rfl, row_at h 1 rfl, row_at h 2 rfl, row_at h 3 rfl, row_at h 4 rfl, row_at h 5 rfl, row_at h 6 rfl, hb.grow (Grow.alloc _ _), hm⟩

/-- Numbers, as they lie. -/
theorem Sl.intAt {w : World} {ao : Option Addr} {n c : Nat} {xs : List Int} (h : Sl IntV w (.slice ao n c) xs) {k : Nat} (hk : k < xs.length) : ∃ b off, ao = some ⟨b, off, none⟩ ∧ w.cell? ⟨b, off + k, none⟩ = some (.int .i64 (xs.getD k 0)) := by
  obtain ⟨b, off, u, e, hu, hi⟩ := h.elem hk 0
  exact ⟨b, off, e, by rw [hu]; exact congrArg some hi⟩


/-- Four bytes. -/
def abcd : List Int := [97, 98, 99, 100]
theorem abcd_oct : Octets abcd := by intro x hx; simp [abcd] at hx; omega

end Go.Proofs.Ytjggiameajndgac

/-
  mhlaw11.alive returns true; nothing old turns.
-/
namespace Go.Proofs.Ytjggiameajndgac
open Go.RowKit

/-- What the closed fact is about. -/
def l11 : List StepP := [⟨1, 0, 0, ⟨1, 4, 0, abcd⟩⟩, ⟨4, 2, 0, ⟨0, 0, 0, []⟩⟩, ⟨5, 0, 0, ⟨0, 0, 0, []⟩⟩, ⟨4, 9, 0, ⟨0, 0, 0, []⟩⟩]
def s11 : StepP := ⟨2, 3, 0, ⟨2, 4, 5, []⟩⟩
theorem e11_es : playEs l11 4 = [0, 0, 0, 6] := by kernel_rfl
theorem e11_e : stepE (playL l11) s11 = 0 := by kernel_rfl
theorem e11_rd : rdE (stepA (playL l11) s11) 5 = 0 ∧ rdX (stepA (playL l11) s11) 5 = abcd := by constructor <;> kernel_rfl

theorem a11_arr : Arr (playL l11) := playTo_arr l11 _
theorem x11_arr : Arr (stepA (playL l11) s11) := stepA_arr a11_arr s11
/-- The steps, as they lie. -/
theorem l11_lies {W : World} {g : Nat} {v : Value} {t : TypeId} {mk : Nat × Nat} (hb : Bs W v abcd)
    (h : W.heap[g]? = some (.cells #[.int .i64 1, .int .i64 0, .int .i64 0, .int .i64 1, .int .i64 4, .int .i64 0, v, .int .i64 4, .int .i64 2, .int .i64 0, .int .i64 0, .int .i64 0, .int .i64 0, .slice none 0 0, .int .i64 5, .int .i64 0, .int .i64 0, .int .i64 0, .int .i64 0, .int .i64 0, .slice none 0 0, .int .i64 4, .int .i64 9, .int .i64 0, .int .i64 0, .int .i64 0, .int .i64 0, .slice none 0 0] t mk)) :
    Stps W (.slice (some ⟨g, 0, none⟩) 4 4) l11 := by
  refine ⟨some ⟨g, 0, none⟩, 4, rfl, by simp [l11], by unfold maxLen; omega, (fun h => nomatch h), fun _ => ⟨g, 0, rfl, fun i s hs => ?_⟩⟩
  have hi : i < 4 := (List.getElem?_eq_some_iff.1 hs).1
  obtain rfl | rfl | rfl | rfl : i = 0 ∨ i = 1 ∨ i = 2 ∨ i = 3 := by omega
  · injection hs with hs; subst hs
    exact ⟨v, row_at h 0 rfl, row_at h 1 rfl, row_at h 2 rfl, row_at h 3 rfl, row_at h 4 rfl, row_at h 5 rfl, row_at h 6 rfl, hb, by show (0 : Int) ≤ _; omega⟩
  · injection hs with hs; subst hs
    exact ⟨.slice none 0 0, row_at h 7 rfl, row_at h 8 rfl, row_at h 9 rfl, row_at h 10 rfl, row_at h 11 rfl, row_at h 12 rfl, row_at h 13 rfl, Bs.nil W, by show (2 : Int) ≤ _; omega⟩
  · injection hs with hs; subst hs
    exact ⟨.slice none 0 0, row_at h 14 rfl, row_at h 15 rfl, row_at h 16 rfl, row_at h 17 rfl, row_at h 18 rfl, row_at h 19 rfl, row_at h 20 rfl, Bs.nil W, by show (0 : Int) ≤ _; omega⟩
  · injection hs with hs; subst hs
    exact ⟨.slice none 0 0, row_at h 21 rfl, row_at h 22 rfl, row_at h 23 rfl, row_at h 24 rfl, row_at h 25 rfl, row_at h 26 rfl, row_at h 27 rfl, Bs.nil W, by show (9 : Int) ≤ _; omega⟩

set_option maxRecDepth 20000 in
set_option maxHeartbeats 6400000 in
theorem alive11_any (w : World) : Calls Try.prog 35 #[] w fun e w' => e = .returned (.bool true) ∧ Grow w w' := by
  have hcv := Lib.run_convert_bytes_const (P := Try.prog) w 52 5 #[.int .u8 97, .int .u8 98, .int .u8 99, .int .u8 100] 4 4 Try.underlying52 Try.underlying5
  obtain ⟨V, hV⟩ : ∃ V, V = (w.alloc (.cells #[.int .u8 97, .int .u8 98, .int .u8 99, .int .u8 100] 5 (4, 5))).alloc (.cells #[.int .i64 1, .int .i64 4, .int .i64 0, .slice (some ⟨w.heap.size, 0, none⟩) 4 4] 54) := ⟨_, rfl⟩
  obtain ⟨W, hW⟩ : ∃ W, W = V.alloc (.cells #[.int .i64 1, .int .i64 0, .int .i64 0, .int .i64 1, .int .i64 4, .int .i64 0, .slice (some ⟨w.heap.size, 0, none⟩) 4 4, .int .i64 4, .int .i64 2, .int .i64 0, .int .i64 0, .int .i64 0, .int .i64 0, .slice none 0 0, .int .i64 5, .int .i64 0, .int .i64 0, .int .i64 0, .int .i64 0, .int .i64 0, .slice none 0 0, .int .i64 4, .int .i64 9, .int .i64 0, .int .i64 0, .int .i64 0, .int .i64 0, .slice none 0 0] 56) := ⟨_, rfl⟩
  have hgV : Grow w V := by rw [hV]; exact (Grow.alloc _ _).trans (Grow.alloc _ _)
  have hgW : Grow w W := by rw [hW]; exact hgV.trans (Grow.alloc _ _)
  have hab : Bs W (.slice (some ⟨w.heap.size, 0, none⟩) 4 4) abcd := by
    have h1 : Bs (w.alloc (.cells (abcd.map (Value.int .u8)).toArray 5 (4, 5))) (.slice (some ⟨w.heap.size, 0, none⟩) 4 4) abcd := Bs.lit1 (l := abcd) (by unfold maxLen; simp [abcd]) abcd_oct _
    rw [hW, hV]
    exact (h1.grow (Grow.alloc _ _)).grow (Grow.alloc _ _)
  have hVs : V.heap.size = w.heap.size + 1 + 1 := by rw [hV]; simp
  have hst : Stps W (.slice (some ⟨w.heap.size + 1 + 1, 0, none⟩) 4 4) l11 := by
    refine l11_lies (t := 56) (mk := (0, 0)) hab ?_
    rw [← hVs, hW]
    exact heap_alloc_new V _
  have hPl := playPlay_any _ l11 W hst (by simp [l11])
  rw [show l11.length = 4 from rfl, e11_es] at hPl
  have HA : Hid (Arr (playL l11)) := a11_arr
  have HX : Hid (Arr (stepA (playL l11) s11)) := x11_arr
  have HE : Hid (stepE (playL l11) s11 = 0) := e11_e
  have HR : Hid (rdE (stepA (playL l11) s11) 5 = 0 ∧ rdX (stepA (playL l11) s11) 5 = abcd) := e11_rd
  clear hst hab hVs hgV
  go_enter Try.func35, Try.ntmps35
  go_wp2_with fail
  rw [← hV, ← hW]
  refine hPl.mono ?_
  rintro e w1 ⟨r1, es, rfl, hr1, hes, hg1⟩
  clear hPl hcv hV hW
  obtain ⟨a1, n1, c1, a2, n2, c2, rfl⟩ := hr1.form
  generalize playL l11 = a at *
  obtain ⟨b4, off4, u4, e4, hu4, hv4⟩ : ∃ b off c, es = .slice (some ⟨b, off, none⟩) 4 c ∧ w1.cell? ⟨b, off + 3, none⟩ = some (.int .i64 6) ∧ 4 ≤ c := by
    obtain ⟨ao, cap, e1, h1, h2, h3, h4⟩ := hes
    obtain ⟨b, off, e2, hc⟩ := h4 (by simp)
    obtain ⟨u, hu, hi⟩ := hc 3 6 rfl
    exact ⟨b, off, cap, by rw [e1, e2]; rfl, by rw [hu]; exact congrArg some hi, by simpa using h1⟩
  subst e4
  obtain ⟨W1, b1, hW1, hb1, hgA, HB1, k0, k1, HV⟩ := boxed hr1
  have hDo := playDo_any _ (.agg #[.int .i64 2, .int .i64 3, .int .i64 0, .int .i64 2, .int .i64 4, .int .i64 5, .slice none 0 0]) a s11 W1 HV.out HA.out ⟨_, rfl, Bs.nil _, by show (3 : Int) ≤ _; omega⟩
  rw [HE.out] at hDo
  have hgw1 := (hgW.trans hg1).trans hgA
  have Hu4 : Hid (W1.cell? ⟨b4, off4 + 3, none⟩ = some (.int .i64 6)) := hgA.at hu4
  clear hr1 hes hg1 hgA hgW hu4
  subst hW1
  go_wp2_with fail
  rw [← hb1]
  refine hDo.mono ?_
  rintro e w2 ⟨r2, rfl, hr2, hg2⟩
  clear hDo hb1 k0 k1
  generalize w1.alloc (.cells #[.slice a1 n1 c1, .slice a2 n2 c2] 26) = W1 at *
  obtain ⟨x1, x2, x3, y1, y2, y3, rfl⟩ := hr2.form
  generalize stepA a s11 = X at *
  obtain ⟨W2, b2, hW2, hb2, hgB, HB2, m0, m1, HY⟩ := boxed hr2
  have hx4 : x2 = 4 := (HY.out.cellOf HX.out.whole (d := 0) (s := 0) (by omega) (by omega)).1
  subst hx4
  have hRd := refRead6_any _ X 5 W2 HY.out HX.out.whole
  rw [HR.out.1, HR.out.2] at hRd
  have hg12 := hg2.trans hgB
  have hgw2 := hgw1.trans hg12
  clear hr2 hg2 hgB HB1 HB2 HV HY
  subst hW2
  go_wp2_with fail
  rw [← hb2]
  refine hRd.mono ?_
  rintro e w3 ⟨r3, rfl, hr3, hg3⟩
  clear hRd hb2 m0 m1
  generalize w2.alloc (.cells #[.slice x1 4 x3, .slice y1 y2 y3] 26) = W2 at *
  have u4 := (hg12.trans hg3).at Hu4.out
  have cv := run_convert_bs (P := Try.prog) 52 5 9 Try.underlying52 Try.underlying5 Try.underlying9 hr3
  rw [show strOfNums abcd = ⟨#[97, 98, 99, 100]⟩ from rfl] at cv
  obtain ⟨o1, o2, o3, rfl⟩ := hr3.form
  clear hr3
  go_wp2
  go_ret
  exact ⟨rfl, hgw2.trans hg3⟩

end Go.Proofs.Ytjggiameajndgac

/-
  mhlaw11.PlayNone returns true, whatever it is handed; nothing old turns.
-/
namespace Go.Proofs.Ytjggiameajndgac
open Go.RowKit

set_option maxRecDepth 20000 in
set_option maxHeartbeats 3200000 in
theorem playNone_walk (v sv : Value) (l : List StepP) (x : StepP) (w : World) (h : Stps w v l) (hs : StepV w sv x) :
    Calls Try.prog 11 #[v, sv] w fun e w' => e = .returned (.bool true) ∧ Grow w w' := by
  have hA : Arr (playL l) := playTo_arr l _
  obtain ⟨dv, rfl, hbd, hmax⟩ := hs
  obtain ⟨d1, d2, d3, rfl⟩ := hbd.form
  obtain ⟨W0, b0, hW0, hb0, hg0, HS⟩ := stepBox hbd hmax
  clear hbd hmax
  go_enter Try.func11, Try.ntmps11
  go_wp2_with fail
  rw [← hW0, ← hb0]
  refine (alive11_any W0).mono ?_
  rintro e w1 ⟨rfl, hg1⟩
  have hg01 := hg0.trans hg1
  clear hW0 hb0
  go_wp2_with fail
  refine (refPlay_any v l w1 (h.grow hg01)).mono ?_
  rintro e w2 ⟨ra, es, rfl, hra, -, hg2⟩
  obtain ⟨a1, n1, c1, a2, n2, c2, rfl⟩ := hra.form
  generalize playL l = a at *
  clear h
  obtain ⟨W2, b1, hW2, hb1, hgA, HB1, k0, k1, HV⟩ := boxed hra
  have hg12 := (hg1.trans hg2).trans hgA
  obtain ⟨s0, s1, s2, s3, s4, s5, s6, s7, s8⟩ := HS.out.grow hg12
  have hgw2 := hg0.trans hg12
  have hDo := playDo_any _ (.agg #[.int .i64 x.k, .int .i64 x.n, .int .i64 x.m, .int .i64 x.d.k, .int .i64 x.d.n, .int .i64 x.d.m, .slice d1 d2 d3]) a x W2 HV.out hA ⟨_, rfl, s7, s8⟩
  have HX : Hid (Arr (stepA a x)) := stepA_arr hA x
  generalize stepE a x = E at *
  clear hra hgA hg2 hg1 hg0 hg01 hg12 s7 s8 hA
  subst hW2
  go_wp2_with fail
  rw [← hb1]
  refine hDo.mono ?_
  rintro e w3 ⟨r3, rfl, hr3, hg3⟩
  clear hDo hb1 k0 k1 s0 s1 s2 s3 s4 s5 s6
  generalize w2.alloc (.cells #[.slice a1 n1 c1, .slice a2 n2 c2] 26) = W2 at *
  obtain ⟨x1, x2, x3, y1, y2, y3, rfl⟩ := hr3.form
  obtain ⟨rfl, rfl⟩ := hr3.lens HX.out
  clear hr3
  go_wp2
  go_ret
  exact ⟨rfl, (hgw2.trans hg3).trans (Grow.alloc _ _)⟩

end Go.Proofs.Ytjggiameajndgac

/-
  How an argument that is a slice of bytes is read: by its cells, and within the reach of the row.
-/
namespace Go.Proofs.Ytjggiameajndgac
open Go.ChangeShapes Go.WideShapes Go.ChangeAt Go.RowKit

theorem wf_octet {n : Int} (h : (Lit.int .u8 n).wf = true) : 0 ≤ n ∧ n ≤ 255 := by
  have := bounds_u8 h
  omega

/-- A slice of bytes that came in: what it reads as. -/
theorem open_bs {P : Program} {H : Type} {enc : TypeId × Value → H} {W : World} {base : Nat} {sp : Nat → Bool} {held : Bool} {t e : TypeId} {v : Value} {d : DataW H} {p : List MemPlace}
    (ht : P.underlying t = some (.slice e)) (he : P.underlying e = some (.int .u8)) (hc : P.cellsOf e = 1) {b0 : Nat} (hv : Value.okWide P W .any b0 t v)
    (h : DataW.Trod enc P W base sp held t v d p) :
    ∃ l, Bs W v l ∧ (l = [] ∨ ∃ elems spare, d = .slice elems spare ∧ l.length ≤ elems.length + spare.length) := by
  obtain ⟨a0, len0, cap0, rfl⟩ := okWide_slice ht hv
  obtain ⟨fuel, hf⟩ := h
  rcases open_ints ht he hc hf with ⟨hcs, _⟩ | ⟨x, l, c, zs, hcs, _, hl, hm, hz, hx, hcell, hwz⟩
  · simp [Value.cells] at hcs
    obtain ⟨rfl, rfl, rfl⟩ := hcs
    exact ⟨[], Bs.nil W, .inl rfl⟩
  · simp [Value.cells] at hcs
    obtain ⟨rfl, rfl, rfl⟩ := hcs
    have hlz : len0 ≤ zs.length := by rw [hz]; split <;> omega
    have hlen : (zs.take len0).length = len0 := by simp; omega
    refine ⟨zs.take len0, ⟨some x, cap0, by rw [hlen], by omega, hm, (fun h => nomatch h), fun n hn => wf_octet (hwz n (List.mem_of_mem_take hn)), fun hp => ?_⟩, .inr ?_⟩
    · rw [hlen] at hp
      obtain ⟨b, off, spot⟩ := x
      have hspot : spot = none := by simpa [Addr.add] using World.cell?_spot (hcell 0 (by omega))
      subst hspot
      refine ⟨b, off, rfl, fun i hi => ?_⟩
      rw [hlen] at hi
      have hplain : (⟨b, off, none⟩ : Addr).add i = ⟨b, off + i, none⟩ := by unfold Addr.add; split <;> simp_all
      rw [← hplain, hcell i (by omega)]
      simp [List.getD_eq_getElem?_getD, hi]
    · simp only [Prod.mk.injEq] at hx
      exact ⟨_, _, hx.1, by simp [lits]⟩

end Go.Proofs.Ytjggiameajndgac

/-
  How arguments that are deeds, steps, and slices of steps are read.
-/
namespace Go.Proofs.Ytjggiameajndgac
open Go.ChangeShapes Go.WideShapes Go.ChangeAt Go.RowKit

theorem four_of {α : Type} {cs : List α} (h : cs.length = 4) : ∃ c0 c1 c2 c3, cs = [c0, c1, c2, c3] := by
  match cs, h with
  | [c0, c1, c2, c3], _ => exact ⟨_, _, _, _, rfl⟩
theorem seven_of {α : Type} {cs : List α} (h : cs.length = 7) : ∃ c0 c1 c2 c3 c4 c5 c6, cs = [c0, c1, c2, c3, c4, c5, c6] := by
  match cs, h with
  | [c0, c1, c2, c3, c4, c5, c6], _ => exact ⟨_, _, _, _, _, _, _, rfl⟩

section
variable {H : Type} {enc : TypeId × Value → H} {W : World} {base : Nat} {sp : Nat → Bool} {held : Bool}

/-- Fields of a struct, each with its own reading. -/
theorem field_at {P : Program} {fuel : Nat} {t : TypeId} {cs : List Value} {x : DataW H × List MemPlace} {fs : Array Field} (ht : P.underlying t = some (.struct fs)) (h : DataW.trod enc P W base sp held fuel t cs = some x) :
    cs.length = P.cellsOf t ∧ ∀ (i : Nat) (f : Field), fs[i]? = some f → ∃ n y, DataW.trod enc P W base sp held n f.type ((cs.drop f.offset).take (P.cellsOf f.type)) = some y := by
  obtain ⟨xs, n, -, -, hlen, hxl, hf⟩ := DataW.trod_struct ht h
  refine ⟨hlen, fun i f hi => ?_⟩
  have hlt : i < fs.size := (Array.getElem?_eq_some_iff.1 hi).1
  have := hf i f hi
  rw [List.getElem?_eq_getElem (by omega)] at this
  exact ⟨n, _, this⟩

theorem Try.cellsDeed : Try.prog.cellsOf 54 = 4 := by kernel_rfl
theorem Try.cellsInt : Try.prog.cellsOf 3 = 1 := by kernel_rfl
theorem Try.cellsBs : Try.prog.cellsOf 52 = 1 := by kernel_rfl
theorem Try.cellsB : Try.prog.cellsOf 5 = 1 := by kernel_rfl

theorem int_cell {n : Nat} {c : Value} {y : DataW H × List MemPlace} (h : DataW.trod enc Try.prog W base sp held n 3 [c] = some y) : ∃ k, c = .int .i64 k ∧ (Lit.int .i64 k).wf = true := by
  obtain ⟨k, e, -, hw⟩ := DataW.trod_int Try.underlying3 h
  exact ⟨k, by simpa using e, hw⟩

set_option maxRecDepth 20000 in
/-- Cells of a deed. -/
theorem deed_cells {fuel : Nat} {cs : List Value} {x : DataW H × List MemPlace} (h : DataW.trod enc Try.prog W base sp held fuel 54 cs = some x) :
    ∃ (y : DeedP) (dv : Value), cs = [.int .i64 y.k, .int .i64 y.n, .int .i64 y.m, dv] ∧ Bs W dv y.d ∧ (Lit.int .i64 y.k).wf = true ∧ (Lit.int .i64 y.n).wf = true ∧ (Lit.int .i64 y.m).wf = true := by
  obtain ⟨hlen, hf⟩ := field_at Try.underlying54 h
  rw [Try.cellsDeed] at hlen
  obtain ⟨c0, c1, c2, c3, rfl⟩ := four_of hlen
  have g0 := hf 0 _ rfl
  have h0 : ∃ n y, DataW.trod enc Try.prog W base sp held n 3 (([c0, c1, c2, c3].drop 0).take (Try.prog.cellsOf 3)) = some y := g0
  rw [Try.cellsInt] at h0
  obtain ⟨m0, y0, f0⟩ := h0
  have g1 := hf 1 _ rfl
  have h1 : ∃ n y, DataW.trod enc Try.prog W base sp held n 3 (([c0, c1, c2, c3].drop 1).take (Try.prog.cellsOf 3)) = some y := g1
  rw [Try.cellsInt] at h1
  obtain ⟨m1, y1, f1⟩ := h1
  have g2 := hf 2 _ rfl
  have h2 : ∃ n y, DataW.trod enc Try.prog W base sp held n 3 (([c0, c1, c2, c3].drop 2).take (Try.prog.cellsOf 3)) = some y := g2
  rw [Try.cellsInt] at h2
  obtain ⟨m2, y2, f2⟩ := h2
  have g3 := hf 3 _ rfl
  have h3 : ∃ n y, DataW.trod enc Try.prog W base sp held n 52 (([c0, c1, c2, c3].drop 3).take (Try.prog.cellsOf 52)) = some y := g3
  rw [Try.cellsBs] at h3
  obtain ⟨m3, y3, f3⟩ := h3
  obtain ⟨k, rfl, hk⟩ := int_cell f0
  obtain ⟨n, rfl, hn⟩ := int_cell f1
  obtain ⟨m, rfl, hm⟩ := int_cell f2
  obtain ⟨l, hl⟩ := bs_of_trod Try.underlying52 Try.underlying5 Try.cellsB f3
  exact ⟨⟨k, n, m, l⟩, _, rfl, hl, hk, hn, hm⟩

set_option maxRecDepth 20000 in
/-- A deed that is an argument. -/
theorem open_deed {v : Value} {d : DataW H} {p : List MemPlace} {b0 : Nat} (hv : Value.okWide Try.prog W .any b0 54 v) (h : DataW.Trod enc Try.prog W base sp held 54 v d p) :
    ∃ y : DeedP, DeedV W v y ∧ (-9223372036854775808 ≤ y.n ∧ y.n ≤ 9223372036854775807) ∧ (-9223372036854775808 ≤ y.m ∧ y.m ≤ 9223372036854775807) := by
  obtain ⟨fuel, hf⟩ := h
  unfold Value.okWide at hv
  rw [Try.underlying54] at hv
  obtain ⟨cs, rfl, -, -⟩ := hv
  obtain ⟨y, dv, e, hb, -, hn, hm⟩ := deed_cells hf
  have e' : cs = #[.int .i64 y.k, .int .i64 y.n, .int .i64 y.m, dv] := Array.toList_inj.1 e
  exact ⟨y, ⟨dv, by rw [e'], hb⟩, bounds_i64 hn, bounds_i64 hm⟩

end

end Go.Proofs.Ytjggiameajndgac

/-
  How arguments that are steps, and slices of steps, are read.
-/
namespace Go.Proofs.Ytjggiameajndgac
open Go.ChangeShapes Go.WideShapes Go.ChangeAt Go.RowKit

section
variable {H : Type} {enc : TypeId × Value → H} {W : World} {base : Nat} {sp : Nat → Bool} {held : Bool}

theorem Try.cellsStep : Try.prog.cellsOf 56 = 7 := by kernel_rfl

set_option maxRecDepth 20000 in
/-- Cells of a step. -/
theorem step_cells {fuel : Nat} {cs : List Value} {x : DataW H × List MemPlace} (h : DataW.trod enc Try.prog W base sp held fuel 56 cs = some x) :
    ∃ (y : StepP) (dv : Value), cs = [.int .i64 y.k, .int .i64 y.n, .int .i64 y.m, .int .i64 y.d.k, .int .i64 y.d.n, .int .i64 y.d.m, dv] ∧ Bs W dv y.d.d ∧ y.n ≤ 9223372036854775807 := by
  obtain ⟨hlen, hf⟩ := field_at Try.underlying56 h
  rw [Try.cellsStep] at hlen
  obtain ⟨c0, c1, c2, c3, c4, c5, c6, rfl⟩ := seven_of hlen
  have g0 := hf 0 _ rfl
  have h0 : ∃ n y, DataW.trod enc Try.prog W base sp held n 3 (([c0, c1, c2, c3, c4, c5, c6].drop 0).take (Try.prog.cellsOf 3)) = some y := g0
  rw [Try.cellsInt] at h0
  obtain ⟨m0, y0, f0⟩ := h0
  have g1 := hf 1 _ rfl
  have h1 : ∃ n y, DataW.trod enc Try.prog W base sp held n 3 (([c0, c1, c2, c3, c4, c5, c6].drop 1).take (Try.prog.cellsOf 3)) = some y := g1
  rw [Try.cellsInt] at h1
  obtain ⟨m1, y1, f1⟩ := h1
  have g2 := hf 2 _ rfl
  have h2 : ∃ n y, DataW.trod enc Try.prog W base sp held n 3 (([c0, c1, c2, c3, c4, c5, c6].drop 2).take (Try.prog.cellsOf 3)) = some y := g2
  rw [Try.cellsInt] at h2
  obtain ⟨m2, y2, f2⟩ := h2
  have g3 := hf 3 _ rfl
  have h3 : ∃ n y, DataW.trod enc Try.prog W base sp held n 54 (([c0, c1, c2, c3, c4, c5, c6].drop 3).take (Try.prog.cellsOf 54)) = some y := g3
  rw [Try.cellsDeed] at h3
  obtain ⟨m3, y3, f3⟩ := h3
  obtain ⟨k, rfl, -⟩ := int_cell f0
  obtain ⟨n, rfl, hn⟩ := int_cell f1
  obtain ⟨m, rfl, -⟩ := int_cell f2
  obtain ⟨y, dv, e, hb, -⟩ := deed_cells f3
  simp only [List.drop_succ_cons, List.drop_zero, List.take_succ_cons, List.take_zero, List.cons.injEq, and_true] at e
  obtain ⟨rfl, rfl, rfl, rfl⟩ := e
  exact ⟨⟨k, n, m, y⟩, _, rfl, hb, (bounds_i64 hn).2⟩

set_option maxRecDepth 20000 in
/-- A step that is an argument. -/
theorem open_step {v : Value} {d : DataW H} {p : List MemPlace} {b0 : Nat} (hv : Value.okWide Try.prog W .any b0 56 v) (h : DataW.Trod enc Try.prog W base sp held 56 v d p) : ∃ y : StepP, StepV W v y := by
  obtain ⟨fuel, hf⟩ := h
  unfold Value.okWide at hv
  rw [Try.underlying56] at hv
  obtain ⟨cs, rfl, -, -⟩ := hv
  obtain ⟨y, dv, e, hb, hn⟩ := step_cells hf
  have e' : cs = #[.int .i64 y.k, .int .i64 y.n, .int .i64 y.m, .int .i64 y.d.k, .int .i64 y.d.n, .int .i64 y.d.m, dv] := Array.toList_inj.1 e
  exact ⟨y, dv, by rw [e'], hb, hn⟩

theorem addr_plain (b o j : Nat) : (⟨b, o, none⟩ : Addr).add j = ⟨b, o + j, none⟩ := by unfold Addr.add; split <;> simp_all

set_option maxRecDepth 20000 in
/-- Steps that are an argument. -/
theorem open_steps {v : Value} {d : DataW H} {p : List MemPlace} {b0 : Nat} (hv : Value.okWide Try.prog W .any b0 22 v) (h : DataW.Trod enc Try.prog W base sp held 22 v d p) : ∃ l : List StepP, Stps W v l ∧ ∀ s ∈ l, Octets s.d.d := by
  obtain ⟨a0, len0, cap0, rfl⟩ := okWide_slice Try.underlying22 hv
  obtain ⟨fuel, hf⟩ := h
  rcases Go.Deep.open_slice Try.underlying22 (by simpa [Value.cells] using hf) with ⟨hcs, _⟩ | ⟨a, len, cap, m, n, D, Pl, hcs, hb, hl, hm, hmm, hx, hV⟩
  · simp at hcs
    obtain ⟨rfl, rfl, rfl⟩ := hcs
    exact ⟨[], ⟨none, 0, rfl, Nat.le_refl _, Nat.zero_le _, fun _ => rfl, fun h => by simp at h⟩, fun s hs => by simp at hs⟩
  · simp at hcs
    obtain ⟨rfl, rfl, rfl⟩ := hcs
    have hlm : len0 ≤ m := by rw [hmm]; split <;> omega
    rw [Try.cellsStep] at hV
    have hch : ∀ i : Nat, ∃ y : StepP, i < len0 → ∃ dv, Bs W dv y.d.d ∧ y.n ≤ 9223372036854775807 ∧ ∀ j : Nat, j < 7 → W.cell? ((a.add (i * 7)).add j) = [Value.int .i64 y.k, .int .i64 y.n, .int .i64 y.m, .int .i64 y.d.k, .int .i64 y.d.n, .int .i64 y.d.m, dv][j]? := fun i => by
      by_cases hi : i < len0
      · obtain ⟨cs', hc, ht⟩ := hV i (by omega)
        obtain ⟨y, dv, rfl, hb, hn⟩ := step_cells ht
        obtain ⟨-, -, hcell⟩ := World.cells?_some hc
        exact ⟨y, fun _ => ⟨dv, hb, hn, hcell⟩⟩
      · exact ⟨⟨0, 0, 0, ⟨0, 0, 0, []⟩⟩, fun h => absurd h hi⟩
    obtain ⟨f, hf'⟩ : ∃ f : Nat → StepP, ∀ i, i < len0 → ∃ dv, Bs W dv (f i).d.d ∧ (f i).n ≤ 9223372036854775807 ∧ ∀ j : Nat, j < 7 → W.cell? ((a.add (i * 7)).add j) = [Value.int .i64 (f i).k, .int .i64 (f i).n, .int .i64 (f i).m, .int .i64 (f i).d.k, .int .i64 (f i).d.n, .int .i64 (f i).d.m, dv][j]? := ⟨fun i => (hch i).choose, fun i => (hch i).choose_spec⟩
    clear hch hV
    by_cases hp : 0 < len0
    · obtain ⟨b, off, spot⟩ := a
      have hspot : spot = none := by
        obtain ⟨dv, -, -, hc⟩ := hf' 0 hp
        have := World.cell?_spot (hc 0 (by omega))
        simpa [Addr.add] using this
      subst hspot
      refine ⟨(List.range len0).map f, ⟨some ⟨b, off, none⟩, cap0, by simp, by simpa using hl, hm, (fun h => nomatch h), fun _ => ⟨b, off, rfl, fun i s hs => ?_⟩⟩, fun s hs => ?_⟩
      · obtain ⟨hi, e⟩ := List.getElem?_eq_some_iff.1 hs
        have hi' : i < len0 := by simpa using hi
        have e' : s = f i := by rw [← e]; simp
        subst e'
        obtain ⟨dv, hb, hn, hc⟩ := hf' i hi'
        have hc' : ∀ j : Nat, j < 7 → W.cell? ⟨b, off + i * 7 + j, none⟩ = [Value.int .i64 (f i).k, .int .i64 (f i).n, .int .i64 (f i).m, .int .i64 (f i).d.k, .int .i64 (f i).d.n, .int .i64 (f i).d.m, dv][j]? := fun j hj => by rw [← hc j hj, addr_plain, addr_plain]
        exact ⟨dv, hc' 0 (by omega), hc' 1 (by omega), hc' 2 (by omega), hc' 3 (by omega), hc' 4 (by omega), hc' 5 (by omega), hc' 6 (by omega), hb, hn⟩
      · obtain ⟨i, hi, rfl⟩ := List.mem_map.1 hs
        obtain ⟨dv, hb, -, -⟩ := hf' i (List.mem_range.1 hi)
        exact hb.octets
    · obtain rfl : len0 = 0 := by omega
      exact ⟨[], ⟨some a, cap0, rfl, Nat.zero_le _, hm, (fun h => nomatch h), fun h => by simp at h⟩, fun s hs => by simp at hs⟩

end

end Go.Proofs.Ytjggiameajndgac
