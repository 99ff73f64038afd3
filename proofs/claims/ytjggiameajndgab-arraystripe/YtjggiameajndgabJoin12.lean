import Derived.Test.YtjggiameajndgabJoin11
/-
  What the program's array.Read returns. Nothing old turns.
-/
namespace Go.Proofs.Ytjggiameajndgab
open Go.RowKit

theorem cellsL_at {a : ArrP} (ha : Whole a) (s : Nat) {d : Nat} (hd : d < 4) : (cellsL a s).getD d [] = cellAt a d s := by
  have h4 := ha.1
  rw [cellsL, cellAt]
  simp [List.getD_eq_getElem?_getD, show d < a.ds.length by omega]

theorem FreshX.off {w w' : World} {x : List Int} {r : Value} (h : FreshX w x r w') (g : Option Nat) (hg : ∀ k, g = some k → k < w.heap.size) : Off Bs g w' r x := by
  rcases h with ⟨rfl, rfl⟩ | ⟨b, rfl, hb0, hb, hl, ho⟩
  · exact fun _ _ => Bs.nil _
  · exact Off.row hb hl (by unfold maxLen; omega) ho (fun e => by have := hg b e; omega)

set_option maxRecDepth 20000 in
set_option maxHeartbeats 3200000 in
theorem arrRead_off (v : Value) (a : ArrP) (n : Int) (w : World) (g : Option Nat) (h : ArrV w v a) (hg : ∀ k, g = some k → k < w.heap.size) (ha : Whole a) (h8 : ∀ d s, (cellAt a d s).length ≤ 8) :
    Calls Try.prog 37 #[v, .int .i64 n] w fun e w' => ∃ r, e = .returned (.tuple #[r, .int .i64 (rdE a n)]) ∧ Off Bs g w' r (rdX a n) ∧ Grow w w' := by
  have harr := h
  obtain ⟨dv, iv, rfl, hd, hit⟩ := h
  obtain ⟨ad, cd, rfl, hd1, hd2⟩ := hd.form'
  obtain ⟨ai, ci, rfl, hi1, hi2⟩ := hit.form
  have hl4 := ha.1
  rw [hl4] at harr hd1 ⊢
  generalize a.is.length = ni at *
  have HA : Hid (ArrV w (.agg #[.slice ad 4 cd, .slice ai ni ci]) a ∧ Whole a ∧ ∀ d s, (cellAt a d s).length ≤ 8) := ⟨harr, ha, h8⟩
  have HG : Hid (∀ k, g = some k → k < w.heap.size) := hg
  obtain ⟨W, hW⟩ : ∃ W, W = w.alloc (.cells #[.slice ad 4 cd, .slice ai ni ci] 39) := ⟨_, rfl⟩
  have hgA : Grow w W := by rw [hW]; exact Grow.alloc _ _
  have hbA : W.heap[w.heap.size]? = some (.cells #[.slice ad 4 cd, .slice ai ni ci] 39 (0, 0)) := by rw [hW]; exact heap_alloc_new w _
  have k0 := two_at0 hbA
  have k1 := two_at1 hbA
  clear hd hit harr ha h8 hg hbA hl4
  by_cases hn : 0 ≤ n ∧ n < 9
  · obtain ⟨hD, hS, hE, hd4, hs3⟩ := where_bd hn
    have HE : Hid (rdE a n = if readE (cellAt a (dOf n) (sOf n)) (dOf n) (sOf n) = 0 then 0 else dataE (cellsL a (sOf n)) (sOf n)) := if_pos hn
    have HX : Hid (rdX a n = if readE (cellAt a (dOf n) (sOf n)) (dOf n) (sOf n) = 0 then readX (cellAt a (dOf n) (sOf n)) (dOf n) (sOf n) else (dataL (cellsL a (sOf n)) (sOf n)).getD (dOf n) []) := if_pos hn
    have hWh := where_any n W
    rw [hD, hS, hE] at hWh
    clear hD hS hE hn
    generalize dOf n = d at *
    generalize sOf n = s at *
    have hca := cellsL_at HA.out.2.1 s hd4
    have hcl : (cellsL a s).length = 4 := by rw [cellsL_length, HA.out.2.1.1]
    have HCL : Hid ((cellsL a s).length = 4) := hcl
    have hc1 := stripeCells_row (.agg #[.slice ad 4 cd, .slice ai ni ci]) a s W (HA.out.1.grow hgA) HA.out.2.1 HA.out.2.2 hs3
    go_enter Try.func37, Try.ntmps37
    go_wp2_with fail
    rw [← hW]
    refine hWh.mono ?_
    rintro e w1 ⟨rfl, rfl⟩
    clear hWh hW
    go_wp2_with fail
    refine hc1.mono ?_
    rintro e w2 ⟨rc, rfl, hrc, hg2⟩
    clear hc1 k0 k1
    obtain ⟨ar, cr, rfl, hr1, hr2⟩ := hrc.done.form'
    have hRC : Bss w2 (.slice ar (cellsL a s).length cr) (cellsL a s) := hrc.done
    rw [hcl] at hr1 hRC ⊢
    obtain ⟨br, or, ud, e1, e2, e3⟩ := hRC.elem (k := d) (by omega) []
    subst e1
    rw [hca] at e3
    obtain ⟨x1, x2, x3, rfl⟩ := e3.form
    have hRd := read_fresh (.slice x1 x2 x3) (cellAt a d s) d s w2 e3
    have HRC : Hid (Bss w2 (.slice (some ⟨br, or, none⟩) 4 cr) (cellsL a s)) := hRC
    have hgw := hgA.trans hg2
    clear hrc hRC hca hcl e3
    go_wp2_with fail
    refine hRd.mono ?_
    rintro e w3 ⟨r, rfl, hr, hg3⟩
    clear hRd
    by_cases he : readE (cellAt a d s) d s = 0
    · have HE' := HE.out
      have HX' := HX.out
      rw [if_pos he] at HE' HX'
      have Hfin : Hid (rdE a n = 0 ∧ Off Bs g w3 r (rdX a n)) := ⟨HE', by rw [HX']; exact hr.off g (fun k hk => by have := HG.out k hk; have := hgw.size; omega)⟩
      clear HE' HX' HE HX hr
      generalize readE (cellAt a d s) d s = E at *
      subst he
      go_wp2
      go_ret2
      exact ⟨_, ret_bs2 Hfin.out.1.symm, Hfin.out.2, hgw.trans hg3⟩
    · have HE' := HE.out
      have HX' := HX.out
      rw [if_neg he] at HE' HX'
      have Hfin : Hid (rdE a n = dataE (cellsL a s) s ∧ rdX a n = (dataL (cellsL a s) s).getD d []) := ⟨HE', HX'⟩
      have hgw3 := hgw.trans hg3
      clear HE' HX' HE HX hr
      generalize readE (cellAt a d s) d s = E at *
      have he' : (E == 0) = false := by simpa using he
      have hDt := stripeData_bss (.slice (some ⟨br, or, none⟩) 4 cr) (cellsL a s) s w3 g (HRC.out.grow hg3) (fun j hj => by have := HG.out j hj; have := hgw3.size; omega) HCL.out hs3
      go_wp2_with fail
      refine hDt.mono ?_
      rintro e w4 ⟨rd, rfl, hrd, hg4⟩
      clear hDt
      have hgw4 := hgw3.trans hg4
      by_cases hde : dataE (cellsL a s) s = 0
      · have hlen := dataL_length hde
        rw [HCL.out] at hlen
        have hrd := hrd.done
        obtain ⟨ar, cr, rfl, hr1, hr2⟩ := hrd.form'
        obtain ⟨bq, oq, ud, e1, e2, e3⟩ := hrd.elem (k := d) (by omega) []
        obtain ⟨x1, x2, x3, rfl⟩ := e3.here.form
        subst e1
        have Hfin' : Hid (rdE a n = 0 ∧ Off Bs g w4 (.slice x1 x2 x3) (rdX a n)) := ⟨by rw [Hfin.out.1, hde], by rw [Hfin.out.2]; exact e3⟩
        rw [hlen] at hr1 ⊢
        clear Hfin hrd e3 hlen
        generalize dataE (cellsL a s) s = E2 at *
        subst hde
        go_wp2
        go_ret2
        exact ⟨_, ret_bs2 Hfin'.out.1.symm, Hfin'.out.2, hgw4⟩
      · have hnil := dataL_nil hde
        have Hfin' : Hid (rdE a n = dataE (cellsL a s) s ∧ rdX a n = []) := ⟨Hfin.out.1, by rw [Hfin.out.2, hnil]; simp⟩
        clear Hfin hrd hnil
        generalize dataE (cellsL a s) s = E2 at *
        have hde' : (E2 != 0) = true := by simpa using hde
        go_wp2
        go_ret2
        exact ⟨_, ret_bs2 Hfin'.out.1.symm, by rw [Hfin'.out.2]; exact fun _ _ => Bs.nil _, hgw4⟩
  · have HE : Hid (rdE a n = 3) := if_neg hn
    have HX : Hid (rdX a n = []) := if_neg hn
    have hWh := where_any n W
    obtain ⟨hD, hS, hEw⟩ := where_out hn
    rw [hEw] at hWh
    clear hn hD hS hEw
    go_enter Try.func37, Try.ntmps37
    go_wp2_with fail
    rw [← hW]
    refine hWh.mono ?_
    rintro e w1 ⟨rfl, rfl⟩
    clear hW
    go_wp2
    go_ret2
    exact ⟨_, ret_bs2 HE.out.symm, by rw [HX.out]; exact fun _ _ => Bs.nil _, hgA⟩

theorem arrRead_any (v : Value) (a : ArrP) (n : Int) (w : World) (h : ArrV w v a) (ha : Whole a) (h8 : ∀ d s, (cellAt a d s).length ≤ 8) :
    Calls Try.prog 37 #[v, .int .i64 n] w fun e w' => ∃ r, e = .returned (.tuple #[r, .int .i64 (rdE a n)]) ∧ Bs w' r (rdX a n) ∧ Grow w w' :=
  (arrRead_off v a n w none h (fun _ h => nomatch h) ha h8).mono fun _ _ ⟨r, he, hr, hg⟩ => ⟨r, he, hr.here, hg⟩

end Go.Proofs.Ytjggiameajndgab

/-
  What the program's array.Plan returns. Nothing old turns.
-/
namespace Go.Proofs.Ytjggiameajndgab
open Go.RowKit

set_option maxRecDepth 20000 in
set_option maxHeartbeats 6400000 in
theorem arrPlan_any (v dv : Value) (a : ArrP) (x : DeedP) (w : World) (h : ArrV w v a) (ha : Whole a) (h8 : ∀ d s, (cellAt a d s).length ≤ 8) (hd : DeedV w dv x) :
    Calls Try.prog 41 #[v, dv] w fun e w' => ∃ r, e = .returned (.tuple #[r, .int .i64 (planE a x)]) ∧ IntentV w' r (planI a x) ∧ Grow w w' := by
  have harr := h
  have hdeed := hd
  obtain ⟨a1, n1, c1, a2, n2, c2, rfl⟩ := h.form
  obtain ⟨sv, rfl, hbd⟩ := hd
  obtain ⟨d1, d2, d3, rfl⟩ := hbd.form
  clear h hbd
  obtain ⟨W, hW⟩ : ∃ W, W = ((w.alloc (.cells #[.slice a1 n1 c1, .slice a2 n2 c2] 39)).alloc (.cells #[.int .i64 x.k, .int .i64 x.n, .int .i64 x.m, .slice d1 d2 d3] 25)).alloc (.cells #[.int .i64 0, .slice none 0 0] 62) := ⟨_, rfl⟩
  have hgW : Grow w W := by rw [hW]; exact ((Grow.alloc _ _).trans (Grow.alloc _ _)).trans (Grow.alloc _ _)
  obtain ⟨H1, H2, H3⟩ := heap3 w (.cells #[.slice a1 n1 c1, .slice a2 n2 c2] 39) (.cells #[.int .i64 x.k, .int .i64 x.n, .int .i64 x.m, .slice d1 d2 d3] 25) (.cells #[.int .i64 0, .slice none 0 0] 62)
  rw [← hW] at H1 H2 H3
  have k0 : W.cell? ⟨w.heap.size, 0, none⟩ = some (.slice a1 n1 c1) := row_at H1 0 rfl
  have k1 : W.cell? ⟨w.heap.size, 1, none⟩ = some (.slice a2 n2 c2) := row_at H1 1 rfl
  have d0' : W.cell? ⟨w.heap.size + 1, 0, none⟩ = some (.int .i64 x.k) := row_at H2 0 rfl
  have d1' : W.cell? ⟨w.heap.size + 1, 1, none⟩ = some (.int .i64 x.n) := row_at H2 1 rfl
  have d2' : W.cell? ⟨w.heap.size + 1, 2, none⟩ = some (.int .i64 x.m) := row_at H2 2 rfl
  have d3' : W.cell? ⟨w.heap.size + 1, 3, none⟩ = some (.slice d1 d2 d3) := row_at H2 3 rfl
  have hRW := H3
  have hlW : w.heap.size + 1 + 1 < W.heap.size := heap_lt H3
  clear H1 H2 H3
  have hwr := modelWrong_any _ x W (hdeed.grow hgW)
  by_cases hw0 : wrongE x = 0
  · obtain ⟨-, hn0, hn8, -, -⟩ := right_deed hw0
    obtain ⟨hD, hS, hEw, hd4, hs3⟩ := where_bd (n := x.n) (by omega)
    have hWh := fun w1 => where_any x.n w1
    rw [hD, hS, hEw] at hWh
    have HPE : Hid (planE a x = dataE (cellsL a (sOf x.n)) (sOf x.n)) := if_neg (by simp [hw0])
    have HPI : Hid (planI a x = if dataE (cellsL a (sOf x.n)) (sOf x.n) ≠ 0 then (0, []) else ((sOf x.n : Int), makeL (planOut (doL (spreadTo (dataL (cellsL a (sOf x.n)) (sOf x.n)) (sOf x.n) 9) x) (sOf x.n)) (sOf x.n))) := by rw [Hid, planI, HPE.out]; rfl
    have Hw0 : Hid (wrongE x = 0) := hw0
    rw [hw0] at hwr
    clear hD hS hEw hw0 hn0 hn8
    generalize dOf x.n = dn at *
    generalize sOf x.n = s at *
    have hcl : (cellsL a s).length = 4 := by rw [cellsL_length, ha.1]
    go_enter Try.func41, Try.ntmps41
    go_wp2_with fail
    rw [← hW]
    clear hW
    refine hwr.mono ?_
    rintro e w1 ⟨rfl, hg1⟩
    have e1 := hg1.at d1'
    clear hwr
    go_wp2_with fail
    refine (hWh _).mono ?_
    rintro e w2 ⟨rfl, rfl⟩
    have q0 := hg1.at k0
    have q1 := hg1.at k1
    have hc1 := stripeCells_row (.agg #[.slice a1 n1 c1, .slice a2 n2 c2]) a s w2 (harr.grow (hgW.trans hg1)) ha h8 hs3
    go_wp2_with fail
    refine hc1.mono ?_
    rintro e w3 ⟨rc, rfl, hrc, hg3⟩
    have hDt := stripeData_bss rc (cellsL a s) s w3 none hrc.done (fun _ h => nomatch h) hcl hs3
    clear hc1 q0 q1 k0 k1 e1
    go_wp2_with fail
    refine hDt.mono ?_
    rintro e w4 ⟨rd, rfl, hrd, hg4⟩
    clear hDt
    have hg04 := (hg1.trans hg3).trans hg4
    have hR4 := hg04.block' hRW
    have t0 := two_at0 hR4
    have t1 := two_at1 hR4
    have z0 : w4.frozen? ⟨w.heap.size + 1 + 1, 0, none⟩ = false := frozen_of_row w4 _ 0 _ _ hR4
    have z1 : w4.frozen? ⟨w.heap.size + 1 + 1, 1, none⟩ = false := frozen_of_row w4 _ 1 _ _ hR4
    have hgF := hgW.trans hg04
    by_cases hde : dataE (cellsL a s) s = 0
    · have hdl := dataL_length hde
      rw [hcl] at hdl
      have hdb := dataL_blocks hde
      have HP : Hid (planI a x = ((s : Int), makeL (planOut (doL (spreadTo (dataL (cellsL a s) s) s 9) x) s) s)) := by rw [Hid, HPI.out, if_neg (by simp [hde])]
      have HE : Hid (planE a x = 0) := HPE.out.trans hde
      have hrb : Bss w4 rd (dataL (cellsL a s) s) := Sl.off hrd.done
      have f0 := hg04.at d0'
      have f1 := hg04.at d1'
      have f2 := hg04.at d2'
      have f3 := hg04.at d3'
      have hBh := arrBehind_any rd (.agg #[.int .i64 x.k, .int .i64 x.n, .int .i64 x.m, .slice d1 d2 d3]) (dataL (cellsL a s) s) s x w4 hrb hdl hdb hs3 (hdeed.grow hgF) Hw0.out
      have HPL : Hid ((planOut (doL (spreadTo (dataL (cellsL a s) s) s 9) x) s).length = 4) := planOut_length _ _
      have Hb4 : Hid (∀ b ∈ planOut (doL (spreadTo (dataL (cellsL a s) s) s 9) x) s, b.length = 4) := planOut_blocks (doL_blocks (spread_blocks hdb hdl s 9) (spreadTo_length _ _ _) Hw0.out) (by rw [doL_length, spreadTo_length]) hs3
      rw [hde]
      clear HPI HPE hde hdl hdb hrd hrb hrc hcl d0' d1' d2' d3' t0 t1 z0 z1 hg1 hg3 hg4
      generalize planOut (doL (spreadTo (dataL (cellsL a s) s) s 9) x) s = po at *
      go_wp2_with fail
      refine hBh.mono ?_
      rintro e w5 ⟨rb, rfl, hrb, hg5⟩
      clear hBh f0 f1 f2 f3
      have hMk := stripeMake_row rb po s w5 hrb HPL.out hs3 Hb4.out
      have hR5 := hg5.block' hR4
      clear hrb
      go_wp2_with fail
      refine hMk.mono ?_
      rintro e w9 ⟨rm, rfl, hrm, hg9⟩
      clear hMk
      have hml : (makeL po (s : Int)).length = 4 := by simp [makeL, HPL.out]
      obtain ⟨ga, ca, hrf, hga, hgal⟩ := hrm.form (by omega)
      rw [hml] at hrf
      subst hrf
      have hR10 := hg9.block' hR5
      have hlt5 := heap_lt hR5
      have hbx : BssX (some (w.heap.size + 1 + 1)) w9 (.slice (some ⟨ga, 0, none⟩) 4 ca) (makeL po (s : Int)) := Itn.bss ⟨_, _, _, _, _, hR10⟩ hrm.done (by omega)
      have t0 := two_at0 hR10
      have t1 := two_at1 hR10
      have z0 : w9.frozen? ⟨w.heap.size + 1 + 1, 0, none⟩ = false := frozen_of_row w9 _ 0 _ _ hR10
      have z1 : w9.frozen? ⟨w.heap.size + 1 + 1, 1, none⟩ = false := frozen_of_row w9 _ 1 _ _ hR10
      have hgG := (hgF.trans hg5).trans hg9
      have Hbx : Hid (BssX (some (w.heap.size + 1 + 1)) w9 (.slice (some ⟨ga, 0, none⟩) 4 ca) (makeL po (s : Int))) := hbx
      clear hbx hrm hR5 hR10 hR4 hRW hml
      go_wp2
      refine bodyPost_ret (results_two1 Try.results41 _ _ (w.heap.size + 1 + 1) _ rfl Try.underlying62 rfl Try.sizeI (x := .int .i64 (s : Int)) (y := .slice (some ⟨ga, 0, none⟩) 4 ca) (by rw [cell_set_ne (by simp)]; exact World.cell?_setCell_same _ _ _ t0) (World.cell?_setCell_same _ _ _ (by rw [cell_set_ne (by simp)]; exact t1))) rfl ?_
      exact ⟨_, ret_bs2 HE.out.symm, by rw [HP.out]; exact ⟨_, rfl, ((Hbx.out.step (grown_set _ _ _ _)).step (grown_set _ _ _ _)).plain⟩, (hgG.set (by omega) _).set (by omega) _⟩
    · have HP : Hid (planI a x = (0, [])) := by rw [Hid, HPI.out, if_pos hde]
      clear HPI hrd hrc hcl d0' d1' d2' d3' hg1 hg3 hg4 hR4 hRW
      have HE : Hid (planE a x = dataE (cellsL a s) s) := HPE.out
      clear HPE
      generalize dataE (cellsL a s) s = E at *
      have he' : (E != 0) = true := by simpa using hde
      go_wp2
      refine bodyPost_ret (results_two1 Try.results41 _ _ (w.heap.size + 1 + 1) _ rfl Try.underlying62 rfl Try.sizeI (x := .int .i64 0) (y := .slice none 0 0) (by rw [cell_set_ne (by simp)]; exact World.cell?_setCell_same _ _ _ t0) (World.cell?_setCell_same _ _ _ (by rw [cell_set_ne (by simp)]; exact t1))) rfl ?_
      exact ⟨_, ret_bs2 HE.out.symm, by rw [HP.out]; exact ⟨_, rfl, Sl.nil _ _⟩, (hgF.set (by omega) _).set (by omega) _⟩
  · have HE : Hid (planE a x = wrongE x) := if_pos hw0
    have HP : Hid (planI a x = (0, [])) := by rw [Hid, planI, HE.out, if_pos hw0]
    generalize wrongE x = E at *
    have he' : (E != 0) = true := by simpa using hw0
    go_enter Try.func41, Try.ntmps41
    go_wp2_with fail
    rw [← hW]
    clear hW
    refine hwr.mono ?_
    rintro e w1 ⟨rfl, hg1⟩
    have hR1 := hg1.block' hRW
    have t0 := two_at0 hR1
    have t1 := two_at1 hR1
    have z0 : w1.frozen? ⟨w.heap.size + 1 + 1, 0, none⟩ = false := frozen_of_row w1 _ 0 _ _ hR1
    have z1 : w1.frozen? ⟨w.heap.size + 1 + 1, 1, none⟩ = false := frozen_of_row w1 _ 1 _ _ hR1
    clear k0 k1 d0' d1' d2' d3' hwr hR1 hRW
    have hgF := hgW.trans hg1
    go_wp2
    refine bodyPost_ret (results_two1 Try.results41 _ _ (w.heap.size + 1 + 1) _ rfl Try.underlying62 rfl Try.sizeI (x := .int .i64 0) (y := .slice none 0 0) (by rw [cell_set_ne (by simp)]; exact World.cell?_setCell_same _ _ _ t0) (World.cell?_setCell_same _ _ _ (by rw [cell_set_ne (by simp)]; exact t1))) rfl ?_
    exact ⟨_, ret_bs2 HE.out.symm, by rw [HP.out]; exact ⟨_, rfl, Sl.nil _ _⟩, (hgF.set (by omega) _).set (by omega) _⟩

end Go.Proofs.Ytjggiameajndgab

/-
  Rows of bytes' slices of the call's own, whose bytes lie in blocks of bytes that nothing else is written to. What the program's array.ownCells returns.
-/
namespace Go.Proofs.Ytjggiameajndgab
open Go.RowKit

/-- Blocks of bytes are what they were. -/
def Kb (w w' : World) : Prop := ∀ (k : Nat) cs, w.heap[k]? = some (.cells cs 5 (0, 0)) → w'.heap[k]? = some (.cells cs 5 (0, 0))

theorem Kb.refl (w : World) : Kb w w := fun _ _ h => h
theorem Kb.trans {x y z : World} (h : Kb x y) (g : Kb y z) : Kb x z := fun k cs hk => g k cs (h k cs hk)
theorem Grow.kb {w w' : World} (h : Grow w w') : Kb w w' := fun _ _ hk => h.block' hk
theorem Kb.set {w : World} {b k : Nat} {u : Value} {cs : Array Value} {t : TypeId} {mk : Nat × Nat} (hb : w.heap[b]? = some (.cells cs t mk)) (ht : t ≠ 5) : Kb w (w.setCell ⟨b, k, none⟩ u) := fun j cs' hj => by
  refine set_other hj fun e => ?_
  subst e
  rw [hb] at hj
  injection hj with hj
  injection hj with _ hj _
  exact ht hj
theorem Kb.inn {w w' : World} {G : Nat → Prop} (h : GrownIn w w' G) (hn : ∀ k cs, G k → w.heap[k]? ≠ some (.cells cs 5 (0, 0))) : Kb w w' := fun k cs hk => (h.block k (heap_lt hk) (fun hG => hn k cs hG hk)).trans hk

/-- Bytes that read so as long as blocks of bytes are what they are. -/
def Tb (w : World) (u : Value) (l : List Int) : Prop := ∀ w', Kb w w' → Bs w' u l

theorem Tb.here {w : World} {u : Value} {l : List Int} (h : Tb w u l) : Bs w u l := h w (Kb.refl w)
theorem Tb.step {w w' : World} {u : Value} {l : List Int} (h : Tb w u l) (hk : Kb w w') : Tb w' u l := fun w'' h' => h w'' (hk.trans h')
theorem Tb.nil (w : World) : Tb w (.slice none 0 0) [] := fun w' _ => Bs.nil w'
theorem Tb.own {w : World} {B n : Nat} {u : Value} {l : List Int} (h : w.ownsRow B 5 1 u n (l.map (Value.int .u8))) (ho : Octets l) : Tb w u l := fun w' hk => by
  refine Bs.of_own (w := w') (base := B) (e := 5) (n := n) ⟨h.1, ?_⟩ ho
  rcases h.2 with h2 | ⟨g, cap, cur, hv, hb, hh, hr⟩
  · exact .inl h2
  · exact .inr ⟨g, cap, cur, hv, hb, hk g cur hh, hr⟩

/-- A row in block b of slices of bytes that read as these. -/
def DRow (b : Nat) (ls : List (List Int)) (w : World) : Prop :=
  ∃ us : List Value, us.length = ls.length ∧ w.heap[b]? = some (.cells us.toArray 23 (0, 0)) ∧ ∀ (i : Nat) u x, us[i]? = some u → ls[i]? = some x → Tb w u x

theorem DRow.kept {b : Nat} {ls : List (List Int)} {w w' : World} (h : DRow b ls w) (hk : Kb w w') (hb : w'.heap[b]? = w.heap[b]?) : DRow b ls w' := by
  obtain ⟨us, h1, h2, h3⟩ := h
  exact ⟨us, h1, hb.trans h2, fun i u x hu hx => (h3 i u x hu hx).step hk⟩

theorem DRow.lt {b : Nat} {ls : List (List Int)} {w : World} (h : DRow b ls w) : b < w.heap.size := by
  obtain ⟨us, h1, h2, h3⟩ := h
  exact heap_lt h2

theorem DRow.grow {b : Nat} {ls : List (List Int)} {w w' : World} (h : DRow b ls w) (hg : Grow w w') : DRow b ls w' := h.kept hg.kb (hg.block b h.lt)

theorem DRow.notB {b : Nat} {ls : List (List Int)} {w : World} (h : DRow b ls w) (cs : Array Value) : w.heap[b]? ≠ some (.cells cs 5 (0, 0)) := by
  obtain ⟨us, h1, h2, h3⟩ := h
  intro e
  rw [h2] at e
  injection e with e
  injection e with _ e _
  exact absurd e (by decide)

theorem DRow.at {b : Nat} {ls : List (List Int)} {w : World} (h : DRow b ls w) {k : Nat} (hk : k < ls.length) : (∃ u, w.cell? ⟨b, k, none⟩ = some u) ∧ w.frozen? ⟨b, k, none⟩ = false := by
  obtain ⟨us, h1, h2, h3⟩ := h
  exact ⟨⟨us[k]'(by omega), row_at h2 k (by simp [h1, hk])⟩, frozen_of_row w b k _ _ h2⟩

theorem DRow.kbset {b : Nat} {ls : List (List Int)} {w : World} (h : DRow b ls w) (k : Nat) (u : Value) : Kb w (w.setCell ⟨b, k, none⟩ u) := by
  obtain ⟨us, h1, h2, h3⟩ := h
  exact Kb.set h2 (by decide)

theorem DRow.put {b : Nat} {ls : List (List Int)} {w : World} (h : DRow b ls w) (k : Nat) {x : List Int} {u : Value} (hx : Tb w u x) : DRow b (ls.set k x) (w.setCell ⟨b, k, none⟩ u) := by
  have hkb := h.kbset k u
  obtain ⟨us, h1, h2, h3⟩ := h
  refine ⟨us.set k u, by simp [h1], ?_, fun i q y hq hy => ?_⟩
  · rw [heap_setCell_same w b k _ _ _ h2]
    simp
  · by_cases hik : i = k
    · subst hik
      have hlt : i < us.length := by
        by_cases hlt : i < us.length
        · exact hlt
        · rw [List.getElem?_eq_none (by simp; omega)] at hq; cases hq
      rw [List.getElem?_set_self hlt] at hq
      rw [List.getElem?_set_self (by omega)] at hy
      cases hq
      cases hy
      exact hx.step hkb
    · rw [List.getElem?_set_ne (fun e => hik e.symm)] at hq hy
      exact (h3 i q y hq hy).step hkb

theorem DRow.bss {b : Nat} {ls : List (List Int)} {w : World} (h : DRow b ls w) (hm : ls.length ≤ 4) : Bss w (.slice (some ⟨b, 0, none⟩) ls.length ls.length) ls := by
  obtain ⟨us, h1, h2, h3⟩ := h
  exact Sl.row h2 rfl h1 (by unfold maxLen; omega) (fun i u x hu hx => (h3 i u x hu hx).here)

/-- A row of n, made. -/
def nilsN (n : Nat) : Array Value := (List.replicate n (.slice none 0 0)).toArray

theorem Try.madeN (w : World) (n : Nat) (hn : n ≤ 100) : (Instr.makeSlice 22 (.int .i64 (n : Int)) (.int .i64 (n : Int))).run Try.prog w = .ok (.slice (some ⟨w.heap.size, 0, none⟩) n n) (w.alloc (.cells (nilsN n) 23)) :=
  (run_make_row' (P := Try.prog) 22 23 (.slice none 0 0) 24 Try.underlying22 Try.infoS rfl .i64 .i64 n (by omega) (by omega) w).trans (by rw [show madeCells #[.slice none 0 0] n = nilsN n from Array.toList_inj.1 (by rw [toList_madeCells_one]; simp [nilsN])])

theorem DRow.made (w : World) (n : Nat) : DRow w.heap.size (List.replicate n []) (w.alloc (.cells (nilsN n) 23)) := by
  refine ⟨List.replicate n (.slice none 0 0), by simp, heap_alloc_new w _, fun i u x hu hx => ?_⟩
  have h1 := List.mem_of_getElem? hu
  have h2 := List.mem_of_getElem? hx
  simp only [List.mem_replicate] at h1 h2
  rw [h1.2, h2.2]
  exact Tb.nil _

/-- The first k are filled. -/
def fillTo (ls : List (List Int)) (k : Nat) : List (List Int) := ls.take k ++ List.replicate (ls.length - k) []

theorem fillTo_zero (ls : List (List Int)) : fillTo ls 0 = List.replicate ls.length [] := by simp [fillTo]
theorem fillTo_all (ls : List (List Int)) : fillTo ls ls.length = ls := by simp [fillTo]
theorem fillTo_length (ls : List (List Int)) {k : Nat} (h : k ≤ ls.length) : (fillTo ls k).length = ls.length := by simp [fillTo]; omega
theorem fillTo_set (ls : List (List Int)) {k : Nat} (h : k < ls.length) : (fillTo ls k).set k (ls.getD k []) = fillTo ls (k + 1) := by
  refine List.ext_getElem (by simp [fillTo]; omega) fun i h1 h2 => ?_
  rw [List.getElem_set]
  by_cases hik : k = i
  · subst hik
    rw [if_pos rfl]
    simp only [fillTo]
    rw [List.getElem_append_left (by simp; omega), List.getElem_take, List.getD_eq_getElem?_getD]
    simp [h]
  · rw [if_neg hik]
    simp only [fillTo]
    by_cases hlt : i < k
    · rw [List.getElem_append_left (by simp; omega), List.getElem_append_left (by simp; omega), List.getElem_take, List.getElem_take]
    · rw [List.getElem_append_right (by simp; omega), List.getElem_append_right (by simp; omega)]
      simp

set_option maxRecDepth 20000 in
set_option maxHeartbeats 1600000 in
theorem ownCells_row (v : Value) (ls : List (List Int)) (w : World) (h : Bss w v ls) (hn1 : 3 ≤ ls.length) (hn2 : ls.length ≤ 4) (h8 : ∀ b ∈ ls, b.length ≤ 8) :
    Calls Try.prog 70 #[v] w fun e w' => e = .returned (.slice (some ⟨w.heap.size, 0, none⟩) ls.length ls.length) ∧ DRow w.heap.size ls w' ∧ Grow w w' := by
  obtain ⟨ao, cap, rfl, h1, h2, h3, h4⟩ := h
  unfold maxLen at h2
  obtain ⟨b, off, rfl, hc⟩ := h4 (by omega)
  have HK : Hid (∀ k, k < ls.length → ∃ ak nk ck, w.cell? ⟨b, off + k, none⟩ = some (.slice ak nk ck) ∧ Bs w (.slice ak nk ck) (ls.getD k [])) := fun k hk => by
    obtain ⟨ak, ck, hck, hbk⟩ := Sl.bytesAt hc (k := k) hk
    exact ⟨ak, _, ck, hck, hbk⟩
  have H8 : Hid (∀ k, (ls.getD k []).length ≤ 8) := fun k => by
    by_cases hk : k < ls.length
    · exact h8 _ (getD_mem hk)
    · rw [List.getD_eq_getElem?_getD, List.getElem?_eq_none (by omega)]; simp
  have hmk := Try.madeN w ls.length (by omega)
  have HF : Hid (DRow w.heap.size (fillTo ls 0) (w.alloc (.cells (nilsN ls.length) 23))) := by rw [fillTo_zero]; exact DRow.made w _
  have HS : Hid (∀ k, k < ls.length → (fillTo ls k).set k (ls.getD k []) = fillTo ls (k + 1)) := fun k hk => fillTo_set ls hk
  have HL : Hid (∀ k, k ≤ ls.length → (fillTo ls k).length = ls.length) := fun k hk => fillTo_length ls hk
  have HE : Hid (fillTo ls ls.length = ls) := fillTo_all ls
  have hgA : Grow w (w.alloc (.cells (nilsN ls.length) 23)) := Grow.alloc _ _
  clear hc h4 h3 h8
  generalize ls.length = n at *
  go_enter Try.func70, Try.ntmps70
  go_wp2
  go_loopw [10] (fun i wr => ∃ k : Nat, k ≤ n ∧ i = .int .i64 k ∧ Hid (DRow w.heap.size (fillTo ls k) wr) ∧ Grow w wr) (fun i _ => n - (intOf i).toNat)
  case atStart => exact ⟨0, by omega, rfl, HF, hgA⟩
  case round =>
    obtain ⟨k, hk, rfl, HR, hgr⟩ := hrel
    clear HF hmk hgA
    by_cases hlt : k < n
    · obtain ⟨ak, nk, ck, hck, hbk⟩ := HK.out k hlt
      have hoc := hbk.octets
      have hC := bytesClone_any (.slice ak nk ck) (ls.getD k []) wr (hbk.grow hgr) (by have := H8.out k; omega)
      have hck' := hgr.at hck
      clear hck hbk
      go_wp2_with fail
      refine hC.mono ?_
      rintro e w1 ⟨r, rfl, hr, hg1⟩
      have hTb := Tb.own hr hoc
      obtain ⟨ar, nr, cr, rfl⟩ := hTb.here.form
      have hR1 := HR.out.grow hg1
      have hgr1 := hgr.trans hg1
      have hlen := HL.out k hk
      obtain ⟨⟨u0, hu0⟩, hf0⟩ := hR1.at (k := k) (by omega)
      have hR2 := hR1.put k hTb
      rw [HS.out k hlt] at hR2
      have HR2 : Hid (DRow _ _ _) := hR2
      have hg2 := hgr1.set (k := k) (Nat.le_refl w.heap.size) (.slice ar nr cr)
      clear hC hr hTb HR hR1 hR2 hlen hoc
      go_wp2
      go_roundw
      case rel => first | exact ⟨k + 1, by omega, by go_num, HR2, hg2⟩ | ((repeat apply Exists.intro); exact ⟨⟨k + 1, by omega, by go_num, HR2, hg2⟩, rfl⟩)
      case measure => simp [intOf]; omega
    · have HN : Hid (k = n) := by rw [Hid]; omega
      have hno : ¬ ((k : Int) < (n : Int)) := by omega
      go_wp2
      go_ret
      refine ⟨rfl, ?_, hgr⟩
      have := HR.out
      rw [HN.out, HE.out] at this
      exact this

end Go.Proofs.Ytjggiameajndgab

/-
  What the program's array.ownIntent returns.
-/
namespace Go.Proofs.Ytjggiameajndgab
open Go.RowKit

/-- A new row, behind n, that reads as these. -/
def NewRow (n : Nat) (cs : List (List Int)) (v : Value) (w : World) : Prop := ∃ r, n ≤ r ∧ v = .slice (some ⟨r, 0, none⟩) cs.length cs.length ∧ DRow r cs w
theorem NewRow.stable {n : Nat} (cs : List (List Int)) : ∀ (v : Value) (x y : World), NewRow n cs v x → Grow x y → NewRow n cs v y := fun _ _ _ ⟨r, h1, h2, h3⟩ hg => ⟨r, h1, h2, h3.grow hg⟩

/-- An intent of such a row. -/
def NewInt (n : Nat) (i : Int × List (List Int)) (v : Value) (w : World) : Prop := ∃ r, n ≤ r ∧ v = .agg #[.int .i64 i.1, .slice (some ⟨r, 0, none⟩) i.2.length i.2.length] ∧ DRow r i.2 w
theorem NewInt.stable {n : Nat} (i : Int × List (List Int)) : ∀ (v : Value) (x y : World), NewInt n i v x → Grow x y → NewInt n i v y := fun _ _ _ ⟨r, h1, h2, h3⟩ hg => ⟨r, h1, h2, h3.grow hg⟩

/-- Blocks of bytes, of slices of bytes and of disks are what they were. -/
def K3 (w w' : World) : Prop := ∀ (k : Nat) cs t, (t = 5 ∨ t = 23 ∨ t = 22) → w.heap[k]? = some (.cells cs t (0, 0)) → w'.heap[k]? = some (.cells cs t (0, 0))

theorem K3.kb {w w' : World} (h : K3 w w') : Kb w w' := fun k cs hk => h k cs _ (.inl rfl) hk
theorem K3.refl (w : World) : K3 w w := fun _ _ _ _ h => h
theorem K3.trans {x y z : World} (h : K3 x y) (g : K3 y z) : K3 x z := fun k cs t ht hk => g k cs t ht (h k cs t ht hk)
theorem Grow.k3 {w w' : World} (h : Grow w w') : K3 w w' := fun _ _ _ _ hk => h.block' hk
theorem K3.set {w : World} {b k : Nat} {u : Value} {cs : Array Value} {t : TypeId} {mk : Nat × Nat} (hb : w.heap[b]? = some (.cells cs t mk)) (ht : t ≠ 5 ∧ t ≠ 23 ∧ t ≠ 22) : K3 w (w.setCell ⟨b, k, none⟩ u) := fun j cs' t' ht' hj => by
  refine set_other hj fun e => ?_
  subst e
  rw [hb] at hj
  injection hj with hj
  injection hj with _ hj _
  subst hj
  obtain ⟨h1, h2, h3⟩ := ht
  rcases ht' with e | e | e
  · exact h1 e
  · exact h2 e
  · exact h3 e

theorem DRow.k3 {b : Nat} {ls : List (List Int)} {w w' : World} (h : DRow b ls w) (hk : K3 w w') : DRow b ls w' := by
  obtain ⟨us, h1, h2, h3⟩ := h
  exact ⟨us, h1, hk b _ _ (.inr (.inl rfl)) h2, fun i u x hu hx => (h3 i u x hu hx).step hk.kb⟩

set_option maxRecDepth 20000 in
set_option maxHeartbeats 1600000 in
theorem ownIntent_row (v : Value) (s : Int) (cs : List (List Int)) (w : World) (h : IntentV w v (s, cs)) (hn : cs.length = 4) (h8 : ∀ b ∈ cs, b.length ≤ 8) :
    Calls Try.prog 71 #[v] w fun e w' => ∃ r, e = .returned (.agg #[.int .i64 s, .slice (some ⟨r, 0, none⟩) 4 4]) ∧ w.heap.size ≤ r ∧ DRow r cs w' ∧ Grow w w' := by
  obtain ⟨cv, rfl, hb⟩ := h
  simp only at hb ⊢
  obtain ⟨ac, nc, cc, rfl⟩ : ∃ a n c, cv = .slice a n c := by
    obtain ⟨a, c, e⟩ := hb.form
    exact ⟨_, _, _, e⟩
  obtain ⟨W, hW⟩ : ∃ W, W = (w.alloc (.cells #[.int .i64 s, .slice ac nc cc] 62)).alloc (.cells #[.int .i64 0, .slice none 0 0] 62) := ⟨_, rfl⟩
  have hgW : Grow w W := by rw [hW]; exact (Grow.alloc _ _).trans (Grow.alloc _ _)
  have hbA : W.heap[w.heap.size]? = some (.cells #[.int .i64 s, .slice ac nc cc] 62 (0, 0)) := by rw [hW]; exact (heap_alloc_old _ _ (by simp)).trans (heap_alloc_new w _)
  have hbR : W.heap[w.heap.size + 1]? = some (.cells #[.int .i64 0, .slice none 0 0] 62 (0, 0)) := by rw [hW]; exact heap_alloc2_new w _ _
  have HbR : Hid (W.heap[w.heap.size + 1]? = some (.cells #[.int .i64 0, .slice none 0 0] 62 (0, 0))) := hbR
  have i0 := two_at0 hbA
  have i1 := two_at1 hbA
  have hcall := fun (w1 : World) (hg : Grow W w1) => ownCells_row (.slice ac nc cc) cs w1 (hb.grow (hgW.trans hg)) (by omega) (by omega) h8
  have Hcall : Hid (∀ (w1 : World) (hg : Grow W w1), Calls Try.prog 70 #[.slice ac nc cc] w1 fun e w' => e = .returned (.slice (some ⟨w1.heap.size, 0, none⟩) cs.length cs.length) ∧ DRow w1.heap.size cs w' ∧ Grow w1 w') := hcall
  have hn0 := hn
  clear hcall hb hbA hbR h8
  go_enter Try.func71, Try.ntmps71
  go_wp2
  rw [← hW]
  clear hW
  refine wp_region_last [_, _, _, _, _, _] _ rfl Grow [IsV (.pointer (some ⟨w.heap.size, 0, none⟩)), IsV (.int .i64 s), IsV (.pointer (some ⟨w.heap.size, 1, none⟩)), IsV (.slice ac nc cc), NewRow w.heap.size cs, NewInt w.heap.size (s, cs)] (by kernel_rfl) (by kernel_rfl) (by kernel_rfl) rfl Grow.refl (fun _ _ _ => Grow.trans) ?_ ?_ ?_
  · repeat (refine List.forall_mem_cons.2 ⟨by first | exact IsV.stable _ | exact NewInt.stable _ | exact NewRow.stable _, ?_⟩)
    exact fun R hR => nomatch hR
  · skip
    refine StepsS.cons ?_ fun v0 => ⟨_, _, by simp only [Act.put, List.setIfInBounds_toArray, List.set_cons_succ, List.set_cons_zero]; first | done | rfl, by simp only [List.nil_append]; first | done | rfl, ?_⟩
    · intro w1 hE hd
      clear hd
      go_wp2
      exact ⟨_, rfl, Grow.refl _, rfl⟩
    refine StepsS.cons ?_ fun v1 => ⟨_, _, by simp only [Act.put, List.setIfInBounds_toArray, List.set_cons_succ, List.set_cons_zero]; first | done | rfl, by simp only [List.nil_append, List.cons_append]; first | done | rfl, ?_⟩
    · intro w1 hE hd
      obtain rfl := IsV.eq (dep_at hd 0 rfl rfl rfl)
      clear hd
      have q0 := hE.drew.at i0
      go_wp2
      exact ⟨_, rfl, Grow.refl _, rfl⟩
    refine StepsS.cons ?_ fun v2 => ⟨_, _, by simp only [Act.put, List.setIfInBounds_toArray, List.set_cons_succ, List.set_cons_zero]; first | done | rfl, by simp only [List.nil_append, List.cons_append]; first | done | rfl, ?_⟩
    · intro w1 hE hd
      clear hd
      go_wp2
      exact ⟨_, rfl, Grow.refl _, rfl⟩
    refine StepsS.cons ?_ fun v3 => ⟨_, _, by simp only [Act.put, List.setIfInBounds_toArray, List.set_cons_succ, List.set_cons_zero]; first | done | rfl, by simp only [List.nil_append, List.cons_append]; first | done | rfl, ?_⟩
    · intro w1 hE hd
      obtain rfl := IsV.eq (dep_at hd 0 rfl rfl rfl)
      clear hd
      have q0 := hE.drew.at i1
      go_wp2
      exact ⟨_, rfl, Grow.refl _, rfl⟩
    refine StepsS.cons ?_ fun v4 => ⟨_, _, by simp only [Act.put, List.setIfInBounds_toArray, List.set_cons_succ, List.set_cons_zero]; first | done | rfl, by simp only [List.nil_append, List.cons_append]; first | done | rfl, ?_⟩
    · intro w1 hE hd
      obtain rfl := IsV.eq (dep_at hd 0 rfl rfl rfl)
      clear hd
      go_wp2_with fail
      refine (Hcall.out _ hE.drew).mono ?_
      rintro e w5 ⟨rfl, hr, hg5⟩
      go_wp2_with fail
      exact ⟨_, rfl, hg5, _, Nat.le_trans hgW.size hE.drew.size, by rw [hn], hr⟩
    refine StepsS.cons ?_ fun v5 => ⟨_, _, by simp only [Act.put, List.setIfInBounds_toArray, List.set_cons_succ, List.set_cons_zero]; first | done | rfl, by simp only [List.nil_append, List.cons_append]; first | done | rfl, ?_⟩
    · intro w1 hE hd
      obtain rfl := IsV.eq (dep_at hd 0 rfl rfl rfl)
      have d4 := dep_at hd 1 rfl rfl rfl
      clear hd
      obtain ⟨r, h1, rfl, h3⟩ := d4
      go_wp2
      exact ⟨_, rfl, Grow.refl _, r, h1, by rw [hn], h3⟩
    trivial
  intro wR hwR
  refine FinS.cons ?_; rintro _ rfl; refine ⟨_, by simp only [Act.put, List.setIfInBounds_toArray, List.set_cons_succ, List.set_cons_zero]; first | done | rfl, ?_⟩
  refine FinS.cons ?_; rintro _ rfl; refine ⟨_, by simp only [Act.put, List.setIfInBounds_toArray, List.set_cons_succ, List.set_cons_zero]; first | done | rfl, ?_⟩
  refine FinS.cons ?_; rintro _ rfl; refine ⟨_, by simp only [Act.put, List.setIfInBounds_toArray, List.set_cons_succ, List.set_cons_zero]; first | done | rfl, ?_⟩
  refine FinS.cons ?_; rintro _ rfl; refine ⟨_, by simp only [Act.put, List.setIfInBounds_toArray, List.set_cons_succ, List.set_cons_zero]; first | done | rfl, ?_⟩
  refine FinS.cons fun v4 h4 => ⟨_, by simp only [Act.put, List.setIfInBounds_toArray, List.set_cons_succ, List.set_cons_zero]; first | done | rfl, ?_⟩
  refine FinS.cons fun v5 h5 => ⟨_, by simp only [Act.put, List.setIfInBounds_toArray, List.set_cons_succ, List.set_cons_zero]; first | done | rfl, ?_⟩
  show wpList _ _ _ _ _ _
  obtain ⟨r, hr, rfl, hrow⟩ := h5
  have hgR : Grow W wR := hwR.drew
  have hb := hgR.block' HbR.out
  have r0 := two_at0 hb
  have r1 := two_at1 hb
  have f0 : wR.frozen? ⟨w.heap.size + 1, 0, none⟩ = false := frozen_of_row wR _ 0 _ _ hb
  have f1 : wR.frozen? ⟨w.heap.size + 1, 1, none⟩ = false := frozen_of_row wR _ 1 _ _ hb
  have hb1 := two_set0 (z := .int .i64 s) hb
  have hb2 := two_set1 (z := .slice (some ⟨r, 0, none⟩) 4 4) hb1
  have z0 := two_at0 hb2
  have z1 := two_at1 hb2
  simp only [hn] at hrow ⊢
  have HD : Hid (DRow r cs ((wR.setCell ⟨w.heap.size + 1, 0, none⟩ (.int .i64 s)).setCell ⟨w.heap.size + 1, 1, none⟩ (.slice (some ⟨r, 0, none⟩) 4 4))) := (hrow.k3 (K3.set hb (by decide))).k3 (K3.set hb1 (by decide))
  have HG : Hid (Grow w ((wR.setCell ⟨w.heap.size + 1, 0, none⟩ (.int .i64 s)).setCell ⟨w.heap.size + 1, 1, none⟩ (.slice (some ⟨r, 0, none⟩) 4 4))) := ((hgW.trans hgR).set (Nat.le_succ _) _).set (Nat.le_succ _) _
  clear hb hb1 hb2 HbR hrow
  go_wp2
  refine bodyPost_ret (results_two Try.results71 _ _ (w.heap.size + 1) _ rfl Try.underlying62 rfl (by kernel_rfl) z0 z1) rfl ?_
  exact ⟨r, rfl, hr, HD.out, HG.out⟩

end Go.Proofs.Ytjggiameajndgab

/-
  An array of the call's own: its disks' rows apart, its bytes in blocks of bytes; its intents, none or one.
-/
namespace Go.Proofs.Ytjggiameajndgab
open Go.RowKit

/-- The values of rows in these blocks. -/
def rowVals (bs : List Nat) (ds : List (List (List Int))) : List Value := (bs.zip ds).map fun p => .slice (some ⟨p.1, 0, none⟩) p.2.length p.2.length

theorem rowVals_push {bs : List Nat} {ds : List (List (List Int))} (h : bs.length = ds.length) (b : Nat) (l : List (List Int)) : rowVals (bs ++ [b]) (ds ++ [l]) = rowVals bs ds ++ [.slice (some ⟨b, 0, none⟩) l.length l.length] := by
  simp [rowVals, List.zip_append h]

theorem rowVals_at {bs : List Nat} {ds : List (List (List Int))} (h : bs.length = ds.length) {i : Nat} (hi : i < ds.length) : (rowVals bs ds)[i]? = some (.slice (some ⟨bs[i]'(by omega), 0, none⟩) ds[i].length ds[i].length) := by
  rw [List.getElem?_eq_getElem (by simp [rowVals]; omega)]
  simp [rowVals]

/-- Disks of the call's own, in blocks of rows bs. -/
structure DRows (B : Nat) (bs : List Nat) (ds : List (List (List Int))) (w : World) (dv : Value) : Prop where
  len : bs.length = ds.length
  up : bs.Pairwise (· < ·)
  base : ∀ b ∈ bs, B ≤ b
  own : w.ownsRow B 22 1 dv ds.length (rowVals bs ds)
  rows : ∀ (i : Nat) b l, bs[i]? = some b → ds[i]? = some l → DRow b l w

theorem DRows.nil (B : Nat) (w : World) : DRows B [] [] w (.slice none 0 0) := ⟨rfl, List.Pairwise.nil, fun b hb => by simp at hb, World.ownsRow_nil _ _ _ _, fun i b l hb => by simp at hb⟩

theorem own_typed {w : World} {B n : Nat} {e : TypeId} {v : Value} {us : List Value} (h : w.ownsRow B e 1 v n us) {k : Nat} (hk : v.ownBlock = some k) : ∃ cur, w.heap[k]? = some (.cells cur e (0, 0)) := by
  rcases h.2 with ⟨rfl, -⟩ | ⟨g, cap, cur, rfl, -, hh, -⟩
  · cases hk
  · cases hk
    exact ⟨cur, hh⟩

theorem own_k3 {w w' : World} {B n : Nat} {v : Value} {us : List Value} (h : w.ownsRow B 22 1 v n us) (hk : K3 w w') : w'.ownsRow B 22 1 v n us := by
  refine ⟨h.1, ?_⟩
  rcases h.2 with h2 | ⟨g, cap, cur, hv, hb, hh, hr⟩
  · exact .inl h2
  · exact .inr ⟨g, cap, cur, hv, hb, hk g _ _ (.inr (.inr rfl)) hh, hr⟩

theorem DRows.k3 {B : Nat} {bs : List Nat} {ds : List (List (List Int))} {w w' : World} {dv : Value} (h : DRows B bs ds w dv) (hk : K3 w w') : DRows B bs ds w' dv :=
  ⟨h.len, h.up, h.base, own_k3 h.own hk, fun i b l hb hl => (h.rows i b l hb hl).k3 hk⟩

theorem DRows.grow {B : Nat} {bs : List Nat} {ds : List (List (List Int))} {w w' : World} {dv : Value} (h : DRows B bs ds w dv) (hg : Grow w w') : DRows B bs ds w' dv := h.k3 hg.k3

theorem DRows.lt {B : Nat} {bs : List Nat} {ds : List (List (List Int))} {w : World} {dv : Value} (h : DRows B bs ds w dv) : ∀ b ∈ bs, b < w.heap.size := by
  intro b hb
  obtain ⟨i, hi, rfl⟩ := List.mem_iff_getElem.1 hb
  exact (h.rows i bs[i] (ds[i]'(by have := h.len; omega)) (by simp [hi]) (by simp [show i < ds.length by have := h.len; omega])).lt

/-- The block g is of disks. -/
def Tyd (g : Option Nat) (w : World) : Prop := ∀ k, g = some k → ∃ cur, w.heap[k]? = some (.cells cur 22 (0, 0))

/-- A write into a block g of disks. -/
def ByT (g : Option Nat) (x y : World) : Prop := x.grownBy y g ∧ Tyd g x

theorem DRow.by {b : Nat} {l : List (List Int)} {w w' : World} {g : Option Nat} (h : DRow b l w) (hg : ByT g w w') : DRow b l w' := by
  have hin : ∀ (k : Nat) cs t, t ≠ 22 → w.heap[k]? = some (.cells cs t (0, 0)) → w'.heap[k]? = some (.cells cs t (0, 0)) := fun k cs t ht hk => by
    refine (hg.1.block k (heap_lt hk) (fun e => ?_)).trans hk
    obtain ⟨cur, hc⟩ := hg.2 k e.symm
    rw [hk] at hc
    injection hc with hc
    injection hc with _ hc _
    exact ht hc
  obtain ⟨us, h1, h2, h3⟩ := h
  exact ⟨us, h1, hin b _ _ (by decide) h2, fun i u x hu hx => (h3 i u x hu hx).step fun k cs hk => hin k cs _ (by decide) hk⟩

theorem DRows.push {B : Nat} {bs : List Nat} {ds : List (List (List Int))} {w w' : World} {dv v' : Value} {r : Nat} {l : List (List Int)} (h : DRows B bs ds w dv) (hr : DRow r l w) (hlt : ∀ b ∈ bs, b < r) (hB : B ≤ r)
    (hown : w'.ownsRow B 22 1 v' (ds.length + 1) (rowVals bs ds ++ [.slice (some ⟨r, 0, none⟩) l.length l.length])) (hg : w.grownBy w' dv.ownBlock) : DRows B (bs ++ [r]) (ds ++ [l]) w' v' := by
  have hby : ByT dv.ownBlock w w' := ⟨hg, fun k hk => own_typed h.own hk⟩
  refine ⟨by simp [h.len], List.pairwise_append.2 ⟨h.up, by simp, fun x hx y hy => by simp at hy; subst hy; exact hlt x hx⟩, fun b hb => ?_, ?_, fun i b m hb hm => ?_⟩
  · rcases List.mem_append.1 hb with hb | hb
    · exact h.base b hb
    · simp at hb; omega
  · rw [rowVals_push h.len]
    simpa using hown
  · by_cases hi : i < bs.length
    · rw [List.getElem?_append_left hi] at hb
      rw [List.getElem?_append_left (by have := h.len; omega)] at hm
      exact (h.rows i b m hb hm).by hby
    · rw [List.getElem?_append_right (by omega)] at hb
      rw [List.getElem?_append_right (by have := h.len; omega)] at hm
      obtain h0 : i - bs.length = 0 := by
        by_cases h0 : i - bs.length = 0
        · exact h0
        · rw [List.getElem?_eq_none (by simp; omega)] at hb; cases hb
      rw [h0] at hb
      rw [← h.len, h0] at hm
      simp at hb hm
      subst hb hm
      exact hr.by hby

theorem DRows.dks {B : Nat} {bs : List Nat} {ds : List (List (List Int))} {w : World} {dv : Value} (h : DRows B bs ds w dv) (h3 : ∀ d ∈ ds, d.length = 3) : Dks w dv ds := by
  refine Sl.of_own h.own rfl fun i u x hu hx => ?_
  have hi : i < ds.length := by
    by_cases hi : i < ds.length
    · exact hi
    · rw [List.getElem?_eq_none (by omega)] at hx; cases hx
  have hib : i < bs.length := by have := h.len; omega
  have hx' : x = ds[i] := by simpa [hi] using hx.symm
  have hu' : u = .slice (some ⟨bs[i], 0, none⟩) ds[i].length ds[i].length := by
    rw [rowVals_at h.len hi] at hu
    exact (Option.some.inj hu).symm
  subst hx' hu'
  exact (h.rows i bs[i] ds[i] (by simp [hib]) (by simp [hi])).bss (by rw [h3 _ (List.getElem_mem hi)]; omega)

/-- Intents of the call's own: none, or one whose row is none of bs. -/
def OIts (bs : List Nat) (w : World) (iv : Value) (is : List (Int × List (List Int))) : Prop :=
  (is = [] ∧ iv = .slice none 0 0) ∨ ∃ q r cap cur s cs, is = [(s, cs)] ∧ cs.length = 4 ∧ iv = .slice (some ⟨q, 0, none⟩) 1 cap ∧ 1 ≤ cap ∧ cap ≤ maxLen ∧ w.heap[q]? = some (.cells cur 62 (0, 0)) ∧ cur[0]? = some (.int .i64 s) ∧ cur[1]? = some (.slice (some ⟨r, 0, none⟩) 4 4) ∧ DRow r cs w ∧ r ∉ bs

/-- Blocks of intents are what they were, too. -/
def K4 (w w' : World) : Prop := K3 w w' ∧ ∀ (k : Nat) cs, w.heap[k]? = some (.cells cs 62 (0, 0)) → w'.heap[k]? = some (.cells cs 62 (0, 0))
theorem Grow.k4 {w w' : World} (h : Grow w w') : K4 w w' := ⟨h.k3, fun _ _ hk => h.block' hk⟩
theorem K4.set {w : World} {b k : Nat} {u : Value} {cs : Array Value} {mk : Nat × Nat} (hb : w.heap[b]? = some (.cells cs 39 mk)) : K4 w (w.setCell ⟨b, k, none⟩ u) := ⟨K3.set hb (by decide), fun j cs' hj => by
  refine set_other hj fun e => ?_
  subst e
  rw [hb] at hj
  injection hj with hj
  injection hj with _ hj _
  exact absurd hj (by decide)⟩

theorem OIts.k4 {bs : List Nat} {w w' : World} {iv : Value} {is : List (Int × List (List Int))} (h : OIts bs w iv is) (hk : K4 w w') : OIts bs w' iv is := by
  rcases h with h | ⟨q, r, cap, cur, s, cs, h1, h2, h3, h4, h5, h6, h7, h8, h9, h10⟩
  · exact .inl h
  · exact .inr ⟨q, r, cap, cur, s, cs, h1, h2, h3, h4, h5, hk.2 q cur h6, h7, h8, h9.k3 hk.1, h10⟩

theorem OIts.its {bs : List Nat} {w : World} {iv : Value} {is : List (Int × List (List Int))} (h : OIts bs w iv is) : Its w iv is := by
  rcases h with ⟨rfl, rfl⟩ | ⟨q, r, cap, cur, s, cs, rfl, h2, rfl, h4, h5, h6, h7, h8, h9, h10⟩
  · exact Its.nil w
  · refine ⟨some ⟨q, 0, none⟩, cap, rfl, h4, h5, (fun h => nomatch h), fun _ => ⟨q, 0, rfl, fun i p hi => ?_⟩⟩
    match i, hi with
    | 0, hi =>
      simp at hi
      subst hi
      have := h9.bss (by omega)
      rw [h2] at this
      exact ⟨row_at h6 0 h7, _, row_at h6 1 h8, this⟩

/-- An array of the call's own. -/
structure OwnA (B : Nat) (bs : List Nat) (w : World) (dv iv : Value) (a : ArrP) : Prop where
  whole : Whole a
  disks : DRows B bs a.ds w dv
  its : OIts bs w iv a.is

theorem OwnA.k4 {B : Nat} {bs : List Nat} {w w' : World} {dv iv : Value} {a : ArrP} (h : OwnA B bs w dv iv a) (hk : K4 w w') : OwnA B bs w' dv iv a := ⟨h.whole, h.disks.k3 hk.1, h.its.k4 hk⟩
theorem OwnA.arr {B : Nat} {bs : List Nat} {w : World} {dv iv : Value} {a : ArrP} (h : OwnA B bs w dv iv a) : ArrV w (.agg #[dv, iv]) a := ⟨dv, iv, rfl, h.disks.dks h.whole.2, h.its.its⟩

end Go.Proofs.Ytjggiameajndgab
