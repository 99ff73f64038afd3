import Derived.Test.YtjggiameajndgacJoin14
/-
  What the reference's Plan returns: a deed's intent. Nothing old turns.
-/
namespace Go.Proofs.Ytjggiameajndgac
open Go.RowKit

theorem Try.sizeI : (Try.prog.info? 80).map (·.size) = some 2 := by kernel_rfl

theorem Try.made4S (w : World) : (Instr.makeSlice 41 (.int .i64 4) (.int .i64 4)).run Try.prog w = .ok (.slice (some ⟨w.heap.size, 0, none⟩) 4 4) (w.alloc (.cells #[.slice none 0 0, .slice none 0 0, .slice none 0 0, .slice none 0 0] 52)) :=
  (run_make_row' (P := Try.prog) 41 52 (.slice none 0 0) 24 Try.underlying41 Try.infoS rfl .i64 .i64 4 (by decide) (by decide) w).trans (by rw [show madeCells #[.slice none 0 0] 4 = #[Value.slice none 0 0, .slice none 0 0, .slice none 0 0, .slice none 0 0] from Array.toList_inj.1 (toList_madeCells_one _ _)])

theorem RowingF.made4 (F : Nat → Prop) (w : World) : RowingF F Bs w.heap.size 52 (w.alloc (.cells #[.slice none 0 0, .slice none 0 0, .slice none 0 0, .slice none 0 0] 52)) (.slice (some ⟨w.heap.size, 0, none⟩) 4 4) (List.replicate 4 []) := by
  refine ⟨[.slice none 0 0, .slice none 0 0, .slice none 0 0, .slice none 0 0], ⟨rfl, .inr ⟨w.heap.size, 4, #[.slice none 0 0, .slice none 0 0, .slice none 0 0, .slice none 0 0], rfl, Nat.le_refl _, heap_alloc_new w _, Nat.le_refl _, by unfold maxLen; omega, rfl, rfl⟩⟩, rfl, fun i u x hu hx w' _ => ?_⟩
  have hu' : u = .slice none 0 0 := by
    have := List.mem_of_getElem? hu
    simpa using this
  have hx' : x = [] := by
    have := List.mem_of_getElem? hx
    simpa using this
  subst hu' hx'
  exact Bs.nil _

set_option maxRecDepth 20000 in
set_option maxHeartbeats 3200000 in
theorem refPlan_no (v dv : Value) (a : ArrP) (x : DeedP) (w : World) (h : ArrV w v a) (ha : Whole a) (hd : DeedV w dv x) (he : planE a x ≠ 0) :
    Calls Try.prog 61 #[v, dv] w fun e w' => ∃ r, e = .returned (.tuple #[r, .int .i64 (planE a x)]) ∧ IntentV w' r (planI a x) ∧ Grow w w' := by
  have HP : Hid (planI a x = (0, [])) := if_pos he
  have harr := h
  have hdeed := hd
  obtain ⟨a1, n1, c1, a2, n2, c2, rfl⟩ := h.form
  obtain ⟨sv, rfl, hbd⟩ := hd
  obtain ⟨d1, d2, d3, rfl⟩ := hbd.form
  clear h hbd
  obtain ⟨W, hW⟩ : ∃ W, W = ((w.alloc (.cells #[.slice a1 n1 c1, .slice a2 n2 c2] 26)).alloc (.cells #[.int .i64 x.k, .int .i64 x.n, .int .i64 x.m, .slice d1 d2 d3] 54)).alloc (.cells #[.int .i64 0, .slice none 0 0] 80) := ⟨_, rfl⟩
  have hgW : Grow w W := by rw [hW]; exact ((Grow.alloc _ _).trans (Grow.alloc _ _)).trans (Grow.alloc _ _)
  obtain ⟨H1, H2, H3⟩ := heap3 w (.cells #[.slice a1 n1 c1, .slice a2 n2 c2] 26) (.cells #[.int .i64 x.k, .int .i64 x.n, .int .i64 x.m, .slice d1 d2 d3] 54) (.cells #[.int .i64 0, .slice none 0 0] 80)
  rw [← hW] at H1 H2 H3
  have k0 : W.cell? ⟨w.heap.size, 0, none⟩ = some (.slice a1 n1 c1) := row_at H1 0 rfl
  have k1 : W.cell? ⟨w.heap.size, 1, none⟩ = some (.slice a2 n2 c2) := row_at H1 1 rfl
  have d0' : W.cell? ⟨w.heap.size + 1, 0, none⟩ = some (.int .i64 x.k) := row_at H2 0 rfl
  have d1' : W.cell? ⟨w.heap.size + 1, 1, none⟩ = some (.int .i64 x.n) := row_at H2 1 rfl
  have d2' : W.cell? ⟨w.heap.size + 1, 2, none⟩ = some (.int .i64 x.m) := row_at H2 2 rfl
  have d3' : W.cell? ⟨w.heap.size + 1, 3, none⟩ = some (.slice d1 d2 d3) := row_at H2 3 rfl
  have r0 : W.cell? ⟨w.heap.size + 1 + 1, 0, none⟩ = some (.int .i64 0) := row_at H3 0 rfl
  have r1 : W.cell? ⟨w.heap.size + 1 + 1, 1, none⟩ = some (.slice none 0 0) := row_at H3 1 rfl
  have f0 : W.frozen? ⟨w.heap.size + 1 + 1, 0, none⟩ = false := frozen_of_row W _ 0 _ _ H3
  have f1 : W.frozen? ⟨w.heap.size + 1 + 1, 1, none⟩ = false := frozen_of_row W _ 1 _ _ H3
  clear H1 H2 H3
  have hwr := refWrong_any _ x W (hdeed.grow hgW)
  have hWh := fun w1 => refWhere_any x.n w1
  have hlW : w.heap.size + 1 + 1 < W.heap.size := cell_lt r0
  by_cases hw0 : wrongE x = 0
  · obtain ⟨-, hn0, hn8, -, -⟩ := right_deed hw0
    obtain ⟨hD, hS, hE, hd4, hs3⟩ := where_bd (n := x.n) (by omega)
    have HE : Hid (planE a x = dataE (cellsL a (sOf x.n)) (sOf x.n)) := if_neg (by simp [hw0])
    rw [HE.out] at he
    rw [hD, hS, hE] at hWh
    rw [hw0] at hwr
    clear hD hS hE hw0
    generalize dOf x.n = dn at *
    generalize sOf x.n = s at *
    go_enter Try.func61, Try.ntmps61
    go_wp2_with fail
    rw [← hW]
    refine hwr.mono ?_
    rintro e w1 ⟨rfl, hg1⟩
    have e1 := hg1.at d1'
    go_wp2_with fail
    refine (hWh _).mono ?_
    rintro e w2 ⟨rfl, hg2⟩
    have hg02 := hg1.trans hg2
    have q0 := hg02.at k0
    have q1 := hg02.at k1
    clear hW
    go_wp2_with fail
    refine (refCells_any _ a s _ (harr.grow (hgW.trans hg02)) ha hs3).mono ?_
    rintro e w3 ⟨rc, rfl, hrc, hg3⟩
    go_wp2_with fail
    refine (refData_any _ _ s _ hrc (by rw [cellsL_length, ha.1]; omega)).mono ?_
    rintro e w4 ⟨rd, rfl, hrd, hg4⟩
    have hg04 := (hg02.trans hg3).trans hg4
    have t0 := hg04.at r0
    have t1 := hg04.at r1
    have z0 := (hg04.frozen (a := ⟨w.heap.size + 1 + 1, 0, none⟩) hlW).trans f0
    have z1 := (hg04.frozen (a := ⟨w.heap.size + 1 + 1, 1, none⟩) hlW).trans f1
    clear k0 k1 d0' d1' d2' d3' r0 r1 f0 f1 hwr hWh q0 q1 e1 hg1 hg2 hg3 hg4
    generalize dataE (cellsL a s) s = E at *
    have he' : (E != 0) = true := by simpa using he
    have hgF := hgW.trans hg04
    go_wp2
    refine bodyPost_ret (results_two1 Try.results61 _ _ (w.heap.size + 1 + 1) _ rfl Try.underlying80 rfl Try.sizeI (x := .int .i64 0) (y := .slice none 0 0) (by rw [cell_set_ne (by simp)]; exact World.cell?_setCell_same _ _ _ t0) (World.cell?_setCell_same _ _ _ (by rw [cell_set_ne (by simp)]; exact t1))) rfl ?_
    exact ⟨_, ret_bs2 HE.out.symm, by rw [HP.out]; exact ⟨_, rfl, Sl.nil _ _⟩, (hgF.set (by omega) _).set (by omega) _⟩
  · have HE : Hid (planE a x = wrongE x) := if_pos hw0
    clear he
    generalize wrongE x = E at *
    have he' : (E != 0) = true := by simpa using hw0
    go_enter Try.func61, Try.ntmps61
    go_wp2_with fail
    rw [← hW]
    refine hwr.mono ?_
    rintro e w1 ⟨rfl, hg1⟩
    have t0 := hg1.at r0
    have t1 := hg1.at r1
    have z0 := (hg1.frozen (a := ⟨w.heap.size + 1 + 1, 0, none⟩) hlW).trans f0
    have z1 := (hg1.frozen (a := ⟨w.heap.size + 1 + 1, 1, none⟩) hlW).trans f1
    clear k0 k1 d0' d1' d2' d3' r0 r1 f0 f1 hwr hWh hW
    have hgF := hgW.trans hg1
    go_wp2
    refine bodyPost_ret (results_two1 Try.results61 _ _ (w.heap.size + 1 + 1) _ rfl Try.underlying80 rfl Try.sizeI (x := .int .i64 0) (y := .slice none 0 0) (by rw [cell_set_ne (by simp)]; exact World.cell?_setCell_same _ _ _ t0) (World.cell?_setCell_same _ _ _ (by rw [cell_set_ne (by simp)]; exact t1))) rfl ?_
    exact ⟨_, ret_bs2 HE.out.symm, by rw [HP.out]; exact ⟨_, rfl, Sl.nil _ _⟩, (hgF.set (by omega) _).set (by omega) _⟩

set_option maxRecDepth 20000 in
set_option maxHeartbeats 6400000 in
theorem refPlan_yes (v dv : Value) (a : ArrP) (x : DeedP) (w : World) (h : ArrV w v a) (ha : Whole a) (hd : DeedV w dv x) (he : planE a x = 0) :
    Calls Try.prog 61 #[v, dv] w fun e w' => ∃ r, e = .returned (.tuple #[r, .int .i64 (planE a x)]) ∧ IntentV w' r (planI a x) ∧ Grow w w' := by
  obtain ⟨i0, hi, hz0, hz1, hz2⟩ := info_parts Try.infoS
  have hw0 : wrongE x = 0 := by
    unfold planE at he
    split at he
    · exact he
    · rename_i h; exact Decidable.not_not.1 h
  have hde : dataE (cellsL a (sOf x.n)) (sOf x.n) = 0 := by
    unfold planE at he
    rwa [if_neg (by simp [hw0])] at he
  have HP : Hid (planI a x = ((sOf x.n : Int), makeL (planOut (planBl a x) (sOf x.n)) (sOf x.n))) := if_neg (by simp [he])
  have HB : Hid (planBl a x = doL (spreadTo (dataL (cellsL a (sOf x.n)) (sOf x.n)) (sOf x.n) 9) x) := rfl
  have HE : Hid (planE a x = 0) := he
  have harr := h
  have hdeed := hd
  obtain ⟨a1, n1, c1, a2, n2, c2, rfl⟩ := h.form
  obtain ⟨sv, rfl, hbd⟩ := hd
  obtain ⟨d1, d2, d3, rfl⟩ := hbd.form
  clear h hbd he
  obtain ⟨W, hW⟩ : ∃ W, W = ((w.alloc (.cells #[.slice a1 n1 c1, .slice a2 n2 c2] 26)).alloc (.cells #[.int .i64 x.k, .int .i64 x.n, .int .i64 x.m, .slice d1 d2 d3] 54)).alloc (.cells #[.int .i64 0, .slice none 0 0] 80) := ⟨_, rfl⟩
  have hgW : Grow w W := by rw [hW]; exact ((Grow.alloc _ _).trans (Grow.alloc _ _)).trans (Grow.alloc _ _)
  obtain ⟨H1, H2, H3⟩ := heap3 w (.cells #[.slice a1 n1 c1, .slice a2 n2 c2] 26) (.cells #[.int .i64 x.k, .int .i64 x.n, .int .i64 x.m, .slice d1 d2 d3] 54) (.cells #[.int .i64 0, .slice none 0 0] 80)
  rw [← hW] at H1 H2 H3
  have k0 : W.cell? ⟨w.heap.size, 0, none⟩ = some (.slice a1 n1 c1) := row_at H1 0 rfl
  have k1 : W.cell? ⟨w.heap.size, 1, none⟩ = some (.slice a2 n2 c2) := row_at H1 1 rfl
  have d0' : W.cell? ⟨w.heap.size + 1, 0, none⟩ = some (.int .i64 x.k) := row_at H2 0 rfl
  have d1' : W.cell? ⟨w.heap.size + 1, 1, none⟩ = some (.int .i64 x.n) := row_at H2 1 rfl
  have d2' : W.cell? ⟨w.heap.size + 1, 2, none⟩ = some (.int .i64 x.m) := row_at H2 2 rfl
  have d3' : W.cell? ⟨w.heap.size + 1, 3, none⟩ = some (.slice d1 d2 d3) := row_at H2 3 rfl
  have hRW := H3
  clear H1 H2 H3
  have hwr := refWrong_any _ x W (hdeed.grow hgW)
  have hWh := fun w1 => refWhere_any x.n w1
  obtain ⟨-, hn0, hn8, -, -⟩ := right_deed hw0
  obtain ⟨hD, hS, hEw, hd4, hs3⟩ := where_bd (n := x.n) (by omega)
  rw [hD, hS, hEw] at hWh
  have Hw0 : Hid (wrongE x = 0) := hw0
  rw [hw0] at hwr
  clear hD hS hEw hw0
  generalize dOf x.n = dn at *
  generalize sOf x.n = s at *
  have hdl := dataL_length hde
  rw [cellsL_length, ha.1] at hdl
  have hdb := dataL_blocks hde
  go_enter Try.func61, Try.ntmps61
  go_wp2_with fail
  rw [← hW]
  refine hwr.mono ?_
  rintro e w1 ⟨rfl, hg1⟩
  have e1 := hg1.at d1'
  go_wp2_with fail
  refine (hWh _).mono ?_
  rintro e w2 ⟨rfl, hg2⟩
  have hg02 := hg1.trans hg2
  have q0 := hg02.at k0
  have q1 := hg02.at k1
  clear hW
  go_wp2_with fail
  refine (refCells_any _ a s _ (harr.grow (hgW.trans hg02)) ha hs3).mono ?_
  rintro e w3 ⟨rc, rfl, hrc, hg3⟩
  go_wp2_with fail
  refine (refData_any _ _ s _ hrc (by rw [cellsL_length, ha.1]; omega)).mono ?_
  rintro e w4 ⟨rd, rfl, hrd, hg4⟩
  rw [hde]
  have hg04 := (hg02.trans hg3).trans hg4
  clear k0 k1 hwr hWh q0 q1 e1 hg1 hg2 hg3 hg4 hrc hde
  generalize dataL (cellsL a s) s = ds at *
  obtain ⟨rda, rdc, rfl, hrd1, hrd2⟩ := hrd.form'
  rw [hdl] at hrd1 hrd ⊢
  obtain ⟨db, doff, du, rfl, -, -⟩ := hrd.elem (k := 0) (by omega) []
  go_wp2_with fail
  refine (refNew_any _).mono ?_
  rintro e w5 ⟨r, rfl, hrow, hg5⟩
  obtain ⟨g, cap, hr, hgb, hgl⟩ := hrow.form (by simp)
  rw [List.length_replicate] at hr
  subst hr
  rw [← spreadTo_zero ds s] at hrow
  have hcap := hrow.cap
  go_wp2
  go_loopw [52] (fun i wr => ∃ k : Nat, k ≤ 9 ∧ i = .int .i64 k ∧ Hid (Rowing Bs w4.heap.size 52 wr (.slice (some ⟨g, 0, none⟩) 9 cap) (spreadTo ds s k)) ∧ Grow w4 wr) (fun i _ => 9 - (intOf i).toNat)
  case atStart => exact ⟨0, by omega, rfl, hrow, hg5⟩
  case round =>
    obtain ⟨k, hk, rfl, HR, hgr⟩ := hrel
    by_cases hlt : k < 9
    · obtain ⟨hD, hS, hEw, hdk, hsk⟩ := where_bd (n := (k : Int)) (by omega)
      have hWk := fun w1 => refWhere_any (k : Int) w1
      rw [hD, hS, hEw] at hWk
      clear hD hS hEw
      obtain ⟨b', off', u', hb', hu', hr'⟩ := hrd.elem (k := dOf (k : Int)) (by omega) []
      injection hb' with hb'
      cases hb'
      obtain ⟨x1, x2, x3, rfl⟩ := hr'.form
      have Hin : Hid (sOf (k : Int) = s → (spreadTo ds s k).set k (ds.getD (dOf (k : Int)) []) = spreadTo ds s (k + 1)) := fun h => spreadTo_in h
      have Hout : Hid (sOf (k : Int) ≠ s → spreadTo ds s k = spreadTo ds s (k + 1)) := fun h => spreadTo_out h
      have Hlen : Hid ((spreadTo ds s k).length = 9) := spreadTo_length ds s k
      generalize dOf (k : Int) = dk at *
      generalize sOf (k : Int) = sk at *
      go_wp2_with fail
      refine (hWk _).mono ?_
      rintro e w6 ⟨rfl, hg6⟩
      have hgr6 := hgr.trans hg6
      have hu6 := hgr6.at hu'
      have HR6 : Hid (Rowing Bs w4.heap.size 52 w6 (.slice (some ⟨g, 0, none⟩) 9 cap) (spreadTo ds s k)) := HR.out.grow hg6
      obtain ⟨⟨uo, hcu⟩, hfu⟩ := HR6.out.at (k := k) (by rw [Hlen.out]; exact hlt)
      by_cases hsks : sk = s
      · have HN := HR6.out.stored k (u := .slice x1 x2 x3) (x := ds.getD dk []) (Off.old Bs.stays hr' hgr6 (fun j hj => by cases hj; exact hgb))
        rw [Hin.out hsks] at HN
        have HN' : Hid (Rowing Bs w4.heap.size 52 _ (.slice (some ⟨g, 0, none⟩) 9 cap) (spreadTo ds s (k + 1))) := HN
        clear HN HR HR6 Hin Hout Hlen hr'
        subst hsks
        go_wp2
        go_roundw
        case rel => first | exact ⟨k + 1, by omega, by go_num, HN', hgr6.set hgb _⟩ | ((repeat apply Exists.intro); exact ⟨⟨k + 1, by omega, by go_num, HN', hgr6.set hgb _⟩, rfl⟩)
        case measure => simp [intOf]; omega
      · have HN' : Hid (Rowing Bs w4.heap.size 52 w6 (.slice (some ⟨g, 0, none⟩) 9 cap) (spreadTo ds s (k + 1))) := by rw [Hid, ← Hout.out hsks]; exact HR6.out
        have hsk' : ¬ (sk : Int) = s := by omega
        clear HR HR6 Hin Hout Hlen hr' hsks
        go_wp2
        go_roundw
        case rel => first | exact ⟨k + 1, by omega, by go_num, HN', hgr6⟩ | ((repeat apply Exists.intro); exact ⟨⟨k + 1, by omega, by go_num, HN', hgr6⟩, rfl⟩)
        case measure => simp [intOf]; omega
    · have HK : Hid (k = 9) := by rw [Hid]; omega
      have HS9 : Hid (Bss wr (.slice (some ⟨g, 0, none⟩) 9 cap) (spreadTo ds s 9)) := by
        have := HR.out.done
        rw [HK.out] at this
        exact this
      have hg0r := hg04.trans hgr
      have e0 := hg0r.at d0'
      have e1 := hg0r.at d1'
      have e2 := hg0r.at d2'
      have e3 := hg0r.at d3'
      have hR6 := hg0r.block' hRW
      have hsb := spread_blocks hdb hdl s 9
      have Hb4 : Hid (∀ b ∈ planBl a x, b.length = 4) := by rw [Hid, HB.out]; exact doL_blocks hsb (spreadTo_length _ _ _) Hw0.out
      have Hb9 : Hid ((planBl a x).length = 9) := by rw [Hid, HB.out, doL_length, spreadTo_length]
      have hgwr := hgW.trans hg0r
      clear HR hrow hrd hRW d0' d1' d2' d3' hg5 hgl hcap
      go_wp2_with fail
      refine (refDo_any _ _ (spreadTo ds s 9) x _ HS9.out (hdeed.grow hgwr) (spreadTo_length _ _ _) Hw0.out).mono ?_
      rintro e w6 ⟨rb, rfl, hrb, hg6⟩
      rw [← HB.out] at hrb
      have hR7 := hg6.block' hR6
      have hgw6 := hgwr.trans hg6
      clear HB HS9 e0 e1 e2 e3 hR6 hsb hdb hdl
      generalize planBl a x = bl at *
      obtain ⟨rba, rbc, rfl, hrb1, hrb2⟩ := hrb.form'
      rw [Hb9.out] at hrb1 hrb ⊢
      obtain ⟨bb, boff, bu, rfl, -, -⟩ := hrb.elem (k := 0) (by rw [Hb9.out]; omega) []
      have hmk := Try.made4S w6
      have hwl : w.heap.size + 1 + 1 < w6.heap.size := by
        have := two_at0 hR7
        exact cell_lt this
      have hstart : Hid (RowingF (fun j => w6.heap.size < j) Bs w6.heap.size 52 (w6.alloc (.cells #[.slice none 0 0, .slice none 0 0, .slice none 0 0, .slice none 0 0] 52)) (.slice (some ⟨w6.heap.size, 0, none⟩) 4 4) (outTo bl s 0)) := RowingF.made4 _ w6
      have hgd : Grow w6 (w6.alloc (.cells #[.slice none 0 0, .slice none 0 0, .slice none 0 0, .slice none 0 0] 52)) := Grow.alloc _ _
      have hsz7 : w6.heap.size + 1 ≤ (w6.alloc (.cells #[.slice none 0 0, .slice none 0 0, .slice none 0 0, .slice none 0 0] 52)).heap.size := by simp
      go_wp2
      go_loopw [18, 78] (fun l i wr => ∃ k : Nat, k ≤ 9 ∧ i = .int .i64 k ∧ Hid (RowingF (fun j => j = w6.heap.size) Bs (w6.heap.size + 1) 52 wr l (rowTo bl s k)) ∧ Hid (RowingF (fun j => w6.heap.size < j) Bs w6.heap.size 52 wr (.slice (some ⟨w6.heap.size, 0, none⟩) 4 4) (outTo bl s k)) ∧ Grow w6 wr ∧ w6.heap.size + 1 ≤ wr.heap.size) (fun _ i _ => 9 - (intOf i).toNat)
      case atStart => exact ⟨0, by omega, rfl, RowingF.nil _ _ _ _ _, hstart, hgd, hsz7⟩
      case round =>
        obtain ⟨q, hq, rfl, HL, HO, hgr7, hsz⟩ := hrel
        clear hstart hmk hgd hsz7
        by_cases hlt9 : q < 9
        · obtain ⟨hD, hS, hEw, hdk, hsk⟩ := where_bd (n := (q : Int)) (by omega)
          have hWk := fun w1 => refWhere_any (q : Int) w1
          rw [hD, hS, hEw] at hWk
          clear hD hS hEw
          obtain ⟨b', off', u', hb', hu', hr'⟩ := hrb.elem (k := q) (by rw [Hb9.out]; omega) []
          injection hb' with hb'
          cases hb'
          obtain ⟨x1, x2, x3, rfl⟩ := hr'.form
          have Hin : Hid (sOf (q : Int) = s → (outTo bl s q).set (dOf (q : Int)) (bl.getD q []) = outTo bl s (q + 1) ∧ rowTo bl s q ++ [bl.getD q []] = rowTo bl s (q + 1)) := fun h => ⟨outTo_in h, rowTo_in h⟩
          have Hout : Hid (sOf (q : Int) ≠ s → outTo bl s q = outTo bl s (q + 1) ∧ rowTo bl s q = rowTo bl s (q + 1)) := fun h => ⟨outTo_out h, rowTo_out h⟩
          have Hlen : Hid ((outTo bl s q).length = 4) := outTo_length bl s q
          have hrl := rowTo_length bl s q
          generalize dOf (q : Int) = dk at *
          generalize sOf (q : Int) = sk at *
          have hu7 := hgr7.at hu'
          have hdk' : (dk : Int) < 4 := by omega
          go_wp2_with fail
          refine (hWk _).mono ?_
          rintro e w7 ⟨rfl, hg7⟩
          have hgr77 := hgr7.trans hg7
          have hsz77 : w6.heap.size + 1 ≤ w7.heap.size := Nat.le_trans hsz hg7.size
          have HL7 : Hid (RowingF (fun j => j = w6.heap.size) Bs (w6.heap.size + 1) 52 w7 u18 (rowTo bl s q)) := HL.out.grow hg7
          have HO7 : Hid (RowingF (fun j => w6.heap.size < j) Bs w6.heap.size 52 w7 (.slice (some ⟨w6.heap.size, 0, none⟩) 4 4) (outTo bl s q)) := HO.out.grow hg7
          clear HL HO
          by_cases hsks : sk = s
          · obtain ⟨⟨uo, hcu⟩, hfu⟩ := HO7.out.plain.at (k := dk) (by rw [Hlen.out]; exact hdk)
            have hbase := fun j hj => (HL7.out.base j hj).1
            have hoff := fun G hG => OffG.old (G := G) Bs.stays hr' hgr77 hG
            have HO8 : Hid (RowingF (fun j => w6.heap.size < j) Bs w6.heap.size 52 (w7.setCell ⟨w6.heap.size, dk, none⟩ (.slice x1 x2 x3)) (.slice (some ⟨w6.heap.size, 0, none⟩) 4 4) (outTo bl s (q + 1))) := by
              have := HO7.out.stored dk (hoff (fun j => w6.heap.size < j ∨ some w6.heap.size = some j) (fun j hj => by
                rcases hj with hj | hj
                · omega
                · injection hj with hj; omega))
              rw [(Hin.out hsks).1] at this
              exact this
            have hrowL := HL7.out.set (A := w6.heap.size) rfl (fun e => by have := hbase _ e; omega) dk (.slice x1 x2 x3)
            have hoffL : OffG Bs (fun j => j = w6.heap.size ∨ u18.ownBlock = some j) (w7.setCell ⟨w6.heap.size, dk, none⟩ (.slice x1 x2 x3)) (.slice x1 x2 x3) (bl.getD q []) := (hoff _ (fun j hj => by
                rcases hj with hj | hj
                · omega
                · have := hbase j hj; omega)).step (grownIn_set w7 w6.heap.size dk _ (.inl rfl))
            have hG8 : Grow w6 (w7.setCell ⟨w6.heap.size, dk, none⟩ (.slice x1 x2 x3)) := hgr77.set (by show w6.heap.size ≤ w6.heap.size; omega) _
            have hT := (Hin.out hsks).2
            have hsz8 : w6.heap.size + 1 ≤ (w7.setCell ⟨w6.heap.size, dk, none⟩ (.slice x1 x2 x3)).heap.size := by simpa using hsz77
            clear HL7 HO7 Hin Hout Hlen hoff hr'
            subst hsks
            go_wp2_with (first
              | (at_builtin; refine wpList_pushF rfl (.tmp 96) (.tmp 98) 41 rfl i0 (.slice none 0 0) 24 Try.underlying41 hi hz0 hz1 hz2 rfl w6 hG8 (by omega) hsz8 rfl hrowL rfl hoffL w7.heap.size (by simp) rfl (by omega) (by omega) ?_; rintro v1 w8 - hrow8 hg8 hgi8))
            rw [hT] at hrow8
            have HO9 := HO8.out.kept (hgi8.mono (fun j hj => by have := hbase j hj; show w6.heap.size < j; omega)) (fun j hj => by cases hj; exact Nat.lt_irrefl _)
            have HO9' : Hid (RowingF (fun j => w6.heap.size < j) Bs w6.heap.size 52 w8 (.slice (some ⟨w6.heap.size, 0, none⟩) 4 4) _) := HO9
            have hsz9 : w6.heap.size + 1 ≤ w8.heap.size := Nat.le_trans hsz8 hgi8.size
            clear HO9 HO8
            go_wp2
            go_roundw
            case rel => first | exact ⟨q + 1, by omega, by go_num, hrow8, HO9', hg8, hsz9⟩ | ((repeat apply Exists.intro); exact ⟨⟨q + 1, by omega, by go_num, hrow8, HO9', hg8, hsz9⟩, rfl⟩)
            case measure => simp [intOf]; omega
          · have hsk' : ¬ (sk : Int) = s := by omega
            have HL8 : Hid (RowingF (fun j => j = w6.heap.size) Bs (w6.heap.size + 1) 52 w7 u18 (rowTo bl s (q + 1))) := by rw [Hid, ← (Hout.out hsks).2]; exact HL7.out
            have HO8 : Hid (RowingF (fun j => w6.heap.size < j) Bs w6.heap.size 52 w7 (.slice (some ⟨w6.heap.size, 0, none⟩) 4 4) (outTo bl s (q + 1))) := by rw [Hid, ← (Hout.out hsks).1]; exact HO7.out
            clear HL7 HO7 Hin Hout Hlen hr' hsks
            go_wp2
            go_roundw
            case rel => first | exact ⟨q + 1, by omega, by go_num, HL8, HO8, hgr77, hsz77⟩ | ((repeat apply Exists.intro); exact ⟨⟨q + 1, by omega, by go_num, HL8, HO8, hgr77, hsz77⟩, rfl⟩)
            case measure => simp [intOf]; omega
        · have HQ : Hid (q = 9) := by rw [Hid]; omega
          have HLd : Hid (Bss wr u18 (rowTo bl s 9)) := by have := HL.out.done; rw [HQ.out] at this; exact this
          have HOp : Hid (Rowing Bs w6.heap.size 52 wr (.slice (some ⟨w6.heap.size, 0, none⟩) 4 4) (outTo bl s 9)) := by have := HO.out.plain; rw [HQ.out] at this; exact this
          have HX4 : Hid (∀ b ∈ rowTo bl s 9, b.length = 4) := rowTo_blocks Hb4.out Hb9.out s 9 (by omega)
          have hoct := xorAll_octets HLd.out.octets
          have hR8 := hgr7.block' hR7
          have hSp : ∀ w1, Calls Try.prog 87 #[.int .i64 (s : Int)] w1 fun e w' => e = .returned (.int .i64 ((3 - s : Nat) : Int)) ∧ Grow w1 w' := fun w1 => (refSpare_any (s : Int) w1 (by omega) (by omega)).mono fun e w' ⟨he, hg⟩ => ⟨he.trans (ret_int (by omega)), hg⟩
          have Hpo : Hid (planOut bl s = (outTo bl s 9).set (3 - s) (xorAll (rowTo bl s 9))) := rfl
          have Hpb : Hid (∀ b ∈ planOut bl s, b.length = 4) := planOut_blocks Hb4.out Hb9.out hs3
          have Hpl : Hid ((planOut bl s).length = 4) := planOut_length bl s
          have Hol : Hid ((outTo bl s 9).length = 4) := outTo_length bl s 9
          have htl : 3 - s < 4 := by omega
          clear HL HO hrb hR7
          generalize 3 - s = t at *
          have htl' : (t : Int) < 4 := by omega
          go_wp2_with fail
          refine (hSp _).mono ?_
          rintro e w7 ⟨rfl, hg7⟩
          go_wp2_with fail
          refine (refXor_new _ _ _ (HLd.out.grow hg7) HX4.out).mono ?_
          rintro e w8 ⟨rfl, HX, hg8⟩
          have hg78 := hg7.trans hg8
          have HO8 : Hid (Rowing Bs w6.heap.size 52 w8 (.slice (some ⟨w6.heap.size, 0, none⟩) 4 4) (outTo bl s 9)) := HOp.out.grow hg78
          obtain ⟨⟨uo, hcu⟩, hfu⟩ := HO8.out.at (k := t) (by rw [Hol.out]; exact htl)
          have hne : w6.heap.size ≠ w7.heap.size := by have := hg7.size; omega
          have hst := HO8.out.stored t (Off.row (g := some w6.heap.size) HX.out (xorAll_length _) (by unfold maxLen; omega) hoct (fun e => by injection e with e; exact hne e))
          rw [← Hpo.out] at hst
          have HS : Hid (Bss (w8.setCell ⟨w6.heap.size, t, none⟩ (.slice (some ⟨w7.heap.size, 0, none⟩) 4 4)) (.slice (some ⟨w6.heap.size, 0, none⟩) 4 4) (planOut bl s)) := hst.done
          have hgl8 : Grow w6 (w8.setCell ⟨w6.heap.size, t, none⟩ (.slice (some ⟨w7.heap.size, 0, none⟩) 4 4)) := (hgr7.trans hg78).set (by show w6.heap.size ≤ w6.heap.size; omega) _
          have hR9 : (w8.setCell ⟨w6.heap.size, t, none⟩ (.slice (some ⟨w7.heap.size, 0, none⟩) 4 4)).heap[w.heap.size + 1 + 1]? = _ := (Below.heap_setCell w8 ⟨w6.heap.size, t, none⟩ _ _ (by show w.heap.size + 1 + 1 ≠ w6.heap.size; omega)).trans (hg78.block' hR8)
          clear HOp HO8 hst HX HLd HX4 hR8 hoct Hpo Hol
          go_wp2_with fail
          refine (refMake_any _ _ (s : Int) _ HS.out (by rw [Hpl.out]; omega) (by omega) Hpb.out).mono ?_
          rintro e w9 ⟨rm, rfl, hrm, hg9⟩
          have hml : (makeL (planOut bl s) (s : Int)).length = 4 := by simp [makeL, Hpl.out]
          obtain ⟨ga, ca, hrf, hga, hgal⟩ := hrm.form (by omega)
          rw [hml] at hrf
          subst hrf
          have hR10 := hg9.block' hR9
          have hbx : BssX (some (w.heap.size + 1 + 1)) w9 (.slice (some ⟨ga, 0, none⟩) 4 ca) (makeL (planOut bl s) (s : Int)) := Itn.bss ⟨_, _, _, _, _, hR10⟩ hrm.done (by omega)
          have t0 := two_at0 hR10
          have t1 := two_at1 hR10
          have z0 : w9.frozen? ⟨w.heap.size + 1 + 1, 0, none⟩ = false := frozen_of_row w9 _ 0 _ _ hR10
          have z1 : w9.frozen? ⟨w.heap.size + 1 + 1, 1, none⟩ = false := frozen_of_row w9 _ 1 _ _ hR10
          have hgF := (hgw6.trans hgl8).trans hg9
          have Hbx : Hid (BssX (some (w.heap.size + 1 + 1)) w9 (.slice (some ⟨ga, 0, none⟩) 4 ca) (makeL (planOut bl s) (s : Int))) := hbx
          clear hbx hrm hR9 hR10 HS
          go_wp2
          refine bodyPost_ret (results_two1 Try.results61 _ _ (w.heap.size + 1 + 1) _ rfl Try.underlying80 rfl Try.sizeI (x := .int .i64 (s : Int)) (y := .slice (some ⟨ga, 0, none⟩) 4 ca) (by rw [cell_set_ne (by simp)]; exact World.cell?_setCell_same _ _ _ t0) (World.cell?_setCell_same _ _ _ (by rw [cell_set_ne (by simp)]; exact t1))) rfl ?_
          exact ⟨_, ret_bs2 HE.out.symm, by rw [HP.out]; exact ⟨_, rfl, ((Hbx.out.step (grown_set _ _ _ _)).step (grown_set _ _ _ _)).plain⟩, (hgF.set (by omega) _).set (by omega) _⟩

theorem refPlan_any (v dv : Value) (a : ArrP) (x : DeedP) (w : World) (h : ArrV w v a) (ha : Whole a) (hd : DeedV w dv x) :
    Calls Try.prog 61 #[v, dv] w fun e w' => ∃ r, e = .returned (.tuple #[r, .int .i64 (planE a x)]) ∧ IntentV w' r (planI a x) ∧ Grow w w' := by
  by_cases he : planE a x = 0
  · exact refPlan_yes v dv a x w h ha hd he
  · exact refPlan_no v dv a x w h ha hd he

end Go.Proofs.Ytjggiameajndgac

/-
  What the reference's Do and Step return. Nothing old turns.
-/
namespace Go.Proofs.Ytjggiameajndgac
open Go.RowKit

/-- An array is laid into the two cells of the result. -/
theorem two_fin {w wN : World} {R : Nat} {x1 x2 x3 y1 y2 y3 : _} {p q : Value} {t : TypeId} {b : ArrP} (hR : wN.heap[R]? = some (.cells #[.slice x1 x2 x3, .slice y1 y2 y3] t (0, 0))) (hw : w.heap.size ≤ R) (hg : Grow w wN)
    (hv : ArrV wN (.agg #[p, q]) b) (hb : Whole b) (hf : Fours b) :
    ArrV ((wN.setCell ⟨R, 0, none⟩ p).setCell ⟨R, 1, none⟩ q) (.agg #[p, q]) b ∧ ((wN.setCell ⟨R, 0, none⟩ p).setCell ⟨R, 1, none⟩ q).cell? ⟨R, 0, none⟩ = some p ∧ ((wN.setCell ⟨R, 0, none⟩ p).setCell ⟨R, 1, none⟩ q).cell? ⟨R, 1, none⟩ = some q ∧ Grow w ((wN.setCell ⟨R, 0, none⟩ p).setCell ⟨R, 1, none⟩ q) :=
  ⟨Two.store ⟨_, _, _, _, _, _, _, hR⟩ hv hb hf _ _, by rw [cell_set_ne (by simp)]; exact World.cell?_setCell_same _ _ _ (two_at0 hR), World.cell?_setCell_same _ _ _ (by rw [cell_set_ne (by simp)]; exact two_at1 hR), (hg.set hw _).set hw _⟩

/-- What stands in a result's cells: they may be written. -/
theorem two_open {wN : World} {R : Nat} {x y : Value} {t : TypeId} (hR : wN.heap[R]? = some (.cells #[x, y] t (0, 0))) : wN.cell? ⟨R, 0, none⟩ = some x ∧ wN.cell? ⟨R, 1, none⟩ = some y ∧ wN.frozen? ⟨R, 0, none⟩ = false ∧ wN.frozen? ⟨R, 1, none⟩ = false :=
  ⟨two_at0 hR, two_at1 hR, frozen_of_row wN _ 0 _ _ hR, frozen_of_row wN _ 1 _ _ hR⟩

theorem ret_v2 {v : Value} {k2 : IntKind} {a2 b2 : Int} (h2 : a2 = b2) : Ending.returned (.tuple #[v, .int k2 a2]) = .returned (.tuple #[v, .int k2 b2]) := by rw [h2]

set_option maxRecDepth 20000 in
set_option maxHeartbeats 3200000 in
theorem refDo6_any (v dv : Value) (a : ArrP) (x : DeedP) (w : World) (h : ArrV w v a) (ha : Arr a) (hd : DeedV w dv x) :
    Calls Try.prog 60 #[v, dv] w fun e w' => ∃ r, e = .returned (.tuple #[r, .int .i64 (planE a x)]) ∧ ArrV w' r (doA a x) ∧ Grow w w' := by
  have harr := h
  have hdeed := hd
  obtain ⟨a1, n1, c1, a2, n2, c2, rfl⟩ := h.form
  obtain ⟨sv, rfl, hbd⟩ := hd
  obtain ⟨d1, d2, d3, rfl⟩ := hbd.form
  clear h hbd
  obtain ⟨W, hW⟩ : ∃ W, W = ((w.alloc (.cells #[.slice a1 n1 c1, .slice a2 n2 c2] 26)).alloc (.cells #[.int .i64 x.k, .int .i64 x.n, .int .i64 x.m, .slice d1 d2 d3] 54)).alloc (.cells #[.slice none 0 0, .slice none 0 0] 26) := ⟨_, rfl⟩
  have hgW : Grow w W := by rw [hW]; exact ((Grow.alloc _ _).trans (Grow.alloc _ _)).trans (Grow.alloc _ _)
  obtain ⟨H1, H2, H3⟩ := heap3 w (.cells #[.slice a1 n1 c1, .slice a2 n2 c2] 26) (.cells #[.int .i64 x.k, .int .i64 x.n, .int .i64 x.m, .slice d1 d2 d3] 54) (.cells #[.slice none 0 0, .slice none 0 0] 26)
  rw [← hW] at H1 H2 H3
  have k0 := row_at H1 0 rfl
  have k1 := row_at H1 1 rfl
  have d0' := row_at H2 0 rfl
  have d1' := row_at H2 1 rfl
  have d2' := row_at H2 2 rfl
  have d3' := row_at H2 3 rfl
  have hpl := refPlan_any _ _ a x W (harr.grow hgW) ha.whole (hdeed.grow hgW)
  have hlW : w.heap.size + 1 + 1 < W.heap.size := cell_lt (row_at H3 0 rfl)
  by_cases he : planE a x = 0
  · have HD : Hid (doA a x = writeTo a (planI a x) 6) := if_pos he
    have HE : Hid (planE a x = 0) := he
    obtain ⟨s, hs3, -, -, -, hi⟩ := planI_ok he
    obtain ⟨hc4, -⟩ := planI_cells ha.whole he
    have hA := doA_arr ha x
    rw [HD.out] at hA
    rw [hi] at hA hc4 hpl
    rw [he] at hpl
    have HD' : Hid (doA a x = writeTo a ((s : Int), makeL (planOut (planBl a x) s) s) 6) := by rw [Hid, HD.out, hi]
    clear HD hi he
    simp only at hc4
    generalize makeL (planOut (planBl a x) s) s = cs at *
    go_enter Try.func60, Try.ntmps60
    go_wp2_with fail
    rw [← hW]
    refine hpl.mono ?_
    rintro e w1 ⟨r, rfl, ⟨cv, rfl, hcv⟩, hg1⟩
    obtain ⟨vc, cc, rfl⟩ := hcv.form
    rw [hc4] at hcv ⊢
    clear hW hpl
    have q0 := hg1.at k0
    have q1 := hg1.at k1
    have hg2 : Grow w1 (w1.alloc (.cells #[.int .i64 s, .slice vc 4 cc] 80)) := Grow.alloc _ _
    have q0' := hg2.at q0
    have q1' := hg2.at q1
    have hgT := (hgW.trans hg1).trans hg2
    have hwr := refWrite_any _ _ a s cs 6 _ (harr.grow hgT) ha.whole ⟨_, rfl, hcv.grow hg2⟩ hs3 hc4 ha.fours
    have hR2 := (hg1.trans hg2).block' H3
    clear H1 H2 H3 k0 k1 d0' d1' d2' d3'
    go_wp2_with fail
    refine hwr.mono ?_
    rintro e w3 ⟨r, rfl, hr, hg3⟩
    rw [writeTo_six] at hr
    obtain ⟨p1, p2, p3, r1, r2, r3, rfl⟩ := hr.form
    have hR3 := hg3.block' hR2
    obtain ⟨t0, t1, f0, f1⟩ := two_open hR3
    obtain ⟨hv, z0, z1, hg⟩ := two_fin hR3 (by omega) (hgT.trans hg3) hr hA.whole hA.fours
    have hfin : Hid (_ ∧ _) := ⟨hv, hg⟩
    clear hv hg hr hwr hcv hR2 hR3 q0 q1 q0' q1'
    go_wp2
    refine bodyPost_ret (results_two1 Try.results60 _ _ (w.heap.size + 1 + 1) _ rfl Try.underlying26 rfl Try.sizeA z0 z1) rfl ?_
    exact ⟨_, ret_v2 HE.out.symm, by rw [HD'.out]; exact hfin.out.1, hfin.out.2⟩
  · have HD : Hid (doA a x = a) := if_neg he
    have HI : planI a x = (0, []) := if_pos he
    rw [HI] at hpl
    clear HI
    generalize planE a x = E at *
    have he' : (E != 0) = true := by simpa using he
    go_enter Try.func60, Try.ntmps60
    go_wp2_with fail
    rw [← hW]
    refine hpl.mono ?_
    rintro e w1 ⟨r, rfl, ⟨cv, rfl, hcv⟩, hg1⟩
    obtain ⟨vc, cc, rfl⟩ := hcv.form
    clear hW hpl
    simp only [List.length_nil]
    have q0 := hg1.at k0
    have q1 := hg1.at k1
    have hg2 : Grow w1 (w1.alloc (.cells #[.int .i64 0, .slice vc 0 cc] 80)) := Grow.alloc _ _
    have q0' := hg2.at q0
    have q1' := hg2.at q1
    have hgT := (hgW.trans hg1).trans hg2
    have hR2 := (hg1.trans hg2).block' H3
    clear H1 H2 H3 k0 k1 d0' d1' d2' d3'
    obtain ⟨t0, t1, f0, f1⟩ := two_open hR2
    obtain ⟨hv, z0, z1, hg⟩ := two_fin hR2 (by omega) hgT (harr.grow hgT) ha.whole ha.fours
    have hfin : Hid (_ ∧ _) := ⟨hv, hg⟩
    clear hv hg hcv hR2
    go_wp2
    refine bodyPost_ret (results_two1 Try.results60 _ _ (w.heap.size + 1 + 1) _ rfl Try.underlying26 rfl Try.sizeA z0 z1) rfl ?_
    exact ⟨_, rfl, by rw [HD.out]; exact hfin.out.1, hfin.out.2⟩

theorem refMount_any (v : Value) (b : ArrP) (w : World) (h : ArrV w v b) (hb : Whole b) (hi : b.is = [] ∨ ∃ (s : Nat) (cs : List (List Int)), b.is = [((s : Int), cs)] ∧ s < 3 ∧ cs.length = 4) :
    Calls Try.prog 62 #[v] w fun e w' => ∃ r, e = .returned r ∧ ArrV w' r (mountL b) ∧ Grow w w' := by
  rcases hi with hi | ⟨s, cs, hi, hs, hc⟩
  · have : mountL b = b := by rw [mountL, hi]
    rw [this]
    exact refMount_none v b w h hi
  · have : mountL b = writeTo b ((s : Int), cs) 6 := by rw [mountL, hi]
    rw [this]
    exact refMount_one v b s cs w h hb hi hs hc

/-- What intents there are behind some of the writes. -/
theorem writeL_is {a : ArrP} (h : a.is = []) (i : Int × List (List Int)) (n : Int) : (writeL a i n).is = [] ∨ (writeL a i n).is = [i] := by
  rw [writeL]
  have := many6_le n
  generalize many6 n = k at *
  by_cases h0 : k = 0
  · subst h0; exact .inl h
  by_cases h6 : k = 6
  · subst h6; exact .inl rfl
  · exact .inr (writeTo_is_mid a i k (by omega) (by omega))

/-- A step, as it lies. -/
def StepV (w : World) (v : Value) (x : StepP) : Prop := ∃ dv, v = .agg #[.int .i64 x.k, .int .i64 x.n, .int .i64 x.m, .int .i64 x.d.k, .int .i64 x.d.n, .int .i64 x.d.m, dv] ∧ Bs w dv x.d.d ∧ x.n ≤ 9223372036854775807
theorem StepV.grow {w w' : World} {v : Value} {x : StepP} (h : StepV w v x) (hg : Grow w w') : StepV w' v x := by
  obtain ⟨dv, hv, hb, hn⟩ := h
  exact ⟨dv, hv, hb.grow hg, hn⟩

/-- The world behind a step's boxes, and what stands there. -/
structure Boxes (w W : World) (a1 : Option Addr) (n1 c1 : Nat) (a2 : Option Addr) (n2 c2 : Nat) (x : StepP) (dv : Value) : Prop where
  grow : Grow w W
  k0 : W.cell? ⟨w.heap.size, 0, none⟩ = some (.slice a1 n1 c1)
  k1 : W.cell? ⟨w.heap.size, 1, none⟩ = some (.slice a2 n2 c2)
  s0 : W.cell? ⟨w.heap.size + 1, 0, none⟩ = some (.int .i64 x.k)
  s1 : W.cell? ⟨w.heap.size + 1, 1, none⟩ = some (.int .i64 x.n)
  s2 : W.cell? ⟨w.heap.size + 1, 2, none⟩ = some (.int .i64 x.m)
  s3 : W.cell? ⟨w.heap.size + 1, 3, none⟩ = some (.int .i64 x.d.k)
  s4 : W.cell? ⟨w.heap.size + 1, 4, none⟩ = some (.int .i64 x.d.n)
  s5 : W.cell? ⟨w.heap.size + 1, 5, none⟩ = some (.int .i64 x.d.m)
  s6 : W.cell? ⟨w.heap.size + 1, 6, none⟩ = some dv
  res : W.heap[w.heap.size + 1 + 1]? = some (.cells #[.slice none 0 0, .slice none 0 0] 26 (0, 0))

theorem Boxes.mk' (w : World) (a1 : Option Addr) (n1 c1 : Nat) (a2 : Option Addr) (n2 c2 : Nat) (x : StepP) (dv : Value) :
    Boxes w (((w.alloc (.cells #[.slice a1 n1 c1, .slice a2 n2 c2] 26)).alloc (.cells #[.int .i64 x.k, .int .i64 x.n, .int .i64 x.m, .int .i64 x.d.k, .int .i64 x.d.n, .int .i64 x.d.m, dv] 56)).alloc (.cells #[.slice none 0 0, .slice none 0 0] 26)) a1 n1 c1 a2 n2 c2 x dv := by
  obtain ⟨H1, H2, H3⟩ := heap3 w (.cells #[.slice a1 n1 c1, .slice a2 n2 c2] 26) (.cells #[.int .i64 x.k, .int .i64 x.n, .int .i64 x.m, .int .i64 x.d.k, .int .i64 x.d.n, .int .i64 x.d.m, dv] 56) (.cells #[.slice none 0 0, .slice none 0 0] 26)
  exact ⟨((Grow.alloc _ _).trans (Grow.alloc _ _)).trans (Grow.alloc _ _), row_at H1 0 rfl, row_at H1 1 rfl, row_at H2 0 rfl, row_at H2 1 rfl, row_at H2 2 rfl, row_at H2 3 rfl, row_at H2 4 rfl, row_at H2 5 rfl, row_at H2 6 rfl, H3⟩

set_option maxRecDepth 20000 in
set_option maxHeartbeats 1600000 in
theorem refStep_any (v sv : Value) (a : ArrP) (x : StepP) (w : World) (h : ArrV w v a) (ha : Arr a) (hs : StepV w sv x) :
    Calls Try.prog 34 #[v, sv] w fun e w' => ∃ r, e = .returned (.tuple #[r, .int .i64 (stepE a x)]) ∧ ArrV w' r (stepA a x) ∧ Grow w w' := by
  have harr := h
  obtain ⟨a1, n1, c1, a2, n2, c2, rfl⟩ := h.form
  obtain ⟨dv, rfl, hbd, hmax⟩ := hs
  obtain ⟨d1, d2, d3, rfl⟩ := hbd.form
  clear h
  obtain ⟨W, hW⟩ : ∃ W, W = ((w.alloc (.cells #[.slice a1 n1 c1, .slice a2 n2 c2] 26)).alloc (.cells #[.int .i64 x.k, .int .i64 x.n, .int .i64 x.m, .int .i64 x.d.k, .int .i64 x.d.n, .int .i64 x.d.m, .slice d1 d2 d3] 56)).alloc (.cells #[.slice none 0 0, .slice none 0 0] 26) := ⟨_, rfl⟩
  have HB : Boxes w W a1 n1 c1 a2 n2 c2 x (.slice d1 d2 d3) := by rw [hW]; exact Boxes.mk' ..
  obtain ⟨hgW, k0, k1, s0, s1, s2, s3, s4, s5, s6, hR⟩ := HB
  have hdeed : DeedV W (.agg #[.int .i64 x.d.k, .int .i64 x.d.n, .int .i64 x.d.m, .slice d1 d2 d3]) x.d := ⟨_, rfl, hbd.grow hgW⟩
  have harrW := harr.grow hgW
  clear hbd
  have hlW : w.heap.size ≤ w.heap.size + 1 + 1 := by omega
  by_cases x1 : x.k = 1
  · have HE : Hid (stepE a x = planE a x.d ∧ stepA a x = doA a x.d) := ⟨if_pos x1, if_pos x1⟩
    have hcall := refDo6_any _ _ a x.d W harrW ha hdeed
    have hA := doA_arr ha x.d
    rw [x1] at s0 hW ⊢
    clear x1
    go_enter Try.func34, Try.ntmps34
    go_wp2_with fail
    rw [← hW]
    refine hcall.mono ?_
    rintro e w1 ⟨r, rfl, hr, hg1⟩
    obtain ⟨p1, p2, p3, r1, r2, r3, rfl⟩ := hr.form
    have hR1 := hg1.block' hR
    obtain ⟨t0, t1, f0, f1⟩ := two_open hR1
    obtain ⟨hv, z0, z1, hg⟩ := two_fin hR1 hlW (hgW.trans hg1) hr hA.whole hA.fours
    have hfin : Hid (_ ∧ _) := ⟨hv, hg⟩
    clear hv hg hr hR hR1 hW k0 k1 s0 s1 s2 s3 s4 s5 s6 hcall
    go_wp2
    refine bodyPost_ret (results_two1 Try.results34 _ _ (w.heap.size + 1 + 1) _ rfl Try.underlying26 rfl Try.sizeA z0 z1) rfl ?_
    exact ⟨_, ret_v2 HE.out.1.symm, by rw [HE.out.2]; exact hfin.out.1, hfin.out.2⟩
  by_cases x2 : x.k = 2
  · have HE : Hid (stepE a x = planE a x.d ∧ stepA a x = fallA a x.d x.n) := ⟨(if_neg x1).trans (if_pos x2), (if_neg x1).trans (if_pos x2)⟩
    have hpl := refPlan_any _ _ a x.d W harrW ha.whole hdeed
    have hA := fallA_arr ha x.d x.n
    rw [x2] at s0 hW ⊢
    clear x1 x2
    by_cases he : planE a x.d = 0
    · have HD : Hid (fallA a x.d x.n = mountL (writeL a (planI a x.d) x.n)) := if_pos he
      have HE0 : Hid (planE a x.d = 0) := he
      obtain ⟨s, hs3, -, -, -, hi⟩ := planI_ok he
      obtain ⟨hc4, -⟩ := planI_cells ha.whole he
      have hwi := writeL_is ha.none (planI a x.d) x.n
      have hww : Whole (writeL a (planI a x.d) x.n) := writeTo_whole ha.whole _ _
      rw [HD.out] at hA
      rw [hi] at hA hc4 hpl hwi hww
      rw [he] at hpl
      have HD' : Hid (fallA a x.d x.n = mountL (writeL a ((s : Int), makeL (planOut (planBl a x.d) s) s) x.n)) := by rw [Hid, HD.out, hi]
      clear HD hi he
      simp only at hc4
      generalize makeL (planOut (planBl a x.d) s) s = cs at *
      go_enter Try.func34, Try.ntmps34
      go_wp2_with fail
      rw [← hW]
      refine hpl.mono ?_
      rintro e w1 ⟨r, rfl, ⟨cv, rfl, hcv⟩, hg1⟩
      obtain ⟨vc, cc, rfl⟩ := hcv.form
      rw [hc4] at hcv ⊢
      have hg2 : Grow w1 (w1.alloc (.cells #[.int .i64 s, .slice vc 4 cc] 80)) := Grow.alloc _ _
      have hg12 := hg1.trans hg2
      have q0 := hg1.at k0
      have q1 := hg1.at k1
      have q0' := hg12.at k0
      have q1' := hg12.at k1
      have q2' := hg12.at s1
      have hwr := refWrite_any _ _ a s cs x.n _ (harrW.grow hg12) ha.whole ⟨_, rfl, hcv.grow hg2⟩ hs3 hc4 ha.fours
      have hR2 := hg12.block' hR
      clear hW hpl hR k0 k1 s0 s1 s2 s3 s4 s5 s6
      go_wp2_with fail
      refine hwr.mono ?_
      rintro e w3 ⟨r, rfl, hr, hg3⟩
      go_wp2_with fail
      refine (refMount_any _ _ _ hr hww (by
        rcases hwi with hwi | hwi
        · exact .inl hwi
        · exact .inr ⟨s, cs, hwi, hs3, hc4⟩)).mono ?_
      rintro e w4 ⟨r', rfl, hr', hg4⟩
      obtain ⟨p1, p2, p3, r1, r2, r3, rfl⟩ := hr'.form
      have hg14 := (hg12.trans hg3).trans hg4
      have hR4 := (hg3.trans hg4).block' hR2
      obtain ⟨t0, t1, f0, f1⟩ := two_open hR4
      obtain ⟨hv, z0, z1, hg⟩ := two_fin hR4 hlW (hgW.trans hg14) hr' hA.whole hA.fours
      have hfin : Hid (_ ∧ _) := ⟨hv, hg⟩
      clear hv hg hr hr' hR2 hR4 hwr q0 q1 q0' q1' q2' hwi hww
      go_wp2
      refine bodyPost_ret (results_two1 Try.results34 _ _ (w.heap.size + 1 + 1) _ rfl Try.underlying26 rfl Try.sizeA z0 z1) rfl ?_
      exact ⟨_, ret_v2 (by rw [HE.out.1]; exact HE0.out.symm), by rw [HE.out.2, HD'.out]; exact hfin.out.1, hfin.out.2⟩
    · have HD : Hid (fallA a x.d x.n = a) := if_neg he
      have HI : planI a x.d = (0, []) := if_pos he
      rw [HI] at hpl
      clear HI
      generalize planE a x.d = E at *
      have he' : (E != 0) = true := by simpa using he
      go_enter Try.func34, Try.ntmps34
      go_wp2_with fail
      rw [← hW]
      refine hpl.mono ?_
      rintro e w1 ⟨r, rfl, ⟨cv, rfl, hcv⟩, hg1⟩
      obtain ⟨vc, cc, rfl⟩ := hcv.form
      simp only [List.length_nil]
      have hg2 : Grow w1 (w1.alloc (.cells #[.int .i64 0, .slice vc 0 cc] 80)) := Grow.alloc _ _
      have hg12 := hg1.trans hg2
      have q0 := hg1.at k0
      have q1 := hg1.at k1
      have q0' := hg12.at k0
      have q1' := hg12.at k1
      have hR2 := hg12.block' hR
      clear hW hpl hR k0 k1 s0 s1 s2 s3 s4 s5 s6
      obtain ⟨t0, t1, f0, f1⟩ := two_open hR2
      obtain ⟨hv, z0, z1, hg⟩ := two_fin hR2 hlW (hgW.trans hg12) (harrW.grow hg12) ha.whole ha.fours
      have hfin : Hid (_ ∧ _) := ⟨hv, hg⟩
      clear hv hg hcv hR2
      go_wp2
      refine bodyPost_ret (results_two1 Try.results34 _ _ (w.heap.size + 1 + 1) _ rfl Try.underlying26 rfl Try.sizeA z0 z1) rfl ?_
      exact ⟨_, ret_v2 HE.out.1.symm, by rw [HE.out.2, HD.out]; exact hfin.out.1, hfin.out.2⟩
  by_cases x3 : x.k = 3
  · have HE3 : Hid (stepE a x = (if x.n < 0 then 6 else rotE a (x.n / 3) (x.n % 3) x.m) ∧ stepA a x = (if x.n < 0 then a else rotL a (x.n / 3) (x.n % 3) x.m)) := ⟨(if_neg x1).trans ((if_neg x2).trans (if_pos x3)), (if_neg x1).trans ((if_neg x2).trans (if_pos x3))⟩
    rw [x3] at s0 hW ⊢
    clear x1 x2 x3
    by_cases hn : x.n < 0
    · have HE : Hid (stepE a x = 6 ∧ stepA a x = a) := ⟨HE3.out.1.trans (if_pos hn), HE3.out.2.trans (if_pos hn)⟩
      have hd' : decide (x.n < 0) = true := by simpa using hn
      obtain ⟨-, -, H3⟩ := heap3 w (.cells #[.slice a1 n1 c1, .slice a2 n2 c2] 26) (.cells #[.int .i64 3, .int .i64 x.n, .int .i64 x.m, .int .i64 x.d.k, .int .i64 x.d.n, .int .i64 x.d.m, .slice d1 d2 d3] 56) (.cells #[.slice a1 n1 c1, .slice a2 n2 c2] 26)
      have hgF : Grow w (((w.alloc (.cells #[.slice a1 n1 c1, .slice a2 n2 c2] 26)).alloc (.cells #[.int .i64 3, .int .i64 x.n, .int .i64 x.m, .int .i64 x.d.k, .int .i64 x.d.n, .int .i64 x.d.m, .slice d1 d2 d3] 56)).alloc (.cells #[.slice a1 n1 c1, .slice a2 n2 c2] 26)) := ((Grow.alloc _ _).trans (Grow.alloc _ _)).trans (Grow.alloc _ _)
      have hfin : Hid (_ ∧ _) := ⟨harr.grow hgF, hgF⟩
      have Hz : Hid (_ ∧ _) := ⟨two_at0 H3, two_at1 H3⟩
      clear hgF H3 hR hdeed harrW HE3 hW k0 k1 s0 s1 s2 s3 s4 s5 s6 hgW
      go_enter Try.func34, Try.ntmps34
      go_wp2_with fail
      refine bodyPost_ret (results_two1 Try.results34 _ _ (w.heap.size + 1 + 1) _ rfl Try.underlying26 rfl Try.sizeA Hz.out.1 Hz.out.2) rfl ?_
      exact ⟨_, ret_v2 HE.out.1.symm, by rw [HE.out.2]; exact hfin.out.1, hfin.out.2⟩
    · have HE : Hid (stepE a x = rotE a (x.n / 3) (x.n % 3) x.m ∧ stepA a x = rotL a (x.n / 3) (x.n % 3) x.m) := ⟨HE3.out.1.trans (if_neg hn), HE3.out.2.trans (if_neg hn)⟩
      have hcall := refRot_any _ a (x.n / 3) (x.n % 3) x.m W harrW ha.whole ha.fours (fun d s => by have := ha.short d s; omega)
      have hA := rotL_arr ha (x.n / 3) (x.n % 3) x.m
      have hn' : 0 ≤ x.n := by omega
      clear hn HE3 hdeed
      go_enter Try.func34, Try.ntmps34
      go_wp2_with fail
      rw [← hW]
      refine hcall.mono ?_
      rintro e w1 ⟨r, rfl, hr, hg1⟩
      obtain ⟨p1, p2, p3, r1, r2, r3, rfl⟩ := hr.form
      have hR1 := hg1.block' hR
      obtain ⟨t0, t1, f0, f1⟩ := two_open hR1
      obtain ⟨hv, z0, z1, hg⟩ := two_fin hR1 hlW (hgW.trans hg1) hr hA.whole hA.fours
      have hfin : Hid (_ ∧ _) := ⟨hv, hg⟩
      clear hv hg hr hR hR1 hW k0 k1 s0 s1 s2 s3 s4 s5 s6 hcall
      go_wp2
      refine bodyPost_ret (results_two1 Try.results34 _ _ (w.heap.size + 1 + 1) _ rfl Try.underlying26 rfl Try.sizeA z0 z1) rfl ?_
      exact ⟨_, ret_v2 HE.out.1.symm, by rw [HE.out.2]; exact hfin.out.1, hfin.out.2⟩
  by_cases x4 : x.k = 4
  · have HE : Hid (stepE a x = goneE x.n ∧ stepA a x = goneL a x.n) := ⟨(if_neg x1).trans ((if_neg x2).trans ((if_neg x3).trans (if_pos x4))), (if_neg x1).trans ((if_neg x2).trans ((if_neg x3).trans (if_pos x4)))⟩
    have hcall := refGone_any _ a x.n W harrW ha.whole ha.fours
    have hA := goneL_arr ha x.n
    rw [x4] at s0 hW ⊢
    clear x1 x2 x3 x4 hdeed
    go_enter Try.func34, Try.ntmps34
    go_wp2_with fail
    rw [← hW]
    refine hcall.mono ?_
    rintro e w1 ⟨r, rfl, hr, hg1⟩
    obtain ⟨p1, p2, p3, r1, r2, r3, rfl⟩ := hr.form
    have hR1 := hg1.block' hR
    obtain ⟨t0, t1, f0, f1⟩ := two_open hR1
    obtain ⟨hv, z0, z1, hg⟩ := two_fin hR1 hlW (hgW.trans hg1) hr hA.whole hA.fours
    have hfin : Hid (_ ∧ _) := ⟨hv, hg⟩
    clear hv hg hr hR hR1 hW k0 k1 s0 s1 s2 s3 s4 s5 s6 hcall
    go_wp2
    refine bodyPost_ret (results_two1 Try.results34 _ _ (w.heap.size + 1 + 1) _ rfl Try.underlying26 rfl Try.sizeA z0 z1) rfl ?_
    exact ⟨_, ret_v2 HE.out.1.symm, by rw [HE.out.2]; exact hfin.out.1, hfin.out.2⟩
  by_cases x5 : x.k = 5
  · have HE : Hid (stepE a x = mendE a x.n ∧ stepA a x = mendL a x.n) := ⟨(if_neg x1).trans ((if_neg x2).trans ((if_neg x3).trans ((if_neg x4).trans (if_pos x5)))), (if_neg x1).trans ((if_neg x2).trans ((if_neg x3).trans ((if_neg x4).trans (if_pos x5))))⟩
    have hcall := refMend_any _ a x.n W harrW ha.whole ha.fours
    have hA := mendL_arr ha x.n
    rw [x5] at s0 hW ⊢
    clear x1 x2 x3 x4 x5 hdeed
    go_enter Try.func34, Try.ntmps34
    go_wp2_with fail
    rw [← hW]
    refine hcall.mono ?_
    rintro e w1 ⟨r, rfl, hr, hg1⟩
    obtain ⟨p1, p2, p3, r1, r2, r3, rfl⟩ := hr.form
    have hg2 : Grow w1 (w1.alloc (.cells #[.slice p1 p2 p3, .slice r1 r2 r3] 26)) := Grow.alloc _ _
    have hg12 := hg1.trans hg2
    have hR1 := hg12.block' hR
    obtain ⟨t0, t1, f0, f1⟩ := two_open hR1
    obtain ⟨hv, z0, z1, hg⟩ := two_fin hR1 hlW (hgW.trans hg12) (hr.grow hg2) hA.whole hA.fours
    have hfin : Hid (_ ∧ _) := ⟨hv, hg⟩
    clear hv hg hr hR hR1 hW k0 k1 s0 s1 s2 s3 s4 s5 s6 hcall
    go_wp2
    refine bodyPost_ret (results_two1 Try.results34 _ _ (w.heap.size + 1 + 1) _ rfl Try.underlying26 rfl Try.sizeA z0 z1) rfl ?_
    exact ⟨_, ret_v2 HE.out.1.symm, by rw [HE.out.2]; exact hfin.out.1, hfin.out.2⟩
  · have HE : Hid (stepE a x = 1 ∧ stepA a x = a) := ⟨(if_neg x1).trans ((if_neg x2).trans ((if_neg x3).trans ((if_neg x4).trans (if_neg x5)))), (if_neg x1).trans ((if_neg x2).trans ((if_neg x3).trans ((if_neg x4).trans (if_neg x5))))⟩
    have y1 : (x.k == 1) = false := by simpa using x1
    have y2 : (x.k == 2) = false := by simpa using x2
    have y3 : (x.k == 3) = false := by simpa using x3
    have y4 : (x.k == 4) = false := by simpa using x4
    have y5 : (x.k == 5) = false := by simpa using x5
    obtain ⟨-, -, H3⟩ := heap3 w (.cells #[.slice a1 n1 c1, .slice a2 n2 c2] 26) (.cells #[.int .i64 x.k, .int .i64 x.n, .int .i64 x.m, .int .i64 x.d.k, .int .i64 x.d.n, .int .i64 x.d.m, .slice d1 d2 d3] 56) (.cells #[.slice a1 n1 c1, .slice a2 n2 c2] 26)
    have hgF : Grow w (((w.alloc (.cells #[.slice a1 n1 c1, .slice a2 n2 c2] 26)).alloc (.cells #[.int .i64 x.k, .int .i64 x.n, .int .i64 x.m, .int .i64 x.d.k, .int .i64 x.d.n, .int .i64 x.d.m, .slice d1 d2 d3] 56)).alloc (.cells #[.slice a1 n1 c1, .slice a2 n2 c2] 26)) := ((Grow.alloc _ _).trans (Grow.alloc _ _)).trans (Grow.alloc _ _)
    have hfin : Hid (_ ∧ _) := ⟨harr.grow hgF, hgF⟩
    have Hz : Hid (_ ∧ _) := ⟨two_at0 H3, two_at1 H3⟩
    clear hgF H3 hR hdeed harrW hW k0 k1 s0 s1 s2 s3 s4 s5 s6 hgW
    go_enter Try.func34, Try.ntmps34
    go_wp2_with fail
    refine bodyPost_ret (results_two1 Try.results34 _ _ (w.heap.size + 1 + 1) _ rfl Try.underlying26 rfl Try.sizeA Hz.out.1 Hz.out.2) rfl ?_
    exact ⟨_, ret_v2 HE.out.1.symm, by rw [HE.out.2]; exact hfin.out.1, hfin.out.2⟩

end Go.Proofs.Ytjggiameajndgac
