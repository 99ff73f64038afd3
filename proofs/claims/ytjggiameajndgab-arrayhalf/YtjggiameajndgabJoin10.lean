import Derived.Test.YtjggiameajndgabJoin9
/-
  What the reference's Plan returns: a deed's intent. Nothing old turns.
-/
namespace Go.Proofs.Ytjggiameajndgab
open Go.RowKit

theorem Try.sizeI : (Try.prog.info? 62).map (·.size) = some 2 := by kernel_rfl

theorem Try.made4S (w : World) : (Instr.makeSlice 22 (.int .i64 4) (.int .i64 4)).run Try.prog w = .ok (.slice (some ⟨w.heap.size, 0, none⟩) 4 4) (w.alloc (.cells #[.slice none 0 0, .slice none 0 0, .slice none 0 0, .slice none 0 0] 23)) :=
  (run_make_row' (P := Try.prog) 22 23 (.slice none 0 0) 24 Try.underlying22 Try.infoS rfl .i64 .i64 4 (by decide) (by decide) w).trans (by rw [show madeCells #[.slice none 0 0] 4 = #[Value.slice none 0 0, .slice none 0 0, .slice none 0 0, .slice none 0 0] from Array.toList_inj.1 (toList_madeCells_one _ _)])

theorem RowingF.made4 (F : Nat → Prop) (w : World) : RowingF F Bs w.heap.size 23 (w.alloc (.cells #[.slice none 0 0, .slice none 0 0, .slice none 0 0, .slice none 0 0] 23)) (.slice (some ⟨w.heap.size, 0, none⟩) 4 4) (List.replicate 4 []) := by
  refine ⟨[.slice none 0 0, .slice none 0 0, .slice none 0 0, .slice none 0 0], ⟨rfl, .inr ⟨w.heap.size, 4, #[.slice none 0 0, .slice none 0 0, .slice none 0 0, .slice none 0 0], rfl, Nat.le_refl _, heap_alloc_new w _, Nat.le_refl _, by unfold maxLen; omega, rfl, rfl⟩⟩, rfl, fun i u x hu hx w' _ => ?_⟩
  have hu' : u = .slice none 0 0 := by
    have := List.mem_of_getElem? hu
    simpa using this
  have hx' : x = [] := by
    have := List.mem_of_getElem? hx
    simpa using this
  subst hu' hx'
  exact Bs.nil _

set_option maxRecDepth 20000 in
set_option maxHeartbeats 3200000 in
theorem refPlan_no (v dv : Value) (a : ArrP) (x : DeedP) (w : World) (h : ArrV w v a) (ha : Whole a) (hd : DeedV w dv x) (he : planE a x ≠ 0) :
    Calls Try.prog 42 #[v, dv] w fun e w' => ∃ r, e = .returned (.tuple #[r, .int .i64 (planE a x)]) ∧ IntentV w' r (planI a x) ∧ Grow w w' := by
  have HP : Hid (planI a x = (0, [])) := if_pos he
  have harr := h
  have hdeed := hd
  obtain ⟨a1, n1, c1, a2, n2, c2, rfl⟩ := h.form
  obtain ⟨sv, rfl, hbd⟩ := hd
  obtain ⟨d1, d2, d3, rfl⟩ := hbd.form
  clear h hbd
  obtain ⟨W, hW⟩ : ∃ W, W = ((w.alloc (.cells #[.slice a1 n1 c1, .slice a2 n2 c2] 39)).alloc (.cells #[.int .i64 x.k, .int .i64 x.n, .int .i64 x.m, .slice d1 d2 d3] 25)).alloc (.cells #[.int .i64 0, .slice none 0 0] 62) := ⟨_, rfl⟩
  have hgW : Grow w W := by rw [hW]; exact ((Grow.alloc _ _).trans (Grow.alloc _ _)).trans (Grow.alloc _ _)
  obtain ⟨H1, H2, H3⟩ := heap3 w (.cells #[.slice a1 n1 c1, .slice a2 n2 c2] 39) (.cells #[.int .i64 x.k, .int .i64 x.n, .int .i64 x.m, .slice d1 d2 d3] 25) (.cells #[.int .i64 0, .slice none 0 0] 62)
  rw [← hW] at H1 H2 H3
  have k0 : W.cell? ⟨w.heap.size, 0, none⟩ = some (.slice a1 n1 c1) := row_at H1 0 rfl
  have k1 : W.cell? ⟨w.heap.size, 1, none⟩ = some (.slice a2 n2 c2) := row_at H1 1 rfl
  have d0' : W.cell? ⟨w.heap.size + 1, 0, none⟩ = some (.int .i64 x.k) := row_at H2 0 rfl
  have d1' : W.cell? ⟨w.heap.size + 1, 1, none⟩ = some (.int .i64 x.n) := row_at H2 1 rfl
  have d2' : W.cell? ⟨w.heap.size + 1, 2, none⟩ = some (.int .i64 x.m) := row_at H2 2 rfl
  have d3' : W.cell? ⟨w.heap.size + 1, 3, none⟩ = some (.slice d1 d2 d3) := row_at H2 3 rfl
  have r0 : W.cell? ⟨w.heap.size + 1 + 1, 0, none⟩ = some (.int .i64 0) := row_at H3 0 rfl
  have r1 : W.cell? ⟨w.heap.size + 1 + 1, 1, none⟩ = some (.slice none 0 0) := row_at H3 1 rfl
  have f0 : W.frozen? ⟨w.heap.size + 1 + 1, 0, none⟩ = false := frozen_of_row W _ 0 _ _ H3
  have f1 : W.frozen? ⟨w.heap.size + 1 + 1, 1, none⟩ = false := frozen_of_row W _ 1 _ _ H3
  clear H1 H2 H3
  have hwr := refWrong_any _ x W (hdeed.grow hgW)
  have hWh := fun w1 => refWhere_any x.n w1
  have hlW : w.heap.size + 1 + 1 < W.heap.size := cell_lt r0
  by_cases hw0 : wrongE x = 0
  · obtain ⟨-, hn0, hn8, -, -⟩ := right_deed hw0
    obtain ⟨hD, hS, hE, hd4, hs3⟩ := where_bd (n := x.n) (by omega)
    have HE : Hid (planE a x = dataE (cellsL a (sOf x.n)) (sOf x.n)) := if_neg (by simp [hw0])
    rw [HE.out] at he
    rw [hD, hS, hE] at hWh
    rw [hw0] at hwr
    clear hD hS hE hw0
    generalize dOf x.n = dn at *
    generalize sOf x.n = s at *
    go_enter Try.func42, Try.ntmps42
    go_wp2_with fail
    rw [← hW]
    refine hwr.mono ?_
    rintro e w1 ⟨rfl, hg1⟩
    have e1 := hg1.at d1'
    go_wp2_with fail
    refine (hWh _).mono ?_
    rintro e w2 ⟨rfl, hg2⟩
    have hg02 := hg1.trans hg2
    have q0 := hg02.at k0
    have q1 := hg02.at k1
    clear hW
    go_wp2_with fail
    refine (refCells_any _ a s _ (harr.grow (hgW.trans hg02)) ha hs3).mono ?_
    rintro e w3 ⟨rc, rfl, hrc, hg3⟩
    go_wp2_with fail
    refine (refData_any _ _ s _ hrc (by rw [cellsL_length, ha.1]; omega)).mono ?_
    rintro e w4 ⟨rd, rfl, hrd, hg4⟩
    have hg04 := (hg02.trans hg3).trans hg4
    have t0 := hg04.at r0
    have t1 := hg04.at r1
    have z0 := (hg04.frozen (a := ⟨w.heap.size + 1 + 1, 0, none⟩) hlW).trans f0
    have z1 := (hg04.frozen (a := ⟨w.heap.size + 1 + 1, 1, none⟩) hlW).trans f1
    clear k0 k1 d0' d1' d2' d3' r0 r1 f0 f1 hwr hWh q0 q1 e1 hg1 hg2 hg3 hg4
    generalize dataE (cellsL a s) s = E at *
    have he' : (E != 0) = true := by simpa using he
    have hgF := hgW.trans hg04
    go_wp2
    refine bodyPost_ret (results_two1 Try.results42 _ _ (w.heap.size + 1 + 1) _ rfl Try.underlying62 rfl Try.sizeI (x := .int .i64 0) (y := .slice none 0 0) (by rw [cell_set_ne (by simp)]; exact World.cell?_setCell_same _ _ _ t0) (World.cell?_setCell_same _ _ _ (by rw [cell_set_ne (by simp)]; exact t1))) rfl ?_
    exact ⟨_, ret_bs2 HE.out.symm, by rw [HP.out]; exact ⟨_, rfl, Sl.nil _ _⟩, (hgF.set (by omega) _).set (by omega) _⟩
  · have HE : Hid (planE a x = wrongE x) := if_pos hw0
    clear he
    generalize wrongE x = E at *
    have he' : (E != 0) = true := by simpa using hw0
    go_enter Try.func42, Try.ntmps42
    go_wp2_with fail
    rw [← hW]
    refine hwr.mono ?_
    rintro e w1 ⟨rfl, hg1⟩
    have t0 := hg1.at r0
    have t1 := hg1.at r1
    have z0 := (hg1.frozen (a := ⟨w.heap.size + 1 + 1, 0, none⟩) hlW).trans f0
    have z1 := (hg1.frozen (a := ⟨w.heap.size + 1 + 1, 1, none⟩) hlW).trans f1
    clear k0 k1 d0' d1' d2' d3' r0 r1 f0 f1 hwr hWh hW
    have hgF := hgW.trans hg1
    go_wp2
    refine bodyPost_ret (results_two1 Try.results42 _ _ (w.heap.size + 1 + 1) _ rfl Try.underlying62 rfl Try.sizeI (x := .int .i64 0) (y := .slice none 0 0) (by rw [cell_set_ne (by simp)]; exact World.cell?_setCell_same _ _ _ t0) (World.cell?_setCell_same _ _ _ (by rw [cell_set_ne (by simp)]; exact t1))) rfl ?_
    exact ⟨_, ret_bs2 HE.out.symm, by rw [HP.out]; exact ⟨_, rfl, Sl.nil _ _⟩, (hgF.set (by omega) _).set (by omega) _⟩

set_option maxRecDepth 20000 in
set_option maxHeartbeats 6400000 in
theorem refPlan_yes (v dv : Value) (a : ArrP) (x : DeedP) (w : World) (h : ArrV w v a) (ha : Whole a) (hd : DeedV w dv x) (he : planE a x = 0) :
    Calls Try.prog 42 #[v, dv] w fun e w' => ∃ r, e = .returned (.tuple #[r, .int .i64 (planE a x)]) ∧ IntentV w' r (planI a x) ∧ Grow w w' := by
  obtain ⟨i0, hi, hz0, hz1, hz2⟩ := info_parts Try.infoS
  have hw0 : wrongE x = 0 := by
    unfold planE at he
    split at he
    · exact he
    · rename_i h; exact Decidable.not_not.1 h
  have hde : dataE (cellsL a (sOf x.n)) (sOf x.n) = 0 := by
    unfold planE at he
    rwa [if_neg (by simp [hw0])] at he
  have HP : Hid (planI a x = ((sOf x.n : Int), makeL (planOut (planBl a x) (sOf x.n)) (sOf x.n))) := if_neg (by simp [he])
  have HB : Hid (planBl a x = doL (spreadTo (dataL (cellsL a (sOf x.n)) (sOf x.n)) (sOf x.n) 9) x) := rfl
  have HE : Hid (planE a x = 0) := he
  have harr := h
  have hdeed := hd
  obtain ⟨a1, n1, c1, a2, n2, c2, rfl⟩ := h.form
  obtain ⟨sv, rfl, hbd⟩ := hd
  obtain ⟨d1, d2, d3, rfl⟩ := hbd.form
  clear h hbd he
  obtain ⟨W, hW⟩ : ∃ W, W = ((w.alloc (.cells #[.slice a1 n1 c1, .slice a2 n2 c2] 39)).alloc (.cells #[.int .i64 x.k, .int .i64 x.n, .int .i64 x.m, .slice d1 d2 d3] 25)).alloc (.cells #[.int .i64 0, .slice none 0 0] 62) := ⟨_, rfl⟩
  have hgW : Grow w W := by rw [hW]; exact ((Grow.alloc _ _).trans (Grow.alloc _ _)).trans (Grow.alloc _ _)
  obtain ⟨H1, H2, H3⟩ := heap3 w (.cells #[.slice a1 n1 c1, .slice a2 n2 c2] 39) (.cells #[.int .i64 x.k, .int .i64 x.n, .int .i64 x.m, .slice d1 d2 d3] 25) (.cells #[.int .i64 0, .slice none 0 0] 62)
  rw [← hW] at H1 H2 H3
  have k0 : W.cell? ⟨w.heap.size, 0, none⟩ = some (.slice a1 n1 c1) := row_at H1 0 rfl
  have k1 : W.cell? ⟨w.heap.size, 1, none⟩ = some (.slice a2 n2 c2) := row_at H1 1 rfl
  have d0' : W.cell? ⟨w.heap.size + 1, 0, none⟩ = some (.int .i64 x.k) := row_at H2 0 rfl
  have d1' : W.cell? ⟨w.heap.size + 1, 1, none⟩ = some (.int .i64 x.n) := row_at H2 1 rfl
  have d2' : W.cell? ⟨w.heap.size + 1, 2, none⟩ = some (.int .i64 x.m) := row_at H2 2 rfl
  have d3' : W.cell? ⟨w.heap.size + 1, 3, none⟩ = some (.slice d1 d2 d3) := row_at H2 3 rfl
  have hRW := H3
  clear H1 H2 H3
  have hwr := refWrong_any _ x W (hdeed.grow hgW)
  have hWh := fun w1 => refWhere_any x.n w1
  obtain ⟨-, hn0, hn8, -, -⟩ := right_deed hw0
  obtain ⟨hD, hS, hEw, hd4, hs3⟩ := where_bd (n := x.n) (by omega)
  rw [hD, hS, hEw] at hWh
  have Hw0 : Hid (wrongE x = 0) := hw0
  rw [hw0] at hwr
  clear hD hS hEw hw0
  generalize dOf x.n = dn at *
  generalize sOf x.n = s at *
  have hdl := dataL_length hde
  rw [cellsL_length, ha.1] at hdl
  have hdb := dataL_blocks hde
  go_enter Try.func42, Try.ntmps42
  go_wp2_with fail
  rw [← hW]
  refine hwr.mono ?_
  rintro e w1 ⟨rfl, hg1⟩
  have e1 := hg1.at d1'
  go_wp2_with fail
  refine (hWh _).mono ?_
  rintro e w2 ⟨rfl, hg2⟩
  have hg02 := hg1.trans hg2
  have q0 := hg02.at k0
  have q1 := hg02.at k1
  clear hW
  go_wp2_with fail
  refine (refCells_any _ a s _ (harr.grow (hgW.trans hg02)) ha hs3).mono ?_
  rintro e w3 ⟨rc, rfl, hrc, hg3⟩
  go_wp2_with fail
  refine (refData_any _ _ s _ hrc (by rw [cellsL_length, ha.1]; omega)).mono ?_
  rintro e w4 ⟨rd, rfl, hrd, hg4⟩
  rw [hde]
  have hg04 := (hg02.trans hg3).trans hg4
  clear k0 k1 hwr hWh q0 q1 e1 hg1 hg2 hg3 hg4 hrc hde
  generalize dataL (cellsL a s) s = ds at *
  obtain ⟨rda, rdc, rfl, hrd1, hrd2⟩ := hrd.form'
  rw [hdl] at hrd1 hrd ⊢
  obtain ⟨db, doff, du, rfl, -, -⟩ := hrd.elem (k := 0) (by omega) []
  go_wp2_with fail
  refine (refNew_any _).mono ?_
  rintro e w5 ⟨r, rfl, hrow, hg5⟩
  obtain ⟨g, cap, hr, hgb, hgl⟩ := hrow.form (by simp)
  rw [List.length_replicate] at hr
  subst hr
  rw [← spreadTo_zero ds s] at hrow
  have hcap := hrow.cap
  go_wp2
  go_loopw [52] (fun i wr => ∃ k : Nat, k ≤ 9 ∧ i = .int .i64 k ∧ Hid (Rowing Bs w4.heap.size 23 wr (.slice (some ⟨g, 0, none⟩) 9 cap) (spreadTo ds s k)) ∧ Grow w4 wr) (fun i _ => 9 - (intOf i).toNat)
  case atStart => exact ⟨0, by omega, rfl, hrow, hg5⟩
  case round =>
    obtain ⟨k, hk, rfl, HR, hgr⟩ := hrel
    by_cases hlt : k < 9
    · obtain ⟨hD, hS, hEw, hdk, hsk⟩ := where_bd (n := (k : Int)) (by omega)
      have hWk := fun w1 => refWhere_any (k : Int) w1
      rw [hD, hS, hEw] at hWk
      clear hD hS hEw
      obtain ⟨b', off', u', hb', hu', hr'⟩ := hrd.elem (k := dOf (k : Int)) (by omega) []
      injection hb' with hb'
      cases hb'
      obtain ⟨x1, x2, x3, rfl⟩ := hr'.form
      have Hin : Hid (sOf (k : Int) = s → (spreadTo ds s k).set k (ds.getD (dOf (k : Int)) []) = spreadTo ds s (k + 1)) := fun h => spreadTo_in h
      have Hout : Hid (sOf (k : Int) ≠ s → spreadTo ds s k = spreadTo ds s (k + 1)) := fun h => spreadTo_out h
      have Hlen : Hid ((spreadTo ds s k).length = 9) := spreadTo_length ds s k
      generalize dOf (k : Int) = dk at *
      generalize sOf (k : Int) = sk at *
      go_wp2_with fail
      refine (hWk _).mono ?_
      rintro e w6 ⟨rfl, hg6⟩
      have hgr6 := hgr.trans hg6
      have hu6 := hgr6.at hu'
      have HR6 : Hid (Rowing Bs w4.heap.size 23 w6 (.slice (some ⟨g, 0, none⟩) 9 cap) (spreadTo ds s k)) := HR.out.grow hg6
      obtain ⟨⟨uo, hcu⟩, hfu⟩ := HR6.out.at (k := k) (by rw [Hlen.out]; exact hlt)
      by_cases hsks : sk = s
      · have HN := HR6.out.stored k (u := .slice x1 x2 x3) (x := ds.getD dk []) (Off.old Bs.stays hr' hgr6 (fun j hj => by cases hj; exact hgb))
        rw [Hin.out hsks] at HN
        have HN' : Hid (Rowing Bs w4.heap.size 23 _ (.slice (some ⟨g, 0, none⟩) 9 cap) (spreadTo ds s (k + 1))) := HN
        clear HN HR HR6 Hin Hout Hlen hr'
        subst hsks
        go_wp2
        go_roundw
        case rel => first | exact ⟨k + 1, by omega, by go_num, HN', hgr6.set hgb _⟩ | ((repeat apply Exists.intro); exact ⟨⟨k + 1, by omega, by go_num, HN', hgr6.set hgb _⟩, rfl⟩)
        case measure => simp [intOf]; omega
      · have HN' : Hid (Rowing Bs w4.heap.size 23 w6 (.slice (some ⟨g, 0, none⟩) 9 cap) (spreadTo ds s (k + 1))) := by rw [Hid, ← Hout.out hsks]; exact HR6.out
        have hsk' : ¬ (sk : Int) = s := by omega
        clear HR HR6 Hin Hout Hlen hr' hsks
        go_wp2
        go_roundw
        case rel => first | exact ⟨k + 1, by omega, by go_num, HN', hgr6⟩ | ((repeat apply Exists.intro); exact ⟨⟨k + 1, by omega, by go_num, HN', hgr6⟩, rfl⟩)
        case measure => simp [intOf]; omega
    · have HK : Hid (k = 9) := by rw [Hid]; omega
      have HS9 : Hid (Bss wr (.slice (some ⟨g, 0, none⟩) 9 cap) (spreadTo ds s 9)) := by
        have := HR.out.done
        rw [HK.out] at this
        exact this
      have hg0r := hg04.trans hgr
      have e0 := hg0r.at d0'
      have e1 := hg0r.at d1'
      have e2 := hg0r.at d2'
      have e3 := hg0r.at d3'
      have hR6 := hg0r.block' hRW
      have hsb := spread_blocks hdb hdl s 9
      have Hb4 : Hid (∀ b ∈ planBl a x, b.length = 4) := by rw [Hid, HB.out]; exact doL_blocks hsb (spreadTo_length _ _ _) Hw0.out
      have Hb9 : Hid ((planBl a x).length = 9) := by rw [Hid, HB.out, doL_length, spreadTo_length]
      have hgwr := hgW.trans hg0r
      clear HR hrow hrd hRW d0' d1' d2' d3' hg5 hgl hcap
      go_wp2_with fail
      refine (refDo_any _ _ (spreadTo ds s 9) x _ HS9.out (hdeed.grow hgwr) (spreadTo_length _ _ _) Hw0.out).mono ?_
      rintro e w6 ⟨rb, rfl, hrb, hg6⟩
      rw [← HB.out] at hrb
      have hR7 := hg6.block' hR6
      have hgw6 := hgwr.trans hg6
      clear HB HS9 e0 e1 e2 e3 hR6 hsb hdb hdl
      generalize planBl a x = bl at *
      obtain ⟨rba, rbc, rfl, hrb1, hrb2⟩ := hrb.form'
      rw [Hb9.out] at hrb1 hrb ⊢
      obtain ⟨bb, boff, bu, rfl, -, -⟩ := hrb.elem (k := 0) (by rw [Hb9.out]; omega) []
      have hmk := Try.made4S w6
      have hwl : w.heap.size + 1 + 1 < w6.heap.size := by
        have := two_at0 hR7
        exact cell_lt this
      have hstart : Hid (RowingF (fun j => w6.heap.size < j) Bs w6.heap.size 23 (w6.alloc (.cells #[.slice none 0 0, .slice none 0 0, .slice none 0 0, .slice none 0 0] 23)) (.slice (some ⟨w6.heap.size, 0, none⟩) 4 4) (outTo bl s 0)) := RowingF.made4 _ w6
      have hgd : Grow w6 (w6.alloc (.cells #[.slice none 0 0, .slice none 0 0, .slice none 0 0, .slice none 0 0] 23)) := Grow.alloc _ _
      have hsz7 : w6.heap.size + 1 ≤ (w6.alloc (.cells #[.slice none 0 0, .slice none 0 0, .slice none 0 0, .slice none 0 0] 23)).heap.size := by simp
      go_wp2
      go_loopw [18, 78] (fun l i wr => ∃ k : Nat, k ≤ 9 ∧ i = .int .i64 k ∧ Hid (RowingF (fun j => j = w6.heap.size) Bs (w6.heap.size + 1) 23 wr l (rowTo bl s k)) ∧ Hid (RowingF (fun j => w6.heap.size < j) Bs w6.heap.size 23 wr (.slice (some ⟨w6.heap.size, 0, none⟩) 4 4) (outTo bl s k)) ∧ Grow w6 wr ∧ w6.heap.size + 1 ≤ wr.heap.size) (fun _ i _ => 9 - (intOf i).toNat)
      case atStart => exact ⟨0, by omega, rfl, RowingF.nil _ _ _ _ _, hstart, hgd, hsz7⟩
      case round =>
        obtain ⟨q, hq, rfl, HL, HO, hgr7, hsz⟩ := hrel
        clear hstart hmk hgd hsz7
        by_cases hlt9 : q < 9
        · obtain ⟨hD, hS, hEw, hdk, hsk⟩ := where_bd (n := (q : Int)) (by omega)
          have hWk := fun w1 => refWhere_any (q : Int) w1
          rw [hD, hS, hEw] at hWk
          clear hD hS hEw
          obtain ⟨b', off', u', hb', hu', hr'⟩ := hrb.elem (k := q) (by rw [Hb9.out]; omega) []
          injection hb' with hb'
          cases hb'
          obtain ⟨x1, x2, x3, rfl⟩ := hr'.form
          have Hin : Hid (sOf (q : Int) = s → (outTo bl s q).set (dOf (q : Int)) (bl.getD q []) = outTo bl s (q + 1) ∧ rowTo bl s q ++ [bl.getD q []] = rowTo bl s (q + 1)) := fun h => ⟨outTo_in h, rowTo_in h⟩
          have Hout : Hid (sOf (q : Int) ≠ s → outTo bl s q = outTo bl s (q + 1) ∧ rowTo bl s q = rowTo bl s (q + 1)) := fun h => ⟨outTo_out h, rowTo_out h⟩
          have Hlen : Hid ((outTo bl s q).length = 4) := outTo_length bl s q
          have hrl := rowTo_length bl s q
          generalize dOf (q : Int) = dk at *
          generalize sOf (q : Int) = sk at *
          have hu7 := hgr7.at hu'
          have hdk' : (dk : Int) < 4 := by omega
          go_wp2_with fail
          refine (hWk _).mono ?_
          rintro e w7 ⟨rfl, hg7⟩
          have hgr77 := hgr7.trans hg7
          have hsz77 : w6.heap.size + 1 ≤ w7.heap.size := Nat.le_trans hsz hg7.size
          have HL7 : Hid (RowingF (fun j => j = w6.heap.size) Bs (w6.heap.size + 1) 23 w7 u18 (rowTo bl s q)) := HL.out.grow hg7
          have HO7 : Hid (RowingF (fun j => w6.heap.size < j) Bs w6.heap.size 23 w7 (.slice (some ⟨w6.heap.size, 0, none⟩) 4 4) (outTo bl s q)) := HO.out.grow hg7
          clear HL HO
          by_cases hsks : sk = s
          · obtain ⟨⟨uo, hcu⟩, hfu⟩ := HO7.out.plain.at (k := dk) (by rw [Hlen.out]; exact hdk)
            have hbase := fun j hj => (HL7.out.base j hj).1
            have hoff := fun G hG => OffG.old (G := G) Bs.stays hr' hgr77 hG
            have HO8 : Hid (RowingF (fun j => w6.heap.size < j) Bs w6.heap.size 23 (w7.setCell ⟨w6.heap.size, dk, none⟩ (.slice x1 x2 x3)) (.slice (some ⟨w6.heap.size, 0, none⟩) 4 4) (outTo bl s (q + 1))) := by
              have := HO7.out.stored dk (hoff (fun j => w6.heap.size < j ∨ some w6.heap.size = some j) (fun j hj => by
                rcases hj with hj | hj
                · omega
                · injection hj with hj; omega))
              rw [(Hin.out hsks).1] at this
              exact this
            have hrowL := HL7.out.set (A := w6.heap.size) rfl (fun e => by have := hbase _ e; omega) dk (.slice x1 x2 x3)
            have hoffL : OffG Bs (fun j => j = w6.heap.size ∨ u18.ownBlock = some j) (w7.setCell ⟨w6.heap.size, dk, none⟩ (.slice x1 x2 x3)) (.slice x1 x2 x3) (bl.getD q []) := (hoff _ (fun j hj => by
                rcases hj with hj | hj
                · omega
                · have := hbase j hj; omega)).step (grownIn_set w7 w6.heap.size dk _ (.inl rfl))
            have hG8 : Grow w6 (w7.setCell ⟨w6.heap.size, dk, none⟩ (.slice x1 x2 x3)) := hgr77.set (by show w6.heap.size ≤ w6.heap.size; omega) _
            have hT := (Hin.out hsks).2
            have hsz8 : w6.heap.size + 1 ≤ (w7.setCell ⟨w6.heap.size, dk, none⟩ (.slice x1 x2 x3)).heap.size := by simpa using hsz77
            clear HL7 HO7 Hin Hout Hlen hoff hr'
            subst hsks
            go_wp2_with (first
              | (at_builtin; refine wpList_pushF rfl (.tmp 96) (.tmp 98) 22 rfl i0 (.slice none 0 0) 24 Try.underlying22 hi hz0 hz1 hz2 rfl w6 hG8 (by omega) hsz8 rfl hrowL rfl hoffL w7.heap.size (by simp) rfl (by omega) (by omega) ?_; rintro v1 w8 - hrow8 hg8 hgi8))
            rw [hT] at hrow8
            have HO9 := HO8.out.kept (hgi8.mono (fun j hj => by have := hbase j hj; show w6.heap.size < j; omega)) (fun j hj => by cases hj; exact Nat.lt_irrefl _)
            have HO9' : Hid (RowingF (fun j => w6.heap.size < j) Bs w6.heap.size 23 w8 (.slice (some ⟨w6.heap.size, 0, none⟩) 4 4) _) := HO9
            have hsz9 : w6.heap.size + 1 ≤ w8.heap.size := Nat.le_trans hsz8 hgi8.size
            clear HO9 HO8
            go_wp2
            go_roundw
            case rel => first | exact ⟨q + 1, by omega, by go_num, hrow8, HO9', hg8, hsz9⟩ | ((repeat apply Exists.intro); exact ⟨⟨q + 1, by omega, by go_num, hrow8, HO9', hg8, hsz9⟩, rfl⟩)
            case measure => simp [intOf]; omega
          · have hsk' : ¬ (sk : Int) = s := by omega
            have HL8 : Hid (RowingF (fun j => j = w6.heap.size) Bs (w6.heap.size + 1) 23 w7 u18 (rowTo bl s (q + 1))) := by rw [Hid, ← (Hout.out hsks).2]; exact HL7.out
            have HO8 : Hid (RowingF (fun j => w6.heap.size < j) Bs w6.heap.size 23 w7 (.slice (some ⟨w6.heap.size, 0, none⟩) 4 4) (outTo bl s (q + 1))) := by rw [Hid, ← (Hout.out hsks).1]; exact HO7.out
            clear HL7 HO7 Hin Hout Hlen hr' hsks
            go_wp2
            go_roundw
            case rel => first | exact ⟨q + 1, by omega, by go_num, HL8, HO8, hgr77, hsz77⟩ | ((repeat apply Exists.intro); exact ⟨⟨q + 1, by omega, by go_num, HL8, HO8, hgr77, hsz77⟩, rfl⟩)
            case measure => simp [intOf]; omega
        · have HQ : Hid (q = 9) := by rw [Hid]; omega
          have HLd : Hid (Bss wr u18 (rowTo bl s 9)) := by have := HL.out.done; rw [HQ.out] at this; exact this
          have HOp : Hid (Rowing Bs w6.heap.size 23 wr (.slice (some ⟨w6.heap.size, 0, none⟩) 4 4) (outTo bl s 9)) := by have := HO.out.plain; rw [HQ.out] at this; exact this
          have HX4 : Hid (∀ b ∈ rowTo bl s 9, b.length = 4) := rowTo_blocks Hb4.out Hb9.out s 9 (by omega)
          have hoct := xorAll_octets HLd.out.octets
          have hR8 := hgr7.block' hR7
          have hSp : ∀ w1, Calls Try.prog 76 #[.int .i64 (s : Int)] w1 fun e w' => e = .returned (.int .i64 ((3 - s : Nat) : Int)) ∧ Grow w1 w' := fun w1 => (refSpare_any (s : Int) w1 (by omega) (by omega)).mono fun e w' ⟨he, hg⟩ => ⟨he.trans (ret_int (by omega)), hg⟩
          have Hpo : Hid (planOut bl s = (outTo bl s 9).set (3 - s) (xorAll (rowTo bl s 9))) := rfl
          have Hpb : Hid (∀ b ∈ planOut bl s, b.length = 4) := planOut_blocks Hb4.out Hb9.out hs3
          have Hpl : Hid ((planOut bl s).length = 4) := planOut_length bl s
          have Hol : Hid ((outTo bl s 9).length = 4) := outTo_length bl s 9
          have htl : 3 - s < 4 := by omega
          clear HL HO hrb hR7
          generalize 3 - s = t at *
          have htl' : (t : Int) < 4 := by omega
          go_wp2_with fail
          refine (hSp _).mono ?_
          rintro e w7 ⟨rfl, hg7⟩
          go_wp2_with fail
          refine (refXor_new _ _ _ (HLd.out.grow hg7) HX4.out).mono ?_
          rintro e w8 ⟨rfl, HX, hg8⟩
          have hg78 := hg7.trans hg8
          have HO8 : Hid (Rowing Bs w6.heap.size 23 w8 (.slice (some ⟨w6.heap.size, 0, none⟩) 4 4) (outTo bl s 9)) := HOp.out.grow hg78
          obtain ⟨⟨uo, hcu⟩, hfu⟩ := HO8.out.at (k := t) (by rw [Hol.out]; exact htl)
          have hne : w6.heap.size ≠ w7.heap.size := by have := hg7.size; omega
          have hst := HO8.out.stored t (Off.row (g := some w6.heap.size) HX.out (xorAll_length _) (by unfold maxLen; omega) hoct (fun e => by injection e with e; exact hne e))
          rw [← Hpo.out] at hst
          have HS : Hid (Bss (w8.setCell ⟨w6.heap.size, t, none⟩ (.slice (some ⟨w7.heap.size, 0, none⟩) 4 4)) (.slice (some ⟨w6.heap.size, 0, none⟩) 4 4) (planOut bl s)) := hst.done
          have hgl8 : Grow w6 (w8.setCell ⟨w6.heap.size, t, none⟩ (.slice (some ⟨w7.heap.size, 0, none⟩) 4 4)) := (hgr7.trans hg78).set (by show w6.heap.size ≤ w6.heap.size; omega) _
          have hR9 : (w8.setCell ⟨w6.heap.size, t, none⟩ (.slice (some ⟨w7.heap.size, 0, none⟩) 4 4)).heap[w.heap.size + 1 + 1]? = _ := (Below.heap_setCell w8 ⟨w6.heap.size, t, none⟩ _ _ (by show w.heap.size + 1 + 1 ≠ w6.heap.size; omega)).trans (hg78.block' hR8)
          clear HOp HO8 hst HX HLd HX4 hR8 hoct Hpo Hol
          go_wp2_with fail
          refine (refMake_any _ _ (s : Int) _ HS.out (by rw [Hpl.out]; omega) (by omega) Hpb.out).mono ?_
          rintro e w9 ⟨rm, rfl, hrm, hg9⟩
          have hml : (makeL (planOut bl s) (s : Int)).length = 4 := by simp [makeL, Hpl.out]
          obtain ⟨ga, ca, hrf, hga, hgal⟩ := hrm.form (by omega)
          rw [hml] at hrf
          subst hrf
          have hR10 := hg9.block' hR9
          have hbx : BssX (some (w.heap.size + 1 + 1)) w9 (.slice (some ⟨ga, 0, none⟩) 4 ca) (makeL (planOut bl s) (s : Int)) := Itn.bss ⟨_, _, _, _, _, hR10⟩ hrm.done (by omega)
          have t0 := two_at0 hR10
          have t1 := two_at1 hR10
          have z0 : w9.frozen? ⟨w.heap.size + 1 + 1, 0, none⟩ = false := frozen_of_row w9 _ 0 _ _ hR10
          have z1 : w9.frozen? ⟨w.heap.size + 1 + 1, 1, none⟩ = false := frozen_of_row w9 _ 1 _ _ hR10
          have hgF := (hgw6.trans hgl8).trans hg9
          have Hbx : Hid (BssX (some (w.heap.size + 1 + 1)) w9 (.slice (some ⟨ga, 0, none⟩) 4 ca) (makeL (planOut bl s) (s : Int))) := hbx
          clear hbx hrm hR9 hR10 HS
          go_wp2
          refine bodyPost_ret (results_two1 Try.results42 _ _ (w.heap.size + 1 + 1) _ rfl Try.underlying62 rfl Try.sizeI (x := .int .i64 (s : Int)) (y := .slice (some ⟨ga, 0, none⟩) 4 ca) (by rw [cell_set_ne (by simp)]; exact World.cell?_setCell_same _ _ _ t0) (World.cell?_setCell_same _ _ _ (by rw [cell_set_ne (by simp)]; exact t1))) rfl ?_
          exact ⟨_, ret_bs2 HE.out.symm, by rw [HP.out]; exact ⟨_, rfl, ((Hbx.out.step (grown_set _ _ _ _)).step (grown_set _ _ _ _)).plain⟩, (hgF.set (by omega) _).set (by omega) _⟩

theorem refPlan_any (v dv : Value) (a : ArrP) (x : DeedP) (w : World) (h : ArrV w v a) (ha : Whole a) (hd : DeedV w dv x) :
    Calls Try.prog 42 #[v, dv] w fun e w' => ∃ r, e = .returned (.tuple #[r, .int .i64 (planE a x)]) ∧ IntentV w' r (planI a x) ∧ Grow w w' := by
  by_cases he : planE a x = 0
  · exact refPlan_yes v dv a x w h ha hd he
  · exact refPlan_no v dv a x w h ha hd he

end Go.Proofs.Ytjggiameajndgab

/-
  Plain: a stripe's data spread over blocks and gathered again, by disks. What blockAt and model.New return.
-/
namespace Go.Proofs.Ytjggiameajndgab
open Go.RowKit

/-- The block at a place that has one. -/
def bkN (s d : Nat) : Nat := 3 * s + (if d < 3 - s then d else d - 1)

theorem bkN_lt {s d : Nat} (hs : s < 3) (hd : d < 4) (_hn : d ≠ 3 - s) : bkN s d < 9 := by unfold bkN; split <;> omega

theorem blockN_yes {s d : Nat} (hs : s < 3) (hd : d < 4) (hn : d ≠ 3 - s) : blockN (d : Int) (s : Int) = (bkN s d : Nat) ∧ blockE (d : Int) (s : Int) = 0 := by
  refine ⟨?_, if_pos (by omega)⟩
  rw [blockN, if_pos (by omega), if_neg (by omega), bkN]
  by_cases h : d < 3 - s
  · rw [if_pos (by omega), if_pos h]; omega
  · rw [if_neg (by omega), if_neg h]; omega
theorem blockN_no {s d : Nat} (hs : s < 3) (hn : d = 3 - s) : blockN (d : Int) (s : Int) = -1 ∧ blockE (d : Int) (s : Int) = 0 := by
  refine ⟨?_, if_pos (by omega)⟩
  rw [blockN, if_pos (by omega), if_pos (by omega)]

/-- Blocks of which those of the first disks of stripe s are what that has. -/
def fillB (ls : List (List Int)) (s : Nat) : Nat → List (List Int)
  | 0 => List.replicate 9 nought
  | d + 1 => if d = 3 - s then fillB ls s d else (fillB ls s d).set (bkN s d) (ls.getD d [])

theorem fillB_length (ls : List (List Int)) (s : Nat) : ∀ d, (fillB ls s d).length = 9
  | 0 => rfl
  | d + 1 => by
    rw [fillB]
    split
    · exact fillB_length ls s d
    · rw [List.length_set]; exact fillB_length ls s d

theorem fillB_all (ls : List (List Int)) {s : Nat} (hs : s < 3) : fillB ls s 4 = spreadTo ls s 9 := by
  obtain rfl | rfl | rfl : s = 0 ∨ s = 1 ∨ s = 2 := by omega
  all_goals rfl

/-- What the first disks of stripe s are to have. -/
def outB (bl : List (List Int)) (s : Nat) : Nat → List (List Int)
  | 0 => List.replicate 4 []
  | d + 1 => if d = 3 - s then outB bl s d else (outB bl s d).set d (bl.getD (bkN s d) [])
/-- The same, in a row. -/
def rowB (bl : List (List Int)) (s : Nat) : Nat → List (List Int)
  | 0 => []
  | d + 1 => if d = 3 - s then rowB bl s d else rowB bl s d ++ [bl.getD (bkN s d) []]

theorem outB_length (bl : List (List Int)) (s : Nat) : ∀ k, (outB bl s k).length = 4
  | 0 => rfl
  | k + 1 => by
    rw [outB]
    split
    · exact outB_length bl s k
    · rw [List.length_set]; exact outB_length bl s k
theorem rowB_length (bl : List (List Int)) (s : Nat) : ∀ k, (rowB bl s k).length ≤ k
  | 0 => Nat.le_refl _
  | k + 1 => by
    have := rowB_length bl s k
    rw [rowB]
    split
    · omega
    · simp; omega
theorem rowB_blocks {bl : List (List Int)} (h4 : ∀ b ∈ bl, b.length = 4) (hl : bl.length = 9) {s : Nat} (hs : s < 3) : ∀ k, k ≤ 4 → ∀ b ∈ rowB bl s k, b.length = 4
  | 0, _ => by simp [rowB]
  | k + 1, hk => by
    rw [rowB]
    split
    · exact rowB_blocks h4 hl hs k (by omega)
    · rename_i hn
      intro b hb
      rcases List.mem_append.1 hb with hb | hb
      · exact rowB_blocks h4 hl hs k (by omega) b hb
      · simp only [List.mem_singleton] at hb
        rw [hb]
        exact h4 _ (getD_mem (by have := bkN_lt hs (show k < 4 by omega) hn; omega))

theorem planOut_behind (bl : List (List Int)) {s : Nat} (hs : s < 3) : planOut bl s = (outB bl s 4).set (3 - s) (xorAll (rowB bl s 4)) := by
  rw [planOut_eq bl s hs]
  obtain rfl | rfl | rfl : s = 0 ∨ s = 1 ∨ s = 2 := by omega
  all_goals rfl

set_option maxRecDepth 20000 in
set_option maxHeartbeats 800000 in
theorem blockAt_yes (d s : Nat) (w : World) (hs : s < 3) (hd : d < 4) (hn : d ≠ 3 - s) : Calls Try.prog 93 #[.int .i64 d, .int .i64 s] w fun e w' => e = .returned (.tuple #[.int .i64 (bkN s d : Nat), .bool true]) ∧ w' = w := by
  have hB := block_any (d : Int) (s : Int) w
  rw [(blockN_yes hs hd hn).1, (blockN_yes hs hd hn).2] at hB
  generalize bkN s d = b at *
  go_enter Try.func93, Try.ntmps93
  go_wp2_with fail
  refine hB.mono ?_
  rintro e w1 ⟨rfl, rfl⟩
  go_wp2
  go_ret2
  first
    | exact ⟨rfl, rfl⟩
    | simp
    | exact ⟨by simp, rfl⟩

set_option maxRecDepth 20000 in
set_option maxHeartbeats 800000 in
theorem blockAt_no (d s : Nat) (w : World) (hs : s < 3) (hn : d = 3 - s) : Calls Try.prog 93 #[.int .i64 d, .int .i64 s] w fun e w' => e = .returned (.tuple #[.int .i64 (-1), .bool false]) ∧ w' = w := by
  have hB := block_any (d : Int) (s : Int) w
  rw [(blockN_no hs hn).1, (blockN_no hs hn).2] at hB
  clear hn hs
  go_enter Try.func93, Try.ntmps93
  go_wp2_with fail
  refine hB.mono ?_
  rintro e w1 ⟨rfl, rfl⟩
  go_wp2
  go_ret2
  first
    | exact ⟨rfl, rfl⟩
    | simp
    | exact ⟨by simp, rfl⟩

set_option maxRecDepth 20000 in
set_option maxHeartbeats 800000 in
theorem modelNew_row (w : World) : Calls Try.prog 54 #[] w fun e w' => e = .returned (.slice (some ⟨w.heap.size, 0, none⟩) 9 9) ∧ Rowing Bs w.heap.size 23 w' (.slice (some ⟨w.heap.size, 0, none⟩) 9 9) (List.replicate 9 nought) ∧ Grow w w' := by
  have hmk := Try.made9 w
  have hst : Hid (Rowing Bs w.heap.size 23 (w.alloc (.cells nines 23)) (.slice (some ⟨w.heap.size, 0, none⟩) 9 9) (upTo (fun _ => nought) 0)) := by rw [upTo_zero]; exact Rowing.made9 w
  have hend : Hid (upTo (fun _ => nought) 9 = List.replicate 9 nought) := by rw [Hid, upTo_all]; rfl
  go_enter Try.func54, Try.ntmps54
  go_wp2
  go_loopw [6] (fun i wr => ∃ k : Nat, k ≤ 9 ∧ i = .int .i64 k ∧ Hid (Rowing Bs w.heap.size 23 wr (.slice (some ⟨w.heap.size, 0, none⟩) 9 9) (upTo (fun _ => nought) k)) ∧ Grow w wr) (fun i _ => 9 - (intOf i).toNat)
  case atStart => exact ⟨0, by omega, rfl, hst, Grow.alloc _ _⟩
  case round =>
    obtain ⟨k, hk, rfl, HR, hgr⟩ := hrel
    clear hst hmk
    by_cases hlt : k < 9
    · have hmk := Try.made4 wr
      have hgA : Grow wr (wr.alloc (.cells #[.int .u8 0, .int .u8 0, .int .u8 0, .int .u8 0] 5)) := Grow.alloc _ _
      have hrow := HR.out.grow hgA
      have hb : w.heap.size < wr.heap.size := (HR.out.base _ rfl).2
      have hoff : Off Bs (some w.heap.size) (wr.alloc (.cells #[.int .u8 0, .int .u8 0, .int .u8 0, .int .u8 0] 5)) (.slice (some ⟨wr.heap.size, 0, none⟩) 4 4) nought := Off.row (l := nought) (heap_alloc_new wr _) rfl (by unfold maxLen; omega) nought_oct (fun e => by injection e with e; omega)
      obtain ⟨⟨u0, hu0⟩, hf0⟩ := hrow.at (k := k) (by rw [upTo_length]; exact hlt)
      have hpast := World.setCell_alloc_past (w := wr) (.cells #[.int .u8 0, .int .u8 0, .int .u8 0, .int .u8 0] 5) w.heap.size k (.slice (some ⟨wr.heap.size, 0, none⟩) 4 4) hb
      have hrow1 := hrow.stored k hoff
      have hg1 := (hgr.trans hgA).grown (grown_set (wr.alloc (.cells #[.int .u8 0, .int .u8 0, .int .u8 0, .int .u8 0] 5)) w.heap.size k (.slice (some ⟨wr.heap.size, 0, none⟩) 4 4)) (fun j hj => by cases hj; exact Nat.le_refl _)
      rw [upTo_set (fun _ => nought) hlt, hpast] at hrow1
      rw [hpast] at hg1
      have HR1 : Hid (Rowing Bs _ _ _ _ _) := hrow1
      clear hrow1 hpast
      clear HR hgA hrow hoff
      go_wp2
      go_roundw
      case rel => first | exact ⟨k + 1, by omega, by go_num, HR1, hg1⟩ | ((repeat apply Exists.intro); exact ⟨⟨k + 1, by omega, by go_num, HR1, hg1⟩, rfl⟩)
      case measure => simp [intOf]; omega
    · obtain rfl : k = 9 := by omega
      go_wp2
      go_ret
      exact ⟨rfl, by rw [← hend.out]; exact HR.out, hgr⟩

end Go.Proofs.Ytjggiameajndgab

/-
  What the program's array.behind returns. Nothing old turns.
-/
namespace Go.Proofs.Ytjggiameajndgab
open Go.RowKit

set_option maxRecDepth 20000 in
set_option maxHeartbeats 6400000 in
theorem arrBehind_any (v dv : Value) (ls : List (List Int)) (s : Nat) (x : DeedP) (w : World) (h : Bss w v ls) (hl : ls.length = 4) (h4 : ∀ b ∈ ls, b.length = 4) (hs : s < 3) (hd : DeedV w dv x) (hr : wrongE x = 0) :
    Calls Try.prog 74 #[v, .int .i64 s, dv] w fun e w' => ∃ r, e = .returned r ∧ Bss w' r (planOut (doL (spreadTo ls s 9) x) s) ∧ Grow w w' := by
  obtain ⟨i0, hi, hz0, hz1, hz2⟩ := info_parts Try.infoS
  have HD : Hid (DeedV w dv x ∧ wrongE x = 0 ∧ ∀ b ∈ ls, b.length = 4) := ⟨hd, hr, h4⟩
  obtain ⟨tv, rfl, hb⟩ := hd
  obtain ⟨d1, d2, d3, rfl⟩ := hb.form
  obtain ⟨av, cv, rfl, hv1, hv2⟩ := h.form'
  have HV : Hid (Bss w (.slice av ls.length cv) ls) := h
  rw [hl] at hv1 HV ⊢
  have HE : Hid (∀ k, k < 4 → ∃ b off x1 x2 x3, av = some ⟨b, off, none⟩ ∧ w.cell? ⟨b, off + k, none⟩ = some (.slice x1 x2 x3) ∧ Bs w (.slice x1 x2 x3) (ls.getD k [])) := fun k hk => by
    obtain ⟨b, off, u, e1, e2, e3⟩ := h.elem (k := k) (by omega) []
    obtain ⟨x1, x2, x3, rfl⟩ := e3.form
    exact ⟨b, off, x1, x2, x3, e1, e2, e3⟩
  have HL : Hid (ls.length = 4) := hl
  obtain ⟨W, hW⟩ : ∃ W, W = w.alloc (.cells #[.int .i64 x.k, .int .i64 x.n, .int .i64 x.m, .slice d1 d2 d3] 25) := ⟨_, rfl⟩
  have hgW : Grow w W := by rw [hW]; exact Grow.alloc _ _
  have hbW : W.heap[w.heap.size]? = some (.cells #[.int .i64 x.k, .int .i64 x.n, .int .i64 x.m, .slice d1 d2 d3] 25 (0, 0)) := by rw [hW]; exact heap_alloc_new w _
  have q0 : W.cell? ⟨w.heap.size, 0, none⟩ = some (.int .i64 x.k) := row_at hbW 0 rfl
  have q1 : W.cell? ⟨w.heap.size, 1, none⟩ = some (.int .i64 x.n) := row_at hbW 1 rfl
  have q2 : W.cell? ⟨w.heap.size, 2, none⟩ = some (.int .i64 x.m) := row_at hbW 2 rfl
  have q3 : W.cell? ⟨w.heap.size, 3, none⟩ = some (.slice d1 d2 d3) := row_at hbW 3 rfl
  have hN := modelNew_row W
  clear hb h h4 hr hl hbW
  go_enter Try.func74, Try.ntmps74
  go_wp2_with fail
  rw [← hW]
  refine hN.mono ?_
  rintro e w1 ⟨rfl, hR0, hg1⟩
  clear hN hW
  have HR0 : Hid (Rowing Bs W.heap.size 23 w1 (.slice (some ⟨W.heap.size, 0, none⟩) 9 9) (fillB ls s 0)) := hR0
  have q0' := hg1.at q0
  have q1' := hg1.at q1
  have q2' := hg1.at q2
  have q3' := hg1.at q3
  clear hR0
  go_wp2_with fail
  go_loopw [19] (fun i wr => ∃ k : Nat, k ≤ 4 ∧ i = .int .i64 k ∧ Hid (Rowing Bs W.heap.size 23 wr (.slice (some ⟨W.heap.size, 0, none⟩) 9 9) (fillB ls s k)) ∧ Grow W wr) (fun i _ => 4 - (intOf i).toNat)
  case atStart => exact ⟨0, by omega, rfl, HR0, hg1⟩
  case round =>
    obtain ⟨k, hk, rfl, HR, hgr⟩ := hrel
    clear HR0
    by_cases hlt : k < 4
    · have hdk : decide ((k : Int) < 4) = true := by simp; omega
      by_cases hks : k = 3 - s
      · have hB := blockAt_no k s wr hs hks
        have HR1 : Hid (Rowing Bs W.heap.size 23 wr (.slice (some ⟨W.heap.size, 0, none⟩) 9 9) (fillB ls s (k + 1))) := by rw [Hid, fillB, if_pos hks]; exact HR.out
        clear HR hks
        go_wp2_with fail
        refine hB.mono ?_
        rintro e w2 ⟨rfl, rfl⟩
        clear hB
        go_wp2_with fail
        go_roundw
        case rel => first | exact ⟨k + 1, by omega, by go_num, HR1, hgr⟩ | ((repeat apply Exists.intro); exact ⟨⟨k + 1, by omega, by go_num, HR1, hgr⟩, rfl⟩)
        case measure => simp [intOf]; omega
      · have hB := blockAt_yes k s wr hs hlt hks
        have hb9 := bkN_lt hs hlt hks
        obtain ⟨b, off, x1, x2, x3, rfl, e2, e3⟩ := HE.out k hlt
        have e2' := (hgW.trans hgr).at e2
        obtain ⟨⟨u0, hu0⟩, hf0⟩ := HR.out.at (k := bkN s k) (by rw [fillB_length]; exact hb9)
        have hst := HR.out.stored (bkN s k) (Off.old (g := some W.heap.size) Bs.stays e3 (hgW.trans hgr) (fun j hj => by cases hj; exact hgW.size))
        have HR1 : Hid (Rowing Bs W.heap.size 23 (wr.setCell ⟨W.heap.size, bkN s k, none⟩ (.slice x1 x2 x3)) (.slice (some ⟨W.heap.size, 0, none⟩) 9 9) (fillB ls s (k + 1))) := by rw [Hid, fillB, if_neg hks]; exact hst
        have hg3 := hgr.set (g := W.heap.size) (k := bkN s k) (Nat.le_refl _) (.slice x1 x2 x3)
        clear HR hst hks e2 e3
        generalize bkN s k = bk at *
        have hb9' : (bk : Int) < 9 := by omega
        go_wp2_with fail
        refine hB.mono ?_
        rintro e w2 ⟨rfl, rfl⟩
        clear hB
        go_wp2_with fail
        go_roundw
        case rel => first | exact ⟨k + 1, by omega, by go_num, HR1, hg3⟩ | ((repeat apply Exists.intro); exact ⟨⟨k + 1, by omega, by go_num, HR1, hg3⟩, rfl⟩)
        case measure => simp [intOf]; omega
    · have HK : Hid (k = 4) := by rw [Hid]; omega
      have HS9 : Hid (Bss wr (.slice (some ⟨W.heap.size, 0, none⟩) 9 9) (spreadTo ls s 9)) := by
        have := HR.out.done
        rw [HK.out, fillB_all ls hs] at this
        exact this
      have hgw := hgW.trans hgr
      have hsb := spread_blocks HD.out.2.2 HL.out s 9
      have hDo := modelDo_any (.slice (some ⟨W.heap.size, 0, none⟩) 9 9) (.agg #[.int .i64 x.k, .int .i64 x.n, .int .i64 x.m, .slice d1 d2 d3]) (spreadTo ls s 9) x wr HS9.out (HD.out.1.grow hgw) (spreadTo_length _ _ _) hsb HD.out.2.1
      have Hb4 : Hid (∀ b ∈ doL (spreadTo ls s 9) x, b.length = 4) := doL_blocks hsb (spreadTo_length _ _ _) HD.out.2.1
      have Hb9 : Hid ((doL (spreadTo ls s 9) x).length = 9) := by rw [Hid, doL_length, spreadTo_length]
      have HPO : Hid (planOut (doL (spreadTo ls s 9) x) s = (outB (doL (spreadTo ls s 9) x) s 4).set (3 - s) (xorAll (rowB (doL (spreadTo ls s 9) x) s 4))) := planOut_behind _ hs
      have t0 := hgr.at q0
      have t1 := hgr.at q1
      have t2 := hgr.at q2
      have t3 := hgr.at q3
      clear HR HK hsb HS9 q0 q1 q2 q3
      go_wp2_with fail
      refine hDo.mono ?_
      rintro e w6 ⟨rb, rfl, hrb, hg6⟩
      clear hDo t0 t1 t2 t3
      have hgw6 := hgw.trans hg6
      generalize hbl : doL (spreadTo ls s 9) x = bl at *
      have HBL : Hid (doL (spreadTo ls s 9) x = bl) := hbl
      clear hbl
      obtain ⟨rba, rbc, rfl, hrb1, hrb2⟩ := hrb.form'
      rw [Hb9.out] at hrb1 hrb ⊢
      obtain ⟨bb, boff, bu, rfl, -, -⟩ := hrb.elem (k := 0) (by rw [Hb9.out]; omega) []
      have hmk := Try.made4S w6
      have hstart : Hid (RowingF (fun j => w6.heap.size < j) Bs w6.heap.size 23 (w6.alloc (.cells #[.slice none 0 0, .slice none 0 0, .slice none 0 0, .slice none 0 0] 23)) (.slice (some ⟨w6.heap.size, 0, none⟩) 4 4) (outB bl s 0)) := RowingF.made4 _ w6
      have hgd : Grow w6 (w6.alloc (.cells #[.slice none 0 0, .slice none 0 0, .slice none 0 0, .slice none 0 0] 23)) := Grow.alloc _ _
      have hsz7 : w6.heap.size + 1 ≤ (w6.alloc (.cells #[.slice none 0 0, .slice none 0 0, .slice none 0 0, .slice none 0 0] 23)).heap.size := by simp
      have HRB : Hid (∀ k, k < 9 → ∃ x1 x2 x3, w6.cell? ⟨bb, boff + k, none⟩ = some (.slice x1 x2 x3) ∧ Bs w6 (.slice x1 x2 x3) (bl.getD k [])) := fun k hk => by
        obtain ⟨b', off', u', hb', hu', hr'⟩ := hrb.elem (k := k) (by rw [Hb9.out]; omega) []
        injection hb' with hb'
        cases hb'
        obtain ⟨x1, x2, x3, rfl⟩ := hr'.form
        exact ⟨x1, x2, x3, hu', hr'⟩
      clear hrb
      go_wp2_with fail
      go_loopw [12, 45] (fun l i wr => ∃ k : Nat, k ≤ 4 ∧ i = .int .i64 k ∧ Hid (RowingF (fun j => j = w6.heap.size) Bs (w6.heap.size + 1) 23 wr l (rowB bl s k)) ∧ Hid (RowingF (fun j => w6.heap.size < j) Bs w6.heap.size 23 wr (.slice (some ⟨w6.heap.size, 0, none⟩) 4 4) (outB bl s k)) ∧ Grow w6 wr ∧ w6.heap.size + 1 ≤ wr.heap.size) (fun _ i _ => 4 - (intOf i).toNat)
      case atStart => exact ⟨0, by omega, rfl, RowingF.nil _ _ _ _ _, hstart, hgd, hsz7⟩
      case round =>
        obtain ⟨q, hq, rfl, HL1, HO, hgr7, hsz⟩ := hrel
        clear hstart hmk hgd hsz7
        by_cases hlt4 : q < 4
        · have hdk : decide ((q : Int) < 4) = true := by simp; omega
          by_cases hqs : q = 3 - s
          · have hB := blockAt_no q s wr hs hqs
            have HL8 : Hid (RowingF (fun j => j = w6.heap.size) Bs (w6.heap.size + 1) 23 wr u12 (rowB bl s (q + 1))) := by rw [Hid, rowB, if_pos hqs]; exact HL1.out
            have HO8 : Hid (RowingF (fun j => w6.heap.size < j) Bs w6.heap.size 23 wr (.slice (some ⟨w6.heap.size, 0, none⟩) 4 4) (outB bl s (q + 1))) := by rw [Hid, outB, if_pos hqs]; exact HO.out
            clear HL1 HO hqs
            go_wp2_with fail
            refine hB.mono ?_
            rintro e w2 ⟨rfl, rfl⟩
            clear hB
            go_wp2_with fail
            go_roundw
            case rel => first | exact ⟨q + 1, by omega, by go_num, HL8, HO8, hgr7, hsz⟩ | ((repeat apply Exists.intro); exact ⟨⟨q + 1, by omega, by go_num, HL8, HO8, hgr7, hsz⟩, rfl⟩)
            case measure => simp [intOf]; omega
          · have hB := blockAt_yes q s wr hs hlt4 hqs
            have hb9 := bkN_lt hs hlt4 hqs
            obtain ⟨x1, x2, x3, hu', hr'⟩ := HRB.out (bkN s q) hb9
            have hu7 := hgr7.at hu'
            have hrl := rowB_length bl s q
            obtain ⟨⟨uo, hcu⟩, hfu⟩ := HO.out.plain.at (k := q) (by rw [outB_length]; exact hlt4)
            have hbase := fun j hj => (HL1.out.base j hj).1
            have hoff := fun G hG => OffG.old (G := G) Bs.stays hr' hgr7 hG
            have HO8 : Hid (RowingF (fun j => w6.heap.size < j) Bs w6.heap.size 23 (wr.setCell ⟨w6.heap.size, q, none⟩ (.slice x1 x2 x3)) (.slice (some ⟨w6.heap.size, 0, none⟩) 4 4) (outB bl s (q + 1))) := by
              have := HO.out.stored q (hoff (fun j => w6.heap.size < j ∨ some w6.heap.size = some j) (fun j hj => by
                rcases hj with hj | hj
                · omega
                · injection hj with hj; omega))
              rw [Hid, outB, if_neg hqs]
              exact this
            have hrowL := HL1.out.set (A := w6.heap.size) rfl (fun e => by have := hbase _ e; omega) q (.slice x1 x2 x3)
            have hoffL : OffG Bs (fun j => j = w6.heap.size ∨ u12.ownBlock = some j) (wr.setCell ⟨w6.heap.size, q, none⟩ (.slice x1 x2 x3)) (.slice x1 x2 x3) (bl.getD (bkN s q) []) := (hoff _ (fun j hj => by
                rcases hj with hj | hj
                · omega
                · have := hbase j hj; omega)).step (grownIn_set wr w6.heap.size q _ (.inl rfl))
            have hG8 : Grow w6 (wr.setCell ⟨w6.heap.size, q, none⟩ (.slice x1 x2 x3)) := hgr7.set (by show w6.heap.size ≤ w6.heap.size; omega) _
            have hT : rowB bl s q ++ [bl.getD (bkN s q) []] = rowB bl s (q + 1) := by rw [rowB, if_neg hqs]
            have hsz8 : w6.heap.size + 1 ≤ (wr.setCell ⟨w6.heap.size, q, none⟩ (.slice x1 x2 x3)).heap.size := by simpa using hsz
            have hne8 : (wr.setCell ⟨w6.heap.size, q, none⟩ (.slice x1 x2 x3)).cell? ⟨bb, boff + bkN s q, none⟩ = some (.slice x1 x2 x3) := hG8.at hu'
            clear HL1 HO hoff hr' hu' hqs
            generalize bkN s q = bk at *
            have hb9' : (bk : Int) < 9 := by omega
            go_wp2_with fail
            refine hB.mono ?_
            rintro e w2 ⟨rfl, rfl⟩
            clear hB
            go_wp2_with (first
              | (at_builtin; refine wpList_pushF rfl (.tmp 62) (.tmp 67) 22 rfl i0 (.slice none 0 0) 24 Try.underlying22 hi hz0 hz1 hz2 rfl w6 hG8 (by omega) hsz8 rfl hrowL rfl hoffL w2.heap.size (by simp) rfl (by omega) (by omega) ?_; rintro v1 w8 - hrow8 hg8 hgi8))
            rw [hT] at hrow8
            have HO9 := HO8.out.kept (hgi8.mono (fun j hj => by have := hbase j hj; show w6.heap.size < j; omega)) (fun j hj => by cases hj; exact Nat.lt_irrefl _)
            have HO9' : Hid (RowingF (fun j => w6.heap.size < j) Bs w6.heap.size 23 w8 (.slice (some ⟨w6.heap.size, 0, none⟩) 4 4) _) := HO9
            have hsz9 : w6.heap.size + 1 ≤ w8.heap.size := Nat.le_trans hsz8 hgi8.size
            clear HO9 HO8
            go_wp2_with fail
            go_roundw
            case rel => first | exact ⟨q + 1, by omega, by go_num, hrow8, HO9', hg8, hsz9⟩ | ((repeat apply Exists.intro); exact ⟨⟨q + 1, by omega, by go_num, hrow8, HO9', hg8, hsz9⟩, rfl⟩)
            case measure => simp [intOf]; omega
        · have HQ : Hid (q = 4) := by rw [Hid]; omega
          have HLd : Hid (Bss wr u12 (rowB bl s 4)) := by have := HL1.out.done; rw [HQ.out] at this; exact this
          have HOp : Hid (Rowing Bs w6.heap.size 23 wr (.slice (some ⟨w6.heap.size, 0, none⟩) 4 4) (outB bl s 4)) := by have := HO.out.plain; rw [HQ.out] at this; exact this
          have hoct := xorAll_octets HLd.out.octets
          have hSp := spare_any (s : Int) wr (by omega) (by omega)
          rw [show (3 - (s : Int) % 4) = ((3 - s : Nat) : Int) by omega] at hSp
          have hXr := all_row u12 (rowB bl s 4) wr HLd.out (rowB_blocks Hb4.out Hb9.out hs 4 (by omega))
          have Hol : Hid ((outB bl s 4).length = 4) := outB_length bl s 4
          have htl : 3 - s < 4 := by omega
          clear HL1 HO HLd
          generalize 3 - s = t at *
          have htl' : (t : Int) < 4 := by omega
          go_wp2_with fail
          refine hSp.mono ?_
          rintro e w7 ⟨rfl, rfl⟩
          clear hSp
          go_wp2_with fail
          refine hXr.mono ?_
          rintro e w8 ⟨rfl, HX, hg8⟩
          clear hXr
          have HO8 : Hid (Rowing Bs w6.heap.size 23 w8 (.slice (some ⟨w6.heap.size, 0, none⟩) 4 4) (outB bl s 4)) := HOp.out.grow hg8
          obtain ⟨⟨uo, hcu⟩, hfu⟩ := HO8.out.at (k := t) (by rw [Hol.out]; exact htl)
          have hst := HO8.out.stored t (Off.row (g := some w6.heap.size) HX.out (xorAll_length _) (by unfold maxLen; omega) hoct (fun e => by injection e with e; omega))
          rw [← HPO.out] at hst
          have HS : Hid (Bss (w8.setCell ⟨w6.heap.size, t, none⟩ (.slice (some ⟨w7.heap.size, 0, none⟩) 4 4)) (.slice (some ⟨w6.heap.size, 0, none⟩) 4 4) (planOut bl s)) := hst.done
          have hgl8 : Grow w6 (w8.setCell ⟨w6.heap.size, t, none⟩ (.slice (some ⟨w7.heap.size, 0, none⟩) 4 4)) := (hgr7.trans hg8).set (by show w6.heap.size ≤ w6.heap.size; omega) _
          clear HOp HO8 hst HX hoct HPO Hol
          go_wp2_with fail
          go_ret
          rw [HBL.out]
          exact ⟨_, rfl, HS.out, hgw6.trans hgl8⟩

end Go.Proofs.Ytjggiameajndgab

/-
  A row of numbers of the call's own, whose whole block holds numbers: nothing of an array lies there. Append of one number.
-/
namespace Go.Proofs.Ytjggiameajndgab
open Go.RowKit

/-- A block of numbers. -/
def Nums (g : Nat) (w : World) : Prop := ∃ cs t mk, w.heap[g]? = some (.cells cs t mk) ∧ ∀ u ∈ cs.toList, ∃ n, u = Value.int .i64 n

theorem Nums.cell {g : Nat} {w : World} (h : Nums g w) {off : Nat} {u : Value} (hu : w.cell? ⟨g, off, none⟩ = some u) : ∃ n, u = .int .i64 n := by
  obtain ⟨cs, t, mk, h1, h2⟩ := h
  rw [cell_of_row w g off _ _ _ h1] at hu
  exact h2 u (by simpa using Array.mem_of_getElem? hu)

theorem Nums.bytes {g : Nat} {w : World} (h : Nums g w) {u : Value} {l : List Int} (hb : Bs w u l) : Off Bs (some g) w u l := fun w' hg => by
  obtain ⟨ao, cap, hv, h1, h2, h3, h4, h5⟩ := hb
  refine ⟨ao, cap, hv, h1, h2, h3, h4, fun hp => ?_⟩
  obtain ⟨b, off, e, hc⟩ := h5 hp
  refine ⟨b, off, e, fun i hi => hg.cell (hc i hi) (fun e => ?_)⟩
  simp only [Option.some.injEq] at e
  subst e
  obtain ⟨n, this⟩ := h.cell (hc i hi)
  cases this

theorem Nums.row {α : Type} {g : Nat} {Q : World → Value → α → Prop} {w : World} (h : Nums g w) {v : Value} {xs : List α} (hs : Sl Q w v xs) (hQ : ∀ u x, Q w u x → ∃ a b c, u = .slice a b c) : RowOff (some g) v xs.length := fun hp b hb e => by
  obtain ⟨ao, cap, rfl, h1, h2, h3, h4⟩ := hs
  obtain ⟨b', off, rfl, hc⟩ := h4 hp
  simp only [Value.ownBlock, Option.some.injEq] at hb e
  subst hb e
  obtain ⟨u, hu, hr⟩ := hc 0 (xs[0]) (by simp [show 0 < xs.length by omega])
  obtain ⟨n, rfl⟩ := h.cell hu
  obtain ⟨_, _, _, this⟩ := hQ _ _ hr
  cases this

theorem Nums.bss {g : Nat} {w : World} (h : Nums g w) {v : Value} {ls : List (List Int)} (hs : Bss w v ls) : BssX (some g) w v ls :=
  ⟨Sl.lift (fun _ _ hb => h.bytes hb) hs (Grow.refl _), h.row hs (fun _ _ hb => by obtain ⟨a, b, c, e⟩ := hb.form; exact ⟨a, b, c, e⟩)⟩

theorem Nums.dks {g : Nat} {w : World} (h : Nums g w) {v : Value} {ds : List (List (List Int))} (hs : Dks w v ds) : DksX (some g) w v ds :=
  ⟨Sl.lift (fun _ _ hb => h.bss hb) hs (Grow.refl _), h.row hs (fun _ _ hb => by obtain ⟨a, c, e⟩ := Sl.form hb; exact ⟨a, _, c, e⟩)⟩

theorem Nums.arr {g : Nat} {w : World} (h : Nums g w) {v : Value} {b : ArrP} (hv : ArrV w v b) (hi : b.is = []) : ArrX (some g) w v b := by
  obtain ⟨dv, iv, e, h1, h2⟩ := hv
  refine ⟨dv, iv, e, h.dks h1, ?_⟩
  obtain ⟨ao, cap, hv, k1, k2, k3, k4⟩ := h2
  refine ⟨⟨ao, cap, hv, k1, k2, k3, fun hp => ?_⟩, fun hp => ?_⟩
  · rw [hi] at hp; simp at hp
  · rw [hi] at hp; simp at hp

/-- The slice v of the call's own holds the numbers ns, and its block numbers alone. -/
def NumRow (B : Nat) (e : TypeId) (w : World) (v : Value) (ns : List Int) : Prop := w.ownsRow B e 1 v ns.length (ns.map (Value.int .i64)) ∧ ∀ g, v.ownBlock = some g → Nums g w

theorem NumRow.nil (B : Nat) (e : TypeId) (w : World) : NumRow B e w (.slice none 0 0) [] := ⟨World.ownsRow_nil _ _ _ _, fun g h => by cases h⟩

theorem NumRow.kept {B : Nat} {e : TypeId} {w w' : World} {v : Value} {ns : List Int} {G : Nat → Prop} (h : NumRow B e w v ns) (hg : GrownIn w w' G) (hn : ∀ k, v.ownBlock = some k → ¬ G k) : NumRow B e w' v ns := by
  refine ⟨own_kept h.1 hg hn, fun g hv => ?_⟩
  obtain ⟨cs, t, mk, h1, h2⟩ := h.2 g hv
  refine ⟨cs, t, mk, (hg.block g ?_ (hn g hv)).trans h1, h2⟩
  by_cases hlt : g < w.heap.size
  · exact hlt
  · rw [Array.getElem?_eq_none (Nat.le_of_not_lt hlt)] at h1; cases h1

theorem NumRow.grow {B : Nat} {e : TypeId} {w w' : World} {v : Value} {ns : List Int} (h : NumRow B e w v ns) (hg : Grow w w') : NumRow B e w' v ns := h.kept (hg.inn (fun _ => False)) (fun _ _ h => h)

theorem NumRow.base {B : Nat} {e : TypeId} {w : World} {v : Value} {ns : List Int} (h : NumRow B e w v ns) : ∀ k, v.ownBlock = some k → B ≤ k ∧ k < w.heap.size := h.1.lt

theorem NumRow.done {B : Nat} {e : TypeId} {w : World} {v : Value} {ns : List Int} (h : NumRow B e w v ns) : Sl IntV w v ns :=
  Sl.of_own h.1 rfl (fun i u x hu hx => by
    rw [List.getElem?_map] at hu
    rw [hx] at hu
    simp at hu
    exact hu.symm)

theorem zeroNums (k : Nat) : ∀ u ∈ (Builtin.zeroCells (Value.cells (.int .i64 0)) k).toList, ∃ n, u = Value.int .i64 n := by
  intro u hu
  simp only [Builtin.zeroCells, Array.toList_map, List.mem_map] at hu
  obtain ⟨j, _, rfl⟩ := hu
  exact ⟨0, by simp [Value.cells, Nat.mod_one]⟩

/-- An append of one number. -/
theorem run_append_num {P : Program} (w : World) (t ty e : TypeId) (i : TypeInfo) (ht : P.underlying t = some (.slice e)) (hi : P.info? e = some i) (hz : i.zero = some (.int .i64 0)) (hsize : i.size = 1) (hby : i.bytes = 8)
    (B : Nat) (v : Value) (ns : List Int) (h : NumRow B e w v ns) (x : Int) (hbase : B ≤ w.heap.size) (hl : ns.length + 1 ≤ 1000000) (a : Addr) (hx : w.cell? a = some (.int .i64 x)) :
    ∃ g cap w', (Builtin.append_ #[t, t] ty #[v, .slice (some a) 1 1]).run P w = .ok (.slice (some ⟨g, 0, none⟩) (ns.length + 1) cap) w' ∧ NumRow B e w' (.slice (some ⟨g, 0, none⟩) (ns.length + 1) cap) (ns ++ [x]) ∧ w.grownBy w' v.ownBlock := by
  have hnews : ∀ (j : Nat) u, [Value.int .i64 x][j]? = some u → w.cell? (a.add j) = some u := by
    intro j u hj
    match j, hj with
    | 0, hj =>
      simp at hj
      subst hj
      simpa [Addr.add] using hx
  have h1 : ∀ u ∈ [Value.int .i64 x], u.oneCell' = true := by intro u hu; simp at hu; subst hu; rfl
  obtain ⟨g, cap, w', hr, h2, h3, h4, h5⟩ := run_append_lies (P := P) w t ty B e i (.int .i64 0) 1 8 ht hi hz hsize hby rfl (by decide) v ns.length _ h.1 a 1 1 [.int .i64 x] rfl hnews h1 (by decide) (by unfold maxLen; omega) (by omega) hbase _ rfl
  refine ⟨g, cap, w', hr, ⟨by simpa using h2, fun g' hg' => ?_⟩, h3⟩
  cases hg'
  have hmem : ∀ u ∈ ns.map (Value.int .i64), ∃ n, u = Value.int .i64 n := fun u hu => by
    obtain ⟨n, _, rfl⟩ := List.mem_map.1 hu
    exact ⟨n, rfl⟩
  have hone : ∀ u ∈ [Value.int .i64 x], ∃ n, u = Value.int .i64 n := fun u hu => ⟨x, by simpa using hu⟩
  rcases h.1.2 with ⟨hv, h0⟩ | ⟨g0, cap0, cur, hv, hb, hg0, hnc, hcm, hcs, htk⟩
  · subst hv
    have hrn := run_append_nil (P := P) w t ty e i (.int .i64 0) ht hi hz a 1 1 [.int .i64 x] (by rw [hsize]; rfl) hnews (by decide) (by decide) (by rw [hby]; decide)
    rw [hrn] at hr
    injection hr with e1 e2
    injection e1 with e3 _ _
    injection e3 with e3
    injection e3 with e3 _ _
    subst e2 e3
    refine ⟨_, _, _, heap_alloc_new w.drew _, fun u hu => ?_⟩
    rw [Array.toList_append, List.mem_append] at hu
    rcases hu with hu | hu
    · exact hone u hu
    · exact zeroNums _ u hu
  · subst hv
    by_cases hroom : ns.length + 1 ≤ cap0
    · have hrr := run_append_room (P := P) w t ty e i ht hi g0 ns.length cap0 cur hg0 a 1 1 [.int .i64 x] (by rw [hsize]; rfl) hnews h1 hroom (by rw [hsize]; simp; omega)
      rw [hrr] at hr
      injection hr with e1 e2
      injection e1 with e3 _ _
      injection e3 with e3
      injection e3 with e3 _ _
      subst e2 e3
      refine ⟨_, _, _, setRow_heap w g0 cur _ e _ hg0, fun u hu => ?_⟩
      obtain ⟨cs, t', mk, hg1, hall⟩ := h.2 g0 rfl
      rw [hg0] at hg1
      injection hg1 with hg1
      injection hg1 with hg1 _ _
      subst hg1
      simp only [List.mem_append] at hu
      rcases hu with (hu | hu) | hu
      · exact hall u (List.mem_of_mem_take hu)
      · exact hone u hu
      · exact hall u (List.mem_of_mem_drop hu)
    · have holds : ∀ (j : Nat) u, (ns.map (Value.int .i64))[j]? = some u → w.cell? ((⟨g0, 0, none⟩ : Addr).add j) = some u := h.1.cells (g := g0) rfl
      have hrg := run_append_grow (P := P) w t ty e i (.int .i64 0) ht hi hz ⟨g0, 0, none⟩ ns.length cap0 _ (by rw [hsize]; simp) holds a 1 1 [.int .i64 x] (by rw [hsize]; rfl) hnews (by omega) (by omega) (growslice_fits (by omega) (by rw [hby]; omega))
      rw [hrg] at hr
      injection hr with e1 e2
      injection e1 with e3 _ _
      injection e3 with e3
      injection e3 with e3 _ _
      subst e2 e3
      refine ⟨_, _, _, heap_alloc_new w.drew _, fun u hu => ?_⟩
      rw [Array.toList_append, Array.toList_append, List.mem_append, List.mem_append] at hu
      rcases hu with (hu | hu) | hu
      · exact hmem u hu
      · exact hone u hu
      · exact zeroNums _ u hu

/-- The same, for the walk. -/
theorem wpList_push_num {P : Program} {w : World} {ops : Array Oper} {rest : List Oper} {o : Oper} {a : Act} {Q : Exit → Act → World → Prop} (hgd : o.guard = none) (s y : Operand) (t : TypeId)
    (ho : o.op = .call { callee := .builtin .append, args := #[s, y], argTypes := #[t, t] })
    (e : TypeId) (i : TypeInfo) (ht : P.underlying t = some (.slice e)) (hi : P.info? e = some i) (hz : i.zero = some (.int .i64 0)) (hsize : i.size = 1) (hby : i.bytes = 8)
    (B : Nat) {v : Value} {ns : List Int} (hs : a.eval s = v) (h : NumRow B e w v ns) (x : Int) (hB : B ≤ w.heap.size) (hl : ns.length + 1 ≤ 1000000)
    (H : Nat) (hH : w.heap.size = H) (hy : a.eval y = .slice (some ⟨H, 0, none⟩) 1 1)
    (hK : ∀ g cap w', NumRow B e w' (.slice (some ⟨g, 0, none⟩) (ns.length + 1) cap) (ns ++ [x]) → GrownIn w w' (fun k => v.ownBlock = some k) → wpList P ops Q rest (a.put o.dst (.slice (some ⟨g, 0, none⟩) (ns.length + 1) cap)) w') :
    wpList P ops Q (o :: rest) a (w.alloc (.cells #[.int .i64 x] e)) := by
  subst hH
  have hgA : Grow w (w.alloc (.cells #[.int .i64 x] e)) := Grow.alloc _ _
  refine wpList_plain hgd fun _ hK' => ?_
  obtain ⟨g, cap, w', hr, h2, h3⟩ := run_append_num (P := P) (w.alloc (.cells #[.int .i64 x] e)) t o.type e i ht hi hz hsize hby B v ns (h.grow hgA) x (by simp; omega) hl ⟨w.heap.size, 0, none⟩ (row_at (heap_alloc_new w _) 0 rfl)
  unfold Oper.wp execOp
  simp only [ho, resolve, invoke, builtin, Sem.run_bind, Sem.run_pure, Result.andThen_ok, List.map_toArray, List.map_cons, List.map_nil, hs, hy, hr]
  exact hK' _ _ (hK g cap w' h2 ((hgA.inn _).trans (GrownIn.of_by h3 (fun k hk => hk))))

end Go.Proofs.Ytjggiameajndgab
