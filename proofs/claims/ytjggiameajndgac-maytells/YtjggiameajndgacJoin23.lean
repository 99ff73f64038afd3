import Derived.Test.YtjggiameajndgacJoin22
/-
  What the program's may.own and may.Lists return. Nothing old turns.
-/
namespace Go.Proofs.Ytjggiameajndgac
open Go.RowKit

theorem rightB_all {ls : List (List Int)} (h : rightBlocksB ls = true) : ls.length = 9 ∧ ∀ b ∈ ls, b.length = 4 := by
  unfold rightBlocksB at h
  simp at h
  exact ⟨h.2, h.1⟩

theorem rightB_at {ls : List (List Int)} (h : rightBlocksB ls = true) {k : Nat} (hk : k < 9) : (ls.getD k []).length = 4 := by
  obtain ⟨h9, h4⟩ := rightB_all h
  exact h4 _ (getD_mem (by omega))

theorem upTo_own {ls : List (List Int)} (h : ls.length = 9) : upTo (fun k => ls.getD k []) 9 = ls := by
  rw [upTo_all]
  refine List.ext_getElem (by simp [h]) fun i h1 h2 => ?_
  simp [List.getD_eq_getElem?_getD, h2]

set_option maxRecDepth 20000 in
set_option maxHeartbeats 3200000 in
theorem mayOwn_any (v : Value) (ls : List (List Int)) (w : World) (h : Bss w v ls) (hl : rightBlocksB ls = true) :
    Calls Try.prog 70 #[v] w fun e w' => ∃ r, e = .returned r ∧ Bss w' r ls ∧ Grow w w' := by
  obtain ⟨h9, -⟩ := rightB_all hl
  have H4 : Hid (∀ k, k < 9 → (ls.getD k []).length = 4) := fun k hk => rightB_at hl hk
  have hend : Hid (upTo (fun k => ls.getD k []) 9 = ls) := upTo_own h9
  have HV : Hid (Bss w v ls) := h
  obtain ⟨av, cv, rfl⟩ := Sl.form h
  obtain ⟨b, off, c, he, -⟩ : ∃ b off u, av = some ⟨b, off, none⟩ ∧ w.cell? ⟨b, off + 0, none⟩ = some u := by
    obtain ⟨b, off, u, e, hu, -⟩ := h.elem (k := 0) (by omega) []
    exact ⟨b, off, u, e, hu⟩
  subst he
  have hc : ∀ k, k < 9 → ∃ a' n' c', w.cell? ⟨b, off + k, none⟩ = some (.slice a' n' c') ∧ Bs w (.slice a' n' c') (ls.getD k []) := fun k hk => by
    obtain ⟨b', off', u, e, hu, hr⟩ := h.elem (k := k) (by omega) []
    injection e with e
    injection e with e1 e2
    subst e1 e2
    obtain ⟨a', n', c', rfl⟩ := hr.form
    exact ⟨a', n', c', hu, hr⟩
  have hcap : 9 ≤ cv ∧ cv ≤ 9223372036854775807 := by
    obtain ⟨_, _, e1, g1, g2⟩ := h.form'
    injection e1 with _ e2 e3
    omega
  rw [h9]
  have hmk := Try.made9 w
  have hst : Hid (Rowing Bs w.heap.size 52 (w.alloc (.cells nines 52)) (.slice (some ⟨w.heap.size, 0, none⟩) 9 9) (upTo (fun k => ls.getD k []) 0)) := by rw [upTo_zero]; exact Rowing.made9 w
  clear h9 h hl HV
  generalize hf : (fun k => ls.getD k []) = f at *
  have HF : Hid (∀ k, ls.getD k [] = f k) := fun k => by rw [← hf]
  clear hf
  go_enter Try.func70, Try.ntmps70
  go_wp2
  go_loopw [10] (fun i wr => ∃ k : Nat, k ≤ 9 ∧ i = .int .i64 k ∧ Hid (Rowing Bs w.heap.size 52 wr (.slice (some ⟨w.heap.size, 0, none⟩) 9 9) (upTo f k)) ∧ Grow w wr) (fun i _ => 9 - (intOf i).toNat)
  case atStart => exact ⟨0, by omega, rfl, hst, Grow.alloc _ _⟩
  case round =>
    obtain ⟨k, hk9, rfl, HR, hgr⟩ := hrel
    clear hst hmk
    by_cases hlt : k < 9
    · obtain ⟨a', n', c', hu, hb⟩ := hc k hlt
      have hu' := hgr.at hu
      have hb' := hb.grow hgr
      have h4 := H4.out k hlt
      have hbs : w.heap.size < wr.heap.size := (HR.out.base _ rfl).2
      have hcall := bytesClone_some _ _ wr hb' (by omega) (by omega)
      clear hu hb hb' h4 hc
      go_wp2_with fail
      refine hcall.mono ?_
      rintro e w3 ⟨r3, rfl, hoff3, hg3⟩
      have hrow := HR.out.grow hg3
      obtain ⟨⟨u0, hu0⟩, hf0⟩ := hrow.at (k := k) (by rw [upTo_length]; exact hlt)
      have hoff := hoff3 (some w.heap.size) (fun j hj => by cases hj; exact hbs)
      obtain ⟨y1, y2, y3, rfl⟩ := hoff.here.form
      rw [HF.out k] at hoff
      have hrow1 := hrow.stored k hoff
      rw [upTo_set f hlt] at hrow1
      have hg4 := (hgr.trans hg3).grown (grown_set w3 w.heap.size k (.slice y1 y2 y3)) (fun j hj => by cases hj; exact Nat.le_refl _)
      have HR1 : Hid (Rowing Bs _ _ _ _ _) := hrow1
      clear HR hrow hoff hoff3 hrow1 hcall
      go_wp2
      go_roundw
      case rel => first | exact ⟨k + 1, by omega, by go_num, HR1, hg4⟩ | ((repeat apply Exists.intro); exact ⟨⟨k + 1, by omega, by go_num, HR1, hg4⟩, rfl⟩)
      case measure => simp [intOf]; omega
    · obtain rfl : k = 9 := by omega
      go_wp2
      go_ret
      exact ⟨_, rfl, by rw [← hend.out]; exact HR.out.done, hgr⟩

/-- Two lists of blocks, in a new row. -/
theorem FallLit {w : World} {u u' : Value} {x x' : List (List Int)} (h : BssP x u w) (h' : BssP x' u' w) {e : TypeId} : DksP [x, x'] (.slice (some ⟨w.heap.size, 0, none⟩) 2 2) (w.alloc (.cells #[u, u'] e)) :=
  Sl.lit2 (Sl.stays Bs.stays _ _ _ _ h (Grow.alloc _ _)) (Sl.stays Bs.stays _ _ _ _ h' (Grow.alloc _ _))

set_option maxRecDepth 20000 in
set_option maxHeartbeats 3200000 in
theorem mayLists_any (v sv : Value) (ls : List (List Int)) (x : StepP) (w : World) (h : Bss w v ls) (hl : rightBlocksB ls = true) (hs : StepV w sv x) :
    Calls Try.prog 41 #[v, sv] w fun e w' => ∃ r, e = .returned r ∧ Dks w' r (listsL ls x) ∧ Grow w w' := by
  obtain ⟨h9, h4⟩ := rightB_all hl
  have HOwn : Hid (∀ w1, Grow w w1 → Calls Try.prog 70 #[v] w1 fun e w' => ∃ r, e = .returned r ∧ Bss w' r ls ∧ Grow w1 w') := fun w1 hg => mayOwn_any v ls w1 (Bss.grow h hg) hl
  obtain ⟨dv, rfl, hbd, -⟩ := hs
  obtain ⟨d1, d2, d3, rfl⟩ := hbd.form
  obtain ⟨av, cv, rfl⟩ := Sl.form h
  obtain ⟨W, hW⟩ : ∃ W, W = w.alloc (.cells #[.int .i64 x.k, .int .i64 x.n, .int .i64 x.m, .int .i64 x.d.k, .int .i64 x.d.n, .int .i64 x.d.m, .slice d1 d2 d3] 56) := ⟨_, rfl⟩
  have H := heap_alloc_new w (.cells #[.int .i64 x.k, .int .i64 x.n, .int .i64 x.m, .int .i64 x.d.k, .int .i64 x.d.n, .int .i64 x.d.m, .slice d1 d2 d3] 56)
  have hgW : Grow w W := by rw [hW]; exact Grow.alloc _ _
  rw [← hW] at H
  have s0 : W.cell? ⟨w.heap.size, 0, none⟩ = some (.int .i64 x.k) := row_at H 0 rfl
  have s3 : W.cell? ⟨w.heap.size, 3, none⟩ = some (.int .i64 x.d.k) := row_at H 3 rfl
  have s4 : W.cell? ⟨w.heap.size, 4, none⟩ = some (.int .i64 x.d.n) := row_at H 4 rfl
  have s5 : W.cell? ⟨w.heap.size, 5, none⟩ = some (.int .i64 x.d.m) := row_at H 5 rfl
  have s6 : W.cell? ⟨w.heap.size, 6, none⟩ = some (.slice d1 d2 d3) := row_at H 6 rfl
  have hdeed : DeedV W (.agg #[.int .i64 x.d.k, .int .i64 x.d.n, .int .i64 x.d.m, .slice d1 d2 d3]) x.d := ⟨_, rfl, hbd.grow hgW⟩
  have hwr := modelWrong_any _ x.d W hdeed
  have HDo : Hid (∀ w1, Grow W w1 → wrongE x.d = 0 → Calls Try.prog 69 #[.slice av ls.length cv, .agg #[.int .i64 x.d.k, .int .i64 x.d.n, .int .i64 x.d.m, .slice d1 d2 d3]] w1 fun e w' => ∃ r, e = .returned r ∧ Bss w' r (doL ls x.d) ∧ Grow w1 w') := fun w1 hg h0 =>
    modelDo_any _ _ ls x.d w1 (Bss.grow h (hgW.trans hg)) (hdeed.grow hg) h9 h4 h0
  clear h hdeed h4 hl
  rw [h9] at HDo HOwn ⊢
  by_cases hw0 : wrongE x.d = 0
  · have hDo := fun w1 hg => HDo.out w1 hg hw0
    have HDo' : Hid (∀ w1, Grow W w1 → _) := hDo
    rw [hw0] at hwr
    clear HDo hDo
    by_cases x1 : x.k = 1
    · have HL : Hid (listsL ls x = [doL ls x.d]) := (if_pos hw0).trans (if_pos x1)
      rw [x1] at s0 hW ⊢
      clear x1 hw0 h9
      go_enter Try.func41, Try.ntmps41
      go_wp2_with fail
      rw [← hW]
      refine hwr.mono ?_
      rintro e w1 ⟨rfl, hg1⟩
      have t0 := hg1.at s0
      have t3 := hg1.at s3
      have t4 := hg1.at s4
      have t5 := hg1.at s5
      have t6 := hg1.at s6
      have hcall := HDo'.out _ hg1
      clear s0 s3 s4 s5 s6 hW hwr H
      go_wp2_with fail
      refine hcall.mono ?_
      rintro e w2 ⟨r, rfl, hr, hg2⟩
      obtain ⟨ar, cr, rfl⟩ := Sl.form hr
      have hgL := Grow.alloc w2 (.cells #[.slice ar (doL ls x.d).length cr] 41)
      have HF : Hid (Dks _ _ [doL ls x.d] ∧ Grow w _) := ⟨Sl.lit1 (Sl.stays Bs.stays _ _ _ _ hr hgL), ((hgW.trans hg1).trans hg2).trans hgL⟩
      clear hgL hr hcall
      generalize (doL ls x.d).length = nd at *
      go_wp2
      go_ret
      exact ⟨_, rfl, by rw [HL.out]; exact HF.out.1, HF.out.2⟩
    by_cases x2 : x.k = 2
    · have HL : Hid (listsL ls x = [ls, doL ls x.d]) := (if_pos hw0).trans ((if_neg x1).trans (if_pos x2))
      rw [x2] at s0 hW ⊢
      clear x1 x2 hw0 h9
      go_enter Try.func41, Try.ntmps41
      go_wp2_with fail
      rw [← hW]
      refine hwr.mono ?_
      rintro e w1 ⟨rfl, hg1⟩
      have t0 := hg1.at s0
      have t3 := hg1.at s3
      have t4 := hg1.at s4
      have t5 := hg1.at s5
      have t6 := hg1.at s6
      have hgW1 := hgW.trans hg1
      clear s0 s3 s4 s5 s6 hW hwr H
      go_wp2
      refine wp_region_stable Grow [IsV (.slice av 9 cv), BssP ls, IsV (.slice av 9 cv), IsV (.pointer (some ⟨w.heap.size, 3, none⟩)), IsV (.agg #[.int .i64 x.d.k, .int .i64 x.d.n, .int .i64 x.d.m, .slice d1 d2 d3]), BssP (doL ls x.d), DksP [ls, doL ls x.d], DksP [ls, doL ls x.d]] (by kernel_rfl) (by kernel_rfl) rfl Grow.refl (fun _ _ _ => Grow.trans) ?_ ?_ ?_
      · repeat (refine List.forall_mem_cons.2 ⟨by first | exact IsV.stable _ | exact BssP.stable _ | exact DksP.stable _, ?_⟩)
        exact fun R hR => nomatch hR
      · skip
        refine StepsS.cons ?_ fun v0 => ⟨_, _, by simp only [Act.put, List.setIfInBounds_toArray, List.set_cons_succ, List.set_cons_zero]; first | done | rfl, by simp only [List.nil_append]; first | done | rfl, ?_⟩
        · intro w1 hE hd
          clear hd
          go_wp2
          exact ⟨_, rfl, Grow.refl _, rfl⟩
        refine StepsS.cons ?_ fun v1 => ⟨_, _, by simp only [Act.put, List.setIfInBounds_toArray, List.set_cons_succ, List.set_cons_zero]; first | done | rfl, by simp only [List.nil_append, List.cons_append]; first | done | rfl, ?_⟩
        · intro w1 hE hd
          obtain rfl := IsV.eq (dep_at hd 0 rfl rfl rfl)
          clear hd
          have hc := HOwn.out _ (hgW1.trans hE.drew)
          go_wp2_with fail
          refine hc.mono ?_
          rintro e w4 ⟨r', rfl, hr', hg4⟩
          go_wp2_with fail
          exact ⟨_, rfl, hg4, hr'⟩
        refine StepsS.cons ?_ fun v2 => ⟨_, _, by simp only [Act.put, List.setIfInBounds_toArray, List.set_cons_succ, List.set_cons_zero]; first | done | rfl, by simp only [List.nil_append, List.cons_append]; first | done | rfl, ?_⟩
        · intro w1 hE hd
          clear hd
          go_wp2
          exact ⟨_, rfl, Grow.refl _, rfl⟩
        refine StepsS.cons ?_ fun v3 => ⟨_, _, by simp only [Act.put, List.setIfInBounds_toArray, List.set_cons_succ, List.set_cons_zero]; first | done | rfl, by simp only [List.nil_append, List.cons_append]; first | done | rfl, ?_⟩
        · intro w1 hE hd
          clear hd
          go_wp2
          exact ⟨_, rfl, Grow.refl _, rfl⟩
        refine StepsS.cons ?_ fun v4 => ⟨_, _, by simp only [Act.put, List.setIfInBounds_toArray, List.set_cons_succ, List.set_cons_zero]; first | done | rfl, by simp only [List.nil_append, List.cons_append]; first | done | rfl, ?_⟩
        · intro w1 hE hd
          obtain rfl := IsV.eq (dep_at hd 0 rfl rfl rfl)
          clear hd
          have p3 := hE.drew.at t3
          have p4 := hE.drew.at t4
          have p5 := hE.drew.at t5
          have p6 := hE.drew.at t6
          go_wp2
          exact ⟨_, rfl, Grow.refl _, rfl⟩
        refine StepsS.cons ?_ fun v5 => ⟨_, _, by simp only [Act.put, List.setIfInBounds_toArray, List.set_cons_succ, List.set_cons_zero]; first | done | rfl, by simp only [List.nil_append, List.cons_append]; first | done | rfl, ?_⟩
        · intro w1 hE hd
          obtain rfl := IsV.eq (dep_at hd 0 rfl rfl rfl)
          obtain rfl := IsV.eq (dep_at hd 1 rfl rfl rfl)
          clear hd
          have hc := HDo'.out _ (hg1.trans hE.drew)
          go_wp2_with fail
          refine hc.mono ?_
          rintro e w4 ⟨r', rfl, hr', hg4⟩
          go_wp2_with fail
          exact ⟨_, rfl, hg4, hr'⟩
        refine StepsS.cons ?_ fun v6 => ⟨_, _, by simp only [Act.put, List.setIfInBounds_toArray, List.set_cons_succ, List.set_cons_zero]; first | done | rfl, by simp only [List.nil_append, List.cons_append]; first | done | rfl, ?_⟩
        · intro w1 hE hd
          have d1 := dep_at hd 0 rfl rfl rfl
          have d5 := dep_at hd 1 rfl rfl rfl
          clear hd
          obtain ⟨z1, z2, rfl⟩ := Sl.form d1
          obtain ⟨z3, z4, rfl⟩ := Sl.form d5
          have hF6 := FallLit (e := 41) d1 d5
          generalize (doL ls x.d).length = nd at *
          generalize ls.length = nl at *
          go_wp2
          exact ⟨_, rfl, Grow.alloc _ _, hF6⟩
        refine StepsS.cons ?_ fun v7 => ⟨_, _, by simp only [Act.put, List.setIfInBounds_toArray, List.set_cons_succ, List.set_cons_zero]; first | done | rfl, by simp only [List.nil_append, List.cons_append]; first | done | rfl, ?_⟩
        · intro w1 hE hd
          have d6 := dep_at hd 0 rfl rfl rfl
          clear hd
          go_wp2
          exact ⟨_, rfl, Grow.refl _, d6⟩
        trivial
      intro w2 hw2
      refine FinS.cons ?_; rintro _ rfl; refine ⟨_, by simp only [Act.put, List.setIfInBounds_toArray, List.set_cons_succ, List.set_cons_zero]; first | done | rfl, ?_⟩
      refine FinS.cons fun v1 h1 => ⟨_, by simp only [Act.put, List.setIfInBounds_toArray, List.set_cons_succ, List.set_cons_zero]; first | done | rfl, ?_⟩
      refine FinS.cons ?_; rintro _ rfl; refine ⟨_, by simp only [Act.put, List.setIfInBounds_toArray, List.set_cons_succ, List.set_cons_zero]; first | done | rfl, ?_⟩
      refine FinS.cons ?_; rintro _ rfl; refine ⟨_, by simp only [Act.put, List.setIfInBounds_toArray, List.set_cons_succ, List.set_cons_zero]; first | done | rfl, ?_⟩
      refine FinS.cons ?_; rintro _ rfl; refine ⟨_, by simp only [Act.put, List.setIfInBounds_toArray, List.set_cons_succ, List.set_cons_zero]; first | done | rfl, ?_⟩
      refine FinS.cons fun v5 h5 => ⟨_, by simp only [Act.put, List.setIfInBounds_toArray, List.set_cons_succ, List.set_cons_zero]; first | done | rfl, ?_⟩
      refine FinS.cons fun v6 h6 => ⟨_, by simp only [Act.put, List.setIfInBounds_toArray, List.set_cons_succ, List.set_cons_zero]; first | done | rfl, ?_⟩
      refine FinS.cons fun v7 h7 => ⟨_, by simp only [Act.put, List.setIfInBounds_toArray, List.set_cons_succ, List.set_cons_zero]; first | done | rfl, ?_⟩
      first | show Exit.then _ _ _ _ _ | show Exit.inBlock _ _ _ _ _
      have HF : Hid (Dks w2 v7 [ls, doL ls x.d]) := h7
      have hgf := hgW1.trans hw2.drew
      clear h1 h5 h6 h7 t0 t3 t4 t5 t6
      go_wp2
      go_ret
      exact ⟨_, rfl, by rw [HL.out]; exact HF.out, hgf⟩
    · have HL : Hid (listsL ls x = [ls]) := (if_pos hw0).trans ((if_neg x1).trans (if_neg x2))
      have y1 : (x.k == 1) = false := by simpa using x1
      have y2 : (x.k == 2) = false := by simpa using x2
      clear hw0 x1 x2 h9
      go_enter Try.func41, Try.ntmps41
      go_wp2_with fail
      rw [← hW]
      refine hwr.mono ?_
      rintro e w1 ⟨rfl, hg1⟩
      have t0 := hg1.at s0
      have hcall := HOwn.out _ (hgW.trans hg1)
      clear s0 s3 s4 s5 s6 hW hwr H
      go_wp2_with fail
      refine hcall.mono ?_
      rintro e w2 ⟨r, rfl, hr, hg2⟩
      obtain ⟨ar, cr, rfl⟩ := Sl.form hr
      have hgL := Grow.alloc w2 (.cells #[.slice ar ls.length cr] 41)
      have HF : Hid (Dks _ _ [ls] ∧ Grow w _) := ⟨Sl.lit1 (Sl.stays Bs.stays _ _ _ _ hr hgL), ((hgW.trans hg1).trans hg2).trans hgL⟩
      clear hgL hr hcall
      generalize ls.length = nd at *
      go_wp2
      go_ret
      exact ⟨_, rfl, by rw [HL.out]; exact HF.out.1, HF.out.2⟩
  · have HL : Hid (listsL ls x = [ls]) := if_neg hw0
    clear h9 HDo
    generalize wrongE x.d = E at *
    have he' : (E == 0) = false := by simpa using hw0
    go_enter Try.func41, Try.ntmps41
    go_wp2_with fail
    rw [← hW]
    refine hwr.mono ?_
    rintro e w1 ⟨rfl, hg1⟩
    have t0 := hg1.at s0
    have hcall := HOwn.out _ (hgW.trans hg1)
    clear s0 s3 s4 s5 s6 hW hwr H
    go_wp2_with fail
    refine hcall.mono ?_
    rintro e w2 ⟨r, rfl, hr, hg2⟩
    obtain ⟨ar, cr, rfl⟩ := Sl.form hr
    have hgL := Grow.alloc w2 (.cells #[.slice ar ls.length cr] 41)
    have HF : Hid (Dks _ _ [ls] ∧ Grow w _) := ⟨Sl.lit1 (Sl.stays Bs.stays _ _ _ _ hr hgL), ((hgW.trans hg1).trans hg2).trans hgL⟩
    clear hgL hr hcall
    generalize ls.length = nd at *
    go_wp2
    go_ret
    exact ⟨_, rfl, by rw [HL.out]; exact HF.out.1, HF.out.2⟩

end Go.Proofs.Ytjggiameajndgac

/-
  What the program's may.isOneOf returns of a list of blocks that is one of these. Nothing old turns.
-/
namespace Go.Proofs.Ytjggiameajndgac
open Go.RowKit

set_option maxRecDepth 20000 in
set_option maxHeartbeats 800000 in
theorem isOne_any (v u : Value) (B : Nat) (a b : List (List Int)) (w : World) (ha : Bss w v a) (hb : Bss w u b) (ha9 : a.length = 9) (hb9 : b.length = 9) (hB : w.cell? ⟨B, 0, none⟩ = some u) :
    Calls Try.prog 117 #[v, .pointer (some ⟨B, 0, none⟩)] w fun e w' => e = .returned (.bool (a == b)) ∧ Grow w w' := by
  obtain ⟨av, cv, rfl⟩ := Sl.form ha
  obtain ⟨au, cu, rfl⟩ := Sl.form hb
  have hcall := modelSame_any _ _ a b w ha hb ha9 hb9
  rw [ha9] at hcall ⊢
  rw [hb9] at hcall hB
  clear ha hb ha9 hb9
  go_enter Try.func117, Try.ntmps117
  go_wp2_with fail
  refine hcall.mono ?_
  rintro e w1 ⟨rfl, hg1⟩
  go_wp2
  go_ret
  exact ⟨rfl, hg1⟩

set_option maxRecDepth 20000 in
set_option maxHeartbeats 1600000 in
theorem indexOne_any (v u : Value) (B : Nat) (ls : List (List (List Int))) (b : List (List Int)) (w : World) (h : Dks w v ls) (h9 : ∀ l ∈ ls, l.length = 9) (hb : Bss w u b) (hb9 : b.length = 9) (hB : w.cell? ⟨B, 0, none⟩ = some u) (hin : b ∈ ls) :
    Calls Try.prog 120 #[v, .func (.func 117) #[] #[.pointer (some ⟨B, 0, none⟩)]] w fun e w' => ∃ k : Nat, e = .returned (.int .i64 k) ∧ k ≤ 9223372036854775807 ∧ Grow w w' := by
  obtain ⟨al, cl, rfl, h1, h2, h3, h4⟩ := h
  unfold maxLen at h2
  have HIN : Hid (b ∈ ls) := hin
  have HB : Hid (∀ v' l wr, Grow w wr → Bss wr v' l → l.length = 9 → Calls Try.prog 117 #[v', .pointer (some ⟨B, 0, none⟩)] wr fun e w' => e = .returned (.bool (l == b)) ∧ Grow wr w') := fun v' l wr hg hl' hl9 =>
    isOne_any v' u B l b wr hl' (Bss.grow hb hg) hl9 hb9 (hg.at hB)
  have H9 : Hid (∀ k, k < ls.length → (ls.getD k []).length = 9) := fun k hk => h9 _ (by rw [List.getD_eq_getElem?_getD, List.getElem?_eq_getElem hk]; exact List.getElem_mem hk)
  clear hin hb hb9 hB h9
  go_enter Try.func120, Try.ntmps120
  go_wp2
  go_loopw [8] (fun i wr => ∃ k : Nat, k ≤ ls.length ∧ i = .int .i64 k ∧ Hid (∀ j, j < k → ls.getD j [] ≠ b) ∧ Grow w wr) (fun i _ => ls.length - (intOf i).toNat)
  case atStart => exact ⟨0, by omega, rfl, (fun j hj => by omega), Grow.refl _⟩
  case round =>
    obtain ⟨k, hk, rfl, HK, hgr⟩ := hrel
    by_cases hlt : k < ls.length
    · obtain ⟨b0, off, rfl, hc⟩ := h4 (by omega)
      obtain ⟨ue, hue, hr⟩ := hc k (ls.getD k []) (by simp [List.getD_eq_getElem?_getD, hlt])
      obtain ⟨x1, x2, rfl⟩ := Sl.form hr
      have hue' := hgr.at hue
      have hcall := HB.out _ _ _ hgr (Bss.grow hr hgr) (H9.out k hlt)
      rw [H9.out k hlt] at hue' hcall
      clear hc h4 hue hr
      by_cases he : ls.getD k [] = b
      · rw [show (ls.getD k [] == b) = true from by rw [he]; simp] at hcall
        clear he
        go_wp2_with fail
        refine hcall.mono ?_
        rintro e w1 ⟨rfl, hg1⟩
        go_wp2
        go_ret
        exact ⟨k, rfl, by omega, hgr.trans hg1⟩
      · have HK' : Hid (∀ j, j < k + 1 → ls.getD j [] ≠ b) := fun j hj => by
          by_cases hjk : j = k
          · subst hjk; exact he
          · exact HK.out j (by omega)
        rw [show (ls.getD k [] == b) = false from by rw [beq_eq_false_iff_ne]; exact he] at hcall
        clear he
        go_wp2_with fail
        refine hcall.mono ?_
        rintro e w1 ⟨rfl, hg1⟩
        go_wp2
        go_roundw
        case rel => first | exact ⟨k + 1, by omega, by go_num, HK', hgr.trans hg1⟩ | ((repeat apply Exists.intro); exact ⟨⟨k + 1, by omega, by go_num, HK', hgr.trans hg1⟩, rfl⟩)
        case measure => simp [intOf]; omega
    · exfalso
      obtain ⟨j, hj, e⟩ := List.mem_iff_getElem.1 HIN.out
      exact HK.out j (by omega) (by rw [← e]; simp [List.getD_eq_getElem?_getD, hj])

set_option maxRecDepth 20000 in
set_option maxHeartbeats 800000 in
theorem mayIsOne_any (v u : Value) (ls : List (List (List Int))) (b : List (List Int)) (w : World) (h : Dks w v ls) (h9 : ∀ l ∈ ls, l.length = 9) (hb : Bss w u b) (hb9 : b.length = 9) (hin : b ∈ ls) :
    Calls Try.prog 105 #[v, u] w fun e w' => e = .returned (.bool true) ∧ Grow w w' := by
  obtain ⟨W, hW⟩ : ∃ W, W = w.alloc (.cells #[u] 41) := ⟨_, rfl⟩
  have hgW : Grow w W := by rw [hW]; exact Grow.alloc _ _
  have k0 : W.cell? ⟨w.heap.size, 0, none⟩ = some u := by rw [hW]; simp
  have hcall := indexOne_any v u w.heap.size ls b W (Dks.stays _ _ _ _ h hgW) h9 (Bss.grow hb hgW) hb9 k0 hin
  obtain ⟨av, cv, rfl⟩ := Sl.form h
  obtain ⟨au, cu, rfl⟩ := Sl.form hb
  have hmf : ∀ (fn : Fn) (first cap : Array Value) (w : World), (Instr.makeFunc fn first cap).run Try.prog w = .ok (.func fn first cap) w := fun _ _ _ _ => rfl
  rw [hb9] at hW k0 ⊢
  have hlen : ls.length ≤ maxLen := h.len
  clear h h9 hb hb9 hin
  generalize ls.length = n at *
  have hcont : Calls Try.prog 116 #[.slice av n cv, .func (.func 117) #[] #[.pointer (some ⟨w.heap.size, 0, none⟩)]] W fun e w' => e = .returned (.bool true) ∧ Grow W w' := by
    clear hW hgW k0
    go_enter Try.func116, Try.ntmps116
    go_wp2_with fail
    refine hcall.mono ?_
    rintro e w1 ⟨k, rfl, hk, hg1⟩
    have hk0 : (0 : Int) ≤ (k : Int) := by omega
    go_wp2
    go_ret
    exact ⟨rfl, hg1⟩
  clear hcall
  go_enter Try.func105, Try.ntmps105
  go_wp2_with fail
  rw [← hW]
  refine hcont.mono ?_
  rintro e w1 ⟨rfl, hg1⟩
  go_wp2
  go_ret
  exact ⟨rfl, hgW.trans hg1⟩

end Go.Proofs.Ytjggiameajndgac

/-
  What the program's may.rotsNone returns: whether a step is the rot of a cell that is there, and is none already. Nothing old turns.
-/
namespace Go.Proofs.Ytjggiameajndgac
open Go.RowKit

theorem there_neg {n : Int} (h : n < 0) : thereB (n.tdiv 3) (n.tmod 3) = false := by
  obtain ⟨m, rfl⟩ : ∃ m : Int, n = -m := ⟨-n, by omega⟩
  have h1 : (-m).tdiv 3 = -(m / 3) := by rw [Int.neg_tdiv, Int.tdiv_eq_ediv_of_nonneg (by omega)]
  have h2 : (-m).tmod 3 = -(m % 3) := by rw [Int.neg_tmod, Int.tmod_eq_emod_of_nonneg (by omega)]
  rw [h1, h2, thereB, decide_eq_false_iff_not]
  omega

theorem there_many {n : Int} (h : 11 < n) : thereB (n / 3) (n % 3) = false := by
  rw [thereB, decide_eq_false_iff_not]
  omega

set_option maxRecDepth 20000 in
set_option maxHeartbeats 3200000 in
theorem mayRots_any (v sv : Value) (a : ArrP) (x : StepP) (w : World) (h : ArrV w v a) (ha : Arr a) (hs : StepV w sv x) (hlow : -9223372036854775808 ≤ x.n) :
    Calls Try.prog 104 #[v, sv] w fun e w' => e = .returned (.bool (againB a x)) ∧ Grow w w' := by
  have harr := h
  obtain ⟨dv, iv, e, hd, hit⟩ := id h
  obtain ⟨a1, n1, c1, a2, n2, c2, rfl⟩ := h.form
  simp only [Value.agg.injEq] at e
  have e := congrArg Array.toList e
  simp at e
  obtain ⟨rfl, rfl⟩ := e
  obtain ⟨sdv, rfl, hbd, hmax⟩ := hs
  obtain ⟨d1, d2, d3, rfl⟩ := hbd.form
  by_cases hin : x.k = 3 ∧ 0 ≤ x.n ∧ x.n ≤ 11
  · obtain ⟨x3, hn0, hn11⟩ := hin
    obtain ⟨d, hq⟩ : ∃ d : Nat, x.n / 3 = (d : Int) := ⟨(x.n / 3).toNat, by omega⟩
    obtain ⟨s, hr⟩ : ∃ s : Nat, x.n % 3 = (s : Int) := ⟨(x.n % 3).toNat, by omega⟩
    have hd4 : d < 4 := by omega
    have hs3 : s < 3 := by omega
    obtain ⟨b, off, c', b', off', u', n', cc', hE, hc1, hc2, hb, h3c⟩ := ArrG.cell (g := none) (ad := a1) (cd := c1) (a := a) (w := w) (by have := Sl.lift (fun _ _ h => Sl.lift (fun _ _ h => Off.plain Bs.stays h) h (Grow.refl _)) hd (Grow.refl w); rwa [show n1 = 4 from by obtain ⟨_, _, e1, _⟩ := hd; injection e1 with _ e2 _; rw [e2, ha.whole.1]] at this) ha.whole hd4 hs3
    obtain rfl : n1 = 4 := by obtain ⟨_, _, e1, _⟩ := hd; injection e1 with _ e2 _; rw [e2, ha.whole.1]
    subst hE
    have HA : Hid (againB a x = (readE (cellAt a d s) d s != 0)) := by
      rw [Hid, againB, hq, hr, x3]
      simp only [Int.toNat_natCast, hn0, hn11, true_and]
      by_cases h : readE (cellAt a d s) d s = 0 <;> simp [h]
    have hcd : 4 ≤ c1 ∧ c1 ≤ 9223372036854775807 := by
      obtain ⟨_, _, e1, g1, g2⟩ := hd.form'
      injection e1 with _ e2 e3
      omega
    have hcall : ∀ w1, Grow w w1 → Calls Try.prog 94 #[.slice u' n' cc', .int .i64 d, .int .i64 s] w1 fun e w' => ∃ r, e = .returned (.tuple #[r, .int .i64 (readE (cellAt a d s) d s)]) ∧ Grow w1 w' := fun w1 hg => (read_any (.slice u' n' cc') (cellAt a d s) d s w1 (hb.here.grow hg)).mono fun _ _ ⟨r, he, _, hg'⟩ => ⟨r, he, hg'⟩
    have hth : ∀ w1, Calls Try.prog 45 #[.int .i64 d, .int .i64 s] w1 fun e w' => e = .returned (.bool true) ∧ w' = w1 := fun w1 => by
      have := there_any d s w1
      rwa [thereB_iff.2 (by omega)] at this
    clear hd hit harr hbd hb
    generalize readE (cellAt a d s) d s = E at *
    rw [x3]
    clear x3
    obtain ⟨W, hW⟩ : ∃ W, W = (w.alloc (.cells #[.slice (some ⟨b, off, none⟩) 4 c1, .slice a2 n2 c2] 26)).alloc (.cells #[.int .i64 3, .int .i64 x.n, .int .i64 x.m, .int .i64 x.d.k, .int .i64 x.d.n, .int .i64 x.d.m, .slice d1 d2 d3] 56) := ⟨_, rfl⟩
    have hgW : Grow w W := by rw [hW]; exact (Grow.alloc _ _).trans (Grow.alloc _ _)
    have k0 : W.cell? ⟨w.heap.size, 0, none⟩ = some (.slice (some ⟨b, off, none⟩) 4 c1) := by rw [hW]; simp
    have k3 : W.cell? ⟨w.heap.size + 1, 0, none⟩ = some (.int .i64 3) := by rw [hW]; simp
    have kn : W.cell? ⟨w.heap.size + 1, 1, none⟩ = some (.int .i64 x.n) := by rw [hW]; simp
    have j1 := hgW.at hc1
    have j2 := hgW.at hc2
    clear hc1 hc2
    have hdi : (d : Int) < 4 := by omega
    have hsi : (s : Int) < 3 := by omega
    go_enter Try.func104, Try.ntmps104
    go_wp2
    rw [← hW]
    clear hW
    refine wp_region_stable Grow [IsV (.pointer (some ⟨w.heap.size + 1, 1, none⟩)), IsV (.int .i64 x.n), IsV (.int .i64 (d)), IsV (.pointer (some ⟨w.heap.size + 1, 1, none⟩)), IsV (.int .i64 x.n), IsV (.int .i64 (s)), IsV (.int .i64 (d)), IsV (.int .i64 (s))] (by kernel_rfl) (by kernel_rfl) rfl Grow.refl (fun _ _ _ => Grow.trans) ?_ ?_ ?_
    · repeat (refine List.forall_mem_cons.2 ⟨by first | exact IsV.stable _, ?_⟩)
      exact fun R hR => nomatch hR
    · skip
      refine StepsS.cons ?_ fun v0 => ⟨_, _, by simp only [Act.put, List.setIfInBounds_toArray, List.set_cons_succ, List.set_cons_zero]; first | done | rfl, by simp only [List.nil_append]; first | done | rfl, ?_⟩
      · intro w1 hE hd
        clear hd
        go_wp2
        exact ⟨_, rfl, Grow.refl _, rfl⟩
      refine StepsS.cons ?_ fun v1 => ⟨_, _, by simp only [Act.put, List.setIfInBounds_toArray, List.set_cons_succ, List.set_cons_zero]; first | done | rfl, by simp only [List.nil_append, List.cons_append]; first | done | rfl, ?_⟩
      · intro w1 hE hd
        obtain rfl := IsV.eq (dep_at hd 0 rfl rfl rfl)
        clear hd
        have qq := hE.drew.at kn
        go_wp2
        exact ⟨_, rfl, Grow.refl _, rfl⟩
      refine StepsS.cons ?_ fun v2 => ⟨_, _, by simp only [Act.put, List.setIfInBounds_toArray, List.set_cons_succ, List.set_cons_zero]; first | done | rfl, by simp only [List.nil_append, List.cons_append]; first | done | rfl, ?_⟩
      · intro w1 hE hd
        obtain rfl := IsV.eq (dep_at hd 0 rfl rfl rfl)
        clear hd
        go_wp2
        exact ⟨_, rfl, Grow.refl _, rfl⟩
      refine StepsS.cons ?_ fun v3 => ⟨_, _, by simp only [Act.put, List.setIfInBounds_toArray, List.set_cons_succ, List.set_cons_zero]; first | done | rfl, by simp only [List.nil_append, List.cons_append]; first | done | rfl, ?_⟩
      · intro w1 hE hd
        clear hd
        go_wp2
        exact ⟨_, rfl, Grow.refl _, rfl⟩
      refine StepsS.cons ?_ fun v4 => ⟨_, _, by simp only [Act.put, List.setIfInBounds_toArray, List.set_cons_succ, List.set_cons_zero]; first | done | rfl, by simp only [List.nil_append, List.cons_append]; first | done | rfl, ?_⟩
      · intro w1 hE hd
        obtain rfl := IsV.eq (dep_at hd 0 rfl rfl rfl)
        clear hd
        have qq := hE.drew.at kn
        go_wp2
        exact ⟨_, rfl, Grow.refl _, rfl⟩
      refine StepsS.cons ?_ fun v5 => ⟨_, _, by simp only [Act.put, List.setIfInBounds_toArray, List.set_cons_succ, List.set_cons_zero]; first | done | rfl, by simp only [List.nil_append, List.cons_append]; first | done | rfl, ?_⟩
      · intro w1 hE hd
        obtain rfl := IsV.eq (dep_at hd 0 rfl rfl rfl)
        clear hd
        go_wp2
        exact ⟨_, rfl, Grow.refl _, rfl⟩
      refine StepsS.cons ?_ fun v6 => ⟨_, _, by simp only [Act.put, List.setIfInBounds_toArray, List.set_cons_succ, List.set_cons_zero]; first | done | rfl, by simp only [List.nil_append, List.cons_append]; first | done | rfl, ?_⟩
      · intro w1 hE hd
        obtain rfl := IsV.eq (dep_at hd 0 rfl rfl rfl)
        clear hd
        go_wp2
        exact ⟨_, rfl, Grow.refl _, rfl⟩
      refine StepsS.cons ?_ fun v7 => ⟨_, _, by simp only [Act.put, List.setIfInBounds_toArray, List.set_cons_succ, List.set_cons_zero]; first | done | rfl, by simp only [List.nil_append, List.cons_append]; first | done | rfl, ?_⟩
      · intro w1 hE hd
        obtain rfl := IsV.eq (dep_at hd 0 rfl rfl rfl)
        clear hd
        go_wp2
        exact ⟨_, rfl, Grow.refl _, rfl⟩
      trivial
    intro wR hwR
    refine FinS.cons ?_; rintro _ rfl; refine ⟨_, by simp only [Act.put, List.setIfInBounds_toArray, List.set_cons_succ, List.set_cons_zero]; first | done | rfl, ?_⟩
    refine FinS.cons ?_; rintro _ rfl; refine ⟨_, by simp only [Act.put, List.setIfInBounds_toArray, List.set_cons_succ, List.set_cons_zero]; first | done | rfl, ?_⟩
    refine FinS.cons ?_; rintro _ rfl; refine ⟨_, by simp only [Act.put, List.setIfInBounds_toArray, List.set_cons_succ, List.set_cons_zero]; first | done | rfl, ?_⟩
    refine FinS.cons ?_; rintro _ rfl; refine ⟨_, by simp only [Act.put, List.setIfInBounds_toArray, List.set_cons_succ, List.set_cons_zero]; first | done | rfl, ?_⟩
    refine FinS.cons ?_; rintro _ rfl; refine ⟨_, by simp only [Act.put, List.setIfInBounds_toArray, List.set_cons_succ, List.set_cons_zero]; first | done | rfl, ?_⟩
    refine FinS.cons ?_; rintro _ rfl; refine ⟨_, by simp only [Act.put, List.setIfInBounds_toArray, List.set_cons_succ, List.set_cons_zero]; first | done | rfl, ?_⟩
    refine FinS.cons ?_; rintro _ rfl; refine ⟨_, by simp only [Act.put, List.setIfInBounds_toArray, List.set_cons_succ, List.set_cons_zero]; first | done | rfl, ?_⟩
    refine FinS.cons ?_; rintro _ rfl; refine ⟨_, by simp only [Act.put, List.setIfInBounds_toArray, List.set_cons_succ, List.set_cons_zero]; first | done | rfl, ?_⟩
    first | show Exit.then _ _ _ _ _ | show Exit.inBlock _ _ _ _ _
    have hgR := hgW.trans hwR.drew
    have k0' := hwR.drew.at k0
    have k3' := hwR.drew.at k3
    have j1' := hwR.drew.at j1
    have j2' := hwR.drew.at j2
    clear k0 k3 kn j1 j2
    go_wp2_with fail
    refine (hth _).mono ?_
    rintro e w1 ⟨rfl, hw1⟩
    have hw1 := hw1.symm
    subst hw1
    go_wp2_with fail
    refine (hcall _ hgR).mono ?_
    rintro e w4 ⟨r', rfl, hg4⟩
    go_wp2
    go_ret
    exact ⟨ret_bool HA.out.symm, hgR.trans hg4⟩
  · have HA : Hid (againB a x = false) := again_no hin
    have hout : (¬ x.k = 3 ∧ x.n < 0) ∨ (¬ x.k = 3 ∧ 0 ≤ x.n) ∨ (x.k = 3 ∧ x.n < 0) ∨ (x.k = 3 ∧ 0 ≤ x.n ∧ 11 < x.n) := by omega
    clear hin hd hit harr hbd
    obtain ⟨W, hW⟩ : ∃ W, W = (w.alloc (.cells #[.slice a1 n1 c1, .slice a2 n2 c2] 26)).alloc (.cells #[.int .i64 x.k, .int .i64 x.n, .int .i64 x.m, .int .i64 x.d.k, .int .i64 x.d.n, .int .i64 x.d.m, .slice d1 d2 d3] 56) := ⟨_, rfl⟩
    have hgW : Grow w W := by rw [hW]; exact (Grow.alloc _ _).trans (Grow.alloc _ _)
    have k3 : W.cell? ⟨w.heap.size + 1, 0, none⟩ = some (.int .i64 x.k) := by rw [hW]; simp
    have kn : W.cell? ⟨w.heap.size + 1, 1, none⟩ = some (.int .i64 x.n) := by rw [hW]; simp
    rcases hout with ⟨h1, h2⟩ | ⟨h1, h2⟩ | ⟨h1, h2⟩ | ⟨h1, h2, h3⟩
    · have h1' : (x.k != 3) = true := by simpa using h1
      go_enter Try.func104, Try.ntmps104
      go_wp2
      rw [← hW]
      clear hW
      refine wp_region_stable Grow [IsV (.pointer (some ⟨w.heap.size + 1, 1, none⟩)), IsV (.int .i64 x.n), IsV (.int .i64 (x.n.tdiv 3)), IsV (.pointer (some ⟨w.heap.size + 1, 1, none⟩)), IsV (.int .i64 x.n), IsV (.int .i64 (x.n.tmod 3)), IsV (.int .i64 (x.n.tdiv 3)), IsV (.int .i64 (x.n.tmod 3))] (by kernel_rfl) (by kernel_rfl) rfl Grow.refl (fun _ _ _ => Grow.trans) ?_ ?_ ?_
      · repeat (refine List.forall_mem_cons.2 ⟨by first | exact IsV.stable _, ?_⟩)
        exact fun R hR => nomatch hR
      · skip
        refine StepsS.cons ?_ fun v0 => ⟨_, _, by simp only [Act.put, List.setIfInBounds_toArray, List.set_cons_succ, List.set_cons_zero]; first | done | rfl, by simp only [List.nil_append]; first | done | rfl, ?_⟩
        · intro w1 hE hd
          clear hd
          go_wp2
          exact ⟨_, rfl, Grow.refl _, rfl⟩
        refine StepsS.cons ?_ fun v1 => ⟨_, _, by simp only [Act.put, List.setIfInBounds_toArray, List.set_cons_succ, List.set_cons_zero]; first | done | rfl, by simp only [List.nil_append, List.cons_append]; first | done | rfl, ?_⟩
        · intro w1 hE hd
          obtain rfl := IsV.eq (dep_at hd 0 rfl rfl rfl)
          clear hd
          have qq := hE.drew.at kn
          go_wp2
          exact ⟨_, rfl, Grow.refl _, rfl⟩
        refine StepsS.cons ?_ fun v2 => ⟨_, _, by simp only [Act.put, List.setIfInBounds_toArray, List.set_cons_succ, List.set_cons_zero]; first | done | rfl, by simp only [List.nil_append, List.cons_append]; first | done | rfl, ?_⟩
        · intro w1 hE hd
          obtain rfl := IsV.eq (dep_at hd 0 rfl rfl rfl)
          clear hd
          go_wp2
          exact ⟨_, rfl, Grow.refl _, rfl⟩
        refine StepsS.cons ?_ fun v3 => ⟨_, _, by simp only [Act.put, List.setIfInBounds_toArray, List.set_cons_succ, List.set_cons_zero]; first | done | rfl, by simp only [List.nil_append, List.cons_append]; first | done | rfl, ?_⟩
        · intro w1 hE hd
          clear hd
          go_wp2
          exact ⟨_, rfl, Grow.refl _, rfl⟩
        refine StepsS.cons ?_ fun v4 => ⟨_, _, by simp only [Act.put, List.setIfInBounds_toArray, List.set_cons_succ, List.set_cons_zero]; first | done | rfl, by simp only [List.nil_append, List.cons_append]; first | done | rfl, ?_⟩
        · intro w1 hE hd
          obtain rfl := IsV.eq (dep_at hd 0 rfl rfl rfl)
          clear hd
          have qq := hE.drew.at kn
          go_wp2
          exact ⟨_, rfl, Grow.refl _, rfl⟩
        refine StepsS.cons ?_ fun v5 => ⟨_, _, by simp only [Act.put, List.setIfInBounds_toArray, List.set_cons_succ, List.set_cons_zero]; first | done | rfl, by simp only [List.nil_append, List.cons_append]; first | done | rfl, ?_⟩
        · intro w1 hE hd
          obtain rfl := IsV.eq (dep_at hd 0 rfl rfl rfl)
          clear hd
          go_wp2
          exact ⟨_, rfl, Grow.refl _, rfl⟩
        refine StepsS.cons ?_ fun v6 => ⟨_, _, by simp only [Act.put, List.setIfInBounds_toArray, List.set_cons_succ, List.set_cons_zero]; first | done | rfl, by simp only [List.nil_append, List.cons_append]; first | done | rfl, ?_⟩
        · intro w1 hE hd
          obtain rfl := IsV.eq (dep_at hd 0 rfl rfl rfl)
          clear hd
          go_wp2
          exact ⟨_, rfl, Grow.refl _, rfl⟩
        refine StepsS.cons ?_ fun v7 => ⟨_, _, by simp only [Act.put, List.setIfInBounds_toArray, List.set_cons_succ, List.set_cons_zero]; first | done | rfl, by simp only [List.nil_append, List.cons_append]; first | done | rfl, ?_⟩
        · intro w1 hE hd
          obtain rfl := IsV.eq (dep_at hd 0 rfl rfl rfl)
          clear hd
          go_wp2
          exact ⟨_, rfl, Grow.refl _, rfl⟩
        trivial
      intro wR hwR
      refine FinS.cons ?_; rintro _ rfl; refine ⟨_, by simp only [Act.put, List.setIfInBounds_toArray, List.set_cons_succ, List.set_cons_zero]; first | done | rfl, ?_⟩
      refine FinS.cons ?_; rintro _ rfl; refine ⟨_, by simp only [Act.put, List.setIfInBounds_toArray, List.set_cons_succ, List.set_cons_zero]; first | done | rfl, ?_⟩
      refine FinS.cons ?_; rintro _ rfl; refine ⟨_, by simp only [Act.put, List.setIfInBounds_toArray, List.set_cons_succ, List.set_cons_zero]; first | done | rfl, ?_⟩
      refine FinS.cons ?_; rintro _ rfl; refine ⟨_, by simp only [Act.put, List.setIfInBounds_toArray, List.set_cons_succ, List.set_cons_zero]; first | done | rfl, ?_⟩
      refine FinS.cons ?_; rintro _ rfl; refine ⟨_, by simp only [Act.put, List.setIfInBounds_toArray, List.set_cons_succ, List.set_cons_zero]; first | done | rfl, ?_⟩
      refine FinS.cons ?_; rintro _ rfl; refine ⟨_, by simp only [Act.put, List.setIfInBounds_toArray, List.set_cons_succ, List.set_cons_zero]; first | done | rfl, ?_⟩
      refine FinS.cons ?_; rintro _ rfl; refine ⟨_, by simp only [Act.put, List.setIfInBounds_toArray, List.set_cons_succ, List.set_cons_zero]; first | done | rfl, ?_⟩
      refine FinS.cons ?_; rintro _ rfl; refine ⟨_, by simp only [Act.put, List.setIfInBounds_toArray, List.set_cons_succ, List.set_cons_zero]; first | done | rfl, ?_⟩
      first | show Exit.then _ _ _ _ _ | show Exit.inBlock _ _ _ _ _
      have hgR := hgW.trans hwR.drew
      have k3' := hwR.drew.at k3
      clear k3 kn
      go_wp2
      go_ret
      exact ⟨ret_bool HA.out.symm, hgR⟩
    · have h1' : (x.k != 3) = true := by simpa using h1
      go_enter Try.func104, Try.ntmps104
      go_wp2
      rw [← hW]
      clear hW
      refine wp_region_stable Grow [IsV (.pointer (some ⟨w.heap.size + 1, 1, none⟩)), IsV (.int .i64 x.n), IsV (.int .i64 (x.n / 3)), IsV (.pointer (some ⟨w.heap.size + 1, 1, none⟩)), IsV (.int .i64 x.n), IsV (.int .i64 (x.n % 3)), IsV (.int .i64 (x.n / 3)), IsV (.int .i64 (x.n % 3))] (by kernel_rfl) (by kernel_rfl) rfl Grow.refl (fun _ _ _ => Grow.trans) ?_ ?_ ?_
      · repeat (refine List.forall_mem_cons.2 ⟨by first | exact IsV.stable _, ?_⟩)
        exact fun R hR => nomatch hR
      · skip
        refine StepsS.cons ?_ fun v0 => ⟨_, _, by simp only [Act.put, List.setIfInBounds_toArray, List.set_cons_succ, List.set_cons_zero]; first | done | rfl, by simp only [List.nil_append]; first | done | rfl, ?_⟩
        · intro w1 hE hd
          clear hd
          go_wp2
          exact ⟨_, rfl, Grow.refl _, rfl⟩
        refine StepsS.cons ?_ fun v1 => ⟨_, _, by simp only [Act.put, List.setIfInBounds_toArray, List.set_cons_succ, List.set_cons_zero]; first | done | rfl, by simp only [List.nil_append, List.cons_append]; first | done | rfl, ?_⟩
        · intro w1 hE hd
          obtain rfl := IsV.eq (dep_at hd 0 rfl rfl rfl)
          clear hd
          have qq := hE.drew.at kn
          go_wp2
          exact ⟨_, rfl, Grow.refl _, rfl⟩
        refine StepsS.cons ?_ fun v2 => ⟨_, _, by simp only [Act.put, List.setIfInBounds_toArray, List.set_cons_succ, List.set_cons_zero]; first | done | rfl, by simp only [List.nil_append, List.cons_append]; first | done | rfl, ?_⟩
        · intro w1 hE hd
          obtain rfl := IsV.eq (dep_at hd 0 rfl rfl rfl)
          clear hd
          go_wp2
          exact ⟨_, rfl, Grow.refl _, rfl⟩
        refine StepsS.cons ?_ fun v3 => ⟨_, _, by simp only [Act.put, List.setIfInBounds_toArray, List.set_cons_succ, List.set_cons_zero]; first | done | rfl, by simp only [List.nil_append, List.cons_append]; first | done | rfl, ?_⟩
        · intro w1 hE hd
          clear hd
          go_wp2
          exact ⟨_, rfl, Grow.refl _, rfl⟩
        refine StepsS.cons ?_ fun v4 => ⟨_, _, by simp only [Act.put, List.setIfInBounds_toArray, List.set_cons_succ, List.set_cons_zero]; first | done | rfl, by simp only [List.nil_append, List.cons_append]; first | done | rfl, ?_⟩
        · intro w1 hE hd
          obtain rfl := IsV.eq (dep_at hd 0 rfl rfl rfl)
          clear hd
          have qq := hE.drew.at kn
          go_wp2
          exact ⟨_, rfl, Grow.refl _, rfl⟩
        refine StepsS.cons ?_ fun v5 => ⟨_, _, by simp only [Act.put, List.setIfInBounds_toArray, List.set_cons_succ, List.set_cons_zero]; first | done | rfl, by simp only [List.nil_append, List.cons_append]; first | done | rfl, ?_⟩
        · intro w1 hE hd
          obtain rfl := IsV.eq (dep_at hd 0 rfl rfl rfl)
          clear hd
          go_wp2
          exact ⟨_, rfl, Grow.refl _, rfl⟩
        refine StepsS.cons ?_ fun v6 => ⟨_, _, by simp only [Act.put, List.setIfInBounds_toArray, List.set_cons_succ, List.set_cons_zero]; first | done | rfl, by simp only [List.nil_append, List.cons_append]; first | done | rfl, ?_⟩
        · intro w1 hE hd
          obtain rfl := IsV.eq (dep_at hd 0 rfl rfl rfl)
          clear hd
          go_wp2
          exact ⟨_, rfl, Grow.refl _, rfl⟩
        refine StepsS.cons ?_ fun v7 => ⟨_, _, by simp only [Act.put, List.setIfInBounds_toArray, List.set_cons_succ, List.set_cons_zero]; first | done | rfl, by simp only [List.nil_append, List.cons_append]; first | done | rfl, ?_⟩
        · intro w1 hE hd
          obtain rfl := IsV.eq (dep_at hd 0 rfl rfl rfl)
          clear hd
          go_wp2
          exact ⟨_, rfl, Grow.refl _, rfl⟩
        trivial
      intro wR hwR
      refine FinS.cons ?_; rintro _ rfl; refine ⟨_, by simp only [Act.put, List.setIfInBounds_toArray, List.set_cons_succ, List.set_cons_zero]; first | done | rfl, ?_⟩
      refine FinS.cons ?_; rintro _ rfl; refine ⟨_, by simp only [Act.put, List.setIfInBounds_toArray, List.set_cons_succ, List.set_cons_zero]; first | done | rfl, ?_⟩
      refine FinS.cons ?_; rintro _ rfl; refine ⟨_, by simp only [Act.put, List.setIfInBounds_toArray, List.set_cons_succ, List.set_cons_zero]; first | done | rfl, ?_⟩
      refine FinS.cons ?_; rintro _ rfl; refine ⟨_, by simp only [Act.put, List.setIfInBounds_toArray, List.set_cons_succ, List.set_cons_zero]; first | done | rfl, ?_⟩
      refine FinS.cons ?_; rintro _ rfl; refine ⟨_, by simp only [Act.put, List.setIfInBounds_toArray, List.set_cons_succ, List.set_cons_zero]; first | done | rfl, ?_⟩
      refine FinS.cons ?_; rintro _ rfl; refine ⟨_, by simp only [Act.put, List.setIfInBounds_toArray, List.set_cons_succ, List.set_cons_zero]; first | done | rfl, ?_⟩
      refine FinS.cons ?_; rintro _ rfl; refine ⟨_, by simp only [Act.put, List.setIfInBounds_toArray, List.set_cons_succ, List.set_cons_zero]; first | done | rfl, ?_⟩
      refine FinS.cons ?_; rintro _ rfl; refine ⟨_, by simp only [Act.put, List.setIfInBounds_toArray, List.set_cons_succ, List.set_cons_zero]; first | done | rfl, ?_⟩
      first | show Exit.then _ _ _ _ _ | show Exit.inBlock _ _ _ _ _
      have hgR := hgW.trans hwR.drew
      have k3' := hwR.drew.at k3
      clear k3 kn
      go_wp2
      go_ret
      exact ⟨ret_bool HA.out.symm, hgR⟩
    · have hth := fun w1 => there_any (x.n.tdiv 3) (x.n.tmod 3) w1
      rw [there_neg h2] at hth
      rw [h1] at hW k3 ⊢
      clear h1
      go_enter Try.func104, Try.ntmps104
      go_wp2
      rw [← hW]
      clear hW
      refine wp_region_stable Grow [IsV (.pointer (some ⟨w.heap.size + 1, 1, none⟩)), IsV (.int .i64 x.n), IsV (.int .i64 (x.n.tdiv 3)), IsV (.pointer (some ⟨w.heap.size + 1, 1, none⟩)), IsV (.int .i64 x.n), IsV (.int .i64 (x.n.tmod 3)), IsV (.int .i64 (x.n.tdiv 3)), IsV (.int .i64 (x.n.tmod 3))] (by kernel_rfl) (by kernel_rfl) rfl Grow.refl (fun _ _ _ => Grow.trans) ?_ ?_ ?_
      · repeat (refine List.forall_mem_cons.2 ⟨by first | exact IsV.stable _, ?_⟩)
        exact fun R hR => nomatch hR
      · skip
        refine StepsS.cons ?_ fun v0 => ⟨_, _, by simp only [Act.put, List.setIfInBounds_toArray, List.set_cons_succ, List.set_cons_zero]; first | done | rfl, by simp only [List.nil_append]; first | done | rfl, ?_⟩
        · intro w1 hE hd
          clear hd
          go_wp2
          exact ⟨_, rfl, Grow.refl _, rfl⟩
        refine StepsS.cons ?_ fun v1 => ⟨_, _, by simp only [Act.put, List.setIfInBounds_toArray, List.set_cons_succ, List.set_cons_zero]; first | done | rfl, by simp only [List.nil_append, List.cons_append]; first | done | rfl, ?_⟩
        · intro w1 hE hd
          obtain rfl := IsV.eq (dep_at hd 0 rfl rfl rfl)
          clear hd
          have qq := hE.drew.at kn
          go_wp2
          exact ⟨_, rfl, Grow.refl _, rfl⟩
        refine StepsS.cons ?_ fun v2 => ⟨_, _, by simp only [Act.put, List.setIfInBounds_toArray, List.set_cons_succ, List.set_cons_zero]; first | done | rfl, by simp only [List.nil_append, List.cons_append]; first | done | rfl, ?_⟩
        · intro w1 hE hd
          obtain rfl := IsV.eq (dep_at hd 0 rfl rfl rfl)
          clear hd
          go_wp2
          exact ⟨_, rfl, Grow.refl _, rfl⟩
        refine StepsS.cons ?_ fun v3 => ⟨_, _, by simp only [Act.put, List.setIfInBounds_toArray, List.set_cons_succ, List.set_cons_zero]; first | done | rfl, by simp only [List.nil_append, List.cons_append]; first | done | rfl, ?_⟩
        · intro w1 hE hd
          clear hd
          go_wp2
          exact ⟨_, rfl, Grow.refl _, rfl⟩
        refine StepsS.cons ?_ fun v4 => ⟨_, _, by simp only [Act.put, List.setIfInBounds_toArray, List.set_cons_succ, List.set_cons_zero]; first | done | rfl, by simp only [List.nil_append, List.cons_append]; first | done | rfl, ?_⟩
        · intro w1 hE hd
          obtain rfl := IsV.eq (dep_at hd 0 rfl rfl rfl)
          clear hd
          have qq := hE.drew.at kn
          go_wp2
          exact ⟨_, rfl, Grow.refl _, rfl⟩
        refine StepsS.cons ?_ fun v5 => ⟨_, _, by simp only [Act.put, List.setIfInBounds_toArray, List.set_cons_succ, List.set_cons_zero]; first | done | rfl, by simp only [List.nil_append, List.cons_append]; first | done | rfl, ?_⟩
        · intro w1 hE hd
          obtain rfl := IsV.eq (dep_at hd 0 rfl rfl rfl)
          clear hd
          go_wp2
          exact ⟨_, rfl, Grow.refl _, rfl⟩
        refine StepsS.cons ?_ fun v6 => ⟨_, _, by simp only [Act.put, List.setIfInBounds_toArray, List.set_cons_succ, List.set_cons_zero]; first | done | rfl, by simp only [List.nil_append, List.cons_append]; first | done | rfl, ?_⟩
        · intro w1 hE hd
          obtain rfl := IsV.eq (dep_at hd 0 rfl rfl rfl)
          clear hd
          go_wp2
          exact ⟨_, rfl, Grow.refl _, rfl⟩
        refine StepsS.cons ?_ fun v7 => ⟨_, _, by simp only [Act.put, List.setIfInBounds_toArray, List.set_cons_succ, List.set_cons_zero]; first | done | rfl, by simp only [List.nil_append, List.cons_append]; first | done | rfl, ?_⟩
        · intro w1 hE hd
          obtain rfl := IsV.eq (dep_at hd 0 rfl rfl rfl)
          clear hd
          go_wp2
          exact ⟨_, rfl, Grow.refl _, rfl⟩
        trivial
      intro wR hwR
      refine FinS.cons ?_; rintro _ rfl; refine ⟨_, by simp only [Act.put, List.setIfInBounds_toArray, List.set_cons_succ, List.set_cons_zero]; first | done | rfl, ?_⟩
      refine FinS.cons ?_; rintro _ rfl; refine ⟨_, by simp only [Act.put, List.setIfInBounds_toArray, List.set_cons_succ, List.set_cons_zero]; first | done | rfl, ?_⟩
      refine FinS.cons ?_; rintro _ rfl; refine ⟨_, by simp only [Act.put, List.setIfInBounds_toArray, List.set_cons_succ, List.set_cons_zero]; first | done | rfl, ?_⟩
      refine FinS.cons ?_; rintro _ rfl; refine ⟨_, by simp only [Act.put, List.setIfInBounds_toArray, List.set_cons_succ, List.set_cons_zero]; first | done | rfl, ?_⟩
      refine FinS.cons ?_; rintro _ rfl; refine ⟨_, by simp only [Act.put, List.setIfInBounds_toArray, List.set_cons_succ, List.set_cons_zero]; first | done | rfl, ?_⟩
      refine FinS.cons ?_; rintro _ rfl; refine ⟨_, by simp only [Act.put, List.setIfInBounds_toArray, List.set_cons_succ, List.set_cons_zero]; first | done | rfl, ?_⟩
      refine FinS.cons ?_; rintro _ rfl; refine ⟨_, by simp only [Act.put, List.setIfInBounds_toArray, List.set_cons_succ, List.set_cons_zero]; first | done | rfl, ?_⟩
      refine FinS.cons ?_; rintro _ rfl; refine ⟨_, by simp only [Act.put, List.setIfInBounds_toArray, List.set_cons_succ, List.set_cons_zero]; first | done | rfl, ?_⟩
      first | show Exit.then _ _ _ _ _ | show Exit.inBlock _ _ _ _ _
      have hgR := hgW.trans hwR.drew
      have k3' := hwR.drew.at k3
      clear k3 kn
      go_wp2_with fail
      refine (hth _).mono ?_
      rintro e w1 ⟨rfl, hw1⟩
      have hw1 := hw1.symm
      subst hw1
      go_wp2
      go_ret
      exact ⟨ret_bool HA.out.symm, hgR⟩
    · have hth := fun w1 => there_any (x.n / 3) (x.n % 3) w1
      rw [there_many h3] at hth
      rw [h1] at hW k3 ⊢
      clear h1
      go_enter Try.func104, Try.ntmps104
      go_wp2
      rw [← hW]
      clear hW
      refine wp_region_stable Grow [IsV (.pointer (some ⟨w.heap.size + 1, 1, none⟩)), IsV (.int .i64 x.n), IsV (.int .i64 (x.n / 3)), IsV (.pointer (some ⟨w.heap.size + 1, 1, none⟩)), IsV (.int .i64 x.n), IsV (.int .i64 (x.n % 3)), IsV (.int .i64 (x.n / 3)), IsV (.int .i64 (x.n % 3))] (by kernel_rfl) (by kernel_rfl) rfl Grow.refl (fun _ _ _ => Grow.trans) ?_ ?_ ?_
      · repeat (refine List.forall_mem_cons.2 ⟨by first | exact IsV.stable _, ?_⟩)
        exact fun R hR => nomatch hR
      · skip
        refine StepsS.cons ?_ fun v0 => ⟨_, _, by simp only [Act.put, List.setIfInBounds_toArray, List.set_cons_succ, List.set_cons_zero]; first | done | rfl, by simp only [List.nil_append]; first | done | rfl, ?_⟩
        · intro w1 hE hd
          clear hd
          go_wp2
          exact ⟨_, rfl, Grow.refl _, rfl⟩
        refine StepsS.cons ?_ fun v1 => ⟨_, _, by simp only [Act.put, List.setIfInBounds_toArray, List.set_cons_succ, List.set_cons_zero]; first | done | rfl, by simp only [List.nil_append, List.cons_append]; first | done | rfl, ?_⟩
        · intro w1 hE hd
          obtain rfl := IsV.eq (dep_at hd 0 rfl rfl rfl)
          clear hd
          have qq := hE.drew.at kn
          go_wp2
          exact ⟨_, rfl, Grow.refl _, rfl⟩
        refine StepsS.cons ?_ fun v2 => ⟨_, _, by simp only [Act.put, List.setIfInBounds_toArray, List.set_cons_succ, List.set_cons_zero]; first | done | rfl, by simp only [List.nil_append, List.cons_append]; first | done | rfl, ?_⟩
        · intro w1 hE hd
          obtain rfl := IsV.eq (dep_at hd 0 rfl rfl rfl)
          clear hd
          go_wp2
          exact ⟨_, rfl, Grow.refl _, rfl⟩
        refine StepsS.cons ?_ fun v3 => ⟨_, _, by simp only [Act.put, List.setIfInBounds_toArray, List.set_cons_succ, List.set_cons_zero]; first | done | rfl, by simp only [List.nil_append, List.cons_append]; first | done | rfl, ?_⟩
        · intro w1 hE hd
          clear hd
          go_wp2
          exact ⟨_, rfl, Grow.refl _, rfl⟩
        refine StepsS.cons ?_ fun v4 => ⟨_, _, by simp only [Act.put, List.setIfInBounds_toArray, List.set_cons_succ, List.set_cons_zero]; first | done | rfl, by simp only [List.nil_append, List.cons_append]; first | done | rfl, ?_⟩
        · intro w1 hE hd
          obtain rfl := IsV.eq (dep_at hd 0 rfl rfl rfl)
          clear hd
          have qq := hE.drew.at kn
          go_wp2
          exact ⟨_, rfl, Grow.refl _, rfl⟩
        refine StepsS.cons ?_ fun v5 => ⟨_, _, by simp only [Act.put, List.setIfInBounds_toArray, List.set_cons_succ, List.set_cons_zero]; first | done | rfl, by simp only [List.nil_append, List.cons_append]; first | done | rfl, ?_⟩
        · intro w1 hE hd
          obtain rfl := IsV.eq (dep_at hd 0 rfl rfl rfl)
          clear hd
          go_wp2
          exact ⟨_, rfl, Grow.refl _, rfl⟩
        refine StepsS.cons ?_ fun v6 => ⟨_, _, by simp only [Act.put, List.setIfInBounds_toArray, List.set_cons_succ, List.set_cons_zero]; first | done | rfl, by simp only [List.nil_append, List.cons_append]; first | done | rfl, ?_⟩
        · intro w1 hE hd
          obtain rfl := IsV.eq (dep_at hd 0 rfl rfl rfl)
          clear hd
          go_wp2
          exact ⟨_, rfl, Grow.refl _, rfl⟩
        refine StepsS.cons ?_ fun v7 => ⟨_, _, by simp only [Act.put, List.setIfInBounds_toArray, List.set_cons_succ, List.set_cons_zero]; first | done | rfl, by simp only [List.nil_append, List.cons_append]; first | done | rfl, ?_⟩
        · intro w1 hE hd
          obtain rfl := IsV.eq (dep_at hd 0 rfl rfl rfl)
          clear hd
          go_wp2
          exact ⟨_, rfl, Grow.refl _, rfl⟩
        trivial
      intro wR hwR
      refine FinS.cons ?_; rintro _ rfl; refine ⟨_, by simp only [Act.put, List.setIfInBounds_toArray, List.set_cons_succ, List.set_cons_zero]; first | done | rfl, ?_⟩
      refine FinS.cons ?_; rintro _ rfl; refine ⟨_, by simp only [Act.put, List.setIfInBounds_toArray, List.set_cons_succ, List.set_cons_zero]; first | done | rfl, ?_⟩
      refine FinS.cons ?_; rintro _ rfl; refine ⟨_, by simp only [Act.put, List.setIfInBounds_toArray, List.set_cons_succ, List.set_cons_zero]; first | done | rfl, ?_⟩
      refine FinS.cons ?_; rintro _ rfl; refine ⟨_, by simp only [Act.put, List.setIfInBounds_toArray, List.set_cons_succ, List.set_cons_zero]; first | done | rfl, ?_⟩
      refine FinS.cons ?_; rintro _ rfl; refine ⟨_, by simp only [Act.put, List.setIfInBounds_toArray, List.set_cons_succ, List.set_cons_zero]; first | done | rfl, ?_⟩
      refine FinS.cons ?_; rintro _ rfl; refine ⟨_, by simp only [Act.put, List.setIfInBounds_toArray, List.set_cons_succ, List.set_cons_zero]; first | done | rfl, ?_⟩
      refine FinS.cons ?_; rintro _ rfl; refine ⟨_, by simp only [Act.put, List.setIfInBounds_toArray, List.set_cons_succ, List.set_cons_zero]; first | done | rfl, ?_⟩
      refine FinS.cons ?_; rintro _ rfl; refine ⟨_, by simp only [Act.put, List.setIfInBounds_toArray, List.set_cons_succ, List.set_cons_zero]; first | done | rfl, ?_⟩
      first | show Exit.then _ _ _ _ _ | show Exit.inBlock _ _ _ _ _
      have hgR := hgW.trans hwR.drew
      have k3' := hwR.drew.at k3
      clear k3 kn
      go_wp2_with fail
      refine (hth _).mono ?_
      rintro e w1 ⟨rfl, hw1⟩
      have hw1 := hw1.symm
      subst hw1
      go_wp2
      go_ret
      exact ⟨ret_bool HA.out.symm, hgR⟩

end Go.Proofs.Ytjggiameajndgac

/-
  Same of an array and itself; same of blocks and themselves.
-/
namespace Go.Proofs.Ytjggiameajndgac
open Go.RowKit

theorem same6_self (va vb : Value) (a : ArrP) (w : World) (ha : ArrV w va a) (hb : ArrV w vb a) : Calls Try.prog 18 #[va, vb] w fun e w' => e = .returned (.bool true) ∧ Grow w w' := by
  have := refSame6_any va vb a a w ha hb
  rwa [sameB_iff.2 rfl] at this

theorem refSame_self (v u : Value) (a : List (List Int)) (w : World) (h : Bss w v a) (g : Bss w u a) : Calls Try.prog 25 #[v, u] w fun e w' => e = .returned (.bool true) ∧ Grow w w' := by
  have := refSame_any v u a a w h g
  rwa [show (a == a) = true from by simp] at this

end Go.Proofs.Ytjggiameajndgac
