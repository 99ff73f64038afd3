/-
  Chapter 6's first statement, walked: Print and Parse answer as the document's own do.
-/
import Derived.Test.YtjggiameajndgabDoorWalkTextParse
import Derived.Test.YtjggiameajndgabDoorWalkTextPrint
import Derived.Test.YtjggiameajndgabDoorWalkRefParseAny
namespace Go.Proofs.YtjggiameajndgabDoor
open Go.RowKit

theorem DeedV.form {w : World} {v : Value} {x : DeedP} (h : DeedV w v x) : ∃ ao cap, v = .agg #[.int .i64 x.k, .int .i64 x.n, .int .i64 x.m, .slice ao x.d.length cap] ∧ Bs w (.slice ao x.d.length cap) x.d := by
  obtain ⟨dv, hv, hb⟩ := h
  have hb' := hb
  obtain ⟨ao, cap, rfl, -⟩ := hb
  exact ⟨ao, cap, hv, hb'⟩

theorem sameD_refl (x : DeedP) : sameD x x = true := sameD_iff.2 rfl

set_option maxRecDepth 20000 in
set_option maxHeartbeats 1600000 in
theorem textTells_walk (s : List UInt8) (v : Value) (x : DeedP) (w : World) (hs : s.length ≤ 4398046511104) (hlaid : Laid w) (hx : DeedV w v x) :
    Calls Tryd.prog 3 #[.string (str s), v] w fun e w' => e = .returned (.bool true) ∧ Grow w w' := by
  obtain ⟨xo, xc, rfl, hxb⟩ := hx.form
  obtain ⟨xk, xn, xm, xd⟩ := x
  dsimp only at hxb ⊢
  have hg0 : Grow w (w.alloc (.cells #[.int .i64 xk, .int .i64 xn, .int .i64 xm, .slice xo xd.length xc] 24)) := Grow.alloc _ _
  have HB0 : Hid (Box4 (w.alloc (.cells #[.int .i64 xk, .int .i64 xn, .int .i64 xm, .slice xo xd.length xc] 24)) w.heap.size (.int .i64 xk) (.int .i64 xn) (.int .i64 xm) (.slice xo xd.length xc)) := Box4.new (heap_alloc_new _ _)
  have HX0 : Hid (Bs _ (.slice xo xd.length xc) xd) := hxb.grow hg0
  clear hxb hx
  have hl0 := hlaid.grow hg0
  go_enter Tryd.func3, Tryd.ntmps3
  go_wp2_with fail
  generalize w.alloc (.cells #[.int .i64 xk, .int .i64 xn, .int .i64 xm, .slice xo xd.length xc] 24) = w0 at *
  generalize w.heap.size = X at *
  refine (parse_any s _ (by omega) hl0).mono ?_
  rintro e w1 ⟨va, rfl, hva, hg1⟩
  obtain ⟨ao, ac, rfl, hab⟩ := hva.form
  have hrp := fun w1 (h : Laid w1) => refParse_any s w1 hs h
  generalize parseP s = pr at *
  obtain ⟨⟨pk, pn, pm, pd⟩, E⟩ := pr
  dsimp only at hab ⊢
  dsimp only at hrp
  have hg2 : Grow w1 (w1.alloc (.cells #[.int .i64 pk, .int .i64 pn, .int .i64 pm, .slice ao pd.length ac] 24)) := Grow.alloc _ _
  have HA : Hid (Box4 (w1.alloc (.cells #[.int .i64 pk, .int .i64 pn, .int .i64 pm, .slice ao pd.length ac] 24)) w1.heap.size (.int .i64 pk) (.int .i64 pn) (.int .i64 pm) (.slice ao pd.length ac)) := Box4.new (heap_alloc_new _ _)
  have HA0 : Hid (Bs _ (.slice ao pd.length ac) pd) := hab.grow hg2
  have HB2 : Hid (Box4 _ X _ _ _ _) := (HB0.out.grow hg1).grow hg2
  have HX2 : Hid (Bs _ (.slice xo xd.length xc) xd) := (HX0.out.grow hg1).grow hg2
  have hgw := (hg0.trans hg1).trans hg2
  have hl2 := (hl0.grow hg1).grow hg2
  clear hva hab hg1 hg2 hl0 HB0 HX0 hg0
  go_wp2_with fail
  generalize w1.alloc (.cells #[.int .i64 pk, .int .i64 pn, .int .i64 pm, .slice ao pd.length ac] 24) = w2 at *
  generalize w1.heap.size = A at *
  refine (hrp _ hl2).mono ?_
  rintro e w3 ⟨vb, rfl, hvb, hg3⟩
  obtain ⟨bo, bc, rfl, hbb⟩ := hvb.form
  dsimp only at hbb ⊢
  have hg4 : Grow w3 (w3.alloc (.cells #[.int .i64 pk, .int .i64 pn, .int .i64 pm, .slice bo pd.length bc] 24)) := Grow.alloc _ _
  have HB : Hid (Box4 (w3.alloc (.cells #[.int .i64 pk, .int .i64 pn, .int .i64 pm, .slice bo pd.length bc] 24)) w3.heap.size (.int .i64 pk) (.int .i64 pn) (.int .i64 pm) (.slice bo pd.length bc)) := Box4.new (heap_alloc_new _ _)
  have HBB : Hid (Bs _ (.slice bo pd.length bc) pd) := hbb.grow hg4
  have hA4 := (HA.out.grow hg3).grow hg4
  have HA4 : Hid (Bs _ (.slice ao pd.length ac) pd) := (HA0.out.grow hg3).grow hg4
  have hX4 := (HB2.out.grow hg3).grow hg4
  have HX4 : Hid (Bs _ (.slice xo xd.length xc) xd) := (HX2.out.grow hg3).grow hg4
  have hgW := (hgw.trans hg3).trans hg4
  clear hvb hbb hg3 hg4 HA HA0 HB2 HX2 hgw hl2 hrp
  obtain ⟨a0, a1, a2, a3, -⟩ := hA4
  obtain ⟨x0, x1, x2, x3, -⟩ := hX4
  obtain ⟨b0, b1, b2, b3, -⟩ := HB.out
  have hsd := fun w4 (hq : Grow (w3.alloc (.cells #[.int .i64 pk, .int .i64 pn, .int .i64 pm, .slice bo pd.length bc] 24)) w4) => refSameDeed_any _ _ ⟨pk, pn, pm, pd⟩ ⟨pk, pn, pm, pd⟩ w4 ⟨_, rfl, HA4.out.grow hq⟩ ⟨_, rfl, HBB.out.grow hq⟩
  have hwr := fun w4 (hq : Grow (w3.alloc (.cells #[.int .i64 pk, .int .i64 pn, .int .i64 pm, .slice bo pd.length bc] 24)) w4) => refWrong_any _ ⟨xk, xn, xm, xd⟩ w4 ⟨_, rfl, HX4.out.grow hq⟩
  have HP1 : Hid (∀ w4 (hq : Grow (w3.alloc (.cells #[.int .i64 pk, .int .i64 pn, .int .i64 pm, .slice bo pd.length bc] 24)) w4), _) := fun w4 hq => print_any _ ⟨xk, xn, xm, xd⟩ w4 ⟨_, rfl, HX4.out.grow hq⟩
  have HP2 : Hid (∀ w4 (hq : Grow (w3.alloc (.cells #[.int .i64 pk, .int .i64 pn, .int .i64 pm, .slice bo pd.length bc] 24)) w4), _) := fun w4 hq => refPrint_any _ ⟨xk, xn, xm, xd⟩ w4 ⟨_, rfl, HX4.out.grow hq⟩
  rw [sameD_refl] at hsd
  dsimp only at hsd hwr
  obtain ⟨W, hW⟩ : ∃ W, W = wrongE ⟨xk, xn, xm, xd⟩ := ⟨_, rfl⟩
  rw [← hW] at hwr
  generalize printP ⟨xk, xn, xm, xd⟩ = P at *
  have HW : Hid (W = wrongE ⟨xk, xn, xm, xd⟩) := hW
  clear hW HA4 HBB HX4 HB
  go_wp2_with fail
  generalize w3.alloc (.cells #[.int .i64 pk, .int .i64 pn, .int .i64 pm, .slice bo pd.length bc] 24) = w4 at *
  generalize w3.heap.size = B at *
  generalize pd.length = pl at *
  generalize xd.length = xl at *
  by_cases hw : W = 0
  · have hp1 := fun w5 hq => HP1.out w5 hq (HW.out.symm.trans hw)
    have hp2 := fun w5 hq => HP2.out w5 hq (HW.out.symm.trans hw)
    subst hw
    clear HP1 HP2 HW
    refine wp_region_stable Grow [IsV (.int .i64 E), IsV (.int .i64 E), IsV (.bool true), IsV (.bool true), IsV (.agg #[.int .i64 pk, .int .i64 pn, .int .i64 pm, .slice ao pl ac]), IsV (.agg #[.int .i64 pk, .int .i64 pn, .int .i64 pm, .slice bo pl bc]), IsV (.bool true), IsV (.bool true), IsV (.bool true), IsV (.agg #[.int .i64 xk, .int .i64 xn, .int .i64 xm, .slice xo xl xc]), IsV (.int .i64 0), IsV (.bool false), IsV (.bool false), IsV (.agg #[.int .i64 xk, .int .i64 xn, .int .i64 xm, .slice xo xl xc]), IsV (.string (str P)), IsV (.agg #[.int .i64 xk, .int .i64 xn, .int .i64 xm, .slice xo xl xc]), IsV (.string (str P)), IsV (.bool true), IsV (.bool true), IsV (.bool true), IsV (.bool true)] (by kernel_rfl) (by kernel_rfl) rfl Grow.refl (fun _ _ _ => Grow.trans) ?_ ?_ ?_
    · repeat (refine List.forall_mem_cons.2 ⟨by first | exact IsV.stable _, ?_⟩)
      exact fun R hR => nomatch hR
    · skip
      refine StepsS.cons ?_ fun v0 => ⟨_, _, by simp only [Act.put, List.setIfInBounds_toArray, List.set_cons_succ, List.set_cons_zero]; first | done | rfl, by simp only [List.nil_append]; first | done | rfl, ?_⟩
      · intro w1 hE hd
        clear hd
        go_wp2
        exact ⟨_, rfl, Grow.refl _, rfl⟩
      refine StepsS.cons ?_ fun v1 => ⟨_, _, by simp only [Act.put, List.setIfInBounds_toArray, List.set_cons_succ, List.set_cons_zero]; first | done | rfl, by simp only [List.nil_append, List.cons_append]; first | done | rfl, ?_⟩
      · intro w1 hE hd
        clear hd
        go_wp2
        exact ⟨_, rfl, Grow.refl _, rfl⟩
      refine StepsS.cons ?_ fun v2 => ⟨_, _, by simp only [Act.put, List.setIfInBounds_toArray, List.set_cons_succ, List.set_cons_zero]; first | done | rfl, by simp only [List.nil_append, List.cons_append]; first | done | rfl, ?_⟩
      · intro w1 hE hd
        obtain rfl := IsV.eq (dep_at hd 0 rfl rfl rfl)
        obtain rfl := IsV.eq (dep_at hd 1 rfl rfl rfl)
        clear hd
        go_wp2
        exact ⟨_, rfl, Grow.refl _, rfl⟩
      refine StepsS.cons ?_ fun v3 => ⟨_, _, by simp only [Act.put, List.setIfInBounds_toArray, List.set_cons_succ, List.set_cons_zero]; first | done | rfl, by simp only [List.nil_append, List.cons_append]; first | done | rfl, ?_⟩
      · intro w1 hE hd
        obtain rfl := IsV.eq (dep_at hd 0 rfl rfl rfl)
        clear hd
        go_wp2
        exact ⟨_, rfl, Grow.refl _, rfl⟩
      refine StepsS.cons ?_ fun v4 => ⟨_, _, by simp only [Act.put, List.setIfInBounds_toArray, List.set_cons_succ, List.set_cons_zero]; first | done | rfl, by simp only [List.nil_append, List.cons_append]; first | done | rfl, ?_⟩
      · intro w1 hE hd
        obtain rfl := IsV.eq (dep_at hd 0 rfl rfl rfl)
        clear hd
        have c0 := hE.drew.at a0
        have c1 := hE.drew.at a1
        have c2 := hE.drew.at a2
        have c3 := hE.drew.at a3
        go_wp2
        exact ⟨_, rfl, Grow.refl _, rfl⟩
      refine StepsS.cons ?_ fun v5 => ⟨_, _, by simp only [Act.put, List.setIfInBounds_toArray, List.set_cons_succ, List.set_cons_zero]; first | done | rfl, by simp only [List.nil_append, List.cons_append]; first | done | rfl, ?_⟩
      · intro w1 hE hd
        obtain rfl := IsV.eq (dep_at hd 0 rfl rfl rfl)
        clear hd
        have c0 := hE.drew.at b0
        have c1 := hE.drew.at b1
        have c2 := hE.drew.at b2
        have c3 := hE.drew.at b3
        go_wp2
        exact ⟨_, rfl, Grow.refl _, rfl⟩
      refine StepsS.cons ?_ fun v6 => ⟨_, _, by simp only [Act.put, List.setIfInBounds_toArray, List.set_cons_succ, List.set_cons_zero]; first | done | rfl, by simp only [List.nil_append, List.cons_append]; first | done | rfl, ?_⟩
      · intro w1 hE hd
        obtain rfl := IsV.eq (dep_at hd 0 rfl rfl rfl)
        obtain rfl := IsV.eq (dep_at hd 1 rfl rfl rfl)
        obtain rfl := IsV.eq (dep_at hd 2 rfl rfl rfl)
        clear hd
        go_wp2_with fail
        refine (hsd _ hE.drew).mono ?_
        rintro e w4 ⟨rfl, hg4⟩
        go_wp2_with fail
        exact ⟨_, rfl, hg4, rfl⟩
      refine StepsS.cons ?_ fun v7 => ⟨_, _, by simp only [Act.put, List.setIfInBounds_toArray, List.set_cons_succ, List.set_cons_zero]; first | done | rfl, by simp only [List.nil_append, List.cons_append]; first | done | rfl, ?_⟩
      · intro w1 hE hd
        obtain rfl := IsV.eq (dep_at hd 0 rfl rfl rfl)
        obtain rfl := IsV.eq (dep_at hd 1 rfl rfl rfl)
        clear hd
        go_wp2
        exact ⟨_, rfl, Grow.refl _, rfl⟩
      refine StepsS.cons ?_ fun v8 => ⟨_, _, by simp only [Act.put, List.setIfInBounds_toArray, List.set_cons_succ, List.set_cons_zero]; first | done | rfl, by simp only [List.nil_append, List.cons_append]; first | done | rfl, ?_⟩
      · intro w1 hE hd
        obtain rfl := IsV.eq (dep_at hd 0 rfl rfl rfl)
        clear hd
        go_wp2
        exact ⟨_, rfl, Grow.refl _, rfl⟩
      refine StepsS.cons ?_ fun v9 => ⟨_, _, by simp only [Act.put, List.setIfInBounds_toArray, List.set_cons_succ, List.set_cons_zero]; first | done | rfl, by simp only [List.nil_append, List.cons_append]; first | done | rfl, ?_⟩
      · intro w1 hE hd
        obtain rfl := IsV.eq (dep_at hd 0 rfl rfl rfl)
        clear hd
        have c0 := hE.drew.at x0
        have c1 := hE.drew.at x1
        have c2 := hE.drew.at x2
        have c3 := hE.drew.at x3
        go_wp2
        exact ⟨_, rfl, Grow.refl _, rfl⟩
      refine StepsS.cons ?_ fun v10 => ⟨_, _, by simp only [Act.put, List.setIfInBounds_toArray, List.set_cons_succ, List.set_cons_zero]; first | done | rfl, by simp only [List.nil_append, List.cons_append]; first | done | rfl, ?_⟩
      · intro w1 hE hd
        obtain rfl := IsV.eq (dep_at hd 0 rfl rfl rfl)
        obtain rfl := IsV.eq (dep_at hd 1 rfl rfl rfl)
        clear hd
        go_wp2_with fail
        refine (hwr _ hE.drew).mono ?_
        rintro e w4 ⟨rfl, hg4⟩
        go_wp2_with fail
        exact ⟨_, rfl, hg4, rfl⟩
      refine StepsS.cons ?_ fun v11 => ⟨_, _, by simp only [Act.put, List.setIfInBounds_toArray, List.set_cons_succ, List.set_cons_zero]; first | done | rfl, by simp only [List.nil_append, List.cons_append]; first | done | rfl, ?_⟩
      · intro w1 hE hd
        obtain rfl := IsV.eq (dep_at hd 0 rfl rfl rfl)
        obtain rfl := IsV.eq (dep_at hd 1 rfl rfl rfl)
        clear hd
        go_wp2
        exact ⟨_, rfl, Grow.refl _, rfl⟩
      refine StepsS.cons ?_ fun v12 => ⟨_, _, by simp only [Act.put, List.setIfInBounds_toArray, List.set_cons_succ, List.set_cons_zero]; first | done | rfl, by simp only [List.nil_append, List.cons_append]; first | done | rfl, ?_⟩
      · intro w1 hE hd
        obtain rfl := IsV.eq (dep_at hd 0 rfl rfl rfl)
        obtain rfl := IsV.eq (dep_at hd 2 rfl rfl rfl)
        clear hd
        go_wp2
        exact ⟨_, rfl, Grow.refl _, rfl⟩
      refine StepsS.cons ?_ fun v13 => ⟨_, _, by simp only [Act.put, List.setIfInBounds_toArray, List.set_cons_succ, List.set_cons_zero]; first | done | rfl, by simp only [List.nil_append, List.cons_append]; first | done | rfl, ?_⟩
      · intro w1 hE hd
        obtain rfl := IsV.eq (dep_at hd 0 rfl rfl rfl)
        clear hd
        have c0 := hE.drew.at x0
        have c1 := hE.drew.at x1
        have c2 := hE.drew.at x2
        have c3 := hE.drew.at x3
        go_wp2
        exact ⟨_, rfl, Grow.refl _, rfl⟩
      refine StepsS.cons ?_ fun v14 => ⟨_, _, by simp only [Act.put, List.setIfInBounds_toArray, List.set_cons_succ, List.set_cons_zero]; first | done | rfl, by simp only [List.nil_append, List.cons_append]; first | done | rfl, ?_⟩
      · intro w1 hE hd
        obtain rfl := IsV.eq (dep_at hd 0 rfl rfl rfl)
        obtain rfl := IsV.eq (dep_at hd 1 rfl rfl rfl)
        clear hd
        go_wp2_with fail
        refine (hp1 _ hE.drew).mono ?_
        rintro e w4 ⟨rfl, hg4⟩
        go_wp2_with fail
        exact ⟨_, rfl, hg4, rfl⟩
      refine StepsS.cons ?_ fun v15 => ⟨_, _, by simp only [Act.put, List.setIfInBounds_toArray, List.set_cons_succ, List.set_cons_zero]; first | done | rfl, by simp only [List.nil_append, List.cons_append]; first | done | rfl, ?_⟩
      · intro w1 hE hd
        obtain rfl := IsV.eq (dep_at hd 0 rfl rfl rfl)
        clear hd
        have c0 := hE.drew.at x0
        have c1 := hE.drew.at x1
        have c2 := hE.drew.at x2
        have c3 := hE.drew.at x3
        go_wp2
        exact ⟨_, rfl, Grow.refl _, rfl⟩
      refine StepsS.cons ?_ fun v16 => ⟨_, _, by simp only [Act.put, List.setIfInBounds_toArray, List.set_cons_succ, List.set_cons_zero]; first | done | rfl, by simp only [List.nil_append, List.cons_append]; first | done | rfl, ?_⟩
      · intro w1 hE hd
        obtain rfl := IsV.eq (dep_at hd 0 rfl rfl rfl)
        obtain rfl := IsV.eq (dep_at hd 2 rfl rfl rfl)
        clear hd
        go_wp2_with fail
        refine (hp2 _ hE.drew).mono ?_
        rintro e w4 ⟨rfl, hg4⟩
        go_wp2_with fail
        exact ⟨_, rfl, hg4, rfl⟩
      refine StepsS.cons ?_ fun v17 => ⟨_, _, by simp only [Act.put, List.setIfInBounds_toArray, List.set_cons_succ, List.set_cons_zero]; first | done | rfl, by simp only [List.nil_append, List.cons_append]; first | done | rfl, ?_⟩
      · intro w1 hE hd
        obtain rfl := IsV.eq (dep_at hd 0 rfl rfl rfl)
        obtain rfl := IsV.eq (dep_at hd 1 rfl rfl rfl)
        obtain rfl := IsV.eq (dep_at hd 2 rfl rfl rfl)
        clear hd
        go_wp2
        exact ⟨_, rfl, Grow.refl _, rfl⟩
      refine StepsS.cons ?_ fun v18 => ⟨_, _, by simp only [Act.put, List.setIfInBounds_toArray, List.set_cons_succ, List.set_cons_zero]; first | done | rfl, by simp only [List.nil_append, List.cons_append]; first | done | rfl, ?_⟩
      · intro w1 hE hd
        obtain rfl := IsV.eq (dep_at hd 0 rfl rfl rfl)
        obtain rfl := IsV.eq (dep_at hd 1 rfl rfl rfl)
        obtain rfl := IsV.eq (dep_at hd 2 rfl rfl rfl)
        clear hd
        go_wp2
        exact ⟨_, rfl, Grow.refl _, rfl⟩
      refine StepsS.cons ?_ fun v19 => ⟨_, _, by simp only [Act.put, List.setIfInBounds_toArray, List.set_cons_succ, List.set_cons_zero]; first | done | rfl, by simp only [List.nil_append, List.cons_append]; first | done | rfl, ?_⟩
      · intro w1 hE hd
        obtain rfl := IsV.eq (dep_at hd 0 rfl rfl rfl)
        obtain rfl := IsV.eq (dep_at hd 1 rfl rfl rfl)
        clear hd
        go_wp2
        exact ⟨_, rfl, Grow.refl _, rfl⟩
      refine StepsS.cons ?_ fun v20 => ⟨_, _, by simp only [Act.put, List.setIfInBounds_toArray, List.set_cons_succ, List.set_cons_zero]; first | done | rfl, by simp only [List.nil_append, List.cons_append]; first | done | rfl, ?_⟩
      · intro w1 hE hd
        obtain rfl := IsV.eq (dep_at hd 0 rfl rfl rfl)
        clear hd
        go_wp2
        exact ⟨_, rfl, Grow.refl _, rfl⟩
      trivial
    intro wR hwR
    refine FinS.cons ?_; rintro _ rfl; refine ⟨_, by simp only [Act.put, List.setIfInBounds_toArray, List.set_cons_succ, List.set_cons_zero]; first | done | rfl, ?_⟩
    refine FinS.cons ?_; rintro _ rfl; refine ⟨_, by simp only [Act.put, List.setIfInBounds_toArray, List.set_cons_succ, List.set_cons_zero]; first | done | rfl, ?_⟩
    refine FinS.cons ?_; rintro _ rfl; refine ⟨_, by simp only [Act.put, List.setIfInBounds_toArray, List.set_cons_succ, List.set_cons_zero]; first | done | rfl, ?_⟩
    refine FinS.cons ?_; rintro _ rfl; refine ⟨_, by simp only [Act.put, List.setIfInBounds_toArray, List.set_cons_succ, List.set_cons_zero]; first | done | rfl, ?_⟩
    refine FinS.cons ?_; rintro _ rfl; refine ⟨_, by simp only [Act.put, List.setIfInBounds_toArray, List.set_cons_succ, List.set_cons_zero]; first | done | rfl, ?_⟩
    refine FinS.cons ?_; rintro _ rfl; refine ⟨_, by simp only [Act.put, List.setIfInBounds_toArray, List.set_cons_succ, List.set_cons_zero]; first | done | rfl, ?_⟩
    refine FinS.cons ?_; rintro _ rfl; refine ⟨_, by simp only [Act.put, List.setIfInBounds_toArray, List.set_cons_succ, List.set_cons_zero]; first | done | rfl, ?_⟩
    refine FinS.cons ?_; rintro _ rfl; refine ⟨_, by simp only [Act.put, List.setIfInBounds_toArray, List.set_cons_succ, List.set_cons_zero]; first | done | rfl, ?_⟩
    refine FinS.cons ?_; rintro _ rfl; refine ⟨_, by simp only [Act.put, List.setIfInBounds_toArray, List.set_cons_succ, List.set_cons_zero]; first | done | rfl, ?_⟩
    refine FinS.cons ?_; rintro _ rfl; refine ⟨_, by simp only [Act.put, List.setIfInBounds_toArray, List.set_cons_succ, List.set_cons_zero]; first | done | rfl, ?_⟩
    refine FinS.cons ?_; rintro _ rfl; refine ⟨_, by simp only [Act.put, List.setIfInBounds_toArray, List.set_cons_succ, List.set_cons_zero]; first | done | rfl, ?_⟩
    refine FinS.cons ?_; rintro _ rfl; refine ⟨_, by simp only [Act.put, List.setIfInBounds_toArray, List.set_cons_succ, List.set_cons_zero]; first | done | rfl, ?_⟩
    refine FinS.cons ?_; rintro _ rfl; refine ⟨_, by simp only [Act.put, List.setIfInBounds_toArray, List.set_cons_succ, List.set_cons_zero]; first | done | rfl, ?_⟩
    refine FinS.cons ?_; rintro _ rfl; refine ⟨_, by simp only [Act.put, List.setIfInBounds_toArray, List.set_cons_succ, List.set_cons_zero]; first | done | rfl, ?_⟩
    refine FinS.cons ?_; rintro _ rfl; refine ⟨_, by simp only [Act.put, List.setIfInBounds_toArray, List.set_cons_succ, List.set_cons_zero]; first | done | rfl, ?_⟩
    refine FinS.cons ?_; rintro _ rfl; refine ⟨_, by simp only [Act.put, List.setIfInBounds_toArray, List.set_cons_succ, List.set_cons_zero]; first | done | rfl, ?_⟩
    refine FinS.cons ?_; rintro _ rfl; refine ⟨_, by simp only [Act.put, List.setIfInBounds_toArray, List.set_cons_succ, List.set_cons_zero]; first | done | rfl, ?_⟩
    refine FinS.cons ?_; rintro _ rfl; refine ⟨_, by simp only [Act.put, List.setIfInBounds_toArray, List.set_cons_succ, List.set_cons_zero]; first | done | rfl, ?_⟩
    refine FinS.cons ?_; rintro _ rfl; refine ⟨_, by simp only [Act.put, List.setIfInBounds_toArray, List.set_cons_succ, List.set_cons_zero]; first | done | rfl, ?_⟩
    refine FinS.cons ?_; rintro _ rfl; refine ⟨_, by simp only [Act.put, List.setIfInBounds_toArray, List.set_cons_succ, List.set_cons_zero]; first | done | rfl, ?_⟩
    refine FinS.cons ?_; rintro _ rfl; refine ⟨_, by simp only [Act.put, List.setIfInBounds_toArray, List.set_cons_succ, List.set_cons_zero]; first | done | rfl, ?_⟩
    first | show Exit.then _ _ _ _ _ | show Exit.inBlock _ _ _ _ _
    go_wp2
    go_ret
    exact ⟨rfl, hgW.trans hwR.drew⟩
  · have hw1 : (W != 0) = true := by simpa using hw
    clear HP1 HP2 HW hw
    refine wp_region_stable Grow [IsV (.int .i64 E), IsV (.int .i64 E), IsV (.bool true), IsV (.bool true), IsV (.agg #[.int .i64 pk, .int .i64 pn, .int .i64 pm, .slice ao pl ac]), IsV (.agg #[.int .i64 pk, .int .i64 pn, .int .i64 pm, .slice bo pl bc]), IsV (.bool true), IsV (.bool true), IsV (.bool true), IsV (.agg #[.int .i64 xk, .int .i64 xn, .int .i64 xm, .slice xo xl xc]), IsV (.int .i64 W), IsV (.bool true), IsV (.bool true), IsV (undef), IsV (undef), IsV (undef), IsV (undef), IsV (undef), IsV (.bool true), IsV (.bool true), IsV (.bool true)] (by kernel_rfl) (by kernel_rfl) rfl Grow.refl (fun _ _ _ => Grow.trans) ?_ ?_ ?_
    · repeat (refine List.forall_mem_cons.2 ⟨by first | exact IsV.stable _, ?_⟩)
      exact fun R hR => nomatch hR
    · skip
      refine StepsS.cons ?_ fun v0 => ⟨_, _, by simp only [Act.put, List.setIfInBounds_toArray, List.set_cons_succ, List.set_cons_zero]; first | done | rfl, by simp only [List.nil_append]; first | done | rfl, ?_⟩
      · intro w1 hE hd
        clear hd
        go_wp2
        exact ⟨_, rfl, Grow.refl _, rfl⟩
      refine StepsS.cons ?_ fun v1 => ⟨_, _, by simp only [Act.put, List.setIfInBounds_toArray, List.set_cons_succ, List.set_cons_zero]; first | done | rfl, by simp only [List.nil_append, List.cons_append]; first | done | rfl, ?_⟩
      · intro w1 hE hd
        clear hd
        go_wp2
        exact ⟨_, rfl, Grow.refl _, rfl⟩
      refine StepsS.cons ?_ fun v2 => ⟨_, _, by simp only [Act.put, List.setIfInBounds_toArray, List.set_cons_succ, List.set_cons_zero]; first | done | rfl, by simp only [List.nil_append, List.cons_append]; first | done | rfl, ?_⟩
      · intro w1 hE hd
        obtain rfl := IsV.eq (dep_at hd 0 rfl rfl rfl)
        obtain rfl := IsV.eq (dep_at hd 1 rfl rfl rfl)
        clear hd
        go_wp2
        exact ⟨_, rfl, Grow.refl _, rfl⟩
      refine StepsS.cons ?_ fun v3 => ⟨_, _, by simp only [Act.put, List.setIfInBounds_toArray, List.set_cons_succ, List.set_cons_zero]; first | done | rfl, by simp only [List.nil_append, List.cons_append]; first | done | rfl, ?_⟩
      · intro w1 hE hd
        obtain rfl := IsV.eq (dep_at hd 0 rfl rfl rfl)
        clear hd
        go_wp2
        exact ⟨_, rfl, Grow.refl _, rfl⟩
      refine StepsS.cons ?_ fun v4 => ⟨_, _, by simp only [Act.put, List.setIfInBounds_toArray, List.set_cons_succ, List.set_cons_zero]; first | done | rfl, by simp only [List.nil_append, List.cons_append]; first | done | rfl, ?_⟩
      · intro w1 hE hd
        obtain rfl := IsV.eq (dep_at hd 0 rfl rfl rfl)
        clear hd
        have c0 := hE.drew.at a0
        have c1 := hE.drew.at a1
        have c2 := hE.drew.at a2
        have c3 := hE.drew.at a3
        go_wp2
        exact ⟨_, rfl, Grow.refl _, rfl⟩
      refine StepsS.cons ?_ fun v5 => ⟨_, _, by simp only [Act.put, List.setIfInBounds_toArray, List.set_cons_succ, List.set_cons_zero]; first | done | rfl, by simp only [List.nil_append, List.cons_append]; first | done | rfl, ?_⟩
      · intro w1 hE hd
        obtain rfl := IsV.eq (dep_at hd 0 rfl rfl rfl)
        clear hd
        have c0 := hE.drew.at b0
        have c1 := hE.drew.at b1
        have c2 := hE.drew.at b2
        have c3 := hE.drew.at b3
        go_wp2
        exact ⟨_, rfl, Grow.refl _, rfl⟩
      refine StepsS.cons ?_ fun v6 => ⟨_, _, by simp only [Act.put, List.setIfInBounds_toArray, List.set_cons_succ, List.set_cons_zero]; first | done | rfl, by simp only [List.nil_append, List.cons_append]; first | done | rfl, ?_⟩
      · intro w1 hE hd
        obtain rfl := IsV.eq (dep_at hd 0 rfl rfl rfl)
        obtain rfl := IsV.eq (dep_at hd 1 rfl rfl rfl)
        obtain rfl := IsV.eq (dep_at hd 2 rfl rfl rfl)
        clear hd
        go_wp2_with fail
        refine (hsd _ hE.drew).mono ?_
        rintro e w4 ⟨rfl, hg4⟩
        go_wp2_with fail
        exact ⟨_, rfl, hg4, rfl⟩
      refine StepsS.cons ?_ fun v7 => ⟨_, _, by simp only [Act.put, List.setIfInBounds_toArray, List.set_cons_succ, List.set_cons_zero]; first | done | rfl, by simp only [List.nil_append, List.cons_append]; first | done | rfl, ?_⟩
      · intro w1 hE hd
        obtain rfl := IsV.eq (dep_at hd 0 rfl rfl rfl)
        obtain rfl := IsV.eq (dep_at hd 1 rfl rfl rfl)
        clear hd
        go_wp2
        exact ⟨_, rfl, Grow.refl _, rfl⟩
      refine StepsS.cons ?_ fun v8 => ⟨_, _, by simp only [Act.put, List.setIfInBounds_toArray, List.set_cons_succ, List.set_cons_zero]; first | done | rfl, by simp only [List.nil_append, List.cons_append]; first | done | rfl, ?_⟩
      · intro w1 hE hd
        obtain rfl := IsV.eq (dep_at hd 0 rfl rfl rfl)
        clear hd
        go_wp2
        exact ⟨_, rfl, Grow.refl _, rfl⟩
      refine StepsS.cons ?_ fun v9 => ⟨_, _, by simp only [Act.put, List.setIfInBounds_toArray, List.set_cons_succ, List.set_cons_zero]; first | done | rfl, by simp only [List.nil_append, List.cons_append]; first | done | rfl, ?_⟩
      · intro w1 hE hd
        obtain rfl := IsV.eq (dep_at hd 0 rfl rfl rfl)
        clear hd
        have c0 := hE.drew.at x0
        have c1 := hE.drew.at x1
        have c2 := hE.drew.at x2
        have c3 := hE.drew.at x3
        go_wp2
        exact ⟨_, rfl, Grow.refl _, rfl⟩
      refine StepsS.cons ?_ fun v10 => ⟨_, _, by simp only [Act.put, List.setIfInBounds_toArray, List.set_cons_succ, List.set_cons_zero]; first | done | rfl, by simp only [List.nil_append, List.cons_append]; first | done | rfl, ?_⟩
      · intro w1 hE hd
        obtain rfl := IsV.eq (dep_at hd 0 rfl rfl rfl)
        obtain rfl := IsV.eq (dep_at hd 1 rfl rfl rfl)
        clear hd
        go_wp2_with fail
        refine (hwr _ hE.drew).mono ?_
        rintro e w4 ⟨rfl, hg4⟩
        go_wp2_with fail
        exact ⟨_, rfl, hg4, rfl⟩
      refine StepsS.cons ?_ fun v11 => ⟨_, _, by simp only [Act.put, List.setIfInBounds_toArray, List.set_cons_succ, List.set_cons_zero]; first | done | rfl, by simp only [List.nil_append, List.cons_append]; first | done | rfl, ?_⟩
      · intro w1 hE hd
        obtain rfl := IsV.eq (dep_at hd 0 rfl rfl rfl)
        obtain rfl := IsV.eq (dep_at hd 1 rfl rfl rfl)
        clear hd
        go_wp2
        exact ⟨_, rfl, Grow.refl _, rfl⟩
      refine StepsS.cons ?_ fun v12 => ⟨_, _, by simp only [Act.put, List.setIfInBounds_toArray, List.set_cons_succ, List.set_cons_zero]; first | done | rfl, by simp only [List.nil_append, List.cons_append]; first | done | rfl, ?_⟩
      · intro w1 hE hd
        obtain rfl := IsV.eq (dep_at hd 0 rfl rfl rfl)
        obtain rfl := IsV.eq (dep_at hd 2 rfl rfl rfl)
        clear hd
        go_wp2
        exact ⟨_, rfl, Grow.refl _, rfl⟩
      refine StepsS.cons ?_ fun v13 => ⟨_, _, by simp only [Act.put, List.setIfInBounds_toArray, List.set_cons_succ, List.set_cons_zero]; first | done | rfl, by simp only [List.nil_append, List.cons_append]; first | done | rfl, ?_⟩
      · intro w1 hE hd
        obtain rfl := IsV.eq (dep_at hd 0 rfl rfl rfl)
        clear hd
        go_wp2
        exact ⟨_, rfl, Grow.refl _, rfl⟩
      refine StepsS.cons ?_ fun v14 => ⟨_, _, by simp only [Act.put, List.setIfInBounds_toArray, List.set_cons_succ, List.set_cons_zero]; first | done | rfl, by simp only [List.nil_append, List.cons_append]; first | done | rfl, ?_⟩
      · intro w1 hE hd
        obtain rfl := IsV.eq (dep_at hd 0 rfl rfl rfl)
        obtain rfl := IsV.eq (dep_at hd 1 rfl rfl rfl)
        clear hd
        go_wp2
        exact ⟨_, rfl, Grow.refl _, rfl⟩
      refine StepsS.cons ?_ fun v15 => ⟨_, _, by simp only [Act.put, List.setIfInBounds_toArray, List.set_cons_succ, List.set_cons_zero]; first | done | rfl, by simp only [List.nil_append, List.cons_append]; first | done | rfl, ?_⟩
      · intro w1 hE hd
        obtain rfl := IsV.eq (dep_at hd 0 rfl rfl rfl)
        clear hd
        go_wp2
        exact ⟨_, rfl, Grow.refl _, rfl⟩
      refine StepsS.cons ?_ fun v16 => ⟨_, _, by simp only [Act.put, List.setIfInBounds_toArray, List.set_cons_succ, List.set_cons_zero]; first | done | rfl, by simp only [List.nil_append, List.cons_append]; first | done | rfl, ?_⟩
      · intro w1 hE hd
        obtain rfl := IsV.eq (dep_at hd 0 rfl rfl rfl)
        obtain rfl := IsV.eq (dep_at hd 2 rfl rfl rfl)
        clear hd
        go_wp2
        exact ⟨_, rfl, Grow.refl _, rfl⟩
      refine StepsS.cons ?_ fun v17 => ⟨_, _, by simp only [Act.put, List.setIfInBounds_toArray, List.set_cons_succ, List.set_cons_zero]; first | done | rfl, by simp only [List.nil_append, List.cons_append]; first | done | rfl, ?_⟩
      · intro w1 hE hd
        obtain rfl := IsV.eq (dep_at hd 0 rfl rfl rfl)
        obtain rfl := IsV.eq (dep_at hd 1 rfl rfl rfl)
        obtain rfl := IsV.eq (dep_at hd 2 rfl rfl rfl)
        clear hd
        go_wp2
        exact ⟨_, rfl, Grow.refl _, rfl⟩
      refine StepsS.cons ?_ fun v18 => ⟨_, _, by simp only [Act.put, List.setIfInBounds_toArray, List.set_cons_succ, List.set_cons_zero]; first | done | rfl, by simp only [List.nil_append, List.cons_append]; first | done | rfl, ?_⟩
      · intro w1 hE hd
        obtain rfl := IsV.eq (dep_at hd 0 rfl rfl rfl)
        obtain rfl := IsV.eq (dep_at hd 1 rfl rfl rfl)
        obtain rfl := IsV.eq (dep_at hd 2 rfl rfl rfl)
        clear hd
        go_wp2
        exact ⟨_, rfl, Grow.refl _, rfl⟩
      refine StepsS.cons ?_ fun v19 => ⟨_, _, by simp only [Act.put, List.setIfInBounds_toArray, List.set_cons_succ, List.set_cons_zero]; first | done | rfl, by simp only [List.nil_append, List.cons_append]; first | done | rfl, ?_⟩
      · intro w1 hE hd
        obtain rfl := IsV.eq (dep_at hd 0 rfl rfl rfl)
        obtain rfl := IsV.eq (dep_at hd 1 rfl rfl rfl)
        clear hd
        go_wp2
        exact ⟨_, rfl, Grow.refl _, rfl⟩
      refine StepsS.cons ?_ fun v20 => ⟨_, _, by simp only [Act.put, List.setIfInBounds_toArray, List.set_cons_succ, List.set_cons_zero]; first | done | rfl, by simp only [List.nil_append, List.cons_append]; first | done | rfl, ?_⟩
      · intro w1 hE hd
        obtain rfl := IsV.eq (dep_at hd 0 rfl rfl rfl)
        clear hd
        go_wp2
        exact ⟨_, rfl, Grow.refl _, rfl⟩
      trivial
    intro wR hwR
    refine FinS.cons ?_; rintro _ rfl; refine ⟨_, by simp only [Act.put, List.setIfInBounds_toArray, List.set_cons_succ, List.set_cons_zero]; first | done | rfl, ?_⟩
    refine FinS.cons ?_; rintro _ rfl; refine ⟨_, by simp only [Act.put, List.setIfInBounds_toArray, List.set_cons_succ, List.set_cons_zero]; first | done | rfl, ?_⟩
    refine FinS.cons ?_; rintro _ rfl; refine ⟨_, by simp only [Act.put, List.setIfInBounds_toArray, List.set_cons_succ, List.set_cons_zero]; first | done | rfl, ?_⟩
    refine FinS.cons ?_; rintro _ rfl; refine ⟨_, by simp only [Act.put, List.setIfInBounds_toArray, List.set_cons_succ, List.set_cons_zero]; first | done | rfl, ?_⟩
    refine FinS.cons ?_; rintro _ rfl; refine ⟨_, by simp only [Act.put, List.setIfInBounds_toArray, List.set_cons_succ, List.set_cons_zero]; first | done | rfl, ?_⟩
    refine FinS.cons ?_; rintro _ rfl; refine ⟨_, by simp only [Act.put, List.setIfInBounds_toArray, List.set_cons_succ, List.set_cons_zero]; first | done | rfl, ?_⟩
    refine FinS.cons ?_; rintro _ rfl; refine ⟨_, by simp only [Act.put, List.setIfInBounds_toArray, List.set_cons_succ, List.set_cons_zero]; first | done | rfl, ?_⟩
    refine FinS.cons ?_; rintro _ rfl; refine ⟨_, by simp only [Act.put, List.setIfInBounds_toArray, List.set_cons_succ, List.set_cons_zero]; first | done | rfl, ?_⟩
    refine FinS.cons ?_; rintro _ rfl; refine ⟨_, by simp only [Act.put, List.setIfInBounds_toArray, List.set_cons_succ, List.set_cons_zero]; first | done | rfl, ?_⟩
    refine FinS.cons ?_; rintro _ rfl; refine ⟨_, by simp only [Act.put, List.setIfInBounds_toArray, List.set_cons_succ, List.set_cons_zero]; first | done | rfl, ?_⟩
    refine FinS.cons ?_; rintro _ rfl; refine ⟨_, by simp only [Act.put, List.setIfInBounds_toArray, List.set_cons_succ, List.set_cons_zero]; first | done | rfl, ?_⟩
    refine FinS.cons ?_; rintro _ rfl; refine ⟨_, by simp only [Act.put, List.setIfInBounds_toArray, List.set_cons_succ, List.set_cons_zero]; first | done | rfl, ?_⟩
    refine FinS.cons ?_; rintro _ rfl; refine ⟨_, by simp only [Act.put, List.setIfInBounds_toArray, List.set_cons_succ, List.set_cons_zero]; first | done | rfl, ?_⟩
    refine FinS.cons ?_; rintro _ rfl; refine ⟨_, by simp only [Act.put, List.setIfInBounds_toArray, List.set_cons_succ, List.set_cons_zero]; first | done | rfl, ?_⟩
    refine FinS.cons ?_; rintro _ rfl; refine ⟨_, by simp only [Act.put, List.setIfInBounds_toArray, List.set_cons_succ, List.set_cons_zero]; first | done | rfl, ?_⟩
    refine FinS.cons ?_; rintro _ rfl; refine ⟨_, by simp only [Act.put, List.setIfInBounds_toArray, List.set_cons_succ, List.set_cons_zero]; first | done | rfl, ?_⟩
    refine FinS.cons ?_; rintro _ rfl; refine ⟨_, by simp only [Act.put, List.setIfInBounds_toArray, List.set_cons_succ, List.set_cons_zero]; first | done | rfl, ?_⟩
    refine FinS.cons ?_; rintro _ rfl; refine ⟨_, by simp only [Act.put, List.setIfInBounds_toArray, List.set_cons_succ, List.set_cons_zero]; first | done | rfl, ?_⟩
    refine FinS.cons ?_; rintro _ rfl; refine ⟨_, by simp only [Act.put, List.setIfInBounds_toArray, List.set_cons_succ, List.set_cons_zero]; first | done | rfl, ?_⟩
    refine FinS.cons ?_; rintro _ rfl; refine ⟨_, by simp only [Act.put, List.setIfInBounds_toArray, List.set_cons_succ, List.set_cons_zero]; first | done | rfl, ?_⟩
    refine FinS.cons ?_; rintro _ rfl; refine ⟨_, by simp only [Act.put, List.setIfInBounds_toArray, List.set_cons_succ, List.set_cons_zero]; first | done | rfl, ?_⟩
    first | show Exit.then _ _ _ _ _ | show Exit.inBlock _ _ _ _ _
    go_wp2
    go_ret
    exact ⟨rfl, hgW.trans hwR.drew⟩

end Go.Proofs.YtjggiameajndgabDoor
