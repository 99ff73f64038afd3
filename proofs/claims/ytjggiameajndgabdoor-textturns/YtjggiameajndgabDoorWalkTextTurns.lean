/-
  Chapter 6's second statement, walked: written, and read again.
-/
import Derived.Test.YtjggiameajndgabDoorWalkTextTells
namespace Go.Proofs.YtjggiameajndgabDoor
open Go.RowKit

def abcd : DeedP := ⟨1, 4, 0, [97, 98, 99, 100]⟩
def oneTwo : DeedP := ⟨2, 1, 2, []⟩

theorem abcd_print : printP abcd = [119, 114, 105, 116, 101, 32, 52, 32, 54, 49, 54, 50, 54, 51, 54, 52] := by
  unfold printP abcd
  rw [if_neg (by decide), show ((4 : Int)) = ((4 : Nat) : Int) from rfl, itoa_small 4 (by decide)]
  decide

theorem oneTwo_print : printP oneTwo = [115, 119, 97, 112, 32, 49, 32, 50] := by
  unfold printP oneTwo
  rw [if_pos rfl, show ((1 : Int)) = ((1 : Nat) : Int) from rfl, show ((2 : Int)) = ((2 : Nat) : Int) from rfl, itoa_small 1 (by decide), itoa_small 2 (by decide)]
  decide

theorem abcd_right : wrongE abcd = 0 := by decide
theorem oneTwo_right : wrongE oneTwo = 0 := by decide

theorem abcd_parse : parseP [119, 114, 105, 116, 101, 32, 52, 32, 54, 49, 54, 50, 54, 51, 54, 52] = (abcd, 0) := by
  rw [← abcd_print]; exact parse_print abcd abcd_right (by decide)
theorem oneTwo_parse : parseP [115, 119, 97, 112, 32, 49, 32, 50] = (oneTwo, 0) := by
  rw [← oneTwo_print]; exact parse_print oneTwo oneTwo_right (by decide)

set_option maxRecDepth 20000 in
set_option maxHeartbeats 1600000 in
theorem alive6_any (w : World) (hlaid : Laid w) :
    Calls Tryd.prog 11 #[] w fun e w' => e = .returned (.bool true) ∧ Grow w w' := by
  have ht1 : ((str [119, 114, 105, 116, 101, 32, 52, 32, 54, 49, 54, 50, 54, 51, 54, 52]).toList == [119, 114, 105, 116, 101, 32, 52, 32, 54, 49, 54, 50, 54, 51, 54, 52]) = true := test_yes rfl
  have ht2 : ((str [115, 119, 97, 112, 32, 49, 32, 50]).toList == [115, 119, 97, 112, 32, 49, 32, 50]) = true := test_yes rfl
  go_enter Tryd.func11, Tryd.ntmps11
  go_wp2_with fail
  refine (parse_any [119, 114, 105, 116, 101, 32, 52, 32, 54, 49, 54, 50, 54, 51, 54, 52] _ (by decide) hlaid).mono ?_
  rw [abcd_parse]
  rintro e w1 ⟨va, rfl, hva, hg1⟩
  obtain ⟨ao, ac, rfl, hab⟩ := hva.form
  dsimp only [abcd] at hab ⊢
  have hg2 : Grow w1 (w1.alloc (.cells #[.int .i64 1, .int .i64 4, .int .i64 0, .slice ao 4 ac] 24)) := Grow.alloc _ _
  have HA : Hid (Box4 (w1.alloc (.cells #[.int .i64 1, .int .i64 4, .int .i64 0, .slice ao 4 ac] 24)) w1.heap.size (.int .i64 1) (.int .i64 4) (.int .i64 0) (.slice ao 4 ac)) := Box4.new (heap_alloc_new _ _)
  have HA0 : Hid (Bs _ (.slice ao 4 ac) [97, 98, 99, 100]) := hab.grow hg2
  have hgw := hg1.trans hg2
  clear hva hab hg1 hg2
  go_wp2_with fail
  generalize w1.alloc (.cells #[.int .i64 1, .int .i64 4, .int .i64 0, .slice ao 4 ac] 24) = w2 at *
  generalize w1.heap.size = A at *
  refine (parse_any [115, 119, 97, 112, 32, 49, 32, 50] _ (by decide) (hlaid.grow hgw)).mono ?_
  rw [oneTwo_parse]
  rintro e w3 ⟨vb, rfl, hvb, hg3⟩
  obtain ⟨bo, bc, rfl, hbb⟩ := hvb.form
  dsimp only [oneTwo] at hbb ⊢
  have hg4 : Grow w3 (w3.alloc (.cells #[.int .i64 2, .int .i64 1, .int .i64 2, .slice bo 0 bc] 24)) := Grow.alloc _ _
  have HB : Hid (Box4 (w3.alloc (.cells #[.int .i64 2, .int .i64 1, .int .i64 2, .slice bo 0 bc] 24)) w3.heap.size (.int .i64 2) (.int .i64 1) (.int .i64 2) (.slice bo 0 bc)) := Box4.new (heap_alloc_new _ _)
  have HBB : Hid (Bs _ (.slice bo 0 bc) []) := hbb.grow hg4
  have HA4 : Hid (Box4 _ A _ _ _ _) := (HA.out.grow hg3).grow hg4
  have HA5 : Hid (Bs _ (.slice ao 4 ac) [97, 98, 99, 100]) := (HA0.out.grow hg3).grow hg4
  have hgW := (hgw.trans hg3).trans hg4
  clear hvb hbb hg3 hg4 HA HA0 hgw
  have hcv := run_convert_bs (P := Tryd.prog) 22 5 9 Tryd.underlying22 Tryd.underlying5 Tryd.underlying9 HA5.out
  rw [show strOfNums [97, 98, 99, 100] = ({ data := #[97, 98, 99, 100] } : ByteArray) from rfl] at hcv
  obtain ⟨a0, a1, a2, a3, -⟩ := HA4.out
  obtain ⟨b0, b1, b2, b3, -⟩ := HB.out
  go_wp2_with fail
  generalize w3.alloc (.cells #[.int .i64 2, .int .i64 1, .int .i64 2, .slice bo 0 bc] 24) = w4 at *
  generalize w3.heap.size = B at *
  refine (print_any _ abcd _ ⟨_, rfl, HA5.out⟩ abcd_right).mono ?_
  rw [abcd_print]
  rintro e w5 ⟨rfl, hg5⟩
  clear a0 a1 a2 a3 b0 b1 b2 b3 hcv
  obtain ⟨b0, b1, b2, b3, -⟩ := HB.out.grow hg5
  go_wp2_with fail
  refine (print_any _ oneTwo _ ⟨_, rfl, HBB.out.grow hg5⟩ oneTwo_right).mono ?_
  rw [oneTwo_print]
  rintro e w6 ⟨rfl, hg6⟩
  go_wp2_with fail
  go_ret
  exact ⟨rfl, (hgW.trans hg5).trans hg6⟩

theorem oct_lt {d : List Int} (h : Octets d) : ∀ c ∈ d, 0 ≤ c ∧ c < 256 := fun c hc => by have := h c hc; omega

theorem print_len {x : DeedP} (h : wrongE x = 0) : (printP x).length ≤ 140737488355328 := by
  obtain ⟨hk, n0, n1, r1, r2⟩ := right_deed h
  obtain ⟨k, n, m, d⟩ := x
  simp only at *
  obtain ⟨n, rfl⟩ : ∃ j : Nat, n = (j : Int) := ⟨n.toNat, by omega⟩
  rcases hk with rfl | rfl
  · obtain ⟨rfl, hd4⟩ := r1 rfl
    simp only [printP]
    rw [if_neg (by decide), itoa_small n (by omega)]
    simp only [List.length_append, List.length_cons, List.length_nil, hexL_length, hd4, wrW]
    omega
  · obtain ⟨m1, m2, m3⟩ := r2 rfl
    have hm : 0 ≤ m ∧ m ≤ 8 := by
      unfold whereE at m1
      split at m1 <;> omega
    obtain ⟨m, rfl⟩ : ∃ j : Nat, m = (j : Int) := ⟨m.toNat, by omega⟩
    simp only [printP]
    rw [if_pos trivial, itoa_small n (by omega), itoa_small m (by omega)]
    simp [swW]

/-- Texts are alike where the deeds are. -/
theorem print_same {x y : DeedP} (hx : wrongE x = 0) (hxb : Octets x.d) (hy : wrongE y = 0) (hyb : Octets y.d) : ((str (printP x)).toList == (str (printP y)).toList) = sameD x y := by
  rw [str_list, str_list, Bool.eq_iff_iff, beq_iff_eq, sameD_iff]
  exact ⟨fun h => print_inj hx (oct_lt hxb) hy (oct_lt hyb) h, fun h => by rw [h]⟩

set_option maxRecDepth 20000 in
set_option maxHeartbeats 1600000 in
theorem textTurns_walk (s : List UInt8) (v u : Value) (x y : DeedP) (w : World) (hs : s.length ≤ 140737488355328) (hlaid : Laid w) (hx : DeedV w v x) (hy : DeedV w u y) :
    Calls Tryd.prog 4 #[.string (str s), v, u] w fun e w' => e = .returned (.bool true) ∧ Grow w w' := by
  obtain ⟨xo, xc, rfl, hxb⟩ := hx.form
  obtain ⟨yo, yc, rfl, hyb⟩ := hy.form
  obtain ⟨xk, xn, xm, xd⟩ := x
  obtain ⟨yk, yn, ym, yd⟩ := y
  dsimp only at hxb hyb ⊢
  have hxo := hxb.octets
  have hyo := hyb.octets
  have hg0 : Grow w (w.alloc (.cells #[.int .i64 xk, .int .i64 xn, .int .i64 xm, .slice xo xd.length xc] 24)) := Grow.alloc _ _
  have hg1 : Grow (w.alloc (.cells #[.int .i64 xk, .int .i64 xn, .int .i64 xm, .slice xo xd.length xc] 24)) ((w.alloc (.cells #[.int .i64 xk, .int .i64 xn, .int .i64 xm, .slice xo xd.length xc] 24)).alloc (.cells #[.int .i64 yk, .int .i64 yn, .int .i64 ym, .slice yo yd.length yc] 24)) := Grow.alloc _ _
  have HX : Hid (Box4 _ w.heap.size _ _ _ _) := (Box4.new (heap_alloc_new w (.cells #[.int .i64 xk, .int .i64 xn, .int .i64 xm, .slice xo xd.length xc] 24))).grow hg1
  have HY : Hid (Box4 ((w.alloc (.cells #[.int .i64 xk, .int .i64 xn, .int .i64 xm, .slice xo xd.length xc] 24)).alloc (.cells #[.int .i64 yk, .int .i64 yn, .int .i64 ym, .slice yo yd.length yc] 24)) (w.heap.size + 1) (.int .i64 yk) (.int .i64 yn) (.int .i64 ym) (.slice yo yd.length yc)) := by
    have h := Box4.new (heap_alloc_new (w.alloc (.cells #[.int .i64 xk, .int .i64 xn, .int .i64 xm, .slice xo xd.length xc] 24)) (.cells #[.int .i64 yk, .int .i64 yn, .int .i64 ym, .slice yo yd.length yc] 24))
    rw [Hid]; simpa using h
  have hgA := hg0.trans hg1
  have HXb : Hid (Bs _ (.slice xo xd.length xc) xd) := hxb.grow hgA
  have HYb : Hid (Bs _ (.slice yo yd.length yc) yd) := hyb.grow hgA
  clear hxb hyb hg0 hg1 hx hy
  go_enter Tryd.func4, Tryd.ntmps4
  go_wp2_with fail
  generalize (w.alloc (.cells #[.int .i64 xk, .int .i64 xn, .int .i64 xm, .slice xo xd.length xc] 24)).alloc (.cells #[.int .i64 yk, .int .i64 yn, .int .i64 ym, .slice yo yd.length yc] 24) = wA at *
  generalize w.heap.size = X at *
  refine (alive6_any _ (hlaid.grow hgA)).mono ?_
  rintro e w0 ⟨rfl, hg0⟩
  have HX0 : Hid (Box4 _ X _ _ _ _) := HX.out.grow hg0
  have HY0 : Hid (Box4 _ (X + 1) _ _ _ _) := HY.out.grow hg0
  have HXb0 : Hid (Bs _ (.slice xo xd.length xc) xd) := HXb.out.grow hg0
  have HYb0 : Hid (Bs _ (.slice yo yd.length yc) yd) := HYb.out.grow hg0
  have hgB := hgA.trans hg0
  clear HX HY HXb HYb hgA hg0
  obtain ⟨x0, x1, x2, x3, -⟩ := HX0.out
  go_wp2_with fail
  refine (refWrong_any _ ⟨xk, xn, xm, xd⟩ _ ⟨_, rfl, HXb0.out⟩).mono ?_
  rintro e w1 ⟨rfl, hg1⟩
  obtain ⟨W, hW⟩ : ∃ W, W = wrongE ⟨xk, xn, xm, xd⟩ := ⟨_, rfl⟩
  rw [← hW]
  have HW : Hid (W = wrongE ⟨xk, xn, xm, xd⟩) := hW
  have HX1 : Hid (Box4 _ X _ _ _ _) := HX0.out.grow hg1
  have HY1 : Hid (Box4 _ (X + 1) _ _ _ _) := HY0.out.grow hg1
  have HXb1 : Hid (Bs _ (.slice xo xd.length xc) xd) := HXb0.out.grow hg1
  have HYb1 : Hid (Bs _ (.slice yo yd.length yc) yd) := HYb0.out.grow hg1
  have hgC := hgB.trans hg1
  clear hW x0 x1 x2 x3 HX0 HY0 HXb0 HYb0 hgB hg1
  by_cases hw : W = 0
  · subst hw
    have HR : Hid (wrongE ⟨xk, xn, xm, xd⟩ = 0) := HW.out.symm
    obtain ⟨x0, x1, x2, x3, -⟩ := HX1.out
    go_wp2_with fail
    refine (print_any _ ⟨xk, xn, xm, xd⟩ _ ⟨_, rfl, HXb1.out⟩ HR.out).mono ?_
    rintro e w2 ⟨rfl, hg2⟩
    go_wp2_with fail
    refine (parse_any _ _ (print_len HR.out) (hlaid.grow (hgC.trans hg2))).mono ?_
    rw [parse_print _ HR.out (oct_lt hxo)]
    rintro e w3 ⟨va, rfl, hva, hg3⟩
    obtain ⟨ao, ac, rfl, hab⟩ := hva.form
    dsimp only at hab ⊢
    have hg4 : Grow w3 (w3.alloc (.cells #[.int .i64 xk, .int .i64 xn, .int .i64 xm, .slice ao xd.length ac] 24)) := Grow.alloc _ _
    have HA : Hid (Box4 (w3.alloc (.cells #[.int .i64 xk, .int .i64 xn, .int .i64 xm, .slice ao xd.length ac] 24)) w3.heap.size (.int .i64 xk) (.int .i64 xn) (.int .i64 xm) (.slice ao xd.length ac)) := Box4.new (heap_alloc_new _ _)
    have HAb : Hid (Bs _ (.slice ao xd.length ac) xd) := hab.grow hg4
    have hgq := (hg2.trans hg3).trans hg4
    have HX4 : Hid (Box4 _ X _ _ _ _) := HX1.out.grow hgq
    have HY4 : Hid (Box4 _ (X + 1) _ _ _ _) := HY1.out.grow hgq
    have HXb4 : Hid (Bs _ (.slice xo xd.length xc) xd) := HXb1.out.grow hgq
    have HYb4 : Hid (Bs _ (.slice yo yd.length yc) yd) := HYb1.out.grow hgq
    have hgD := hgC.trans hgq
    clear hab hva hg2 hg3 hg4 hgq HX1 HY1 HXb1 HYb1 x0 x1 x2 x3 hgC
    obtain ⟨x0, x1, x2, x3, -⟩ := HX4.out
    obtain ⟨a0, a1, a2, a3, -⟩ := HA.out
    obtain ⟨P, hP⟩ : ∃ P, P = printP ⟨xk, xn, xm, xd⟩ := ⟨_, rfl⟩
    rw [← hP]
    have HPP : Hid (printP ⟨xk, xn, xm, xd⟩ = P) := hP.symm
    clear hP
    go_wp2_with fail
    generalize w3.alloc (.cells #[.int .i64 xk, .int .i64 xn, .int .i64 xm, .slice ao xd.length ac] 24) = w4 at *
    generalize w3.heap.size = A at *
    refine (refSameDeed_any _ _ ⟨xk, xn, xm, xd⟩ ⟨xk, xn, xm, xd⟩ _ ⟨_, rfl, HXb4.out⟩ ⟨_, rfl, HAb.out⟩).mono ?_
    rw [sameD_refl]
    rintro e w5 ⟨rfl, hg5⟩
    clear x0 x1 x2 x3 a0 a1 a2 a3 HA HAb
    obtain ⟨x0, x1, x2, x3, -⟩ := HX4.out.grow hg5
    obtain ⟨y0, y1, y2, y3, -⟩ := HY4.out.grow hg5
    have HXb5 : Hid (Bs _ (.slice xo xd.length xc) xd) := HXb4.out.grow hg5
    have HYb5 : Hid (Bs _ (.slice yo yd.length yc) yd) := HYb4.out.grow hg5
    have hgF := hgD.trans hg5
    clear HX4 HY4 HXb4 HYb4 hgD hg5
    have hwr := fun w6 (hq : Grow w5 w6) => refWrong_any _ ⟨yk, yn, ym, yd⟩ w6 ⟨_, rfl, HYb5.out.grow hq⟩
    have hpx := fun w6 (hq : Grow w5 w6) => print_any _ ⟨xk, xn, xm, xd⟩ w6 ⟨_, rfl, HXb5.out.grow hq⟩ HR.out
    have HPY : Hid (wrongE ⟨yk, yn, ym, yd⟩ = 0 → _) := fun h w6 (hq : Grow w5 w6) => print_any _ ⟨yk, yn, ym, yd⟩ w6 ⟨_, rfl, HYb5.out.grow hq⟩ h
    have hsd := fun w6 (hq : Grow w5 w6) => refSameDeed_any _ _ ⟨xk, xn, xm, xd⟩ ⟨yk, yn, ym, yd⟩ w6 ⟨_, rfl, HXb5.out.grow hq⟩ ⟨_, rfl, HYb5.out.grow hq⟩
    have HTT : Hid (wrongE ⟨yk, yn, ym, yd⟩ = 0 → _) := fun h => print_same (x := ⟨xk, xn, xm, xd⟩) (y := ⟨yk, yn, ym, yd⟩) HR.out hxo h hyo
    dsimp only at hwr hpx hsd
    rw [HPP.out] at hpx
    obtain ⟨V, hV⟩ : ∃ V, V = wrongE ⟨yk, yn, ym, yd⟩ := ⟨_, rfl⟩
    rw [← hV] at hwr
    have HV : Hid (V = wrongE ⟨yk, yn, ym, yd⟩) := hV
    obtain ⟨t, htd⟩ : ∃ t, t = sameD ⟨xk, xn, xm, xd⟩ ⟨yk, yn, ym, yd⟩ := ⟨_, rfl⟩
    rw [← htd] at hsd
    have HTD : Hid (sameD ⟨xk, xn, xm, xd⟩ ⟨yk, yn, ym, yd⟩ = t) := htd.symm
    clear hV htd HXb5 HYb5
    go_wp2_with fail
    by_cases hv : V = 0
    · have hpy := HPY.out (HV.out.symm.trans hv)
      have htt := HTT.out (HV.out.symm.trans hv)
      try dsimp only at hpy
      rw [HPP.out, HTD.out] at htt
      generalize printP ⟨yk, yn, ym, yd⟩ = Q at *
      subst hv
      clear HPY HTT HV HTD HPP HR HW hxo hyo
      generalize xd.length = xl at *
      generalize yd.length = yl at *
      refine wp_region_stable Grow [IsV (.agg #[.int .i64 yk, .int .i64 yn, .int .i64 ym, .slice yo yl yc]), IsV (.int .i64 0), IsV (.bool true), IsV (.bool true), IsV (.agg #[.int .i64 xk, .int .i64 xn, .int .i64 xm, .slice xo xl xc]), IsV (.string (str P)), IsV (.agg #[.int .i64 yk, .int .i64 yn, .int .i64 ym, .slice yo yl yc]), IsV (.string (str Q)), IsV (.bool t), IsV (.agg #[.int .i64 xk, .int .i64 xn, .int .i64 xm, .slice xo xl xc]), IsV (.agg #[.int .i64 yk, .int .i64 yn, .int .i64 ym, .slice yo yl yc]), IsV (.bool t), IsV (.bool false), IsV (.bool false)] (by kernel_rfl) (by kernel_rfl) rfl Grow.refl (fun _ _ _ => Grow.trans) ?_ ?_ ?_
      · repeat (refine List.forall_mem_cons.2 ⟨by first | exact IsV.stable _, ?_⟩)
        exact fun R hR => nomatch hR
      · skip
        refine StepsS.cons ?_ fun v0 => ⟨_, _, by simp only [Act.put, List.setIfInBounds_toArray, List.set_cons_succ, List.set_cons_zero]; first | done | rfl, by simp only [List.nil_append]; first | done | rfl, ?_⟩
        · intro w1 hE hd
          clear hd
          have c0 := hE.drew.at y0
          have c1 := hE.drew.at y1
          have c2 := hE.drew.at y2
          have c3 := hE.drew.at y3
          go_wp2
          exact ⟨_, rfl, Grow.refl _, rfl⟩
        refine StepsS.cons ?_ fun v1 => ⟨_, _, by simp only [Act.put, List.setIfInBounds_toArray, List.set_cons_succ, List.set_cons_zero]; first | done | rfl, by simp only [List.nil_append, List.cons_append]; first | done | rfl, ?_⟩
        · intro w1 hE hd
          obtain rfl := IsV.eq (dep_at hd 0 rfl rfl rfl)
          clear hd
          go_wp2_with fail
          refine (hwr _ hE.drew).mono ?_
          rintro e w4 ⟨rfl, hg4⟩
          go_wp2_with fail
          exact ⟨_, rfl, hg4, rfl⟩
        refine StepsS.cons ?_ fun v2 => ⟨_, _, by simp only [Act.put, List.setIfInBounds_toArray, List.set_cons_succ, List.set_cons_zero]; first | done | rfl, by simp only [List.nil_append, List.cons_append]; first | done | rfl, ?_⟩
        · intro w1 hE hd
          obtain rfl := IsV.eq (dep_at hd 0 rfl rfl rfl)
          clear hd
          go_wp2
          exact ⟨_, rfl, Grow.refl _, rfl⟩
        refine StepsS.cons ?_ fun v3 => ⟨_, _, by simp only [Act.put, List.setIfInBounds_toArray, List.set_cons_succ, List.set_cons_zero]; first | done | rfl, by simp only [List.nil_append, List.cons_append]; first | done | rfl, ?_⟩
        · intro w1 hE hd
          obtain rfl := IsV.eq (dep_at hd 0 rfl rfl rfl)
          clear hd
          go_wp2
          exact ⟨_, rfl, Grow.refl _, rfl⟩
        refine StepsS.cons ?_ fun v4 => ⟨_, _, by simp only [Act.put, List.setIfInBounds_toArray, List.set_cons_succ, List.set_cons_zero]; first | done | rfl, by simp only [List.nil_append, List.cons_append]; first | done | rfl, ?_⟩
        · intro w1 hE hd
          obtain rfl := IsV.eq (dep_at hd 0 rfl rfl rfl)
          clear hd
          have c0 := hE.drew.at x0
          have c1 := hE.drew.at x1
          have c2 := hE.drew.at x2
          have c3 := hE.drew.at x3
          go_wp2
          exact ⟨_, rfl, Grow.refl _, rfl⟩
        refine StepsS.cons ?_ fun v5 => ⟨_, _, by simp only [Act.put, List.setIfInBounds_toArray, List.set_cons_succ, List.set_cons_zero]; first | done | rfl, by simp only [List.nil_append, List.cons_append]; first | done | rfl, ?_⟩
        · intro w1 hE hd
          obtain rfl := IsV.eq (dep_at hd 0 rfl rfl rfl)
          obtain rfl := IsV.eq (dep_at hd 1 rfl rfl rfl)
          clear hd
          go_wp2_with fail
          refine (hpx _ hE.drew).mono ?_
          rintro e w4 ⟨rfl, hg4⟩
          go_wp2_with fail
          exact ⟨_, rfl, hg4, rfl⟩
        refine StepsS.cons ?_ fun v6 => ⟨_, _, by simp only [Act.put, List.setIfInBounds_toArray, List.set_cons_succ, List.set_cons_zero]; first | done | rfl, by simp only [List.nil_append, List.cons_append]; first | done | rfl, ?_⟩
        · intro w1 hE hd
          obtain rfl := IsV.eq (dep_at hd 0 rfl rfl rfl)
          clear hd
          have c0 := hE.drew.at y0
          have c1 := hE.drew.at y1
          have c2 := hE.drew.at y2
          have c3 := hE.drew.at y3
          go_wp2
          exact ⟨_, rfl, Grow.refl _, rfl⟩
        refine StepsS.cons ?_ fun v7 => ⟨_, _, by simp only [Act.put, List.setIfInBounds_toArray, List.set_cons_succ, List.set_cons_zero]; first | done | rfl, by simp only [List.nil_append, List.cons_append]; first | done | rfl, ?_⟩
        · intro w1 hE hd
          obtain rfl := IsV.eq (dep_at hd 0 rfl rfl rfl)
          obtain rfl := IsV.eq (dep_at hd 2 rfl rfl rfl)
          clear hd
          go_wp2_with fail
          refine (hpy _ hE.drew).mono ?_
          rintro e w4 ⟨rfl, hg4⟩
          go_wp2_with fail
          exact ⟨_, rfl, hg4, rfl⟩
        refine StepsS.cons ?_ fun v8 => ⟨_, _, by simp only [Act.put, List.setIfInBounds_toArray, List.set_cons_succ, List.set_cons_zero]; first | done | rfl, by simp only [List.nil_append, List.cons_append]; first | done | rfl, ?_⟩
        · intro w1 hE hd
          obtain rfl := IsV.eq (dep_at hd 0 rfl rfl rfl)
          obtain rfl := IsV.eq (dep_at hd 1 rfl rfl rfl)
          obtain rfl := IsV.eq (dep_at hd 2 rfl rfl rfl)
          clear hd
          go_wp2
          exact ⟨_, rfl, Grow.refl _, rfl⟩
        refine StepsS.cons ?_ fun v9 => ⟨_, _, by simp only [Act.put, List.setIfInBounds_toArray, List.set_cons_succ, List.set_cons_zero]; first | done | rfl, by simp only [List.nil_append, List.cons_append]; first | done | rfl, ?_⟩
        · intro w1 hE hd
          obtain rfl := IsV.eq (dep_at hd 0 rfl rfl rfl)
          clear hd
          have c0 := hE.drew.at x0
          have c1 := hE.drew.at x1
          have c2 := hE.drew.at x2
          have c3 := hE.drew.at x3
          go_wp2
          exact ⟨_, rfl, Grow.refl _, rfl⟩
        refine StepsS.cons ?_ fun v10 => ⟨_, _, by simp only [Act.put, List.setIfInBounds_toArray, List.set_cons_succ, List.set_cons_zero]; first | done | rfl, by simp only [List.nil_append, List.cons_append]; first | done | rfl, ?_⟩
        · intro w1 hE hd
          obtain rfl := IsV.eq (dep_at hd 0 rfl rfl rfl)
          clear hd
          have c0 := hE.drew.at y0
          have c1 := hE.drew.at y1
          have c2 := hE.drew.at y2
          have c3 := hE.drew.at y3
          go_wp2
          exact ⟨_, rfl, Grow.refl _, rfl⟩
        refine StepsS.cons ?_ fun v11 => ⟨_, _, by simp only [Act.put, List.setIfInBounds_toArray, List.set_cons_succ, List.set_cons_zero]; first | done | rfl, by simp only [List.nil_append, List.cons_append]; first | done | rfl, ?_⟩
        · intro w1 hE hd
          obtain rfl := IsV.eq (dep_at hd 0 rfl rfl rfl)
          obtain rfl := IsV.eq (dep_at hd 1 rfl rfl rfl)
          obtain rfl := IsV.eq (dep_at hd 3 rfl rfl rfl)
          clear hd
          go_wp2_with fail
          refine (hsd _ hE.drew).mono ?_
          rintro e w4 ⟨rfl, hg4⟩
          go_wp2_with fail
          exact ⟨_, rfl, hg4, rfl⟩
        refine StepsS.cons ?_ fun v12 => ⟨_, _, by simp only [Act.put, List.setIfInBounds_toArray, List.set_cons_succ, List.set_cons_zero]; first | done | rfl, by simp only [List.nil_append, List.cons_append]; first | done | rfl, ?_⟩
        · intro w1 hE hd
          obtain rfl := IsV.eq (dep_at hd 0 rfl rfl rfl)
          obtain rfl := IsV.eq (dep_at hd 1 rfl rfl rfl)
          obtain rfl := IsV.eq (dep_at hd 2 rfl rfl rfl)
          clear hd
          go_wp2
          exact ⟨_, rfl, Grow.refl _, rfl⟩
        refine StepsS.cons ?_ fun v13 => ⟨_, _, by simp only [Act.put, List.setIfInBounds_toArray, List.set_cons_succ, List.set_cons_zero]; first | done | rfl, by simp only [List.nil_append, List.cons_append]; first | done | rfl, ?_⟩
        · intro w1 hE hd
          obtain rfl := IsV.eq (dep_at hd 0 rfl rfl rfl)
          obtain rfl := IsV.eq (dep_at hd 1 rfl rfl rfl)
          clear hd
          go_wp2
          exact ⟨_, rfl, Grow.refl _, rfl⟩
        trivial
      intro wR hwR
      refine FinS.cons ?_; rintro _ rfl; refine ⟨_, by simp only [Act.put, List.setIfInBounds_toArray, List.set_cons_succ, List.set_cons_zero]; first | done | rfl, ?_⟩
      refine FinS.cons ?_; rintro _ rfl; refine ⟨_, by simp only [Act.put, List.setIfInBounds_toArray, List.set_cons_succ, List.set_cons_zero]; first | done | rfl, ?_⟩
      refine FinS.cons ?_; rintro _ rfl; refine ⟨_, by simp only [Act.put, List.setIfInBounds_toArray, List.set_cons_succ, List.set_cons_zero]; first | done | rfl, ?_⟩
      refine FinS.cons ?_; rintro _ rfl; refine ⟨_, by simp only [Act.put, List.setIfInBounds_toArray, List.set_cons_succ, List.set_cons_zero]; first | done | rfl, ?_⟩
      refine FinS.cons ?_; rintro _ rfl; refine ⟨_, by simp only [Act.put, List.setIfInBounds_toArray, List.set_cons_succ, List.set_cons_zero]; first | done | rfl, ?_⟩
      refine FinS.cons ?_; rintro _ rfl; refine ⟨_, by simp only [Act.put, List.setIfInBounds_toArray, List.set_cons_succ, List.set_cons_zero]; first | done | rfl, ?_⟩
      refine FinS.cons ?_; rintro _ rfl; refine ⟨_, by simp only [Act.put, List.setIfInBounds_toArray, List.set_cons_succ, List.set_cons_zero]; first | done | rfl, ?_⟩
      refine FinS.cons ?_; rintro _ rfl; refine ⟨_, by simp only [Act.put, List.setIfInBounds_toArray, List.set_cons_succ, List.set_cons_zero]; first | done | rfl, ?_⟩
      refine FinS.cons ?_; rintro _ rfl; refine ⟨_, by simp only [Act.put, List.setIfInBounds_toArray, List.set_cons_succ, List.set_cons_zero]; first | done | rfl, ?_⟩
      refine FinS.cons ?_; rintro _ rfl; refine ⟨_, by simp only [Act.put, List.setIfInBounds_toArray, List.set_cons_succ, List.set_cons_zero]; first | done | rfl, ?_⟩
      refine FinS.cons ?_; rintro _ rfl; refine ⟨_, by simp only [Act.put, List.setIfInBounds_toArray, List.set_cons_succ, List.set_cons_zero]; first | done | rfl, ?_⟩
      refine FinS.cons ?_; rintro _ rfl; refine ⟨_, by simp only [Act.put, List.setIfInBounds_toArray, List.set_cons_succ, List.set_cons_zero]; first | done | rfl, ?_⟩
      refine FinS.cons ?_; rintro _ rfl; refine ⟨_, by simp only [Act.put, List.setIfInBounds_toArray, List.set_cons_succ, List.set_cons_zero]; first | done | rfl, ?_⟩
      refine FinS.cons ?_; rintro _ rfl; refine ⟨_, by simp only [Act.put, List.setIfInBounds_toArray, List.set_cons_succ, List.set_cons_zero]; first | done | rfl, ?_⟩
      first | show Exit.then _ _ _ _ _ | show Exit.inBlock _ _ _ _ _
      have hgT := hgF.trans hwR.drew
      clear hwr hpx hpy hsd htt x0 x1 x2 x3 y0 y1 y2 y3 hgF hwR
      go_wp2_with fail
      refine (parse_any s _ hs (hlaid.grow hgT)).mono ?_
      rintro e w8 ⟨vz, rfl, hvz, hg8⟩
      obtain ⟨zo, zc, rfl, hzb⟩ := hvz.form
      have HPS : Hid (∀ z, parseP s = (z, 0) → printP z = s ∧ wrongE z = 0) := fun z h => ⟨(print_parse h).1, (print_parse h).2.1⟩
      generalize parseP s = pr at *
      obtain ⟨⟨zk, zn, zm, zd⟩, E⟩ := pr
      dsimp only at hzb ⊢
      have hg9 : Grow w8 (w8.alloc (.cells #[.int .i64 zk, .int .i64 zn, .int .i64 zm, .slice zo zd.length zc] 24)) := Grow.alloc _ _
      have HZ : Hid (Box4 (w8.alloc (.cells #[.int .i64 zk, .int .i64 zn, .int .i64 zm, .slice zo zd.length zc] 24)) w8.heap.size (.int .i64 zk) (.int .i64 zn) (.int .i64 zm) (.slice zo zd.length zc)) := Box4.new (heap_alloc_new _ _)
      have HZb : Hid (Bs _ (.slice zo zd.length zc) zd) := hzb.grow hg9
      obtain ⟨z0, z1, z2, z3, -⟩ := HZ.out
      have hgE := (hgT.trans hg8).trans hg9
      clear hzb hvz hg8 hg9
      by_cases he : E = 0
      · subst he
        have HQ1 : Hid (printP ⟨zk, zn, zm, zd⟩ = s) := (HPS.out _ rfl).1
        have HQ2 : Hid (wrongE ⟨zk, zn, zm, zd⟩ = 0) := (HPS.out _ rfl).2
        have ht : ((str s).toList == (str s).toList) = true := by rw [str_list]; simp
        clear HPS
        go_wp2_with fail
        refine (print_any _ ⟨zk, zn, zm, zd⟩ _ ⟨_, rfl, HZb.out⟩ HQ2.out).mono ?_
        rw [HQ1.out]
        rintro e wP ⟨rfl, hgP⟩
        clear z0 z1 z2 z3
        obtain ⟨z0, z1, z2, z3, -⟩ := HZ.out.grow hgP
        go_wp2_with fail
        refine (refWrong_any _ ⟨zk, zn, zm, zd⟩ _ ⟨_, rfl, HZb.out.grow hgP⟩).mono ?_
        rw [HQ2.out]
        rintro e wQ ⟨rfl, hgQ⟩
        go_wp2_with fail
        go_ret
        exact ⟨rfl, (hgE.trans hgP).trans hgQ⟩
      · have he' : (E != 0) = true := by simpa using he
        clear HPS he
        go_wp2_with fail
        go_ret
        exact ⟨rfl, hgE⟩
    · have hv1 : (V == 0) = false := by simpa using hv
      clear HPY HTT HV HTD HPP HR HW hxo hyo hv
      generalize xd.length = xl at *
      generalize yd.length = yl at *
      refine wp_region_stable Grow [IsV (.agg #[.int .i64 yk, .int .i64 yn, .int .i64 ym, .slice yo yl yc]), IsV (.int .i64 V), IsV (.bool false), IsV (.bool false), IsV (undef), IsV (undef), IsV (undef), IsV (undef), IsV (undef), IsV (undef), IsV (undef), IsV (undef), IsV (undef), IsV (.bool false)] (by kernel_rfl) (by kernel_rfl) rfl Grow.refl (fun _ _ _ => Grow.trans) ?_ ?_ ?_
      · repeat (refine List.forall_mem_cons.2 ⟨by first | exact IsV.stable _, ?_⟩)
        exact fun R hR => nomatch hR
      · skip
        refine StepsS.cons ?_ fun v0 => ⟨_, _, by simp only [Act.put, List.setIfInBounds_toArray, List.set_cons_succ, List.set_cons_zero]; first | done | rfl, by simp only [List.nil_append]; first | done | rfl, ?_⟩
        · intro w1 hE hd
          clear hd
          have c0 := hE.drew.at y0
          have c1 := hE.drew.at y1
          have c2 := hE.drew.at y2
          have c3 := hE.drew.at y3
          go_wp2
          exact ⟨_, rfl, Grow.refl _, rfl⟩
        refine StepsS.cons ?_ fun v1 => ⟨_, _, by simp only [Act.put, List.setIfInBounds_toArray, List.set_cons_succ, List.set_cons_zero]; first | done | rfl, by simp only [List.nil_append, List.cons_append]; first | done | rfl, ?_⟩
        · intro w1 hE hd
          obtain rfl := IsV.eq (dep_at hd 0 rfl rfl rfl)
          clear hd
          go_wp2_with fail
          refine (hwr _ hE.drew).mono ?_
          rintro e w4 ⟨rfl, hg4⟩
          go_wp2_with fail
          exact ⟨_, rfl, hg4, rfl⟩
        refine StepsS.cons ?_ fun v2 => ⟨_, _, by simp only [Act.put, List.setIfInBounds_toArray, List.set_cons_succ, List.set_cons_zero]; first | done | rfl, by simp only [List.nil_append, List.cons_append]; first | done | rfl, ?_⟩
        · intro w1 hE hd
          obtain rfl := IsV.eq (dep_at hd 0 rfl rfl rfl)
          clear hd
          go_wp2
          exact ⟨_, rfl, Grow.refl _, rfl⟩
        refine StepsS.cons ?_ fun v3 => ⟨_, _, by simp only [Act.put, List.setIfInBounds_toArray, List.set_cons_succ, List.set_cons_zero]; first | done | rfl, by simp only [List.nil_append, List.cons_append]; first | done | rfl, ?_⟩
        · intro w1 hE hd
          obtain rfl := IsV.eq (dep_at hd 0 rfl rfl rfl)
          clear hd
          go_wp2
          exact ⟨_, rfl, Grow.refl _, rfl⟩
        refine StepsS.cons ?_ fun v4 => ⟨_, _, by simp only [Act.put, List.setIfInBounds_toArray, List.set_cons_succ, List.set_cons_zero]; first | done | rfl, by simp only [List.nil_append, List.cons_append]; first | done | rfl, ?_⟩
        · intro w1 hE hd
          obtain rfl := IsV.eq (dep_at hd 0 rfl rfl rfl)
          clear hd
          go_wp2
          exact ⟨_, rfl, Grow.refl _, rfl⟩
        refine StepsS.cons ?_ fun v5 => ⟨_, _, by simp only [Act.put, List.setIfInBounds_toArray, List.set_cons_succ, List.set_cons_zero]; first | done | rfl, by simp only [List.nil_append, List.cons_append]; first | done | rfl, ?_⟩
        · intro w1 hE hd
          obtain rfl := IsV.eq (dep_at hd 0 rfl rfl rfl)
          obtain rfl := IsV.eq (dep_at hd 1 rfl rfl rfl)
          clear hd
          go_wp2
          exact ⟨_, rfl, Grow.refl _, rfl⟩
        refine StepsS.cons ?_ fun v6 => ⟨_, _, by simp only [Act.put, List.setIfInBounds_toArray, List.set_cons_succ, List.set_cons_zero]; first | done | rfl, by simp only [List.nil_append, List.cons_append]; first | done | rfl, ?_⟩
        · intro w1 hE hd
          obtain rfl := IsV.eq (dep_at hd 0 rfl rfl rfl)
          clear hd
          go_wp2
          exact ⟨_, rfl, Grow.refl _, rfl⟩
        refine StepsS.cons ?_ fun v7 => ⟨_, _, by simp only [Act.put, List.setIfInBounds_toArray, List.set_cons_succ, List.set_cons_zero]; first | done | rfl, by simp only [List.nil_append, List.cons_append]; first | done | rfl, ?_⟩
        · intro w1 hE hd
          obtain rfl := IsV.eq (dep_at hd 0 rfl rfl rfl)
          obtain rfl := IsV.eq (dep_at hd 2 rfl rfl rfl)
          clear hd
          go_wp2
          exact ⟨_, rfl, Grow.refl _, rfl⟩
        refine StepsS.cons ?_ fun v8 => ⟨_, _, by simp only [Act.put, List.setIfInBounds_toArray, List.set_cons_succ, List.set_cons_zero]; first | done | rfl, by simp only [List.nil_append, List.cons_append]; first | done | rfl, ?_⟩
        · intro w1 hE hd
          obtain rfl := IsV.eq (dep_at hd 0 rfl rfl rfl)
          obtain rfl := IsV.eq (dep_at hd 1 rfl rfl rfl)
          obtain rfl := IsV.eq (dep_at hd 2 rfl rfl rfl)
          clear hd
          go_wp2
          exact ⟨_, rfl, Grow.refl _, rfl⟩
        refine StepsS.cons ?_ fun v9 => ⟨_, _, by simp only [Act.put, List.setIfInBounds_toArray, List.set_cons_succ, List.set_cons_zero]; first | done | rfl, by simp only [List.nil_append, List.cons_append]; first | done | rfl, ?_⟩
        · intro w1 hE hd
          obtain rfl := IsV.eq (dep_at hd 0 rfl rfl rfl)
          clear hd
          go_wp2
          exact ⟨_, rfl, Grow.refl _, rfl⟩
        refine StepsS.cons ?_ fun v10 => ⟨_, _, by simp only [Act.put, List.setIfInBounds_toArray, List.set_cons_succ, List.set_cons_zero]; first | done | rfl, by simp only [List.nil_append, List.cons_append]; first | done | rfl, ?_⟩
        · intro w1 hE hd
          obtain rfl := IsV.eq (dep_at hd 0 rfl rfl rfl)
          clear hd
          go_wp2
          exact ⟨_, rfl, Grow.refl _, rfl⟩
        refine StepsS.cons ?_ fun v11 => ⟨_, _, by simp only [Act.put, List.setIfInBounds_toArray, List.set_cons_succ, List.set_cons_zero]; first | done | rfl, by simp only [List.nil_append, List.cons_append]; first | done | rfl, ?_⟩
        · intro w1 hE hd
          obtain rfl := IsV.eq (dep_at hd 0 rfl rfl rfl)
          obtain rfl := IsV.eq (dep_at hd 1 rfl rfl rfl)
          obtain rfl := IsV.eq (dep_at hd 3 rfl rfl rfl)
          clear hd
          go_wp2
          exact ⟨_, rfl, Grow.refl _, rfl⟩
        refine StepsS.cons ?_ fun v12 => ⟨_, _, by simp only [Act.put, List.setIfInBounds_toArray, List.set_cons_succ, List.set_cons_zero]; first | done | rfl, by simp only [List.nil_append, List.cons_append]; first | done | rfl, ?_⟩
        · intro w1 hE hd
          obtain rfl := IsV.eq (dep_at hd 0 rfl rfl rfl)
          obtain rfl := IsV.eq (dep_at hd 1 rfl rfl rfl)
          obtain rfl := IsV.eq (dep_at hd 2 rfl rfl rfl)
          clear hd
          go_wp2
          exact ⟨_, rfl, Grow.refl _, rfl⟩
        refine StepsS.cons ?_ fun v13 => ⟨_, _, by simp only [Act.put, List.setIfInBounds_toArray, List.set_cons_succ, List.set_cons_zero]; first | done | rfl, by simp only [List.nil_append, List.cons_append]; first | done | rfl, ?_⟩
        · intro w1 hE hd
          obtain rfl := IsV.eq (dep_at hd 0 rfl rfl rfl)
          obtain rfl := IsV.eq (dep_at hd 1 rfl rfl rfl)
          clear hd
          go_wp2
          exact ⟨_, rfl, Grow.refl _, rfl⟩
        trivial
      intro wR hwR
      refine FinS.cons ?_; rintro _ rfl; refine ⟨_, by simp only [Act.put, List.setIfInBounds_toArray, List.set_cons_succ, List.set_cons_zero]; first | done | rfl, ?_⟩
      refine FinS.cons ?_; rintro _ rfl; refine ⟨_, by simp only [Act.put, List.setIfInBounds_toArray, List.set_cons_succ, List.set_cons_zero]; first | done | rfl, ?_⟩
      refine FinS.cons ?_; rintro _ rfl; refine ⟨_, by simp only [Act.put, List.setIfInBounds_toArray, List.set_cons_succ, List.set_cons_zero]; first | done | rfl, ?_⟩
      refine FinS.cons ?_; rintro _ rfl; refine ⟨_, by simp only [Act.put, List.setIfInBounds_toArray, List.set_cons_succ, List.set_cons_zero]; first | done | rfl, ?_⟩
      refine FinS.cons ?_; rintro _ rfl; refine ⟨_, by simp only [Act.put, List.setIfInBounds_toArray, List.set_cons_succ, List.set_cons_zero]; first | done | rfl, ?_⟩
      refine FinS.cons ?_; rintro _ rfl; refine ⟨_, by simp only [Act.put, List.setIfInBounds_toArray, List.set_cons_succ, List.set_cons_zero]; first | done | rfl, ?_⟩
      refine FinS.cons ?_; rintro _ rfl; refine ⟨_, by simp only [Act.put, List.setIfInBounds_toArray, List.set_cons_succ, List.set_cons_zero]; first | done | rfl, ?_⟩
      refine FinS.cons ?_; rintro _ rfl; refine ⟨_, by simp only [Act.put, List.setIfInBounds_toArray, List.set_cons_succ, List.set_cons_zero]; first | done | rfl, ?_⟩
      refine FinS.cons ?_; rintro _ rfl; refine ⟨_, by simp only [Act.put, List.setIfInBounds_toArray, List.set_cons_succ, List.set_cons_zero]; first | done | rfl, ?_⟩
      refine FinS.cons ?_; rintro _ rfl; refine ⟨_, by simp only [Act.put, List.setIfInBounds_toArray, List.set_cons_succ, List.set_cons_zero]; first | done | rfl, ?_⟩
      refine FinS.cons ?_; rintro _ rfl; refine ⟨_, by simp only [Act.put, List.setIfInBounds_toArray, List.set_cons_succ, List.set_cons_zero]; first | done | rfl, ?_⟩
      refine FinS.cons ?_; rintro _ rfl; refine ⟨_, by simp only [Act.put, List.setIfInBounds_toArray, List.set_cons_succ, List.set_cons_zero]; first | done | rfl, ?_⟩
      refine FinS.cons ?_; rintro _ rfl; refine ⟨_, by simp only [Act.put, List.setIfInBounds_toArray, List.set_cons_succ, List.set_cons_zero]; first | done | rfl, ?_⟩
      refine FinS.cons ?_; rintro _ rfl; refine ⟨_, by simp only [Act.put, List.setIfInBounds_toArray, List.set_cons_succ, List.set_cons_zero]; first | done | rfl, ?_⟩
      first | show Exit.then _ _ _ _ _ | show Exit.inBlock _ _ _ _ _
      have hgT := hgF.trans hwR.drew
      clear hwr hpx hsd x0 x1 x2 x3 y0 y1 y2 y3 hgF hwR
      go_wp2_with fail
      refine (parse_any s _ hs (hlaid.grow hgT)).mono ?_
      rintro e w8 ⟨vz, rfl, hvz, hg8⟩
      obtain ⟨zo, zc, rfl, hzb⟩ := hvz.form
      have HPS : Hid (∀ z, parseP s = (z, 0) → printP z = s ∧ wrongE z = 0) := fun z h => ⟨(print_parse h).1, (print_parse h).2.1⟩
      generalize parseP s = pr at *
      obtain ⟨⟨zk, zn, zm, zd⟩, E⟩ := pr
      dsimp only at hzb ⊢
      have hg9 : Grow w8 (w8.alloc (.cells #[.int .i64 zk, .int .i64 zn, .int .i64 zm, .slice zo zd.length zc] 24)) := Grow.alloc _ _
      have HZ : Hid (Box4 (w8.alloc (.cells #[.int .i64 zk, .int .i64 zn, .int .i64 zm, .slice zo zd.length zc] 24)) w8.heap.size (.int .i64 zk) (.int .i64 zn) (.int .i64 zm) (.slice zo zd.length zc)) := Box4.new (heap_alloc_new _ _)
      have HZb : Hid (Bs _ (.slice zo zd.length zc) zd) := hzb.grow hg9
      obtain ⟨z0, z1, z2, z3, -⟩ := HZ.out
      have hgE := (hgT.trans hg8).trans hg9
      clear hzb hvz hg8 hg9
      by_cases he : E = 0
      · subst he
        have HQ1 : Hid (printP ⟨zk, zn, zm, zd⟩ = s) := (HPS.out _ rfl).1
        have HQ2 : Hid (wrongE ⟨zk, zn, zm, zd⟩ = 0) := (HPS.out _ rfl).2
        have ht : ((str s).toList == (str s).toList) = true := by rw [str_list]; simp
        clear HPS
        go_wp2_with fail
        refine (print_any _ ⟨zk, zn, zm, zd⟩ _ ⟨_, rfl, HZb.out⟩ HQ2.out).mono ?_
        rw [HQ1.out]
        rintro e wP ⟨rfl, hgP⟩
        clear z0 z1 z2 z3
        obtain ⟨z0, z1, z2, z3, -⟩ := HZ.out.grow hgP
        go_wp2_with fail
        refine (refWrong_any _ ⟨zk, zn, zm, zd⟩ _ ⟨_, rfl, HZb.out.grow hgP⟩).mono ?_
        rw [HQ2.out]
        rintro e wQ ⟨rfl, hgQ⟩
        go_wp2_with fail
        go_ret
        exact ⟨rfl, (hgE.trans hgP).trans hgQ⟩
      · have he' : (E != 0) = true := by simpa using he
        clear HPS he
        go_wp2_with fail
        go_ret
        exact ⟨rfl, hgE⟩
  · have hw1 : (W == 0) = false := by simpa using hw
    have hgT := hgC
    clear HW hw HX1 HY1 HXb1 HYb1 hgC
    go_wp2_with fail
    refine (parse_any s _ hs (hlaid.grow hgT)).mono ?_
    rintro e w8 ⟨vz, rfl, hvz, hg8⟩
    obtain ⟨zo, zc, rfl, hzb⟩ := hvz.form
    have HPS : Hid (∀ z, parseP s = (z, 0) → printP z = s ∧ wrongE z = 0) := fun z h => ⟨(print_parse h).1, (print_parse h).2.1⟩
    generalize parseP s = pr at *
    obtain ⟨⟨zk, zn, zm, zd⟩, E⟩ := pr
    dsimp only at hzb ⊢
    have hg9 : Grow w8 (w8.alloc (.cells #[.int .i64 zk, .int .i64 zn, .int .i64 zm, .slice zo zd.length zc] 24)) := Grow.alloc _ _
    have HZ : Hid (Box4 (w8.alloc (.cells #[.int .i64 zk, .int .i64 zn, .int .i64 zm, .slice zo zd.length zc] 24)) w8.heap.size (.int .i64 zk) (.int .i64 zn) (.int .i64 zm) (.slice zo zd.length zc)) := Box4.new (heap_alloc_new _ _)
    have HZb : Hid (Bs _ (.slice zo zd.length zc) zd) := hzb.grow hg9
    obtain ⟨z0, z1, z2, z3, -⟩ := HZ.out
    have hgE := (hgT.trans hg8).trans hg9
    clear hzb hvz hg8 hg9
    by_cases he : E = 0
    · subst he
      have HQ1 : Hid (printP ⟨zk, zn, zm, zd⟩ = s) := (HPS.out _ rfl).1
      have HQ2 : Hid (wrongE ⟨zk, zn, zm, zd⟩ = 0) := (HPS.out _ rfl).2
      have ht : ((str s).toList == (str s).toList) = true := by rw [str_list]; simp
      clear HPS
      go_wp2_with fail
      refine (print_any _ ⟨zk, zn, zm, zd⟩ _ ⟨_, rfl, HZb.out⟩ HQ2.out).mono ?_
      rw [HQ1.out]
      rintro e wP ⟨rfl, hgP⟩
      clear z0 z1 z2 z3
      obtain ⟨z0, z1, z2, z3, -⟩ := HZ.out.grow hgP
      go_wp2_with fail
      refine (refWrong_any _ ⟨zk, zn, zm, zd⟩ _ ⟨_, rfl, HZb.out.grow hgP⟩).mono ?_
      rw [HQ2.out]
      rintro e wQ ⟨rfl, hgQ⟩
      go_wp2_with fail
      go_ret
      exact ⟨rfl, (hgE.trans hgP).trans hgQ⟩
    · have he' : (E != 0) = true := by simpa using he
      clear HPS he
      go_wp2_with fail
      go_ret
      exact ⟨rfl, hgE⟩

end Go.Proofs.YtjggiameajndgabDoor
