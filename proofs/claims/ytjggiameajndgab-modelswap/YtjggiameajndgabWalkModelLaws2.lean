/-
  Chapter 5's outright statements, walked over what the program's model returns.
-/
import Derived.Test.YtjggiameajndgabWalkModelLaws
import Derived.Test.YtjggiameajndgabArrayBase
namespace Go.Proofs.Ytjggiameajndgab
open Go.RowKit

theorem nine_nought : (List.replicate 9 nought).length = 9 ∧ ∀ b ∈ List.replicate 9 nought, b.length = 4 := ⟨by simp, fun b hb => by rw [List.eq_of_mem_replicate hb]; rfl⟩

/-- Two deeds that are known. -/
def deedA : DeedP := ⟨1, 4, 0, [97, 98, 99, 100]⟩
def deedB : DeedP := ⟨2, 4, 5, []⟩
def blA : List (List Int) := doL (List.replicate 9 nought) deedA
def blB : List (List Int) := doL blA deedB

theorem blA_eq : blA = [nought, nought, nought, nought, [97, 98, 99, 100], nought, nought, nought, nought] := by decide
theorem blB_eq : blB = [nought, nought, nought, nought, nought, [97, 98, 99, 100], nought, nought, nought] := by decide

set_option maxRecDepth 20000 in
set_option maxHeartbeats 3200000 in
theorem alive5_any (w : World) : Calls Try.prog 13 #[] w fun e w' => e = .returned (.bool true) ∧ Grow w w' := by
  have hcv := fun w => Lib.run_convert_bytes_const (P := Try.prog) w 23 5 #[.int .u8 97, .int .u8 98, .int .u8 99, .int .u8 100] 4 4 Try.underlying23 Try.underlying5
  go_enter Try.func13, Try.ntmps13
  go_wp2_with fail
  refine (modelNew_any _).mono ?_
  rintro e w1 ⟨r1, rfl, hr1, hg1⟩
  have hab : Bs (w1.alloc (.cells #[.int .u8 97, .int .u8 98, .int .u8 99, .int .u8 100] 5 (4, 5))) (.slice (some ⟨w1.heap.size, 0, none⟩) 4 4) [97, 98, 99, 100] := Bs.lit (by unfold maxLen; simp) octets_abcd _
  have hgA : Grow w1 (w1.alloc (.cells #[.int .u8 97, .int .u8 98, .int .u8 99, .int .u8 100] 5 (4, 5))) := Grow.alloc _ _
  have hcv1 := hcv w1
  clear hcv
  go_wp2_with fail
  refine (modelDo_any _ _ _ deedA _ (hr1.grow hgA) ⟨_, rfl, hab⟩ nine_nought.1 nine_nought.2 (by decide)).mono ?_
  rintro e w2 ⟨r2, rfl, hr2, hg2⟩
  have hr2' : Bss w2 r2 blA := hr2
  clear hr2 hcv1 hab
  obtain ⟨v2, c2, rfl⟩ := Sl.form hr2'
  have hl2 : blA.length = 9 := by rw [blA_eq]; rfl
  have h42 : ∀ b ∈ blA, b.length = 4 := by rw [blA_eq]; decide
  have hdB : ∀ w1 : World, DeedV w1 (.agg #[.int .i64 2, .int .i64 4, .int .i64 5, .slice none 0 0]) deedB := fun w1 => ⟨_, rfl, Bs.nil _⟩
  obtain ⟨b4, o4, x4, c4, e4, hc4, hb4⟩ : ∃ b o x c, v2 = some ⟨b, o, none⟩ ∧ w2.cell? ⟨b, o + 4, none⟩ = some (.slice x 4 c) ∧ Bs w2 (.slice x 4 c) [97, 98, 99, 100] := by
    obtain ⟨b, o, u, e, hu, hr⟩ := hr2'.elem (k := 4) (by omega) []
    obtain ⟨x, n, c, rfl⟩ := hr.form
    rw [show blA.getD 4 [] = [97, 98, 99, 100] from by rw [blA_eq]; rfl] at hr
    obtain rfl : n = 4 := by obtain ⟨_, _, e, -⟩ := hr; injection e
    exact ⟨b, o, x, c, e, hu, hr⟩
  subst e4
  rw [hl2] at hr2' ⊢
  have hmD := fun w1 h => modelDo_any (.slice (some ⟨b4, o4, none⟩) 9 c2) _ blA deedB w1 h (hdB w1) hl2 h42 (by decide)
  have hcap2 : 9 ≤ c2 ∧ c2 ≤ 9223372036854775807 := by
    obtain ⟨_, _, e, g1, g2⟩ := hr2'.form'
    injection e with _ e2 e3
    omega
  go_wp2_with fail
  refine (hmD _ hr2').mono ?_
  rintro e w3 ⟨r3, rfl, hr3, hg3⟩
  have hr3' : Bss w3 r3 blB := hr3
  clear hr3 hmD
  obtain ⟨v3, c3, rfl⟩ := Sl.form hr3'
  have hl3 : blB.length = 9 := by rw [blB_eq]; rfl
  obtain ⟨b5, o5, x5, c5, e5, hc5, hb5⟩ : ∃ b o x c, v3 = some ⟨b, o, none⟩ ∧ w3.cell? ⟨b, o + 5, none⟩ = some (.slice x 4 c) ∧ Bs w3 (.slice x 4 c) [97, 98, 99, 100] := by
    obtain ⟨b, o, u, e, hu, hr⟩ := hr3'.elem (k := 5) (by omega) []
    obtain ⟨x, n, c, rfl⟩ := hr.form
    rw [show blB.getD 5 [] = [97, 98, 99, 100] from by rw [blB_eq]; rfl] at hr
    obtain rfl : n = 4 := by obtain ⟨_, _, e, -⟩ := hr; injection e
    exact ⟨b, o, x, c, e, hu, hr⟩
  subst e5
  rw [hl3] at hr3' ⊢
  have hcap3 : 9 ≤ c3 ∧ c3 ≤ 9223372036854775807 := by
    obtain ⟨_, _, e, g1, g2⟩ := hr3'.form'
    injection e with _ e2 e3
    omega
  have hc4' := hg3.at hc4
  have hcvA := run_convert_bs (P := Try.prog) 23 5 9 Try.underlying23 Try.underlying5 Try.underlying9 (hb4.grow hg3)
  have hcvB := run_convert_bs (P := Try.prog) 23 5 9 Try.underlying23 Try.underlying5 Try.underlying9 hb5
  rw [str_abcd] at hcvA hcvB
  have hs1 : ∀ w1, Grow w3 w1 → Calls Try.prog 18 #[.slice (some ⟨b4, o4, none⟩) 9 c2, .slice (some ⟨b4, o4, none⟩) 9 c2] w1 fun e w' => e = .returned (.bool true) ∧ Grow w1 w' := fun w1 hg => by
    have := modelSame_any _ _ blA blA w1 (hr2'.grow (hg3.trans hg)) (hr2'.grow (hg3.trans hg)) hl2 hl2
    rwa [show (blA == blA) = true from by simp] at this
  have hs2 : ∀ w1, Grow w3 w1 → Calls Try.prog 18 #[.slice (some ⟨b4, o4, none⟩) 9 c2, .slice (some ⟨b5, o5, none⟩) 9 c3] w1 fun e w' => e = .returned (.bool false) ∧ Grow w1 w' := fun w1 hg => by
    have := modelSame_any _ _ blA blB w1 (hr2'.grow (hg3.trans hg)) (hr3'.grow hg) hl2 hl3
    rwa [show (blA == blB) = false from by rw [blA_eq, blB_eq]; decide] at this
  have hw : ∀ w1, Calls Try.prog 15 #[.agg #[.int .i64 2, .int .i64 2, .int .i64 3, .slice none 0 0]] w1 fun e w' => e = .returned (.int .i64 3) ∧ Grow w1 w' := fun w1 => by
    have := modelWrong_any _ ⟨2, 2, 3, []⟩ w1 ⟨_, rfl, Bs.nil _⟩
    rwa [show wrongE ⟨2, 2, 3, []⟩ = 3 from by decide] at this
  clear hb4 hb5 hr2' hr3' hc4
  go_wp2_with fail
  refine (hs1 _ (Grow.refl _)).mono ?_
  rintro e w4 ⟨rfl, hg4⟩
  go_wp2_with fail
  refine (hs2 _ hg4).mono ?_
  rintro e w5 ⟨rfl, hg5⟩
  go_wp2_with fail
  refine (hw _).mono ?_
  rintro e w6 ⟨rfl, hg6⟩
  go_wp2
  go_ret
  exact ⟨rfl, (((((hg1.trans hgA).trans hg2).trans hg3).trans hg4).trans hg5).trans hg6⟩

set_option maxRecDepth 20000 in
set_option maxHeartbeats 3200000 in
theorem modelSwap_walk (v dv : Value) (ls : List (List Int)) (x : DeedP) (w : World) (h : Bss w v ls) (hd : DeedV w dv x) :
    Calls Try.prog 4 #[v, dv] w fun e w' => e = .returned (.bool true) ∧ Grow w w' := by
  have hdeed := hd
  have hvb := h
  obtain ⟨sv, rfl, hbd⟩ := hd
  obtain ⟨d1, d2, d3, rfl⟩ := hbd.form
  obtain ⟨av, cv, rfl⟩ := Sl.form h
  obtain ⟨W, hW⟩ : ∃ W, W = w.alloc (.cells #[.int .i64 x.k, .int .i64 x.n, .int .i64 x.m, .slice d1 d2 d3] 25) := ⟨_, rfl⟩
  have H := heap_alloc_new w (.cells #[.int .i64 x.k, .int .i64 x.n, .int .i64 x.m, .slice d1 d2 d3] 25)
  have hgW : Grow w W := by rw [hW]; exact Grow.alloc _ _
  rw [← hW] at H
  have k0 : W.cell? ⟨w.heap.size, 0, none⟩ = some (.int .i64 x.k) := row_at H 0 rfl
  have k1 : W.cell? ⟨w.heap.size, 1, none⟩ = some (.int .i64 x.n) := row_at H 1 rfl
  have k2 : W.cell? ⟨w.heap.size, 2, none⟩ = some (.int .i64 x.m) := row_at H 2 rfl
  have k3 : W.cell? ⟨w.heap.size, 3, none⟩ = some (.slice d1 d2 d3) := row_at H 3 rfl
  have hdW : DeedV W (.agg #[.int .i64 x.k, .int .i64 x.n, .int .i64 x.m, .slice d1 d2 d3]) x := hdeed.grow hgW
  have hbW := hbd.grow hgW
  have hvW := hvb.grow hgW
  clear h hbd hdeed H hvb
  have hR := fun w1 hg => refRight_any _ ls w1 (hvW.grow (w' := w1) hg)
  have hmw := fun w1 hg => modelWrong_any _ x w1 (hdW.grow (w' := w1) hg)
  cases hrl : rightBlocksB ls with
  | false =>
    rw [hrl] at hR
    clear hvW hdW
    generalize ls.length = nl at *
    go_enter Try.func4, Try.ntmps4
    go_wp2_with fail
    rw [← hW]
    refine (alive5_any _).mono ?_
    rintro e w1 ⟨rfl, hg1⟩
    go_wp2_with fail
    refine (hR _ hg1).mono ?_
    rintro e w2 ⟨rfl, hw2⟩
    subst hw2
    go_wp2
    go_ret
    exact ⟨rfl, hgW.trans hg1⟩
  | true =>
    rw [hrl] at hR
    obtain ⟨h4, h9⟩ := rb_all hrl
    by_cases hE0 : wrongE x = 0
    · have hD1 := fun w1 hg => modelDo_any _ _ ls x w1 (hvW.grow (w' := w1) hg) (hdW.grow hg) h9 h4 hE0
      have hD2 := fun u w1 hu hg => modelDo_any u _ (doL ls x) x w1 hu (hdW.grow (w' := w1) hg) (by rw [doL_length, h9]) (doL_four h4 h9 hE0) hE0
      rw [hE0] at hmw
      obtain ⟨hk, hn0, hn8, hk1, -⟩ := right_deed hE0
      have Hswap : Hid (x.k = 2 → doL (doL ls x) x = ls) := fun hk => do_swap_back h9 hE0 hk
      have Htw : Hid (x.k = 1 → doL (doL ls x) x = doL ls x) := fun hk => do_write_twice h9 hk
      have Hat : Hid (x.k = 1 → (doL ls x).getD x.n.toNat [] = x.d) := fun hk => do_write_at h9 hE0 hk
      have Hl1 : Hid ((doL ls x).length = 9) := by rw [Hid, doL_length, h9]
      have Hl2 : Hid ((doL (doL ls x) x).length = 9) := by rw [Hid, doL_length]; exact Hl1.out
      have H9 : Hid (ls.length = 9) := h9
      rw [h9] at hR hD1 hvW ⊢
      clear h9 hE0 hrl h4
      go_enter Try.func4, Try.ntmps4
      go_wp2_with fail
      rw [← hW]
      refine (alive5_any _).mono ?_
      rintro e w1 ⟨rfl, hg1⟩
      have c0 := hg1.at k0
      have c1 := hg1.at k1
      have c2 := hg1.at k2
      have c3 := hg1.at k3
      clear hW
      go_wp2_with fail
      refine (hR _ hg1).mono ?_
      rintro e w2 ⟨rfl, hw2⟩
      subst hw2
      go_wp2_with fail
      refine (hmw _ hg1).mono ?_
      rintro e w3 ⟨rfl, hg3⟩
      have hg13 := hg1.trans hg3
      have e0 := hg13.at k0
      have e1 := hg13.at k1
      have e2 := hg13.at k2
      have e3 := hg13.at k3
      clear c0 c1 c2 c3
      go_wp2_with fail
      refine (hD1 _ hg13).mono ?_
      rintro e w4 ⟨r4, rfl, hr4, hg4⟩
      have hg14 := hg13.trans hg4
      have f0 := hg14.at k0
      have f1 := hg14.at k1
      have f2 := hg14.at k2
      have f3 := hg14.at k3
      clear e0 e1 e2 e3
      go_wp2_with fail
      refine (hD2 _ _ hr4 hg14).mono ?_
      rintro e w5 ⟨r5, rfl, hr5, hg5⟩
      have hg15 := hg14.trans hg5
      have g0 := hg15.at k0
      have g1 := hg15.at k1
      have g3 := hg15.at k3
      have hr4' := hr4.grow hg5
      clear f0 f1 f2 f3 k0 k2 hD1 hD2 hR hmw
      rcases hk with hk | hk
      · have htw := Htw.out hk
        have hat := Hat.out hk
        have hd4 := (hk1 hk).2
        rw [htw] at hr5
        rw [hk] at g0
        obtain ⟨n, hn⟩ := Int.eq_ofNat_of_zero_le hn0
        rw [hn] at g1 hat
        simp only [Int.toNat_natCast] at hat
        have hn9 : n < 9 := by omega
        obtain ⟨v4, c4, e4⟩ := Sl.form hr4'
        rw [Hl1.out] at e4
        subst e4
        obtain ⟨b, o, u, eb, hu, hub⟩ := hr4'.elem (k := n) (by rw [Hl1.out]; exact hn9) []
        obtain ⟨u1, u2, u3, rfl⟩ := hub.form
        subst eb
        rw [hat] at hub
        have hcap : 9 ≤ c4 ∧ c4 ≤ 9223372036854775807 := by
          obtain ⟨_, _, e, q1, q2⟩ := hr4'.form'
          have := Hl1.out
          injection e with _ q3 q4
          omega
        have hbx := hbW.grow hg15
        have hs : ∀ w6, Grow w5 w6 → Calls Try.prog 18 #[r5, .slice (some ⟨b, o, none⟩) 9 c4] w6 fun e w' => e = .returned (.bool true) ∧ Grow w6 w' := fun w6 hg6 => by
          have := modelSame_any _ _ (doL ls x) (doL ls x) w6 (hr5.grow hg6) (hr4'.grow hg6) Hl1.out Hl1.out
          rwa [show (doL ls x == doL ls x) = true from by simp] at this
        obtain ⟨v5, c5, e5⟩ := Sl.form hr5
        rw [Hl1.out] at e5
        subst e5
        have hni : (n : Int) < 9 := by omega
        clear hr4 hr4' hr5 Hswap Htw Hat htw hat
        go_wp2_with fail
        refine wp_region_stable Grow [IsV (.slice v5 9 c5), IsV (.slice (some ⟨b, o, none⟩) 9 c4), IsV (.bool true), IsV (.bool true), IsV (.slice (some ⟨b, o, none⟩) 9 c4), IsV (.pointer (some ⟨w.heap.size, 1, none⟩)), IsV (.int .i64 n), IsV (.pointer (some ⟨b, o + n, none⟩)), IsV (.slice u1 u2 u3), IsV (.string (strOfNums (x.d))), IsV (.pointer (some ⟨w.heap.size, 3, none⟩)), IsV (.slice d1 d2 d3), IsV (.string (strOfNums (x.d))), IsV (.bool true), IsV (.bool true), IsV (.bool true)] (by kernel_rfl) (by kernel_rfl) rfl Grow.refl (fun _ _ _ => Grow.trans) ?_ ?_ ?_
        · repeat (refine List.forall_mem_cons.2 ⟨by first | exact IsV.stable _, ?_⟩)
          exact fun R hR => nomatch hR
        · skip
          refine StepsS.cons ?_ fun v0 => ⟨_, _, by simp only [Act.put, List.setIfInBounds_toArray, List.set_cons_succ, List.set_cons_zero]; first | done | rfl, by simp only [List.nil_append]; first | done | rfl, ?_⟩
          · intro w1 hE hd
            clear hd
            go_wp2
            exact ⟨_, rfl, Grow.refl _, rfl⟩
          refine StepsS.cons ?_ fun v1 => ⟨_, _, by simp only [Act.put, List.setIfInBounds_toArray, List.set_cons_succ, List.set_cons_zero]; first | done | rfl, by simp only [List.nil_append, List.cons_append]; first | done | rfl, ?_⟩
          · intro w1 hE hd
            clear hd
            go_wp2
            exact ⟨_, rfl, Grow.refl _, rfl⟩
          refine StepsS.cons ?_ fun v2 => ⟨_, _, by simp only [Act.put, List.setIfInBounds_toArray, List.set_cons_succ, List.set_cons_zero]; first | done | rfl, by simp only [List.nil_append, List.cons_append]; first | done | rfl, ?_⟩
          · intro w1 hE hd
            obtain rfl := IsV.eq (dep_at hd 0 rfl rfl rfl)
            obtain rfl := IsV.eq (dep_at hd 1 rfl rfl rfl)
            clear hd
            go_wp2_with fail
            refine (hs _ hE.drew).mono ?_
            rintro e w4 ⟨rfl, hg4⟩
            go_wp2_with fail
            exact ⟨_, rfl, hg4, rfl⟩
          refine StepsS.cons ?_ fun v3 => ⟨_, _, by simp only [Act.put, List.setIfInBounds_toArray, List.set_cons_succ, List.set_cons_zero]; first | done | rfl, by simp only [List.nil_append, List.cons_append]; first | done | rfl, ?_⟩
          · intro w1 hE hd
            obtain rfl := IsV.eq (dep_at hd 0 rfl rfl rfl)
            clear hd
            go_wp2
            exact ⟨_, rfl, Grow.refl _, rfl⟩
          refine StepsS.cons ?_ fun v4 => ⟨_, _, by simp only [Act.put, List.setIfInBounds_toArray, List.set_cons_succ, List.set_cons_zero]; first | done | rfl, by simp only [List.nil_append, List.cons_append]; first | done | rfl, ?_⟩
          · intro w1 hE hd
            obtain rfl := IsV.eq (dep_at hd 0 rfl rfl rfl)
            clear hd
            go_wp2
            exact ⟨_, rfl, Grow.refl _, rfl⟩
          refine StepsS.cons ?_ fun v5 => ⟨_, _, by simp only [Act.put, List.setIfInBounds_toArray, List.set_cons_succ, List.set_cons_zero]; first | done | rfl, by simp only [List.nil_append, List.cons_append]; first | done | rfl, ?_⟩
          · intro w1 hE hd
            obtain rfl := IsV.eq (dep_at hd 0 rfl rfl rfl)
            clear hd
            go_wp2
            exact ⟨_, rfl, Grow.refl _, rfl⟩
          refine StepsS.cons ?_ fun v6 => ⟨_, _, by simp only [Act.put, List.setIfInBounds_toArray, List.set_cons_succ, List.set_cons_zero]; first | done | rfl, by simp only [List.nil_append, List.cons_append]; first | done | rfl, ?_⟩
          · intro w1 hE hd
            obtain rfl := IsV.eq (dep_at hd 0 rfl rfl rfl)
            obtain rfl := IsV.eq (dep_at hd 1 rfl rfl rfl)
            clear hd
            have qq := hE.drew.at g1
            go_wp2
            exact ⟨_, rfl, Grow.refl _, rfl⟩
          refine StepsS.cons ?_ fun v7 => ⟨_, _, by simp only [Act.put, List.setIfInBounds_toArray, List.set_cons_succ, List.set_cons_zero]; first | done | rfl, by simp only [List.nil_append, List.cons_append]; first | done | rfl, ?_⟩
          · intro w1 hE hd
            obtain rfl := IsV.eq (dep_at hd 0 rfl rfl rfl)
            obtain rfl := IsV.eq (dep_at hd 1 rfl rfl rfl)
            obtain rfl := IsV.eq (dep_at hd 2 rfl rfl rfl)
            clear hd
            go_wp2
            exact ⟨_, rfl, Grow.refl _, rfl⟩
          refine StepsS.cons ?_ fun v8 => ⟨_, _, by simp only [Act.put, List.setIfInBounds_toArray, List.set_cons_succ, List.set_cons_zero]; first | done | rfl, by simp only [List.nil_append, List.cons_append]; first | done | rfl, ?_⟩
          · intro w1 hE hd
            obtain rfl := IsV.eq (dep_at hd 0 rfl rfl rfl)
            obtain rfl := IsV.eq (dep_at hd 1 rfl rfl rfl)
            clear hd
            have qq := hE.drew.at hu
            go_wp2
            exact ⟨_, rfl, Grow.refl _, rfl⟩
          refine StepsS.cons ?_ fun v9 => ⟨_, _, by simp only [Act.put, List.setIfInBounds_toArray, List.set_cons_succ, List.set_cons_zero]; first | done | rfl, by simp only [List.nil_append, List.cons_append]; first | done | rfl, ?_⟩
          · intro w1 hE hd
            obtain rfl := IsV.eq (dep_at hd 0 rfl rfl rfl)
            obtain rfl := IsV.eq (dep_at hd 1 rfl rfl rfl)
            clear hd
            have hcv := run_convert_bs (P := Try.prog) 23 5 9 Try.underlying23 Try.underlying5 Try.underlying9 (hub.grow hE.drew)
            go_wp2
            exact ⟨_, rfl, Grow.refl _, rfl⟩
          refine StepsS.cons ?_ fun v10 => ⟨_, _, by simp only [Act.put, List.setIfInBounds_toArray, List.set_cons_succ, List.set_cons_zero]; first | done | rfl, by simp only [List.nil_append, List.cons_append]; first | done | rfl, ?_⟩
          · intro w1 hE hd
            obtain rfl := IsV.eq (dep_at hd 0 rfl rfl rfl)
            clear hd
            go_wp2
            exact ⟨_, rfl, Grow.refl _, rfl⟩
          refine StepsS.cons ?_ fun v11 => ⟨_, _, by simp only [Act.put, List.setIfInBounds_toArray, List.set_cons_succ, List.set_cons_zero]; first | done | rfl, by simp only [List.nil_append, List.cons_append]; first | done | rfl, ?_⟩
          · intro w1 hE hd
            obtain rfl := IsV.eq (dep_at hd 0 rfl rfl rfl)
            obtain rfl := IsV.eq (dep_at hd 1 rfl rfl rfl)
            clear hd
            have qq := hE.drew.at g3
            go_wp2
            exact ⟨_, rfl, Grow.refl _, rfl⟩
          refine StepsS.cons ?_ fun v12 => ⟨_, _, by simp only [Act.put, List.setIfInBounds_toArray, List.set_cons_succ, List.set_cons_zero]; first | done | rfl, by simp only [List.nil_append, List.cons_append]; first | done | rfl, ?_⟩
          · intro w1 hE hd
            obtain rfl := IsV.eq (dep_at hd 0 rfl rfl rfl)
            obtain rfl := IsV.eq (dep_at hd 1 rfl rfl rfl)
            clear hd
            have hcv := run_convert_bs (P := Try.prog) 23 5 9 Try.underlying23 Try.underlying5 Try.underlying9 (hbx.grow hE.drew)
            go_wp2
            exact ⟨_, rfl, Grow.refl _, rfl⟩
          refine StepsS.cons ?_ fun v13 => ⟨_, _, by simp only [Act.put, List.setIfInBounds_toArray, List.set_cons_succ, List.set_cons_zero]; first | done | rfl, by simp only [List.nil_append, List.cons_append]; first | done | rfl, ?_⟩
          · intro w1 hE hd
            obtain rfl := IsV.eq (dep_at hd 0 rfl rfl rfl)
            obtain rfl := IsV.eq (dep_at hd 1 rfl rfl rfl)
            obtain rfl := IsV.eq (dep_at hd 2 rfl rfl rfl)
            clear hd
            go_wp2
            exact ⟨_, rfl, Grow.refl _, rfl⟩
          refine StepsS.cons ?_ fun v14 => ⟨_, _, by simp only [Act.put, List.setIfInBounds_toArray, List.set_cons_succ, List.set_cons_zero]; first | done | rfl, by simp only [List.nil_append, List.cons_append]; first | done | rfl, ?_⟩
          · intro w1 hE hd
            obtain rfl := IsV.eq (dep_at hd 0 rfl rfl rfl)
            obtain rfl := IsV.eq (dep_at hd 1 rfl rfl rfl)
            clear hd
            go_wp2
            exact ⟨_, rfl, Grow.refl _, rfl⟩
          refine StepsS.cons ?_ fun v15 => ⟨_, _, by simp only [Act.put, List.setIfInBounds_toArray, List.set_cons_succ, List.set_cons_zero]; first | done | rfl, by simp only [List.nil_append, List.cons_append]; first | done | rfl, ?_⟩
          · intro w1 hE hd
            obtain rfl := IsV.eq (dep_at hd 0 rfl rfl rfl)
            clear hd
            go_wp2
            exact ⟨_, rfl, Grow.refl _, rfl⟩
          trivial
        intro wS hwS
        refine FinS.cons ?_; rintro _ rfl; refine ⟨_, by simp only [Act.put, List.setIfInBounds_toArray, List.set_cons_succ, List.set_cons_zero]; first | done | rfl, ?_⟩
        refine FinS.cons ?_; rintro _ rfl; refine ⟨_, by simp only [Act.put, List.setIfInBounds_toArray, List.set_cons_succ, List.set_cons_zero]; first | done | rfl, ?_⟩
        refine FinS.cons ?_; rintro _ rfl; refine ⟨_, by simp only [Act.put, List.setIfInBounds_toArray, List.set_cons_succ, List.set_cons_zero]; first | done | rfl, ?_⟩
        refine FinS.cons ?_; rintro _ rfl; refine ⟨_, by simp only [Act.put, List.setIfInBounds_toArray, List.set_cons_succ, List.set_cons_zero]; first | done | rfl, ?_⟩
        refine FinS.cons ?_; rintro _ rfl; refine ⟨_, by simp only [Act.put, List.setIfInBounds_toArray, List.set_cons_succ, List.set_cons_zero]; first | done | rfl, ?_⟩
        refine FinS.cons ?_; rintro _ rfl; refine ⟨_, by simp only [Act.put, List.setIfInBounds_toArray, List.set_cons_succ, List.set_cons_zero]; first | done | rfl, ?_⟩
        refine FinS.cons ?_; rintro _ rfl; refine ⟨_, by simp only [Act.put, List.setIfInBounds_toArray, List.set_cons_succ, List.set_cons_zero]; first | done | rfl, ?_⟩
        refine FinS.cons ?_; rintro _ rfl; refine ⟨_, by simp only [Act.put, List.setIfInBounds_toArray, List.set_cons_succ, List.set_cons_zero]; first | done | rfl, ?_⟩
        refine FinS.cons ?_; rintro _ rfl; refine ⟨_, by simp only [Act.put, List.setIfInBounds_toArray, List.set_cons_succ, List.set_cons_zero]; first | done | rfl, ?_⟩
        refine FinS.cons ?_; rintro _ rfl; refine ⟨_, by simp only [Act.put, List.setIfInBounds_toArray, List.set_cons_succ, List.set_cons_zero]; first | done | rfl, ?_⟩
        refine FinS.cons ?_; rintro _ rfl; refine ⟨_, by simp only [Act.put, List.setIfInBounds_toArray, List.set_cons_succ, List.set_cons_zero]; first | done | rfl, ?_⟩
        refine FinS.cons ?_; rintro _ rfl; refine ⟨_, by simp only [Act.put, List.setIfInBounds_toArray, List.set_cons_succ, List.set_cons_zero]; first | done | rfl, ?_⟩
        refine FinS.cons ?_; rintro _ rfl; refine ⟨_, by simp only [Act.put, List.setIfInBounds_toArray, List.set_cons_succ, List.set_cons_zero]; first | done | rfl, ?_⟩
        refine FinS.cons ?_; rintro _ rfl; refine ⟨_, by simp only [Act.put, List.setIfInBounds_toArray, List.set_cons_succ, List.set_cons_zero]; first | done | rfl, ?_⟩
        refine FinS.cons ?_; rintro _ rfl; refine ⟨_, by simp only [Act.put, List.setIfInBounds_toArray, List.set_cons_succ, List.set_cons_zero]; first | done | rfl, ?_⟩
        refine FinS.cons ?_; rintro _ rfl; refine ⟨_, by simp only [Act.put, List.setIfInBounds_toArray, List.set_cons_succ, List.set_cons_zero]; first | done | rfl, ?_⟩
        first | show Exit.then _ _ _ _ _ | show Exit.inBlock _ _ _ _ _
        go_wp2
        go_ret
        exact ⟨rfl, (hgW.trans hg15).trans hwS.drew⟩
      · have hsw := Hswap.out hk
        rw [hsw] at hr5
        rw [hk] at g0
        have hvX := hvW.grow hg15
        obtain ⟨v5, c5, e5⟩ := Sl.form hr5
        rw [H9.out] at e5
        subst e5
        have hs : Calls Try.prog 18 #[.slice v5 9 c5, .slice av 9 cv] w5 fun e w' => e = .returned (.bool true) ∧ Grow w5 w' := by
          have := modelSame_any _ _ ls ls w5 hr5 hvX H9.out H9.out
          rwa [show (ls == ls) = true from by simp] at this
        clear hr4 hr4' hr5 Hswap Htw Hat hsw
        go_wp2_with fail
        refine hs.mono ?_
        rintro e w6 ⟨rfl, hg6⟩
        go_wp2
        go_ret
        exact ⟨rfl, (hgW.trans hg15).trans hg6⟩
    · clear hvW hdW hbW h9 h4
      generalize wrongE x = E at *
      have hE' : (E != 0) = true := by simpa using hE0
      generalize ls.length = nl at *
      go_enter Try.func4, Try.ntmps4
      go_wp2_with fail
      rw [← hW]
      refine (alive5_any _).mono ?_
      rintro e w1 ⟨rfl, hg1⟩
      have c0 := hg1.at k0
      have c1 := hg1.at k1
      have c2 := hg1.at k2
      have c3 := hg1.at k3
      clear hW
      go_wp2_with fail
      refine (hR _ hg1).mono ?_
      rintro e w2 ⟨rfl, hw2⟩
      subst hw2
      go_wp2_with fail
      refine (hmw _ hg1).mono ?_
      rintro e w3 ⟨rfl, hg3⟩
      go_wp2
      go_ret
      exact ⟨rfl, (hgW.trans hg1).trans hg3⟩

end Go.Proofs.Ytjggiameajndgab
