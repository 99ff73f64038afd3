/-
  Chapter 5's statement of deeds that are apart, walked over what the program's model returns.
-/
import Derived.Test.YtjggiameajndgabWalkModelLaws2
namespace Go.Proofs.Ytjggiameajndgab
open Go.RowKit

set_option maxRecDepth 20000 in
set_option maxHeartbeats 1600000 in
theorem names_any (dv : Value) (x : DeedP) (n : Int) (w : World) (hd : DeedV w dv x) :
    Calls Try.prog 16 #[dv, .int .i64 n] w fun e w' => e = .returned (.bool (namesB x n)) ∧ Grow w w' := by
  obtain ⟨sv, rfl, hbd⟩ := hd
  obtain ⟨d1, d2, d3, rfl⟩ := hbd.form
  have hg := Grow.alloc w (.cells #[.int .i64 x.k, .int .i64 x.n, .int .i64 x.m, .slice d1 d2 d3] 25)
  have HN : Hid (namesB x n = decide (n = x.n ∨ (x.k = 2 ∧ n = x.m))) := rfl
  by_cases h1 : n = x.n
  · have HT : Hid (namesB x n = true) := by rw [Hid, HN.out]; exact decide_eq_true (.inl h1)
    clear hbd HN
    have h1' : (n == x.n) = true := by simpa using h1
    go_enter Try.func16, Try.ntmps16
    go_wp2
    all_goals
      go_ret
      exact ⟨ret_bool (by first | exact HT.out.symm | (rw [HT.out]; simp_all)), hg⟩
  · by_cases h2 : x.k = 2
    · have HT : Hid (namesB x n = (n == x.m)) := by
        rw [Hid, HN.out]
        by_cases h3 : n = x.m <;> simp [h1, h2, h3]
      have h1' : (n == x.n) = false := by simpa using h1
      rw [h2] at hg ⊢
      clear hbd HN h2
      go_enter Try.func16, Try.ntmps16
      go_wp2
      all_goals
        go_ret
        exact ⟨ret_bool (by first | exact HT.out.symm | (rw [HT.out]; simp_all)), hg⟩
    · have HT : Hid (namesB x n = false) := by rw [Hid, HN.out]; exact decide_eq_false (fun hc => by rcases hc with hc | hc; exact h1 hc; exact h2 hc.1)
      have h1' : (n == x.n) = false := by simpa using h1
      have h2' : (x.k == 2) = false := by simpa using h2
      clear hbd HN
      go_enter Try.func16, Try.ntmps16
      go_wp2
      go_ret
      exact ⟨ret_bool HT.out.symm, hg⟩

set_option maxRecDepth 20000 in
set_option maxHeartbeats 3200000 in
theorem modelApart_walk (v av bv : Value) (ls : List (List Int)) (a b : DeedP) (w : World) (h : Bss w v ls) (hda : DeedV w av a) (hdb : DeedV w bv b) :
    Calls Try.prog 3 #[v, av, bv] w fun e w' => e = .returned (.bool true) ∧ Grow w w' := by
  obtain ⟨sa, rfl, hba⟩ := id hda
  obtain ⟨p1, p2, p3, rfl⟩ := hba.form
  obtain ⟨sb, rfl, hbb⟩ := id hdb
  obtain ⟨q1, q2, q3, rfl⟩ := hbb.form
  obtain ⟨vv, cv, rfl⟩ := Sl.form h
  obtain ⟨W, hW⟩ : ∃ W, W = (w.alloc (.cells #[.int .i64 a.k, .int .i64 a.n, .int .i64 a.m, .slice p1 p2 p3] 25)).alloc (.cells #[.int .i64 b.k, .int .i64 b.n, .int .i64 b.m, .slice q1 q2 q3] 25) := ⟨_, rfl⟩
  have hgW : Grow w W := by rw [hW]; exact (Grow.alloc _ _).trans (Grow.alloc _ _)
  have k0 : W.cell? ⟨w.heap.size, 0, none⟩ = some (.int .i64 a.k) := by rw [hW]; simp
  have k1 : W.cell? ⟨w.heap.size, 1, none⟩ = some (.int .i64 a.n) := by rw [hW]; simp
  have k2 : W.cell? ⟨w.heap.size, 2, none⟩ = some (.int .i64 a.m) := by rw [hW]; simp
  have k3 : W.cell? ⟨w.heap.size, 3, none⟩ = some (.slice p1 p2 p3) := by rw [hW]; simp
  have j0 : W.cell? ⟨w.heap.size + 1, 0, none⟩ = some (.int .i64 b.k) := by rw [hW]; simp
  have j1 : W.cell? ⟨w.heap.size + 1, 1, none⟩ = some (.int .i64 b.n) := by rw [hW]; simp
  have j2 : W.cell? ⟨w.heap.size + 1, 2, none⟩ = some (.int .i64 b.m) := by rw [hW]; simp
  have j3 : W.cell? ⟨w.heap.size + 1, 3, none⟩ = some (.slice q1 q2 q3) := by rw [hW]; simp
  have hdaW := hda.grow hgW
  have hdbW := hdb.grow hgW
  have hvW := h.grow hgW
  clear h hba hbb hda hdb
  have hR := fun w1 hg => refRight_any _ ls w1 (hvW.grow (w' := w1) hg)
  have hwa := fun w1 hg => modelWrong_any _ a w1 (hdaW.grow (w' := w1) hg)
  have hwb := fun w1 hg => modelWrong_any _ b w1 (hdbW.grow (w' := w1) hg)
  have hna := fun n w1 hg => names_any _ a n w1 (hdaW.grow (w' := w1) hg)
  have hnb := fun n w1 hg => names_any _ b n w1 (hdbW.grow (w' := w1) hg)
  cases hrl : rightBlocksB ls with
  | false =>
    rw [hrl] at hR
    clear hvW hdaW hdbW hna hnb
    generalize ls.length = nl at *
    go_enter Try.func3, Try.ntmps3
    go_wp2_with fail
    rw [← hW]
    refine (alive5_any _).mono ?_
    rintro e w1 ⟨rfl, hg1⟩
    go_wp2_with fail
    refine (hR _ hg1).mono ?_
    rintro e w2 ⟨rfl, hw2⟩
    subst hw2
    go_wp2
    go_ret
    exact ⟨rfl, hgW.trans hg1⟩
  | true =>
    rw [hrl] at hR
    obtain ⟨h4, h9⟩ := rb_all hrl
    by_cases ha0 : wrongE a = 0
    · by_cases hb0 : wrongE b = 0
      · have H9 : Hid (ls.length = 9) := h9
        have Hap : Hid ((∀ n : Nat, n < 9 → ¬ (namesB a n = true ∧ namesB b n = true)) → doL (doL ls a) b = doL (doL ls b) a) := fun hap => do_apart h9 ha0 hb0 hap
        have Hfr : Hid (∀ n : Nat, n < 9 → namesB a n = false → namesB b n = false → (doL (doL ls a) b).getD n [] = ls.getD n []) := fun n hn h1 h2 => do_free h9 hn h1 h2
        have hDa := fun w1 hg => modelDo_any _ _ ls a w1 (hvW.grow (w' := w1) hg) (hdaW.grow hg) h9 h4 ha0
        have hDb := fun w1 hg => modelDo_any _ _ ls b w1 (hvW.grow (w' := w1) hg) (hdbW.grow hg) h9 h4 hb0
        have hDab := fun u w1 hu hg => modelDo_any u _ (doL ls a) b w1 hu (hdbW.grow (w' := w1) hg) (by rw [doL_length, h9]) (doL_four h4 h9 ha0) hb0
        have hDba := fun u w1 hu hg => modelDo_any u _ (doL ls b) a w1 hu (hdaW.grow (w' := w1) hg) (by rw [doL_length, h9]) (doL_four h4 h9 hb0) ha0
        have HlX : Hid ((doL (doL ls a) b).length = 9) := by rw [Hid, doL_length, doL_length, h9]
        have HlY : Hid ((doL (doL ls b) a).length = 9) := by rw [Hid, doL_length, doL_length, h9]
        rw [ha0] at hwa
        rw [hb0] at hwb
        rw [h9] at hR hDa hDb hvW ⊢
        clear h9 h4 ha0 hb0 hrl hdaW hdbW
        generalize doL (doL ls a) b = X at *
        generalize doL (doL ls b) a = Y at *
        generalize doL ls a = LA at *
        generalize doL ls b = LB at *
        go_enter Try.func3, Try.ntmps3
        go_wp2_with fail
        rw [← hW]
        refine (alive5_any _).mono ?_
        rintro e w1 ⟨rfl, hg1⟩
        clear hW
        have a0 := hg1.at k0
        have a1 := hg1.at k1
        have a2 := hg1.at k2
        have a3 := hg1.at k3
        go_wp2_with fail
        refine (hR _ hg1).mono ?_
        rintro e w2 ⟨rfl, hw2⟩
        subst hw2
        go_wp2_with fail
        refine (hwa _ hg1).mono ?_
        rintro e w3 ⟨rfl, hg3⟩
        have hg13 := hg1.trans hg3
        have b0 := hg13.at j0
        have b1 := hg13.at j1
        have b2 := hg13.at j2
        have b3 := hg13.at j3
        clear a0 a1 a2 a3
        go_wp2_with fail
        refine (hwb _ hg13).mono ?_
        rintro e w4 ⟨rfl, hg4⟩
        have hg14 := hg13.trans hg4
        clear b0 b1 b2 b3
        go_wp2
        go_loopw [27] (fun i wr => ∃ k : Nat, k ≤ 9 ∧ i = .int .i64 k ∧ Hid (∀ n : Nat, n < k → ¬ (namesB a n = true ∧ namesB b n = true)) ∧ Grow W wr) (fun i _ => 9 - (intOf i).toNat)
        case atStart => exact ⟨0, by omega, rfl, (fun n hn => by omega), hg14⟩
        case round =>
          obtain ⟨k, hk, rfl, HK, hgr⟩ := hrel
          have a0 := hgr.at k0
          have a1 := hgr.at k1
          have a2 := hgr.at k2
          have a3 := hgr.at k3
          by_cases hlt : k < 9
          · have hna' := hna (k : Int)
            have hnb' := hnb (k : Int)
            cases hA : namesB a (k : Int) with
            | true =>
              rw [hA] at hna'
              go_wp2_with fail
              refine (hna' _ hgr).mono ?_
              rintro e w5 ⟨rfl, hg5⟩
              have hgr5 := hgr.trans hg5
              have b0 := hgr5.at j0
              have b1 := hgr5.at j1
              have b2 := hgr5.at j2
              have b3 := hgr5.at j3
              cases hB : namesB b (k : Int) with
              | true =>
                rw [hB] at hnb'
                clear HK Hap Hfr
                go_wp2_with fail
                refine (hnb' _ hgr5).mono ?_
                rintro e w6 ⟨rfl, hg6⟩
                go_wp2
                go_ret
                exact ⟨rfl, (hgW.trans hgr5).trans hg6⟩
              | false =>
                have HK' : Hid (∀ n : Nat, n < k + 1 → ¬ (namesB a n = true ∧ namesB b n = true)) := fun n hn hc => by
                  by_cases hnk : n = k
                  · subst hnk; rw [hB] at hc; cases hc.2
                  · exact HK.out n (by omega) hc
                rw [hB] at hnb'
                clear HK hA hB
                go_wp2_with fail
                refine (hnb' _ hgr5).mono ?_
                rintro e w6 ⟨rfl, hg6⟩
                go_wp2
                go_roundw
                case rel => first | exact ⟨k + 1, by omega, by go_num, HK', hgr5.trans hg6⟩ | ((repeat apply Exists.intro); exact ⟨⟨k + 1, by omega, by go_num, HK', hgr5.trans hg6⟩, rfl⟩)
                case measure => simp [intOf]; omega
            | false =>
              have HK' : Hid (∀ n : Nat, n < k + 1 → ¬ (namesB a n = true ∧ namesB b n = true)) := fun n hn hc => by
                by_cases hnk : n = k
                · subst hnk; rw [hA] at hc; cases hc.1
                · exact HK.out n (by omega) hc
              rw [hA] at hna'
              clear HK hA
              go_wp2_with fail
              refine (hna' _ hgr).mono ?_
              rintro e w5 ⟨rfl, hg5⟩
              go_wp2
              go_roundw
              case rel => first | exact ⟨k + 1, by omega, by go_num, HK', hgr.trans hg5⟩ | ((repeat apply Exists.intro); exact ⟨⟨k + 1, by omega, by go_num, HK', hgr.trans hg5⟩, rfl⟩)
              case measure => simp [intOf]; omega
          · have Hxy : Hid (X = Y) := Hap.out (fun n hn => HK.out n (by omega))
            clear HK Hap
            have hdk : decide ((k : Int) < 9) = false := by simp; omega
            have b0 := hgr.at j0
            have b1 := hgr.at j1
            have b2 := hgr.at j2
            have b3 := hgr.at j3
            go_wp2_with fail
            refine wp_region_stable Grow [IsV (.slice vv 9 cv), IsV (.agg #[.int .i64 a.k, .int .i64 a.n, .int .i64 a.m, .slice p1 p2 p3]), AnBss LA, IsV (.agg #[.int .i64 b.k, .int .i64 b.n, .int .i64 b.m, .slice q1 q2 q3]), AnBss X, IsV (.slice vv 9 cv), IsV (.agg #[.int .i64 b.k, .int .i64 b.n, .int .i64 b.m, .slice q1 q2 q3]), AnBss LB, IsV (.agg #[.int .i64 a.k, .int .i64 a.n, .int .i64 a.m, .slice p1 p2 p3]), AnBss Y, AnBss X, AnBss Y] (by kernel_rfl) (by kernel_rfl) rfl Grow.refl (fun _ _ _ => Grow.trans) ?_ ?_ ?_
            · repeat (refine List.forall_mem_cons.2 ⟨by first | exact IsV.stable _ | exact AnBss.stable _, ?_⟩)
              exact fun R hR => nomatch hR
            · skip
              refine StepsS.cons ?_ fun v0 => ⟨_, _, by simp only [Act.put, List.setIfInBounds_toArray, List.set_cons_succ, List.set_cons_zero]; first | done | rfl, by simp only [List.nil_append]; first | done | rfl, ?_⟩
              · intro w1 hE hd
                clear hd
                go_wp2
                exact ⟨_, rfl, Grow.refl _, rfl⟩
              refine StepsS.cons ?_ fun v1 => ⟨_, _, by simp only [Act.put, List.setIfInBounds_toArray, List.set_cons_succ, List.set_cons_zero]; first | done | rfl, by simp only [List.nil_append, List.cons_append]; first | done | rfl, ?_⟩
              · intro w1 hE hd
                clear hd
                have q0 := hE.drew.at a0
                have q1 := hE.drew.at a1
                have q2 := hE.drew.at a2
                have q3 := hE.drew.at a3
                go_wp2
                exact ⟨_, rfl, Grow.refl _, rfl⟩
              refine StepsS.cons ?_ fun v2 => ⟨_, _, by simp only [Act.put, List.setIfInBounds_toArray, List.set_cons_succ, List.set_cons_zero]; first | done | rfl, by simp only [List.nil_append, List.cons_append]; first | done | rfl, ?_⟩
              · intro w1 hE hd
                obtain rfl := IsV.eq (dep_at hd 0 rfl rfl rfl)
                obtain rfl := IsV.eq (dep_at hd 1 rfl rfl rfl)
                clear hd
                go_wp2_with fail
                refine (hDa _ (hgr.trans hE.drew)).mono ?_
                rintro e w4 ⟨r', rfl, hr', hg4⟩
                go_wp2_with fail
                exact ⟨_, rfl, hg4, hr'⟩
              refine StepsS.cons ?_ fun v3 => ⟨_, _, by simp only [Act.put, List.setIfInBounds_toArray, List.set_cons_succ, List.set_cons_zero]; first | done | rfl, by simp only [List.nil_append, List.cons_append]; first | done | rfl, ?_⟩
              · intro w1 hE hd
                clear hd
                have q0 := hE.drew.at b0
                have q1 := hE.drew.at b1
                have q2 := hE.drew.at b2
                have q3 := hE.drew.at b3
                go_wp2
                exact ⟨_, rfl, Grow.refl _, rfl⟩
              refine StepsS.cons ?_ fun v4 => ⟨_, _, by simp only [Act.put, List.setIfInBounds_toArray, List.set_cons_succ, List.set_cons_zero]; first | done | rfl, by simp only [List.nil_append, List.cons_append]; first | done | rfl, ?_⟩
              · intro w1 hE hd
                have d2 := dep_at hd 0 rfl rfl rfl
                obtain rfl := IsV.eq (dep_at hd 1 rfl rfl rfl)
                clear hd
                go_wp2_with fail
                refine (hDab _ _ d2 (hgr.trans hE.drew)).mono ?_
                rintro e w4 ⟨r', rfl, hr', hg4⟩
                go_wp2_with fail
                exact ⟨_, rfl, hg4, hr'⟩
              refine StepsS.cons ?_ fun v5 => ⟨_, _, by simp only [Act.put, List.setIfInBounds_toArray, List.set_cons_succ, List.set_cons_zero]; first | done | rfl, by simp only [List.nil_append, List.cons_append]; first | done | rfl, ?_⟩
              · intro w1 hE hd
                clear hd
                go_wp2
                exact ⟨_, rfl, Grow.refl _, rfl⟩
              refine StepsS.cons ?_ fun v6 => ⟨_, _, by simp only [Act.put, List.setIfInBounds_toArray, List.set_cons_succ, List.set_cons_zero]; first | done | rfl, by simp only [List.nil_append, List.cons_append]; first | done | rfl, ?_⟩
              · intro w1 hE hd
                clear hd
                have q0 := hE.drew.at b0
                have q1 := hE.drew.at b1
                have q2 := hE.drew.at b2
                have q3 := hE.drew.at b3
                go_wp2
                exact ⟨_, rfl, Grow.refl _, rfl⟩
              refine StepsS.cons ?_ fun v7 => ⟨_, _, by simp only [Act.put, List.setIfInBounds_toArray, List.set_cons_succ, List.set_cons_zero]; first | done | rfl, by simp only [List.nil_append, List.cons_append]; first | done | rfl, ?_⟩
              · intro w1 hE hd
                obtain rfl := IsV.eq (dep_at hd 0 rfl rfl rfl)
                obtain rfl := IsV.eq (dep_at hd 1 rfl rfl rfl)
                clear hd
                go_wp2_with fail
                refine (hDb _ (hgr.trans hE.drew)).mono ?_
                rintro e w4 ⟨r', rfl, hr', hg4⟩
                go_wp2_with fail
                exact ⟨_, rfl, hg4, hr'⟩
              refine StepsS.cons ?_ fun v8 => ⟨_, _, by simp only [Act.put, List.setIfInBounds_toArray, List.set_cons_succ, List.set_cons_zero]; first | done | rfl, by simp only [List.nil_append, List.cons_append]; first | done | rfl, ?_⟩
              · intro w1 hE hd
                clear hd
                have q0 := hE.drew.at a0
                have q1 := hE.drew.at a1
                have q2 := hE.drew.at a2
                have q3 := hE.drew.at a3
                go_wp2
                exact ⟨_, rfl, Grow.refl _, rfl⟩
              refine StepsS.cons ?_ fun v9 => ⟨_, _, by simp only [Act.put, List.setIfInBounds_toArray, List.set_cons_succ, List.set_cons_zero]; first | done | rfl, by simp only [List.nil_append, List.cons_append]; first | done | rfl, ?_⟩
              · intro w1 hE hd
                have d7 := dep_at hd 0 rfl rfl rfl
                obtain rfl := IsV.eq (dep_at hd 1 rfl rfl rfl)
                clear hd
                go_wp2_with fail
                refine (hDba _ _ d7 (hgr.trans hE.drew)).mono ?_
                rintro e w4 ⟨r', rfl, hr', hg4⟩
                go_wp2_with fail
                exact ⟨_, rfl, hg4, hr'⟩
              refine StepsS.cons ?_ fun v10 => ⟨_, _, by simp only [Act.put, List.setIfInBounds_toArray, List.set_cons_succ, List.set_cons_zero]; first | done | rfl, by simp only [List.nil_append, List.cons_append]; first | done | rfl, ?_⟩
              · intro w1 hE hd
                have d4 := dep_at hd 0 rfl rfl rfl
                clear hd
                go_wp2
                exact ⟨_, rfl, Grow.refl _, d4⟩
              refine StepsS.cons ?_ fun v11 => ⟨_, _, by simp only [Act.put, List.setIfInBounds_toArray, List.set_cons_succ, List.set_cons_zero]; first | done | rfl, by simp only [List.nil_append, List.cons_append]; first | done | rfl, ?_⟩
              · intro w1 hE hd
                have d9 := dep_at hd 0 rfl rfl rfl
                clear hd
                go_wp2
                exact ⟨_, rfl, Grow.refl _, d9⟩
              trivial
            intro wS hwS
            refine FinS.cons ?_; rintro _ rfl; refine ⟨_, by simp only [Act.put, List.setIfInBounds_toArray, List.set_cons_succ, List.set_cons_zero]; first | done | rfl, ?_⟩
            refine FinS.cons ?_; rintro _ rfl; refine ⟨_, by simp only [Act.put, List.setIfInBounds_toArray, List.set_cons_succ, List.set_cons_zero]; first | done | rfl, ?_⟩
            refine FinS.cons fun v2 h2 => ⟨_, by simp only [Act.put, List.setIfInBounds_toArray, List.set_cons_succ, List.set_cons_zero]; first | done | rfl, ?_⟩
            refine FinS.cons ?_; rintro _ rfl; refine ⟨_, by simp only [Act.put, List.setIfInBounds_toArray, List.set_cons_succ, List.set_cons_zero]; first | done | rfl, ?_⟩
            refine FinS.cons fun v4 h4 => ⟨_, by simp only [Act.put, List.setIfInBounds_toArray, List.set_cons_succ, List.set_cons_zero]; first | done | rfl, ?_⟩
            refine FinS.cons ?_; rintro _ rfl; refine ⟨_, by simp only [Act.put, List.setIfInBounds_toArray, List.set_cons_succ, List.set_cons_zero]; first | done | rfl, ?_⟩
            refine FinS.cons ?_; rintro _ rfl; refine ⟨_, by simp only [Act.put, List.setIfInBounds_toArray, List.set_cons_succ, List.set_cons_zero]; first | done | rfl, ?_⟩
            refine FinS.cons fun v7 h7 => ⟨_, by simp only [Act.put, List.setIfInBounds_toArray, List.set_cons_succ, List.set_cons_zero]; first | done | rfl, ?_⟩
            refine FinS.cons ?_; rintro _ rfl; refine ⟨_, by simp only [Act.put, List.setIfInBounds_toArray, List.set_cons_succ, List.set_cons_zero]; first | done | rfl, ?_⟩
            refine FinS.cons fun v9 h9 => ⟨_, by simp only [Act.put, List.setIfInBounds_toArray, List.set_cons_succ, List.set_cons_zero]; first | done | rfl, ?_⟩
            refine FinS.cons fun v10 h10 => ⟨_, by simp only [Act.put, List.setIfInBounds_toArray, List.set_cons_succ, List.set_cons_zero]; first | done | rfl, ?_⟩
            refine FinS.cons fun v11 h11 => ⟨_, by simp only [Act.put, List.setIfInBounds_toArray, List.set_cons_succ, List.set_cons_zero]; first | done | rfl, ?_⟩
            first | show Exit.then _ _ _ _ _ | show Exit.inBlock _ _ _ _ _
            have hgS := hgr.trans hwS.drew
            have hX : Bss wS v10 X := h10
            have hY : Bss wS v11 Y := h11
            have hvS := hvW.grow hgS
            obtain ⟨ax, cx, ex⟩ := Sl.form hX
            rw [HlX.out] at ex
            subst ex
            obtain ⟨ay, cy, ey⟩ := Sl.form hY
            rw [HlY.out] at ey
            subst ey
            obtain ⟨bx, ox, -, rfl, -, -⟩ := hX.elem (k := 0) (by rw [HlX.out]; omega) []
            obtain ⟨by', oy, -, rfl, -, -⟩ := hvS.elem (k := 0) (by rw [H9.out]; omega) []
            have hcx : 9 ≤ cx ∧ cx ≤ 9223372036854775807 := by
              obtain ⟨_, _, e, q1, q2⟩ := hX.form'
              have := HlX.out
              injection e with _ q3 q4
              omega
            have hcy : 9 ≤ cv ∧ cv ≤ 9223372036854775807 := by
              obtain ⟨_, _, e, q1, q2⟩ := hvS.form'
              have := H9.out
              injection e with _ q3 q4
              omega
            have hs : ∀ w6, Grow wS w6 → Calls Try.prog 18 #[.slice (some ⟨bx, ox, none⟩) 9 cx, .slice ay 9 cy] w6 fun e w' => e = .returned (.bool true) ∧ Grow w6 w' := fun w6 hg6 => by
              have := modelSame_any _ _ X Y w6 (hX.grow hg6) (hY.grow hg6) HlX.out HlY.out
              rwa [show (X == Y) = true from by rw [Hxy.out]; simp] at this
            clear a0 a1 a2 a3 b0 b1 b2 b3 h10 h11 h2 h4 h7 h9 hDa hDb hDab hDba hwa hwb hR hY Hxy HlY
            go_wp2
            go_loopw [51] (fun i wr => ∃ q : Nat, q ≤ 9 ∧ i = .int .i64 q ∧ Grow wS wr) (fun i _ => 9 - (intOf i).toNat)
            case atStart => exact ⟨0, by omega, rfl, Grow.refl _⟩
            case round =>
              obtain ⟨q, hq, rfl, hgT0⟩ := hrel
              have hgT := hgS.trans hgT0
              have a0 := hgT.at k0
              have a1 := hgT.at k1
              have a2 := hgT.at k2
              have a3 := hgT.at k3
              have b0 := hgT.at j0
              have b1 := hgT.at j1
              have b2 := hgT.at j2
              have b3 := hgT.at j3
              by_cases hq9 : q < 9
              · have hna' := hna (q : Int)
                have hnb' := hnb (q : Int)
                have hdq : decide ((q : Int) < 9) = true := by simp; omega
                cases hA : namesB a (q : Int) with
                | true =>
                  rw [hA] at hna'
                  clear hA
                  go_wp2_with fail
                  refine wp_region_stable Grow [IsV (.func (.func 16) #[] #[]), IsV (.agg #[.int .i64 a.k, .int .i64 a.n, .int .i64 a.m, .slice p1 p2 p3]), IsV (.int .i64 q), IsV (.bool true), IsV (.bool false), IsV (.bool false), IsV (undef), IsV (undef), IsV (undef), IsV (undef), IsV (undef), IsV (.bool false), IsV (.bool false), IsV (undef), IsV (undef), IsV (undef), IsV (undef), IsV (undef), IsV (undef), IsV (undef), IsV (undef), IsV (undef), IsV (undef), IsV (undef), IsV (.bool false)] (by kernel_rfl) (by kernel_rfl) rfl Grow.refl (fun _ _ _ => Grow.trans) ?_ ?_ ?_
                  · repeat (refine List.forall_mem_cons.2 ⟨by first | exact IsV.stable _, ?_⟩)
                    exact fun R hR => nomatch hR
                  · skip
                    refine StepsS.cons ?_ fun v0 => ⟨_, _, by simp only [Act.put, List.setIfInBounds_toArray, List.set_cons_succ, List.set_cons_zero]; first | done | rfl, by simp only [List.nil_append]; first | done | rfl, ?_⟩
                    · intro w1 hE hd
                      clear hd
                      go_wp2
                      exact ⟨_, rfl, Grow.refl _, rfl⟩
                    refine StepsS.cons ?_ fun v1 => ⟨_, _, by simp only [Act.put, List.setIfInBounds_toArray, List.set_cons_succ, List.set_cons_zero]; first | done | rfl, by simp only [List.nil_append, List.cons_append]; first | done | rfl, ?_⟩
                    · intro w1 hE hd
                      clear hd
                      have q0 := hE.drew.at a0
                      have q1 := hE.drew.at a1
                      have q2 := hE.drew.at a2
                      have q3 := hE.drew.at a3
                      go_wp2
                      exact ⟨_, rfl, Grow.refl _, rfl⟩
                    refine StepsS.cons ?_ fun v2 => ⟨_, _, by simp only [Act.put, List.setIfInBounds_toArray, List.set_cons_succ, List.set_cons_zero]; first | done | rfl, by simp only [List.nil_append, List.cons_append]; first | done | rfl, ?_⟩
                    · intro w1 hE hd
                      clear hd
                      go_wp2
                      exact ⟨_, rfl, Grow.refl _, rfl⟩
                    refine StepsS.cons ?_ fun v3 => ⟨_, _, by simp only [Act.put, List.setIfInBounds_toArray, List.set_cons_succ, List.set_cons_zero]; first | done | rfl, by simp only [List.nil_append, List.cons_append]; first | done | rfl, ?_⟩
                    · intro w1 hE hd
                      obtain rfl := IsV.eq (dep_at hd 0 rfl rfl rfl)
                      obtain rfl := IsV.eq (dep_at hd 1 rfl rfl rfl)
                      obtain rfl := IsV.eq (dep_at hd 2 rfl rfl rfl)
                      clear hd
                      go_wp2_with fail
                      refine (hna' _ (hgT.trans hE.drew)).mono ?_
                      rintro e w4 ⟨rfl, hg4⟩
                      go_wp2_with fail
                      exact ⟨_, rfl, hg4, rfl⟩
                    refine StepsS.cons ?_ fun v4 => ⟨_, _, by simp only [Act.put, List.setIfInBounds_toArray, List.set_cons_succ, List.set_cons_zero]; first | done | rfl, by simp only [List.nil_append, List.cons_append]; first | done | rfl, ?_⟩
                    · intro w1 hE hd
                      obtain rfl := IsV.eq (dep_at hd 0 rfl rfl rfl)
                      clear hd
                      go_wp2
                      exact ⟨_, rfl, Grow.refl _, rfl⟩
                    refine StepsS.cons ?_ fun v5 => ⟨_, _, by simp only [Act.put, List.setIfInBounds_toArray, List.set_cons_succ, List.set_cons_zero]; first | done | rfl, by simp only [List.nil_append, List.cons_append]; first | done | rfl, ?_⟩
                    · intro w1 hE hd
                      obtain rfl := IsV.eq (dep_at hd 0 rfl rfl rfl)
                      clear hd
                      go_wp2
                      exact ⟨_, rfl, Grow.refl _, rfl⟩
                    refine StepsS.cons ?_ fun v6 => ⟨_, _, by simp only [Act.put, List.setIfInBounds_toArray, List.set_cons_succ, List.set_cons_zero]; first | done | rfl, by simp only [List.nil_append, List.cons_append]; first | done | rfl, ?_⟩
                    · intro w1 hE hd
                      obtain rfl := IsV.eq (dep_at hd 0 rfl rfl rfl)
                      clear hd
                      go_wp2
                      exact ⟨_, rfl, Grow.refl _, rfl⟩
                    refine StepsS.cons ?_ fun v7 => ⟨_, _, by simp only [Act.put, List.setIfInBounds_toArray, List.set_cons_succ, List.set_cons_zero]; first | done | rfl, by simp only [List.nil_append, List.cons_append]; first | done | rfl, ?_⟩
                    · intro w1 hE hd
                      obtain rfl := IsV.eq (dep_at hd 0 rfl rfl rfl)
                      clear hd
                      go_wp2
                      exact ⟨_, rfl, Grow.refl _, rfl⟩
                    refine StepsS.cons ?_ fun v8 => ⟨_, _, by simp only [Act.put, List.setIfInBounds_toArray, List.set_cons_succ, List.set_cons_zero]; first | done | rfl, by simp only [List.nil_append, List.cons_append]; first | done | rfl, ?_⟩
                    · intro w1 hE hd
                      obtain rfl := IsV.eq (dep_at hd 0 rfl rfl rfl)
                      clear hd
                      go_wp2
                      exact ⟨_, rfl, Grow.refl _, rfl⟩
                    refine StepsS.cons ?_ fun v9 => ⟨_, _, by simp only [Act.put, List.setIfInBounds_toArray, List.set_cons_succ, List.set_cons_zero]; first | done | rfl, by simp only [List.nil_append, List.cons_append]; first | done | rfl, ?_⟩
                    · intro w1 hE hd
                      obtain rfl := IsV.eq (dep_at hd 0 rfl rfl rfl)
                      obtain rfl := IsV.eq (dep_at hd 1 rfl rfl rfl)
                      obtain rfl := IsV.eq (dep_at hd 2 rfl rfl rfl)
                      obtain rfl := IsV.eq (dep_at hd 3 rfl rfl rfl)
                      clear hd
                      go_wp2
                      exact ⟨_, rfl, Grow.refl _, rfl⟩
                    refine StepsS.cons ?_ fun v10 => ⟨_, _, by simp only [Act.put, List.setIfInBounds_toArray, List.set_cons_succ, List.set_cons_zero]; first | done | rfl, by simp only [List.nil_append, List.cons_append]; first | done | rfl, ?_⟩
                    · intro w1 hE hd
                      obtain rfl := IsV.eq (dep_at hd 0 rfl rfl rfl)
                      obtain rfl := IsV.eq (dep_at hd 1 rfl rfl rfl)
                      clear hd
                      go_wp2
                      exact ⟨_, rfl, Grow.refl _, rfl⟩
                    refine StepsS.cons ?_ fun v11 => ⟨_, _, by simp only [Act.put, List.setIfInBounds_toArray, List.set_cons_succ, List.set_cons_zero]; first | done | rfl, by simp only [List.nil_append, List.cons_append]; first | done | rfl, ?_⟩
                    · intro w1 hE hd
                      obtain rfl := IsV.eq (dep_at hd 0 rfl rfl rfl)
                      obtain rfl := IsV.eq (dep_at hd 1 rfl rfl rfl)
                      clear hd
                      go_wp2
                      exact ⟨_, rfl, Grow.refl _, rfl⟩
                    refine StepsS.cons ?_ fun v12 => ⟨_, _, by simp only [Act.put, List.setIfInBounds_toArray, List.set_cons_succ, List.set_cons_zero]; first | done | rfl, by simp only [List.nil_append, List.cons_append]; first | done | rfl, ?_⟩
                    · intro w1 hE hd
                      obtain rfl := IsV.eq (dep_at hd 0 rfl rfl rfl)
                      clear hd
                      go_wp2
                      exact ⟨_, rfl, Grow.refl _, rfl⟩
                    refine StepsS.cons ?_ fun v13 => ⟨_, _, by simp only [Act.put, List.setIfInBounds_toArray, List.set_cons_succ, List.set_cons_zero]; first | done | rfl, by simp only [List.nil_append, List.cons_append]; first | done | rfl, ?_⟩
                    · intro w1 hE hd
                      obtain rfl := IsV.eq (dep_at hd 0 rfl rfl rfl)
                      clear hd
                      go_wp2
                      exact ⟨_, rfl, Grow.refl _, rfl⟩
                    refine StepsS.cons ?_ fun v14 => ⟨_, _, by simp only [Act.put, List.setIfInBounds_toArray, List.set_cons_succ, List.set_cons_zero]; first | done | rfl, by simp only [List.nil_append, List.cons_append]; first | done | rfl, ?_⟩
                    · intro w1 hE hd
                      obtain rfl := IsV.eq (dep_at hd 0 rfl rfl rfl)
                      clear hd
                      go_wp2
                      exact ⟨_, rfl, Grow.refl _, rfl⟩
                    refine StepsS.cons ?_ fun v15 => ⟨_, _, by simp only [Act.put, List.setIfInBounds_toArray, List.set_cons_succ, List.set_cons_zero]; first | done | rfl, by simp only [List.nil_append, List.cons_append]; first | done | rfl, ?_⟩
                    · intro w1 hE hd
                      obtain rfl := IsV.eq (dep_at hd 0 rfl rfl rfl)
                      obtain rfl := IsV.eq (dep_at hd 1 rfl rfl rfl)
                      obtain rfl := IsV.eq (dep_at hd 2 rfl rfl rfl)
                      clear hd
                      go_wp2
                      exact ⟨_, rfl, Grow.refl _, rfl⟩
                    refine StepsS.cons ?_ fun v16 => ⟨_, _, by simp only [Act.put, List.setIfInBounds_toArray, List.set_cons_succ, List.set_cons_zero]; first | done | rfl, by simp only [List.nil_append, List.cons_append]; first | done | rfl, ?_⟩
                    · intro w1 hE hd
                      obtain rfl := IsV.eq (dep_at hd 0 rfl rfl rfl)
                      obtain rfl := IsV.eq (dep_at hd 1 rfl rfl rfl)
                      clear hd
                      go_wp2
                      exact ⟨_, rfl, Grow.refl _, rfl⟩
                    refine StepsS.cons ?_ fun v17 => ⟨_, _, by simp only [Act.put, List.setIfInBounds_toArray, List.set_cons_succ, List.set_cons_zero]; first | done | rfl, by simp only [List.nil_append, List.cons_append]; first | done | rfl, ?_⟩
                    · intro w1 hE hd
                      obtain rfl := IsV.eq (dep_at hd 0 rfl rfl rfl)
                      obtain rfl := IsV.eq (dep_at hd 1 rfl rfl rfl)
                      clear hd
                      go_wp2
                      exact ⟨_, rfl, Grow.refl _, rfl⟩
                    refine StepsS.cons ?_ fun v18 => ⟨_, _, by simp only [Act.put, List.setIfInBounds_toArray, List.set_cons_succ, List.set_cons_zero]; first | done | rfl, by simp only [List.nil_append, List.cons_append]; first | done | rfl, ?_⟩
                    · intro w1 hE hd
                      obtain rfl := IsV.eq (dep_at hd 0 rfl rfl rfl)
                      clear hd
                      go_wp2
                      exact ⟨_, rfl, Grow.refl _, rfl⟩
                    refine StepsS.cons ?_ fun v19 => ⟨_, _, by simp only [Act.put, List.setIfInBounds_toArray, List.set_cons_succ, List.set_cons_zero]; first | done | rfl, by simp only [List.nil_append, List.cons_append]; first | done | rfl, ?_⟩
                    · intro w1 hE hd
                      obtain rfl := IsV.eq (dep_at hd 0 rfl rfl rfl)
                      clear hd
                      go_wp2
                      exact ⟨_, rfl, Grow.refl _, rfl⟩
                    refine StepsS.cons ?_ fun v20 => ⟨_, _, by simp only [Act.put, List.setIfInBounds_toArray, List.set_cons_succ, List.set_cons_zero]; first | done | rfl, by simp only [List.nil_append, List.cons_append]; first | done | rfl, ?_⟩
                    · intro w1 hE hd
                      obtain rfl := IsV.eq (dep_at hd 0 rfl rfl rfl)
                      obtain rfl := IsV.eq (dep_at hd 1 rfl rfl rfl)
                      obtain rfl := IsV.eq (dep_at hd 2 rfl rfl rfl)
                      clear hd
                      go_wp2
                      exact ⟨_, rfl, Grow.refl _, rfl⟩
                    refine StepsS.cons ?_ fun v21 => ⟨_, _, by simp only [Act.put, List.setIfInBounds_toArray, List.set_cons_succ, List.set_cons_zero]; first | done | rfl, by simp only [List.nil_append, List.cons_append]; first | done | rfl, ?_⟩
                    · intro w1 hE hd
                      obtain rfl := IsV.eq (dep_at hd 0 rfl rfl rfl)
                      obtain rfl := IsV.eq (dep_at hd 1 rfl rfl rfl)
                      clear hd
                      go_wp2
                      exact ⟨_, rfl, Grow.refl _, rfl⟩
                    refine StepsS.cons ?_ fun v22 => ⟨_, _, by simp only [Act.put, List.setIfInBounds_toArray, List.set_cons_succ, List.set_cons_zero]; first | done | rfl, by simp only [List.nil_append, List.cons_append]; first | done | rfl, ?_⟩
                    · intro w1 hE hd
                      obtain rfl := IsV.eq (dep_at hd 0 rfl rfl rfl)
                      obtain rfl := IsV.eq (dep_at hd 1 rfl rfl rfl)
                      clear hd
                      go_wp2
                      exact ⟨_, rfl, Grow.refl _, rfl⟩
                    refine StepsS.cons ?_ fun v23 => ⟨_, _, by simp only [Act.put, List.setIfInBounds_toArray, List.set_cons_succ, List.set_cons_zero]; first | done | rfl, by simp only [List.nil_append, List.cons_append]; first | done | rfl, ?_⟩
                    · intro w1 hE hd
                      obtain rfl := IsV.eq (dep_at hd 0 rfl rfl rfl)
                      obtain rfl := IsV.eq (dep_at hd 1 rfl rfl rfl)
                      obtain rfl := IsV.eq (dep_at hd 2 rfl rfl rfl)
                      clear hd
                      go_wp2
                      exact ⟨_, rfl, Grow.refl _, rfl⟩
                    refine StepsS.cons ?_ fun v24 => ⟨_, _, by simp only [Act.put, List.setIfInBounds_toArray, List.set_cons_succ, List.set_cons_zero]; first | done | rfl, by simp only [List.nil_append, List.cons_append]; first | done | rfl, ?_⟩
                    · intro w1 hE hd
                      obtain rfl := IsV.eq (dep_at hd 0 rfl rfl rfl)
                      obtain rfl := IsV.eq (dep_at hd 1 rfl rfl rfl)
                      clear hd
                      go_wp2
                      exact ⟨_, rfl, Grow.refl _, rfl⟩
                    trivial
                  intro wT hwT
                  refine FinS.cons ?_; rintro _ rfl; refine ⟨_, by simp only [Act.put, List.setIfInBounds_toArray, List.set_cons_succ, List.set_cons_zero]; first | done | rfl, ?_⟩
                  refine FinS.cons ?_; rintro _ rfl; refine ⟨_, by simp only [Act.put, List.setIfInBounds_toArray, List.set_cons_succ, List.set_cons_zero]; first | done | rfl, ?_⟩
                  refine FinS.cons ?_; rintro _ rfl; refine ⟨_, by simp only [Act.put, List.setIfInBounds_toArray, List.set_cons_succ, List.set_cons_zero]; first | done | rfl, ?_⟩
                  refine FinS.cons ?_; rintro _ rfl; refine ⟨_, by simp only [Act.put, List.setIfInBounds_toArray, List.set_cons_succ, List.set_cons_zero]; first | done | rfl, ?_⟩
                  refine FinS.cons ?_; rintro _ rfl; refine ⟨_, by simp only [Act.put, List.setIfInBounds_toArray, List.set_cons_succ, List.set_cons_zero]; first | done | rfl, ?_⟩
                  refine FinS.cons ?_; rintro _ rfl; refine ⟨_, by simp only [Act.put, List.setIfInBounds_toArray, List.set_cons_succ, List.set_cons_zero]; first | done | rfl, ?_⟩
                  refine FinS.cons ?_; rintro _ rfl; refine ⟨_, by simp only [Act.put, List.setIfInBounds_toArray, List.set_cons_succ, List.set_cons_zero]; first | done | rfl, ?_⟩
                  refine FinS.cons ?_; rintro _ rfl; refine ⟨_, by simp only [Act.put, List.setIfInBounds_toArray, List.set_cons_succ, List.set_cons_zero]; first | done | rfl, ?_⟩
                  refine FinS.cons ?_; rintro _ rfl; refine ⟨_, by simp only [Act.put, List.setIfInBounds_toArray, List.set_cons_succ, List.set_cons_zero]; first | done | rfl, ?_⟩
                  refine FinS.cons ?_; rintro _ rfl; refine ⟨_, by simp only [Act.put, List.setIfInBounds_toArray, List.set_cons_succ, List.set_cons_zero]; first | done | rfl, ?_⟩
                  refine FinS.cons ?_; rintro _ rfl; refine ⟨_, by simp only [Act.put, List.setIfInBounds_toArray, List.set_cons_succ, List.set_cons_zero]; first | done | rfl, ?_⟩
                  refine FinS.cons ?_; rintro _ rfl; refine ⟨_, by simp only [Act.put, List.setIfInBounds_toArray, List.set_cons_succ, List.set_cons_zero]; first | done | rfl, ?_⟩
                  refine FinS.cons ?_; rintro _ rfl; refine ⟨_, by simp only [Act.put, List.setIfInBounds_toArray, List.set_cons_succ, List.set_cons_zero]; first | done | rfl, ?_⟩
                  refine FinS.cons ?_; rintro _ rfl; refine ⟨_, by simp only [Act.put, List.setIfInBounds_toArray, List.set_cons_succ, List.set_cons_zero]; first | done | rfl, ?_⟩
                  refine FinS.cons ?_; rintro _ rfl; refine ⟨_, by simp only [Act.put, List.setIfInBounds_toArray, List.set_cons_succ, List.set_cons_zero]; first | done | rfl, ?_⟩
                  refine FinS.cons ?_; rintro _ rfl; refine ⟨_, by simp only [Act.put, List.setIfInBounds_toArray, List.set_cons_succ, List.set_cons_zero]; first | done | rfl, ?_⟩
                  refine FinS.cons ?_; rintro _ rfl; refine ⟨_, by simp only [Act.put, List.setIfInBounds_toArray, List.set_cons_succ, List.set_cons_zero]; first | done | rfl, ?_⟩
                  refine FinS.cons ?_; rintro _ rfl; refine ⟨_, by simp only [Act.put, List.setIfInBounds_toArray, List.set_cons_succ, List.set_cons_zero]; first | done | rfl, ?_⟩
                  refine FinS.cons ?_; rintro _ rfl; refine ⟨_, by simp only [Act.put, List.setIfInBounds_toArray, List.set_cons_succ, List.set_cons_zero]; first | done | rfl, ?_⟩
                  refine FinS.cons ?_; rintro _ rfl; refine ⟨_, by simp only [Act.put, List.setIfInBounds_toArray, List.set_cons_succ, List.set_cons_zero]; first | done | rfl, ?_⟩
                  refine FinS.cons ?_; rintro _ rfl; refine ⟨_, by simp only [Act.put, List.setIfInBounds_toArray, List.set_cons_succ, List.set_cons_zero]; first | done | rfl, ?_⟩
                  refine FinS.cons ?_; rintro _ rfl; refine ⟨_, by simp only [Act.put, List.setIfInBounds_toArray, List.set_cons_succ, List.set_cons_zero]; first | done | rfl, ?_⟩
                  refine FinS.cons ?_; rintro _ rfl; refine ⟨_, by simp only [Act.put, List.setIfInBounds_toArray, List.set_cons_succ, List.set_cons_zero]; first | done | rfl, ?_⟩
                  refine FinS.cons ?_; rintro _ rfl; refine ⟨_, by simp only [Act.put, List.setIfInBounds_toArray, List.set_cons_succ, List.set_cons_zero]; first | done | rfl, ?_⟩
                  refine FinS.cons ?_; rintro _ rfl; refine ⟨_, by simp only [Act.put, List.setIfInBounds_toArray, List.set_cons_succ, List.set_cons_zero]; first | done | rfl, ?_⟩
                  first | show Exit.then _ _ _ _ _ | show Exit.inBlock _ _ _ _ _
                  go_wp2
                  go_roundw
                  case rel => first | exact ⟨q + 1, by omega, by go_num, hgT0.trans hwT.drew⟩ | ((repeat apply Exists.intro); exact ⟨⟨q + 1, by omega, by go_num, hgT0.trans hwT.drew⟩, rfl⟩)
                  case measure => simp [intOf]; omega
                | false =>
                  rw [hA] at hna'
                  cases hB : namesB b (q : Int) with
                  | true =>
                    rw [hB] at hnb'
                    clear hA hB
                    go_wp2_with fail
                    refine wp_region_stable Grow [IsV (.func (.func 16) #[] #[]), IsV (.agg #[.int .i64 a.k, .int .i64 a.n, .int .i64 a.m, .slice p1 p2 p3]), IsV (.int .i64 q), IsV (.bool false), IsV (.bool true), IsV (.bool true), IsV (.func (.func 16) #[] #[]), IsV (.agg #[.int .i64 b.k, .int .i64 b.n, .int .i64 b.m, .slice q1 q2 q3]), IsV (.int .i64 q), IsV (.bool true), IsV (.bool false), IsV (.bool false), IsV (.bool false), IsV (undef), IsV (undef), IsV (undef), IsV (undef), IsV (undef), IsV (undef), IsV (undef), IsV (undef), IsV (undef), IsV (undef), IsV (undef), IsV (.bool false)] (by kernel_rfl) (by kernel_rfl) rfl Grow.refl (fun _ _ _ => Grow.trans) ?_ ?_ ?_
                    · repeat (refine List.forall_mem_cons.2 ⟨by first | exact IsV.stable _, ?_⟩)
                      exact fun R hR => nomatch hR
                    · skip
                      refine StepsS.cons ?_ fun v0 => ⟨_, _, by simp only [Act.put, List.setIfInBounds_toArray, List.set_cons_succ, List.set_cons_zero]; first | done | rfl, by simp only [List.nil_append]; first | done | rfl, ?_⟩
                      · intro w1 hE hd
                        clear hd
                        go_wp2
                        exact ⟨_, rfl, Grow.refl _, rfl⟩
                      refine StepsS.cons ?_ fun v1 => ⟨_, _, by simp only [Act.put, List.setIfInBounds_toArray, List.set_cons_succ, List.set_cons_zero]; first | done | rfl, by simp only [List.nil_append, List.cons_append]; first | done | rfl, ?_⟩
                      · intro w1 hE hd
                        clear hd
                        have q0 := hE.drew.at a0
                        have q1 := hE.drew.at a1
                        have q2 := hE.drew.at a2
                        have q3 := hE.drew.at a3
                        go_wp2
                        exact ⟨_, rfl, Grow.refl _, rfl⟩
                      refine StepsS.cons ?_ fun v2 => ⟨_, _, by simp only [Act.put, List.setIfInBounds_toArray, List.set_cons_succ, List.set_cons_zero]; first | done | rfl, by simp only [List.nil_append, List.cons_append]; first | done | rfl, ?_⟩
                      · intro w1 hE hd
                        clear hd
                        go_wp2
                        exact ⟨_, rfl, Grow.refl _, rfl⟩
                      refine StepsS.cons ?_ fun v3 => ⟨_, _, by simp only [Act.put, List.setIfInBounds_toArray, List.set_cons_succ, List.set_cons_zero]; first | done | rfl, by simp only [List.nil_append, List.cons_append]; first | done | rfl, ?_⟩
                      · intro w1 hE hd
                        obtain rfl := IsV.eq (dep_at hd 0 rfl rfl rfl)
                        obtain rfl := IsV.eq (dep_at hd 1 rfl rfl rfl)
                        obtain rfl := IsV.eq (dep_at hd 2 rfl rfl rfl)
                        clear hd
                        go_wp2_with fail
                        refine (hna' _ (hgT.trans hE.drew)).mono ?_
                        rintro e w4 ⟨rfl, hg4⟩
                        go_wp2_with fail
                        exact ⟨_, rfl, hg4, rfl⟩
                      refine StepsS.cons ?_ fun v4 => ⟨_, _, by simp only [Act.put, List.setIfInBounds_toArray, List.set_cons_succ, List.set_cons_zero]; first | done | rfl, by simp only [List.nil_append, List.cons_append]; first | done | rfl, ?_⟩
                      · intro w1 hE hd
                        obtain rfl := IsV.eq (dep_at hd 0 rfl rfl rfl)
                        clear hd
                        go_wp2
                        exact ⟨_, rfl, Grow.refl _, rfl⟩
                      refine StepsS.cons ?_ fun v5 => ⟨_, _, by simp only [Act.put, List.setIfInBounds_toArray, List.set_cons_succ, List.set_cons_zero]; first | done | rfl, by simp only [List.nil_append, List.cons_append]; first | done | rfl, ?_⟩
                      · intro w1 hE hd
                        obtain rfl := IsV.eq (dep_at hd 0 rfl rfl rfl)
                        clear hd
                        go_wp2
                        exact ⟨_, rfl, Grow.refl _, rfl⟩
                      refine StepsS.cons ?_ fun v6 => ⟨_, _, by simp only [Act.put, List.setIfInBounds_toArray, List.set_cons_succ, List.set_cons_zero]; first | done | rfl, by simp only [List.nil_append, List.cons_append]; first | done | rfl, ?_⟩
                      · intro w1 hE hd
                        obtain rfl := IsV.eq (dep_at hd 0 rfl rfl rfl)
                        clear hd
                        go_wp2
                        exact ⟨_, rfl, Grow.refl _, rfl⟩
                      refine StepsS.cons ?_ fun v7 => ⟨_, _, by simp only [Act.put, List.setIfInBounds_toArray, List.set_cons_succ, List.set_cons_zero]; first | done | rfl, by simp only [List.nil_append, List.cons_append]; first | done | rfl, ?_⟩
                      · intro w1 hE hd
                        obtain rfl := IsV.eq (dep_at hd 0 rfl rfl rfl)
                        clear hd
                        have q0 := hE.drew.at b0
                        have q1 := hE.drew.at b1
                        have q2 := hE.drew.at b2
                        have q3 := hE.drew.at b3
                        go_wp2
                        exact ⟨_, rfl, Grow.refl _, rfl⟩
                      refine StepsS.cons ?_ fun v8 => ⟨_, _, by simp only [Act.put, List.setIfInBounds_toArray, List.set_cons_succ, List.set_cons_zero]; first | done | rfl, by simp only [List.nil_append, List.cons_append]; first | done | rfl, ?_⟩
                      · intro w1 hE hd
                        obtain rfl := IsV.eq (dep_at hd 0 rfl rfl rfl)
                        clear hd
                        go_wp2
                        exact ⟨_, rfl, Grow.refl _, rfl⟩
                      refine StepsS.cons ?_ fun v9 => ⟨_, _, by simp only [Act.put, List.setIfInBounds_toArray, List.set_cons_succ, List.set_cons_zero]; first | done | rfl, by simp only [List.nil_append, List.cons_append]; first | done | rfl, ?_⟩
                      · intro w1 hE hd
                        obtain rfl := IsV.eq (dep_at hd 0 rfl rfl rfl)
                        obtain rfl := IsV.eq (dep_at hd 1 rfl rfl rfl)
                        obtain rfl := IsV.eq (dep_at hd 2 rfl rfl rfl)
                        obtain rfl := IsV.eq (dep_at hd 3 rfl rfl rfl)
                        clear hd
                        go_wp2_with fail
                        refine (hnb' _ (hgT.trans hE.drew)).mono ?_
                        rintro e w4 ⟨rfl, hg4⟩
                        go_wp2_with fail
                        exact ⟨_, rfl, hg4, rfl⟩
                      refine StepsS.cons ?_ fun v10 => ⟨_, _, by simp only [Act.put, List.setIfInBounds_toArray, List.set_cons_succ, List.set_cons_zero]; first | done | rfl, by simp only [List.nil_append, List.cons_append]; first | done | rfl, ?_⟩
                      · intro w1 hE hd
                        obtain rfl := IsV.eq (dep_at hd 0 rfl rfl rfl)
                        obtain rfl := IsV.eq (dep_at hd 1 rfl rfl rfl)
                        clear hd
                        go_wp2
                        exact ⟨_, rfl, Grow.refl _, rfl⟩
                      refine StepsS.cons ?_ fun v11 => ⟨_, _, by simp only [Act.put, List.setIfInBounds_toArray, List.set_cons_succ, List.set_cons_zero]; first | done | rfl, by simp only [List.nil_append, List.cons_append]; first | done | rfl, ?_⟩
                      · intro w1 hE hd
                        obtain rfl := IsV.eq (dep_at hd 0 rfl rfl rfl)
                        obtain rfl := IsV.eq (dep_at hd 1 rfl rfl rfl)
                        clear hd
                        go_wp2
                        exact ⟨_, rfl, Grow.refl _, rfl⟩
                      refine StepsS.cons ?_ fun v12 => ⟨_, _, by simp only [Act.put, List.setIfInBounds_toArray, List.set_cons_succ, List.set_cons_zero]; first | done | rfl, by simp only [List.nil_append, List.cons_append]; first | done | rfl, ?_⟩
                      · intro w1 hE hd
                        obtain rfl := IsV.eq (dep_at hd 0 rfl rfl rfl)
                        clear hd
                        go_wp2
                        exact ⟨_, rfl, Grow.refl _, rfl⟩
                      refine StepsS.cons ?_ fun v13 => ⟨_, _, by simp only [Act.put, List.setIfInBounds_toArray, List.set_cons_succ, List.set_cons_zero]; first | done | rfl, by simp only [List.nil_append, List.cons_append]; first | done | rfl, ?_⟩
                      · intro w1 hE hd
                        obtain rfl := IsV.eq (dep_at hd 0 rfl rfl rfl)
                        clear hd
                        go_wp2
                        exact ⟨_, rfl, Grow.refl _, rfl⟩
                      refine StepsS.cons ?_ fun v14 => ⟨_, _, by simp only [Act.put, List.setIfInBounds_toArray, List.set_cons_succ, List.set_cons_zero]; first | done | rfl, by simp only [List.nil_append, List.cons_append]; first | done | rfl, ?_⟩
                      · intro w1 hE hd
                        obtain rfl := IsV.eq (dep_at hd 0 rfl rfl rfl)
                        clear hd
                        go_wp2
                        exact ⟨_, rfl, Grow.refl _, rfl⟩
                      refine StepsS.cons ?_ fun v15 => ⟨_, _, by simp only [Act.put, List.setIfInBounds_toArray, List.set_cons_succ, List.set_cons_zero]; first | done | rfl, by simp only [List.nil_append, List.cons_append]; first | done | rfl, ?_⟩
                      · intro w1 hE hd
                        obtain rfl := IsV.eq (dep_at hd 0 rfl rfl rfl)
                        obtain rfl := IsV.eq (dep_at hd 1 rfl rfl rfl)
                        obtain rfl := IsV.eq (dep_at hd 2 rfl rfl rfl)
                        clear hd
                        go_wp2
                        exact ⟨_, rfl, Grow.refl _, rfl⟩
                      refine StepsS.cons ?_ fun v16 => ⟨_, _, by simp only [Act.put, List.setIfInBounds_toArray, List.set_cons_succ, List.set_cons_zero]; first | done | rfl, by simp only [List.nil_append, List.cons_append]; first | done | rfl, ?_⟩
                      · intro w1 hE hd
                        obtain rfl := IsV.eq (dep_at hd 0 rfl rfl rfl)
                        obtain rfl := IsV.eq (dep_at hd 1 rfl rfl rfl)
                        clear hd
                        go_wp2
                        exact ⟨_, rfl, Grow.refl _, rfl⟩
                      refine StepsS.cons ?_ fun v17 => ⟨_, _, by simp only [Act.put, List.setIfInBounds_toArray, List.set_cons_succ, List.set_cons_zero]; first | done | rfl, by simp only [List.nil_append, List.cons_append]; first | done | rfl, ?_⟩
                      · intro w1 hE hd
                        obtain rfl := IsV.eq (dep_at hd 0 rfl rfl rfl)
                        obtain rfl := IsV.eq (dep_at hd 1 rfl rfl rfl)
                        clear hd
                        go_wp2
                        exact ⟨_, rfl, Grow.refl _, rfl⟩
                      refine StepsS.cons ?_ fun v18 => ⟨_, _, by simp only [Act.put, List.setIfInBounds_toArray, List.set_cons_succ, List.set_cons_zero]; first | done | rfl, by simp only [List.nil_append, List.cons_append]; first | done | rfl, ?_⟩
                      · intro w1 hE hd
                        obtain rfl := IsV.eq (dep_at hd 0 rfl rfl rfl)
                        clear hd
                        go_wp2
                        exact ⟨_, rfl, Grow.refl _, rfl⟩
                      refine StepsS.cons ?_ fun v19 => ⟨_, _, by simp only [Act.put, List.setIfInBounds_toArray, List.set_cons_succ, List.set_cons_zero]; first | done | rfl, by simp only [List.nil_append, List.cons_append]; first | done | rfl, ?_⟩
                      · intro w1 hE hd
                        obtain rfl := IsV.eq (dep_at hd 0 rfl rfl rfl)
                        clear hd
                        go_wp2
                        exact ⟨_, rfl, Grow.refl _, rfl⟩
                      refine StepsS.cons ?_ fun v20 => ⟨_, _, by simp only [Act.put, List.setIfInBounds_toArray, List.set_cons_succ, List.set_cons_zero]; first | done | rfl, by simp only [List.nil_append, List.cons_append]; first | done | rfl, ?_⟩
                      · intro w1 hE hd
                        obtain rfl := IsV.eq (dep_at hd 0 rfl rfl rfl)
                        obtain rfl := IsV.eq (dep_at hd 1 rfl rfl rfl)
                        obtain rfl := IsV.eq (dep_at hd 2 rfl rfl rfl)
                        clear hd
                        go_wp2
                        exact ⟨_, rfl, Grow.refl _, rfl⟩
                      refine StepsS.cons ?_ fun v21 => ⟨_, _, by simp only [Act.put, List.setIfInBounds_toArray, List.set_cons_succ, List.set_cons_zero]; first | done | rfl, by simp only [List.nil_append, List.cons_append]; first | done | rfl, ?_⟩
                      · intro w1 hE hd
                        obtain rfl := IsV.eq (dep_at hd 0 rfl rfl rfl)
                        obtain rfl := IsV.eq (dep_at hd 1 rfl rfl rfl)
                        clear hd
                        go_wp2
                        exact ⟨_, rfl, Grow.refl _, rfl⟩
                      refine StepsS.cons ?_ fun v22 => ⟨_, _, by simp only [Act.put, List.setIfInBounds_toArray, List.set_cons_succ, List.set_cons_zero]; first | done | rfl, by simp only [List.nil_append, List.cons_append]; first | done | rfl, ?_⟩
                      · intro w1 hE hd
                        obtain rfl := IsV.eq (dep_at hd 0 rfl rfl rfl)
                        obtain rfl := IsV.eq (dep_at hd 1 rfl rfl rfl)
                        clear hd
                        go_wp2
                        exact ⟨_, rfl, Grow.refl _, rfl⟩
                      refine StepsS.cons ?_ fun v23 => ⟨_, _, by simp only [Act.put, List.setIfInBounds_toArray, List.set_cons_succ, List.set_cons_zero]; first | done | rfl, by simp only [List.nil_append, List.cons_append]; first | done | rfl, ?_⟩
                      · intro w1 hE hd
                        obtain rfl := IsV.eq (dep_at hd 0 rfl rfl rfl)
                        obtain rfl := IsV.eq (dep_at hd 1 rfl rfl rfl)
                        obtain rfl := IsV.eq (dep_at hd 2 rfl rfl rfl)
                        clear hd
                        go_wp2
                        exact ⟨_, rfl, Grow.refl _, rfl⟩
                      refine StepsS.cons ?_ fun v24 => ⟨_, _, by simp only [Act.put, List.setIfInBounds_toArray, List.set_cons_succ, List.set_cons_zero]; first | done | rfl, by simp only [List.nil_append, List.cons_append]; first | done | rfl, ?_⟩
                      · intro w1 hE hd
                        obtain rfl := IsV.eq (dep_at hd 0 rfl rfl rfl)
                        obtain rfl := IsV.eq (dep_at hd 1 rfl rfl rfl)
                        clear hd
                        go_wp2
                        exact ⟨_, rfl, Grow.refl _, rfl⟩
                      trivial
                    intro wT hwT
                    refine FinS.cons ?_; rintro _ rfl; refine ⟨_, by simp only [Act.put, List.setIfInBounds_toArray, List.set_cons_succ, List.set_cons_zero]; first | done | rfl, ?_⟩
                    refine FinS.cons ?_; rintro _ rfl; refine ⟨_, by simp only [Act.put, List.setIfInBounds_toArray, List.set_cons_succ, List.set_cons_zero]; first | done | rfl, ?_⟩
                    refine FinS.cons ?_; rintro _ rfl; refine ⟨_, by simp only [Act.put, List.setIfInBounds_toArray, List.set_cons_succ, List.set_cons_zero]; first | done | rfl, ?_⟩
                    refine FinS.cons ?_; rintro _ rfl; refine ⟨_, by simp only [Act.put, List.setIfInBounds_toArray, List.set_cons_succ, List.set_cons_zero]; first | done | rfl, ?_⟩
                    refine FinS.cons ?_; rintro _ rfl; refine ⟨_, by simp only [Act.put, List.setIfInBounds_toArray, List.set_cons_succ, List.set_cons_zero]; first | done | rfl, ?_⟩
                    refine FinS.cons ?_; rintro _ rfl; refine ⟨_, by simp only [Act.put, List.setIfInBounds_toArray, List.set_cons_succ, List.set_cons_zero]; first | done | rfl, ?_⟩
                    refine FinS.cons ?_; rintro _ rfl; refine ⟨_, by simp only [Act.put, List.setIfInBounds_toArray, List.set_cons_succ, List.set_cons_zero]; first | done | rfl, ?_⟩
                    refine FinS.cons ?_; rintro _ rfl; refine ⟨_, by simp only [Act.put, List.setIfInBounds_toArray, List.set_cons_succ, List.set_cons_zero]; first | done | rfl, ?_⟩
                    refine FinS.cons ?_; rintro _ rfl; refine ⟨_, by simp only [Act.put, List.setIfInBounds_toArray, List.set_cons_succ, List.set_cons_zero]; first | done | rfl, ?_⟩
                    refine FinS.cons ?_; rintro _ rfl; refine ⟨_, by simp only [Act.put, List.setIfInBounds_toArray, List.set_cons_succ, List.set_cons_zero]; first | done | rfl, ?_⟩
                    refine FinS.cons ?_; rintro _ rfl; refine ⟨_, by simp only [Act.put, List.setIfInBounds_toArray, List.set_cons_succ, List.set_cons_zero]; first | done | rfl, ?_⟩
                    refine FinS.cons ?_; rintro _ rfl; refine ⟨_, by simp only [Act.put, List.setIfInBounds_toArray, List.set_cons_succ, List.set_cons_zero]; first | done | rfl, ?_⟩
                    refine FinS.cons ?_; rintro _ rfl; refine ⟨_, by simp only [Act.put, List.setIfInBounds_toArray, List.set_cons_succ, List.set_cons_zero]; first | done | rfl, ?_⟩
                    refine FinS.cons ?_; rintro _ rfl; refine ⟨_, by simp only [Act.put, List.setIfInBounds_toArray, List.set_cons_succ, List.set_cons_zero]; first | done | rfl, ?_⟩
                    refine FinS.cons ?_; rintro _ rfl; refine ⟨_, by simp only [Act.put, List.setIfInBounds_toArray, List.set_cons_succ, List.set_cons_zero]; first | done | rfl, ?_⟩
                    refine FinS.cons ?_; rintro _ rfl; refine ⟨_, by simp only [Act.put, List.setIfInBounds_toArray, List.set_cons_succ, List.set_cons_zero]; first | done | rfl, ?_⟩
                    refine FinS.cons ?_; rintro _ rfl; refine ⟨_, by simp only [Act.put, List.setIfInBounds_toArray, List.set_cons_succ, List.set_cons_zero]; first | done | rfl, ?_⟩
                    refine FinS.cons ?_; rintro _ rfl; refine ⟨_, by simp only [Act.put, List.setIfInBounds_toArray, List.set_cons_succ, List.set_cons_zero]; first | done | rfl, ?_⟩
                    refine FinS.cons ?_; rintro _ rfl; refine ⟨_, by simp only [Act.put, List.setIfInBounds_toArray, List.set_cons_succ, List.set_cons_zero]; first | done | rfl, ?_⟩
                    refine FinS.cons ?_; rintro _ rfl; refine ⟨_, by simp only [Act.put, List.setIfInBounds_toArray, List.set_cons_succ, List.set_cons_zero]; first | done | rfl, ?_⟩
                    refine FinS.cons ?_; rintro _ rfl; refine ⟨_, by simp only [Act.put, List.setIfInBounds_toArray, List.set_cons_succ, List.set_cons_zero]; first | done | rfl, ?_⟩
                    refine FinS.cons ?_; rintro _ rfl; refine ⟨_, by simp only [Act.put, List.setIfInBounds_toArray, List.set_cons_succ, List.set_cons_zero]; first | done | rfl, ?_⟩
                    refine FinS.cons ?_; rintro _ rfl; refine ⟨_, by simp only [Act.put, List.setIfInBounds_toArray, List.set_cons_succ, List.set_cons_zero]; first | done | rfl, ?_⟩
                    refine FinS.cons ?_; rintro _ rfl; refine ⟨_, by simp only [Act.put, List.setIfInBounds_toArray, List.set_cons_succ, List.set_cons_zero]; first | done | rfl, ?_⟩
                    refine FinS.cons ?_; rintro _ rfl; refine ⟨_, by simp only [Act.put, List.setIfInBounds_toArray, List.set_cons_succ, List.set_cons_zero]; first | done | rfl, ?_⟩
                    first | show Exit.then _ _ _ _ _ | show Exit.inBlock _ _ _ _ _
                    go_wp2
                    go_roundw
                    case rel => first | exact ⟨q + 1, by omega, by go_num, hgT0.trans hwT.drew⟩ | ((repeat apply Exists.intro); exact ⟨⟨q + 1, by omega, by go_num, hgT0.trans hwT.drew⟩, rfl⟩)
                    case measure => simp [intOf]; omega
                  | false =>
                    rw [hB] at hnb'
                    have hfr := Hfr.out q hq9 hA hB
                    obtain ⟨b', o', u, e1, hu, hub⟩ := (hX.grow hgT0).elem (k := q) (by rw [HlX.out]; exact hq9) []
                    cases e1
                    obtain ⟨b'', o'', t, e2, ht, htb⟩ := (hvS.grow hgT0).elem (k := q) (by rw [H9.out]; exact hq9) []
                    cases e2
                    obtain ⟨u1, u2, u3, rfl⟩ := hub.form
                    obtain ⟨t1, t2, t3, rfl⟩ := htb.form
                    rw [hfr] at hub
                    clear hA hB hfr
                    generalize ls.getD q [] = lq at *
                    go_wp2_with fail
                    refine wp_region_stable Grow [IsV (.func (.func 16) #[] #[]), IsV (.agg #[.int .i64 a.k, .int .i64 a.n, .int .i64 a.m, .slice p1 p2 p3]), IsV (.int .i64 q), IsV (.bool false), IsV (.bool true), IsV (.bool true), IsV (.func (.func 16) #[] #[]), IsV (.agg #[.int .i64 b.k, .int .i64 b.n, .int .i64 b.m, .slice q1 q2 q3]), IsV (.int .i64 q), IsV (.bool false), IsV (.bool true), IsV (.bool true), IsV (.bool true), IsV (.slice (some ⟨bx, ox, none⟩) 9 cx), IsV (.int .i64 q), IsV (.pointer (some ⟨bx, ox + q, none⟩)), IsV (.slice u1 u2 u3), IsV (.string (strOfNums (lq))), IsV (.slice (some ⟨by', oy, none⟩) 9 cv), IsV (.int .i64 q), IsV (.pointer (some ⟨by', oy + q, none⟩)), IsV (.slice t1 t2 t3), IsV (.string (strOfNums (lq))), IsV (.bool false), IsV (.bool false)] (by kernel_rfl) (by kernel_rfl) rfl Grow.refl (fun _ _ _ => Grow.trans) ?_ ?_ ?_
                    · repeat (refine List.forall_mem_cons.2 ⟨by first | exact IsV.stable _, ?_⟩)
                      exact fun R hR => nomatch hR
                    · skip
                      refine StepsS.cons ?_ fun v0 => ⟨_, _, by simp only [Act.put, List.setIfInBounds_toArray, List.set_cons_succ, List.set_cons_zero]; first | done | rfl, by simp only [List.nil_append]; first | done | rfl, ?_⟩
                      · intro w1 hE hd
                        clear hd
                        go_wp2
                        exact ⟨_, rfl, Grow.refl _, rfl⟩
                      refine StepsS.cons ?_ fun v1 => ⟨_, _, by simp only [Act.put, List.setIfInBounds_toArray, List.set_cons_succ, List.set_cons_zero]; first | done | rfl, by simp only [List.nil_append, List.cons_append]; first | done | rfl, ?_⟩
                      · intro w1 hE hd
                        clear hd
                        have q0 := hE.drew.at a0
                        have q1 := hE.drew.at a1
                        have q2 := hE.drew.at a2
                        have q3 := hE.drew.at a3
                        go_wp2
                        exact ⟨_, rfl, Grow.refl _, rfl⟩
                      refine StepsS.cons ?_ fun v2 => ⟨_, _, by simp only [Act.put, List.setIfInBounds_toArray, List.set_cons_succ, List.set_cons_zero]; first | done | rfl, by simp only [List.nil_append, List.cons_append]; first | done | rfl, ?_⟩
                      · intro w1 hE hd
                        clear hd
                        go_wp2
                        exact ⟨_, rfl, Grow.refl _, rfl⟩
                      refine StepsS.cons ?_ fun v3 => ⟨_, _, by simp only [Act.put, List.setIfInBounds_toArray, List.set_cons_succ, List.set_cons_zero]; first | done | rfl, by simp only [List.nil_append, List.cons_append]; first | done | rfl, ?_⟩
                      · intro w1 hE hd
                        obtain rfl := IsV.eq (dep_at hd 0 rfl rfl rfl)
                        obtain rfl := IsV.eq (dep_at hd 1 rfl rfl rfl)
                        obtain rfl := IsV.eq (dep_at hd 2 rfl rfl rfl)
                        clear hd
                        go_wp2_with fail
                        refine (hna' _ (hgT.trans hE.drew)).mono ?_
                        rintro e w4 ⟨rfl, hg4⟩
                        go_wp2_with fail
                        exact ⟨_, rfl, hg4, rfl⟩
                      refine StepsS.cons ?_ fun v4 => ⟨_, _, by simp only [Act.put, List.setIfInBounds_toArray, List.set_cons_succ, List.set_cons_zero]; first | done | rfl, by simp only [List.nil_append, List.cons_append]; first | done | rfl, ?_⟩
                      · intro w1 hE hd
                        obtain rfl := IsV.eq (dep_at hd 0 rfl rfl rfl)
                        clear hd
                        go_wp2
                        exact ⟨_, rfl, Grow.refl _, rfl⟩
                      refine StepsS.cons ?_ fun v5 => ⟨_, _, by simp only [Act.put, List.setIfInBounds_toArray, List.set_cons_succ, List.set_cons_zero]; first | done | rfl, by simp only [List.nil_append, List.cons_append]; first | done | rfl, ?_⟩
                      · intro w1 hE hd
                        obtain rfl := IsV.eq (dep_at hd 0 rfl rfl rfl)
                        clear hd
                        go_wp2
                        exact ⟨_, rfl, Grow.refl _, rfl⟩
                      refine StepsS.cons ?_ fun v6 => ⟨_, _, by simp only [Act.put, List.setIfInBounds_toArray, List.set_cons_succ, List.set_cons_zero]; first | done | rfl, by simp only [List.nil_append, List.cons_append]; first | done | rfl, ?_⟩
                      · intro w1 hE hd
                        obtain rfl := IsV.eq (dep_at hd 0 rfl rfl rfl)
                        clear hd
                        go_wp2
                        exact ⟨_, rfl, Grow.refl _, rfl⟩
                      refine StepsS.cons ?_ fun v7 => ⟨_, _, by simp only [Act.put, List.setIfInBounds_toArray, List.set_cons_succ, List.set_cons_zero]; first | done | rfl, by simp only [List.nil_append, List.cons_append]; first | done | rfl, ?_⟩
                      · intro w1 hE hd
                        obtain rfl := IsV.eq (dep_at hd 0 rfl rfl rfl)
                        clear hd
                        have q0 := hE.drew.at b0
                        have q1 := hE.drew.at b1
                        have q2 := hE.drew.at b2
                        have q3 := hE.drew.at b3
                        go_wp2
                        exact ⟨_, rfl, Grow.refl _, rfl⟩
                      refine StepsS.cons ?_ fun v8 => ⟨_, _, by simp only [Act.put, List.setIfInBounds_toArray, List.set_cons_succ, List.set_cons_zero]; first | done | rfl, by simp only [List.nil_append, List.cons_append]; first | done | rfl, ?_⟩
                      · intro w1 hE hd
                        obtain rfl := IsV.eq (dep_at hd 0 rfl rfl rfl)
                        clear hd
                        go_wp2
                        exact ⟨_, rfl, Grow.refl _, rfl⟩
                      refine StepsS.cons ?_ fun v9 => ⟨_, _, by simp only [Act.put, List.setIfInBounds_toArray, List.set_cons_succ, List.set_cons_zero]; first | done | rfl, by simp only [List.nil_append, List.cons_append]; first | done | rfl, ?_⟩
                      · intro w1 hE hd
                        obtain rfl := IsV.eq (dep_at hd 0 rfl rfl rfl)
                        obtain rfl := IsV.eq (dep_at hd 1 rfl rfl rfl)
                        obtain rfl := IsV.eq (dep_at hd 2 rfl rfl rfl)
                        obtain rfl := IsV.eq (dep_at hd 3 rfl rfl rfl)
                        clear hd
                        go_wp2_with fail
                        refine (hnb' _ (hgT.trans hE.drew)).mono ?_
                        rintro e w4 ⟨rfl, hg4⟩
                        go_wp2_with fail
                        exact ⟨_, rfl, hg4, rfl⟩
                      refine StepsS.cons ?_ fun v10 => ⟨_, _, by simp only [Act.put, List.setIfInBounds_toArray, List.set_cons_succ, List.set_cons_zero]; first | done | rfl, by simp only [List.nil_append, List.cons_append]; first | done | rfl, ?_⟩
                      · intro w1 hE hd
                        obtain rfl := IsV.eq (dep_at hd 0 rfl rfl rfl)
                        obtain rfl := IsV.eq (dep_at hd 1 rfl rfl rfl)
                        clear hd
                        go_wp2
                        exact ⟨_, rfl, Grow.refl _, rfl⟩
                      refine StepsS.cons ?_ fun v11 => ⟨_, _, by simp only [Act.put, List.setIfInBounds_toArray, List.set_cons_succ, List.set_cons_zero]; first | done | rfl, by simp only [List.nil_append, List.cons_append]; first | done | rfl, ?_⟩
                      · intro w1 hE hd
                        obtain rfl := IsV.eq (dep_at hd 0 rfl rfl rfl)
                        obtain rfl := IsV.eq (dep_at hd 1 rfl rfl rfl)
                        clear hd
                        go_wp2
                        exact ⟨_, rfl, Grow.refl _, rfl⟩
                      refine StepsS.cons ?_ fun v12 => ⟨_, _, by simp only [Act.put, List.setIfInBounds_toArray, List.set_cons_succ, List.set_cons_zero]; first | done | rfl, by simp only [List.nil_append, List.cons_append]; first | done | rfl, ?_⟩
                      · intro w1 hE hd
                        obtain rfl := IsV.eq (dep_at hd 0 rfl rfl rfl)
                        clear hd
                        go_wp2
                        exact ⟨_, rfl, Grow.refl _, rfl⟩
                      refine StepsS.cons ?_ fun v13 => ⟨_, _, by simp only [Act.put, List.setIfInBounds_toArray, List.set_cons_succ, List.set_cons_zero]; first | done | rfl, by simp only [List.nil_append, List.cons_append]; first | done | rfl, ?_⟩
                      · intro w1 hE hd
                        obtain rfl := IsV.eq (dep_at hd 0 rfl rfl rfl)
                        clear hd
                        go_wp2
                        exact ⟨_, rfl, Grow.refl _, rfl⟩
                      refine StepsS.cons ?_ fun v14 => ⟨_, _, by simp only [Act.put, List.setIfInBounds_toArray, List.set_cons_succ, List.set_cons_zero]; first | done | rfl, by simp only [List.nil_append, List.cons_append]; first | done | rfl, ?_⟩
                      · intro w1 hE hd
                        obtain rfl := IsV.eq (dep_at hd 0 rfl rfl rfl)
                        clear hd
                        go_wp2
                        exact ⟨_, rfl, Grow.refl _, rfl⟩
                      refine StepsS.cons ?_ fun v15 => ⟨_, _, by simp only [Act.put, List.setIfInBounds_toArray, List.set_cons_succ, List.set_cons_zero]; first | done | rfl, by simp only [List.nil_append, List.cons_append]; first | done | rfl, ?_⟩
                      · intro w1 hE hd
                        obtain rfl := IsV.eq (dep_at hd 0 rfl rfl rfl)
                        obtain rfl := IsV.eq (dep_at hd 1 rfl rfl rfl)
                        obtain rfl := IsV.eq (dep_at hd 2 rfl rfl rfl)
                        clear hd
                        go_wp2
                        exact ⟨_, rfl, Grow.refl _, rfl⟩
                      refine StepsS.cons ?_ fun v16 => ⟨_, _, by simp only [Act.put, List.setIfInBounds_toArray, List.set_cons_succ, List.set_cons_zero]; first | done | rfl, by simp only [List.nil_append, List.cons_append]; first | done | rfl, ?_⟩
                      · intro w1 hE hd
                        obtain rfl := IsV.eq (dep_at hd 0 rfl rfl rfl)
                        obtain rfl := IsV.eq (dep_at hd 1 rfl rfl rfl)
                        clear hd
                        have qq := hE.drew.at hu
                        go_wp2
                        exact ⟨_, rfl, Grow.refl _, rfl⟩
                      refine StepsS.cons ?_ fun v17 => ⟨_, _, by simp only [Act.put, List.setIfInBounds_toArray, List.set_cons_succ, List.set_cons_zero]; first | done | rfl, by simp only [List.nil_append, List.cons_append]; first | done | rfl, ?_⟩
                      · intro w1 hE hd
                        obtain rfl := IsV.eq (dep_at hd 0 rfl rfl rfl)
                        obtain rfl := IsV.eq (dep_at hd 1 rfl rfl rfl)
                        clear hd
                        have hcv := run_convert_bs (P := Try.prog) 23 5 9 Try.underlying23 Try.underlying5 Try.underlying9 (hub.grow hE.drew)
                        go_wp2
                        exact ⟨_, rfl, Grow.refl _, rfl⟩
                      refine StepsS.cons ?_ fun v18 => ⟨_, _, by simp only [Act.put, List.setIfInBounds_toArray, List.set_cons_succ, List.set_cons_zero]; first | done | rfl, by simp only [List.nil_append, List.cons_append]; first | done | rfl, ?_⟩
                      · intro w1 hE hd
                        obtain rfl := IsV.eq (dep_at hd 0 rfl rfl rfl)
                        clear hd
                        go_wp2
                        exact ⟨_, rfl, Grow.refl _, rfl⟩
                      refine StepsS.cons ?_ fun v19 => ⟨_, _, by simp only [Act.put, List.setIfInBounds_toArray, List.set_cons_succ, List.set_cons_zero]; first | done | rfl, by simp only [List.nil_append, List.cons_append]; first | done | rfl, ?_⟩
                      · intro w1 hE hd
                        obtain rfl := IsV.eq (dep_at hd 0 rfl rfl rfl)
                        clear hd
                        go_wp2
                        exact ⟨_, rfl, Grow.refl _, rfl⟩
                      refine StepsS.cons ?_ fun v20 => ⟨_, _, by simp only [Act.put, List.setIfInBounds_toArray, List.set_cons_succ, List.set_cons_zero]; first | done | rfl, by simp only [List.nil_append, List.cons_append]; first | done | rfl, ?_⟩
                      · intro w1 hE hd
                        obtain rfl := IsV.eq (dep_at hd 0 rfl rfl rfl)
                        obtain rfl := IsV.eq (dep_at hd 1 rfl rfl rfl)
                        obtain rfl := IsV.eq (dep_at hd 2 rfl rfl rfl)
                        clear hd
                        go_wp2
                        exact ⟨_, rfl, Grow.refl _, rfl⟩
                      refine StepsS.cons ?_ fun v21 => ⟨_, _, by simp only [Act.put, List.setIfInBounds_toArray, List.set_cons_succ, List.set_cons_zero]; first | done | rfl, by simp only [List.nil_append, List.cons_append]; first | done | rfl, ?_⟩
                      · intro w1 hE hd
                        obtain rfl := IsV.eq (dep_at hd 0 rfl rfl rfl)
                        obtain rfl := IsV.eq (dep_at hd 1 rfl rfl rfl)
                        clear hd
                        have qq := hE.drew.at ht
                        go_wp2
                        exact ⟨_, rfl, Grow.refl _, rfl⟩
                      refine StepsS.cons ?_ fun v22 => ⟨_, _, by simp only [Act.put, List.setIfInBounds_toArray, List.set_cons_succ, List.set_cons_zero]; first | done | rfl, by simp only [List.nil_append, List.cons_append]; first | done | rfl, ?_⟩
                      · intro w1 hE hd
                        obtain rfl := IsV.eq (dep_at hd 0 rfl rfl rfl)
                        obtain rfl := IsV.eq (dep_at hd 1 rfl rfl rfl)
                        clear hd
                        have hcv := run_convert_bs (P := Try.prog) 23 5 9 Try.underlying23 Try.underlying5 Try.underlying9 (htb.grow hE.drew)
                        go_wp2
                        exact ⟨_, rfl, Grow.refl _, rfl⟩
                      refine StepsS.cons ?_ fun v23 => ⟨_, _, by simp only [Act.put, List.setIfInBounds_toArray, List.set_cons_succ, List.set_cons_zero]; first | done | rfl, by simp only [List.nil_append, List.cons_append]; first | done | rfl, ?_⟩
                      · intro w1 hE hd
                        obtain rfl := IsV.eq (dep_at hd 0 rfl rfl rfl)
                        obtain rfl := IsV.eq (dep_at hd 1 rfl rfl rfl)
                        obtain rfl := IsV.eq (dep_at hd 2 rfl rfl rfl)
                        clear hd
                        go_wp2
                        exact ⟨_, rfl, Grow.refl _, rfl⟩
                      refine StepsS.cons ?_ fun v24 => ⟨_, _, by simp only [Act.put, List.setIfInBounds_toArray, List.set_cons_succ, List.set_cons_zero]; first | done | rfl, by simp only [List.nil_append, List.cons_append]; first | done | rfl, ?_⟩
                      · intro w1 hE hd
                        obtain rfl := IsV.eq (dep_at hd 0 rfl rfl rfl)
                        obtain rfl := IsV.eq (dep_at hd 1 rfl rfl rfl)
                        clear hd
                        go_wp2
                        exact ⟨_, rfl, Grow.refl _, rfl⟩
                      trivial
                    intro wT hwT
                    refine FinS.cons ?_; rintro _ rfl; refine ⟨_, by simp only [Act.put, List.setIfInBounds_toArray, List.set_cons_succ, List.set_cons_zero]; first | done | rfl, ?_⟩
                    refine FinS.cons ?_; rintro _ rfl; refine ⟨_, by simp only [Act.put, List.setIfInBounds_toArray, List.set_cons_succ, List.set_cons_zero]; first | done | rfl, ?_⟩
                    refine FinS.cons ?_; rintro _ rfl; refine ⟨_, by simp only [Act.put, List.setIfInBounds_toArray, List.set_cons_succ, List.set_cons_zero]; first | done | rfl, ?_⟩
                    refine FinS.cons ?_; rintro _ rfl; refine ⟨_, by simp only [Act.put, List.setIfInBounds_toArray, List.set_cons_succ, List.set_cons_zero]; first | done | rfl, ?_⟩
                    refine FinS.cons ?_; rintro _ rfl; refine ⟨_, by simp only [Act.put, List.setIfInBounds_toArray, List.set_cons_succ, List.set_cons_zero]; first | done | rfl, ?_⟩
                    refine FinS.cons ?_; rintro _ rfl; refine ⟨_, by simp only [Act.put, List.setIfInBounds_toArray, List.set_cons_succ, List.set_cons_zero]; first | done | rfl, ?_⟩
                    refine FinS.cons ?_; rintro _ rfl; refine ⟨_, by simp only [Act.put, List.setIfInBounds_toArray, List.set_cons_succ, List.set_cons_zero]; first | done | rfl, ?_⟩
                    refine FinS.cons ?_; rintro _ rfl; refine ⟨_, by simp only [Act.put, List.setIfInBounds_toArray, List.set_cons_succ, List.set_cons_zero]; first | done | rfl, ?_⟩
                    refine FinS.cons ?_; rintro _ rfl; refine ⟨_, by simp only [Act.put, List.setIfInBounds_toArray, List.set_cons_succ, List.set_cons_zero]; first | done | rfl, ?_⟩
                    refine FinS.cons ?_; rintro _ rfl; refine ⟨_, by simp only [Act.put, List.setIfInBounds_toArray, List.set_cons_succ, List.set_cons_zero]; first | done | rfl, ?_⟩
                    refine FinS.cons ?_; rintro _ rfl; refine ⟨_, by simp only [Act.put, List.setIfInBounds_toArray, List.set_cons_succ, List.set_cons_zero]; first | done | rfl, ?_⟩
                    refine FinS.cons ?_; rintro _ rfl; refine ⟨_, by simp only [Act.put, List.setIfInBounds_toArray, List.set_cons_succ, List.set_cons_zero]; first | done | rfl, ?_⟩
                    refine FinS.cons ?_; rintro _ rfl; refine ⟨_, by simp only [Act.put, List.setIfInBounds_toArray, List.set_cons_succ, List.set_cons_zero]; first | done | rfl, ?_⟩
                    refine FinS.cons ?_; rintro _ rfl; refine ⟨_, by simp only [Act.put, List.setIfInBounds_toArray, List.set_cons_succ, List.set_cons_zero]; first | done | rfl, ?_⟩
                    refine FinS.cons ?_; rintro _ rfl; refine ⟨_, by simp only [Act.put, List.setIfInBounds_toArray, List.set_cons_succ, List.set_cons_zero]; first | done | rfl, ?_⟩
                    refine FinS.cons ?_; rintro _ rfl; refine ⟨_, by simp only [Act.put, List.setIfInBounds_toArray, List.set_cons_succ, List.set_cons_zero]; first | done | rfl, ?_⟩
                    refine FinS.cons ?_; rintro _ rfl; refine ⟨_, by simp only [Act.put, List.setIfInBounds_toArray, List.set_cons_succ, List.set_cons_zero]; first | done | rfl, ?_⟩
                    refine FinS.cons ?_; rintro _ rfl; refine ⟨_, by simp only [Act.put, List.setIfInBounds_toArray, List.set_cons_succ, List.set_cons_zero]; first | done | rfl, ?_⟩
                    refine FinS.cons ?_; rintro _ rfl; refine ⟨_, by simp only [Act.put, List.setIfInBounds_toArray, List.set_cons_succ, List.set_cons_zero]; first | done | rfl, ?_⟩
                    refine FinS.cons ?_; rintro _ rfl; refine ⟨_, by simp only [Act.put, List.setIfInBounds_toArray, List.set_cons_succ, List.set_cons_zero]; first | done | rfl, ?_⟩
                    refine FinS.cons ?_; rintro _ rfl; refine ⟨_, by simp only [Act.put, List.setIfInBounds_toArray, List.set_cons_succ, List.set_cons_zero]; first | done | rfl, ?_⟩
                    refine FinS.cons ?_; rintro _ rfl; refine ⟨_, by simp only [Act.put, List.setIfInBounds_toArray, List.set_cons_succ, List.set_cons_zero]; first | done | rfl, ?_⟩
                    refine FinS.cons ?_; rintro _ rfl; refine ⟨_, by simp only [Act.put, List.setIfInBounds_toArray, List.set_cons_succ, List.set_cons_zero]; first | done | rfl, ?_⟩
                    refine FinS.cons ?_; rintro _ rfl; refine ⟨_, by simp only [Act.put, List.setIfInBounds_toArray, List.set_cons_succ, List.set_cons_zero]; first | done | rfl, ?_⟩
                    refine FinS.cons ?_; rintro _ rfl; refine ⟨_, by simp only [Act.put, List.setIfInBounds_toArray, List.set_cons_succ, List.set_cons_zero]; first | done | rfl, ?_⟩
                    first | show Exit.then _ _ _ _ _ | show Exit.inBlock _ _ _ _ _
                    go_wp2
                    go_roundw
                    case rel => first | exact ⟨q + 1, by omega, by go_num, hgT0.trans hwT.drew⟩ | ((repeat apply Exists.intro); exact ⟨⟨q + 1, by omega, by go_num, hgT0.trans hwT.drew⟩, rfl⟩)
                    case measure => simp [intOf]; omega
              · have hs' := hs _ hgT0
                clear a0 a1 a2 a3 b0 b1 b2 b3
                go_wp2_with fail
                refine hs'.mono ?_
                rintro e w6 ⟨rfl, hg6⟩
                go_wp2
                go_ret
                exact ⟨rfl, (hgW.trans hgT).trans hg6⟩
      · clear hvW hdaW hdbW h9 h4 hna hnb
        rw [ha0] at hwa
        generalize wrongE b = E at *
        have hE' : (E != 0) = true := by simpa using hb0
        generalize ls.length = nl at *
        go_enter Try.func3, Try.ntmps3
        go_wp2_with fail
        rw [← hW]
        refine (alive5_any _).mono ?_
        rintro e w1 ⟨rfl, hg1⟩
        clear hW
        have a0 := hg1.at k0
        have a1 := hg1.at k1
        have a2 := hg1.at k2
        have a3 := hg1.at k3
        go_wp2_with fail
        refine (hR _ hg1).mono ?_
        rintro e w2 ⟨rfl, hw2⟩
        subst hw2
        go_wp2_with fail
        refine (hwa _ hg1).mono ?_
        rintro e w3 ⟨rfl, hg3⟩
        have hg13 := hg1.trans hg3
        have b0 := hg13.at j0
        have b1 := hg13.at j1
        have b2 := hg13.at j2
        have b3 := hg13.at j3
        clear a0 a1 a2 a3
        go_wp2_with fail
        refine (hwb _ hg13).mono ?_
        rintro e w4 ⟨rfl, hg4⟩
        go_wp2
        go_ret
        exact ⟨rfl, (hgW.trans hg13).trans hg4⟩
    · clear hvW hdaW hdbW h9 h4 hna hnb
      generalize wrongE a = E at *
      have hE' : (E != 0) = true := by simpa using ha0
      generalize ls.length = nl at *
      go_enter Try.func3, Try.ntmps3
      go_wp2_with fail
      rw [← hW]
      refine (alive5_any _).mono ?_
      rintro e w1 ⟨rfl, hg1⟩
      clear hW
      have a0 := hg1.at k0
      have a1 := hg1.at k1
      have a2 := hg1.at k2
      have a3 := hg1.at k3
      go_wp2_with fail
      refine (hR _ hg1).mono ?_
      rintro e w2 ⟨rfl, hw2⟩
      subst hw2
      go_wp2_with fail
      refine (hwa _ hg1).mono ?_
      rintro e w3 ⟨rfl, hg3⟩
      go_wp2
      go_ret
      exact ⟨rfl, (hgW.trans hg1).trans hg3⟩

end Go.Proofs.Ytjggiameajndgab
