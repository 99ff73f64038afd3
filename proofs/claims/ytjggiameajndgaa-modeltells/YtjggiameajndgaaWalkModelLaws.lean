/-
  Chapter 5's statements, walked over what the program's model returns.
-/
import Derived.Test.YtjggiameajndgaaWalkModel
import Derived.Test.YtjggiameajndgaaWalkCellByte
import Derived.Test.YtjggiameajndgaaHeaps
namespace Go.Proofs.Ytjggiameajndgaa
open Go.RowKit

/-- A slice of slices of bytes. -/
def AnBss (ls : List (List Int)) (v : Value) (w : World) : Prop := Bss w v ls
theorem AnBss.stable (ls : List (List Int)) : ∀ (v : Value) (x y : World), AnBss ls v x → Grow x y → AnBss ls v y := fun _ _ _ h hg => Bss.grow h hg

theorem refSame_eq (v u : Value) (a : List (List Int)) (w : World) (h : Bss w v a) (g : Bss w u a) : Calls Try.prog 41 #[v, u] w fun e w' => e = .returned (.bool true) ∧ Grow w w' := by
  have := refSame_any v u a a w h g
  rwa [show (a == a) = true from by simp] at this

set_option maxRecDepth 20000 in
set_option maxHeartbeats 3200000 in
theorem modelTells_walk (v u dv : Value) (ls ms : List (List Int)) (x : DeedP) (w : World) (h : Bss w v ls) (g : Bss w u ms) (hd : DeedV w dv x) :
    Calls Try.prog 14 #[v, u, dv] w fun e w' => e = .returned (.bool true) ∧ Grow w w' := by
  have hdeed := hd
  have hvb := h
  have hub := g
  obtain ⟨sv, rfl, hbd⟩ := hd
  obtain ⟨d1, d2, d3, rfl⟩ := hbd.form
  obtain ⟨av, cv, rfl⟩ := Sl.form h
  obtain ⟨au, cu, rfl⟩ := Sl.form g
  obtain ⟨W, hW⟩ : ∃ W, W = w.alloc (.cells #[.int .i64 x.k, .int .i64 x.n, .int .i64 x.m, .slice d1 d2 d3] 50) := ⟨_, rfl⟩
  have H := heap_alloc_new w (.cells #[.int .i64 x.k, .int .i64 x.n, .int .i64 x.m, .slice d1 d2 d3] 50)
  have hgW : Grow w W := by rw [hW]; exact Grow.alloc _ _
  rw [← hW] at H
  have k0 : W.cell? ⟨w.heap.size, 0, none⟩ = some (.int .i64 x.k) := row_at H 0 rfl
  have k1 : W.cell? ⟨w.heap.size, 1, none⟩ = some (.int .i64 x.n) := row_at H 1 rfl
  have k2 : W.cell? ⟨w.heap.size, 2, none⟩ = some (.int .i64 x.m) := row_at H 2 rfl
  have k3 : W.cell? ⟨w.heap.size, 3, none⟩ = some (.slice d1 d2 d3) := row_at H 3 rfl
  have hdW : DeedV W (.agg #[.int .i64 x.k, .int .i64 x.n, .int .i64 x.m, .slice d1 d2 d3]) x := hdeed.grow hgW
  have hvW := hvb.grow hgW
  have huW := hub.grow hgW
  clear h g hbd hdeed H
  have hmn := fun w1 => modelNew_any w1
  have hrn : ∀ w1, Calls Try.prog 43 #[] w1 fun e w' => ∃ r, e = .returned r ∧ Bss w' r (List.replicate 9 nought) ∧ Grow w1 w' := fun w1 => (refNew_any w1).mono fun e w' ⟨r, he, hr, hg⟩ => ⟨r, he, hr.done, hg⟩
  have hRl := fun w1 hg => refRight_any _ ls w1 (hvW.grow (w' := w1) hg)
  have hRm := fun w1 hg => refRight_any _ ms w1 (huW.grow (w' := w1) hg)
  have hmw := fun w1 hg => modelWrong_any _ x w1 (hdW.grow (w' := w1) hg)
  have hrw := fun w1 hg => refWrong_any _ x w1 (hdW.grow (w' := w1) hg)
  go_enter Try.func14, Try.ntmps14
  go_wp2_with fail
  rw [← hW]
  clear hW
  generalize hN : List.replicate 9 nought = NB at *
  clear hN
  have HD : Hid (wrongE x = 0 → rightBlocksB ls = true → ∀ w1, Grow W w1 → Calls Try.prog 48 #[.slice av ls.length cv, .agg #[.int .i64 x.k, .int .i64 x.n, .int .i64 x.m, .slice d1 d2 d3]] w1 fun e w' => ∃ r, e = .returned r ∧ Bss w' r (doL ls x) ∧ Grow w1 w') := fun h0 hr w1 hg => modelDo_any _ _ ls x w1 (hvW.grow hg) (hdW.grow hg) (rb_all hr).2 (rb_all hr).1 h0
  have HF : Hid (wrongE x = 0 → rightBlocksB ls = true → ∀ w1, Grow W w1 → Calls Try.prog 49 #[.slice av ls.length cv, .agg #[.int .i64 x.k, .int .i64 x.n, .int .i64 x.m, .slice d1 d2 d3]] w1 fun e w' => ∃ r, e = .returned r ∧ Bss w' r (doL ls x) ∧ Grow w1 w') := fun h0 hr w1 hg => refDo_any _ _ ls x w1 (hvW.grow hg) (hdW.grow hg) (rb_all hr).2 h0
  have HS : Hid (rightBlocksB ls = true → rightBlocksB ms = true → ∀ w1, Grow W w1 → Calls Try.prog 47 #[.slice av ls.length cv, .slice au ms.length cu] w1 fun e w' => e = .returned (.bool (ls == ms)) ∧ Grow w1 w') := fun hl hm w1 hg => modelSame_any _ _ ls ms w1 (hvW.grow hg) (huW.grow hg) (rb_all hl).2 (rb_all hm).2
  have HT : Hid (∀ w1, Grow W w1 → Calls Try.prog 41 #[.slice av ls.length cv, .slice au ms.length cu] w1 fun e w' => e = .returned (.bool (ls == ms)) ∧ Grow w1 w') := fun w1 hg => refSame_any _ _ ls ms w1 (hvW.grow hg) (huW.grow hg)
  clear hvW huW hvb hub hdW
  generalize wrongE x = E at *
  generalize (ls == ms) = S at *
  generalize doL ls x = dl at *
  generalize ls.length = nl at *
  generalize ms.length = nm at *
  refine wp_region_stable Grow [AnBss NB, AnBss NB, IsV (.bool true), IsV (.bool false), IsV (.bool false), IsV (.agg #[.int .i64 x.k, .int .i64 x.n, .int .i64 x.m, .slice d1 d2 d3]), IsV (.int .i64 E), IsV (.agg #[.int .i64 x.k, .int .i64 x.n, .int .i64 x.m, .slice d1 d2 d3]), IsV (.int .i64 E), IsV (.bool false), IsV (.bool false)] (by kernel_rfl) (by kernel_rfl) rfl Grow.refl (fun _ _ _ => Grow.trans) ?_ ?_ ?_
  · repeat (refine List.forall_mem_cons.2 ⟨by first | exact IsV.stable _ | exact AnBss.stable _, ?_⟩)
    exact fun R hR => nomatch hR
  · skip
    refine StepsS.cons ?_ fun v0 => ⟨_, _, by simp only [Act.put, List.setIfInBounds_toArray, List.set_cons_succ, List.set_cons_zero]; first | done | rfl, by simp only [List.nil_append]; first | done | rfl, ?_⟩
    · intro w1 hE hd
      clear hd
      go_wp2_with fail
      refine (hmn _).mono ?_
      rintro e w4 ⟨r', rfl, hr', hg4⟩
      go_wp2_with fail
      exact ⟨_, rfl, hg4, hr'⟩
    refine StepsS.cons ?_ fun v1 => ⟨_, _, by simp only [Act.put, List.setIfInBounds_toArray, List.set_cons_succ, List.set_cons_zero]; first | done | rfl, by simp only [List.nil_append, List.cons_append]; first | done | rfl, ?_⟩
    · intro w1 hE hd
      clear hd
      go_wp2_with fail
      refine (hrn _).mono ?_
      rintro e w4 ⟨r', rfl, hr', hg4⟩
      go_wp2_with fail
      exact ⟨_, rfl, hg4, hr'⟩
    refine StepsS.cons ?_ fun v2 => ⟨_, _, by simp only [Act.put, List.setIfInBounds_toArray, List.set_cons_succ, List.set_cons_zero]; first | done | rfl, by simp only [List.nil_append, List.cons_append]; first | done | rfl, ?_⟩
    · intro w1 hE hd
      have d0 := dep_at hd 0 rfl rfl rfl
      have d1 := dep_at hd 1 rfl rfl rfl
      clear hd
      go_wp2_with fail
      refine (refSame_eq _ _ NB _ d0 d1).mono ?_
      rintro e w4 ⟨rfl, hg4⟩
      go_wp2_with fail
      exact ⟨_, rfl, hg4, rfl⟩
    refine StepsS.cons ?_ fun v3 => ⟨_, _, by simp only [Act.put, List.setIfInBounds_toArray, List.set_cons_succ, List.set_cons_zero]; first | done | rfl, by simp only [List.nil_append, List.cons_append]; first | done | rfl, ?_⟩
    · intro w1 hE hd
      obtain rfl := IsV.eq (dep_at hd 0 rfl rfl rfl)
      clear hd
      go_wp2
      exact ⟨_, rfl, Grow.refl _, rfl⟩
    refine StepsS.cons ?_ fun v4 => ⟨_, _, by simp only [Act.put, List.setIfInBounds_toArray, List.set_cons_succ, List.set_cons_zero]; first | done | rfl, by simp only [List.nil_append, List.cons_append]; first | done | rfl, ?_⟩
    · intro w1 hE hd
      obtain rfl := IsV.eq (dep_at hd 0 rfl rfl rfl)
      clear hd
      go_wp2
      exact ⟨_, rfl, Grow.refl _, rfl⟩
    refine StepsS.cons ?_ fun v5 => ⟨_, _, by simp only [Act.put, List.setIfInBounds_toArray, List.set_cons_succ, List.set_cons_zero]; first | done | rfl, by simp only [List.nil_append, List.cons_append]; first | done | rfl, ?_⟩
    · intro w1 hE hd
      obtain rfl := IsV.eq (dep_at hd 0 rfl rfl rfl)
      clear hd
      have q0 := hE.drew.at k0
      have q1 := hE.drew.at k1
      have q2 := hE.drew.at k2
      have q3 := hE.drew.at k3
      go_wp2
      exact ⟨_, rfl, Grow.refl _, rfl⟩
    refine StepsS.cons ?_ fun v6 => ⟨_, _, by simp only [Act.put, List.setIfInBounds_toArray, List.set_cons_succ, List.set_cons_zero]; first | done | rfl, by simp only [List.nil_append, List.cons_append]; first | done | rfl, ?_⟩
    · intro w1 hE hd
      obtain rfl := IsV.eq (dep_at hd 0 rfl rfl rfl)
      obtain rfl := IsV.eq (dep_at hd 1 rfl rfl rfl)
      clear hd
      go_wp2_with fail
      refine (hmw _ hE.drew).mono ?_
      rintro e w4 ⟨rfl, hg4⟩
      go_wp2_with fail
      exact ⟨_, rfl, hg4, rfl⟩
    refine StepsS.cons ?_ fun v7 => ⟨_, _, by simp only [Act.put, List.setIfInBounds_toArray, List.set_cons_succ, List.set_cons_zero]; first | done | rfl, by simp only [List.nil_append, List.cons_append]; first | done | rfl, ?_⟩
    · intro w1 hE hd
      obtain rfl := IsV.eq (dep_at hd 0 rfl rfl rfl)
      clear hd
      have q0 := hE.drew.at k0
      have q1 := hE.drew.at k1
      have q2 := hE.drew.at k2
      have q3 := hE.drew.at k3
      go_wp2
      exact ⟨_, rfl, Grow.refl _, rfl⟩
    refine StepsS.cons ?_ fun v8 => ⟨_, _, by simp only [Act.put, List.setIfInBounds_toArray, List.set_cons_succ, List.set_cons_zero]; first | done | rfl, by simp only [List.nil_append, List.cons_append]; first | done | rfl, ?_⟩
    · intro w1 hE hd
      obtain rfl := IsV.eq (dep_at hd 0 rfl rfl rfl)
      obtain rfl := IsV.eq (dep_at hd 2 rfl rfl rfl)
      clear hd
      go_wp2_with fail
      refine (hrw _ hE.drew).mono ?_
      rintro e w4 ⟨rfl, hg4⟩
      go_wp2_with fail
      exact ⟨_, rfl, hg4, rfl⟩
    refine StepsS.cons ?_ fun v9 => ⟨_, _, by simp only [Act.put, List.setIfInBounds_toArray, List.set_cons_succ, List.set_cons_zero]; first | done | rfl, by simp only [List.nil_append, List.cons_append]; first | done | rfl, ?_⟩
    · intro w1 hE hd
      obtain rfl := IsV.eq (dep_at hd 0 rfl rfl rfl)
      obtain rfl := IsV.eq (dep_at hd 1 rfl rfl rfl)
      obtain rfl := IsV.eq (dep_at hd 2 rfl rfl rfl)
      clear hd
      go_wp2
      exact ⟨_, rfl, Grow.refl _, rfl⟩
    refine StepsS.cons ?_ fun v10 => ⟨_, _, by simp only [Act.put, List.setIfInBounds_toArray, List.set_cons_succ, List.set_cons_zero]; first | done | rfl, by simp only [List.nil_append, List.cons_append]; first | done | rfl, ?_⟩
    · intro w1 hE hd
      obtain rfl := IsV.eq (dep_at hd 0 rfl rfl rfl)
      obtain rfl := IsV.eq (dep_at hd 1 rfl rfl rfl)
      clear hd
      go_wp2
      exact ⟨_, rfl, Grow.refl _, rfl⟩
    trivial
  intro wR hwR
  refine FinS.cons fun v0 h0 => ⟨_, by simp only [Act.put, List.setIfInBounds_toArray, List.set_cons_succ, List.set_cons_zero]; first | done | rfl, ?_⟩
  refine FinS.cons fun v1 h1 => ⟨_, by simp only [Act.put, List.setIfInBounds_toArray, List.set_cons_succ, List.set_cons_zero]; first | done | rfl, ?_⟩
  refine FinS.cons ?_; rintro _ rfl; refine ⟨_, by simp only [Act.put, List.setIfInBounds_toArray, List.set_cons_succ, List.set_cons_zero]; first | done | rfl, ?_⟩
  refine FinS.cons ?_; rintro _ rfl; refine ⟨_, by simp only [Act.put, List.setIfInBounds_toArray, List.set_cons_succ, List.set_cons_zero]; first | done | rfl, ?_⟩
  refine FinS.cons ?_; rintro _ rfl; refine ⟨_, by simp only [Act.put, List.setIfInBounds_toArray, List.set_cons_succ, List.set_cons_zero]; first | done | rfl, ?_⟩
  refine FinS.cons ?_; rintro _ rfl; refine ⟨_, by simp only [Act.put, List.setIfInBounds_toArray, List.set_cons_succ, List.set_cons_zero]; first | done | rfl, ?_⟩
  refine FinS.cons ?_; rintro _ rfl; refine ⟨_, by simp only [Act.put, List.setIfInBounds_toArray, List.set_cons_succ, List.set_cons_zero]; first | done | rfl, ?_⟩
  refine FinS.cons ?_; rintro _ rfl; refine ⟨_, by simp only [Act.put, List.setIfInBounds_toArray, List.set_cons_succ, List.set_cons_zero]; first | done | rfl, ?_⟩
  refine FinS.cons ?_; rintro _ rfl; refine ⟨_, by simp only [Act.put, List.setIfInBounds_toArray, List.set_cons_succ, List.set_cons_zero]; first | done | rfl, ?_⟩
  refine FinS.cons ?_; rintro _ rfl; refine ⟨_, by simp only [Act.put, List.setIfInBounds_toArray, List.set_cons_succ, List.set_cons_zero]; first | done | rfl, ?_⟩
  refine FinS.cons ?_; rintro _ rfl; refine ⟨_, by simp only [Act.put, List.setIfInBounds_toArray, List.set_cons_succ, List.set_cons_zero]; first | done | rfl, ?_⟩
  first | show Exit.then _ _ _ _ _ | show Exit.inBlock _ _ _ _ _
  have hg1 := hwR.drew
  have j0 := hg1.at k0
  have j1 := hg1.at k1
  have j2 := hg1.at k2
  have j3 := hg1.at k3
  have hgw := hgW.trans hg1
  cases hrl : rightBlocksB ls with
  | false =>
    rw [hrl] at hRl
    go_wp2_with fail
    refine (hRl _ hg1).mono ?_
    rintro e w2 ⟨rfl, hw2⟩
    subst hw2
    go_wp2
    go_ret
    exact ⟨rfl, hgw⟩
  | true =>
    rw [hrl] at hRl
    cases hrm : rightBlocksB ms with
    | false =>
      rw [hrm] at hRm
      go_wp2_with fail
      refine (hRl _ hg1).mono ?_
      rintro e w2 ⟨rfl, hw2⟩
      subst hw2
      go_wp2_with fail
      refine (hRm _ hg1).mono ?_
      rintro e w3 ⟨rfl, hw3⟩
      subst hw3
      go_wp2
      go_ret
      exact ⟨rfl, hgw⟩
    | true =>
      rw [hrm] at hRm
      have hS := HS.out hrl hrm
      have hT := HT.out
      go_wp2_with fail
      refine (hRl _ hg1).mono ?_
      rintro e w2 ⟨rfl, hw2⟩
      subst hw2
      go_wp2_with fail
      refine (hRm _ hg1).mono ?_
      rintro e w3 ⟨rfl, hw3⟩
      subst hw3
      by_cases hE0 : E = 0
      · have hD := HD.out hE0 hrl
        have hF := HF.out hE0 hrl
        clear HD HF HS HT hrl hrm hRl hRm hmn hrn hmw
        subst hE0
        go_wp2_with fail
        refine wp_region_stable Grow [IsV (.slice av nl cv), IsV (.slice au nm cu), IsV (.bool S), IsV (.slice av nl cv), IsV (.slice au nm cu), IsV (.bool S), IsV (.bool true), IsV (.bool true), IsV (.agg #[.int .i64 x.k, .int .i64 x.n, .int .i64 x.m, .slice d1 d2 d3]), IsV (.int .i64 0), IsV (.bool false), IsV (.bool false), IsV (.slice av nl cv), IsV (.agg #[.int .i64 x.k, .int .i64 x.n, .int .i64 x.m, .slice d1 d2 d3]), AnBss dl, IsV (.slice av nl cv), IsV (.agg #[.int .i64 x.k, .int .i64 x.n, .int .i64 x.m, .slice d1 d2 d3]), AnBss dl, IsV (.bool true), IsV (.bool true), IsV (.bool true), IsV (.bool true)] (by kernel_rfl) (by kernel_rfl) rfl Grow.refl (fun _ _ _ => Grow.trans) ?_ ?_ ?_
        · repeat (refine List.forall_mem_cons.2 ⟨by first | exact IsV.stable _ | exact AnBss.stable _, ?_⟩)
          exact fun R hR => nomatch hR
        · skip
          refine StepsS.cons ?_ fun v0 => ⟨_, _, by simp only [Act.put, List.setIfInBounds_toArray, List.set_cons_succ, List.set_cons_zero]; first | done | rfl, by simp only [List.nil_append]; first | done | rfl, ?_⟩
          · intro w1 hE hd
            clear hd
            go_wp2
            exact ⟨_, rfl, Grow.refl _, rfl⟩
          refine StepsS.cons ?_ fun v1 => ⟨_, _, by simp only [Act.put, List.setIfInBounds_toArray, List.set_cons_succ, List.set_cons_zero]; first | done | rfl, by simp only [List.nil_append, List.cons_append]; first | done | rfl, ?_⟩
          · intro w1 hE hd
            clear hd
            go_wp2
            exact ⟨_, rfl, Grow.refl _, rfl⟩
          refine StepsS.cons ?_ fun v2 => ⟨_, _, by simp only [Act.put, List.setIfInBounds_toArray, List.set_cons_succ, List.set_cons_zero]; first | done | rfl, by simp only [List.nil_append, List.cons_append]; first | done | rfl, ?_⟩
          · intro w1 hE hd
            obtain rfl := IsV.eq (dep_at hd 0 rfl rfl rfl)
            obtain rfl := IsV.eq (dep_at hd 1 rfl rfl rfl)
            clear hd
            go_wp2_with fail
            refine (hS _ (hg1.trans hE.drew)).mono ?_
            rintro e w4 ⟨rfl, hg4⟩
            go_wp2_with fail
            exact ⟨_, rfl, hg4, rfl⟩
          refine StepsS.cons ?_ fun v3 => ⟨_, _, by simp only [Act.put, List.setIfInBounds_toArray, List.set_cons_succ, List.set_cons_zero]; first | done | rfl, by simp only [List.nil_append, List.cons_append]; first | done | rfl, ?_⟩
          · intro w1 hE hd
            clear hd
            go_wp2
            exact ⟨_, rfl, Grow.refl _, rfl⟩
          refine StepsS.cons ?_ fun v4 => ⟨_, _, by simp only [Act.put, List.setIfInBounds_toArray, List.set_cons_succ, List.set_cons_zero]; first | done | rfl, by simp only [List.nil_append, List.cons_append]; first | done | rfl, ?_⟩
          · intro w1 hE hd
            clear hd
            go_wp2
            exact ⟨_, rfl, Grow.refl _, rfl⟩
          refine StepsS.cons ?_ fun v5 => ⟨_, _, by simp only [Act.put, List.setIfInBounds_toArray, List.set_cons_succ, List.set_cons_zero]; first | done | rfl, by simp only [List.nil_append, List.cons_append]; first | done | rfl, ?_⟩
          · intro w1 hE hd
            obtain rfl := IsV.eq (dep_at hd 0 rfl rfl rfl)
            obtain rfl := IsV.eq (dep_at hd 1 rfl rfl rfl)
            clear hd
            go_wp2_with fail
            refine (hT _ (hg1.trans hE.drew)).mono ?_
            rintro e w4 ⟨rfl, hg4⟩
            go_wp2_with fail
            exact ⟨_, rfl, hg4, rfl⟩
          refine StepsS.cons ?_ fun v6 => ⟨_, _, by simp only [Act.put, List.setIfInBounds_toArray, List.set_cons_succ, List.set_cons_zero]; first | done | rfl, by simp only [List.nil_append, List.cons_append]; first | done | rfl, ?_⟩
          · intro w1 hE hd
            obtain rfl := IsV.eq (dep_at hd 0 rfl rfl rfl)
            obtain rfl := IsV.eq (dep_at hd 1 rfl rfl rfl)
            clear hd
            go_wp2
            exact ⟨_, rfl, Grow.refl _, rfl⟩
          refine StepsS.cons ?_ fun v7 => ⟨_, _, by simp only [Act.put, List.setIfInBounds_toArray, List.set_cons_succ, List.set_cons_zero]; first | done | rfl, by simp only [List.nil_append, List.cons_append]; first | done | rfl, ?_⟩
          · intro w1 hE hd
            obtain rfl := IsV.eq (dep_at hd 0 rfl rfl rfl)
            clear hd
            go_wp2
            exact ⟨_, rfl, Grow.refl _, rfl⟩
          refine StepsS.cons ?_ fun v8 => ⟨_, _, by simp only [Act.put, List.setIfInBounds_toArray, List.set_cons_succ, List.set_cons_zero]; first | done | rfl, by simp only [List.nil_append, List.cons_append]; first | done | rfl, ?_⟩
          · intro w1 hE hd
            obtain rfl := IsV.eq (dep_at hd 0 rfl rfl rfl)
            clear hd
            have q0 := hE.drew.at j0
            have q1 := hE.drew.at j1
            have q2 := hE.drew.at j2
            have q3 := hE.drew.at j3
            go_wp2
            exact ⟨_, rfl, Grow.refl _, rfl⟩
          refine StepsS.cons ?_ fun v9 => ⟨_, _, by simp only [Act.put, List.setIfInBounds_toArray, List.set_cons_succ, List.set_cons_zero]; first | done | rfl, by simp only [List.nil_append, List.cons_append]; first | done | rfl, ?_⟩
          · intro w1 hE hd
            obtain rfl := IsV.eq (dep_at hd 0 rfl rfl rfl)
            obtain rfl := IsV.eq (dep_at hd 1 rfl rfl rfl)
            clear hd
            go_wp2_with fail
            refine (hrw _ (hg1.trans hE.drew)).mono ?_
            rintro e w4 ⟨rfl, hg4⟩
            go_wp2_with fail
            exact ⟨_, rfl, hg4, rfl⟩
          refine StepsS.cons ?_ fun v10 => ⟨_, _, by simp only [Act.put, List.setIfInBounds_toArray, List.set_cons_succ, List.set_cons_zero]; first | done | rfl, by simp only [List.nil_append, List.cons_append]; first | done | rfl, ?_⟩
          · intro w1 hE hd
            obtain rfl := IsV.eq (dep_at hd 0 rfl rfl rfl)
            obtain rfl := IsV.eq (dep_at hd 1 rfl rfl rfl)
            clear hd
            go_wp2
            exact ⟨_, rfl, Grow.refl _, rfl⟩
          refine StepsS.cons ?_ fun v11 => ⟨_, _, by simp only [Act.put, List.setIfInBounds_toArray, List.set_cons_succ, List.set_cons_zero]; first | done | rfl, by simp only [List.nil_append, List.cons_append]; first | done | rfl, ?_⟩
          · intro w1 hE hd
            obtain rfl := IsV.eq (dep_at hd 0 rfl rfl rfl)
            obtain rfl := IsV.eq (dep_at hd 2 rfl rfl rfl)
            clear hd
            go_wp2
            exact ⟨_, rfl, Grow.refl _, rfl⟩
          refine StepsS.cons ?_ fun v12 => ⟨_, _, by simp only [Act.put, List.setIfInBounds_toArray, List.set_cons_succ, List.set_cons_zero]; first | done | rfl, by simp only [List.nil_append, List.cons_append]; first | done | rfl, ?_⟩
          · intro w1 hE hd
            obtain rfl := IsV.eq (dep_at hd 0 rfl rfl rfl)
            clear hd
            go_wp2
            exact ⟨_, rfl, Grow.refl _, rfl⟩
          refine StepsS.cons ?_ fun v13 => ⟨_, _, by simp only [Act.put, List.setIfInBounds_toArray, List.set_cons_succ, List.set_cons_zero]; first | done | rfl, by simp only [List.nil_append, List.cons_append]; first | done | rfl, ?_⟩
          · intro w1 hE hd
            obtain rfl := IsV.eq (dep_at hd 0 rfl rfl rfl)
            clear hd
            have q0 := hE.drew.at j0
            have q1 := hE.drew.at j1
            have q2 := hE.drew.at j2
            have q3 := hE.drew.at j3
            go_wp2
            exact ⟨_, rfl, Grow.refl _, rfl⟩
          refine StepsS.cons ?_ fun v14 => ⟨_, _, by simp only [Act.put, List.setIfInBounds_toArray, List.set_cons_succ, List.set_cons_zero]; first | done | rfl, by simp only [List.nil_append, List.cons_append]; first | done | rfl, ?_⟩
          · intro w1 hE hd
            obtain rfl := IsV.eq (dep_at hd 0 rfl rfl rfl)
            obtain rfl := IsV.eq (dep_at hd 1 rfl rfl rfl)
            obtain rfl := IsV.eq (dep_at hd 2 rfl rfl rfl)
            clear hd
            go_wp2_with fail
            refine (hD _ (hg1.trans hE.drew)).mono ?_
            rintro e w4 ⟨r', rfl, hr', hg4⟩
            go_wp2_with fail
            exact ⟨_, rfl, hg4, hr'⟩
          refine StepsS.cons ?_ fun v15 => ⟨_, _, by simp only [Act.put, List.setIfInBounds_toArray, List.set_cons_succ, List.set_cons_zero]; first | done | rfl, by simp only [List.nil_append, List.cons_append]; first | done | rfl, ?_⟩
          · intro w1 hE hd
            obtain rfl := IsV.eq (dep_at hd 0 rfl rfl rfl)
            clear hd
            go_wp2
            exact ⟨_, rfl, Grow.refl _, rfl⟩
          refine StepsS.cons ?_ fun v16 => ⟨_, _, by simp only [Act.put, List.setIfInBounds_toArray, List.set_cons_succ, List.set_cons_zero]; first | done | rfl, by simp only [List.nil_append, List.cons_append]; first | done | rfl, ?_⟩
          · intro w1 hE hd
            obtain rfl := IsV.eq (dep_at hd 0 rfl rfl rfl)
            clear hd
            have q0 := hE.drew.at j0
            have q1 := hE.drew.at j1
            have q2 := hE.drew.at j2
            have q3 := hE.drew.at j3
            go_wp2
            exact ⟨_, rfl, Grow.refl _, rfl⟩
          refine StepsS.cons ?_ fun v17 => ⟨_, _, by simp only [Act.put, List.setIfInBounds_toArray, List.set_cons_succ, List.set_cons_zero]; first | done | rfl, by simp only [List.nil_append, List.cons_append]; first | done | rfl, ?_⟩
          · intro w1 hE hd
            obtain rfl := IsV.eq (dep_at hd 0 rfl rfl rfl)
            obtain rfl := IsV.eq (dep_at hd 1 rfl rfl rfl)
            obtain rfl := IsV.eq (dep_at hd 3 rfl rfl rfl)
            clear hd
            go_wp2_with fail
            refine (hF _ (hg1.trans hE.drew)).mono ?_
            rintro e w4 ⟨r', rfl, hr', hg4⟩
            go_wp2_with fail
            exact ⟨_, rfl, hg4, hr'⟩
          refine StepsS.cons ?_ fun v18 => ⟨_, _, by simp only [Act.put, List.setIfInBounds_toArray, List.set_cons_succ, List.set_cons_zero]; first | done | rfl, by simp only [List.nil_append, List.cons_append]; first | done | rfl, ?_⟩
          · intro w1 hE hd
            have d14 := dep_at hd 0 rfl rfl rfl
            have d17 := dep_at hd 1 rfl rfl rfl
            obtain rfl := IsV.eq (dep_at hd 3 rfl rfl rfl)
            clear hd
            go_wp2_with fail
            refine (refSame_eq _ _ dl _ d14 d17).mono ?_
            rintro e w4 ⟨rfl, hg4⟩
            go_wp2_with fail
            exact ⟨_, rfl, hg4, rfl⟩
          refine StepsS.cons ?_ fun v19 => ⟨_, _, by simp only [Act.put, List.setIfInBounds_toArray, List.set_cons_succ, List.set_cons_zero]; first | done | rfl, by simp only [List.nil_append, List.cons_append]; first | done | rfl, ?_⟩
          · intro w1 hE hd
            obtain rfl := IsV.eq (dep_at hd 0 rfl rfl rfl)
            obtain rfl := IsV.eq (dep_at hd 1 rfl rfl rfl)
            obtain rfl := IsV.eq (dep_at hd 2 rfl rfl rfl)
            clear hd
            go_wp2
            exact ⟨_, rfl, Grow.refl _, rfl⟩
          refine StepsS.cons ?_ fun v20 => ⟨_, _, by simp only [Act.put, List.setIfInBounds_toArray, List.set_cons_succ, List.set_cons_zero]; first | done | rfl, by simp only [List.nil_append, List.cons_append]; first | done | rfl, ?_⟩
          · intro w1 hE hd
            obtain rfl := IsV.eq (dep_at hd 0 rfl rfl rfl)
            obtain rfl := IsV.eq (dep_at hd 1 rfl rfl rfl)
            clear hd
            go_wp2
            exact ⟨_, rfl, Grow.refl _, rfl⟩
          refine StepsS.cons ?_ fun v21 => ⟨_, _, by simp only [Act.put, List.setIfInBounds_toArray, List.set_cons_succ, List.set_cons_zero]; first | done | rfl, by simp only [List.nil_append, List.cons_append]; first | done | rfl, ?_⟩
          · intro w1 hE hd
            obtain rfl := IsV.eq (dep_at hd 0 rfl rfl rfl)
            clear hd
            go_wp2
            exact ⟨_, rfl, Grow.refl _, rfl⟩
          trivial
        intro wS hwS
        refine FinS.cons ?_; rintro _ rfl; refine ⟨_, by simp only [Act.put, List.setIfInBounds_toArray, List.set_cons_succ, List.set_cons_zero]; first | done | rfl, ?_⟩
        refine FinS.cons ?_; rintro _ rfl; refine ⟨_, by simp only [Act.put, List.setIfInBounds_toArray, List.set_cons_succ, List.set_cons_zero]; first | done | rfl, ?_⟩
        refine FinS.cons ?_; rintro _ rfl; refine ⟨_, by simp only [Act.put, List.setIfInBounds_toArray, List.set_cons_succ, List.set_cons_zero]; first | done | rfl, ?_⟩
        refine FinS.cons ?_; rintro _ rfl; refine ⟨_, by simp only [Act.put, List.setIfInBounds_toArray, List.set_cons_succ, List.set_cons_zero]; first | done | rfl, ?_⟩
        refine FinS.cons ?_; rintro _ rfl; refine ⟨_, by simp only [Act.put, List.setIfInBounds_toArray, List.set_cons_succ, List.set_cons_zero]; first | done | rfl, ?_⟩
        refine FinS.cons ?_; rintro _ rfl; refine ⟨_, by simp only [Act.put, List.setIfInBounds_toArray, List.set_cons_succ, List.set_cons_zero]; first | done | rfl, ?_⟩
        refine FinS.cons ?_; rintro _ rfl; refine ⟨_, by simp only [Act.put, List.setIfInBounds_toArray, List.set_cons_succ, List.set_cons_zero]; first | done | rfl, ?_⟩
        refine FinS.cons ?_; rintro _ rfl; refine ⟨_, by simp only [Act.put, List.setIfInBounds_toArray, List.set_cons_succ, List.set_cons_zero]; first | done | rfl, ?_⟩
        refine FinS.cons ?_; rintro _ rfl; refine ⟨_, by simp only [Act.put, List.setIfInBounds_toArray, List.set_cons_succ, List.set_cons_zero]; first | done | rfl, ?_⟩
        refine FinS.cons ?_; rintro _ rfl; refine ⟨_, by simp only [Act.put, List.setIfInBounds_toArray, List.set_cons_succ, List.set_cons_zero]; first | done | rfl, ?_⟩
        refine FinS.cons ?_; rintro _ rfl; refine ⟨_, by simp only [Act.put, List.setIfInBounds_toArray, List.set_cons_succ, List.set_cons_zero]; first | done | rfl, ?_⟩
        refine FinS.cons ?_; rintro _ rfl; refine ⟨_, by simp only [Act.put, List.setIfInBounds_toArray, List.set_cons_succ, List.set_cons_zero]; first | done | rfl, ?_⟩
        refine FinS.cons ?_; rintro _ rfl; refine ⟨_, by simp only [Act.put, List.setIfInBounds_toArray, List.set_cons_succ, List.set_cons_zero]; first | done | rfl, ?_⟩
        refine FinS.cons ?_; rintro _ rfl; refine ⟨_, by simp only [Act.put, List.setIfInBounds_toArray, List.set_cons_succ, List.set_cons_zero]; first | done | rfl, ?_⟩
        refine FinS.cons fun v14 h14 => ⟨_, by simp only [Act.put, List.setIfInBounds_toArray, List.set_cons_succ, List.set_cons_zero]; first | done | rfl, ?_⟩
        refine FinS.cons ?_; rintro _ rfl; refine ⟨_, by simp only [Act.put, List.setIfInBounds_toArray, List.set_cons_succ, List.set_cons_zero]; first | done | rfl, ?_⟩
        refine FinS.cons ?_; rintro _ rfl; refine ⟨_, by simp only [Act.put, List.setIfInBounds_toArray, List.set_cons_succ, List.set_cons_zero]; first | done | rfl, ?_⟩
        refine FinS.cons fun v17 h17 => ⟨_, by simp only [Act.put, List.setIfInBounds_toArray, List.set_cons_succ, List.set_cons_zero]; first | done | rfl, ?_⟩
        refine FinS.cons ?_; rintro _ rfl; refine ⟨_, by simp only [Act.put, List.setIfInBounds_toArray, List.set_cons_succ, List.set_cons_zero]; first | done | rfl, ?_⟩
        refine FinS.cons ?_; rintro _ rfl; refine ⟨_, by simp only [Act.put, List.setIfInBounds_toArray, List.set_cons_succ, List.set_cons_zero]; first | done | rfl, ?_⟩
        refine FinS.cons ?_; rintro _ rfl; refine ⟨_, by simp only [Act.put, List.setIfInBounds_toArray, List.set_cons_succ, List.set_cons_zero]; first | done | rfl, ?_⟩
        refine FinS.cons ?_; rintro _ rfl; refine ⟨_, by simp only [Act.put, List.setIfInBounds_toArray, List.set_cons_succ, List.set_cons_zero]; first | done | rfl, ?_⟩
        first | show Exit.then _ _ _ _ _ | show Exit.inBlock _ _ _ _ _
        go_wp2
        go_ret
        exact ⟨rfl, hgw.trans hwS.drew⟩
      · have hE' : (E != 0) = true := by simpa using hE0
        clear HD HF HS HT hrl hrm hRl hRm hmn hrn hmw
        go_wp2_with fail
        refine wp_region_stable Grow [IsV (.slice av nl cv), IsV (.slice au nm cu), IsV (.bool S), IsV (.slice av nl cv), IsV (.slice au nm cu), IsV (.bool S), IsV (.bool true), IsV (.bool true), IsV (.agg #[.int .i64 x.k, .int .i64 x.n, .int .i64 x.m, .slice d1 d2 d3]), IsV (.int .i64 E), IsV (.bool true), IsV (.bool true), IsV (undef), IsV (undef), IsV (undef), IsV (undef), IsV (undef), IsV (undef), IsV (undef), IsV (.bool true), IsV (.bool true), IsV (.bool true)] (by kernel_rfl) (by kernel_rfl) rfl Grow.refl (fun _ _ _ => Grow.trans) ?_ ?_ ?_
        · repeat (refine List.forall_mem_cons.2 ⟨by first | exact IsV.stable _, ?_⟩)
          exact fun R hR => nomatch hR
        · skip
          refine StepsS.cons ?_ fun v0 => ⟨_, _, by simp only [Act.put, List.setIfInBounds_toArray, List.set_cons_succ, List.set_cons_zero]; first | done | rfl, by simp only [List.nil_append]; first | done | rfl, ?_⟩
          · intro w1 hE hd
            clear hd
            go_wp2
            exact ⟨_, rfl, Grow.refl _, rfl⟩
          refine StepsS.cons ?_ fun v1 => ⟨_, _, by simp only [Act.put, List.setIfInBounds_toArray, List.set_cons_succ, List.set_cons_zero]; first | done | rfl, by simp only [List.nil_append, List.cons_append]; first | done | rfl, ?_⟩
          · intro w1 hE hd
            clear hd
            go_wp2
            exact ⟨_, rfl, Grow.refl _, rfl⟩
          refine StepsS.cons ?_ fun v2 => ⟨_, _, by simp only [Act.put, List.setIfInBounds_toArray, List.set_cons_succ, List.set_cons_zero]; first | done | rfl, by simp only [List.nil_append, List.cons_append]; first | done | rfl, ?_⟩
          · intro w1 hE hd
            obtain rfl := IsV.eq (dep_at hd 0 rfl rfl rfl)
            obtain rfl := IsV.eq (dep_at hd 1 rfl rfl rfl)
            clear hd
            go_wp2_with fail
            refine (hS _ (hg1.trans hE.drew)).mono ?_
            rintro e w4 ⟨rfl, hg4⟩
            go_wp2_with fail
            exact ⟨_, rfl, hg4, rfl⟩
          refine StepsS.cons ?_ fun v3 => ⟨_, _, by simp only [Act.put, List.setIfInBounds_toArray, List.set_cons_succ, List.set_cons_zero]; first | done | rfl, by simp only [List.nil_append, List.cons_append]; first | done | rfl, ?_⟩
          · intro w1 hE hd
            clear hd
            go_wp2
            exact ⟨_, rfl, Grow.refl _, rfl⟩
          refine StepsS.cons ?_ fun v4 => ⟨_, _, by simp only [Act.put, List.setIfInBounds_toArray, List.set_cons_succ, List.set_cons_zero]; first | done | rfl, by simp only [List.nil_append, List.cons_append]; first | done | rfl, ?_⟩
          · intro w1 hE hd
            clear hd
            go_wp2
            exact ⟨_, rfl, Grow.refl _, rfl⟩
          refine StepsS.cons ?_ fun v5 => ⟨_, _, by simp only [Act.put, List.setIfInBounds_toArray, List.set_cons_succ, List.set_cons_zero]; first | done | rfl, by simp only [List.nil_append, List.cons_append]; first | done | rfl, ?_⟩
          · intro w1 hE hd
            obtain rfl := IsV.eq (dep_at hd 0 rfl rfl rfl)
            obtain rfl := IsV.eq (dep_at hd 1 rfl rfl rfl)
            clear hd
            go_wp2_with fail
            refine (hT _ (hg1.trans hE.drew)).mono ?_
            rintro e w4 ⟨rfl, hg4⟩
            go_wp2_with fail
            exact ⟨_, rfl, hg4, rfl⟩
          refine StepsS.cons ?_ fun v6 => ⟨_, _, by simp only [Act.put, List.setIfInBounds_toArray, List.set_cons_succ, List.set_cons_zero]; first | done | rfl, by simp only [List.nil_append, List.cons_append]; first | done | rfl, ?_⟩
          · intro w1 hE hd
            obtain rfl := IsV.eq (dep_at hd 0 rfl rfl rfl)
            obtain rfl := IsV.eq (dep_at hd 1 rfl rfl rfl)
            clear hd
            go_wp2
            exact ⟨_, rfl, Grow.refl _, rfl⟩
          refine StepsS.cons ?_ fun v7 => ⟨_, _, by simp only [Act.put, List.setIfInBounds_toArray, List.set_cons_succ, List.set_cons_zero]; first | done | rfl, by simp only [List.nil_append, List.cons_append]; first | done | rfl, ?_⟩
          · intro w1 hE hd
            obtain rfl := IsV.eq (dep_at hd 0 rfl rfl rfl)
            clear hd
            go_wp2
            exact ⟨_, rfl, Grow.refl _, rfl⟩
          refine StepsS.cons ?_ fun v8 => ⟨_, _, by simp only [Act.put, List.setIfInBounds_toArray, List.set_cons_succ, List.set_cons_zero]; first | done | rfl, by simp only [List.nil_append, List.cons_append]; first | done | rfl, ?_⟩
          · intro w1 hE hd
            obtain rfl := IsV.eq (dep_at hd 0 rfl rfl rfl)
            clear hd
            have q0 := hE.drew.at j0
            have q1 := hE.drew.at j1
            have q2 := hE.drew.at j2
            have q3 := hE.drew.at j3
            go_wp2
            exact ⟨_, rfl, Grow.refl _, rfl⟩
          refine StepsS.cons ?_ fun v9 => ⟨_, _, by simp only [Act.put, List.setIfInBounds_toArray, List.set_cons_succ, List.set_cons_zero]; first | done | rfl, by simp only [List.nil_append, List.cons_append]; first | done | rfl, ?_⟩
          · intro w1 hE hd
            obtain rfl := IsV.eq (dep_at hd 0 rfl rfl rfl)
            obtain rfl := IsV.eq (dep_at hd 1 rfl rfl rfl)
            clear hd
            go_wp2_with fail
            refine (hrw _ (hg1.trans hE.drew)).mono ?_
            rintro e w4 ⟨rfl, hg4⟩
            go_wp2_with fail
            exact ⟨_, rfl, hg4, rfl⟩
          refine StepsS.cons ?_ fun v10 => ⟨_, _, by simp only [Act.put, List.setIfInBounds_toArray, List.set_cons_succ, List.set_cons_zero]; first | done | rfl, by simp only [List.nil_append, List.cons_append]; first | done | rfl, ?_⟩
          · intro w1 hE hd
            obtain rfl := IsV.eq (dep_at hd 0 rfl rfl rfl)
            obtain rfl := IsV.eq (dep_at hd 1 rfl rfl rfl)
            clear hd
            go_wp2
            exact ⟨_, rfl, Grow.refl _, rfl⟩
          refine StepsS.cons ?_ fun v11 => ⟨_, _, by simp only [Act.put, List.setIfInBounds_toArray, List.set_cons_succ, List.set_cons_zero]; first | done | rfl, by simp only [List.nil_append, List.cons_append]; first | done | rfl, ?_⟩
          · intro w1 hE hd
            obtain rfl := IsV.eq (dep_at hd 0 rfl rfl rfl)
            obtain rfl := IsV.eq (dep_at hd 2 rfl rfl rfl)
            clear hd
            go_wp2
            exact ⟨_, rfl, Grow.refl _, rfl⟩
          refine StepsS.cons ?_ fun v12 => ⟨_, _, by simp only [Act.put, List.setIfInBounds_toArray, List.set_cons_succ, List.set_cons_zero]; first | done | rfl, by simp only [List.nil_append, List.cons_append]; first | done | rfl, ?_⟩
          · intro w1 hE hd
            obtain rfl := IsV.eq (dep_at hd 0 rfl rfl rfl)
            clear hd
            go_wp2
            exact ⟨_, rfl, Grow.refl _, rfl⟩
          refine StepsS.cons ?_ fun v13 => ⟨_, _, by simp only [Act.put, List.setIfInBounds_toArray, List.set_cons_succ, List.set_cons_zero]; first | done | rfl, by simp only [List.nil_append, List.cons_append]; first | done | rfl, ?_⟩
          · intro w1 hE hd
            obtain rfl := IsV.eq (dep_at hd 0 rfl rfl rfl)
            clear hd
            go_wp2
            exact ⟨_, rfl, Grow.refl _, rfl⟩
          refine StepsS.cons ?_ fun v14 => ⟨_, _, by simp only [Act.put, List.setIfInBounds_toArray, List.set_cons_succ, List.set_cons_zero]; first | done | rfl, by simp only [List.nil_append, List.cons_append]; first | done | rfl, ?_⟩
          · intro w1 hE hd
            obtain rfl := IsV.eq (dep_at hd 0 rfl rfl rfl)
            obtain rfl := IsV.eq (dep_at hd 1 rfl rfl rfl)
            obtain rfl := IsV.eq (dep_at hd 2 rfl rfl rfl)
            clear hd
            go_wp2
            exact ⟨_, rfl, Grow.refl _, rfl⟩
          refine StepsS.cons ?_ fun v15 => ⟨_, _, by simp only [Act.put, List.setIfInBounds_toArray, List.set_cons_succ, List.set_cons_zero]; first | done | rfl, by simp only [List.nil_append, List.cons_append]; first | done | rfl, ?_⟩
          · intro w1 hE hd
            obtain rfl := IsV.eq (dep_at hd 0 rfl rfl rfl)
            clear hd
            go_wp2
            exact ⟨_, rfl, Grow.refl _, rfl⟩
          refine StepsS.cons ?_ fun v16 => ⟨_, _, by simp only [Act.put, List.setIfInBounds_toArray, List.set_cons_succ, List.set_cons_zero]; first | done | rfl, by simp only [List.nil_append, List.cons_append]; first | done | rfl, ?_⟩
          · intro w1 hE hd
            obtain rfl := IsV.eq (dep_at hd 0 rfl rfl rfl)
            clear hd
            go_wp2
            exact ⟨_, rfl, Grow.refl _, rfl⟩
          refine StepsS.cons ?_ fun v17 => ⟨_, _, by simp only [Act.put, List.setIfInBounds_toArray, List.set_cons_succ, List.set_cons_zero]; first | done | rfl, by simp only [List.nil_append, List.cons_append]; first | done | rfl, ?_⟩
          · intro w1 hE hd
            obtain rfl := IsV.eq (dep_at hd 0 rfl rfl rfl)
            obtain rfl := IsV.eq (dep_at hd 1 rfl rfl rfl)
            obtain rfl := IsV.eq (dep_at hd 3 rfl rfl rfl)
            clear hd
            go_wp2
            exact ⟨_, rfl, Grow.refl _, rfl⟩
          refine StepsS.cons ?_ fun v18 => ⟨_, _, by simp only [Act.put, List.setIfInBounds_toArray, List.set_cons_succ, List.set_cons_zero]; first | done | rfl, by simp only [List.nil_append, List.cons_append]; first | done | rfl, ?_⟩
          · intro w1 hE hd
            obtain rfl := IsV.eq (dep_at hd 0 rfl rfl rfl)
            obtain rfl := IsV.eq (dep_at hd 1 rfl rfl rfl)
            obtain rfl := IsV.eq (dep_at hd 3 rfl rfl rfl)
            clear hd
            go_wp2
            exact ⟨_, rfl, Grow.refl _, rfl⟩
          refine StepsS.cons ?_ fun v19 => ⟨_, _, by simp only [Act.put, List.setIfInBounds_toArray, List.set_cons_succ, List.set_cons_zero]; first | done | rfl, by simp only [List.nil_append, List.cons_append]; first | done | rfl, ?_⟩
          · intro w1 hE hd
            obtain rfl := IsV.eq (dep_at hd 0 rfl rfl rfl)
            obtain rfl := IsV.eq (dep_at hd 1 rfl rfl rfl)
            obtain rfl := IsV.eq (dep_at hd 2 rfl rfl rfl)
            clear hd
            go_wp2
            exact ⟨_, rfl, Grow.refl _, rfl⟩
          refine StepsS.cons ?_ fun v20 => ⟨_, _, by simp only [Act.put, List.setIfInBounds_toArray, List.set_cons_succ, List.set_cons_zero]; first | done | rfl, by simp only [List.nil_append, List.cons_append]; first | done | rfl, ?_⟩
          · intro w1 hE hd
            obtain rfl := IsV.eq (dep_at hd 0 rfl rfl rfl)
            obtain rfl := IsV.eq (dep_at hd 1 rfl rfl rfl)
            clear hd
            go_wp2
            exact ⟨_, rfl, Grow.refl _, rfl⟩
          refine StepsS.cons ?_ fun v21 => ⟨_, _, by simp only [Act.put, List.setIfInBounds_toArray, List.set_cons_succ, List.set_cons_zero]; first | done | rfl, by simp only [List.nil_append, List.cons_append]; first | done | rfl, ?_⟩
          · intro w1 hE hd
            obtain rfl := IsV.eq (dep_at hd 0 rfl rfl rfl)
            clear hd
            go_wp2
            exact ⟨_, rfl, Grow.refl _, rfl⟩
          trivial
        intro wS hwS
        refine FinS.cons ?_; rintro _ rfl; refine ⟨_, by simp only [Act.put, List.setIfInBounds_toArray, List.set_cons_succ, List.set_cons_zero]; first | done | rfl, ?_⟩
        refine FinS.cons ?_; rintro _ rfl; refine ⟨_, by simp only [Act.put, List.setIfInBounds_toArray, List.set_cons_succ, List.set_cons_zero]; first | done | rfl, ?_⟩
        refine FinS.cons ?_; rintro _ rfl; refine ⟨_, by simp only [Act.put, List.setIfInBounds_toArray, List.set_cons_succ, List.set_cons_zero]; first | done | rfl, ?_⟩
        refine FinS.cons ?_; rintro _ rfl; refine ⟨_, by simp only [Act.put, List.setIfInBounds_toArray, List.set_cons_succ, List.set_cons_zero]; first | done | rfl, ?_⟩
        refine FinS.cons ?_; rintro _ rfl; refine ⟨_, by simp only [Act.put, List.setIfInBounds_toArray, List.set_cons_succ, List.set_cons_zero]; first | done | rfl, ?_⟩
        refine FinS.cons ?_; rintro _ rfl; refine ⟨_, by simp only [Act.put, List.setIfInBounds_toArray, List.set_cons_succ, List.set_cons_zero]; first | done | rfl, ?_⟩
        refine FinS.cons ?_; rintro _ rfl; refine ⟨_, by simp only [Act.put, List.setIfInBounds_toArray, List.set_cons_succ, List.set_cons_zero]; first | done | rfl, ?_⟩
        refine FinS.cons ?_; rintro _ rfl; refine ⟨_, by simp only [Act.put, List.setIfInBounds_toArray, List.set_cons_succ, List.set_cons_zero]; first | done | rfl, ?_⟩
        refine FinS.cons ?_; rintro _ rfl; refine ⟨_, by simp only [Act.put, List.setIfInBounds_toArray, List.set_cons_succ, List.set_cons_zero]; first | done | rfl, ?_⟩
        refine FinS.cons ?_; rintro _ rfl; refine ⟨_, by simp only [Act.put, List.setIfInBounds_toArray, List.set_cons_succ, List.set_cons_zero]; first | done | rfl, ?_⟩
        refine FinS.cons ?_; rintro _ rfl; refine ⟨_, by simp only [Act.put, List.setIfInBounds_toArray, List.set_cons_succ, List.set_cons_zero]; first | done | rfl, ?_⟩
        refine FinS.cons ?_; rintro _ rfl; refine ⟨_, by simp only [Act.put, List.setIfInBounds_toArray, List.set_cons_succ, List.set_cons_zero]; first | done | rfl, ?_⟩
        refine FinS.cons ?_; rintro _ rfl; refine ⟨_, by simp only [Act.put, List.setIfInBounds_toArray, List.set_cons_succ, List.set_cons_zero]; first | done | rfl, ?_⟩
        refine FinS.cons ?_; rintro _ rfl; refine ⟨_, by simp only [Act.put, List.setIfInBounds_toArray, List.set_cons_succ, List.set_cons_zero]; first | done | rfl, ?_⟩
        refine FinS.cons ?_; rintro _ rfl; refine ⟨_, by simp only [Act.put, List.setIfInBounds_toArray, List.set_cons_succ, List.set_cons_zero]; first | done | rfl, ?_⟩
        refine FinS.cons ?_; rintro _ rfl; refine ⟨_, by simp only [Act.put, List.setIfInBounds_toArray, List.set_cons_succ, List.set_cons_zero]; first | done | rfl, ?_⟩
        refine FinS.cons ?_; rintro _ rfl; refine ⟨_, by simp only [Act.put, List.setIfInBounds_toArray, List.set_cons_succ, List.set_cons_zero]; first | done | rfl, ?_⟩
        refine FinS.cons ?_; rintro _ rfl; refine ⟨_, by simp only [Act.put, List.setIfInBounds_toArray, List.set_cons_succ, List.set_cons_zero]; first | done | rfl, ?_⟩
        refine FinS.cons ?_; rintro _ rfl; refine ⟨_, by simp only [Act.put, List.setIfInBounds_toArray, List.set_cons_succ, List.set_cons_zero]; first | done | rfl, ?_⟩
        refine FinS.cons ?_; rintro _ rfl; refine ⟨_, by simp only [Act.put, List.setIfInBounds_toArray, List.set_cons_succ, List.set_cons_zero]; first | done | rfl, ?_⟩
        refine FinS.cons ?_; rintro _ rfl; refine ⟨_, by simp only [Act.put, List.setIfInBounds_toArray, List.set_cons_succ, List.set_cons_zero]; first | done | rfl, ?_⟩
        refine FinS.cons ?_; rintro _ rfl; refine ⟨_, by simp only [Act.put, List.setIfInBounds_toArray, List.set_cons_succ, List.set_cons_zero]; first | done | rfl, ?_⟩
        first | show Exit.then _ _ _ _ _ | show Exit.inBlock _ _ _ _ _
        go_wp2
        go_ret
        exact ⟨rfl, hgw.trans hwS.drew⟩

end Go.Proofs.Ytjggiameajndgaa
