/-
  The statement that the sum, the seal and the test are the document's own, walked: whatever bytes: it returns true, and nothing old turns.
-/
import Derived.Test.YtjggiameajndgaaWalkRefSealed
namespace Go.Proofs.Ytjggiameajndgaa
open Go.RowKit

theorem seal_new (v : Value) (l : List Int) (w : World) (hlen : l.length ≤ 140737488351232) (h : Bs w v l) :
    Calls Try.prog 17 #[v] w fun e w' => ∃ r, e = .returned r ∧ NewBs (sealOf l) r w' ∧ Grow w w' :=
  (seal_any v l w hlen h).mono fun e w' ⟨r, he, hown, hb⟩ => by
    obtain ⟨g, cap, rfl, -, -⟩ := hown.form (by omega)
    exact ⟨_, he, ⟨g, cap, by rw [sealOf_length], Bs.of_own hown (sealOf_octets l h.octets)⟩, hb⟩

set_option maxRecDepth 20000 in
set_option maxHeartbeats 1600000 in
theorem sumTells_walk (v : Value) (l : List Int) (w : World) (hlen : l.length ≤ 140737488351232) (h : Bs w v l) :
    Calls Try.prog 3 #[v] w fun e w' => e = .returned (.bool true) ∧ Grow w w' := by
  have hbs := h
  have hoct := sealOf_octets l h.octets
  obtain ⟨ao, cap, rfl, -⟩ := h
  generalize hn : l.length = n at hbs
  rw [hn] at hlen
  have HN : Hid (l.length = n) := hn
  clear hn
  go_enter Try.func3, Try.ntmps3
  go_wp2
  refine wp_region_stable Grow [IsV (.slice ao n cap), IsV (.int .i64 (sumOf l)), IsV (.slice ao n cap), IsV (.int .i64 (sumOf l)), IsV (.bool true), IsV (.bool true), IsV (.slice ao n cap), NewBs (sealOf l), IsV (.string (strOfNums (sealOf l))), IsV (.slice ao n cap), NewBs (sealOf l), IsV (.string (strOfNums (sealOf l))), IsV (.bool true), IsV (.bool true), IsV (.bool true), IsV (.slice ao n cap), IsV (.bool (sealedB l)), IsV (.slice ao n cap), IsV (.bool (sealedB l)), IsV (.bool true), IsV (.bool true), IsV (.bool true)] (by kernel_rfl) (by kernel_rfl) rfl Grow.refl (fun _ _ _ => Grow.trans) ?_ ?_ ?_
  · repeat (refine List.forall_mem_cons.2 ⟨by first | exact IsV.stable _ | exact NewBs.stable _, ?_⟩)
    exact fun R hR => nomatch hR
  · skip
    refine StepsS.cons ?_ fun v0 => ⟨_, _, by simp only [Act.put, List.setIfInBounds_toArray, List.set_cons_succ, List.set_cons_zero]; first | done | rfl, by simp only [List.nil_append]; first | done | rfl, ?_⟩
    · intro w1 hE hd
      clear hd
      go_wp2
      exact ⟨_, rfl, Grow.refl _, rfl⟩
    refine StepsS.cons ?_ fun v1 => ⟨_, _, by simp only [Act.put, List.setIfInBounds_toArray, List.set_cons_succ, List.set_cons_zero]; first | done | rfl, by simp only [List.nil_append, List.cons_append]; first | done | rfl, ?_⟩
    · intro w1 hE hd
      obtain rfl := IsV.eq (dep_at hd 0 rfl rfl rfl)
      clear hd
      go_wp2_with fail
      refine (of_any _ _ _ (hbs.grow hE.drew)).mono ?_
      rintro e w2 ⟨rfl, rfl⟩
      go_wp2_with fail
      exact ⟨_, rfl, Grow.refl _, rfl⟩
    refine StepsS.cons ?_ fun v2 => ⟨_, _, by simp only [Act.put, List.setIfInBounds_toArray, List.set_cons_succ, List.set_cons_zero]; first | done | rfl, by simp only [List.nil_append, List.cons_append]; first | done | rfl, ?_⟩
    · intro w1 hE hd
      clear hd
      go_wp2
      exact ⟨_, rfl, Grow.refl _, rfl⟩
    refine StepsS.cons ?_ fun v3 => ⟨_, _, by simp only [Act.put, List.setIfInBounds_toArray, List.set_cons_succ, List.set_cons_zero]; first | done | rfl, by simp only [List.nil_append, List.cons_append]; first | done | rfl, ?_⟩
    · intro w1 hE hd
      obtain rfl := IsV.eq (dep_at hd 0 rfl rfl rfl)
      clear hd
      go_wp2_with fail
      refine (refSum_any _ _ _ (hbs.grow hE.drew)).mono ?_
      rintro e w2 ⟨rfl, rfl⟩
      go_wp2_with fail
      exact ⟨_, rfl, Grow.refl _, rfl⟩
    refine StepsS.cons ?_ fun v4 => ⟨_, _, by simp only [Act.put, List.setIfInBounds_toArray, List.set_cons_succ, List.set_cons_zero]; first | done | rfl, by simp only [List.nil_append, List.cons_append]; first | done | rfl, ?_⟩
    · intro w1 hE hd
      obtain rfl := IsV.eq (dep_at hd 0 rfl rfl rfl)
      obtain rfl := IsV.eq (dep_at hd 1 rfl rfl rfl)
      clear hd
      go_wp2
      exact ⟨_, rfl, Grow.refl _, rfl⟩
    refine StepsS.cons ?_ fun v5 => ⟨_, _, by simp only [Act.put, List.setIfInBounds_toArray, List.set_cons_succ, List.set_cons_zero]; first | done | rfl, by simp only [List.nil_append, List.cons_append]; first | done | rfl, ?_⟩
    · intro w1 hE hd
      obtain rfl := IsV.eq (dep_at hd 0 rfl rfl rfl)
      clear hd
      go_wp2
      exact ⟨_, rfl, Grow.refl _, rfl⟩
    refine StepsS.cons ?_ fun v6 => ⟨_, _, by simp only [Act.put, List.setIfInBounds_toArray, List.set_cons_succ, List.set_cons_zero]; first | done | rfl, by simp only [List.nil_append, List.cons_append]; first | done | rfl, ?_⟩
    · intro w1 hE hd
      obtain rfl := IsV.eq (dep_at hd 0 rfl rfl rfl)
      clear hd
      go_wp2
      exact ⟨_, rfl, Grow.refl _, rfl⟩
    refine StepsS.cons ?_ fun v7 => ⟨_, _, by simp only [Act.put, List.setIfInBounds_toArray, List.set_cons_succ, List.set_cons_zero]; first | done | rfl, by simp only [List.nil_append, List.cons_append]; first | done | rfl, ?_⟩
    · intro w1 hE hd
      obtain rfl := IsV.eq (dep_at hd 0 rfl rfl rfl)
      obtain rfl := IsV.eq (dep_at hd 1 rfl rfl rfl)
      clear hd
      go_wp2_with fail
      refine (seal_new _ l _ (by rw [HN.out]; exact hlen) (hbs.grow hE.drew)).mono ?_
      rintro e w2 ⟨r, rfl, hr, hg⟩
      go_wp2_with fail
      exact ⟨_, rfl, hg, hr⟩
    refine StepsS.cons ?_ fun v8 => ⟨_, _, by simp only [Act.put, List.setIfInBounds_toArray, List.set_cons_succ, List.set_cons_zero]; first | done | rfl, by simp only [List.nil_append, List.cons_append]; first | done | rfl, ?_⟩
    · intro w1 hE hd
      have d7 := dep_at hd 0 rfl rfl rfl
      obtain rfl := IsV.eq (dep_at hd 1 rfl rfl rfl)
      clear hd
      obtain ⟨g, c7, rfl, hb7⟩ := d7
      have hcv := run_convert_bs 22 5 9 Try.underlying22 Try.underlying5 Try.underlying9 hb7
      go_wp2
      exact ⟨_, rfl, Grow.refl _, rfl⟩
    refine StepsS.cons ?_ fun v9 => ⟨_, _, by simp only [Act.put, List.setIfInBounds_toArray, List.set_cons_succ, List.set_cons_zero]; first | done | rfl, by simp only [List.nil_append, List.cons_append]; first | done | rfl, ?_⟩
    · intro w1 hE hd
      obtain rfl := IsV.eq (dep_at hd 0 rfl rfl rfl)
      clear hd
      go_wp2
      exact ⟨_, rfl, Grow.refl _, rfl⟩
    refine StepsS.cons ?_ fun v10 => ⟨_, _, by simp only [Act.put, List.setIfInBounds_toArray, List.set_cons_succ, List.set_cons_zero]; first | done | rfl, by simp only [List.nil_append, List.cons_append]; first | done | rfl, ?_⟩
    · intro w1 hE hd
      obtain rfl := IsV.eq (dep_at hd 0 rfl rfl rfl)
      obtain rfl := IsV.eq (dep_at hd 2 rfl rfl rfl)
      clear hd
      go_wp2_with fail
      refine (refSeal_new _ l _ (by rw [HN.out]; exact hlen) (hbs.grow hE.drew)).mono ?_
      rintro e w2 ⟨r, rfl, hr, hg⟩
      go_wp2_with fail
      exact ⟨_, rfl, hg, hr⟩
    refine StepsS.cons ?_ fun v11 => ⟨_, _, by simp only [Act.put, List.setIfInBounds_toArray, List.set_cons_succ, List.set_cons_zero]; first | done | rfl, by simp only [List.nil_append, List.cons_append]; first | done | rfl, ?_⟩
    · intro w1 hE hd
      have d10 := dep_at hd 0 rfl rfl rfl
      obtain rfl := IsV.eq (dep_at hd 1 rfl rfl rfl)
      clear hd
      obtain ⟨g, c7, rfl, hb7⟩ := d10
      have hcv := run_convert_bs 22 5 9 Try.underlying22 Try.underlying5 Try.underlying9 hb7
      go_wp2
      exact ⟨_, rfl, Grow.refl _, rfl⟩
    refine StepsS.cons ?_ fun v12 => ⟨_, _, by simp only [Act.put, List.setIfInBounds_toArray, List.set_cons_succ, List.set_cons_zero]; first | done | rfl, by simp only [List.nil_append, List.cons_append]; first | done | rfl, ?_⟩
    · intro w1 hE hd
      obtain rfl := IsV.eq (dep_at hd 0 rfl rfl rfl)
      obtain rfl := IsV.eq (dep_at hd 1 rfl rfl rfl)
      obtain rfl := IsV.eq (dep_at hd 2 rfl rfl rfl)
      clear hd
      go_wp2
      exact ⟨_, rfl, Grow.refl _, rfl⟩
    refine StepsS.cons ?_ fun v13 => ⟨_, _, by simp only [Act.put, List.setIfInBounds_toArray, List.set_cons_succ, List.set_cons_zero]; first | done | rfl, by simp only [List.nil_append, List.cons_append]; first | done | rfl, ?_⟩
    · intro w1 hE hd
      obtain rfl := IsV.eq (dep_at hd 0 rfl rfl rfl)
      obtain rfl := IsV.eq (dep_at hd 1 rfl rfl rfl)
      clear hd
      go_wp2
      exact ⟨_, rfl, Grow.refl _, rfl⟩
    refine StepsS.cons ?_ fun v14 => ⟨_, _, by simp only [Act.put, List.setIfInBounds_toArray, List.set_cons_succ, List.set_cons_zero]; first | done | rfl, by simp only [List.nil_append, List.cons_append]; first | done | rfl, ?_⟩
    · intro w1 hE hd
      obtain rfl := IsV.eq (dep_at hd 0 rfl rfl rfl)
      clear hd
      go_wp2
      exact ⟨_, rfl, Grow.refl _, rfl⟩
    refine StepsS.cons ?_ fun v15 => ⟨_, _, by simp only [Act.put, List.setIfInBounds_toArray, List.set_cons_succ, List.set_cons_zero]; first | done | rfl, by simp only [List.nil_append, List.cons_append]; first | done | rfl, ?_⟩
    · intro w1 hE hd
      obtain rfl := IsV.eq (dep_at hd 0 rfl rfl rfl)
      clear hd
      go_wp2
      exact ⟨_, rfl, Grow.refl _, rfl⟩
    refine StepsS.cons ?_ fun v16 => ⟨_, _, by simp only [Act.put, List.setIfInBounds_toArray, List.set_cons_succ, List.set_cons_zero]; first | done | rfl, by simp only [List.nil_append, List.cons_append]; first | done | rfl, ?_⟩
    · intro w1 hE hd
      obtain rfl := IsV.eq (dep_at hd 0 rfl rfl rfl)
      obtain rfl := IsV.eq (dep_at hd 1 rfl rfl rfl)
      clear hd
      go_wp2_with fail
      refine (sealed_any _ _ _ (hbs.grow hE.drew)).mono ?_
      rintro e w2 ⟨rfl, m, rfl⟩
      go_wp2_with fail
      exact ⟨_, rfl, Grow.drewN _ _, rfl⟩
    refine StepsS.cons ?_ fun v17 => ⟨_, _, by simp only [Act.put, List.setIfInBounds_toArray, List.set_cons_succ, List.set_cons_zero]; first | done | rfl, by simp only [List.nil_append, List.cons_append]; first | done | rfl, ?_⟩
    · intro w1 hE hd
      obtain rfl := IsV.eq (dep_at hd 0 rfl rfl rfl)
      clear hd
      go_wp2
      exact ⟨_, rfl, Grow.refl _, rfl⟩
    refine StepsS.cons ?_ fun v18 => ⟨_, _, by simp only [Act.put, List.setIfInBounds_toArray, List.set_cons_succ, List.set_cons_zero]; first | done | rfl, by simp only [List.nil_append, List.cons_append]; first | done | rfl, ?_⟩
    · intro w1 hE hd
      obtain rfl := IsV.eq (dep_at hd 0 rfl rfl rfl)
      obtain rfl := IsV.eq (dep_at hd 2 rfl rfl rfl)
      clear hd
      go_wp2_with fail
      refine (refSealed_any _ l _ (by rw [HN.out]; exact hlen) (hbs.grow hE.drew)).mono ?_
      rintro e w2 ⟨rfl, hg⟩
      go_wp2_with fail
      exact ⟨_, rfl, hg, rfl⟩
    refine StepsS.cons ?_ fun v19 => ⟨_, _, by simp only [Act.put, List.setIfInBounds_toArray, List.set_cons_succ, List.set_cons_zero]; first | done | rfl, by simp only [List.nil_append, List.cons_append]; first | done | rfl, ?_⟩
    · intro w1 hE hd
      obtain rfl := IsV.eq (dep_at hd 0 rfl rfl rfl)
      obtain rfl := IsV.eq (dep_at hd 1 rfl rfl rfl)
      obtain rfl := IsV.eq (dep_at hd 2 rfl rfl rfl)
      clear hd
      go_wp2
      exact ⟨_, rfl, Grow.refl _, rfl⟩
    refine StepsS.cons ?_ fun v20 => ⟨_, _, by simp only [Act.put, List.setIfInBounds_toArray, List.set_cons_succ, List.set_cons_zero]; first | done | rfl, by simp only [List.nil_append, List.cons_append]; first | done | rfl, ?_⟩
    · intro w1 hE hd
      obtain rfl := IsV.eq (dep_at hd 0 rfl rfl rfl)
      obtain rfl := IsV.eq (dep_at hd 1 rfl rfl rfl)
      clear hd
      go_wp2
      exact ⟨_, rfl, Grow.refl _, rfl⟩
    refine StepsS.cons ?_ fun v21 => ⟨_, _, by simp only [Act.put, List.setIfInBounds_toArray, List.set_cons_succ, List.set_cons_zero]; first | done | rfl, by simp only [List.nil_append, List.cons_append]; first | done | rfl, ?_⟩
    · intro w1 hE hd
      obtain rfl := IsV.eq (dep_at hd 0 rfl rfl rfl)
      clear hd
      go_wp2
      exact ⟨_, rfl, Grow.refl _, rfl⟩
    trivial
  intro wR hwR
  refine FinS.cons ?_; rintro _ rfl; refine ⟨_, by simp only [Act.put, List.setIfInBounds_toArray, List.set_cons_succ, List.set_cons_zero]; first | done | rfl, ?_⟩
  refine FinS.cons ?_; rintro _ rfl; refine ⟨_, by simp only [Act.put, List.setIfInBounds_toArray, List.set_cons_succ, List.set_cons_zero]; first | done | rfl, ?_⟩
  refine FinS.cons ?_; rintro _ rfl; refine ⟨_, by simp only [Act.put, List.setIfInBounds_toArray, List.set_cons_succ, List.set_cons_zero]; first | done | rfl, ?_⟩
  refine FinS.cons ?_; rintro _ rfl; refine ⟨_, by simp only [Act.put, List.setIfInBounds_toArray, List.set_cons_succ, List.set_cons_zero]; first | done | rfl, ?_⟩
  refine FinS.cons ?_; rintro _ rfl; refine ⟨_, by simp only [Act.put, List.setIfInBounds_toArray, List.set_cons_succ, List.set_cons_zero]; first | done | rfl, ?_⟩
  refine FinS.cons ?_; rintro _ rfl; refine ⟨_, by simp only [Act.put, List.setIfInBounds_toArray, List.set_cons_succ, List.set_cons_zero]; first | done | rfl, ?_⟩
  refine FinS.cons ?_; rintro _ rfl; refine ⟨_, by simp only [Act.put, List.setIfInBounds_toArray, List.set_cons_succ, List.set_cons_zero]; first | done | rfl, ?_⟩
  refine FinS.cons fun v7 h7 => ⟨_, by simp only [Act.put, List.setIfInBounds_toArray, List.set_cons_succ, List.set_cons_zero]; first | done | rfl, ?_⟩
  refine FinS.cons ?_; rintro _ rfl; refine ⟨_, by simp only [Act.put, List.setIfInBounds_toArray, List.set_cons_succ, List.set_cons_zero]; first | done | rfl, ?_⟩
  refine FinS.cons ?_; rintro _ rfl; refine ⟨_, by simp only [Act.put, List.setIfInBounds_toArray, List.set_cons_succ, List.set_cons_zero]; first | done | rfl, ?_⟩
  refine FinS.cons fun v10 h10 => ⟨_, by simp only [Act.put, List.setIfInBounds_toArray, List.set_cons_succ, List.set_cons_zero]; first | done | rfl, ?_⟩
  refine FinS.cons ?_; rintro _ rfl; refine ⟨_, by simp only [Act.put, List.setIfInBounds_toArray, List.set_cons_succ, List.set_cons_zero]; first | done | rfl, ?_⟩
  refine FinS.cons ?_; rintro _ rfl; refine ⟨_, by simp only [Act.put, List.setIfInBounds_toArray, List.set_cons_succ, List.set_cons_zero]; first | done | rfl, ?_⟩
  refine FinS.cons ?_; rintro _ rfl; refine ⟨_, by simp only [Act.put, List.setIfInBounds_toArray, List.set_cons_succ, List.set_cons_zero]; first | done | rfl, ?_⟩
  refine FinS.cons ?_; rintro _ rfl; refine ⟨_, by simp only [Act.put, List.setIfInBounds_toArray, List.set_cons_succ, List.set_cons_zero]; first | done | rfl, ?_⟩
  refine FinS.cons ?_; rintro _ rfl; refine ⟨_, by simp only [Act.put, List.setIfInBounds_toArray, List.set_cons_succ, List.set_cons_zero]; first | done | rfl, ?_⟩
  refine FinS.cons ?_; rintro _ rfl; refine ⟨_, by simp only [Act.put, List.setIfInBounds_toArray, List.set_cons_succ, List.set_cons_zero]; first | done | rfl, ?_⟩
  refine FinS.cons ?_; rintro _ rfl; refine ⟨_, by simp only [Act.put, List.setIfInBounds_toArray, List.set_cons_succ, List.set_cons_zero]; first | done | rfl, ?_⟩
  refine FinS.cons ?_; rintro _ rfl; refine ⟨_, by simp only [Act.put, List.setIfInBounds_toArray, List.set_cons_succ, List.set_cons_zero]; first | done | rfl, ?_⟩
  refine FinS.cons ?_; rintro _ rfl; refine ⟨_, by simp only [Act.put, List.setIfInBounds_toArray, List.set_cons_succ, List.set_cons_zero]; first | done | rfl, ?_⟩
  refine FinS.cons ?_; rintro _ rfl; refine ⟨_, by simp only [Act.put, List.setIfInBounds_toArray, List.set_cons_succ, List.set_cons_zero]; first | done | rfl, ?_⟩
  refine FinS.cons ?_; rintro _ rfl; refine ⟨_, by simp only [Act.put, List.setIfInBounds_toArray, List.set_cons_succ, List.set_cons_zero]; first | done | rfl, ?_⟩
  first | show Exit.then _ _ _ _ _ | show Exit.inBlock _ _ _ _ _
  go_wp2
  go_ret
  exact ⟨rfl, hwR.drew⟩

end Go.Proofs.Ytjggiameajndgaa
