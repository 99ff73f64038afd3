/-
  What the reference's Sealed returns: whether the bytes end with the sum of what is ahead; nothing old turns.
-/
import Derived.Test.YtjggiameajndgabWalkSealed
import Derived.Test.YtjggiameajndgabGrow
import Derived.Deep.AppendLies
namespace Go.Proofs.Ytjggiameajndgab
open Go.RowKit

/-- New memory that reads as these bytes. -/
def NewBs (l : List Int) (v : Value) (w : World) : Prop := ∃ g cap, v = .slice (some ⟨g, 0, none⟩) l.length cap ∧ Bs w v l
theorem NewBs.stable (l : List Int) : ∀ (v : Value) (x y : World), NewBs l v x → Grow x y → NewBs l v y := fun _ _ _ ⟨g, cap, hv, hb⟩ h => ⟨g, cap, hv, hb.grow h⟩

theorem refSeal_new (v : Value) (l : List Int) (w : World) (hlen : l.length ≤ 140737488351232) (h : Bs w v l) :
    Calls Try.prog 90 #[v] w fun e w' => ∃ r, e = .returned r ∧ NewBs (sealOf l) r w' ∧ Grow w w' :=
  (refSeal_any v l w hlen h).mono fun e w' ⟨r, he, hown, hb⟩ => by
    obtain ⟨g, cap, rfl, -, -⟩ := hown.form (by omega)
    exact ⟨_, he, ⟨g, cap, by rw [sealOf_length], Bs.of_own hown (sealOf_octets l h.octets)⟩, hb⟩

set_option maxRecDepth 20000 in
set_option maxHeartbeats 1600000 in
theorem refSealed_any (v : Value) (l : List Int) (w : World) (hlen : l.length ≤ 140737488351232) (h : Bs w v l) :
    Calls Try.prog 88 #[v] w fun e w' => e = .returned (.bool (sealedB l)) ∧ Grow w w' := by
  have hbs := h
  obtain ⟨ao, cap, rfl, h1, h2, h3, h4, h5⟩ := h
  by_cases hlt : l.length < 2
  · unfold maxLen at h2
    have hs : Hid (sealedB l = false) := sealedB_short l hlt
    have hd : decide (1 < (l.length : Int)) = false := by simp; omega
    go_enter Try.func88, Try.ntmps88
    go_wp2
    go_quiet (fail)
    go_wp2
    go_ret
    exact ⟨ret_bool hs.out.symm, Grow.drewN _ _⟩
  · obtain ⟨n, hn⟩ : ∃ n, l.length = n + 2 := ⟨l.length - 2, by omega⟩
    have hsub := Bs.take (w := w) (n := n) (by omega) h1 h2 h3 h4 h5
    have ht : (l.take n).length = n := by simp; omega
    unfold maxLen at h2
    rw [hn] at hbs
    rw [hn]
    go_enter Try.func88, Try.ntmps88
    go_wp2
    have hL : l.length ≤ 140737488351232 := hlen
    refine wp_region_stable Grow [IsV (.slice ao (n + 2) cap), IsV (.int .i64 (n + 2)), IsV (.bool true), IsV (.bool true), IsV (.slice ao (n + 2) cap), IsV (.slice ao (n + 2) cap), IsV (.int .i64 (n + 2)), IsV (.int .i64 n), IsV (.slice ao n cap), NewBs (sealOf (l.take n)), IsV (.string (strOfNums (sealOf (l.take n)))), IsV (.slice ao (n + 2) cap), IsV (.string (strOfNums l)), IsV (.bool (sealedB l)), IsV (.bool (sealedB l)), IsV (.bool (sealedB l))] (by kernel_rfl) (by kernel_rfl) rfl Grow.refl (fun _ _ _ => Grow.trans) ?_ ?_ ?_
    · repeat (refine List.forall_mem_cons.2 ⟨by first | exact IsV.stable _ | exact NewBs.stable _, ?_⟩)
      exact fun R hR => nomatch hR
    · skip
      refine StepsS.cons ?_ fun v0 => ⟨_, _, by simp only [Act.put, List.setIfInBounds_toArray, List.set_cons_succ, List.set_cons_zero]; first | done | rfl, by simp only [List.nil_append]; first | done | rfl, ?_⟩
      · intro w1 hE hd
        clear hd
        go_wp2
        exact ⟨_, rfl, Grow.refl _, rfl⟩
      refine StepsS.cons ?_ fun v1 => ⟨_, _, by simp only [Act.put, List.setIfInBounds_toArray, List.set_cons_succ, List.set_cons_zero]; first | done | rfl, by simp only [List.nil_append, List.cons_append]; first | done | rfl, ?_⟩
      · intro w1 hE hd
        obtain rfl := IsV.eq (dep_at hd 0 rfl rfl rfl)
        clear hd
        go_wp2
        exact ⟨_, rfl, Grow.refl _, rfl⟩
      refine StepsS.cons ?_ fun v2 => ⟨_, _, by simp only [Act.put, List.setIfInBounds_toArray, List.set_cons_succ, List.set_cons_zero]; first | done | rfl, by simp only [List.nil_append, List.cons_append]; first | done | rfl, ?_⟩
      · intro w1 hE hd
        obtain rfl := IsV.eq (dep_at hd 0 rfl rfl rfl)
        clear hd
        go_wp2
        exact ⟨_, rfl, Grow.refl _, congrArg Value.bool (by simp; omega)⟩
      refine StepsS.cons ?_ fun v3 => ⟨_, _, by simp only [Act.put, List.setIfInBounds_toArray, List.set_cons_succ, List.set_cons_zero]; first | done | rfl, by simp only [List.nil_append, List.cons_append]; first | done | rfl, ?_⟩
      · intro w1 hE hd
        obtain rfl := IsV.eq (dep_at hd 0 rfl rfl rfl)
        clear hd
        go_wp2
        exact ⟨_, rfl, Grow.refl _, rfl⟩
      refine StepsS.cons ?_ fun v4 => ⟨_, _, by simp only [Act.put, List.setIfInBounds_toArray, List.set_cons_succ, List.set_cons_zero]; first | done | rfl, by simp only [List.nil_append, List.cons_append]; first | done | rfl, ?_⟩
      · intro w1 hE hd
        obtain rfl := IsV.eq (dep_at hd 0 rfl rfl rfl)
        clear hd
        go_wp2
        exact ⟨_, rfl, Grow.refl _, rfl⟩
      refine StepsS.cons ?_ fun v5 => ⟨_, _, by simp only [Act.put, List.setIfInBounds_toArray, List.set_cons_succ, List.set_cons_zero]; first | done | rfl, by simp only [List.nil_append, List.cons_append]; first | done | rfl, ?_⟩
      · intro w1 hE hd
        obtain rfl := IsV.eq (dep_at hd 0 rfl rfl rfl)
        clear hd
        go_wp2
        exact ⟨_, rfl, Grow.refl _, rfl⟩
      refine StepsS.cons ?_ fun v6 => ⟨_, _, by simp only [Act.put, List.setIfInBounds_toArray, List.set_cons_succ, List.set_cons_zero]; first | done | rfl, by simp only [List.nil_append, List.cons_append]; first | done | rfl, ?_⟩
      · intro w1 hE hd
        obtain rfl := IsV.eq (dep_at hd 0 rfl rfl rfl)
        obtain rfl := IsV.eq (dep_at hd 1 rfl rfl rfl)
        clear hd
        go_wp2
        exact ⟨_, rfl, Grow.refl _, rfl⟩
      refine StepsS.cons ?_ fun v7 => ⟨_, _, by simp only [Act.put, List.setIfInBounds_toArray, List.set_cons_succ, List.set_cons_zero]; first | done | rfl, by simp only [List.nil_append, List.cons_append]; first | done | rfl, ?_⟩
      · intro w1 hE hd
        obtain rfl := IsV.eq (dep_at hd 0 rfl rfl rfl)
        obtain rfl := IsV.eq (dep_at hd 1 rfl rfl rfl)
        clear hd
        go_wp2
        exact ⟨_, rfl, Grow.refl _, rfl⟩
      refine StepsS.cons ?_ fun v8 => ⟨_, _, by simp only [Act.put, List.setIfInBounds_toArray, List.set_cons_succ, List.set_cons_zero]; first | done | rfl, by simp only [List.nil_append, List.cons_append]; first | done | rfl, ?_⟩
      · intro w1 hE hd
        obtain rfl := IsV.eq (dep_at hd 0 rfl rfl rfl)
        obtain rfl := IsV.eq (dep_at hd 1 rfl rfl rfl)
        obtain rfl := IsV.eq (dep_at hd 2 rfl rfl rfl)
        clear hd
        go_wp2
        exact ⟨_, rfl, Grow.refl _, rfl⟩
      refine StepsS.cons ?_ fun v9 => ⟨_, _, by simp only [Act.put, List.setIfInBounds_toArray, List.set_cons_succ, List.set_cons_zero]; first | done | rfl, by simp only [List.nil_append, List.cons_append]; first | done | rfl, ?_⟩
      · intro w1 hE hd
        obtain rfl := IsV.eq (dep_at hd 0 rfl rfl rfl)
        obtain rfl := IsV.eq (dep_at hd 1 rfl rfl rfl)
        clear hd
        go_wp2_with fail
        refine (refSeal_new _ _ _ (by omega) (hsub.grow hE.drew)).mono ?_
        rintro e w2 ⟨r, rfl, hr, hg⟩
        go_wp2_with fail
        exact ⟨_, rfl, hg, hr⟩
      refine StepsS.cons ?_ fun v10 => ⟨_, _, by simp only [Act.put, List.setIfInBounds_toArray, List.set_cons_succ, List.set_cons_zero]; first | done | rfl, by simp only [List.nil_append, List.cons_append]; first | done | rfl, ?_⟩
      · intro w1 hE hd
        have d9 := dep_at hd 0 rfl rfl rfl
        obtain rfl := IsV.eq (dep_at hd 1 rfl rfl rfl)
        clear hd
        obtain ⟨g, c9, rfl, hb9⟩ := d9
        have hcv := run_convert_bs 23 5 9 Try.underlying23 Try.underlying5 Try.underlying9 hb9
        go_wp2
        exact ⟨_, rfl, Grow.refl _, rfl⟩
      refine StepsS.cons ?_ fun v11 => ⟨_, _, by simp only [Act.put, List.setIfInBounds_toArray, List.set_cons_succ, List.set_cons_zero]; first | done | rfl, by simp only [List.nil_append, List.cons_append]; first | done | rfl, ?_⟩
      · intro w1 hE hd
        obtain rfl := IsV.eq (dep_at hd 0 rfl rfl rfl)
        clear hd
        go_wp2
        exact ⟨_, rfl, Grow.refl _, rfl⟩
      refine StepsS.cons ?_ fun v12 => ⟨_, _, by simp only [Act.put, List.setIfInBounds_toArray, List.set_cons_succ, List.set_cons_zero]; first | done | rfl, by simp only [List.nil_append, List.cons_append]; first | done | rfl, ?_⟩
      · intro w1 hE hd
        obtain rfl := IsV.eq (dep_at hd 0 rfl rfl rfl)
        obtain rfl := IsV.eq (dep_at hd 1 rfl rfl rfl)
        clear hd
        have hcv := run_convert_bs 23 5 9 Try.underlying23 Try.underlying5 Try.underlying9 (hbs.grow hE.drew)
        go_wp2
        exact ⟨_, rfl, Grow.refl _, rfl⟩
      refine StepsS.cons ?_ fun v13 => ⟨_, _, by simp only [Act.put, List.setIfInBounds_toArray, List.set_cons_succ, List.set_cons_zero]; first | done | rfl, by simp only [List.nil_append, List.cons_append]; first | done | rfl, ?_⟩
      · intro w1 hE hd
        obtain rfl := IsV.eq (dep_at hd 0 rfl rfl rfl)
        obtain rfl := IsV.eq (dep_at hd 1 rfl rfl rfl)
        obtain rfl := IsV.eq (dep_at hd 2 rfl rfl rfl)
        clear hd
        go_wp2
        exact ⟨_, rfl, Grow.refl _, congrArg Value.bool (by rw [str_beq (sealOf_octets _ hsub.octets) h4, sealedB_of l n hn])⟩
      refine StepsS.cons ?_ fun v14 => ⟨_, _, by simp only [Act.put, List.setIfInBounds_toArray, List.set_cons_succ, List.set_cons_zero]; first | done | rfl, by simp only [List.nil_append, List.cons_append]; first | done | rfl, ?_⟩
      · intro w1 hE hd
        obtain rfl := IsV.eq (dep_at hd 0 rfl rfl rfl)
        obtain rfl := IsV.eq (dep_at hd 1 rfl rfl rfl)
        clear hd
        go_wp2
        exact ⟨_, rfl, Grow.refl _, rfl⟩
      refine StepsS.cons ?_ fun v15 => ⟨_, _, by simp only [Act.put, List.setIfInBounds_toArray, List.set_cons_succ, List.set_cons_zero]; first | done | rfl, by simp only [List.nil_append, List.cons_append]; first | done | rfl, ?_⟩
      · intro w1 hE hd
        obtain rfl := IsV.eq (dep_at hd 0 rfl rfl rfl)
        clear hd
        go_wp2
        exact ⟨_, rfl, Grow.refl _, rfl⟩
      trivial
    intro wR hwR
    refine FinS.cons ?_; rintro _ rfl; refine ⟨_, by simp only [Act.put, List.setIfInBounds_toArray, List.set_cons_succ, List.set_cons_zero]; first | done | rfl, ?_⟩
    refine FinS.cons ?_; rintro _ rfl; refine ⟨_, by simp only [Act.put, List.setIfInBounds_toArray, List.set_cons_succ, List.set_cons_zero]; first | done | rfl, ?_⟩
    refine FinS.cons ?_; rintro _ rfl; refine ⟨_, by simp only [Act.put, List.setIfInBounds_toArray, List.set_cons_succ, List.set_cons_zero]; first | done | rfl, ?_⟩
    refine FinS.cons ?_; rintro _ rfl; refine ⟨_, by simp only [Act.put, List.setIfInBounds_toArray, List.set_cons_succ, List.set_cons_zero]; first | done | rfl, ?_⟩
    refine FinS.cons ?_; rintro _ rfl; refine ⟨_, by simp only [Act.put, List.setIfInBounds_toArray, List.set_cons_succ, List.set_cons_zero]; first | done | rfl, ?_⟩
    refine FinS.cons ?_; rintro _ rfl; refine ⟨_, by simp only [Act.put, List.setIfInBounds_toArray, List.set_cons_succ, List.set_cons_zero]; first | done | rfl, ?_⟩
    refine FinS.cons ?_; rintro _ rfl; refine ⟨_, by simp only [Act.put, List.setIfInBounds_toArray, List.set_cons_succ, List.set_cons_zero]; first | done | rfl, ?_⟩
    refine FinS.cons ?_; rintro _ rfl; refine ⟨_, by simp only [Act.put, List.setIfInBounds_toArray, List.set_cons_succ, List.set_cons_zero]; first | done | rfl, ?_⟩
    refine FinS.cons ?_; rintro _ rfl; refine ⟨_, by simp only [Act.put, List.setIfInBounds_toArray, List.set_cons_succ, List.set_cons_zero]; first | done | rfl, ?_⟩
    refine FinS.cons fun v9 h9 => ⟨_, by simp only [Act.put, List.setIfInBounds_toArray, List.set_cons_succ, List.set_cons_zero]; first | done | rfl, ?_⟩
    refine FinS.cons ?_; rintro _ rfl; refine ⟨_, by simp only [Act.put, List.setIfInBounds_toArray, List.set_cons_succ, List.set_cons_zero]; first | done | rfl, ?_⟩
    refine FinS.cons ?_; rintro _ rfl; refine ⟨_, by simp only [Act.put, List.setIfInBounds_toArray, List.set_cons_succ, List.set_cons_zero]; first | done | rfl, ?_⟩
    refine FinS.cons ?_; rintro _ rfl; refine ⟨_, by simp only [Act.put, List.setIfInBounds_toArray, List.set_cons_succ, List.set_cons_zero]; first | done | rfl, ?_⟩
    refine FinS.cons ?_; rintro _ rfl; refine ⟨_, by simp only [Act.put, List.setIfInBounds_toArray, List.set_cons_succ, List.set_cons_zero]; first | done | rfl, ?_⟩
    refine FinS.cons ?_; rintro _ rfl; refine ⟨_, by simp only [Act.put, List.setIfInBounds_toArray, List.set_cons_succ, List.set_cons_zero]; first | done | rfl, ?_⟩
    refine FinS.cons ?_; rintro _ rfl; refine ⟨_, by simp only [Act.put, List.setIfInBounds_toArray, List.set_cons_succ, List.set_cons_zero]; first | done | rfl, ?_⟩
    first | show Exit.then _ _ _ _ _ | show Exit.inBlock _ _ _ _ _
    go_wp2
    go_ret
    exact ⟨rfl, hwR.drew⟩

end Go.Proofs.Ytjggiameajndgab
