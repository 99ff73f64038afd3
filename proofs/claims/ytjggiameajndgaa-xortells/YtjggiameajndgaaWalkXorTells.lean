/-
  The statement that Two, All and Even are the document's own, walked: whatever blocks: it returns true, and nothing old turns.
-/
import Derived.Test.YtjggiameajndgaaWalkRefXor
namespace Go.Proofs.Ytjggiameajndgaa
open Go.RowKit

theorem Bss.lit1 {w : World} {va : Value} {a : List Int} (ha : Bs w va a) : Bss (w.alloc (.cells #[va] 22)) (.slice (some ⟨w.heap.size, 0, none⟩) 1 1) [a] :=
  Sl.row (us := [va]) (heap_alloc_new w _) rfl rfl (by unfold maxLen; omega) (fun i u x hu hx => by
    match i, hu, hx with
    | 0, hu, hx => simp at hu hx; subst hu hx; exact ha.grow (Grow.alloc _ _)
    | n + 1, hu, _ => simp at hu)

theorem Bss.lit2 {w : World} {va vb : Value} {a b : List Int} (ha : Bs w va a) (hb : Bs w vb b) : Bss (w.alloc (.cells #[va, vb] 22)) (.slice (some ⟨w.heap.size, 0, none⟩) 2 2) [a, b] :=
  Sl.row (us := [va, vb]) (heap_alloc_new w _) rfl rfl (by unfold maxLen; omega) (fun i u x hu hx => by
    match i, hu, hx with
    | 0, hu, hx => simp at hu hx; subst hu hx; exact ha.grow (Grow.alloc _ _)
    | 1, hu, hx => simp at hu hx; subst hu hx; exact hb.grow (Grow.alloc _ _)
    | n + 2, hu, _ => simp at hu)

theorem Bss.lit3 {w : World} {va vb vc : Value} {a b c : List Int} (ha : Bs w va a) (hb : Bs w vb b) (hc : Bs w vc c) : Bss (w.alloc (.cells #[va, vb, vc] 22)) (.slice (some ⟨w.heap.size, 0, none⟩) 3 3) [a, b, c] :=
  Sl.row (us := [va, vb, vc]) (heap_alloc_new w _) rfl rfl (by unfold maxLen; omega) (fun i u x hu hx => by
    match i, hu, hx with
    | 0, hu, hx => simp at hu hx; subst hu hx; exact ha.grow (Grow.alloc _ _)
    | 1, hu, hx => simp at hu hx; subst hu hx; exact hb.grow (Grow.alloc _ _)
    | 2, hu, hx => simp at hu hx; subst hu hx; exact hc.grow (Grow.alloc _ _)
    | n + 3, hu, _ => simp at hu)

/-- Noughts. -/
def noughts : List Int := [0, 0, 0, 0]

theorem two_blocks {a b : List Int} (ha : a.length = 4) (hb : b.length = 4) : ∀ x ∈ [a, b], x.length = 4 := by
  intro x hx; simp at hx; rcases hx with rfl | rfl <;> assumption

set_option maxRecDepth 20000 in
set_option maxHeartbeats 3200000 in
theorem xorTells_walk (v va vb : Value) (ls : List (List Int)) (a b : List Int) (w : World) (h : Bss w v ls) (ha : Bs w va a) (hb : Bs w vb b) :
    Calls Try.prog 8 #[v, va, vb] w fun e w' => e = .returned (.bool true) ∧ Grow w w' := by
  obtain ⟨aa, na, ca, rfl⟩ := ha.form
  obtain ⟨ab, nb, cb, rfl⟩ := hb.form
  have hR := right3_any v ls w h
  by_cases hr : rightB ls = true
  · rw [hr] at hR
    obtain ⟨hl4, hl50⟩ := right_all hr
    have hR2 := right3_any _ _ _ (Bss.lit2 ha hb)
    have hg2 : Grow w (w.alloc (.cells #[.slice aa na ca, .slice ab nb cb] 22)) := Grow.alloc _ _
    by_cases hr2 : rightB [a, b] = true
    · rw [hr2] at hR2
      have hab := (right_all hr2).1
      have hla : a.length = 4 := hab a (by simp)
      have hlb : b.length = 4 := hab b (by simp)
      have hox := xorAll_octets h.octets
      go_enter Try.func8, Try.ntmps8
      go_wp2_with fail
      refine hR.mono ?_
      rintro e w1 ⟨rfl, rfl⟩
      go_wp2_with fail
      refine hR2.mono ?_
      rintro e w2 ⟨rfl, rfl⟩
      go_wp2_with fail
      refine (refXor_any v ls _ (h.grow hg2) hl4).mono ?_
      rintro e w3 ⟨r, rfl, ⟨g, cap, rfl, hx⟩, hg3⟩
      have hg := hg2.trans hg3
      clear hR hR2 hg2 hg3
      have h3 := h.grow hg
      have ha3 := ha.grow hg
      have hb3 := hb.grow hg
      rw [xorAll_length] at hx ⊢
      go_wp2_with fail
      refine wp_region_stable Grow [IsV (.slice aa na ca), IsV (.slice ab nb cb), NewBs (xorAll [a, b]), IsV (.string (strOfNums (xorAll [a, b]))), IsV (.slice aa na ca), IsV (.slice ab nb cb), NewBss [a, b], NewBs (xorAll [a, b]), IsV (.string (strOfNums (xorAll [a, b]))), IsV (.bool true), IsV (.bool true), IsV (v), NewBs (xorAll ls), IsV (.string (strOfNums (xorAll ls))), IsV (.slice (some ⟨g, 0, none⟩) 4 cap), IsV (.string (strOfNums (xorAll ls))), IsV (.bool true), IsV (.bool true), IsV (.bool true), IsV (v), IsV (.bool (evenB (xorAll ls))), IsV (.slice (some ⟨g, 0, none⟩) 4 cap), IsV (.string (strOfNums (xorAll ls))), NewBs noughts, IsV (.string (strOfNums (noughts))), IsV (.bool (evenB (xorAll ls))), IsV (.bool true), IsV (.bool true), IsV (.bool true)] (by kernel_rfl) (by kernel_rfl) rfl Grow.refl (fun _ _ _ => Grow.trans) ?_ ?_ ?_
      · repeat (refine List.forall_mem_cons.2 ⟨by first | exact IsV.stable _ | exact NewBs.stable _ | exact NewBss.stable _, ?_⟩)
        exact fun R hR => nomatch hR
      · skip
        refine StepsS.cons ?_ fun v0 => ⟨_, _, by simp only [Act.put, List.setIfInBounds_toArray, List.set_cons_succ, List.set_cons_zero]; first | done | rfl, by simp only [List.nil_append]; first | done | rfl, ?_⟩
        · intro w1 hE hd
          clear hd
          go_wp2
          exact ⟨_, rfl, Grow.refl _, rfl⟩
        refine StepsS.cons ?_ fun v1 => ⟨_, _, by simp only [Act.put, List.setIfInBounds_toArray, List.set_cons_succ, List.set_cons_zero]; first | done | rfl, by simp only [List.nil_append, List.cons_append]; first | done | rfl, ?_⟩
        · intro w1 hE hd
          clear hd
          go_wp2
          exact ⟨_, rfl, Grow.refl _, rfl⟩
        refine StepsS.cons ?_ fun v2 => ⟨_, _, by simp only [Act.put, List.setIfInBounds_toArray, List.set_cons_succ, List.set_cons_zero]; first | done | rfl, by simp only [List.nil_append, List.cons_append]; first | done | rfl, ?_⟩
        · intro w1 hE hd
          obtain rfl := IsV.eq (dep_at hd 0 rfl rfl rfl)
          obtain rfl := IsV.eq (dep_at hd 1 rfl rfl rfl)
          clear hd
          go_wp2_with fail
          refine (two_any _ _ a b _ (ha3.grow hE.drew) (hb3.grow hE.drew) hla hlb).mono ?_
          rintro e w4 ⟨r', rfl, hr', hg4⟩
          go_wp2_with fail
          exact ⟨_, rfl, hg4, hr'⟩
        refine StepsS.cons ?_ fun v3 => ⟨_, _, by simp only [Act.put, List.setIfInBounds_toArray, List.set_cons_succ, List.set_cons_zero]; first | done | rfl, by simp only [List.nil_append, List.cons_append]; first | done | rfl, ?_⟩
        · intro w1 hE hd
          have d2 := dep_at hd 0 rfl rfl rfl
          clear hd
          obtain ⟨g', c', rfl, hb'⟩ := d2
          have hcv := run_convert_bs (P := Try.prog) 22 5 9 Try.underlying22 Try.underlying5 Try.underlying9 hb'
          go_wp2
          exact ⟨_, rfl, Grow.refl _, rfl⟩
        refine StepsS.cons ?_ fun v4 => ⟨_, _, by simp only [Act.put, List.setIfInBounds_toArray, List.set_cons_succ, List.set_cons_zero]; first | done | rfl, by simp only [List.nil_append, List.cons_append]; first | done | rfl, ?_⟩
        · intro w1 hE hd
          clear hd
          go_wp2
          exact ⟨_, rfl, Grow.refl _, rfl⟩
        refine StepsS.cons ?_ fun v5 => ⟨_, _, by simp only [Act.put, List.setIfInBounds_toArray, List.set_cons_succ, List.set_cons_zero]; first | done | rfl, by simp only [List.nil_append, List.cons_append]; first | done | rfl, ?_⟩
        · intro w1 hE hd
          clear hd
          go_wp2
          exact ⟨_, rfl, Grow.refl _, rfl⟩
        refine StepsS.cons ?_ fun v6 => ⟨_, _, by simp only [Act.put, List.setIfInBounds_toArray, List.set_cons_succ, List.set_cons_zero]; first | done | rfl, by simp only [List.nil_append, List.cons_append]; first | done | rfl, ?_⟩
        · intro w1 hE hd
          obtain rfl := IsV.eq (dep_at hd 0 rfl rfl rfl)
          obtain rfl := IsV.eq (dep_at hd 1 rfl rfl rfl)
          clear hd
          go_wp2
          exact ⟨_, rfl, Grow.alloc _ _, _, _, rfl, Bss.lit2 (ha3.grow hE.drew) (hb3.grow hE.drew)⟩
        refine StepsS.cons ?_ fun v7 => ⟨_, _, by simp only [Act.put, List.setIfInBounds_toArray, List.set_cons_succ, List.set_cons_zero]; first | done | rfl, by simp only [List.nil_append, List.cons_append]; first | done | rfl, ?_⟩
        · intro w1 hE hd
          have d6 := dep_at hd 0 rfl rfl rfl
          clear hd
          obtain ⟨g6, c6, rfl, hb6⟩ := d6
          go_wp2_with fail
          refine (refXor_any _ [a, b] _ hb6 (two_blocks hla hlb)).mono ?_
          rintro e w4 ⟨r', rfl, hr', hg4⟩
          go_wp2_with fail
          exact ⟨_, rfl, hg4, hr'⟩
        refine StepsS.cons ?_ fun v8 => ⟨_, _, by simp only [Act.put, List.setIfInBounds_toArray, List.set_cons_succ, List.set_cons_zero]; first | done | rfl, by simp only [List.nil_append, List.cons_append]; first | done | rfl, ?_⟩
        · intro w1 hE hd
          have d7 := dep_at hd 0 rfl rfl rfl
          clear hd
          obtain ⟨g', c', rfl, hb'⟩ := d7
          have hcv := run_convert_bs (P := Try.prog) 22 5 9 Try.underlying22 Try.underlying5 Try.underlying9 hb'
          go_wp2
          exact ⟨_, rfl, Grow.refl _, rfl⟩
        refine StepsS.cons ?_ fun v9 => ⟨_, _, by simp only [Act.put, List.setIfInBounds_toArray, List.set_cons_succ, List.set_cons_zero]; first | done | rfl, by simp only [List.nil_append, List.cons_append]; first | done | rfl, ?_⟩
        · intro w1 hE hd
          obtain rfl := IsV.eq (dep_at hd 0 rfl rfl rfl)
          obtain rfl := IsV.eq (dep_at hd 1 rfl rfl rfl)
          clear hd
          go_wp2
          exact ⟨_, rfl, Grow.refl _, rfl⟩
        refine StepsS.cons ?_ fun v10 => ⟨_, _, by simp only [Act.put, List.setIfInBounds_toArray, List.set_cons_succ, List.set_cons_zero]; first | done | rfl, by simp only [List.nil_append, List.cons_append]; first | done | rfl, ?_⟩
        · intro w1 hE hd
          obtain rfl := IsV.eq (dep_at hd 0 rfl rfl rfl)
          clear hd
          go_wp2
          exact ⟨_, rfl, Grow.refl _, rfl⟩
        refine StepsS.cons ?_ fun v11 => ⟨_, _, by simp only [Act.put, List.setIfInBounds_toArray, List.set_cons_succ, List.set_cons_zero]; first | done | rfl, by simp only [List.nil_append, List.cons_append]; first | done | rfl, ?_⟩
        · intro w1 hE hd
          obtain rfl := IsV.eq (dep_at hd 0 rfl rfl rfl)
          clear hd
          go_wp2
          exact ⟨_, rfl, Grow.refl _, rfl⟩
        refine StepsS.cons ?_ fun v12 => ⟨_, _, by simp only [Act.put, List.setIfInBounds_toArray, List.set_cons_succ, List.set_cons_zero]; first | done | rfl, by simp only [List.nil_append, List.cons_append]; first | done | rfl, ?_⟩
        · intro w1 hE hd
          obtain rfl := IsV.eq (dep_at hd 0 rfl rfl rfl)
          obtain rfl := IsV.eq (dep_at hd 1 rfl rfl rfl)
          clear hd
          go_wp2_with fail
          refine (all_any _ ls _ (h3.grow hE.drew) hl4).mono ?_
          rintro e w4 ⟨r', rfl, hr', hg4⟩
          go_wp2_with fail
          exact ⟨_, rfl, hg4, hr'⟩
        refine StepsS.cons ?_ fun v13 => ⟨_, _, by simp only [Act.put, List.setIfInBounds_toArray, List.set_cons_succ, List.set_cons_zero]; first | done | rfl, by simp only [List.nil_append, List.cons_append]; first | done | rfl, ?_⟩
        · intro w1 hE hd
          have d12 := dep_at hd 0 rfl rfl rfl
          obtain rfl := IsV.eq (dep_at hd 1 rfl rfl rfl)
          clear hd
          obtain ⟨g', c', rfl, hb'⟩ := d12
          have hcv := run_convert_bs (P := Try.prog) 22 5 9 Try.underlying22 Try.underlying5 Try.underlying9 hb'
          go_wp2
          exact ⟨_, rfl, Grow.refl _, rfl⟩
        refine StepsS.cons ?_ fun v14 => ⟨_, _, by simp only [Act.put, List.setIfInBounds_toArray, List.set_cons_succ, List.set_cons_zero]; first | done | rfl, by simp only [List.nil_append, List.cons_append]; first | done | rfl, ?_⟩
        · intro w1 hE hd
          obtain rfl := IsV.eq (dep_at hd 0 rfl rfl rfl)
          clear hd
          go_wp2
          exact ⟨_, rfl, Grow.refl _, rfl⟩
        refine StepsS.cons ?_ fun v15 => ⟨_, _, by simp only [Act.put, List.setIfInBounds_toArray, List.set_cons_succ, List.set_cons_zero]; first | done | rfl, by simp only [List.nil_append, List.cons_append]; first | done | rfl, ?_⟩
        · intro w1 hE hd
          obtain rfl := IsV.eq (dep_at hd 0 rfl rfl rfl)
          obtain rfl := IsV.eq (dep_at hd 1 rfl rfl rfl)
          clear hd
          have hcv := run_convert_bs (P := Try.prog) 22 5 9 Try.underlying22 Try.underlying5 Try.underlying9 (hx.grow hE.drew)
          go_wp2
          exact ⟨_, rfl, Grow.refl _, rfl⟩
        refine StepsS.cons ?_ fun v16 => ⟨_, _, by simp only [Act.put, List.setIfInBounds_toArray, List.set_cons_succ, List.set_cons_zero]; first | done | rfl, by simp only [List.nil_append, List.cons_append]; first | done | rfl, ?_⟩
        · intro w1 hE hd
          obtain rfl := IsV.eq (dep_at hd 0 rfl rfl rfl)
          obtain rfl := IsV.eq (dep_at hd 1 rfl rfl rfl)
          obtain rfl := IsV.eq (dep_at hd 2 rfl rfl rfl)
          clear hd
          go_wp2
          exact ⟨_, rfl, Grow.refl _, rfl⟩
        refine StepsS.cons ?_ fun v17 => ⟨_, _, by simp only [Act.put, List.setIfInBounds_toArray, List.set_cons_succ, List.set_cons_zero]; first | done | rfl, by simp only [List.nil_append, List.cons_append]; first | done | rfl, ?_⟩
        · intro w1 hE hd
          obtain rfl := IsV.eq (dep_at hd 0 rfl rfl rfl)
          obtain rfl := IsV.eq (dep_at hd 1 rfl rfl rfl)
          clear hd
          go_wp2
          exact ⟨_, rfl, Grow.refl _, rfl⟩
        refine StepsS.cons ?_ fun v18 => ⟨_, _, by simp only [Act.put, List.setIfInBounds_toArray, List.set_cons_succ, List.set_cons_zero]; first | done | rfl, by simp only [List.nil_append, List.cons_append]; first | done | rfl, ?_⟩
        · intro w1 hE hd
          obtain rfl := IsV.eq (dep_at hd 0 rfl rfl rfl)
          clear hd
          go_wp2
          exact ⟨_, rfl, Grow.refl _, rfl⟩
        refine StepsS.cons ?_ fun v19 => ⟨_, _, by simp only [Act.put, List.setIfInBounds_toArray, List.set_cons_succ, List.set_cons_zero]; first | done | rfl, by simp only [List.nil_append, List.cons_append]; first | done | rfl, ?_⟩
        · intro w1 hE hd
          obtain rfl := IsV.eq (dep_at hd 0 rfl rfl rfl)
          clear hd
          go_wp2
          exact ⟨_, rfl, Grow.refl _, rfl⟩
        refine StepsS.cons ?_ fun v20 => ⟨_, _, by simp only [Act.put, List.setIfInBounds_toArray, List.set_cons_succ, List.set_cons_zero]; first | done | rfl, by simp only [List.nil_append, List.cons_append]; first | done | rfl, ?_⟩
        · intro w1 hE hd
          obtain rfl := IsV.eq (dep_at hd 0 rfl rfl rfl)
          obtain rfl := IsV.eq (dep_at hd 1 rfl rfl rfl)
          clear hd
          go_wp2_with fail
          refine (even_any _ ls _ (h3.grow hE.drew) hl4).mono ?_
          rintro e w4 ⟨rfl, hg4⟩
          go_wp2_with fail
          exact ⟨_, rfl, hg4, rfl⟩
        refine StepsS.cons ?_ fun v21 => ⟨_, _, by simp only [Act.put, List.setIfInBounds_toArray, List.set_cons_succ, List.set_cons_zero]; first | done | rfl, by simp only [List.nil_append, List.cons_append]; first | done | rfl, ?_⟩
        · intro w1 hE hd
          obtain rfl := IsV.eq (dep_at hd 0 rfl rfl rfl)
          clear hd
          go_wp2
          exact ⟨_, rfl, Grow.refl _, rfl⟩
        refine StepsS.cons ?_ fun v22 => ⟨_, _, by simp only [Act.put, List.setIfInBounds_toArray, List.set_cons_succ, List.set_cons_zero]; first | done | rfl, by simp only [List.nil_append, List.cons_append]; first | done | rfl, ?_⟩
        · intro w1 hE hd
          obtain rfl := IsV.eq (dep_at hd 0 rfl rfl rfl)
          obtain rfl := IsV.eq (dep_at hd 1 rfl rfl rfl)
          clear hd
          have hcv := run_convert_bs (P := Try.prog) 22 5 9 Try.underlying22 Try.underlying5 Try.underlying9 (hx.grow hE.drew)
          go_wp2
          exact ⟨_, rfl, Grow.refl _, rfl⟩
        refine StepsS.cons ?_ fun v23 => ⟨_, _, by simp only [Act.put, List.setIfInBounds_toArray, List.set_cons_succ, List.set_cons_zero]; first | done | rfl, by simp only [List.nil_append, List.cons_append]; first | done | rfl, ?_⟩
        · intro w1 hE hd
          obtain rfl := IsV.eq (dep_at hd 0 rfl rfl rfl)
          clear hd
          have hmk := Try.made4 w1
          go_wp2
          exact ⟨_, rfl, Grow.alloc _ _, NewBs.row (l := noughts) (heap_alloc_new _ _) rfl nought_octets⟩
        refine StepsS.cons ?_ fun v24 => ⟨_, _, by simp only [Act.put, List.setIfInBounds_toArray, List.set_cons_succ, List.set_cons_zero]; first | done | rfl, by simp only [List.nil_append, List.cons_append]; first | done | rfl, ?_⟩
        · intro w1 hE hd
          have d23 := dep_at hd 0 rfl rfl rfl
          obtain rfl := IsV.eq (dep_at hd 1 rfl rfl rfl)
          clear hd
          obtain ⟨g', c', rfl, hb'⟩ := d23
          have hcv := run_convert_bs (P := Try.prog) 22 5 9 Try.underlying22 Try.underlying5 Try.underlying9 hb'
          go_wp2
          exact ⟨_, rfl, Grow.refl _, rfl⟩
        refine StepsS.cons ?_ fun v25 => ⟨_, _, by simp only [Act.put, List.setIfInBounds_toArray, List.set_cons_succ, List.set_cons_zero]; first | done | rfl, by simp only [List.nil_append, List.cons_append]; first | done | rfl, ?_⟩
        · intro w1 hE hd
          obtain rfl := IsV.eq (dep_at hd 0 rfl rfl rfl)
          obtain rfl := IsV.eq (dep_at hd 1 rfl rfl rfl)
          obtain rfl := IsV.eq (dep_at hd 2 rfl rfl rfl)
          clear hd
          go_wp2
          exact ⟨_, rfl, Grow.refl _, congrArg Value.bool (str_beq (b := noughts) hox nought_octets)⟩
        refine StepsS.cons ?_ fun v26 => ⟨_, _, by simp only [Act.put, List.setIfInBounds_toArray, List.set_cons_succ, List.set_cons_zero]; first | done | rfl, by simp only [List.nil_append, List.cons_append]; first | done | rfl, ?_⟩
        · intro w1 hE hd
          obtain rfl := IsV.eq (dep_at hd 0 rfl rfl rfl)
          obtain rfl := IsV.eq (dep_at hd 1 rfl rfl rfl)
          obtain rfl := IsV.eq (dep_at hd 2 rfl rfl rfl)
          clear hd
          go_wp2
          exact ⟨_, rfl, Grow.refl _, rfl⟩
        refine StepsS.cons ?_ fun v27 => ⟨_, _, by simp only [Act.put, List.setIfInBounds_toArray, List.set_cons_succ, List.set_cons_zero]; first | done | rfl, by simp only [List.nil_append, List.cons_append]; first | done | rfl, ?_⟩
        · intro w1 hE hd
          obtain rfl := IsV.eq (dep_at hd 0 rfl rfl rfl)
          obtain rfl := IsV.eq (dep_at hd 1 rfl rfl rfl)
          clear hd
          go_wp2
          exact ⟨_, rfl, Grow.refl _, rfl⟩
        refine StepsS.cons ?_ fun v28 => ⟨_, _, by simp only [Act.put, List.setIfInBounds_toArray, List.set_cons_succ, List.set_cons_zero]; first | done | rfl, by simp only [List.nil_append, List.cons_append]; first | done | rfl, ?_⟩
        · intro w1 hE hd
          obtain rfl := IsV.eq (dep_at hd 0 rfl rfl rfl)
          clear hd
          go_wp2
          exact ⟨_, rfl, Grow.refl _, rfl⟩
        trivial
      intro wR hwR
      refine FinS.cons ?_; rintro _ rfl; refine ⟨_, by simp only [Act.put, List.setIfInBounds_toArray, List.set_cons_succ, List.set_cons_zero]; first | done | rfl, ?_⟩
      refine FinS.cons ?_; rintro _ rfl; refine ⟨_, by simp only [Act.put, List.setIfInBounds_toArray, List.set_cons_succ, List.set_cons_zero]; first | done | rfl, ?_⟩
      refine FinS.cons fun v2 h2 => ⟨_, by simp only [Act.put, List.setIfInBounds_toArray, List.set_cons_succ, List.set_cons_zero]; first | done | rfl, ?_⟩
      refine FinS.cons ?_; rintro _ rfl; refine ⟨_, by simp only [Act.put, List.setIfInBounds_toArray, List.set_cons_succ, List.set_cons_zero]; first | done | rfl, ?_⟩
      refine FinS.cons ?_; rintro _ rfl; refine ⟨_, by simp only [Act.put, List.setIfInBounds_toArray, List.set_cons_succ, List.set_cons_zero]; first | done | rfl, ?_⟩
      refine FinS.cons ?_; rintro _ rfl; refine ⟨_, by simp only [Act.put, List.setIfInBounds_toArray, List.set_cons_succ, List.set_cons_zero]; first | done | rfl, ?_⟩
      refine FinS.cons fun v6 h6 => ⟨_, by simp only [Act.put, List.setIfInBounds_toArray, List.set_cons_succ, List.set_cons_zero]; first | done | rfl, ?_⟩
      refine FinS.cons fun v7 h7 => ⟨_, by simp only [Act.put, List.setIfInBounds_toArray, List.set_cons_succ, List.set_cons_zero]; first | done | rfl, ?_⟩
      refine FinS.cons ?_; rintro _ rfl; refine ⟨_, by simp only [Act.put, List.setIfInBounds_toArray, List.set_cons_succ, List.set_cons_zero]; first | done | rfl, ?_⟩
      refine FinS.cons ?_; rintro _ rfl; refine ⟨_, by simp only [Act.put, List.setIfInBounds_toArray, List.set_cons_succ, List.set_cons_zero]; first | done | rfl, ?_⟩
      refine FinS.cons ?_; rintro _ rfl; refine ⟨_, by simp only [Act.put, List.setIfInBounds_toArray, List.set_cons_succ, List.set_cons_zero]; first | done | rfl, ?_⟩
      refine FinS.cons ?_; rintro _ rfl; refine ⟨_, by simp only [Act.put, List.setIfInBounds_toArray, List.set_cons_succ, List.set_cons_zero]; first | done | rfl, ?_⟩
      refine FinS.cons fun v12 h12 => ⟨_, by simp only [Act.put, List.setIfInBounds_toArray, List.set_cons_succ, List.set_cons_zero]; first | done | rfl, ?_⟩
      refine FinS.cons ?_; rintro _ rfl; refine ⟨_, by simp only [Act.put, List.setIfInBounds_toArray, List.set_cons_succ, List.set_cons_zero]; first | done | rfl, ?_⟩
      refine FinS.cons ?_; rintro _ rfl; refine ⟨_, by simp only [Act.put, List.setIfInBounds_toArray, List.set_cons_succ, List.set_cons_zero]; first | done | rfl, ?_⟩
      refine FinS.cons ?_; rintro _ rfl; refine ⟨_, by simp only [Act.put, List.setIfInBounds_toArray, List.set_cons_succ, List.set_cons_zero]; first | done | rfl, ?_⟩
      refine FinS.cons ?_; rintro _ rfl; refine ⟨_, by simp only [Act.put, List.setIfInBounds_toArray, List.set_cons_succ, List.set_cons_zero]; first | done | rfl, ?_⟩
      refine FinS.cons ?_; rintro _ rfl; refine ⟨_, by simp only [Act.put, List.setIfInBounds_toArray, List.set_cons_succ, List.set_cons_zero]; first | done | rfl, ?_⟩
      refine FinS.cons ?_; rintro _ rfl; refine ⟨_, by simp only [Act.put, List.setIfInBounds_toArray, List.set_cons_succ, List.set_cons_zero]; first | done | rfl, ?_⟩
      refine FinS.cons ?_; rintro _ rfl; refine ⟨_, by simp only [Act.put, List.setIfInBounds_toArray, List.set_cons_succ, List.set_cons_zero]; first | done | rfl, ?_⟩
      refine FinS.cons ?_; rintro _ rfl; refine ⟨_, by simp only [Act.put, List.setIfInBounds_toArray, List.set_cons_succ, List.set_cons_zero]; first | done | rfl, ?_⟩
      refine FinS.cons ?_; rintro _ rfl; refine ⟨_, by simp only [Act.put, List.setIfInBounds_toArray, List.set_cons_succ, List.set_cons_zero]; first | done | rfl, ?_⟩
      refine FinS.cons ?_; rintro _ rfl; refine ⟨_, by simp only [Act.put, List.setIfInBounds_toArray, List.set_cons_succ, List.set_cons_zero]; first | done | rfl, ?_⟩
      refine FinS.cons fun v23 h23 => ⟨_, by simp only [Act.put, List.setIfInBounds_toArray, List.set_cons_succ, List.set_cons_zero]; first | done | rfl, ?_⟩
      refine FinS.cons ?_; rintro _ rfl; refine ⟨_, by simp only [Act.put, List.setIfInBounds_toArray, List.set_cons_succ, List.set_cons_zero]; first | done | rfl, ?_⟩
      refine FinS.cons ?_; rintro _ rfl; refine ⟨_, by simp only [Act.put, List.setIfInBounds_toArray, List.set_cons_succ, List.set_cons_zero]; first | done | rfl, ?_⟩
      refine FinS.cons ?_; rintro _ rfl; refine ⟨_, by simp only [Act.put, List.setIfInBounds_toArray, List.set_cons_succ, List.set_cons_zero]; first | done | rfl, ?_⟩
      refine FinS.cons ?_; rintro _ rfl; refine ⟨_, by simp only [Act.put, List.setIfInBounds_toArray, List.set_cons_succ, List.set_cons_zero]; first | done | rfl, ?_⟩
      refine FinS.cons ?_; rintro _ rfl; refine ⟨_, by simp only [Act.put, List.setIfInBounds_toArray, List.set_cons_succ, List.set_cons_zero]; first | done | rfl, ?_⟩
      first | show Exit.then _ _ _ _ _ | show Exit.inBlock _ _ _ _ _
      go_wp2
      go_ret
      exact ⟨rfl, hg.trans hwR.drew⟩
    · rw [Bool.not_eq_true] at hr2
      rw [hr2] at hR2
      go_enter Try.func8, Try.ntmps8
      go_wp2_with fail
      refine hR.mono ?_
      rintro e w1 ⟨rfl, rfl⟩
      go_wp2_with fail
      refine hR2.mono ?_
      rintro e w2 ⟨rfl, rfl⟩
      go_wp2_with fail
      go_ret
      exact ⟨rfl, hg2⟩
  · rw [Bool.not_eq_true] at hr
    rw [hr] at hR
    go_enter Try.func8, Try.ntmps8
    go_wp2_with fail
    refine hR.mono ?_
    rintro e w1 ⟨rfl, rfl⟩
    go_wp2_with fail
    go_ret
    exact ⟨rfl, Grow.refl _⟩

end Go.Proofs.Ytjggiameajndgaa
