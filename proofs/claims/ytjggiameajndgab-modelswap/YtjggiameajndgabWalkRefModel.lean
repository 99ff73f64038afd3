/-
  What the reference's SameBytes, NewBlocks, Wrong and Do return. Nothing old turns.
-/
import Derived.Test.YtjggiameajndgabModelMath
import Derived.Test.YtjggiameajndgabRowing
import Derived.Test.YtjggiameajndgabWalkRefPlan
namespace Go.Proofs.Ytjggiameajndgab
open Go.RowKit

theorem same_no {a b : List (List Int)} {k : Nat} (h : a.getD k [] ≠ b.getD k []) : (a == b) = false := by
  rw [beq_eq_false_iff_ne]
  intro h0
  exact h (by rw [h0])

theorem same_yes {a b : List (List Int)} (hl : a.length = b.length) (h : ∀ k, k < a.length → a.getD k [] = b.getD k []) : (a == b) = true := by
  rw [beq_iff_eq]
  refine List.ext_getElem hl fun i h1 h2 => ?_
  have := h i h1
  simpa [List.getD_eq_getElem?_getD, h1, h2] using this

theorem same_len {a b : List (List Int)} (h : a.length ≠ b.length) : (a == b) = false := by
  rw [beq_eq_false_iff_ne]
  intro h0
  exact h (by rw [h0])

theorem getD_mem {a : List (List Int)} {k : Nat} (h : k < a.length) : a.getD k [] ∈ a := by simp [List.getD_eq_getElem?_getD, h]

set_option maxRecDepth 20000 in
set_option maxHeartbeats 800000 in
theorem refSame_any (va vb : Value) (a b : List (List Int)) (w : World) (ha : Bss w va a) (hb : Bss w vb b) :
    Calls Try.prog 20 #[va, vb] w fun e w' => e = .returned (.bool (a == b)) ∧ Grow w w' := by
  have hoa := ha.octets
  have hob := hb.octets
  obtain ⟨aa, ca, rfl, h1, h2, h3, h4⟩ := ha
  obtain ⟨ab, cb, rfl, g1, g2, g3, g4⟩ := hb
  unfold maxLen at h2 g2
  by_cases hl : a.length = b.length
  · have HL : Hid (a.length = b.length) := hl
    rw [← hl] at g1 ⊢
    clear hl
    go_enter Try.func20, Try.ntmps20
    go_wp2
    go_loopw [13] (fun i wr => ∃ k : Nat, k ≤ a.length ∧ i = .int .i64 k ∧ Hid (∀ j, j < k → a.getD j [] = b.getD j []) ∧ Grow w wr) (fun i _ => a.length - (intOf i).toNat)
    case atStart => exact ⟨0, by omega, rfl, (fun j hj => by omega), Grow.refl _⟩
    case round =>
      obtain ⟨k, hk, rfl, HK, hgr⟩ := hrel
      by_cases hlt : k < a.length
      · obtain ⟨ba, offa, rfl, hca⟩ := h4 (by omega)
        obtain ⟨bb, offb, rfl, hcb⟩ := g4 (by have := HL.out; omega)
        obtain ⟨xa, cxa, hxa, hba⟩ := Sl.bytesAt hca hlt
        obtain ⟨xb, cxb, hxb, hbb⟩ := Sl.bytesAt hcb (k := k) (by have := HL.out; omega)
        have hxa' := (hgr.cell (p := ⟨ba, offa + k, none⟩) (cell_lt hxa)).trans hxa
        have hxb' := (hgr.cell (p := ⟨bb, offb + k, none⟩) (cell_lt hxb)).trans hxb
        have hba' := hba.grow hgr
        have hbb' := hbb.grow hgr
        have hya := hoa _ (getD_mem hlt)
        have hyb := hob _ (getD_mem (a := b) (k := k) (by have := HL.out; omega))
        have HB : Hid (((strOfNums (a.getD k [])).toList == (strOfNums (b.getD k [])).toList) = (a.getD k [] == b.getD k [])) := str_beq hya hyb
        clear hca hcb h4 g4 hxa hxb hba hbb hya hyb
        by_cases he : a.getD k [] = b.getD k []
        · have HK' : Hid (∀ j, j < k + 1 → a.getD j [] = b.getD j []) := fun j hj => by
            by_cases hjk : j = k
            · subst hjk; exact he
            · exact HK.out j (by omega)
          rw [← he] at hxb' hbb'
          clear he HB
          generalize a.getD k [] = ak at *
          generalize ak.length = n at *
          go_wp2_with fail
          refine wp_region_stable Grow [IsV (.slice (some ⟨ba, offa, none⟩) a.length ca), IsV (.int .i64 k), IsV (.pointer (some ⟨ba, offa + k, none⟩)), IsV (.slice xa n cxa), IsV (.string (strOfNums (ak))), IsV (.slice (some ⟨bb, offb, none⟩) a.length cb), IsV (.int .i64 k), IsV (.pointer (some ⟨bb, offb + k, none⟩)), IsV (.slice xb n cxb), IsV (.string (strOfNums (ak))), IsV (.bool false)] (by kernel_rfl) (by kernel_rfl) rfl Grow.refl (fun _ _ _ => Grow.trans) ?_ ?_ ?_
          · repeat (refine List.forall_mem_cons.2 ⟨by first | exact IsV.stable _, ?_⟩)
            exact fun R hR => nomatch hR
          · skip
            refine StepsS.cons ?_ fun v0 => ⟨_, _, by simp only [Act.put, List.setIfInBounds_toArray, List.set_cons_succ, List.set_cons_zero]; first | done | rfl, by simp only [List.nil_append]; first | done | rfl, ?_⟩
            · intro w1 hE hd
              clear hd
              go_wp2
              exact ⟨_, rfl, Grow.refl _, rfl⟩
            refine StepsS.cons ?_ fun v1 => ⟨_, _, by simp only [Act.put, List.setIfInBounds_toArray, List.set_cons_succ, List.set_cons_zero]; first | done | rfl, by simp only [List.nil_append, List.cons_append]; first | done | rfl, ?_⟩
            · intro w1 hE hd
              clear hd
              go_wp2
              exact ⟨_, rfl, Grow.refl _, rfl⟩
            refine StepsS.cons ?_ fun v2 => ⟨_, _, by simp only [Act.put, List.setIfInBounds_toArray, List.set_cons_succ, List.set_cons_zero]; first | done | rfl, by simp only [List.nil_append, List.cons_append]; first | done | rfl, ?_⟩
            · intro w1 hE hd
              obtain rfl := IsV.eq (dep_at hd 0 rfl rfl rfl)
              obtain rfl := IsV.eq (dep_at hd 1 rfl rfl rfl)
              clear hd
              go_wp2
              exact ⟨_, rfl, Grow.refl _, rfl⟩
            refine StepsS.cons ?_ fun v3 => ⟨_, _, by simp only [Act.put, List.setIfInBounds_toArray, List.set_cons_succ, List.set_cons_zero]; first | done | rfl, by simp only [List.nil_append, List.cons_append]; first | done | rfl, ?_⟩
            · intro w1 hE hd
              obtain rfl := IsV.eq (dep_at hd 0 rfl rfl rfl)
              clear hd
              have hcq1 := (hE.drew.cell (p := ⟨ba, offa + k, none⟩) (cell_lt hxa')).trans hxa'
              go_wp2
              exact ⟨_, rfl, Grow.refl _, rfl⟩
            refine StepsS.cons ?_ fun v4 => ⟨_, _, by simp only [Act.put, List.setIfInBounds_toArray, List.set_cons_succ, List.set_cons_zero]; first | done | rfl, by simp only [List.nil_append, List.cons_append]; first | done | rfl, ?_⟩
            · intro w1 hE hd
              obtain rfl := IsV.eq (dep_at hd 0 rfl rfl rfl)
              clear hd
              have hcv := run_convert_bs (P := Try.prog) 23 5 9 Try.underlying23 Try.underlying5 Try.underlying9 (hba'.grow hE.drew)
              go_wp2
              exact ⟨_, rfl, Grow.refl _, rfl⟩
            refine StepsS.cons ?_ fun v5 => ⟨_, _, by simp only [Act.put, List.setIfInBounds_toArray, List.set_cons_succ, List.set_cons_zero]; first | done | rfl, by simp only [List.nil_append, List.cons_append]; first | done | rfl, ?_⟩
            · intro w1 hE hd
              clear hd
              go_wp2
              exact ⟨_, rfl, Grow.refl _, rfl⟩
            refine StepsS.cons ?_ fun v6 => ⟨_, _, by simp only [Act.put, List.setIfInBounds_toArray, List.set_cons_succ, List.set_cons_zero]; first | done | rfl, by simp only [List.nil_append, List.cons_append]; first | done | rfl, ?_⟩
            · intro w1 hE hd
              clear hd
              go_wp2
              exact ⟨_, rfl, Grow.refl _, rfl⟩
            refine StepsS.cons ?_ fun v7 => ⟨_, _, by simp only [Act.put, List.setIfInBounds_toArray, List.set_cons_succ, List.set_cons_zero]; first | done | rfl, by simp only [List.nil_append, List.cons_append]; first | done | rfl, ?_⟩
            · intro w1 hE hd
              obtain rfl := IsV.eq (dep_at hd 0 rfl rfl rfl)
              obtain rfl := IsV.eq (dep_at hd 1 rfl rfl rfl)
              clear hd
              go_wp2
              exact ⟨_, rfl, Grow.refl _, rfl⟩
            refine StepsS.cons ?_ fun v8 => ⟨_, _, by simp only [Act.put, List.setIfInBounds_toArray, List.set_cons_succ, List.set_cons_zero]; first | done | rfl, by simp only [List.nil_append, List.cons_append]; first | done | rfl, ?_⟩
            · intro w1 hE hd
              obtain rfl := IsV.eq (dep_at hd 0 rfl rfl rfl)
              clear hd
              have hcq1 := (hE.drew.cell (p := ⟨bb, offb + k, none⟩) (cell_lt hxb')).trans hxb'
              go_wp2
              exact ⟨_, rfl, Grow.refl _, rfl⟩
            refine StepsS.cons ?_ fun v9 => ⟨_, _, by simp only [Act.put, List.setIfInBounds_toArray, List.set_cons_succ, List.set_cons_zero]; first | done | rfl, by simp only [List.nil_append, List.cons_append]; first | done | rfl, ?_⟩
            · intro w1 hE hd
              obtain rfl := IsV.eq (dep_at hd 0 rfl rfl rfl)
              clear hd
              have hcv := run_convert_bs (P := Try.prog) 23 5 9 Try.underlying23 Try.underlying5 Try.underlying9 (hbb'.grow hE.drew)
              go_wp2
              exact ⟨_, rfl, Grow.refl _, rfl⟩
            refine StepsS.cons ?_ fun v10 => ⟨_, _, by simp only [Act.put, List.setIfInBounds_toArray, List.set_cons_succ, List.set_cons_zero]; first | done | rfl, by simp only [List.nil_append, List.cons_append]; first | done | rfl, ?_⟩
            · intro w1 hE hd
              obtain rfl := IsV.eq (dep_at hd 0 rfl rfl rfl)
              obtain rfl := IsV.eq (dep_at hd 1 rfl rfl rfl)
              clear hd
              go_wp2
              exact ⟨_, rfl, Grow.refl _, rfl⟩
            trivial
          intro wR hwR
          refine FinS.cons ?_; rintro _ rfl; refine ⟨_, by simp only [Act.put, List.setIfInBounds_toArray, List.set_cons_succ, List.set_cons_zero]; first | done | rfl, ?_⟩
          refine FinS.cons ?_; rintro _ rfl; refine ⟨_, by simp only [Act.put, List.setIfInBounds_toArray, List.set_cons_succ, List.set_cons_zero]; first | done | rfl, ?_⟩
          refine FinS.cons ?_; rintro _ rfl; refine ⟨_, by simp only [Act.put, List.setIfInBounds_toArray, List.set_cons_succ, List.set_cons_zero]; first | done | rfl, ?_⟩
          refine FinS.cons ?_; rintro _ rfl; refine ⟨_, by simp only [Act.put, List.setIfInBounds_toArray, List.set_cons_succ, List.set_cons_zero]; first | done | rfl, ?_⟩
          refine FinS.cons ?_; rintro _ rfl; refine ⟨_, by simp only [Act.put, List.setIfInBounds_toArray, List.set_cons_succ, List.set_cons_zero]; first | done | rfl, ?_⟩
          refine FinS.cons ?_; rintro _ rfl; refine ⟨_, by simp only [Act.put, List.setIfInBounds_toArray, List.set_cons_succ, List.set_cons_zero]; first | done | rfl, ?_⟩
          refine FinS.cons ?_; rintro _ rfl; refine ⟨_, by simp only [Act.put, List.setIfInBounds_toArray, List.set_cons_succ, List.set_cons_zero]; first | done | rfl, ?_⟩
          refine FinS.cons ?_; rintro _ rfl; refine ⟨_, by simp only [Act.put, List.setIfInBounds_toArray, List.set_cons_succ, List.set_cons_zero]; first | done | rfl, ?_⟩
          refine FinS.cons ?_; rintro _ rfl; refine ⟨_, by simp only [Act.put, List.setIfInBounds_toArray, List.set_cons_succ, List.set_cons_zero]; first | done | rfl, ?_⟩
          refine FinS.cons ?_; rintro _ rfl; refine ⟨_, by simp only [Act.put, List.setIfInBounds_toArray, List.set_cons_succ, List.set_cons_zero]; first | done | rfl, ?_⟩
          refine FinS.cons ?_; rintro _ rfl; refine ⟨_, by simp only [Act.put, List.setIfInBounds_toArray, List.set_cons_succ, List.set_cons_zero]; first | done | rfl, ?_⟩
          first | show Exit.then _ _ _ _ _ | show Exit.inBlock _ _ _ _ _
          go_wp2
          go_roundw
          case rel => first | exact ⟨k + 1, by omega, by go_num, HK', hgr.trans hwR.drew⟩ | ((repeat apply Exists.intro); exact ⟨⟨k + 1, by omega, by go_num, HK', hgr.trans hwR.drew⟩, rfl⟩)
          case measure => simp [intOf]; omega
        · have HE : Hid ((a == b) = false) := same_no he
          have HF : Hid ((a.getD k [] == b.getD k []) = false) := by rw [Hid, beq_eq_false_iff_ne]; exact he
          clear he
          generalize a.getD k [] = ak at *
          generalize b.getD k [] = bk at *
          generalize ak.length = n at *
          generalize bk.length = m at *
          go_wp2_with fail
          refine wp_region_stable Grow [IsV (.slice (some ⟨ba, offa, none⟩) a.length ca), IsV (.int .i64 k), IsV (.pointer (some ⟨ba, offa + k, none⟩)), IsV (.slice xa n cxa), IsV (.string (strOfNums (ak))), IsV (.slice (some ⟨bb, offb, none⟩) a.length cb), IsV (.int .i64 k), IsV (.pointer (some ⟨bb, offb + k, none⟩)), IsV (.slice xb m cxb), IsV (.string (strOfNums (bk))), IsV (.bool (true))] (by kernel_rfl) (by kernel_rfl) rfl Grow.refl (fun _ _ _ => Grow.trans) ?_ ?_ ?_
          · repeat (refine List.forall_mem_cons.2 ⟨by first | exact IsV.stable _, ?_⟩)
            exact fun R hR => nomatch hR
          · skip
            refine StepsS.cons ?_ fun v0 => ⟨_, _, by simp only [Act.put, List.setIfInBounds_toArray, List.set_cons_succ, List.set_cons_zero]; first | done | rfl, by simp only [List.nil_append]; first | done | rfl, ?_⟩
            · intro w1 hE hd
              clear hd
              go_wp2
              exact ⟨_, rfl, Grow.refl _, rfl⟩
            refine StepsS.cons ?_ fun v1 => ⟨_, _, by simp only [Act.put, List.setIfInBounds_toArray, List.set_cons_succ, List.set_cons_zero]; first | done | rfl, by simp only [List.nil_append, List.cons_append]; first | done | rfl, ?_⟩
            · intro w1 hE hd
              clear hd
              go_wp2
              exact ⟨_, rfl, Grow.refl _, rfl⟩
            refine StepsS.cons ?_ fun v2 => ⟨_, _, by simp only [Act.put, List.setIfInBounds_toArray, List.set_cons_succ, List.set_cons_zero]; first | done | rfl, by simp only [List.nil_append, List.cons_append]; first | done | rfl, ?_⟩
            · intro w1 hE hd
              obtain rfl := IsV.eq (dep_at hd 0 rfl rfl rfl)
              obtain rfl := IsV.eq (dep_at hd 1 rfl rfl rfl)
              clear hd
              go_wp2
              exact ⟨_, rfl, Grow.refl _, rfl⟩
            refine StepsS.cons ?_ fun v3 => ⟨_, _, by simp only [Act.put, List.setIfInBounds_toArray, List.set_cons_succ, List.set_cons_zero]; first | done | rfl, by simp only [List.nil_append, List.cons_append]; first | done | rfl, ?_⟩
            · intro w1 hE hd
              obtain rfl := IsV.eq (dep_at hd 0 rfl rfl rfl)
              clear hd
              have hcq1 := (hE.drew.cell (p := ⟨ba, offa + k, none⟩) (cell_lt hxa')).trans hxa'
              go_wp2
              exact ⟨_, rfl, Grow.refl _, rfl⟩
            refine StepsS.cons ?_ fun v4 => ⟨_, _, by simp only [Act.put, List.setIfInBounds_toArray, List.set_cons_succ, List.set_cons_zero]; first | done | rfl, by simp only [List.nil_append, List.cons_append]; first | done | rfl, ?_⟩
            · intro w1 hE hd
              obtain rfl := IsV.eq (dep_at hd 0 rfl rfl rfl)
              clear hd
              have hcv := run_convert_bs (P := Try.prog) 23 5 9 Try.underlying23 Try.underlying5 Try.underlying9 (hba'.grow hE.drew)
              go_wp2
              exact ⟨_, rfl, Grow.refl _, rfl⟩
            refine StepsS.cons ?_ fun v5 => ⟨_, _, by simp only [Act.put, List.setIfInBounds_toArray, List.set_cons_succ, List.set_cons_zero]; first | done | rfl, by simp only [List.nil_append, List.cons_append]; first | done | rfl, ?_⟩
            · intro w1 hE hd
              clear hd
              go_wp2
              exact ⟨_, rfl, Grow.refl _, rfl⟩
            refine StepsS.cons ?_ fun v6 => ⟨_, _, by simp only [Act.put, List.setIfInBounds_toArray, List.set_cons_succ, List.set_cons_zero]; first | done | rfl, by simp only [List.nil_append, List.cons_append]; first | done | rfl, ?_⟩
            · intro w1 hE hd
              clear hd
              go_wp2
              exact ⟨_, rfl, Grow.refl _, rfl⟩
            refine StepsS.cons ?_ fun v7 => ⟨_, _, by simp only [Act.put, List.setIfInBounds_toArray, List.set_cons_succ, List.set_cons_zero]; first | done | rfl, by simp only [List.nil_append, List.cons_append]; first | done | rfl, ?_⟩
            · intro w1 hE hd
              obtain rfl := IsV.eq (dep_at hd 0 rfl rfl rfl)
              obtain rfl := IsV.eq (dep_at hd 1 rfl rfl rfl)
              clear hd
              go_wp2
              exact ⟨_, rfl, Grow.refl _, rfl⟩
            refine StepsS.cons ?_ fun v8 => ⟨_, _, by simp only [Act.put, List.setIfInBounds_toArray, List.set_cons_succ, List.set_cons_zero]; first | done | rfl, by simp only [List.nil_append, List.cons_append]; first | done | rfl, ?_⟩
            · intro w1 hE hd
              obtain rfl := IsV.eq (dep_at hd 0 rfl rfl rfl)
              clear hd
              have hcq1 := (hE.drew.cell (p := ⟨bb, offb + k, none⟩) (cell_lt hxb')).trans hxb'
              go_wp2
              exact ⟨_, rfl, Grow.refl _, rfl⟩
            refine StepsS.cons ?_ fun v9 => ⟨_, _, by simp only [Act.put, List.setIfInBounds_toArray, List.set_cons_succ, List.set_cons_zero]; first | done | rfl, by simp only [List.nil_append, List.cons_append]; first | done | rfl, ?_⟩
            · intro w1 hE hd
              obtain rfl := IsV.eq (dep_at hd 0 rfl rfl rfl)
              clear hd
              have hcv := run_convert_bs (P := Try.prog) 23 5 9 Try.underlying23 Try.underlying5 Try.underlying9 (hbb'.grow hE.drew)
              go_wp2
              exact ⟨_, rfl, Grow.refl _, rfl⟩
            refine StepsS.cons ?_ fun v10 => ⟨_, _, by simp only [Act.put, List.setIfInBounds_toArray, List.set_cons_succ, List.set_cons_zero]; first | done | rfl, by simp only [List.nil_append, List.cons_append]; first | done | rfl, ?_⟩
            · intro w1 hE hd
              obtain rfl := IsV.eq (dep_at hd 0 rfl rfl rfl)
              obtain rfl := IsV.eq (dep_at hd 1 rfl rfl rfl)
              clear hd
              go_wp2
              exact ⟨_, rfl, Grow.refl _, congrArg Value.bool (by rw [HB.out, HF.out]; rfl)⟩
            trivial
          intro wR hwR
          refine FinS.cons ?_; rintro _ rfl; refine ⟨_, by simp only [Act.put, List.setIfInBounds_toArray, List.set_cons_succ, List.set_cons_zero]; first | done | rfl, ?_⟩
          refine FinS.cons ?_; rintro _ rfl; refine ⟨_, by simp only [Act.put, List.setIfInBounds_toArray, List.set_cons_succ, List.set_cons_zero]; first | done | rfl, ?_⟩
          refine FinS.cons ?_; rintro _ rfl; refine ⟨_, by simp only [Act.put, List.setIfInBounds_toArray, List.set_cons_succ, List.set_cons_zero]; first | done | rfl, ?_⟩
          refine FinS.cons ?_; rintro _ rfl; refine ⟨_, by simp only [Act.put, List.setIfInBounds_toArray, List.set_cons_succ, List.set_cons_zero]; first | done | rfl, ?_⟩
          refine FinS.cons ?_; rintro _ rfl; refine ⟨_, by simp only [Act.put, List.setIfInBounds_toArray, List.set_cons_succ, List.set_cons_zero]; first | done | rfl, ?_⟩
          refine FinS.cons ?_; rintro _ rfl; refine ⟨_, by simp only [Act.put, List.setIfInBounds_toArray, List.set_cons_succ, List.set_cons_zero]; first | done | rfl, ?_⟩
          refine FinS.cons ?_; rintro _ rfl; refine ⟨_, by simp only [Act.put, List.setIfInBounds_toArray, List.set_cons_succ, List.set_cons_zero]; first | done | rfl, ?_⟩
          refine FinS.cons ?_; rintro _ rfl; refine ⟨_, by simp only [Act.put, List.setIfInBounds_toArray, List.set_cons_succ, List.set_cons_zero]; first | done | rfl, ?_⟩
          refine FinS.cons ?_; rintro _ rfl; refine ⟨_, by simp only [Act.put, List.setIfInBounds_toArray, List.set_cons_succ, List.set_cons_zero]; first | done | rfl, ?_⟩
          refine FinS.cons ?_; rintro _ rfl; refine ⟨_, by simp only [Act.put, List.setIfInBounds_toArray, List.set_cons_succ, List.set_cons_zero]; first | done | rfl, ?_⟩
          refine FinS.cons ?_; rintro _ rfl; refine ⟨_, by simp only [Act.put, List.setIfInBounds_toArray, List.set_cons_succ, List.set_cons_zero]; first | done | rfl, ?_⟩
          first | show Exit.then _ _ _ _ _ | show Exit.inBlock _ _ _ _ _
          go_wp2
          go_ret
          exact ⟨ret_bool HE.out.symm, hgr.trans hwR.drew⟩
      · have HE : Hid ((a == b) = true) := same_yes HL.out (fun j hj => HK.out j (by omega))
        go_wp2
        go_ret
        exact ⟨ret_bool HE.out.symm, hgr⟩
  · have HE : Hid ((a == b) = false) := same_len hl
    have hl' : ¬ (a.length : Int) = (b.length : Int) := by omega
    clear hl
    go_enter Try.func20, Try.ntmps20
    go_wp2
    go_ret
    exact ⟨ret_bool HE.out.symm, Grow.refl _⟩

end Go.Proofs.Ytjggiameajndgab
