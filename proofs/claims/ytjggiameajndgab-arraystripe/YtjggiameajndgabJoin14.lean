import Derived.Lib.MinMax
import Derived.Test.YtjggiameajndgabJoin13
/-
  What the program's array.put does: a disk has its cell of an intent.
-/
namespace Go.Proofs.Ytjggiameajndgab
open Go.RowKit

set_option maxRecDepth 20000 in
set_option maxHeartbeats 6400000 in
theorem put_any (B : Nat) (bs : List Nat) (dv iv nv : Value) (a : ArrP) (s : Nat) (cs : List (List Int)) (k : Nat) (w : World) (h : OwnA B bs w dv iv a) (hi : IntentV w nv ((s : Int), cs)) (hc4 : cs.length = 4) (hc8 : ∀ b ∈ cs, b.length ≤ 8) (hs : s < 3) (hk : k < 4) :
    Calls Try.prog 78 #[dv, nv, .int .i64 k] w fun e w' => (∃ r, e = .returned r) ∧ OwnA B bs w' dv iv (withL a k s (cs.getD k [])) ∧ GrownIn w w' (fun j => j ∈ bs) := by
  obtain ⟨cv, rfl, hb⟩ := hi
  simp only at hb ⊢
  have hlen := h.disks.len
  have hl4 := h.whole.1
  have hk' : k < a.ds.length := by omega
  have hl3 : a.ds[k].length = 3 := h.whole.2 _ (List.getElem_mem hk')
  obtain ⟨g, cap, rfl, hg1, hg2⟩ := h.disks.own.form (by omega)
  have hcell := h.disks.own.cellAt k (by omega)
  rw [rowVals_at hlen hk', hl3] at hcell
  rw [hl4] at h ⊢
  obtain ⟨bk, hbk⟩ : ∃ bk, bk = bs[k]'(by omega) := ⟨_, rfl⟩
  have hbk' : bs[k]? = some bk := by rw [hbk]; simp
  rw [← hbk] at hcell
  obtain ⟨ac, cc, ec, hcc1, hcc2⟩ := Sl.form' hb
  rw [hc4] at ec hcc1
  subst ec
  obtain ⟨bc, oc, z0, e1, hz0, hz1⟩ := Sl.elem hb (k := k) (by omega) []
  subst e1
  obtain ⟨z1, z2, z3, rfl⟩ := hz1.form
  have hoc := hz1.octets
  have hL8 : (cs.getD k []).length ≤ 8 := hc8 _ (getD_mem (by omega))
  obtain ⟨L, hLe⟩ : ∃ L, L = cs.getD k [] := ⟨_, rfl⟩
  rw [← hLe] at hz1 hoc hL8 ⊢
  obtain ⟨W, hW⟩ : ∃ W, W = w.alloc (.cells #[.int .i64 s, .slice (some ⟨bc, oc, none⟩) 4 cc] 62) := ⟨_, rfl⟩
  have hgW : Grow w W := by rw [hW]; exact Grow.alloc _ _
  have hbA : W.heap[w.heap.size]? = some (.cells #[.int .i64 s, .slice (some ⟨bc, oc, none⟩) 4 cc] 62 (0, 0)) := by rw [hW]; exact heap_alloc_new w _
  have i0 := two_at0 hbA
  have i1 := two_at1 hbA
  have hcW := hgW.at hcell
  have hzW := hgW.at hz0
  have HO : Hid (OwnA B bs W (.slice (some ⟨g, 0, none⟩) 4 cap) iv a) := h.k4 hgW.k4
  have HZ : Hid (Bs W (.slice z1 z2 z3) L ∧ Octets L ∧ L.length ≤ 8) := ⟨hz1.grow hgW, hoc, hL8⟩
  have Hb : Hid (bs[k]? = some bk) := hbk'
  have hq1 : decide ((4 : Int) ≤ (k : Int)) = false := by simp; omega
  have hq2 : decide ((s : Int) < 0) = false := by simp
  have hq3 : decide ((3 : Int) ≤ (s : Int)) = false := by simp; omega
  have hki : (k : Int) < 4 := by omega
  have hsi : (s : Int) < 3 := by omega
  clear h hb hbA hcell hz0 hz1 hoc hL8 hLe hbk hbk' hl3 hl4 hlen hk' hc4 hc8 hcc1
  go_enter Try.func78, Try.ntmps78
  go_wp2
  rw [← hW]
  clear hW
  refine wp_region_stable Grow [IsV (.int .i64 k), IsV (.slice (some ⟨g, 0, none⟩) 4 cap), IsV (.int .i64 4), IsV (.bool false), IsV (.bool false), IsV (.int .i64 k), IsV (.pointer (some ⟨w.heap.size, 1, none⟩)), IsV (.slice (some ⟨bc, oc, none⟩) 4 cc), IsV (.int .i64 4), IsV (.bool false), IsV (.bool false), IsV (.bool false), IsV (.pointer (some ⟨w.heap.size, 0, none⟩)), IsV (.int .i64 s), IsV (.bool false), IsV (.bool false), IsV (.bool false), IsV (.pointer (some ⟨w.heap.size, 0, none⟩)), IsV (.int .i64 s), IsV (.slice (some ⟨g, 0, none⟩) 4 cap), IsV (.int .i64 k), IsV (.pointer (some ⟨g, k, none⟩)), IsV (.slice (some ⟨bk, 0, none⟩) 3 3), IsV (.int .i64 3), IsV (.bool false), IsV (.bool false)] (by kernel_rfl) (by kernel_rfl) rfl Grow.refl (fun _ _ _ => Grow.trans) ?_ ?_ ?_
  · repeat (refine List.forall_mem_cons.2 ⟨by first | exact IsV.stable _, ?_⟩)
    exact fun R hR => nomatch hR
  · skip
    refine StepsS.cons ?_ fun v0 => ⟨_, _, by simp only [Act.put, List.setIfInBounds_toArray, List.set_cons_succ, List.set_cons_zero]; first | done | rfl, by simp only [List.nil_append]; first | done | rfl, ?_⟩
    · intro w1 hE hd
      clear hd
      go_wp2
      exact ⟨_, rfl, Grow.refl _, rfl⟩
    refine StepsS.cons ?_ fun v1 => ⟨_, _, by simp only [Act.put, List.setIfInBounds_toArray, List.set_cons_succ, List.set_cons_zero]; first | done | rfl, by simp only [List.nil_append, List.cons_append]; first | done | rfl, ?_⟩
    · intro w1 hE hd
      clear hd
      go_wp2
      exact ⟨_, rfl, Grow.refl _, rfl⟩
    refine StepsS.cons ?_ fun v2 => ⟨_, _, by simp only [Act.put, List.setIfInBounds_toArray, List.set_cons_succ, List.set_cons_zero]; first | done | rfl, by simp only [List.nil_append, List.cons_append]; first | done | rfl, ?_⟩
    · intro w1 hE hd
      obtain rfl := IsV.eq (dep_at hd 0 rfl rfl rfl)
      clear hd
      go_wp2
      exact ⟨_, rfl, Grow.refl _, rfl⟩
    refine StepsS.cons ?_ fun v3 => ⟨_, _, by simp only [Act.put, List.setIfInBounds_toArray, List.set_cons_succ, List.set_cons_zero]; first | done | rfl, by simp only [List.nil_append, List.cons_append]; first | done | rfl, ?_⟩
    · intro w1 hE hd
      obtain rfl := IsV.eq (dep_at hd 0 rfl rfl rfl)
      obtain rfl := IsV.eq (dep_at hd 1 rfl rfl rfl)
      clear hd
      go_wp2
      exact ⟨_, rfl, Grow.refl _, rfl⟩
    refine StepsS.cons ?_ fun v4 => ⟨_, _, by simp only [Act.put, List.setIfInBounds_toArray, List.set_cons_succ, List.set_cons_zero]; first | done | rfl, by simp only [List.nil_append, List.cons_append]; first | done | rfl, ?_⟩
    · intro w1 hE hd
      obtain rfl := IsV.eq (dep_at hd 0 rfl rfl rfl)
      clear hd
      go_wp2
      exact ⟨_, rfl, Grow.refl _, rfl⟩
    refine StepsS.cons ?_ fun v5 => ⟨_, _, by simp only [Act.put, List.setIfInBounds_toArray, List.set_cons_succ, List.set_cons_zero]; first | done | rfl, by simp only [List.nil_append, List.cons_append]; first | done | rfl, ?_⟩
    · intro w1 hE hd
      obtain rfl := IsV.eq (dep_at hd 0 rfl rfl rfl)
      clear hd
      go_wp2
      exact ⟨_, rfl, Grow.refl _, rfl⟩
    refine StepsS.cons ?_ fun v6 => ⟨_, _, by simp only [Act.put, List.setIfInBounds_toArray, List.set_cons_succ, List.set_cons_zero]; first | done | rfl, by simp only [List.nil_append, List.cons_append]; first | done | rfl, ?_⟩
    · intro w1 hE hd
      obtain rfl := IsV.eq (dep_at hd 0 rfl rfl rfl)
      clear hd
      go_wp2
      exact ⟨_, rfl, Grow.refl _, rfl⟩
    refine StepsS.cons ?_ fun v7 => ⟨_, _, by simp only [Act.put, List.setIfInBounds_toArray, List.set_cons_succ, List.set_cons_zero]; first | done | rfl, by simp only [List.nil_append, List.cons_append]; first | done | rfl, ?_⟩
    · intro w1 hE hd
      obtain rfl := IsV.eq (dep_at hd 0 rfl rfl rfl)
      obtain rfl := IsV.eq (dep_at hd 1 rfl rfl rfl)
      clear hd
      have q0 := hE.drew.at i1
      go_wp2
      exact ⟨_, rfl, Grow.refl _, rfl⟩
    refine StepsS.cons ?_ fun v8 => ⟨_, _, by simp only [Act.put, List.setIfInBounds_toArray, List.set_cons_succ, List.set_cons_zero]; first | done | rfl, by simp only [List.nil_append, List.cons_append]; first | done | rfl, ?_⟩
    · intro w1 hE hd
      obtain rfl := IsV.eq (dep_at hd 0 rfl rfl rfl)
      obtain rfl := IsV.eq (dep_at hd 1 rfl rfl rfl)
      clear hd
      go_wp2
      exact ⟨_, rfl, Grow.refl _, rfl⟩
    refine StepsS.cons ?_ fun v9 => ⟨_, _, by simp only [Act.put, List.setIfInBounds_toArray, List.set_cons_succ, List.set_cons_zero]; first | done | rfl, by simp only [List.nil_append, List.cons_append]; first | done | rfl, ?_⟩
    · intro w1 hE hd
      obtain rfl := IsV.eq (dep_at hd 0 rfl rfl rfl)
      obtain rfl := IsV.eq (dep_at hd 1 rfl rfl rfl)
      obtain rfl := IsV.eq (dep_at hd 2 rfl rfl rfl)
      clear hd
      go_wp2
      exact ⟨_, rfl, Grow.refl _, rfl⟩
    refine StepsS.cons ?_ fun v10 => ⟨_, _, by simp only [Act.put, List.setIfInBounds_toArray, List.set_cons_succ, List.set_cons_zero]; first | done | rfl, by simp only [List.nil_append, List.cons_append]; first | done | rfl, ?_⟩
    · intro w1 hE hd
      obtain rfl := IsV.eq (dep_at hd 0 rfl rfl rfl)
      obtain rfl := IsV.eq (dep_at hd 1 rfl rfl rfl)
      clear hd
      go_wp2
      exact ⟨_, rfl, Grow.refl _, rfl⟩
    refine StepsS.cons ?_ fun v11 => ⟨_, _, by simp only [Act.put, List.setIfInBounds_toArray, List.set_cons_succ, List.set_cons_zero]; first | done | rfl, by simp only [List.nil_append, List.cons_append]; first | done | rfl, ?_⟩
    · intro w1 hE hd
      obtain rfl := IsV.eq (dep_at hd 0 rfl rfl rfl)
      clear hd
      go_wp2
      exact ⟨_, rfl, Grow.refl _, rfl⟩
    refine StepsS.cons ?_ fun v12 => ⟨_, _, by simp only [Act.put, List.setIfInBounds_toArray, List.set_cons_succ, List.set_cons_zero]; first | done | rfl, by simp only [List.nil_append, List.cons_append]; first | done | rfl, ?_⟩
    · intro w1 hE hd
      obtain rfl := IsV.eq (dep_at hd 0 rfl rfl rfl)
      clear hd
      go_wp2
      exact ⟨_, rfl, Grow.refl _, rfl⟩
    refine StepsS.cons ?_ fun v13 => ⟨_, _, by simp only [Act.put, List.setIfInBounds_toArray, List.set_cons_succ, List.set_cons_zero]; first | done | rfl, by simp only [List.nil_append, List.cons_append]; first | done | rfl, ?_⟩
    · intro w1 hE hd
      obtain rfl := IsV.eq (dep_at hd 0 rfl rfl rfl)
      obtain rfl := IsV.eq (dep_at hd 1 rfl rfl rfl)
      clear hd
      have q0 := hE.drew.at i0
      go_wp2
      exact ⟨_, rfl, Grow.refl _, rfl⟩
    refine StepsS.cons ?_ fun v14 => ⟨_, _, by simp only [Act.put, List.setIfInBounds_toArray, List.set_cons_succ, List.set_cons_zero]; first | done | rfl, by simp only [List.nil_append, List.cons_append]; first | done | rfl, ?_⟩
    · intro w1 hE hd
      obtain rfl := IsV.eq (dep_at hd 0 rfl rfl rfl)
      obtain rfl := IsV.eq (dep_at hd 1 rfl rfl rfl)
      clear hd
      go_wp2
      exact ⟨_, rfl, Grow.refl _, rfl⟩
    refine StepsS.cons ?_ fun v15 => ⟨_, _, by simp only [Act.put, List.setIfInBounds_toArray, List.set_cons_succ, List.set_cons_zero]; first | done | rfl, by simp only [List.nil_append, List.cons_append]; first | done | rfl, ?_⟩
    · intro w1 hE hd
      obtain rfl := IsV.eq (dep_at hd 0 rfl rfl rfl)
      obtain rfl := IsV.eq (dep_at hd 1 rfl rfl rfl)
      clear hd
      go_wp2
      exact ⟨_, rfl, Grow.refl _, rfl⟩
    refine StepsS.cons ?_ fun v16 => ⟨_, _, by simp only [Act.put, List.setIfInBounds_toArray, List.set_cons_succ, List.set_cons_zero]; first | done | rfl, by simp only [List.nil_append, List.cons_append]; first | done | rfl, ?_⟩
    · intro w1 hE hd
      obtain rfl := IsV.eq (dep_at hd 0 rfl rfl rfl)
      clear hd
      go_wp2
      exact ⟨_, rfl, Grow.refl _, rfl⟩
    refine StepsS.cons ?_ fun v17 => ⟨_, _, by simp only [Act.put, List.setIfInBounds_toArray, List.set_cons_succ, List.set_cons_zero]; first | done | rfl, by simp only [List.nil_append, List.cons_append]; first | done | rfl, ?_⟩
    · intro w1 hE hd
      obtain rfl := IsV.eq (dep_at hd 0 rfl rfl rfl)
      clear hd
      go_wp2
      exact ⟨_, rfl, Grow.refl _, rfl⟩
    refine StepsS.cons ?_ fun v18 => ⟨_, _, by simp only [Act.put, List.setIfInBounds_toArray, List.set_cons_succ, List.set_cons_zero]; first | done | rfl, by simp only [List.nil_append, List.cons_append]; first | done | rfl, ?_⟩
    · intro w1 hE hd
      obtain rfl := IsV.eq (dep_at hd 0 rfl rfl rfl)
      obtain rfl := IsV.eq (dep_at hd 1 rfl rfl rfl)
      clear hd
      have q0 := hE.drew.at i0
      go_wp2
      exact ⟨_, rfl, Grow.refl _, rfl⟩
    refine StepsS.cons ?_ fun v19 => ⟨_, _, by simp only [Act.put, List.setIfInBounds_toArray, List.set_cons_succ, List.set_cons_zero]; first | done | rfl, by simp only [List.nil_append, List.cons_append]; first | done | rfl, ?_⟩
    · intro w1 hE hd
      obtain rfl := IsV.eq (dep_at hd 0 rfl rfl rfl)
      clear hd
      go_wp2
      exact ⟨_, rfl, Grow.refl _, rfl⟩
    refine StepsS.cons ?_ fun v20 => ⟨_, _, by simp only [Act.put, List.setIfInBounds_toArray, List.set_cons_succ, List.set_cons_zero]; first | done | rfl, by simp only [List.nil_append, List.cons_append]; first | done | rfl, ?_⟩
    · intro w1 hE hd
      obtain rfl := IsV.eq (dep_at hd 0 rfl rfl rfl)
      clear hd
      go_wp2
      exact ⟨_, rfl, Grow.refl _, rfl⟩
    refine StepsS.cons ?_ fun v21 => ⟨_, _, by simp only [Act.put, List.setIfInBounds_toArray, List.set_cons_succ, List.set_cons_zero]; first | done | rfl, by simp only [List.nil_append, List.cons_append]; first | done | rfl, ?_⟩
    · intro w1 hE hd
      obtain rfl := IsV.eq (dep_at hd 0 rfl rfl rfl)
      obtain rfl := IsV.eq (dep_at hd 1 rfl rfl rfl)
      obtain rfl := IsV.eq (dep_at hd 2 rfl rfl rfl)
      clear hd
      go_wp2
      exact ⟨_, rfl, Grow.refl _, rfl⟩
    refine StepsS.cons ?_ fun v22 => ⟨_, _, by simp only [Act.put, List.setIfInBounds_toArray, List.set_cons_succ, List.set_cons_zero]; first | done | rfl, by simp only [List.nil_append, List.cons_append]; first | done | rfl, ?_⟩
    · intro w1 hE hd
      obtain rfl := IsV.eq (dep_at hd 0 rfl rfl rfl)
      obtain rfl := IsV.eq (dep_at hd 1 rfl rfl rfl)
      clear hd
      have q0 := hE.drew.at hcW
      go_wp2
      exact ⟨_, rfl, Grow.refl _, rfl⟩
    refine StepsS.cons ?_ fun v23 => ⟨_, _, by simp only [Act.put, List.setIfInBounds_toArray, List.set_cons_succ, List.set_cons_zero]; first | done | rfl, by simp only [List.nil_append, List.cons_append]; first | done | rfl, ?_⟩
    · intro w1 hE hd
      obtain rfl := IsV.eq (dep_at hd 0 rfl rfl rfl)
      obtain rfl := IsV.eq (dep_at hd 1 rfl rfl rfl)
      clear hd
      go_wp2
      exact ⟨_, rfl, Grow.refl _, rfl⟩
    refine StepsS.cons ?_ fun v24 => ⟨_, _, by simp only [Act.put, List.setIfInBounds_toArray, List.set_cons_succ, List.set_cons_zero]; first | done | rfl, by simp only [List.nil_append, List.cons_append]; first | done | rfl, ?_⟩
    · intro w1 hE hd
      obtain rfl := IsV.eq (dep_at hd 0 rfl rfl rfl)
      obtain rfl := IsV.eq (dep_at hd 1 rfl rfl rfl)
      obtain rfl := IsV.eq (dep_at hd 2 rfl rfl rfl)
      clear hd
      go_wp2
      exact ⟨_, rfl, Grow.refl _, rfl⟩
    refine StepsS.cons ?_ fun v25 => ⟨_, _, by simp only [Act.put, List.setIfInBounds_toArray, List.set_cons_succ, List.set_cons_zero]; first | done | rfl, by simp only [List.nil_append, List.cons_append]; first | done | rfl, ?_⟩
    · intro w1 hE hd
      obtain rfl := IsV.eq (dep_at hd 0 rfl rfl rfl)
      obtain rfl := IsV.eq (dep_at hd 1 rfl rfl rfl)
      clear hd
      go_wp2
      exact ⟨_, rfl, Grow.refl _, rfl⟩
    trivial
  intro w2 hw2
  refine FinS.cons ?_; rintro _ rfl; refine ⟨_, by simp only [Act.put, List.setIfInBounds_toArray, List.set_cons_succ, List.set_cons_zero]; first | done | rfl, ?_⟩
  refine FinS.cons ?_; rintro _ rfl; refine ⟨_, by simp only [Act.put, List.setIfInBounds_toArray, List.set_cons_succ, List.set_cons_zero]; first | done | rfl, ?_⟩
  refine FinS.cons ?_; rintro _ rfl; refine ⟨_, by simp only [Act.put, List.setIfInBounds_toArray, List.set_cons_succ, List.set_cons_zero]; first | done | rfl, ?_⟩
  refine FinS.cons ?_; rintro _ rfl; refine ⟨_, by simp only [Act.put, List.setIfInBounds_toArray, List.set_cons_succ, List.set_cons_zero]; first | done | rfl, ?_⟩
  refine FinS.cons ?_; rintro _ rfl; refine ⟨_, by simp only [Act.put, List.setIfInBounds_toArray, List.set_cons_succ, List.set_cons_zero]; first | done | rfl, ?_⟩
  refine FinS.cons ?_; rintro _ rfl; refine ⟨_, by simp only [Act.put, List.setIfInBounds_toArray, List.set_cons_succ, List.set_cons_zero]; first | done | rfl, ?_⟩
  refine FinS.cons ?_; rintro _ rfl; refine ⟨_, by simp only [Act.put, List.setIfInBounds_toArray, List.set_cons_succ, List.set_cons_zero]; first | done | rfl, ?_⟩
  refine FinS.cons ?_; rintro _ rfl; refine ⟨_, by simp only [Act.put, List.setIfInBounds_toArray, List.set_cons_succ, List.set_cons_zero]; first | done | rfl, ?_⟩
  refine FinS.cons ?_; rintro _ rfl; refine ⟨_, by simp only [Act.put, List.setIfInBounds_toArray, List.set_cons_succ, List.set_cons_zero]; first | done | rfl, ?_⟩
  refine FinS.cons ?_; rintro _ rfl; refine ⟨_, by simp only [Act.put, List.setIfInBounds_toArray, List.set_cons_succ, List.set_cons_zero]; first | done | rfl, ?_⟩
  refine FinS.cons ?_; rintro _ rfl; refine ⟨_, by simp only [Act.put, List.setIfInBounds_toArray, List.set_cons_succ, List.set_cons_zero]; first | done | rfl, ?_⟩
  refine FinS.cons ?_; rintro _ rfl; refine ⟨_, by simp only [Act.put, List.setIfInBounds_toArray, List.set_cons_succ, List.set_cons_zero]; first | done | rfl, ?_⟩
  refine FinS.cons ?_; rintro _ rfl; refine ⟨_, by simp only [Act.put, List.setIfInBounds_toArray, List.set_cons_succ, List.set_cons_zero]; first | done | rfl, ?_⟩
  refine FinS.cons ?_; rintro _ rfl; refine ⟨_, by simp only [Act.put, List.setIfInBounds_toArray, List.set_cons_succ, List.set_cons_zero]; first | done | rfl, ?_⟩
  refine FinS.cons ?_; rintro _ rfl; refine ⟨_, by simp only [Act.put, List.setIfInBounds_toArray, List.set_cons_succ, List.set_cons_zero]; first | done | rfl, ?_⟩
  refine FinS.cons ?_; rintro _ rfl; refine ⟨_, by simp only [Act.put, List.setIfInBounds_toArray, List.set_cons_succ, List.set_cons_zero]; first | done | rfl, ?_⟩
  refine FinS.cons ?_; rintro _ rfl; refine ⟨_, by simp only [Act.put, List.setIfInBounds_toArray, List.set_cons_succ, List.set_cons_zero]; first | done | rfl, ?_⟩
  refine FinS.cons ?_; rintro _ rfl; refine ⟨_, by simp only [Act.put, List.setIfInBounds_toArray, List.set_cons_succ, List.set_cons_zero]; first | done | rfl, ?_⟩
  refine FinS.cons ?_; rintro _ rfl; refine ⟨_, by simp only [Act.put, List.setIfInBounds_toArray, List.set_cons_succ, List.set_cons_zero]; first | done | rfl, ?_⟩
  refine FinS.cons ?_; rintro _ rfl; refine ⟨_, by simp only [Act.put, List.setIfInBounds_toArray, List.set_cons_succ, List.set_cons_zero]; first | done | rfl, ?_⟩
  refine FinS.cons ?_; rintro _ rfl; refine ⟨_, by simp only [Act.put, List.setIfInBounds_toArray, List.set_cons_succ, List.set_cons_zero]; first | done | rfl, ?_⟩
  refine FinS.cons ?_; rintro _ rfl; refine ⟨_, by simp only [Act.put, List.setIfInBounds_toArray, List.set_cons_succ, List.set_cons_zero]; first | done | rfl, ?_⟩
  refine FinS.cons ?_; rintro _ rfl; refine ⟨_, by simp only [Act.put, List.setIfInBounds_toArray, List.set_cons_succ, List.set_cons_zero]; first | done | rfl, ?_⟩
  refine FinS.cons ?_; rintro _ rfl; refine ⟨_, by simp only [Act.put, List.setIfInBounds_toArray, List.set_cons_succ, List.set_cons_zero]; first | done | rfl, ?_⟩
  refine FinS.cons ?_; rintro _ rfl; refine ⟨_, by simp only [Act.put, List.setIfInBounds_toArray, List.set_cons_succ, List.set_cons_zero]; first | done | rfl, ?_⟩
  refine FinS.cons ?_; rintro _ rfl; refine ⟨_, by simp only [Act.put, List.setIfInBounds_toArray, List.set_cons_succ, List.set_cons_zero]; first | done | rfl, ?_⟩
  first | show Exit.then _ _ _ _ _ | show Exit.inBlock _ _ _ _ _
  have hg2 : Grow W w2 := hw2.drew
  have j0 := hg2.at i0
  have j1 := hg2.at i1
  have hc2 := hg2.at hcW
  have hz2 := hg2.at hzW
  go_wp2
  refine wp_region_last [_, _, _, _, _, _, _, _, _, _, _, _, _] _ rfl Grow [IsV (.slice (some ⟨g, 0, none⟩) 4 cap), IsV (.int .i64 k), IsV (.pointer (some ⟨g, k, none⟩)), IsV (.slice (some ⟨bk, 0, none⟩) 3 3), IsV (.pointer (some ⟨w.heap.size, 0, none⟩)), IsV (.int .i64 s), IsV (.pointer (some ⟨w.heap.size, 1, none⟩)), IsV (.slice (some ⟨bc, oc, none⟩) 4 cc), IsV (.int .i64 k), IsV (.pointer (some ⟨bc, oc + k, none⟩)), IsV (.slice z1 z2 z3), NewTb L, IsV (.pointer (some ⟨bk, s, none⟩))] (by kernel_rfl) (by kernel_rfl) (by kernel_rfl) rfl Grow.refl (fun _ _ _ => Grow.trans) ?_ ?_ ?_
  · repeat (refine List.forall_mem_cons.2 ⟨by first | exact IsV.stable _ | exact NewTb.stable _, ?_⟩)
    exact fun R hR => nomatch hR
  · skip
    refine StepsS.cons ?_ fun v0 => ⟨_, _, by simp only [Act.put, List.setIfInBounds_toArray, List.set_cons_succ, List.set_cons_zero]; first | done | rfl, by simp only [List.nil_append]; first | done | rfl, ?_⟩
    · intro w1 hE hd
      clear hd
      go_wp2
      exact ⟨_, rfl, Grow.refl _, rfl⟩
    refine StepsS.cons ?_ fun v1 => ⟨_, _, by simp only [Act.put, List.setIfInBounds_toArray, List.set_cons_succ, List.set_cons_zero]; first | done | rfl, by simp only [List.nil_append, List.cons_append]; first | done | rfl, ?_⟩
    · intro w1 hE hd
      clear hd
      go_wp2
      exact ⟨_, rfl, Grow.refl _, rfl⟩
    refine StepsS.cons ?_ fun v2 => ⟨_, _, by simp only [Act.put, List.setIfInBounds_toArray, List.set_cons_succ, List.set_cons_zero]; first | done | rfl, by simp only [List.nil_append, List.cons_append]; first | done | rfl, ?_⟩
    · intro w1 hE hd
      obtain rfl := IsV.eq (dep_at hd 0 rfl rfl rfl)
      obtain rfl := IsV.eq (dep_at hd 1 rfl rfl rfl)
      clear hd
      go_wp2
      exact ⟨_, rfl, Grow.refl _, rfl⟩
    refine StepsS.cons ?_ fun v3 => ⟨_, _, by simp only [Act.put, List.setIfInBounds_toArray, List.set_cons_succ, List.set_cons_zero]; first | done | rfl, by simp only [List.nil_append, List.cons_append]; first | done | rfl, ?_⟩
    · intro w1 hE hd
      obtain rfl := IsV.eq (dep_at hd 0 rfl rfl rfl)
      clear hd
      have q0 := hE.drew.at hc2
      go_wp2
      exact ⟨_, rfl, Grow.refl _, rfl⟩
    refine StepsS.cons ?_ fun v4 => ⟨_, _, by simp only [Act.put, List.setIfInBounds_toArray, List.set_cons_succ, List.set_cons_zero]; first | done | rfl, by simp only [List.nil_append, List.cons_append]; first | done | rfl, ?_⟩
    · intro w1 hE hd
      clear hd
      go_wp2
      exact ⟨_, rfl, Grow.refl _, rfl⟩
    refine StepsS.cons ?_ fun v5 => ⟨_, _, by simp only [Act.put, List.setIfInBounds_toArray, List.set_cons_succ, List.set_cons_zero]; first | done | rfl, by simp only [List.nil_append, List.cons_append]; first | done | rfl, ?_⟩
    · intro w1 hE hd
      obtain rfl := IsV.eq (dep_at hd 0 rfl rfl rfl)
      clear hd
      have q0 := hE.drew.at j0
      go_wp2
      exact ⟨_, rfl, Grow.refl _, rfl⟩
    refine StepsS.cons ?_ fun v6 => ⟨_, _, by simp only [Act.put, List.setIfInBounds_toArray, List.set_cons_succ, List.set_cons_zero]; first | done | rfl, by simp only [List.nil_append, List.cons_append]; first | done | rfl, ?_⟩
    · intro w1 hE hd
      clear hd
      go_wp2
      exact ⟨_, rfl, Grow.refl _, rfl⟩
    refine StepsS.cons ?_ fun v7 => ⟨_, _, by simp only [Act.put, List.setIfInBounds_toArray, List.set_cons_succ, List.set_cons_zero]; first | done | rfl, by simp only [List.nil_append, List.cons_append]; first | done | rfl, ?_⟩
    · intro w1 hE hd
      obtain rfl := IsV.eq (dep_at hd 0 rfl rfl rfl)
      clear hd
      have q0 := hE.drew.at j1
      go_wp2
      exact ⟨_, rfl, Grow.refl _, rfl⟩
    refine StepsS.cons ?_ fun v8 => ⟨_, _, by simp only [Act.put, List.setIfInBounds_toArray, List.set_cons_succ, List.set_cons_zero]; first | done | rfl, by simp only [List.nil_append, List.cons_append]; first | done | rfl, ?_⟩
    · intro w1 hE hd
      clear hd
      go_wp2
      exact ⟨_, rfl, Grow.refl _, rfl⟩
    refine StepsS.cons ?_ fun v9 => ⟨_, _, by simp only [Act.put, List.setIfInBounds_toArray, List.set_cons_succ, List.set_cons_zero]; first | done | rfl, by simp only [List.nil_append, List.cons_append]; first | done | rfl, ?_⟩
    · intro w1 hE hd
      obtain rfl := IsV.eq (dep_at hd 0 rfl rfl rfl)
      obtain rfl := IsV.eq (dep_at hd 1 rfl rfl rfl)
      clear hd
      go_wp2
      exact ⟨_, rfl, Grow.refl _, rfl⟩
    refine StepsS.cons ?_ fun v10 => ⟨_, _, by simp only [Act.put, List.setIfInBounds_toArray, List.set_cons_succ, List.set_cons_zero]; first | done | rfl, by simp only [List.nil_append, List.cons_append]; first | done | rfl, ?_⟩
    · intro w1 hE hd
      obtain rfl := IsV.eq (dep_at hd 0 rfl rfl rfl)
      clear hd
      have q0 := hE.drew.at hz2
      go_wp2
      exact ⟨_, rfl, Grow.refl _, rfl⟩
    refine StepsS.cons ?_ fun v11 => ⟨_, _, by simp only [Act.put, List.setIfInBounds_toArray, List.set_cons_succ, List.set_cons_zero]; first | done | rfl, by simp only [List.nil_append, List.cons_append]; first | done | rfl, ?_⟩
    · intro w1 hE hd
      obtain rfl := IsV.eq (dep_at hd 0 rfl rfl rfl)
      clear hd
      have hcall := bytesClone_any (.slice z1 z2 z3) L w1 (HZ.out.1.grow (hg2.trans hE.drew)) (by have := HZ.out.2.2; omega)
      go_wp2_with fail
      refine hcall.mono ?_
      rintro e w5 ⟨r, rfl, hr, hg5⟩
      go_wp2_with fail
      exact ⟨_, rfl, hg5, Tb.own hr HZ.out.2.1⟩
    refine StepsS.cons ?_ fun v12 => ⟨_, _, by simp only [Act.put, List.setIfInBounds_toArray, List.set_cons_succ, List.set_cons_zero]; first | done | rfl, by simp only [List.nil_append, List.cons_append]; first | done | rfl, ?_⟩
    · intro w1 hE hd
      obtain rfl := IsV.eq (dep_at hd 0 rfl rfl rfl)
      obtain rfl := IsV.eq (dep_at hd 1 rfl rfl rfl)
      clear hd
      go_wp2
      exact ⟨_, rfl, Grow.refl _, rfl⟩
    trivial
  intro w3 hw3
  refine FinS.cons ?_; rintro _ rfl; refine ⟨_, by simp only [Act.put, List.setIfInBounds_toArray, List.set_cons_succ, List.set_cons_zero]; first | done | rfl, ?_⟩
  refine FinS.cons ?_; rintro _ rfl; refine ⟨_, by simp only [Act.put, List.setIfInBounds_toArray, List.set_cons_succ, List.set_cons_zero]; first | done | rfl, ?_⟩
  refine FinS.cons ?_; rintro _ rfl; refine ⟨_, by simp only [Act.put, List.setIfInBounds_toArray, List.set_cons_succ, List.set_cons_zero]; first | done | rfl, ?_⟩
  refine FinS.cons ?_; rintro _ rfl; refine ⟨_, by simp only [Act.put, List.setIfInBounds_toArray, List.set_cons_succ, List.set_cons_zero]; first | done | rfl, ?_⟩
  refine FinS.cons ?_; rintro _ rfl; refine ⟨_, by simp only [Act.put, List.setIfInBounds_toArray, List.set_cons_succ, List.set_cons_zero]; first | done | rfl, ?_⟩
  refine FinS.cons ?_; rintro _ rfl; refine ⟨_, by simp only [Act.put, List.setIfInBounds_toArray, List.set_cons_succ, List.set_cons_zero]; first | done | rfl, ?_⟩
  refine FinS.cons ?_; rintro _ rfl; refine ⟨_, by simp only [Act.put, List.setIfInBounds_toArray, List.set_cons_succ, List.set_cons_zero]; first | done | rfl, ?_⟩
  refine FinS.cons ?_; rintro _ rfl; refine ⟨_, by simp only [Act.put, List.setIfInBounds_toArray, List.set_cons_succ, List.set_cons_zero]; first | done | rfl, ?_⟩
  refine FinS.cons ?_; rintro _ rfl; refine ⟨_, by simp only [Act.put, List.setIfInBounds_toArray, List.set_cons_succ, List.set_cons_zero]; first | done | rfl, ?_⟩
  refine FinS.cons ?_; rintro _ rfl; refine ⟨_, by simp only [Act.put, List.setIfInBounds_toArray, List.set_cons_succ, List.set_cons_zero]; first | done | rfl, ?_⟩
  refine FinS.cons ?_; rintro _ rfl; refine ⟨_, by simp only [Act.put, List.setIfInBounds_toArray, List.set_cons_succ, List.set_cons_zero]; first | done | rfl, ?_⟩
  refine FinS.cons fun v11 h11 => ⟨_, by simp only [Act.put, List.setIfInBounds_toArray, List.set_cons_succ, List.set_cons_zero]; first | done | rfl, ?_⟩
  refine FinS.cons ?_; rintro _ rfl; refine ⟨_, by simp only [Act.put, List.setIfInBounds_toArray, List.set_cons_succ, List.set_cons_zero]; first | done | rfl, ?_⟩
  show wpList _ _ _ _ _ _
  obtain ⟨r1, r2, r3, rfl⟩ := (Tb.here h11).form
  have hg3 : Grow W w3 := hg2.trans hw3.drew
  have hO3 := HO.out.k4 hg3.k4
  have hO4 := hO3.put (s := s) hk Hb.out h11
  have hlen := hO3.disks.len
  have hl4 := hO3.whole.1
  have hrow := hO3.disks.rows k bk _ Hb.out (by simp [show k < a.ds.length by omega] : a.ds[k]? = some (a.ds[k]'(by omega)))
  obtain ⟨⟨u0, hu0⟩, hf0⟩ := hrow.at (k := s) (by rw [hO3.whole.2 _ (List.getElem_mem _)]; exact hs)
  have HO4 : Hid (OwnA _ _ _ _ _ _) := hO4
  have HG4 : Hid (GrownIn w (w3.setCell ⟨bk, s, none⟩ (.slice r1 r2 r3)) (fun j => j ∈ bs)) := ((hgW.trans hg3).inn _).trans (grownIn_set w3 bk s _ (List.mem_of_getElem? Hb.out))
  clear hO3 hO4 hrow hlen hl4 HO HZ h11
  go_wp2
  go_end0
  exact ⟨⟨_, rfl⟩, HO4.out, HG4.out⟩

end Go.Proofs.Ytjggiameajndgab

/-
  What the program's array.Write returns: an array of the call's own, behind the first writes of an intent. Nothing old turns.
-/
namespace Go.Proofs.Ytjggiameajndgab
open Go.RowKit

theorem OwnA.forms {B : Nat} {bs : List Nat} {w : World} {dv iv : Value} {a : ArrP} (h : OwnA B bs w dv iv a) : (∃ x1 x2 x3, dv = .slice x1 x2 x3) ∧ ∃ y1 y2 y3, iv = .slice y1 y2 y3 := by
  have h1 := h.disks.len
  have h2 := h.whole.1
  obtain ⟨g, cap, e, -, -⟩ := h.disks.own.form (by omega)
  refine ⟨⟨_, _, _, e⟩, ?_⟩
  rcases h.its with ⟨-, e⟩ | ⟨q, r, cap, cur, s, cs, -, -, e, -⟩
  · exact ⟨_, _, _, e⟩
  · exact ⟨_, _, _, e⟩

/-- No row of its own is a block of another type. -/
theorem OwnA.other {B : Nat} {bs : List Nat} {w : World} {dv iv : Value} {a : ArrP} (h : OwnA B bs w dv iv a) {q : Nat} {t : TypeId} {cs : Array Value} {mk : Nat × Nat} (hq : w.heap[q]? = some (.cells cs t mk)) (ht : t ≠ 23) : q ∉ bs := by
  intro hm
  obtain ⟨i, hi, e⟩ := List.mem_iff_getElem.1 hm
  have hl := h.disks.len
  obtain ⟨us, -, h2, -⟩ := h.disks.rows i q (a.ds[i]'(by omega)) (by rw [List.getElem?_eq_getElem hi, e]) (List.getElem?_eq_getElem _)
  rw [hq] at h2
  injection h2 with h2
  injection h2 with h3 h4
  exact ht h4

/-- The boxes of a call: the intent, the result, what is written. -/
def WBox (n q s : Nat) (cv dv iv : Value) (w : World) : Prop := w.heap[n + 1]? = some (.cells #[.int .i64 s, cv] 62 (0, 0)) ∧ w.heap[n + 1 + 1]? = some (.cells #[.slice none 0 0, .slice none 0 0] 39 (0, 0)) ∧ w.heap[q]? = some (.cells #[dv, iv] 39 (0, 0)) ∧ n + 3 ≤ q

theorem WBox.grow {n q s : Nat} {cv dv iv : Value} {w w' : World} (h : WBox n q s cv dv iv w) (hg : Grow w w') : WBox n q s cv dv iv w' := ⟨hg.block' h.1, hg.block' h.2.1, hg.block' h.2.2.1, h.2.2.2⟩
theorem WBox.set1 {n q s : Nat} {cv dv iv u : Value} {w : World} (h : WBox n q s cv dv iv w) : WBox n q s cv dv u (w.setCell ⟨q, 1, none⟩ u) := ⟨set_other h.1 (by have := h.2.2.2; omega), set_other h.2.1 (by have := h.2.2.2; omega), two_set1 h.2.2.1, h.2.2.2⟩
theorem WBox.inn {n q s B : Nat} {bs : List Nat} {cv dv iv dx ix : Value} {a : ArrP} {w w' : World} (h : WBox n q s cv dv iv w) (ho : OwnA B bs w dx ix a) (hg : GrownIn w w' (fun j => j ∈ bs)) : WBox n q s cv dv iv w' :=
  ⟨(hg.block _ (heap_lt h.1) (ho.other h.1 (by decide))).trans h.1, (hg.block _ (heap_lt h.2.1) (ho.other h.2.1 (by decide))).trans h.2.1, (hg.block _ (heap_lt h.2.2.1) (ho.other h.2.2.1 (by decide))).trans h.2.2.1, h.2.2.2⟩

theorem write_end {w wr : World} {q s : Nat} {cv dv iv : Value} {bs : List Nat} {a : ArrP} (hB : WBox w.heap.size q s cv dv iv wr) (hO : OwnA (w.heap.size + 3) bs wr dv iv a) (hg : Grow w wr) :
    Hid (OwnA w.heap.size bs ((wr.setCell ⟨w.heap.size + 1 + 1, 0, none⟩ dv).setCell ⟨w.heap.size + 1 + 1, 1, none⟩ iv) dv iv a ∧ Grow w ((wr.setCell ⟨w.heap.size + 1 + 1, 0, none⟩ dv).setCell ⟨w.heap.size + 1 + 1, 1, none⟩ iv)) ∧
    ((wr.setCell ⟨w.heap.size + 1 + 1, 0, none⟩ dv).setCell ⟨w.heap.size + 1 + 1, 1, none⟩ iv).cell? ⟨w.heap.size + 1 + 1, 0, none⟩ = some dv ∧ ((wr.setCell ⟨w.heap.size + 1 + 1, 0, none⟩ dv).setCell ⟨w.heap.size + 1 + 1, 1, none⟩ iv).cell? ⟨w.heap.size + 1 + 1, 1, none⟩ = some iv := by
  have h1 := two_set0 (z := dv) hB.2.1
  have h2 := two_set1 (z := iv) h1
  exact ⟨⟨((hO.k4 (K4.set hB.2.1)).k4 (K4.set h1)).low (by omega), (hg.set (by omega) _).set (by omega) _⟩, two_at0 h2, two_at1 h2⟩

/-- The first write of an intent: it is noted. -/
theorem OwnA.note {B : Nat} {bs : List Nat} {w : World} {dv iv : Value} {a : ArrP} (h : OwnA B bs w dv iv a) {H r : Nat} {s : Int} {cs : List (List Int)} (hc : cs.length = 4) (hH : w.heap[H]? = some (.cells #[.int .i64 s, .slice (some ⟨r, 0, none⟩) 4 4] 62 (0, 0))) (hr : DRow r cs w) (hn : r ∉ bs) :
    OwnA B bs w dv (.slice (some ⟨H, 0, none⟩) 1 1) { a with is := [(s, cs)] } :=
  ⟨h.whole, h.disks, .inr ⟨H, r, 1, _, s, cs, rfl, hc, rfl, by omega, by unfold maxLen; omega, hH, rfl, rfl, hr, hn⟩⟩
theorem OwnA.let {B : Nat} {bs : List Nat} {w : World} {dv iv : Value} {a : ArrP} (h : OwnA B bs w dv iv a) : OwnA B bs w dv (.slice none 0 0) { a with is := [] } := ⟨h.whole, h.disks, .inl ⟨rfl, rfl⟩⟩

theorem writeTo_mid (a : ArrP) (s : Nat) (cs : List (List Int)) (k : Nat) (h1 : 1 ≤ k) (h5 : k < 5) : writeTo a ((s : Int), cs) (k + 1) = withL (writeTo a ((s : Int), cs) k) (k - 1) s (cs.getD (k - 1) []) := by
  show wstep _ _ _ = _
  unfold wstep
  rw [if_neg (by omega), if_pos (by omega)]
  rfl

end Go.Proofs.Ytjggiameajndgab

/-
  What the program's array.Write returns, the walk.
-/
namespace Go.Proofs.Ytjggiameajndgab
open Go.RowKit

/-- A box of nothing, behind n. -/
def NewBox (n : Nat) (v : Value) (w : World) : Prop := ∃ b, v = .pointer (some ⟨b, 0, none⟩) ∧ n ≤ b ∧ w.heap[b]? = some (.cells #[.slice none 0 0, .slice none 0 0] 39 (0, 0))
/-- An array of a call's own. -/
def OwnV (n : Nat) (a : ArrP) (v : Value) (w : World) : Prop := ∃ bs dv iv, v = .agg #[dv, iv] ∧ OwnA n bs w dv iv a
theorem OwnV.stable {n : Nat} {a : ArrP} : ∀ (v : Value) (x y : World), OwnV n a v x → Grow x y → OwnV n a v y := fun _ _ _ ⟨bs, dv, iv, h1, h2⟩ hg => ⟨bs, dv, iv, h1, h2.k4 hg.k4⟩

set_option maxRecDepth 20000 in
set_option maxHeartbeats 6400000 in
theorem write_any (v nv : Value) (a : ArrP) (s : Nat) (cs : List (List Int)) (n : Int) (w : World) (h : ArrV w v a) (ha : Whole a) (h8 : ∀ d s, (cellAt a d s).length ≤ 8) (hI : Few a) (hi : IntentV w nv ((s : Int), cs)) (hs3 : s < 3) (hc4 : cs.length = 4) (hc8 : ∀ b ∈ cs, b.length ≤ 8) :
    Calls Try.prog 44 #[v, nv, .int .i64 n] w fun e w' => ∃ bs dv iv, e = .returned (.agg #[dv, iv]) ∧ OwnA w.heap.size bs w' dv iv (writeL a ((s : Int), cs) n) ∧ Grow w w' := by
  obtain ⟨cv, rfl, hcv⟩ := hi
  have HA : Hid (ArrV w v a ∧ Whole a ∧ (∀ d s, (cellAt a d s).length ≤ 8) ∧ Few a) := ⟨h, ha, h8, hI⟩
  obtain ⟨dv0, iv0, rfl, hd, hit⟩ := h
  obtain ⟨ac, nc, cc, rfl⟩ : ∃ a n c, cv = .slice a n c := by
    obtain ⟨a, c, e⟩ := hcv.form
    exact ⟨_, _, _, e⟩
  obtain ⟨ad, cd, rfl, hd1, hd2⟩ := hd.form'
  obtain ⟨ai, ci, rfl, hi1, hi2⟩ := hit.form
  generalize hnd : a.ds.length = nd at *
  generalize hni : a.is.length = ni at *
  have HC : Hid (Bss w (.slice ac nc cc) cs ∧ cs.length = 4 ∧ ∀ b ∈ cs, b.length ≤ 8) := ⟨hcv, hc4, hc8⟩
  obtain ⟨W, hW⟩ : ∃ W, W = ((w.alloc (.cells #[.slice ad nd cd, .slice ai ni ci] 39)).alloc (.cells #[.int .i64 s, .slice ac nc cc] 62)).alloc (.cells #[.slice none 0 0, .slice none 0 0] 39) := ⟨_, rfl⟩
  have hgW : Grow w W := by rw [hW]; exact ((Grow.alloc _ _).trans (Grow.alloc _ _)).trans (Grow.alloc _ _)
  have HB0 : Hid (W.heap[w.heap.size]? = some (.cells #[.slice ad nd cd, .slice ai ni ci] 39 (0, 0)) ∧ W.heap[w.heap.size + 1]? = some (.cells #[.int .i64 s, .slice ac nc cc] 62 (0, 0)) ∧ W.heap[w.heap.size + 1 + 1]? = some (.cells #[.slice none 0 0, .slice none 0 0] 39 (0, 0))) := by rw [Hid, hW]; exact heap3 w _ _ _
  have a00 := two_at0 HB0.out.1
  have a01 := two_at1 HB0.out.1
  have hm6 := many6_le n
  have HM : Hid (∀ k : Nat, k < many6 n ↔ (k : Int) < min n 6) := fun k => by unfold many6; omega
  clear hcv hc4 hc8 hit hd h8 hI hnd hni ha
  have hcall := own_any (.agg #[.slice ad nd cd, .slice ai ni ci]) a W (HA.out.1.grow hgW) HA.out.2.1 HA.out.2.2.1 HA.out.2.2.2
  go_enter Try.func44, Try.ntmps44
  go_wp2_with fail
  rw [← hW]
  clear hW
  refine hcall.mono ?_
  rintro e w1 ⟨bs0, dv0, iv0, rfl, hO, hg1⟩
  clear hcall
  obtain ⟨⟨x1, x2, x3, rfl⟩, y1, y2, y3, rfl⟩ := hO.forms
  obtain ⟨q, hq⟩ : ∃ q, q = w1.heap.size := ⟨_, rfl⟩
  obtain ⟨W2, hW2⟩ : ∃ W2, W2 = w1.alloc (.cells #[.slice x1 x2 x3, .slice y1 y2 y3] 39) := ⟨_, rfl⟩
  have hg2 : Grow w1 W2 := by rw [hW2]; exact Grow.alloc _ _
  have hszW : w.heap.size + 3 ≤ W.heap.size := by have := heap_lt HB0.out.2.2; omega
  have HB : Hid (WBox w.heap.size q s (.slice ac nc cc) (.slice x1 x2 x3) (.slice y1 y2 y3) W2) := ⟨hg2.block' (hg1.block' HB0.out.2.1), hg2.block' (hg1.block' HB0.out.2.2), by rw [hq, hW2]; exact heap_alloc_new w1 _, by have := hg1.size; omega⟩
  have HO : Hid (OwnA (w.heap.size + 3) bs0 W2 (.slice x1 x2 x3) (.slice y1 y2 y3) a) := (hO.k4 hg2.k4).low hszW
  have hgr := (hgW.trans hg1).trans hg2
  clear hO hg1 hg2 hgW HB0 a00 a01 hszW
  go_wp2_with fail
  rw [← hW2, ← hq]
  clear hW2 hq
  generalize hmin : min n 6 = m at *
  go_loopw [13] (fun p wr => ∃ (k : Nat) (dv iv : Value) (bs : List Nat), k ≤ many6 n ∧ p = .int .i64 k ∧ (∃ x1 x2 x3, dv = .slice x1 x2 x3) ∧ (∃ x1 x2 x3, iv = .slice x1 x2 x3) ∧ Hid (WBox w.heap.size q s (.slice ac nc cc) dv iv wr) ∧ Hid (OwnA (w.heap.size + 3) bs wr dv iv (writeTo a ((s : Int), cs) k)) ∧ Grow w wr) (fun p _ => 6 - (intOf p).toNat)
  case atStart => exact ⟨0, _, _, bs0, by omega, rfl, ⟨_, _, _, rfl⟩, ⟨_, _, _, rfl⟩, HB, HO, hgr⟩
  case round =>
    clear HB HO hgr
    obtain ⟨k, dv, iv, bs, hk, rfl, ⟨d1, d2, d3, rfl⟩, ⟨j1, j2, j3, rfl⟩, HB, HO, hgr⟩ := hrel
    have b0 := two_at0 HB.out.2.2.1
    have b1 := two_at1 HB.out.2.2.1
    have i0 := two_at0 HB.out.1
    have i1 := two_at1 HB.out.1
    have fq : wr.frozen? ⟨q, 1, none⟩ = false := frozen_of_row wr _ 1 _ _ HB.out.2.2.1
    have hqn := HB.out.2.2.2
    by_cases hlt : k < many6 n
    · have hdk : decide ((k : Int) < m) = true := by simpa using (HM.out k).1 hlt
      have hkm : (k : Int) < m := (HM.out k).1 hlt
      have hk6 : k < 6 := by omega
      by_cases hk0 : k = 0
      · subst hk0
        have hm0 : decide (0 < m) = true := by simpa using hkm
        have hcall := ownIntent_row (.agg #[.int .i64 s, .slice ac nc cc]) s cs wr ⟨_, rfl, HC.out.1.grow hgr⟩ HC.out.2.1 HC.out.2.2
        go_wp2_with fail
        refine hcall.mono ?_
        rintro e w5 ⟨r, rfl, hr0, hr, hg5⟩
        clear hcall
        obtain ⟨W5, hW5⟩ : ∃ W5, W5 = w5.alloc (.cells #[.int .i64 s, .slice (some ⟨r, 0, none⟩) 4 4] 62) := ⟨_, rfl⟩
        have hgA : Grow w5 W5 := by rw [hW5]; exact Grow.alloc _ _
        have hH : W5.heap[w5.heap.size]? = some (.cells #[.int .i64 s, .slice (some ⟨r, 0, none⟩) 4 4] 62 (0, 0)) := by rw [hW5]; exact heap_alloc_new w5 _
        have hB5 := HB.out.grow (hg5.trans hgA)
        have b5 := two_at1 (hB5.2.2.1)
        have c5 := two_at1 (HB.out.grow hg5).2.2.1
        have f5 : W5.frozen? ⟨q, 1, none⟩ = false := frozen_of_row W5 _ 1 _ _ hB5.2.2.1
        have g5 : w5.frozen? ⟨q, 1, none⟩ = false := frozen_of_row w5 _ 1 _ _ (HB.out.grow hg5).2.2.1
        have hO5 := (HO.out.k4 (hg5.trans hgA).k4).note (s := (s : Int)) HC.out.2.1 hH (hr.grow hgA) (fun hm => by have := HO.out.disks.lt r hm; omega)
        have HB6 : Hid (WBox _ _ _ _ _ _ _) := hB5.set1 (u := .slice (some ⟨w5.heap.size, 0, none⟩) 1 1)
        have HO6 : Hid (OwnA (w.heap.size + 3) bs (W5.setCell ⟨q, 1, none⟩ (.slice (some ⟨w5.heap.size, 0, none⟩) 1 1)) (.slice d1 d2 d3) (.slice (some ⟨w5.heap.size, 0, none⟩) 1 1) (writeTo a ((s : Int), cs) 1)) := hO5.k4 (K4.set hB5.2.2.1)
        have hg6 := (hgr.trans (hg5.trans hgA)).set (g := q) (k := 1) (by omega) (.slice (some ⟨w5.heap.size, 0, none⟩) 1 1)
        have hqs : q ≠ w5.heap.size := by have := heap_lt (HB.out.grow hg5).2.2.1; omega
        clear hO5 hB5 hH hr hr0 hgA hg5 HB HO b0 b1 i0 i1 fq
        subst hW5
        go_wp2_with fail
        go_roundw
        case rel => first | exact ⟨1, _, _, _, by omega, by go_num, ⟨_, _, _, rfl⟩, ⟨_, _, _, rfl⟩, HB6, HO6, hg6⟩ | ((repeat apply Exists.intro); exact ⟨⟨1, _, _, _, by omega, by go_num, ⟨_, _, _, rfl⟩, ⟨_, _, _, rfl⟩, HB6, HO6, hg6⟩, rfl⟩)
        case measure => simp [intOf]
      · have hkz : ((k : Int) == 0) = false := by simp; omega
        have hkz' : ¬ (k : Int) = 0 := by omega
        by_cases hk5 : k = 5
        · subst hk5
          have HB6 : Hid (WBox _ _ _ _ _ _ _) := HB.out.set1 (u := .slice none 0 0)
          have HO6 : Hid (OwnA (w.heap.size + 3) bs (wr.setCell ⟨q, 1, none⟩ (.slice none 0 0)) (.slice d1 d2 d3) (.slice none 0 0) (writeTo a ((s : Int), cs) 6)) := HO.out.let.k4 (K4.set HB.out.2.2.1)
          have hg6 := hgr.set (g := q) (k := 1) (by omega) (.slice none 0 0)
          clear HB HO b0 i0 i1
          go_wp2_with fail
          go_roundw
          case rel => first | exact ⟨6, _, _, _, by omega, by go_num, ⟨_, _, _, rfl⟩, ⟨_, _, _, rfl⟩, HB6, HO6, hg6⟩ | ((repeat apply Exists.intro); exact ⟨⟨6, _, _, _, by omega, by go_num, ⟨_, _, _, rfl⟩, ⟨_, _, _, rfl⟩, HB6, HO6, hg6⟩, rfl⟩)
          case measure => simp [intOf]
        · have hk5' : ((k : Int) == 5) = false := by simp; omega
          have hk5'' : ¬ (k : Int) = 5 := by omega
          obtain ⟨j, rfl⟩ : ∃ j, k = j + 1 := ⟨k - 1, by omega⟩
          have hcall := put_any _ _ _ _ (.agg #[.int .i64 s, .slice ac nc cc]) _ s cs j wr HO.out ⟨_, rfl, HC.out.1.grow hgr⟩ HC.out.2.1 HC.out.2.2 hs3 (by omega)
          go_wp2_with fail
          refine hcall.mono ?_
          rintro e w5 ⟨⟨r5, rfl⟩, hO5, hg5⟩
          clear hcall
          have HB6 : Hid (WBox w.heap.size q s (.slice ac nc cc) (.slice d1 d2 d3) (.slice j1 j2 j3) w5) := HB.out.inn HO.out hg5
          have HO6 : Hid (OwnA (w.heap.size + 3) bs w5 (.slice d1 d2 d3) (.slice j1 j2 j3) (writeTo a ((s : Int), cs) (j + 1 + 1))) := by
            rw [writeTo_mid a s cs (j + 1) (by omega) (by omega)]
            exact hO5
          have hg6 : Grow w w5 := hgr.thenIn hg5 (fun b hb => by have := HO.out.disks.base b hb; omega)
          clear HB HO hO5 hg5 b0 b1 i0 i1 fq
          go_wp2_with fail
          go_roundw
          case rel => first | exact ⟨j + 1 + 1, _, _, _, by omega, by go_num, ⟨_, _, _, rfl⟩, ⟨_, _, _, rfl⟩, HB6, HO6, hg6⟩ | ((repeat apply Exists.intro); exact ⟨⟨j + 1 + 1, _, _, _, by omega, by go_num, ⟨_, _, _, rfl⟩, ⟨_, _, _, rfl⟩, HB6, HO6, hg6⟩, rfl⟩)
          case measure => simp [intOf]; omega
    · have hdk : decide ((k : Int) < m) = false := by
        have h1 := (HM.out k).2
        simp
        omega
      obtain ⟨HE, z0, z1⟩ := write_end HB.out HO.out hgr
      have r0 := two_at0 HB.out.2.1
      have r1 := two_at1 HB.out.2.1
      have f0 : wr.frozen? ⟨w.heap.size + 1 + 1, 0, none⟩ = false := frozen_of_row wr _ 0 _ _ HB.out.2.1
      have f1 : wr.frozen? ⟨w.heap.size + 1 + 1, 1, none⟩ = false := frozen_of_row wr _ 1 _ _ HB.out.2.1
      have hkm : k = many6 n := by omega
      have HK : Hid (k = many6 n) := hkm
      clear HB HO i0 i1 hkm
      go_wp2_with fail
      refine bodyPost_ret (results_two Try.results44 _ _ (w.heap.size + 1 + 1) _ rfl Try.underlying39 rfl Try.sizeA z0 z1) rfl ?_
      have hO := HE.out.1
      rw [HK.out] at hO
      exact ⟨_, _, _, rfl, hO, HE.out.2⟩

end Go.Proofs.Ytjggiameajndgab

/-
  What the reference's Mount returns, of an array with no intent, or one. Nothing old turns.
-/
namespace Go.Proofs.Ytjggiameajndgab
open Go.RowKit

set_option maxRecDepth 20000 in
set_option maxHeartbeats 3200000 in
theorem refMount_none (v : Value) (a : ArrP) (w : World) (h : ArrV w v a) (hi : a.is = []) :
    Calls Try.prog 46 #[v] w fun e w' => ∃ r, e = .returned r ∧ ArrV w' r a ∧ Grow w w' := by
  obtain ⟨dv, iv, e, hd, hit⟩ := id h
  obtain ⟨a1, n1, c1, a2, n2, c2, rfl⟩ := h.form
  simp only [Value.agg.injEq] at e
  have e := congrArg Array.toList e
  simp at e
  obtain ⟨rfl, rfl⟩ := e
  have hn : n2 = 0 := by
    obtain ⟨q1, q2, q3, -⟩ := hit.form
    injection q3 with _ q4 _
    rw [q4, hi]
    rfl
  subst hn
  have hgF : Grow w ((w.alloc (.cells #[.slice a1 n1 c1, .slice a2 0 c2] 39)).alloc (.cells #[.slice a1 n1 c1, .slice a2 0 c2] 39)) := (Grow.alloc _ _).trans (Grow.alloc _ _)
  have hfin : Hid (_ ∧ _) := ⟨h.grow hgF, hgF⟩
  clear hd hit h hgF
  go_enter Try.func46, Try.ntmps46
  go_wp2
  go_loop [8] (fun i => i = .int .i64 0) (fun _ => 0)
  case atStart => rfl
  case round =>
    subst hrel
    go_wp2
    refine bodyPost_ret (results_two Try.results46 _ _ (w.heap.size + 1) _ rfl Try.underlying39 rfl Try.sizeA (x := .slice a1 n1 c1) (y := .slice a2 0 c2) (by simp) (by simp)) rfl ?_
    exact ⟨_, rfl, hfin.out.1, hfin.out.2⟩

theorem writeTo_six (a : ArrP) (i : Int × List (List Int)) : writeL a i 6 = writeTo a i 6 := rfl

set_option maxRecDepth 20000 in
set_option maxHeartbeats 6400000 in
theorem refMount_one (v : Value) (a : ArrP) (s : Nat) (cs : List (List Int)) (w : World) (h : ArrV w v a) (ha : Whole a) (hi : a.is = [((s : Int), cs)]) (hs3 : s < 3) (hc4 : cs.length = 4) :
    Calls Try.prog 46 #[v] w fun e w' => ∃ r, e = .returned r ∧ ArrV w' r (writeTo a ((s : Int), cs) 6) ∧ Grow w w' := by
  have hf : Fours a := fun p hp => by rw [hi] at hp; simp at hp; rw [hp]; exact hc4
  obtain ⟨dv, iv, e, hd, hit⟩ := id h
  obtain ⟨a1, n1, c1, a2, n2, c2, rfl⟩ := h.form
  simp only [Value.agg.injEq] at e
  have e := congrArg Array.toList e
  simp at e
  obtain ⟨rfl, rfl⟩ := e
  rw [hi] at hit
  obtain ⟨ao, cap, e1, k1, k2, k3, k4⟩ := hit
  injection e1 with e2 e3 e4
  subst e2 e3 e4
  obtain ⟨bi, oi, rfl, hci⟩ := k4 (by simp)
  obtain ⟨hci0, cv, hci1, hcv⟩ := hci 0 _ rfl
  simp only [Nat.zero_mul, Nat.add_zero] at hci0 hci1
  obtain ⟨vc, cc, rfl⟩ := hcv.form
  have HCL : Hid (cs.length = 4) := hc4
  obtain ⟨W, hW⟩ : ∃ W, W = (w.alloc (.cells #[.slice a1 n1 c1, .slice (some ⟨bi, oi, none⟩) 1 c2] 39)).alloc (.cells #[.slice none 0 0, .slice none 0 0] 39) := ⟨_, rfl⟩
  have hgW : Grow w W := by rw [hW]; exact (Grow.alloc _ _).trans (Grow.alloc _ _)
  have hI : BInv w w.heap.size (w.heap.size + 1) (.slice a1 n1 c1) (.slice (some ⟨bi, oi, none⟩) 1 c2) a W := ⟨by rw [hW]; exact ⟨(heap_alloc_old _ _ (by simp)).trans (heap_alloc_new w _), heap_alloc2_new w _ _⟩, h.grow hgW, hgW⟩
  have hw6 := writeTo_whole ha ((s : Int), cs) 6
  have hf6 : Fours (writeTo a ((s : Int), cs) 6) := writeTo_is hf hc4 6
  clear h hd k4 hci k3 hc4
  simp only [List.length_cons, List.length_nil, Nat.zero_add] at k1 ⊢
  go_enter Try.func46, Try.ntmps46
  go_wp2
  rw [← hW]
  clear hW
  go_loopw [8] (fun q wr => ∃ (k : Nat) (x y : Value), k ≤ 1 ∧ q = .int .i64 k ∧ BInv w w.heap.size (w.heap.size + 1) x y (if k = 0 then a else writeTo a ((s : Int), cs) 6) wr) (fun q _ => 1 - (intOf q).toNat)
  case atStart => exact ⟨0, _, _, by omega, rfl, hI⟩
  case round =>
    obtain ⟨k, x, y, hk, rfl, hB⟩ := hrel
    have HB : Hid (BInv w w.heap.size (w.heap.size + 1) x y (if k = 0 then a else writeTo a ((s : Int), cs) 6) wr) := hB
    obtain ⟨⟨h1, h2⟩, HV, hgr⟩ := hB
    obtain ⟨⟨x1, x2, x3, rfl⟩, y1, y2, y3, rfl⟩ := HV.out.form2
    have b0 := two_at0 h1
    have b1 := two_at1 h1
    have r0 := two_at0 h2
    have r1 := two_at1 h2
    have fA0 : wr.frozen? ⟨w.heap.size, 0, none⟩ = false := frozen_of_row wr _ 0 _ _ h1
    have fA1 : wr.frozen? ⟨w.heap.size, 1, none⟩ = false := frozen_of_row wr _ 1 _ _ h1
    have f0 : wr.frozen? ⟨w.heap.size + 1, 0, none⟩ = false := frozen_of_row wr _ 0 _ _ h2
    have f1 : wr.frozen? ⟨w.heap.size + 1, 1, none⟩ = false := frozen_of_row wr _ 1 _ _ h2
    clear h1 h2
    obtain rfl | rfl : k = 0 ∨ k = 1 := by omega
    · rw [if_pos rfl] at HV HB
      have g0 := hgr.at hci0
      have g1 := hgr.at hci1
      have gE := Grow.alloc wr (.cells #[.int .i64 s, .slice vc cs.length cc] 62)
      have b0' := gE.at b0
      have b1' := gE.at b1
      have hgE := hgr.trans gE
      have HcE : Hid (Bss (wr.alloc (.cells #[.int .i64 s, .slice vc cs.length cc] 62)) (.slice vc cs.length cc) cs) := hcv.grow hgE
      have HvE : Hid (ArrV (wr.alloc (.cells #[.int .i64 s, .slice vc cs.length cc] 62)) (.agg #[.slice x1 x2 x3, .slice y1 y2 y3]) a) := HV.out.grow gE
      clear hcv hci0 hci1
      generalize hLn : cs.length = Ln at *
      go_wp2_with fail
      refine (refWrite_any _ _ a s cs 6 _ HvE.out ha ⟨_, rfl, HcE.out⟩ hs3 (by rw [hLn]; exact HCL.out) hf).mono ?_
      rintro e w5 ⟨r, rfl, hr, hg5⟩
      rw [writeTo_six] at hr
      obtain ⟨p1, p2, p3, q1, q2, q3, rfl⟩ := hr.form
      have hg15 := gE.trans hg5
      have HN : Hid (BInv w w.heap.size (w.heap.size + 1) _ _ (if 1 = 0 then a else writeTo a ((s : Int), cs) 6) _) := BInv.put HB.out hg15 hr hw6 hf6 (Nat.le_refl _) (by omega)
      have b05 := hg15.at b0
      have b15 := hg15.at b1
      have f05 := (hg15.frozen (a := ⟨w.heap.size, 0, none⟩) (cell_lt b0)).trans fA0
      have f15 := (hg15.frozen (a := ⟨w.heap.size, 1, none⟩) (cell_lt b0)).trans fA1
      clear HB HV hr HcE HvE b0' b1' gE hgE g0 g1
      go_wp2
      go_roundw
      case rel => first | exact ⟨1, _, _, by omega, rfl, HN.out⟩ | ((repeat apply Exists.intro); exact ⟨⟨1, _, _, by omega, rfl, HN.out⟩, rfl⟩)
      case measure => simp [intOf]
    · rw [if_neg (by omega)] at HV HB
      obtain ⟨hv, hg, z0, z1⟩ := HB.out.done hw6 hf6 (by omega)
      have hfin : Hid (_ ∧ _) := ⟨hv, hg⟩
      clear hv hg HB HV
      go_wp2
      refine bodyPost_ret (results_two Try.results46 _ _ (w.heap.size + 1) _ rfl Try.underlying39 rfl Try.sizeA z0 z1) rfl ?_
      exact ⟨_, rfl, hfin.out.1, hfin.out.2⟩

end Go.Proofs.Ytjggiameajndgab
