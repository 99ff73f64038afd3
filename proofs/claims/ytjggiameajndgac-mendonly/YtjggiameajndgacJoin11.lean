import Derived.Lib.MinMax
import Derived.Test.YtjggiameajndgacJoin10
/-
  What the program's array.put does: a disk has its cell of an intent.
-/
namespace Go.Proofs.Ytjggiameajndgac
open Go.RowKit

set_option maxRecDepth 20000 in
set_option maxHeartbeats 6400000 in
theorem put_any (B : Nat) (bs : List Nat) (dv iv nv : Value) (a : ArrP) (s : Nat) (cs : List (List Int)) (k : Nat) (w : World) (h : OwnA B bs w dv iv a) (hi : IntentV w nv ((s : Int), cs)) (hc4 : cs.length = 4) (hc8 : ∀ b ∈ cs, b.length ≤ 8) (hs : s < 3) (hk : k < 4) :
    Calls Try.prog 100 #[dv, nv, .int .i64 k] w fun e w' => (∃ r, e = .returned r) ∧ OwnA B bs w' dv iv (withL a k s (cs.getD k [])) ∧ GrownIn w w' (fun j => j ∈ bs) := by
  obtain ⟨cv, rfl, hb⟩ := hi
  simp only at hb ⊢
  have hlen := h.disks.len
  have hl4 := h.whole.1
  have hk' : k < a.ds.length := by omega
  have hl3 : a.ds[k].length = 3 := h.whole.2 _ (List.getElem_mem hk')
  obtain ⟨g, cap, rfl, hg1, hg2⟩ := h.disks.own.form (by omega)
  have hcell := h.disks.own.cellAt k (by omega)
  rw [rowVals_at hlen hk', hl3] at hcell
  rw [hl4] at h ⊢
  obtain ⟨bk, hbk⟩ : ∃ bk, bk = bs[k]'(by omega) := ⟨_, rfl⟩
  have hbk' : bs[k]? = some bk := by rw [hbk]; simp
  rw [← hbk] at hcell
  obtain ⟨ac, cc, ec, hcc1, hcc2⟩ := Sl.form' hb
  rw [hc4] at ec hcc1
  subst ec
  obtain ⟨bc, oc, z0, e1, hz0, hz1⟩ := Sl.elem hb (k := k) (by omega) []
  subst e1
  obtain ⟨z1, z2, z3, rfl⟩ := hz1.form
  have hoc := hz1.octets
  have hL8 : (cs.getD k []).length ≤ 8 := hc8 _ (getD_mem (by omega))
  obtain ⟨L, hLe⟩ : ∃ L, L = cs.getD k [] := ⟨_, rfl⟩
  rw [← hLe] at hz1 hoc hL8 ⊢
  obtain ⟨W, hW⟩ : ∃ W, W = w.alloc (.cells #[.int .i64 s, .slice (some ⟨bc, oc, none⟩) 4 cc] 80) := ⟨_, rfl⟩
  have hgW : Grow w W := by rw [hW]; exact Grow.alloc _ _
  have hbA : W.heap[w.heap.size]? = some (.cells #[.int .i64 s, .slice (some ⟨bc, oc, none⟩) 4 cc] 80 (0, 0)) := by rw [hW]; exact heap_alloc_new w _
  have i0 := two_at0 hbA
  have i1 := two_at1 hbA
  have hcW := hgW.at hcell
  have hzW := hgW.at hz0
  have HO : Hid (OwnA B bs W (.slice (some ⟨g, 0, none⟩) 4 cap) iv a) := h.k4 hgW.k4
  have HZ : Hid (Bs W (.slice z1 z2 z3) L ∧ Octets L ∧ L.length ≤ 8) := ⟨hz1.grow hgW, hoc, hL8⟩
  have Hb : Hid (bs[k]? = some bk) := hbk'
  have hq1 : decide ((4 : Int) ≤ (k : Int)) = false := by simp; omega
  have hq2 : decide ((s : Int) < 0) = false := by simp
  have hq3 : decide ((3 : Int) ≤ (s : Int)) = false := by simp; omega
  have hki : (k : Int) < 4 := by omega
  have hsi : (s : Int) < 3 := by omega
  clear h hb hbA hcell hz0 hz1 hoc hL8 hLe hbk hbk' hl3 hl4 hlen hk' hc4 hc8 hcc1
  go_enter Try.func100, Try.ntmps100
  go_wp2
  rw [← hW]
  clear hW
  refine wp_region_stable Grow [IsV (.int .i64 k), IsV (.slice (some ⟨g, 0, none⟩) 4 cap), IsV (.int .i64 4), IsV (.bool false), IsV (.bool false), IsV (.int .i64 k), IsV (.pointer (some ⟨w.heap.size, 1, none⟩)), IsV (.slice (some ⟨bc, oc, none⟩) 4 cc), IsV (.int .i64 4), IsV (.bool false), IsV (.bool false), IsV (.bool false), IsV (.pointer (some ⟨w.heap.size, 0, none⟩)), IsV (.int .i64 s), IsV (.bool false), IsV (.bool false), IsV (.bool false), IsV (.pointer (some ⟨w.heap.size, 0, none⟩)), IsV (.int .i64 s), IsV (.slice (some ⟨g, 0, none⟩) 4 cap), IsV (.int .i64 k), IsV (.pointer (some ⟨g, k, none⟩)), IsV (.slice (some ⟨bk, 0, none⟩) 3 3), IsV (.int .i64 3), IsV (.bool false), IsV (.bool false)] (by kernel_rfl) (by kernel_rfl) rfl Grow.refl (fun _ _ _ => Grow.trans) ?_ ?_ ?_
  · repeat (refine List.forall_mem_cons.2 ⟨by first | exact IsV.stable _, ?_⟩)
    exact fun R hR => nomatch hR
  · skip
    refine StepsS.cons ?_ fun v0 => ⟨_, _, by simp only [Act.put, List.setIfInBounds_toArray, List.set_cons_succ, List.set_cons_zero]; first | done | rfl, by simp only [List.nil_append]; first | done | rfl, ?_⟩
    · intro w1 hE hd
      clear hd
      go_wp2
      exact ⟨_, rfl, Grow.refl _, rfl⟩
    refine StepsS.cons ?_ fun v1 => ⟨_, _, by simp only [Act.put, List.setIfInBounds_toArray, List.set_cons_succ, List.set_cons_zero]; first | done | rfl, by simp only [List.nil_append, List.cons_append]; first | done | rfl, ?_⟩
    · intro w1 hE hd
      clear hd
      go_wp2
      exact ⟨_, rfl, Grow.refl _, rfl⟩
    refine StepsS.cons ?_ fun v2 => ⟨_, _, by simp only [Act.put, List.setIfInBounds_toArray, List.set_cons_succ, List.set_cons_zero]; first | done | rfl, by simp only [List.nil_append, List.cons_append]; first | done | rfl, ?_⟩
    · intro w1 hE hd
      obtain rfl := IsV.eq (dep_at hd 0 rfl rfl rfl)
      clear hd
      go_wp2
      exact ⟨_, rfl, Grow.refl _, rfl⟩
    refine StepsS.cons ?_ fun v3 => ⟨_, _, by simp only [Act.put, List.setIfInBounds_toArray, List.set_cons_succ, List.set_cons_zero]; first | done | rfl, by simp only [List.nil_append, List.cons_append]; first | done | rfl, ?_⟩
    · intro w1 hE hd
      obtain rfl := IsV.eq (dep_at hd 0 rfl rfl rfl)
      obtain rfl := IsV.eq (dep_at hd 1 rfl rfl rfl)
      clear hd
      go_wp2
      exact ⟨_, rfl, Grow.refl _, rfl⟩
    refine StepsS.cons ?_ fun v4 => ⟨_, _, by simp only [Act.put, List.setIfInBounds_toArray, List.set_cons_succ, List.set_cons_zero]; first | done | rfl, by simp only [List.nil_append, List.cons_append]; first | done | rfl, ?_⟩
    · intro w1 hE hd
      obtain rfl := IsV.eq (dep_at hd 0 rfl rfl rfl)
      clear hd
      go_wp2
      exact ⟨_, rfl, Grow.refl _, rfl⟩
    refine StepsS.cons ?_ fun v5 => ⟨_, _, by simp only [Act.put, List.setIfInBounds_toArray, List.set_cons_succ, List.set_cons_zero]; first | done | rfl, by simp only [List.nil_append, List.cons_append]; first | done | rfl, ?_⟩
    · intro w1 hE hd
      obtain rfl := IsV.eq (dep_at hd 0 rfl rfl rfl)
      clear hd
      go_wp2
      exact ⟨_, rfl, Grow.refl _, rfl⟩
    refine StepsS.cons ?_ fun v6 => ⟨_, _, by simp only [Act.put, List.setIfInBounds_toArray, List.set_cons_succ, List.set_cons_zero]; first | done | rfl, by simp only [List.nil_append, List.cons_append]; first | done | rfl, ?_⟩
    · intro w1 hE hd
      obtain rfl := IsV.eq (dep_at hd 0 rfl rfl rfl)
      clear hd
      go_wp2
      exact ⟨_, rfl, Grow.refl _, rfl⟩
    refine StepsS.cons ?_ fun v7 => ⟨_, _, by simp only [Act.put, List.setIfInBounds_toArray, List.set_cons_succ, List.set_cons_zero]; first | done | rfl, by simp only [List.nil_append, List.cons_append]; first | done | rfl, ?_⟩
    · intro w1 hE hd
      obtain rfl := IsV.eq (dep_at hd 0 rfl rfl rfl)
      obtain rfl := IsV.eq (dep_at hd 1 rfl rfl rfl)
      clear hd
      have q0 := hE.drew.at i1
      go_wp2
      exact ⟨_, rfl, Grow.refl _, rfl⟩
    refine StepsS.cons ?_ fun v8 => ⟨_, _, by simp only [Act.put, List.setIfInBounds_toArray, List.set_cons_succ, List.set_cons_zero]; first | done | rfl, by simp only [List.nil_append, List.cons_append]; first | done | rfl, ?_⟩
    · intro w1 hE hd
      obtain rfl := IsV.eq (dep_at hd 0 rfl rfl rfl)
      obtain rfl := IsV.eq (dep_at hd 1 rfl rfl rfl)
      clear hd
      go_wp2
      exact ⟨_, rfl, Grow.refl _, rfl⟩
    refine StepsS.cons ?_ fun v9 => ⟨_, _, by simp only [Act.put, List.setIfInBounds_toArray, List.set_cons_succ, List.set_cons_zero]; first | done | rfl, by simp only [List.nil_append, List.cons_append]; first | done | rfl, ?_⟩
    · intro w1 hE hd
      obtain rfl := IsV.eq (dep_at hd 0 rfl rfl rfl)
      obtain rfl := IsV.eq (dep_at hd 1 rfl rfl rfl)
      obtain rfl := IsV.eq (dep_at hd 2 rfl rfl rfl)
      clear hd
      go_wp2
      exact ⟨_, rfl, Grow.refl _, rfl⟩
    refine StepsS.cons ?_ fun v10 => ⟨_, _, by simp only [Act.put, List.setIfInBounds_toArray, List.set_cons_succ, List.set_cons_zero]; first | done | rfl, by simp only [List.nil_append, List.cons_append]; first | done | rfl, ?_⟩
    · intro w1 hE hd
      obtain rfl := IsV.eq (dep_at hd 0 rfl rfl rfl)
      obtain rfl := IsV.eq (dep_at hd 1 rfl rfl rfl)
      clear hd
      go_wp2
      exact ⟨_, rfl, Grow.refl _, rfl⟩
    refine StepsS.cons ?_ fun v11 => ⟨_, _, by simp only [Act.put, List.setIfInBounds_toArray, List.set_cons_succ, List.set_cons_zero]; first | done | rfl, by simp only [List.nil_append, List.cons_append]; first | done | rfl, ?_⟩
    · intro w1 hE hd
      obtain rfl := IsV.eq (dep_at hd 0 rfl rfl rfl)
      clear hd
      go_wp2
      exact ⟨_, rfl, Grow.refl _, rfl⟩
    refine StepsS.cons ?_ fun v12 => ⟨_, _, by simp only [Act.put, List.setIfInBounds_toArray, List.set_cons_succ, List.set_cons_zero]; first | done | rfl, by simp only [List.nil_append, List.cons_append]; first | done | rfl, ?_⟩
    · intro w1 hE hd
      obtain rfl := IsV.eq (dep_at hd 0 rfl rfl rfl)
      clear hd
      go_wp2
      exact ⟨_, rfl, Grow.refl _, rfl⟩
    refine StepsS.cons ?_ fun v13 => ⟨_, _, by simp only [Act.put, List.setIfInBounds_toArray, List.set_cons_succ, List.set_cons_zero]; first | done | rfl, by simp only [List.nil_append, List.cons_append]; first | done | rfl, ?_⟩
    · intro w1 hE hd
      obtain rfl := IsV.eq (dep_at hd 0 rfl rfl rfl)
      obtain rfl := IsV.eq (dep_at hd 1 rfl rfl rfl)
      clear hd
      have q0 := hE.drew.at i0
      go_wp2
      exact ⟨_, rfl, Grow.refl _, rfl⟩
    refine StepsS.cons ?_ fun v14 => ⟨_, _, by simp only [Act.put, List.setIfInBounds_toArray, List.set_cons_succ, List.set_cons_zero]; first | done | rfl, by simp only [List.nil_append, List.cons_append]; first | done | rfl, ?_⟩
    · intro w1 hE hd
      obtain rfl := IsV.eq (dep_at hd 0 rfl rfl rfl)
      obtain rfl := IsV.eq (dep_at hd 1 rfl rfl rfl)
      clear hd
      go_wp2
      exact ⟨_, rfl, Grow.refl _, rfl⟩
    refine StepsS.cons ?_ fun v15 => ⟨_, _, by simp only [Act.put, List.setIfInBounds_toArray, List.set_cons_succ, List.set_cons_zero]; first | done | rfl, by simp only [List.nil_append, List.cons_append]; first | done | rfl, ?_⟩
    · intro w1 hE hd
      obtain rfl := IsV.eq (dep_at hd 0 rfl rfl rfl)
      obtain rfl := IsV.eq (dep_at hd 1 rfl rfl rfl)
      clear hd
      go_wp2
      exact ⟨_, rfl, Grow.refl _, rfl⟩
    refine StepsS.cons ?_ fun v16 => ⟨_, _, by simp only [Act.put, List.setIfInBounds_toArray, List.set_cons_succ, List.set_cons_zero]; first | done | rfl, by simp only [List.nil_append, List.cons_append]; first | done | rfl, ?_⟩
    · intro w1 hE hd
      obtain rfl := IsV.eq (dep_at hd 0 rfl rfl rfl)
      clear hd
      go_wp2
      exact ⟨_, rfl, Grow.refl _, rfl⟩
    refine StepsS.cons ?_ fun v17 => ⟨_, _, by simp only [Act.put, List.setIfInBounds_toArray, List.set_cons_succ, List.set_cons_zero]; first | done | rfl, by simp only [List.nil_append, List.cons_append]; first | done | rfl, ?_⟩
    · intro w1 hE hd
      obtain rfl := IsV.eq (dep_at hd 0 rfl rfl rfl)
      clear hd
      go_wp2
      exact ⟨_, rfl, Grow.refl _, rfl⟩
    refine StepsS.cons ?_ fun v18 => ⟨_, _, by simp only [Act.put, List.setIfInBounds_toArray, List.set_cons_succ, List.set_cons_zero]; first | done | rfl, by simp only [List.nil_append, List.cons_append]; first | done | rfl, ?_⟩
    · intro w1 hE hd
      obtain rfl := IsV.eq (dep_at hd 0 rfl rfl rfl)
      obtain rfl := IsV.eq (dep_at hd 1 rfl rfl rfl)
      clear hd
      have q0 := hE.drew.at i0
      go_wp2
      exact ⟨_, rfl, Grow.refl _, rfl⟩
    refine StepsS.cons ?_ fun v19 => ⟨_, _, by simp only [Act.put, List.setIfInBounds_toArray, List.set_cons_succ, List.set_cons_zero]; first | done | rfl, by simp only [List.nil_append, List.cons_append]; first | done | rfl, ?_⟩
    · intro w1 hE hd
      obtain rfl := IsV.eq (dep_at hd 0 rfl rfl rfl)
      clear hd
      go_wp2
      exact ⟨_, rfl, Grow.refl _, rfl⟩
    refine StepsS.cons ?_ fun v20 => ⟨_, _, by simp only [Act.put, List.setIfInBounds_toArray, List.set_cons_succ, List.set_cons_zero]; first | done | rfl, by simp only [List.nil_append, List.cons_append]; first | done | rfl, ?_⟩
    · intro w1 hE hd
      obtain rfl := IsV.eq (dep_at hd 0 rfl rfl rfl)
      clear hd
      go_wp2
      exact ⟨_, rfl, Grow.refl _, rfl⟩
    refine StepsS.cons ?_ fun v21 => ⟨_, _, by simp only [Act.put, List.setIfInBounds_toArray, List.set_cons_succ, List.set_cons_zero]; first | done | rfl, by simp only [List.nil_append, List.cons_append]; first | done | rfl, ?_⟩
    · intro w1 hE hd
      obtain rfl := IsV.eq (dep_at hd 0 rfl rfl rfl)
      obtain rfl := IsV.eq (dep_at hd 1 rfl rfl rfl)
      obtain rfl := IsV.eq (dep_at hd 2 rfl rfl rfl)
      clear hd
      go_wp2
      exact ⟨_, rfl, Grow.refl _, rfl⟩
    refine StepsS.cons ?_ fun v22 => ⟨_, _, by simp only [Act.put, List.setIfInBounds_toArray, List.set_cons_succ, List.set_cons_zero]; first | done | rfl, by simp only [List.nil_append, List.cons_append]; first | done | rfl, ?_⟩
    · intro w1 hE hd
      obtain rfl := IsV.eq (dep_at hd 0 rfl rfl rfl)
      obtain rfl := IsV.eq (dep_at hd 1 rfl rfl rfl)
      clear hd
      have q0 := hE.drew.at hcW
      go_wp2
      exact ⟨_, rfl, Grow.refl _, rfl⟩
    refine StepsS.cons ?_ fun v23 => ⟨_, _, by simp only [Act.put, List.setIfInBounds_toArray, List.set_cons_succ, List.set_cons_zero]; first | done | rfl, by simp only [List.nil_append, List.cons_append]; first | done | rfl, ?_⟩
    · intro w1 hE hd
      obtain rfl := IsV.eq (dep_at hd 0 rfl rfl rfl)
      obtain rfl := IsV.eq (dep_at hd 1 rfl rfl rfl)
      clear hd
      go_wp2
      exact ⟨_, rfl, Grow.refl _, rfl⟩
    refine StepsS.cons ?_ fun v24 => ⟨_, _, by simp only [Act.put, List.setIfInBounds_toArray, List.set_cons_succ, List.set_cons_zero]; first | done | rfl, by simp only [List.nil_append, List.cons_append]; first | done | rfl, ?_⟩
    · intro w1 hE hd
      obtain rfl := IsV.eq (dep_at hd 0 rfl rfl rfl)
      obtain rfl := IsV.eq (dep_at hd 1 rfl rfl rfl)
      obtain rfl := IsV.eq (dep_at hd 2 rfl rfl rfl)
      clear hd
      go_wp2
      exact ⟨_, rfl, Grow.refl _, rfl⟩
    refine StepsS.cons ?_ fun v25 => ⟨_, _, by simp only [Act.put, List.setIfInBounds_toArray, List.set_cons_succ, List.set_cons_zero]; first | done | rfl, by simp only [List.nil_append, List.cons_append]; first | done | rfl, ?_⟩
    · intro w1 hE hd
      obtain rfl := IsV.eq (dep_at hd 0 rfl rfl rfl)
      obtain rfl := IsV.eq (dep_at hd 1 rfl rfl rfl)
      clear hd
      go_wp2
      exact ⟨_, rfl, Grow.refl _, rfl⟩
    trivial
  intro w2 hw2
  refine FinS.cons ?_; rintro _ rfl; refine ⟨_, by simp only [Act.put, List.setIfInBounds_toArray, List.set_cons_succ, List.set_cons_zero]; first | done | rfl, ?_⟩
  refine FinS.cons ?_; rintro _ rfl; refine ⟨_, by simp only [Act.put, List.setIfInBounds_toArray, List.set_cons_succ, List.set_cons_zero]; first | done | rfl, ?_⟩
  refine FinS.cons ?_; rintro _ rfl; refine ⟨_, by simp only [Act.put, List.setIfInBounds_toArray, List.set_cons_succ, List.set_cons_zero]; first | done | rfl, ?_⟩
  refine FinS.cons ?_; rintro _ rfl; refine ⟨_, by simp only [Act.put, List.setIfInBounds_toArray, List.set_cons_succ, List.set_cons_zero]; first | done | rfl, ?_⟩
  refine FinS.cons ?_; rintro _ rfl; refine ⟨_, by simp only [Act.put, List.setIfInBounds_toArray, List.set_cons_succ, List.set_cons_zero]; first | done | rfl, ?_⟩
  refine FinS.cons ?_; rintro _ rfl; refine ⟨_, by simp only [Act.put, List.setIfInBounds_toArray, List.set_cons_succ, List.set_cons_zero]; first | done | rfl, ?_⟩
  refine FinS.cons ?_; rintro _ rfl; refine ⟨_, by simp only [Act.put, List.setIfInBounds_toArray, List.set_cons_succ, List.set_cons_zero]; first | done | rfl, ?_⟩
  refine FinS.cons ?_; rintro _ rfl; refine ⟨_, by simp only [Act.put, List.setIfInBounds_toArray, List.set_cons_succ, List.set_cons_zero]; first | done | rfl, ?_⟩
  refine FinS.cons ?_; rintro _ rfl; refine ⟨_, by simp only [Act.put, List.setIfInBounds_toArray, List.set_cons_succ, List.set_cons_zero]; first | done | rfl, ?_⟩
  refine FinS.cons ?_; rintro _ rfl; refine ⟨_, by simp only [Act.put, List.setIfInBounds_toArray, List.set_cons_succ, List.set_cons_zero]; first | done | rfl, ?_⟩
  refine FinS.cons ?_; rintro _ rfl; refine ⟨_, by simp only [Act.put, List.setIfInBounds_toArray, List.set_cons_succ, List.set_cons_zero]; first | done | rfl, ?_⟩
  refine FinS.cons ?_; rintro _ rfl; refine ⟨_, by simp only [Act.put, List.setIfInBounds_toArray, List.set_cons_succ, List.set_cons_zero]; first | done | rfl, ?_⟩
  refine FinS.cons ?_; rintro _ rfl; refine ⟨_, by simp only [Act.put, List.setIfInBounds_toArray, List.set_cons_succ, List.set_cons_zero]; first | done | rfl, ?_⟩
  refine FinS.cons ?_; rintro _ rfl; refine ⟨_, by simp only [Act.put, List.setIfInBounds_toArray, List.set_cons_succ, List.set_cons_zero]; first | done | rfl, ?_⟩
  refine FinS.cons ?_; rintro _ rfl; refine ⟨_, by simp only [Act.put, List.setIfInBounds_toArray, List.set_cons_succ, List.set_cons_zero]; first | done | rfl, ?_⟩
  refine FinS.cons ?_; rintro _ rfl; refine ⟨_, by simp only [Act.put, List.setIfInBounds_toArray, List.set_cons_succ, List.set_cons_zero]; first | done | rfl, ?_⟩
  refine FinS.cons ?_; rintro _ rfl; refine ⟨_, by simp only [Act.put, List.setIfInBounds_toArray, List.set_cons_succ, List.set_cons_zero]; first | done | rfl, ?_⟩
  refine FinS.cons ?_; rintro _ rfl; refine ⟨_, by simp only [Act.put, List.setIfInBounds_toArray, List.set_cons_succ, List.set_cons_zero]; first | done | rfl, ?_⟩
  refine FinS.cons ?_; rintro _ rfl; refine ⟨_, by simp only [Act.put, List.setIfInBounds_toArray, List.set_cons_succ, List.set_cons_zero]; first | done | rfl, ?_⟩
  refine FinS.cons ?_; rintro _ rfl; refine ⟨_, by simp only [Act.put, List.setIfInBounds_toArray, List.set_cons_succ, List.set_cons_zero]; first | done | rfl, ?_⟩
  refine FinS.cons ?_; rintro _ rfl; refine ⟨_, by simp only [Act.put, List.setIfInBounds_toArray, List.set_cons_succ, List.set_cons_zero]; first | done | rfl, ?_⟩
  refine FinS.cons ?_; rintro _ rfl; refine ⟨_, by simp only [Act.put, List.setIfInBounds_toArray, List.set_cons_succ, List.set_cons_zero]; first | done | rfl, ?_⟩
  refine FinS.cons ?_; rintro _ rfl; refine ⟨_, by simp only [Act.put, List.setIfInBounds_toArray, List.set_cons_succ, List.set_cons_zero]; first | done | rfl, ?_⟩
  refine FinS.cons ?_; rintro _ rfl; refine ⟨_, by simp only [Act.put, List.setIfInBounds_toArray, List.set_cons_succ, List.set_cons_zero]; first | done | rfl, ?_⟩
  refine FinS.cons ?_; rintro _ rfl; refine ⟨_, by simp only [Act.put, List.setIfInBounds_toArray, List.set_cons_succ, List.set_cons_zero]; first | done | rfl, ?_⟩
  refine FinS.cons ?_; rintro _ rfl; refine ⟨_, by simp only [Act.put, List.setIfInBounds_toArray, List.set_cons_succ, List.set_cons_zero]; first | done | rfl, ?_⟩
  first | show Exit.then _ _ _ _ _ | show Exit.inBlock _ _ _ _ _
  have hg2 : Grow W w2 := hw2.drew
  have j0 := hg2.at i0
  have j1 := hg2.at i1
  have hc2 := hg2.at hcW
  have hz2 := hg2.at hzW
  go_wp2
  refine wp_region_last [_, _, _, _, _, _, _, _, _, _, _, _, _] _ rfl Grow [IsV (.slice (some ⟨g, 0, none⟩) 4 cap), IsV (.int .i64 k), IsV (.pointer (some ⟨g, k, none⟩)), IsV (.slice (some ⟨bk, 0, none⟩) 3 3), IsV (.pointer (some ⟨w.heap.size, 0, none⟩)), IsV (.int .i64 s), IsV (.pointer (some ⟨w.heap.size, 1, none⟩)), IsV (.slice (some ⟨bc, oc, none⟩) 4 cc), IsV (.int .i64 k), IsV (.pointer (some ⟨bc, oc + k, none⟩)), IsV (.slice z1 z2 z3), NewTb L, IsV (.pointer (some ⟨bk, s, none⟩))] (by kernel_rfl) (by kernel_rfl) (by kernel_rfl) rfl Grow.refl (fun _ _ _ => Grow.trans) ?_ ?_ ?_
  · repeat (refine List.forall_mem_cons.2 ⟨by first | exact IsV.stable _ | exact NewTb.stable _, ?_⟩)
    exact fun R hR => nomatch hR
  · skip
    refine StepsS.cons ?_ fun v0 => ⟨_, _, by simp only [Act.put, List.setIfInBounds_toArray, List.set_cons_succ, List.set_cons_zero]; first | done | rfl, by simp only [List.nil_append]; first | done | rfl, ?_⟩
    · intro w1 hE hd
      clear hd
      go_wp2
      exact ⟨_, rfl, Grow.refl _, rfl⟩
    refine StepsS.cons ?_ fun v1 => ⟨_, _, by simp only [Act.put, List.setIfInBounds_toArray, List.set_cons_succ, List.set_cons_zero]; first | done | rfl, by simp only [List.nil_append, List.cons_append]; first | done | rfl, ?_⟩
    · intro w1 hE hd
      clear hd
      go_wp2
      exact ⟨_, rfl, Grow.refl _, rfl⟩
    refine StepsS.cons ?_ fun v2 => ⟨_, _, by simp only [Act.put, List.setIfInBounds_toArray, List.set_cons_succ, List.set_cons_zero]; first | done | rfl, by simp only [List.nil_append, List.cons_append]; first | done | rfl, ?_⟩
    · intro w1 hE hd
      obtain rfl := IsV.eq (dep_at hd 0 rfl rfl rfl)
      obtain rfl := IsV.eq (dep_at hd 1 rfl rfl rfl)
      clear hd
      go_wp2
      exact ⟨_, rfl, Grow.refl _, rfl⟩
    refine StepsS.cons ?_ fun v3 => ⟨_, _, by simp only [Act.put, List.setIfInBounds_toArray, List.set_cons_succ, List.set_cons_zero]; first | done | rfl, by simp only [List.nil_append, List.cons_append]; first | done | rfl, ?_⟩
    · intro w1 hE hd
      obtain rfl := IsV.eq (dep_at hd 0 rfl rfl rfl)
      clear hd
      have q0 := hE.drew.at hc2
      go_wp2
      exact ⟨_, rfl, Grow.refl _, rfl⟩
    refine StepsS.cons ?_ fun v4 => ⟨_, _, by simp only [Act.put, List.setIfInBounds_toArray, List.set_cons_succ, List.set_cons_zero]; first | done | rfl, by simp only [List.nil_append, List.cons_append]; first | done | rfl, ?_⟩
    · intro w1 hE hd
      clear hd
      go_wp2
      exact ⟨_, rfl, Grow.refl _, rfl⟩
    refine StepsS.cons ?_ fun v5 => ⟨_, _, by simp only [Act.put, List.setIfInBounds_toArray, List.set_cons_succ, List.set_cons_zero]; first | done | rfl, by simp only [List.nil_append, List.cons_append]; first | done | rfl, ?_⟩
    · intro w1 hE hd
      obtain rfl := IsV.eq (dep_at hd 0 rfl rfl rfl)
      clear hd
      have q0 := hE.drew.at j0
      go_wp2
      exact ⟨_, rfl, Grow.refl _, rfl⟩
    refine StepsS.cons ?_ fun v6 => ⟨_, _, by simp only [Act.put, List.setIfInBounds_toArray, List.set_cons_succ, List.set_cons_zero]; first | done | rfl, by simp only [List.nil_append, List.cons_append]; first | done | rfl, ?_⟩
    · intro w1 hE hd
      clear hd
      go_wp2
      exact ⟨_, rfl, Grow.refl _, rfl⟩
    refine StepsS.cons ?_ fun v7 => ⟨_, _, by simp only [Act.put, List.setIfInBounds_toArray, List.set_cons_succ, List.set_cons_zero]; first | done | rfl, by simp only [List.nil_append, List.cons_append]; first | done | rfl, ?_⟩
    · intro w1 hE hd
      obtain rfl := IsV.eq (dep_at hd 0 rfl rfl rfl)
      clear hd
      have q0 := hE.drew.at j1
      go_wp2
      exact ⟨_, rfl, Grow.refl _, rfl⟩
    refine StepsS.cons ?_ fun v8 => ⟨_, _, by simp only [Act.put, List.setIfInBounds_toArray, List.set_cons_succ, List.set_cons_zero]; first | done | rfl, by simp only [List.nil_append, List.cons_append]; first | done | rfl, ?_⟩
    · intro w1 hE hd
      clear hd
      go_wp2
      exact ⟨_, rfl, Grow.refl _, rfl⟩
    refine StepsS.cons ?_ fun v9 => ⟨_, _, by simp only [Act.put, List.setIfInBounds_toArray, List.set_cons_succ, List.set_cons_zero]; first | done | rfl, by simp only [List.nil_append, List.cons_append]; first | done | rfl, ?_⟩
    · intro w1 hE hd
      obtain rfl := IsV.eq (dep_at hd 0 rfl rfl rfl)
      obtain rfl := IsV.eq (dep_at hd 1 rfl rfl rfl)
      clear hd
      go_wp2
      exact ⟨_, rfl, Grow.refl _, rfl⟩
    refine StepsS.cons ?_ fun v10 => ⟨_, _, by simp only [Act.put, List.setIfInBounds_toArray, List.set_cons_succ, List.set_cons_zero]; first | done | rfl, by simp only [List.nil_append, List.cons_append]; first | done | rfl, ?_⟩
    · intro w1 hE hd
      obtain rfl := IsV.eq (dep_at hd 0 rfl rfl rfl)
      clear hd
      have q0 := hE.drew.at hz2
      go_wp2
      exact ⟨_, rfl, Grow.refl _, rfl⟩
    refine StepsS.cons ?_ fun v11 => ⟨_, _, by simp only [Act.put, List.setIfInBounds_toArray, List.set_cons_succ, List.set_cons_zero]; first | done | rfl, by simp only [List.nil_append, List.cons_append]; first | done | rfl, ?_⟩
    · intro w1 hE hd
      obtain rfl := IsV.eq (dep_at hd 0 rfl rfl rfl)
      clear hd
      have hcall := bytesClone_any (.slice z1 z2 z3) L w1 (HZ.out.1.grow (hg2.trans hE.drew)) (by have := HZ.out.2.2; omega)
      go_wp2_with fail
      refine hcall.mono ?_
      rintro e w5 ⟨r, rfl, hr, hg5⟩
      go_wp2_with fail
      exact ⟨_, rfl, hg5, Tb.own hr HZ.out.2.1⟩
    refine StepsS.cons ?_ fun v12 => ⟨_, _, by simp only [Act.put, List.setIfInBounds_toArray, List.set_cons_succ, List.set_cons_zero]; first | done | rfl, by simp only [List.nil_append, List.cons_append]; first | done | rfl, ?_⟩
    · intro w1 hE hd
      obtain rfl := IsV.eq (dep_at hd 0 rfl rfl rfl)
      obtain rfl := IsV.eq (dep_at hd 1 rfl rfl rfl)
      clear hd
      go_wp2
      exact ⟨_, rfl, Grow.refl _, rfl⟩
    trivial
  intro w3 hw3
  refine FinS.cons ?_; rintro _ rfl; refine ⟨_, by simp only [Act.put, List.setIfInBounds_toArray, List.set_cons_succ, List.set_cons_zero]; first | done | rfl, ?_⟩
  refine FinS.cons ?_; rintro _ rfl; refine ⟨_, by simp only [Act.put, List.setIfInBounds_toArray, List.set_cons_succ, List.set_cons_zero]; first | done | rfl, ?_⟩
  refine FinS.cons ?_; rintro _ rfl; refine ⟨_, by simp only [Act.put, List.setIfInBounds_toArray, List.set_cons_succ, List.set_cons_zero]; first | done | rfl, ?_⟩
  refine FinS.cons ?_; rintro _ rfl; refine ⟨_, by simp only [Act.put, List.setIfInBounds_toArray, List.set_cons_succ, List.set_cons_zero]; first | done | rfl, ?_⟩
  refine FinS.cons ?_; rintro _ rfl; refine ⟨_, by simp only [Act.put, List.setIfInBounds_toArray, List.set_cons_succ, List.set_cons_zero]; first | done | rfl, ?_⟩
  refine FinS.cons ?_; rintro _ rfl; refine ⟨_, by simp only [Act.put, List.setIfInBounds_toArray, List.set_cons_succ, List.set_cons_zero]; first | done | rfl, ?_⟩
  refine FinS.cons ?_; rintro _ rfl; refine ⟨_, by simp only [Act.put, List.setIfInBounds_toArray, List.set_cons_succ, List.set_cons_zero]; first | done | rfl, ?_⟩
  refine FinS.cons ?_; rintro _ rfl; refine ⟨_, by simp only [Act.put, List.setIfInBounds_toArray, List.set_cons_succ, List.set_cons_zero]; first | done | rfl, ?_⟩
  refine FinS.cons ?_; rintro _ rfl; refine ⟨_, by simp only [Act.put, List.setIfInBounds_toArray, List.set_cons_succ, List.set_cons_zero]; first | done | rfl, ?_⟩
  refine FinS.cons ?_; rintro _ rfl; refine ⟨_, by simp only [Act.put, List.setIfInBounds_toArray, List.set_cons_succ, List.set_cons_zero]; first | done | rfl, ?_⟩
  refine FinS.cons ?_; rintro _ rfl; refine ⟨_, by simp only [Act.put, List.setIfInBounds_toArray, List.set_cons_succ, List.set_cons_zero]; first | done | rfl, ?_⟩
  refine FinS.cons fun v11 h11 => ⟨_, by simp only [Act.put, List.setIfInBounds_toArray, List.set_cons_succ, List.set_cons_zero]; first | done | rfl, ?_⟩
  refine FinS.cons ?_; rintro _ rfl; refine ⟨_, by simp only [Act.put, List.setIfInBounds_toArray, List.set_cons_succ, List.set_cons_zero]; first | done | rfl, ?_⟩
  show wpList _ _ _ _ _ _
  obtain ⟨r1, r2, r3, rfl⟩ := (Tb.here h11).form
  have hg3 : Grow W w3 := hg2.trans hw3.drew
  have hO3 := HO.out.k4 hg3.k4
  have hO4 := hO3.put (s := s) hk Hb.out h11
  have hlen := hO3.disks.len
  have hl4 := hO3.whole.1
  have hrow := hO3.disks.rows k bk _ Hb.out (by simp [show k < a.ds.length by omega] : a.ds[k]? = some (a.ds[k]'(by omega)))
  obtain ⟨⟨u0, hu0⟩, hf0⟩ := hrow.at (k := s) (by rw [hO3.whole.2 _ (List.getElem_mem _)]; exact hs)
  have HO4 : Hid (OwnA _ _ _ _ _ _) := hO4
  have HG4 : Hid (GrownIn w (w3.setCell ⟨bk, s, none⟩ (.slice r1 r2 r3)) (fun j => j ∈ bs)) := ((hgW.trans hg3).inn _).trans (grownIn_set w3 bk s _ (List.mem_of_getElem? Hb.out))
  clear hO3 hO4 hrow hlen hl4 HO HZ h11
  go_wp2
  go_end0
  exact ⟨⟨_, rfl⟩, HO4.out, HG4.out⟩

end Go.Proofs.Ytjggiameajndgac

/-
  What the program's array.Write returns: an array of the call's own, behind the first writes of an intent. Nothing old turns.
-/
namespace Go.Proofs.Ytjggiameajndgac
open Go.RowKit

theorem OwnA.forms {B : Nat} {bs : List Nat} {w : World} {dv iv : Value} {a : ArrP} (h : OwnA B bs w dv iv a) : (∃ x1 x2 x3, dv = .slice x1 x2 x3) ∧ ∃ y1 y2 y3, iv = .slice y1 y2 y3 := by
  have h1 := h.disks.len
  have h2 := h.whole.1
  obtain ⟨g, cap, e, -, -⟩ := h.disks.own.form (by omega)
  refine ⟨⟨_, _, _, e⟩, ?_⟩
  rcases h.its with ⟨-, e⟩ | ⟨q, r, cap, cur, s, cs, -, -, e, -⟩
  · exact ⟨_, _, _, e⟩
  · exact ⟨_, _, _, e⟩

/-- No row of its own is a block of another type. -/
theorem OwnA.other {B : Nat} {bs : List Nat} {w : World} {dv iv : Value} {a : ArrP} (h : OwnA B bs w dv iv a) {q : Nat} {t : TypeId} {cs : Array Value} {mk : Nat × Nat} (hq : w.heap[q]? = some (.cells cs t mk)) (ht : t ≠ 52) : q ∉ bs := by
  intro hm
  obtain ⟨i, hi, e⟩ := List.mem_iff_getElem.1 hm
  have hl := h.disks.len
  obtain ⟨us, -, h2, -⟩ := h.disks.rows i q (a.ds[i]'(by omega)) (by rw [List.getElem?_eq_getElem hi, e]) (List.getElem?_eq_getElem _)
  rw [hq] at h2
  injection h2 with h2
  injection h2 with h3 h4
  exact ht h4

/-- The boxes of a call: the intent, the result, what is written. -/
def WBox (n q s : Nat) (cv dv iv : Value) (w : World) : Prop := w.heap[n + 1]? = some (.cells #[.int .i64 s, cv] 80 (0, 0)) ∧ w.heap[n + 1 + 1]? = some (.cells #[.slice none 0 0, .slice none 0 0] 26 (0, 0)) ∧ w.heap[q]? = some (.cells #[dv, iv] 26 (0, 0)) ∧ n + 3 ≤ q

theorem WBox.grow {n q s : Nat} {cv dv iv : Value} {w w' : World} (h : WBox n q s cv dv iv w) (hg : Grow w w') : WBox n q s cv dv iv w' := ⟨hg.block' h.1, hg.block' h.2.1, hg.block' h.2.2.1, h.2.2.2⟩
theorem WBox.set1 {n q s : Nat} {cv dv iv u : Value} {w : World} (h : WBox n q s cv dv iv w) : WBox n q s cv dv u (w.setCell ⟨q, 1, none⟩ u) := ⟨set_other h.1 (by have := h.2.2.2; omega), set_other h.2.1 (by have := h.2.2.2; omega), two_set1 h.2.2.1, h.2.2.2⟩
theorem WBox.inn {n q s B : Nat} {bs : List Nat} {cv dv iv dx ix : Value} {a : ArrP} {w w' : World} (h : WBox n q s cv dv iv w) (ho : OwnA B bs w dx ix a) (hg : GrownIn w w' (fun j => j ∈ bs)) : WBox n q s cv dv iv w' :=
  ⟨(hg.block _ (heap_lt h.1) (ho.other h.1 (by decide))).trans h.1, (hg.block _ (heap_lt h.2.1) (ho.other h.2.1 (by decide))).trans h.2.1, (hg.block _ (heap_lt h.2.2.1) (ho.other h.2.2.1 (by decide))).trans h.2.2.1, h.2.2.2⟩

theorem write_end {w wr : World} {q s : Nat} {cv dv iv : Value} {bs : List Nat} {a : ArrP} (hB : WBox w.heap.size q s cv dv iv wr) (hO : OwnA (w.heap.size + 3) bs wr dv iv a) (hg : Grow w wr) :
    Hid (OwnA w.heap.size bs ((wr.setCell ⟨w.heap.size + 1 + 1, 0, none⟩ dv).setCell ⟨w.heap.size + 1 + 1, 1, none⟩ iv) dv iv a ∧ Grow w ((wr.setCell ⟨w.heap.size + 1 + 1, 0, none⟩ dv).setCell ⟨w.heap.size + 1 + 1, 1, none⟩ iv)) ∧
    ((wr.setCell ⟨w.heap.size + 1 + 1, 0, none⟩ dv).setCell ⟨w.heap.size + 1 + 1, 1, none⟩ iv).cell? ⟨w.heap.size + 1 + 1, 0, none⟩ = some dv ∧ ((wr.setCell ⟨w.heap.size + 1 + 1, 0, none⟩ dv).setCell ⟨w.heap.size + 1 + 1, 1, none⟩ iv).cell? ⟨w.heap.size + 1 + 1, 1, none⟩ = some iv := by
  have h1 := two_set0 (z := dv) hB.2.1
  have h2 := two_set1 (z := iv) h1
  exact ⟨⟨((hO.k4 (K4.set hB.2.1)).k4 (K4.set h1)).low (by omega), (hg.set (by omega) _).set (by omega) _⟩, two_at0 h2, two_at1 h2⟩

/-- The first write of an intent: it is noted. -/
theorem OwnA.note {B : Nat} {bs : List Nat} {w : World} {dv iv : Value} {a : ArrP} (h : OwnA B bs w dv iv a) {H r : Nat} {s : Int} {cs : List (List Int)} (hc : cs.length = 4) (hH : w.heap[H]? = some (.cells #[.int .i64 s, .slice (some ⟨r, 0, none⟩) 4 4] 80 (0, 0))) (hr : DRow r cs w) (hn : r ∉ bs) :
    OwnA B bs w dv (.slice (some ⟨H, 0, none⟩) 1 1) { a with is := [(s, cs)] } :=
  ⟨h.whole, h.disks, .inr ⟨H, r, 1, _, s, cs, rfl, hc, rfl, by omega, by unfold maxLen; omega, hH, rfl, rfl, hr, hn⟩⟩
theorem OwnA.let {B : Nat} {bs : List Nat} {w : World} {dv iv : Value} {a : ArrP} (h : OwnA B bs w dv iv a) : OwnA B bs w dv (.slice none 0 0) { a with is := [] } := ⟨h.whole, h.disks, .inl ⟨rfl, rfl⟩⟩

theorem writeTo_mid (a : ArrP) (s : Nat) (cs : List (List Int)) (k : Nat) (h1 : 1 ≤ k) (h5 : k < 5) : writeTo a ((s : Int), cs) (k + 1) = withL (writeTo a ((s : Int), cs) k) (k - 1) s (cs.getD (k - 1) []) := by
  show wstep _ _ _ = _
  unfold wstep
  rw [if_neg (by omega), if_pos (by omega)]
  rfl

end Go.Proofs.Ytjggiameajndgac

/-
  What the reference's Worst and Mend return. Nothing old turns.
-/
namespace Go.Proofs.Ytjggiameajndgac
open Go.RowKit

/-- How many cells of stripe s are none. -/
def badN (a : ArrP) (s : Nat) : Nat := (badL (cellsL a s) s).length

/-- Of one of the first k stripes, at most. -/
def worstTo (a : ArrP) : Nat → Nat
  | 0 => 0
  | k + 1 => if worstTo a k < badN a k then badN a k else worstTo a k

def worstN (a : ArrP) : Nat := worstTo a 3

theorem badN_le {a : ArrP} (ha : Whole a) (s : Nat) : badN a s ≤ 4 := by
  have := badTo_length (cellsL a s) s (cellsL a s).length
  rw [cellsL_length, ha.1] at this
  unfold badN badL
  rw [cellsL_length, ha.1]
  exact this

theorem worstTo_le {a : ArrP} (ha : Whole a) : ∀ k, worstTo a k ≤ 4
  | 0 => by simp [worstTo]
  | k + 1 => by
    have := badN_le ha k
    have := worstTo_le ha k
    rw [worstTo]
    split <;> omega

set_option maxRecDepth 20000 in
set_option maxHeartbeats 1600000 in
theorem refWorst_any (v : Value) (a : ArrP) (w : World) (h : ArrV w v a) (ha : Whole a) :
    Calls Try.prog 20 #[v] w fun e w' => e = .returned (.int .i64 (worstN a)) ∧ Grow w w' := by
  have harr := h
  obtain ⟨a1, n1, c1, a2, n2, c2, rfl⟩ := h.form
  clear h
  have hgA : Grow w (w.alloc (.cells #[.slice a1 n1 c1, .slice a2 n2 c2] 26)) := Grow.alloc _ _
  have hwl := fun k => worstTo_le ha k
  have hbl := fun k => badN_le ha k
  go_enter Try.func20, Try.ntmps20
  go_wp2
  obtain ⟨w1, hw1⟩ : ∃ w1, w1 = w.alloc (.cells #[.slice a1 n1 c1, .slice a2 n2 c2] 26) := ⟨_, rfl⟩
  have k0 : w1.cell? ⟨w.heap.size, 0, none⟩ = some (.slice a1 n1 c1) := by rw [hw1]; simp
  have k1 : w1.cell? ⟨w.heap.size, 1, none⟩ = some (.slice a2 n2 c2) := by rw [hw1]; simp
  rw [← hw1] at hgA ⊢
  clear hw1
  go_loopw [3, 6] (fun m i wr => ∃ (k n : Nat), k ≤ 3 ∧ i = .int .i64 k ∧ m = .int .i64 n ∧ n ≤ 4 ∧ Hid (n = worstTo a k) ∧ Grow w1 wr) (fun _ i _ => 3 - (intOf i).toNat)
  case atStart => exact ⟨0, 0, by omega, rfl, rfl, by omega, rfl, Grow.refl _⟩
  case round =>
    obtain ⟨k, n, hk, rfl, rfl, hn4, HN, hgr⟩ := hrel
    by_cases hlt : k < 3
    · have c0 := hgr.at k0
      have c1 := hgr.at k1
      have hgw := hgA.trans hgr
      clear k0 k1
      go_wp2_with fail
      refine (refCells_any _ a k _ (harr.grow hgw) ha hlt).mono ?_
      rintro e w2 ⟨rc, rfl, hrc, hg2⟩
      go_wp2_with fail
      refine (refBad_any _ _ k _ hrc (by rw [cellsL_length, ha.1]; omega)).mono ?_
      rintro e w3 ⟨rb, rfl, hrb, hg3⟩
      obtain ⟨ab, cb, rfl, hb1, hb2⟩ := hrb.form'
      have hlen : (ints (badL (cellsL a k) k)).length = badN a k := by simp [ints, badN]
      rw [hlen] at hb1 ⊢
      have hb4 := hbl k
      have hgr3 := (hgr.trans hg2).trans hg3
      have HS : Hid (worstTo a (k + 1) = if worstTo a k < badN a k then badN a k else worstTo a k) := rfl
      clear hrb hrc hlen hwl hbl
      generalize badN a k = bn at *
      by_cases hlt2 : n < bn
      · have HN' : Hid (bn = worstTo a (k + 1)) := by rw [Hid, HS.out, ← HN.out, if_pos hlt2]
        go_wp2
        go_roundw
        case rel => first | exact ⟨k + 1, bn, by omega, by go_num, rfl, hb4, HN', hgr3⟩ | ((repeat apply Exists.intro); exact ⟨⟨k + 1, bn, by omega, by go_num, rfl, hb4, HN', hgr3⟩, rfl⟩)
        case measure => simp [intOf]; omega
      · have HN' : Hid (n = worstTo a (k + 1)) := by rw [Hid, HS.out, ← HN.out, if_neg hlt2]
        go_wp2
        go_roundw
        case rel => first | exact ⟨k + 1, n, by omega, by go_num, rfl, hn4, HN', hgr3⟩ | ((repeat apply Exists.intro); exact ⟨⟨k + 1, n, by omega, by go_num, rfl, hn4, HN', hgr3⟩, rfl⟩)
        case measure => simp [intOf]; omega
    · obtain rfl : k = 3 := by omega
      go_wp2
      go_ret
      exact ⟨ret_int (by rw [HN.out]; rfl), hgA.trans hgr⟩

theorem ret_arr3 {v : Value} {k2 k3 : IntKind} {a2 b2 a3 b3 : Int} (h2 : a2 = b2) (h3 : a3 = b3) : Ending.returned (.tuple #[v, .int k2 a2, .int k3 a3]) = .returned (.tuple #[v, .int k2 b2, .int k3 b3]) := by rw [h2, h3]

/-- Cells of stripe s, the first k of them. -/
def putTo (a : ArrP) (cs : List (List Int)) (s : Nat) : Nat → ArrP
  | 0 => a
  | k + 1 => withL (putTo a cs s k) k s (cs.getD k [])

def mendE (a : ArrP) (s : Int) : Int := if s < 0 ∨ 2 < s then 3 else dataE (cellsL a s.toNat) s
def mendN (a : ArrP) (s : Int) : Nat := if s < 0 ∨ 2 < s then 0 else badN a s.toNat
def mendL (a : ArrP) (s : Int) : ArrP := if (s < 0 ∨ 2 < s) ∨ dataE (cellsL a s.toNat) s ≠ 0 then a else putTo a (makeL (dataL (cellsL a s.toNat) s) s) s.toNat 4

theorem putTo_whole {a : ArrP} (ha : Whole a) (cs : List (List Int)) (s : Nat) : ∀ k, k ≤ 4 → Whole (putTo a cs s k)
  | 0, _ => ha
  | k + 1, h => withL_whole (putTo_whole ha cs s k (by omega)) (by omega) _

theorem putTo_fours {a : ArrP} (ha : Fours a) (cs : List (List Int)) (s : Nat) : ∀ k, Fours (putTo a cs s k)
  | 0 => ha
  | k + 1 => by
    have := putTo_fours ha cs s k
    exact this

theorem dataL_blocks {ls : List (List Int)} {s : Int} (h : dataE ls s = 0) : ∀ b ∈ dataL ls s, b.length = 4 := by
  unfold dataE at h
  split at h
  · cases h
  rename_i h1
  intro b hb
  rw [dataL, if_neg h1] at hb
  obtain ⟨d, hd, rfl⟩ := List.mem_map.1 hb
  unfold datAt
  split
  · rfl
  · rename_i h2
    exact readX_length (by simpa [isBad] using h2)

theorem makeL_length (ds : List (List Int)) (s : Int) : (makeL ds s).length = ds.length := by simp [makeL]

set_option maxRecDepth 20000 in
set_option maxHeartbeats 6400000 in
theorem refMend_any (v : Value) (a : ArrP) (s : Int) (w : World) (h : ArrV w v a) (ha : Whole a) (hi : Fours a) :
    Calls Try.prog 17 #[v, .int .i64 s] w fun e w' => ∃ r, e = .returned (.tuple #[r, .int .i64 (mendN a s), .int .i64 (mendE a s)]) ∧ ArrV w' r (mendL a s) ∧ Grow w w' := by
  obtain ⟨a1, n1, c1, a2, n2, c2, rfl⟩ := h.form
  obtain ⟨W, hW⟩ : ∃ W, W = (w.alloc (.cells #[.slice a1 n1 c1, .slice a2 n2 c2] 26)).alloc (.cells #[.slice none 0 0, .slice none 0 0] 26) := ⟨_, rfl⟩
  have hgW : Grow w W := by rw [hW]; exact (Grow.alloc _ _).trans (Grow.alloc _ _)
  have hI : BInv w w.heap.size (w.heap.size + 1) (.slice a1 n1 c1) (.slice a2 n2 c2) a W := ⟨by rw [hW]; exact ⟨(heap_alloc_old _ _ (by simp)).trans (heap_alloc_new w _), heap_alloc2_new w _ _⟩, h.grow hgW, hgW⟩
  by_cases hs : s < 0 ∨ 2 < s
  · have HE : Hid ((mendN a s : Int) = 0 ∧ mendE a s = 3 ∧ mendL a s = a) := ⟨by rw [mendN, if_pos hs]; rfl, if_pos hs, if_pos (.inl hs)⟩
    clear hI
    have hgF : Grow w ((w.alloc (.cells #[.slice a1 n1 c1, .slice a2 n2 c2] 26)).alloc (.cells #[.slice a1 n1 c1, .slice a2 n2 c2] 26)) := (Grow.alloc _ _).trans (Grow.alloc _ _)
    have hfin : Hid (_ ∧ _) := ⟨h.grow hgF, hgF⟩
    clear h hgF hgW hW
    have hs' : s < 0 ∨ (0 ≤ s ∧ 2 < s) := by omega
    clear hs
    rcases hs' with hs | ⟨hs0, hs⟩
    all_goals
      go_enter Try.func17, Try.ntmps17
      go_wp2
      refine bodyPost_ret (results_two2 Try.results17 _ _ (w.heap.size + 1) _ rfl Try.underlying26 rfl Try.sizeA (x := .slice a1 n1 c1) (y := .slice a2 n2 c2) (by simp) (by simp)) rfl ?_
      exact ⟨_, ret_arr3 HE.out.1.symm HE.out.2.1.symm, by rw [HE.out.2.2]; exact hfin.out.1, hfin.out.2⟩
  · obtain ⟨s, rfl⟩ := Int.eq_ofNat_of_zero_le (show 0 ≤ s by omega)
    have hs3 : s < 3 := by omega
    have HE : Hid (mendN a (s : Int) = badN a s ∧ mendE a (s : Int) = dataE (cellsL a s) s ∧ (dataE (cellsL a s) s ≠ 0 → mendL a (s : Int) = a) ∧ (dataE (cellsL a s) s = 0 → mendL a (s : Int) = putTo a (makeL (dataL (cellsL a s) s) s) s 4)) :=
      ⟨(if_neg hs).trans (by simp), (if_neg hs).trans (by simp), fun h => if_pos (.inr (by simpa using h)), fun h => (if_neg (by simp only [Int.toNat_natCast]; exact fun h' => h'.elim hs (fun h' => h' h))).trans (by simp)⟩
    have hs' : ¬ 2 < (s : Int) := by omega
    have hb4 := badN_le ha s
    clear hs h
    go_enter Try.func17, Try.ntmps17
    have q0 := two_at0 hI.1.out.1
    have q1 := two_at1 hI.1.out.1
    subst hW
    go_wp2_with fail
    refine (refCells_any _ a s _ hI.2.1.out ha hs3).mono ?_
    rintro e w2 ⟨rc, rfl, hrc, hg2⟩
    go_wp2_with fail
    refine (refBad_any _ _ s _ hrc (by rw [cellsL_length, ha.1]; omega)).mono ?_
    rintro e w3 ⟨rb, rfl, hrb, hg3⟩
    obtain ⟨ab, cb, rfl, hb1, hb2⟩ := hrb.form'
    have hlen : (ints (badL (cellsL a s) s)).length = badN a s := by simp [ints, badN]
    rw [hlen] at hb1 ⊢
    clear hrb hlen
    go_wp2_with fail
    refine (refData_any _ _ s _ (hrc.grow hg3) (by rw [cellsL_length, ha.1]; omega)).mono ?_
    rintro e w4 ⟨rd, rfl, hrd, hg4⟩
    have hg24 := (hg2.trans hg3).trans hg4
    have hI4 : BInv w w.heap.size (w.heap.size + 1) (.slice a1 n1 c1) (.slice a2 n2 c2) a w4 := ⟨⟨hg24.block' hI.1.out.1, hg24.block' hI.1.out.2⟩, hI.2.1.out.grow hg24, hgW.trans hg24⟩
    clear hI hrc hg2 hg3 hg4 hg24 q0 q1 hgW
    have b0 := two_at0 hI4.1.out.1
    have b1 := two_at1 hI4.1.out.1
    have r0 := two_at0 hI4.1.out.2
    have r1 := two_at1 hI4.1.out.2
    have f0 : w4.frozen? ⟨w.heap.size + 1, 0, none⟩ = false := frozen_of_row w4 _ 0 _ _ hI4.1.out.2
    have f1 : w4.frozen? ⟨w.heap.size + 1, 1, none⟩ = false := frozen_of_row w4 _ 1 _ _ hI4.1.out.2
    by_cases hde : dataE (cellsL a s) s = 0
    · have hdb := dataL_blocks hde
      have hdl := dataL_length hde
      rw [cellsL_length, ha.1] at hdl
      have Hf : Hid (mendN a (s : Int) = badN a s ∧ mendE a (s : Int) = 0 ∧ mendL a (s : Int) = putTo a (makeL (dataL (cellsL a s) s) s) s 4) := ⟨HE.out.1, HE.out.2.1.trans hde, HE.out.2.2.2 hde⟩
      have hcl : (makeL (dataL (cellsL a s) s) (s : Int)).length = 4 := by rw [makeL_length, hdl]
      clear HE r0 r1 f0 f1
      generalize dataE (cellsL a s) s = E at *
      subst hde
      generalize badN a s = bn at *
      go_wp2_with fail
      refine (refMake_any _ _ s _ hrd (by omega) (by omega) hdb).mono ?_
      rintro e w5 ⟨rm, rfl, hrm, hg5⟩
      have hcs := hrm.done
      have hI5 : BInv w w.heap.size (w.heap.size + 1) (.slice a1 n1 c1) (.slice a2 n2 c2) a w5 := ⟨⟨hg5.block' hI4.1.out.1, hg5.block' hI4.1.out.2⟩, hI4.2.1.out.grow hg5, hI4.2.2.trans hg5⟩
      clear hrm hrd hI4 hdb hdl b0 b1 hg5
      generalize makeL (dataL (cellsL a s) s) (s : Int) = cs at *
      obtain ⟨am, cm, rfl, hm1, hm2⟩ := hcs.form'
      have HL : Hid (cs.length = 4) := hcl
      rw [hcl] at hcs hm1 ⊢
      clear hcl
      have hw4 := fun k (hk : k ≤ 4) => putTo_whole ha cs s k hk
      have hf4 := fun k => putTo_fours hi cs s k
      go_wp2
      go_loopw [42] (fun q wr => ∃ (k : Nat) (x y : Value), k ≤ 4 ∧ q = .int .i64 k ∧ BInv w w.heap.size (w.heap.size + 1) x y (putTo a cs s k) wr ∧ Hid (Bss wr (.slice am 4 cm) cs)) (fun q _ => 4 - (intOf q).toNat)
      case atStart => exact ⟨0, _, _, by omega, rfl, hI5, hcs⟩
      case round =>
        obtain ⟨k, x, y, hk, rfl, hB, HC⟩ := hrel
        have HB : Hid (BInv w w.heap.size (w.heap.size + 1) x y (putTo a cs s k) wr) := hB
        obtain ⟨⟨h1, h2⟩, HV, hgr⟩ := hB
        obtain ⟨⟨x1, x2, x3, rfl⟩, y1, y2, y3, rfl⟩ := HV.out.form2
        have H1 : Hid (wr.heap[w.heap.size]? = some (.cells #[.slice x1 x2 x3, .slice y1 y2 y3] 26 (0, 0))) := h1
        have b0 := two_at0 h1
        have b1 := two_at1 h1
        have r0 := two_at0 h2
        have r1 := two_at1 h2
        have fA0 : wr.frozen? ⟨w.heap.size, 0, none⟩ = false := frozen_of_row wr _ 0 _ _ h1
        have fA1 : wr.frozen? ⟨w.heap.size, 1, none⟩ = false := frozen_of_row wr _ 1 _ _ h1
        have f0 : wr.frozen? ⟨w.heap.size + 1, 0, none⟩ = false := frozen_of_row wr _ 0 _ _ h2
        have f1 : wr.frozen? ⟨w.heap.size + 1, 1, none⟩ = false := frozen_of_row wr _ 1 _ _ h2
        clear h1 h2
        by_cases hlt : k < 4
        · obtain ⟨bm, om, uk, e1, hck, hbk⟩ := HC.out.elem (k := k) (by have := HL.out; omega) []
          subst e1
          obtain ⟨z1, z2, z3, rfl⟩ := hbk.form
          go_wp2_with fail
          refine (refWith_any _ _ (putTo a cs s k) k s (cs.getD k []) _ HV.out (hw4 k hk) hlt hs3 hbk).mono ?_
          rintro e w6 ⟨r, rfl, hr, hg6⟩
          obtain ⟨p1, p2, p3, q1, q2, q3, rfl⟩ := hr.form
          have HN : Hid (BInv w w.heap.size (w.heap.size + 1) _ _ (putTo a cs s (k + 1)) _) := BInv.put HB.out hg6 hr (hw4 (k + 1) (by omega)) (hf4 (k + 1)) (Nat.le_refl _) (by omega)
          have HC' : Hid (Bss ((w6.setCell ⟨w.heap.size, 0, none⟩ (.slice p1 p2 p3)).setCell ⟨w.heap.size, 1, none⟩ (.slice q1 q2 q3)) (.slice (some ⟨bm, om, none⟩) 4 cm) cs) :=
            BssX.plain (BssX.step (BssX.step (Two.bss (R := w.heap.size) ⟨_, _, _, _, _, _, _, hg6.block' H1.out⟩ (HC.out.grow hg6) (by have := HL.out; omega)) (by_set w6 _ 0 _)) (by_set _ _ 1 _))
          have b06 := hg6.at b0
          have b16 := hg6.at b1
          have f06 := (hg6.frozen (a := ⟨w.heap.size, 0, none⟩) (cell_lt b0)).trans fA0
          have f16 := (hg6.frozen (a := ⟨w.heap.size, 1, none⟩) (cell_lt b0)).trans fA1
          clear HB HV hr hw4 hf4 HC hbk H1
          go_wp2
          go_roundw
          case rel => first | exact ⟨k + 1, _, _, by omega, by go_num, HN.out, HC'⟩ | ((repeat apply Exists.intro); exact ⟨⟨k + 1, _, _, by omega, by go_num, HN.out, HC'⟩, rfl⟩)
          case measure => simp [intOf]; omega
        · obtain rfl : k = 4 := by omega
          obtain ⟨hv, hg, z0, z1⟩ := HB.out.done (hw4 4 (by omega)) (hf4 4) (by omega)
          have hfin : Hid (_ ∧ _) := ⟨hv, hg⟩
          clear hv hg HB HV hw4 hf4 HC H1
          go_wp2
          refine bodyPost_ret (results_two2 Try.results17 _ _ (w.heap.size + 1) _ rfl Try.underlying26 rfl Try.sizeA z0 z1) rfl ?_
          exact ⟨_, ret_arr3 (by rw [Hf.out.1]) Hf.out.2.1.symm, by rw [Hf.out.2.2]; exact hfin.out.1, hfin.out.2⟩
    · obtain ⟨hv, hg, z0, z1⟩ := hI4.done ha hi (by omega)
      have hfin : Hid (mendN a (s : Int) = badN a s ∧ mendE a (s : Int) = dataE (cellsL a s) s ∧ mendL a (s : Int) = a ∧ _ ∧ _) := ⟨HE.out.1, HE.out.2.1, HE.out.2.2.1 hde, hv, hg⟩
      clear hv hg HE hrd hI4
      generalize dataE (cellsL a s) s = E at *
      generalize badN a s = bn at *
      have he' : (E != 0) = true := by simpa using hde
      go_wp2
      refine bodyPost_ret (results_two2 Try.results17 _ _ (w.heap.size + 1) _ rfl Try.underlying26 rfl Try.sizeA z0 z1) rfl ?_
      exact ⟨_, ret_arr3 (by rw [hfin.out.1]) hfin.out.2.1.symm, by rw [hfin.out.2.2.1]; exact hfin.out.2.2.2.1, hfin.out.2.2.2.2⟩

end Go.Proofs.Ytjggiameajndgac

/-
  What the program's mend.put does: an array of the call's own has these cells of a stripe.
-/
namespace Go.Proofs.Ytjggiameajndgac
open Go.RowKit

/-- A cell of such a row, and what it reads as. -/
theorem DRow.elem {b : Nat} {ls : List (List Int)} {w : World} (h : DRow b ls w) {k : Nat} (hk : k < ls.length) : ∃ u, w.cell? ⟨b, k, none⟩ = some u ∧ Tb w u (ls.getD k []) := by
  obtain ⟨us, h1, h2, h3⟩ := h
  refine ⟨us[k]'(by omega), row_at h2 k (by simp [h1, hk]), h3 k _ _ (by simp [h1, hk]) (by simp [List.getD_eq_getElem?_getD, hk])⟩

/-- The disk's row of an array of the call's own. -/
theorem OwnA.disk {B : Nat} {bs : List Nat} {w : World} {iv : Value} {a : ArrP} {g cap : Nat} (h : OwnA B bs w (.slice (some ⟨g, 0, none⟩) 4 cap) iv a) {k : Nat} (hk : k < 4) :
    ∃ bk, bs[k]? = some bk ∧ w.cell? ⟨g, k, none⟩ = some (.slice (some ⟨bk, 0, none⟩) 3 3) ∧ DRow bk (a.ds.getD k []) w ∧ (a.ds.getD k []).length = 3 := by
  have hlen := h.disks.len
  have hl4 := h.whole.1
  have hk' : k < a.ds.length := by omega
  have hl3 : a.ds[k].length = 3 := h.whole.2 _ (List.getElem_mem hk')
  have ho := h.disks.own
  rw [hl4] at ho
  have hcell := ho.cellAt k (by omega)
  rw [rowVals_at hlen hk', hl3] at hcell
  have hgd : a.ds.getD k [] = a.ds[k] := by simp [List.getD_eq_getElem?_getD, hk']
  refine ⟨bs[k]'(by omega), by simp, hcell, ?_, by rw [hgd]; exact hl3⟩
  rw [hgd]
  exact h.disks.rows k _ _ (by simp) (by simp [hk'])

set_option maxRecDepth 20000 in
set_option maxHeartbeats 6400000 in
theorem mendPut_any (B : Nat) (bs : List Nat) (dv iv : Value) (a : ArrP) (s r : Nat) (cs : List (List Int)) (w : World) (h : OwnA B bs w dv iv a) (hr : DRow r cs w) (hn : r ∉ bs) (hc4 : cs.length = 4) (hs : s < 3) :
    Calls Try.prog 49 #[dv, .int .i64 s, .slice (some ⟨r, 0, none⟩) 4 4] w fun e w' => (∃ r, e = .returned r) ∧ OwnA B bs w' dv iv (putTo a cs s 4) ∧ GrownIn w w' (fun j => j ∈ bs) := by
  have hl4 := h.whole.1
  obtain ⟨g, cap, rfl, hg1, hg2⟩ := h.disks.own.form (by omega)
  rw [hl4] at h ⊢
  have HO0 : Hid (OwnA B bs w (.slice (some ⟨g, 0, none⟩) 4 cap) iv (putTo a cs s 0)) := h
  have HR0 : Hid (DRow r cs w) := hr
  have HC : Hid (cs.length = 4) := hc4
  clear h hr hc4 hl4 hg1
  go_enter Try.func49, Try.ntmps49
  go_wp2
  go_loopw [10] (fun i wr => ∃ k : Nat, k ≤ 4 ∧ i = .int .i64 k ∧ Hid (OwnA B bs wr (.slice (some ⟨g, 0, none⟩) 4 cap) iv (putTo a cs s k)) ∧ Hid (DRow r cs wr) ∧ GrownIn w wr (fun j => j ∈ bs)) (fun i _ => 4 - (intOf i).toNat)
  case atStart => exact ⟨0, by omega, rfl, HO0, HR0, GrownIn.refl w _⟩
  case round =>
    obtain ⟨k, hk, rfl, HO, HR, hG⟩ := hrel
    clear HO0 HR0
    by_cases hlt : k < 4
    · obtain ⟨u, hu, hT⟩ := HR.out.elem (k := k) (by have := HC.out; omega)
      obtain ⟨z1, z2, z3, rfl⟩ := hT.here.form
      obtain ⟨bk, hbk, hck, hrow, hl3⟩ := HO.out.disk hlt
      have Hb : Hid (bs[k]? = some bk) := hbk
      obtain ⟨⟨u0, hu0⟩, hf0⟩ := hrow.at (k := s) (by omega)
      have HO2 : Hid (OwnA B bs (wr.setCell ⟨bk, s, none⟩ (.slice z1 z2 z3)) (.slice (some ⟨g, 0, none⟩) 4 cap) iv (putTo a cs s (k + 1))) := HO.out.put (s := s) hlt Hb.out hT
      have HR2 : Hid (DRow r cs (wr.setCell ⟨bk, s, none⟩ (.slice z1 z2 z3))) := HR.out.kept (hrow.kbset s _) (set_other rfl (fun e => hn (by rw [e]; exact List.mem_of_getElem? Hb.out)))
      have hG2 : GrownIn w (wr.setCell ⟨bk, s, none⟩ (.slice z1 z2 z3)) (fun j => j ∈ bs) := hG.trans (grownIn_set wr bk s _ (List.mem_of_getElem? Hb.out))
      have hki : (k : Int) < 4 := by omega
      have hsi : (s : Int) < 3 := by omega
      clear hT hrow hl3 hbk HO HR
      go_wp2
      go_roundw
      case rel => first | exact ⟨k + 1, by omega, by go_num, HO2, HR2, hG2⟩ | ((repeat apply Exists.intro); exact ⟨⟨k + 1, by omega, by go_num, HO2, HR2, hG2⟩, rfl⟩)
      case measure => simp [intOf]; omega
    · obtain rfl : k = 4 := by omega
      go_wp2
      go_end0
      exact ⟨⟨_, rfl⟩, HO.out, hG⟩

end Go.Proofs.Ytjggiameajndgac
