import Derived.Lib.MinMax
import Derived.Test.YtjggiameajndgacJoin12
/-
  What the program's stripe.Make returns: a row of the call's own whose bytes lie in blocks of bytes.
-/
namespace Go.Proofs.Ytjggiameajndgac
open Go.RowKit

set_option maxRecDepth 20000 in
set_option maxHeartbeats 1600000 in
theorem stripeMake_own (v : Value) (ds : List (List Int)) (s : Nat) (w : World) (h : Bss w v ds) (hl : ds.length = 4) (hs : s < 3) (h4 : ∀ b ∈ ds, b.length = 4) :
    Calls Try.prog 50 #[v, .int .i64 s] w fun e w' => e = .returned (.slice (some ⟨w.heap.size, 0, none⟩) 4 4) ∧ DRow w.heap.size (makeL ds s) w' ∧ Grow w w' := by
  obtain ⟨ao, cap, rfl, h1, h2, h3, h4'⟩ := h
  unfold maxLen at h2
  obtain ⟨b, off, rfl, hc⟩ := h4' (by omega)
  have HK : Hid (∀ k, k < 4 → ∃ ak ck, w.cell? ⟨b, off + k, none⟩ = some (.slice ak 4 ck) ∧ Bs w (.slice ak 4 ck) (ds.getD k []) ∧ (ds.getD k []).length = 4) := fun k hk => by
    obtain ⟨ak, ck, hck, hbk⟩ := Sl.bytesAt hc (k := k) (by omega)
    have hlk : (ds.getD k []).length = 4 := h4 _ (by simp [List.getD_eq_getElem?_getD, show k < ds.length by omega])
    rw [hlk] at hck hbk
    exact ⟨ak, ck, hck, hbk, hlk⟩
  have hmk : (Instr.makeSlice 41 (.int .i64 4) (.int .i64 4)).run Try.prog w = .ok (.slice (some ⟨w.heap.size, 0, none⟩) 4 4) (w.alloc (.cells (nilsN 4) 52)) := Try.madeN w 4 (by omega)
  rw [makeL_up hl]
  have hst : Hid (DRow w.heap.size (up4 (fun (d : Nat) => cellOf d s (ds.getD d [])) 0) (w.alloc (.cells (nilsN 4) 52))) := by rw [Hid, up4_zero]; exact DRow.made w 4
  rw [hl]
  clear hc h4' hl h4 h3
  go_enter Try.func50, Try.ntmps50
  go_wp2
  go_loopw [10] (fun i wr => ∃ k : Nat, k ≤ 4 ∧ i = .int .i64 k ∧ Hid (DRow w.heap.size (up4 (fun (d : Nat) => cellOf d s (ds.getD d [])) k) wr) ∧ Grow w wr) (fun i _ => 4 - (intOf i).toNat)
  case atStart => exact ⟨0, by omega, rfl, hst, Grow.alloc _ _⟩
  case round =>
    obtain ⟨k, hk, rfl, HR, hgr⟩ := hrel
    clear hst hmk
    by_cases hlt : k < 4
    · obtain ⟨ak, ck, hck, hbk, hlk⟩ := HK.out k hlt
      have HL : Hid ((ds.getD k []).length = 4) := hlk
      clear hlk
      have hA := atB_any b off k 4 cap ak 4 ck wr hlt (hgr.at hck)
      have hC := bytes_any (.slice ak 4 ck) (ds.getD k []) k s wr (by rw [HL.out]; omega) (by omega) (by omega) (hbk.grow hgr)
      have hoc := cellOf_octets (d := k) (s := s) (by omega) (by omega) hbk.octets
      clear hck hbk
      go_wp2_with fail
      refine hA.mono ?_
      rintro e w0 ⟨rfl, rfl⟩
      go_wp2_with fail
      refine hC.mono ?_
      rintro e w1 ⟨r, rfl, hown, hg1⟩
      have hTb := Tb.own hown hoc
      obtain ⟨gr, cr, rfl, -, -⟩ := hown.form (by omega)
      have hrow := HR.out.grow hg1
      obtain ⟨⟨u0, hu0⟩, hf0⟩ := hrow.at (k := k) (by rw [up4_length]; exact hlt)
      have hrow1 := hrow.put k hTb
      rw [up4_set (fun (d : Nat) => cellOf d s (ds.getD d [])) hlt] at hrow1
      have HR1 : Hid (DRow _ _ _) := hrow1
      have hg2 := (hgr.trans hg1).set (k := k) (Nat.le_refl w.heap.size) (.slice (some ⟨gr, 0, none⟩) ((ds.getD k []).length + 4) cr)
      rw [HL.out] at HR1 hg2 ⊢
      clear hrow hrow1 hTb hown HR hA hC
      go_wp2
      go_roundw
      case rel => first | exact ⟨k + 1, by omega, by go_num, HR1, hg2⟩ | ((repeat apply Exists.intro); exact ⟨⟨k + 1, by omega, by go_num, HR1, hg2⟩, rfl⟩)
      case measure => simp [intOf]; omega
    · obtain rfl : k = 4 := by omega
      go_wp2
      go_ret
      exact ⟨rfl, HR.out, hgr⟩

end Go.Proofs.Ytjggiameajndgac

/-
  What the program's array.put does: a disk has its cell of an intent.
-/
namespace Go.Proofs.Ytjggiameajndgac
open Go.RowKit

set_option maxRecDepth 20000 in
set_option maxHeartbeats 6400000 in
theorem put_any (B : Nat) (bs : List Nat) (dv iv nv : Value) (a : ArrP) (s : Nat) (cs : List (List Int)) (k : Nat) (w : World) (h : OwnA B bs w dv iv a) (hi : IntentV w nv ((s : Int), cs)) (hc4 : cs.length = 4) (hc8 : ∀ b ∈ cs, b.length ≤ 8) (hs : s < 3) (hk : k < 4) :
    Calls Try.prog 100 #[dv, nv, .int .i64 k] w fun e w' => (∃ r, e = .returned r) ∧ OwnA B bs w' dv iv (withL a k s (cs.getD k [])) ∧ GrownIn w w' (fun j => j ∈ bs) := by
  obtain ⟨cv, rfl, hb⟩ := hi
  simp only at hb ⊢
  have hlen := h.disks.len
  have hl4 := h.whole.1
  have hk' : k < a.ds.length := by omega
  have hl3 : a.ds[k].length = 3 := h.whole.2 _ (List.getElem_mem hk')
  obtain ⟨g, cap, rfl, hg1, hg2⟩ := h.disks.own.form (by omega)
  have hcell := h.disks.own.cellAt k (by omega)
  rw [rowVals_at hlen hk', hl3] at hcell
  rw [hl4] at h ⊢
  obtain ⟨bk, hbk⟩ : ∃ bk, bk = bs[k]'(by omega) := ⟨_, rfl⟩
  have hbk' : bs[k]? = some bk := by rw [hbk]; simp
  rw [← hbk] at hcell
  obtain ⟨ac, cc, ec, hcc1, hcc2⟩ := Sl.form' hb
  rw [hc4] at ec hcc1
  subst ec
  obtain ⟨bc, oc, z0, e1, hz0, hz1⟩ := Sl.elem hb (k := k) (by omega) []
  subst e1
  obtain ⟨z1, z2, z3, rfl⟩ := hz1.form
  have hoc := hz1.octets
  have hL8 : (cs.getD k []).length ≤ 8 := hc8 _ (getD_mem (by omega))
  obtain ⟨L, hLe⟩ : ∃ L, L = cs.getD k [] := ⟨_, rfl⟩
  rw [← hLe] at hz1 hoc hL8 ⊢
  obtain ⟨W, hW⟩ : ∃ W, W = w.alloc (.cells #[.int .i64 s, .slice (some ⟨bc, oc, none⟩) 4 cc] 80) := ⟨_, rfl⟩
  have hgW : Grow w W := by rw [hW]; exact Grow.alloc _ _
  have hbA : W.heap[w.heap.size]? = some (.cells #[.int .i64 s, .slice (some ⟨bc, oc, none⟩) 4 cc] 80 (0, 0)) := by rw [hW]; exact heap_alloc_new w _
  have i0 := two_at0 hbA
  have i1 := two_at1 hbA
  have hcW := hgW.at hcell
  have hzW := hgW.at hz0
  have HO : Hid (OwnA B bs W (.slice (some ⟨g, 0, none⟩) 4 cap) iv a) := h.k4 hgW.k4
  have HZ : Hid (Bs W (.slice z1 z2 z3) L ∧ Octets L ∧ L.length ≤ 8) := ⟨hz1.grow hgW, hoc, hL8⟩
  have Hb : Hid (bs[k]? = some bk) := hbk'
  have hq1 : decide ((4 : Int) ≤ (k : Int)) = false := by simp; omega
  have hq2 : decide ((s : Int) < 0) = false := by simp
  have hq3 : decide ((3 : Int) ≤ (s : Int)) = false := by simp; omega
  have hki : (k : Int) < 4 := by omega
  have hsi : (s : Int) < 3 := by omega
  clear h hb hbA hcell hz0 hz1 hoc hL8 hLe hbk hbk' hl3 hl4 hlen hk' hc4 hc8 hcc1
  go_enter Try.func100, Try.ntmps100
  go_wp2
  rw [← hW]
  clear hW
  refine wp_region_stable Grow [IsV (.int .i64 k), IsV (.slice (some ⟨g, 0, none⟩) 4 cap), IsV (.int .i64 4), IsV (.bool false), IsV (.bool false), IsV (.int .i64 k), IsV (.pointer (some ⟨w.heap.size, 1, none⟩)), IsV (.slice (some ⟨bc, oc, none⟩) 4 cc), IsV (.int .i64 4), IsV (.bool false), IsV (.bool false), IsV (.bool false), IsV (.pointer (some ⟨w.heap.size, 0, none⟩)), IsV (.int .i64 s), IsV (.bool false), IsV (.bool false), IsV (.bool false), IsV (.pointer (some ⟨w.heap.size, 0, none⟩)), IsV (.int .i64 s), IsV (.slice (some ⟨g, 0, none⟩) 4 cap), IsV (.int .i64 k), IsV (.pointer (some ⟨g, k, none⟩)), IsV (.slice (some ⟨bk, 0, none⟩) 3 3), IsV (.int .i64 3), IsV (.bool false), IsV (.bool false)] (by kernel_rfl) (by kernel_rfl) rfl Grow.refl (fun _ _ _ => Grow.trans) ?_ ?_ ?_
  · repeat (refine List.forall_mem_cons.2 ⟨by first | exact IsV.stable _, ?_⟩)
    exact fun R hR => nomatch hR
  · skip
    refine StepsS.cons ?_ fun v0 => ⟨_, _, by simp only [Act.put, List.setIfInBounds_toArray, List.set_cons_succ, List.set_cons_zero]; first | done | rfl, by simp only [List.nil_append]; first | done | rfl, ?_⟩
    · intro w1 hE hd
      clear hd
      go_wp2
      exact ⟨_, rfl, Grow.refl _, rfl⟩
    refine StepsS.cons ?_ fun v1 => ⟨_, _, by simp only [Act.put, List.setIfInBounds_toArray, List.set_cons_succ, List.set_cons_zero]; first | done | rfl, by simp only [List.nil_append, List.cons_append]; first | done | rfl, ?_⟩
    · intro w1 hE hd
      clear hd
      go_wp2
      exact ⟨_, rfl, Grow.refl _, rfl⟩
    refine StepsS.cons ?_ fun v2 => ⟨_, _, by simp only [Act.put, List.setIfInBounds_toArray, List.set_cons_succ, List.set_cons_zero]; first | done | rfl, by simp only [List.nil_append, List.cons_append]; first | done | rfl, ?_⟩
    · intro w1 hE hd
      obtain rfl := IsV.eq (dep_at hd 0 rfl rfl rfl)
      clear hd
      go_wp2
      exact ⟨_, rfl, Grow.refl _, rfl⟩
    refine StepsS.cons ?_ fun v3 => ⟨_, _, by simp only [Act.put, List.setIfInBounds_toArray, List.set_cons_succ, List.set_cons_zero]; first | done | rfl, by simp only [List.nil_append, List.cons_append]; first | done | rfl, ?_⟩
    · intro w1 hE hd
      obtain rfl := IsV.eq (dep_at hd 0 rfl rfl rfl)
      obtain rfl := IsV.eq (dep_at hd 1 rfl rfl rfl)
      clear hd
      go_wp2
      exact ⟨_, rfl, Grow.refl _, rfl⟩
    refine StepsS.cons ?_ fun v4 => ⟨_, _, by simp only [Act.put, List.setIfInBounds_toArray, List.set_cons_succ, List.set_cons_zero]; first | done | rfl, by simp only [List.nil_append, List.cons_append]; first | done | rfl, ?_⟩
    · intro w1 hE hd
      obtain rfl := IsV.eq (dep_at hd 0 rfl rfl rfl)
      clear hd
      go_wp2
      exact ⟨_, rfl, Grow.refl _, rfl⟩
    refine StepsS.cons ?_ fun v5 => ⟨_, _, by simp only [Act.put, List.setIfInBounds_toArray, List.set_cons_succ, List.set_cons_zero]; first | done | rfl, by simp only [List.nil_append, List.cons_append]; first | done | rfl, ?_⟩
    · intro w1 hE hd
      obtain rfl := IsV.eq (dep_at hd 0 rfl rfl rfl)
      clear hd
      go_wp2
      exact ⟨_, rfl, Grow.refl _, rfl⟩
    refine StepsS.cons ?_ fun v6 => ⟨_, _, by simp only [Act.put, List.setIfInBounds_toArray, List.set_cons_succ, List.set_cons_zero]; first | done | rfl, by simp only [List.nil_append, List.cons_append]; first | done | rfl, ?_⟩
    · intro w1 hE hd
      obtain rfl := IsV.eq (dep_at hd 0 rfl rfl rfl)
      clear hd
      go_wp2
      exact ⟨_, rfl, Grow.refl _, rfl⟩
    refine StepsS.cons ?_ fun v7 => ⟨_, _, by simp only [Act.put, List.setIfInBounds_toArray, List.set_cons_succ, List.set_cons_zero]; first | done | rfl, by simp only [List.nil_append, List.cons_append]; first | done | rfl, ?_⟩
    · intro w1 hE hd
      obtain rfl := IsV.eq (dep_at hd 0 rfl rfl rfl)
      obtain rfl := IsV.eq (dep_at hd 1 rfl rfl rfl)
      clear hd
      have q0 := hE.drew.at i1
      go_wp2
      exact ⟨_, rfl, Grow.refl _, rfl⟩
    refine StepsS.cons ?_ fun v8 => ⟨_, _, by simp only [Act.put, List.setIfInBounds_toArray, List.set_cons_succ, List.set_cons_zero]; first | done | rfl, by simp only [List.nil_append, List.cons_append]; first | done | rfl, ?_⟩
    · intro w1 hE hd
      obtain rfl := IsV.eq (dep_at hd 0 rfl rfl rfl)
      obtain rfl := IsV.eq (dep_at hd 1 rfl rfl rfl)
      clear hd
      go_wp2
      exact ⟨_, rfl, Grow.refl _, rfl⟩
    refine StepsS.cons ?_ fun v9 => ⟨_, _, by simp only [Act.put, List.setIfInBounds_toArray, List.set_cons_succ, List.set_cons_zero]; first | done | rfl, by simp only [List.nil_append, List.cons_append]; first | done | rfl, ?_⟩
    · intro w1 hE hd
      obtain rfl := IsV.eq (dep_at hd 0 rfl rfl rfl)
      obtain rfl := IsV.eq (dep_at hd 1 rfl rfl rfl)
      obtain rfl := IsV.eq (dep_at hd 2 rfl rfl rfl)
      clear hd
      go_wp2
      exact ⟨_, rfl, Grow.refl _, rfl⟩
    refine StepsS.cons ?_ fun v10 => ⟨_, _, by simp only [Act.put, List.setIfInBounds_toArray, List.set_cons_succ, List.set_cons_zero]; first | done | rfl, by simp only [List.nil_append, List.cons_append]; first | done | rfl, ?_⟩
    · intro w1 hE hd
      obtain rfl := IsV.eq (dep_at hd 0 rfl rfl rfl)
      obtain rfl := IsV.eq (dep_at hd 1 rfl rfl rfl)
      clear hd
      go_wp2
      exact ⟨_, rfl, Grow.refl _, rfl⟩
    refine StepsS.cons ?_ fun v11 => ⟨_, _, by simp only [Act.put, List.setIfInBounds_toArray, List.set_cons_succ, List.set_cons_zero]; first | done | rfl, by simp only [List.nil_append, List.cons_append]; first | done | rfl, ?_⟩
    · intro w1 hE hd
      obtain rfl := IsV.eq (dep_at hd 0 rfl rfl rfl)
      clear hd
      go_wp2
      exact ⟨_, rfl, Grow.refl _, rfl⟩
    refine StepsS.cons ?_ fun v12 => ⟨_, _, by simp only [Act.put, List.setIfInBounds_toArray, List.set_cons_succ, List.set_cons_zero]; first | done | rfl, by simp only [List.nil_append, List.cons_append]; first | done | rfl, ?_⟩
    · intro w1 hE hd
      obtain rfl := IsV.eq (dep_at hd 0 rfl rfl rfl)
      clear hd
      go_wp2
      exact ⟨_, rfl, Grow.refl _, rfl⟩
    refine StepsS.cons ?_ fun v13 => ⟨_, _, by simp only [Act.put, List.setIfInBounds_toArray, List.set_cons_succ, List.set_cons_zero]; first | done | rfl, by simp only [List.nil_append, List.cons_append]; first | done | rfl, ?_⟩
    · intro w1 hE hd
      obtain rfl := IsV.eq (dep_at hd 0 rfl rfl rfl)
      obtain rfl := IsV.eq (dep_at hd 1 rfl rfl rfl)
      clear hd
      have q0 := hE.drew.at i0
      go_wp2
      exact ⟨_, rfl, Grow.refl _, rfl⟩
    refine StepsS.cons ?_ fun v14 => ⟨_, _, by simp only [Act.put, List.setIfInBounds_toArray, List.set_cons_succ, List.set_cons_zero]; first | done | rfl, by simp only [List.nil_append, List.cons_append]; first | done | rfl, ?_⟩
    · intro w1 hE hd
      obtain rfl := IsV.eq (dep_at hd 0 rfl rfl rfl)
      obtain rfl := IsV.eq (dep_at hd 1 rfl rfl rfl)
      clear hd
      go_wp2
      exact ⟨_, rfl, Grow.refl _, rfl⟩
    refine StepsS.cons ?_ fun v15 => ⟨_, _, by simp only [Act.put, List.setIfInBounds_toArray, List.set_cons_succ, List.set_cons_zero]; first | done | rfl, by simp only [List.nil_append, List.cons_append]; first | done | rfl, ?_⟩
    · intro w1 hE hd
      obtain rfl := IsV.eq (dep_at hd 0 rfl rfl rfl)
      obtain rfl := IsV.eq (dep_at hd 1 rfl rfl rfl)
      clear hd
      go_wp2
      exact ⟨_, rfl, Grow.refl _, rfl⟩
    refine StepsS.cons ?_ fun v16 => ⟨_, _, by simp only [Act.put, List.setIfInBounds_toArray, List.set_cons_succ, List.set_cons_zero]; first | done | rfl, by simp only [List.nil_append, List.cons_append]; first | done | rfl, ?_⟩
    · intro w1 hE hd
      obtain rfl := IsV.eq (dep_at hd 0 rfl rfl rfl)
      clear hd
      go_wp2
      exact ⟨_, rfl, Grow.refl _, rfl⟩
    refine StepsS.cons ?_ fun v17 => ⟨_, _, by simp only [Act.put, List.setIfInBounds_toArray, List.set_cons_succ, List.set_cons_zero]; first | done | rfl, by simp only [List.nil_append, List.cons_append]; first | done | rfl, ?_⟩
    · intro w1 hE hd
      obtain rfl := IsV.eq (dep_at hd 0 rfl rfl rfl)
      clear hd
      go_wp2
      exact ⟨_, rfl, Grow.refl _, rfl⟩
    refine StepsS.cons ?_ fun v18 => ⟨_, _, by simp only [Act.put, List.setIfInBounds_toArray, List.set_cons_succ, List.set_cons_zero]; first | done | rfl, by simp only [List.nil_append, List.cons_append]; first | done | rfl, ?_⟩
    · intro w1 hE hd
      obtain rfl := IsV.eq (dep_at hd 0 rfl rfl rfl)
      obtain rfl := IsV.eq (dep_at hd 1 rfl rfl rfl)
      clear hd
      have q0 := hE.drew.at i0
      go_wp2
      exact ⟨_, rfl, Grow.refl _, rfl⟩
    refine StepsS.cons ?_ fun v19 => ⟨_, _, by simp only [Act.put, List.setIfInBounds_toArray, List.set_cons_succ, List.set_cons_zero]; first | done | rfl, by simp only [List.nil_append, List.cons_append]; first | done | rfl, ?_⟩
    · intro w1 hE hd
      obtain rfl := IsV.eq (dep_at hd 0 rfl rfl rfl)
      clear hd
      go_wp2
      exact ⟨_, rfl, Grow.refl _, rfl⟩
    refine StepsS.cons ?_ fun v20 => ⟨_, _, by simp only [Act.put, List.setIfInBounds_toArray, List.set_cons_succ, List.set_cons_zero]; first | done | rfl, by simp only [List.nil_append, List.cons_append]; first | done | rfl, ?_⟩
    · intro w1 hE hd
      obtain rfl := IsV.eq (dep_at hd 0 rfl rfl rfl)
      clear hd
      go_wp2
      exact ⟨_, rfl, Grow.refl _, rfl⟩
    refine StepsS.cons ?_ fun v21 => ⟨_, _, by simp only [Act.put, List.setIfInBounds_toArray, List.set_cons_succ, List.set_cons_zero]; first | done | rfl, by simp only [List.nil_append, List.cons_append]; first | done | rfl, ?_⟩
    · intro w1 hE hd
      obtain rfl := IsV.eq (dep_at hd 0 rfl rfl rfl)
      obtain rfl := IsV.eq (dep_at hd 1 rfl rfl rfl)
      obtain rfl := IsV.eq (dep_at hd 2 rfl rfl rfl)
      clear hd
      go_wp2
      exact ⟨_, rfl, Grow.refl _, rfl⟩
    refine StepsS.cons ?_ fun v22 => ⟨_, _, by simp only [Act.put, List.setIfInBounds_toArray, List.set_cons_succ, List.set_cons_zero]; first | done | rfl, by simp only [List.nil_append, List.cons_append]; first | done | rfl, ?_⟩
    · intro w1 hE hd
      obtain rfl := IsV.eq (dep_at hd 0 rfl rfl rfl)
      obtain rfl := IsV.eq (dep_at hd 1 rfl rfl rfl)
      clear hd
      have q0 := hE.drew.at hcW
      go_wp2
      exact ⟨_, rfl, Grow.refl _, rfl⟩
    refine StepsS.cons ?_ fun v23 => ⟨_, _, by simp only [Act.put, List.setIfInBounds_toArray, List.set_cons_succ, List.set_cons_zero]; first | done | rfl, by simp only [List.nil_append, List.cons_append]; first | done | rfl, ?_⟩
    · intro w1 hE hd
      obtain rfl := IsV.eq (dep_at hd 0 rfl rfl rfl)
      obtain rfl := IsV.eq (dep_at hd 1 rfl rfl rfl)
      clear hd
      go_wp2
      exact ⟨_, rfl, Grow.refl _, rfl⟩
    refine StepsS.cons ?_ fun v24 => ⟨_, _, by simp only [Act.put, List.setIfInBounds_toArray, List.set_cons_succ, List.set_cons_zero]; first | done | rfl, by simp only [List.nil_append, List.cons_append]; first | done | rfl, ?_⟩
    · intro w1 hE hd
      obtain rfl := IsV.eq (dep_at hd 0 rfl rfl rfl)
      obtain rfl := IsV.eq (dep_at hd 1 rfl rfl rfl)
      obtain rfl := IsV.eq (dep_at hd 2 rfl rfl rfl)
      clear hd
      go_wp2
      exact ⟨_, rfl, Grow.refl _, rfl⟩
    refine StepsS.cons ?_ fun v25 => ⟨_, _, by simp only [Act.put, List.setIfInBounds_toArray, List.set_cons_succ, List.set_cons_zero]; first | done | rfl, by simp only [List.nil_append, List.cons_append]; first | done | rfl, ?_⟩
    · intro w1 hE hd
      obtain rfl := IsV.eq (dep_at hd 0 rfl rfl rfl)
      obtain rfl := IsV.eq (dep_at hd 1 rfl rfl rfl)
      clear hd
      go_wp2
      exact ⟨_, rfl, Grow.refl _, rfl⟩
    trivial
  intro w2 hw2
  refine FinS.cons ?_; rintro _ rfl; refine ⟨_, by simp only [Act.put, List.setIfInBounds_toArray, List.set_cons_succ, List.set_cons_zero]; first | done | rfl, ?_⟩
  refine FinS.cons ?_; rintro _ rfl; refine ⟨_, by simp only [Act.put, List.setIfInBounds_toArray, List.set_cons_succ, List.set_cons_zero]; first | done | rfl, ?_⟩
  refine FinS.cons ?_; rintro _ rfl; refine ⟨_, by simp only [Act.put, List.setIfInBounds_toArray, List.set_cons_succ, List.set_cons_zero]; first | done | rfl, ?_⟩
  refine FinS.cons ?_; rintro _ rfl; refine ⟨_, by simp only [Act.put, List.setIfInBounds_toArray, List.set_cons_succ, List.set_cons_zero]; first | done | rfl, ?_⟩
  refine FinS.cons ?_; rintro _ rfl; refine ⟨_, by simp only [Act.put, List.setIfInBounds_toArray, List.set_cons_succ, List.set_cons_zero]; first | done | rfl, ?_⟩
  refine FinS.cons ?_; rintro _ rfl; refine ⟨_, by simp only [Act.put, List.setIfInBounds_toArray, List.set_cons_succ, List.set_cons_zero]; first | done | rfl, ?_⟩
  refine FinS.cons ?_; rintro _ rfl; refine ⟨_, by simp only [Act.put, List.setIfInBounds_toArray, List.set_cons_succ, List.set_cons_zero]; first | done | rfl, ?_⟩
  refine FinS.cons ?_; rintro _ rfl; refine ⟨_, by simp only [Act.put, List.setIfInBounds_toArray, List.set_cons_succ, List.set_cons_zero]; first | done | rfl, ?_⟩
  refine FinS.cons ?_; rintro _ rfl; refine ⟨_, by simp only [Act.put, List.setIfInBounds_toArray, List.set_cons_succ, List.set_cons_zero]; first | done | rfl, ?_⟩
  refine FinS.cons ?_; rintro _ rfl; refine ⟨_, by simp only [Act.put, List.setIfInBounds_toArray, List.set_cons_succ, List.set_cons_zero]; first | done | rfl, ?_⟩
  refine FinS.cons ?_; rintro _ rfl; refine ⟨_, by simp only [Act.put, List.setIfInBounds_toArray, List.set_cons_succ, List.set_cons_zero]; first | done | rfl, ?_⟩
  refine FinS.cons ?_; rintro _ rfl; refine ⟨_, by simp only [Act.put, List.setIfInBounds_toArray, List.set_cons_succ, List.set_cons_zero]; first | done | rfl, ?_⟩
  refine FinS.cons ?_; rintro _ rfl; refine ⟨_, by simp only [Act.put, List.setIfInBounds_toArray, List.set_cons_succ, List.set_cons_zero]; first | done | rfl, ?_⟩
  refine FinS.cons ?_; rintro _ rfl; refine ⟨_, by simp only [Act.put, List.setIfInBounds_toArray, List.set_cons_succ, List.set_cons_zero]; first | done | rfl, ?_⟩
  refine FinS.cons ?_; rintro _ rfl; refine ⟨_, by simp only [Act.put, List.setIfInBounds_toArray, List.set_cons_succ, List.set_cons_zero]; first | done | rfl, ?_⟩
  refine FinS.cons ?_; rintro _ rfl; refine ⟨_, by simp only [Act.put, List.setIfInBounds_toArray, List.set_cons_succ, List.set_cons_zero]; first | done | rfl, ?_⟩
  refine FinS.cons ?_; rintro _ rfl; refine ⟨_, by simp only [Act.put, List.setIfInBounds_toArray, List.set_cons_succ, List.set_cons_zero]; first | done | rfl, ?_⟩
  refine FinS.cons ?_; rintro _ rfl; refine ⟨_, by simp only [Act.put, List.setIfInBounds_toArray, List.set_cons_succ, List.set_cons_zero]; first | done | rfl, ?_⟩
  refine FinS.cons ?_; rintro _ rfl; refine ⟨_, by simp only [Act.put, List.setIfInBounds_toArray, List.set_cons_succ, List.set_cons_zero]; first | done | rfl, ?_⟩
  refine FinS.cons ?_; rintro _ rfl; refine ⟨_, by simp only [Act.put, List.setIfInBounds_toArray, List.set_cons_succ, List.set_cons_zero]; first | done | rfl, ?_⟩
  refine FinS.cons ?_; rintro _ rfl; refine ⟨_, by simp only [Act.put, List.setIfInBounds_toArray, List.set_cons_succ, List.set_cons_zero]; first | done | rfl, ?_⟩
  refine FinS.cons ?_; rintro _ rfl; refine ⟨_, by simp only [Act.put, List.setIfInBounds_toArray, List.set_cons_succ, List.set_cons_zero]; first | done | rfl, ?_⟩
  refine FinS.cons ?_; rintro _ rfl; refine ⟨_, by simp only [Act.put, List.setIfInBounds_toArray, List.set_cons_succ, List.set_cons_zero]; first | done | rfl, ?_⟩
  refine FinS.cons ?_; rintro _ rfl; refine ⟨_, by simp only [Act.put, List.setIfInBounds_toArray, List.set_cons_succ, List.set_cons_zero]; first | done | rfl, ?_⟩
  refine FinS.cons ?_; rintro _ rfl; refine ⟨_, by simp only [Act.put, List.setIfInBounds_toArray, List.set_cons_succ, List.set_cons_zero]; first | done | rfl, ?_⟩
  refine FinS.cons ?_; rintro _ rfl; refine ⟨_, by simp only [Act.put, List.setIfInBounds_toArray, List.set_cons_succ, List.set_cons_zero]; first | done | rfl, ?_⟩
  first | show Exit.then _ _ _ _ _ | show Exit.inBlock _ _ _ _ _
  have hg2 : Grow W w2 := hw2.drew
  have j0 := hg2.at i0
  have j1 := hg2.at i1
  have hc2 := hg2.at hcW
  have hz2 := hg2.at hzW
  go_wp2
  refine wp_region_last [_, _, _, _, _, _, _, _, _, _, _, _, _] _ rfl Grow [IsV (.slice (some ⟨g, 0, none⟩) 4 cap), IsV (.int .i64 k), IsV (.pointer (some ⟨g, k, none⟩)), IsV (.slice (some ⟨bk, 0, none⟩) 3 3), IsV (.pointer (some ⟨w.heap.size, 0, none⟩)), IsV (.int .i64 s), IsV (.pointer (some ⟨w.heap.size, 1, none⟩)), IsV (.slice (some ⟨bc, oc, none⟩) 4 cc), IsV (.int .i64 k), IsV (.pointer (some ⟨bc, oc + k, none⟩)), IsV (.slice z1 z2 z3), NewTb L, IsV (.pointer (some ⟨bk, s, none⟩))] (by kernel_rfl) (by kernel_rfl) (by kernel_rfl) rfl Grow.refl (fun _ _ _ => Grow.trans) ?_ ?_ ?_
  · repeat (refine List.forall_mem_cons.2 ⟨by first | exact IsV.stable _ | exact NewTb.stable _, ?_⟩)
    exact fun R hR => nomatch hR
  · skip
    refine StepsS.cons ?_ fun v0 => ⟨_, _, by simp only [Act.put, List.setIfInBounds_toArray, List.set_cons_succ, List.set_cons_zero]; first | done | rfl, by simp only [List.nil_append]; first | done | rfl, ?_⟩
    · intro w1 hE hd
      clear hd
      go_wp2
      exact ⟨_, rfl, Grow.refl _, rfl⟩
    refine StepsS.cons ?_ fun v1 => ⟨_, _, by simp only [Act.put, List.setIfInBounds_toArray, List.set_cons_succ, List.set_cons_zero]; first | done | rfl, by simp only [List.nil_append, List.cons_append]; first | done | rfl, ?_⟩
    · intro w1 hE hd
      clear hd
      go_wp2
      exact ⟨_, rfl, Grow.refl _, rfl⟩
    refine StepsS.cons ?_ fun v2 => ⟨_, _, by simp only [Act.put, List.setIfInBounds_toArray, List.set_cons_succ, List.set_cons_zero]; first | done | rfl, by simp only [List.nil_append, List.cons_append]; first | done | rfl, ?_⟩
    · intro w1 hE hd
      obtain rfl := IsV.eq (dep_at hd 0 rfl rfl rfl)
      obtain rfl := IsV.eq (dep_at hd 1 rfl rfl rfl)
      clear hd
      go_wp2
      exact ⟨_, rfl, Grow.refl _, rfl⟩
    refine StepsS.cons ?_ fun v3 => ⟨_, _, by simp only [Act.put, List.setIfInBounds_toArray, List.set_cons_succ, List.set_cons_zero]; first | done | rfl, by simp only [List.nil_append, List.cons_append]; first | done | rfl, ?_⟩
    · intro w1 hE hd
      obtain rfl := IsV.eq (dep_at hd 0 rfl rfl rfl)
      clear hd
      have q0 := hE.drew.at hc2
      go_wp2
      exact ⟨_, rfl, Grow.refl _, rfl⟩
    refine StepsS.cons ?_ fun v4 => ⟨_, _, by simp only [Act.put, List.setIfInBounds_toArray, List.set_cons_succ, List.set_cons_zero]; first | done | rfl, by simp only [List.nil_append, List.cons_append]; first | done | rfl, ?_⟩
    · intro w1 hE hd
      clear hd
      go_wp2
      exact ⟨_, rfl, Grow.refl _, rfl⟩
    refine StepsS.cons ?_ fun v5 => ⟨_, _, by simp only [Act.put, List.setIfInBounds_toArray, List.set_cons_succ, List.set_cons_zero]; first | done | rfl, by simp only [List.nil_append, List.cons_append]; first | done | rfl, ?_⟩
    · intro w1 hE hd
      obtain rfl := IsV.eq (dep_at hd 0 rfl rfl rfl)
      clear hd
      have q0 := hE.drew.at j0
      go_wp2
      exact ⟨_, rfl, Grow.refl _, rfl⟩
    refine StepsS.cons ?_ fun v6 => ⟨_, _, by simp only [Act.put, List.setIfInBounds_toArray, List.set_cons_succ, List.set_cons_zero]; first | done | rfl, by simp only [List.nil_append, List.cons_append]; first | done | rfl, ?_⟩
    · intro w1 hE hd
      clear hd
      go_wp2
      exact ⟨_, rfl, Grow.refl _, rfl⟩
    refine StepsS.cons ?_ fun v7 => ⟨_, _, by simp only [Act.put, List.setIfInBounds_toArray, List.set_cons_succ, List.set_cons_zero]; first | done | rfl, by simp only [List.nil_append, List.cons_append]; first | done | rfl, ?_⟩
    · intro w1 hE hd
      obtain rfl := IsV.eq (dep_at hd 0 rfl rfl rfl)
      clear hd
      have q0 := hE.drew.at j1
      go_wp2
      exact ⟨_, rfl, Grow.refl _, rfl⟩
    refine StepsS.cons ?_ fun v8 => ⟨_, _, by simp only [Act.put, List.setIfInBounds_toArray, List.set_cons_succ, List.set_cons_zero]; first | done | rfl, by simp only [List.nil_append, List.cons_append]; first | done | rfl, ?_⟩
    · intro w1 hE hd
      clear hd
      go_wp2
      exact ⟨_, rfl, Grow.refl _, rfl⟩
    refine StepsS.cons ?_ fun v9 => ⟨_, _, by simp only [Act.put, List.setIfInBounds_toArray, List.set_cons_succ, List.set_cons_zero]; first | done | rfl, by simp only [List.nil_append, List.cons_append]; first | done | rfl, ?_⟩
    · intro w1 hE hd
      obtain rfl := IsV.eq (dep_at hd 0 rfl rfl rfl)
      obtain rfl := IsV.eq (dep_at hd 1 rfl rfl rfl)
      clear hd
      go_wp2
      exact ⟨_, rfl, Grow.refl _, rfl⟩
    refine StepsS.cons ?_ fun v10 => ⟨_, _, by simp only [Act.put, List.setIfInBounds_toArray, List.set_cons_succ, List.set_cons_zero]; first | done | rfl, by simp only [List.nil_append, List.cons_append]; first | done | rfl, ?_⟩
    · intro w1 hE hd
      obtain rfl := IsV.eq (dep_at hd 0 rfl rfl rfl)
      clear hd
      have q0 := hE.drew.at hz2
      go_wp2
      exact ⟨_, rfl, Grow.refl _, rfl⟩
    refine StepsS.cons ?_ fun v11 => ⟨_, _, by simp only [Act.put, List.setIfInBounds_toArray, List.set_cons_succ, List.set_cons_zero]; first | done | rfl, by simp only [List.nil_append, List.cons_append]; first | done | rfl, ?_⟩
    · intro w1 hE hd
      obtain rfl := IsV.eq (dep_at hd 0 rfl rfl rfl)
      clear hd
      have hcall := bytesClone_any (.slice z1 z2 z3) L w1 (HZ.out.1.grow (hg2.trans hE.drew)) (by have := HZ.out.2.2; omega)
      go_wp2_with fail
      refine hcall.mono ?_
      rintro e w5 ⟨r, rfl, hr, hg5⟩
      go_wp2_with fail
      exact ⟨_, rfl, hg5, Tb.own hr HZ.out.2.1⟩
    refine StepsS.cons ?_ fun v12 => ⟨_, _, by simp only [Act.put, List.setIfInBounds_toArray, List.set_cons_succ, List.set_cons_zero]; first | done | rfl, by simp only [List.nil_append, List.cons_append]; first | done | rfl, ?_⟩
    · intro w1 hE hd
      obtain rfl := IsV.eq (dep_at hd 0 rfl rfl rfl)
      obtain rfl := IsV.eq (dep_at hd 1 rfl rfl rfl)
      clear hd
      go_wp2
      exact ⟨_, rfl, Grow.refl _, rfl⟩
    trivial
  intro w3 hw3
  refine FinS.cons ?_; rintro _ rfl; refine ⟨_, by simp only [Act.put, List.setIfInBounds_toArray, List.set_cons_succ, List.set_cons_zero]; first | done | rfl, ?_⟩
  refine FinS.cons ?_; rintro _ rfl; refine ⟨_, by simp only [Act.put, List.setIfInBounds_toArray, List.set_cons_succ, List.set_cons_zero]; first | done | rfl, ?_⟩
  refine FinS.cons ?_; rintro _ rfl; refine ⟨_, by simp only [Act.put, List.setIfInBounds_toArray, List.set_cons_succ, List.set_cons_zero]; first | done | rfl, ?_⟩
  refine FinS.cons ?_; rintro _ rfl; refine ⟨_, by simp only [Act.put, List.setIfInBounds_toArray, List.set_cons_succ, List.set_cons_zero]; first | done | rfl, ?_⟩
  refine FinS.cons ?_; rintro _ rfl; refine ⟨_, by simp only [Act.put, List.setIfInBounds_toArray, List.set_cons_succ, List.set_cons_zero]; first | done | rfl, ?_⟩
  refine FinS.cons ?_; rintro _ rfl; refine ⟨_, by simp only [Act.put, List.setIfInBounds_toArray, List.set_cons_succ, List.set_cons_zero]; first | done | rfl, ?_⟩
  refine FinS.cons ?_; rintro _ rfl; refine ⟨_, by simp only [Act.put, List.setIfInBounds_toArray, List.set_cons_succ, List.set_cons_zero]; first | done | rfl, ?_⟩
  refine FinS.cons ?_; rintro _ rfl; refine ⟨_, by simp only [Act.put, List.setIfInBounds_toArray, List.set_cons_succ, List.set_cons_zero]; first | done | rfl, ?_⟩
  refine FinS.cons ?_; rintro _ rfl; refine ⟨_, by simp only [Act.put, List.setIfInBounds_toArray, List.set_cons_succ, List.set_cons_zero]; first | done | rfl, ?_⟩
  refine FinS.cons ?_; rintro _ rfl; refine ⟨_, by simp only [Act.put, List.setIfInBounds_toArray, List.set_cons_succ, List.set_cons_zero]; first | done | rfl, ?_⟩
  refine FinS.cons ?_; rintro _ rfl; refine ⟨_, by simp only [Act.put, List.setIfInBounds_toArray, List.set_cons_succ, List.set_cons_zero]; first | done | rfl, ?_⟩
  refine FinS.cons fun v11 h11 => ⟨_, by simp only [Act.put, List.setIfInBounds_toArray, List.set_cons_succ, List.set_cons_zero]; first | done | rfl, ?_⟩
  refine FinS.cons ?_; rintro _ rfl; refine ⟨_, by simp only [Act.put, List.setIfInBounds_toArray, List.set_cons_succ, List.set_cons_zero]; first | done | rfl, ?_⟩
  show wpList _ _ _ _ _ _
  obtain ⟨r1, r2, r3, rfl⟩ := (Tb.here h11).form
  have hg3 : Grow W w3 := hg2.trans hw3.drew
  have hO3 := HO.out.k4 hg3.k4
  have hO4 := hO3.put (s := s) hk Hb.out h11
  have hlen := hO3.disks.len
  have hl4 := hO3.whole.1
  have hrow := hO3.disks.rows k bk _ Hb.out (by simp [show k < a.ds.length by omega] : a.ds[k]? = some (a.ds[k]'(by omega)))
  obtain ⟨⟨u0, hu0⟩, hf0⟩ := hrow.at (k := s) (by rw [hO3.whole.2 _ (List.getElem_mem _)]; exact hs)
  have HO4 : Hid (OwnA _ _ _ _ _ _) := hO4
  have HG4 : Hid (GrownIn w (w3.setCell ⟨bk, s, none⟩ (.slice r1 r2 r3)) (fun j => j ∈ bs)) := ((hgW.trans hg3).inn _).trans (grownIn_set w3 bk s _ (List.mem_of_getElem? Hb.out))
  clear hO3 hO4 hrow hlen hl4 HO HZ h11
  go_wp2
  go_end0
  exact ⟨⟨_, rfl⟩, HO4.out, HG4.out⟩

end Go.Proofs.Ytjggiameajndgac

/-
  What the program's array.Write returns: an array of the call's own, behind the first writes of an intent. Nothing old turns.
-/
namespace Go.Proofs.Ytjggiameajndgac
open Go.RowKit

theorem OwnA.forms {B : Nat} {bs : List Nat} {w : World} {dv iv : Value} {a : ArrP} (h : OwnA B bs w dv iv a) : (∃ x1 x2 x3, dv = .slice x1 x2 x3) ∧ ∃ y1 y2 y3, iv = .slice y1 y2 y3 := by
  have h1 := h.disks.len
  have h2 := h.whole.1
  obtain ⟨g, cap, e, -, -⟩ := h.disks.own.form (by omega)
  refine ⟨⟨_, _, _, e⟩, ?_⟩
  rcases h.its with ⟨-, e⟩ | ⟨q, r, cap, cur, s, cs, -, -, e, -⟩
  · exact ⟨_, _, _, e⟩
  · exact ⟨_, _, _, e⟩

/-- No row of its own is a block of another type. -/
theorem OwnA.other {B : Nat} {bs : List Nat} {w : World} {dv iv : Value} {a : ArrP} (h : OwnA B bs w dv iv a) {q : Nat} {t : TypeId} {cs : Array Value} {mk : Nat × Nat} (hq : w.heap[q]? = some (.cells cs t mk)) (ht : t ≠ 52) : q ∉ bs := by
  intro hm
  obtain ⟨i, hi, e⟩ := List.mem_iff_getElem.1 hm
  have hl := h.disks.len
  obtain ⟨us, -, h2, -⟩ := h.disks.rows i q (a.ds[i]'(by omega)) (by rw [List.getElem?_eq_getElem hi, e]) (List.getElem?_eq_getElem _)
  rw [hq] at h2
  injection h2 with h2
  injection h2 with h3 h4
  exact ht h4

/-- The boxes of a call: the intent, the result, what is written. -/
def WBox (n q s : Nat) (cv dv iv : Value) (w : World) : Prop := w.heap[n + 1]? = some (.cells #[.int .i64 s, cv] 80 (0, 0)) ∧ w.heap[n + 1 + 1]? = some (.cells #[.slice none 0 0, .slice none 0 0] 26 (0, 0)) ∧ w.heap[q]? = some (.cells #[dv, iv] 26 (0, 0)) ∧ n + 3 ≤ q

theorem WBox.grow {n q s : Nat} {cv dv iv : Value} {w w' : World} (h : WBox n q s cv dv iv w) (hg : Grow w w') : WBox n q s cv dv iv w' := ⟨hg.block' h.1, hg.block' h.2.1, hg.block' h.2.2.1, h.2.2.2⟩
theorem WBox.set1 {n q s : Nat} {cv dv iv u : Value} {w : World} (h : WBox n q s cv dv iv w) : WBox n q s cv dv u (w.setCell ⟨q, 1, none⟩ u) := ⟨set_other h.1 (by have := h.2.2.2; omega), set_other h.2.1 (by have := h.2.2.2; omega), two_set1 h.2.2.1, h.2.2.2⟩
theorem WBox.inn {n q s B : Nat} {bs : List Nat} {cv dv iv dx ix : Value} {a : ArrP} {w w' : World} (h : WBox n q s cv dv iv w) (ho : OwnA B bs w dx ix a) (hg : GrownIn w w' (fun j => j ∈ bs)) : WBox n q s cv dv iv w' :=
  ⟨(hg.block _ (heap_lt h.1) (ho.other h.1 (by decide))).trans h.1, (hg.block _ (heap_lt h.2.1) (ho.other h.2.1 (by decide))).trans h.2.1, (hg.block _ (heap_lt h.2.2.1) (ho.other h.2.2.1 (by decide))).trans h.2.2.1, h.2.2.2⟩

theorem write_end {w wr : World} {q s : Nat} {cv dv iv : Value} {bs : List Nat} {a : ArrP} (hB : WBox w.heap.size q s cv dv iv wr) (hO : OwnA (w.heap.size + 3) bs wr dv iv a) (hg : Grow w wr) :
    Hid (OwnA w.heap.size bs ((wr.setCell ⟨w.heap.size + 1 + 1, 0, none⟩ dv).setCell ⟨w.heap.size + 1 + 1, 1, none⟩ iv) dv iv a ∧ Grow w ((wr.setCell ⟨w.heap.size + 1 + 1, 0, none⟩ dv).setCell ⟨w.heap.size + 1 + 1, 1, none⟩ iv)) ∧
    ((wr.setCell ⟨w.heap.size + 1 + 1, 0, none⟩ dv).setCell ⟨w.heap.size + 1 + 1, 1, none⟩ iv).cell? ⟨w.heap.size + 1 + 1, 0, none⟩ = some dv ∧ ((wr.setCell ⟨w.heap.size + 1 + 1, 0, none⟩ dv).setCell ⟨w.heap.size + 1 + 1, 1, none⟩ iv).cell? ⟨w.heap.size + 1 + 1, 1, none⟩ = some iv := by
  have h1 := two_set0 (z := dv) hB.2.1
  have h2 := two_set1 (z := iv) h1
  exact ⟨⟨((hO.k4 (K4.set hB.2.1)).k4 (K4.set h1)).low (by omega), (hg.set (by omega) _).set (by omega) _⟩, two_at0 h2, two_at1 h2⟩

/-- The first write of an intent: it is noted. -/
theorem OwnA.note {B : Nat} {bs : List Nat} {w : World} {dv iv : Value} {a : ArrP} (h : OwnA B bs w dv iv a) {H r : Nat} {s : Int} {cs : List (List Int)} (hc : cs.length = 4) (hH : w.heap[H]? = some (.cells #[.int .i64 s, .slice (some ⟨r, 0, none⟩) 4 4] 80 (0, 0))) (hr : DRow r cs w) (hn : r ∉ bs) :
    OwnA B bs w dv (.slice (some ⟨H, 0, none⟩) 1 1) { a with is := [(s, cs)] } :=
  ⟨h.whole, h.disks, .inr ⟨H, r, 1, _, s, cs, rfl, hc, rfl, by omega, by unfold maxLen; omega, hH, rfl, rfl, hr, hn⟩⟩
theorem OwnA.let {B : Nat} {bs : List Nat} {w : World} {dv iv : Value} {a : ArrP} (h : OwnA B bs w dv iv a) : OwnA B bs w dv (.slice none 0 0) { a with is := [] } := ⟨h.whole, h.disks, .inl ⟨rfl, rfl⟩⟩

theorem writeTo_mid (a : ArrP) (s : Nat) (cs : List (List Int)) (k : Nat) (h1 : 1 ≤ k) (h5 : k < 5) : writeTo a ((s : Int), cs) (k + 1) = withL (writeTo a ((s : Int), cs) k) (k - 1) s (cs.getD (k - 1) []) := by
  show wstep _ _ _ = _
  unfold wstep
  rw [if_neg (by omega), if_pos (by omega)]
  rfl

end Go.Proofs.Ytjggiameajndgac

/-
  What the program's mend.put does: an array of the call's own has these cells of a stripe.
-/
namespace Go.Proofs.Ytjggiameajndgac
open Go.RowKit

/-- A cell of such a row, and what it reads as. -/
theorem DRow.elem {b : Nat} {ls : List (List Int)} {w : World} (h : DRow b ls w) {k : Nat} (hk : k < ls.length) : ∃ u, w.cell? ⟨b, k, none⟩ = some u ∧ Tb w u (ls.getD k []) := by
  obtain ⟨us, h1, h2, h3⟩ := h
  refine ⟨us[k]'(by omega), row_at h2 k (by simp [h1, hk]), h3 k _ _ (by simp [h1, hk]) (by simp [List.getD_eq_getElem?_getD, hk])⟩

/-- The disk's row of an array of the call's own. -/
theorem OwnA.disk {B : Nat} {bs : List Nat} {w : World} {iv : Value} {a : ArrP} {g cap : Nat} (h : OwnA B bs w (.slice (some ⟨g, 0, none⟩) 4 cap) iv a) {k : Nat} (hk : k < 4) :
    ∃ bk, bs[k]? = some bk ∧ w.cell? ⟨g, k, none⟩ = some (.slice (some ⟨bk, 0, none⟩) 3 3) ∧ DRow bk (a.ds.getD k []) w ∧ (a.ds.getD k []).length = 3 := by
  have hlen := h.disks.len
  have hl4 := h.whole.1
  have hk' : k < a.ds.length := by omega
  have hl3 : a.ds[k].length = 3 := h.whole.2 _ (List.getElem_mem hk')
  have ho := h.disks.own
  rw [hl4] at ho
  have hcell := ho.cellAt k (by omega)
  rw [rowVals_at hlen hk', hl3] at hcell
  have hgd : a.ds.getD k [] = a.ds[k] := by simp [List.getD_eq_getElem?_getD, hk']
  refine ⟨bs[k]'(by omega), by simp, hcell, ?_, by rw [hgd]; exact hl3⟩
  rw [hgd]
  exact h.disks.rows k _ _ (by simp) (by simp [hk'])

set_option maxRecDepth 20000 in
set_option maxHeartbeats 6400000 in
theorem mendPut_any (B : Nat) (bs : List Nat) (dv iv : Value) (a : ArrP) (s r : Nat) (cs : List (List Int)) (w : World) (h : OwnA B bs w dv iv a) (hr : DRow r cs w) (hn : r ∉ bs) (hc4 : cs.length = 4) (hs : s < 3) :
    Calls Try.prog 49 #[dv, .int .i64 s, .slice (some ⟨r, 0, none⟩) 4 4] w fun e w' => (∃ r, e = .returned r) ∧ OwnA B bs w' dv iv (putTo a cs s 4) ∧ GrownIn w w' (fun j => j ∈ bs) := by
  have hl4 := h.whole.1
  obtain ⟨g, cap, rfl, hg1, hg2⟩ := h.disks.own.form (by omega)
  rw [hl4] at h ⊢
  have HO0 : Hid (OwnA B bs w (.slice (some ⟨g, 0, none⟩) 4 cap) iv (putTo a cs s 0)) := h
  have HR0 : Hid (DRow r cs w) := hr
  have HC : Hid (cs.length = 4) := hc4
  clear h hr hc4 hl4 hg1
  go_enter Try.func49, Try.ntmps49
  go_wp2
  go_loopw [10] (fun i wr => ∃ k : Nat, k ≤ 4 ∧ i = .int .i64 k ∧ Hid (OwnA B bs wr (.slice (some ⟨g, 0, none⟩) 4 cap) iv (putTo a cs s k)) ∧ Hid (DRow r cs wr) ∧ GrownIn w wr (fun j => j ∈ bs)) (fun i _ => 4 - (intOf i).toNat)
  case atStart => exact ⟨0, by omega, rfl, HO0, HR0, GrownIn.refl w _⟩
  case round =>
    obtain ⟨k, hk, rfl, HO, HR, hG⟩ := hrel
    clear HO0 HR0
    by_cases hlt : k < 4
    · obtain ⟨u, hu, hT⟩ := HR.out.elem (k := k) (by have := HC.out; omega)
      obtain ⟨z1, z2, z3, rfl⟩ := hT.here.form
      obtain ⟨bk, hbk, hck, hrow, hl3⟩ := HO.out.disk hlt
      have Hb : Hid (bs[k]? = some bk) := hbk
      obtain ⟨⟨u0, hu0⟩, hf0⟩ := hrow.at (k := s) (by omega)
      have HO2 : Hid (OwnA B bs (wr.setCell ⟨bk, s, none⟩ (.slice z1 z2 z3)) (.slice (some ⟨g, 0, none⟩) 4 cap) iv (putTo a cs s (k + 1))) := HO.out.put (s := s) hlt Hb.out hT
      have HR2 : Hid (DRow r cs (wr.setCell ⟨bk, s, none⟩ (.slice z1 z2 z3))) := HR.out.kept (hrow.kbset s _) (set_other rfl (fun e => hn (by rw [e]; exact List.mem_of_getElem? Hb.out)))
      have hG2 : GrownIn w (wr.setCell ⟨bk, s, none⟩ (.slice z1 z2 z3)) (fun j => j ∈ bs) := hG.trans (grownIn_set wr bk s _ (List.mem_of_getElem? Hb.out))
      have hki : (k : Int) < 4 := by omega
      have hsi : (s : Int) < 3 := by omega
      clear hT hrow hl3 hbk HO HR
      go_wp2
      go_roundw
      case rel => first | exact ⟨k + 1, by omega, by go_num, HO2, HR2, hG2⟩ | ((repeat apply Exists.intro); exact ⟨⟨k + 1, by omega, by go_num, HO2, HR2, hG2⟩, rfl⟩)
      case measure => simp [intOf]; omega
    · obtain rfl : k = 4 := by omega
      go_wp2
      go_end0
      exact ⟨⟨_, rfl⟩, HO.out, hG⟩

end Go.Proofs.Ytjggiameajndgac

/-
  A region that draws its order, whose last operation waits for all others, for some of them by way of others.
-/
namespace Go.Proofs.Ytjggiameajndgac
open Go.RowKit

section
variable {E : World → World → Prop} {P : Program} {Q : Exit → Act → World → Prop} {l : List Oper} {Rs : List (Value → World → Prop)} {a0 : Act} {w0 : World} {z : Oper}

/-- It waits for j at once. -/
def afterB (o : Oper) (j : Nat) : Bool := o.after.any fun e => Region.binds .any e && e.on == j

/-- The last one waits for j, by way of at most n others. -/
def waitsB (l : List Oper) (z : Oper) : Nat → Nat → Bool
  | 0, j => afterB z j
  | n + 1, j => afterB z j || (List.range l.length).any fun k => (match l[k]? with | some o => afterB o j | none => false) && waitsB l z n k

/-- The last one waits for all others. -/
def waitB (l : List Oper) (z : Oper) : Bool := (List.range l.length).all fun j => waitsB l z 5 j

theorem afterB_spec {o : Oper} {j : Nat} (h : afterB o j = true) : ∃ e ∈ o.after, Region.binds .any e = true ∧ e.on = j := by
  unfold afterB at h
  rw [Array.any_eq_true] at h
  obtain ⟨i, hi, hb⟩ := h
  simp at hb
  exact ⟨o.after[i], by simp, hb.1, hb.2⟩

theorem waitsB_spec {listed : Array Bool} (hall : ∀ e ∈ z.after, Region.binds .any e = true → listed.getD e.on false = true) (hcl : ∀ (k : Nat) (p : Oper), l[k]? = some p → listed.getD k false = true → ∀ e ∈ p.after, Region.binds .any e = true → listed.getD e.on false = true) : ∀ (n j : Nat), waitsB l z n j = true → listed.getD j false = true := by
  intro n
  induction n with
  | zero =>
    intro j h
    obtain ⟨e, he, hb, rfl⟩ := afterB_spec h
    exact hall e he hb
  | succ n ih =>
    intro j h
    unfold waitsB at h
    rcases Bool.or_eq_true_iff.1 h with h | h
    · obtain ⟨e, he, hb, rfl⟩ := afterB_spec h
      exact hall e he hb
    · obtain ⟨k, -, hk⟩ := List.any_eq_true.1 h
      obtain ⟨h1, h2⟩ := Bool.and_eq_true_iff.1 hk
      cases hl : l[k]? with
      | none => rw [hl] at h1; cases h1
      | some o =>
        rw [hl] at h1
        obtain ⟨e, he, hb, rfl⟩ := afterB_spec h1
        exact hcl k o hl (ih k h2) e he hb

theorem waitB_spec {listed : Array Bool} (h : waitB l z = true) {j : Nat} (hj : j < l.length) (hall : ∀ e ∈ z.after, Region.binds .any e = true → listed.getD e.on false = true) (hcl : ∀ (k : Nat) (p : Oper), l[k]? = some p → listed.getD k false = true → ∀ e ∈ p.after, Region.binds .any e = true → listed.getD e.on false = true) : listed.getD j false = true := by
  unfold waitB at h
  exact waitsB_spec hall hcl 5 j (List.all_eq_true.1 h j (by simpa using hj))

theorem wpAny_wait (hB : stableB (l ++ [z]) = true) (hlen : Rs.length = l.length) (hlast : waitB l z = true) (htr : ∀ x y z, E x y → E y z → E x z) (hst : ∀ R ∈ Rs, ∀ v x y, R v x → E x y → R v y)
    (hsteps : StepsS E P (l ++ [z]).toArray w0 l Rs [] a0) (hfin : ∀ w', E w0 w' → FinS (fun _ a w => wpList P (l ++ [z]).toArray Q [z] a w) w' l Rs a0) :
    ∀ (fuel : Nat) (listed : Array Bool) (a : Act) (w : World) (vs : Nat → Value), listed.toList.count false = fuel + 1 → listed.getD l.length true = false → InvS E (l ++ [z]) Rs a0 w0 listed a w vs → wpAny P .any (l ++ [z]).toArray Q (fuel + 1) listed a w := by
  intro fuel
  induction fuel with
  | zero =>
    intro listed a w vs hc hz h
    have hzl : l.length < listed.size := by rw [h.size]; simp
    have hone : ∀ i, i < l.length → listed.getD i false = true := by
      intro i hi
      have hi' : i < listed.size := by omega
      refine getD_true_of hi' fun hu => ?_
      have h1 : listed[i] = false := by simpa [hi'] using hu
      have h2 : listed[l.length] = false := by simpa [hzl] using hz
      have hset := List.count_set (a := true) (b := false) (i := i) (l := listed.toList) (by simpa using hi')
      have hm : false ∈ listed.toList.set i true := by
        refine List.mem_iff_getElem.2 ⟨l.length, by simpa using hzl, ?_⟩
        rw [List.getElem_set_ne (by omega)]
        simpa using h2
      have hpos := List.count_pos_iff.2 hm
      rw [hset, hc] at hpos
      simp [h1] at hpos
    refine ⟨fun hr => ?_, fun i hi => ?_⟩
    · exfalso
      have := h.ready_nil hB hr l.length (by simp)
      rw [getD_false_true hz] at this
      cases this
    · obtain ⟨hu, o, ho', hall⟩ := mem_ready.1 hi
      have ho : (l ++ [z])[i]? = some o := by simpa using ho'
      have hil : i < (l ++ [z]).length := (List.getElem?_eq_some_iff.1 ho).1
      have hiL : i = l.length := by
        by_cases hiL : i < l.length
        · have := hone i hiL
          rw [getD_false_true hu] at this
          cases this
        · simp at hil
          omega
      subst hiL
      obtain rfl : z = o := by simpa using ho
      have h1 := fin_at l Rs a0 vs (hfin w h.moved) hlen (fun i R hi => h.holds i R (hone i (by rw [← hlen]; exact (List.getElem?_eq_some_iff.1 hi).1)) hi)
      have h2 : a = lexP (l ++ [z]) vs l.length a0 := h.shape.eq (lexP_sh (l ++ [z]) (apart_of hB) vs a0 l.length (by simp)) (fun j t hd => by
        have hj : j < (l ++ [z]).length := by
          unfold dstAt at hd
          cases ho : (l ++ [z])[j]? with
          | none => simp [ho] at hd
          | some o => exact (List.getElem?_eq_some_iff.1 ho).1
        constructor
        · intro hj'
          by_cases hjl : j < l.length
          · exact hjl
          · simp at hj
            have : j = l.length := by omega
            rw [this, getD_false_true hz] at hj'
            cases hj'
        · exact fun hj' => hone j hj')
      rw [lexP_prefix l z vs l.length a0 (Nat.le_refl _)] at h2
      rw [h2]
      refine wpOp_of_last ho' h1 fun a' w' hQ => ⟨?_, hQ⟩
      apply List.eq_nil_iff_forall_not_mem.2
      intro j hj
      obtain ⟨hu', o', ho'', _⟩ := mem_ready.1 hj
      have hjl : j < (l ++ [z]).length := by
        have := (Array.getElem?_eq_some_iff.1 ho'').1
        simpa using this
      by_cases hjL : j = l.length
      · subst hjL
        have := getD_false_true hu'
        simp [hzl] at this
      · simp at hjl
        rw [getD_set_ne true (fun e => hjL e.symm)] at hu'
        have := hone j (by omega)
        rw [getD_false_true hu'] at this
        cases this
  | succ fuel ih =>
    intro listed a w vs hc hz h
    refine ⟨fun hr => ?_, fun i hi => ?_⟩
    · exfalso
      have := h.ready_nil hB hr l.length (by simp)
      rw [getD_false_true hz] at this
      cases this
    obtain ⟨hu, o, ho', hall⟩ := mem_ready.1 hi
    have ho : (l ++ [z])[i]? = some o := by simpa using ho'
    have hil' : i < (l ++ [z]).length := (List.getElem?_eq_some_iff.1 ho).1
    have hil : i < l.length := by
      by_cases hil : i < l.length
      · exact hil
      · exfalso
        have hiL : i = l.length := by simp at hil'; omega
        subst hiL
        obtain rfl : z = o := by simpa using ho
        have hone : ∀ j, j < l.length → listed.getD j false = true := fun j hj => waitB_spec hlast hj hall fun k p hp hk e he hb => h.closed k p (by rw [List.getElem?_append_left (List.getElem?_eq_some_iff.1 hp).1]; exact hp) hk e he hb
        have hzl : l.length < listed.size := by rw [h.size]; simp
        have hls : listed.toList = List.replicate l.length true ++ [false] := by
          refine List.ext_getElem (by simp [h.size]) fun j h1 h2 => ?_
          have h1' : j < listed.size := by simpa using h1
          by_cases hj : j < l.length
          · have := hone j hj
            rw [List.getElem_append_left (by simpa using hj)]
            simpa [h1'] using this
          · have hjl : j = l.length := by rw [h.size] at h1'; simp at h1'; omega
            subst hjl
            rw [List.getElem_append_right (by simp)]
            simpa [hzl] using hz
        rw [hls] at hc
        simp [List.count_replicate] at hc
    have hol : l[i]? = some o := by rw [List.getElem?_append_left hil] at ho; exact ho
    obtain ⟨R, hR⟩ : ∃ R, Rs[i]? = some R := ⟨Rs[i]'(by omega), by simp [show i < Rs.length by omega]⟩
    have hsp := stableB_spec hB ho
    have hd : depFacts ([] ++ zipDone Rs vs i) w o.after.toList := depFacts_of _ fun e he hb x hx => by
      have hz := zipDone_get Rs vs i e.on x (by simpa using hx)
      rw [hz.2]
      exact h.holds e.on x.1 (hall e (by simpa using he) hb) hz.1
    have hw := steps_at i l Rs [] a0 vs o R w hsteps hol hR h.moved hd
    have hag := h.agree hB ho hu hall
    rw [lexP_prefix l z vs i a0 (by omega)] at hag
    have hdst : dstAt (l ++ [z]) i = o.dst := by simp [dstAt, ho]
    refine wpOp_of_SQ ho' ?_ (execOp_agree o hsp.1 _ _ hag) (wanted_agree o _ _ hag) hw ?_
    · rw [h.shape.size, ← lexP_prefix l z vs i a0 (by omega), (lexP_sh (l ++ [z]) (apart_of hB) vs a0 i (by simp; omega)).size]
    · intro v w' hE hRv
      have hui := getD_false_true hu
      have hsz : i < listed.size := by rw [h.size]; exact hil'
      have hset : ∀ j, (listed.setIfInBounds i true).getD j false = true ↔ listed.getD j false = true ∨ j = i := by
        intro j
        by_cases hij : i = j
        · subst hij; simp [hsz]
        · rw [getD_set_ne false hij]
          constructor
          · exact .inl
          · rintro (h1 | h1)
            · exact h1
            · exact absurd h1.symm hij
      refine ih _ _ _ (fun j => if j = i then v else vs j) ?_ ?_ ⟨by simp [h.size], htr _ _ _ h.moved hE, ?_, ?_, ?_⟩
      · have hli : listed.toList[i]'(by simpa using hsz) = false := by
          have : listed[i] = false := by simpa [hsz] using hu
          simpa using this
        rw [Array.toList_setIfInBounds, List.count, List.countP_set (by simpa using hsz)]
        rw [List.count] at hc
        rw [hc, hli, if_pos (by rfl), if_neg (by decide)]
        omega
      · rw [getD_set_ne true (by omega)]
        exact hz
      · rw [← hdst]
        refine h.shape.put (apart_of hB) i (by rw [hui]; simp) hset v (fun j hj => ?_) (by simp)
        have hji : j ≠ i := fun e => by rw [e, hui] at hj; cases hj
        simp [hji]
      · intro j R' hj hR'
        rcases (hset j).1 hj with hj' | rfl
        · have hji : j ≠ i := fun e => by rw [e, hui] at hj'; cases hj'
          simp only [hji, if_false]
          exact hst R' (List.mem_of_getElem? hR') _ _ _ (h.holds j R' hj' hR') hE
        · rw [hR] at hR'
          obtain rfl := Option.some.inj hR'
          simpa using hRv
      · intro j p hp hj e he hb
        rcases (hset j).1 hj with hj' | rfl
        · exact (hset e.on).2 (.inl (h.closed j p hp hj' e he hb))
        · rw [ho] at hp
          obtain rfl := Option.some.inj hp
          exact (hset e.on).2 (.inl (hall e he hb))

/-- The law: a region that draws its order, and ends with one operation that waits for all others. -/
theorem wp_region_wait {id : Nat} {w : World} (l : List Oper) (z : Oper) {ops : Array Oper} (hops : ops = (l ++ [z]).toArray) (E : World → World → Prop) (Rs : List (Value → World → Prop)) (hm : P.follows .mixedOrders = true) (hB : stableB (l ++ [z]) = true) (hlast : waitB l z = true) (hlen : Rs.length = l.length)
    (hrefl : ∀ x, E x x) (htr : ∀ x y z, E x y → E y z → E x z) (hst : ∀ R ∈ Rs, ∀ v x y, R v x → E x y → R v y)
    (hsteps : StepsS E P (l ++ [z]).toArray { w with drawn := w.drawn + 1 } l Rs [] a0) (hfin : ∀ w', E { w with drawn := w.drawn + 1 } w' → FinS (fun _ a w => wpList P (l ++ [z]).toArray Q [z] a w) w' l Rs a0) : (Code.region id ops true).wp P Q a0 w := by
  subst hops
  refine wp_region_any hm ?_
  have hsz : (l ++ [z]).toArray.size = l.length + 1 := by simp
  rw [hsz]
  refine wpAny_wait hB hlen hlast htr hst hsteps hfin _ _ _ _ (fun _ => undef) (by simp) (by simp) ⟨by simp, hrefl _, ⟨rfl, rfl, fun _ _ => rfl, fun j t hj => ?_⟩, fun i R hi => ?_, fun j o _ hj => ?_⟩
  · rw [replicate_getD] at hj; cases hj
  · rw [replicate_getD] at hi; cases hi
  · rw [replicate_getD] at hj; cases hj

end

end Go.Proofs.Ytjggiameajndgac
