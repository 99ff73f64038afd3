import Derived.Test.YtjggiameajndgabJoin17
/-
  What the reference's Same (of arrays) returns. Nothing old turns.
-/
namespace Go.Proofs.Ytjggiameajndgab
open Go.RowKit

/-- Whether arrays are the same. -/
def sameB (a b : ArrP) : Bool := a.ds == b.ds && a.is == b.is

theorem sameB_iff {a b : ArrP} : sameB a b = true ↔ a = b := by
  obtain ⟨ads, ais⟩ := a
  obtain ⟨bds, bis⟩ := b
  simp [sameB]

theorem beq_no {α : Type} [BEq α] [LawfulBEq α] {a b : List α} {k : Nat} (d : α) (h : a.getD k d ≠ b.getD k d) : (a == b) = false := by
  rw [beq_eq_false_iff_ne]
  intro h0
  exact h (by rw [h0])

theorem beq_yes {α : Type} [BEq α] [LawfulBEq α] {a b : List α} (d : α) (hl : a.length = b.length) (h : ∀ k, k < a.length → a.getD k d = b.getD k d) : (a == b) = true := by
  rw [beq_iff_eq]
  refine List.ext_getElem hl fun i h1 h2 => ?_
  have := h i h1
  simpa [List.getD_eq_getElem?_getD, h1, h2] using this

theorem beq_len {α : Type} [BEq α] [LawfulBEq α] {a b : List α} (h : a.length ≠ b.length) : (a == b) = false := by
  rw [beq_eq_false_iff_ne]
  intro h0
  exact h (by rw [h0])

/-- An intent's cells. -/
theorem Its.at {w : World} {ao : Option Addr} {n cap : Nat} {l : List (Int × List (List Int))} (h : Its w (.slice ao n cap) l) {k : Nat} (hk : k < l.length) :
    ∃ b off x y, ao = some ⟨b, off, none⟩ ∧ w.cell? ⟨b, off + k * 2, none⟩ = some (.int .i64 (l.getD k (0, [])).1) ∧ w.cell? ⟨b, off + k * 2 + 1, none⟩ = some (.slice x (l.getD k (0, [])).2.length y) ∧ Bss w (.slice x (l.getD k (0, [])).2.length y) (l.getD k (0, [])).2 := by
  obtain ⟨a1, c1, e1, -, -, -, h4⟩ := h
  injection e1 with e1 _ _
  subst e1
  obtain ⟨b, off, e2, hc⟩ := h4 (by omega)
  obtain ⟨h5, cv, h6, h7⟩ := hc k (l.getD k (0, [])) (by simp [List.getD_eq_getElem?_getD, hk])
  obtain ⟨x, y, rfl⟩ := Sl.form h7
  exact ⟨b, off, x, y, e2, h5, h6, h7⟩

set_option maxRecDepth 20000 in
set_option maxHeartbeats 3200000 in
theorem refSame6_any (va vb : Value) (a b : ArrP) (w : World) (ha : ArrV w va a) (hb : ArrV w vb b) :
    Calls Try.prog 31 #[va, vb] w fun e w' => e = .returned (.bool (sameB a b)) ∧ Grow w w' := by
  obtain ⟨dva, iva, rfl, hda, hia⟩ := ha
  obtain ⟨dvb, ivb, rfl, hdb, hib⟩ := hb
  obtain ⟨ada, cda, rfl, hda1, hda2⟩ := hda.form'
  obtain ⟨adb, cdb, rfl, hdb1, hdb2⟩ := hdb.form'
  obtain ⟨aia, cia, rfl, hia1, hia2⟩ := hia.form
  obtain ⟨aib, cib, rfl, hib1, hib2⟩ := hib.form
  have HS : Hid (sameB a b = ((a.ds == b.ds) && (a.is == b.is))) := rfl
  by_cases hl1 : a.ds.length = b.ds.length
  · by_cases hl2 : a.is.length = b.is.length
    · have HL1 : Hid (a.ds.length = b.ds.length) := hl1
      have HL2 : Hid (a.is.length = b.is.length) := hl2
      rw [← hl1] at hdb hdb1 ⊢
      rw [← hl2] at hib hib1 ⊢
      have Hn : Hid (a.ds.length = a.ds.length ∧ a.is.length = a.is.length) := ⟨rfl, rfl⟩
      clear hl1 hl2
      obtain ⟨W, hW⟩ : ∃ W, W = (w.alloc (.cells #[.slice ada a.ds.length cda, .slice aia a.is.length cia] 39)).alloc (.cells #[.slice adb a.ds.length cdb, .slice aib a.is.length cib] 39) := ⟨_, rfl⟩
      have hgW : Grow w W := by rw [hW]; exact (Grow.alloc _ _).trans (Grow.alloc _ _)
      have k0 : W.cell? ⟨w.heap.size, 0, none⟩ = some (.slice ada a.ds.length cda) := by rw [hW]; simp
      have k1 : W.cell? ⟨w.heap.size, 1, none⟩ = some (.slice aia a.is.length cia) := by rw [hW]; simp
      have j0 : W.cell? ⟨w.heap.size + 1, 0, none⟩ = some (.slice adb a.ds.length cdb) := by rw [hW]; simp
      have j1 : W.cell? ⟨w.heap.size + 1, 1, none⟩ = some (.slice aib a.is.length cib) := by rw [hW]; simp
      go_enter Try.func31, Try.ntmps31
      go_wp2
      rw [← hW]
      clear hW
      go_loopw [26] (fun i wr => ∃ k : Nat, k ≤ a.ds.length ∧ i = .int .i64 k ∧ Hid (∀ j, j < k → a.ds.getD j [] = b.ds.getD j []) ∧ Grow W wr) (fun i _ => a.ds.length - (intOf i).toNat)
      case atStart => exact ⟨0, by omega, rfl, (fun j hj => by omega), Grow.refl _⟩
      case round =>
        obtain ⟨k, hk, rfl, HK, hgr⟩ := hrel
        have q0 := hgr.at k0
        have q1 := hgr.at k1
        have p0 := hgr.at j0
        have p1 := hgr.at j1
        by_cases hlt : k < a.ds.length
        · obtain ⟨ba, offa, xa, cxa, rfl, hxa, hba⟩ := hda.elems hlt
          obtain ⟨bb, offb, xb, cxb, rfl, hxb, hbb⟩ := hdb.elems (k := k) (by have := HL1.out; omega)
          have hgwr := hgW.trans hgr
          have hxa' := hgwr.at hxa
          have hxb' := hgwr.at hxb
          by_cases he : a.ds.getD k [] = b.ds.getD k []
          · have HK' : Hid (∀ j, j < k + 1 → a.ds.getD j [] = b.ds.getD j []) := fun j hj => by
              by_cases hjk : j = k
              · subst hjk; exact he
              · exact HK.out j (by omega)
            have hcall : ∀ w1, Grow wr w1 → Calls Try.prog 20 #[.slice xa (a.ds.getD k []).length cxa, .slice xb (b.ds.getD k []).length cxb] w1 fun e w' => e = .returned (.bool true) ∧ Grow w1 w' := fun w1 hg => by
              have := refSame_any _ _ _ _ w1 (Sl.stays Bs.stays _ _ _ _ hba (hgwr.trans hg)) (Sl.stays Bs.stays _ _ _ _ hbb (hgwr.trans hg))
              rwa [show (a.ds.getD k [] == b.ds.getD k []) = true from by rw [he]; simp] at this
            clear hba hbb hxa hxb he
            generalize (a.ds.getD k []).length = la at *
            generalize (b.ds.getD k []).length = lb at *
            generalize a.ds.length = n at *
            generalize a.is.length = m at *
            go_wp2_with fail
            refine wp_region_stable Grow [IsV (.pointer (some ⟨w.heap.size, 0, none⟩)), IsV (.slice (some ⟨ba, offa, none⟩) n cda), IsV (.int .i64 k), IsV (.pointer (some ⟨ba, offa + k, none⟩)), IsV (.slice xa la cxa), IsV (.pointer (some ⟨w.heap.size + 1, 0, none⟩)), IsV (.slice (some ⟨bb, offb, none⟩) n cdb), IsV (.int .i64 k), IsV (.pointer (some ⟨bb, offb + k, none⟩)), IsV (.slice xb lb cxb), IsV (.bool true), IsV (.bool false)] (by kernel_rfl) (by kernel_rfl) rfl Grow.refl (fun _ _ _ => Grow.trans) ?_ ?_ ?_
            · repeat (refine List.forall_mem_cons.2 ⟨by first | exact IsV.stable _, ?_⟩)
              exact fun R hR => nomatch hR
            · skip
              refine StepsS.cons ?_ fun v0 => ⟨_, _, by simp only [Act.put, List.setIfInBounds_toArray, List.set_cons_succ, List.set_cons_zero]; first | done | rfl, by simp only [List.nil_append]; first | done | rfl, ?_⟩
              · intro w1 hE hd
                clear hd
                go_wp2
                exact ⟨_, rfl, Grow.refl _, rfl⟩
              refine StepsS.cons ?_ fun v1 => ⟨_, _, by simp only [Act.put, List.setIfInBounds_toArray, List.set_cons_succ, List.set_cons_zero]; first | done | rfl, by simp only [List.nil_append, List.cons_append]; first | done | rfl, ?_⟩
              · intro w1 hE hd
                obtain rfl := IsV.eq (dep_at hd 0 rfl rfl rfl)
                clear hd
                have qq := hE.drew.at q0
                go_wp2
                exact ⟨_, rfl, Grow.refl _, rfl⟩
              refine StepsS.cons ?_ fun v2 => ⟨_, _, by simp only [Act.put, List.setIfInBounds_toArray, List.set_cons_succ, List.set_cons_zero]; first | done | rfl, by simp only [List.nil_append, List.cons_append]; first | done | rfl, ?_⟩
              · intro w1 hE hd
                clear hd
                go_wp2
                exact ⟨_, rfl, Grow.refl _, rfl⟩
              refine StepsS.cons ?_ fun v3 => ⟨_, _, by simp only [Act.put, List.setIfInBounds_toArray, List.set_cons_succ, List.set_cons_zero]; first | done | rfl, by simp only [List.nil_append, List.cons_append]; first | done | rfl, ?_⟩
              · intro w1 hE hd
                obtain rfl := IsV.eq (dep_at hd 0 rfl rfl rfl)
                obtain rfl := IsV.eq (dep_at hd 1 rfl rfl rfl)
                clear hd
                go_wp2
                exact ⟨_, rfl, Grow.refl _, rfl⟩
              refine StepsS.cons ?_ fun v4 => ⟨_, _, by simp only [Act.put, List.setIfInBounds_toArray, List.set_cons_succ, List.set_cons_zero]; first | done | rfl, by simp only [List.nil_append, List.cons_append]; first | done | rfl, ?_⟩
              · intro w1 hE hd
                obtain rfl := IsV.eq (dep_at hd 0 rfl rfl rfl)
                clear hd
                have qq := hE.drew.at hxa'
                go_wp2
                exact ⟨_, rfl, Grow.refl _, rfl⟩
              refine StepsS.cons ?_ fun v5 => ⟨_, _, by simp only [Act.put, List.setIfInBounds_toArray, List.set_cons_succ, List.set_cons_zero]; first | done | rfl, by simp only [List.nil_append, List.cons_append]; first | done | rfl, ?_⟩
              · intro w1 hE hd
                clear hd
                go_wp2
                exact ⟨_, rfl, Grow.refl _, rfl⟩
              refine StepsS.cons ?_ fun v6 => ⟨_, _, by simp only [Act.put, List.setIfInBounds_toArray, List.set_cons_succ, List.set_cons_zero]; first | done | rfl, by simp only [List.nil_append, List.cons_append]; first | done | rfl, ?_⟩
              · intro w1 hE hd
                obtain rfl := IsV.eq (dep_at hd 0 rfl rfl rfl)
                clear hd
                have qq := hE.drew.at p0
                go_wp2
                exact ⟨_, rfl, Grow.refl _, rfl⟩
              refine StepsS.cons ?_ fun v7 => ⟨_, _, by simp only [Act.put, List.setIfInBounds_toArray, List.set_cons_succ, List.set_cons_zero]; first | done | rfl, by simp only [List.nil_append, List.cons_append]; first | done | rfl, ?_⟩
              · intro w1 hE hd
                clear hd
                go_wp2
                exact ⟨_, rfl, Grow.refl _, rfl⟩
              refine StepsS.cons ?_ fun v8 => ⟨_, _, by simp only [Act.put, List.setIfInBounds_toArray, List.set_cons_succ, List.set_cons_zero]; first | done | rfl, by simp only [List.nil_append, List.cons_append]; first | done | rfl, ?_⟩
              · intro w1 hE hd
                obtain rfl := IsV.eq (dep_at hd 0 rfl rfl rfl)
                obtain rfl := IsV.eq (dep_at hd 1 rfl rfl rfl)
                clear hd
                go_wp2
                exact ⟨_, rfl, Grow.refl _, rfl⟩
              refine StepsS.cons ?_ fun v9 => ⟨_, _, by simp only [Act.put, List.setIfInBounds_toArray, List.set_cons_succ, List.set_cons_zero]; first | done | rfl, by simp only [List.nil_append, List.cons_append]; first | done | rfl, ?_⟩
              · intro w1 hE hd
                obtain rfl := IsV.eq (dep_at hd 0 rfl rfl rfl)
                clear hd
                have qq := hE.drew.at hxb'
                go_wp2
                exact ⟨_, rfl, Grow.refl _, rfl⟩
              refine StepsS.cons ?_ fun v10 => ⟨_, _, by simp only [Act.put, List.setIfInBounds_toArray, List.set_cons_succ, List.set_cons_zero]; first | done | rfl, by simp only [List.nil_append, List.cons_append]; first | done | rfl, ?_⟩
              · intro w1 hE hd
                obtain rfl := IsV.eq (dep_at hd 0 rfl rfl rfl)
                obtain rfl := IsV.eq (dep_at hd 1 rfl rfl rfl)
                clear hd
                go_wp2_with fail
                refine (hcall _ hE.drew).mono ?_
                rintro e w4 ⟨rfl, hg4⟩
                go_wp2_with fail
                exact ⟨_, rfl, hg4, rfl⟩
              refine StepsS.cons ?_ fun v11 => ⟨_, _, by simp only [Act.put, List.setIfInBounds_toArray, List.set_cons_succ, List.set_cons_zero]; first | done | rfl, by simp only [List.nil_append, List.cons_append]; first | done | rfl, ?_⟩
              · intro w1 hE hd
                obtain rfl := IsV.eq (dep_at hd 0 rfl rfl rfl)
                clear hd
                go_wp2
                exact ⟨_, rfl, Grow.refl _, rfl⟩
              trivial
            intro wR hwR
            refine FinS.cons ?_; rintro _ rfl; refine ⟨_, by simp only [Act.put, List.setIfInBounds_toArray, List.set_cons_succ, List.set_cons_zero]; first | done | rfl, ?_⟩
            refine FinS.cons ?_; rintro _ rfl; refine ⟨_, by simp only [Act.put, List.setIfInBounds_toArray, List.set_cons_succ, List.set_cons_zero]; first | done | rfl, ?_⟩
            refine FinS.cons ?_; rintro _ rfl; refine ⟨_, by simp only [Act.put, List.setIfInBounds_toArray, List.set_cons_succ, List.set_cons_zero]; first | done | rfl, ?_⟩
            refine FinS.cons ?_; rintro _ rfl; refine ⟨_, by simp only [Act.put, List.setIfInBounds_toArray, List.set_cons_succ, List.set_cons_zero]; first | done | rfl, ?_⟩
            refine FinS.cons ?_; rintro _ rfl; refine ⟨_, by simp only [Act.put, List.setIfInBounds_toArray, List.set_cons_succ, List.set_cons_zero]; first | done | rfl, ?_⟩
            refine FinS.cons ?_; rintro _ rfl; refine ⟨_, by simp only [Act.put, List.setIfInBounds_toArray, List.set_cons_succ, List.set_cons_zero]; first | done | rfl, ?_⟩
            refine FinS.cons ?_; rintro _ rfl; refine ⟨_, by simp only [Act.put, List.setIfInBounds_toArray, List.set_cons_succ, List.set_cons_zero]; first | done | rfl, ?_⟩
            refine FinS.cons ?_; rintro _ rfl; refine ⟨_, by simp only [Act.put, List.setIfInBounds_toArray, List.set_cons_succ, List.set_cons_zero]; first | done | rfl, ?_⟩
            refine FinS.cons ?_; rintro _ rfl; refine ⟨_, by simp only [Act.put, List.setIfInBounds_toArray, List.set_cons_succ, List.set_cons_zero]; first | done | rfl, ?_⟩
            refine FinS.cons ?_; rintro _ rfl; refine ⟨_, by simp only [Act.put, List.setIfInBounds_toArray, List.set_cons_succ, List.set_cons_zero]; first | done | rfl, ?_⟩
            refine FinS.cons ?_; rintro _ rfl; refine ⟨_, by simp only [Act.put, List.setIfInBounds_toArray, List.set_cons_succ, List.set_cons_zero]; first | done | rfl, ?_⟩
            refine FinS.cons ?_; rintro _ rfl; refine ⟨_, by simp only [Act.put, List.setIfInBounds_toArray, List.set_cons_succ, List.set_cons_zero]; first | done | rfl, ?_⟩
            first | show Exit.then _ _ _ _ _ | show Exit.inBlock _ _ _ _ _
            go_wp2
            go_roundw
            case rel => first | exact ⟨k + 1, by omega, by go_num, HK', hgr.trans hwR.drew⟩ | ((repeat apply Exists.intro); exact ⟨⟨k + 1, by omega, by go_num, HK', hgr.trans hwR.drew⟩, rfl⟩)
            case measure => simp [intOf]; omega
          · have HE : Hid (sameB a b = false) := by rw [Hid, HS.out, beq_no [] he]; rfl
            have hcall : ∀ w1, Grow wr w1 → Calls Try.prog 20 #[.slice xa (a.ds.getD k []).length cxa, .slice xb (b.ds.getD k []).length cxb] w1 fun e w' => e = .returned (.bool false) ∧ Grow w1 w' := fun w1 hg => by
              have := refSame_any _ _ _ _ w1 (Sl.stays Bs.stays _ _ _ _ hba (hgwr.trans hg)) (Sl.stays Bs.stays _ _ _ _ hbb (hgwr.trans hg))
              rwa [show (a.ds.getD k [] == b.ds.getD k []) = false from by rw [beq_eq_false_iff_ne]; exact he] at this
            clear hba hbb hxa hxb he
            generalize (a.ds.getD k []).length = la at *
            generalize (b.ds.getD k []).length = lb at *
            generalize a.ds.length = n at *
            generalize a.is.length = m at *
            go_wp2_with fail
            refine wp_region_stable Grow [IsV (.pointer (some ⟨w.heap.size, 0, none⟩)), IsV (.slice (some ⟨ba, offa, none⟩) n cda), IsV (.int .i64 k), IsV (.pointer (some ⟨ba, offa + k, none⟩)), IsV (.slice xa la cxa), IsV (.pointer (some ⟨w.heap.size + 1, 0, none⟩)), IsV (.slice (some ⟨bb, offb, none⟩) n cdb), IsV (.int .i64 k), IsV (.pointer (some ⟨bb, offb + k, none⟩)), IsV (.slice xb lb cxb), IsV (.bool false), IsV (.bool true)] (by kernel_rfl) (by kernel_rfl) rfl Grow.refl (fun _ _ _ => Grow.trans) ?_ ?_ ?_
            · repeat (refine List.forall_mem_cons.2 ⟨by first | exact IsV.stable _, ?_⟩)
              exact fun R hR => nomatch hR
            · skip
              refine StepsS.cons ?_ fun v0 => ⟨_, _, by simp only [Act.put, List.setIfInBounds_toArray, List.set_cons_succ, List.set_cons_zero]; first | done | rfl, by simp only [List.nil_append]; first | done | rfl, ?_⟩
              · intro w1 hE hd
                clear hd
                go_wp2
                exact ⟨_, rfl, Grow.refl _, rfl⟩
              refine StepsS.cons ?_ fun v1 => ⟨_, _, by simp only [Act.put, List.setIfInBounds_toArray, List.set_cons_succ, List.set_cons_zero]; first | done | rfl, by simp only [List.nil_append, List.cons_append]; first | done | rfl, ?_⟩
              · intro w1 hE hd
                obtain rfl := IsV.eq (dep_at hd 0 rfl rfl rfl)
                clear hd
                have qq := hE.drew.at q0
                go_wp2
                exact ⟨_, rfl, Grow.refl _, rfl⟩
              refine StepsS.cons ?_ fun v2 => ⟨_, _, by simp only [Act.put, List.setIfInBounds_toArray, List.set_cons_succ, List.set_cons_zero]; first | done | rfl, by simp only [List.nil_append, List.cons_append]; first | done | rfl, ?_⟩
              · intro w1 hE hd
                clear hd
                go_wp2
                exact ⟨_, rfl, Grow.refl _, rfl⟩
              refine StepsS.cons ?_ fun v3 => ⟨_, _, by simp only [Act.put, List.setIfInBounds_toArray, List.set_cons_succ, List.set_cons_zero]; first | done | rfl, by simp only [List.nil_append, List.cons_append]; first | done | rfl, ?_⟩
              · intro w1 hE hd
                obtain rfl := IsV.eq (dep_at hd 0 rfl rfl rfl)
                obtain rfl := IsV.eq (dep_at hd 1 rfl rfl rfl)
                clear hd
                go_wp2
                exact ⟨_, rfl, Grow.refl _, rfl⟩
              refine StepsS.cons ?_ fun v4 => ⟨_, _, by simp only [Act.put, List.setIfInBounds_toArray, List.set_cons_succ, List.set_cons_zero]; first | done | rfl, by simp only [List.nil_append, List.cons_append]; first | done | rfl, ?_⟩
              · intro w1 hE hd
                obtain rfl := IsV.eq (dep_at hd 0 rfl rfl rfl)
                clear hd
                have qq := hE.drew.at hxa'
                go_wp2
                exact ⟨_, rfl, Grow.refl _, rfl⟩
              refine StepsS.cons ?_ fun v5 => ⟨_, _, by simp only [Act.put, List.setIfInBounds_toArray, List.set_cons_succ, List.set_cons_zero]; first | done | rfl, by simp only [List.nil_append, List.cons_append]; first | done | rfl, ?_⟩
              · intro w1 hE hd
                clear hd
                go_wp2
                exact ⟨_, rfl, Grow.refl _, rfl⟩
              refine StepsS.cons ?_ fun v6 => ⟨_, _, by simp only [Act.put, List.setIfInBounds_toArray, List.set_cons_succ, List.set_cons_zero]; first | done | rfl, by simp only [List.nil_append, List.cons_append]; first | done | rfl, ?_⟩
              · intro w1 hE hd
                obtain rfl := IsV.eq (dep_at hd 0 rfl rfl rfl)
                clear hd
                have qq := hE.drew.at p0
                go_wp2
                exact ⟨_, rfl, Grow.refl _, rfl⟩
              refine StepsS.cons ?_ fun v7 => ⟨_, _, by simp only [Act.put, List.setIfInBounds_toArray, List.set_cons_succ, List.set_cons_zero]; first | done | rfl, by simp only [List.nil_append, List.cons_append]; first | done | rfl, ?_⟩
              · intro w1 hE hd
                clear hd
                go_wp2
                exact ⟨_, rfl, Grow.refl _, rfl⟩
              refine StepsS.cons ?_ fun v8 => ⟨_, _, by simp only [Act.put, List.setIfInBounds_toArray, List.set_cons_succ, List.set_cons_zero]; first | done | rfl, by simp only [List.nil_append, List.cons_append]; first | done | rfl, ?_⟩
              · intro w1 hE hd
                obtain rfl := IsV.eq (dep_at hd 0 rfl rfl rfl)
                obtain rfl := IsV.eq (dep_at hd 1 rfl rfl rfl)
                clear hd
                go_wp2
                exact ⟨_, rfl, Grow.refl _, rfl⟩
              refine StepsS.cons ?_ fun v9 => ⟨_, _, by simp only [Act.put, List.setIfInBounds_toArray, List.set_cons_succ, List.set_cons_zero]; first | done | rfl, by simp only [List.nil_append, List.cons_append]; first | done | rfl, ?_⟩
              · intro w1 hE hd
                obtain rfl := IsV.eq (dep_at hd 0 rfl rfl rfl)
                clear hd
                have qq := hE.drew.at hxb'
                go_wp2
                exact ⟨_, rfl, Grow.refl _, rfl⟩
              refine StepsS.cons ?_ fun v10 => ⟨_, _, by simp only [Act.put, List.setIfInBounds_toArray, List.set_cons_succ, List.set_cons_zero]; first | done | rfl, by simp only [List.nil_append, List.cons_append]; first | done | rfl, ?_⟩
              · intro w1 hE hd
                obtain rfl := IsV.eq (dep_at hd 0 rfl rfl rfl)
                obtain rfl := IsV.eq (dep_at hd 1 rfl rfl rfl)
                clear hd
                go_wp2_with fail
                refine (hcall _ hE.drew).mono ?_
                rintro e w4 ⟨rfl, hg4⟩
                go_wp2_with fail
                exact ⟨_, rfl, hg4, rfl⟩
              refine StepsS.cons ?_ fun v11 => ⟨_, _, by simp only [Act.put, List.setIfInBounds_toArray, List.set_cons_succ, List.set_cons_zero]; first | done | rfl, by simp only [List.nil_append, List.cons_append]; first | done | rfl, ?_⟩
              · intro w1 hE hd
                obtain rfl := IsV.eq (dep_at hd 0 rfl rfl rfl)
                clear hd
                go_wp2
                exact ⟨_, rfl, Grow.refl _, rfl⟩
              trivial
            intro wR hwR
            refine FinS.cons ?_; rintro _ rfl; refine ⟨_, by simp only [Act.put, List.setIfInBounds_toArray, List.set_cons_succ, List.set_cons_zero]; first | done | rfl, ?_⟩
            refine FinS.cons ?_; rintro _ rfl; refine ⟨_, by simp only [Act.put, List.setIfInBounds_toArray, List.set_cons_succ, List.set_cons_zero]; first | done | rfl, ?_⟩
            refine FinS.cons ?_; rintro _ rfl; refine ⟨_, by simp only [Act.put, List.setIfInBounds_toArray, List.set_cons_succ, List.set_cons_zero]; first | done | rfl, ?_⟩
            refine FinS.cons ?_; rintro _ rfl; refine ⟨_, by simp only [Act.put, List.setIfInBounds_toArray, List.set_cons_succ, List.set_cons_zero]; first | done | rfl, ?_⟩
            refine FinS.cons ?_; rintro _ rfl; refine ⟨_, by simp only [Act.put, List.setIfInBounds_toArray, List.set_cons_succ, List.set_cons_zero]; first | done | rfl, ?_⟩
            refine FinS.cons ?_; rintro _ rfl; refine ⟨_, by simp only [Act.put, List.setIfInBounds_toArray, List.set_cons_succ, List.set_cons_zero]; first | done | rfl, ?_⟩
            refine FinS.cons ?_; rintro _ rfl; refine ⟨_, by simp only [Act.put, List.setIfInBounds_toArray, List.set_cons_succ, List.set_cons_zero]; first | done | rfl, ?_⟩
            refine FinS.cons ?_; rintro _ rfl; refine ⟨_, by simp only [Act.put, List.setIfInBounds_toArray, List.set_cons_succ, List.set_cons_zero]; first | done | rfl, ?_⟩
            refine FinS.cons ?_; rintro _ rfl; refine ⟨_, by simp only [Act.put, List.setIfInBounds_toArray, List.set_cons_succ, List.set_cons_zero]; first | done | rfl, ?_⟩
            refine FinS.cons ?_; rintro _ rfl; refine ⟨_, by simp only [Act.put, List.setIfInBounds_toArray, List.set_cons_succ, List.set_cons_zero]; first | done | rfl, ?_⟩
            refine FinS.cons ?_; rintro _ rfl; refine ⟨_, by simp only [Act.put, List.setIfInBounds_toArray, List.set_cons_succ, List.set_cons_zero]; first | done | rfl, ?_⟩
            refine FinS.cons ?_; rintro _ rfl; refine ⟨_, by simp only [Act.put, List.setIfInBounds_toArray, List.set_cons_succ, List.set_cons_zero]; first | done | rfl, ?_⟩
            first | show Exit.then _ _ _ _ _ | show Exit.inBlock _ _ _ _ _
            go_wp2
            go_ret
            exact ⟨ret_bool HE.out.symm, hgwr.trans hwR.drew⟩
        · have HD : Hid ((a.ds == b.ds) = true) := beq_yes [] HL1.out (fun j hj => HK.out j (by omega))
          go_wp2
          go_loopw [45] (fun i wr => ∃ q : Nat, q ≤ a.is.length ∧ i = .int .i64 q ∧ Hid (∀ j, j < q → a.is.getD j (0, []) = b.is.getD j (0, [])) ∧ Grow W wr) (fun i _ => a.is.length - (intOf i).toNat)
          case atStart => exact ⟨0, by omega, rfl, (fun j hj => by omega), hgr⟩
          case round =>
            obtain ⟨q, hq, rfl, HQ, hgr2⟩ := hrel
            have e1 := hgr2.at k1
            have f1 := hgr2.at j1
            have hgwr := hgW.trans hgr2
            by_cases hlq : q < a.is.length
            · obtain ⟨bi, oi, xa, cxa, rfl, hs1, hc1, hba⟩ := hia.at hlq
              obtain ⟨bj, oj, xb, cxb, rfl, hs2, hc2, hbb⟩ := hib.at (k := q) (by have := HL2.out; omega)
              have hs1 := hgwr.at hs1
              have hs2 := hgwr.at hs2
              have hc1 := hgwr.at hc1
              have hc2 := hgwr.at hc2
              by_cases hst : (a.is.getD q (0, [])).1 = (b.is.getD q (0, [])).1
              · by_cases he : (a.is.getD q (0, [])).2 = (b.is.getD q (0, [])).2
                · have HQ' : Hid (∀ j, j < q + 1 → a.is.getD j (0, []) = b.is.getD j (0, [])) := fun j hj => by
                    by_cases hjq : j = q
                    · subst hjq; exact Prod.ext hst he
                    · exact HQ.out j (by omega)
                  have hcall : ∀ w1, Grow wr w1 → Calls Try.prog 20 #[.slice xa (a.is.getD q (0, [])).2.length cxa, .slice xb (b.is.getD q (0, [])).2.length cxb] w1 fun e w' => e = .returned (.bool true) ∧ Grow w1 w' := fun w1 hg => by
                    have := refSame_any _ _ _ _ w1 (Sl.stays Bs.stays _ _ _ _ hba (hgwr.trans hg)) (Sl.stays Bs.stays _ _ _ _ hbb (hgwr.trans hg))
                    rwa [show ((a.is.getD q (0, [])).2 == (b.is.getD q (0, [])).2) = true from by rw [he]; simp] at this
                  clear hba hbb he
                  rw [← hst] at hs2
                  clear hst
                  generalize (a.is.getD q (0, [])).2.length = la at *
                  generalize (b.is.getD q (0, [])).2.length = lb at *
                  generalize (a.is.getD q (0, [])).1 = S1 at *
                  generalize a.ds.length = n at *
                  generalize a.is.length = m at *
                  go_wp2_with fail
                  refine wp_region_stable Grow [IsV (.pointer (some ⟨w.heap.size, 1, none⟩)), IsV (.slice (some ⟨bi, oi, none⟩) m cia), IsV (.int .i64 q), IsV (.pointer (some ⟨bi, oi + q * 2, none⟩)), IsV (.pointer (some ⟨bi, oi + q * 2, none⟩)), IsV (.int .i64 S1), IsV (.pointer (some ⟨w.heap.size + 1, 1, none⟩)), IsV (.slice (some ⟨bj, oj, none⟩) m cib), IsV (.int .i64 q), IsV (.pointer (some ⟨bj, oj + q * 2, none⟩)), IsV (.pointer (some ⟨bj, oj + q * 2, none⟩)), IsV (.int .i64 S1), IsV (.bool false), IsV (.bool false), IsV (.pointer (some ⟨w.heap.size, 1, none⟩)), IsV (.slice (some ⟨bi, oi, none⟩) m cia), IsV (.int .i64 q), IsV (.pointer (some ⟨bi, oi + q * 2, none⟩)), IsV (.pointer (some ⟨bi, oi + q * 2 + 1, none⟩)), IsV (.slice xa la cxa), IsV (.pointer (some ⟨w.heap.size + 1, 1, none⟩)), IsV (.slice (some ⟨bj, oj, none⟩) m cib), IsV (.int .i64 q), IsV (.pointer (some ⟨bj, oj + q * 2, none⟩)), IsV (.pointer (some ⟨bj, oj + q * 2 + 1, none⟩)), IsV (.slice xb lb cxb), IsV (.bool true), IsV (.bool false), IsV (.bool false)] (by kernel_rfl) (by kernel_rfl) rfl Grow.refl (fun _ _ _ => Grow.trans) ?_ ?_ ?_
                  · repeat (refine List.forall_mem_cons.2 ⟨by first | exact IsV.stable _, ?_⟩)
                    exact fun R hR => nomatch hR
                  · skip
                    refine StepsS.cons ?_ fun v0 => ⟨_, _, by simp only [Act.put, List.setIfInBounds_toArray, List.set_cons_succ, List.set_cons_zero]; first | done | rfl, by simp only [List.nil_append]; first | done | rfl, ?_⟩
                    · intro w1 hE hd
                      clear hd
                      go_wp2
                      exact ⟨_, rfl, Grow.refl _, rfl⟩
                    refine StepsS.cons ?_ fun v1 => ⟨_, _, by simp only [Act.put, List.setIfInBounds_toArray, List.set_cons_succ, List.set_cons_zero]; first | done | rfl, by simp only [List.nil_append, List.cons_append]; first | done | rfl, ?_⟩
                    · intro w1 hE hd
                      obtain rfl := IsV.eq (dep_at hd 0 rfl rfl rfl)
                      clear hd
                      have qq := hE.drew.at e1
                      go_wp2
                      exact ⟨_, rfl, Grow.refl _, rfl⟩
                    refine StepsS.cons ?_ fun v2 => ⟨_, _, by simp only [Act.put, List.setIfInBounds_toArray, List.set_cons_succ, List.set_cons_zero]; first | done | rfl, by simp only [List.nil_append, List.cons_append]; first | done | rfl, ?_⟩
                    · intro w1 hE hd
                      clear hd
                      go_wp2
                      exact ⟨_, rfl, Grow.refl _, rfl⟩
                    refine StepsS.cons ?_ fun v3 => ⟨_, _, by simp only [Act.put, List.setIfInBounds_toArray, List.set_cons_succ, List.set_cons_zero]; first | done | rfl, by simp only [List.nil_append, List.cons_append]; first | done | rfl, ?_⟩
                    · intro w1 hE hd
                      obtain rfl := IsV.eq (dep_at hd 0 rfl rfl rfl)
                      obtain rfl := IsV.eq (dep_at hd 1 rfl rfl rfl)
                      clear hd
                      go_wp2
                      exact ⟨_, rfl, Grow.refl _, rfl⟩
                    refine StepsS.cons ?_ fun v4 => ⟨_, _, by simp only [Act.put, List.setIfInBounds_toArray, List.set_cons_succ, List.set_cons_zero]; first | done | rfl, by simp only [List.nil_append, List.cons_append]; first | done | rfl, ?_⟩
                    · intro w1 hE hd
                      obtain rfl := IsV.eq (dep_at hd 0 rfl rfl rfl)
                      clear hd
                      go_wp2
                      exact ⟨_, rfl, Grow.refl _, rfl⟩
                    refine StepsS.cons ?_ fun v5 => ⟨_, _, by simp only [Act.put, List.setIfInBounds_toArray, List.set_cons_succ, List.set_cons_zero]; first | done | rfl, by simp only [List.nil_append, List.cons_append]; first | done | rfl, ?_⟩
                    · intro w1 hE hd
                      obtain rfl := IsV.eq (dep_at hd 0 rfl rfl rfl)
                      clear hd
                      have qq := hE.drew.at hs1
                      go_wp2
                      exact ⟨_, rfl, Grow.refl _, rfl⟩
                    refine StepsS.cons ?_ fun v6 => ⟨_, _, by simp only [Act.put, List.setIfInBounds_toArray, List.set_cons_succ, List.set_cons_zero]; first | done | rfl, by simp only [List.nil_append, List.cons_append]; first | done | rfl, ?_⟩
                    · intro w1 hE hd
                      clear hd
                      go_wp2
                      exact ⟨_, rfl, Grow.refl _, rfl⟩
                    refine StepsS.cons ?_ fun v7 => ⟨_, _, by simp only [Act.put, List.setIfInBounds_toArray, List.set_cons_succ, List.set_cons_zero]; first | done | rfl, by simp only [List.nil_append, List.cons_append]; first | done | rfl, ?_⟩
                    · intro w1 hE hd
                      obtain rfl := IsV.eq (dep_at hd 0 rfl rfl rfl)
                      clear hd
                      have qq := hE.drew.at f1
                      go_wp2
                      exact ⟨_, rfl, Grow.refl _, rfl⟩
                    refine StepsS.cons ?_ fun v8 => ⟨_, _, by simp only [Act.put, List.setIfInBounds_toArray, List.set_cons_succ, List.set_cons_zero]; first | done | rfl, by simp only [List.nil_append, List.cons_append]; first | done | rfl, ?_⟩
                    · intro w1 hE hd
                      clear hd
                      go_wp2
                      exact ⟨_, rfl, Grow.refl _, rfl⟩
                    refine StepsS.cons ?_ fun v9 => ⟨_, _, by simp only [Act.put, List.setIfInBounds_toArray, List.set_cons_succ, List.set_cons_zero]; first | done | rfl, by simp only [List.nil_append, List.cons_append]; first | done | rfl, ?_⟩
                    · intro w1 hE hd
                      obtain rfl := IsV.eq (dep_at hd 0 rfl rfl rfl)
                      obtain rfl := IsV.eq (dep_at hd 1 rfl rfl rfl)
                      clear hd
                      go_wp2
                      exact ⟨_, rfl, Grow.refl _, rfl⟩
                    refine StepsS.cons ?_ fun v10 => ⟨_, _, by simp only [Act.put, List.setIfInBounds_toArray, List.set_cons_succ, List.set_cons_zero]; first | done | rfl, by simp only [List.nil_append, List.cons_append]; first | done | rfl, ?_⟩
                    · intro w1 hE hd
                      obtain rfl := IsV.eq (dep_at hd 0 rfl rfl rfl)
                      clear hd
                      go_wp2
                      exact ⟨_, rfl, Grow.refl _, rfl⟩
                    refine StepsS.cons ?_ fun v11 => ⟨_, _, by simp only [Act.put, List.setIfInBounds_toArray, List.set_cons_succ, List.set_cons_zero]; first | done | rfl, by simp only [List.nil_append, List.cons_append]; first | done | rfl, ?_⟩
                    · intro w1 hE hd
                      obtain rfl := IsV.eq (dep_at hd 0 rfl rfl rfl)
                      clear hd
                      have qq := hE.drew.at hs2
                      go_wp2
                      exact ⟨_, rfl, Grow.refl _, rfl⟩
                    refine StepsS.cons ?_ fun v12 => ⟨_, _, by simp only [Act.put, List.setIfInBounds_toArray, List.set_cons_succ, List.set_cons_zero]; first | done | rfl, by simp only [List.nil_append, List.cons_append]; first | done | rfl, ?_⟩
                    · intro w1 hE hd
                      obtain rfl := IsV.eq (dep_at hd 0 rfl rfl rfl)
                      obtain rfl := IsV.eq (dep_at hd 1 rfl rfl rfl)
                      clear hd
                      go_wp2
                      exact ⟨_, rfl, Grow.refl _, rfl⟩
                    refine StepsS.cons ?_ fun v13 => ⟨_, _, by simp only [Act.put, List.setIfInBounds_toArray, List.set_cons_succ, List.set_cons_zero]; first | done | rfl, by simp only [List.nil_append, List.cons_append]; first | done | rfl, ?_⟩
                    · intro w1 hE hd
                      obtain rfl := IsV.eq (dep_at hd 0 rfl rfl rfl)
                      clear hd
                      go_wp2
                      exact ⟨_, rfl, Grow.refl _, rfl⟩
                    refine StepsS.cons ?_ fun v14 => ⟨_, _, by simp only [Act.put, List.setIfInBounds_toArray, List.set_cons_succ, List.set_cons_zero]; first | done | rfl, by simp only [List.nil_append, List.cons_append]; first | done | rfl, ?_⟩
                    · intro w1 hE hd
                      obtain rfl := IsV.eq (dep_at hd 0 rfl rfl rfl)
                      clear hd
                      go_wp2
                      exact ⟨_, rfl, Grow.refl _, rfl⟩
                    refine StepsS.cons ?_ fun v15 => ⟨_, _, by simp only [Act.put, List.setIfInBounds_toArray, List.set_cons_succ, List.set_cons_zero]; first | done | rfl, by simp only [List.nil_append, List.cons_append]; first | done | rfl, ?_⟩
                    · intro w1 hE hd
                      obtain rfl := IsV.eq (dep_at hd 0 rfl rfl rfl)
                      obtain rfl := IsV.eq (dep_at hd 1 rfl rfl rfl)
                      clear hd
                      have qq := hE.drew.at e1
                      go_wp2
                      exact ⟨_, rfl, Grow.refl _, rfl⟩
                    refine StepsS.cons ?_ fun v16 => ⟨_, _, by simp only [Act.put, List.setIfInBounds_toArray, List.set_cons_succ, List.set_cons_zero]; first | done | rfl, by simp only [List.nil_append, List.cons_append]; first | done | rfl, ?_⟩
                    · intro w1 hE hd
                      obtain rfl := IsV.eq (dep_at hd 0 rfl rfl rfl)
                      clear hd
                      go_wp2
                      exact ⟨_, rfl, Grow.refl _, rfl⟩
                    refine StepsS.cons ?_ fun v17 => ⟨_, _, by simp only [Act.put, List.setIfInBounds_toArray, List.set_cons_succ, List.set_cons_zero]; first | done | rfl, by simp only [List.nil_append, List.cons_append]; first | done | rfl, ?_⟩
                    · intro w1 hE hd
                      obtain rfl := IsV.eq (dep_at hd 0 rfl rfl rfl)
                      obtain rfl := IsV.eq (dep_at hd 1 rfl rfl rfl)
                      obtain rfl := IsV.eq (dep_at hd 2 rfl rfl rfl)
                      clear hd
                      go_wp2
                      exact ⟨_, rfl, Grow.refl _, rfl⟩
                    refine StepsS.cons ?_ fun v18 => ⟨_, _, by simp only [Act.put, List.setIfInBounds_toArray, List.set_cons_succ, List.set_cons_zero]; first | done | rfl, by simp only [List.nil_append, List.cons_append]; first | done | rfl, ?_⟩
                    · intro w1 hE hd
                      obtain rfl := IsV.eq (dep_at hd 0 rfl rfl rfl)
                      obtain rfl := IsV.eq (dep_at hd 1 rfl rfl rfl)
                      clear hd
                      go_wp2
                      exact ⟨_, rfl, Grow.refl _, rfl⟩
                    refine StepsS.cons ?_ fun v19 => ⟨_, _, by simp only [Act.put, List.setIfInBounds_toArray, List.set_cons_succ, List.set_cons_zero]; first | done | rfl, by simp only [List.nil_append, List.cons_append]; first | done | rfl, ?_⟩
                    · intro w1 hE hd
                      obtain rfl := IsV.eq (dep_at hd 0 rfl rfl rfl)
                      obtain rfl := IsV.eq (dep_at hd 1 rfl rfl rfl)
                      clear hd
                      have qq := hE.drew.at hc1
                      go_wp2
                      exact ⟨_, rfl, Grow.refl _, rfl⟩
                    refine StepsS.cons ?_ fun v20 => ⟨_, _, by simp only [Act.put, List.setIfInBounds_toArray, List.set_cons_succ, List.set_cons_zero]; first | done | rfl, by simp only [List.nil_append, List.cons_append]; first | done | rfl, ?_⟩
                    · intro w1 hE hd
                      obtain rfl := IsV.eq (dep_at hd 0 rfl rfl rfl)
                      clear hd
                      go_wp2
                      exact ⟨_, rfl, Grow.refl _, rfl⟩
                    refine StepsS.cons ?_ fun v21 => ⟨_, _, by simp only [Act.put, List.setIfInBounds_toArray, List.set_cons_succ, List.set_cons_zero]; first | done | rfl, by simp only [List.nil_append, List.cons_append]; first | done | rfl, ?_⟩
                    · intro w1 hE hd
                      obtain rfl := IsV.eq (dep_at hd 0 rfl rfl rfl)
                      obtain rfl := IsV.eq (dep_at hd 1 rfl rfl rfl)
                      clear hd
                      have qq := hE.drew.at f1
                      go_wp2
                      exact ⟨_, rfl, Grow.refl _, rfl⟩
                    refine StepsS.cons ?_ fun v22 => ⟨_, _, by simp only [Act.put, List.setIfInBounds_toArray, List.set_cons_succ, List.set_cons_zero]; first | done | rfl, by simp only [List.nil_append, List.cons_append]; first | done | rfl, ?_⟩
                    · intro w1 hE hd
                      obtain rfl := IsV.eq (dep_at hd 0 rfl rfl rfl)
                      clear hd
                      go_wp2
                      exact ⟨_, rfl, Grow.refl _, rfl⟩
                    refine StepsS.cons ?_ fun v23 => ⟨_, _, by simp only [Act.put, List.setIfInBounds_toArray, List.set_cons_succ, List.set_cons_zero]; first | done | rfl, by simp only [List.nil_append, List.cons_append]; first | done | rfl, ?_⟩
                    · intro w1 hE hd
                      obtain rfl := IsV.eq (dep_at hd 0 rfl rfl rfl)
                      obtain rfl := IsV.eq (dep_at hd 1 rfl rfl rfl)
                      obtain rfl := IsV.eq (dep_at hd 2 rfl rfl rfl)
                      clear hd
                      go_wp2
                      exact ⟨_, rfl, Grow.refl _, rfl⟩
                    refine StepsS.cons ?_ fun v24 => ⟨_, _, by simp only [Act.put, List.setIfInBounds_toArray, List.set_cons_succ, List.set_cons_zero]; first | done | rfl, by simp only [List.nil_append, List.cons_append]; first | done | rfl, ?_⟩
                    · intro w1 hE hd
                      obtain rfl := IsV.eq (dep_at hd 0 rfl rfl rfl)
                      obtain rfl := IsV.eq (dep_at hd 1 rfl rfl rfl)
                      clear hd
                      go_wp2
                      exact ⟨_, rfl, Grow.refl _, rfl⟩
                    refine StepsS.cons ?_ fun v25 => ⟨_, _, by simp only [Act.put, List.setIfInBounds_toArray, List.set_cons_succ, List.set_cons_zero]; first | done | rfl, by simp only [List.nil_append, List.cons_append]; first | done | rfl, ?_⟩
                    · intro w1 hE hd
                      obtain rfl := IsV.eq (dep_at hd 0 rfl rfl rfl)
                      obtain rfl := IsV.eq (dep_at hd 1 rfl rfl rfl)
                      clear hd
                      have qq := hE.drew.at hc2
                      go_wp2
                      exact ⟨_, rfl, Grow.refl _, rfl⟩
                    refine StepsS.cons ?_ fun v26 => ⟨_, _, by simp only [Act.put, List.setIfInBounds_toArray, List.set_cons_succ, List.set_cons_zero]; first | done | rfl, by simp only [List.nil_append, List.cons_append]; first | done | rfl, ?_⟩
                    · intro w1 hE hd
                      obtain rfl := IsV.eq (dep_at hd 0 rfl rfl rfl)
                      obtain rfl := IsV.eq (dep_at hd 1 rfl rfl rfl)
                      obtain rfl := IsV.eq (dep_at hd 2 rfl rfl rfl)
                      clear hd
                      go_wp2_with fail
                      refine (hcall _ hE.drew).mono ?_
                      rintro e w4 ⟨rfl, hg4⟩
                      go_wp2_with fail
                      exact ⟨_, rfl, hg4, rfl⟩
                    refine StepsS.cons ?_ fun v27 => ⟨_, _, by simp only [Act.put, List.setIfInBounds_toArray, List.set_cons_succ, List.set_cons_zero]; first | done | rfl, by simp only [List.nil_append, List.cons_append]; first | done | rfl, ?_⟩
                    · intro w1 hE hd
                      obtain rfl := IsV.eq (dep_at hd 0 rfl rfl rfl)
                      obtain rfl := IsV.eq (dep_at hd 1 rfl rfl rfl)
                      clear hd
                      go_wp2
                      exact ⟨_, rfl, Grow.refl _, rfl⟩
                    refine StepsS.cons ?_ fun v28 => ⟨_, _, by simp only [Act.put, List.setIfInBounds_toArray, List.set_cons_succ, List.set_cons_zero]; first | done | rfl, by simp only [List.nil_append, List.cons_append]; first | done | rfl, ?_⟩
                    · intro w1 hE hd
                      obtain rfl := IsV.eq (dep_at hd 0 rfl rfl rfl)
                      obtain rfl := IsV.eq (dep_at hd 1 rfl rfl rfl)
                      clear hd
                      go_wp2
                      exact ⟨_, rfl, Grow.refl _, rfl⟩
                    trivial
                  intro wR hwR
                  refine FinS.cons ?_; rintro _ rfl; refine ⟨_, by simp only [Act.put, List.setIfInBounds_toArray, List.set_cons_succ, List.set_cons_zero]; first | done | rfl, ?_⟩
                  refine FinS.cons ?_; rintro _ rfl; refine ⟨_, by simp only [Act.put, List.setIfInBounds_toArray, List.set_cons_succ, List.set_cons_zero]; first | done | rfl, ?_⟩
                  refine FinS.cons ?_; rintro _ rfl; refine ⟨_, by simp only [Act.put, List.setIfInBounds_toArray, List.set_cons_succ, List.set_cons_zero]; first | done | rfl, ?_⟩
                  refine FinS.cons ?_; rintro _ rfl; refine ⟨_, by simp only [Act.put, List.setIfInBounds_toArray, List.set_cons_succ, List.set_cons_zero]; first | done | rfl, ?_⟩
                  refine FinS.cons ?_; rintro _ rfl; refine ⟨_, by simp only [Act.put, List.setIfInBounds_toArray, List.set_cons_succ, List.set_cons_zero]; first | done | rfl, ?_⟩
                  refine FinS.cons ?_; rintro _ rfl; refine ⟨_, by simp only [Act.put, List.setIfInBounds_toArray, List.set_cons_succ, List.set_cons_zero]; first | done | rfl, ?_⟩
                  refine FinS.cons ?_; rintro _ rfl; refine ⟨_, by simp only [Act.put, List.setIfInBounds_toArray, List.set_cons_succ, List.set_cons_zero]; first | done | rfl, ?_⟩
                  refine FinS.cons ?_; rintro _ rfl; refine ⟨_, by simp only [Act.put, List.setIfInBounds_toArray, List.set_cons_succ, List.set_cons_zero]; first | done | rfl, ?_⟩
                  refine FinS.cons ?_; rintro _ rfl; refine ⟨_, by simp only [Act.put, List.setIfInBounds_toArray, List.set_cons_succ, List.set_cons_zero]; first | done | rfl, ?_⟩
                  refine FinS.cons ?_; rintro _ rfl; refine ⟨_, by simp only [Act.put, List.setIfInBounds_toArray, List.set_cons_succ, List.set_cons_zero]; first | done | rfl, ?_⟩
                  refine FinS.cons ?_; rintro _ rfl; refine ⟨_, by simp only [Act.put, List.setIfInBounds_toArray, List.set_cons_succ, List.set_cons_zero]; first | done | rfl, ?_⟩
                  refine FinS.cons ?_; rintro _ rfl; refine ⟨_, by simp only [Act.put, List.setIfInBounds_toArray, List.set_cons_succ, List.set_cons_zero]; first | done | rfl, ?_⟩
                  refine FinS.cons ?_; rintro _ rfl; refine ⟨_, by simp only [Act.put, List.setIfInBounds_toArray, List.set_cons_succ, List.set_cons_zero]; first | done | rfl, ?_⟩
                  refine FinS.cons ?_; rintro _ rfl; refine ⟨_, by simp only [Act.put, List.setIfInBounds_toArray, List.set_cons_succ, List.set_cons_zero]; first | done | rfl, ?_⟩
                  refine FinS.cons ?_; rintro _ rfl; refine ⟨_, by simp only [Act.put, List.setIfInBounds_toArray, List.set_cons_succ, List.set_cons_zero]; first | done | rfl, ?_⟩
                  refine FinS.cons ?_; rintro _ rfl; refine ⟨_, by simp only [Act.put, List.setIfInBounds_toArray, List.set_cons_succ, List.set_cons_zero]; first | done | rfl, ?_⟩
                  refine FinS.cons ?_; rintro _ rfl; refine ⟨_, by simp only [Act.put, List.setIfInBounds_toArray, List.set_cons_succ, List.set_cons_zero]; first | done | rfl, ?_⟩
                  refine FinS.cons ?_; rintro _ rfl; refine ⟨_, by simp only [Act.put, List.setIfInBounds_toArray, List.set_cons_succ, List.set_cons_zero]; first | done | rfl, ?_⟩
                  refine FinS.cons ?_; rintro _ rfl; refine ⟨_, by simp only [Act.put, List.setIfInBounds_toArray, List.set_cons_succ, List.set_cons_zero]; first | done | rfl, ?_⟩
                  refine FinS.cons ?_; rintro _ rfl; refine ⟨_, by simp only [Act.put, List.setIfInBounds_toArray, List.set_cons_succ, List.set_cons_zero]; first | done | rfl, ?_⟩
                  refine FinS.cons ?_; rintro _ rfl; refine ⟨_, by simp only [Act.put, List.setIfInBounds_toArray, List.set_cons_succ, List.set_cons_zero]; first | done | rfl, ?_⟩
                  refine FinS.cons ?_; rintro _ rfl; refine ⟨_, by simp only [Act.put, List.setIfInBounds_toArray, List.set_cons_succ, List.set_cons_zero]; first | done | rfl, ?_⟩
                  refine FinS.cons ?_; rintro _ rfl; refine ⟨_, by simp only [Act.put, List.setIfInBounds_toArray, List.set_cons_succ, List.set_cons_zero]; first | done | rfl, ?_⟩
                  refine FinS.cons ?_; rintro _ rfl; refine ⟨_, by simp only [Act.put, List.setIfInBounds_toArray, List.set_cons_succ, List.set_cons_zero]; first | done | rfl, ?_⟩
                  refine FinS.cons ?_; rintro _ rfl; refine ⟨_, by simp only [Act.put, List.setIfInBounds_toArray, List.set_cons_succ, List.set_cons_zero]; first | done | rfl, ?_⟩
                  refine FinS.cons ?_; rintro _ rfl; refine ⟨_, by simp only [Act.put, List.setIfInBounds_toArray, List.set_cons_succ, List.set_cons_zero]; first | done | rfl, ?_⟩
                  refine FinS.cons ?_; rintro _ rfl; refine ⟨_, by simp only [Act.put, List.setIfInBounds_toArray, List.set_cons_succ, List.set_cons_zero]; first | done | rfl, ?_⟩
                  refine FinS.cons ?_; rintro _ rfl; refine ⟨_, by simp only [Act.put, List.setIfInBounds_toArray, List.set_cons_succ, List.set_cons_zero]; first | done | rfl, ?_⟩
                  refine FinS.cons ?_; rintro _ rfl; refine ⟨_, by simp only [Act.put, List.setIfInBounds_toArray, List.set_cons_succ, List.set_cons_zero]; first | done | rfl, ?_⟩
                  first | show Exit.then _ _ _ _ _ | show Exit.inBlock _ _ _ _ _
                  go_wp2
                  go_roundw
                  case rel => first | exact ⟨q + 1, by omega, by go_num, HQ', hgr2.trans hwR.drew⟩ | ((repeat apply Exists.intro); exact ⟨⟨q + 1, by omega, by go_num, HQ', hgr2.trans hwR.drew⟩, rfl⟩)
                  case measure => simp [intOf]; omega
                · have HE : Hid (sameB a b = false) := by
                    rw [Hid, HS.out, beq_no (a := a.is) (b := b.is) (k := q) (0, []) (fun h => he (by rw [h])), Bool.and_false]
                  have hcall : ∀ w1, Grow wr w1 → Calls Try.prog 20 #[.slice xa (a.is.getD q (0, [])).2.length cxa, .slice xb (b.is.getD q (0, [])).2.length cxb] w1 fun e w' => e = .returned (.bool false) ∧ Grow w1 w' := fun w1 hg => by
                    have := refSame_any _ _ _ _ w1 (Sl.stays Bs.stays _ _ _ _ hba (hgwr.trans hg)) (Sl.stays Bs.stays _ _ _ _ hbb (hgwr.trans hg))
                    rwa [show ((a.is.getD q (0, [])).2 == (b.is.getD q (0, [])).2) = false from by rw [beq_eq_false_iff_ne]; exact he] at this
                  clear hba hbb he
                  rw [← hst] at hs2
                  clear hst
                  generalize (a.is.getD q (0, [])).2.length = la at *
                  generalize (b.is.getD q (0, [])).2.length = lb at *
                  generalize (a.is.getD q (0, [])).1 = S1 at *
                  generalize a.ds.length = n at *
                  generalize a.is.length = m at *
                  go_wp2_with fail
                  refine wp_region_stable Grow [IsV (.pointer (some ⟨w.heap.size, 1, none⟩)), IsV (.slice (some ⟨bi, oi, none⟩) m cia), IsV (.int .i64 q), IsV (.pointer (some ⟨bi, oi + q * 2, none⟩)), IsV (.pointer (some ⟨bi, oi + q * 2, none⟩)), IsV (.int .i64 S1), IsV (.pointer (some ⟨w.heap.size + 1, 1, none⟩)), IsV (.slice (some ⟨bj, oj, none⟩) m cib), IsV (.int .i64 q), IsV (.pointer (some ⟨bj, oj + q * 2, none⟩)), IsV (.pointer (some ⟨bj, oj + q * 2, none⟩)), IsV (.int .i64 S1), IsV (.bool false), IsV (.bool false), IsV (.pointer (some ⟨w.heap.size, 1, none⟩)), IsV (.slice (some ⟨bi, oi, none⟩) m cia), IsV (.int .i64 q), IsV (.pointer (some ⟨bi, oi + q * 2, none⟩)), IsV (.pointer (some ⟨bi, oi + q * 2 + 1, none⟩)), IsV (.slice xa la cxa), IsV (.pointer (some ⟨w.heap.size + 1, 1, none⟩)), IsV (.slice (some ⟨bj, oj, none⟩) m cib), IsV (.int .i64 q), IsV (.pointer (some ⟨bj, oj + q * 2, none⟩)), IsV (.pointer (some ⟨bj, oj + q * 2 + 1, none⟩)), IsV (.slice xb lb cxb), IsV (.bool false), IsV (.bool true), IsV (.bool true)] (by kernel_rfl) (by kernel_rfl) rfl Grow.refl (fun _ _ _ => Grow.trans) ?_ ?_ ?_
                  · repeat (refine List.forall_mem_cons.2 ⟨by first | exact IsV.stable _, ?_⟩)
                    exact fun R hR => nomatch hR
                  · skip
                    refine StepsS.cons ?_ fun v0 => ⟨_, _, by simp only [Act.put, List.setIfInBounds_toArray, List.set_cons_succ, List.set_cons_zero]; first | done | rfl, by simp only [List.nil_append]; first | done | rfl, ?_⟩
                    · intro w1 hE hd
                      clear hd
                      go_wp2
                      exact ⟨_, rfl, Grow.refl _, rfl⟩
                    refine StepsS.cons ?_ fun v1 => ⟨_, _, by simp only [Act.put, List.setIfInBounds_toArray, List.set_cons_succ, List.set_cons_zero]; first | done | rfl, by simp only [List.nil_append, List.cons_append]; first | done | rfl, ?_⟩
                    · intro w1 hE hd
                      obtain rfl := IsV.eq (dep_at hd 0 rfl rfl rfl)
                      clear hd
                      have qq := hE.drew.at e1
                      go_wp2
                      exact ⟨_, rfl, Grow.refl _, rfl⟩
                    refine StepsS.cons ?_ fun v2 => ⟨_, _, by simp only [Act.put, List.setIfInBounds_toArray, List.set_cons_succ, List.set_cons_zero]; first | done | rfl, by simp only [List.nil_append, List.cons_append]; first | done | rfl, ?_⟩
                    · intro w1 hE hd
                      clear hd
                      go_wp2
                      exact ⟨_, rfl, Grow.refl _, rfl⟩
                    refine StepsS.cons ?_ fun v3 => ⟨_, _, by simp only [Act.put, List.setIfInBounds_toArray, List.set_cons_succ, List.set_cons_zero]; first | done | rfl, by simp only [List.nil_append, List.cons_append]; first | done | rfl, ?_⟩
                    · intro w1 hE hd
                      obtain rfl := IsV.eq (dep_at hd 0 rfl rfl rfl)
                      obtain rfl := IsV.eq (dep_at hd 1 rfl rfl rfl)
                      clear hd
                      go_wp2
                      exact ⟨_, rfl, Grow.refl _, rfl⟩
                    refine StepsS.cons ?_ fun v4 => ⟨_, _, by simp only [Act.put, List.setIfInBounds_toArray, List.set_cons_succ, List.set_cons_zero]; first | done | rfl, by simp only [List.nil_append, List.cons_append]; first | done | rfl, ?_⟩
                    · intro w1 hE hd
                      obtain rfl := IsV.eq (dep_at hd 0 rfl rfl rfl)
                      clear hd
                      go_wp2
                      exact ⟨_, rfl, Grow.refl _, rfl⟩
                    refine StepsS.cons ?_ fun v5 => ⟨_, _, by simp only [Act.put, List.setIfInBounds_toArray, List.set_cons_succ, List.set_cons_zero]; first | done | rfl, by simp only [List.nil_append, List.cons_append]; first | done | rfl, ?_⟩
                    · intro w1 hE hd
                      obtain rfl := IsV.eq (dep_at hd 0 rfl rfl rfl)
                      clear hd
                      have qq := hE.drew.at hs1
                      go_wp2
                      exact ⟨_, rfl, Grow.refl _, rfl⟩
                    refine StepsS.cons ?_ fun v6 => ⟨_, _, by simp only [Act.put, List.setIfInBounds_toArray, List.set_cons_succ, List.set_cons_zero]; first | done | rfl, by simp only [List.nil_append, List.cons_append]; first | done | rfl, ?_⟩
                    · intro w1 hE hd
                      clear hd
                      go_wp2
                      exact ⟨_, rfl, Grow.refl _, rfl⟩
                    refine StepsS.cons ?_ fun v7 => ⟨_, _, by simp only [Act.put, List.setIfInBounds_toArray, List.set_cons_succ, List.set_cons_zero]; first | done | rfl, by simp only [List.nil_append, List.cons_append]; first | done | rfl, ?_⟩
                    · intro w1 hE hd
                      obtain rfl := IsV.eq (dep_at hd 0 rfl rfl rfl)
                      clear hd
                      have qq := hE.drew.at f1
                      go_wp2
                      exact ⟨_, rfl, Grow.refl _, rfl⟩
                    refine StepsS.cons ?_ fun v8 => ⟨_, _, by simp only [Act.put, List.setIfInBounds_toArray, List.set_cons_succ, List.set_cons_zero]; first | done | rfl, by simp only [List.nil_append, List.cons_append]; first | done | rfl, ?_⟩
                    · intro w1 hE hd
                      clear hd
                      go_wp2
                      exact ⟨_, rfl, Grow.refl _, rfl⟩
                    refine StepsS.cons ?_ fun v9 => ⟨_, _, by simp only [Act.put, List.setIfInBounds_toArray, List.set_cons_succ, List.set_cons_zero]; first | done | rfl, by simp only [List.nil_append, List.cons_append]; first | done | rfl, ?_⟩
                    · intro w1 hE hd
                      obtain rfl := IsV.eq (dep_at hd 0 rfl rfl rfl)
                      obtain rfl := IsV.eq (dep_at hd 1 rfl rfl rfl)
                      clear hd
                      go_wp2
                      exact ⟨_, rfl, Grow.refl _, rfl⟩
                    refine StepsS.cons ?_ fun v10 => ⟨_, _, by simp only [Act.put, List.setIfInBounds_toArray, List.set_cons_succ, List.set_cons_zero]; first | done | rfl, by simp only [List.nil_append, List.cons_append]; first | done | rfl, ?_⟩
                    · intro w1 hE hd
                      obtain rfl := IsV.eq (dep_at hd 0 rfl rfl rfl)
                      clear hd
                      go_wp2
                      exact ⟨_, rfl, Grow.refl _, rfl⟩
                    refine StepsS.cons ?_ fun v11 => ⟨_, _, by simp only [Act.put, List.setIfInBounds_toArray, List.set_cons_succ, List.set_cons_zero]; first | done | rfl, by simp only [List.nil_append, List.cons_append]; first | done | rfl, ?_⟩
                    · intro w1 hE hd
                      obtain rfl := IsV.eq (dep_at hd 0 rfl rfl rfl)
                      clear hd
                      have qq := hE.drew.at hs2
                      go_wp2
                      exact ⟨_, rfl, Grow.refl _, rfl⟩
                    refine StepsS.cons ?_ fun v12 => ⟨_, _, by simp only [Act.put, List.setIfInBounds_toArray, List.set_cons_succ, List.set_cons_zero]; first | done | rfl, by simp only [List.nil_append, List.cons_append]; first | done | rfl, ?_⟩
                    · intro w1 hE hd
                      obtain rfl := IsV.eq (dep_at hd 0 rfl rfl rfl)
                      obtain rfl := IsV.eq (dep_at hd 1 rfl rfl rfl)
                      clear hd
                      go_wp2
                      exact ⟨_, rfl, Grow.refl _, rfl⟩
                    refine StepsS.cons ?_ fun v13 => ⟨_, _, by simp only [Act.put, List.setIfInBounds_toArray, List.set_cons_succ, List.set_cons_zero]; first | done | rfl, by simp only [List.nil_append, List.cons_append]; first | done | rfl, ?_⟩
                    · intro w1 hE hd
                      obtain rfl := IsV.eq (dep_at hd 0 rfl rfl rfl)
                      clear hd
                      go_wp2
                      exact ⟨_, rfl, Grow.refl _, rfl⟩
                    refine StepsS.cons ?_ fun v14 => ⟨_, _, by simp only [Act.put, List.setIfInBounds_toArray, List.set_cons_succ, List.set_cons_zero]; first | done | rfl, by simp only [List.nil_append, List.cons_append]; first | done | rfl, ?_⟩
                    · intro w1 hE hd
                      obtain rfl := IsV.eq (dep_at hd 0 rfl rfl rfl)
                      clear hd
                      go_wp2
                      exact ⟨_, rfl, Grow.refl _, rfl⟩
                    refine StepsS.cons ?_ fun v15 => ⟨_, _, by simp only [Act.put, List.setIfInBounds_toArray, List.set_cons_succ, List.set_cons_zero]; first | done | rfl, by simp only [List.nil_append, List.cons_append]; first | done | rfl, ?_⟩
                    · intro w1 hE hd
                      obtain rfl := IsV.eq (dep_at hd 0 rfl rfl rfl)
                      obtain rfl := IsV.eq (dep_at hd 1 rfl rfl rfl)
                      clear hd
                      have qq := hE.drew.at e1
                      go_wp2
                      exact ⟨_, rfl, Grow.refl _, rfl⟩
                    refine StepsS.cons ?_ fun v16 => ⟨_, _, by simp only [Act.put, List.setIfInBounds_toArray, List.set_cons_succ, List.set_cons_zero]; first | done | rfl, by simp only [List.nil_append, List.cons_append]; first | done | rfl, ?_⟩
                    · intro w1 hE hd
                      obtain rfl := IsV.eq (dep_at hd 0 rfl rfl rfl)
                      clear hd
                      go_wp2
                      exact ⟨_, rfl, Grow.refl _, rfl⟩
                    refine StepsS.cons ?_ fun v17 => ⟨_, _, by simp only [Act.put, List.setIfInBounds_toArray, List.set_cons_succ, List.set_cons_zero]; first | done | rfl, by simp only [List.nil_append, List.cons_append]; first | done | rfl, ?_⟩
                    · intro w1 hE hd
                      obtain rfl := IsV.eq (dep_at hd 0 rfl rfl rfl)
                      obtain rfl := IsV.eq (dep_at hd 1 rfl rfl rfl)
                      obtain rfl := IsV.eq (dep_at hd 2 rfl rfl rfl)
                      clear hd
                      go_wp2
                      exact ⟨_, rfl, Grow.refl _, rfl⟩
                    refine StepsS.cons ?_ fun v18 => ⟨_, _, by simp only [Act.put, List.setIfInBounds_toArray, List.set_cons_succ, List.set_cons_zero]; first | done | rfl, by simp only [List.nil_append, List.cons_append]; first | done | rfl, ?_⟩
                    · intro w1 hE hd
                      obtain rfl := IsV.eq (dep_at hd 0 rfl rfl rfl)
                      obtain rfl := IsV.eq (dep_at hd 1 rfl rfl rfl)
                      clear hd
                      go_wp2
                      exact ⟨_, rfl, Grow.refl _, rfl⟩
                    refine StepsS.cons ?_ fun v19 => ⟨_, _, by simp only [Act.put, List.setIfInBounds_toArray, List.set_cons_succ, List.set_cons_zero]; first | done | rfl, by simp only [List.nil_append, List.cons_append]; first | done | rfl, ?_⟩
                    · intro w1 hE hd
                      obtain rfl := IsV.eq (dep_at hd 0 rfl rfl rfl)
                      obtain rfl := IsV.eq (dep_at hd 1 rfl rfl rfl)
                      clear hd
                      have qq := hE.drew.at hc1
                      go_wp2
                      exact ⟨_, rfl, Grow.refl _, rfl⟩
                    refine StepsS.cons ?_ fun v20 => ⟨_, _, by simp only [Act.put, List.setIfInBounds_toArray, List.set_cons_succ, List.set_cons_zero]; first | done | rfl, by simp only [List.nil_append, List.cons_append]; first | done | rfl, ?_⟩
                    · intro w1 hE hd
                      obtain rfl := IsV.eq (dep_at hd 0 rfl rfl rfl)
                      clear hd
                      go_wp2
                      exact ⟨_, rfl, Grow.refl _, rfl⟩
                    refine StepsS.cons ?_ fun v21 => ⟨_, _, by simp only [Act.put, List.setIfInBounds_toArray, List.set_cons_succ, List.set_cons_zero]; first | done | rfl, by simp only [List.nil_append, List.cons_append]; first | done | rfl, ?_⟩
                    · intro w1 hE hd
                      obtain rfl := IsV.eq (dep_at hd 0 rfl rfl rfl)
                      obtain rfl := IsV.eq (dep_at hd 1 rfl rfl rfl)
                      clear hd
                      have qq := hE.drew.at f1
                      go_wp2
                      exact ⟨_, rfl, Grow.refl _, rfl⟩
                    refine StepsS.cons ?_ fun v22 => ⟨_, _, by simp only [Act.put, List.setIfInBounds_toArray, List.set_cons_succ, List.set_cons_zero]; first | done | rfl, by simp only [List.nil_append, List.cons_append]; first | done | rfl, ?_⟩
                    · intro w1 hE hd
                      obtain rfl := IsV.eq (dep_at hd 0 rfl rfl rfl)
                      clear hd
                      go_wp2
                      exact ⟨_, rfl, Grow.refl _, rfl⟩
                    refine StepsS.cons ?_ fun v23 => ⟨_, _, by simp only [Act.put, List.setIfInBounds_toArray, List.set_cons_succ, List.set_cons_zero]; first | done | rfl, by simp only [List.nil_append, List.cons_append]; first | done | rfl, ?_⟩
                    · intro w1 hE hd
                      obtain rfl := IsV.eq (dep_at hd 0 rfl rfl rfl)
                      obtain rfl := IsV.eq (dep_at hd 1 rfl rfl rfl)
                      obtain rfl := IsV.eq (dep_at hd 2 rfl rfl rfl)
                      clear hd
                      go_wp2
                      exact ⟨_, rfl, Grow.refl _, rfl⟩
                    refine StepsS.cons ?_ fun v24 => ⟨_, _, by simp only [Act.put, List.setIfInBounds_toArray, List.set_cons_succ, List.set_cons_zero]; first | done | rfl, by simp only [List.nil_append, List.cons_append]; first | done | rfl, ?_⟩
                    · intro w1 hE hd
                      obtain rfl := IsV.eq (dep_at hd 0 rfl rfl rfl)
                      obtain rfl := IsV.eq (dep_at hd 1 rfl rfl rfl)
                      clear hd
                      go_wp2
                      exact ⟨_, rfl, Grow.refl _, rfl⟩
                    refine StepsS.cons ?_ fun v25 => ⟨_, _, by simp only [Act.put, List.setIfInBounds_toArray, List.set_cons_succ, List.set_cons_zero]; first | done | rfl, by simp only [List.nil_append, List.cons_append]; first | done | rfl, ?_⟩
                    · intro w1 hE hd
                      obtain rfl := IsV.eq (dep_at hd 0 rfl rfl rfl)
                      obtain rfl := IsV.eq (dep_at hd 1 rfl rfl rfl)
                      clear hd
                      have qq := hE.drew.at hc2
                      go_wp2
                      exact ⟨_, rfl, Grow.refl _, rfl⟩
                    refine StepsS.cons ?_ fun v26 => ⟨_, _, by simp only [Act.put, List.setIfInBounds_toArray, List.set_cons_succ, List.set_cons_zero]; first | done | rfl, by simp only [List.nil_append, List.cons_append]; first | done | rfl, ?_⟩
                    · intro w1 hE hd
                      obtain rfl := IsV.eq (dep_at hd 0 rfl rfl rfl)
                      obtain rfl := IsV.eq (dep_at hd 1 rfl rfl rfl)
                      obtain rfl := IsV.eq (dep_at hd 2 rfl rfl rfl)
                      clear hd
                      go_wp2_with fail
                      refine (hcall _ hE.drew).mono ?_
                      rintro e w4 ⟨rfl, hg4⟩
                      go_wp2_with fail
                      exact ⟨_, rfl, hg4, rfl⟩
                    refine StepsS.cons ?_ fun v27 => ⟨_, _, by simp only [Act.put, List.setIfInBounds_toArray, List.set_cons_succ, List.set_cons_zero]; first | done | rfl, by simp only [List.nil_append, List.cons_append]; first | done | rfl, ?_⟩
                    · intro w1 hE hd
                      obtain rfl := IsV.eq (dep_at hd 0 rfl rfl rfl)
                      obtain rfl := IsV.eq (dep_at hd 1 rfl rfl rfl)
                      clear hd
                      go_wp2
                      exact ⟨_, rfl, Grow.refl _, rfl⟩
                    refine StepsS.cons ?_ fun v28 => ⟨_, _, by simp only [Act.put, List.setIfInBounds_toArray, List.set_cons_succ, List.set_cons_zero]; first | done | rfl, by simp only [List.nil_append, List.cons_append]; first | done | rfl, ?_⟩
                    · intro w1 hE hd
                      obtain rfl := IsV.eq (dep_at hd 0 rfl rfl rfl)
                      obtain rfl := IsV.eq (dep_at hd 1 rfl rfl rfl)
                      clear hd
                      go_wp2
                      exact ⟨_, rfl, Grow.refl _, rfl⟩
                    trivial
                  intro wR hwR
                  refine FinS.cons ?_; rintro _ rfl; refine ⟨_, by simp only [Act.put, List.setIfInBounds_toArray, List.set_cons_succ, List.set_cons_zero]; first | done | rfl, ?_⟩
                  refine FinS.cons ?_; rintro _ rfl; refine ⟨_, by simp only [Act.put, List.setIfInBounds_toArray, List.set_cons_succ, List.set_cons_zero]; first | done | rfl, ?_⟩
                  refine FinS.cons ?_; rintro _ rfl; refine ⟨_, by simp only [Act.put, List.setIfInBounds_toArray, List.set_cons_succ, List.set_cons_zero]; first | done | rfl, ?_⟩
                  refine FinS.cons ?_; rintro _ rfl; refine ⟨_, by simp only [Act.put, List.setIfInBounds_toArray, List.set_cons_succ, List.set_cons_zero]; first | done | rfl, ?_⟩
                  refine FinS.cons ?_; rintro _ rfl; refine ⟨_, by simp only [Act.put, List.setIfInBounds_toArray, List.set_cons_succ, List.set_cons_zero]; first | done | rfl, ?_⟩
                  refine FinS.cons ?_; rintro _ rfl; refine ⟨_, by simp only [Act.put, List.setIfInBounds_toArray, List.set_cons_succ, List.set_cons_zero]; first | done | rfl, ?_⟩
                  refine FinS.cons ?_; rintro _ rfl; refine ⟨_, by simp only [Act.put, List.setIfInBounds_toArray, List.set_cons_succ, List.set_cons_zero]; first | done | rfl, ?_⟩
                  refine FinS.cons ?_; rintro _ rfl; refine ⟨_, by simp only [Act.put, List.setIfInBounds_toArray, List.set_cons_succ, List.set_cons_zero]; first | done | rfl, ?_⟩
                  refine FinS.cons ?_; rintro _ rfl; refine ⟨_, by simp only [Act.put, List.setIfInBounds_toArray, List.set_cons_succ, List.set_cons_zero]; first | done | rfl, ?_⟩
                  refine FinS.cons ?_; rintro _ rfl; refine ⟨_, by simp only [Act.put, List.setIfInBounds_toArray, List.set_cons_succ, List.set_cons_zero]; first | done | rfl, ?_⟩
                  refine FinS.cons ?_; rintro _ rfl; refine ⟨_, by simp only [Act.put, List.setIfInBounds_toArray, List.set_cons_succ, List.set_cons_zero]; first | done | rfl, ?_⟩
                  refine FinS.cons ?_; rintro _ rfl; refine ⟨_, by simp only [Act.put, List.setIfInBounds_toArray, List.set_cons_succ, List.set_cons_zero]; first | done | rfl, ?_⟩
                  refine FinS.cons ?_; rintro _ rfl; refine ⟨_, by simp only [Act.put, List.setIfInBounds_toArray, List.set_cons_succ, List.set_cons_zero]; first | done | rfl, ?_⟩
                  refine FinS.cons ?_; rintro _ rfl; refine ⟨_, by simp only [Act.put, List.setIfInBounds_toArray, List.set_cons_succ, List.set_cons_zero]; first | done | rfl, ?_⟩
                  refine FinS.cons ?_; rintro _ rfl; refine ⟨_, by simp only [Act.put, List.setIfInBounds_toArray, List.set_cons_succ, List.set_cons_zero]; first | done | rfl, ?_⟩
                  refine FinS.cons ?_; rintro _ rfl; refine ⟨_, by simp only [Act.put, List.setIfInBounds_toArray, List.set_cons_succ, List.set_cons_zero]; first | done | rfl, ?_⟩
                  refine FinS.cons ?_; rintro _ rfl; refine ⟨_, by simp only [Act.put, List.setIfInBounds_toArray, List.set_cons_succ, List.set_cons_zero]; first | done | rfl, ?_⟩
                  refine FinS.cons ?_; rintro _ rfl; refine ⟨_, by simp only [Act.put, List.setIfInBounds_toArray, List.set_cons_succ, List.set_cons_zero]; first | done | rfl, ?_⟩
                  refine FinS.cons ?_; rintro _ rfl; refine ⟨_, by simp only [Act.put, List.setIfInBounds_toArray, List.set_cons_succ, List.set_cons_zero]; first | done | rfl, ?_⟩
                  refine FinS.cons ?_; rintro _ rfl; refine ⟨_, by simp only [Act.put, List.setIfInBounds_toArray, List.set_cons_succ, List.set_cons_zero]; first | done | rfl, ?_⟩
                  refine FinS.cons ?_; rintro _ rfl; refine ⟨_, by simp only [Act.put, List.setIfInBounds_toArray, List.set_cons_succ, List.set_cons_zero]; first | done | rfl, ?_⟩
                  refine FinS.cons ?_; rintro _ rfl; refine ⟨_, by simp only [Act.put, List.setIfInBounds_toArray, List.set_cons_succ, List.set_cons_zero]; first | done | rfl, ?_⟩
                  refine FinS.cons ?_; rintro _ rfl; refine ⟨_, by simp only [Act.put, List.setIfInBounds_toArray, List.set_cons_succ, List.set_cons_zero]; first | done | rfl, ?_⟩
                  refine FinS.cons ?_; rintro _ rfl; refine ⟨_, by simp only [Act.put, List.setIfInBounds_toArray, List.set_cons_succ, List.set_cons_zero]; first | done | rfl, ?_⟩
                  refine FinS.cons ?_; rintro _ rfl; refine ⟨_, by simp only [Act.put, List.setIfInBounds_toArray, List.set_cons_succ, List.set_cons_zero]; first | done | rfl, ?_⟩
                  refine FinS.cons ?_; rintro _ rfl; refine ⟨_, by simp only [Act.put, List.setIfInBounds_toArray, List.set_cons_succ, List.set_cons_zero]; first | done | rfl, ?_⟩
                  refine FinS.cons ?_; rintro _ rfl; refine ⟨_, by simp only [Act.put, List.setIfInBounds_toArray, List.set_cons_succ, List.set_cons_zero]; first | done | rfl, ?_⟩
                  refine FinS.cons ?_; rintro _ rfl; refine ⟨_, by simp only [Act.put, List.setIfInBounds_toArray, List.set_cons_succ, List.set_cons_zero]; first | done | rfl, ?_⟩
                  refine FinS.cons ?_; rintro _ rfl; refine ⟨_, by simp only [Act.put, List.setIfInBounds_toArray, List.set_cons_succ, List.set_cons_zero]; first | done | rfl, ?_⟩
                  first | show Exit.then _ _ _ _ _ | show Exit.inBlock _ _ _ _ _
                  go_wp2
                  go_ret
                  exact ⟨ret_bool HE.out.symm, hgwr.trans hwR.drew⟩
              · have HE : Hid (sameB a b = false) := by
                  rw [Hid, HS.out, beq_no (a := a.is) (b := b.is) (k := q) (0, []) (fun h => hst (by rw [h])), Bool.and_false]
                clear hba hbb hc1 hc2
                generalize (a.is.getD q (0, [])).1 = S1 at *
                generalize (b.is.getD q (0, [])).1 = S2 at *
                generalize a.ds.length = n at *
                generalize a.is.length = m at *
                have hst' : (S1 != S2) = true := by simpa using hst
                go_wp2_with fail
                refine wp_region_stable Grow [IsV (.pointer (some ⟨w.heap.size, 1, none⟩)), IsV (.slice (some ⟨bi, oi, none⟩) m cia), IsV (.int .i64 q), IsV (.pointer (some ⟨bi, oi + q * 2, none⟩)), IsV (.pointer (some ⟨bi, oi + q * 2, none⟩)), IsV (.int .i64 S1), IsV (.pointer (some ⟨w.heap.size + 1, 1, none⟩)), IsV (.slice (some ⟨bj, oj, none⟩) m cib), IsV (.int .i64 q), IsV (.pointer (some ⟨bj, oj + q * 2, none⟩)), IsV (.pointer (some ⟨bj, oj + q * 2, none⟩)), IsV (.int .i64 S2), IsV (.bool true), IsV (.bool true), IsV (undef), IsV (undef), IsV (undef), IsV (undef), IsV (undef), IsV (undef), IsV (undef), IsV (undef), IsV (undef), IsV (undef), IsV (undef), IsV (undef), IsV (undef), IsV (undef), IsV (.bool true)] (by kernel_rfl) (by kernel_rfl) rfl Grow.refl (fun _ _ _ => Grow.trans) ?_ ?_ ?_
                · repeat (refine List.forall_mem_cons.2 ⟨by first | exact IsV.stable _, ?_⟩)
                  exact fun R hR => nomatch hR
                · skip
                  refine StepsS.cons ?_ fun v0 => ⟨_, _, by simp only [Act.put, List.setIfInBounds_toArray, List.set_cons_succ, List.set_cons_zero]; first | done | rfl, by simp only [List.nil_append]; first | done | rfl, ?_⟩
                  · intro w1 hE hd
                    clear hd
                    go_wp2
                    exact ⟨_, rfl, Grow.refl _, rfl⟩
                  refine StepsS.cons ?_ fun v1 => ⟨_, _, by simp only [Act.put, List.setIfInBounds_toArray, List.set_cons_succ, List.set_cons_zero]; first | done | rfl, by simp only [List.nil_append, List.cons_append]; first | done | rfl, ?_⟩
                  · intro w1 hE hd
                    obtain rfl := IsV.eq (dep_at hd 0 rfl rfl rfl)
                    clear hd
                    have qq := hE.drew.at e1
                    go_wp2
                    exact ⟨_, rfl, Grow.refl _, rfl⟩
                  refine StepsS.cons ?_ fun v2 => ⟨_, _, by simp only [Act.put, List.setIfInBounds_toArray, List.set_cons_succ, List.set_cons_zero]; first | done | rfl, by simp only [List.nil_append, List.cons_append]; first | done | rfl, ?_⟩
                  · intro w1 hE hd
                    clear hd
                    go_wp2
                    exact ⟨_, rfl, Grow.refl _, rfl⟩
                  refine StepsS.cons ?_ fun v3 => ⟨_, _, by simp only [Act.put, List.setIfInBounds_toArray, List.set_cons_succ, List.set_cons_zero]; first | done | rfl, by simp only [List.nil_append, List.cons_append]; first | done | rfl, ?_⟩
                  · intro w1 hE hd
                    obtain rfl := IsV.eq (dep_at hd 0 rfl rfl rfl)
                    obtain rfl := IsV.eq (dep_at hd 1 rfl rfl rfl)
                    clear hd
                    go_wp2
                    exact ⟨_, rfl, Grow.refl _, rfl⟩
                  refine StepsS.cons ?_ fun v4 => ⟨_, _, by simp only [Act.put, List.setIfInBounds_toArray, List.set_cons_succ, List.set_cons_zero]; first | done | rfl, by simp only [List.nil_append, List.cons_append]; first | done | rfl, ?_⟩
                  · intro w1 hE hd
                    obtain rfl := IsV.eq (dep_at hd 0 rfl rfl rfl)
                    clear hd
                    go_wp2
                    exact ⟨_, rfl, Grow.refl _, rfl⟩
                  refine StepsS.cons ?_ fun v5 => ⟨_, _, by simp only [Act.put, List.setIfInBounds_toArray, List.set_cons_succ, List.set_cons_zero]; first | done | rfl, by simp only [List.nil_append, List.cons_append]; first | done | rfl, ?_⟩
                  · intro w1 hE hd
                    obtain rfl := IsV.eq (dep_at hd 0 rfl rfl rfl)
                    clear hd
                    have qq := hE.drew.at hs1
                    go_wp2
                    exact ⟨_, rfl, Grow.refl _, rfl⟩
                  refine StepsS.cons ?_ fun v6 => ⟨_, _, by simp only [Act.put, List.setIfInBounds_toArray, List.set_cons_succ, List.set_cons_zero]; first | done | rfl, by simp only [List.nil_append, List.cons_append]; first | done | rfl, ?_⟩
                  · intro w1 hE hd
                    clear hd
                    go_wp2
                    exact ⟨_, rfl, Grow.refl _, rfl⟩
                  refine StepsS.cons ?_ fun v7 => ⟨_, _, by simp only [Act.put, List.setIfInBounds_toArray, List.set_cons_succ, List.set_cons_zero]; first | done | rfl, by simp only [List.nil_append, List.cons_append]; first | done | rfl, ?_⟩
                  · intro w1 hE hd
                    obtain rfl := IsV.eq (dep_at hd 0 rfl rfl rfl)
                    clear hd
                    have qq := hE.drew.at f1
                    go_wp2
                    exact ⟨_, rfl, Grow.refl _, rfl⟩
                  refine StepsS.cons ?_ fun v8 => ⟨_, _, by simp only [Act.put, List.setIfInBounds_toArray, List.set_cons_succ, List.set_cons_zero]; first | done | rfl, by simp only [List.nil_append, List.cons_append]; first | done | rfl, ?_⟩
                  · intro w1 hE hd
                    clear hd
                    go_wp2
                    exact ⟨_, rfl, Grow.refl _, rfl⟩
                  refine StepsS.cons ?_ fun v9 => ⟨_, _, by simp only [Act.put, List.setIfInBounds_toArray, List.set_cons_succ, List.set_cons_zero]; first | done | rfl, by simp only [List.nil_append, List.cons_append]; first | done | rfl, ?_⟩
                  · intro w1 hE hd
                    obtain rfl := IsV.eq (dep_at hd 0 rfl rfl rfl)
                    obtain rfl := IsV.eq (dep_at hd 1 rfl rfl rfl)
                    clear hd
                    go_wp2
                    exact ⟨_, rfl, Grow.refl _, rfl⟩
                  refine StepsS.cons ?_ fun v10 => ⟨_, _, by simp only [Act.put, List.setIfInBounds_toArray, List.set_cons_succ, List.set_cons_zero]; first | done | rfl, by simp only [List.nil_append, List.cons_append]; first | done | rfl, ?_⟩
                  · intro w1 hE hd
                    obtain rfl := IsV.eq (dep_at hd 0 rfl rfl rfl)
                    clear hd
                    go_wp2
                    exact ⟨_, rfl, Grow.refl _, rfl⟩
                  refine StepsS.cons ?_ fun v11 => ⟨_, _, by simp only [Act.put, List.setIfInBounds_toArray, List.set_cons_succ, List.set_cons_zero]; first | done | rfl, by simp only [List.nil_append, List.cons_append]; first | done | rfl, ?_⟩
                  · intro w1 hE hd
                    obtain rfl := IsV.eq (dep_at hd 0 rfl rfl rfl)
                    clear hd
                    have qq := hE.drew.at hs2
                    go_wp2
                    exact ⟨_, rfl, Grow.refl _, rfl⟩
                  refine StepsS.cons ?_ fun v12 => ⟨_, _, by simp only [Act.put, List.setIfInBounds_toArray, List.set_cons_succ, List.set_cons_zero]; first | done | rfl, by simp only [List.nil_append, List.cons_append]; first | done | rfl, ?_⟩
                  · intro w1 hE hd
                    obtain rfl := IsV.eq (dep_at hd 0 rfl rfl rfl)
                    obtain rfl := IsV.eq (dep_at hd 1 rfl rfl rfl)
                    clear hd
                    go_wp2
                    exact ⟨_, rfl, Grow.refl _, rfl⟩
                  refine StepsS.cons ?_ fun v13 => ⟨_, _, by simp only [Act.put, List.setIfInBounds_toArray, List.set_cons_succ, List.set_cons_zero]; first | done | rfl, by simp only [List.nil_append, List.cons_append]; first | done | rfl, ?_⟩
                  · intro w1 hE hd
                    obtain rfl := IsV.eq (dep_at hd 0 rfl rfl rfl)
                    clear hd
                    go_wp2
                    exact ⟨_, rfl, Grow.refl _, rfl⟩
                  refine StepsS.cons ?_ fun v14 => ⟨_, _, by simp only [Act.put, List.setIfInBounds_toArray, List.set_cons_succ, List.set_cons_zero]; first | done | rfl, by simp only [List.nil_append, List.cons_append]; first | done | rfl, ?_⟩
                  · intro w1 hE hd
                    obtain rfl := IsV.eq (dep_at hd 0 rfl rfl rfl)
                    clear hd
                    go_wp2
                    exact ⟨_, rfl, Grow.refl _, rfl⟩
                  refine StepsS.cons ?_ fun v15 => ⟨_, _, by simp only [Act.put, List.setIfInBounds_toArray, List.set_cons_succ, List.set_cons_zero]; first | done | rfl, by simp only [List.nil_append, List.cons_append]; first | done | rfl, ?_⟩
                  · intro w1 hE hd
                    obtain rfl := IsV.eq (dep_at hd 0 rfl rfl rfl)
                    obtain rfl := IsV.eq (dep_at hd 1 rfl rfl rfl)
                    clear hd
                    go_wp2
                    exact ⟨_, rfl, Grow.refl _, rfl⟩
                  refine StepsS.cons ?_ fun v16 => ⟨_, _, by simp only [Act.put, List.setIfInBounds_toArray, List.set_cons_succ, List.set_cons_zero]; first | done | rfl, by simp only [List.nil_append, List.cons_append]; first | done | rfl, ?_⟩
                  · intro w1 hE hd
                    obtain rfl := IsV.eq (dep_at hd 0 rfl rfl rfl)
                    clear hd
                    go_wp2
                    exact ⟨_, rfl, Grow.refl _, rfl⟩
                  refine StepsS.cons ?_ fun v17 => ⟨_, _, by simp only [Act.put, List.setIfInBounds_toArray, List.set_cons_succ, List.set_cons_zero]; first | done | rfl, by simp only [List.nil_append, List.cons_append]; first | done | rfl, ?_⟩
                  · intro w1 hE hd
                    obtain rfl := IsV.eq (dep_at hd 0 rfl rfl rfl)
                    obtain rfl := IsV.eq (dep_at hd 1 rfl rfl rfl)
                    obtain rfl := IsV.eq (dep_at hd 2 rfl rfl rfl)
                    clear hd
                    go_wp2
                    exact ⟨_, rfl, Grow.refl _, rfl⟩
                  refine StepsS.cons ?_ fun v18 => ⟨_, _, by simp only [Act.put, List.setIfInBounds_toArray, List.set_cons_succ, List.set_cons_zero]; first | done | rfl, by simp only [List.nil_append, List.cons_append]; first | done | rfl, ?_⟩
                  · intro w1 hE hd
                    obtain rfl := IsV.eq (dep_at hd 0 rfl rfl rfl)
                    obtain rfl := IsV.eq (dep_at hd 1 rfl rfl rfl)
                    clear hd
                    go_wp2
                    exact ⟨_, rfl, Grow.refl _, rfl⟩
                  refine StepsS.cons ?_ fun v19 => ⟨_, _, by simp only [Act.put, List.setIfInBounds_toArray, List.set_cons_succ, List.set_cons_zero]; first | done | rfl, by simp only [List.nil_append, List.cons_append]; first | done | rfl, ?_⟩
                  · intro w1 hE hd
                    obtain rfl := IsV.eq (dep_at hd 0 rfl rfl rfl)
                    obtain rfl := IsV.eq (dep_at hd 1 rfl rfl rfl)
                    clear hd
                    go_wp2
                    exact ⟨_, rfl, Grow.refl _, rfl⟩
                  refine StepsS.cons ?_ fun v20 => ⟨_, _, by simp only [Act.put, List.setIfInBounds_toArray, List.set_cons_succ, List.set_cons_zero]; first | done | rfl, by simp only [List.nil_append, List.cons_append]; first | done | rfl, ?_⟩
                  · intro w1 hE hd
                    obtain rfl := IsV.eq (dep_at hd 0 rfl rfl rfl)
                    clear hd
                    go_wp2
                    exact ⟨_, rfl, Grow.refl _, rfl⟩
                  refine StepsS.cons ?_ fun v21 => ⟨_, _, by simp only [Act.put, List.setIfInBounds_toArray, List.set_cons_succ, List.set_cons_zero]; first | done | rfl, by simp only [List.nil_append, List.cons_append]; first | done | rfl, ?_⟩
                  · intro w1 hE hd
                    obtain rfl := IsV.eq (dep_at hd 0 rfl rfl rfl)
                    obtain rfl := IsV.eq (dep_at hd 1 rfl rfl rfl)
                    clear hd
                    go_wp2
                    exact ⟨_, rfl, Grow.refl _, rfl⟩
                  refine StepsS.cons ?_ fun v22 => ⟨_, _, by simp only [Act.put, List.setIfInBounds_toArray, List.set_cons_succ, List.set_cons_zero]; first | done | rfl, by simp only [List.nil_append, List.cons_append]; first | done | rfl, ?_⟩
                  · intro w1 hE hd
                    obtain rfl := IsV.eq (dep_at hd 0 rfl rfl rfl)
                    clear hd
                    go_wp2
                    exact ⟨_, rfl, Grow.refl _, rfl⟩
                  refine StepsS.cons ?_ fun v23 => ⟨_, _, by simp only [Act.put, List.setIfInBounds_toArray, List.set_cons_succ, List.set_cons_zero]; first | done | rfl, by simp only [List.nil_append, List.cons_append]; first | done | rfl, ?_⟩
                  · intro w1 hE hd
                    obtain rfl := IsV.eq (dep_at hd 0 rfl rfl rfl)
                    obtain rfl := IsV.eq (dep_at hd 1 rfl rfl rfl)
                    obtain rfl := IsV.eq (dep_at hd 2 rfl rfl rfl)
                    clear hd
                    go_wp2
                    exact ⟨_, rfl, Grow.refl _, rfl⟩
                  refine StepsS.cons ?_ fun v24 => ⟨_, _, by simp only [Act.put, List.setIfInBounds_toArray, List.set_cons_succ, List.set_cons_zero]; first | done | rfl, by simp only [List.nil_append, List.cons_append]; first | done | rfl, ?_⟩
                  · intro w1 hE hd
                    obtain rfl := IsV.eq (dep_at hd 0 rfl rfl rfl)
                    obtain rfl := IsV.eq (dep_at hd 1 rfl rfl rfl)
                    clear hd
                    go_wp2
                    exact ⟨_, rfl, Grow.refl _, rfl⟩
                  refine StepsS.cons ?_ fun v25 => ⟨_, _, by simp only [Act.put, List.setIfInBounds_toArray, List.set_cons_succ, List.set_cons_zero]; first | done | rfl, by simp only [List.nil_append, List.cons_append]; first | done | rfl, ?_⟩
                  · intro w1 hE hd
                    obtain rfl := IsV.eq (dep_at hd 0 rfl rfl rfl)
                    obtain rfl := IsV.eq (dep_at hd 1 rfl rfl rfl)
                    clear hd
                    go_wp2
                    exact ⟨_, rfl, Grow.refl _, rfl⟩
                  refine StepsS.cons ?_ fun v26 => ⟨_, _, by simp only [Act.put, List.setIfInBounds_toArray, List.set_cons_succ, List.set_cons_zero]; first | done | rfl, by simp only [List.nil_append, List.cons_append]; first | done | rfl, ?_⟩
                  · intro w1 hE hd
                    obtain rfl := IsV.eq (dep_at hd 0 rfl rfl rfl)
                    obtain rfl := IsV.eq (dep_at hd 1 rfl rfl rfl)
                    obtain rfl := IsV.eq (dep_at hd 2 rfl rfl rfl)
                    clear hd
                    go_wp2
                    exact ⟨_, rfl, Grow.refl _, rfl⟩
                  refine StepsS.cons ?_ fun v27 => ⟨_, _, by simp only [Act.put, List.setIfInBounds_toArray, List.set_cons_succ, List.set_cons_zero]; first | done | rfl, by simp only [List.nil_append, List.cons_append]; first | done | rfl, ?_⟩
                  · intro w1 hE hd
                    obtain rfl := IsV.eq (dep_at hd 0 rfl rfl rfl)
                    obtain rfl := IsV.eq (dep_at hd 1 rfl rfl rfl)
                    clear hd
                    go_wp2
                    exact ⟨_, rfl, Grow.refl _, rfl⟩
                  refine StepsS.cons ?_ fun v28 => ⟨_, _, by simp only [Act.put, List.setIfInBounds_toArray, List.set_cons_succ, List.set_cons_zero]; first | done | rfl, by simp only [List.nil_append, List.cons_append]; first | done | rfl, ?_⟩
                  · intro w1 hE hd
                    obtain rfl := IsV.eq (dep_at hd 0 rfl rfl rfl)
                    obtain rfl := IsV.eq (dep_at hd 1 rfl rfl rfl)
                    clear hd
                    go_wp2
                    exact ⟨_, rfl, Grow.refl _, rfl⟩
                  trivial
                intro wR hwR
                refine FinS.cons ?_; rintro _ rfl; refine ⟨_, by simp only [Act.put, List.setIfInBounds_toArray, List.set_cons_succ, List.set_cons_zero]; first | done | rfl, ?_⟩
                refine FinS.cons ?_; rintro _ rfl; refine ⟨_, by simp only [Act.put, List.setIfInBounds_toArray, List.set_cons_succ, List.set_cons_zero]; first | done | rfl, ?_⟩
                refine FinS.cons ?_; rintro _ rfl; refine ⟨_, by simp only [Act.put, List.setIfInBounds_toArray, List.set_cons_succ, List.set_cons_zero]; first | done | rfl, ?_⟩
                refine FinS.cons ?_; rintro _ rfl; refine ⟨_, by simp only [Act.put, List.setIfInBounds_toArray, List.set_cons_succ, List.set_cons_zero]; first | done | rfl, ?_⟩
                refine FinS.cons ?_; rintro _ rfl; refine ⟨_, by simp only [Act.put, List.setIfInBounds_toArray, List.set_cons_succ, List.set_cons_zero]; first | done | rfl, ?_⟩
                refine FinS.cons ?_; rintro _ rfl; refine ⟨_, by simp only [Act.put, List.setIfInBounds_toArray, List.set_cons_succ, List.set_cons_zero]; first | done | rfl, ?_⟩
                refine FinS.cons ?_; rintro _ rfl; refine ⟨_, by simp only [Act.put, List.setIfInBounds_toArray, List.set_cons_succ, List.set_cons_zero]; first | done | rfl, ?_⟩
                refine FinS.cons ?_; rintro _ rfl; refine ⟨_, by simp only [Act.put, List.setIfInBounds_toArray, List.set_cons_succ, List.set_cons_zero]; first | done | rfl, ?_⟩
                refine FinS.cons ?_; rintro _ rfl; refine ⟨_, by simp only [Act.put, List.setIfInBounds_toArray, List.set_cons_succ, List.set_cons_zero]; first | done | rfl, ?_⟩
                refine FinS.cons ?_; rintro _ rfl; refine ⟨_, by simp only [Act.put, List.setIfInBounds_toArray, List.set_cons_succ, List.set_cons_zero]; first | done | rfl, ?_⟩
                refine FinS.cons ?_; rintro _ rfl; refine ⟨_, by simp only [Act.put, List.setIfInBounds_toArray, List.set_cons_succ, List.set_cons_zero]; first | done | rfl, ?_⟩
                refine FinS.cons ?_; rintro _ rfl; refine ⟨_, by simp only [Act.put, List.setIfInBounds_toArray, List.set_cons_succ, List.set_cons_zero]; first | done | rfl, ?_⟩
                refine FinS.cons ?_; rintro _ rfl; refine ⟨_, by simp only [Act.put, List.setIfInBounds_toArray, List.set_cons_succ, List.set_cons_zero]; first | done | rfl, ?_⟩
                refine FinS.cons ?_; rintro _ rfl; refine ⟨_, by simp only [Act.put, List.setIfInBounds_toArray, List.set_cons_succ, List.set_cons_zero]; first | done | rfl, ?_⟩
                refine FinS.cons ?_; rintro _ rfl; refine ⟨_, by simp only [Act.put, List.setIfInBounds_toArray, List.set_cons_succ, List.set_cons_zero]; first | done | rfl, ?_⟩
                refine FinS.cons ?_; rintro _ rfl; refine ⟨_, by simp only [Act.put, List.setIfInBounds_toArray, List.set_cons_succ, List.set_cons_zero]; first | done | rfl, ?_⟩
                refine FinS.cons ?_; rintro _ rfl; refine ⟨_, by simp only [Act.put, List.setIfInBounds_toArray, List.set_cons_succ, List.set_cons_zero]; first | done | rfl, ?_⟩
                refine FinS.cons ?_; rintro _ rfl; refine ⟨_, by simp only [Act.put, List.setIfInBounds_toArray, List.set_cons_succ, List.set_cons_zero]; first | done | rfl, ?_⟩
                refine FinS.cons ?_; rintro _ rfl; refine ⟨_, by simp only [Act.put, List.setIfInBounds_toArray, List.set_cons_succ, List.set_cons_zero]; first | done | rfl, ?_⟩
                refine FinS.cons ?_; rintro _ rfl; refine ⟨_, by simp only [Act.put, List.setIfInBounds_toArray, List.set_cons_succ, List.set_cons_zero]; first | done | rfl, ?_⟩
                refine FinS.cons ?_; rintro _ rfl; refine ⟨_, by simp only [Act.put, List.setIfInBounds_toArray, List.set_cons_succ, List.set_cons_zero]; first | done | rfl, ?_⟩
                refine FinS.cons ?_; rintro _ rfl; refine ⟨_, by simp only [Act.put, List.setIfInBounds_toArray, List.set_cons_succ, List.set_cons_zero]; first | done | rfl, ?_⟩
                refine FinS.cons ?_; rintro _ rfl; refine ⟨_, by simp only [Act.put, List.setIfInBounds_toArray, List.set_cons_succ, List.set_cons_zero]; first | done | rfl, ?_⟩
                refine FinS.cons ?_; rintro _ rfl; refine ⟨_, by simp only [Act.put, List.setIfInBounds_toArray, List.set_cons_succ, List.set_cons_zero]; first | done | rfl, ?_⟩
                refine FinS.cons ?_; rintro _ rfl; refine ⟨_, by simp only [Act.put, List.setIfInBounds_toArray, List.set_cons_succ, List.set_cons_zero]; first | done | rfl, ?_⟩
                refine FinS.cons ?_; rintro _ rfl; refine ⟨_, by simp only [Act.put, List.setIfInBounds_toArray, List.set_cons_succ, List.set_cons_zero]; first | done | rfl, ?_⟩
                refine FinS.cons ?_; rintro _ rfl; refine ⟨_, by simp only [Act.put, List.setIfInBounds_toArray, List.set_cons_succ, List.set_cons_zero]; first | done | rfl, ?_⟩
                refine FinS.cons ?_; rintro _ rfl; refine ⟨_, by simp only [Act.put, List.setIfInBounds_toArray, List.set_cons_succ, List.set_cons_zero]; first | done | rfl, ?_⟩
                refine FinS.cons ?_; rintro _ rfl; refine ⟨_, by simp only [Act.put, List.setIfInBounds_toArray, List.set_cons_succ, List.set_cons_zero]; first | done | rfl, ?_⟩
                first | show Exit.then _ _ _ _ _ | show Exit.inBlock _ _ _ _ _
                go_wp2
                go_ret
                exact ⟨ret_bool HE.out.symm, hgwr.trans hwR.drew⟩
            · have HE : Hid (sameB a b = true) := by
                rw [Hid, HS.out, HD.out, beq_yes (0, []) HL2.out (fun j hj => HQ.out j (by omega))]; rfl
              go_wp2
              go_ret
              exact ⟨ret_bool HE.out.symm, hgwr⟩
    · have HE : Hid (sameB a b = false) := by rw [Hid, HS.out, beq_len hl2, Bool.and_false]
      have hl2' : ¬ (a.is.length : Int) = (b.is.length : Int) := by omega
      have hgW : Grow w ((w.alloc (.cells #[.slice ada a.ds.length cda, .slice aia a.is.length cia] 39)).alloc (.cells #[.slice adb b.ds.length cdb, .slice aib b.is.length cib] 39)) := (Grow.alloc _ _).trans (Grow.alloc _ _)
      rw [← hl1] at hgW hdb1 ⊢
      clear hl1 hl2
      go_enter Try.func31, Try.ntmps31
      go_wp2
      go_ret
      exact ⟨ret_bool HE.out.symm, hgW⟩
  · have HE : Hid (sameB a b = false) := by rw [Hid, HS.out, beq_len hl1]; rfl
    have hl1' : ¬ (a.ds.length : Int) = (b.ds.length : Int) := by omega
    have hgW : Grow w ((w.alloc (.cells #[.slice ada a.ds.length cda, .slice aia a.is.length cia] 39)).alloc (.cells #[.slice adb b.ds.length cdb, .slice aib b.is.length cib] 39)) := (Grow.alloc _ _).trans (Grow.alloc _ _)
    clear hl1
    go_enter Try.func31, Try.ntmps31
    go_wp2
    go_ret
    exact ⟨ret_bool HE.out.symm, hgW⟩

end Go.Proofs.Ytjggiameajndgab
