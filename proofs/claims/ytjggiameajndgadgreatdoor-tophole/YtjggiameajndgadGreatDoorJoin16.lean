import Derived.Lib.SliceRun
import Derived.Test.YtjggiameajndgadGreatDoorJoin15
/-
  What the program's array.Own returns of an array without intents: an array of the call's own, no two cells of which share bytes. Nothing old turns.
-/
namespace Go.Proofs.YtjggiameajndgadGreatDoor
open Go.RowKit

/-- A new row, behind n, that reads as these, its bytes apart. -/
def NewRowS (n : Nat) (cs : List (List Int)) (v : Value) (w : World) : Prop := ∃ r us, n ≤ r ∧ v = .slice (some ⟨r, 0, none⟩) cs.length cs.length ∧ SRow n r cs us w
theorem NewRowS.stable {n : Nat} (cs : List (List Int)) : ∀ (v : Value) (x y : World), NewRowS n cs v x → Grow x y → NewRowS n cs v y := fun _ _ _ ⟨r, us, h1, h2, h3⟩ hg => ⟨r, us, h1, h2, h3.grow hg⟩

/-- A slice of one row, behind n, that reads as these. -/
def OneRowS (n : Nat) (cs : List (List Int)) (v : Value) (w : World) : Prop := ∃ H r us, v = .slice (some ⟨H, 0, none⟩) 1 1 ∧ w.heap[H]? = some (.cells #[.slice (some ⟨r, 0, none⟩) cs.length cs.length] 28 (0, 0)) ∧ n ≤ H ∧ n ≤ r ∧ SRow n r cs us w
theorem OneRowS.stable {n : Nat} (cs : List (List Int)) : ∀ (v : Value) (x y : World), OneRowS n cs v x → Grow x y → OneRowS n cs v y := fun _ _ _ ⟨H, r, us, h1, h2, h3, h4, h5⟩ hg => ⟨H, r, us, h1, hg.block' h2, h3, h4, h5.grow hg⟩

/-- Disks that have one row more, behind n. -/
def MoreDS (B n : Nat) (bs : List Nat) (ds : List (List (List Int))) (v : Value) (w : World) : Prop := ∃ r g c U, v = .slice (some ⟨g, 0, none⟩) ds.length c ∧ n ≤ r ∧ DRows B (bs ++ [r]) ds w v ∧ SDs B (bs ++ [r]) ds U w
theorem MoreDS.stable {B n : Nat} {bs : List Nat} (ds : List (List (List Int))) : ∀ (v : Value) (x y : World), MoreDS B n bs ds v x → Grow x y → MoreDS B n bs ds v y := fun _ _ _ ⟨r, g, c, U, h1, h2, h3, h4⟩ hg => ⟨r, g, c, U, h1, h2, h3.grow hg, h4.grow hg⟩

set_option maxRecDepth 20000 in
set_option maxHeartbeats 6400000 in
theorem own_sep (v : Value) (a : ArrP) (w : World) (h : ArrV w v a) (ha : Whole a) (h8 : ∀ d s, (cellAt a d s).length ≤ 8) (hI : a.is = []) :
    Calls Tryz.prog 23 #[v] w fun e w' => ∃ bs U dv iv, e = .returned (.agg #[dv, iv]) ∧ OwnA w.heap.size bs w' dv iv a ∧ SDs w.heap.size bs a.ds U w' ∧ Grow w w' := by
  obtain ⟨i1, hj, hy0, hy1, hy2⟩ := info_parts Tryz.infoD
  obtain ⟨dv0, iv0, rfl, hd, hi⟩ := h
  obtain ⟨ad, cd, rfl, hd1, hd2⟩ := Sl.form' hd
  obtain ⟨ai, ci, rfl, hi1, hi2⟩ := hi.form
  have hl4 := ha.1
  have HK : Hid (∀ k, k < 4 → ∃ b off ak ck, ad = some ⟨b, off, none⟩ ∧ w.cell? ⟨b, off + k, none⟩ = some (.slice ak 3 ck) ∧ Bss w (.slice ak 3 ck) (a.ds.getD k []) ∧ (a.ds.getD k []).length = 3 ∧ ∀ b ∈ a.ds.getD k [], b.length ≤ 8) := fun k hk => by
    have hk' : k < a.ds.length := by omega
    have h3 : (a.ds.getD k []).length = 3 := ha.2 _ (by simp [List.getD_eq_getElem?_getD, hk'])
    obtain ⟨b, off, ak, ck, e1, e2, e3⟩ := Sl.elems hd (k := k) hk'
    rw [h3] at e2 e3
    refine ⟨b, off, ak, ck, e1, e2, e3, h3, fun c hc => ?_⟩
    obtain ⟨s, hs, rfl⟩ := List.mem_iff_getElem.1 hc
    have := h8 k s
    rw [cellAt, List.getD_eq_getElem?_getD, List.getElem?_eq_getElem hs] at this
    exact this
  obtain ⟨W, hW⟩ : ∃ W, W = ((w.alloc (.cells #[.slice ad a.ds.length cd, .slice ai a.is.length ci] 27)).alloc (.cells #[.slice none 0 0, .slice none 0 0] 27)).alloc (.cells #[.slice none 0 0, .slice none 0 0] 27) := ⟨_, rfl⟩
  have hgW : Grow w W := by rw [hW]; exact ((Grow.alloc _ _).trans (Grow.alloc _ _)).trans (Grow.alloc _ _)
  have HB0 : Hid (Boxes3 w.heap.size (.slice ad a.ds.length cd) (.slice ai a.is.length ci) (.slice none 0 0) (.slice none 0 0) (.slice none 0 0) (.slice none 0 0) W) := by rw [Hid, hW]; exact heap3 w _ _ _
  have HT : Hid (∀ k, k < 4 → a.ds.take k ++ [a.ds.getD k []] = a.ds.take (k + 1)) := fun k hk => take_push a.ds [] (by omega)
  have HTL : Hid (∀ k, k ≤ 4 → (a.ds.take k).length = k) := fun k hk => by rw [Hid, List.length_take] at *; omega
  have a00 := two_at0 HB0.out.1
  have Hi : Hid (Its w (.slice ai a.is.length ci) a.is) := hi
  have HA : Hid (Whole a) := ha
  have HI : Hid (a.is = []) := hI
  clear hi h8 hd hI ha
  rw [hl4] at hW a00 HB0 ⊢
  go_enter Tryz.func23, Tryz.ntmps23
  go_wp2
  rw [← hW]
  clear hW
  go_loopw [11] (fun q wr => ∃ (k : Nat) (dv : Value) (bs : List Nat) (U : Nat → List Value), k ≤ 4 ∧ q = .int .i64 k ∧ (∃ x1 x2 x3, dv = .slice x1 x2 x3) ∧ Hid (Boxes3 w.heap.size (.slice ad 4 cd) (.slice ai a.is.length ci) (.slice none 0 0) (.slice none 0 0) dv (.slice none 0 0) wr) ∧ Hid (DRows (w.heap.size + 3) bs (a.ds.take k) wr dv ∧ SDs (w.heap.size + 3) bs (a.ds.take k) U wr) ∧ Grow w wr) (fun q _ => 4 - (intOf q).toNat)
  case atStart => exact ⟨0, _, [], fun _ => [], by omega, rfl, ⟨_, _, _, rfl⟩, HB0, by rw [List.take_zero]; exact ⟨DRows.nil _ _, SDs.nil _ _ _⟩, hgW⟩
  case round =>
    obtain ⟨k, dv, bs, U, hk, rfl, ⟨x1, x2, x3, rfl⟩, HB, HR, hgr⟩ := hrel
    clear HB0 a00
    by_cases hlt : k < 4
    · obtain ⟨b, off, ak, ck, rfl, hck, hbk, hk3, hk8⟩ := HK.out k hlt
      have hck' := hgr.at hck
      have HT1 := HT.out k hlt
      obtain ⟨L, hLe⟩ : ∃ L, L = a.ds.getD k [] := ⟨_, rfl⟩
      rw [← hLe] at hbk hk3 hk8 HT1
      clear hLe
      have HL : Hid (Bss w (.slice ak 3 ck) L ∧ L.length = 3 ∧ ∀ b ∈ L, b.length ≤ 8) := ⟨hbk, hk3, hk8⟩
      have HT2 : Hid (a.ds.take k ++ [L] = a.ds.take (k + 1)) := HT1
      have HG : Hid (∀ j, (Value.slice x1 x2 x3).ownBlock = some j → w.heap.size + 3 ≤ j ∧ j < wr.heap.size) := fun j hj => HR.out.1.own.lt j hj
      have HDl := HTL.out k hk
      have o0 := two_at0 HB.out.2.2
      have hF0 : ∀ x : World, World.grownBy x x (Value.slice x1 x2 x3).ownBlock := fun x => (Grow.refl x).by _
      have hF1 : ∀ x y z : World, World.grownBy x y (Value.slice x1 x2 x3).ownBlock → Grow y z → World.grownBy x z (Value.slice x1 x2 x3).ownBlock := fun x y z h1 h2 => h1.trans (h2.by _)
      have hF2 : ∀ x y z : World, World.grownBy x y (Value.slice x1 x2 x3).ownBlock → ByT (Value.slice x1 x2 x3).ownBlock y z → World.grownBy x z (Value.slice x1 x2 x3).ownBlock := fun x y z h1 h2 => h1.trans h2.1
      have HGw : Hid (∀ x : World, World.grownBy { wr with drawn := wr.drawn + 1 } x (Value.slice x1 x2 x3).ownBlock → Grow w x) := fun x hx => (hgr.trans (Grow.drewN wr 1)).grown hx (fun j hj => by have := (HG.out j hj).1; omega)
      have stabT : ∀ (v : Value) (x y : World), NewRowS wr.heap.size L v x → ByT (Value.slice x1 x2 x3).ownBlock x y → NewRowS wr.heap.size L v y := fun v x y ⟨r, us, h1, h2, h3⟩ hg => ⟨r, us, h1, h2, h3.by hg⟩
      have stabT2 : ∀ (v : Value) (x y : World), OneRowS wr.heap.size L v x → ByT (Value.slice x1 x2 x3).ownBlock x y → OneRowS wr.heap.size L v y := fun v x y ⟨H, r, us, h1, h2, h3, h4, h5⟩ hg => ⟨H, r, us, h1, (hg.1.block H (heap_lt h2) (fun e => by have := (HG.out H e.symm).2; omega)).trans h2, h3, h4, h5.by hg⟩
      have hdk : decide ((k : Int) < 4) = true := by simp; omega
      clear hbk hk3 hk8 hck HT1
      go_wp2
      refine wp_region_onelast 5 [_, _, _, _, _, _, _] _ rfl Grow (ByT (Value.slice x1 x2 x3).ownBlock) (fun x y => World.grownBy x y (Value.slice x1 x2 x3).ownBlock) [(fun x y => World.grownBy x y (Value.slice x1 x2 x3).ownBlock, Grow), (fun x y => World.grownBy x y (Value.slice x1 x2 x3).ownBlock, Grow), (fun x y => World.grownBy x y (Value.slice x1 x2 x3).ownBlock, Grow), (fun x y => World.grownBy x y (Value.slice x1 x2 x3).ownBlock, Grow), (fun x y => World.grownBy x y (Value.slice x1 x2 x3).ownBlock, Grow), (Grow, ByT (Value.slice x1 x2 x3).ownBlock), (fun x y => World.grownBy x y (Value.slice x1 x2 x3).ownBlock, Grow)] [IsV (.pointer (some ⟨w.heap.size + 2, 0, none⟩)), IsV (.slice x1 x2 x3), IsV (.slice ak 3 ck), NewRowS wr.heap.size L, OneRowS wr.heap.size L, MoreDS (w.heap.size + 3) wr.heap.size bs (a.ds.take (k + 1)), IsV (.pointer (some ⟨w.heap.size + 2, 0, none⟩))] rfl (by kernel_rfl) (by kernel_rfl) (by kernel_rfl) rfl Grow.refl (fun _ _ _ => Grow.trans) (hF0 _) (hF1 _) (hF2 _) ?_ ?_ ?_ ?_
      · repeat (refine List.forall_mem_cons.2 ⟨by first | exact IsV.stable _ | exact MoreDS.stable _ | exact NewRowS.stable _ | exact OneRowS.stable _, ?_⟩)
        exact fun R hR => nomatch hR
      · skip
        refine ⟨by first | exact fun _ _ _ h _ => h | exact stabT | exact stabT _ | exact stabT2 | exact stabT2 _ | exact stabT3 | exact stabT4 | exact fun _ _ _ _ _ => trivial, ?_⟩
        refine ⟨by first | exact fun _ _ _ h _ => h | exact stabT | exact stabT _ | exact stabT2 | exact stabT2 _ | exact stabT3 | exact stabT4 | exact fun _ _ _ _ _ => trivial, ?_⟩
        refine ⟨by first | exact fun _ _ _ h _ => h | exact stabT | exact stabT _ | exact stabT2 | exact stabT2 _ | exact stabT3 | exact stabT4 | exact fun _ _ _ _ _ => trivial, ?_⟩
        refine ⟨by first | exact fun _ _ _ h _ => h | exact stabT | exact stabT _ | exact stabT2 | exact stabT2 _ | exact stabT3 | exact stabT4 | exact fun _ _ _ _ _ => trivial, ?_⟩
        refine ⟨by first | exact fun _ _ _ h _ => h | exact stabT | exact stabT _ | exact stabT2 | exact stabT2 _ | exact stabT3 | exact stabT4 | exact fun _ _ _ _ _ => trivial, ?_⟩
        repeat (refine List.forall_mem_cons.2 ⟨by first | exact fun _ _ _ h _ => h | exact stabT | exact stabT _ | exact stabT2 | exact stabT2 _ | exact stabT3 | exact stabT4 | exact fun _ _ _ _ _ => trivial, ?_⟩)
        exact fun R hR => nomatch hR
      · skip
        refine StepsT.cons ?_ fun v0 => ⟨_, _, by simp only [Act.put, List.setIfInBounds_toArray, List.set_cons_succ, List.set_cons_zero]; first | done | rfl, by simp only [List.nil_append]; first | done | rfl, ?_⟩
        · intro w1 hE hd
          clear hd
          go_wp2
          exact ⟨_, rfl, Grow.refl _, rfl⟩
        refine StepsT.cons ?_ fun v1 => ⟨_, _, by simp only [Act.put, List.setIfInBounds_toArray, List.set_cons_succ, List.set_cons_zero]; first | done | rfl, by simp only [List.nil_append, List.cons_append]; first | done | rfl, ?_⟩
        · intro w1 hE hd
          obtain rfl := IsV.eq (dep_at hd 0 rfl rfl rfl)
          clear hd
          have q0 : w1.cell? ⟨w.heap.size + 2, 0, none⟩ = some (.slice x1 x2 x3) := World.grownBy.cell (a := ⟨w.heap.size + 2, 0, none⟩) hE o0 (fun e => by have := (HG.out _ e.symm).1; simp only at this; omega)
          go_wp2
          exact ⟨_, rfl, Grow.refl _, rfl⟩
        refine StepsT.cons ?_ fun v2 => ⟨_, _, by simp only [Act.put, List.setIfInBounds_toArray, List.set_cons_succ, List.set_cons_zero]; first | done | rfl, by simp only [List.nil_append, List.cons_append]; first | done | rfl, ?_⟩
        · intro w1 hE hd
          clear hd
          go_wp2
          exact ⟨_, rfl, Grow.refl _, rfl⟩
        refine StepsT.cons ?_ fun v3 => ⟨_, _, by simp only [Act.put, List.setIfInBounds_toArray, List.set_cons_succ, List.set_cons_zero]; first | done | rfl, by simp only [List.nil_append, List.cons_append]; first | done | rfl, ?_⟩
        · intro w1 hE hd
          obtain rfl := IsV.eq (dep_at hd 0 rfl rfl rfl)
          clear hd
          have hgw1 := HGw.out _ hE
          have hcall := ownCells_sep (.slice ak 3 ck) L w1 (HL.out.1.grow hgw1) (by have := HL.out.2.1; omega) (by have := HL.out.2.1; omega) HL.out.2.2
          go_wp2_with fail
          refine hcall.mono ?_
          rintro e w5 ⟨rfl, ⟨us, hr⟩, hg5⟩
          go_wp2_with fail
          exact ⟨_, rfl, hg5, _, us, hE.size, rfl, hr.low hE.size⟩
        refine StepsT.cons ?_ fun v4 => ⟨_, _, by simp only [Act.put, List.setIfInBounds_toArray, List.set_cons_succ, List.set_cons_zero]; first | done | rfl, by simp only [List.nil_append, List.cons_append]; first | done | rfl, ?_⟩
        · intro w1 hE hd
          have d3 := dep_at hd 0 rfl rfl rfl
          clear hd
          obtain ⟨r, us, h1, rfl, h3⟩ := d3
          go_wp2
          exact ⟨_, rfl, Grow.alloc _ _, _, r, us, rfl, heap_alloc_new _ _, hE.size, h1, h3.grow (Grow.alloc _ _)⟩
        refine StepsT.cons ?_ fun v5 => ⟨_, _, by simp only [Act.put, List.setIfInBounds_toArray, List.set_cons_succ, List.set_cons_zero]; first | done | rfl, by simp only [List.nil_append, List.cons_append]; first | done | rfl, ?_⟩
        · intro w1 hE hd
          obtain rfl := IsV.eq (dep_at hd 0 rfl rfl rfl)
          have d4 := dep_at hd 1 rfl rfl rfl
          clear hd
          obtain ⟨H, r, us, rfl, hH, hHn, hrn, hrow⟩ := d4
          have hS1 := HR.out.2.grow hE.drew
          have HS1 : Hid (SDs (w.heap.size + 3) bs (a.ds.take k) U w1) := hS1
          have HRow : Hid (SRow wr.heap.size r L us w1) := hrow
          have hD1 := HR.out.1.grow hE.drew
          have HD1 : Hid (DRows (w.heap.size + 3) bs (a.ds.take k) w1 (.slice x1 x2 x3)) := hD1
          have Hown : Hid (w1.ownsRow (w.heap.size + 3) 28 1 (.slice x1 x2 x3) k (rowVals bs (a.ds.take k))) := by have := hD1.own; rw [HDl] at this; exact this
          have HH : Hid (w1.heap[H]? = some (.cells #[.slice (some ⟨r, 0, none⟩) L.length L.length] 28 (0, 0))) := hH
          have hsz1 : w.heap.size + 3 ≤ w1.heap.size := by have := heap_lt HB.out.2.2; have := hE.drew.size; omega
          clear hD1 hH hS1 hrow
          go_wp2_with (first
            | (at_builtin; refine wpList_append_lies _ rfl (.tmp 16) (.tmp 19) 24 rfl (w.heap.size + 3) 28 i1 (.slice none 0 0) 1 24 Tryz.underlying24 hj hy0 hy1 hy2 rfl (by decide) _ k _ rfl Hown.out ⟨H, 0, none⟩ 1 1 [.slice (some ⟨r, 0, none⟩) L.length L.length] rfl rfl (fun j q hq => World.news_of_block HH.out j q (by simpa using hq)) (fun q hq => by simp at hq; subst hq; rfl) (by decide) (by unfold maxLen; omega) (by omega) hsz1 _ rfl ?_; rintro g' cap w' hown hgr' hat hlt'))
          have hlen1 := HTL.out (k + 1) (by omega)
          have hby : ByT (Value.slice x1 x2 x3).ownBlock w1 w' := ⟨hgr', fun j hj' => own_typed Hown.out hj'⟩
          have hbl : bs.length = (a.ds.take k).length := HD1.out.len
          refine ⟨_, rfl, hby, r, g', cap, _, by rw [hlen1], hrn, ?_, by have hq := (HS1.out.by hby).push hbl (fun i u g hi hu hg => (HR.out.2.at hbl hi hu hg).2) (HRow.out.by hby) (by have := heap_lt HB.out.2.2; omega); rw [HT2.out] at hq; exact hq⟩
          have hp := HD1.out.push HRow.out.drow (fun b hb => by have := HR.out.1.lt b hb; omega) (by have := heap_lt HB.out.2.2; omega) (v' := .slice (some ⟨g', 0, none⟩) (k + 1) cap) (by rw [HDl]; exact hown) hgr'
          rw [HT2.out] at hp
          exact hp
        refine StepsT.cons ?_ fun v6 => ⟨_, _, by simp only [Act.put, List.setIfInBounds_toArray, List.set_cons_succ, List.set_cons_zero]; first | done | rfl, by simp only [List.nil_append, List.cons_append]; first | done | rfl, ?_⟩
        · intro w1 hE hd
          clear hd
          go_wp2
          exact ⟨_, rfl, Grow.refl _, rfl⟩
        trivial
      intro wR hwR
      refine FinS.cons ?_; rintro _ rfl; refine ⟨_, by simp only [Act.put, List.setIfInBounds_toArray, List.set_cons_succ, List.set_cons_zero]; first | done | rfl, ?_⟩
      refine FinS.cons ?_; rintro _ rfl; refine ⟨_, by simp only [Act.put, List.setIfInBounds_toArray, List.set_cons_succ, List.set_cons_zero]; first | done | rfl, ?_⟩
      refine FinS.cons ?_; rintro _ rfl; refine ⟨_, by simp only [Act.put, List.setIfInBounds_toArray, List.set_cons_succ, List.set_cons_zero]; first | done | rfl, ?_⟩
      refine FinS.cons fun v3 h3 => ⟨_, by simp only [Act.put, List.setIfInBounds_toArray, List.set_cons_succ, List.set_cons_zero]; first | done | rfl, ?_⟩
      refine FinS.cons fun v4 h4 => ⟨_, by simp only [Act.put, List.setIfInBounds_toArray, List.set_cons_succ, List.set_cons_zero]; first | done | rfl, ?_⟩
      refine FinS.cons fun v5 h5 => ⟨_, by simp only [Act.put, List.setIfInBounds_toArray, List.set_cons_succ, List.set_cons_zero]; first | done | rfl, ?_⟩
      refine FinS.cons ?_; rintro _ rfl; refine ⟨_, by simp only [Act.put, List.setIfInBounds_toArray, List.set_cons_succ, List.set_cons_zero]; first | done | rfl, ?_⟩
      show wpList _ _ _ _ _ _
      obtain ⟨r, g2, c2, U2, rfl, hrn, hD, hS⟩ := h5
      have hB2 := (HB.out.grow (Grow.drewN wr 1)).by hwR (fun j hj => (HG.out j hj).1)
      have hgR := HGw.out _ hwR
      have q0 := two_at0 hB2.2.2
      have fA0 : wR.frozen? ⟨w.heap.size + 2, 0, none⟩ = false := frozen_of_row wR _ 0 _ _ hB2.2.2
      have hlen1 := HTL.out (k + 1) (by omega)
      rw [hlen1] at hD ⊢
      have HB3 : Hid (Boxes3 _ _ _ _ _ _ _ _) := hB2.set0 (u := .slice (some ⟨g2, 0, none⟩) (k + 1) c2)
      have HD3 : Hid (DRows _ _ _ _ _ ∧ SDs _ _ _ _ _) := ⟨hD.k3 (K4.set (k := 0) (u := .slice (some ⟨g2, 0, none⟩) (k + 1) c2) hB2.2.2).1, hS.k3 (K4.set (k := 0) (u := .slice (some ⟨g2, 0, none⟩) (k + 1) c2) hB2.2.2).1⟩
      have hg3 := hgR.set (g := w.heap.size + 2) (k := 0) (by omega) (.slice (some ⟨g2, 0, none⟩) (k + 1) c2)
      clear hB2 hD hS HR HB HL HGw HG hF0 hF1 hF2 stabT stabT2 HT2
      go_wp2
      go_roundw
      case rel => first | exact ⟨k + 1, _, _, _, by omega, by go_num, ⟨_, _, _, rfl⟩, HB3, HD3, hg3⟩ | ((repeat apply Exists.intro); exact ⟨⟨k + 1, _, _, _, by omega, by go_num, ⟨_, _, _, rfl⟩, HB3, HD3, hg3⟩, rfl⟩)
      case measure => simp [intOf]; omega
    · obtain rfl : k = 4 := by omega
      have HA4 : Hid (a.ds.take 4 = a.ds) := by rw [Hid]; exact List.take_of_length_le (by omega)
      have hD := HR.out
      rw [HA4.out] at hD
      have HD : Hid (DRows (w.heap.size + 3) bs a.ds wr (.slice x1 x2 x3) ∧ SDs (w.heap.size + 3) bs a.ds U wr) := hD
      have i1' := two_at1 HB.out.1
      clear HK HT HTL HA4 HR hD hlt hk
      have hn0 : a.is.length = 0 := by rw [HI.out]; rfl
      rw [hn0] at HB i1' ⊢
      have hE1 := own_end HB.out ⟨HA.out, HD.out.1, by rw [HI.out]; exact .inl ⟨rfl, rfl⟩⟩ hgr
      obtain ⟨HO, z0, z1⟩ := hE1
      have d0 := two_at0 HB.out.2.2
      have d1 := two_at1 HB.out.2.2
      have r0 := two_at0 HB.out.2.1
      have r1 := two_at1 HB.out.2.1
      have f0 : wr.frozen? ⟨w.heap.size + 1, 0, none⟩ = false := frozen_of_row wr _ 0 _ _ HB.out.2.1
      have f1 : wr.frozen? ⟨w.heap.size + 1, 1, none⟩ = false := frozen_of_row wr _ 1 _ _ HB.out.2.1
      have h1 := two_set0 (z := .slice x1 x2 x3) HB.out.2.1
      have HSe : Hid (SDs w.heap.size bs a.ds U ((wr.setCell ⟨w.heap.size + 1, 0, none⟩ (.slice x1 x2 x3)).setCell ⟨w.heap.size + 1, 1, none⟩ (.slice none 0 0))) := ((HD.out.2.k3 (K4.set HB.out.2.1).1).k3 (K4.set h1).1).low (by omega)
      clear h1 hn0 Hi HI HB HD
      go_wp2
      go_loopw [26] (fun q wr' => q = .int .i64 0 ∧ wr' = wr) (fun _ _ => 0)
      case atStart => exact ⟨rfl, rfl⟩
      case round =>
        obtain ⟨rfl, rfl⟩ := hrel
        go_wp2
        refine bodyPost_ret (results_two Tryz.results23 _ _ (w.heap.size + 1) _ rfl Tryz.underlying27 rfl Tryz.sizeA z0 z1) rfl ?_
        exact ⟨_, U, _, _, rfl, HO.out.1, HSe.out, HO.out.2⟩

end Go.Proofs.YtjggiameajndgadGreatDoor

/-
  A byte of an array of the call's own turns: no other cell's bytes do. A disk of one loses its bytes.
-/
namespace Go.Proofs.YtjggiameajndgadGreatDoor
open Go.RowKit

theorem own_other {w : World} {lo n g k : Nat} {u z : Value} {xs : List Value} (h : w.ownsRow lo 5 1 u n xs) (hne : u.ownBlock ≠ some g) : (w.setCell ⟨g, k, none⟩ z).ownsRow lo 5 1 u n xs := by
  refine ⟨h.1, ?_⟩
  rcases h.2 with h2 | ⟨g', cap, cur, hv, hb, hh, hr⟩
  · exact .inl h2
  · subst hv
    exact .inr ⟨g', cap, cur, rfl, hb, set_other hh (fun e => hne (by simp only [Value.ownBlock]; rw [e])), hr⟩

theorem getD_at {α : Type} {l : List α} {i : Nat} (h : i < l.length) (d : α) : l[i]? = some (l.getD i d) := by simp [List.getD_eq_getElem?_getD, h]

/-- A cell of such disks. -/
theorem SDs.cell {B : Nat} {bs : List Nat} {ds : List (List (List Int))} {U : Nat → List Value} {w : World} (h : SDs B bs ds U w) (hlen : bs.length = ds.length) {d s : Nat} (hd : d < ds.length) (hs : s < (ds.getD d []).length) :
    ∃ b u, bs[d]? = some b ∧ (U d)[s]? = some u ∧ w.cell? ⟨b, s, none⟩ = some u ∧ w.ownsRow B 5 1 u ((ds.getD d []).getD s []).length (((ds.getD d []).getD s []).map (Value.int .u8)) ∧ Octets ((ds.getD d []).getD s []) := by
  have hbd : bs[d]? = some (bs[d]'(by omega)) := by simp [show d < bs.length by omega]
  have hr := h.rows d _ _ hbd (getD_at hd [])
  have hul : s < (U d).length := by rw [hr.len]; exact hs
  have hu : (U d)[s]? = some ((U d)[s]'hul) := by simp [hul]
  have ho := hr.own s _ _ hu (getD_at hs [])
  exact ⟨_, _, hbd, hu, row_at hr.row s (by simp), ho.1, ho.2⟩

theorem rot_rows {B : Nat} {bs : List Nat} {ds : List (List (List Int))} {U : Nat → List Value} {w : World} {dv : Value} (h : DRows B bs ds w dv) (hS : SDs B bs ds U w) {d s g n cap k : Nat} (hd : d < ds.length) (hs : s < (ds.getD d []).length) (hu : (U d)[s]? = some (.slice (some ⟨g, 0, none⟩) n cap)) {z : Int} (hz : 0 ≤ z ∧ z ≤ 255) :
    DRows B bs (ds.set d ((ds.getD d []).set s (((ds.getD d []).getD s []).set k z))) (w.setCell ⟨g, k, none⟩ (.int .u8 z)) dv := by
  obtain ⟨b, u, hbd, hu', hcell, hown, hoc⟩ := hS.cell h.len hd hs
  rw [hu] at hu'
  cases hu'
  have hgt : ∃ cur, w.heap[g]? = some (.cells cur 5 (0, 0)) := own_typed hown rfl
  have hty : ∀ (b : Nat) cs t, t ≠ 5 → w.heap[b]? = some (.cells cs t (0, 0)) → b ≠ g := fun b cs t ht hb e => by
    subst e
    obtain ⟨cur, hc⟩ := hgt
    rw [hb] at hc
    injection hc with hc
    injection hc with _ hc _
    exact ht hc
  have hdb : d < bs.length := by have := h.len; omega
  have hlen : ((ds.getD d []).set s (((ds.getD d []).getD s []).set k z)).length = ds[d].length := by simp [List.getD_eq_getElem?_getD, hd]
  have hother : ∀ (i j : Nat) b' l q x, bs[i]? = some b' → ds[i]? = some l → (U i)[j]? = some q → l[j]? = some x → (i ≠ d ∨ j ≠ s) → Tb (w.setCell ⟨g, k, none⟩ (.int .u8 z)) q x := fun i j b' l q x hb' hl hq hx hne => by
    have hr := hS.rows i b' l hb' hl
    have ho := hr.own j q x hq hx
    refine Tb.own (own_other ho.1 fun hg => ?_) ho.2
    have hib : i < bs.length := (List.getElem?_eq_some_iff.1 hb').1
    have hid := hS.apart i d q _ g hib hdb (List.mem_of_getElem? hq) (List.mem_of_getElem? hu) hg rfl
    subst hid
    have hjs := (hS.rows i b' l hb' hl).apart j s q _ g hq hu hg rfl
    subst hjs
    exact hne.elim (fun h => h rfl) (fun h => h rfl)
  refine ⟨by simpa using h.len, h.up, h.base, ?_, fun i b' l hb' hl => ?_⟩
  · rw [rowVals_set h.len hd hlen, List.length_set]
    refine ⟨h.own.1, ?_⟩
    rcases h.own.2 with h2 | ⟨g', cap, cur, hv, hbb, hh, hr'⟩
    · exact .inl h2
    · exact .inr ⟨g', cap, cur, hv, hbb, set_other hh (hty g' _ _ (by decide) hh), hr'⟩
  · by_cases hid : i = d
    · subst hid
      rw [List.getElem?_set_self hd] at hl
      cases hl
      have hr := hS.rows i b' _ hb' (getD_at hd [])
      refine ⟨U i, by rw [List.length_set]; exact hr.len, set_other hr.row (hty b' _ _ (by decide) hr.row), fun j q x hq hx => ?_⟩
      by_cases hjs : j = s
      · subst hjs
        rw [hu] at hq
        cases hq
        rw [List.getElem?_set_self hs] at hx
        cases hx
        refine Tb.own (B := B) (n := n) ?_ (fun y hy => ?_)
        · have hn : n = ((ds.getD i []).getD j []).length := by
            rcases hown.2 with ⟨h1, -⟩ | ⟨g', cap', cur, h1, -⟩
            · cases h1
            · injection h1
          rw [← hn] at hown
          have := (hown.stored k (.int .u8 z)).1
          rw [List.map_set]
          exact this
        · rcases List.mem_or_eq_of_mem_set hy with hy | rfl
          · exact hoc y hy
          · exact hz
      · rw [List.getElem?_set_ne (fun e => hjs e.symm)] at hx
        exact hother i j b' _ q x hb' (getD_at hd []) hq hx (.inr hjs)
    · rw [List.getElem?_set_ne (fun e => hid e.symm)] at hl
      have hr := hS.rows i b' l hb' hl
      exact ⟨U i, hr.len, set_other hr.row (hty b' _ _ (by decide) hr.row), fun j q x hq hx => hother i j b' l q x hb' hl hq hx (.inl hid)⟩

/-- A byte has turned. -/
theorem rot_own {B : Nat} {bs : List Nat} {U : Nat → List Value} {w : World} {dv iv : Value} {a : ArrP} (h : OwnA B bs w dv iv a) (hS : SDs B bs a.ds U w) (hi : a.is = []) {d s g n cap k : Nat} (hd : d < 4) (hs : s < 3) (hu : (U d)[s]? = some (.slice (some ⟨g, 0, none⟩) n cap)) :
    OwnA B bs (w.setCell ⟨g, k, none⟩ (.int .u8 (rotI ((cellAt a d s).getD k 0)))) dv iv (withL a d s (rotB (cellAt a d s) k)) := by
  have hd' : d < a.ds.length := by have := h.whole.1; omega
  have hs' : s < (a.ds.getD d []).length := by rw [h.whole.2 _ (by simp [List.getD_eq_getElem?_getD, hd'])]; exact hs
  obtain ⟨b, u, hbd, hu', hcell, hown, hoc⟩ := hS.cell h.disks.len hd' hs'
  refine ⟨withL_whole h.whole hd _, rot_rows h.disks hS hd' hs' hu (rotI_bd (getD_bd hoc k)), ?_⟩
  rcases h.its with ⟨h1, h2⟩ | ⟨q, r, cap, cur, s', cs, h1, _⟩
  · exact .inl ⟨h1, h2⟩
  · rw [hi] at h1; cases h1

/-- A disk has lost its bytes. -/
theorem gone_own {B : Nat} {bs : List Nat} {w : World} {dv iv : Value} {a : ArrP} (h : OwnA B bs w dv iv a) {d b : Nat} (hd : d < 4) (hb : bs[d]? = some b) : OwnA B bs (w.setCells b 0 (List.replicate 3 (.slice none 0 0))) dv iv (goneTo a d 3) := by
  have h1 := h.put (s := 0) hd hb (Tb.nil w)
  have h2 := h1.put (s := 1) hd hb (Tb.nil _)
  have h3 := h2.put (s := 2) hd hb (Tb.nil _)
  exact h3

theorem gone_grow {w wr : World} {b : Nat} (h : Grow w wr) (hb : w.heap.size ≤ b) : Grow w (wr.setCells b 0 (List.replicate 3 (.slice none 0 0))) :=
  ((h.set (k := 0) hb (.slice none 0 0)).set (k := 1) hb (.slice none 0 0)).set (k := 2) hb (.slice none 0 0)

end Go.Proofs.YtjggiameajndgadGreatDoor

/-
  What the program's stripe.Make returns: a row of the call's own whose bytes lie in blocks of bytes.
-/
namespace Go.Proofs.YtjggiameajndgadGreatDoor
open Go.RowKit

set_option maxRecDepth 20000 in
set_option maxHeartbeats 1600000 in
theorem stripeMake_own (v : Value) (ds : List (List Int)) (s : Nat) (w : World) (h : Bss w v ds) (hl : ds.length = 4) (hs : s < 3) (h4 : ∀ b ∈ ds, b.length = 4) :
    Calls Tryz.prog 43 #[v, .int .i64 s] w fun e w' => e = .returned (.slice (some ⟨w.heap.size, 0, none⟩) 4 4) ∧ DRow w.heap.size (makeL ds s) w' ∧ Grow w w' := by
  obtain ⟨ao, cap, rfl, h1, h2, h3, h4'⟩ := h
  unfold maxLen at h2
  obtain ⟨b, off, rfl, hc⟩ := h4' (by omega)
  have HK : Hid (∀ k, k < 4 → ∃ ak ck, w.cell? ⟨b, off + k, none⟩ = some (.slice ak 4 ck) ∧ Bs w (.slice ak 4 ck) (ds.getD k []) ∧ (ds.getD k []).length = 4) := fun k hk => by
    obtain ⟨ak, ck, hck, hbk⟩ := Sl.bytesAt hc (k := k) (by omega)
    have hlk : (ds.getD k []).length = 4 := h4 _ (by simp [List.getD_eq_getElem?_getD, show k < ds.length by omega])
    rw [hlk] at hck hbk
    exact ⟨ak, ck, hck, hbk, hlk⟩
  have hmk : (Instr.makeSlice 28 (.int .i64 4) (.int .i64 4)).run Tryz.prog w = .ok (.slice (some ⟨w.heap.size, 0, none⟩) 4 4) (w.alloc (.cells (nilsN 4) 34)) := Tryz.madeN w 4 (by omega)
  rw [makeL_up hl]
  have hst : Hid (DRow w.heap.size (up4 (fun (d : Nat) => cellOf d s (ds.getD d [])) 0) (w.alloc (.cells (nilsN 4) 34))) := by rw [Hid, up4_zero]; exact DRow.made w 4
  rw [hl]
  clear hc h4' hl h4 h3
  go_enter Tryz.func43, Tryz.ntmps43
  go_wp2
  go_loopw [10] (fun i wr => ∃ k : Nat, k ≤ 4 ∧ i = .int .i64 k ∧ Hid (DRow w.heap.size (up4 (fun (d : Nat) => cellOf d s (ds.getD d [])) k) wr) ∧ Grow w wr) (fun i _ => 4 - (intOf i).toNat)
  case atStart => exact ⟨0, by omega, rfl, hst, Grow.alloc _ _⟩
  case round =>
    obtain ⟨k, hk, rfl, HR, hgr⟩ := hrel
    clear hst hmk
    by_cases hlt : k < 4
    · obtain ⟨ak, ck, hck, hbk, hlk⟩ := HK.out k hlt
      have HL : Hid ((ds.getD k []).length = 4) := hlk
      clear hlk
      have hA := atB_any b off k 4 cap ak 4 ck wr hlt (hgr.at hck)
      have hC := bytes_any (.slice ak 4 ck) (ds.getD k []) k s wr (by rw [HL.out]; omega) (by omega) (by omega) (hbk.grow hgr)
      have hoc := cellOf_octets (d := k) (s := s) (by omega) (by omega) hbk.octets
      clear hck hbk
      go_wp2_with fail
      refine hA.mono ?_
      rintro e w0 ⟨rfl, rfl⟩
      go_wp2_with fail
      refine hC.mono ?_
      rintro e w1 ⟨r, rfl, hown, hg1⟩
      have hTb := Tb.own hown hoc
      obtain ⟨gr, cr, rfl, -, -⟩ := hown.form (by omega)
      have hrow := HR.out.grow hg1
      obtain ⟨⟨u0, hu0⟩, hf0⟩ := hrow.at (k := k) (by rw [up4_length]; exact hlt)
      have hrow1 := hrow.put k hTb
      rw [up4_set (fun (d : Nat) => cellOf d s (ds.getD d [])) hlt] at hrow1
      have HR1 : Hid (DRow _ _ _) := hrow1
      have hg2 := (hgr.trans hg1).set (k := k) (Nat.le_refl w.heap.size) (.slice (some ⟨gr, 0, none⟩) ((ds.getD k []).length + 4) cr)
      rw [HL.out] at HR1 hg2 ⊢
      clear hrow hrow1 hTb hown HR hA hC
      go_wp2
      go_roundw
      case rel => first | exact ⟨k + 1, by omega, by go_num, HR1, hg2⟩ | ((repeat apply Exists.intro); exact ⟨⟨k + 1, by omega, by go_num, HR1, hg2⟩, rfl⟩)
      case measure => simp [intOf]; omega
    · obtain rfl : k = 4 := by omega
      go_wp2
      go_ret
      exact ⟨rfl, HR.out, hgr⟩

end Go.Proofs.YtjggiameajndgadGreatDoor

/-
  What the program's mend.put does: an array of the call's own has these cells of a stripe.
-/
namespace Go.Proofs.YtjggiameajndgadGreatDoor
open Go.RowKit

/-- A cell of such a row, and what it reads as. -/
theorem DRow.elem {b : Nat} {ls : List (List Int)} {w : World} (h : DRow b ls w) {k : Nat} (hk : k < ls.length) : ∃ u, w.cell? ⟨b, k, none⟩ = some u ∧ Tb w u (ls.getD k []) := by
  obtain ⟨us, h1, h2, h3⟩ := h
  refine ⟨us[k]'(by omega), row_at h2 k (by simp [h1, hk]), h3 k _ _ (by simp [h1, hk]) (by simp [List.getD_eq_getElem?_getD, hk])⟩

/-- The disk's row of an array of the call's own. -/
theorem OwnA.disk {B : Nat} {bs : List Nat} {w : World} {iv : Value} {a : ArrP} {g cap : Nat} (h : OwnA B bs w (.slice (some ⟨g, 0, none⟩) 4 cap) iv a) {k : Nat} (hk : k < 4) :
    ∃ bk, bs[k]? = some bk ∧ w.cell? ⟨g, k, none⟩ = some (.slice (some ⟨bk, 0, none⟩) 3 3) ∧ DRow bk (a.ds.getD k []) w ∧ (a.ds.getD k []).length = 3 := by
  have hlen := h.disks.len
  have hl4 := h.whole.1
  have hk' : k < a.ds.length := by omega
  have hl3 : a.ds[k].length = 3 := h.whole.2 _ (List.getElem_mem hk')
  have ho := h.disks.own
  rw [hl4] at ho
  have hcell := ho.cellAt k (by omega)
  rw [rowVals_at hlen hk', hl3] at hcell
  have hgd : a.ds.getD k [] = a.ds[k] := by simp [List.getD_eq_getElem?_getD, hk']
  refine ⟨bs[k]'(by omega), by simp, hcell, ?_, by rw [hgd]; exact hl3⟩
  rw [hgd]
  exact h.disks.rows k _ _ (by simp) (by simp [hk'])

set_option maxRecDepth 20000 in
set_option maxHeartbeats 6400000 in
theorem mendPut_any (B : Nat) (bs : List Nat) (dv iv : Value) (a : ArrP) (s r : Nat) (cs : List (List Int)) (w : World) (h : OwnA B bs w dv iv a) (hr : DRow r cs w) (hn : r ∉ bs) (hc4 : cs.length = 4) (hs : s < 3) :
    Calls Tryz.prog 42 #[dv, .int .i64 s, .slice (some ⟨r, 0, none⟩) 4 4] w fun e w' => (∃ r, e = .returned r) ∧ OwnA B bs w' dv iv (putTo a cs s 4) ∧ GrownIn w w' (fun j => j ∈ bs) := by
  have hl4 := h.whole.1
  obtain ⟨g, cap, rfl, hg1, hg2⟩ := h.disks.own.form (by omega)
  rw [hl4] at h ⊢
  have HO0 : Hid (OwnA B bs w (.slice (some ⟨g, 0, none⟩) 4 cap) iv (putTo a cs s 0)) := h
  have HR0 : Hid (DRow r cs w) := hr
  have HC : Hid (cs.length = 4) := hc4
  clear h hr hc4 hl4 hg1
  go_enter Tryz.func42, Tryz.ntmps42
  go_wp2
  go_loopw [10] (fun i wr => ∃ k : Nat, k ≤ 4 ∧ i = .int .i64 k ∧ Hid (OwnA B bs wr (.slice (some ⟨g, 0, none⟩) 4 cap) iv (putTo a cs s k)) ∧ Hid (DRow r cs wr) ∧ GrownIn w wr (fun j => j ∈ bs)) (fun i _ => 4 - (intOf i).toNat)
  case atStart => exact ⟨0, by omega, rfl, HO0, HR0, GrownIn.refl w _⟩
  case round =>
    obtain ⟨k, hk, rfl, HO, HR, hG⟩ := hrel
    clear HO0 HR0
    by_cases hlt : k < 4
    · obtain ⟨u, hu, hT⟩ := HR.out.elem (k := k) (by have := HC.out; omega)
      obtain ⟨z1, z2, z3, rfl⟩ := hT.here.form
      obtain ⟨bk, hbk, hck, hrow, hl3⟩ := HO.out.disk hlt
      have Hb : Hid (bs[k]? = some bk) := hbk
      obtain ⟨⟨u0, hu0⟩, hf0⟩ := hrow.at (k := s) (by omega)
      have HO2 : Hid (OwnA B bs (wr.setCell ⟨bk, s, none⟩ (.slice z1 z2 z3)) (.slice (some ⟨g, 0, none⟩) 4 cap) iv (putTo a cs s (k + 1))) := HO.out.put (s := s) hlt Hb.out hT
      have HR2 : Hid (DRow r cs (wr.setCell ⟨bk, s, none⟩ (.slice z1 z2 z3))) := HR.out.kept (hrow.kbset s _) (set_other rfl (fun e => hn (by rw [e]; exact List.mem_of_getElem? Hb.out)))
      have hG2 : GrownIn w (wr.setCell ⟨bk, s, none⟩ (.slice z1 z2 z3)) (fun j => j ∈ bs) := hG.trans (grownIn_set wr bk s _ (List.mem_of_getElem? Hb.out))
      have hki : (k : Int) < 4 := by omega
      have hsi : (s : Int) < 3 := by omega
      clear hT hrow hl3 hbk HO HR
      go_wp2
      go_roundw
      case rel => first | exact ⟨k + 1, by omega, by go_num, HO2, HR2, hG2⟩ | ((repeat apply Exists.intro); exact ⟨⟨k + 1, by omega, by go_num, HO2, HR2, hG2⟩, rfl⟩)
      case measure => simp [intOf]; omega
    · obtain rfl : k = 4 := by omega
      go_wp2
      go_end0
      exact ⟨⟨_, rfl⟩, HO.out, hG⟩

end Go.Proofs.YtjggiameajndgadGreatDoor

/-
  A region that draws its order, whose last operation waits for all others, for some of them by way of others.
-/
namespace Go.Proofs.YtjggiameajndgadGreatDoor
open Go.RowKit

section
variable {E : World → World → Prop} {P : Program} {Q : Exit → Act → World → Prop} {l : List Oper} {Rs : List (Value → World → Prop)} {a0 : Act} {w0 : World} {z : Oper}

/-- It waits for j at once. -/
def afterB (o : Oper) (j : Nat) : Bool := o.after.any fun e => Region.binds .any e && e.on == j

/-- The last one waits for j, by way of at most n others. -/
def waitsB (l : List Oper) (z : Oper) : Nat → Nat → Bool
  | 0, j => afterB z j
  | n + 1, j => afterB z j || (List.range l.length).any fun k => (match l[k]? with | some o => afterB o j | none => false) && waitsB l z n k

/-- The last one waits for all others. -/
def waitB (l : List Oper) (z : Oper) : Bool := (List.range l.length).all fun j => waitsB l z 5 j

theorem afterB_spec {o : Oper} {j : Nat} (h : afterB o j = true) : ∃ e ∈ o.after, Region.binds .any e = true ∧ e.on = j := by
  unfold afterB at h
  rw [Array.any_eq_true] at h
  obtain ⟨i, hi, hb⟩ := h
  simp at hb
  exact ⟨o.after[i], by simp, hb.1, hb.2⟩

theorem waitsB_spec {listed : Array Bool} (hall : ∀ e ∈ z.after, Region.binds .any e = true → listed.getD e.on false = true) (hcl : ∀ (k : Nat) (p : Oper), l[k]? = some p → listed.getD k false = true → ∀ e ∈ p.after, Region.binds .any e = true → listed.getD e.on false = true) : ∀ (n j : Nat), waitsB l z n j = true → listed.getD j false = true := by
  intro n
  induction n with
  | zero =>
    intro j h
    obtain ⟨e, he, hb, rfl⟩ := afterB_spec h
    exact hall e he hb
  | succ n ih =>
    intro j h
    unfold waitsB at h
    rcases Bool.or_eq_true_iff.1 h with h | h
    · obtain ⟨e, he, hb, rfl⟩ := afterB_spec h
      exact hall e he hb
    · obtain ⟨k, -, hk⟩ := List.any_eq_true.1 h
      obtain ⟨h1, h2⟩ := Bool.and_eq_true_iff.1 hk
      cases hl : l[k]? with
      | none => rw [hl] at h1; cases h1
      | some o =>
        rw [hl] at h1
        obtain ⟨e, he, hb, rfl⟩ := afterB_spec h1
        exact hcl k o hl (ih k h2) e he hb

theorem waitB_spec {listed : Array Bool} (h : waitB l z = true) {j : Nat} (hj : j < l.length) (hall : ∀ e ∈ z.after, Region.binds .any e = true → listed.getD e.on false = true) (hcl : ∀ (k : Nat) (p : Oper), l[k]? = some p → listed.getD k false = true → ∀ e ∈ p.after, Region.binds .any e = true → listed.getD e.on false = true) : listed.getD j false = true := by
  unfold waitB at h
  exact waitsB_spec hall hcl 5 j (List.all_eq_true.1 h j (by simpa using hj))

theorem wpAny_wait (hB : stableB (l ++ [z]) = true) (hlen : Rs.length = l.length) (hlast : waitB l z = true) (htr : ∀ x y z, E x y → E y z → E x z) (hst : ∀ R ∈ Rs, ∀ v x y, R v x → E x y → R v y)
    (hsteps : StepsS E P (l ++ [z]).toArray w0 l Rs [] a0) (hfin : ∀ w', E w0 w' → FinS (fun _ a w => wpList P (l ++ [z]).toArray Q [z] a w) w' l Rs a0) :
    ∀ (fuel : Nat) (listed : Array Bool) (a : Act) (w : World) (vs : Nat → Value), listed.toList.count false = fuel + 1 → listed.getD l.length true = false → InvS E (l ++ [z]) Rs a0 w0 listed a w vs → wpAny P .any (l ++ [z]).toArray Q (fuel + 1) listed a w := by
  intro fuel
  induction fuel with
  | zero =>
    intro listed a w vs hc hz h
    have hzl : l.length < listed.size := by rw [h.size]; simp
    have hone : ∀ i, i < l.length → listed.getD i false = true := by
      intro i hi
      have hi' : i < listed.size := by omega
      refine getD_true_of hi' fun hu => ?_
      have h1 : listed[i] = false := by simpa [hi'] using hu
      have h2 : listed[l.length] = false := by simpa [hzl] using hz
      have hset := List.count_set (a := true) (b := false) (i := i) (l := listed.toList) (by simpa using hi')
      have hm : false ∈ listed.toList.set i true := by
        refine List.mem_iff_getElem.2 ⟨l.length, by simpa using hzl, ?_⟩
        rw [List.getElem_set_ne (by omega)]
        simpa using h2
      have hpos := List.count_pos_iff.2 hm
      rw [hset, hc] at hpos
      simp [h1] at hpos
    refine ⟨fun hr => ?_, fun i hi => ?_⟩
    · exfalso
      have := h.ready_nil hB hr l.length (by simp)
      rw [getD_false_true hz] at this
      cases this
    · obtain ⟨hu, o, ho', hall⟩ := mem_ready.1 hi
      have ho : (l ++ [z])[i]? = some o := by simpa using ho'
      have hil : i < (l ++ [z]).length := (List.getElem?_eq_some_iff.1 ho).1
      have hiL : i = l.length := by
        by_cases hiL : i < l.length
        · have := hone i hiL
          rw [getD_false_true hu] at this
          cases this
        · simp at hil
          omega
      subst hiL
      obtain rfl : z = o := by simpa using ho
      have h1 := fin_at l Rs a0 vs (hfin w h.moved) hlen (fun i R hi => h.holds i R (hone i (by rw [← hlen]; exact (List.getElem?_eq_some_iff.1 hi).1)) hi)
      have h2 : a = lexP (l ++ [z]) vs l.length a0 := h.shape.eq (lexP_sh (l ++ [z]) (apart_of hB) vs a0 l.length (by simp)) (fun j t hd => by
        have hj : j < (l ++ [z]).length := by
          unfold dstAt at hd
          cases ho : (l ++ [z])[j]? with
          | none => simp [ho] at hd
          | some o => exact (List.getElem?_eq_some_iff.1 ho).1
        constructor
        · intro hj'
          by_cases hjl : j < l.length
          · exact hjl
          · simp at hj
            have : j = l.length := by omega
            rw [this, getD_false_true hz] at hj'
            cases hj'
        · exact fun hj' => hone j hj')
      rw [lexP_prefix l z vs l.length a0 (Nat.le_refl _)] at h2
      rw [h2]
      refine wpOp_of_last ho' h1 fun a' w' hQ => ⟨?_, hQ⟩
      apply List.eq_nil_iff_forall_not_mem.2
      intro j hj
      obtain ⟨hu', o', ho'', _⟩ := mem_ready.1 hj
      have hjl : j < (l ++ [z]).length := by
        have := (Array.getElem?_eq_some_iff.1 ho'').1
        simpa using this
      by_cases hjL : j = l.length
      · subst hjL
        have := getD_false_true hu'
        simp [hzl] at this
      · simp at hjl
        rw [getD_set_ne true (fun e => hjL e.symm)] at hu'
        have := hone j (by omega)
        rw [getD_false_true hu'] at this
        cases this
  | succ fuel ih =>
    intro listed a w vs hc hz h
    refine ⟨fun hr => ?_, fun i hi => ?_⟩
    · exfalso
      have := h.ready_nil hB hr l.length (by simp)
      rw [getD_false_true hz] at this
      cases this
    obtain ⟨hu, o, ho', hall⟩ := mem_ready.1 hi
    have ho : (l ++ [z])[i]? = some o := by simpa using ho'
    have hil' : i < (l ++ [z]).length := (List.getElem?_eq_some_iff.1 ho).1
    have hil : i < l.length := by
      by_cases hil : i < l.length
      · exact hil
      · exfalso
        have hiL : i = l.length := by simp at hil'; omega
        subst hiL
        obtain rfl : z = o := by simpa using ho
        have hone : ∀ j, j < l.length → listed.getD j false = true := fun j hj => waitB_spec hlast hj hall fun k p hp hk e he hb => h.closed k p (by rw [List.getElem?_append_left (List.getElem?_eq_some_iff.1 hp).1]; exact hp) hk e he hb
        have hzl : l.length < listed.size := by rw [h.size]; simp
        have hls : listed.toList = List.replicate l.length true ++ [false] := by
          refine List.ext_getElem (by simp [h.size]) fun j h1 h2 => ?_
          have h1' : j < listed.size := by simpa using h1
          by_cases hj : j < l.length
          · have := hone j hj
            rw [List.getElem_append_left (by simpa using hj)]
            simpa [h1'] using this
          · have hjl : j = l.length := by rw [h.size] at h1'; simp at h1'; omega
            subst hjl
            rw [List.getElem_append_right (by simp)]
            simpa [hzl] using hz
        rw [hls] at hc
        simp [List.count_replicate] at hc
    have hol : l[i]? = some o := by rw [List.getElem?_append_left hil] at ho; exact ho
    obtain ⟨R, hR⟩ : ∃ R, Rs[i]? = some R := ⟨Rs[i]'(by omega), by simp [show i < Rs.length by omega]⟩
    have hsp := stableB_spec hB ho
    have hd : depFacts ([] ++ zipDone Rs vs i) w o.after.toList := depFacts_of _ fun e he hb x hx => by
      have hz := zipDone_get Rs vs i e.on x (by simpa using hx)
      rw [hz.2]
      exact h.holds e.on x.1 (hall e (by simpa using he) hb) hz.1
    have hw := steps_at i l Rs [] a0 vs o R w hsteps hol hR h.moved hd
    have hag := h.agree hB ho hu hall
    rw [lexP_prefix l z vs i a0 (by omega)] at hag
    have hdst : dstAt (l ++ [z]) i = o.dst := by simp [dstAt, ho]
    refine wpOp_of_SQ ho' ?_ (execOp_agree o hsp.1 _ _ hag) (wanted_agree o _ _ hag) hw ?_
    · rw [h.shape.size, ← lexP_prefix l z vs i a0 (by omega), (lexP_sh (l ++ [z]) (apart_of hB) vs a0 i (by simp; omega)).size]
    · intro v w' hE hRv
      have hui := getD_false_true hu
      have hsz : i < listed.size := by rw [h.size]; exact hil'
      have hset : ∀ j, (listed.setIfInBounds i true).getD j false = true ↔ listed.getD j false = true ∨ j = i := by
        intro j
        by_cases hij : i = j
        · subst hij; simp [hsz]
        · rw [getD_set_ne false hij]
          constructor
          · exact .inl
          · rintro (h1 | h1)
            · exact h1
            · exact absurd h1.symm hij
      refine ih _ _ _ (fun j => if j = i then v else vs j) ?_ ?_ ⟨by simp [h.size], htr _ _ _ h.moved hE, ?_, ?_, ?_⟩
      · have hli : listed.toList[i]'(by simpa using hsz) = false := by
          have : listed[i] = false := by simpa [hsz] using hu
          simpa using this
        rw [Array.toList_setIfInBounds, List.count, List.countP_set (by simpa using hsz)]
        rw [List.count] at hc
        rw [hc, hli, if_pos (by rfl), if_neg (by decide)]
        omega
      · rw [getD_set_ne true (by omega)]
        exact hz
      · rw [← hdst]
        refine h.shape.put (apart_of hB) i (by rw [hui]; simp) hset v (fun j hj => ?_) (by simp)
        have hji : j ≠ i := fun e => by rw [e, hui] at hj; cases hj
        simp [hji]
      · intro j R' hj hR'
        rcases (hset j).1 hj with hj' | rfl
        · have hji : j ≠ i := fun e => by rw [e, hui] at hj'; cases hj'
          simp only [hji, if_false]
          exact hst R' (List.mem_of_getElem? hR') _ _ _ (h.holds j R' hj' hR') hE
        · rw [hR] at hR'
          obtain rfl := Option.some.inj hR'
          simpa using hRv
      · intro j p hp hj e he hb
        rcases (hset j).1 hj with hj' | rfl
        · exact (hset e.on).2 (.inl (h.closed j p hp hj' e he hb))
        · rw [ho] at hp
          obtain rfl := Option.some.inj hp
          exact (hset e.on).2 (.inl (hall e he hb))

/-- The law: a region that draws its order, and ends with one operation that waits for all others. -/
theorem wp_region_wait {id : Nat} {w : World} (l : List Oper) (z : Oper) {ops : Array Oper} (hops : ops = (l ++ [z]).toArray) (E : World → World → Prop) (Rs : List (Value → World → Prop)) (hm : P.follows .mixedOrders = true) (hB : stableB (l ++ [z]) = true) (hlast : waitB l z = true) (hlen : Rs.length = l.length)
    (hrefl : ∀ x, E x x) (htr : ∀ x y z, E x y → E y z → E x z) (hst : ∀ R ∈ Rs, ∀ v x y, R v x → E x y → R v y)
    (hsteps : StepsS E P (l ++ [z]).toArray { w with drawn := w.drawn + 1 } l Rs [] a0) (hfin : ∀ w', E { w with drawn := w.drawn + 1 } w' → FinS (fun _ a w => wpList P (l ++ [z]).toArray Q [z] a w) w' l Rs a0) : (Code.region id ops true).wp P Q a0 w := by
  subst hops
  refine wp_region_any hm ?_
  have hsz : (l ++ [z]).toArray.size = l.length + 1 := by simp
  rw [hsz]
  refine wpAny_wait hB hlen hlast htr hst hsteps hfin _ _ _ _ (fun _ => undef) (by simp) (by simp) ⟨by simp, hrefl _, ⟨rfl, rfl, fun _ _ => rfl, fun j t hj => ?_⟩, fun i R hi => ?_, fun j o _ hj => ?_⟩
  · rw [replicate_getD] at hj; cases hj
  · rw [replicate_getD] at hi; cases hi
  · rw [replicate_getD] at hj; cases hj

end

end Go.Proofs.YtjggiameajndgadGreatDoor
