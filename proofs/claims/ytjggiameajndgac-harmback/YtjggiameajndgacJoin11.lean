import Derived.Test.YtjggiameajndgacJoin10
/-
  What the program's array.Own returns of an array without intents: an array of the call's own, no two cells of which share bytes. Nothing old turns.
-/
namespace Go.Proofs.Ytjggiameajndgac
open Go.RowKit

/-- A new row, behind n, that reads as these, its bytes apart. -/
def NewRowS (n : Nat) (cs : List (List Int)) (v : Value) (w : World) : Prop := ∃ r us, n ≤ r ∧ v = .slice (some ⟨r, 0, none⟩) cs.length cs.length ∧ SRow n r cs us w
theorem NewRowS.stable {n : Nat} (cs : List (List Int)) : ∀ (v : Value) (x y : World), NewRowS n cs v x → Grow x y → NewRowS n cs v y := fun _ _ _ ⟨r, us, h1, h2, h3⟩ hg => ⟨r, us, h1, h2, h3.grow hg⟩

/-- A slice of one row, behind n, that reads as these. -/
def OneRowS (n : Nat) (cs : List (List Int)) (v : Value) (w : World) : Prop := ∃ H r us, v = .slice (some ⟨H, 0, none⟩) 1 1 ∧ w.heap[H]? = some (.cells #[.slice (some ⟨r, 0, none⟩) cs.length cs.length] 41 (0, 0)) ∧ n ≤ H ∧ n ≤ r ∧ SRow n r cs us w
theorem OneRowS.stable {n : Nat} (cs : List (List Int)) : ∀ (v : Value) (x y : World), OneRowS n cs v x → Grow x y → OneRowS n cs v y := fun _ _ _ ⟨H, r, us, h1, h2, h3, h4, h5⟩ hg => ⟨H, r, us, h1, hg.block' h2, h3, h4, h5.grow hg⟩

/-- Disks that have one row more, behind n. -/
def MoreDS (B n : Nat) (bs : List Nat) (ds : List (List (List Int))) (v : Value) (w : World) : Prop := ∃ r g c U, v = .slice (some ⟨g, 0, none⟩) ds.length c ∧ n ≤ r ∧ DRows B (bs ++ [r]) ds w v ∧ SDs B (bs ++ [r]) ds U w
theorem MoreDS.stable {B n : Nat} {bs : List Nat} (ds : List (List (List Int))) : ∀ (v : Value) (x y : World), MoreDS B n bs ds v x → Grow x y → MoreDS B n bs ds v y := fun _ _ _ ⟨r, g, c, U, h1, h2, h3, h4⟩ hg => ⟨r, g, c, U, h1, h2, h3.grow hg, h4.grow hg⟩

set_option maxRecDepth 20000 in
set_option maxHeartbeats 6400000 in
theorem own_sep (v : Value) (a : ArrP) (w : World) (h : ArrV w v a) (ha : Whole a) (h8 : ∀ d s, (cellAt a d s).length ≤ 8) (hI : a.is = []) :
    Calls Try.prog 44 #[v] w fun e w' => ∃ bs U dv iv, e = .returned (.agg #[dv, iv]) ∧ OwnA w.heap.size bs w' dv iv a ∧ SDs w.heap.size bs a.ds U w' ∧ Grow w w' := by
  obtain ⟨i1, hj, hy0, hy1, hy2⟩ := info_parts Try.infoD
  obtain ⟨dv0, iv0, rfl, hd, hi⟩ := h
  obtain ⟨ad, cd, rfl, hd1, hd2⟩ := Sl.form' hd
  obtain ⟨ai, ci, rfl, hi1, hi2⟩ := hi.form
  have hl4 := ha.1
  have HK : Hid (∀ k, k < 4 → ∃ b off ak ck, ad = some ⟨b, off, none⟩ ∧ w.cell? ⟨b, off + k, none⟩ = some (.slice ak 3 ck) ∧ Bss w (.slice ak 3 ck) (a.ds.getD k []) ∧ (a.ds.getD k []).length = 3 ∧ ∀ b ∈ a.ds.getD k [], b.length ≤ 8) := fun k hk => by
    have hk' : k < a.ds.length := by omega
    have h3 : (a.ds.getD k []).length = 3 := ha.2 _ (by simp [List.getD_eq_getElem?_getD, hk'])
    obtain ⟨b, off, ak, ck, e1, e2, e3⟩ := Sl.elems hd (k := k) hk'
    rw [h3] at e2 e3
    refine ⟨b, off, ak, ck, e1, e2, e3, h3, fun c hc => ?_⟩
    obtain ⟨s, hs, rfl⟩ := List.mem_iff_getElem.1 hc
    have := h8 k s
    rw [cellAt, List.getD_eq_getElem?_getD, List.getElem?_eq_getElem hs] at this
    exact this
  obtain ⟨W, hW⟩ : ∃ W, W = ((w.alloc (.cells #[.slice ad a.ds.length cd, .slice ai a.is.length ci] 26)).alloc (.cells #[.slice none 0 0, .slice none 0 0] 26)).alloc (.cells #[.slice none 0 0, .slice none 0 0] 26) := ⟨_, rfl⟩
  have hgW : Grow w W := by rw [hW]; exact ((Grow.alloc _ _).trans (Grow.alloc _ _)).trans (Grow.alloc _ _)
  have HB0 : Hid (Boxes3 w.heap.size (.slice ad a.ds.length cd) (.slice ai a.is.length ci) (.slice none 0 0) (.slice none 0 0) (.slice none 0 0) (.slice none 0 0) W) := by rw [Hid, hW]; exact heap3 w _ _ _
  have HT : Hid (∀ k, k < 4 → a.ds.take k ++ [a.ds.getD k []] = a.ds.take (k + 1)) := fun k hk => take_push a.ds [] (by omega)
  have HTL : Hid (∀ k, k ≤ 4 → (a.ds.take k).length = k) := fun k hk => by rw [Hid, List.length_take] at *; omega
  have a00 := two_at0 HB0.out.1
  have Hi : Hid (Its w (.slice ai a.is.length ci) a.is) := hi
  have HA : Hid (Whole a) := ha
  have HI : Hid (a.is = []) := hI
  clear hi h8 hd hI ha
  rw [hl4] at hW a00 HB0 ⊢
  go_enter Try.func44, Try.ntmps44
  go_wp2
  rw [← hW]
  clear hW
  go_loopw [11] (fun q wr => ∃ (k : Nat) (dv : Value) (bs : List Nat) (U : Nat → List Value), k ≤ 4 ∧ q = .int .i64 k ∧ (∃ x1 x2 x3, dv = .slice x1 x2 x3) ∧ Hid (Boxes3 w.heap.size (.slice ad 4 cd) (.slice ai a.is.length ci) (.slice none 0 0) (.slice none 0 0) dv (.slice none 0 0) wr) ∧ Hid (DRows (w.heap.size + 3) bs (a.ds.take k) wr dv ∧ SDs (w.heap.size + 3) bs (a.ds.take k) U wr) ∧ Grow w wr) (fun q _ => 4 - (intOf q).toNat)
  case atStart => exact ⟨0, _, [], fun _ => [], by omega, rfl, ⟨_, _, _, rfl⟩, HB0, by rw [List.take_zero]; exact ⟨DRows.nil _ _, SDs.nil _ _ _⟩, hgW⟩
  case round =>
    obtain ⟨k, dv, bs, U, hk, rfl, ⟨x1, x2, x3, rfl⟩, HB, HR, hgr⟩ := hrel
    clear HB0 a00
    by_cases hlt : k < 4
    · obtain ⟨b, off, ak, ck, rfl, hck, hbk, hk3, hk8⟩ := HK.out k hlt
      have hck' := hgr.at hck
      have HT1 := HT.out k hlt
      obtain ⟨L, hLe⟩ : ∃ L, L = a.ds.getD k [] := ⟨_, rfl⟩
      rw [← hLe] at hbk hk3 hk8 HT1
      clear hLe
      have HL : Hid (Bss w (.slice ak 3 ck) L ∧ L.length = 3 ∧ ∀ b ∈ L, b.length ≤ 8) := ⟨hbk, hk3, hk8⟩
      have HT2 : Hid (a.ds.take k ++ [L] = a.ds.take (k + 1)) := HT1
      have HG : Hid (∀ j, (Value.slice x1 x2 x3).ownBlock = some j → w.heap.size + 3 ≤ j ∧ j < wr.heap.size) := fun j hj => HR.out.1.own.lt j hj
      have HDl := HTL.out k hk
      have o0 := two_at0 HB.out.2.2
      have hF0 : ∀ x : World, World.grownBy x x (Value.slice x1 x2 x3).ownBlock := fun x => (Grow.refl x).by _
      have hF1 : ∀ x y z : World, World.grownBy x y (Value.slice x1 x2 x3).ownBlock → Grow y z → World.grownBy x z (Value.slice x1 x2 x3).ownBlock := fun x y z h1 h2 => h1.trans (h2.by _)
      have hF2 : ∀ x y z : World, World.grownBy x y (Value.slice x1 x2 x3).ownBlock → ByT (Value.slice x1 x2 x3).ownBlock y z → World.grownBy x z (Value.slice x1 x2 x3).ownBlock := fun x y z h1 h2 => h1.trans h2.1
      have HGw : Hid (∀ x : World, World.grownBy { wr with drawn := wr.drawn + 1 } x (Value.slice x1 x2 x3).ownBlock → Grow w x) := fun x hx => (hgr.trans (Grow.drewN wr 1)).grown hx (fun j hj => by have := (HG.out j hj).1; omega)
      have stabT : ∀ (v : Value) (x y : World), NewRowS wr.heap.size L v x → ByT (Value.slice x1 x2 x3).ownBlock x y → NewRowS wr.heap.size L v y := fun v x y ⟨r, us, h1, h2, h3⟩ hg => ⟨r, us, h1, h2, h3.by hg⟩
      have stabT2 : ∀ (v : Value) (x y : World), OneRowS wr.heap.size L v x → ByT (Value.slice x1 x2 x3).ownBlock x y → OneRowS wr.heap.size L v y := fun v x y ⟨H, r, us, h1, h2, h3, h4, h5⟩ hg => ⟨H, r, us, h1, (hg.1.block H (heap_lt h2) (fun e => by have := (HG.out H e.symm).2; omega)).trans h2, h3, h4, h5.by hg⟩
      have hdk : decide ((k : Int) < 4) = true := by simp; omega
      clear hbk hk3 hk8 hck HT1
      go_wp2
      refine wp_region_onelast 5 [_, _, _, _, _, _, _] _ rfl Grow (ByT (Value.slice x1 x2 x3).ownBlock) (fun x y => World.grownBy x y (Value.slice x1 x2 x3).ownBlock) [(fun x y => World.grownBy x y (Value.slice x1 x2 x3).ownBlock, Grow), (fun x y => World.grownBy x y (Value.slice x1 x2 x3).ownBlock, Grow), (fun x y => World.grownBy x y (Value.slice x1 x2 x3).ownBlock, Grow), (fun x y => World.grownBy x y (Value.slice x1 x2 x3).ownBlock, Grow), (fun x y => World.grownBy x y (Value.slice x1 x2 x3).ownBlock, Grow), (Grow, ByT (Value.slice x1 x2 x3).ownBlock), (fun x y => World.grownBy x y (Value.slice x1 x2 x3).ownBlock, Grow)] [IsV (.pointer (some ⟨w.heap.size + 2, 0, none⟩)), IsV (.slice x1 x2 x3), IsV (.slice ak 3 ck), NewRowS wr.heap.size L, OneRowS wr.heap.size L, MoreDS (w.heap.size + 3) wr.heap.size bs (a.ds.take (k + 1)), IsV (.pointer (some ⟨w.heap.size + 2, 0, none⟩))] rfl (by kernel_rfl) (by kernel_rfl) (by kernel_rfl) rfl Grow.refl (fun _ _ _ => Grow.trans) (hF0 _) (hF1 _) (hF2 _) ?_ ?_ ?_ ?_
      · repeat (refine List.forall_mem_cons.2 ⟨by first | exact IsV.stable _ | exact MoreDS.stable _ | exact NewRowS.stable _ | exact OneRowS.stable _, ?_⟩)
        exact fun R hR => nomatch hR
      · skip
        refine ⟨by first | exact fun _ _ _ h _ => h | exact stabT | exact stabT _ | exact stabT2 | exact stabT2 _ | exact stabT3 | exact stabT4 | exact fun _ _ _ _ _ => trivial, ?_⟩
        refine ⟨by first | exact fun _ _ _ h _ => h | exact stabT | exact stabT _ | exact stabT2 | exact stabT2 _ | exact stabT3 | exact stabT4 | exact fun _ _ _ _ _ => trivial, ?_⟩
        refine ⟨by first | exact fun _ _ _ h _ => h | exact stabT | exact stabT _ | exact stabT2 | exact stabT2 _ | exact stabT3 | exact stabT4 | exact fun _ _ _ _ _ => trivial, ?_⟩
        refine ⟨by first | exact fun _ _ _ h _ => h | exact stabT | exact stabT _ | exact stabT2 | exact stabT2 _ | exact stabT3 | exact stabT4 | exact fun _ _ _ _ _ => trivial, ?_⟩
        refine ⟨by first | exact fun _ _ _ h _ => h | exact stabT | exact stabT _ | exact stabT2 | exact stabT2 _ | exact stabT3 | exact stabT4 | exact fun _ _ _ _ _ => trivial, ?_⟩
        repeat (refine List.forall_mem_cons.2 ⟨by first | exact fun _ _ _ h _ => h | exact stabT | exact stabT _ | exact stabT2 | exact stabT2 _ | exact stabT3 | exact stabT4 | exact fun _ _ _ _ _ => trivial, ?_⟩)
        exact fun R hR => nomatch hR
      · skip
        refine StepsT.cons ?_ fun v0 => ⟨_, _, by simp only [Act.put, List.setIfInBounds_toArray, List.set_cons_succ, List.set_cons_zero]; first | done | rfl, by simp only [List.nil_append]; first | done | rfl, ?_⟩
        · intro w1 hE hd
          clear hd
          go_wp2
          exact ⟨_, rfl, Grow.refl _, rfl⟩
        refine StepsT.cons ?_ fun v1 => ⟨_, _, by simp only [Act.put, List.setIfInBounds_toArray, List.set_cons_succ, List.set_cons_zero]; first | done | rfl, by simp only [List.nil_append, List.cons_append]; first | done | rfl, ?_⟩
        · intro w1 hE hd
          obtain rfl := IsV.eq (dep_at hd 0 rfl rfl rfl)
          clear hd
          have q0 : w1.cell? ⟨w.heap.size + 2, 0, none⟩ = some (.slice x1 x2 x3) := World.grownBy.cell (a := ⟨w.heap.size + 2, 0, none⟩) hE o0 (fun e => by have := (HG.out _ e.symm).1; simp only at this; omega)
          go_wp2
          exact ⟨_, rfl, Grow.refl _, rfl⟩
        refine StepsT.cons ?_ fun v2 => ⟨_, _, by simp only [Act.put, List.setIfInBounds_toArray, List.set_cons_succ, List.set_cons_zero]; first | done | rfl, by simp only [List.nil_append, List.cons_append]; first | done | rfl, ?_⟩
        · intro w1 hE hd
          clear hd
          go_wp2
          exact ⟨_, rfl, Grow.refl _, rfl⟩
        refine StepsT.cons ?_ fun v3 => ⟨_, _, by simp only [Act.put, List.setIfInBounds_toArray, List.set_cons_succ, List.set_cons_zero]; first | done | rfl, by simp only [List.nil_append, List.cons_append]; first | done | rfl, ?_⟩
        · intro w1 hE hd
          obtain rfl := IsV.eq (dep_at hd 0 rfl rfl rfl)
          clear hd
          have hgw1 := HGw.out _ hE
          have hcall := ownCells_sep (.slice ak 3 ck) L w1 (HL.out.1.grow hgw1) (by have := HL.out.2.1; omega) (by have := HL.out.2.1; omega) HL.out.2.2
          go_wp2_with fail
          refine hcall.mono ?_
          rintro e w5 ⟨rfl, ⟨us, hr⟩, hg5⟩
          go_wp2_with fail
          exact ⟨_, rfl, hg5, _, us, hE.size, rfl, hr.low hE.size⟩
        refine StepsT.cons ?_ fun v4 => ⟨_, _, by simp only [Act.put, List.setIfInBounds_toArray, List.set_cons_succ, List.set_cons_zero]; first | done | rfl, by simp only [List.nil_append, List.cons_append]; first | done | rfl, ?_⟩
        · intro w1 hE hd
          have d3 := dep_at hd 0 rfl rfl rfl
          clear hd
          obtain ⟨r, us, h1, rfl, h3⟩ := d3
          go_wp2
          exact ⟨_, rfl, Grow.alloc _ _, _, r, us, rfl, heap_alloc_new _ _, hE.size, h1, h3.grow (Grow.alloc _ _)⟩
        refine StepsT.cons ?_ fun v5 => ⟨_, _, by simp only [Act.put, List.setIfInBounds_toArray, List.set_cons_succ, List.set_cons_zero]; first | done | rfl, by simp only [List.nil_append, List.cons_append]; first | done | rfl, ?_⟩
        · intro w1 hE hd
          obtain rfl := IsV.eq (dep_at hd 0 rfl rfl rfl)
          have d4 := dep_at hd 1 rfl rfl rfl
          clear hd
          obtain ⟨H, r, us, rfl, hH, hHn, hrn, hrow⟩ := d4
          have hS1 := HR.out.2.grow hE.drew
          have HS1 : Hid (SDs (w.heap.size + 3) bs (a.ds.take k) U w1) := hS1
          have HRow : Hid (SRow wr.heap.size r L us w1) := hrow
          have hD1 := HR.out.1.grow hE.drew
          have HD1 : Hid (DRows (w.heap.size + 3) bs (a.ds.take k) w1 (.slice x1 x2 x3)) := hD1
          have Hown : Hid (w1.ownsRow (w.heap.size + 3) 41 1 (.slice x1 x2 x3) k (rowVals bs (a.ds.take k))) := by have := hD1.own; rw [HDl] at this; exact this
          have HH : Hid (w1.heap[H]? = some (.cells #[.slice (some ⟨r, 0, none⟩) L.length L.length] 41 (0, 0))) := hH
          have hsz1 : w.heap.size + 3 ≤ w1.heap.size := by have := heap_lt HB.out.2.2; have := hE.drew.size; omega
          clear hD1 hH hS1 hrow
          go_wp2_with (first
            | (at_builtin; refine wpList_append_lies _ rfl (.tmp 16) (.tmp 19) 23 rfl (w.heap.size + 3) 41 i1 (.slice none 0 0) 1 24 Try.underlying23 hj hy0 hy1 hy2 rfl (by decide) _ k _ rfl Hown.out ⟨H, 0, none⟩ 1 1 [.slice (some ⟨r, 0, none⟩) L.length L.length] rfl rfl (fun j q hq => World.news_of_block HH.out j q (by simpa using hq)) (fun q hq => by simp at hq; subst hq; rfl) (by decide) (by unfold maxLen; omega) (by omega) hsz1 _ rfl ?_; rintro g' cap w' hown hgr' hat hlt'))
          have hlen1 := HTL.out (k + 1) (by omega)
          have hby : ByT (Value.slice x1 x2 x3).ownBlock w1 w' := ⟨hgr', fun j hj' => own_typed Hown.out hj'⟩
          have hbl : bs.length = (a.ds.take k).length := HD1.out.len
          refine ⟨_, rfl, hby, r, g', cap, _, by rw [hlen1], hrn, ?_, by have hq := (HS1.out.by hby).push hbl (fun i u g hi hu hg => (HR.out.2.at hbl hi hu hg).2) (HRow.out.by hby) (by have := heap_lt HB.out.2.2; omega); rw [HT2.out] at hq; exact hq⟩
          have hp := HD1.out.push HRow.out.drow (fun b hb => by have := HR.out.1.lt b hb; omega) (by have := heap_lt HB.out.2.2; omega) (v' := .slice (some ⟨g', 0, none⟩) (k + 1) cap) (by rw [HDl]; exact hown) hgr'
          rw [HT2.out] at hp
          exact hp
        refine StepsT.cons ?_ fun v6 => ⟨_, _, by simp only [Act.put, List.setIfInBounds_toArray, List.set_cons_succ, List.set_cons_zero]; first | done | rfl, by simp only [List.nil_append, List.cons_append]; first | done | rfl, ?_⟩
        · intro w1 hE hd
          clear hd
          go_wp2
          exact ⟨_, rfl, Grow.refl _, rfl⟩
        trivial
      intro wR hwR
      refine FinS.cons ?_; rintro _ rfl; refine ⟨_, by simp only [Act.put, List.setIfInBounds_toArray, List.set_cons_succ, List.set_cons_zero]; first | done | rfl, ?_⟩
      refine FinS.cons ?_; rintro _ rfl; refine ⟨_, by simp only [Act.put, List.setIfInBounds_toArray, List.set_cons_succ, List.set_cons_zero]; first | done | rfl, ?_⟩
      refine FinS.cons ?_; rintro _ rfl; refine ⟨_, by simp only [Act.put, List.setIfInBounds_toArray, List.set_cons_succ, List.set_cons_zero]; first | done | rfl, ?_⟩
      refine FinS.cons fun v3 h3 => ⟨_, by simp only [Act.put, List.setIfInBounds_toArray, List.set_cons_succ, List.set_cons_zero]; first | done | rfl, ?_⟩
      refine FinS.cons fun v4 h4 => ⟨_, by simp only [Act.put, List.setIfInBounds_toArray, List.set_cons_succ, List.set_cons_zero]; first | done | rfl, ?_⟩
      refine FinS.cons fun v5 h5 => ⟨_, by simp only [Act.put, List.setIfInBounds_toArray, List.set_cons_succ, List.set_cons_zero]; first | done | rfl, ?_⟩
      refine FinS.cons ?_; rintro _ rfl; refine ⟨_, by simp only [Act.put, List.setIfInBounds_toArray, List.set_cons_succ, List.set_cons_zero]; first | done | rfl, ?_⟩
      show wpList _ _ _ _ _ _
      obtain ⟨r, g2, c2, U2, rfl, hrn, hD, hS⟩ := h5
      have hB2 := (HB.out.grow (Grow.drewN wr 1)).by hwR (fun j hj => (HG.out j hj).1)
      have hgR := HGw.out _ hwR
      have q0 := two_at0 hB2.2.2
      have fA0 : wR.frozen? ⟨w.heap.size + 2, 0, none⟩ = false := frozen_of_row wR _ 0 _ _ hB2.2.2
      have hlen1 := HTL.out (k + 1) (by omega)
      rw [hlen1] at hD ⊢
      have HB3 : Hid (Boxes3 _ _ _ _ _ _ _ _) := hB2.set0 (u := .slice (some ⟨g2, 0, none⟩) (k + 1) c2)
      have HD3 : Hid (DRows _ _ _ _ _ ∧ SDs _ _ _ _ _) := ⟨hD.k3 (K4.set (k := 0) (u := .slice (some ⟨g2, 0, none⟩) (k + 1) c2) hB2.2.2).1, hS.k3 (K4.set (k := 0) (u := .slice (some ⟨g2, 0, none⟩) (k + 1) c2) hB2.2.2).1⟩
      have hg3 := hgR.set (g := w.heap.size + 2) (k := 0) (by omega) (.slice (some ⟨g2, 0, none⟩) (k + 1) c2)
      clear hB2 hD hS HR HB HL HGw HG hF0 hF1 hF2 stabT stabT2 HT2
      go_wp2
      go_roundw
      case rel => first | exact ⟨k + 1, _, _, _, by omega, by go_num, ⟨_, _, _, rfl⟩, HB3, HD3, hg3⟩ | ((repeat apply Exists.intro); exact ⟨⟨k + 1, _, _, _, by omega, by go_num, ⟨_, _, _, rfl⟩, HB3, HD3, hg3⟩, rfl⟩)
      case measure => simp [intOf]; omega
    · obtain rfl : k = 4 := by omega
      have HA4 : Hid (a.ds.take 4 = a.ds) := by rw [Hid]; exact List.take_of_length_le (by omega)
      have hD := HR.out
      rw [HA4.out] at hD
      have HD : Hid (DRows (w.heap.size + 3) bs a.ds wr (.slice x1 x2 x3) ∧ SDs (w.heap.size + 3) bs a.ds U wr) := hD
      have i1' := two_at1 HB.out.1
      clear HK HT HTL HA4 HR hD hlt hk
      have hn0 : a.is.length = 0 := by rw [HI.out]; rfl
      rw [hn0] at HB i1' ⊢
      have hE1 := own_end HB.out ⟨HA.out, HD.out.1, by rw [HI.out]; exact .inl ⟨rfl, rfl⟩⟩ hgr
      obtain ⟨HO, z0, z1⟩ := hE1
      have d0 := two_at0 HB.out.2.2
      have d1 := two_at1 HB.out.2.2
      have r0 := two_at0 HB.out.2.1
      have r1 := two_at1 HB.out.2.1
      have f0 : wr.frozen? ⟨w.heap.size + 1, 0, none⟩ = false := frozen_of_row wr _ 0 _ _ HB.out.2.1
      have f1 : wr.frozen? ⟨w.heap.size + 1, 1, none⟩ = false := frozen_of_row wr _ 1 _ _ HB.out.2.1
      have h1 := two_set0 (z := .slice x1 x2 x3) HB.out.2.1
      have HSe : Hid (SDs w.heap.size bs a.ds U ((wr.setCell ⟨w.heap.size + 1, 0, none⟩ (.slice x1 x2 x3)).setCell ⟨w.heap.size + 1, 1, none⟩ (.slice none 0 0))) := ((HD.out.2.k3 (K4.set HB.out.2.1).1).k3 (K4.set h1).1).low (by omega)
      clear h1 hn0 Hi HI HB HD
      go_wp2
      go_loopw [26] (fun q wr' => q = .int .i64 0 ∧ wr' = wr) (fun _ _ => 0)
      case atStart => exact ⟨rfl, rfl⟩
      case round =>
        obtain ⟨rfl, rfl⟩ := hrel
        go_wp2
        refine bodyPost_ret (results_two Try.results44 _ _ (w.heap.size + 1) _ rfl Try.underlying26 rfl Try.sizeA z0 z1) rfl ?_
        exact ⟨_, U, _, _, rfl, HO.out.1, HSe.out, HO.out.2⟩

end Go.Proofs.Ytjggiameajndgac

/-
  What the reference's Rot returns: an array with a byte that has turned. Nothing old turns.
-/
namespace Go.Proofs.Ytjggiameajndgac
open Go.RowKit

/-- A byte, its lowest bit turned. -/
def rotI (x : Int) : Int := if x % 2 = 0 then x + 1 else x - 1
def rotB (l : List Int) (k : Nat) : List Int := l.set k (rotI (l.getD k 0))

def rotOk (a : ArrP) (d s k : Int) : Prop := 0 ≤ d ∧ d ≤ 3 ∧ 0 ≤ s ∧ s ≤ 2 ∧ 0 ≤ k ∧ k < (cellAt a d.toNat s.toNat).length
instance (a : ArrP) (d s k : Int) : Decidable (rotOk a d s k) := by unfold rotOk; infer_instance
def rotE (a : ArrP) (d s k : Int) : Int := if rotOk a d s k then 0 else 6
def rotL (a : ArrP) (d s k : Int) : ArrP := if rotOk a d s k then withL a d.toNat s.toNat (rotB (cellAt a d.toNat s.toNat) k.toNat) else a

theorem rotI_bd {x : Int} (h : 0 ≤ x ∧ x ≤ 255) : 0 ≤ rotI x ∧ rotI x ≤ 255 := by unfold rotI; split <;> omega
theorem rotB_octets {l : List Int} (h : Octets l) (k : Nat) : Octets (rotB l k) := fun x hx => by
  rcases List.mem_or_eq_of_mem_set hx with hx | rfl
  · exact h x hx
  · exact rotI_bd (getD_bd h k)

set_option maxRecDepth 20000 in
set_option maxHeartbeats 6400000 in
theorem refRot_no (v : Value) (a : ArrP) (d s k : Int) (w : World) (h : ArrV w v a) (ha : Whole a) (hk : ¬ rotOk a d s k) :
    Calls Try.prog 28 #[v, .int .i64 d, .int .i64 s, .int .i64 k] w fun e w' => ∃ r, e = .returned (.tuple #[r, .int .i64 (rotE a d s k)]) ∧ ArrV w' r (rotL a d s k) ∧ Grow w w' := by
  have HE : Hid (rotE a d s k = 6 ∧ rotL a d s k = a) := ⟨if_neg hk, if_neg hk⟩
  have hcase : d < 0 ∨ (0 ≤ d ∧ 3 < d) ∨ (0 ≤ d ∧ d ≤ 3 ∧ s < 0) ∨ (0 ≤ d ∧ d ≤ 3 ∧ 0 ≤ s ∧ 2 < s) ∨ (0 ≤ d ∧ d ≤ 3 ∧ 0 ≤ s ∧ s ≤ 2 ∧ k < 0) ∨ (0 ≤ d ∧ d ≤ 3 ∧ 0 ≤ s ∧ s ≤ 2 ∧ 0 ≤ k ∧ ((cellAt a d.toNat s.toNat).length : Int) ≤ k) := by
    unfold rotOk at hk
    omega
  clear hk
  obtain ⟨dv, iv, e, hd, hit⟩ := ArrX.old (g := none) h (Grow.refl w) (fun _ h => nomatch h) |>.toG
  obtain ⟨a1, n1, c1, a2, n2, c2, rfl⟩ := h.form
  have hgF : Grow w ((w.alloc (.cells #[.slice a1 n1 c1, .slice a2 n2 c2] 26)).alloc (.cells #[.slice a1 n1 c1, .slice a2 n2 c2] 26)) := (Grow.alloc _ _).trans (Grow.alloc _ _)
  have hfin : Hid (_ ∧ _) := ⟨h.grow hgF, hgF⟩
  rcases hcase with h1 | ⟨h1, h2⟩ | ⟨h1, h2, h3⟩ | ⟨h1, h2, h3, h4⟩ | ⟨h1, h2, h3, h4, h5⟩ | ⟨h1, h2, h3, h4, h5, h6⟩
  case inr.inr.inr.inr.inr =>
    simp only [Value.agg.injEq] at e
    have e := congrArg Array.toList e
    simp at e
    obtain ⟨rfl, rfl⟩ := e
    obtain ⟨d, rfl⟩ := Int.eq_ofNat_of_zero_le h1
    obtain ⟨s, rfl⟩ := Int.eq_ofNat_of_zero_le h3
    have hn : n1 = 4 := by
      obtain ⟨q1, q2, q3⟩ := hd.form
      injection q3 with _ q4 _
      rw [q4, ha.1]
    subst hn
    obtain ⟨b, off, c', b', off', u', n', cc', rfl, hc1, hc2, hb, h3c⟩ := ArrG.cell hd ha (k := d) (s := s) (by omega) (by omega)
    have hl := hb.here.len
    unfold maxLen at hl
    obtain ⟨_, _, e2, -⟩ := hb.here
    injection e2 with _ e3 _
    simp only [Int.toNat_natCast] at h6
    rw [← e3] at h6 hl
    have gA := Grow.alloc w (.cells #[.slice (some ⟨b, off, none⟩) 4 c1, .slice a2 n2 c2] 26)
    have gB := gA.trans (Grow.alloc _ (.cells #[.slice none 0 0, .slice none 0 0] 26))
    have hc1' := gB.at hc1
    have hc2' := gB.at hc2
    have hdi : (d : Int) < 4 := by omega
    have hsi : (s : Int) < 3 := by omega
    clear hc1 hc2 hd hit hb gA gB hgF h
    go_enter Try.func28, Try.ntmps28
    go_wp2
    refine bodyPost_ret (results_two1 Try.results28 _ _ (w.heap.size + 1) _ rfl Try.underlying26 rfl Try.sizeA (x := .slice (some ⟨b, off, none⟩) 4 c1) (y := .slice a2 n2 c2) (by simp) (by simp)) rfl ?_
    exact ⟨_, ret_bs2 HE.out.1.symm, by rw [HE.out.2]; exact hfin.out.1, hfin.out.2⟩
  all_goals
    clear hd hit e h hgF
    go_enter Try.func28, Try.ntmps28
    go_wp2
    refine bodyPost_ret (results_two1 Try.results28 _ _ (w.heap.size + 1) _ rfl Try.underlying26 rfl Try.sizeA (x := .slice a1 n1 c1) (y := .slice a2 n2 c2) (by simp) (by simp)) rfl ?_
    exact ⟨_, ret_bs2 HE.out.1.symm, by rw [HE.out.2]; exact hfin.out.1, hfin.out.2⟩

theorem rotB_map (l : List Int) (k : Nat) (z : Int) (h : z = rotI (l.getD k 0)) : (l.map (Value.int .u8)).set k (.int .u8 z) = (rotB l k).map (Value.int .u8) := by rw [rotB, List.map_set, h]

set_option maxRecDepth 20000 in
set_option maxHeartbeats 6400000 in
theorem refRot_yes (v : Value) (a : ArrP) (d s k : Nat) (w : World) (h : ArrV w v a) (ha : Whole a) (hi : Fours a) (hd4 : d < 4) (hs3 : s < 3) (hk : k < (cellAt a d s).length) (h1000 : (cellAt a d s).length ≤ 1000) :
    Calls Try.prog 28 #[v, .int .i64 d, .int .i64 s, .int .i64 k] w fun e w' => ∃ r, e = .returned (.tuple #[r, .int .i64 0]) ∧ ArrV w' r (withL a d s (rotB (cellAt a d s) k)) ∧ Grow w w' := by
  obtain ⟨i0, hj, hz0, hz1, hz2⟩ := info_parts Try.infoB
  obtain ⟨dv, iv, e, hd, hit⟩ := ArrX.old (g := none) h (Grow.refl w) (fun _ h => nomatch h) |>.toG
  obtain ⟨a1, n1, c1, a2, n2, c2, rfl⟩ := h.form
  simp only [Value.agg.injEq] at e
  have e := congrArg Array.toList e
  simp at e
  obtain ⟨rfl, rfl⟩ := e
  have hn : n1 = 4 := by
    obtain ⟨q1, q2, q3⟩ := hd.form
    injection q3 with _ q4 _
    rw [q4, ha.1]
  subst hn
  obtain ⟨b, off, c', b', off', u', n', cc', rfl, hc1, hc2, hbo, h3c⟩ := ArrG.cell hd ha hd4 hs3
  have hb := hbo.here
  have hoc := hb.octets
  have hll := hb.len
  unfold maxLen at hll
  obtain ⟨ao, cb, e2, hcl, -, -, -, hcs⟩ := hb
  injection e2 with e4 e3 e5
  subst e4 e5
  obtain ⟨bb, ob, rfl, -⟩ := hcs (by omega)
  have HS : Hid (∀ (j : Nat) u, ((cellAt a d s).map (Value.int .u8))[j]? = some u → w.cell? ((⟨bb, ob, none⟩ : Addr).add j) = some u) := fun j u hu => hcs.src _ rfl j u hu
  have HL : Hid ((cellAt a d s).length = n') := e3.symm
  have hkn : k < n' := by omega
  have hn1000 : n' ≤ 1000 := by omega
  have hwW := withL_whole (s := s) ha hd4 (rotB (cellAt a d s) k)
  have hwF : Fours (withL a d s (rotB (cellAt a d s) k)) := hi
  generalize cellAt a d s = l at *
  clear hk e3 hcs hbo h1000 hll
  obtain ⟨W, hW⟩ : ∃ W, W = (w.alloc (.cells #[.slice (some ⟨b, off, none⟩) 4 c1, .slice a2 n2 c2] 26)).alloc (.cells #[.slice none 0 0, .slice none 0 0] 26) := ⟨_, rfl⟩
  have hgW : Grow w W := by rw [hW]; exact (Grow.alloc _ _).trans (Grow.alloc _ _)
  have hI : BInv w w.heap.size (w.heap.size + 1) (.slice (some ⟨b, off, none⟩) 4 c1) (.slice a2 n2 c2) a W := ⟨by rw [hW]; exact ⟨(heap_alloc_old _ _ (by simp)).trans (heap_alloc_new w _), heap_alloc2_new w _ _⟩, h.grow hgW, hgW⟩
  have HW : Hid (W.heap.size = w.heap.size + 1 + 1) := by rw [Hid, hW]; simp
  have HE0 : Hid ((W.alloc (.cells #[] 5)).heap[w.heap.size + 1 + 1]? = some (.cells #[] 5 (0, 0))) := by
    have := heap_alloc_new W (.cells #[] 5)
    rw [HW.out] at this
    exact this
  have gE : Grow W (W.alloc (.cells #[] 5)) := Grow.alloc _ _
  have hc1' := (hgW.trans gE).at hc1
  have hc2' := (hgW.trans gE).at hc2
  have hc1'' := hgW.at hc1
  have hc2'' := hgW.at hc2
  have hdi : (d : Int) < 4 := by omega
  have hsi : (s : Int) < 3 := by omega
  have hki : (k : Int) < n' := by omega
  have HH : Hid (∀ (j : Nat) u, (l.map (Value.int .u8))[j]? = some u → W.cell? ((⟨bb, ob, none⟩ : Addr).add j) = some u) := fun j u hu => hgW.at (HS.out j u hu)
  have hx := getD_bd hoc k
  have Hl : Hid ((l.map (Value.int .u8)).length = n') := by rw [Hid, List.length_map]; exact HL.out
  have Hk : Hid ((l.map (Value.int .u8))[k]? = some (.int .u8 (l.getD k 0))) := by
    rw [Hid, List.getElem?_map]
    have := HL.out
    simp [List.getD_eq_getElem?_getD, show k < l.length by omega]
  have qa0 := two_at0 hI.1.out.1
  have qa1 := two_at1 hI.1.out.1
  have qa0' := gE.at qa0
  have qa1' := gE.at qa1
  have t1 : decide ((d : Int) < 0) = false := by simp
  have t2 : decide (3 < (d : Int)) = false := by simp; omega
  have t3 : decide ((s : Int) < 0) = false := by simp
  have t4 : decide (2 < (s : Int)) = false := by simp; omega
  have t5 : decide ((k : Int) < 0) = false := by simp
  have qr0 := two_at0 hI.1.out.2
  have qr1 := two_at1 hI.1.out.2
  have fr0 : W.frozen? ⟨w.heap.size + 1, 0, none⟩ = false := frozen_of_row W _ 0 _ _ hI.1.out.2
  have fr1 : W.frozen? ⟨w.heap.size + 1, 1, none⟩ = false := frozen_of_row W _ 1 _ _ hI.1.out.2
  have HM : Hid (∀ (z : Int) (w1 : World) (g1 cg : Nat), z = rotI (l.getD k 0) → w1.ownsRow W.heap.size 5 1 (.slice (some ⟨g1, 0, none⟩) n' cg) n' (l.map (Value.int .u8)) → Grow W w1 → W.heap.size ≤ g1 →
      Bs (w1.setCell ⟨g1, k, none⟩ (.int .u8 z)) (.slice (some ⟨g1, 0, none⟩) n' cg) (rotB l k) ∧ Grow W (w1.setCell ⟨g1, k, none⟩ (.int .u8 z))) := fun z w1 g1 cg hz ho hg hle =>
    ⟨Bs.of_own (by have := (ho.stored k (.int .u8 z)).1; rw [rotB_map l k z hz] at this; exact this) (rotB_octets hoc k), hg.set hle _⟩
  generalize l.getD k 0 = x at *
  by_cases hp : x % 2 = 0
  · have HR : Hid (rotI x = x + 1) := if_pos hp
    go_enter Try.func28, Try.ntmps28
    subst hW
    go_wp2_with (first
      | (at_builtin; refine wpList_append_copy rfl (.tmp 43) (.tmp 51) 52 rfl 5 i0 (.int .u8 0) 1 Try.underlying52 hj hz0 hz1 hz2 rfl (w.heap.size + 1 + 1) HE0.out _ gE (Nat.le_of_eq HW.out) rfl ⟨bb, ob, none⟩ n' cc' (l.map (Value.int .u8)) rfl Hl.out HH.out (u8_oneCell _) (by omega) (by omega) (by omega) ?_; rintro g1 cg w1 hown hg1 hle - - -; have kx : w1.cell? ⟨g1, k, none⟩ = some (.int .u8 x) := (hown.cellAt k (by omega)).trans (Hk.out); have fx : w1.frozen? ⟨g1, k, none⟩ = false := hown.frozenAt k; have hX := HM.out (x + 1) w1 g1 cg HR.out.symm hown hg1 hle; have HX : Hid (_ ∧ _) := hX; have b0 := hX.2.at qa0; have b1 := hX.2.at qa1; clear hown hle hX))
    refine (refWith_any _ _ a d s (rotB l k) _ (h.grow (hgW.trans HX.out.2)) ha hd4 hs3 HX.out.1).mono ?_
    rintro e w5 ⟨r, rfl, hr, hg5⟩
    obtain ⟨p1, p2, p3, o1, o2, o3, rfl⟩ := hr.form
    have hg15 := HX.out.2.trans hg5
    have b05 := hg15.at qr0
    have b15 := hg15.at qr1
    have f05 := (hg15.frozen (a := ⟨w.heap.size + 1, 0, none⟩) (cell_lt qr0)).trans fr0
    have f15 := (hg15.frozen (a := ⟨w.heap.size + 1, 1, none⟩) (cell_lt qr0)).trans fr1
    have hb5 := two_set1 (z := .slice o1 o2 o3) (two_set0 (z := .slice p1 p2 p3) (hg15.block' hI.1.out.2))
    have z0 := two_at0 hb5
    have z1 := two_at1 hb5
    have hfin : Hid (_ ∧ _) := ⟨Two.store (R := w.heap.size + 1) ⟨_, _, _, _, _, _, _, hg15.block' hI.1.out.2⟩ hr hwW hwF (.slice p1 p2 p3) (.slice o1 o2 o3), ((hgW.trans hg15).set (g := w.heap.size + 1) (k := 0) (by omega) (.slice p1 p2 p3)).set (g := w.heap.size + 1) (k := 1) (by omega) (.slice o1 o2 o3)⟩
    clear hb5 hr
    go_wp2
    refine bodyPost_ret (results_two1 Try.results28 _ _ (w.heap.size + 1) _ rfl Try.underlying26 rfl Try.sizeA z0 z1) rfl ?_
    exact ⟨_, rfl, hfin.out.1, hfin.out.2⟩
  · have HR : Hid (rotI x = x - 1) := if_neg hp
    go_enter Try.func28, Try.ntmps28
    subst hW
    go_wp2_with (first
      | (at_builtin; refine wpList_append_copy rfl (.tmp 43) (.tmp 51) 52 rfl 5 i0 (.int .u8 0) 1 Try.underlying52 hj hz0 hz1 hz2 rfl (w.heap.size + 1 + 1) HE0.out _ gE (Nat.le_of_eq HW.out) rfl ⟨bb, ob, none⟩ n' cc' (l.map (Value.int .u8)) rfl Hl.out HH.out (u8_oneCell _) (by omega) (by omega) (by omega) ?_; rintro g1 cg w1 hown hg1 hle - - -; have kx : w1.cell? ⟨g1, k, none⟩ = some (.int .u8 x) := (hown.cellAt k (by omega)).trans (Hk.out); have fx : w1.frozen? ⟨g1, k, none⟩ = false := hown.frozenAt k; have hX := HM.out (x - 1) w1 g1 cg HR.out.symm hown hg1 hle; have HX : Hid (_ ∧ _) := hX; have b0 := hX.2.at qa0; have b1 := hX.2.at qa1; clear hown hle hX))
    refine (refWith_any _ _ a d s (rotB l k) _ (h.grow (hgW.trans HX.out.2)) ha hd4 hs3 HX.out.1).mono ?_
    rintro e w5 ⟨r, rfl, hr, hg5⟩
    obtain ⟨p1, p2, p3, o1, o2, o3, rfl⟩ := hr.form
    have hg15 := HX.out.2.trans hg5
    have b05 := hg15.at qr0
    have b15 := hg15.at qr1
    have f05 := (hg15.frozen (a := ⟨w.heap.size + 1, 0, none⟩) (cell_lt qr0)).trans fr0
    have f15 := (hg15.frozen (a := ⟨w.heap.size + 1, 1, none⟩) (cell_lt qr0)).trans fr1
    have hb5 := two_set1 (z := .slice o1 o2 o3) (two_set0 (z := .slice p1 p2 p3) (hg15.block' hI.1.out.2))
    have z0 := two_at0 hb5
    have z1 := two_at1 hb5
    have hfin : Hid (_ ∧ _) := ⟨Two.store (R := w.heap.size + 1) ⟨_, _, _, _, _, _, _, hg15.block' hI.1.out.2⟩ hr hwW hwF (.slice p1 p2 p3) (.slice o1 o2 o3), ((hgW.trans hg15).set (g := w.heap.size + 1) (k := 0) (by omega) (.slice p1 p2 p3)).set (g := w.heap.size + 1) (k := 1) (by omega) (.slice o1 o2 o3)⟩
    clear hb5 hr
    go_wp2
    refine bodyPost_ret (results_two1 Try.results28 _ _ (w.heap.size + 1) _ rfl Try.underlying26 rfl Try.sizeA z0 z1) rfl ?_
    exact ⟨_, rfl, hfin.out.1, hfin.out.2⟩

theorem refRot_any (v : Value) (a : ArrP) (d s k : Int) (w : World) (h : ArrV w v a) (ha : Whole a) (hi : Fours a) (h1000 : ∀ d s, (cellAt a d s).length ≤ 1000) :
    Calls Try.prog 28 #[v, .int .i64 d, .int .i64 s, .int .i64 k] w fun e w' => ∃ r, e = .returned (.tuple #[r, .int .i64 (rotE a d s k)]) ∧ ArrV w' r (rotL a d s k) ∧ Grow w w' := by
  by_cases hk : rotOk a d s k
  · have hk' := hk
    obtain ⟨h1, h2, h3, h4, h5, h6⟩ := hk'
    obtain ⟨d, rfl⟩ := Int.eq_ofNat_of_zero_le h1
    obtain ⟨s, rfl⟩ := Int.eq_ofNat_of_zero_le h3
    obtain ⟨k, rfl⟩ := Int.eq_ofNat_of_zero_le h5
    simp only [Int.toNat_natCast] at h6
    rw [rotE, rotL, if_pos hk, if_pos hk]
    simp only [Int.toNat_natCast]
    exact refRot_yes v a d s k w h ha hi (by omega) (by omega) (by omega) (h1000 d s)
  · exact refRot_no v a d s k w h ha hk

end Go.Proofs.Ytjggiameajndgac

/-
  What the reference's Worst and Mend return. Nothing old turns.
-/
namespace Go.Proofs.Ytjggiameajndgac
open Go.RowKit

/-- How many cells of stripe s are none. -/
def badN (a : ArrP) (s : Nat) : Nat := (badL (cellsL a s) s).length

/-- Of one of the first k stripes, at most. -/
def worstTo (a : ArrP) : Nat → Nat
  | 0 => 0
  | k + 1 => if worstTo a k < badN a k then badN a k else worstTo a k

def worstN (a : ArrP) : Nat := worstTo a 3

theorem badN_le {a : ArrP} (ha : Whole a) (s : Nat) : badN a s ≤ 4 := by
  have := badTo_length (cellsL a s) s (cellsL a s).length
  rw [cellsL_length, ha.1] at this
  unfold badN badL
  rw [cellsL_length, ha.1]
  exact this

theorem worstTo_le {a : ArrP} (ha : Whole a) : ∀ k, worstTo a k ≤ 4
  | 0 => by simp [worstTo]
  | k + 1 => by
    have := badN_le ha k
    have := worstTo_le ha k
    rw [worstTo]
    split <;> omega

set_option maxRecDepth 20000 in
set_option maxHeartbeats 1600000 in
theorem refWorst_any (v : Value) (a : ArrP) (w : World) (h : ArrV w v a) (ha : Whole a) :
    Calls Try.prog 20 #[v] w fun e w' => e = .returned (.int .i64 (worstN a)) ∧ Grow w w' := by
  have harr := h
  obtain ⟨a1, n1, c1, a2, n2, c2, rfl⟩ := h.form
  clear h
  have hgA : Grow w (w.alloc (.cells #[.slice a1 n1 c1, .slice a2 n2 c2] 26)) := Grow.alloc _ _
  have hwl := fun k => worstTo_le ha k
  have hbl := fun k => badN_le ha k
  go_enter Try.func20, Try.ntmps20
  go_wp2
  obtain ⟨w1, hw1⟩ : ∃ w1, w1 = w.alloc (.cells #[.slice a1 n1 c1, .slice a2 n2 c2] 26) := ⟨_, rfl⟩
  have k0 : w1.cell? ⟨w.heap.size, 0, none⟩ = some (.slice a1 n1 c1) := by rw [hw1]; simp
  have k1 : w1.cell? ⟨w.heap.size, 1, none⟩ = some (.slice a2 n2 c2) := by rw [hw1]; simp
  rw [← hw1] at hgA ⊢
  clear hw1
  go_loopw [3, 6] (fun m i wr => ∃ (k n : Nat), k ≤ 3 ∧ i = .int .i64 k ∧ m = .int .i64 n ∧ n ≤ 4 ∧ Hid (n = worstTo a k) ∧ Grow w1 wr) (fun _ i _ => 3 - (intOf i).toNat)
  case atStart => exact ⟨0, 0, by omega, rfl, rfl, by omega, rfl, Grow.refl _⟩
  case round =>
    obtain ⟨k, n, hk, rfl, rfl, hn4, HN, hgr⟩ := hrel
    by_cases hlt : k < 3
    · have c0 := hgr.at k0
      have c1 := hgr.at k1
      have hgw := hgA.trans hgr
      clear k0 k1
      go_wp2_with fail
      refine (refCells_any _ a k _ (harr.grow hgw) ha hlt).mono ?_
      rintro e w2 ⟨rc, rfl, hrc, hg2⟩
      go_wp2_with fail
      refine (refBad_any _ _ k _ hrc (by rw [cellsL_length, ha.1]; omega)).mono ?_
      rintro e w3 ⟨rb, rfl, hrb, hg3⟩
      obtain ⟨ab, cb, rfl, hb1, hb2⟩ := hrb.form'
      have hlen : (ints (badL (cellsL a k) k)).length = badN a k := by simp [ints, badN]
      rw [hlen] at hb1 ⊢
      have hb4 := hbl k
      have hgr3 := (hgr.trans hg2).trans hg3
      have HS : Hid (worstTo a (k + 1) = if worstTo a k < badN a k then badN a k else worstTo a k) := rfl
      clear hrb hrc hlen hwl hbl
      generalize badN a k = bn at *
      by_cases hlt2 : n < bn
      · have HN' : Hid (bn = worstTo a (k + 1)) := by rw [Hid, HS.out, ← HN.out, if_pos hlt2]
        go_wp2
        go_roundw
        case rel => first | exact ⟨k + 1, bn, by omega, by go_num, rfl, hb4, HN', hgr3⟩ | ((repeat apply Exists.intro); exact ⟨⟨k + 1, bn, by omega, by go_num, rfl, hb4, HN', hgr3⟩, rfl⟩)
        case measure => simp [intOf]; omega
      · have HN' : Hid (n = worstTo a (k + 1)) := by rw [Hid, HS.out, ← HN.out, if_neg hlt2]
        go_wp2
        go_roundw
        case rel => first | exact ⟨k + 1, n, by omega, by go_num, rfl, hn4, HN', hgr3⟩ | ((repeat apply Exists.intro); exact ⟨⟨k + 1, n, by omega, by go_num, rfl, hn4, HN', hgr3⟩, rfl⟩)
        case measure => simp [intOf]; omega
    · obtain rfl : k = 3 := by omega
      go_wp2
      go_ret
      exact ⟨ret_int (by rw [HN.out]; rfl), hgA.trans hgr⟩

theorem ret_arr3 {v : Value} {k2 k3 : IntKind} {a2 b2 a3 b3 : Int} (h2 : a2 = b2) (h3 : a3 = b3) : Ending.returned (.tuple #[v, .int k2 a2, .int k3 a3]) = .returned (.tuple #[v, .int k2 b2, .int k3 b3]) := by rw [h2, h3]

/-- Cells of stripe s, the first k of them. -/
def putTo (a : ArrP) (cs : List (List Int)) (s : Nat) : Nat → ArrP
  | 0 => a
  | k + 1 => withL (putTo a cs s k) k s (cs.getD k [])

def mendE (a : ArrP) (s : Int) : Int := if s < 0 ∨ 2 < s then 3 else dataE (cellsL a s.toNat) s
def mendN (a : ArrP) (s : Int) : Nat := if s < 0 ∨ 2 < s then 0 else badN a s.toNat
def mendL (a : ArrP) (s : Int) : ArrP := if (s < 0 ∨ 2 < s) ∨ dataE (cellsL a s.toNat) s ≠ 0 then a else putTo a (makeL (dataL (cellsL a s.toNat) s) s) s.toNat 4

theorem putTo_whole {a : ArrP} (ha : Whole a) (cs : List (List Int)) (s : Nat) : ∀ k, k ≤ 4 → Whole (putTo a cs s k)
  | 0, _ => ha
  | k + 1, h => withL_whole (putTo_whole ha cs s k (by omega)) (by omega) _

theorem putTo_fours {a : ArrP} (ha : Fours a) (cs : List (List Int)) (s : Nat) : ∀ k, Fours (putTo a cs s k)
  | 0 => ha
  | k + 1 => by
    have := putTo_fours ha cs s k
    exact this

theorem dataL_blocks {ls : List (List Int)} {s : Int} (h : dataE ls s = 0) : ∀ b ∈ dataL ls s, b.length = 4 := by
  unfold dataE at h
  split at h
  · cases h
  rename_i h1
  intro b hb
  rw [dataL, if_neg h1] at hb
  obtain ⟨d, hd, rfl⟩ := List.mem_map.1 hb
  unfold datAt
  split
  · rfl
  · rename_i h2
    exact readX_length (by simpa [isBad] using h2)

theorem makeL_length (ds : List (List Int)) (s : Int) : (makeL ds s).length = ds.length := by simp [makeL]

set_option maxRecDepth 20000 in
set_option maxHeartbeats 6400000 in
theorem refMend_any (v : Value) (a : ArrP) (s : Int) (w : World) (h : ArrV w v a) (ha : Whole a) (hi : Fours a) :
    Calls Try.prog 17 #[v, .int .i64 s] w fun e w' => ∃ r, e = .returned (.tuple #[r, .int .i64 (mendN a s), .int .i64 (mendE a s)]) ∧ ArrV w' r (mendL a s) ∧ Grow w w' := by
  obtain ⟨a1, n1, c1, a2, n2, c2, rfl⟩ := h.form
  obtain ⟨W, hW⟩ : ∃ W, W = (w.alloc (.cells #[.slice a1 n1 c1, .slice a2 n2 c2] 26)).alloc (.cells #[.slice none 0 0, .slice none 0 0] 26) := ⟨_, rfl⟩
  have hgW : Grow w W := by rw [hW]; exact (Grow.alloc _ _).trans (Grow.alloc _ _)
  have hI : BInv w w.heap.size (w.heap.size + 1) (.slice a1 n1 c1) (.slice a2 n2 c2) a W := ⟨by rw [hW]; exact ⟨(heap_alloc_old _ _ (by simp)).trans (heap_alloc_new w _), heap_alloc2_new w _ _⟩, h.grow hgW, hgW⟩
  by_cases hs : s < 0 ∨ 2 < s
  · have HE : Hid ((mendN a s : Int) = 0 ∧ mendE a s = 3 ∧ mendL a s = a) := ⟨by rw [mendN, if_pos hs]; rfl, if_pos hs, if_pos (.inl hs)⟩
    clear hI
    have hgF : Grow w ((w.alloc (.cells #[.slice a1 n1 c1, .slice a2 n2 c2] 26)).alloc (.cells #[.slice a1 n1 c1, .slice a2 n2 c2] 26)) := (Grow.alloc _ _).trans (Grow.alloc _ _)
    have hfin : Hid (_ ∧ _) := ⟨h.grow hgF, hgF⟩
    clear h hgF hgW hW
    have hs' : s < 0 ∨ (0 ≤ s ∧ 2 < s) := by omega
    clear hs
    rcases hs' with hs | ⟨hs0, hs⟩
    all_goals
      go_enter Try.func17, Try.ntmps17
      go_wp2
      refine bodyPost_ret (results_two2 Try.results17 _ _ (w.heap.size + 1) _ rfl Try.underlying26 rfl Try.sizeA (x := .slice a1 n1 c1) (y := .slice a2 n2 c2) (by simp) (by simp)) rfl ?_
      exact ⟨_, ret_arr3 HE.out.1.symm HE.out.2.1.symm, by rw [HE.out.2.2]; exact hfin.out.1, hfin.out.2⟩
  · obtain ⟨s, rfl⟩ := Int.eq_ofNat_of_zero_le (show 0 ≤ s by omega)
    have hs3 : s < 3 := by omega
    have HE : Hid (mendN a (s : Int) = badN a s ∧ mendE a (s : Int) = dataE (cellsL a s) s ∧ (dataE (cellsL a s) s ≠ 0 → mendL a (s : Int) = a) ∧ (dataE (cellsL a s) s = 0 → mendL a (s : Int) = putTo a (makeL (dataL (cellsL a s) s) s) s 4)) :=
      ⟨(if_neg hs).trans (by simp), (if_neg hs).trans (by simp), fun h => if_pos (.inr (by simpa using h)), fun h => (if_neg (by simp only [Int.toNat_natCast]; exact fun h' => h'.elim hs (fun h' => h' h))).trans (by simp)⟩
    have hs' : ¬ 2 < (s : Int) := by omega
    have hb4 := badN_le ha s
    clear hs h
    go_enter Try.func17, Try.ntmps17
    have q0 := two_at0 hI.1.out.1
    have q1 := two_at1 hI.1.out.1
    subst hW
    go_wp2_with fail
    refine (refCells_any _ a s _ hI.2.1.out ha hs3).mono ?_
    rintro e w2 ⟨rc, rfl, hrc, hg2⟩
    go_wp2_with fail
    refine (refBad_any _ _ s _ hrc (by rw [cellsL_length, ha.1]; omega)).mono ?_
    rintro e w3 ⟨rb, rfl, hrb, hg3⟩
    obtain ⟨ab, cb, rfl, hb1, hb2⟩ := hrb.form'
    have hlen : (ints (badL (cellsL a s) s)).length = badN a s := by simp [ints, badN]
    rw [hlen] at hb1 ⊢
    clear hrb hlen
    go_wp2_with fail
    refine (refData_any _ _ s _ (hrc.grow hg3) (by rw [cellsL_length, ha.1]; omega)).mono ?_
    rintro e w4 ⟨rd, rfl, hrd, hg4⟩
    have hg24 := (hg2.trans hg3).trans hg4
    have hI4 : BInv w w.heap.size (w.heap.size + 1) (.slice a1 n1 c1) (.slice a2 n2 c2) a w4 := ⟨⟨hg24.block' hI.1.out.1, hg24.block' hI.1.out.2⟩, hI.2.1.out.grow hg24, hgW.trans hg24⟩
    clear hI hrc hg2 hg3 hg4 hg24 q0 q1 hgW
    have b0 := two_at0 hI4.1.out.1
    have b1 := two_at1 hI4.1.out.1
    have r0 := two_at0 hI4.1.out.2
    have r1 := two_at1 hI4.1.out.2
    have f0 : w4.frozen? ⟨w.heap.size + 1, 0, none⟩ = false := frozen_of_row w4 _ 0 _ _ hI4.1.out.2
    have f1 : w4.frozen? ⟨w.heap.size + 1, 1, none⟩ = false := frozen_of_row w4 _ 1 _ _ hI4.1.out.2
    by_cases hde : dataE (cellsL a s) s = 0
    · have hdb := dataL_blocks hde
      have hdl := dataL_length hde
      rw [cellsL_length, ha.1] at hdl
      have Hf : Hid (mendN a (s : Int) = badN a s ∧ mendE a (s : Int) = 0 ∧ mendL a (s : Int) = putTo a (makeL (dataL (cellsL a s) s) s) s 4) := ⟨HE.out.1, HE.out.2.1.trans hde, HE.out.2.2.2 hde⟩
      have hcl : (makeL (dataL (cellsL a s) s) (s : Int)).length = 4 := by rw [makeL_length, hdl]
      clear HE r0 r1 f0 f1
      generalize dataE (cellsL a s) s = E at *
      subst hde
      generalize badN a s = bn at *
      go_wp2_with fail
      refine (refMake_any _ _ s _ hrd (by omega) (by omega) hdb).mono ?_
      rintro e w5 ⟨rm, rfl, hrm, hg5⟩
      have hcs := hrm.done
      have hI5 : BInv w w.heap.size (w.heap.size + 1) (.slice a1 n1 c1) (.slice a2 n2 c2) a w5 := ⟨⟨hg5.block' hI4.1.out.1, hg5.block' hI4.1.out.2⟩, hI4.2.1.out.grow hg5, hI4.2.2.trans hg5⟩
      clear hrm hrd hI4 hdb hdl b0 b1 hg5
      generalize makeL (dataL (cellsL a s) s) (s : Int) = cs at *
      obtain ⟨am, cm, rfl, hm1, hm2⟩ := hcs.form'
      have HL : Hid (cs.length = 4) := hcl
      rw [hcl] at hcs hm1 ⊢
      clear hcl
      have hw4 := fun k (hk : k ≤ 4) => putTo_whole ha cs s k hk
      have hf4 := fun k => putTo_fours hi cs s k
      go_wp2
      go_loopw [42] (fun q wr => ∃ (k : Nat) (x y : Value), k ≤ 4 ∧ q = .int .i64 k ∧ BInv w w.heap.size (w.heap.size + 1) x y (putTo a cs s k) wr ∧ Hid (Bss wr (.slice am 4 cm) cs)) (fun q _ => 4 - (intOf q).toNat)
      case atStart => exact ⟨0, _, _, by omega, rfl, hI5, hcs⟩
      case round =>
        obtain ⟨k, x, y, hk, rfl, hB, HC⟩ := hrel
        have HB : Hid (BInv w w.heap.size (w.heap.size + 1) x y (putTo a cs s k) wr) := hB
        obtain ⟨⟨h1, h2⟩, HV, hgr⟩ := hB
        obtain ⟨⟨x1, x2, x3, rfl⟩, y1, y2, y3, rfl⟩ := HV.out.form2
        have H1 : Hid (wr.heap[w.heap.size]? = some (.cells #[.slice x1 x2 x3, .slice y1 y2 y3] 26 (0, 0))) := h1
        have b0 := two_at0 h1
        have b1 := two_at1 h1
        have r0 := two_at0 h2
        have r1 := two_at1 h2
        have fA0 : wr.frozen? ⟨w.heap.size, 0, none⟩ = false := frozen_of_row wr _ 0 _ _ h1
        have fA1 : wr.frozen? ⟨w.heap.size, 1, none⟩ = false := frozen_of_row wr _ 1 _ _ h1
        have f0 : wr.frozen? ⟨w.heap.size + 1, 0, none⟩ = false := frozen_of_row wr _ 0 _ _ h2
        have f1 : wr.frozen? ⟨w.heap.size + 1, 1, none⟩ = false := frozen_of_row wr _ 1 _ _ h2
        clear h1 h2
        by_cases hlt : k < 4
        · obtain ⟨bm, om, uk, e1, hck, hbk⟩ := HC.out.elem (k := k) (by have := HL.out; omega) []
          subst e1
          obtain ⟨z1, z2, z3, rfl⟩ := hbk.form
          go_wp2_with fail
          refine (refWith_any _ _ (putTo a cs s k) k s (cs.getD k []) _ HV.out (hw4 k hk) hlt hs3 hbk).mono ?_
          rintro e w6 ⟨r, rfl, hr, hg6⟩
          obtain ⟨p1, p2, p3, q1, q2, q3, rfl⟩ := hr.form
          have HN : Hid (BInv w w.heap.size (w.heap.size + 1) _ _ (putTo a cs s (k + 1)) _) := BInv.put HB.out hg6 hr (hw4 (k + 1) (by omega)) (hf4 (k + 1)) (Nat.le_refl _) (by omega)
          have HC' : Hid (Bss ((w6.setCell ⟨w.heap.size, 0, none⟩ (.slice p1 p2 p3)).setCell ⟨w.heap.size, 1, none⟩ (.slice q1 q2 q3)) (.slice (some ⟨bm, om, none⟩) 4 cm) cs) :=
            BssX.plain (BssX.step (BssX.step (Two.bss (R := w.heap.size) ⟨_, _, _, _, _, _, _, hg6.block' H1.out⟩ (HC.out.grow hg6) (by have := HL.out; omega)) (by_set w6 _ 0 _)) (by_set _ _ 1 _))
          have b06 := hg6.at b0
          have b16 := hg6.at b1
          have f06 := (hg6.frozen (a := ⟨w.heap.size, 0, none⟩) (cell_lt b0)).trans fA0
          have f16 := (hg6.frozen (a := ⟨w.heap.size, 1, none⟩) (cell_lt b0)).trans fA1
          clear HB HV hr hw4 hf4 HC hbk H1
          go_wp2
          go_roundw
          case rel => first | exact ⟨k + 1, _, _, by omega, by go_num, HN.out, HC'⟩ | ((repeat apply Exists.intro); exact ⟨⟨k + 1, _, _, by omega, by go_num, HN.out, HC'⟩, rfl⟩)
          case measure => simp [intOf]; omega
        · obtain rfl : k = 4 := by omega
          obtain ⟨hv, hg, z0, z1⟩ := HB.out.done (hw4 4 (by omega)) (hf4 4) (by omega)
          have hfin : Hid (_ ∧ _) := ⟨hv, hg⟩
          clear hv hg HB HV hw4 hf4 HC H1
          go_wp2
          refine bodyPost_ret (results_two2 Try.results17 _ _ (w.heap.size + 1) _ rfl Try.underlying26 rfl Try.sizeA z0 z1) rfl ?_
          exact ⟨_, ret_arr3 (by rw [Hf.out.1]) Hf.out.2.1.symm, by rw [Hf.out.2.2]; exact hfin.out.1, hfin.out.2⟩
    · obtain ⟨hv, hg, z0, z1⟩ := hI4.done ha hi (by omega)
      have hfin : Hid (mendN a (s : Int) = badN a s ∧ mendE a (s : Int) = dataE (cellsL a s) s ∧ mendL a (s : Int) = a ∧ _ ∧ _) := ⟨HE.out.1, HE.out.2.1, HE.out.2.2.1 hde, hv, hg⟩
      clear hv hg HE hrd hI4
      generalize dataE (cellsL a s) s = E at *
      generalize badN a s = bn at *
      have he' : (E != 0) = true := by simpa using hde
      go_wp2
      refine bodyPost_ret (results_two2 Try.results17 _ _ (w.heap.size + 1) _ rfl Try.underlying26 rfl Try.sizeA z0 z1) rfl ?_
      exact ⟨_, ret_arr3 (by rw [hfin.out.1]) hfin.out.2.1.symm, by rw [hfin.out.2.2.1]; exact hfin.out.2.2.2.1, hfin.out.2.2.2.2⟩

end Go.Proofs.Ytjggiameajndgac
