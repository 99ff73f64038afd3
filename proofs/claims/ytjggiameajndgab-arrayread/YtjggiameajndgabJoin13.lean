import Derived.Test.YtjggiameajndgabJoin12
/-
  What the program's array.Own returns: an array of the call's own. Nothing old turns.
-/
namespace Go.Proofs.Ytjggiameajndgab
open Go.RowKit

/-- A slice of one row, behind n, that reads as these. -/
def OneRow (n : Nat) (cs : List (List Int)) (v : Value) (w : World) : Prop := ∃ H r, v = .slice (some ⟨H, 0, none⟩) 1 1 ∧ w.heap[H]? = some (.cells #[.slice (some ⟨r, 0, none⟩) cs.length cs.length] 22 (0, 0)) ∧ n ≤ H ∧ n ≤ r ∧ DRow r cs w
theorem OneRow.stable {n : Nat} (cs : List (List Int)) : ∀ (v : Value) (x y : World), OneRow n cs v x → Grow x y → OneRow n cs v y := fun _ _ _ ⟨H, r, h1, h2, h3, h4, h5⟩ hg => ⟨H, r, h1, hg.block' h2, h3, h4, h5.grow hg⟩

/-- Disks that have one row more, behind n. -/
def MoreD (B n : Nat) (bs : List Nat) (ds : List (List (List Int))) (v : Value) (w : World) : Prop := ∃ r g c, v = .slice (some ⟨g, 0, none⟩) ds.length c ∧ n ≤ r ∧ DRows B (bs ++ [r]) ds w v
theorem MoreD.stable {B n : Nat} {bs : List Nat} (ds : List (List (List Int))) : ∀ (v : Value) (x y : World), MoreD B n bs ds v x → Grow x y → MoreD B n bs ds v y := fun _ _ _ ⟨r, g, c, h1, h2, h3⟩ hg => ⟨r, g, c, h1, h2, h3.grow hg⟩

/-- A slice of one intent. -/
def OneInt (n : Nat) (i : Int × List (List Int)) (v : Value) (w : World) : Prop := ∃ H r, v = .slice (some ⟨H, 0, none⟩) 1 1 ∧ w.heap[H]? = some (.cells #[.int .i64 i.1, .slice (some ⟨r, 0, none⟩) i.2.length i.2.length] 62 (0, 0)) ∧ n ≤ r ∧ DRow r i.2 w
theorem OneInt.stable {n : Nat} (i : Int × List (List Int)) : ∀ (v : Value) (x y : World), OneInt n i v x → Grow x y → OneInt n i v y := fun _ _ _ ⟨H, r, h1, h2, h3, h4⟩ hg => ⟨H, r, h1, hg.block' h2, h3, h4.grow hg⟩

/-- Intents, one. -/
def MoreI (bs : List Nat) (i : Int × List (List Int)) (v : Value) (w : World) : Prop := OIts bs w v [i] ∧ ∃ g c, v = .slice (some ⟨g, 0, none⟩) 1 c
theorem MoreI.stable {bs : List Nat} (i : Int × List (List Int)) : ∀ (v : Value) (x y : World), MoreI bs i v x → Grow x y → MoreI bs i v y := fun _ _ _ h hg => ⟨h.1.k4 hg.k4, h.2⟩

theorem Try.infoN : (Try.prog.info? 62).map (fun i => (i.zero, i.size, i.bytes)) = some (some (.agg #[.int .i64 0, .slice none 0 0]), 2, 32) := by kernel_rfl

/-- Intents that there are: none, or one of four cells. -/
def Few (a : ArrP) : Prop := a.is = [] ∨ ∃ s cs, a.is = [(s, cs)] ∧ cs.length = 4 ∧ ∀ b ∈ cs, b.length ≤ 8

/-- The three boxes of a call: what came in, the result, what grows. -/
def Boxes3 (n : Nat) (x y r0 r1 d i : Value) (w : World) : Prop := w.heap[n]? = some (.cells #[x, y] 39 (0, 0)) ∧ w.heap[n + 1]? = some (.cells #[r0, r1] 39 (0, 0)) ∧ w.heap[n + 2]? = some (.cells #[d, i] 39 (0, 0))

theorem Boxes3.by {n : Nat} {x y r0 r1 d i : Value} {w w' : World} {g : Option Nat} (h : Boxes3 n x y r0 r1 d i w) (hg : w.grownBy w' g) (hn : ∀ k, g = some k → n + 3 ≤ k) : Boxes3 n x y r0 r1 d i w' := by
  obtain ⟨h1, h2, h3⟩ := h
  refine ⟨(hg.block _ (heap_lt h1) (fun e => by have := hn _ e.symm; omega)).trans h1, (hg.block _ (heap_lt h2) (fun e => by have := hn _ e.symm; omega)).trans h2, (hg.block _ (heap_lt h3) (fun e => by have := hn _ e.symm; omega)).trans h3⟩
theorem Boxes3.grow {n : Nat} {x y r0 r1 d i : Value} {w w' : World} (h : Boxes3 n x y r0 r1 d i w) (hg : Grow w w') : Boxes3 n x y r0 r1 d i w' := h.by (hg.by none) (fun _ h => nomatch h)
theorem Boxes3.set0 {n : Nat} {x y r0 r1 d i u : Value} {w : World} (h : Boxes3 n x y r0 r1 d i w) : Boxes3 n x y r0 r1 u i (w.setCell ⟨n + 2, 0, none⟩ u) := ⟨set_other h.1 (by omega), set_other h.2.1 (by omega), two_set0 h.2.2⟩
theorem Boxes3.set1 {n : Nat} {x y r0 r1 d i u : Value} {w : World} (h : Boxes3 n x y r0 r1 d i w) : Boxes3 n x y r0 r1 d u (w.setCell ⟨n + 2, 1, none⟩ u) := ⟨set_other h.1 (by omega), set_other h.2.1 (by omega), two_set1 h.2.2⟩

theorem take_push {α : Type} (l : List α) (d : α) {k : Nat} (h : k < l.length) : l.take k ++ [l.getD k d] = l.take (k + 1) := by
  rw [List.take_add_one]
  simp [h, List.getD_eq_getElem?_getD]

theorem OwnA.low {B B' : Nat} {bs : List Nat} {w : World} {dv iv : Value} {a : ArrP} (h : OwnA B bs w dv iv a) (hb : B' ≤ B) : OwnA B' bs w dv iv a :=
  ⟨h.whole, ⟨h.disks.len, h.disks.up, fun b hb' => Nat.le_trans hb (h.disks.base b hb'), ⟨h.disks.own.1, h.disks.own.2.imp id fun ⟨g, cap, cur, k1, k2, k3⟩ => ⟨g, cap, cur, k1, Nat.le_trans hb k2, k3⟩⟩, h.disks.rows⟩, h.its⟩

theorem own_end {w wr : World} {x y r0 r1 dv iv : Value} {bs : List Nat} {a : ArrP} (hB : Boxes3 w.heap.size x y r0 r1 dv iv wr) (hO : OwnA (w.heap.size + 3) bs wr dv iv a) (hg : Grow w wr) :
    Hid (OwnA w.heap.size bs ((wr.setCell ⟨w.heap.size + 1, 0, none⟩ dv).setCell ⟨w.heap.size + 1, 1, none⟩ iv) dv iv a ∧ Grow w ((wr.setCell ⟨w.heap.size + 1, 0, none⟩ dv).setCell ⟨w.heap.size + 1, 1, none⟩ iv)) ∧
    ((wr.setCell ⟨w.heap.size + 1, 0, none⟩ dv).setCell ⟨w.heap.size + 1, 1, none⟩ iv).cell? ⟨w.heap.size + 1, 0, none⟩ = some dv ∧ ((wr.setCell ⟨w.heap.size + 1, 0, none⟩ dv).setCell ⟨w.heap.size + 1, 1, none⟩ iv).cell? ⟨w.heap.size + 1, 1, none⟩ = some iv := by
  have h1 := two_set0 (z := dv) hB.2.1
  have h2 := two_set1 (z := iv) h1
  exact ⟨⟨((hO.k4 (K4.set hB.2.1)).k4 (K4.set h1)).low (by omega), (hg.set (by omega) _).set (by omega) _⟩, two_at0 h2, two_at1 h2⟩

set_option maxRecDepth 20000 in
set_option maxHeartbeats 6400000 in
theorem own_any (v : Value) (a : ArrP) (w : World) (h : ArrV w v a) (ha : Whole a) (h8 : ∀ d s, (cellAt a d s).length ≤ 8) (hI : Few a) :
    Calls Try.prog 36 #[v] w fun e w' => ∃ bs dv iv, e = .returned (.agg #[dv, iv]) ∧ OwnA w.heap.size bs w' dv iv a ∧ Grow w w' := by
  obtain ⟨i1, hj, hy0, hy1, hy2⟩ := info_parts Try.infoD
  obtain ⟨dv0, iv0, rfl, hd, hi⟩ := h
  obtain ⟨ad, cd, rfl, hd1, hd2⟩ := Sl.form' hd
  obtain ⟨ai, ci, rfl, hi1, hi2⟩ := hi.form
  have hl4 := ha.1
  have HK : Hid (∀ k, k < 4 → ∃ b off ak ck, ad = some ⟨b, off, none⟩ ∧ w.cell? ⟨b, off + k, none⟩ = some (.slice ak 3 ck) ∧ Bss w (.slice ak 3 ck) (a.ds.getD k []) ∧ (a.ds.getD k []).length = 3 ∧ ∀ b ∈ a.ds.getD k [], b.length ≤ 8) := fun k hk => by
    have hk' : k < a.ds.length := by omega
    have h3 : (a.ds.getD k []).length = 3 := ha.2 _ (by simp [List.getD_eq_getElem?_getD, hk'])
    obtain ⟨b, off, ak, ck, e1, e2, e3⟩ := Sl.elems hd (k := k) hk'
    rw [h3] at e2 e3
    refine ⟨b, off, ak, ck, e1, e2, e3, h3, fun c hc => ?_⟩
    obtain ⟨s, hs, rfl⟩ := List.mem_iff_getElem.1 hc
    have := h8 k s
    rw [cellAt, List.getD_eq_getElem?_getD, List.getElem?_eq_getElem hs] at this
    exact this
  obtain ⟨W, hW⟩ : ∃ W, W = ((w.alloc (.cells #[.slice ad a.ds.length cd, .slice ai a.is.length ci] 39)).alloc (.cells #[.slice none 0 0, .slice none 0 0] 39)).alloc (.cells #[.slice none 0 0, .slice none 0 0] 39) := ⟨_, rfl⟩
  have hgW : Grow w W := by rw [hW]; exact ((Grow.alloc _ _).trans (Grow.alloc _ _)).trans (Grow.alloc _ _)
  have HB0 : Hid (Boxes3 w.heap.size (.slice ad a.ds.length cd) (.slice ai a.is.length ci) (.slice none 0 0) (.slice none 0 0) (.slice none 0 0) (.slice none 0 0) W) := by rw [Hid, hW]; exact heap3 w _ _ _
  have HT : Hid (∀ k, k < 4 → a.ds.take k ++ [a.ds.getD k []] = a.ds.take (k + 1)) := fun k hk => take_push a.ds [] (by omega)
  have HTL : Hid (∀ k, k ≤ 4 → (a.ds.take k).length = k) := fun k hk => by rw [Hid, List.length_take] at *; omega
  have a00 := two_at0 HB0.out.1
  have Hi : Hid (Its w (.slice ai a.is.length ci) a.is) := hi
  have HA : Hid (Whole a) := ha
  have HI : Hid (Few a) := hI
  clear hi h8 hd hI ha
  rw [hl4] at hW a00 HB0 ⊢
  go_enter Try.func36, Try.ntmps36
  go_wp2
  rw [← hW]
  clear hW
  go_loopw [11] (fun q wr => ∃ (k : Nat) (dv : Value) (bs : List Nat), k ≤ 4 ∧ q = .int .i64 k ∧ (∃ x1 x2 x3, dv = .slice x1 x2 x3) ∧ Hid (Boxes3 w.heap.size (.slice ad 4 cd) (.slice ai a.is.length ci) (.slice none 0 0) (.slice none 0 0) dv (.slice none 0 0) wr) ∧ Hid (DRows (w.heap.size + 3) bs (a.ds.take k) wr dv) ∧ Grow w wr) (fun q _ => 4 - (intOf q).toNat)
  case atStart => exact ⟨0, _, [], by omega, rfl, ⟨_, _, _, rfl⟩, HB0, by rw [List.take_zero]; exact DRows.nil _ _, hgW⟩
  case round =>
    obtain ⟨k, dv, bs, hk, rfl, ⟨x1, x2, x3, rfl⟩, HB, HR, hgr⟩ := hrel
    clear HB0 a00
    by_cases hlt : k < 4
    · obtain ⟨b, off, ak, ck, rfl, hck, hbk, hk3, hk8⟩ := HK.out k hlt
      have hck' := hgr.at hck
      have HT1 := HT.out k hlt
      obtain ⟨L, hLe⟩ : ∃ L, L = a.ds.getD k [] := ⟨_, rfl⟩
      rw [← hLe] at hbk hk3 hk8 HT1
      clear hLe
      have HL : Hid (Bss w (.slice ak 3 ck) L ∧ L.length = 3 ∧ ∀ b ∈ L, b.length ≤ 8) := ⟨hbk, hk3, hk8⟩
      have HT2 : Hid (a.ds.take k ++ [L] = a.ds.take (k + 1)) := HT1
      have HG : Hid (∀ j, (Value.slice x1 x2 x3).ownBlock = some j → w.heap.size + 3 ≤ j ∧ j < wr.heap.size) := fun j hj => HR.out.own.lt j hj
      have HDl := HTL.out k hk
      have o0 := two_at0 HB.out.2.2
      have hF0 : ∀ x : World, World.grownBy x x (Value.slice x1 x2 x3).ownBlock := fun x => (Grow.refl x).by _
      have hF1 : ∀ x y z : World, World.grownBy x y (Value.slice x1 x2 x3).ownBlock → Grow y z → World.grownBy x z (Value.slice x1 x2 x3).ownBlock := fun x y z h1 h2 => h1.trans (h2.by _)
      have hF2 : ∀ x y z : World, World.grownBy x y (Value.slice x1 x2 x3).ownBlock → ByT (Value.slice x1 x2 x3).ownBlock y z → World.grownBy x z (Value.slice x1 x2 x3).ownBlock := fun x y z h1 h2 => h1.trans h2.1
      have HGw : Hid (∀ x : World, World.grownBy { wr with drawn := wr.drawn + 1 } x (Value.slice x1 x2 x3).ownBlock → Grow w x) := fun x hx => (hgr.trans (Grow.drewN wr 1)).grown hx (fun j hj => by have := (HG.out j hj).1; omega)
      have stabT : ∀ (v : Value) (x y : World), NewRow wr.heap.size L v x → ByT (Value.slice x1 x2 x3).ownBlock x y → NewRow wr.heap.size L v y := fun v x y ⟨r, h1, h2, h3⟩ hg => ⟨r, h1, h2, h3.by hg⟩
      have stabT2 : ∀ (v : Value) (x y : World), OneRow wr.heap.size L v x → ByT (Value.slice x1 x2 x3).ownBlock x y → OneRow wr.heap.size L v y := fun v x y ⟨H, r, h1, h2, h3, h4, h5⟩ hg => ⟨H, r, h1, (hg.1.block H (heap_lt h2) (fun e => by have := (HG.out H e.symm).2; omega)).trans h2, h3, h4, h5.by hg⟩
      have hdk : decide ((k : Int) < 4) = true := by simp; omega
      clear hbk hk3 hk8 hck HT1
      go_wp2
      refine wp_region_onelast 5 [_, _, _, _, _, _, _] _ rfl Grow (ByT (Value.slice x1 x2 x3).ownBlock) (fun x y => World.grownBy x y (Value.slice x1 x2 x3).ownBlock) [(fun x y => World.grownBy x y (Value.slice x1 x2 x3).ownBlock, Grow), (fun x y => World.grownBy x y (Value.slice x1 x2 x3).ownBlock, Grow), (fun x y => World.grownBy x y (Value.slice x1 x2 x3).ownBlock, Grow), (fun x y => World.grownBy x y (Value.slice x1 x2 x3).ownBlock, Grow), (fun x y => World.grownBy x y (Value.slice x1 x2 x3).ownBlock, Grow), (Grow, ByT (Value.slice x1 x2 x3).ownBlock), (fun x y => World.grownBy x y (Value.slice x1 x2 x3).ownBlock, Grow)] [IsV (.pointer (some ⟨w.heap.size + 2, 0, none⟩)), IsV (.slice x1 x2 x3), IsV (.slice ak 3 ck), NewRow wr.heap.size L, OneRow wr.heap.size L, MoreD (w.heap.size + 3) wr.heap.size bs (a.ds.take (k + 1)), IsV (.pointer (some ⟨w.heap.size + 2, 0, none⟩))] rfl (by kernel_rfl) (by kernel_rfl) (by kernel_rfl) rfl Grow.refl (fun _ _ _ => Grow.trans) (hF0 _) (hF1 _) (hF2 _) ?_ ?_ ?_ ?_
      · repeat (refine List.forall_mem_cons.2 ⟨by first | exact IsV.stable _ | exact MoreD.stable _ | exact NewRow.stable _ | exact OneRow.stable _, ?_⟩)
        exact fun R hR => nomatch hR
      · skip
        refine ⟨by first | exact fun _ _ _ h _ => h | exact stabT | exact stabT _ | exact stabT2 | exact stabT2 _ | exact stabT3 | exact stabT4 | exact fun _ _ _ _ _ => trivial, ?_⟩
        refine ⟨by first | exact fun _ _ _ h _ => h | exact stabT | exact stabT _ | exact stabT2 | exact stabT2 _ | exact stabT3 | exact stabT4 | exact fun _ _ _ _ _ => trivial, ?_⟩
        refine ⟨by first | exact fun _ _ _ h _ => h | exact stabT | exact stabT _ | exact stabT2 | exact stabT2 _ | exact stabT3 | exact stabT4 | exact fun _ _ _ _ _ => trivial, ?_⟩
        refine ⟨by first | exact fun _ _ _ h _ => h | exact stabT | exact stabT _ | exact stabT2 | exact stabT2 _ | exact stabT3 | exact stabT4 | exact fun _ _ _ _ _ => trivial, ?_⟩
        refine ⟨by first | exact fun _ _ _ h _ => h | exact stabT | exact stabT _ | exact stabT2 | exact stabT2 _ | exact stabT3 | exact stabT4 | exact fun _ _ _ _ _ => trivial, ?_⟩
        repeat (refine List.forall_mem_cons.2 ⟨by first | exact fun _ _ _ h _ => h | exact stabT | exact stabT _ | exact stabT2 | exact stabT2 _ | exact stabT3 | exact stabT4 | exact fun _ _ _ _ _ => trivial, ?_⟩)
        exact fun R hR => nomatch hR
      · skip
        refine StepsT.cons ?_ fun v0 => ⟨_, _, by simp only [Act.put, List.setIfInBounds_toArray, List.set_cons_succ, List.set_cons_zero]; first | done | rfl, by simp only [List.nil_append]; first | done | rfl, ?_⟩
        · intro w1 hE hd
          clear hd
          go_wp2
          exact ⟨_, rfl, Grow.refl _, rfl⟩
        refine StepsT.cons ?_ fun v1 => ⟨_, _, by simp only [Act.put, List.setIfInBounds_toArray, List.set_cons_succ, List.set_cons_zero]; first | done | rfl, by simp only [List.nil_append, List.cons_append]; first | done | rfl, ?_⟩
        · intro w1 hE hd
          obtain rfl := IsV.eq (dep_at hd 0 rfl rfl rfl)
          clear hd
          have q0 : w1.cell? ⟨w.heap.size + 2, 0, none⟩ = some (.slice x1 x2 x3) := World.grownBy.cell (a := ⟨w.heap.size + 2, 0, none⟩) hE o0 (fun e => by have := (HG.out _ e.symm).1; simp only at this; omega)
          go_wp2
          exact ⟨_, rfl, Grow.refl _, rfl⟩
        refine StepsT.cons ?_ fun v2 => ⟨_, _, by simp only [Act.put, List.setIfInBounds_toArray, List.set_cons_succ, List.set_cons_zero]; first | done | rfl, by simp only [List.nil_append, List.cons_append]; first | done | rfl, ?_⟩
        · intro w1 hE hd
          clear hd
          go_wp2
          exact ⟨_, rfl, Grow.refl _, rfl⟩
        refine StepsT.cons ?_ fun v3 => ⟨_, _, by simp only [Act.put, List.setIfInBounds_toArray, List.set_cons_succ, List.set_cons_zero]; first | done | rfl, by simp only [List.nil_append, List.cons_append]; first | done | rfl, ?_⟩
        · intro w1 hE hd
          obtain rfl := IsV.eq (dep_at hd 0 rfl rfl rfl)
          clear hd
          have hgw1 := HGw.out _ hE
          have hcall := ownCells_row (.slice ak 3 ck) L w1 (HL.out.1.grow hgw1) (by have := HL.out.2.1; omega) (by have := HL.out.2.1; omega) HL.out.2.2
          go_wp2_with fail
          refine hcall.mono ?_
          rintro e w5 ⟨rfl, hr, hg5⟩
          go_wp2_with fail
          exact ⟨_, rfl, hg5, _, hE.size, rfl, hr⟩
        refine StepsT.cons ?_ fun v4 => ⟨_, _, by simp only [Act.put, List.setIfInBounds_toArray, List.set_cons_succ, List.set_cons_zero]; first | done | rfl, by simp only [List.nil_append, List.cons_append]; first | done | rfl, ?_⟩
        · intro w1 hE hd
          have d3 := dep_at hd 0 rfl rfl rfl
          clear hd
          obtain ⟨r, h1, rfl, h3⟩ := d3
          go_wp2
          exact ⟨_, rfl, Grow.alloc _ _, _, r, rfl, heap_alloc_new _ _, hE.size, h1, h3.grow (Grow.alloc _ _)⟩
        refine StepsT.cons ?_ fun v5 => ⟨_, _, by simp only [Act.put, List.setIfInBounds_toArray, List.set_cons_succ, List.set_cons_zero]; first | done | rfl, by simp only [List.nil_append, List.cons_append]; first | done | rfl, ?_⟩
        · intro w1 hE hd
          obtain rfl := IsV.eq (dep_at hd 0 rfl rfl rfl)
          have d4 := dep_at hd 1 rfl rfl rfl
          clear hd
          obtain ⟨H, r, rfl, hH, hHn, hrn, hrow⟩ := d4
          have hD1 := HR.out.grow hE.drew
          have HD1 : Hid (DRows (w.heap.size + 3) bs (a.ds.take k) w1 (.slice x1 x2 x3)) := hD1
          have Hown : Hid (w1.ownsRow (w.heap.size + 3) 22 1 (.slice x1 x2 x3) k (rowVals bs (a.ds.take k))) := by have := hD1.own; rw [HDl] at this; exact this
          have HH : Hid (w1.heap[H]? = some (.cells #[.slice (some ⟨r, 0, none⟩) L.length L.length] 22 (0, 0))) := hH
          have hsz1 : w.heap.size + 3 ≤ w1.heap.size := by have := heap_lt HB.out.2.2; have := hE.drew.size; omega
          clear hD1 hH
          go_wp2_with (first
            | (at_builtin; refine wpList_append_lies _ rfl (.tmp 16) (.tmp 19) 36 rfl (w.heap.size + 3) 22 i1 (.slice none 0 0) 1 24 Try.underlying36 hj hy0 hy1 hy2 rfl (by decide) _ k _ rfl Hown.out ⟨H, 0, none⟩ 1 1 [.slice (some ⟨r, 0, none⟩) L.length L.length] rfl rfl (fun j q hq => World.news_of_block HH.out j q (by simpa using hq)) (fun q hq => by simp at hq; subst hq; rfl) (by decide) (by unfold maxLen; omega) (by omega) hsz1 _ rfl ?_; rintro g' cap w' hown hgr' hat hlt'))
          have hlen1 := HTL.out (k + 1) (by omega)
          refine ⟨_, rfl, ⟨hgr', fun j hj' => own_typed Hown.out hj'⟩, r, g', cap, by rw [hlen1], hrn, ?_⟩
          have hp := HD1.out.push hrow (fun b hb => by have := HR.out.lt b hb; omega) (by have := heap_lt HB.out.2.2; omega) (v' := .slice (some ⟨g', 0, none⟩) (k + 1) cap) (by rw [HDl]; exact hown) hgr'
          rw [HT2.out] at hp
          exact hp
        refine StepsT.cons ?_ fun v6 => ⟨_, _, by simp only [Act.put, List.setIfInBounds_toArray, List.set_cons_succ, List.set_cons_zero]; first | done | rfl, by simp only [List.nil_append, List.cons_append]; first | done | rfl, ?_⟩
        · intro w1 hE hd
          clear hd
          go_wp2
          exact ⟨_, rfl, Grow.refl _, rfl⟩
        trivial
      intro wR hwR
      refine FinS.cons ?_; rintro _ rfl; refine ⟨_, by simp only [Act.put, List.setIfInBounds_toArray, List.set_cons_succ, List.set_cons_zero]; first | done | rfl, ?_⟩
      refine FinS.cons ?_; rintro _ rfl; refine ⟨_, by simp only [Act.put, List.setIfInBounds_toArray, List.set_cons_succ, List.set_cons_zero]; first | done | rfl, ?_⟩
      refine FinS.cons ?_; rintro _ rfl; refine ⟨_, by simp only [Act.put, List.setIfInBounds_toArray, List.set_cons_succ, List.set_cons_zero]; first | done | rfl, ?_⟩
      refine FinS.cons fun v3 h3 => ⟨_, by simp only [Act.put, List.setIfInBounds_toArray, List.set_cons_succ, List.set_cons_zero]; first | done | rfl, ?_⟩
      refine FinS.cons fun v4 h4 => ⟨_, by simp only [Act.put, List.setIfInBounds_toArray, List.set_cons_succ, List.set_cons_zero]; first | done | rfl, ?_⟩
      refine FinS.cons fun v5 h5 => ⟨_, by simp only [Act.put, List.setIfInBounds_toArray, List.set_cons_succ, List.set_cons_zero]; first | done | rfl, ?_⟩
      refine FinS.cons ?_; rintro _ rfl; refine ⟨_, by simp only [Act.put, List.setIfInBounds_toArray, List.set_cons_succ, List.set_cons_zero]; first | done | rfl, ?_⟩
      show wpList _ _ _ _ _ _
      obtain ⟨r, g2, c2, rfl, hrn, hD⟩ := h5
      have hB2 := (HB.out.grow (Grow.drewN wr 1)).by hwR (fun j hj => (HG.out j hj).1)
      have hgR := HGw.out _ hwR
      have q0 := two_at0 hB2.2.2
      have fA0 : wR.frozen? ⟨w.heap.size + 2, 0, none⟩ = false := frozen_of_row wR _ 0 _ _ hB2.2.2
      have hlen1 := HTL.out (k + 1) (by omega)
      rw [hlen1] at hD ⊢
      have HB3 : Hid (Boxes3 _ _ _ _ _ _ _ _) := hB2.set0 (u := .slice (some ⟨g2, 0, none⟩) (k + 1) c2)
      have HD3 : Hid (DRows _ _ _ _ _) := hD.k3 (K4.set (k := 0) (u := .slice (some ⟨g2, 0, none⟩) (k + 1) c2) hB2.2.2).1
      have hg3 := hgR.set (g := w.heap.size + 2) (k := 0) (by omega) (.slice (some ⟨g2, 0, none⟩) (k + 1) c2)
      clear hB2 hD HR HB HL HGw HG hF0 hF1 hF2 stabT stabT2 HT2
      go_wp2
      go_roundw
      case rel => first | exact ⟨k + 1, _, _, by omega, by go_num, ⟨_, _, _, rfl⟩, HB3, HD3, hg3⟩ | ((repeat apply Exists.intro); exact ⟨⟨k + 1, _, _, by omega, by go_num, ⟨_, _, _, rfl⟩, HB3, HD3, hg3⟩, rfl⟩)
      case measure => simp [intOf]; omega
    · obtain rfl : k = 4 := by omega
      have HA4 : Hid (a.ds.take 4 = a.ds) := by rw [Hid]; exact List.take_of_length_le (by omega)
      have hD := HR.out
      rw [HA4.out] at hD
      have HD : Hid (DRows (w.heap.size + 3) bs a.ds wr (.slice x1 x2 x3)) := hD
      have i1' := two_at1 HB.out.1
      clear HK HT HTL HA4 HR hD hlt hk
      rcases HI.out with hIe | ⟨s, cs, hIe, hc4, hc8⟩
      · have hn0 : a.is.length = 0 := by rw [hIe]; rfl
        rw [hn0] at HB i1' ⊢
        have hE1 := own_end HB.out ⟨HA.out, HD.out, by rw [hIe]; exact .inl ⟨rfl, rfl⟩⟩ hgr
        obtain ⟨HO, z0, z1⟩ := hE1
        have d0 := two_at0 HB.out.2.2
        have d1 := two_at1 HB.out.2.2
        have r0 := two_at0 HB.out.2.1
        have r1 := two_at1 HB.out.2.1
        have f0 : wr.frozen? ⟨w.heap.size + 1, 0, none⟩ = false := frozen_of_row wr _ 0 _ _ HB.out.2.1
        have f1 : wr.frozen? ⟨w.heap.size + 1, 1, none⟩ = false := frozen_of_row wr _ 1 _ _ HB.out.2.1
        have HI0 : Hid (a.is = []) := hIe
        clear hIe hn0 Hi HI HB HD
        go_wp2
        go_loopw [26] (fun q wr' => q = .int .i64 0 ∧ wr' = wr) (fun _ _ => 0)
        case atStart => exact ⟨rfl, rfl⟩
        case round =>
          obtain ⟨rfl, rfl⟩ := hrel
          go_wp2
          refine bodyPost_ret (results_two Try.results36 _ _ (w.heap.size + 1) _ rfl Try.underlying39 rfl Try.sizeA z0 z1) rfl ?_
          exact ⟨_, _, _, rfl, HO.out.1, HO.out.2⟩
      · have hn1 : a.is.length = 1 := by rw [hIe]; rfl
        obtain ⟨i2, hp, hq0, hq1, hq2⟩ := info_parts Try.infoN
        have hi := Hi.out
        rw [hn1, hIe] at hi
        obtain ⟨aq, cq, e0, hq3, hq4, hq5, h4⟩ := hi
        injection e0 with e1 e9 e3
        clear e9
        obtain ⟨b, off, e2, hcc⟩ := h4 (by simp)
        rw [← e1] at e2
        subst e2
        obtain ⟨hs0, cv, hs1, hcv⟩ := hcc 0 (s, cs) rfl
        obtain ⟨ac, nc, ce, rfl⟩ : ∃ a n c, cv = .slice a n c := by
          obtain ⟨a, c, e⟩ := hcv.form
          exact ⟨_, _, _, e⟩
        simp only [Nat.zero_mul, Nat.add_zero] at hs0 hs1
        rw [hn1] at HB i1' hi1 ⊢
        have Hcv : Hid (Bss w (.slice ac nc ce) cs ∧ cs.length = 4 ∧ ∀ b ∈ cs, b.length ≤ 8) := ⟨hcv, hc4, hc8⟩
        have HI1 : Hid (a.is = [(s, cs)]) := hIe
        have d1 := two_at1 HB.out.2.2
        have i1 := two_at1 HB.out.1
        clear h4 hcc e1 e3 hq3 hq4 hq5 hIe hn1 Hi HI hcv hc4 hc8
        go_wp2
        go_loopw [26] (fun q wr' => (q = .int .i64 0 ∧ wr' = wr) ∨ (q = .int .i64 1 ∧ ∃ iv, (∃ x1 x2 x3, iv = .slice x1 x2 x3) ∧ Hid (Boxes3 w.heap.size (.slice ad 4 cd) (.slice (some ⟨b, off, none⟩) 1 ci) (.slice none 0 0) (.slice none 0 0) (.slice x1 x2 x3) iv wr') ∧ Hid (OwnA (w.heap.size + 3) bs wr' (.slice x1 x2 x3) iv a) ∧ Grow w wr')) (fun q _ => 1 - (intOf q).toNat)
        case atStart => exact .inl ⟨rfl, rfl⟩
        case round =>
          rcases hrel with ⟨rfl, rfl⟩ | ⟨rfl, iv, ⟨y1, y2, y3, rfl⟩, HB1, HO1, hg1⟩
          · have c0 := hgr.at hs0
            have c1 := hgr.at hs1
            obtain ⟨WA, hWA⟩ : ∃ WA, WA = wr.alloc (.cells #[.int .i64 s, .slice ac nc ce] 62) := ⟨_, rfl⟩
            have hgA : Grow wr WA := by rw [hWA]; exact Grow.alloc _ _
            have hbA : WA.heap[wr.heap.size]? = some (.cells #[.int .i64 s, .slice ac nc ce] 62 (0, 0)) := by rw [hWA]; exact heap_alloc_new wr _
            have vA0 := two_at0 hbA
            have vA1 := two_at1 hbA
            have d1A := hgA.at d1
            have HbA := HB.out.grow hgA
            have HBA : Hid (Boxes3 w.heap.size (.slice ad 4 cd) (.slice (some ⟨b, off, none⟩) 1 ci) (.slice none 0 0) (.slice none 0 0) (.slice x1 x2 x3) (.slice none 0 0) WA) := HbA
            have HDA : Hid (DRows (w.heap.size + 3) bs a.ds WA (.slice x1 x2 x3)) := HD.out.grow hgA
            have hgwA := hgr.trans hgA
            have hszA : w.heap.size + 3 ≤ WA.heap.size := by have := heap_lt HbA.2.2; omega
            have Hbs : Hid (∀ b ∈ bs, b < WA.heap.size) := fun b hb => HDA.out.lt b hb
            clear hbA HbA
            go_wp2
            rw [← hWA]
            clear hWA
            refine wp_region_last [_, _, _, _, _, _, _] _ rfl Grow [IsV (.pointer (some ⟨w.heap.size + 2, 1, none⟩)), IsV (.slice none 0 0), IsV (.agg #[.int .i64 s, .slice ac nc ce]), NewInt WA.heap.size (s, cs), OneInt WA.heap.size (s, cs), MoreI bs (s, cs), IsV (.pointer (some ⟨w.heap.size + 2, 1, none⟩))] (by kernel_rfl) (by kernel_rfl) (by kernel_rfl) rfl Grow.refl (fun _ _ _ => Grow.trans) ?_ ?_ ?_
            · repeat (refine List.forall_mem_cons.2 ⟨by first | exact IsV.stable _ | exact MoreI.stable _ | exact NewInt.stable _ | exact OneInt.stable _, ?_⟩)
              exact fun R hR => nomatch hR
            · skip
              refine StepsS.cons ?_ fun v0 => ⟨_, _, by simp only [Act.put, List.setIfInBounds_toArray, List.set_cons_succ, List.set_cons_zero]; first | done | rfl, by simp only [List.nil_append]; first | done | rfl, ?_⟩
              · intro w1 hE hd
                clear hd
                go_wp2
                exact ⟨_, rfl, Grow.refl _, rfl⟩
              refine StepsS.cons ?_ fun v1 => ⟨_, _, by simp only [Act.put, List.setIfInBounds_toArray, List.set_cons_succ, List.set_cons_zero]; first | done | rfl, by simp only [List.nil_append, List.cons_append]; first | done | rfl, ?_⟩
              · intro w1 hE hd
                obtain rfl := IsV.eq (dep_at hd 0 rfl rfl rfl)
                clear hd
                have q0 := hE.drew.at d1A
                go_wp2
                exact ⟨_, rfl, Grow.refl _, rfl⟩
              refine StepsS.cons ?_ fun v2 => ⟨_, _, by simp only [Act.put, List.setIfInBounds_toArray, List.set_cons_succ, List.set_cons_zero]; first | done | rfl, by simp only [List.nil_append, List.cons_append]; first | done | rfl, ?_⟩
              · intro w1 hE hd
                clear hd
                have q0 := hE.drew.at vA0
                have q1 := hE.drew.at vA1
                go_wp2
                exact ⟨_, rfl, Grow.refl _, rfl⟩
              refine StepsS.cons ?_ fun v3 => ⟨_, _, by simp only [Act.put, List.setIfInBounds_toArray, List.set_cons_succ, List.set_cons_zero]; first | done | rfl, by simp only [List.nil_append, List.cons_append]; first | done | rfl, ?_⟩
              · intro w1 hE hd
                obtain rfl := IsV.eq (dep_at hd 0 rfl rfl rfl)
                clear hd
                have hcall := ownIntent_row (.agg #[.int .i64 s, .slice ac nc ce]) s cs w1 ⟨_, rfl, Hcv.out.1.grow (hgwA.trans hE.drew)⟩ Hcv.out.2.1 Hcv.out.2.2
                go_wp2_with fail
                refine hcall.mono ?_
                rintro e w5 ⟨r, rfl, hr0, hr, hg5⟩
                go_wp2_with fail
                exact ⟨_, rfl, hg5, r, Nat.le_trans hE.drew.size hr0, by rw [Hcv.out.2.1], hr⟩
              refine StepsS.cons ?_ fun v4 => ⟨_, _, by simp only [Act.put, List.setIfInBounds_toArray, List.set_cons_succ, List.set_cons_zero]; first | done | rfl, by simp only [List.nil_append, List.cons_append]; first | done | rfl, ?_⟩
              · intro w1 hE hd
                have d3 := dep_at hd 0 rfl rfl rfl
                clear hd
                obtain ⟨r, h1, rfl, h3⟩ := d3
                go_wp2
                exact ⟨_, rfl, Grow.alloc _ _, _, r, rfl, heap_alloc_new _ _, h1, h3.grow (Grow.alloc _ _)⟩
              refine StepsS.cons ?_ fun v5 => ⟨_, _, by simp only [Act.put, List.setIfInBounds_toArray, List.set_cons_succ, List.set_cons_zero]; first | done | rfl, by simp only [List.nil_append, List.cons_append]; first | done | rfl, ?_⟩
              · intro w1 hE hd
                obtain rfl := IsV.eq (dep_at hd 0 rfl rfl rfl)
                have d4 := dep_at hd 1 rfl rfl rfl
                clear hd
                obtain ⟨H, r, rfl, hH, hrn, hrow⟩ := d4
                have HH : Hid (w1.heap[H]? = some (.cells #[.int .i64 s, .slice (some ⟨r, 0, none⟩) cs.length cs.length] 62 (0, 0))) := hH
                have Hrow : Hid (DRow r cs w1) := hrow
                have hsz1 : w.heap.size + 3 ≤ w1.heap.size := by have := hE.drew.size; omega
                clear hH hrow
                go_wp2_with (first
                  | (at_builtin; refine wpList_append_lies _ rfl (.tmp 31) (.tmp 34) 37 rfl (w.heap.size + 3) 62 i2 (.agg #[.int .i64 0, .slice none 0 0]) 2 32 Try.underlying37 hp hq0 hq1 hq2 rfl (by decide) (.slice none 0 0) 0 [] rfl (World.ownsRow_nil _ _ _ _) ⟨H, 0, none⟩ 1 1 [.int .i64 s, .slice (some ⟨r, 0, none⟩) cs.length cs.length] rfl rfl (fun j q hq => World.news_of_block HH.out j q (by simpa using hq)) (fun q hq => by simp at hq; rcases hq with rfl | rfl <;> rfl) (by decide) (by unfold maxLen; omega) (by omega) hsz1 _ rfl ?_; rintro g' cap w' hown hgr' hat hlt'))
                have hgG : Grow w1 w' := Grow.of hgr'
                have hcap : 1 ≤ cap ∧ cap ≤ maxLen ∧ ∃ cur : Array Value, w'.heap[g']? = some (.cells cur 62 (0, 0)) ∧ cur[0]? = some (.int .i64 s) ∧ cur[1]? = some (.slice (some ⟨r, 0, none⟩) 4 4) := by
                  obtain ⟨-, hown⟩ := hown
                  rcases hown with ⟨h, -⟩ | ⟨g1, c1, cur, h, -, hh, hc1, hc2, -, ht⟩
                  · cases h
                  · injection h with h1 h2 h3
                    injection h1 with h1
                    injection h1 with h1
                    subst h1 h3
                    simp only [Nat.zero_add, List.nil_append] at hc1 ht
                    refine ⟨hc1, hc2, cur, hh, ?_, ?_⟩
                    · have h5 : (cur.toList.take (1 * 2))[0]? = some (.int .i64 s) := by rw [ht]; rfl
                      rw [List.getElem?_take_of_lt (by omega)] at h5
                      simpa using h5
                    · have h5 : (cur.toList.take (1 * 2))[1]? = some (.slice (some ⟨r, 0, none⟩) 4 4) := by rw [ht, Hcv.out.2.1]; rfl
                      rw [List.getElem?_take_of_lt (by omega)] at h5
                      simpa using h5
                obtain ⟨hc1, hc2, cur, k1, k2, k3⟩ := hcap
                exact ⟨_, rfl, hgG, .inr ⟨g', r, cap, cur, s, cs, rfl, Hcv.out.2.1, rfl, hc1, hc2, k1, k2, k3, Hrow.out.grow hgG, fun hm => by have := Hbs.out r hm; omega⟩, g', cap, rfl⟩
              refine StepsS.cons ?_ fun v6 => ⟨_, _, by simp only [Act.put, List.setIfInBounds_toArray, List.set_cons_succ, List.set_cons_zero]; first | done | rfl, by simp only [List.nil_append, List.cons_append]; first | done | rfl, ?_⟩
              · intro w1 hE hd
                clear hd
                go_wp2
                exact ⟨_, rfl, Grow.refl _, rfl⟩
              trivial
            intro wR hwR
            refine FinS.cons ?_; rintro _ rfl; refine ⟨_, by simp only [Act.put, List.setIfInBounds_toArray, List.set_cons_succ, List.set_cons_zero]; first | done | rfl, ?_⟩
            refine FinS.cons ?_; rintro _ rfl; refine ⟨_, by simp only [Act.put, List.setIfInBounds_toArray, List.set_cons_succ, List.set_cons_zero]; first | done | rfl, ?_⟩
            refine FinS.cons ?_; rintro _ rfl; refine ⟨_, by simp only [Act.put, List.setIfInBounds_toArray, List.set_cons_succ, List.set_cons_zero]; first | done | rfl, ?_⟩
            refine FinS.cons fun v3 h3 => ⟨_, by simp only [Act.put, List.setIfInBounds_toArray, List.set_cons_succ, List.set_cons_zero]; first | done | rfl, ?_⟩
            refine FinS.cons fun v4 h4 => ⟨_, by simp only [Act.put, List.setIfInBounds_toArray, List.set_cons_succ, List.set_cons_zero]; first | done | rfl, ?_⟩
            refine FinS.cons fun v5 h5 => ⟨_, by simp only [Act.put, List.setIfInBounds_toArray, List.set_cons_succ, List.set_cons_zero]; first | done | rfl, ?_⟩
            refine FinS.cons ?_; rintro _ rfl; refine ⟨_, by simp only [Act.put, List.setIfInBounds_toArray, List.set_cons_succ, List.set_cons_zero]; first | done | rfl, ?_⟩
            show wpList _ _ _ _ _ _
            obtain ⟨hO5, g2, c2, rfl⟩ := h5
            have hgR : Grow WA wR := hwR.drew
            have hB2 := HBA.out.grow hgR
            have q1 := two_at1 hB2.2.2
            have fA1 : wR.frozen? ⟨w.heap.size + 2, 1, none⟩ = false := frozen_of_row wR _ 1 _ _ hB2.2.2
            have HB3 : Hid (Boxes3 _ _ _ _ _ _ _ _) := hB2.set1 (u := .slice (some ⟨g2, 0, none⟩) 1 c2)
            have HO3 : Hid (OwnA (w.heap.size + 3) bs (wR.setCell ⟨w.heap.size + 2, 1, none⟩ (.slice (some ⟨g2, 0, none⟩) 1 c2)) (.slice x1 x2 x3) (.slice (some ⟨g2, 0, none⟩) 1 c2) a) := OwnA.k4 ⟨HA.out, HDA.out.grow hgR, by rw [HI1.out]; exact hO5⟩ (K4.set hB2.2.2)
            have hg3 := (hgwA.trans hgR).set (g := w.heap.size + 2) (k := 1) (by omega) (.slice (some ⟨g2, 0, none⟩) 1 c2)
            clear hB2 hO5 HBA HDA HB HD vA0 vA1 c0 c1 d1 d1A
            go_wp2
            go_roundw
            case rel => exact .inr ⟨rfl, _, ⟨_, _, _, rfl⟩, HB3, HO3, hg3⟩
            case measure => simp [intOf]
          · have hE1 := own_end HB1.out HO1.out hg1
            obtain ⟨HO, z0, z1⟩ := hE1
            have e0 := two_at0 HB1.out.2.2
            have e1 := two_at1 HB1.out.2.2
            have r0 := two_at0 HB1.out.2.1
            have r1 := two_at1 HB1.out.2.1
            have f0 : wr.frozen? ⟨w.heap.size + 1, 0, none⟩ = false := frozen_of_row wr _ 0 _ _ HB1.out.2.1
            have f1 : wr.frozen? ⟨w.heap.size + 1, 1, none⟩ = false := frozen_of_row wr _ 1 _ _ HB1.out.2.1
            clear HB1 HO1 HB HD d1 i1 i1'
            go_wp2
            refine bodyPost_ret (results_two Try.results36 _ _ (w.heap.size + 1) _ rfl Try.underlying39 rfl Try.sizeA z0 z1) rfl ?_
            exact ⟨_, _, _, rfl, HO.out.1, HO.out.2⟩

end Go.Proofs.Ytjggiameajndgab

/-
  What the program's array.put makes of an array of the call's own.
-/
namespace Go.Proofs.Ytjggiameajndgab
open Go.RowKit

theorem rowVals_set {bs : List Nat} {ds : List (List (List Int))} {k : Nat} {l : List (List Int)} (hl : bs.length = ds.length) (hk : k < ds.length) (h : l.length = ds[k].length) : rowVals bs (ds.set k l) = rowVals bs ds := by
  refine List.ext_getElem (by simp [rowVals]) fun i h1 h2 => ?_
  have hi : i < ds.length := by simp [rowVals] at h2; omega
  have e1 := rowVals_at (bs := bs) (ds := ds.set k l) (by simpa using hl) (i := i) (by simpa using hi)
  have e2 := rowVals_at hl hi
  rw [List.getElem?_eq_getElem h1] at e1
  rw [List.getElem?_eq_getElem h2] at e2
  rw [Option.some.inj e1, Option.some.inj e2]
  by_cases hik : k = i
  · subst hik
    simp [h]
  · simp [List.getElem_set_ne hik]

theorem up_ne {bs : List Nat} (h : bs.Pairwise (· < ·)) {i j : Nat} {b c : Nat} (hi : bs[i]? = some b) (hj : bs[j]? = some c) (hne : i ≠ j) : b ≠ c := by
  obtain ⟨hi', rfl⟩ := List.getElem?_eq_some_iff.1 hi
  obtain ⟨hj', rfl⟩ := List.getElem?_eq_some_iff.1 hj
  have := List.pairwise_iff_getElem.1 h
  by_cases hlt : i < j
  · have := this i j hi' hj' hlt
    omega
  · have := this j i hj' hi' (by omega)
    omega

theorem DRows.put {B : Nat} {bs : List Nat} {ds : List (List (List Int))} {w : World} {dv u : Value} (h : DRows B bs ds w dv) {k b s : Nat} {x : List Int} (hk : k < ds.length) (hb : bs[k]? = some b) (hx : Tb w u x) :
    DRows B bs (ds.set k ((ds.getD k []).set s x)) (w.setCell ⟨b, s, none⟩ u) dv := by
  have hgk : ds[k]? = some (ds.getD k []) := by simp [List.getD_eq_getElem?_getD, hk]
  have hr := h.rows k b _ hb hgk
  have hkb := hr.kbset s u
  have hlen : ((ds.getD k []).set s x).length = ds[k].length := by simp [List.getD_eq_getElem?_getD, hk]
  refine ⟨by simpa using h.len, h.up, h.base, ?_, fun i b' l hb' hl => ?_⟩
  · rw [rowVals_set h.len hk hlen, List.length_set]
    refine ⟨h.own.1, ?_⟩
    rcases h.own.2 with h2 | ⟨g, cap, cur, hv, hbb, hh, hr'⟩
    · exact .inl h2
    · refine .inr ⟨g, cap, cur, hv, hbb, set_other hh fun e => ?_, hr'⟩
      subst e
      obtain ⟨us, _, h2, _⟩ := hr
      rw [h2] at hh
      injection hh with hh
      injection hh with _ hh _
      exact absurd hh (by decide)
  · by_cases hik : i = k
    · subst hik
      rw [hb] at hb'
      cases hb'
      rw [List.getElem?_set_self hk] at hl
      cases hl
      exact hr.put s hx
    · rw [List.getElem?_set_ne (fun e => hik e.symm)] at hl
      exact (h.rows i b' l hb' hl).kept hkb (by rw [set_other rfl (up_ne h.up hb' hb hik)])

theorem OIts.put {bs : List Nat} {w : World} {iv u : Value} {is : List (Int × List (List Int))} {b s : Nat} {ls : List (List Int)} (h : OIts bs w iv is) (hb : b ∈ bs) (hr : DRow b ls w) : OIts bs (w.setCell ⟨b, s, none⟩ u) iv is := by
  have hkb := hr.kbset s u
  rcases h with h | ⟨q, r, cap, cur, s', cs, h1, h2, h3, h4, h5, h6, h7, h8, h9, h10⟩
  · exact .inl h
  · refine .inr ⟨q, r, cap, cur, s', cs, h1, h2, h3, h4, h5, set_other h6 fun e => ?_, h7, h8, h9.kept hkb (by rw [set_other rfl (fun e => h10 (by rw [e]; exact hb))]), h10⟩
    subst e
    obtain ⟨us, _, k2, _⟩ := hr
    rw [k2] at h6
    injection h6 with h6
    injection h6 with _ h6 _
    exact absurd h6 (by decide)

theorem OwnA.put {B : Nat} {bs : List Nat} {w : World} {dv iv u : Value} {a : ArrP} (h : OwnA B bs w dv iv a) {k b s : Nat} {x : List Int} (hk : k < 4) (hb : bs[k]? = some b) (hx : Tb w u x) : OwnA B bs (w.setCell ⟨b, s, none⟩ u) dv iv (withL a k s x) := by
  have hk' : k < a.ds.length := by have := h.whole.1; omega
  exact ⟨withL_whole h.whole hk x, h.disks.put hk' hb hx, h.its.put (List.mem_of_getElem? hb) (h.disks.rows k b _ hb (by simp [hk'] : a.ds[k]? = some a.ds[k]))⟩

/-- Bytes that read so as long as blocks of bytes are what they are. -/
def NewTb (l : List Int) (v : Value) (w : World) : Prop := Tb w v l
theorem NewTb.stable (l : List Int) : ∀ (v : Value) (x y : World), NewTb l v x → Grow x y → NewTb l v y := fun _ _ _ h hg => Tb.step h hg.kb

end Go.Proofs.Ytjggiameajndgab
