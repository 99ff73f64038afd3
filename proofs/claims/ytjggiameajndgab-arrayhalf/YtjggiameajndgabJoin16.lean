import Derived.Test.YtjggiameajndgabJoin15
/-
  What the program's array.New returns: an array of noughts. Nothing old turns.
-/
namespace Go.Proofs.Ytjggiameajndgab
open Go.RowKit

theorem Try.madeD (w : World) : (Instr.makeSlice 36 (.int .i64 4) (.int .i64 4)).run Try.prog w = .ok (.slice (some ⟨w.heap.size, 0, none⟩) 4 4) (w.alloc (.cells (nilsN 4) 22)) :=
  (run_make_row' (P := Try.prog) 36 22 (.slice none 0 0) 24 Try.underlying36 Try.infoD rfl .i64 .i64 4 (by omega) (by omega) w).trans (by rw [show madeCells #[.slice none 0 0] 4 = nilsN 4 from Array.toList_inj.1 (by rw [toList_madeCells_one]; simp [nilsN])])

/-- A made row of disks, of which none is there yet. -/
theorem DRows.made {B D : Nat} {w : World} (hD : w.heap[D]? = some (.cells (nilsN 4) 22 (0, 0))) (hB : B ≤ D) : DRows B [] [] w (.slice (some ⟨D, 0, none⟩) 0 4) :=
  ⟨rfl, List.Pairwise.nil, fun b hb => by simp at hb, ⟨rfl, .inr ⟨D, 4, nilsN 4, rfl, hB, hD, by simp, by unfold maxLen; omega, rfl, rfl⟩⟩, fun i b l hb => by simp at hb⟩

/-- One disk more. -/
theorem DRows.more {B D k : Nat} {bs : List Nat} {ds : List (List (List Int))} {w : World} {r : Nat} {l : List (List Int)} (h : DRows B bs ds w (.slice (some ⟨D, 0, none⟩) k 4)) (hk : ds.length = k) (hk4 : k < 4) (hr : DRow r l w) (hlt : ∀ b ∈ bs, b < r) (hB : B ≤ r) :
    DRows B (bs ++ [r]) (ds ++ [l]) (w.setCell ⟨D, k, none⟩ (.slice (some ⟨r, 0, none⟩) l.length l.length)) (.slice (some ⟨D, 0, none⟩) (k + 1) 4) := by
  refine h.push hr hlt hB ?_ (grown_set w D k _)
  obtain ⟨h1, h2⟩ := h.own
  refine ⟨by simp [h1], ?_⟩
  rcases h2 with ⟨e, -⟩ | ⟨g, cap, cur, e, hb, hh, hc1, hc2, hc3, ht⟩
  · cases e
  · injection e with e1 e2 e3
    injection e1 with e1
    injection e1 with e1
    subst e1 e3
    have hsz : cur.size = 4 := by simpa using hc3
    refine .inr ⟨D, 4, cur.setIfInBounds k (.slice (some ⟨r, 0, none⟩) l.length l.length), by rw [hk], hb, ?_, by omega, hc2, by simpa using hc3, ?_⟩
    · rw [heap_setCell_same w D k _ _ _ hh]
    · have ht' : cur.toList.take k = rowVals bs ds := by simpa [hk] using ht
      rw [hk, Array.toList_setIfInBounds]
      rw [← ht', Nat.mul_one, List.take_add_one]
      rw [List.take_set_of_le (Nat.le_refl _)]
      simp [hsz, hk4]

theorem DRows.cell {B D k : Nat} {bs : List Nat} {ds : List (List (List Int))} {w : World} (h : DRows B bs ds w (.slice (some ⟨D, 0, none⟩) k 4)) {i : Nat} (hi : i < 4) : (∃ u, w.cell? ⟨D, i, none⟩ = some u) ∧ w.frozen? ⟨D, i, none⟩ = false := by
  obtain ⟨h1, h2⟩ := h.own
  rcases h2 with ⟨e, -⟩ | ⟨g, cap, cur, e, hb, hh, hc1, hc2, hc3, ht⟩
  · cases e
  · injection e with e1 e2 e3
    injection e1 with e1
    injection e1 with e1
    subst e1 e3
    have hsz : cur.size = 4 := by simpa using hc3
    exact ⟨⟨cur[i]'(by omega), row_at hh i (by simp [hsz, hi])⟩, frozen_of_row w D i _ _ hh⟩

/-- A cell of the last disk. -/
theorem DRows.putLast {B : Nat} {bs : List Nat} {ds : List (List (List Int))} {w : World} {dv u : Value} {b s : Nat} {l : List (List Int)} {x : List Int} (h : DRows B (bs ++ [b]) (ds ++ [l]) w dv) (hx : Tb w u x) : DRows B (bs ++ [b]) (ds ++ [l.set s x]) (w.setCell ⟨b, s, none⟩ u) dv := by
  have hl : bs.length = ds.length := by have := h.len; simpa using this
  have := h.put (k := ds.length) (b := b) (s := s) (by simp) (by rw [← hl]; simp) hx
  simpa [List.getD_eq_getElem?_getD] using this

theorem DRows.last {B : Nat} {bs : List Nat} {ds : List (List (List Int))} {w : World} {dv : Value} {b : Nat} {l : List (List Int)} (h : DRows B (bs ++ [b]) (ds ++ [l]) w dv) : DRow b l w := by
  have hl : bs.length = ds.length := by have := h.len; simpa using this
  exact h.rows ds.length b l (by rw [← hl]; simp) (by simp)

/-- The cell of the last disk. -/
theorem DRows.lastCell {B D k : Nat} {bs : List Nat} {ds : List (List (List Int))} {w : World} {b : Nat} {l : List (List Int)} (h : DRows B (bs ++ [b]) (ds ++ [l]) w (.slice (some ⟨D, 0, none⟩) (k + 1) 4)) (hk : ds.length = k) : w.cell? ⟨D, k, none⟩ = some (.slice (some ⟨b, 0, none⟩) l.length l.length) := by
  have hl : bs.length = ds.length := by have := h.len; simpa using this
  have ho := h.own
  rw [show (ds ++ [l]).length = k + 1 by simp [hk]] at ho
  have hc := ho.cellAt k (by omega)
  rw [rowVals_at h.len (by simp [hk])] at hc
  simpa [← hk, ← hl] using hc

/-- Bytes that read so. -/
def AnBy (l : List Int) (v : Value) (w : World) : Prop := Bs w v l
theorem AnBy.stable (l : List Int) : ∀ (v : Value) (x y : World), AnBy l v x → Grow x y → AnBy l v y := fun _ _ _ h hg => Bs.grow h hg

theorem newRow_fill (d : Nat) {s : Nat} (hs : s < 3) : (fillTo (newRow d 3) s).set s (cellOf d s nought) = fillTo (newRow d 3) (s + 1) := by
  have h := fillTo_set (newRow d 3) (k := s) (by simpa [newRow] using hs)
  rw [← h]
  congr 1
  simp [newRow, List.getD_eq_getElem?_getD, hs]
theorem newRow_none (d : Nat) : fillTo (newRow d 3) 0 = List.replicate 3 [] := by rw [fillTo_zero]; simp [newRow]
theorem newRow_full (d : Nat) : fillTo (newRow d 3) 3 = newRow d 3 := by
  have := fillTo_all (newRow d 3)
  rwa [show (newRow d 3).length = 3 by simp [newRow]] at this
theorem newRow_len (d s : Nat) (hs : s ≤ 3) : (fillTo (newRow d 3) s).length = 3 := by
  rw [fillTo_length _ (by simpa [newRow] using hs)]
  simp [newRow]

set_option maxRecDepth 20000 in
set_option maxHeartbeats 6400000 in
theorem arrNew_own (w : World) : Calls Try.prog 32 #[] w fun e w' => ∃ bs dv iv, e = .returned (.agg #[dv, iv]) ∧ OwnA w.heap.size bs w' dv iv newP ∧ Grow w w' := by
  obtain ⟨W, hW⟩ : ∃ W, W = (w.alloc (.cells #[.slice none 0 0, .slice none 0 0] 39)).alloc (.cells (nilsN 4) 22) := ⟨_, rfl⟩
  have hgW : Grow w W := by rw [hW]; exact (Grow.alloc _ _).trans (Grow.alloc _ _)
  have HA : Hid (W.heap[w.heap.size]? = some (.cells #[.slice none 0 0, .slice none 0 0] 39 (0, 0))) := by rw [Hid, hW, heap_alloc_old _ _ (by simp)]; exact heap_alloc_new w _
  have HD0 : Hid (DRows (w.heap.size + 1) [] (newDs 0) W (.slice (some ⟨w.heap.size + 1, 0, none⟩) 0 4)) := DRows.made (by rw [hW]; exact heap_alloc2_new w _ _) (Nat.le_refl _)
  have hmk := Try.madeD (w.alloc (.cells #[.slice none 0 0, .slice none 0 0] 39))
  go_enter Try.func32, Try.ntmps32
  go_wp2
  rw [← hW]
  clear hW hmk
  go_loopw [7] (fun i wr => ∃ (k : Nat) (bs : List Nat), k ≤ 4 ∧ i = .int .i64 k ∧ Hid (DRows (w.heap.size + 1) bs (newDs k) wr (.slice (some ⟨w.heap.size + 1, 0, none⟩) k 4)) ∧ Hid (wr.heap[w.heap.size]? = some (.cells #[.slice none 0 0, .slice none 0 0] 39 (0, 0))) ∧ Grow w wr) (fun i _ => 4 - (intOf i).toNat)
  case atStart => exact ⟨0, [], by omega, rfl, HD0, HA, hgW⟩
  case round =>
    obtain ⟨k, bs, hk, rfl, HD, HB, hgr⟩ := hrel
    clear HD0 HA hgW
    by_cases hlt : k < 4
    · have hdk : decide ((k : Int) < 4) = true := by simp; omega
      have hmk : (Instr.makeSlice 22 (.int .i64 3) (.int .i64 3)).run Try.prog wr = .ok (.slice (some ⟨wr.heap.size, 0, none⟩) 3 3) (wr.alloc (.cells (nilsN 3) 23)) := Try.madeN wr 3 (by omega)
      have hgA : Grow wr (wr.alloc (.cells (nilsN 3) 23)) := Grow.alloc _ _
      have hD1 := HD.out.grow hgA
      obtain ⟨⟨u0, hu0⟩, hf0⟩ := hD1.cell hlt
      have hsz := heap_lt HB.out
      have hDs : w.heap.size + 1 < wr.heap.size := by
        obtain ⟨⟨u, hu⟩, -⟩ := HD.out.cell hlt
        exact cell_lt hu
      have hmore := hD1.more (by simp [newDs]) hlt (DRow.made wr 3) (fun b hb => HD.out.lt b hb) (by omega)
      rw [List.length_replicate] at hmore
      have hpast := World.setCell_alloc_past (w := wr) (.cells (nilsN 3) 23) (w.heap.size + 1) k (.slice (some ⟨wr.heap.size, 0, none⟩) 3 3) hDs
      rw [← newRow_none k] at hmore
      have hg2 := (hgr.trans hgA).set (g := w.heap.size + 1) (k := k) (by omega) (.slice (some ⟨wr.heap.size, 0, none⟩) 3 3)
      have hB2 : ((wr.alloc (.cells (nilsN 3) 23)).setCell ⟨w.heap.size + 1, k, none⟩ (.slice (some ⟨wr.heap.size, 0, none⟩) 3 3)).heap[w.heap.size]? = _ := set_other (hgA.block' HB.out) (by omega)
      have l0 : ((wr.alloc (.cells (nilsN 3) 23)).setCell ⟨w.heap.size + 1, k, none⟩ (.slice (some ⟨wr.heap.size, 0, none⟩) 3 3)).cell? ⟨w.heap.size + 1, k, none⟩ = some (.slice (some ⟨wr.heap.size, 0, none⟩) 3 3) := World.cell?_setCell_same _ _ _ hu0
      rw [hpast] at hmore hg2 hB2 l0
      have HD1 : Hid (DRows (w.heap.size + 1) (bs ++ [wr.heap.size]) (newDs k ++ [fillTo (newRow k 3) 0]) ((wr.setCell ⟨w.heap.size + 1, k, none⟩ (.slice (some ⟨wr.heap.size, 0, none⟩) 3 3)).alloc (.cells (nilsN 3) 23)) (.slice (some ⟨w.heap.size + 1, 0, none⟩) (k + 1) 4)) := hmore
      have HB1 : Hid (_ = _) := hB2
      clear hmore hB2 hD1 HD HB hgA
      obtain ⟨b, hb⟩ : ∃ b, b = wr.heap.size := ⟨_, rfl⟩
      obtain ⟨W2, hW2⟩ : ∃ W2, W2 = (wr.setCell ⟨w.heap.size + 1, k, none⟩ (.slice (some ⟨wr.heap.size, 0, none⟩) 3 3)).alloc (.cells (nilsN 3) 23) := ⟨_, rfl⟩
      have hbn : w.heap.size + 1 < b := by omega
      go_wp2
      rw [← hW2] at HD1 HB1 hg2 ⊢
      rw [← hb] at HD1 ⊢
      clear hW2 hb l0 hmk hpast hu0 hf0 hDs hsz hgr
      go_loopw [19] (fun i wr => ∃ s : Nat, s ≤ 3 ∧ i = .int .i64 s ∧ Hid (DRows (w.heap.size + 1) (bs ++ [b]) (newDs k ++ [fillTo (newRow k 3) s]) wr (.slice (some ⟨w.heap.size + 1, 0, none⟩) (k + 1) 4)) ∧ Hid (wr.heap[w.heap.size]? = some (.cells #[.slice none 0 0, .slice none 0 0] 39 (0, 0))) ∧ Grow w wr) (fun i _ => 3 - (intOf i).toNat)
      case atStart => exact ⟨0, by omega, rfl, HD1, HB1, hg2⟩
      case round =>
        obtain ⟨s, hs, rfl, HD, HB, hgr⟩ := hrel
        clear HD1 HB1 hg2
        by_cases hst : s < 3
        · have hds : decide ((s : Int) < 3) = true := by simp; omega
          have hlc := HD.out.lastCell (by simp [newDs])
          rw [newRow_len k s (by omega)] at hlc
          have hbl : b < wr.heap.size := HD.out.last.lt
          have HK : Hid (0 ≤ (k : Int) ∧ (k : Int) ≤ 255 ∧ 0 ≤ (s : Int) ∧ (s : Int) ≤ 255) := ⟨by omega, by omega, by omega, by omega⟩
          have HS : Hid ((fillTo (newRow k 3) s).set s (cellOf k s nought) = fillTo (newRow k 3) (s + 1)) := newRow_fill k hst
          have hsi : (s : Int) < 3 := by omega
          have hki : (k : Int) < 4 := by omega
          go_wp2
          refine wp_region_last [_, _, _, _, _, _, _, _, _, _] _ rfl Grow [IsV (.slice (some ⟨w.heap.size + 1, 0, none⟩) 4 4), IsV (.int .i64 k), IsV (.pointer (some ⟨w.heap.size + 1, k, none⟩)), IsV (.slice (some ⟨b, 0, none⟩) 3 3), IsV (.int .i64 s), IsV (.int .i64 k), IsV (.int .i64 s), AnBy nought, NewTb (cellOf k s nought), IsV (.pointer (some ⟨b, s, none⟩))] (by kernel_rfl) (by kernel_rfl) (by kernel_rfl) rfl Grow.refl (fun _ _ _ => Grow.trans) ?_ ?_ ?_
          · repeat (refine List.forall_mem_cons.2 ⟨by first | exact IsV.stable _ | exact AnBy.stable _ | exact NewTb.stable _, ?_⟩)
            exact fun R hR => nomatch hR
          · skip
            refine StepsS.cons ?_ fun v0 => ⟨_, _, by simp only [Act.put, List.setIfInBounds_toArray, List.set_cons_succ, List.set_cons_zero]; first | done | rfl, by simp only [List.nil_append]; first | done | rfl, ?_⟩
            · intro w1 hE hd
              clear hd
              go_wp2
              exact ⟨_, rfl, Grow.refl _, rfl⟩
            refine StepsS.cons ?_ fun v1 => ⟨_, _, by simp only [Act.put, List.setIfInBounds_toArray, List.set_cons_succ, List.set_cons_zero]; first | done | rfl, by simp only [List.nil_append, List.cons_append]; first | done | rfl, ?_⟩
            · intro w1 hE hd
              clear hd
              go_wp2
              exact ⟨_, rfl, Grow.refl _, rfl⟩
            refine StepsS.cons ?_ fun v2 => ⟨_, _, by simp only [Act.put, List.setIfInBounds_toArray, List.set_cons_succ, List.set_cons_zero]; first | done | rfl, by simp only [List.nil_append, List.cons_append]; first | done | rfl, ?_⟩
            · intro w1 hE hd
              obtain rfl := IsV.eq (dep_at hd 0 rfl rfl rfl)
              obtain rfl := IsV.eq (dep_at hd 1 rfl rfl rfl)
              clear hd
              go_wp2
              exact ⟨_, rfl, Grow.refl _, rfl⟩
            refine StepsS.cons ?_ fun v3 => ⟨_, _, by simp only [Act.put, List.setIfInBounds_toArray, List.set_cons_succ, List.set_cons_zero]; first | done | rfl, by simp only [List.nil_append, List.cons_append]; first | done | rfl, ?_⟩
            · intro w1 hE hd
              obtain rfl := IsV.eq (dep_at hd 0 rfl rfl rfl)
              clear hd
              have q0 := hE.drew.at hlc
              go_wp2
              exact ⟨_, rfl, Grow.refl _, rfl⟩
            refine StepsS.cons ?_ fun v4 => ⟨_, _, by simp only [Act.put, List.setIfInBounds_toArray, List.set_cons_succ, List.set_cons_zero]; first | done | rfl, by simp only [List.nil_append, List.cons_append]; first | done | rfl, ?_⟩
            · intro w1 hE hd
              clear hd
              go_wp2
              exact ⟨_, rfl, Grow.refl _, rfl⟩
            refine StepsS.cons ?_ fun v5 => ⟨_, _, by simp only [Act.put, List.setIfInBounds_toArray, List.set_cons_succ, List.set_cons_zero]; first | done | rfl, by simp only [List.nil_append, List.cons_append]; first | done | rfl, ?_⟩
            · intro w1 hE hd
              clear hd
              go_wp2
              exact ⟨_, rfl, Grow.refl _, rfl⟩
            refine StepsS.cons ?_ fun v6 => ⟨_, _, by simp only [Act.put, List.setIfInBounds_toArray, List.set_cons_succ, List.set_cons_zero]; first | done | rfl, by simp only [List.nil_append, List.cons_append]; first | done | rfl, ?_⟩
            · intro w1 hE hd
              clear hd
              go_wp2
              exact ⟨_, rfl, Grow.refl _, rfl⟩
            refine StepsS.cons ?_ fun v7 => ⟨_, _, by simp only [Act.put, List.setIfInBounds_toArray, List.set_cons_succ, List.set_cons_zero]; first | done | rfl, by simp only [List.nil_append, List.cons_append]; first | done | rfl, ?_⟩
            · intro w1 hE hd
              clear hd
              have hmk := Try.made4 w1
              go_wp2
              exact ⟨_, rfl, Grow.alloc _ _, (Off.row (l := nought) (g := none) (heap_alloc_new w1 _) rfl (n := 4) (by unfold maxLen; decide) nought_oct (fun e => nomatch e)).here⟩
            refine StepsS.cons ?_ fun v8 => ⟨_, _, by simp only [Act.put, List.setIfInBounds_toArray, List.set_cons_succ, List.set_cons_zero]; first | done | rfl, by simp only [List.nil_append, List.cons_append]; first | done | rfl, ?_⟩
            · intro w1 hE hd
              obtain rfl := IsV.eq (dep_at hd 0 rfl rfl rfl)
              obtain rfl := IsV.eq (dep_at hd 1 rfl rfl rfl)
              have d7 := dep_at hd 2 rfl rfl rfl
              clear hd
              obtain ⟨z1, z2, z3, rfl⟩ := Bs.form d7
              have hcall := bytes_any (.slice z1 z2 z3) nought k s w1 (by decide) ⟨HK.out.1, HK.out.2.1⟩ ⟨HK.out.2.2.1, HK.out.2.2.2⟩ d7
              go_wp2_with fail
              refine hcall.mono ?_
              rintro e w5 ⟨r, rfl, hr, hg5⟩
              go_wp2_with fail
              exact ⟨_, rfl, hg5, Tb.own hr (cellOf_octets ⟨HK.out.1, HK.out.2.1⟩ ⟨HK.out.2.2.1, HK.out.2.2.2⟩ nought_oct)⟩
            refine StepsS.cons ?_ fun v9 => ⟨_, _, by simp only [Act.put, List.setIfInBounds_toArray, List.set_cons_succ, List.set_cons_zero]; first | done | rfl, by simp only [List.nil_append, List.cons_append]; first | done | rfl, ?_⟩
            · intro w1 hE hd
              obtain rfl := IsV.eq (dep_at hd 0 rfl rfl rfl)
              obtain rfl := IsV.eq (dep_at hd 1 rfl rfl rfl)
              clear hd
              go_wp2
              exact ⟨_, rfl, Grow.refl _, rfl⟩
            trivial
          intro wR hwR
          refine FinS.cons ?_; rintro _ rfl; refine ⟨_, by simp only [Act.put, List.setIfInBounds_toArray, List.set_cons_succ, List.set_cons_zero]; first | done | rfl, ?_⟩
          refine FinS.cons ?_; rintro _ rfl; refine ⟨_, by simp only [Act.put, List.setIfInBounds_toArray, List.set_cons_succ, List.set_cons_zero]; first | done | rfl, ?_⟩
          refine FinS.cons ?_; rintro _ rfl; refine ⟨_, by simp only [Act.put, List.setIfInBounds_toArray, List.set_cons_succ, List.set_cons_zero]; first | done | rfl, ?_⟩
          refine FinS.cons ?_; rintro _ rfl; refine ⟨_, by simp only [Act.put, List.setIfInBounds_toArray, List.set_cons_succ, List.set_cons_zero]; first | done | rfl, ?_⟩
          refine FinS.cons ?_; rintro _ rfl; refine ⟨_, by simp only [Act.put, List.setIfInBounds_toArray, List.set_cons_succ, List.set_cons_zero]; first | done | rfl, ?_⟩
          refine FinS.cons ?_; rintro _ rfl; refine ⟨_, by simp only [Act.put, List.setIfInBounds_toArray, List.set_cons_succ, List.set_cons_zero]; first | done | rfl, ?_⟩
          refine FinS.cons ?_; rintro _ rfl; refine ⟨_, by simp only [Act.put, List.setIfInBounds_toArray, List.set_cons_succ, List.set_cons_zero]; first | done | rfl, ?_⟩
          refine FinS.cons fun v7 h7 => ⟨_, by simp only [Act.put, List.setIfInBounds_toArray, List.set_cons_succ, List.set_cons_zero]; first | done | rfl, ?_⟩
          refine FinS.cons fun v8 h8 => ⟨_, by simp only [Act.put, List.setIfInBounds_toArray, List.set_cons_succ, List.set_cons_zero]; first | done | rfl, ?_⟩
          refine FinS.cons ?_; rintro _ rfl; refine ⟨_, by simp only [Act.put, List.setIfInBounds_toArray, List.set_cons_succ, List.set_cons_zero]; first | done | rfl, ?_⟩
          show wpList _ _ _ _ _ _
          obtain ⟨r1, r2, r3, rfl⟩ := (Tb.here h8).form
          have hgR : Grow wr wR := hwR.drew
          have hDR := HD.out.grow hgR
          obtain ⟨⟨u0, hu0⟩, hf0⟩ := hDR.last.at (k := s) (by rw [newRow_len k s (by omega)]; exact hst)
          have hP := hDR.putLast (s := s) h8
          rw [HS.out] at hP
          have HD3 : Hid (DRows _ _ _ _ _) := hP
          have HB3 : Hid ((wR.setCell ⟨b, s, none⟩ (.slice r1 r2 r3)).heap[w.heap.size]? = some (.cells #[.slice none 0 0, .slice none 0 0] 39 (0, 0))) := set_other (hgR.block' HB.out) (by omega)
          have hg3 := (hgr.trans hgR).set (g := b) (k := s) (by omega) (.slice r1 r2 r3)
          clear hP hDR HD HB h7 h8 hlc
          go_wp2
          go_roundw
          case rel => first | exact ⟨s + 1, by omega, by go_num, HD3, HB3, hg3⟩ | ((repeat apply Exists.intro); exact ⟨⟨s + 1, by omega, by go_num, HD3, HB3, hg3⟩, rfl⟩)
          case measure => simp [intOf]; omega
        · have HS3 : Hid (s = 3) := by rw [Hid]; omega
          have HDk : Hid (DRows (w.heap.size + 1) (bs ++ [b]) (newDs (k + 1)) wr (.slice (some ⟨w.heap.size + 1, 0, none⟩) (k + 1) 4)) := by
            have := HD.out
            rw [HS3.out, newRow_full, newDs_succ] at this
            exact this
          clear HD
          go_wp2
          go_roundw
          case rel => first | exact ⟨k + 1, _, by omega, by go_num, HDk, HB, hgr⟩ | ((repeat apply Exists.intro); exact ⟨⟨k + 1, _, by omega, by go_num, HDk, HB, hgr⟩, rfl⟩)
          case measure => simp [intOf]; omega
    · have HK4 : Hid (k = 4) := by rw [Hid]; omega
      have hD4 := HD.out
      rw [HK4.out] at hD4
      have hdk := hD4.dks (fun d hd => newP_whole.2 d hd)
      have r0 := two_at0 HB.out
      have r1 := two_at1 HB.out
      have f0 : wr.frozen? ⟨w.heap.size, 0, none⟩ = false := frozen_of_row wr _ 0 _ _ HB.out
      have f1 : wr.frozen? ⟨w.heap.size, 1, none⟩ = false := frozen_of_row wr _ 1 _ _ HB.out
      have hO : OwnA (w.heap.size + 1) bs wr (.slice (some ⟨w.heap.size + 1, 0, none⟩) 4 4) (.slice none 0 0) newP := ⟨newP_whole, hD4, .inl ⟨rfl, rfl⟩⟩
      have h1 := two_set0 (z := .slice (some ⟨w.heap.size + 1, 0, none⟩) 4 4) HB.out
      have h2 := two_set1 (z := .slice none 0 0) h1
      have z0 := two_at0 h2
      have z1 := two_at1 h2
      have HO : Hid (OwnA _ _ _ _ _ _) := (hO.k4 (K4.set HB.out)).k4 (K4.set (k := 1) (u := .slice none 0 0) h1)
      have hg3 := (hgr.set (g := w.heap.size) (k := 0) (Nat.le_refl _) (.slice (some ⟨w.heap.size + 1, 0, none⟩) 4 4)).set (g := w.heap.size) (k := 1) (Nat.le_refl _) (.slice none 0 0)
      clear hO hD4 hdk h1 h2 HD HB
      go_wp2
      refine bodyPost_ret (results_two Try.results32 _ _ w.heap.size _ rfl Try.underlying39 rfl Try.sizeA z0 z1) rfl ?_
      exact ⟨_, _, _, rfl, HO.out.low (by omega), hg3⟩

theorem arrNew_any (w : World) : Calls Try.prog 32 #[] w fun e w' => ∃ r, e = .returned r ∧ ArrV w' r newP ∧ Grow w w' :=
  (arrNew_own w).mono fun _ _ ⟨_, _, _, he, hO, hg⟩ => ⟨_, he, hO.arr, hg⟩

end Go.Proofs.Ytjggiameajndgab

/-
  What the program's array.Blocks returns. Nothing old turns.
-/
namespace Go.Proofs.Ytjggiameajndgab
open Go.RowKit

set_option maxRecDepth 20000 in
set_option maxHeartbeats 3200000 in
theorem arrBlocks_any (v : Value) (a : ArrP) (w : World) (h : ArrV w v a) (ha : Whole a) (h8 : ∀ d s, (cellAt a d s).length ≤ 8) :
    Calls Try.prog 39 #[v] w fun e w' => ∃ r, e = .returned (.tuple #[r, .int .i64 (blkE a)]) ∧ Bss w' r (blkL a) ∧ Grow w w' := by
  have harr := h
  obtain ⟨dv, iv, rfl, hd, hit⟩ := h
  obtain ⟨ad, cd, rfl, hd1, hd2⟩ := hd.form'
  obtain ⟨ai, ci, rfl, hi1, hi2⟩ := hit.form
  have hl4 := ha.1
  rw [hl4] at harr hd1 ⊢
  generalize a.is.length = ni at *
  have HA : Hid (ArrV w (.agg #[.slice ad 4 cd, .slice ai ni ci]) a ∧ Whole a ∧ ∀ d s, (cellAt a d s).length ≤ 8) := ⟨harr, ha, h8⟩
  have HO : Hid ((∀ j, j < 9 → rdE a (j : Nat) = 0) → blkE a = 0 ∧ blkL a = (List.range 9).map (fun n => rdX a (n : Nat))) := fun h => by
    have := blkE_ok h
    exact ⟨this, if_pos this⟩
  have HF : Hid (∀ k, k < 9 → (∀ j, j < k → rdE a (j : Nat) = 0) → rdE a (k : Nat) ≠ 0 → blkE a = rdE a (k : Nat) ∧ blkL a = []) := fun k hk h1 h2 => by
    have := blkE_no hk h1 h2
    exact ⟨this, if_neg (by rw [this]; exact h2)⟩
  have hgA : Grow w (w.alloc (.cells #[.slice ad 4 cd, .slice ai ni ci] 39)) := Grow.alloc _ _
  obtain ⟨w1, hw1⟩ : ∃ w1, w1 = w.alloc (.cells #[.slice ad 4 cd, .slice ai ni ci] 39) := ⟨_, rfl⟩
  have hsz : w1.heap.size = w.heap.size + 1 := by rw [hw1]; simp
  have hA0 : w1.heap[w.heap.size]? = some (.cells #[.slice ad 4 cd, .slice ai ni ci] 39 (0, 0)) := by rw [hw1]; exact heap_alloc_new w _
  have c0 := two_at0 hA0
  have c1 := two_at1 hA0
  have hmk := Try.made9 (w.alloc (.cells #[.slice ad 4 cd, .slice ai ni ci] 39))
  have hst : Hid (Rowing Bs w1.heap.size 23 (w1.alloc (.cells nines 23)) (.slice (some ⟨w1.heap.size, 0, none⟩) 9 9) (upTo (fun n => rdX a (n : Nat)) 0)) := by rw [upTo_zero]; exact Rowing.made9 w1
  rw [← hw1] at hgA
  clear hd hit harr ha h8 hA0 hl4
  go_enter Try.func39, Try.ntmps39
  go_wp2
  rw [← hw1]
  rw [show w.heap.size + 1 = w1.heap.size from hsz.symm]
  clear hw1 hsz hmk
  go_loopw [11] (fun i wr => ∃ k : Nat, k ≤ 9 ∧ i = .int .i64 k ∧ Hid (Rowing Bs w1.heap.size 23 wr (.slice (some ⟨w1.heap.size, 0, none⟩) 9 9) (upTo (fun n => rdX a (n : Nat)) k)) ∧ Hid (∀ j, j < k → rdE a (j : Nat) = 0) ∧ Grow w1 wr) (fun i _ => 9 - (intOf i).toNat)
  case atStart => exact ⟨0, by omega, rfl, hst, (fun j hj => by omega), Grow.alloc _ _⟩
  case round =>
    obtain ⟨k, hk, rfl, HR, HE, hgr⟩ := hrel
    clear hst
    by_cases hlt : k < 9
    · have c0' := hgr.at c0
      have c1' := hgr.at c1
      have hgw := hgA.trans hgr
      have hlr : w1.heap.size < wr.heap.size := (HR.out.base _ rfl).2
      have hcall := arrRead_off (.agg #[.slice ad 4 cd, .slice ai ni ci]) a k wr (some w1.heap.size) (HA.out.1.grow hgw) (fun j hj => by cases hj; exact hlr) HA.out.2.1 HA.out.2.2
      go_wp2_with fail
      refine hcall.mono ?_
      rintro e w2 ⟨r, rfl, hr, hg2⟩
      clear hcall
      obtain ⟨ar, nr, cr, rfl⟩ := hr.here.form
      have hgr2 := hgr.trans hg2
      by_cases he : rdE a (k : Nat) = 0
      · have HE' : Hid (∀ j, j < k + 1 → rdE a (j : Nat) = 0) := fun j hj => by
          by_cases hjk : j = k
          · rw [hjk]; exact he
          · exact HE.out j (by omega)
        have hrow := HR.out.grow hg2
        obtain ⟨⟨u0, hu0⟩, hf0⟩ := hrow.at (k := k) (by rw [upTo_length]; exact hlt)
        have hrow1 := hrow.stored k hr
        rw [upTo_set (fun n => rdX a (n : Nat)) hlt] at hrow1
        have HR1 : Hid (Rowing Bs _ _ _ _ _) := hrow1
        have hg4 := hgr2.set (k := k) (Nat.le_refl w1.heap.size) (.slice ar nr cr)
        clear hrow hrow1 HR hr
        generalize rdE a (k : Nat) = E at *
        subst he
        go_wp2
        go_roundw
        case rel => first | exact ⟨k + 1, by omega, by go_num, HR1, HE', hg4⟩ | ((repeat apply Exists.intro); exact ⟨⟨k + 1, by omega, by go_num, HR1, HE', hg4⟩, rfl⟩)
        case measure => simp [intOf]; omega
      · have HF' : Hid (blkE a = rdE a (k : Nat) ∧ blkL a = []) := HF.out k hlt HE.out he
        generalize rdE a (k : Nat) = E at *
        have he' : (E != 0) = true := by simpa using he
        clear HF HO HR hr
        go_wp2
        go_ret2
        exact ⟨_, ret_bs2 HF'.out.1.symm, by rw [HF'.out.2]; exact Sl.nil _ _, hgA.trans hgr2⟩
    · obtain rfl : k = 9 := by omega
      have HO' := HO.out HE.out
      have hR := HR.out.done
      rw [upTo_all, ← HO'.2] at hR
      have Hfin : Hid (blkE a = 0 ∧ Bss wr (.slice (some ⟨w1.heap.size, 0, none⟩) 9 9) (blkL a)) := ⟨HO'.1, hR⟩
      clear HO' HF HO HR hR
      go_wp2
      go_ret2
      exact ⟨_, ret_bs2 Hfin.out.1.symm, Hfin.out.2, hgA.trans hgr⟩

end Go.Proofs.Ytjggiameajndgab

/-
  What the reference's Do and Step return. Nothing old turns.
-/
namespace Go.Proofs.Ytjggiameajndgab
open Go.RowKit

/-- An array is laid into the two cells of the result. -/
theorem two_fin {w wN : World} {R : Nat} {x1 x2 x3 y1 y2 y3 : _} {p q : Value} {t : TypeId} {b : ArrP} (hR : wN.heap[R]? = some (.cells #[.slice x1 x2 x3, .slice y1 y2 y3] t (0, 0))) (hw : w.heap.size ≤ R) (hg : Grow w wN)
    (hv : ArrV wN (.agg #[p, q]) b) (hb : Whole b) (hf : Fours b) :
    ArrV ((wN.setCell ⟨R, 0, none⟩ p).setCell ⟨R, 1, none⟩ q) (.agg #[p, q]) b ∧ ((wN.setCell ⟨R, 0, none⟩ p).setCell ⟨R, 1, none⟩ q).cell? ⟨R, 0, none⟩ = some p ∧ ((wN.setCell ⟨R, 0, none⟩ p).setCell ⟨R, 1, none⟩ q).cell? ⟨R, 1, none⟩ = some q ∧ Grow w ((wN.setCell ⟨R, 0, none⟩ p).setCell ⟨R, 1, none⟩ q) :=
  ⟨Two.store ⟨_, _, _, _, _, _, _, hR⟩ hv hb hf _ _, by rw [cell_set_ne (by simp)]; exact World.cell?_setCell_same _ _ _ (two_at0 hR), World.cell?_setCell_same _ _ _ (by rw [cell_set_ne (by simp)]; exact two_at1 hR), (hg.set hw _).set hw _⟩

/-- What stands in a result's cells: they may be written. -/
theorem two_open {wN : World} {R : Nat} {x y : Value} {t : TypeId} (hR : wN.heap[R]? = some (.cells #[x, y] t (0, 0))) : wN.cell? ⟨R, 0, none⟩ = some x ∧ wN.cell? ⟨R, 1, none⟩ = some y ∧ wN.frozen? ⟨R, 0, none⟩ = false ∧ wN.frozen? ⟨R, 1, none⟩ = false :=
  ⟨two_at0 hR, two_at1 hR, frozen_of_row wN _ 0 _ _ hR, frozen_of_row wN _ 1 _ _ hR⟩

theorem ret_v2 {v : Value} {k2 : IntKind} {a2 b2 : Int} (h2 : a2 = b2) : Ending.returned (.tuple #[v, .int k2 a2]) = .returned (.tuple #[v, .int k2 b2]) := by rw [h2]

set_option maxRecDepth 20000 in
set_option maxHeartbeats 3200000 in
theorem refDo6_any (v dv : Value) (a : ArrP) (x : DeedP) (w : World) (h : ArrV w v a) (ha : Arr a) (hd : DeedV w dv x) :
    Calls Try.prog 35 #[v, dv] w fun e w' => ∃ r, e = .returned (.tuple #[r, .int .i64 (planE a x)]) ∧ ArrV w' r (doA a x) ∧ Grow w w' := by
  have harr := h
  have hdeed := hd
  obtain ⟨a1, n1, c1, a2, n2, c2, rfl⟩ := h.form
  obtain ⟨sv, rfl, hbd⟩ := hd
  obtain ⟨d1, d2, d3, rfl⟩ := hbd.form
  clear h hbd
  obtain ⟨W, hW⟩ : ∃ W, W = ((w.alloc (.cells #[.slice a1 n1 c1, .slice a2 n2 c2] 39)).alloc (.cells #[.int .i64 x.k, .int .i64 x.n, .int .i64 x.m, .slice d1 d2 d3] 25)).alloc (.cells #[.slice none 0 0, .slice none 0 0] 39) := ⟨_, rfl⟩
  have hgW : Grow w W := by rw [hW]; exact ((Grow.alloc _ _).trans (Grow.alloc _ _)).trans (Grow.alloc _ _)
  obtain ⟨H1, H2, H3⟩ := heap3 w (.cells #[.slice a1 n1 c1, .slice a2 n2 c2] 39) (.cells #[.int .i64 x.k, .int .i64 x.n, .int .i64 x.m, .slice d1 d2 d3] 25) (.cells #[.slice none 0 0, .slice none 0 0] 39)
  rw [← hW] at H1 H2 H3
  have k0 := row_at H1 0 rfl
  have k1 := row_at H1 1 rfl
  have d0' := row_at H2 0 rfl
  have d1' := row_at H2 1 rfl
  have d2' := row_at H2 2 rfl
  have d3' := row_at H2 3 rfl
  have hpl := refPlan_any _ _ a x W (harr.grow hgW) ha.whole (hdeed.grow hgW)
  have hlW : w.heap.size + 1 + 1 < W.heap.size := cell_lt (row_at H3 0 rfl)
  by_cases he : planE a x = 0
  · have HD : Hid (doA a x = writeTo a (planI a x) 6) := if_pos he
    have HE : Hid (planE a x = 0) := he
    obtain ⟨s, hs3, -, -, -, hi⟩ := planI_ok he
    obtain ⟨hc4, -⟩ := planI_cells ha.whole he
    have hA := doA_arr ha x
    rw [HD.out] at hA
    rw [hi] at hA hc4 hpl
    rw [he] at hpl
    have HD' : Hid (doA a x = writeTo a ((s : Int), makeL (planOut (planBl a x) s) s) 6) := by rw [Hid, HD.out, hi]
    clear HD hi he
    simp only at hc4
    generalize makeL (planOut (planBl a x) s) s = cs at *
    go_enter Try.func35, Try.ntmps35
    go_wp2_with fail
    rw [← hW]
    refine hpl.mono ?_
    rintro e w1 ⟨r, rfl, ⟨cv, rfl, hcv⟩, hg1⟩
    obtain ⟨vc, cc, rfl⟩ := hcv.form
    rw [hc4] at hcv ⊢
    clear hW hpl
    have q0 := hg1.at k0
    have q1 := hg1.at k1
    have hg2 : Grow w1 (w1.alloc (.cells #[.int .i64 s, .slice vc 4 cc] 62)) := Grow.alloc _ _
    have q0' := hg2.at q0
    have q1' := hg2.at q1
    have hgT := (hgW.trans hg1).trans hg2
    have hwr := refWrite_any _ _ a s cs 6 _ (harr.grow hgT) ha.whole ⟨_, rfl, hcv.grow hg2⟩ hs3 hc4 ha.fours
    have hR2 := (hg1.trans hg2).block' H3
    clear H1 H2 H3 k0 k1 d0' d1' d2' d3'
    go_wp2_with fail
    refine hwr.mono ?_
    rintro e w3 ⟨r, rfl, hr, hg3⟩
    rw [writeTo_six] at hr
    obtain ⟨p1, p2, p3, r1, r2, r3, rfl⟩ := hr.form
    have hR3 := hg3.block' hR2
    obtain ⟨t0, t1, f0, f1⟩ := two_open hR3
    obtain ⟨hv, z0, z1, hg⟩ := two_fin hR3 (by omega) (hgT.trans hg3) hr hA.whole hA.fours
    have hfin : Hid (_ ∧ _) := ⟨hv, hg⟩
    clear hv hg hr hwr hcv hR2 hR3 q0 q1 q0' q1'
    go_wp2
    refine bodyPost_ret (results_two1 Try.results35 _ _ (w.heap.size + 1 + 1) _ rfl Try.underlying39 rfl Try.sizeA z0 z1) rfl ?_
    exact ⟨_, ret_v2 HE.out.symm, by rw [HD'.out]; exact hfin.out.1, hfin.out.2⟩
  · have HD : Hid (doA a x = a) := if_neg he
    have HI : planI a x = (0, []) := if_pos he
    rw [HI] at hpl
    clear HI
    generalize planE a x = E at *
    have he' : (E != 0) = true := by simpa using he
    go_enter Try.func35, Try.ntmps35
    go_wp2_with fail
    rw [← hW]
    refine hpl.mono ?_
    rintro e w1 ⟨r, rfl, ⟨cv, rfl, hcv⟩, hg1⟩
    obtain ⟨vc, cc, rfl⟩ := hcv.form
    clear hW hpl
    simp only [List.length_nil]
    have q0 := hg1.at k0
    have q1 := hg1.at k1
    have hg2 : Grow w1 (w1.alloc (.cells #[.int .i64 0, .slice vc 0 cc] 62)) := Grow.alloc _ _
    have q0' := hg2.at q0
    have q1' := hg2.at q1
    have hgT := (hgW.trans hg1).trans hg2
    have hR2 := (hg1.trans hg2).block' H3
    clear H1 H2 H3 k0 k1 d0' d1' d2' d3'
    obtain ⟨t0, t1, f0, f1⟩ := two_open hR2
    obtain ⟨hv, z0, z1, hg⟩ := two_fin hR2 (by omega) hgT (harr.grow hgT) ha.whole ha.fours
    have hfin : Hid (_ ∧ _) := ⟨hv, hg⟩
    clear hv hg hcv hR2
    go_wp2
    refine bodyPost_ret (results_two1 Try.results35 _ _ (w.heap.size + 1 + 1) _ rfl Try.underlying39 rfl Try.sizeA z0 z1) rfl ?_
    exact ⟨_, rfl, by rw [HD.out]; exact hfin.out.1, hfin.out.2⟩

theorem refMount_any (v : Value) (b : ArrP) (w : World) (h : ArrV w v b) (hb : Whole b) (hi : b.is = [] ∨ ∃ (s : Nat) (cs : List (List Int)), b.is = [((s : Int), cs)] ∧ s < 3 ∧ cs.length = 4) :
    Calls Try.prog 46 #[v] w fun e w' => ∃ r, e = .returned r ∧ ArrV w' r (mountL b) ∧ Grow w w' := by
  rcases hi with hi | ⟨s, cs, hi, hs, hc⟩
  · have : mountL b = b := by rw [mountL, hi]
    rw [this]
    exact refMount_none v b w h hi
  · have : mountL b = writeTo b ((s : Int), cs) 6 := by rw [mountL, hi]
    rw [this]
    exact refMount_one v b s cs w h hb hi hs hc

/-- What intents there are behind some of the writes. -/
theorem writeL_is {a : ArrP} (h : a.is = []) (i : Int × List (List Int)) (n : Int) : (writeL a i n).is = [] ∨ (writeL a i n).is = [i] := by
  rw [writeL]
  have := many6_le n
  generalize many6 n = k at *
  by_cases h0 : k = 0
  · subst h0; exact .inl h
  by_cases h6 : k = 6
  · subst h6; exact .inl rfl
  · exact .inr (writeTo_is_mid a i k (by omega) (by omega))

/-- A step, as it lies. -/
def StepV (w : World) (v : Value) (x : StepP) : Prop := ∃ dv, v = .agg #[.int .i64 x.k, .int .i64 x.n, .int .i64 x.m, .int .i64 x.d.k, .int .i64 x.d.n, .int .i64 x.d.m, dv] ∧ Bs w dv x.d.d ∧ x.n ≤ 9223372036854775807
theorem StepV.grow {w w' : World} {v : Value} {x : StepP} (h : StepV w v x) (hg : Grow w w') : StepV w' v x := by
  obtain ⟨dv, hv, hb, hn⟩ := h
  exact ⟨dv, hv, hb.grow hg, hn⟩

/-- The world behind a step's boxes, and what stands there. -/
structure Boxes (w W : World) (a1 : Option Addr) (n1 c1 : Nat) (a2 : Option Addr) (n2 c2 : Nat) (x : StepP) (dv : Value) : Prop where
  grow : Grow w W
  k0 : W.cell? ⟨w.heap.size, 0, none⟩ = some (.slice a1 n1 c1)
  k1 : W.cell? ⟨w.heap.size, 1, none⟩ = some (.slice a2 n2 c2)
  s0 : W.cell? ⟨w.heap.size + 1, 0, none⟩ = some (.int .i64 x.k)
  s1 : W.cell? ⟨w.heap.size + 1, 1, none⟩ = some (.int .i64 x.n)
  s2 : W.cell? ⟨w.heap.size + 1, 2, none⟩ = some (.int .i64 x.m)
  s3 : W.cell? ⟨w.heap.size + 1, 3, none⟩ = some (.int .i64 x.d.k)
  s4 : W.cell? ⟨w.heap.size + 1, 4, none⟩ = some (.int .i64 x.d.n)
  s5 : W.cell? ⟨w.heap.size + 1, 5, none⟩ = some (.int .i64 x.d.m)
  s6 : W.cell? ⟨w.heap.size + 1, 6, none⟩ = some dv
  res : W.heap[w.heap.size + 1 + 1]? = some (.cells #[.slice none 0 0, .slice none 0 0] 39 (0, 0))

theorem Boxes.mk' (w : World) (a1 : Option Addr) (n1 c1 : Nat) (a2 : Option Addr) (n2 c2 : Nat) (x : StepP) (dv : Value) :
    Boxes w (((w.alloc (.cells #[.slice a1 n1 c1, .slice a2 n2 c2] 39)).alloc (.cells #[.int .i64 x.k, .int .i64 x.n, .int .i64 x.m, .int .i64 x.d.k, .int .i64 x.d.n, .int .i64 x.d.m, dv] 82)).alloc (.cells #[.slice none 0 0, .slice none 0 0] 39)) a1 n1 c1 a2 n2 c2 x dv := by
  obtain ⟨H1, H2, H3⟩ := heap3 w (.cells #[.slice a1 n1 c1, .slice a2 n2 c2] 39) (.cells #[.int .i64 x.k, .int .i64 x.n, .int .i64 x.m, .int .i64 x.d.k, .int .i64 x.d.n, .int .i64 x.d.m, dv] 82) (.cells #[.slice none 0 0, .slice none 0 0] 39)
  exact ⟨((Grow.alloc _ _).trans (Grow.alloc _ _)).trans (Grow.alloc _ _), row_at H1 0 rfl, row_at H1 1 rfl, row_at H2 0 rfl, row_at H2 1 rfl, row_at H2 2 rfl, row_at H2 3 rfl, row_at H2 4 rfl, row_at H2 5 rfl, row_at H2 6 rfl, H3⟩

set_option maxRecDepth 20000 in
set_option maxHeartbeats 1600000 in
theorem refStep_any (v sv : Value) (a : ArrP) (x : StepP) (w : World) (h : ArrV w v a) (ha : Arr a) (hs : StepV w sv x) :
    Calls Try.prog 61 #[v, sv] w fun e w' => ∃ r, e = .returned (.tuple #[r, .int .i64 (stepE a x)]) ∧ ArrV w' r (stepA a x) ∧ Grow w w' := by
  have harr := h
  obtain ⟨a1, n1, c1, a2, n2, c2, rfl⟩ := h.form
  obtain ⟨dv, rfl, hbd, hmax⟩ := hs
  obtain ⟨d1, d2, d3, rfl⟩ := hbd.form
  clear h
  obtain ⟨W, hW⟩ : ∃ W, W = ((w.alloc (.cells #[.slice a1 n1 c1, .slice a2 n2 c2] 39)).alloc (.cells #[.int .i64 x.k, .int .i64 x.n, .int .i64 x.m, .int .i64 x.d.k, .int .i64 x.d.n, .int .i64 x.d.m, .slice d1 d2 d3] 82)).alloc (.cells #[.slice none 0 0, .slice none 0 0] 39) := ⟨_, rfl⟩
  have HB : Boxes w W a1 n1 c1 a2 n2 c2 x (.slice d1 d2 d3) := by rw [hW]; exact Boxes.mk' ..
  obtain ⟨hgW, k0, k1, s0, s1, s2, s3, s4, s5, s6, hR⟩ := HB
  have hdeed : DeedV W (.agg #[.int .i64 x.d.k, .int .i64 x.d.n, .int .i64 x.d.m, .slice d1 d2 d3]) x.d := ⟨_, rfl, hbd.grow hgW⟩
  have harrW := harr.grow hgW
  clear hbd
  have hlW : w.heap.size ≤ w.heap.size + 1 + 1 := by omega
  by_cases x1 : x.k = 1
  · have HE : Hid (stepE a x = planE a x.d ∧ stepA a x = doA a x.d) := ⟨if_pos x1, if_pos x1⟩
    have hcall := refDo6_any _ _ a x.d W harrW ha hdeed
    have hA := doA_arr ha x.d
    rw [x1] at s0 hW ⊢
    clear x1
    go_enter Try.func61, Try.ntmps61
    go_wp2_with fail
    rw [← hW]
    refine hcall.mono ?_
    rintro e w1 ⟨r, rfl, hr, hg1⟩
    obtain ⟨p1, p2, p3, r1, r2, r3, rfl⟩ := hr.form
    have hR1 := hg1.block' hR
    obtain ⟨t0, t1, f0, f1⟩ := two_open hR1
    obtain ⟨hv, z0, z1, hg⟩ := two_fin hR1 hlW (hgW.trans hg1) hr hA.whole hA.fours
    have hfin : Hid (_ ∧ _) := ⟨hv, hg⟩
    clear hv hg hr hR hR1 hW k0 k1 s0 s1 s2 s3 s4 s5 s6 hcall
    go_wp2
    refine bodyPost_ret (results_two1 Try.results61 _ _ (w.heap.size + 1 + 1) _ rfl Try.underlying39 rfl Try.sizeA z0 z1) rfl ?_
    exact ⟨_, ret_v2 HE.out.1.symm, by rw [HE.out.2]; exact hfin.out.1, hfin.out.2⟩
  by_cases x2 : x.k = 2
  · have HE : Hid (stepE a x = planE a x.d ∧ stepA a x = fallA a x.d x.n) := ⟨(if_neg x1).trans (if_pos x2), (if_neg x1).trans (if_pos x2)⟩
    have hpl := refPlan_any _ _ a x.d W harrW ha.whole hdeed
    have hA := fallA_arr ha x.d x.n
    rw [x2] at s0 hW ⊢
    clear x1 x2
    by_cases he : planE a x.d = 0
    · have HD : Hid (fallA a x.d x.n = mountL (writeL a (planI a x.d) x.n)) := if_pos he
      have HE0 : Hid (planE a x.d = 0) := he
      obtain ⟨s, hs3, -, -, -, hi⟩ := planI_ok he
      obtain ⟨hc4, -⟩ := planI_cells ha.whole he
      have hwi := writeL_is ha.none (planI a x.d) x.n
      have hww : Whole (writeL a (planI a x.d) x.n) := writeTo_whole ha.whole _ _
      rw [HD.out] at hA
      rw [hi] at hA hc4 hpl hwi hww
      rw [he] at hpl
      have HD' : Hid (fallA a x.d x.n = mountL (writeL a ((s : Int), makeL (planOut (planBl a x.d) s) s) x.n)) := by rw [Hid, HD.out, hi]
      clear HD hi he
      simp only at hc4
      generalize makeL (planOut (planBl a x.d) s) s = cs at *
      go_enter Try.func61, Try.ntmps61
      go_wp2_with fail
      rw [← hW]
      refine hpl.mono ?_
      rintro e w1 ⟨r, rfl, ⟨cv, rfl, hcv⟩, hg1⟩
      obtain ⟨vc, cc, rfl⟩ := hcv.form
      rw [hc4] at hcv ⊢
      have hg2 : Grow w1 (w1.alloc (.cells #[.int .i64 s, .slice vc 4 cc] 62)) := Grow.alloc _ _
      have hg12 := hg1.trans hg2
      have q0 := hg1.at k0
      have q1 := hg1.at k1
      have q0' := hg12.at k0
      have q1' := hg12.at k1
      have q2' := hg12.at s1
      have hwr := refWrite_any _ _ a s cs x.n _ (harrW.grow hg12) ha.whole ⟨_, rfl, hcv.grow hg2⟩ hs3 hc4 ha.fours
      have hR2 := hg12.block' hR
      clear hW hpl hR k0 k1 s0 s1 s2 s3 s4 s5 s6
      go_wp2_with fail
      refine hwr.mono ?_
      rintro e w3 ⟨r, rfl, hr, hg3⟩
      go_wp2_with fail
      refine (refMount_any _ _ _ hr hww (by
        rcases hwi with hwi | hwi
        · exact .inl hwi
        · exact .inr ⟨s, cs, hwi, hs3, hc4⟩)).mono ?_
      rintro e w4 ⟨r', rfl, hr', hg4⟩
      obtain ⟨p1, p2, p3, r1, r2, r3, rfl⟩ := hr'.form
      have hg14 := (hg12.trans hg3).trans hg4
      have hR4 := (hg3.trans hg4).block' hR2
      obtain ⟨t0, t1, f0, f1⟩ := two_open hR4
      obtain ⟨hv, z0, z1, hg⟩ := two_fin hR4 hlW (hgW.trans hg14) hr' hA.whole hA.fours
      have hfin : Hid (_ ∧ _) := ⟨hv, hg⟩
      clear hv hg hr hr' hR2 hR4 hwr q0 q1 q0' q1' q2' hwi hww
      go_wp2
      refine bodyPost_ret (results_two1 Try.results61 _ _ (w.heap.size + 1 + 1) _ rfl Try.underlying39 rfl Try.sizeA z0 z1) rfl ?_
      exact ⟨_, ret_v2 (by rw [HE.out.1]; exact HE0.out.symm), by rw [HE.out.2, HD'.out]; exact hfin.out.1, hfin.out.2⟩
    · have HD : Hid (fallA a x.d x.n = a) := if_neg he
      have HI : planI a x.d = (0, []) := if_pos he
      rw [HI] at hpl
      clear HI
      generalize planE a x.d = E at *
      have he' : (E != 0) = true := by simpa using he
      go_enter Try.func61, Try.ntmps61
      go_wp2_with fail
      rw [← hW]
      refine hpl.mono ?_
      rintro e w1 ⟨r, rfl, ⟨cv, rfl, hcv⟩, hg1⟩
      obtain ⟨vc, cc, rfl⟩ := hcv.form
      simp only [List.length_nil]
      have hg2 : Grow w1 (w1.alloc (.cells #[.int .i64 0, .slice vc 0 cc] 62)) := Grow.alloc _ _
      have hg12 := hg1.trans hg2
      have q0 := hg1.at k0
      have q1 := hg1.at k1
      have q0' := hg12.at k0
      have q1' := hg12.at k1
      have hR2 := hg12.block' hR
      clear hW hpl hR k0 k1 s0 s1 s2 s3 s4 s5 s6
      obtain ⟨t0, t1, f0, f1⟩ := two_open hR2
      obtain ⟨hv, z0, z1, hg⟩ := two_fin hR2 hlW (hgW.trans hg12) (harrW.grow hg12) ha.whole ha.fours
      have hfin : Hid (_ ∧ _) := ⟨hv, hg⟩
      clear hv hg hcv hR2
      go_wp2
      refine bodyPost_ret (results_two1 Try.results61 _ _ (w.heap.size + 1 + 1) _ rfl Try.underlying39 rfl Try.sizeA z0 z1) rfl ?_
      exact ⟨_, ret_v2 HE.out.1.symm, by rw [HE.out.2, HD.out]; exact hfin.out.1, hfin.out.2⟩
  by_cases x3 : x.k = 3
  · have HE3 : Hid (stepE a x = (if x.n < 0 then 6 else rotE a (x.n / 3) (x.n % 3) x.m) ∧ stepA a x = (if x.n < 0 then a else rotL a (x.n / 3) (x.n % 3) x.m)) := ⟨(if_neg x1).trans ((if_neg x2).trans (if_pos x3)), (if_neg x1).trans ((if_neg x2).trans (if_pos x3))⟩
    rw [x3] at s0 hW ⊢
    clear x1 x2 x3
    by_cases hn : x.n < 0
    · have HE : Hid (stepE a x = 6 ∧ stepA a x = a) := ⟨HE3.out.1.trans (if_pos hn), HE3.out.2.trans (if_pos hn)⟩
      have hd' : decide (x.n < 0) = true := by simpa using hn
      obtain ⟨-, -, H3⟩ := heap3 w (.cells #[.slice a1 n1 c1, .slice a2 n2 c2] 39) (.cells #[.int .i64 3, .int .i64 x.n, .int .i64 x.m, .int .i64 x.d.k, .int .i64 x.d.n, .int .i64 x.d.m, .slice d1 d2 d3] 82) (.cells #[.slice a1 n1 c1, .slice a2 n2 c2] 39)
      have hgF : Grow w (((w.alloc (.cells #[.slice a1 n1 c1, .slice a2 n2 c2] 39)).alloc (.cells #[.int .i64 3, .int .i64 x.n, .int .i64 x.m, .int .i64 x.d.k, .int .i64 x.d.n, .int .i64 x.d.m, .slice d1 d2 d3] 82)).alloc (.cells #[.slice a1 n1 c1, .slice a2 n2 c2] 39)) := ((Grow.alloc _ _).trans (Grow.alloc _ _)).trans (Grow.alloc _ _)
      have hfin : Hid (_ ∧ _) := ⟨harr.grow hgF, hgF⟩
      have Hz : Hid (_ ∧ _) := ⟨two_at0 H3, two_at1 H3⟩
      clear hgF H3 hR hdeed harrW HE3 hW k0 k1 s0 s1 s2 s3 s4 s5 s6 hgW
      go_enter Try.func61, Try.ntmps61
      go_wp2_with fail
      refine bodyPost_ret (results_two1 Try.results61 _ _ (w.heap.size + 1 + 1) _ rfl Try.underlying39 rfl Try.sizeA Hz.out.1 Hz.out.2) rfl ?_
      exact ⟨_, ret_v2 HE.out.1.symm, by rw [HE.out.2]; exact hfin.out.1, hfin.out.2⟩
    · have HE : Hid (stepE a x = rotE a (x.n / 3) (x.n % 3) x.m ∧ stepA a x = rotL a (x.n / 3) (x.n % 3) x.m) := ⟨HE3.out.1.trans (if_neg hn), HE3.out.2.trans (if_neg hn)⟩
      have hcall := refRot_any _ a (x.n / 3) (x.n % 3) x.m W harrW ha.whole ha.fours (fun d s => by have := ha.short d s; omega)
      have hA := rotL_arr ha (x.n / 3) (x.n % 3) x.m
      have hn' : 0 ≤ x.n := by omega
      clear hn HE3 hdeed
      go_enter Try.func61, Try.ntmps61
      go_wp2_with fail
      rw [← hW]
      refine hcall.mono ?_
      rintro e w1 ⟨r, rfl, hr, hg1⟩
      obtain ⟨p1, p2, p3, r1, r2, r3, rfl⟩ := hr.form
      have hR1 := hg1.block' hR
      obtain ⟨t0, t1, f0, f1⟩ := two_open hR1
      obtain ⟨hv, z0, z1, hg⟩ := two_fin hR1 hlW (hgW.trans hg1) hr hA.whole hA.fours
      have hfin : Hid (_ ∧ _) := ⟨hv, hg⟩
      clear hv hg hr hR hR1 hW k0 k1 s0 s1 s2 s3 s4 s5 s6 hcall
      go_wp2
      refine bodyPost_ret (results_two1 Try.results61 _ _ (w.heap.size + 1 + 1) _ rfl Try.underlying39 rfl Try.sizeA z0 z1) rfl ?_
      exact ⟨_, ret_v2 HE.out.1.symm, by rw [HE.out.2]; exact hfin.out.1, hfin.out.2⟩
  by_cases x4 : x.k = 4
  · have HE : Hid (stepE a x = goneE x.n ∧ stepA a x = goneL a x.n) := ⟨(if_neg x1).trans ((if_neg x2).trans ((if_neg x3).trans (if_pos x4))), (if_neg x1).trans ((if_neg x2).trans ((if_neg x3).trans (if_pos x4)))⟩
    have hcall := refGone_any _ a x.n W harrW ha.whole ha.fours
    have hA := goneL_arr ha x.n
    rw [x4] at s0 hW ⊢
    clear x1 x2 x3 x4 hdeed
    go_enter Try.func61, Try.ntmps61
    go_wp2_with fail
    rw [← hW]
    refine hcall.mono ?_
    rintro e w1 ⟨r, rfl, hr, hg1⟩
    obtain ⟨p1, p2, p3, r1, r2, r3, rfl⟩ := hr.form
    have hR1 := hg1.block' hR
    obtain ⟨t0, t1, f0, f1⟩ := two_open hR1
    obtain ⟨hv, z0, z1, hg⟩ := two_fin hR1 hlW (hgW.trans hg1) hr hA.whole hA.fours
    have hfin : Hid (_ ∧ _) := ⟨hv, hg⟩
    clear hv hg hr hR hR1 hW k0 k1 s0 s1 s2 s3 s4 s5 s6 hcall
    go_wp2
    refine bodyPost_ret (results_two1 Try.results61 _ _ (w.heap.size + 1 + 1) _ rfl Try.underlying39 rfl Try.sizeA z0 z1) rfl ?_
    exact ⟨_, ret_v2 HE.out.1.symm, by rw [HE.out.2]; exact hfin.out.1, hfin.out.2⟩
  by_cases x5 : x.k = 5
  · have HE : Hid (stepE a x = mendE a x.n ∧ stepA a x = mendL a x.n) := ⟨(if_neg x1).trans ((if_neg x2).trans ((if_neg x3).trans ((if_neg x4).trans (if_pos x5)))), (if_neg x1).trans ((if_neg x2).trans ((if_neg x3).trans ((if_neg x4).trans (if_pos x5))))⟩
    have hcall := refMend_any _ a x.n W harrW ha.whole ha.fours
    have hA := mendL_arr ha x.n
    rw [x5] at s0 hW ⊢
    clear x1 x2 x3 x4 x5 hdeed
    go_enter Try.func61, Try.ntmps61
    go_wp2_with fail
    rw [← hW]
    refine hcall.mono ?_
    rintro e w1 ⟨r, rfl, hr, hg1⟩
    obtain ⟨p1, p2, p3, r1, r2, r3, rfl⟩ := hr.form
    have hg2 : Grow w1 (w1.alloc (.cells #[.slice p1 p2 p3, .slice r1 r2 r3] 39)) := Grow.alloc _ _
    have hg12 := hg1.trans hg2
    have hR1 := hg12.block' hR
    obtain ⟨t0, t1, f0, f1⟩ := two_open hR1
    obtain ⟨hv, z0, z1, hg⟩ := two_fin hR1 hlW (hgW.trans hg12) (hr.grow hg2) hA.whole hA.fours
    have hfin : Hid (_ ∧ _) := ⟨hv, hg⟩
    clear hv hg hr hR hR1 hW k0 k1 s0 s1 s2 s3 s4 s5 s6 hcall
    go_wp2
    refine bodyPost_ret (results_two1 Try.results61 _ _ (w.heap.size + 1 + 1) _ rfl Try.underlying39 rfl Try.sizeA z0 z1) rfl ?_
    exact ⟨_, ret_v2 HE.out.1.symm, by rw [HE.out.2]; exact hfin.out.1, hfin.out.2⟩
  · have HE : Hid (stepE a x = 1 ∧ stepA a x = a) := ⟨(if_neg x1).trans ((if_neg x2).trans ((if_neg x3).trans ((if_neg x4).trans (if_neg x5)))), (if_neg x1).trans ((if_neg x2).trans ((if_neg x3).trans ((if_neg x4).trans (if_neg x5))))⟩
    have y1 : (x.k == 1) = false := by simpa using x1
    have y2 : (x.k == 2) = false := by simpa using x2
    have y3 : (x.k == 3) = false := by simpa using x3
    have y4 : (x.k == 4) = false := by simpa using x4
    have y5 : (x.k == 5) = false := by simpa using x5
    obtain ⟨-, -, H3⟩ := heap3 w (.cells #[.slice a1 n1 c1, .slice a2 n2 c2] 39) (.cells #[.int .i64 x.k, .int .i64 x.n, .int .i64 x.m, .int .i64 x.d.k, .int .i64 x.d.n, .int .i64 x.d.m, .slice d1 d2 d3] 82) (.cells #[.slice a1 n1 c1, .slice a2 n2 c2] 39)
    have hgF : Grow w (((w.alloc (.cells #[.slice a1 n1 c1, .slice a2 n2 c2] 39)).alloc (.cells #[.int .i64 x.k, .int .i64 x.n, .int .i64 x.m, .int .i64 x.d.k, .int .i64 x.d.n, .int .i64 x.d.m, .slice d1 d2 d3] 82)).alloc (.cells #[.slice a1 n1 c1, .slice a2 n2 c2] 39)) := ((Grow.alloc _ _).trans (Grow.alloc _ _)).trans (Grow.alloc _ _)
    have hfin : Hid (_ ∧ _) := ⟨harr.grow hgF, hgF⟩
    have Hz : Hid (_ ∧ _) := ⟨two_at0 H3, two_at1 H3⟩
    clear hgF H3 hR hdeed harrW hW k0 k1 s0 s1 s2 s3 s4 s5 s6 hgW
    go_enter Try.func61, Try.ntmps61
    go_wp2_with fail
    refine bodyPost_ret (results_two1 Try.results61 _ _ (w.heap.size + 1 + 1) _ rfl Try.underlying39 rfl Try.sizeA Hz.out.1 Hz.out.2) rfl ?_
    exact ⟨_, ret_v2 HE.out.1.symm, by rw [HE.out.2]; exact hfin.out.1, hfin.out.2⟩

end Go.Proofs.Ytjggiameajndgab
