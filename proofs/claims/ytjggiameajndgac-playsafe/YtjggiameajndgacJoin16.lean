import Derived.Test.YtjggiameajndgacJoin15
/-
  What the program's array.Do returns: an array of the call's own. Nothing old turns.
-/
namespace Go.Proofs.Ytjggiameajndgac
open Go.RowKit

/-- An intent that there is: its stripe, its cells. -/
theorem planI_yes {a : ArrP} (ha : Whole a) {x : DeedP} (he : planE a x = 0) : ∃ (s : Nat) (cs : List (List Int)), planI a x = ((s : Int), cs) ∧ s < 3 ∧ cs.length = 4 ∧ ∀ b ∈ cs, b.length ≤ 8 := by
  obtain ⟨s, hs3, -, -, -, hi⟩ := planI_ok he
  obtain ⟨h4, h8⟩ := planI_cells ha he
  rw [hi] at h4 h8
  exact ⟨s, _, hi, hs3, h4, fun b hb => by rw [h8 b hb]; omega⟩

/-- Two cells of a block of an array, set. -/
theorem do_end {w wr : World} {q : Nat} {dv iv u0 u1 : Value} {bs : List Nat} {a : ArrP} {B : Nat} (hB : wr.heap[q]? = some (.cells #[u0, u1] 26 (0, 0))) (hO : OwnA B bs wr dv iv a) (hg : Grow w wr) (hq : w.heap.size ≤ q) (hb : w.heap.size ≤ B) :
    Hid (OwnA w.heap.size bs ((wr.setCell ⟨q, 0, none⟩ dv).setCell ⟨q, 1, none⟩ iv) dv iv a ∧ Grow w ((wr.setCell ⟨q, 0, none⟩ dv).setCell ⟨q, 1, none⟩ iv)) ∧
    ((wr.setCell ⟨q, 0, none⟩ dv).setCell ⟨q, 1, none⟩ iv).cell? ⟨q, 0, none⟩ = some dv ∧ ((wr.setCell ⟨q, 0, none⟩ dv).setCell ⟨q, 1, none⟩ iv).cell? ⟨q, 1, none⟩ = some iv := by
  have h1 := two_set0 (z := dv) hB
  have h2 := two_set1 (z := iv) h1
  exact ⟨⟨((hO.k4 (K4.set hB)).k4 (K4.set h1)).low hb, (hg.set hq _).set hq _⟩, two_at0 h2, two_at1 h2⟩

set_option maxRecDepth 20000 in
set_option maxHeartbeats 6400000 in
theorem arrDo_any (v dv : Value) (a : ArrP) (x : DeedP) (w : World) (h : ArrV w v a) (ha : Whole a) (h8 : ∀ d s, (cellAt a d s).length ≤ 8) (hI : Few a) (hd : DeedV w dv x) :
    Calls Try.prog 57 #[v, dv] w fun e w' => ∃ bs dv iv, e = .returned (.tuple #[.agg #[dv, iv], .int .i64 (planE a x)]) ∧ OwnA w.heap.size bs w' dv iv (doA a x) ∧ Grow w w' := by
  have harr := h
  have hdeed := hd
  obtain ⟨a1, n1, c1, a2, n2, c2, rfl⟩ := h.form
  obtain ⟨sv, rfl, hbd⟩ := hd
  obtain ⟨d1, d2, d3, rfl⟩ := hbd.form
  clear h hbd
  obtain ⟨W, hW⟩ : ∃ W, W = ((w.alloc (.cells #[.slice a1 n1 c1, .slice a2 n2 c2] 26)).alloc (.cells #[.int .i64 x.k, .int .i64 x.n, .int .i64 x.m, .slice d1 d2 d3] 54)).alloc (.cells #[.slice none 0 0, .slice none 0 0] 26) := ⟨_, rfl⟩
  have hgW : Grow w W := by rw [hW]; exact ((Grow.alloc _ _).trans (Grow.alloc _ _)).trans (Grow.alloc _ _)
  obtain ⟨H1, H2, H3⟩ := heap3 w (.cells #[.slice a1 n1 c1, .slice a2 n2 c2] 26) (.cells #[.int .i64 x.k, .int .i64 x.n, .int .i64 x.m, .slice d1 d2 d3] 54) (.cells #[.slice none 0 0, .slice none 0 0] 26)
  rw [← hW] at H1 H2 H3
  have k0 : W.cell? ⟨w.heap.size, 0, none⟩ = some (.slice a1 n1 c1) := row_at H1 0 rfl
  have k1 : W.cell? ⟨w.heap.size, 1, none⟩ = some (.slice a2 n2 c2) := row_at H1 1 rfl
  have d0' : W.cell? ⟨w.heap.size + 1, 0, none⟩ = some (.int .i64 x.k) := row_at H2 0 rfl
  have d1' : W.cell? ⟨w.heap.size + 1, 1, none⟩ = some (.int .i64 x.n) := row_at H2 1 rfl
  have d2' : W.cell? ⟨w.heap.size + 1, 2, none⟩ = some (.int .i64 x.m) := row_at H2 2 rfl
  have d3' : W.cell? ⟨w.heap.size + 1, 3, none⟩ = some (.slice d1 d2 d3) := row_at H2 3 rfl
  have HR : Hid (W.heap[w.heap.size + 1 + 1]? = some (.cells #[.slice none 0 0, .slice none 0 0] 26 (0, 0))) := H3
  clear H1 H2 H3
  have hP := arrPlan_any (.agg #[.slice a1 n1 c1, .slice a2 n2 c2]) (.agg #[.int .i64 x.k, .int .i64 x.n, .int .i64 x.m, .slice d1 d2 d3]) a x W (harr.grow hgW) ha h8 (hdeed.grow hgW)
  have HA : Hid (ArrV w (.agg #[.slice a1 n1 c1, .slice a2 n2 c2]) a ∧ Whole a ∧ (∀ d s, (cellAt a d s).length ≤ 8) ∧ Few a) := ⟨harr, ha, h8, hI⟩
  clear harr ha h8 hI hdeed
  go_enter Try.func57, Try.ntmps57
  go_wp2_with fail
  rw [← hW]
  clear hW
  refine hP.mono ?_
  rintro e w1 ⟨r, rfl, hr, hg1⟩
  clear hP d0' d1' d2' d3'
  obtain ⟨cv, rfl, hcv⟩ := hr
  obtain ⟨ac, nc, cc, rfl⟩ : ∃ a n c, cv = .slice a n c := by
    obtain ⟨a, c, e⟩ := hcv.form
    exact ⟨_, _, _, e⟩
  have hcv : Bss w1 (.slice ac nc cc) (planI a x).2 := hcv
  generalize hix : (planI a x).1 = ix at *
  have HIX : Hid ((planI a x).1 = ix) := hix
  have gA : Grow w1 (w1.alloc (.cells #[.int .i64 ix, .slice ac nc cc] 80)) := Grow.alloc _ _
  have hg02 := hg1.trans gA
  have hgw := hgW.trans hg02
  have q0 := hg02.at k0
  have q1 := hg02.at k1
  have hR := hg02.block' HR.out
  have hbI : (w1.alloc (.cells #[.int .i64 ix, .slice ac nc cc] 80)).heap[w1.heap.size]? = some (.cells #[.int .i64 ix, .slice ac nc cc] 80 (0, 0)) := heap_alloc_new w1 _
  have i0 := two_at0 hbI
  have i1 := two_at1 hbI
  have HCV : Hid (Bss (w1.alloc (.cells #[.int .i64 ix, .slice ac nc cc] 80)) (.slice ac nc cc) (planI a x).2) := hcv.grow gA
  obtain ⟨W2, hW2⟩ : ∃ W2, W2 = w1.alloc (.cells #[.int .i64 ix, .slice ac nc cc] 80) := ⟨_, rfl⟩
  by_cases he : planE a x = 0
  · obtain ⟨s, cs, hi, hs3, hc4, hc8⟩ := planI_yes HA.out.2.1 he
    have HDo : Hid (doA a x = writeL a ((s : Int), cs) 6) := by rw [Hid, doA, if_pos he, hi]; rfl
    have HE : Hid (planE a x = 0) := he
    obtain rfl : ix = (s : Int) := by rw [← HIX.out, hi]
    have hwc := write_any (.agg #[.slice a1 n1 c1, .slice a2 n2 c2]) (.agg #[.int .i64 s, .slice ac nc cc]) a s cs 6 (w1.alloc (.cells #[.int .i64 s, .slice ac nc cc] 80)) (HA.out.1.grow hgw) HA.out.2.1 HA.out.2.2.1 HA.out.2.2.2 ⟨_, rfl, by have := HCV.out; rw [hi] at this; exact this⟩ hs3 hc4 hc8
    rw [he]
    clear hcv hbI hi hc4 hc8 hix he k0 k1 hW2 HIX
    go_wp2_with fail
    refine hwc.mono ?_
    rintro e w3 ⟨bs, dv, iv, rfl, hO, hg3⟩
    clear hwc
    obtain ⟨⟨x1, x2, x3, rfl⟩, y1, y2, y3, rfl⟩ := hO.forms
    have hR3 := hg3.block' hR
    have r0 := two_at0 hR3
    have r1 := two_at1 hR3
    have f0 : w3.frozen? ⟨w.heap.size + 1 + 1, 0, none⟩ = false := frozen_of_row w3 _ 0 _ _ hR3
    have f1 : w3.frozen? ⟨w.heap.size + 1 + 1, 1, none⟩ = false := frozen_of_row w3 _ 1 _ _ hR3
    have hE := do_end hR3 hO (hgw.trans hg3) (by omega) hgw.size
    obtain ⟨HF, z0, z1⟩ := hE
    clear hO hR3 hR i0 i1 q0 q1
    go_wp2
    refine bodyPost_ret (results_two1 Try.results57 _ _ (w.heap.size + 1 + 1) _ rfl Try.underlying26 rfl Try.sizeA z0 z1) rfl ?_
    rw [HE.out]
    exact ⟨_, _, _, rfl, by rw [HDo.out]; exact HF.out.1, HF.out.2⟩
  · have HDo : Hid (doA a x = a) := if_neg he
    have hoc := own_any (.agg #[.slice a1 n1 c1, .slice a2 n2 c2]) a (w1.alloc (.cells #[.int .i64 ix, .slice ac nc cc] 80)) (HA.out.1.grow hgw) HA.out.2.1 HA.out.2.2.1 HA.out.2.2.2
    clear hcv hbI hix k0 k1 hW2 HIX HCV
    generalize hE0 : planE a x = E at *
    have he' : (E != 0) = true := by simpa using he
    have HE : Hid (planE a x = E) := hE0
    clear hE0
    go_wp2_with fail
    refine hoc.mono ?_
    rintro e w3 ⟨bs, dv, iv, rfl, hO, hg3⟩
    clear hoc
    obtain ⟨⟨x1, x2, x3, rfl⟩, y1, y2, y3, rfl⟩ := hO.forms
    have hR3 := hg3.block' hR
    have r0 := two_at0 hR3
    have r1 := two_at1 hR3
    have f0 : w3.frozen? ⟨w.heap.size + 1 + 1, 0, none⟩ = false := frozen_of_row w3 _ 0 _ _ hR3
    have f1 : w3.frozen? ⟨w.heap.size + 1 + 1, 1, none⟩ = false := frozen_of_row w3 _ 1 _ _ hR3
    obtain ⟨HF, z0, z1⟩ := do_end hR3 hO (hgw.trans hg3) (by omega) hgw.size
    clear hO hR3 hR i0 i1 q0 q1
    go_wp2
    refine bodyPost_ret (results_two1 Try.results57 _ _ (w.heap.size + 1 + 1) _ rfl Try.underlying26 rfl Try.sizeA z0 z1) rfl ?_
    rw [HE.out]
    exact ⟨_, _, _, rfl, by rw [HDo.out]; exact HF.out.1, HF.out.2⟩

end Go.Proofs.Ytjggiameajndgac

/-
  What the program's array.New returns: an array of noughts. Nothing old turns.
-/
namespace Go.Proofs.Ytjggiameajndgac
open Go.RowKit

theorem Try.madeD (w : World) : (Instr.makeSlice 23 (.int .i64 4) (.int .i64 4)).run Try.prog w = .ok (.slice (some ⟨w.heap.size, 0, none⟩) 4 4) (w.alloc (.cells (nilsN 4) 41)) :=
  (run_make_row' (P := Try.prog) 23 41 (.slice none 0 0) 24 Try.underlying23 Try.infoD rfl .i64 .i64 4 (by omega) (by omega) w).trans (by rw [show madeCells #[.slice none 0 0] 4 = nilsN 4 from Array.toList_inj.1 (by rw [toList_madeCells_one]; simp [nilsN])])

/-- A made row of disks, of which none is there yet. -/
theorem DRows.made {B D : Nat} {w : World} (hD : w.heap[D]? = some (.cells (nilsN 4) 41 (0, 0))) (hB : B ≤ D) : DRows B [] [] w (.slice (some ⟨D, 0, none⟩) 0 4) :=
  ⟨rfl, List.Pairwise.nil, fun b hb => by simp at hb, ⟨rfl, .inr ⟨D, 4, nilsN 4, rfl, hB, hD, by simp, by unfold maxLen; omega, rfl, rfl⟩⟩, fun i b l hb => by simp at hb⟩

/-- One disk more. -/
theorem DRows.more {B D k : Nat} {bs : List Nat} {ds : List (List (List Int))} {w : World} {r : Nat} {l : List (List Int)} (h : DRows B bs ds w (.slice (some ⟨D, 0, none⟩) k 4)) (hk : ds.length = k) (hk4 : k < 4) (hr : DRow r l w) (hlt : ∀ b ∈ bs, b < r) (hB : B ≤ r) :
    DRows B (bs ++ [r]) (ds ++ [l]) (w.setCell ⟨D, k, none⟩ (.slice (some ⟨r, 0, none⟩) l.length l.length)) (.slice (some ⟨D, 0, none⟩) (k + 1) 4) := by
  refine h.push hr hlt hB ?_ (grown_set w D k _)
  obtain ⟨h1, h2⟩ := h.own
  refine ⟨by simp [h1], ?_⟩
  rcases h2 with ⟨e, -⟩ | ⟨g, cap, cur, e, hb, hh, hc1, hc2, hc3, ht⟩
  · cases e
  · injection e with e1 e2 e3
    injection e1 with e1
    injection e1 with e1
    subst e1 e3
    have hsz : cur.size = 4 := by simpa using hc3
    refine .inr ⟨D, 4, cur.setIfInBounds k (.slice (some ⟨r, 0, none⟩) l.length l.length), by rw [hk], hb, ?_, by omega, hc2, by simpa using hc3, ?_⟩
    · rw [heap_setCell_same w D k _ _ _ hh]
    · have ht' : cur.toList.take k = rowVals bs ds := by simpa [hk] using ht
      rw [hk, Array.toList_setIfInBounds]
      rw [← ht', Nat.mul_one, List.take_add_one]
      rw [List.take_set_of_le (Nat.le_refl _)]
      simp [hsz, hk4]

theorem DRows.cell {B D k : Nat} {bs : List Nat} {ds : List (List (List Int))} {w : World} (h : DRows B bs ds w (.slice (some ⟨D, 0, none⟩) k 4)) {i : Nat} (hi : i < 4) : (∃ u, w.cell? ⟨D, i, none⟩ = some u) ∧ w.frozen? ⟨D, i, none⟩ = false := by
  obtain ⟨h1, h2⟩ := h.own
  rcases h2 with ⟨e, -⟩ | ⟨g, cap, cur, e, hb, hh, hc1, hc2, hc3, ht⟩
  · cases e
  · injection e with e1 e2 e3
    injection e1 with e1
    injection e1 with e1
    subst e1 e3
    have hsz : cur.size = 4 := by simpa using hc3
    exact ⟨⟨cur[i]'(by omega), row_at hh i (by simp [hsz, hi])⟩, frozen_of_row w D i _ _ hh⟩

/-- A cell of the last disk. -/
theorem DRows.putLast {B : Nat} {bs : List Nat} {ds : List (List (List Int))} {w : World} {dv u : Value} {b s : Nat} {l : List (List Int)} {x : List Int} (h : DRows B (bs ++ [b]) (ds ++ [l]) w dv) (hx : Tb w u x) : DRows B (bs ++ [b]) (ds ++ [l.set s x]) (w.setCell ⟨b, s, none⟩ u) dv := by
  have hl : bs.length = ds.length := by have := h.len; simpa using this
  have := h.put (k := ds.length) (b := b) (s := s) (by simp) (by rw [← hl]; simp) hx
  simpa [List.getD_eq_getElem?_getD] using this

theorem DRows.last {B : Nat} {bs : List Nat} {ds : List (List (List Int))} {w : World} {dv : Value} {b : Nat} {l : List (List Int)} (h : DRows B (bs ++ [b]) (ds ++ [l]) w dv) : DRow b l w := by
  have hl : bs.length = ds.length := by have := h.len; simpa using this
  exact h.rows ds.length b l (by rw [← hl]; simp) (by simp)

/-- The cell of the last disk. -/
theorem DRows.lastCell {B D k : Nat} {bs : List Nat} {ds : List (List (List Int))} {w : World} {b : Nat} {l : List (List Int)} (h : DRows B (bs ++ [b]) (ds ++ [l]) w (.slice (some ⟨D, 0, none⟩) (k + 1) 4)) (hk : ds.length = k) : w.cell? ⟨D, k, none⟩ = some (.slice (some ⟨b, 0, none⟩) l.length l.length) := by
  have hl : bs.length = ds.length := by have := h.len; simpa using this
  have ho := h.own
  rw [show (ds ++ [l]).length = k + 1 by simp [hk]] at ho
  have hc := ho.cellAt k (by omega)
  rw [rowVals_at h.len (by simp [hk])] at hc
  simpa [← hk, ← hl] using hc

/-- Bytes that read so. -/
def AnBy (l : List Int) (v : Value) (w : World) : Prop := Bs w v l
theorem AnBy.stable (l : List Int) : ∀ (v : Value) (x y : World), AnBy l v x → Grow x y → AnBy l v y := fun _ _ _ h hg => Bs.grow h hg

theorem newRow_fill (d : Nat) {s : Nat} (hs : s < 3) : (fillTo (newRow d 3) s).set s (cellOf d s nought) = fillTo (newRow d 3) (s + 1) := by
  have h := fillTo_set (newRow d 3) (k := s) (by simpa [newRow] using hs)
  rw [← h]
  congr 1
  simp [newRow, List.getD_eq_getElem?_getD, hs]
theorem newRow_none (d : Nat) : fillTo (newRow d 3) 0 = List.replicate 3 [] := by rw [fillTo_zero]; simp [newRow]
theorem newRow_full (d : Nat) : fillTo (newRow d 3) 3 = newRow d 3 := by
  have := fillTo_all (newRow d 3)
  rwa [show (newRow d 3).length = 3 by simp [newRow]] at this
theorem newRow_len (d s : Nat) (hs : s ≤ 3) : (fillTo (newRow d 3) s).length = 3 := by
  rw [fillTo_length _ (by simpa [newRow] using hs)]
  simp [newRow]

set_option maxRecDepth 20000 in
set_option maxHeartbeats 6400000 in
theorem arrNew_own (w : World) : Calls Try.prog 56 #[] w fun e w' => ∃ bs dv iv, e = .returned (.agg #[dv, iv]) ∧ OwnA w.heap.size bs w' dv iv newP ∧ Grow w w' := by
  obtain ⟨W, hW⟩ : ∃ W, W = (w.alloc (.cells #[.slice none 0 0, .slice none 0 0] 26)).alloc (.cells (nilsN 4) 41) := ⟨_, rfl⟩
  have hgW : Grow w W := by rw [hW]; exact (Grow.alloc _ _).trans (Grow.alloc _ _)
  have HA : Hid (W.heap[w.heap.size]? = some (.cells #[.slice none 0 0, .slice none 0 0] 26 (0, 0))) := by rw [Hid, hW, heap_alloc_old _ _ (by simp)]; exact heap_alloc_new w _
  have HD0 : Hid (DRows (w.heap.size + 1) [] (newDs 0) W (.slice (some ⟨w.heap.size + 1, 0, none⟩) 0 4)) := DRows.made (by rw [hW]; exact heap_alloc2_new w _ _) (Nat.le_refl _)
  have hmk := Try.madeD (w.alloc (.cells #[.slice none 0 0, .slice none 0 0] 26))
  go_enter Try.func56, Try.ntmps56
  go_wp2
  rw [← hW]
  clear hW hmk
  go_loopw [7] (fun i wr => ∃ (k : Nat) (bs : List Nat), k ≤ 4 ∧ i = .int .i64 k ∧ Hid (DRows (w.heap.size + 1) bs (newDs k) wr (.slice (some ⟨w.heap.size + 1, 0, none⟩) k 4)) ∧ Hid (wr.heap[w.heap.size]? = some (.cells #[.slice none 0 0, .slice none 0 0] 26 (0, 0))) ∧ Grow w wr) (fun i _ => 4 - (intOf i).toNat)
  case atStart => exact ⟨0, [], by omega, rfl, HD0, HA, hgW⟩
  case round =>
    obtain ⟨k, bs, hk, rfl, HD, HB, hgr⟩ := hrel
    clear HD0 HA hgW
    by_cases hlt : k < 4
    · have hdk : decide ((k : Int) < 4) = true := by simp; omega
      have hmk : (Instr.makeSlice 41 (.int .i64 3) (.int .i64 3)).run Try.prog wr = .ok (.slice (some ⟨wr.heap.size, 0, none⟩) 3 3) (wr.alloc (.cells (nilsN 3) 52)) := Try.madeN wr 3 (by omega)
      have hgA : Grow wr (wr.alloc (.cells (nilsN 3) 52)) := Grow.alloc _ _
      have hD1 := HD.out.grow hgA
      obtain ⟨⟨u0, hu0⟩, hf0⟩ := hD1.cell hlt
      have hsz := heap_lt HB.out
      have hDs : w.heap.size + 1 < wr.heap.size := by
        obtain ⟨⟨u, hu⟩, -⟩ := HD.out.cell hlt
        exact cell_lt hu
      have hmore := hD1.more (by simp [newDs]) hlt (DRow.made wr 3) (fun b hb => HD.out.lt b hb) (by omega)
      rw [List.length_replicate] at hmore
      have hpast := World.setCell_alloc_past (w := wr) (.cells (nilsN 3) 52) (w.heap.size + 1) k (.slice (some ⟨wr.heap.size, 0, none⟩) 3 3) hDs
      rw [← newRow_none k] at hmore
      have hg2 := (hgr.trans hgA).set (g := w.heap.size + 1) (k := k) (by omega) (.slice (some ⟨wr.heap.size, 0, none⟩) 3 3)
      have hB2 : ((wr.alloc (.cells (nilsN 3) 52)).setCell ⟨w.heap.size + 1, k, none⟩ (.slice (some ⟨wr.heap.size, 0, none⟩) 3 3)).heap[w.heap.size]? = _ := set_other (hgA.block' HB.out) (by omega)
      have l0 : ((wr.alloc (.cells (nilsN 3) 52)).setCell ⟨w.heap.size + 1, k, none⟩ (.slice (some ⟨wr.heap.size, 0, none⟩) 3 3)).cell? ⟨w.heap.size + 1, k, none⟩ = some (.slice (some ⟨wr.heap.size, 0, none⟩) 3 3) := World.cell?_setCell_same _ _ _ hu0
      rw [hpast] at hmore hg2 hB2 l0
      have HD1 : Hid (DRows (w.heap.size + 1) (bs ++ [wr.heap.size]) (newDs k ++ [fillTo (newRow k 3) 0]) ((wr.setCell ⟨w.heap.size + 1, k, none⟩ (.slice (some ⟨wr.heap.size, 0, none⟩) 3 3)).alloc (.cells (nilsN 3) 52)) (.slice (some ⟨w.heap.size + 1, 0, none⟩) (k + 1) 4)) := hmore
      have HB1 : Hid (_ = _) := hB2
      clear hmore hB2 hD1 HD HB hgA
      obtain ⟨b, hb⟩ : ∃ b, b = wr.heap.size := ⟨_, rfl⟩
      obtain ⟨W2, hW2⟩ : ∃ W2, W2 = (wr.setCell ⟨w.heap.size + 1, k, none⟩ (.slice (some ⟨wr.heap.size, 0, none⟩) 3 3)).alloc (.cells (nilsN 3) 52) := ⟨_, rfl⟩
      have hbn : w.heap.size + 1 < b := by omega
      go_wp2
      rw [← hW2] at HD1 HB1 hg2 ⊢
      rw [← hb] at HD1 ⊢
      clear hW2 hb l0 hmk hpast hu0 hf0 hDs hsz hgr
      go_loopw [19] (fun i wr => ∃ s : Nat, s ≤ 3 ∧ i = .int .i64 s ∧ Hid (DRows (w.heap.size + 1) (bs ++ [b]) (newDs k ++ [fillTo (newRow k 3) s]) wr (.slice (some ⟨w.heap.size + 1, 0, none⟩) (k + 1) 4)) ∧ Hid (wr.heap[w.heap.size]? = some (.cells #[.slice none 0 0, .slice none 0 0] 26 (0, 0))) ∧ Grow w wr) (fun i _ => 3 - (intOf i).toNat)
      case atStart => exact ⟨0, by omega, rfl, HD1, HB1, hg2⟩
      case round =>
        obtain ⟨s, hs, rfl, HD, HB, hgr⟩ := hrel
        clear HD1 HB1 hg2
        by_cases hst : s < 3
        · have hds : decide ((s : Int) < 3) = true := by simp; omega
          have hlc := HD.out.lastCell (by simp [newDs])
          rw [newRow_len k s (by omega)] at hlc
          have hbl : b < wr.heap.size := HD.out.last.lt
          have HK : Hid (0 ≤ (k : Int) ∧ (k : Int) ≤ 255 ∧ 0 ≤ (s : Int) ∧ (s : Int) ≤ 255) := ⟨by omega, by omega, by omega, by omega⟩
          have HS : Hid ((fillTo (newRow k 3) s).set s (cellOf k s nought) = fillTo (newRow k 3) (s + 1)) := newRow_fill k hst
          have hsi : (s : Int) < 3 := by omega
          have hki : (k : Int) < 4 := by omega
          go_wp2
          refine wp_region_last [_, _, _, _, _, _, _, _, _, _] _ rfl Grow [IsV (.slice (some ⟨w.heap.size + 1, 0, none⟩) 4 4), IsV (.int .i64 k), IsV (.pointer (some ⟨w.heap.size + 1, k, none⟩)), IsV (.slice (some ⟨b, 0, none⟩) 3 3), IsV (.int .i64 s), IsV (.int .i64 k), IsV (.int .i64 s), AnBy nought, NewTb (cellOf k s nought), IsV (.pointer (some ⟨b, s, none⟩))] (by kernel_rfl) (by kernel_rfl) (by kernel_rfl) rfl Grow.refl (fun _ _ _ => Grow.trans) ?_ ?_ ?_
          · repeat (refine List.forall_mem_cons.2 ⟨by first | exact IsV.stable _ | exact AnBy.stable _ | exact NewTb.stable _, ?_⟩)
            exact fun R hR => nomatch hR
          · skip
            refine StepsS.cons ?_ fun v0 => ⟨_, _, by simp only [Act.put, List.setIfInBounds_toArray, List.set_cons_succ, List.set_cons_zero]; first | done | rfl, by simp only [List.nil_append]; first | done | rfl, ?_⟩
            · intro w1 hE hd
              clear hd
              go_wp2
              exact ⟨_, rfl, Grow.refl _, rfl⟩
            refine StepsS.cons ?_ fun v1 => ⟨_, _, by simp only [Act.put, List.setIfInBounds_toArray, List.set_cons_succ, List.set_cons_zero]; first | done | rfl, by simp only [List.nil_append, List.cons_append]; first | done | rfl, ?_⟩
            · intro w1 hE hd
              clear hd
              go_wp2
              exact ⟨_, rfl, Grow.refl _, rfl⟩
            refine StepsS.cons ?_ fun v2 => ⟨_, _, by simp only [Act.put, List.setIfInBounds_toArray, List.set_cons_succ, List.set_cons_zero]; first | done | rfl, by simp only [List.nil_append, List.cons_append]; first | done | rfl, ?_⟩
            · intro w1 hE hd
              obtain rfl := IsV.eq (dep_at hd 0 rfl rfl rfl)
              obtain rfl := IsV.eq (dep_at hd 1 rfl rfl rfl)
              clear hd
              go_wp2
              exact ⟨_, rfl, Grow.refl _, rfl⟩
            refine StepsS.cons ?_ fun v3 => ⟨_, _, by simp only [Act.put, List.setIfInBounds_toArray, List.set_cons_succ, List.set_cons_zero]; first | done | rfl, by simp only [List.nil_append, List.cons_append]; first | done | rfl, ?_⟩
            · intro w1 hE hd
              obtain rfl := IsV.eq (dep_at hd 0 rfl rfl rfl)
              clear hd
              have q0 := hE.drew.at hlc
              go_wp2
              exact ⟨_, rfl, Grow.refl _, rfl⟩
            refine StepsS.cons ?_ fun v4 => ⟨_, _, by simp only [Act.put, List.setIfInBounds_toArray, List.set_cons_succ, List.set_cons_zero]; first | done | rfl, by simp only [List.nil_append, List.cons_append]; first | done | rfl, ?_⟩
            · intro w1 hE hd
              clear hd
              go_wp2
              exact ⟨_, rfl, Grow.refl _, rfl⟩
            refine StepsS.cons ?_ fun v5 => ⟨_, _, by simp only [Act.put, List.setIfInBounds_toArray, List.set_cons_succ, List.set_cons_zero]; first | done | rfl, by simp only [List.nil_append, List.cons_append]; first | done | rfl, ?_⟩
            · intro w1 hE hd
              clear hd
              go_wp2
              exact ⟨_, rfl, Grow.refl _, rfl⟩
            refine StepsS.cons ?_ fun v6 => ⟨_, _, by simp only [Act.put, List.setIfInBounds_toArray, List.set_cons_succ, List.set_cons_zero]; first | done | rfl, by simp only [List.nil_append, List.cons_append]; first | done | rfl, ?_⟩
            · intro w1 hE hd
              clear hd
              go_wp2
              exact ⟨_, rfl, Grow.refl _, rfl⟩
            refine StepsS.cons ?_ fun v7 => ⟨_, _, by simp only [Act.put, List.setIfInBounds_toArray, List.set_cons_succ, List.set_cons_zero]; first | done | rfl, by simp only [List.nil_append, List.cons_append]; first | done | rfl, ?_⟩
            · intro w1 hE hd
              clear hd
              have hmk := Try.made4 w1
              go_wp2
              exact ⟨_, rfl, Grow.alloc _ _, (Off.row (l := nought) (g := none) (heap_alloc_new w1 _) rfl (n := 4) (by unfold maxLen; decide) nought_oct (fun e => nomatch e)).here⟩
            refine StepsS.cons ?_ fun v8 => ⟨_, _, by simp only [Act.put, List.setIfInBounds_toArray, List.set_cons_succ, List.set_cons_zero]; first | done | rfl, by simp only [List.nil_append, List.cons_append]; first | done | rfl, ?_⟩
            · intro w1 hE hd
              obtain rfl := IsV.eq (dep_at hd 0 rfl rfl rfl)
              obtain rfl := IsV.eq (dep_at hd 1 rfl rfl rfl)
              have d7 := dep_at hd 2 rfl rfl rfl
              clear hd
              obtain ⟨z1, z2, z3, rfl⟩ := Bs.form d7
              have hcall := bytes_any (.slice z1 z2 z3) nought k s w1 (by decide) ⟨HK.out.1, HK.out.2.1⟩ ⟨HK.out.2.2.1, HK.out.2.2.2⟩ d7
              go_wp2_with fail
              refine hcall.mono ?_
              rintro e w5 ⟨r, rfl, hr, hg5⟩
              go_wp2_with fail
              exact ⟨_, rfl, hg5, Tb.own hr (cellOf_octets ⟨HK.out.1, HK.out.2.1⟩ ⟨HK.out.2.2.1, HK.out.2.2.2⟩ nought_oct)⟩
            refine StepsS.cons ?_ fun v9 => ⟨_, _, by simp only [Act.put, List.setIfInBounds_toArray, List.set_cons_succ, List.set_cons_zero]; first | done | rfl, by simp only [List.nil_append, List.cons_append]; first | done | rfl, ?_⟩
            · intro w1 hE hd
              obtain rfl := IsV.eq (dep_at hd 0 rfl rfl rfl)
              obtain rfl := IsV.eq (dep_at hd 1 rfl rfl rfl)
              clear hd
              go_wp2
              exact ⟨_, rfl, Grow.refl _, rfl⟩
            trivial
          intro wR hwR
          refine FinS.cons ?_; rintro _ rfl; refine ⟨_, by simp only [Act.put, List.setIfInBounds_toArray, List.set_cons_succ, List.set_cons_zero]; first | done | rfl, ?_⟩
          refine FinS.cons ?_; rintro _ rfl; refine ⟨_, by simp only [Act.put, List.setIfInBounds_toArray, List.set_cons_succ, List.set_cons_zero]; first | done | rfl, ?_⟩
          refine FinS.cons ?_; rintro _ rfl; refine ⟨_, by simp only [Act.put, List.setIfInBounds_toArray, List.set_cons_succ, List.set_cons_zero]; first | done | rfl, ?_⟩
          refine FinS.cons ?_; rintro _ rfl; refine ⟨_, by simp only [Act.put, List.setIfInBounds_toArray, List.set_cons_succ, List.set_cons_zero]; first | done | rfl, ?_⟩
          refine FinS.cons ?_; rintro _ rfl; refine ⟨_, by simp only [Act.put, List.setIfInBounds_toArray, List.set_cons_succ, List.set_cons_zero]; first | done | rfl, ?_⟩
          refine FinS.cons ?_; rintro _ rfl; refine ⟨_, by simp only [Act.put, List.setIfInBounds_toArray, List.set_cons_succ, List.set_cons_zero]; first | done | rfl, ?_⟩
          refine FinS.cons ?_; rintro _ rfl; refine ⟨_, by simp only [Act.put, List.setIfInBounds_toArray, List.set_cons_succ, List.set_cons_zero]; first | done | rfl, ?_⟩
          refine FinS.cons fun v7 h7 => ⟨_, by simp only [Act.put, List.setIfInBounds_toArray, List.set_cons_succ, List.set_cons_zero]; first | done | rfl, ?_⟩
          refine FinS.cons fun v8 h8 => ⟨_, by simp only [Act.put, List.setIfInBounds_toArray, List.set_cons_succ, List.set_cons_zero]; first | done | rfl, ?_⟩
          refine FinS.cons ?_; rintro _ rfl; refine ⟨_, by simp only [Act.put, List.setIfInBounds_toArray, List.set_cons_succ, List.set_cons_zero]; first | done | rfl, ?_⟩
          show wpList _ _ _ _ _ _
          obtain ⟨r1, r2, r3, rfl⟩ := (Tb.here h8).form
          have hgR : Grow wr wR := hwR.drew
          have hDR := HD.out.grow hgR
          obtain ⟨⟨u0, hu0⟩, hf0⟩ := hDR.last.at (k := s) (by rw [newRow_len k s (by omega)]; exact hst)
          have hP := hDR.putLast (s := s) h8
          rw [HS.out] at hP
          have HD3 : Hid (DRows _ _ _ _ _) := hP
          have HB3 : Hid ((wR.setCell ⟨b, s, none⟩ (.slice r1 r2 r3)).heap[w.heap.size]? = some (.cells #[.slice none 0 0, .slice none 0 0] 26 (0, 0))) := set_other (hgR.block' HB.out) (by omega)
          have hg3 := (hgr.trans hgR).set (g := b) (k := s) (by omega) (.slice r1 r2 r3)
          clear hP hDR HD HB h7 h8 hlc
          go_wp2
          go_roundw
          case rel => first | exact ⟨s + 1, by omega, by go_num, HD3, HB3, hg3⟩ | ((repeat apply Exists.intro); exact ⟨⟨s + 1, by omega, by go_num, HD3, HB3, hg3⟩, rfl⟩)
          case measure => simp [intOf]; omega
        · have HS3 : Hid (s = 3) := by rw [Hid]; omega
          have HDk : Hid (DRows (w.heap.size + 1) (bs ++ [b]) (newDs (k + 1)) wr (.slice (some ⟨w.heap.size + 1, 0, none⟩) (k + 1) 4)) := by
            have := HD.out
            rw [HS3.out, newRow_full, newDs_succ] at this
            exact this
          clear HD
          go_wp2
          go_roundw
          case rel => first | exact ⟨k + 1, _, by omega, by go_num, HDk, HB, hgr⟩ | ((repeat apply Exists.intro); exact ⟨⟨k + 1, _, by omega, by go_num, HDk, HB, hgr⟩, rfl⟩)
          case measure => simp [intOf]; omega
    · have HK4 : Hid (k = 4) := by rw [Hid]; omega
      have hD4 := HD.out
      rw [HK4.out] at hD4
      have hdk := hD4.dks (fun d hd => newP_whole.2 d hd)
      have r0 := two_at0 HB.out
      have r1 := two_at1 HB.out
      have f0 : wr.frozen? ⟨w.heap.size, 0, none⟩ = false := frozen_of_row wr _ 0 _ _ HB.out
      have f1 : wr.frozen? ⟨w.heap.size, 1, none⟩ = false := frozen_of_row wr _ 1 _ _ HB.out
      have hO : OwnA (w.heap.size + 1) bs wr (.slice (some ⟨w.heap.size + 1, 0, none⟩) 4 4) (.slice none 0 0) newP := ⟨newP_whole, hD4, .inl ⟨rfl, rfl⟩⟩
      have h1 := two_set0 (z := .slice (some ⟨w.heap.size + 1, 0, none⟩) 4 4) HB.out
      have h2 := two_set1 (z := .slice none 0 0) h1
      have z0 := two_at0 h2
      have z1 := two_at1 h2
      have HO : Hid (OwnA _ _ _ _ _ _) := (hO.k4 (K4.set HB.out)).k4 (K4.set (k := 1) (u := .slice none 0 0) h1)
      have hg3 := (hgr.set (g := w.heap.size) (k := 0) (Nat.le_refl _) (.slice (some ⟨w.heap.size + 1, 0, none⟩) 4 4)).set (g := w.heap.size) (k := 1) (Nat.le_refl _) (.slice none 0 0)
      clear hO hD4 hdk h1 h2 HD HB
      go_wp2
      refine bodyPost_ret (results_two Try.results56 _ _ w.heap.size _ rfl Try.underlying26 rfl Try.sizeA z0 z1) rfl ?_
      exact ⟨_, _, _, rfl, HO.out.low (by omega), hg3⟩

theorem arrNew_any (w : World) : Calls Try.prog 56 #[] w fun e w' => ∃ r, e = .returned r ∧ ArrV w' r newP ∧ Grow w w' :=
  (arrNew_own w).mono fun _ _ ⟨_, _, _, he, hO, hg⟩ => ⟨_, he, hO.arr, hg⟩

end Go.Proofs.Ytjggiameajndgac

/-
  What the program's array.Blocks returns. Nothing old turns.
-/
namespace Go.Proofs.Ytjggiameajndgac
open Go.RowKit

set_option maxRecDepth 20000 in
set_option maxHeartbeats 3200000 in
theorem arrBlocks_any (v : Value) (a : ArrP) (w : World) (h : ArrV w v a) (ha : Whole a) (h8 : ∀ d s, (cellAt a d s).length ≤ 8) :
    Calls Try.prog 102 #[v] w fun e w' => ∃ r, e = .returned (.tuple #[r, .int .i64 (blkE a)]) ∧ Bss w' r (blkL a) ∧ Grow w w' := by
  have harr := h
  obtain ⟨dv, iv, rfl, hd, hit⟩ := h
  obtain ⟨ad, cd, rfl, hd1, hd2⟩ := hd.form'
  obtain ⟨ai, ci, rfl, hi1, hi2⟩ := hit.form
  have hl4 := ha.1
  rw [hl4] at harr hd1 ⊢
  generalize a.is.length = ni at *
  have HA : Hid (ArrV w (.agg #[.slice ad 4 cd, .slice ai ni ci]) a ∧ Whole a ∧ ∀ d s, (cellAt a d s).length ≤ 8) := ⟨harr, ha, h8⟩
  have HO : Hid ((∀ j, j < 9 → rdE a (j : Nat) = 0) → blkE a = 0 ∧ blkL a = (List.range 9).map (fun n => rdX a (n : Nat))) := fun h => by
    have := blkE_ok h
    exact ⟨this, if_pos this⟩
  have HF : Hid (∀ k, k < 9 → (∀ j, j < k → rdE a (j : Nat) = 0) → rdE a (k : Nat) ≠ 0 → blkE a = rdE a (k : Nat) ∧ blkL a = []) := fun k hk h1 h2 => by
    have := blkE_no hk h1 h2
    exact ⟨this, if_neg (by rw [this]; exact h2)⟩
  have hgA : Grow w (w.alloc (.cells #[.slice ad 4 cd, .slice ai ni ci] 26)) := Grow.alloc _ _
  obtain ⟨w1, hw1⟩ : ∃ w1, w1 = w.alloc (.cells #[.slice ad 4 cd, .slice ai ni ci] 26) := ⟨_, rfl⟩
  have hsz : w1.heap.size = w.heap.size + 1 := by rw [hw1]; simp
  have hA0 : w1.heap[w.heap.size]? = some (.cells #[.slice ad 4 cd, .slice ai ni ci] 26 (0, 0)) := by rw [hw1]; exact heap_alloc_new w _
  have c0 := two_at0 hA0
  have c1 := two_at1 hA0
  have hmk := Try.made9 (w.alloc (.cells #[.slice ad 4 cd, .slice ai ni ci] 26))
  have hst : Hid (Rowing Bs w1.heap.size 52 (w1.alloc (.cells nines 52)) (.slice (some ⟨w1.heap.size, 0, none⟩) 9 9) (upTo (fun n => rdX a (n : Nat)) 0)) := by rw [upTo_zero]; exact Rowing.made9 w1
  rw [← hw1] at hgA
  clear hd hit harr ha h8 hA0 hl4
  go_enter Try.func102, Try.ntmps102
  go_wp2
  rw [← hw1]
  rw [show w.heap.size + 1 = w1.heap.size from hsz.symm]
  clear hw1 hsz hmk
  go_loopw [11] (fun i wr => ∃ k : Nat, k ≤ 9 ∧ i = .int .i64 k ∧ Hid (Rowing Bs w1.heap.size 52 wr (.slice (some ⟨w1.heap.size, 0, none⟩) 9 9) (upTo (fun n => rdX a (n : Nat)) k)) ∧ Hid (∀ j, j < k → rdE a (j : Nat) = 0) ∧ Grow w1 wr) (fun i _ => 9 - (intOf i).toNat)
  case atStart => exact ⟨0, by omega, rfl, hst, (fun j hj => by omega), Grow.alloc _ _⟩
  case round =>
    obtain ⟨k, hk, rfl, HR, HE, hgr⟩ := hrel
    clear hst
    by_cases hlt : k < 9
    · have c0' := hgr.at c0
      have c1' := hgr.at c1
      have hgw := hgA.trans hgr
      have hlr : w1.heap.size < wr.heap.size := (HR.out.base _ rfl).2
      have hcall := arrRead_off (.agg #[.slice ad 4 cd, .slice ai ni ci]) a k wr (some w1.heap.size) (HA.out.1.grow hgw) (fun j hj => by cases hj; exact hlr) HA.out.2.1 HA.out.2.2
      go_wp2_with fail
      refine hcall.mono ?_
      rintro e w2 ⟨r, rfl, hr, hg2⟩
      clear hcall
      obtain ⟨ar, nr, cr, rfl⟩ := hr.here.form
      have hgr2 := hgr.trans hg2
      by_cases he : rdE a (k : Nat) = 0
      · have HE' : Hid (∀ j, j < k + 1 → rdE a (j : Nat) = 0) := fun j hj => by
          by_cases hjk : j = k
          · rw [hjk]; exact he
          · exact HE.out j (by omega)
        have hrow := HR.out.grow hg2
        obtain ⟨⟨u0, hu0⟩, hf0⟩ := hrow.at (k := k) (by rw [upTo_length]; exact hlt)
        have hrow1 := hrow.stored k hr
        rw [upTo_set (fun n => rdX a (n : Nat)) hlt] at hrow1
        have HR1 : Hid (Rowing Bs _ _ _ _ _) := hrow1
        have hg4 := hgr2.set (k := k) (Nat.le_refl w1.heap.size) (.slice ar nr cr)
        clear hrow hrow1 HR hr
        generalize rdE a (k : Nat) = E at *
        subst he
        go_wp2
        go_roundw
        case rel => first | exact ⟨k + 1, by omega, by go_num, HR1, HE', hg4⟩ | ((repeat apply Exists.intro); exact ⟨⟨k + 1, by omega, by go_num, HR1, HE', hg4⟩, rfl⟩)
        case measure => simp [intOf]; omega
      · have HF' : Hid (blkE a = rdE a (k : Nat) ∧ blkL a = []) := HF.out k hlt HE.out he
        generalize rdE a (k : Nat) = E at *
        have he' : (E != 0) = true := by simpa using he
        clear HF HO HR hr
        go_wp2
        go_ret2
        exact ⟨_, ret_bs2 HF'.out.1.symm, by rw [HF'.out.2]; exact Sl.nil _ _, hgA.trans hgr2⟩
    · obtain rfl : k = 9 := by omega
      have HO' := HO.out HE.out
      have hR := HR.out.done
      rw [upTo_all, ← HO'.2] at hR
      have Hfin : Hid (blkE a = 0 ∧ Bss wr (.slice (some ⟨w1.heap.size, 0, none⟩) 9 9) (blkL a)) := ⟨HO'.1, hR⟩
      clear HO' HF HO HR hR
      go_wp2
      go_ret2
      exact ⟨_, ret_bs2 Hfin.out.1.symm, Hfin.out.2, hgA.trans hgr⟩

end Go.Proofs.Ytjggiameajndgac
