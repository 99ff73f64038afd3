import Derived.Test.YtjggiameajndgadGreatDoorJoin14
/-
  What the program's array.Mount returns: an array of the call's own, what was noted done. Nothing old turns.
-/
namespace Go.Proofs.YtjggiameajndgadGreatDoor
open Go.RowKit

/-- The boxes of a call: the result, what is written. -/
def MBox (n q : Nat) (dv iv : Value) (w : World) : Prop := w.heap[n + 1]? = some (.cells #[.slice none 0 0, .slice none 0 0] 27 (0, 0)) ∧ w.heap[q]? = some (.cells #[dv, iv] 27 (0, 0)) ∧ n + 2 ≤ q
theorem MBox.grow {n q : Nat} {dv iv : Value} {w w' : World} (h : MBox n q dv iv w) (hg : Grow w w') : MBox n q dv iv w' := ⟨hg.block' h.1, hg.block' h.2.1, h.2.2⟩
theorem MBox.set {n q : Nat} {dv iv d' i' : Value} {w : World} (h : MBox n q dv iv w) : MBox n q d' i' ((w.setCell ⟨q, 0, none⟩ d').setCell ⟨q, 1, none⟩ i') := ⟨set_other (set_other h.1 (by have := h.2.2; omega)) (by have := h.2.2; omega), two_set1 (two_set0 h.2.1), h.2.2⟩

theorem mount_end {w wr : World} {q : Nat} {dv iv : Value} {bs : List Nat} {a : ArrP} (hB : MBox w.heap.size q dv iv wr) (hO : OwnA (w.heap.size + 2) bs wr dv iv a) (hg : Grow w wr) :
    Hid (OwnA w.heap.size bs ((wr.setCell ⟨w.heap.size + 1, 0, none⟩ dv).setCell ⟨w.heap.size + 1, 1, none⟩ iv) dv iv a ∧ Grow w ((wr.setCell ⟨w.heap.size + 1, 0, none⟩ dv).setCell ⟨w.heap.size + 1, 1, none⟩ iv)) ∧
    ((wr.setCell ⟨w.heap.size + 1, 0, none⟩ dv).setCell ⟨w.heap.size + 1, 1, none⟩ iv).cell? ⟨w.heap.size + 1, 0, none⟩ = some dv ∧ ((wr.setCell ⟨w.heap.size + 1, 0, none⟩ dv).setCell ⟨w.heap.size + 1, 1, none⟩ iv).cell? ⟨w.heap.size + 1, 1, none⟩ = some iv := by
  have h1 := two_set0 (z := dv) hB.1
  have h2 := two_set1 (z := iv) h1
  exact ⟨⟨((hO.k4 (K4.set hB.1)).k4 (K4.set h1)).low (by omega), (hg.set (by omega) _).set (by omega) _⟩, two_at0 h2, two_at1 h2⟩

/-- Intents that there are: none, or one of four cells, of a stripe. -/
def Fewer (a : ArrP) : Prop := a.is = [] ∨ ∃ (s : Nat) (cs : List (List Int)), a.is = [((s : Int), cs)] ∧ s < 3 ∧ cs.length = 4 ∧ ∀ b ∈ cs, b.length ≤ 8
theorem Fewer.few {a : ArrP} (h : Fewer a) : Few a := h.imp id fun ⟨s, cs, h1, _, h2, h3⟩ => ⟨(s : Int), cs, h1, h2, h3⟩

set_option maxRecDepth 20000 in
set_option maxHeartbeats 6400000 in
theorem mount_any (v : Value) (a : ArrP) (w : World) (h : ArrV w v a) (ha : Whole a) (h8 : ∀ d s, (cellAt a d s).length ≤ 8) (hI : Fewer a) :
    Calls Tryz.prog 39 #[v] w fun e w' => ∃ bs dv iv, e = .returned (.agg #[dv, iv]) ∧ OwnA w.heap.size bs w' dv iv (mountL a) ∧ Grow w w' := by
  have HA : Hid (ArrV w v a ∧ Whole a ∧ (∀ d s, (cellAt a d s).length ≤ 8) ∧ Fewer a) := ⟨h, ha, h8, hI⟩
  obtain ⟨dv0, iv0, rfl, hd, hit⟩ := h
  obtain ⟨ad, cd, rfl, hd1, hd2⟩ := hd.form'
  obtain ⟨ai, ci, rfl, hi1, hi2⟩ := hit.form
  have Hi : Hid (Its w (.slice ai a.is.length ci) a.is) := hit
  generalize hnd : a.ds.length = nd at *
  generalize hni : a.is.length = ni at *
  have HN : Hid (a.is.length = ni) := hni
  obtain ⟨W, hW⟩ : ∃ W, W = (w.alloc (.cells #[.slice ad nd cd, .slice ai ni ci] 27)).alloc (.cells #[.slice none 0 0, .slice none 0 0] 27) := ⟨_, rfl⟩
  have hgW : Grow w W := by rw [hW]; exact (Grow.alloc _ _).trans (Grow.alloc _ _)
  have HB0 : Hid (W.heap[w.heap.size]? = some (.cells #[.slice ad nd cd, .slice ai ni ci] 27 (0, 0)) ∧ W.heap[w.heap.size + 1]? = some (.cells #[.slice none 0 0, .slice none 0 0] 27 (0, 0))) := by
    rw [Hid, hW]
    exact ⟨by rw [heap_alloc_old _ _ (by simp)]; exact heap_alloc_new w _, heap_alloc2_new w _ _⟩
  have a00 := two_at0 HB0.out.1
  have a01 := two_at1 HB0.out.1
  have hcall := own_any (.agg #[.slice ad nd cd, .slice ai ni ci]) a W (HA.out.1.grow hgW) ha h8 hI.few
  clear hit hd h8 hI hnd hni ha
  go_enter Tryz.func39, Tryz.ntmps39
  go_wp2_with fail
  rw [← hW]
  clear hW
  refine hcall.mono ?_
  rintro e w1 ⟨bs0, dv0, iv0, rfl, hO, hg1⟩
  clear hcall
  obtain ⟨⟨x1, x2, x3, rfl⟩, y1, y2, y3, rfl⟩ := hO.forms
  obtain ⟨q, hq⟩ : ∃ q, q = w1.heap.size := ⟨_, rfl⟩
  obtain ⟨W2, hW2⟩ : ∃ W2, W2 = w1.alloc (.cells #[.slice x1 x2 x3, .slice y1 y2 y3] 27) := ⟨_, rfl⟩
  have hg2 : Grow w1 W2 := by rw [hW2]; exact Grow.alloc _ _
  have hszW : w.heap.size + 2 ≤ W.heap.size := by have := heap_lt HB0.out.2; omega
  have HB : Hid (MBox w.heap.size q (.slice x1 x2 x3) (.slice y1 y2 y3) W2) := ⟨hg2.block' (hg1.block' HB0.out.2), by rw [hq, hW2]; exact heap_alloc_new w1 _, by have := hg1.size; omega⟩
  have HO : Hid (OwnA (w.heap.size + 2) bs0 W2 (.slice x1 x2 x3) (.slice y1 y2 y3) a) := (hO.k4 hg2.k4).low hszW
  have hgr := (hgW.trans hg1).trans hg2
  have a11 : w1.cell? ⟨w.heap.size, 1, none⟩ = some (.slice ai ni ci) := hg1.at a01
  have a12 : (w1.alloc (.cells #[.slice x1 x2 x3, .slice y1 y2 y3] 27)).cell? ⟨w.heap.size, 1, none⟩ = some (.slice ai ni ci) := (Grow.alloc _ _).at a11
  clear hO hg1 hg2 hgW HB0 a00 a01 hszW
  rcases HA.out.2.2.2 with hIe | ⟨s, cs, hIe, hs3, hc4, hc8⟩
  · have hn0 : ni = 0 := by rw [← HN.out, hIe]; rfl
    subst hn0
    have HM : Hid (mountL a = a) := by unfold mountL; rw [Hid, hIe]
    clear hIe
    go_wp2_with fail
    rw [← hW2, ← hq]
    clear hW2 hq a11 a12
    go_loopw [11] (fun p wr => p = .int .i64 0 ∧ wr = W2) (fun _ _ => 0)
    case atStart => exact ⟨rfl, rfl⟩
    case round =>
      obtain ⟨rfl, rfl⟩ := hrel
      obtain ⟨HE, z0, z1⟩ := mount_end HB.out HO.out hgr
      have d0 := two_at0 HB.out.2.1
      have d1 := two_at1 HB.out.2.1
      have r0 := two_at0 HB.out.1
      have r1 := two_at1 HB.out.1
      have f0 : wr.frozen? ⟨w.heap.size + 1, 0, none⟩ = false := frozen_of_row wr _ 0 _ _ HB.out.1
      have f1 : wr.frozen? ⟨w.heap.size + 1, 1, none⟩ = false := frozen_of_row wr _ 1 _ _ HB.out.1
      clear HB HO
      go_wp2_with fail
      refine bodyPost_ret (results_two Tryz.results39 _ _ (w.heap.size + 1) _ rfl Tryz.underlying27 rfl Tryz.sizeA z0 z1) rfl ?_
      have hO := HE.out.1
      rw [← HM.out] at hO
      exact ⟨_, _, _, rfl, hO, HE.out.2⟩
  · have hn1 : ni = 1 := by rw [← HN.out, hIe]; rfl
    subst hn1
    have HM : Hid (mountL a = writeL a ((s : Int), cs) 6) := by unfold mountL; rw [Hid, hIe]; rfl
    have hi := Hi.out
    rw [hIe] at hi
    obtain ⟨aq, cq, e0, hq3, hq4, hq5, h4⟩ := hi
    injection e0 with e1 e9 e3
    clear e9
    obtain ⟨b, off, e2, hcc⟩ := h4 (by simp)
    rw [← e1] at e2
    subst e2
    obtain ⟨hs0, cv, hs1, hcv⟩ := hcc 0 ((s : Int), cs) rfl
    obtain ⟨ac, nc, ce, rfl⟩ : ∃ a n c, cv = .slice a n c := by
      obtain ⟨a, c, e⟩ := hcv.form
      exact ⟨_, _, _, e⟩
    simp only [Nat.zero_mul, Nat.add_zero] at hs0 hs1
    have Hcv : Hid (Bss w (.slice ac nc ce) cs ∧ cs.length = 4 ∧ ∀ b ∈ cs, b.length ≤ 8) := ⟨hcv, hc4, hc8⟩
    have c0 := hgr.at hs0
    have c1 := hgr.at hs1
    clear h4 hcc e1 e3 hq3 hq4 hq5 hIe Hi HN hcv hc4 hc8 hs0 hs1
    go_wp2_with fail
    rw [← hW2, ← hq]
    clear hW2 hq a11 a12
    go_loopw [11] (fun p wr => (p = .int .i64 0 ∧ wr = W2) ∨ (p = .int .i64 1 ∧ ∃ dv iv bs, (∃ x1 x2 x3, dv = .slice x1 x2 x3) ∧ (∃ x1 x2 x3, iv = .slice x1 x2 x3) ∧ Hid (MBox w.heap.size q dv iv wr) ∧ Hid (OwnA (w.heap.size + 2) bs wr dv iv (mountL a)) ∧ Grow w wr)) (fun p _ => 1 - (intOf p).toNat)
    case atStart => exact .inl ⟨rfl, rfl⟩
    case round =>
      rcases hrel with ⟨rfl, rfl⟩ | ⟨rfl, dv, iv, bs, ⟨k1, k2, k3, rfl⟩, ⟨j1, j2, j3, rfl⟩, HB1, HO1, hg1⟩
      · obtain ⟨WA, hWA⟩ : ∃ WA, WA = wr.alloc (.cells #[.int .i64 s, .slice ac nc ce] 78) := ⟨_, rfl⟩
        have hgA : Grow wr WA := by rw [hWA]; exact Grow.alloc _ _
        have hbA : WA.heap[wr.heap.size]? = some (.cells #[.int .i64 s, .slice ac nc ce] 78 (0, 0)) := by rw [hWA]; exact heap_alloc_new wr _
        have vA0 := two_at0 hbA
        have vA1 := two_at1 hbA
        have hBA := HB.out.grow hgA
        have d0 := two_at0 hBA.2.1
        have d1 := two_at1 hBA.2.1
        have hOA := HO.out.k4 hgA.k4
        have hcall := write_any (.agg #[.slice x1 x2 x3, .slice y1 y2 y3]) (.agg #[.int .i64 s, .slice ac nc ce]) a s cs 6 WA hOA.arr HA.out.2.1 HA.out.2.2.1 HA.out.2.2.2.few ⟨_, rfl, Hcv.out.1.grow (hgr.trans hgA)⟩ hs3 Hcv.out.2.1 Hcv.out.2.2
        have hqn := hBA.2.2
        have hszA := heap_lt hBA.2.1
        have HBA : Hid (MBox _ _ _ _ _) := hBA
        clear hbA hBA hOA HB HO
        subst hWA
        go_wp2_with fail
        refine hcall.mono ?_
        rintro e w5 ⟨bs5, dv5, iv5, rfl, hO5, hg5⟩
        clear hcall
        obtain ⟨⟨k1, k2, k3, rfl⟩, j1, j2, j3, rfl⟩ := hO5.forms
        have hB5 := HBA.out.grow hg5
        have t0 := two_at0 hB5.2.1
        have t1 := two_at1 hB5.2.1
        have f0 : w5.frozen? ⟨q, 0, none⟩ = false := frozen_of_row w5 _ 0 _ _ hB5.2.1
        have f1 : w5.frozen? ⟨q, 1, none⟩ = false := frozen_of_row w5 _ 1 _ _ hB5.2.1
        have HB6 : Hid (MBox _ _ _ _ _) := hB5.set (d' := .slice k1 k2 k3) (i' := .slice j1 j2 j3)
        have HO6 : Hid (OwnA (w.heap.size + 2) bs5 ((w5.setCell ⟨q, 0, none⟩ (.slice k1 k2 k3)).setCell ⟨q, 1, none⟩ (.slice j1 j2 j3)) (.slice k1 k2 k3) (.slice j1 j2 j3) (mountL a)) := by
          rw [HM.out]
          exact ((hO5.low (by omega)).k4 (K4.set hB5.2.1)).k4 (K4.set (two_set0 hB5.2.1))
        have hg6 := (((hgr.trans hgA).trans hg5).set (g := q) (k := 0) (by omega) (.slice k1 k2 k3)).set (g := q) (k := 1) (by omega) (.slice j1 j2 j3)
        clear hO5 hB5 HBA vA0 vA1 d0 d1 c0 c1 hg5 hgA
        go_wp2_with fail
        go_roundw
        case rel => exact .inr ⟨rfl, _, _, _, ⟨_, _, _, rfl⟩, ⟨_, _, _, rfl⟩, HB6, HO6, hg6⟩
        case measure => simp [intOf]
      · obtain ⟨HE, z0, z1⟩ := mount_end HB1.out HO1.out hg1
        have d0 := two_at0 HB1.out.2.1
        have d1 := two_at1 HB1.out.2.1
        have r0 := two_at0 HB1.out.1
        have r1 := two_at1 HB1.out.1
        have f0 : wr.frozen? ⟨w.heap.size + 1, 0, none⟩ = false := frozen_of_row wr _ 0 _ _ HB1.out.1
        have f1 : wr.frozen? ⟨w.heap.size + 1, 1, none⟩ = false := frozen_of_row wr _ 1 _ _ HB1.out.1
        clear HB1 HO1 HB HO
        go_wp2_with fail
        refine bodyPost_ret (results_two Tryz.results39 _ _ (w.heap.size + 1) _ rfl Tryz.underlying27 rfl Tryz.sizeA z0 z1) rfl ?_
        exact ⟨_, _, _, rfl, HE.out.1, HE.out.2⟩

end Go.Proofs.YtjggiameajndgadGreatDoor

/-
  What the program's array.Do returns: an array of the call's own. Nothing old turns.
-/
namespace Go.Proofs.YtjggiameajndgadGreatDoor
open Go.RowKit

/-- An intent that there is: its stripe, its cells. -/
theorem planI_yes {a : ArrP} (ha : Whole a) {x : DeedP} (he : planE a x = 0) : ∃ (s : Nat) (cs : List (List Int)), planI a x = ((s : Int), cs) ∧ s < 3 ∧ cs.length = 4 ∧ ∀ b ∈ cs, b.length ≤ 8 := by
  obtain ⟨s, hs3, -, -, -, hi⟩ := planI_ok he
  obtain ⟨h4, h8⟩ := planI_cells ha he
  rw [hi] at h4 h8
  exact ⟨s, _, hi, hs3, h4, fun b hb => by rw [h8 b hb]; omega⟩

/-- Two cells of a block of an array, set. -/
theorem do_end {w wr : World} {q : Nat} {dv iv u0 u1 : Value} {bs : List Nat} {a : ArrP} {B : Nat} (hB : wr.heap[q]? = some (.cells #[u0, u1] 27 (0, 0))) (hO : OwnA B bs wr dv iv a) (hg : Grow w wr) (hq : w.heap.size ≤ q) (hb : w.heap.size ≤ B) :
    Hid (OwnA w.heap.size bs ((wr.setCell ⟨q, 0, none⟩ dv).setCell ⟨q, 1, none⟩ iv) dv iv a ∧ Grow w ((wr.setCell ⟨q, 0, none⟩ dv).setCell ⟨q, 1, none⟩ iv)) ∧
    ((wr.setCell ⟨q, 0, none⟩ dv).setCell ⟨q, 1, none⟩ iv).cell? ⟨q, 0, none⟩ = some dv ∧ ((wr.setCell ⟨q, 0, none⟩ dv).setCell ⟨q, 1, none⟩ iv).cell? ⟨q, 1, none⟩ = some iv := by
  have h1 := two_set0 (z := dv) hB
  have h2 := two_set1 (z := iv) h1
  exact ⟨⟨((hO.k4 (K4.set hB)).k4 (K4.set h1)).low hb, (hg.set hq _).set hq _⟩, two_at0 h2, two_at1 h2⟩

set_option maxRecDepth 20000 in
set_option maxHeartbeats 6400000 in
theorem arrDo_any (v dv : Value) (a : ArrP) (x : DeedP) (w : World) (h : ArrV w v a) (ha : Whole a) (h8 : ∀ d s, (cellAt a d s).length ≤ 8) (hI : Few a) (hd : DeedV w dv x) :
    Calls Tryz.prog 18 #[v, dv] w fun e w' => ∃ bs dv iv, e = .returned (.tuple #[.agg #[dv, iv], .int .i64 (planE a x)]) ∧ OwnA w.heap.size bs w' dv iv (doA a x) ∧ Grow w w' := by
  have harr := h
  have hdeed := hd
  obtain ⟨a1, n1, c1, a2, n2, c2, rfl⟩ := h.form
  obtain ⟨sv, rfl, hbd⟩ := hd
  obtain ⟨d1, d2, d3, rfl⟩ := hbd.form
  clear h hbd
  obtain ⟨W, hW⟩ : ∃ W, W = ((w.alloc (.cells #[.slice a1 n1 c1, .slice a2 n2 c2] 27)).alloc (.cells #[.int .i64 x.k, .int .i64 x.n, .int .i64 x.m, .slice d1 d2 d3] 36)).alloc (.cells #[.slice none 0 0, .slice none 0 0] 27) := ⟨_, rfl⟩
  have hgW : Grow w W := by rw [hW]; exact ((Grow.alloc _ _).trans (Grow.alloc _ _)).trans (Grow.alloc _ _)
  obtain ⟨H1, H2, H3⟩ := heap3 w (.cells #[.slice a1 n1 c1, .slice a2 n2 c2] 27) (.cells #[.int .i64 x.k, .int .i64 x.n, .int .i64 x.m, .slice d1 d2 d3] 36) (.cells #[.slice none 0 0, .slice none 0 0] 27)
  rw [← hW] at H1 H2 H3
  have k0 : W.cell? ⟨w.heap.size, 0, none⟩ = some (.slice a1 n1 c1) := row_at H1 0 rfl
  have k1 : W.cell? ⟨w.heap.size, 1, none⟩ = some (.slice a2 n2 c2) := row_at H1 1 rfl
  have d0' : W.cell? ⟨w.heap.size + 1, 0, none⟩ = some (.int .i64 x.k) := row_at H2 0 rfl
  have d1' : W.cell? ⟨w.heap.size + 1, 1, none⟩ = some (.int .i64 x.n) := row_at H2 1 rfl
  have d2' : W.cell? ⟨w.heap.size + 1, 2, none⟩ = some (.int .i64 x.m) := row_at H2 2 rfl
  have d3' : W.cell? ⟨w.heap.size + 1, 3, none⟩ = some (.slice d1 d2 d3) := row_at H2 3 rfl
  have HR : Hid (W.heap[w.heap.size + 1 + 1]? = some (.cells #[.slice none 0 0, .slice none 0 0] 27 (0, 0))) := H3
  clear H1 H2 H3
  have hP := arrPlan_any (.agg #[.slice a1 n1 c1, .slice a2 n2 c2]) (.agg #[.int .i64 x.k, .int .i64 x.n, .int .i64 x.m, .slice d1 d2 d3]) a x W (harr.grow hgW) ha h8 (hdeed.grow hgW)
  have HA : Hid (ArrV w (.agg #[.slice a1 n1 c1, .slice a2 n2 c2]) a ∧ Whole a ∧ (∀ d s, (cellAt a d s).length ≤ 8) ∧ Few a) := ⟨harr, ha, h8, hI⟩
  clear harr ha h8 hI hdeed
  go_enter Tryz.func18, Tryz.ntmps18
  go_wp2_with fail
  rw [← hW]
  clear hW
  refine hP.mono ?_
  rintro e w1 ⟨r, rfl, hr, hg1⟩
  clear hP d0' d1' d2' d3'
  obtain ⟨cv, rfl, hcv⟩ := hr
  obtain ⟨ac, nc, cc, rfl⟩ : ∃ a n c, cv = .slice a n c := by
    obtain ⟨a, c, e⟩ := hcv.form
    exact ⟨_, _, _, e⟩
  have hcv : Bss w1 (.slice ac nc cc) (planI a x).2 := hcv
  generalize hix : (planI a x).1 = ix at *
  have HIX : Hid ((planI a x).1 = ix) := hix
  have gA : Grow w1 (w1.alloc (.cells #[.int .i64 ix, .slice ac nc cc] 78)) := Grow.alloc _ _
  have hg02 := hg1.trans gA
  have hgw := hgW.trans hg02
  have q0 := hg02.at k0
  have q1 := hg02.at k1
  have hR := hg02.block' HR.out
  have hbI : (w1.alloc (.cells #[.int .i64 ix, .slice ac nc cc] 78)).heap[w1.heap.size]? = some (.cells #[.int .i64 ix, .slice ac nc cc] 78 (0, 0)) := heap_alloc_new w1 _
  have i0 := two_at0 hbI
  have i1 := two_at1 hbI
  have HCV : Hid (Bss (w1.alloc (.cells #[.int .i64 ix, .slice ac nc cc] 78)) (.slice ac nc cc) (planI a x).2) := hcv.grow gA
  obtain ⟨W2, hW2⟩ : ∃ W2, W2 = w1.alloc (.cells #[.int .i64 ix, .slice ac nc cc] 78) := ⟨_, rfl⟩
  by_cases he : planE a x = 0
  · obtain ⟨s, cs, hi, hs3, hc4, hc8⟩ := planI_yes HA.out.2.1 he
    have HDo : Hid (doA a x = writeL a ((s : Int), cs) 6) := by rw [Hid, doA, if_pos he, hi]; rfl
    have HE : Hid (planE a x = 0) := he
    obtain rfl : ix = (s : Int) := by rw [← HIX.out, hi]
    have hwc := write_any (.agg #[.slice a1 n1 c1, .slice a2 n2 c2]) (.agg #[.int .i64 s, .slice ac nc cc]) a s cs 6 (w1.alloc (.cells #[.int .i64 s, .slice ac nc cc] 78)) (HA.out.1.grow hgw) HA.out.2.1 HA.out.2.2.1 HA.out.2.2.2 ⟨_, rfl, by have := HCV.out; rw [hi] at this; exact this⟩ hs3 hc4 hc8
    rw [he]
    clear hcv hbI hi hc4 hc8 hix he k0 k1 hW2 HIX
    go_wp2_with fail
    refine hwc.mono ?_
    rintro e w3 ⟨bs, dv, iv, rfl, hO, hg3⟩
    clear hwc
    obtain ⟨⟨x1, x2, x3, rfl⟩, y1, y2, y3, rfl⟩ := hO.forms
    have hR3 := hg3.block' hR
    have r0 := two_at0 hR3
    have r1 := two_at1 hR3
    have f0 : w3.frozen? ⟨w.heap.size + 1 + 1, 0, none⟩ = false := frozen_of_row w3 _ 0 _ _ hR3
    have f1 : w3.frozen? ⟨w.heap.size + 1 + 1, 1, none⟩ = false := frozen_of_row w3 _ 1 _ _ hR3
    have hE := do_end hR3 hO (hgw.trans hg3) (by omega) hgw.size
    obtain ⟨HF, z0, z1⟩ := hE
    clear hO hR3 hR i0 i1 q0 q1
    go_wp2
    refine bodyPost_ret (results_two1 Tryz.results18 _ _ (w.heap.size + 1 + 1) _ rfl Tryz.underlying27 rfl Tryz.sizeA z0 z1) rfl ?_
    rw [HE.out]
    exact ⟨_, _, _, rfl, by rw [HDo.out]; exact HF.out.1, HF.out.2⟩
  · have HDo : Hid (doA a x = a) := if_neg he
    have hoc := own_any (.agg #[.slice a1 n1 c1, .slice a2 n2 c2]) a (w1.alloc (.cells #[.int .i64 ix, .slice ac nc cc] 78)) (HA.out.1.grow hgw) HA.out.2.1 HA.out.2.2.1 HA.out.2.2.2
    clear hcv hbI hix k0 k1 hW2 HIX HCV
    generalize hE0 : planE a x = E at *
    have he' : (E != 0) = true := by simpa using he
    have HE : Hid (planE a x = E) := hE0
    clear hE0
    go_wp2_with fail
    refine hoc.mono ?_
    rintro e w3 ⟨bs, dv, iv, rfl, hO, hg3⟩
    clear hoc
    obtain ⟨⟨x1, x2, x3, rfl⟩, y1, y2, y3, rfl⟩ := hO.forms
    have hR3 := hg3.block' hR
    have r0 := two_at0 hR3
    have r1 := two_at1 hR3
    have f0 : w3.frozen? ⟨w.heap.size + 1 + 1, 0, none⟩ = false := frozen_of_row w3 _ 0 _ _ hR3
    have f1 : w3.frozen? ⟨w.heap.size + 1 + 1, 1, none⟩ = false := frozen_of_row w3 _ 1 _ _ hR3
    obtain ⟨HF, z0, z1⟩ := do_end hR3 hO (hgw.trans hg3) (by omega) hgw.size
    clear hO hR3 hR i0 i1 q0 q1
    go_wp2
    refine bodyPost_ret (results_two1 Tryz.results18 _ _ (w.heap.size + 1 + 1) _ rfl Tryz.underlying27 rfl Tryz.sizeA z0 z1) rfl ?_
    rw [HE.out]
    exact ⟨_, _, _, rfl, by rw [HDo.out]; exact HF.out.1, HF.out.2⟩

end Go.Proofs.YtjggiameajndgadGreatDoor

/-
  What the program's array.Blocks returns. Nothing old turns.
-/
namespace Go.Proofs.YtjggiameajndgadGreatDoor
open Go.RowKit

set_option maxRecDepth 20000 in
set_option maxHeartbeats 3200000 in
theorem arrBlocks_any (v : Value) (a : ArrP) (w : World) (h : ArrV w v a) (ha : Whole a) (h8 : ∀ d s, (cellAt a d s).length ≤ 8) :
    Calls Tryz.prog 10 #[v] w fun e w' => ∃ r, e = .returned (.tuple #[r, .int .i64 (blkE a)]) ∧ Bss w' r (blkL a) ∧ Grow w w' := by
  have harr := h
  obtain ⟨dv, iv, rfl, hd, hit⟩ := h
  obtain ⟨ad, cd, rfl, hd1, hd2⟩ := hd.form'
  obtain ⟨ai, ci, rfl, hi1, hi2⟩ := hit.form
  have hl4 := ha.1
  rw [hl4] at harr hd1 ⊢
  generalize a.is.length = ni at *
  have HA : Hid (ArrV w (.agg #[.slice ad 4 cd, .slice ai ni ci]) a ∧ Whole a ∧ ∀ d s, (cellAt a d s).length ≤ 8) := ⟨harr, ha, h8⟩
  have HO : Hid ((∀ j, j < 9 → rdE a (j : Nat) = 0) → blkE a = 0 ∧ blkL a = (List.range 9).map (fun n => rdX a (n : Nat))) := fun h => by
    have := blkE_ok h
    exact ⟨this, if_pos this⟩
  have HF : Hid (∀ k, k < 9 → (∀ j, j < k → rdE a (j : Nat) = 0) → rdE a (k : Nat) ≠ 0 → blkE a = rdE a (k : Nat) ∧ blkL a = []) := fun k hk h1 h2 => by
    have := blkE_no hk h1 h2
    exact ⟨this, if_neg (by rw [this]; exact h2)⟩
  have hgA : Grow w (w.alloc (.cells #[.slice ad 4 cd, .slice ai ni ci] 27)) := Grow.alloc _ _
  obtain ⟨w1, hw1⟩ : ∃ w1, w1 = w.alloc (.cells #[.slice ad 4 cd, .slice ai ni ci] 27) := ⟨_, rfl⟩
  have hsz : w1.heap.size = w.heap.size + 1 := by rw [hw1]; simp
  have hA0 : w1.heap[w.heap.size]? = some (.cells #[.slice ad 4 cd, .slice ai ni ci] 27 (0, 0)) := by rw [hw1]; exact heap_alloc_new w _
  have c0 := two_at0 hA0
  have c1 := two_at1 hA0
  have hmk := Tryz.made9 (w.alloc (.cells #[.slice ad 4 cd, .slice ai ni ci] 27))
  have hst : Hid (Rowing Bs w1.heap.size 34 (w1.alloc (.cells nines 34)) (.slice (some ⟨w1.heap.size, 0, none⟩) 9 9) (upTo (fun n => rdX a (n : Nat)) 0)) := by rw [upTo_zero]; exact Rowing.made9 w1
  rw [← hw1] at hgA
  clear hd hit harr ha h8 hA0 hl4
  go_enter Tryz.func10, Tryz.ntmps10
  go_wp2
  rw [← hw1]
  rw [show w.heap.size + 1 = w1.heap.size from hsz.symm]
  clear hw1 hsz hmk
  go_loopw [11] (fun i wr => ∃ k : Nat, k ≤ 9 ∧ i = .int .i64 k ∧ Hid (Rowing Bs w1.heap.size 34 wr (.slice (some ⟨w1.heap.size, 0, none⟩) 9 9) (upTo (fun n => rdX a (n : Nat)) k)) ∧ Hid (∀ j, j < k → rdE a (j : Nat) = 0) ∧ Grow w1 wr) (fun i _ => 9 - (intOf i).toNat)
  case atStart => exact ⟨0, by omega, rfl, hst, (fun j hj => by omega), Grow.alloc _ _⟩
  case round =>
    obtain ⟨k, hk, rfl, HR, HE, hgr⟩ := hrel
    clear hst
    by_cases hlt : k < 9
    · have c0' := hgr.at c0
      have c1' := hgr.at c1
      have hgw := hgA.trans hgr
      have hlr : w1.heap.size < wr.heap.size := (HR.out.base _ rfl).2
      have hcall := arrRead_off (.agg #[.slice ad 4 cd, .slice ai ni ci]) a k wr (some w1.heap.size) (HA.out.1.grow hgw) (fun j hj => by cases hj; exact hlr) HA.out.2.1 HA.out.2.2
      go_wp2_with fail
      refine hcall.mono ?_
      rintro e w2 ⟨r, rfl, hr, hg2⟩
      clear hcall
      obtain ⟨ar, nr, cr, rfl⟩ := hr.here.form
      have hgr2 := hgr.trans hg2
      by_cases he : rdE a (k : Nat) = 0
      · have HE' : Hid (∀ j, j < k + 1 → rdE a (j : Nat) = 0) := fun j hj => by
          by_cases hjk : j = k
          · rw [hjk]; exact he
          · exact HE.out j (by omega)
        have hrow := HR.out.grow hg2
        obtain ⟨⟨u0, hu0⟩, hf0⟩ := hrow.at (k := k) (by rw [upTo_length]; exact hlt)
        have hrow1 := hrow.stored k hr
        rw [upTo_set (fun n => rdX a (n : Nat)) hlt] at hrow1
        have HR1 : Hid (Rowing Bs _ _ _ _ _) := hrow1
        have hg4 := hgr2.set (k := k) (Nat.le_refl w1.heap.size) (.slice ar nr cr)
        clear hrow hrow1 HR hr
        generalize rdE a (k : Nat) = E at *
        subst he
        go_wp2
        go_roundw
        case rel => first | exact ⟨k + 1, by omega, by go_num, HR1, HE', hg4⟩ | ((repeat apply Exists.intro); exact ⟨⟨k + 1, by omega, by go_num, HR1, HE', hg4⟩, rfl⟩)
        case measure => simp [intOf]; omega
      · have HF' : Hid (blkE a = rdE a (k : Nat) ∧ blkL a = []) := HF.out k hlt HE.out he
        generalize rdE a (k : Nat) = E at *
        have he' : (E != 0) = true := by simpa using he
        clear HF HO HR hr
        go_wp2
        go_ret2
        exact ⟨_, ret_bs2 HF'.out.1.symm, by rw [HF'.out.2]; exact Sl.nil _ _, hgA.trans hgr2⟩
    · obtain rfl : k = 9 := by omega
      have HO' := HO.out HE.out
      have hR := HR.out.done
      rw [upTo_all, ← HO'.2] at hR
      have Hfin : Hid (blkE a = 0 ∧ Bss wr (.slice (some ⟨w1.heap.size, 0, none⟩) 9 9) (blkL a)) := ⟨HO'.1, hR⟩
      clear HO' HF HO HR hR
      go_wp2
      go_ret2
      exact ⟨_, ret_bs2 Hfin.out.1.symm, Hfin.out.2, hgA.trans hgr⟩

end Go.Proofs.YtjggiameajndgadGreatDoor

/-
  What the reference's Again and PlayGently return. Nothing old turns.
-/
namespace Go.Proofs.YtjggiameajndgadGreatDoor
open Go.RowKit

/-- Some value. -/
def AnyV (_ : Unit) (_ : Value) (_ : World) : Prop := True
theorem AnyV.stable (u : Unit) : ∀ (v : Value) (x y : World), AnyV u v x → Grow x y → AnyV u v y := fun _ _ _ h _ => h
/-- A pair whose second is this number. -/
def TupE (E : Int) (v : Value) (_ : World) : Prop := ∃ r, v = .tuple #[r, .int .i64 E]
theorem TupE.stable (E : Int) : ∀ (v : Value) (x y : World), TupE E v x → Grow x y → TupE E v y := fun _ _ _ h _ => h

theorem again_no {a : ArrP} {s : StepP} (h : ¬ (s.k = 3 ∧ 0 ≤ s.n ∧ s.n ≤ 11)) : againB a s = false := decide_eq_false (fun hc => h ⟨hc.1, hc.2.1, hc.2.2.1⟩)

theorem gently_end {a : ArrP} (n : Nat) : gentlyFrom [] a n = a := by cases n <;> rfl
theorem gently_zero {a : ArrP} (l : List StepP) : gentlyFrom l a 0 = a := by rw [gentlyFrom]
theorem gently_no {a : ArrP} {s : StepP} {r : List StepP} {n : Nat} (h : gentleB a s = false) : gentlyFrom (s :: r) a n = a := by
  cases n with
  | zero => rw [gentlyFrom]
  | succ n => rw [gentlyFrom, h]; rfl
theorem gently_yes {a : ArrP} {s : StepP} {r : List StepP} {n : Nat} (h : gentleB a s = true) : gentlyFrom (s :: r) a (n + 1) = gentlyFrom r (stepA a s) n := by rw [gentlyFrom, h]; rfl

end Go.Proofs.YtjggiameajndgadGreatDoor

/-
  What the reference's Same (of arrays) returns. Nothing old turns.
-/
namespace Go.Proofs.YtjggiameajndgadGreatDoor
open Go.RowKit

/-- Whether arrays are the same. -/
def sameB (a b : ArrP) : Bool := a.ds == b.ds && a.is == b.is

theorem sameB_iff {a b : ArrP} : sameB a b = true ↔ a = b := by
  obtain ⟨ads, ais⟩ := a
  obtain ⟨bds, bis⟩ := b
  simp [sameB]

theorem beq_no {α : Type} [BEq α] [LawfulBEq α] {a b : List α} {k : Nat} (d : α) (h : a.getD k d ≠ b.getD k d) : (a == b) = false := by
  rw [beq_eq_false_iff_ne]
  intro h0
  exact h (by rw [h0])

theorem beq_yes {α : Type} [BEq α] [LawfulBEq α] {a b : List α} (d : α) (hl : a.length = b.length) (h : ∀ k, k < a.length → a.getD k d = b.getD k d) : (a == b) = true := by
  rw [beq_iff_eq]
  refine List.ext_getElem hl fun i h1 h2 => ?_
  have := h i h1
  simpa [List.getD_eq_getElem?_getD, h1, h2] using this

theorem beq_len {α : Type} [BEq α] [LawfulBEq α] {a b : List α} (h : a.length ≠ b.length) : (a == b) = false := by
  rw [beq_eq_false_iff_ne]
  intro h0
  exact h (by rw [h0])

/-- An intent's cells. -/
theorem Its.at {w : World} {ao : Option Addr} {n cap : Nat} {l : List (Int × List (List Int))} (h : Its w (.slice ao n cap) l) {k : Nat} (hk : k < l.length) :
    ∃ b off x y, ao = some ⟨b, off, none⟩ ∧ w.cell? ⟨b, off + k * 2, none⟩ = some (.int .i64 (l.getD k (0, [])).1) ∧ w.cell? ⟨b, off + k * 2 + 1, none⟩ = some (.slice x (l.getD k (0, [])).2.length y) ∧ Bss w (.slice x (l.getD k (0, [])).2.length y) (l.getD k (0, [])).2 := by
  obtain ⟨a1, c1, e1, -, -, -, h4⟩ := h
  injection e1 with e1 _ _
  subst e1
  obtain ⟨b, off, e2, hc⟩ := h4 (by omega)
  obtain ⟨h5, cv, h6, h7⟩ := hc k (l.getD k (0, [])) (by simp [List.getD_eq_getElem?_getD, hk])
  obtain ⟨x, y, rfl⟩ := Sl.form h7
  exact ⟨b, off, x, y, e2, h5, h6, h7⟩

end Go.Proofs.YtjggiameajndgadGreatDoor

/-
  Chapter 5's statements, walked over what the program's model returns.
-/
namespace Go.Proofs.YtjggiameajndgadGreatDoor
open Go.RowKit

/-- A slice of slices of bytes. -/
def AnBss (ls : List (List Int)) (v : Value) (w : World) : Prop := Bss w v ls
theorem AnBss.stable (ls : List (List Int)) : ∀ (v : Value) (x y : World), AnBss ls v x → Grow x y → AnBss ls v y := fun _ _ _ h hg => Bss.grow h hg

end Go.Proofs.YtjggiameajndgadGreatDoor

/-
  mhlaw8.ArrayTells returns true, whatever it is handed; nothing old turns.
-/
namespace Go.Proofs.YtjggiameajndgadGreatDoor
open Go.RowKit

/-- An array. -/
def AnArr (a : ArrP) (v : Value) (w : World) : Prop := ArrV w v a
theorem AnArr.stable (a : ArrP) : ∀ (v : Value) (x y : World), AnArr a v x → Grow x y → AnArr a v y := fun _ _ _ h hg => ArrV.grow h hg

theorem own_arr (v : Value) (a : ArrP) (w : World) (h : ArrV w v a) (ha : Whole a) (h8 : ∀ d s, (cellAt a d s).length ≤ 8) (hI : Few a) :
    Calls Tryz.prog 23 #[v] w fun e w' => ∃ r, e = .returned r ∧ AnArr a r w' ∧ Grow w w' :=
  (own_any v a w h ha h8 hI).mono fun _ _ ⟨_, _, _, he, hO, hg⟩ => ⟨_, he, hO.arr, hg⟩
theorem write_arr (v nv : Value) (a : ArrP) (s : Nat) (cs : List (List Int)) (n : Int) (w : World) (h : ArrV w v a) (ha : Whole a) (h8 : ∀ d s, (cellAt a d s).length ≤ 8) (hI : Few a) (hi : IntentV w nv ((s : Int), cs)) (hs3 : s < 3) (hc4 : cs.length = 4) (hc8 : ∀ b ∈ cs, b.length ≤ 8) :
    Calls Tryz.prog 38 #[v, nv, .int .i64 n] w fun e w' => ∃ r, e = .returned r ∧ AnArr (writeL a ((s : Int), cs) n) r w' ∧ Grow w w' :=
  (write_any v nv a s cs n w h ha h8 hI hi hs3 hc4 hc8).mono fun _ _ ⟨_, _, _, he, hO, hg⟩ => ⟨_, he, hO.arr, hg⟩
theorem mount_arr (v : Value) (a : ArrP) (w : World) (h : ArrV w v a) (ha : Whole a) (h8 : ∀ d s, (cellAt a d s).length ≤ 8) (hI : Fewer a) :
    Calls Tryz.prog 39 #[v] w fun e w' => ∃ r, e = .returned r ∧ AnArr (mountL a) r w' ∧ Grow w w' :=
  (mount_any v a w h ha h8 hI).mono fun _ _ ⟨_, _, _, he, hO, hg⟩ => ⟨_, he, hO.arr, hg⟩

/-- What an array that came of the first writes of an intent is. -/
theorem writeL_few {a : ArrP} (ha : Arr a) (s : Nat) (cs : List (List Int)) (hs : s < 3) (hc4 : cs.length = 4) (hc8 : ∀ b ∈ cs, b.length ≤ 8) (n : Int) :
    Whole (writeL a ((s : Int), cs) n) ∧ (∀ d s', (cellAt (writeL a ((s : Int), cs) n) d s').length ≤ 8) ∧ Fewer (writeL a ((s : Int), cs) n) := by
  have hw := writeTo_whole ha.whole ((s : Int), cs)
  have hp : ∀ k, k ≤ 4 → Arr (putTo a cs s k) := fun k hk => putTo_arr ha hc8 hs k hk
  have hcell : ∀ k, k ≤ 6 → ∀ d s', (cellAt (writeTo a ((s : Int), cs) k) d s').length ≤ 8 := fun k hk d s' => by
    by_cases h0 : k = 0
    · subst h0; exact ha.short d s'
    by_cases h6 : k = 6
    · subst h6
      have : (writeTo a ((s : Int), cs) 6).ds = (putTo a cs s 4).ds := by rw [six_eq]; rfl
      rw [cellAt, this]
      exact (hp 4 (by omega)).short d s'
    · obtain ⟨j, rfl⟩ : ∃ j, k = j + 1 := ⟨k - 1, by omega⟩
      have : (writeTo a ((s : Int), cs) (j + 1)).ds = (putTo a cs s j).ds := writeTo_mid_ds a ((s : Int), cs) j (by omega)
      rw [cellAt, this]
      exact (hp j (by omega)).short d s'
  have h6 := many6_le n
  refine ⟨hw _, hcell _ h6, ?_⟩
  show Fewer (writeTo a ((s : Int), cs) (many6 n))
  by_cases h0 : many6 n = 0
  · rw [h0]; exact .inl ha.none
  by_cases h6' : many6 n = 6
  · rw [h6']; exact .inl rfl
  · exact .inr ⟨s, cs, writeTo_is_mid a _ _ (by omega) (by omega), hs, hc4, hc8⟩

end Go.Proofs.YtjggiameajndgadGreatDoor

/-
  Rows of bytes' slices of the call's own, the bytes of each slice in a block of their own. What the program's array.ownCells returns, and what array.Own returns of an array without intents: no two cells share bytes.
-/
namespace Go.Proofs.YtjggiameajndgadGreatDoor
open Go.RowKit

theorem own_kb {w w' : World} {lo n : Nat} {u : Value} {xs : List Value} (h : w.ownsRow lo 5 1 u n xs) (hk : Kb w w') : w'.ownsRow lo 5 1 u n xs := by
  refine ⟨h.1, ?_⟩
  rcases h.2 with h2 | ⟨g, cap, cur, hv, hb, hh, hr⟩
  · exact .inl h2
  · exact .inr ⟨g, cap, cur, hv, hb, hk g cur hh, hr⟩

theorem own_low {w : World} {lo lo' n : Nat} {e : TypeId} {u : Value} {xs : List Value} (h : w.ownsRow lo e 1 u n xs) (hl : lo' ≤ lo) : w.ownsRow lo' e 1 u n xs :=
  ⟨h.1, h.2.imp id fun ⟨g, cap, cur, k1, k2, k3⟩ => ⟨g, cap, cur, k1, Nat.le_trans hl k2, k3⟩⟩

/-- A row in block b of these slices of bytes, that read as these, each in a block of its own, behind lo. -/
structure SRow (lo b : Nat) (ls : List (List Int)) (us : List Value) (w : World) : Prop where
  len : us.length = ls.length
  row : w.heap[b]? = some (.cells us.toArray 34 (0, 0))
  own : ∀ (i : Nat) u x, us[i]? = some u → ls[i]? = some x → w.ownsRow lo 5 1 u x.length (x.map (Value.int .u8)) ∧ Octets x
  apart : ∀ (i j : Nat) u v g, us[i]? = some u → us[j]? = some v → u.ownBlock = some g → v.ownBlock = some g → i = j

theorem SRow.drow {lo b : Nat} {ls : List (List Int)} {us : List Value} {w : World} (h : SRow lo b ls us w) : DRow b ls w :=
  ⟨us, h.len, h.row, fun i u x hu hx => Tb.own (h.own i u x hu hx).1 (h.own i u x hu hx).2⟩

theorem SRow.kept {lo b : Nat} {ls : List (List Int)} {us : List Value} {w w' : World} (h : SRow lo b ls us w) (hk : Kb w w') (hb : w'.heap[b]? = w.heap[b]?) : SRow lo b ls us w' :=
  ⟨h.len, hb.trans h.row, fun i u x hu hx => ⟨own_kb (h.own i u x hu hx).1 hk, (h.own i u x hu hx).2⟩, h.apart⟩

theorem SRow.grow {lo b : Nat} {ls : List (List Int)} {us : List Value} {w w' : World} (h : SRow lo b ls us w) (hg : Grow w w') : SRow lo b ls us w' := h.kept hg.kb (hg.block b h.drow.lt)

theorem SRow.low {lo lo' b : Nat} {ls : List (List Int)} {us : List Value} {w : World} (h : SRow lo b ls us w) (hl : lo' ≤ lo) : SRow lo' b ls us w :=
  ⟨h.len, h.row, fun i u x hu hx => ⟨own_low (h.own i u x hu hx).1 hl, (h.own i u x hu hx).2⟩, h.apart⟩

/-- Where a slice of the row lies. -/
theorem SRow.at {lo b : Nat} {ls : List (List Int)} {us : List Value} {w : World} (h : SRow lo b ls us w) {u : Value} {g : Nat} (hu : u ∈ us) (hg : u.ownBlock = some g) : lo ≤ g ∧ g < w.heap.size := by
  obtain ⟨i, hi, rfl⟩ := List.mem_iff_getElem.1 hu
  exact (h.own i us[i] (ls[i]'(by have := h.len; omega)) (by simp [hi]) (by simp [show i < ls.length by have := h.len; omega])).1.lt g hg

theorem kb_by {w w' : World} {g : Option Nat} (hg : ByT g w w') : ∀ (k : Nat) cs t, t ≠ 28 → w.heap[k]? = some (.cells cs t (0, 0)) → w'.heap[k]? = some (.cells cs t (0, 0)) := fun k cs t ht hk => by
  refine (hg.1.block k (heap_lt hk) (fun e => ?_)).trans hk
  obtain ⟨cur, hc⟩ := hg.2 k e.symm
  rw [hk] at hc
  injection hc with hc
  injection hc with _ hc _
  exact ht hc

theorem SRow.by {lo b : Nat} {ls : List (List Int)} {us : List Value} {w w' : World} {g : Option Nat} (h : SRow lo b ls us w) (hg : ByT g w w') : SRow lo b ls us w' :=
  h.kept (fun k cs hk => kb_by hg k cs _ (by decide) hk) ((kb_by hg b _ _ (by decide) h.row).trans h.row.symm)

theorem SRow.fill {lo b : Nat} {ls : List (List Int)} {us : List Value} {w0 w : World} (h : SRow lo b ls us w0) (hg : Grow w0 w) (k : Nat) {u : Value} {x : List Int} (hu : w.ownsRow w0.heap.size 5 1 u x.length (x.map (Value.int .u8))) (ho : Octets x) (hlo : lo ≤ w0.heap.size) :
    SRow lo b (ls.set k x) (us.set k u) (w.setCell ⟨b, k, none⟩ u) := by
  have h1 := h.grow hg
  have hkb := h1.drow.kbset k u
  have hold : ∀ (i : Nat) v g, us[i]? = some v → v.ownBlock = some g → g < w0.heap.size := fun i v g hv hb => (h.at (List.mem_of_getElem? hv) hb).2
  have hnew : ∀ g, u.ownBlock = some g → w0.heap.size ≤ g := fun g hb => (hu.lt g hb).1
  refine ⟨by simp [h.len], ?_, fun i q y hq hy => ?_, fun i j q v g hq hv hqg hvg => ?_⟩
  · rw [heap_setCell_same w b k _ _ _ h1.row]
    simp
  · by_cases hik : i = k
    · subst hik
      have hlt : i < us.length := by
        by_cases hlt : i < us.length
        · exact hlt
        · rw [List.getElem?_eq_none (by simp; omega)] at hq; cases hq
      rw [List.getElem?_set_self hlt] at hq
      rw [List.getElem?_set_self (by have := h.len; omega)] at hy
      cases hq
      cases hy
      exact ⟨own_low (own_kb hu hkb) hlo, ho⟩
    · rw [List.getElem?_set_ne (fun e => hik e.symm)] at hq hy
      exact ⟨own_kb (h1.own i q y hq hy).1 hkb, (h1.own i q y hq hy).2⟩
  · have hset : ∀ (i : Nat) q, (us.set k u)[i]? = some q → (i = k ∧ q = u) ∨ (i ≠ k ∧ us[i]? = some q) := fun i q hq => by
      by_cases hik : i = k
      · subst hik
        have hlt : i < us.length := by
          by_cases hlt : i < us.length
          · exact hlt
          · rw [List.getElem?_eq_none (by simp; omega)] at hq; cases hq
        rw [List.getElem?_set_self hlt] at hq
        exact .inl ⟨rfl, (Option.some.inj hq).symm⟩
      · rw [List.getElem?_set_ne (fun e => hik e.symm)] at hq
        exact .inr ⟨hik, hq⟩
    rcases hset i q hq with ⟨e1, e2⟩ | ⟨hi, hq'⟩
    · rcases hset j v hv with ⟨e3, e4⟩ | ⟨hj, hv'⟩
      · rw [e1, e3]
      · have := hold j v g hv' hvg
        have := hnew g (by rw [← e2]; exact hqg)
        omega
    · rcases hset j v hv with ⟨e3, e4⟩ | ⟨hj, hv'⟩
      · have := hold i q g hq' hqg
        have := hnew g (by rw [← e4]; exact hvg)
        omega
      · exact h.apart i j q v g hq' hv' hqg hvg

theorem SRow.made (w : World) (n : Nat) : SRow w.heap.size w.heap.size (List.replicate n []) (List.replicate n (.slice none 0 0)) (w.alloc (.cells (nilsN n) 34)) := by
  refine ⟨by simp, heap_alloc_new w _, fun i u x hu hx => ?_, fun i j u v g hu hv hug => ?_⟩
  · have h1 := List.mem_of_getElem? hu
    have h2 := List.mem_of_getElem? hx
    simp only [List.mem_replicate] at h1 h2
    rw [h1.2, h2.2]
    exact ⟨World.ownsRow_nil _ _ _ _, fun x hx => by simp at hx⟩
  · have h1 := List.mem_of_getElem? hu
    simp only [List.mem_replicate] at h1
    rw [h1.2] at hug
    cases hug

set_option maxRecDepth 20000 in
set_option maxHeartbeats 1600000 in
theorem ownCells_sep (v : Value) (ls : List (List Int)) (w : World) (h : Bss w v ls) (hn1 : 3 ≤ ls.length) (hn2 : ls.length ≤ 4) (h8 : ∀ b ∈ ls, b.length ≤ 8) :
    Calls Tryz.prog 44 #[v] w fun e w' => e = .returned (.slice (some ⟨w.heap.size, 0, none⟩) ls.length ls.length) ∧ (∃ us, SRow w.heap.size w.heap.size ls us w') ∧ Grow w w' := by
  obtain ⟨ao, cap, rfl, h1, h2, h3, h4⟩ := h
  unfold maxLen at h2
  obtain ⟨b, off, rfl, hc⟩ := h4 (by omega)
  have HK : Hid (∀ k, k < ls.length → ∃ ak nk ck, w.cell? ⟨b, off + k, none⟩ = some (.slice ak nk ck) ∧ Bs w (.slice ak nk ck) (ls.getD k [])) := fun k hk => by
    obtain ⟨ak, ck, hck, hbk⟩ := Sl.bytesAt hc (k := k) hk
    exact ⟨ak, _, ck, hck, hbk⟩
  have H8 : Hid (∀ k, (ls.getD k []).length ≤ 8) := fun k => by
    by_cases hk : k < ls.length
    · exact h8 _ (getD_mem hk)
    · rw [List.getD_eq_getElem?_getD, List.getElem?_eq_none (by omega)]; simp
  have hmk := Tryz.madeN w ls.length (by omega)
  have HF : Hid (SRow w.heap.size w.heap.size (fillTo ls 0) (List.replicate ls.length (.slice none 0 0)) (w.alloc (.cells (nilsN ls.length) 34))) := by rw [fillTo_zero]; exact SRow.made w _
  have HS : Hid (∀ k, k < ls.length → (fillTo ls k).set k (ls.getD k []) = fillTo ls (k + 1)) := fun k hk => fillTo_set ls hk
  have HL : Hid (∀ k, k ≤ ls.length → (fillTo ls k).length = ls.length) := fun k hk => fillTo_length ls hk
  have HE : Hid (fillTo ls ls.length = ls) := fillTo_all ls
  have hgA : Grow w (w.alloc (.cells (nilsN ls.length) 34)) := Grow.alloc _ _
  clear hc h4 h3 h8
  generalize ls.length = n at *
  go_enter Tryz.func44, Tryz.ntmps44
  go_wp2
  go_loopw [10] (fun i wr => ∃ (k : Nat) (us : List Value), k ≤ n ∧ i = .int .i64 k ∧ Hid (SRow w.heap.size w.heap.size (fillTo ls k) us wr) ∧ Grow w wr) (fun i _ => n - (intOf i).toNat)
  case atStart => exact ⟨0, _, by omega, rfl, HF, hgA⟩
  case round =>
    obtain ⟨k, us, hk, rfl, HR, hgr⟩ := hrel
    clear HF hmk hgA
    by_cases hlt : k < n
    · obtain ⟨ak, nk, ck, hck, hbk⟩ := HK.out k hlt
      have hoc := hbk.octets
      have hC := bytesClone_any (.slice ak nk ck) (ls.getD k []) wr (hbk.grow hgr) (by have := H8.out k; omega)
      have hck' := hgr.at hck
      clear hck hbk
      go_wp2_with fail
      refine hC.mono ?_
      rintro e w1 ⟨r, rfl, hr, hg1⟩
      have hTb := Tb.own hr hoc
      obtain ⟨ar, nr, cr, rfl⟩ := hTb.here.form
      have hR1 := HR.out.drow.grow hg1
      have hgr1 := hgr.trans hg1
      have hlen := HL.out k hk
      obtain ⟨⟨u0, hu0⟩, hf0⟩ := hR1.at (k := k) (by omega)
      have hR2 := HR.out.fill hg1 k hr hoc hgr.size
      rw [HS.out k hlt] at hR2
      have HR2 : Hid (SRow _ _ _ _ _) := hR2
      have hg2 := hgr1.set (k := k) (Nat.le_refl w.heap.size) (.slice ar nr cr)
      clear hC hr hTb HR hR1 hR2 hlen hoc
      go_wp2
      go_roundw
      case rel => first | exact ⟨k + 1, _, by omega, by go_num, HR2, hg2⟩ | ((repeat apply Exists.intro); exact ⟨⟨k + 1, _, by omega, by go_num, HR2, hg2⟩, rfl⟩)
      case measure => simp [intOf]; omega
    · have HN : Hid (k = n) := by rw [Hid]; omega
      have hno : ¬ ((k : Int) < (n : Int)) := by omega
      go_wp2
      go_ret
      refine ⟨rfl, ?_, hgr⟩
      have := HR.out
      rw [HN.out, HE.out] at this
      exact ⟨_, this⟩

/-- Disks whose rows' slices of bytes lie in blocks of their own: in row i these. -/
structure SDs (B : Nat) (bs : List Nat) (ds : List (List (List Int))) (U : Nat → List Value) (w : World) : Prop where
  rows : ∀ (i : Nat) b l, bs[i]? = some b → ds[i]? = some l → SRow B b l (U i) w
  apart : ∀ (i j : Nat) u v g, i < bs.length → j < bs.length → u ∈ U i → v ∈ U j → u.ownBlock = some g → v.ownBlock = some g → i = j

theorem SDs.nil (B : Nat) (U : Nat → List Value) (w : World) : SDs B [] [] U w := ⟨fun i b l hb => by simp at hb, fun i j u v g hi => by simp at hi⟩
theorem SDs.grow {B : Nat} {bs : List Nat} {ds : List (List (List Int))} {U : Nat → List Value} {w w' : World} (h : SDs B bs ds U w) (hg : Grow w w') : SDs B bs ds U w' := ⟨fun i b l hb hl => (h.rows i b l hb hl).grow hg, h.apart⟩
theorem SDs.k3 {B : Nat} {bs : List Nat} {ds : List (List (List Int))} {U : Nat → List Value} {w w' : World} (h : SDs B bs ds U w) (hk : K3 w w') : SDs B bs ds U w' :=
  ⟨fun i b l hb hl => (h.rows i b l hb hl).kept hk.kb ((hk b _ _ (.inr (.inl rfl)) (h.rows i b l hb hl).row).trans (h.rows i b l hb hl).row.symm), h.apart⟩
theorem SDs.by {B : Nat} {bs : List Nat} {ds : List (List (List Int))} {U : Nat → List Value} {w w' : World} {g : Option Nat} (h : SDs B bs ds U w) (hg : ByT g w w') : SDs B bs ds U w' := ⟨fun i b l hb hl => (h.rows i b l hb hl).by hg, h.apart⟩
theorem SDs.low {B B' : Nat} {bs : List Nat} {ds : List (List (List Int))} {U : Nat → List Value} {w : World} (h : SDs B bs ds U w) (hb : B' ≤ B) : SDs B' bs ds U w := ⟨fun i b l h1 h2 => (h.rows i b l h1 h2).low hb, h.apart⟩

/-- A row more: all that was there lay ahead of n. -/
theorem SDs.push {B n : Nat} {bs : List Nat} {ds : List (List (List Int))} {U : Nat → List Value} {w : World} {r : Nat} {l : List (List Int)} {us : List Value} (hlen : bs.length = ds.length) (h : SDs B bs ds U w) (hold : ∀ (i : Nat) u g, i < bs.length → u ∈ U i → u.ownBlock = some g → g < n) (hr : SRow n r l us w) (hB : B ≤ n) :
    SDs B (bs ++ [r]) (ds ++ [l]) (fun i => if i = bs.length then us else U i) w := by
  refine ⟨fun i b m hb hm => ?_, fun i j u v g hi hj hu hv hug hvg => ?_⟩
  · by_cases hi : i < bs.length
    · rw [List.getElem?_append_left hi] at hb
      rw [List.getElem?_append_left (by omega)] at hm
      have := h.rows i b m hb hm
      simpa only [if_neg (show i ≠ bs.length by omega)] using this
    · rw [List.getElem?_append_right (by omega)] at hb
      rw [List.getElem?_append_right (by omega)] at hm
      have h0 : i - bs.length = 0 := by
        by_cases h0 : i - bs.length = 0
        · exact h0
        · rw [List.getElem?_eq_none (by simp; omega)] at hb; cases hb
      rw [h0] at hb
      rw [← hlen, h0] at hm
      simp at hb hm
      subst hb hm
      have hi' : i = bs.length := by omega
      simpa only [if_pos hi'] using hr.low hB
  · simp only [List.length_append, List.length_singleton] at hi hj
    have hnew : ∀ u g, u ∈ us → u.ownBlock = some g → n ≤ g := fun u g hu hg => (hr.at hu hg).1
    by_cases h1 : i = bs.length
    · rw [if_pos h1] at hu
      by_cases h2 : j = bs.length
      · omega
      · rw [if_neg h2] at hv
        have := hold j v g (by omega) hv hvg
        have := hnew u g hu hug
        omega
    · rw [if_neg h1] at hu
      by_cases h2 : j = bs.length
      · rw [if_pos h2] at hv
        have := hold i u g (by omega) hu hug
        have := hnew v g hv hvg
        omega
      · rw [if_neg h2] at hv
        exact h.apart i j u v g (by omega) (by omega) hu hv hug hvg

/-- Where a slice of the rows lies. -/
theorem SDs.at {B : Nat} {bs : List Nat} {ds : List (List (List Int))} {U : Nat → List Value} {w : World} (h : SDs B bs ds U w) (hlen : bs.length = ds.length) {i : Nat} {u : Value} {g : Nat} (hi : i < bs.length) (hu : u ∈ U i) (hg : u.ownBlock = some g) : B ≤ g ∧ g < w.heap.size :=
  (h.rows i bs[i] (ds[i]'(by omega)) (by simp [hi]) (by simp [show i < ds.length by omega])).at hu hg

end Go.Proofs.YtjggiameajndgadGreatDoor
