import Derived.Lib.MinMax
import Derived.Lib.SlBytesConst
import Derived.Test.YtjggiameajndgacJoin23
/-
  Arrays in boxes of the call's own: a new box, and a box that gets another array.
-/
namespace Go.Proofs.Ytjggiameajndgac
open Go.RowKit

theorem heap_lt1 {w : World} {b : Nat} {o : Obj} (h : w.heap[b]? = some o) : b < w.heap.size := by
  by_cases hb : b < w.heap.size
  · exact hb
  · rw [Array.getElem?_eq_none (Nat.le_of_not_lt hb)] at h; cases h

theorem boxed {w1 : World} {x y : Value} {a : ArrP} (h : ArrV w1 (.agg #[x, y]) a) :
    ∃ W b, W = w1.alloc (.cells #[x, y] 26) ∧ b = w1.heap.size ∧ Grow w1 W ∧ Hid (W.heap[b]? = some (.cells #[x, y] 26 (0, 0))) ∧ W.cell? ⟨b, 0, none⟩ = some x ∧ W.cell? ⟨b, 1, none⟩ = some y ∧ Hid (ArrV W (.agg #[x, y]) a) :=
  ⟨_, _, rfl, rfl, Grow.alloc _ _, heap_alloc_new w1 _, two_at0 (heap_alloc_new w1 _), two_at1 (heap_alloc_new w1 _), h.grow (Grow.alloc _ _)⟩

/-- What a box is when it gets another array. -/
theorem reboxed {w6 : World} {b a1 a2 a4 a5 : Nat} {a0 a3 : Option Addr} {x y : Value} {a : ArrP} (hB : w6.heap[b]? = some (.cells #[.slice a0 a1 a2, .slice a3 a4 a5] 26 (0, 0))) (hv : ArrV w6 (.agg #[x, y]) a) (ha : Arr a) :
    ∃ W, W = (w6.setCell ⟨b, 0, none⟩ x).setCell ⟨b, 1, none⟩ y ∧ Hid (W.heap[b]? = some (.cells #[x, y] 26 (0, 0))) ∧ W.cell? ⟨b, 0, none⟩ = some x ∧ W.cell? ⟨b, 1, none⟩ = some y ∧ Hid (ArrV W (.agg #[x, y]) a) ∧
      w6.cell? ⟨b, 0, none⟩ = some (.slice a0 a1 a2) ∧ w6.cell? ⟨b, 1, none⟩ = some (.slice a3 a4 a5) ∧ w6.frozen? ⟨b, 0, none⟩ = false ∧ w6.frozen? ⟨b, 1, none⟩ = false ∧
      Hid ((∀ w0, Grow w0 w6 → w0.heap.size ≤ b → Grow w0 W) ∧ (∀ (c : Nat) o, c ≠ b → w6.heap[c]? = some o → W.heap[c]? = some o) ∧ (∀ v c, ArrV w6 v c → Arr c → ArrV W v c)) := by
  have hT : Two b w6 := ⟨_, _, _, _, _, _, _, hB⟩
  have hb := two_set1 (z := y) (two_set0 (z := x) hB)
  refine ⟨_, rfl, hb, two_at0 hb, two_at1 hb, hT.store hv ha.whole ha.fours x y, two_at0 hB, two_at1 hB, frozen_of_row w6 b 0 _ _ hB, frozen_of_row w6 b 1 _ _ hB, fun w0 hg h0 => (hg.set h0 x).set h0 y, fun c o hc ho => ?_, fun v c hv hc => hT.store hv hc.whole hc.fours x y⟩
  exact set_other (set_other ho hc) hc

/-- A cell of an array, as it lies. -/
theorem ArrV.cellOf {w : World} {p1 a2 : Option Addr} {n1 c1 n2 c2 : Nat} {a : ArrP} (h : ArrV w (.agg #[.slice p1 n1 c1, .slice a2 n2 c2]) a) (ha : Whole a) {d s : Nat} (hd : d < 4) (hs : s < 3) :
    n1 = 4 ∧ 4 ≤ c1 ∧ c1 ≤ 9223372036854775807 ∧ ∃ b off c' b' off' u' n' cc', p1 = some ⟨b, off, none⟩ ∧ w.cell? ⟨b, off + d, none⟩ = some (.slice (some ⟨b', off', none⟩) 3 c') ∧ w.cell? ⟨b', off' + s, none⟩ = some (.slice u' n' cc') ∧ Bs w (.slice u' n' cc') (cellAt a d s) ∧ 3 ≤ c' := by
  obtain ⟨dv, iv, e, h1, h2⟩ := h
  simp only [Value.agg.injEq] at e
  have e := congrArg Array.toList e
  simp at e
  obtain ⟨rfl, rfl⟩ := e
  obtain ⟨_, _, e1, g1, g2⟩ := h1.form'
  injection e1 with _ e2 e3
  have hn : n1 = 4 := by rw [e2, ha.1]
  subst hn
  obtain ⟨b, off, c', b', off', u', n', cc', hE, hc1, hc2, hb, h3c⟩ := ArrG.cell (g := none) (ad := p1) (cd := c1) (a := a) (w := w) (Sl.lift (fun _ _ h => Sl.lift (fun _ _ h => Off.plain Bs.stays h) h (Grow.refl _)) h1 (Grow.refl w)) ha hd hs
  exact ⟨rfl, by omega, by omega, b, off, c', b', off', u', n', cc', hE, hc1, hc2, hb.here, h3c⟩

/-- A byte of a slice of bytes, as it lies. -/
theorem Bs.byteOf {w : World} {u : Option Addr} {n c : Nat} {l : List Int} (h : Bs w (.slice u n c) l) {k : Nat} (hk : k < l.length) : n = l.length ∧ ∃ b off, u = some ⟨b, off, none⟩ ∧ w.cell? ⟨b, off + k, none⟩ = some (.int .u8 (l.getD k 0)) := by
  obtain ⟨_, _, e, -, -, -, -, h⟩ := h
  injection e with e1 e2 _
  obtain ⟨b, off, e3, hc⟩ := h (by omega)
  exact ⟨e2, b, off, e1.trans e3, hc k hk⟩

theorem Bs.lenOf {w : World} {u : Option Addr} {n c : Nat} {l : List Int} (h : Bs w (.slice u n c) l) : n = l.length := by
  obtain ⟨_, _, e, -⟩ := h
  injection e

/-- Bytes of a constant. -/
theorem Bs.lit1 {w : World} {e : TypeId} {l : List Int} (h : l.length ≤ maxLen) (ho : Octets l) (mk : Nat × Nat) : Bs (w.alloc (.cells (l.map (Value.int .u8)).toArray e mk)) (.slice (some ⟨w.heap.size, 0, none⟩) l.length l.length) l := by
  refine ⟨some ⟨w.heap.size, 0, none⟩, l.length, rfl, Nat.le_refl _, h, (fun h => nomatch h), ho, fun _ => ⟨w.heap.size, 0, rfl, fun i hi => ?_⟩⟩
  simp only [World.cell?, heap_alloc_new w]
  simp [hi, List.getD_eq_getElem?_getD]

theorem ArrV.lens {w : World} {p1 p2 : Option Addr} {n1 c1 n2 c2 : Nat} {a : ArrP} (h : ArrV w (.agg #[.slice p1 n1 c1, .slice p2 n2 c2]) a) (ha : Arr a) : n1 = 4 ∧ n2 = 0 := by
  obtain ⟨dv, iv, e, h1, h2⟩ := h
  simp only [Value.agg.injEq] at e
  have e := congrArg Array.toList e
  simp at e
  obtain ⟨rfl, rfl⟩ := e
  obtain ⟨_, _, e1, -⟩ := h1.form'
  obtain ⟨_, _, e2, -⟩ := h2.form
  injection e1 with _ e1 _
  injection e2 with _ e2 _
  rw [ha.whole.1] at e1
  rw [ha.none] at e2
  exact ⟨e1, e2⟩

/-- A step in a box of its own. -/
theorem stepBox {w : World} {x : StepP} {d1 : Option Addr} {d2 d3 : Nat} (hb : Bs w (.slice d1 d2 d3) x.d.d) (hm : x.n ≤ 9223372036854775807) :
    ∃ W b, W = w.alloc (.cells #[.int .i64 x.k, .int .i64 x.n, .int .i64 x.m, .int .i64 x.d.k, .int .i64 x.d.n, .int .i64 x.d.m, .slice d1 d2 d3] 56) ∧ b = w.heap.size ∧ Grow w W ∧ Hid (StepC W b 0 x (.slice d1 d2 d3)) := by
  refine ⟨_, _, rfl, rfl, Grow.alloc _ _, ?_⟩
  have h := heap_alloc_new w (.cells #[.int .i64 x.k, .int .i64 x.n, .int .i64 x.m, .int .i64 x.d.k, .int .i64 x.d.n, .int .i64 x.d.m, .slice d1 d2 d3] 56)
  exact ⟨row_at h 0 rfl, row_at h 1 rfl, row_at h 2 rfl, row_at h 3 rfl, row_at h 4 rfl, row_at h 5 rfl, row_at h 6 rfl, hb.grow (Grow.alloc _ _), hm⟩

/-- Numbers, as they lie. -/
theorem Sl.intAt {w : World} {ao : Option Addr} {n c : Nat} {xs : List Int} (h : Sl IntV w (.slice ao n c) xs) {k : Nat} (hk : k < xs.length) : ∃ b off, ao = some ⟨b, off, none⟩ ∧ w.cell? ⟨b, off + k, none⟩ = some (.int .i64 (xs.getD k 0)) := by
  obtain ⟨b, off, u, e, hu, hi⟩ := h.elem hk 0
  exact ⟨b, off, e, by rw [hu]; exact congrArg some hi⟩


/-- Four bytes. -/
def abcd : List Int := [97, 98, 99, 100]
theorem abcd_oct : Octets abcd := by intro x hx; simp [abcd] at hx; omega

end Go.Proofs.Ytjggiameajndgac

/-
  What the program's mend.Worst returns. Nothing old turns.
-/
namespace Go.Proofs.Ytjggiameajndgac
open Go.RowKit

set_option maxRecDepth 20000 in
set_option maxHeartbeats 1600000 in
theorem mendWorst_any (v : Value) (a : ArrP) (w : World) (h : ArrV w v a) (ha : Whole a) (h8 : ∀ d s, (cellAt a d s).length ≤ 8) :
    Calls Try.prog 19 #[v] w fun e w' => e = .returned (.int .i64 (worstN a)) ∧ Grow w w' := by
  have harr := h
  obtain ⟨a1, n1, c1, a2, n2, c2, rfl⟩ := h.form
  clear h
  have hgA : Grow w (w.alloc (.cells #[.slice a1 n1 c1, .slice a2 n2 c2] 26)) := Grow.alloc _ _
  have hbl := fun k => badN_le ha k
  go_enter Try.func19, Try.ntmps19
  go_wp2
  obtain ⟨w1, hw1⟩ : ∃ w1, w1 = w.alloc (.cells #[.slice a1 n1 c1, .slice a2 n2 c2] 26) := ⟨_, rfl⟩
  have k0 : w1.cell? ⟨w.heap.size, 0, none⟩ = some (.slice a1 n1 c1) := by rw [hw1]; simp
  have k1 : w1.cell? ⟨w.heap.size, 1, none⟩ = some (.slice a2 n2 c2) := by rw [hw1]; simp
  rw [← hw1] at hgA ⊢
  clear hw1
  go_loopw [3, 5] (fun m i wr => ∃ (k n : Nat), k ≤ 3 ∧ i = .int .i64 k ∧ m = .int .i64 n ∧ n ≤ 4 ∧ Hid (n = worstTo a k) ∧ Grow w1 wr) (fun _ i _ => 3 - (intOf i).toNat)
  case atStart => exact ⟨0, 0, by omega, rfl, rfl, by omega, rfl, Grow.refl _⟩
  case round =>
    obtain ⟨k, n, hk, rfl, rfl, hn4, HN, hgr⟩ := hrel
    by_cases hlt : k < 3
    · have c0 := hgr.at k0
      have c1 := hgr.at k1
      have hgw := hgA.trans hgr
      clear k0 k1
      go_wp2_with fail
      refine (stripeCells_row _ a k _ (harr.grow hgw) ha h8 hlt).mono ?_
      rintro e w2 ⟨rc, rfl, hrc, hg2⟩
      have hC := hrc.done
      obtain ⟨ac, cc, rfl⟩ := Sl.form hC
      go_wp2_with fail
      refine (stripeBad_any _ _ k _ hC (by rw [cellsL_length, ha.1]) hlt).mono ?_
      rintro e w3 ⟨rb, rfl, hrb, hg3⟩
      obtain ⟨ab, cb, rfl, hb1, hb2⟩ := hrb.form'
      have hlen : (ints (badL (cellsL a k) k)).length = badN a k := by simp [ints, badN]
      rw [hlen] at hb1 ⊢
      have hb4 := hbl k
      have hgr3 := (hgr.trans hg2).trans hg3
      have HS : Hid (worstTo a (k + 1) = if worstTo a k < badN a k then badN a k else worstTo a k) := rfl
      clear hrb hrc hC hlen hbl
      generalize badN a k = bn at *
      have HN' : Hid (max n bn = worstTo a (k + 1)) := by
        rw [Hid, HS.out, ← HN.out]
        split <;> omega
      have hmx : max (n : Int) (bn : Int) = ((max n bn : Nat) : Int) := by omega
      have hm4 : max n bn ≤ 4 := by omega
      go_wp2
      go_roundw
      case rel => first | exact ⟨k + 1, max n bn, by omega, by go_num, rfl, hm4, HN', hgr3⟩ | ((repeat apply Exists.intro); exact ⟨⟨k + 1, max n bn, by omega, by go_num, rfl, hm4, HN', hgr3⟩, rfl⟩)
      case measure => simp [intOf]; omega
    · obtain rfl : k = 3 := by omega
      go_wp2
      go_ret
      exact ⟨ret_int (by rw [HN.out]; rfl), hgA.trans hgr⟩

end Go.Proofs.Ytjggiameajndgac

/-
  What the closure that the program's may.walker answers returns: one step further, or the walk ends ahead of it. What is behind the step is in the boxes.
-/
namespace Go.Proofs.Ytjggiameajndgac
open Go.RowKit

/-- What does a step: play.Do. -/
abbrev doerV : Value := .func (.func 33) #[] #[]

theorem lists_nine {ls : List (List Int)} (h : ls.length = 9) (x : StepP) : ∀ l ∈ listsL ls x, l.length = 9 := by
  intro l hl
  unfold listsL at hl
  split at hl
  · split at hl
    · simp at hl; rw [hl, doL_length, h]
    · split at hl
      · simp at hl
        rcases hl with rfl | rfl
        · exact h
        · rw [doL_length, h]
      · simp at hl; rw [hl, h]
  · simp at hl; rw [hl, h]

theorem gentle_and {a : ArrP} {s : StepP} (h : gentleB a s = true) : againB a s = false ∧ worstN (stepA a s) ≤ 1 := by
  unfold gentleB at h
  simp at h
  exact h

set_option maxRecDepth 20000 in
set_option maxHeartbeats 6400000 in
theorem mayNext_yes (sv : Value) (x : StepP) (w wr : World) (A D H : Nat) (xv yv hv : Value) (a : ArrP) (E : Nat → List (List Int)) (h : MInv w A D H doerV xv yv hv a wr) (hI : Inv a E) (hs : StepV wr sv x) (hx : StpOk x)
    (hA : w.heap.size ≤ A) (hH : w.heap.size ≤ H) (hAD : D ≠ A) (hAH : H ≠ A) (hDH : D ≠ H) (hg : gentleB a x = true) :
    Calls Try.prog 103 #[sv, .pointer (some ⟨A, 0, none⟩), .pointer (some ⟨D, 0, none⟩), .pointer (some ⟨H, 0, none⟩)] wr fun e w' => e = .returned (.int .i64 0) ∧ ∃ x' y' hv', MInv w A D H doerV x' y' hv' (stepA a x) w' := by
  have HM : Hid (MInv w A D H doerV xv yv hv a wr) := h
  obtain ⟨⟨hA0, hD0, hH0⟩, ⟨hV, hB⟩, -⟩ := h
  obtain ⟨⟨a1, n1, c1, rfl⟩, a2, n2, c2, rfl⟩ := hV.form2
  obtain ⟨hrb, h9⟩ := hI.right
  obtain ⟨u1, u2, rfl⟩ := Sl.form hB
  rw [h9] at hB hH0 HM
  obtain ⟨dv, rfl, hbd, hmax⟩ := hs
  obtain ⟨d1, d2, d3, rfl⟩ := hbd.form
  obtain ⟨hag, hwo⟩ := gentle_and hg
  obtain ⟨hI2, hE2, hin⟩ := hI.gentle hx.1 hg
  have hArr2 := hI2.arr
  have h92 := hI2.right.2
  have hnine := lists_nine h9 x
  obtain ⟨W0, b0, hW0, hb0, hg0, HS⟩ := stepBox hbd hmax
  have hgS := Grow.alloc wr (.cells #[.int .i64 x.k, .int .i64 x.n, .int .i64 x.m, .int .i64 x.d.k, .int .i64 x.d.n, .int .i64 x.d.m, .slice d1 d2 d3] 56)
  have c0 := hgS.at (two_at0 hA0)
  have c1' := hgS.at (two_at1 hA0)
  have e0 := hg0.at (two_at0 hA0)
  have e1 := hg0.at (two_at1 hA0)
  have eD := hg0.at (cell_of_one hD0)
  have eH := hg0.at (cell_of_one hH0)
  have hR := mayRots_any (.agg #[.slice a1 n1 c1, .slice a2 n2 c2]) (.agg #[.int .i64 x.k, .int .i64 x.n, .int .i64 x.m, .int .i64 x.d.k, .int .i64 x.d.n, .int .i64 x.d.m, .slice d1 d2 d3]) a x W0 (hV.grow hg0) hI.arr ⟨_, rfl, hbd.grow hg0, hmax⟩ hx.2
  rw [hag] at hR
  have HV : Hid (ArrV W0 (.agg #[.slice a1 n1 c1, .slice a2 n2 c2]) a ∧ Arr a) := ⟨hV.grow hg0, hI.arr⟩
  have HB : Hid (Bss W0 (.slice u1 9 u2) (blkL a) ∧ rightBlocksB (blkL a) = true) := ⟨Bss.grow hB hg0, hrb⟩
  have HN : Hid (∀ l ∈ listsL (blkL a) x, l.length = 9) := hnine
  have HIN : Hid (blkL (stepA a x) ∈ listsL (blkL a) x) := hin
  have HA2 : Hid (Arr (stepA a x)) := hArr2
  have HE2 : Hid (blkE (stepA a x) = 0) := hE2
  have H92 : Hid ((blkL (stepA a x)).length = 9) := h92
  have HW : Hid (worstN (stepA a x) ≤ 1) := hwo
  have HF0 : Hid (Grow wr W0 ∧ (wr.heap[A]? = some (.cells #[.slice a1 n1 c1, .slice a2 n2 c2] 26 (0, 0)) ∧ wr.heap[H]? = some (.cells #[.slice u1 9 u2] 41 (0, 0)))) := ⟨hg0, hA0, hH0⟩
  have hmax' := hmax
  clear hA0 hD0 hH0 hV hB hbd hag hwo hI2 hE2 hin hArr2 h92 hnine hI hg hrb h9 hx hgS hmax
  go_enter Try.func103, Try.ntmps103
  go_wp2_with fail
  rw [← hW0, ← hb0]
  refine hR.mono ?_
  rintro e w1 ⟨rfl, hg1⟩
  clear hW0 hb0 hR c0 c1'
  have hst1 := HS.out.grow hg1
  have hDo := playDo_any (.agg #[.slice a1 n1 c1, .slice a2 n2 c2]) (.agg #[.int .i64 x.k, .int .i64 x.n, .int .i64 x.m, .int .i64 x.d.k, .int .i64 x.d.n, .int .i64 x.d.m, .slice d1 d2 d3]) a x w1 (HV.out.1.grow hg1) HV.out.2 ⟨_, rfl, hst1.2.2.2.2.2.2.2.1, hst1.2.2.2.2.2.2.2.2⟩
  obtain ⟨s0, s1, s2, s3, s4, s5, s6, -, -⟩ := hst1
  have r0 := hg1.at e0
  have r1 := hg1.at e1
  have rD := hg1.at eD
  have rH := hg1.at eH
  clear e0 e1 eD eH
  go_wp2_with fail
  refine hDo.mono ?_
  rintro e w2 ⟨r, rfl, hr, hg2⟩
  clear hDo s0 s1 s2 s3 s4 s5 s6 r0 r1 rD
  obtain ⟨p1, p2, p3, q1, q2, q3, rfl⟩ := hr.form
  have hgX := Grow.alloc w2 (.cells #[.slice p1 p2 p3, .slice q1 q2 q3] 26)
  obtain ⟨W3, hW3⟩ : ∃ W3, W3 = w2.alloc (.cells #[.slice p1 p2 p3, .slice q1 q2 q3] 26) := ⟨_, rfl⟩
  have hbX := heap_alloc_new w2 (.cells #[.slice p1 p2 p3, .slice q1 q2 q3] 26)
  rw [← hW3] at hgX hbX
  have HX : Hid (ArrV W3 (.agg #[.slice p1 p2 p3, .slice q1 q2 q3]) (stepA a x)) := hr.grow hgX
  have hg13 := (hg1.trans hg2).trans hgX
  have hWo := mendWorst_any _ (stepA a x) W3 HX.out HA2.out.whole HA2.out.short
  have x0 := two_at0 hbX
  have x1 := two_at1 hbX
  have tH := (hg2.trans hgX).at rH
  clear hr hgX hbX rH
  generalize worstN (stepA a x) = N at *
  have nb : ¬ 1 < (N : Int) := by have := HW.out; omega
  go_wp2_with fail
  rw [← hW3]
  clear hW3
  refine hWo.mono ?_
  rintro e w4 ⟨rfl, hg4⟩
  clear hWo
  have hBl := arrBlocks_any _ (stepA a x) w4 (HX.out.grow hg4) HA2.out.whole HA2.out.short
  rw [HE2.out] at hBl
  have y0 := hg4.at x0
  have y1 := hg4.at x1
  clear x0 x1
  go_wp2_with fail
  refine hBl.mono ?_
  rintro e w5 ⟨rb, rfl, hb5, hg5⟩
  clear hBl
  obtain ⟨f1, f2, rfl⟩ := Sl.form hb5
  rw [H92.out] at hb5 ⊢
  have hg15 := (hg13.trans hg4).trans hg5
  have hst5 := HS.out.grow hg15
  have hLi := mayLists_any (.slice u1 9 u2) (.agg #[.int .i64 x.k, .int .i64 x.n, .int .i64 x.m, .int .i64 x.d.k, .int .i64 x.d.n, .int .i64 x.d.m, .slice d1 d2 d3]) (blkL a) x w5 (Bss.grow HB.out.1 hg15) HB.out.2 ⟨_, rfl, hst5.2.2.2.2.2.2.2.1, hst5.2.2.2.2.2.2.2.2⟩
  obtain ⟨s0, s1, s2, s3, s4, s5, s6, -, -⟩ := hst5
  have z0 := hg5.at y0
  have z1 := hg5.at y1
  have zH := (hg4.trans hg5).at tH
  have HB5 : Hid (Bss w5 (.slice f1 9 f2) (blkL (stepA a x))) := hb5
  clear y0 y1 tH hb5
  go_wp2_with fail
  refine hLi.mono ?_
  rintro e w6 ⟨rl, rfl, hl6, hg6⟩
  clear hLi s0 s1 s2 s3 s4 s5 s6 zH
  have hOne := mayIsOne_any rl (.slice f1 9 f2) (listsL (blkL a) x) (blkL (stepA a x)) w6 hl6 HN.out (Bss.grow HB5.out hg6) H92.out HIN.out
  obtain ⟨l1, l2, rfl⟩ := Sl.form hl6
  have v0 := hg6.at z0
  have v1 := hg6.at z1
  clear z0 z1 hl6
  generalize (listsL (blkL a) x).length = nl at *
  go_wp2_with fail
  refine hOne.mono ?_
  rintro e w7 ⟨rfl, hg7⟩
  clear hOne
  have t0 := hg7.at v0
  have t1 := hg7.at v1
  have hg57 := hg6.trans hg7
  have hgAll := (HF0.out.1.trans hg15).trans hg57
  have HP := MInv.put HM.out hgAll (HX.out.grow ((hg4.trans hg5).trans hg57)) (Bss.grow HB5.out hg57) HA2.out H92.out hA hH hAD hAH hDH
  have HPH : Hid (MInv _ _ _ _ _ _ _ _ _ _) := HP
  have hA7 := hgAll.block' HF0.out.2.1
  have hH7 := hgAll.block' HF0.out.2.2
  have ga0 := two_at0 hA7
  have ga1 := two_at1 hA7
  have fa0 : w7.frozen? ⟨A, 0, none⟩ = false := frozen_of_row w7 _ 0 _ _ hA7
  have fa1 : w7.frozen? ⟨A, 1, none⟩ = false := frozen_of_row w7 _ 1 _ _ hA7
  have gh := cell_of_one hH7
  have fh := free_of_one hH7
  clear HP hA7 hH7 v0 v1 HM HF0 HX HB HV HB5 HIN HN
  go_wp2
  go_ret
  exact ⟨rfl, _, _, _, HPH.out⟩

set_option maxRecDepth 20000 in
set_option maxHeartbeats 6400000 in
theorem mayNext_no (sv : Value) (x : StepP) (w wr : World) (A D H : Nat) (xv yv hv : Value) (a : ArrP) (E : Nat → List (List Int)) (h : MInv w A D H doerV xv yv hv a wr) (hI : Inv a E) (hs : StepV wr sv x) (hx : StpOk x) (hg : gentleB a x = false) :
    Calls Try.prog 103 #[sv, .pointer (some ⟨A, 0, none⟩), .pointer (some ⟨D, 0, none⟩), .pointer (some ⟨H, 0, none⟩)] wr fun e w' => e = .returned (.int .i64 1) ∧ Grow w w' := by
  obtain ⟨⟨hA0, hD0, hH0⟩, ⟨hV, -⟩, hgr⟩ := h
  obtain ⟨⟨a1, n1, c1, rfl⟩, a2, n2, c2, rfl⟩ := hV.form2
  obtain ⟨dv, rfl, hbd, hmax⟩ := hs
  obtain ⟨d1, d2, d3, rfl⟩ := hbd.form
  obtain ⟨W0, b0, hW0, hb0, hg0, HS⟩ := stepBox hbd hmax
  have hgS := Grow.alloc wr (.cells #[.int .i64 x.k, .int .i64 x.n, .int .i64 x.m, .int .i64 x.d.k, .int .i64 x.d.n, .int .i64 x.d.m, .slice d1 d2 d3] 56)
  have c0 := hgS.at (two_at0 hA0)
  have c1' := hgS.at (two_at1 hA0)
  have e0 := hg0.at (two_at0 hA0)
  have e1 := hg0.at (two_at1 hA0)
  have eD := hg0.at (cell_of_one hD0)
  have hR := mayRots_any (.agg #[.slice a1 n1 c1, .slice a2 n2 c2]) (.agg #[.int .i64 x.k, .int .i64 x.n, .int .i64 x.m, .int .i64 x.d.k, .int .i64 x.d.n, .int .i64 x.d.m, .slice d1 d2 d3]) a x W0 (hV.grow hg0) hI.arr ⟨_, rfl, hbd.grow hg0, hmax⟩ hx.2
  have HV : Hid (ArrV W0 (.agg #[.slice a1 n1 c1, .slice a2 n2 c2]) a ∧ Arr a) := ⟨hV.grow hg0, hI.arr⟩
  have hgw0 := hgr.trans hg0
  have HG : Hid (gentleB a x = false) := hg
  clear hA0 hD0 hH0 hV hbd hI hg hx hgS hmax hgr
  cases hag : againB a x with
  | true =>
    rw [hag] at hR
    clear hag
    go_enter Try.func103, Try.ntmps103
    go_wp2_with fail
    rw [← hW0, ← hb0]
    refine hR.mono ?_
    rintro e w1 ⟨rfl, hg1⟩
    clear hW0 hb0 hR c0 c1' e0 e1 eD
    go_wp2
    go_ret
    exact ⟨rfl, hgw0.trans hg1⟩
  | false =>
    rw [hag] at hR
    have HW : Hid (1 < worstN (stepA a x)) := by
      have := HG.out
      unfold gentleB at this
      rw [hag] at this
      simp at this
      exact this
    have HA2 : Hid (Arr (stepA a x)) := stepA_arr HV.out.2 x
    clear hag
    go_enter Try.func103, Try.ntmps103
    go_wp2_with fail
    rw [← hW0, ← hb0]
    refine hR.mono ?_
    rintro e w1 ⟨rfl, hg1⟩
    clear hW0 hb0 hR c0 c1'
    have hst1 := HS.out.grow hg1
    have hDo := playDo_any (.agg #[.slice a1 n1 c1, .slice a2 n2 c2]) (.agg #[.int .i64 x.k, .int .i64 x.n, .int .i64 x.m, .int .i64 x.d.k, .int .i64 x.d.n, .int .i64 x.d.m, .slice d1 d2 d3]) a x w1 (HV.out.1.grow hg1) HV.out.2 ⟨_, rfl, hst1.2.2.2.2.2.2.2.1, hst1.2.2.2.2.2.2.2.2⟩
    obtain ⟨s0, s1, s2, s3, s4, s5, s6, -, -⟩ := hst1
    have r0 := hg1.at e0
    have r1 := hg1.at e1
    have rD := hg1.at eD
    clear e0 e1 eD
    go_wp2_with fail
    refine hDo.mono ?_
    rintro e w2 ⟨r, rfl, hr, hg2⟩
    clear hDo s0 s1 s2 s3 s4 s5 s6 r0 r1 rD
    obtain ⟨p1, p2, p3, q1, q2, q3, rfl⟩ := hr.form
    have hgX := Grow.alloc w2 (.cells #[.slice p1 p2 p3, .slice q1 q2 q3] 26)
    have hWo := mendWorst_any _ (stepA a x) _ (hr.grow hgX) HA2.out.whole HA2.out.short
    have hgAll := ((hgw0.trans hg1).trans hg2).trans hgX
    clear hr hgX
    generalize worstN (stepA a x) = N at *
    have nb : 1 < (N : Int) := by have := HW.out; omega
    go_wp2_with fail
    refine hWo.mono ?_
    rintro e w4 ⟨rfl, hg4⟩
    clear hWo
    go_wp2
    go_ret
    exact ⟨rfl, hgAll.trans hg4⟩

end Go.Proofs.Ytjggiameajndgac

/-
  What the program's may.Walk returns: how many steps are gentle, and true. Nothing old turns.
-/
namespace Go.Proofs.Ytjggiameajndgac
open Go.RowKit

set_option maxRecDepth 20000 in
set_option maxHeartbeats 3200000 in
theorem mayWalker_any (w : World) :
    Calls Try.prog 90 #[doerV] w fun e w' => ∃ A D H xv yv hv, e = .returned (.func (.func 103) #[] #[.pointer (some ⟨A, 0, none⟩), .pointer (some ⟨D, 0, none⟩), .pointer (some ⟨H, 0, none⟩)]) ∧ MInv w A D H doerV xv yv hv newP w' ∧
      w.heap.size ≤ A ∧ w.heap.size ≤ H ∧ D ≠ A ∧ H ≠ A ∧ D ≠ H := by
  have hmf : ∀ (fn : Fn) (first cap : Array Value) (w : World), (Instr.makeFunc fn first cap).run Try.prog w = .ok (.func fn first cap) w := fun _ _ _ _ => rfl
  have hg0 : Grow w (w.alloc (.cells #[doerV] 107)) := Grow.alloc _ _
  have hD0 := heap_alloc_new w (.cells #[doerV] 107)
  go_enter Try.func90, Try.ntmps90
  go_wp2_with fail
  refine (arrNew_any _).mono ?_
  rintro e w1 ⟨r, rfl, hr, hg1⟩
  obtain ⟨p1, p2, p3, q1, q2, q3, rfl⟩ := hr.form
  have hgX := Grow.alloc w1 (.cells #[.slice p1 p2 p3, .slice q1 q2 q3] 26)
  have hA1 := heap_alloc_new w1 (.cells #[.slice p1 p2 p3, .slice q1 q2 q3] 26)
  have hBl := arrBlocks_any _ newP _ (hr.grow hgX) newP_arr.whole newP_arr.short
  have HR : Hid (ArrV _ _ newP) := hr.grow hgX
  have hD1 := (hg1.trans hgX).block' hD0
  have hgw1 := (hg0.trans hg1).trans hgX
  have hlt : w.heap.size < w1.heap.size := by have := hg1.size; simp at this; omega
  have hs1 := hgX.size
  clear hr hgX hD0 hg0 hg1
  generalize blkE newP = E at *
  go_wp2_with fail
  refine hBl.mono ?_
  rintro e w3 ⟨rb, rfl, hb3, hg3⟩
  obtain ⟨f1, f2, rfl⟩ := Sl.form hb3
  have hgH := Grow.alloc w3 (.cells #[.slice f1 (blkL newP).length f2] 41)
  have hH3 := heap_alloc_new w3 (.cells #[.slice f1 (blkL newP).length f2] 41)
  have hs3 := hg3.size
  simp at hs1 hs3
  have HF : Hid (MInv w w1.heap.size w.heap.size w3.heap.size doerV (.slice p1 p2 p3) (.slice q1 q2 q3) (.slice f1 (blkL newP).length f2) newP (w3.alloc (.cells #[.slice f1 (blkL newP).length f2] 41)) ∧ w.heap.size ≤ w1.heap.size ∧ w.heap.size ≤ w3.heap.size ∧ w.heap.size ≠ w1.heap.size ∧ w3.heap.size ≠ w1.heap.size ∧ w.heap.size ≠ w3.heap.size) :=
    ⟨⟨⟨(hg3.trans hgH).block' hA1, (hg3.trans hgH).block' hD1, hH3⟩, ⟨HR.out.grow (hg3.trans hgH), Bss.grow hb3 hgH⟩, (hgw1.trans hg3).trans hgH⟩, by omega, by omega, by omega, by omega, by omega⟩
  clear hb3 hgH hH3 hBl HR hD1 hA1
  generalize (blkL newP).length = nb at *
  go_wp2
  go_ret
  exact ⟨_, _, _, _, _, _, rfl, HF.out⟩

set_option maxRecDepth 20000 in
set_option maxHeartbeats 3200000 in
theorem mayWalkDo_any (v : Value) (l : List StepP) (w : World) (h : Stps w v l) (ho : ∀ s ∈ l, StpOk s) :
    Calls Try.prog 67 #[v, doerV] w fun e w' => e = .returned (.tuple #[.int .i64 (gentleN newP l : Nat), .bool true]) ∧ Grow w w' := by
  obtain ⟨ao, cap, rfl, h1, h2, h3, h4⟩ := h
  unfold maxLen at h2
  have HO : Hid (∀ s ∈ l, StpOk s) := ho
  clear ho
  go_enter Try.func67, Try.ntmps67
  go_wp2_with fail
  refine (mayWalker_any w).mono ?_
  rintro e w1 ⟨A, D, H, xv, yv, hv, rfl, hM, hA, hH, hAD, hAH, hDH⟩
  have HM : Hid (MInv w A D H doerV xv yv hv newP w1) := hM
  have hg1 : Grow w w1 := hM.2.2
  clear hM
  go_wp2
  go_loopw [13] (fun i wr => ∃ (k : Nat) (x y z : Value) (a : ArrP), k ≤ l.length ∧ i = .int .i64 k ∧ Hid (gentleN a (l.drop k) + k = gentleN newP l) ∧ Hid (∃ E, Inv a E) ∧ Hid (MInv w A D H doerV x y z a wr)) (fun i _ => l.length - (intOf i).toNat)
  case atStart => exact ⟨0, _, _, _, newP, by omega, rfl, (by rw [Hid]; simp), ⟨_, newP_inv⟩, HM⟩
  case round =>
    obtain ⟨k, x, y, z, a, hk, rfl, HG, HI, HMr⟩ := hrel
    clear HM
    have hgr : Grow w wr := HMr.out.2.2
    by_cases hlt : k < l.length
    · obtain ⟨b, off, rfl, hc⟩ := h4 (by omega)
      obtain ⟨dv, hst⟩ := hc k l[k] (by simp [hlt])
      have HS : Hid (l.drop k = l[k] :: l.drop (k + 1)) := List.drop_eq_getElem_cons hlt
      have hok := HO.out l[k] (List.getElem_mem hlt)
      generalize l[k] = s at *
      have HG' : Hid (gentleN a (s :: l.drop (k + 1)) + k = gentleN newP l) := by rw [Hid, ← HS.out]; exact HG.out
      clear hc h4 HG HS
      obtain ⟨s0, s1, s2, s3, s4, s5, s6, s7, s8⟩ := hst.grow hgr
      obtain ⟨d1, d2, d3, rfl⟩ := s7.form
      have hgS := Grow.alloc wr (.cells #[.int .i64 s.k, .int .i64 s.n, .int .i64 s.m, .int .i64 s.d.k, .int .i64 s.d.n, .int .i64 s.d.m, .slice d1 d2 d3] 56)
      obtain ⟨E, hI⟩ := HI.out
      cases hgb : gentleB a s with
      | true =>
        have hcall := mayNext_yes (.agg #[.int .i64 s.k, .int .i64 s.n, .int .i64 s.m, .int .i64 s.d.k, .int .i64 s.d.n, .int .i64 s.d.m, .slice d1 d2 d3]) s w _ A D H x y z a E (HMr.out.grow hgS) hI ⟨_, rfl, s7.grow hgS, s8⟩ hok hA hH hAD hAH hDH hgb
        have HG1 : Hid (gentleN (stepA a s) (l.drop (k + 1)) + (k + 1) = gentleN newP l) := by
          have := HG'.out
          rw [gentleN_yes hgb] at this
          rw [Hid]
          omega
        have HI1 : Hid (∃ E, Inv (stepA a s) E) := ⟨_, hI.step hok.1 hgb⟩
        clear hI hok hgb HI HG' hst HMr s7 hgS
        go_wp2_with fail
        refine hcall.mono ?_
        rintro e w3 ⟨rfl, x', y', z', hM'⟩
        have HM' : Hid (MInv _ _ _ _ _ _ _ _ _ _) := hM'
        clear hcall hM' s0 s1 s2 s3 s4 s5 s6
        go_wp2
        go_roundw
        case rel => first | exact ⟨k + 1, _, _, _, _, by omega, by go_num, HG1, HI1, HM'⟩ | ((repeat apply Exists.intro); exact ⟨⟨k + 1, _, _, _, _, by omega, by go_num, HG1, HI1, HM'⟩, rfl⟩)
        case measure => simp [intOf]; omega
      | false =>
        have hcall := mayNext_no (.agg #[.int .i64 s.k, .int .i64 s.n, .int .i64 s.m, .int .i64 s.d.k, .int .i64 s.d.n, .int .i64 s.d.m, .slice d1 d2 d3]) s w _ A D H x y z a E (HMr.out.grow hgS) hI ⟨_, rfl, s7.grow hgS, s8⟩ hok hgb
        have HK : Hid (gentleN newP l = k) := by
          have := HG'.out
          rw [gentleN_no hgb] at this
          rw [Hid]
          omega
        clear hI hok hgb HI HG' hst HMr s7 hgS
        go_wp2_with fail
        refine hcall.mono ?_
        rintro e w3 ⟨rfl, hg3⟩
        clear hcall s0 s1 s2 s3 s4 s5 s6
        go_wp2
        go_ret2
        exact ⟨by rw [HK.out]; rfl, hg3⟩
    · have HK : Hid (gentleN newP l = l.length) := by
        have := HG.out
        rw [List.drop_eq_nil_of_le (by omega), gentleN] at this
        rw [Hid]
        omega
      go_wp2
      go_ret2
      exact ⟨by rw [HK.out]; rfl, hgr⟩

set_option maxRecDepth 20000 in
set_option maxHeartbeats 800000 in
theorem mayWalk_any (v : Value) (l : List StepP) (w : World) (h : Stps w v l) (ho : ∀ s ∈ l, StpOk s) :
    Calls Try.prog 39 #[v] w fun e w' => e = .returned (.tuple #[.int .i64 (gentleN newP l : Nat), .bool true]) ∧ Grow w w' := by
  have hcall := mayWalkDo_any v l w h ho
  obtain ⟨ao, cap, rfl, -⟩ := h
  generalize gentleN newP l = n at *
  generalize l.length = m at *
  go_enter Try.func39, Try.ntmps39
  go_wp2_with fail
  refine hcall.mono ?_
  rintro e w1 ⟨rfl, hg1⟩
  go_wp2
  go_ret2
  exact ⟨rfl, hg1⟩

end Go.Proofs.Ytjggiameajndgac

/-
  mhlaw12.alive returns true; nothing old turns.
-/
namespace Go.Proofs.Ytjggiameajndgac
open Go.RowKit

/-- What the closed fact is about. -/
def bl12 : List (List Int) := List.replicate 9 nought
def d12 : DeedP := ⟨1, 4, 0, abcd⟩
def s12 : StepP := ⟨2, 0, 0, d12⟩
def l12 : List StepP := [⟨1, 0, 0, d12⟩, ⟨4, 0, 0, ⟨0, 0, 0, []⟩⟩, ⟨4, 1, 0, ⟨0, 0, 0, []⟩⟩]
theorem bl12_right : rightBlocksB bl12 = true := by decide
theorem l12_lists : listsL bl12 s12 = [bl12, doL bl12 d12] := by kernel_rfl
theorem l12_four : (doL bl12 d12).getD 4 [] = abcd ∧ (doL bl12 d12).length = 9 := by constructor <;> kernel_rfl
theorem l12_walk : gentleN newP l12 = 2 := by kernel_rfl

/-- The steps, as they lie. -/
theorem l12_lies {W : World} {g : Nat} {v : Value} {t : TypeId} {mk : Nat × Nat} (hb : Bs W v abcd)
    (h : W.heap[g]? = some (.cells #[.int .i64 1, .int .i64 0, .int .i64 0, .int .i64 1, .int .i64 4, .int .i64 0, v, .int .i64 4, .int .i64 0, .int .i64 0, .int .i64 0, .int .i64 0, .int .i64 0, .slice none 0 0, .int .i64 4, .int .i64 1, .int .i64 0, .int .i64 0, .int .i64 0, .int .i64 0, .slice none 0 0] t mk)) :
    Stps W (.slice (some ⟨g, 0, none⟩) 3 3) l12 := by
  refine ⟨some ⟨g, 0, none⟩, 3, rfl, by simp [l12], by unfold maxLen; omega, (fun h => nomatch h), fun _ => ⟨g, 0, rfl, fun i s hs => ?_⟩⟩
  have hi : i < 3 := (List.getElem?_eq_some_iff.1 hs).1
  obtain rfl | rfl | rfl : i = 0 ∨ i = 1 ∨ i = 2 := by omega
  · injection hs with hs; subst hs
    exact ⟨v, row_at h 0 rfl, row_at h 1 rfl, row_at h 2 rfl, row_at h 3 rfl, row_at h 4 rfl, row_at h 5 rfl, row_at h 6 rfl, hb, by show (0 : Int) ≤ _; omega⟩
  · injection hs with hs; subst hs
    exact ⟨.slice none 0 0, row_at h 7 rfl, row_at h 8 rfl, row_at h 9 rfl, row_at h 10 rfl, row_at h 11 rfl, row_at h 12 rfl, row_at h 13 rfl, Bs.nil W, by show (0 : Int) ≤ _; omega⟩
  · injection hs with hs; subst hs
    exact ⟨.slice none 0 0, row_at h 14 rfl, row_at h 15 rfl, row_at h 16 rfl, row_at h 17 rfl, row_at h 18 rfl, row_at h 19 rfl, row_at h 20 rfl, Bs.nil W, by show (1 : Int) ≤ _; omega⟩

theorem l12_oct : ∀ s ∈ l12, StpOk s := by
  intro s hs
  simp only [l12, List.mem_cons, List.not_mem_nil, or_false] at hs
  rcases hs with rfl | rfl | rfl
  · exact ⟨abcd_oct, by show (-9223372036854775808 : Int) ≤ 0; omega⟩
  · exact ⟨fun x hx => by simp at hx, by show (-9223372036854775808 : Int) ≤ 0; omega⟩
  · exact ⟨fun x hx => by simp at hx, by show (-9223372036854775808 : Int) ≤ 1; omega⟩

set_option maxRecDepth 20000 in
set_option maxHeartbeats 6400000 in
theorem alive12_any (w : World) : Calls Try.prog 43 #[] w fun e w' => e = .returned (.bool true) ∧ Grow w w' := by
  have hcv := Lib.run_convert_bytes_const (P := Try.prog) w 52 5 #[.int .u8 97, .int .u8 98, .int .u8 99, .int .u8 100] 4 4 Try.underlying52 Try.underlying5
  obtain ⟨V, hV⟩ : ∃ V, V = (w.alloc (.cells #[.int .u8 97, .int .u8 98, .int .u8 99, .int .u8 100] 5 (4, 5))).alloc (.cells #[.int .i64 1, .int .i64 4, .int .i64 0, .slice (some ⟨w.heap.size, 0, none⟩) 4 4] 54) := ⟨_, rfl⟩
  have hgV : Grow w V := by rw [hV]; exact (Grow.alloc _ _).trans (Grow.alloc _ _)
  have HAB : Hid (Bs V (.slice (some ⟨w.heap.size, 0, none⟩) 4 4) abcd) := by
    have h1 : Bs (w.alloc (.cells (abcd.map (Value.int .u8)).toArray 5 (4, 5))) (.slice (some ⟨w.heap.size, 0, none⟩) 4 4) abcd := Bs.lit1 (l := abcd) (by unfold maxLen; simp [abcd]) abcd_oct _
    rw [Hid, hV]
    exact h1.grow (Grow.alloc _ _)
  have hB : V.heap[w.heap.size + 1]? = some (.cells #[.int .i64 1, .int .i64 4, .int .i64 0, .slice (some ⟨w.heap.size, 0, none⟩) 4 4] 54 (0, 0)) := by rw [hV]; exact heap_alloc2_new w _ _
  have q0 : V.cell? ⟨w.heap.size + 1, 0, none⟩ = some (.int .i64 1) := row_at hB 0 rfl
  have q1 : V.cell? ⟨w.heap.size + 1, 1, none⟩ = some (.int .i64 4) := row_at hB 1 rfl
  have q2 : V.cell? ⟨w.heap.size + 1, 2, none⟩ = some (.int .i64 0) := row_at hB 2 rfl
  have q3 : V.cell? ⟨w.heap.size + 1, 3, none⟩ = some (.slice (some ⟨w.heap.size, 0, none⟩) 4 4) := row_at hB 3 rfl
  clear hB
  go_enter Try.func43, Try.ntmps43
  go_wp2
  rw [← hV]
  clear hV hcv
  refine wp_region_stable Grow [BssP bl12, IsV (.agg #[.int .i64 1, .int .i64 4, .int .i64 0, .slice (some ⟨w.heap.size, 0, none⟩) 4 4]), IsV (.agg #[.int .i64 2, .int .i64 0, .int .i64 0, .int .i64 1, .int .i64 4, .int .i64 0, .slice (some ⟨w.heap.size, 0, none⟩) 4 4]), DksP [bl12, doL bl12 d12], DksP [bl12, doL bl12 d12]] (by kernel_rfl) (by kernel_rfl) rfl Grow.refl (fun _ _ _ => Grow.trans) ?_ ?_ ?_
  · repeat (refine List.forall_mem_cons.2 ⟨by first | exact IsV.stable _ | exact BssP.stable _ | exact DksP.stable _, ?_⟩)
    exact fun R hR => nomatch hR
  · skip
    refine StepsS.cons ?_ fun v0 => ⟨_, _, by simp only [Act.put, List.setIfInBounds_toArray, List.set_cons_succ, List.set_cons_zero]; first | done | rfl, by simp only [List.nil_append]; first | done | rfl, ?_⟩
    · intro w1 hE hd
      clear hd
      go_wp2_with fail
      refine (refNew_any _).mono ?_
      rintro e w4 ⟨r', rfl, hr', hg4⟩
      have hr' := hr'.done
      go_wp2_with fail
      exact ⟨_, rfl, hg4, hr'⟩
    refine StepsS.cons ?_ fun v1 => ⟨_, _, by simp only [Act.put, List.setIfInBounds_toArray, List.set_cons_succ, List.set_cons_zero]; first | done | rfl, by simp only [List.nil_append, List.cons_append]; first | done | rfl, ?_⟩
    · intro w1 hE hd
      clear hd
      have p0 := hE.drew.at q0
      have p1 := hE.drew.at q1
      have p2 := hE.drew.at q2
      have p3 := hE.drew.at q3
      go_wp2
      exact ⟨_, rfl, Grow.refl _, rfl⟩
    refine StepsS.cons ?_ fun v2 => ⟨_, _, by simp only [Act.put, List.setIfInBounds_toArray, List.set_cons_succ, List.set_cons_zero]; first | done | rfl, by simp only [List.nil_append, List.cons_append]; first | done | rfl, ?_⟩
    · intro w1 hE hd
      obtain rfl := IsV.eq (dep_at hd 0 rfl rfl rfl)
      clear hd
      go_wp2
      exact ⟨_, rfl, Grow.refl _, rfl⟩
    refine StepsS.cons ?_ fun v3 => ⟨_, _, by simp only [Act.put, List.setIfInBounds_toArray, List.set_cons_succ, List.set_cons_zero]; first | done | rfl, by simp only [List.nil_append, List.cons_append]; first | done | rfl, ?_⟩
    · intro w1 hE hd
      have d0 := dep_at hd 0 rfl rfl rfl
      obtain rfl := IsV.eq (dep_at hd 1 rfl rfl rfl)
      clear hd
      have hc := mayLists_any _ (.agg #[.int .i64 2, .int .i64 0, .int .i64 0, .int .i64 1, .int .i64 4, .int .i64 0, .slice (some ⟨w.heap.size, 0, none⟩) 4 4]) bl12 s12 w1 d0 bl12_right ⟨_, rfl, HAB.out.grow hE.drew, by show (0 : Int) ≤ _; omega⟩
      rw [l12_lists] at hc
      go_wp2_with fail
      refine hc.mono ?_
      rintro e w4 ⟨r', rfl, hr', hg4⟩
      go_wp2_with fail
      exact ⟨_, rfl, hg4, hr'⟩
    refine StepsS.cons ?_ fun v4 => ⟨_, _, by simp only [Act.put, List.setIfInBounds_toArray, List.set_cons_succ, List.set_cons_zero]; first | done | rfl, by simp only [List.nil_append, List.cons_append]; first | done | rfl, ?_⟩
    · intro w1 hE hd
      have d3 := dep_at hd 0 rfl rfl rfl
      clear hd
      go_wp2
      exact ⟨_, rfl, Grow.refl _, d3⟩
    trivial
  intro w2 hw2
  refine FinS.cons fun v0 h0 => ⟨_, by simp only [Act.put, List.setIfInBounds_toArray, List.set_cons_succ, List.set_cons_zero]; first | done | rfl, ?_⟩
  refine FinS.cons ?_; rintro _ rfl; refine ⟨_, by simp only [Act.put, List.setIfInBounds_toArray, List.set_cons_succ, List.set_cons_zero]; first | done | rfl, ?_⟩
  refine FinS.cons ?_; rintro _ rfl; refine ⟨_, by simp only [Act.put, List.setIfInBounds_toArray, List.set_cons_succ, List.set_cons_zero]; first | done | rfl, ?_⟩
  refine FinS.cons fun v3 h3 => ⟨_, by simp only [Act.put, List.setIfInBounds_toArray, List.set_cons_succ, List.set_cons_zero]; first | done | rfl, ?_⟩
  refine FinS.cons fun v4 h4 => ⟨_, by simp only [Act.put, List.setIfInBounds_toArray, List.set_cons_succ, List.set_cons_zero]; first | done | rfl, ?_⟩
  first | show Exit.then _ _ _ _ _ | show Exit.inBlock _ _ _ _ _
  have hg2 := hw2.drew
  have r0 := hg2.at q0
  have r1 := hg2.at q1
  have r2 := hg2.at q2
  have r3 := hg2.at q3
  have HL : Hid (Dks w2 v4 [bl12, doL bl12 d12]) := h4
  obtain ⟨p1, p2, rfl⟩ := HL.out.form
  have HAB2 : Hid (Bs w2 (.slice (some ⟨w.heap.size, 0, none⟩) 4 4) abcd) := HAB.out.grow hg2
  have hgw2 := hgV.trans hg2
  clear h0 h3 h4 q0 q1 q2 q3 HAB hgV hw2 hg2
  obtain ⟨W3, hW3⟩ : ∃ W3, W3 = w2.alloc (.cells #[.int .i64 1, .int .i64 0, .int .i64 0, .int .i64 1, .int .i64 4, .int .i64 0, .slice (some ⟨w.heap.size, 0, none⟩) 4 4, .int .i64 4, .int .i64 0, .int .i64 0, .int .i64 0, .int .i64 0, .int .i64 0, .slice none 0 0, .int .i64 4, .int .i64 1, .int .i64 0, .int .i64 0, .int .i64 0, .int .i64 0, .slice none 0 0] 56) := ⟨_, rfl⟩
  have hg3 : Grow w2 W3 := by rw [hW3]; exact Grow.alloc _ _
  have hst : Stps W3 (.slice (some ⟨w2.heap.size, 0, none⟩) 3 3) l12 := l12_lies (t := 56) (mk := (0, 0)) (HAB2.out.grow hg3) (by rw [hW3]; exact heap_alloc_new w2 _)
  have hWk := mayWalk_any _ l12 W3 hst l12_oct
  rw [l12_walk] at hWk
  clear hst HAB2
  go_wp2_with fail
  rw [← hW3]
  refine hWk.mono ?_
  rintro e w4 ⟨rfl, hg4⟩
  clear hWk hW3 r0 r1 r2 r3
  have hg24 := hg3.trans hg4
  have HL4 : Hid (Dks w4 (.slice p1 2 p2) [bl12, doL bl12 d12]) := Dks.stays _ _ _ _ HL.out hg24
  obtain ⟨b, off, a', c', rfl, hc1, hs1⟩ := HL4.out.elems (k := 1) (by simp)
  have hs1 : Bss w4 (.slice a' 9 c') (doL bl12 d12) := hs1
  have hc1 : w4.cell? ⟨b, off + 1, none⟩ = some (.slice a' 9 c') := hc1
  obtain ⟨b2, off2, u4, rfl, hu4, hr4⟩ := hs1.elem (k := 4) (by rw [l12_four.2]; omega) []
  rw [l12_four.1] at hr4
  obtain ⟨o1, o2, o3, rfl⟩ := hr4.form
  have cv := run_convert_bs (P := Try.prog) 52 5 9 Try.underlying52 Try.underlying5 Try.underlying9 hr4
  rw [show strOfNums abcd = ⟨#[97, 98, 99, 100]⟩ from rfl] at cv
  clear hr4 hs1 HL HL4 hg3 hg4
  go_wp2
  go_ret
  exact ⟨rfl, hgw2.trans hg24⟩

end Go.Proofs.Ytjggiameajndgac

/-
  As StableOne, with a tie: what the special operation (number s) leaves is said of the yield of an operation that it waits for (number p).
-/
namespace Go.Proofs.Ytjggiameajndgac
open Go.RowKit

/-- Each operation, in the order of the text; number k says Z, of the yield of number p, too. -/
def StepsZ (Z : Value → World → Prop) (p : Nat) (P : Program) (ops : Array Oper) (w0 : World) : Nat → List Oper → List ((World → World → Prop) × (World → World → Prop)) → List (Value → World → Prop) → List ((Value → World → Prop) × Value) → Act → Prop
  | 0, o :: rest, (G, E) :: Es, R :: Rs, done, a => (∀ w, G w0 w → depFacts done w o.after.toList → ∀ vp, done[p]?.map (·.2) = some vp → wpList P ops (SQ E a o.dst w (fun v w' => R v w' ∧ Z vp w')) [o] a w) ∧ ∀ v, StepsT P ops w0 rest Es Rs (done ++ [(R, v)]) (a.put o.dst v)
  | k + 1, o :: rest, (G, E) :: Es, R :: Rs, done, a => (∀ w, G w0 w → depFacts done w o.after.toList → wpList P ops (SQ E a o.dst w R) [o] a w) ∧ ∀ v, StepsZ Z p P ops w0 k rest Es Rs (done ++ [(R, v)]) (a.put o.dst v)
  | _, _, _, _, _, _ => True

theorem StepsZ.cons {Z : Value → World → Prop} {p k : Nat} {G E : World → World → Prop} {P : Program} {ops : Array Oper} {w0 : World} {o : Oper} {rest : List Oper} {Es : List ((World → World → Prop) × (World → World → Prop))} {R : Value → World → Prop} {Rs : List (Value → World → Prop)} {done : List ((Value → World → Prop) × Value)} {a : Act}
    (h1 : ∀ w, G w0 w → depFacts done w o.after.toList → wpList P ops (SQ E a o.dst w R) [o] a w) (h2 : ∀ v, ∃ a' d', a.put o.dst v = a' ∧ done ++ [(R, v)] = d' ∧ StepsZ Z p P ops w0 k rest Es Rs d' a') : StepsZ Z p P ops w0 (k + 1) (o :: rest) ((G, E) :: Es) (R :: Rs) done a :=
  ⟨h1, fun v => by obtain ⟨a', d', rfl, rfl, h⟩ := h2 v; exact h⟩
theorem StepsZ.here {Z : Value → World → Prop} {p : Nat} {G E : World → World → Prop} {P : Program} {ops : Array Oper} {w0 : World} {o : Oper} {rest : List Oper} {Es : List ((World → World → Prop) × (World → World → Prop))} {R : Value → World → Prop} {Rs : List (Value → World → Prop)} {done : List ((Value → World → Prop) × Value)} {a : Act} (vp : Value) (hvp : done[p]?.map (·.2) = some vp)
    (h1 : ∀ w, G w0 w → depFacts done w o.after.toList → wpList P ops (SQ E a o.dst w (fun v w' => R v w' ∧ Z vp w')) [o] a w) (h2 : ∀ v, ∃ a' d', a.put o.dst v = a' ∧ done ++ [(R, v)] = d' ∧ StepsT P ops w0 rest Es Rs d' a') : StepsZ Z p P ops w0 0 (o :: rest) ((G, E) :: Es) (R :: Rs) done a :=
  ⟨fun w hG hd vp' hv => by rw [hvp] at hv; obtain rfl := Option.some.inj hv; exact h1 w hG hd, fun v => by obtain ⟨a', d', rfl, rfl, h⟩ := h2 v; exact h⟩

theorem wpList_one_mono {P : Program} {ops : Array Oper} {o : Oper} {a : Act} {w : World} {Q Q' : Exit → Act → World → Prop} (hK : ∀ x a' w', Q x a' w' → Q' x a' w') (h : wpList P ops Q [o] a w) : wpList P ops Q' [o] a w := by
  unfold wpList at *
  split
  · rename_i hwt
    rw [if_pos hwt] at h
    rcases h with h | h
    · refine .inl ?_
      unfold Oper.wp at *
      generalize (execOp a.eval o).run P w = r at *
      cases r with
      | ok n w' =>
        cases n <;> simp only [Oper.upon] at h ⊢
        case value u => exact hK _ _ _ h
        case skip => exact hK _ _ _ h
        case defer d => exact hK _ _ _ h
        case enter f args =>
          refine Calls.mono h fun e w'' hh => ?_
          cases e with
          | returned u => exact hK _ _ _ hh
          | panicked c => exact hK _ _ _ hh
          | outgrown => obtain ⟨a', w', hf⟩ := (show LetsOut _ from hh); exact (show LetsOut _ from ⟨a', w', hK _ _ _ hf⟩)
        case row row args => exact Rows.mono h fun u w'' hh => hK _ _ _ hh
      | halt x w' =>
        cases x <;> simp only [Oper.upon] at h ⊢
        case panic u => exact hK _ _ _ h
    · obtain ⟨h1, a', w', hf⟩ := h
      exact .inr ⟨h1, a', w', hK _ _ _ hf⟩
  · rename_i hwt
    rw [if_neg hwt] at h
    exact hK _ _ _ h

/-- A post that is sharper. -/
theorem SQ.mono {E : World → World → Prop} {P : Program} {ops : Array Oper} {o : Oper} {a a0 : Act} {w : World} {R R' : Value → World → Prop} (h : ∀ v w', R v w' → R' v w') (hw : wpList P ops (SQ E a0 o.dst w R) [o] a w) : wpList P ops (SQ E a0 o.dst w R') [o] a w := by
  refine wpList_one_mono ?_ hw
  intro x a' w' hq
  cases x <;> first | exact hq | (obtain ⟨v, h1, h2, h3⟩ := hq; exact ⟨v, h1, h2, h _ _ h3⟩)

theorem stepsZ_at {Z : Value → World → Prop} {p : Nat} {P : Program} {ops : Array Oper} {w0 : World} : ∀ (s i : Nat) (l : List Oper) (Es : List ((World → World → Prop) × (World → World → Prop))) (Rs : List (Value → World → Prop)) (done : List ((Value → World → Prop) × Value)) (a : Act) (vs : Nat → Value) (o : Oper) (E : (World → World → Prop) × (World → World → Prop)) (R : Value → World → Prop) (w : World),
    StepsZ Z p P ops w0 s l Es Rs done a → l[i]? = some o → Es[i]? = some E → Rs[i]? = some R → E.1 w0 w → depFacts (done ++ zipDone Rs vs i) w o.after.toList → (∀ vp, i = s → (done ++ zipDone Rs vs i)[p]?.map (·.2) = some vp → wpList P ops (SQ E.2 (lexP l vs i a) o.dst w (fun v w' => R v w' ∧ Z vp w')) [o] (lexP l vs i a) w) ∧ (i ≠ s → wpList P ops (SQ E.2 (lexP l vs i a) o.dst w R) [o] (lexP l vs i a) w)
  | _, _, [], _, _, _, _, _, _, _, _, _, _, h, _, _, _, _ => by simp at h
  | _, _, _ :: _, [], _, _, _, _, _, _, _, _, _, _, h, _, _, _ => by simp at h
  | _, _, _ :: _, _ :: _, [], _, _, _, _, _, _, _, _, _, _, h, _, _ => by simp at h
  | 0, 0, o :: l, E :: Es, R :: Rs, done, a, vs, o', E', R', w, hs, h1, he, h2, hE, hd => by
    simp at h1 h2 he
    subst h1 h2 he
    simp [zipDone] at hd
    exact ⟨fun vp _ hp => hs.1 w hE hd vp (by simpa [zipDone] using hp), fun h => absurd rfl h⟩
  | 0, i + 1, o :: l, E :: Es, R :: Rs, done, a, vs, o', E', R', w, hs, h1, he, h2, hE, hd =>
    ⟨fun vp h => by omega, fun _ => stepsT_at i l Es Rs (done ++ [(R, vs 0)]) (a.put o.dst (vs 0)) (fun j => vs (j + 1)) o' E' R' w (hs.2 (vs 0)) (by simpa using h1) (by simpa using he) (by simpa using h2) hE (by simpa [zipDone] using hd)⟩
  | s + 1, 0, o :: l, E :: Es, R :: Rs, done, a, vs, o', E', R', w, hs, h1, he, h2, hE, hd => by
    simp at h1 h2 he
    subst h1 h2 he
    simp [zipDone] at hd
    exact ⟨fun vp h => by omega, fun _ => hs.1 w hE hd⟩
  | s + 1, i + 1, o :: l, E :: Es, R :: Rs, done, a, vs, o', E', R', w, hs, h1, he, h2, hE, hd => by
    have := stepsZ_at s i l Es Rs (done ++ [(R, vs 0)]) (a.put o.dst (vs 0)) (fun j => vs (j + 1)) o' E' R' w (hs.2 (vs 0)) (by simpa using h1) (by simpa using he) (by simpa using h2) hE (by simpa [zipDone] using hd)
    exact ⟨fun vp h hp => this.1 vp (by omega) (by simpa [zipDone] using hp), fun h => this.2 (by omega)⟩

theorem zipDone_some : ∀ (Rs : List (Value → World → Prop)) (vs : Nat → Value) (i j : Nat), j < i → i ≤ Rs.length → (zipDone Rs vs i)[j]?.map (·.2) = some (vs j)
  | [], _, i, _, h, h' => by simp at h'; omega
  | _ :: _, _, 0, _, h, _ => by omega
  | _ :: _, _, i + 1, 0, _, _ => by simp [zipDone]
  | _ :: Rs, vs, i + 1, j + 1, h, h' => by
    have := zipDone_some Rs (fun k => vs (k + 1)) i j (by omega) (by simpa using h')
    simpa [zipDone] using this

/-- Number s waits for number p. -/
def depB (l : List Oper) (s p : Nat) : Bool := match l[s]? with | some o => o.after.any fun e => Region.binds .any e && e.on == p | none => false

/-- Number p yields just zp. -/
def linked (Rs : List (Value → World → Prop)) (p : Nat) (zp : Value) : List (Value → World → Prop) := Rs.modify p (fun R v w => R v w ∧ v = zp)

section
variable {E T F : World → World → Prop} {P : Program} {Q : Exit → Act → World → Prop} {l : List Oper} {Rs : List (Value → World → Prop)} {a0 : Act} {w0 : World} {z : Oper} {s p : Nat} {Z : Value → World → Prop}

theorem stepsZ_all {ops : Array Oper} (i : Nat) (l : List Oper) (Es : List ((World → World → Prop) × (World → World → Prop))) (Rs : List (Value → World → Prop)) (a : Act) (vs : Nat → Value) (o : Oper) (E : (World → World → Prop) × (World → World → Prop)) (R : Value → World → Prop) (w : World) (hps : p < s) (hsl : s ≤ Rs.length)
    (h : StepsZ Z p P ops w0 s l Es Rs [] a) (h1 : l[i]? = some o) (h2 : Es[i]? = some E) (h3 : Rs[i]? = some R) (h4 : E.1 w0 w) (h5 : depFacts ([] ++ zipDone Rs vs i) w o.after.toList) : wpList P ops (SQ E.2 (lexP l vs i a) o.dst w (fun v w' => R v w' ∧ (i = s → Z (vs p) w'))) [o] (lexP l vs i a) w := by
  have := stepsZ_at s i l Es Rs [] a vs o E R w h h1 h2 h3 h4 h5
  by_cases his : i = s
  · subst his
    refine SQ.mono (fun v w' hv => ⟨hv.1, fun _ => hv.2⟩) (this.1 (vs p) rfl ?_)
    rw [List.nil_append]
    exact zipDone_some Rs vs i p hps hsl
  · exact SQ.mono (fun v w' hv => ⟨hv, fun e => absurd e his⟩) (this.2 his)

theorem InvS.dep {M : World → World → Prop} {listed : Array Bool} {a : Act} {w : World} {vs : Nat → Value} (h : InvS M l Rs a0 w0 listed a w vs) (hd : depB l s p = true) (hsl : s < l.length) (hs : listed.getD s false = true) : listed.getD p false = true := by
  unfold depB at hd
  rw [List.getElem?_eq_getElem hsl] at hd
  simp only at hd
  rw [Array.any_eq_true] at hd
  obtain ⟨i, hi, hb⟩ := hd
  simp at hb
  have := h.closed s _ (List.getElem?_eq_getElem hsl) hs l[s].after[i] (by simp) hb.1
  rwa [hb.2] at this

theorem all_doneZ {listed : Array Bool} {a : Act} {w : World} {vs : Nat → Value} (hB : stableB l = true) (hlen : Rs.length = l.length) (h : InvS (Mv E F s listed) l Rs a0 w0 listed a w vs) (_hsl : s < l.length) (hall : ∀ i, i < l.length → listed.getD i false = true) (hz : Z (vs p) w)
    (hfin : ∀ zp w', F w0 w' → Z zp w' → FinS Q w' l (linked Rs p zp) a0) : Q .normal a w := by
  have h' : InvS (fun x y => x = w0 ∧ y = w) l (linked Rs p (vs p)) a0 w0 listed a w vs := ⟨h.size, ⟨rfl, rfl⟩, h.shape, fun i R hi hR => by
    unfold linked at hR
    by_cases hip : p = i
    · subst hip
      rw [List.getElem?_modify_eq] at hR
      cases hr : Rs[p]? with
      | none => rw [hr] at hR; cases hR
      | some R0 =>
        rw [hr] at hR
        obtain rfl := Option.some.inj hR
        exact ⟨h.holds p R0 hi hr, rfl⟩
    · rw [List.getElem?_modify] at hR
      simp only [hip, if_false, id_map'] at hR
      exact h.holds i R hi hR, h.closed⟩
  exact h'.all_done hB (by simp [linked, hlen]) (fun w' hw' => by rw [hw'.2]; exact hfin _ _ h.moved.1 hz) hall

theorem wpAny_oneZ (hps : p < s) (hsl : s < l.length) (hdep : depB l s p = true) (hstZ : ∀ v x y, Z v x → E x y → Z v y) (hB : stableB l = true) (hlen : Rs.length = l.length) (htr : ∀ x y z, E x y → E y z → E x z) (htr1 : ∀ x y, F w0 x → E x y → F w0 y) (htr2 : ∀ x y, F w0 x → T x y → F w0 y) (hst : ∀ R ∈ Rs, ∀ v x y, R v x → E x y → R v y) (hst2 : allBut (fun R => ∀ v x y, R v x → T x y → R v y) s Rs)
    (hsteps : StepsZ Z p P l.toArray w0 s l (onePairs E T F s l.length) Rs [] a0) (hfin : ∀ zp w', F w0 w' → Z zp w' → FinS Q w' l (linked Rs p zp) a0) :
    ∀ (fuel : Nat) (listed : Array Bool) (a : Act) (w : World) (vs : Nat → Value), listed.toList.count false = fuel → (listed.getD s false = true → Z (vs p) w) → InvS (Mv E F s listed) l Rs a0 w0 listed a w vs → wpAny P .any l.toArray Q fuel listed a w := by
  intro fuel
  induction fuel with
  | zero =>
    intro listed a w vs hc hzz h
    have hall : ∀ i, i < l.length → listed.getD i false = true := by
      intro i hi
      have hi' : i < listed.size := by rw [h.size]; exact hi
      have hnm := List.count_eq_zero.1 hc
      refine getD_true_of hi' fun hu => hnm ?_
      have : listed[i] = false := by simpa [hi'] using hu
      rw [← this]
      simp
    refine ⟨?_, all_doneZ hB hlen h hsl hall (hzz (hall s hsl)) hfin⟩
    apply List.eq_nil_iff_forall_not_mem.2
    intro j hj
    obtain ⟨hu, o, ho, _⟩ := mem_ready.1 hj
    have hjl : j < l.length := by
      have := (Array.getElem?_eq_some_iff.1 ho).1
      simpa using this
    have := hall j hjl
    rw [getD_false_true hu] at this
    cases this
  | succ fuel ih =>
    intro listed a w vs hc hzz h
    refine ⟨fun hr => all_doneZ hB hlen h hsl (h.ready_nil hB hr) (hzz (h.ready_nil hB hr s hsl)) hfin, fun i hi => ?_⟩
    obtain ⟨hu, o, ho', hall⟩ := mem_ready.1 hi
    have ho : l[i]? = some o := by simpa using ho'
    have hil : i < l.length := (List.getElem?_eq_some_iff.1 ho).1
    obtain ⟨E1, hE1⟩ : ∃ E1, (onePairs E T F s l.length)[i]? = some E1 := ⟨(onePairs E T F s l.length)[i]'(by simp [onePairs]; omega), by simp [onePairs, hil]⟩
    obtain ⟨R, hR⟩ : ∃ R, Rs[i]? = some R := ⟨Rs[i]'(by omega), by simp [show i < Rs.length by omega]⟩
    have hsp := stableB_spec hB ho
    have hd : depFacts ([] ++ zipDone Rs vs i) w o.after.toList := depFacts_of _ fun e he hb x hx => by
      have hz := zipDone_get Rs vs i e.on x (by simpa using hx)
      rw [hz.2]
      exact h.holds e.on x.1 (hall e (by simpa using he) hb) hz.1
    have hw : wpList P l.toArray (SQ E1.2 (lexP l vs i a0) o.dst w (fun v w' => R v w' ∧ (i = s → Z (vs p) w'))) [o] (lexP l vs i a0) w := stepsZ_all i l _ Rs a0 vs o E1 R w hps (by omega) hsteps ho hE1 hR (one_pre hE1 (getD_false_true hu) h.moved) hd
    have hag := h.agree hB ho hu hall
    have hdst : dstAt l i = o.dst := by simp [dstAt, ho]
    refine wpOp_of_SQ ho' ?_ (execOp_agree o hsp.1 _ _ hag) (wanted_agree o _ _ hag) hw ?_
    · rw [h.shape.size, (lexP_sh l (apart_of hB) vs a0 i (by omega)).size]
    · rintro v w' hE ⟨hRv, hZv⟩
      have hui := getD_false_true hu
      have hsz : i < listed.size := by rw [h.size]; exact hil
      have hset : ∀ j, (listed.setIfInBounds i true).getD j false = true ↔ listed.getD j false = true ∨ j = i := by
        intro j
        by_cases hij : i = j
        · subst hij; simp [hsz]
        · rw [getD_set_ne false hij]
          constructor
          · exact .inl
          · rintro (h1 | h1)
            · exact h1
            · exact absurd h1.symm hij
      refine ih _ _ _ (fun j => if j = i then v else vs j) ?_ ?_ ⟨by simp [h.size], one_tr htr htr1 htr2 hE1 hsz h.moved hE, ?_, ?_, ?_⟩
      · have hli : listed.toList[i]'(by simpa using hsz) = false := by
          have : listed[i] = false := by simpa [hsz] using hu
          simpa using this
        rw [Array.toList_setIfInBounds, List.count, List.countP_set (by simpa using hsz)]
        rw [List.count] at hc
        rw [hc, hli, if_pos (by rfl), if_neg (by decide)]
        omega
      · intro hls
        rcases (hset s).1 hls with hls' | his
        · have hsi : s ≠ i := fun e => by rw [e, hui] at hls'; cases hls'
          have hpl := h.dep hdep hsl hls'
          have hpi : p ≠ i := fun e => by rw [e, hui] at hpl; cases hpl
          simp only [hpi, if_false]
          rcases oneE hE1 with ⟨e, -⟩ | ⟨_, rfl⟩
          · exact absurd e.symm hsi
          · exact hstZ _ _ _ (hzz hls') hE
        · have hpi : p ≠ i := by omega
          simp only [hpi, if_false]
          exact hZv his.symm
      · rw [← hdst]
        refine h.shape.put (apart_of hB) i (by rw [hui]; simp) hset v (fun j hj => ?_) (by simp)
        have hji : j ≠ i := fun e => by rw [e, hui] at hj; cases hj
        simp [hji]
      · intro j R' hj hR'
        rcases (hset j).1 hj with hj' | rfl
        · have hji : j ≠ i := fun e => by rw [e, hui] at hj'; cases hj'
          simp only [hji, if_false]
          exact one_st hst hst2 hji hE1 hR' _ _ _ (h.holds j R' hj' hR') hE
        · rw [hR] at hR'
          obtain rfl := Option.some.inj hR'
          simpa using hRv
      · intro j p hp hj e he hb
        rcases (hset j).1 hj with hj' | rfl
        · exact (hset e.on).2 (.inl (h.closed j p hp hj' e he hb))
        · rw [ho] at hp
          obtain rfl := Option.some.inj hp
          exact (hset e.on).2 (.inl (hall e he hb))

/-- The law: a region that draws its order. -/
theorem wp_region_oneZ {id : Nat} {w : World} (s p : Nat) (Z : Value → World → Prop) (hps : p < s) (hsl : s < l.length) (hdep : depB l s p = true) (E T F : World → World → Prop) (Es : List ((World → World → Prop) × (World → World → Prop))) (Rs : List (Value → World → Prop)) (hEs : onePairs E T F s l.length = Es) (hm : P.follows .mixedOrders = true) (hB : stableB l = true) (hlen : Rs.length = l.length)
    (hrefl0 : ∀ x, E x x) (htr : ∀ x y z, E x y → E y z → E x z) (hrefl : F { w with drawn := w.drawn + 1 } { w with drawn := w.drawn + 1 }) (htr1 : ∀ x y, F { w with drawn := w.drawn + 1 } x → E x y → F { w with drawn := w.drawn + 1 } y) (htr2 : ∀ x y, F { w with drawn := w.drawn + 1 } x → T x y → F { w with drawn := w.drawn + 1 } y)
    (hst : ∀ R ∈ Rs, ∀ v x y, R v x → E x y → R v y) (hst2 : allBut (fun R => ∀ v x y, R v x → T x y → R v y) s Rs)
    (hstZ : ∀ v x y, Z v x → E x y → Z v y) (hsteps : StepsZ Z p P l.toArray { w with drawn := w.drawn + 1 } s l Es Rs [] a0) (hfin : ∀ zp w', F { w with drawn := w.drawn + 1 } w' → Z zp w' → FinS Q w' l (linked Rs p zp) a0) : (Code.region id l.toArray true).wp P Q a0 w := by
  subst hEs
  refine wp_region_any hm ?_
  refine wpAny_oneZ hps hsl hdep hstZ hB hlen htr htr1 htr2 hst hst2 hsteps hfin _ _ _ _ (fun _ => undef) (by simp) (fun hs => by rw [replicate_getD] at hs; cases hs) ⟨by simp, ⟨hrefl, fun _ => hrefl0 _⟩, ⟨rfl, rfl, fun _ _ => rfl, fun j t hj => ?_⟩, fun i R hi => ?_, fun j o _ hj => ?_⟩
  · rw [replicate_getD] at hj; cases hj
  · rw [replicate_getD] at hi; cases hi
  · rw [replicate_getD] at hj; cases hj

end

end Go.Proofs.Ytjggiameajndgac
