import Derived.ProofKit
import Derived.OpenShut
import Derived.Deep.Slices
import Derived.Test.YtjggiameajndgacJoin17
/-
  Same of an array and itself; same of blocks and themselves.
-/
namespace Go.Proofs.Ytjggiameajndgac
open Go.RowKit

theorem same6_self (va vb : Value) (a : ArrP) (w : World) (ha : ArrV w va a) (hb : ArrV w vb a) : Calls Try.prog 18 #[va, vb] w fun e w' => e = .returned (.bool true) ∧ Grow w w' := by
  have := refSame6_any va vb a a w ha hb
  rwa [sameB_iff.2 rfl] at this

theorem refSame_self (v u : Value) (a : List (List Int)) (w : World) (h : Bss w v a) (g : Bss w u a) : Calls Try.prog 25 #[v, u] w fun e w' => e = .returned (.bool true) ∧ Grow w w' := by
  have := refSame_any v u a a w h g
  rwa [show (a == a) = true from by simp] at this

end Go.Proofs.Ytjggiameajndgac

/-
  Arrays in boxes of the call's own: a new box, and a box that gets another array.
-/
namespace Go.Proofs.Ytjggiameajndgac
open Go.RowKit

theorem heap_lt1 {w : World} {b : Nat} {o : Obj} (h : w.heap[b]? = some o) : b < w.heap.size := by
  by_cases hb : b < w.heap.size
  · exact hb
  · rw [Array.getElem?_eq_none (Nat.le_of_not_lt hb)] at h; cases h

theorem boxed {w1 : World} {x y : Value} {a : ArrP} (h : ArrV w1 (.agg #[x, y]) a) :
    ∃ W b, W = w1.alloc (.cells #[x, y] 26) ∧ b = w1.heap.size ∧ Grow w1 W ∧ Hid (W.heap[b]? = some (.cells #[x, y] 26 (0, 0))) ∧ W.cell? ⟨b, 0, none⟩ = some x ∧ W.cell? ⟨b, 1, none⟩ = some y ∧ Hid (ArrV W (.agg #[x, y]) a) :=
  ⟨_, _, rfl, rfl, Grow.alloc _ _, heap_alloc_new w1 _, two_at0 (heap_alloc_new w1 _), two_at1 (heap_alloc_new w1 _), h.grow (Grow.alloc _ _)⟩

/-- What a box is when it gets another array. -/
theorem reboxed {w6 : World} {b a1 a2 a4 a5 : Nat} {a0 a3 : Option Addr} {x y : Value} {a : ArrP} (hB : w6.heap[b]? = some (.cells #[.slice a0 a1 a2, .slice a3 a4 a5] 26 (0, 0))) (hv : ArrV w6 (.agg #[x, y]) a) (ha : Arr a) :
    ∃ W, W = (w6.setCell ⟨b, 0, none⟩ x).setCell ⟨b, 1, none⟩ y ∧ Hid (W.heap[b]? = some (.cells #[x, y] 26 (0, 0))) ∧ W.cell? ⟨b, 0, none⟩ = some x ∧ W.cell? ⟨b, 1, none⟩ = some y ∧ Hid (ArrV W (.agg #[x, y]) a) ∧
      w6.cell? ⟨b, 0, none⟩ = some (.slice a0 a1 a2) ∧ w6.cell? ⟨b, 1, none⟩ = some (.slice a3 a4 a5) ∧ w6.frozen? ⟨b, 0, none⟩ = false ∧ w6.frozen? ⟨b, 1, none⟩ = false ∧
      Hid ((∀ w0, Grow w0 w6 → w0.heap.size ≤ b → Grow w0 W) ∧ (∀ (c : Nat) o, c ≠ b → w6.heap[c]? = some o → W.heap[c]? = some o) ∧ (∀ v c, ArrV w6 v c → Arr c → ArrV W v c)) := by
  have hT : Two b w6 := ⟨_, _, _, _, _, _, _, hB⟩
  have hb := two_set1 (z := y) (two_set0 (z := x) hB)
  refine ⟨_, rfl, hb, two_at0 hb, two_at1 hb, hT.store hv ha.whole ha.fours x y, two_at0 hB, two_at1 hB, frozen_of_row w6 b 0 _ _ hB, frozen_of_row w6 b 1 _ _ hB, fun w0 hg h0 => (hg.set h0 x).set h0 y, fun c o hc ho => ?_, fun v c hv hc => hT.store hv hc.whole hc.fours x y⟩
  exact set_other (set_other ho hc) hc

/-- A cell of an array, as it lies. -/
theorem ArrV.cellOf {w : World} {p1 a2 : Option Addr} {n1 c1 n2 c2 : Nat} {a : ArrP} (h : ArrV w (.agg #[.slice p1 n1 c1, .slice a2 n2 c2]) a) (ha : Whole a) {d s : Nat} (hd : d < 4) (hs : s < 3) :
    n1 = 4 ∧ 4 ≤ c1 ∧ c1 ≤ 9223372036854775807 ∧ ∃ b off c' b' off' u' n' cc', p1 = some ⟨b, off, none⟩ ∧ w.cell? ⟨b, off + d, none⟩ = some (.slice (some ⟨b', off', none⟩) 3 c') ∧ w.cell? ⟨b', off' + s, none⟩ = some (.slice u' n' cc') ∧ Bs w (.slice u' n' cc') (cellAt a d s) ∧ 3 ≤ c' := by
  obtain ⟨dv, iv, e, h1, h2⟩ := h
  simp only [Value.agg.injEq] at e
  have e := congrArg Array.toList e
  simp at e
  obtain ⟨rfl, rfl⟩ := e
  obtain ⟨_, _, e1, g1, g2⟩ := h1.form'
  injection e1 with _ e2 e3
  have hn : n1 = 4 := by rw [e2, ha.1]
  subst hn
  obtain ⟨b, off, c', b', off', u', n', cc', hE, hc1, hc2, hb, h3c⟩ := ArrG.cell (g := none) (ad := p1) (cd := c1) (a := a) (w := w) (Sl.lift (fun _ _ h => Sl.lift (fun _ _ h => Off.plain Bs.stays h) h (Grow.refl _)) h1 (Grow.refl w)) ha hd hs
  exact ⟨rfl, by omega, by omega, b, off, c', b', off', u', n', cc', hE, hc1, hc2, hb.here, h3c⟩

/-- A byte of a slice of bytes, as it lies. -/
theorem Bs.byteOf {w : World} {u : Option Addr} {n c : Nat} {l : List Int} (h : Bs w (.slice u n c) l) {k : Nat} (hk : k < l.length) : n = l.length ∧ ∃ b off, u = some ⟨b, off, none⟩ ∧ w.cell? ⟨b, off + k, none⟩ = some (.int .u8 (l.getD k 0)) := by
  obtain ⟨_, _, e, -, -, -, -, h⟩ := h
  injection e with e1 e2 _
  obtain ⟨b, off, e3, hc⟩ := h (by omega)
  exact ⟨e2, b, off, e1.trans e3, hc k hk⟩

theorem Bs.lenOf {w : World} {u : Option Addr} {n c : Nat} {l : List Int} (h : Bs w (.slice u n c) l) : n = l.length := by
  obtain ⟨_, _, e, -⟩ := h
  injection e

/-- Bytes of a constant. -/
theorem Bs.lit1 {w : World} {e : TypeId} {l : List Int} (h : l.length ≤ maxLen) (ho : Octets l) (mk : Nat × Nat) : Bs (w.alloc (.cells (l.map (Value.int .u8)).toArray e mk)) (.slice (some ⟨w.heap.size, 0, none⟩) l.length l.length) l := by
  refine ⟨some ⟨w.heap.size, 0, none⟩, l.length, rfl, Nat.le_refl _, h, (fun h => nomatch h), ho, fun _ => ⟨w.heap.size, 0, rfl, fun i hi => ?_⟩⟩
  simp only [World.cell?, heap_alloc_new w]
  simp [hi, List.getD_eq_getElem?_getD]

theorem ArrV.lens {w : World} {p1 p2 : Option Addr} {n1 c1 n2 c2 : Nat} {a : ArrP} (h : ArrV w (.agg #[.slice p1 n1 c1, .slice p2 n2 c2]) a) (ha : Arr a) : n1 = 4 ∧ n2 = 0 := by
  obtain ⟨dv, iv, e, h1, h2⟩ := h
  simp only [Value.agg.injEq] at e
  have e := congrArg Array.toList e
  simp at e
  obtain ⟨rfl, rfl⟩ := e
  obtain ⟨_, _, e1, -⟩ := h1.form'
  obtain ⟨_, _, e2, -⟩ := h2.form
  injection e1 with _ e1 _
  injection e2 with _ e2 _
  rw [ha.whole.1] at e1
  rw [ha.none] at e2
  exact ⟨e1, e2⟩

/-- A step in a box of its own. -/
theorem stepBox {w : World} {x : StepP} {d1 : Option Addr} {d2 d3 : Nat} (hb : Bs w (.slice d1 d2 d3) x.d.d) (hm : x.n ≤ 9223372036854775807) :
    ∃ W b, W = w.alloc (.cells #[.int .i64 x.k, .int .i64 x.n, .int .i64 x.m, .int .i64 x.d.k, .int .i64 x.d.n, .int .i64 x.d.m, .slice d1 d2 d3] 56) ∧ b = w.heap.size ∧ Grow w W ∧ Hid (StepC W b 0 x (.slice d1 d2 d3)) := by
  refine ⟨_, _, rfl, rfl, Grow.alloc _ _, ?_⟩
  have h := heap_alloc_new w (.cells #[.int .i64 x.k, .int .i64 x.n, .int .i64 x.m, .int .i64 x.d.k, .int .i64 x.d.n, .int .i64 x.d.m, .slice d1 d2 d3] 56)
  exact ⟨row_at h 0 rfl, row_at h 1 rfl, row_at h 2 rfl, row_at h 3 rfl, row_at h 4 rfl, row_at h 5 rfl, row_at h 6 rfl, hb.grow (Grow.alloc _ _), hm⟩

/-- Numbers, as they lie. -/
theorem Sl.intAt {w : World} {ao : Option Addr} {n c : Nat} {xs : List Int} (h : Sl IntV w (.slice ao n c) xs) {k : Nat} (hk : k < xs.length) : ∃ b off, ao = some ⟨b, off, none⟩ ∧ w.cell? ⟨b, off + k, none⟩ = some (.int .i64 (xs.getD k 0)) := by
  obtain ⟨b, off, u, e, hu, hi⟩ := h.elem hk 0
  exact ⟨b, off, e, by rw [hu]; exact congrArg some hi⟩


/-- Four bytes. -/
def abcd : List Int := [97, 98, 99, 100]
theorem abcd_oct : Octets abcd := by intro x hx; simp [abcd] at hx; omega

end Go.Proofs.Ytjggiameajndgac

/-
  mhlaw10.HarmTells returns true, whatever it is handed; nothing old turns.
-/
namespace Go.Proofs.Ytjggiameajndgac
open Go.RowKit

set_option maxRecDepth 20000 in
set_option maxHeartbeats 3200000 in
theorem harmTells_walk (v : Value) (l : List StepP) (d s k : Int) (w : World) (h : Stps w v l) :
    Calls Try.prog 6 #[v, .int .i64 d, .int .i64 s, .int .i64 k] w fun e w' => e = .returned (.bool true) ∧ Grow w w' := by
  have hA : Arr (playL l) := playTo_arr l _
  go_enter Try.func6, Try.ntmps6
  go_wp2_with fail
  refine (refPlay_any v l w h).mono ?_
  rintro e w2 ⟨ra, es, rfl, hra, -, hg2⟩
  obtain ⟨a1, n1, c1, a2, n2, c2, rfl⟩ := hra.form
  generalize playL l = a at *
  have HA : Hid (Arr a ∧ Arr (rotL a d s k) ∧ Arr (goneL a d)) := ⟨hA, rotL_arr hA d s k, goneL_arr hA d⟩
  clear h
  obtain ⟨W2, b1, hW2, hb1, hgA, HB1, k0, k1, HV⟩ := boxed hra
  have hgw2 := hg2.trans hgA
  have Hk : Hid (W2.cell? ⟨b1, 0, none⟩ = some (.slice a1 n1 c1) ∧ W2.cell? ⟨b1, 1, none⟩ = some (.slice a2 n2 c2) ∧ w.heap.size ≤ W2.heap.size) := ⟨k0, k1, hgw2.size⟩
  have hRo := harmRot_any (.agg #[.slice a1 n1 c1, .slice a2 n2 c2]) a d s k W2 HV.out hA
  have hRr := fun w' hg => refRot_any (.agg #[.slice a1 n1 c1, .slice a2 n2 c2]) a d s k w' (HV.out.grow hg) hA.whole hA.fours (fun d s => by have := hA.short d s; omega)
  have hGo := fun w' hg => harmGone_any (.agg #[.slice a1 n1 c1, .slice a2 n2 c2]) a d w' (HV.out.grow hg) hA
  have hGr := fun w' hg => refGone_any (.agg #[.slice a1 n1 c1, .slice a2 n2 c2]) a d w' (HV.out.grow hg) hA.whole hA.fours
  have HGo : Hid (∀ w', Grow W2 w' → Calls Try.prog 29 #[.agg #[.slice a1 n1 c1, .slice a2 n2 c2], .int .i64 d] w' fun e w'' => ∃ r, e = .returned (.tuple #[r, .int .i64 (goneE d)]) ∧ ArrV w'' r (goneL a d) ∧ Grow w' w'') := hGo
  have HGr : Hid (∀ w', Grow W2 w' → Calls Try.prog 30 #[.agg #[.slice a1 n1 c1, .slice a2 n2 c2], .int .i64 d] w' fun e w'' => ∃ r, e = .returned (.tuple #[r, .int .i64 (goneE d)]) ∧ ArrV w'' r (goneL a d) ∧ Grow w' w'') := hGr
  generalize rotE a d s k = E at *
  generalize goneE d = F at *
  clear hra hgA hg2 hA hGo hGr
  subst hW2
  go_wp2_with fail
  rw [← hb1]
  refine hRo.mono ?_
  rintro e w3 ⟨r3, rfl, hr3, hg3⟩
  clear hRo hb1
  generalize w2.alloc (.cells #[.slice a1 n1 c1, .slice a2 n2 c2] 26) = W2 at *
  obtain ⟨x1, x2, x3, y1, y2, y3, rfl⟩ := hr3.form
  obtain ⟨W3, b3, hW3, hb3, hgB, HB3, m0, m1, HX⟩ := boxed hr3
  have hg23 := hg3.trans hgB
  have j0 := hg23.at k0
  have j1 := hg23.at k1
  have hR := hRr _ hg23
  have Hb3 : Hid (W2.heap.size ≤ b3) := by rw [Hid, hb3]; exact hg3.size
  clear hr3 hgB hg3 hRr
  subst hW3
  go_wp2_with fail
  rw [← hb3]
  refine hR.mono ?_
  rintro e w4 ⟨r4, rfl, hr4, hg4⟩
  clear hR hb3 j0 j1
  generalize w3.alloc (.cells #[.slice x1 x2 x3, .slice y1 y2 y3] 26) = W3 at *
  obtain ⟨s1, s2, s3, t1, t2, t3, rfl⟩ := hr4.form
  obtain ⟨W4, b4, hW4, hb4, hgC, HB4, o0, o1, HY⟩ := boxed hr4
  have hg34 := hg4.trans hgC
  have hg24 := hg23.trans hg34
  have k04 := hg24.at k0
  have k14 := hg24.at k1
  have m04 := hg34.at m0
  have m14 := hg34.at m1
  have HB34 : Hid (W4.heap[b3]? = some (.cells #[.slice x1 x2 x3, .slice y1 y2 y3] 26 (0, 0))) := hg34.block' HB3.out
  have Hb4 : Hid (b3 < b4) := by rw [Hid, hb4]; exact Nat.lt_of_lt_of_le (heap_lt1 HB3.out) hg4.size
  have hSm := same6_self (.agg #[.slice x1 x2 x3, .slice y1 y2 y3]) (.agg #[.slice s1 s2 s3, .slice t1 t2 t3]) (rotL a d s k) W4 (HX.out.grow hg34) HY.out
  have hgw4 := hgw2.trans hg24
  clear hr4 hgC hg4 hg34 hg23 HB3 m0 m1 HX HY k0 k1 hgw2
  subst hW4
  go_wp2_with fail
  rw [← hb4]
  refine hSm.mono ?_
  rintro e w5 ⟨rfl, hg5⟩
  clear hSm hb4
  generalize w4.alloc (.cells #[.slice s1 s2 s3, .slice t1 t2 t3] 26) = W4 at *
  have hg25 := hg24.trans hg5
  have hgw5 := hgw4.trans hg5
  have k05 := hg5.at k04
  have k15 := hg5.at k14
  have HB35 : Hid (w5.heap[b3]? = some (.cells #[.slice x1 x2 x3, .slice y1 y2 y3] 26 (0, 0))) := hg5.block' HB34.out
  have HB45 : Hid (w5.heap[b4]? = some (.cells #[.slice s1 s2 s3, .slice t1 t2 t3] 26 (0, 0))) := hg5.block' HB4.out
  have hGo := HGo.out w5 hg25
  clear HB34 HB4 k04 k14 m04 m14 o0 o1 hg24 hgw4 hg5
  go_wp2_with fail
  refine hGo.mono ?_
  rintro e w6 ⟨r6, rfl, hr6, hg6⟩
  clear hGo k05 k15
  have hg26 := hg25.trans hg6
  have hgw6 := hgw5.trans hg6
  obtain ⟨p1, p2, p3, q1, q2, q3, rfl⟩ := hr6.form
  obtain ⟨W6, hW6, HB6, i0, i1, HX6, g0, g1, f0, f1, HK⟩ := reboxed (hg6.block' HB35.out) hr6 HA.out.2.2
  have hg2W := HK.out.1 _ hg26 Hb3.out
  have hgwW := HK.out.1 _ hgw6 (Nat.le_trans Hk.out.2.2 Hb3.out)
  have k06 := hg2W.at Hk.out.1
  have k16 := hg2W.at Hk.out.2.1
  have HB46 : Hid (W6.heap[b4]? = some (.cells #[.slice s1 s2 s3, .slice t1 t2 t3] 26 (0, 0))) := HK.out.2.1 b4 _ (by have := Hb4.out; omega) (hg6.block' HB45.out)
  have hGr := HGr.out W6 hg2W
  clear hg2W hgw6 hg26 hr6 hg6 HB35 HB45 HK i0 i1
  subst hW6
  go_wp2_with fail
  refine hGr.mono ?_
  rintro e w7 ⟨r7, rfl, hr7, hg7⟩
  clear hGr g0 g1 f0 f1 k06 k16
  generalize (w6.setCell ⟨b3, 0, none⟩ (.slice p1 p2 p3)).setCell ⟨b3, 1, none⟩ (.slice q1 q2 q3) = W6 at *
  have hgw7 := hgwW.trans hg7
  obtain ⟨u1, u2, u3, z1, z2, z3, rfl⟩ := hr7.form
  obtain ⟨W7, hW7, HB7, i0, i1, HY7, g0, g1, f0, f1, HK⟩ := reboxed (hg7.block' HB46.out) hr7 HA.out.2.2
  have hgwW7 := HK.out.1 _ hgw7 (by have := Hb4.out; exact Nat.le_trans (Nat.le_trans Hk.out.2.2 Hb3.out) (by omega))
  have hB37 := HK.out.2.1 b3 _ (by have := Hb4.out; omega) (hg7.block' HB6.out)
  have m07 := two_at0 hB37
  have m17 := two_at1 hB37
  have hSm := same6_self (.agg #[.slice p1 p2 p3, .slice q1 q2 q3]) (.agg #[.slice u1 u2 u3, .slice z1 z2 z3]) (goneL a d) W7 (HK.out.2.2 _ _ (HX6.out.grow hg7) HA.out.2.2) HY7.out
  clear HK hB37 HB46 HB6 HX6 HY7 HB7 hr7 hg7 hgw7
  subst hW7
  go_wp2_with fail
  refine hSm.mono ?_
  rintro e w8 ⟨rfl, hg8⟩
  clear hSm
  go_wp2
  go_ret
  exact ⟨rfl, hgwW7.trans hg8⟩

end Go.Proofs.Ytjggiameajndgac

/-
  How an argument that is a slice of bytes is read: by its cells, and within the reach of the row.
-/
namespace Go.Proofs.Ytjggiameajndgac
open Go.ChangeShapes Go.WideShapes Go.ChangeAt Go.RowKit

theorem wf_octet {n : Int} (h : (Lit.int .u8 n).wf = true) : 0 ≤ n ∧ n ≤ 255 := by
  have := bounds_u8 h
  omega

/-- A slice of bytes that came in: what it reads as. -/
theorem open_bs {P : Program} {H : Type} {enc : TypeId × Value → H} {W : World} {base : Nat} {sp : Nat → Bool} {held : Bool} {t e : TypeId} {v : Value} {d : DataW H} {p : List MemPlace}
    (ht : P.underlying t = some (.slice e)) (he : P.underlying e = some (.int .u8)) (hc : P.cellsOf e = 1) {b0 : Nat} (hv : Value.okWide P W .any b0 t v)
    (h : DataW.Trod enc P W base sp held t v d p) :
    ∃ l, Bs W v l ∧ (l = [] ∨ ∃ elems spare, d = .slice elems spare ∧ l.length ≤ elems.length + spare.length) := by
  obtain ⟨a0, len0, cap0, rfl⟩ := okWide_slice ht hv
  obtain ⟨fuel, hf⟩ := h
  rcases open_ints ht he hc hf with ⟨hcs, _⟩ | ⟨x, l, c, zs, hcs, _, hl, hm, hz, hx, hcell, hwz⟩
  · simp [Value.cells] at hcs
    obtain ⟨rfl, rfl, rfl⟩ := hcs
    exact ⟨[], Bs.nil W, .inl rfl⟩
  · simp [Value.cells] at hcs
    obtain ⟨rfl, rfl, rfl⟩ := hcs
    have hlz : len0 ≤ zs.length := by rw [hz]; split <;> omega
    have hlen : (zs.take len0).length = len0 := by simp; omega
    refine ⟨zs.take len0, ⟨some x, cap0, by rw [hlen], by omega, hm, (fun h => nomatch h), fun n hn => wf_octet (hwz n (List.mem_of_mem_take hn)), fun hp => ?_⟩, .inr ?_⟩
    · rw [hlen] at hp
      obtain ⟨b, off, spot⟩ := x
      have hspot : spot = none := by simpa [Addr.add] using World.cell?_spot (hcell 0 (by omega))
      subst hspot
      refine ⟨b, off, rfl, fun i hi => ?_⟩
      rw [hlen] at hi
      have hplain : (⟨b, off, none⟩ : Addr).add i = ⟨b, off + i, none⟩ := by unfold Addr.add; split <;> simp_all
      rw [← hplain, hcell i (by omega)]
      simp [List.getD_eq_getElem?_getD, hi]
    · simp only [Prod.mk.injEq] at hx
      exact ⟨_, _, hx.1, by simp [lits]⟩

end Go.Proofs.Ytjggiameajndgac

/-
  How arguments that are deeds, steps, and slices of steps are read.
-/
namespace Go.Proofs.Ytjggiameajndgac
open Go.ChangeShapes Go.WideShapes Go.ChangeAt Go.RowKit

theorem four_of {α : Type} {cs : List α} (h : cs.length = 4) : ∃ c0 c1 c2 c3, cs = [c0, c1, c2, c3] := by
  match cs, h with
  | [c0, c1, c2, c3], _ => exact ⟨_, _, _, _, rfl⟩
theorem seven_of {α : Type} {cs : List α} (h : cs.length = 7) : ∃ c0 c1 c2 c3 c4 c5 c6, cs = [c0, c1, c2, c3, c4, c5, c6] := by
  match cs, h with
  | [c0, c1, c2, c3, c4, c5, c6], _ => exact ⟨_, _, _, _, _, _, _, rfl⟩

section
variable {H : Type} {enc : TypeId × Value → H} {W : World} {base : Nat} {sp : Nat → Bool} {held : Bool}

/-- Fields of a struct, each with its own reading. -/
theorem field_at {P : Program} {fuel : Nat} {t : TypeId} {cs : List Value} {x : DataW H × List MemPlace} {fs : Array Field} (ht : P.underlying t = some (.struct fs)) (h : DataW.trod enc P W base sp held fuel t cs = some x) :
    cs.length = P.cellsOf t ∧ ∀ (i : Nat) (f : Field), fs[i]? = some f → ∃ n y, DataW.trod enc P W base sp held n f.type ((cs.drop f.offset).take (P.cellsOf f.type)) = some y := by
  obtain ⟨xs, n, -, -, hlen, hxl, hf⟩ := DataW.trod_struct ht h
  refine ⟨hlen, fun i f hi => ?_⟩
  have hlt : i < fs.size := (Array.getElem?_eq_some_iff.1 hi).1
  have := hf i f hi
  rw [List.getElem?_eq_getElem (by omega)] at this
  exact ⟨n, _, this⟩

theorem Try.cellsDeed : Try.prog.cellsOf 54 = 4 := by kernel_rfl
theorem Try.cellsInt : Try.prog.cellsOf 3 = 1 := by kernel_rfl
theorem Try.cellsBs : Try.prog.cellsOf 52 = 1 := by kernel_rfl
theorem Try.cellsB : Try.prog.cellsOf 5 = 1 := by kernel_rfl

theorem int_cell {n : Nat} {c : Value} {y : DataW H × List MemPlace} (h : DataW.trod enc Try.prog W base sp held n 3 [c] = some y) : ∃ k, c = .int .i64 k ∧ (Lit.int .i64 k).wf = true := by
  obtain ⟨k, e, -, hw⟩ := DataW.trod_int Try.underlying3 h
  exact ⟨k, by simpa using e, hw⟩

set_option maxRecDepth 20000 in
/-- Cells of a deed. -/
theorem deed_cells {fuel : Nat} {cs : List Value} {x : DataW H × List MemPlace} (h : DataW.trod enc Try.prog W base sp held fuel 54 cs = some x) :
    ∃ (y : DeedP) (dv : Value), cs = [.int .i64 y.k, .int .i64 y.n, .int .i64 y.m, dv] ∧ Bs W dv y.d ∧ (Lit.int .i64 y.k).wf = true ∧ (Lit.int .i64 y.n).wf = true ∧ (Lit.int .i64 y.m).wf = true := by
  obtain ⟨hlen, hf⟩ := field_at Try.underlying54 h
  rw [Try.cellsDeed] at hlen
  obtain ⟨c0, c1, c2, c3, rfl⟩ := four_of hlen
  have g0 := hf 0 _ rfl
  have h0 : ∃ n y, DataW.trod enc Try.prog W base sp held n 3 (([c0, c1, c2, c3].drop 0).take (Try.prog.cellsOf 3)) = some y := g0
  rw [Try.cellsInt] at h0
  obtain ⟨m0, y0, f0⟩ := h0
  have g1 := hf 1 _ rfl
  have h1 : ∃ n y, DataW.trod enc Try.prog W base sp held n 3 (([c0, c1, c2, c3].drop 1).take (Try.prog.cellsOf 3)) = some y := g1
  rw [Try.cellsInt] at h1
  obtain ⟨m1, y1, f1⟩ := h1
  have g2 := hf 2 _ rfl
  have h2 : ∃ n y, DataW.trod enc Try.prog W base sp held n 3 (([c0, c1, c2, c3].drop 2).take (Try.prog.cellsOf 3)) = some y := g2
  rw [Try.cellsInt] at h2
  obtain ⟨m2, y2, f2⟩ := h2
  have g3 := hf 3 _ rfl
  have h3 : ∃ n y, DataW.trod enc Try.prog W base sp held n 52 (([c0, c1, c2, c3].drop 3).take (Try.prog.cellsOf 52)) = some y := g3
  rw [Try.cellsBs] at h3
  obtain ⟨m3, y3, f3⟩ := h3
  obtain ⟨k, rfl, hk⟩ := int_cell f0
  obtain ⟨n, rfl, hn⟩ := int_cell f1
  obtain ⟨m, rfl, hm⟩ := int_cell f2
  obtain ⟨l, hl⟩ := bs_of_trod Try.underlying52 Try.underlying5 Try.cellsB f3
  exact ⟨⟨k, n, m, l⟩, _, rfl, hl, hk, hn, hm⟩

set_option maxRecDepth 20000 in
/-- A deed that is an argument. -/
theorem open_deed {v : Value} {d : DataW H} {p : List MemPlace} {b0 : Nat} (hv : Value.okWide Try.prog W .any b0 54 v) (h : DataW.Trod enc Try.prog W base sp held 54 v d p) :
    ∃ y : DeedP, DeedV W v y ∧ (-9223372036854775808 ≤ y.n ∧ y.n ≤ 9223372036854775807) ∧ (-9223372036854775808 ≤ y.m ∧ y.m ≤ 9223372036854775807) := by
  obtain ⟨fuel, hf⟩ := h
  unfold Value.okWide at hv
  rw [Try.underlying54] at hv
  obtain ⟨cs, rfl, -, -⟩ := hv
  obtain ⟨y, dv, e, hb, -, hn, hm⟩ := deed_cells hf
  have e' : cs = #[.int .i64 y.k, .int .i64 y.n, .int .i64 y.m, dv] := Array.toList_inj.1 e
  exact ⟨y, ⟨dv, by rw [e'], hb⟩, bounds_i64 hn, bounds_i64 hm⟩

end

end Go.Proofs.Ytjggiameajndgac

/-
  How arguments that are steps, and slices of steps, are read.
-/
namespace Go.Proofs.Ytjggiameajndgac
open Go.ChangeShapes Go.WideShapes Go.ChangeAt Go.RowKit

section
variable {H : Type} {enc : TypeId × Value → H} {W : World} {base : Nat} {sp : Nat → Bool} {held : Bool}

theorem Try.cellsStep : Try.prog.cellsOf 56 = 7 := by kernel_rfl

set_option maxRecDepth 20000 in
/-- Cells of a step. -/
theorem step_cells {fuel : Nat} {cs : List Value} {x : DataW H × List MemPlace} (h : DataW.trod enc Try.prog W base sp held fuel 56 cs = some x) :
    ∃ (y : StepP) (dv : Value), cs = [.int .i64 y.k, .int .i64 y.n, .int .i64 y.m, .int .i64 y.d.k, .int .i64 y.d.n, .int .i64 y.d.m, dv] ∧ Bs W dv y.d.d ∧ y.n ≤ 9223372036854775807 := by
  obtain ⟨hlen, hf⟩ := field_at Try.underlying56 h
  rw [Try.cellsStep] at hlen
  obtain ⟨c0, c1, c2, c3, c4, c5, c6, rfl⟩ := seven_of hlen
  have g0 := hf 0 _ rfl
  have h0 : ∃ n y, DataW.trod enc Try.prog W base sp held n 3 (([c0, c1, c2, c3, c4, c5, c6].drop 0).take (Try.prog.cellsOf 3)) = some y := g0
  rw [Try.cellsInt] at h0
  obtain ⟨m0, y0, f0⟩ := h0
  have g1 := hf 1 _ rfl
  have h1 : ∃ n y, DataW.trod enc Try.prog W base sp held n 3 (([c0, c1, c2, c3, c4, c5, c6].drop 1).take (Try.prog.cellsOf 3)) = some y := g1
  rw [Try.cellsInt] at h1
  obtain ⟨m1, y1, f1⟩ := h1
  have g2 := hf 2 _ rfl
  have h2 : ∃ n y, DataW.trod enc Try.prog W base sp held n 3 (([c0, c1, c2, c3, c4, c5, c6].drop 2).take (Try.prog.cellsOf 3)) = some y := g2
  rw [Try.cellsInt] at h2
  obtain ⟨m2, y2, f2⟩ := h2
  have g3 := hf 3 _ rfl
  have h3 : ∃ n y, DataW.trod enc Try.prog W base sp held n 54 (([c0, c1, c2, c3, c4, c5, c6].drop 3).take (Try.prog.cellsOf 54)) = some y := g3
  rw [Try.cellsDeed] at h3
  obtain ⟨m3, y3, f3⟩ := h3
  obtain ⟨k, rfl, -⟩ := int_cell f0
  obtain ⟨n, rfl, hn⟩ := int_cell f1
  obtain ⟨m, rfl, -⟩ := int_cell f2
  obtain ⟨y, dv, e, hb, -⟩ := deed_cells f3
  simp only [List.drop_succ_cons, List.drop_zero, List.take_succ_cons, List.take_zero, List.cons.injEq, and_true] at e
  obtain ⟨rfl, rfl, rfl, rfl⟩ := e
  exact ⟨⟨k, n, m, y⟩, _, rfl, hb, (bounds_i64 hn).2⟩

set_option maxRecDepth 20000 in
/-- A step that is an argument. -/
theorem open_step {v : Value} {d : DataW H} {p : List MemPlace} {b0 : Nat} (hv : Value.okWide Try.prog W .any b0 56 v) (h : DataW.Trod enc Try.prog W base sp held 56 v d p) : ∃ y : StepP, StepV W v y := by
  obtain ⟨fuel, hf⟩ := h
  unfold Value.okWide at hv
  rw [Try.underlying56] at hv
  obtain ⟨cs, rfl, -, -⟩ := hv
  obtain ⟨y, dv, e, hb, hn⟩ := step_cells hf
  have e' : cs = #[.int .i64 y.k, .int .i64 y.n, .int .i64 y.m, .int .i64 y.d.k, .int .i64 y.d.n, .int .i64 y.d.m, dv] := Array.toList_inj.1 e
  exact ⟨y, dv, by rw [e'], hb, hn⟩

theorem addr_plain (b o j : Nat) : (⟨b, o, none⟩ : Addr).add j = ⟨b, o + j, none⟩ := by unfold Addr.add; split <;> simp_all

set_option maxRecDepth 20000 in
/-- Steps that are an argument. -/
theorem open_steps {v : Value} {d : DataW H} {p : List MemPlace} {b0 : Nat} (hv : Value.okWide Try.prog W .any b0 22 v) (h : DataW.Trod enc Try.prog W base sp held 22 v d p) : ∃ l : List StepP, Stps W v l ∧ ∀ s ∈ l, Octets s.d.d := by
  obtain ⟨a0, len0, cap0, rfl⟩ := okWide_slice Try.underlying22 hv
  obtain ⟨fuel, hf⟩ := h
  rcases Go.Deep.open_slice Try.underlying22 (by simpa [Value.cells] using hf) with ⟨hcs, _⟩ | ⟨a, len, cap, m, n, D, Pl, hcs, hb, hl, hm, hmm, hx, hV⟩
  · simp at hcs
    obtain ⟨rfl, rfl, rfl⟩ := hcs
    exact ⟨[], ⟨none, 0, rfl, Nat.le_refl _, Nat.zero_le _, fun _ => rfl, fun h => by simp at h⟩, fun s hs => by simp at hs⟩
  · simp at hcs
    obtain ⟨rfl, rfl, rfl⟩ := hcs
    have hlm : len0 ≤ m := by rw [hmm]; split <;> omega
    rw [Try.cellsStep] at hV
    have hch : ∀ i : Nat, ∃ y : StepP, i < len0 → ∃ dv, Bs W dv y.d.d ∧ y.n ≤ 9223372036854775807 ∧ ∀ j : Nat, j < 7 → W.cell? ((a.add (i * 7)).add j) = [Value.int .i64 y.k, .int .i64 y.n, .int .i64 y.m, .int .i64 y.d.k, .int .i64 y.d.n, .int .i64 y.d.m, dv][j]? := fun i => by
      by_cases hi : i < len0
      · obtain ⟨cs', hc, ht⟩ := hV i (by omega)
        obtain ⟨y, dv, rfl, hb, hn⟩ := step_cells ht
        obtain ⟨-, -, hcell⟩ := World.cells?_some hc
        exact ⟨y, fun _ => ⟨dv, hb, hn, hcell⟩⟩
      · exact ⟨⟨0, 0, 0, ⟨0, 0, 0, []⟩⟩, fun h => absurd h hi⟩
    obtain ⟨f, hf'⟩ : ∃ f : Nat → StepP, ∀ i, i < len0 → ∃ dv, Bs W dv (f i).d.d ∧ (f i).n ≤ 9223372036854775807 ∧ ∀ j : Nat, j < 7 → W.cell? ((a.add (i * 7)).add j) = [Value.int .i64 (f i).k, .int .i64 (f i).n, .int .i64 (f i).m, .int .i64 (f i).d.k, .int .i64 (f i).d.n, .int .i64 (f i).d.m, dv][j]? := ⟨fun i => (hch i).choose, fun i => (hch i).choose_spec⟩
    clear hch hV
    by_cases hp : 0 < len0
    · obtain ⟨b, off, spot⟩ := a
      have hspot : spot = none := by
        obtain ⟨dv, -, -, hc⟩ := hf' 0 hp
        have := World.cell?_spot (hc 0 (by omega))
        simpa [Addr.add] using this
      subst hspot
      refine ⟨(List.range len0).map f, ⟨some ⟨b, off, none⟩, cap0, by simp, by simpa using hl, hm, (fun h => nomatch h), fun _ => ⟨b, off, rfl, fun i s hs => ?_⟩⟩, fun s hs => ?_⟩
      · obtain ⟨hi, e⟩ := List.getElem?_eq_some_iff.1 hs
        have hi' : i < len0 := by simpa using hi
        have e' : s = f i := by rw [← e]; simp
        subst e'
        obtain ⟨dv, hb, hn, hc⟩ := hf' i hi'
        have hc' : ∀ j : Nat, j < 7 → W.cell? ⟨b, off + i * 7 + j, none⟩ = [Value.int .i64 (f i).k, .int .i64 (f i).n, .int .i64 (f i).m, .int .i64 (f i).d.k, .int .i64 (f i).d.n, .int .i64 (f i).d.m, dv][j]? := fun j hj => by rw [← hc j hj, addr_plain, addr_plain]
        exact ⟨dv, hc' 0 (by omega), hc' 1 (by omega), hc' 2 (by omega), hc' 3 (by omega), hc' 4 (by omega), hc' 5 (by omega), hc' 6 (by omega), hb, hn⟩
      · obtain ⟨i, hi, rfl⟩ := List.mem_map.1 hs
        obtain ⟨dv, hb, -, -⟩ := hf' i (List.mem_range.1 hi)
        exact hb.octets
    · obtain rfl : len0 = 0 := by omega
      exact ⟨[], ⟨some a, cap0, rfl, Nat.zero_le _, hm, (fun h => nomatch h), fun h => by simp at h⟩, fun s hs => by simp at hs⟩

end

end Go.Proofs.Ytjggiameajndgac
