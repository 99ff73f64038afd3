import Derived.Lib.MinMax
import Derived.Test.YtjggiameajndgadGreatDoorJoin17
/-
  Arrays in boxes of the call's own: a new box, and a box that gets another array.
-/
namespace Go.Proofs.YtjggiameajndgadGreatDoor
open Go.RowKit

theorem heap_lt1 {w : World} {b : Nat} {o : Obj} (h : w.heap[b]? = some o) : b < w.heap.size := by
  by_cases hb : b < w.heap.size
  · exact hb
  · rw [Array.getElem?_eq_none (Nat.le_of_not_lt hb)] at h; cases h

theorem boxed {w1 : World} {x y : Value} {a : ArrP} (h : ArrV w1 (.agg #[x, y]) a) :
    ∃ W b, W = w1.alloc (.cells #[x, y] 27) ∧ b = w1.heap.size ∧ Grow w1 W ∧ Hid (W.heap[b]? = some (.cells #[x, y] 27 (0, 0))) ∧ W.cell? ⟨b, 0, none⟩ = some x ∧ W.cell? ⟨b, 1, none⟩ = some y ∧ Hid (ArrV W (.agg #[x, y]) a) :=
  ⟨_, _, rfl, rfl, Grow.alloc _ _, heap_alloc_new w1 _, two_at0 (heap_alloc_new w1 _), two_at1 (heap_alloc_new w1 _), h.grow (Grow.alloc _ _)⟩

/-- What a box is when it gets another array. -/
theorem reboxed {w6 : World} {b a1 a2 a4 a5 : Nat} {a0 a3 : Option Addr} {x y : Value} {a : ArrP} (hB : w6.heap[b]? = some (.cells #[.slice a0 a1 a2, .slice a3 a4 a5] 27 (0, 0))) (hv : ArrV w6 (.agg #[x, y]) a) (ha : Arr a) :
    ∃ W, W = (w6.setCell ⟨b, 0, none⟩ x).setCell ⟨b, 1, none⟩ y ∧ Hid (W.heap[b]? = some (.cells #[x, y] 27 (0, 0))) ∧ W.cell? ⟨b, 0, none⟩ = some x ∧ W.cell? ⟨b, 1, none⟩ = some y ∧ Hid (ArrV W (.agg #[x, y]) a) ∧
      w6.cell? ⟨b, 0, none⟩ = some (.slice a0 a1 a2) ∧ w6.cell? ⟨b, 1, none⟩ = some (.slice a3 a4 a5) ∧ w6.frozen? ⟨b, 0, none⟩ = false ∧ w6.frozen? ⟨b, 1, none⟩ = false ∧
      Hid ((∀ w0, Grow w0 w6 → w0.heap.size ≤ b → Grow w0 W) ∧ (∀ (c : Nat) o, c ≠ b → w6.heap[c]? = some o → W.heap[c]? = some o) ∧ (∀ v c, ArrV w6 v c → Arr c → ArrV W v c)) := by
  have hT : Two b w6 := ⟨_, _, _, _, _, _, _, hB⟩
  have hb := two_set1 (z := y) (two_set0 (z := x) hB)
  refine ⟨_, rfl, hb, two_at0 hb, two_at1 hb, hT.store hv ha.whole ha.fours x y, two_at0 hB, two_at1 hB, frozen_of_row w6 b 0 _ _ hB, frozen_of_row w6 b 1 _ _ hB, fun w0 hg h0 => (hg.set h0 x).set h0 y, fun c o hc ho => ?_, fun v c hv hc => hT.store hv hc.whole hc.fours x y⟩
  exact set_other (set_other ho hc) hc

/-- A cell of an array, as it lies. -/
theorem ArrV.cellOf {w : World} {p1 a2 : Option Addr} {n1 c1 n2 c2 : Nat} {a : ArrP} (h : ArrV w (.agg #[.slice p1 n1 c1, .slice a2 n2 c2]) a) (ha : Whole a) {d s : Nat} (hd : d < 4) (hs : s < 3) :
    n1 = 4 ∧ 4 ≤ c1 ∧ c1 ≤ 9223372036854775807 ∧ ∃ b off c' b' off' u' n' cc', p1 = some ⟨b, off, none⟩ ∧ w.cell? ⟨b, off + d, none⟩ = some (.slice (some ⟨b', off', none⟩) 3 c') ∧ w.cell? ⟨b', off' + s, none⟩ = some (.slice u' n' cc') ∧ Bs w (.slice u' n' cc') (cellAt a d s) ∧ 3 ≤ c' := by
  obtain ⟨dv, iv, e, h1, h2⟩ := h
  simp only [Value.agg.injEq] at e
  have e := congrArg Array.toList e
  simp at e
  obtain ⟨rfl, rfl⟩ := e
  obtain ⟨_, _, e1, g1, g2⟩ := h1.form'
  injection e1 with _ e2 e3
  have hn : n1 = 4 := by rw [e2, ha.1]
  subst hn
  obtain ⟨b, off, c', b', off', u', n', cc', hE, hc1, hc2, hb, h3c⟩ := ArrG.cell (g := none) (ad := p1) (cd := c1) (a := a) (w := w) (Sl.lift (fun _ _ h => Sl.lift (fun _ _ h => Off.plain Bs.stays h) h (Grow.refl _)) h1 (Grow.refl w)) ha hd hs
  exact ⟨rfl, by omega, by omega, b, off, c', b', off', u', n', cc', hE, hc1, hc2, hb.here, h3c⟩

/-- A byte of a slice of bytes, as it lies. -/
theorem Bs.byteOf {w : World} {u : Option Addr} {n c : Nat} {l : List Int} (h : Bs w (.slice u n c) l) {k : Nat} (hk : k < l.length) : n = l.length ∧ ∃ b off, u = some ⟨b, off, none⟩ ∧ w.cell? ⟨b, off + k, none⟩ = some (.int .u8 (l.getD k 0)) := by
  obtain ⟨_, _, e, -, -, -, -, h⟩ := h
  injection e with e1 e2 _
  obtain ⟨b, off, e3, hc⟩ := h (by omega)
  exact ⟨e2, b, off, e1.trans e3, hc k hk⟩

theorem Bs.lenOf {w : World} {u : Option Addr} {n c : Nat} {l : List Int} (h : Bs w (.slice u n c) l) : n = l.length := by
  obtain ⟨_, _, e, -⟩ := h
  injection e

/-- Bytes of a constant. -/
theorem Bs.lit1 {w : World} {e : TypeId} {l : List Int} (h : l.length ≤ maxLen) (ho : Octets l) (mk : Nat × Nat) : Bs (w.alloc (.cells (l.map (Value.int .u8)).toArray e mk)) (.slice (some ⟨w.heap.size, 0, none⟩) l.length l.length) l := by
  refine ⟨some ⟨w.heap.size, 0, none⟩, l.length, rfl, Nat.le_refl _, h, (fun h => nomatch h), ho, fun _ => ⟨w.heap.size, 0, rfl, fun i hi => ?_⟩⟩
  simp only [World.cell?, heap_alloc_new w]
  simp [hi, List.getD_eq_getElem?_getD]

theorem ArrV.lens {w : World} {p1 p2 : Option Addr} {n1 c1 n2 c2 : Nat} {a : ArrP} (h : ArrV w (.agg #[.slice p1 n1 c1, .slice p2 n2 c2]) a) (ha : Arr a) : n1 = 4 ∧ n2 = 0 := by
  obtain ⟨dv, iv, e, h1, h2⟩ := h
  simp only [Value.agg.injEq] at e
  have e := congrArg Array.toList e
  simp at e
  obtain ⟨rfl, rfl⟩ := e
  obtain ⟨_, _, e1, -⟩ := h1.form'
  obtain ⟨_, _, e2, -⟩ := h2.form
  injection e1 with _ e1 _
  injection e2 with _ e2 _
  rw [ha.whole.1] at e1
  rw [ha.none] at e2
  exact ⟨e1, e2⟩

/-- A step in a box of its own. -/
theorem stepBox {w : World} {x : StepP} {d1 : Option Addr} {d2 d3 : Nat} (hb : Bs w (.slice d1 d2 d3) x.d.d) (hm : x.n ≤ 9223372036854775807) :
    ∃ W b, W = w.alloc (.cells #[.int .i64 x.k, .int .i64 x.n, .int .i64 x.m, .int .i64 x.d.k, .int .i64 x.d.n, .int .i64 x.d.m, .slice d1 d2 d3] 38) ∧ b = w.heap.size ∧ Grow w W ∧ Hid (StepC W b 0 x (.slice d1 d2 d3)) := by
  refine ⟨_, _, rfl, rfl, Grow.alloc _ _, ?_⟩
  have h := heap_alloc_new w (.cells #[.int .i64 x.k, .int .i64 x.n, .int .i64 x.m, .int .i64 x.d.k, .int .i64 x.d.n, .int .i64 x.d.m, .slice d1 d2 d3] 38)
  exact ⟨row_at h 0 rfl, row_at h 1 rfl, row_at h 2 rfl, row_at h 3 rfl, row_at h 4 rfl, row_at h 5 rfl, row_at h 6 rfl, hb.grow (Grow.alloc _ _), hm⟩

/-- Numbers, as they lie. -/
theorem Sl.intAt {w : World} {ao : Option Addr} {n c : Nat} {xs : List Int} (h : Sl IntV w (.slice ao n c) xs) {k : Nat} (hk : k < xs.length) : ∃ b off, ao = some ⟨b, off, none⟩ ∧ w.cell? ⟨b, off + k, none⟩ = some (.int .i64 (xs.getD k 0)) := by
  obtain ⟨b, off, u, e, hu, hi⟩ := h.elem hk 0
  exact ⟨b, off, e, by rw [hu]; exact congrArg some hi⟩


/-- Four bytes. -/
def abcd : List Int := [97, 98, 99, 100]
theorem abcd_oct : Octets abcd := by intro x hx; simp [abcd] at hx; omega

end Go.Proofs.YtjggiameajndgadGreatDoor

/-
  What mhtop.done returns, of texts each of which is a right deed's: the array behind them, and true. Nothing old turns.
-/
namespace Go.Proofs.YtjggiameajndgadGreatDoor
open Go.RowKit

theorem BInv.grow1 {w wr w5 : World} {A R : Nat} {x y : Value} {b : ArrP} (h : BInv w A R x y b wr) (hg : Grow wr w5) : BInv w A R x y b w5 := by
  obtain ⟨⟨h1, h2⟩, h3, h4⟩ := h
  exact ⟨⟨hg.block' h1, hg.block' h2⟩, h3.out.grow hg, h4.trans hg⟩

theorem two_open1 {wN : World} {R : Nat} {x y : Value} {t : TypeId} (hR : wN.heap[R]? = some (.cells #[x, y] t (0, 0))) : wN.cell? ⟨R, 0, none⟩ = some x ∧ wN.cell? ⟨R, 1, none⟩ = some y ∧ wN.frozen? ⟨R, 0, none⟩ = false ∧ wN.frozen? ⟨R, 1, none⟩ = false :=
  ⟨two_at0 hR, two_at1 hR, frozen_of_row wN _ 0 _ _ hR, frozen_of_row wN _ 1 _ _ hR⟩

set_option maxRecDepth 20000 in
set_option maxHeartbeats 6400000 in
theorem topDone_any (v : Value) (ts : List (List UInt8)) (ds : List DeedP) (w : World) (h : Sl StrV w v ts) (hlaid : Laid w) (hlen : ∀ t ∈ ts, t.length ≤ 1000) (hp : ts.map parseP = ds.map (fun x => (x, 0))) (hr : ∀ x ∈ ds, wrongE x = 0 ∧ Octets x.d) :
    Calls Tryz.prog 17 #[v] w fun e w' => ∃ r, e = .returned (.tuple #[r, .bool true]) ∧ ArrV w' r (addL ds) ∧ Grow w w' := by
  have hll : ts.length = ds.length := by have := congrArg List.length hp; simpa using this
  obtain ⟨ao, cap, rfl, h1, h2, h3, h4⟩ := h
  unfold maxLen at h2
  have HA : Hid (∀ k, Arr (addTo ds k)) := fun k => addTo_arr hr k
  have HS : Hid (∀ k x, ds[k]? = some x → stepE (addTo ds k) ⟨1, 0, 0, x⟩ = 0 ∧ stepA (addTo ds k) ⟨1, 0, 0, x⟩ = addTo ds (k + 1)) := fun k x hx => addTo_step hr hx
  have HP : Hid (∀ (k : Nat) t, ts[k]? = some t → ∃ x, ds[k]? = some x ∧ parseP t = (x, 0) ∧ t.length ≤ 1000) := fun k t ht => by
    have e1 : (ts.map parseP)[k]? = some (parseP t) := by simp [ht]
    rw [hp] at e1
    simp only [List.getElem?_map, Option.map_eq_some_iff] at e1
    obtain ⟨x, hx, e⟩ := e1
    exact ⟨x, hx, e.symm, hlen t (List.mem_of_getElem? ht)⟩
  have HE : Hid (addTo ds ts.length = addL ds) := by rw [Hid, hll, addTo_all]
  have HL : Hid (Laid w) := hlaid
  have hgR : Grow w (w.alloc (.cells #[.slice none 0 0, .slice none 0 0] 27)) := Grow.alloc _ _
  have hR0 := heap_alloc_new w (.cells #[.slice none 0 0, .slice none 0 0] 27)
  clear hlaid hlen hp hr hll
  go_enter Tryz.func17, Tryz.ntmps17
  go_wp2_with fail
  refine (arrNew_any _).mono ?_
  rintro e w1 ⟨r, rfl, hr, hg1⟩
  obtain ⟨p1, p2, p3, r1, r2, r3, rfl⟩ := hr.form
  have hgA : Grow w1 (w1.alloc (.cells #[.slice p1 p2 p3, .slice r1 r2 r3] 27)) := Grow.alloc _ _
  have hR1 := (hg1.trans hgA).block' hR0
  have hlR : w.heap.size < w1.heap.size := by have := hg1.size; simp at this; omega
  have hI : BInv w w1.heap.size w.heap.size (.slice p1 p2 p3) (.slice r1 r2 r3) (addTo ds 0) (w1.alloc (.cells #[.slice p1 p2 p3, .slice r1 r2 r3] 27)) := ⟨⟨heap_alloc_new w1 _, hR1⟩, hr.grow hgA, (hgR.trans hg1).trans hgA⟩
  clear hr hR0 hR1 hgA hg1 hgR
  go_wp2
  go_loopw [14] (fun i wr => ∃ (k : Nat) (x y : Value), k ≤ ts.length ∧ i = .int .i64 k ∧ BInv w w1.heap.size w.heap.size x y (addTo ds k) wr) (fun i _ => ts.length - (intOf i).toNat)
  case atStart => exact ⟨0, _, _, by omega, rfl, hI⟩
  case round =>
    obtain ⟨k, x, y, hk, rfl, hB⟩ := hrel
    have HB : Hid (BInv w w1.heap.size w.heap.size x y (addTo ds k) wr) := hB
    obtain ⟨⟨hA, hR⟩, HV, hgr⟩ := hB
    obtain ⟨⟨x1, x2, x3, rfl⟩, y1, y2, y3, rfl⟩ := HV.out.form2
    have b0 := two_at0 hA
    have b1 := two_at1 hA
    have fA0 : wr.frozen? ⟨w1.heap.size, 0, none⟩ = false := frozen_of_row wr _ 0 _ _ hA
    have fA1 : wr.frozen? ⟨w1.heap.size, 1, none⟩ = false := frozen_of_row wr _ 1 _ _ hA
    by_cases hlt : k < ts.length
    · obtain ⟨b, off, rfl, hc⟩ := h4 (by omega)
      obtain ⟨u, hu, hus⟩ := hc k ts[k] (by simp [hlt])
      obtain ⟨d, hdk, hpd, hl⟩ := HP.out k ts[k] (by simp [hlt])
      have hus : u = .string (str ts[k]) := hus
      subst hus
      obtain ⟨hE, hSA⟩ := HS.out k d hdk
      have HSA : Hid (stepA (addTo ds k) ⟨1, 0, 0, d⟩ = addTo ds (k + 1)) := hSA
      have hPa := parse_any ts[k] wr (by omega) (HL.out.grow hgr)
      rw [hpd] at hPa
      simp only at hPa
      have hu' := hgr.at hu
      have hki : (k : Int) < (ts.length : Int) := by omega
      generalize ts[k] = t at *
      clear hc h4 hu hpd hl hdk hSA
      go_wp2_with fail
      refine hPa.mono ?_
      rintro e w5 ⟨r5, rfl, hr5, hg5⟩
      clear hPa hu'
      obtain ⟨dv5, rfl, hbd⟩ := hr5
      obtain ⟨d1, d2, d3, rfl⟩ := hbd.form
      have hgS := Grow.alloc w5 (.cells #[.int .i64 d.k, .int .i64 d.n, .int .i64 d.m, .slice d1 d2 d3] 36)
      have hbox := heap_alloc_new w5 (.cells #[.int .i64 d.k, .int .i64 d.n, .int .i64 d.m, .slice d1 d2 d3] 36)
      have m0 := row_at hbox 0 rfl
      have m1 := row_at hbox 1 rfl
      have m2 := row_at hbox 2 rfl
      have m3 := row_at hbox 3 rfl
      have hg5S := hg5.trans hgS
      have c0 := hg5S.at b0
      have c1 := hg5S.at b1
      have hDo := playDo_any _ (.agg #[.int .i64 1, .int .i64 0, .int .i64 0, .int .i64 d.k, .int .i64 d.n, .int .i64 d.m, .slice d1 d2 d3]) (addTo ds k) ⟨1, 0, 0, d⟩ _ (HV.out.grow hg5S) (HA.out k) ⟨_, rfl, hbd.grow hgS, by show (0 : Int) ≤ _; omega⟩
      rw [hE, HSA.out] at hDo
      clear hbd hbox hE hg5
      go_wp2_with fail
      refine hDo.mono ?_
      rintro e w6 ⟨r6, rfl, hr6, hg6⟩
      clear hDo m0 m1 m2 m3 c0 c1
      obtain ⟨p1', p2', p3', q1', q2', q3', rfl⟩ := hr6.form
      have hgX := Grow.alloc w6 (.cells #[.slice p1' p2' p3', .slice q1' q2' q3'] 27)
      have hg7 := (hg5S.trans hg6).trans hgX
      have hA7 := HA.out (k + 1)
      have hB7 := BInv.put HB.out hg7 (hr6.grow hgX) hA7.whole hA7.fours (by omega) (by omega)
      have HB7 : Hid (BInv w w1.heap.size w.heap.size _ _ (addTo ds (k + 1)) _) := hB7
      have e0 := hg7.at b0
      have e1 := hg7.at b1
      have g0 := (hg7.frozen (a := ⟨w1.heap.size, 0, none⟩) (cell_lt b0)).trans fA0
      have g1 := (hg7.frozen (a := ⟨w1.heap.size, 1, none⟩) (cell_lt b0)).trans fA1
      clear hB7 HB HV hA hR b0 b1 fA0 fA1 hr6 hgX hg6 hgS hg5S hA7 HSA
      go_wp2
      go_roundw
      case rel => first | exact ⟨k + 1, _, _, by omega, by go_num, HB7.out⟩ | ((repeat apply Exists.intro); exact ⟨⟨k + 1, _, _, by omega, by go_num, HB7.out⟩, rfl⟩)
      case measure => simp [intOf]; omega
    · have HK : Hid (k = ts.length) := by rw [Hid]; omega
      have hno : ¬ ((k : Int) < (ts.length : Int)) := by omega
      have Hf : Hid _ := HB.out.done (HA.out k).whole (HA.out k).fours (Nat.le_refl _)
      obtain ⟨t0, t1, f0, f1⟩ := two_open1 hR
      clear HB HV hA hR fA0 fA1 h4
      go_wp2
      refine bodyPost_ret (results_two1 Tryz.results17 _ _ w.heap.size _ rfl Tryz.underlying27 rfl Tryz.sizeA Hf.out.2.2.1 Hf.out.2.2.2) rfl ?_
      refine ⟨_, rfl, ?_, Hf.out.2.1⟩
      have := Hf.out.1
      rw [HK.out, HE.out] at this
      exact this

end Go.Proofs.YtjggiameajndgadGreatDoor

/-
  mhtop.alive returns true; mhtop.full returns an array all blocks of which have something, and these. Nothing old turns.
-/
namespace Go.Proofs.YtjggiameajndgadGreatDoor
open Go.RowKit

/-- The texts. -/
def tsA : List (List UInt8) := [[119, 114, 105, 116, 101, 32, 52, 32, 54, 49, 54, 50, 54, 51, 54, 52], [115, 119, 97, 112, 32, 52, 32, 51]]
def tsF : List (List UInt8) := [[119, 114, 105, 116, 101, 32, 48, 32, 48, 48, 48, 49, 48, 50, 48, 51], [119, 114, 105, 116, 101, 32, 49, 32, 49, 48, 49, 49, 49, 50, 49, 51], [119, 114, 105, 116, 101, 32, 50, 32, 50, 48, 50, 49, 50, 50, 50, 51], [119, 114, 105, 116, 101, 32, 51, 32, 51, 48, 51, 49, 51, 50, 51, 51], [119, 114, 105, 116, 101, 32, 52, 32, 52, 48, 52, 49, 52, 50, 52, 51], [119, 114, 105, 116, 101, 32, 53, 32, 53, 48, 53, 49, 53, 50, 53, 51], [119, 114, 105, 116, 101, 32, 54, 32, 54, 48, 54, 49, 54, 50, 54, 51], [119, 114, 105, 116, 101, 32, 55, 32, 55, 48, 55, 49, 55, 50, 55, 51], [119, 114, 105, 116, 101, 32, 56, 32, 56, 48, 56, 49, 56, 50, 56, 51]]
def dsA : List DeedP := [⟨1, 4, 0, abcd⟩, ⟨2, 4, 3, []⟩]
theorem tsA_parse : tsA.map parseP = dsA.map (fun x => (x, 0)) := by kernel_rfl
theorem tsF_parse : tsF.map parseP = fullDs.map (fun x => (x, 0)) := by kernel_rfl
theorem tsA_len : ∀ t ∈ tsA, t.length ≤ 1000 := by decide
theorem tsF_len : ∀ t ∈ tsF, t.length ≤ 1000 := by decide
theorem dsA_right : ∀ x ∈ dsA, wrongE x = 0 ∧ Octets x.d := by
  intro x hx
  simp only [dsA, List.mem_cons, List.not_mem_nil, or_false] at hx
  rcases hx with rfl | rfl
  · exact ⟨by decide, abcd_oct⟩
  · exact ⟨by decide, fun y hy => by simp at hy⟩
theorem aliveT_read : rdE (addL dsA) 3 = 0 ∧ rdX (addL dsA) 3 = abcd := by constructor <;> kernel_rfl

/-- A row of texts. -/
theorem Sl.texts {w : World} {g n : Nat} {e : TypeId} {mk : Nat × Nat} {cs : Array Value} {ts : List (List UInt8)} (h : w.heap[g]? = some (.cells cs e mk)) (hc : cs = (ts.map fun t => Value.string (str t)).toArray) (hn : ts.length = n) (h9 : n ≤ 9) : Sl StrV w (.slice (some ⟨g, 0, none⟩) n n) ts := by
  subst hc
  refine Sl.row h hn (by simp [hn]) (by unfold maxLen; omega) fun i u x hu hx => ?_
  simp only [List.getElem?_map, Option.map_eq_some_iff] at hu
  obtain ⟨t, ht, rfl⟩ := hu
  rw [ht] at hx
  cases hx
  rfl

set_option maxRecDepth 20000 in
set_option maxHeartbeats 6400000 in
theorem topAlive_any (w : World) (hlaid : Laid w) : Calls Tryz.prog 7 #[] w fun e w' => e = .returned (.bool true) ∧ Grow w w' := by
  obtain ⟨W, hW⟩ : ∃ W, W = w.alloc (.cells #[.string { data := #[119, 114, 105, 116, 101, 32, 52, 32, 54, 49, 54, 50, 54, 51, 54, 52] }, .string { data := #[115, 119, 97, 112, 32, 52, 32, 51] }] 9) := ⟨_, rfl⟩
  have hgW : Grow w W := by rw [hW]; exact Grow.alloc _ _
  have hsl : Sl StrV W (.slice (some ⟨w.heap.size, 0, none⟩) 2 2) tsA := Sl.texts (e := 9) (mk := (0, 0)) (by rw [hW]; exact heap_alloc_new w _) rfl rfl (by omega)
  have hDn := topDone_any _ tsA dsA W hsl (hlaid.grow hgW) tsA_len tsA_parse dsA_right
  have HA : Hid (Arr (addL dsA)) := by have := addTo_arr dsA_right dsA.length; rwa [addTo_all] at this
  have HR : Hid (rdE (addL dsA) 3 = 0 ∧ rdX (addL dsA) 3 = abcd) := aliveT_read
  clear hsl hlaid
  generalize addL dsA = a at *
  go_enter Tryz.func7, Tryz.ntmps7
  go_wp2_with fail
  rw [← hW]
  refine hDn.mono ?_
  rintro e w1 ⟨r1, rfl, hr1, hg1⟩
  clear hDn hW
  obtain ⟨a1, n1, c1, a2, n2, c2, rfl⟩ := hr1.form
  obtain ⟨W1, b1, hW1, hb1, hgA, HB1, k0, k1, HV⟩ := boxed hr1
  have hRd := arrRead_any (.agg #[.slice a1 n1 c1, .slice a2 n2 c2]) a 3 W1 HV.out HA.out.whole HA.out.short
  rw [HR.out.1, HR.out.2] at hRd
  have hgw1 := (hgW.trans hg1).trans hgA
  clear hr1 hg1 hgA hgW HB1 HV
  subst hW1
  go_wp2_with fail
  rw [← hb1]
  refine hRd.mono ?_
  rintro e w2 ⟨r2, rfl, hr2, hg2⟩
  clear hRd hb1 k0 k1
  have cv := run_convert_bs (P := Tryz.prog) 34 5 9 Tryz.underlying34 Tryz.underlying5 Tryz.underlying9 hr2
  rw [show strOfNums abcd = ⟨#[97, 98, 99, 100]⟩ from rfl] at cv
  obtain ⟨o1, o2, o3, rfl⟩ := hr2.form
  clear hr2
  go_wp2
  go_ret
  exact ⟨rfl, hgw1.trans hg2⟩

set_option maxRecDepth 20000 in
set_option maxHeartbeats 6400000 in
theorem topFull_any (w : World) (hlaid : Laid w) : Calls Tryz.prog 8 #[] w fun e w' => ∃ r l, e = .returned (.tuple #[r, l, .bool true]) ∧ ArrV w' r fullA ∧ Bss w' l wantL ∧ Grow w w' := by
  obtain ⟨V, hV⟩ : ∃ V, V = w.alloc (.cells #[.slice none 0 0, .slice none 0 0] 27) := ⟨_, rfl⟩
  obtain ⟨W, hW⟩ : ∃ W, W = V.alloc (.cells #[.string { data := #[119, 114, 105, 116, 101, 32, 48, 32, 48, 48, 48, 49, 48, 50, 48, 51] }, .string { data := #[119, 114, 105, 116, 101, 32, 49, 32, 49, 48, 49, 49, 49, 50, 49, 51] }, .string { data := #[119, 114, 105, 116, 101, 32, 50, 32, 50, 48, 50, 49, 50, 50, 50, 51] }, .string { data := #[119, 114, 105, 116, 101, 32, 51, 32, 51, 48, 51, 49, 51, 50, 51, 51] }, .string { data := #[119, 114, 105, 116, 101, 32, 52, 32, 52, 48, 52, 49, 52, 50, 52, 51] }, .string { data := #[119, 114, 105, 116, 101, 32, 53, 32, 53, 48, 53, 49, 53, 50, 53, 51] }, .string { data := #[119, 114, 105, 116, 101, 32, 54, 32, 54, 48, 54, 49, 54, 50, 54, 51] }, .string { data := #[119, 114, 105, 116, 101, 32, 55, 32, 55, 48, 55, 49, 55, 50, 55, 51] }, .string { data := #[119, 114, 105, 116, 101, 32, 56, 32, 56, 48, 56, 49, 56, 50, 56, 51] }] 9) := ⟨_, rfl⟩
  have hgV : Grow w V := by rw [hV]; exact Grow.alloc _ _
  have hgVW : Grow V W := by rw [hW]; exact Grow.alloc _ _
  have hVs : V.heap.size = w.heap.size + 1 := by rw [hV]; simp
  have HR0 : Hid (W.heap[w.heap.size]? = some (.cells #[.slice none 0 0, .slice none 0 0] 27 (0, 0))) := hgVW.block' (by rw [hV]; exact heap_alloc_new w _)
  have hsl : Sl StrV W (.slice (some ⟨w.heap.size + 1, 0, none⟩) 9 9) tsF := Sl.texts (e := 9) (mk := (0, 0)) (by rw [← hVs, hW]; exact heap_alloc_new V _) rfl rfl (by omega)
  have hgW := hgV.trans hgVW
  have hDn := topDone_any _ tsF fullDs W hsl (hlaid.grow hgW) tsF_len tsF_parse fullDs_right
  have hDn' : Calls Tryz.prog 17 #[.slice (some ⟨w.heap.size + 1, 0, none⟩) 9 9] W fun e w' => ∃ r, e = .returned (.tuple #[r, .bool true]) ∧ ArrV w' r fullA ∧ Grow W w' := hDn
  have HA : Hid (Arr fullA) := full_there.arr
  have HB : Hid (blkE fullA = 0 ∧ blkL fullA = wantL) := full_there.blocks
  clear hsl hlaid hDn hgV hgVW hVs
  generalize fullA = a at *
  go_enter Tryz.func8, Tryz.ntmps8
  go_wp2_with fail
  rw [← hV, ← hW]
  refine hDn'.mono ?_
  rintro e w1 ⟨r1, rfl, hr1, hg1⟩
  clear hDn' hW hV
  obtain ⟨a1, n1, c1, a2, n2, c2, rfl⟩ := hr1.form
  obtain ⟨W1, b1, hW1, hb1, hgA, HB1, k0, k1, HV⟩ := boxed hr1
  have hBl := arrBlocks_any (.agg #[.slice a1 n1 c1, .slice a2 n2 c2]) a W1 HV.out HA.out.whole HA.out.short
  rw [HB.out.1, HB.out.2] at hBl
  have hg01 := hg1.trans hgA
  have HR1 : Hid (W1.heap[w.heap.size]? = some (.cells #[.slice none 0 0, .slice none 0 0] 27 (0, 0))) := hg01.block' HR0.out
  have hgw1 := hgW.trans hg01
  clear hr1 hg1 hgA hg01 hgW HR0
  subst hW1
  go_wp2_with fail
  rw [← hb1]
  refine hBl.mono ?_
  rintro e w2 ⟨r2, rfl, hr2, hg2⟩
  clear hBl hb1
  generalize w1.alloc (.cells #[.slice a1 n1 c1, .slice a2 n2 c2] 27) = W1 at *
  have j0 := hg2.at k0
  have j1 := hg2.at k1
  have HRf : Hid (w2.heap[w.heap.size]? = some (.cells #[.slice none 0 0, .slice none 0 0] 27 (0, 0))) := hg2.block' HR1.out
  have hT : Two w.heap.size w2 := ⟨_, _, _, _, _, _, _, HRf.out⟩
  have HF : Hid (ArrV ((w2.setCell ⟨w.heap.size, 0, none⟩ (.slice a1 n1 c1)).setCell ⟨w.heap.size, 1, none⟩ (.slice a2 n2 c2)) (.agg #[.slice a1 n1 c1, .slice a2 n2 c2]) a ∧ Bss ((w2.setCell ⟨w.heap.size, 0, none⟩ (.slice a1 n1 c1)).setCell ⟨w.heap.size, 1, none⟩ (.slice a2 n2 c2)) r2 wantL ∧ Grow w ((w2.setCell ⟨w.heap.size, 0, none⟩ (.slice a1 n1 c1)).setCell ⟨w.heap.size, 1, none⟩ (.slice a2 n2 c2))) :=
    ⟨hT.store (HV.out.grow hg2) HA.out.whole HA.out.fours _ _, (((hT.bss hr2 (by rw [wantL_length]; omega)).step (by_set w2 w.heap.size 0 _)).step (by_set _ w.heap.size 1 _)).plain, ((hgw1.trans hg2).set (Nat.le_refl _) _).set (Nat.le_refl _) _⟩
  have hb := two_set1 (z := .slice a2 n2 c2) (two_set0 (z := .slice a1 n1 c1) HRf.out)
  have z0 := two_at0 hb
  have z1 := two_at1 hb
  have t0 := two_at0 HRf.out
  have t1 := two_at1 HRf.out
  have f0 : w2.frozen? ⟨w.heap.size, 0, none⟩ = false := frozen_of_row w2 _ 0 _ _ HRf.out
  have f1 : w2.frozen? ⟨w.heap.size, 1, none⟩ = false := frozen_of_row w2 _ 1 _ _ HRf.out
  obtain ⟨l1, l2, rfl⟩ := Sl.form hr2
  clear hr2 hT hb k0 k1 HR1 HV HB1
  generalize wantL.length = L at *
  go_wp2
  refine bodyPost_ret (results_two2 Tryz.results8 _ _ w.heap.size _ rfl Tryz.underlying27 rfl Tryz.sizeA z0 z1) rfl ?_
  exact ⟨_, _, rfl, HF.out.1, HF.out.2.1, HF.out.2.2⟩

end Go.Proofs.YtjggiameajndgadGreatDoor

/-
  mhtop.TopTwo returns true, whatever it is handed; nothing old turns.
-/
namespace Go.Proofs.YtjggiameajndgadGreatDoor
open Go.RowKit

/-- A step by which a disk is gone. -/
def goneS (d : Int) : StepP := ⟨4, d, 0, ⟨0, 0, 0, []⟩⟩
theorem goneS_step (a : ArrP) (d : Int) : stepE a (goneS d) = goneE d ∧ stepA a (goneS d) = goneL a d := ⟨rfl, rfl⟩
theorem goneS_lies (w : World) (d : Int) (h : d ≤ 9223372036854775807) : StepV w (.agg #[.int .i64 4, .int .i64 d, .int .i64 0, .int .i64 0, .int .i64 0, .int .i64 0, .slice none 0 0]) (goneS d) := ⟨_, rfl, Bs.nil w, h⟩

theorem doGone_any (v : Value) (a : ArrP) (d : Int) (w : World) (h : ArrV w v a) (ha : Arr a) (hd : 0 ≤ d ∧ d ≤ 3) :
    Calls Tryz.prog 9 #[v, .agg #[.int .i64 4, .int .i64 d, .int .i64 0, .int .i64 0, .int .i64 0, .int .i64 0, .slice none 0 0]] w fun e w' => ∃ r, e = .returned (.tuple #[r, .int .i64 0]) ∧ ArrV w' r (goneL a d) ∧ Grow w w' := by
  have := playDo_any v _ a (goneS d) w h ha (goneS_lies w d (by omega))
  rw [(goneS_step a d).1, (goneS_step a d).2, show goneE d = 0 from if_neg (by omega)] at this
  exact this

theorem lostN_le (d e : Nat) : ∀ k, lostN d e k ≤ k
  | 0 => Nat.le_refl _
  | k + 1 => by have := lostN_le d e k; rw [lostN]; split <;> omega

set_option maxRecDepth 20000 in
set_option maxHeartbeats 6400000 in
theorem topTwo_walk (d e : Int) (w : World) (hlaid : Laid w) :
    Calls Tryz.prog 6 #[.int .i64 d, .int .i64 e] w fun r w' => r = .returned (.bool true) ∧ Grow w w' := by
  have hAl := topAlive_any w hlaid
  by_cases hbad : d < 0 ∨ 4 ≤ d ∨ e < 0 ∨ 4 ≤ e ∨ d = e
  · have hcase : d < 0 ∨ (¬ d < 0 ∧ 4 ≤ d) ∨ (¬ d < 0 ∧ ¬ 4 ≤ d ∧ e < 0) ∨ (¬ d < 0 ∧ ¬ 4 ≤ d ∧ ¬ e < 0 ∧ 4 ≤ e) ∨ (¬ d < 0 ∧ ¬ 4 ≤ d ∧ ¬ e < 0 ∧ ¬ 4 ≤ e ∧ (d == e) = true) := by
      rcases Decidable.em (d < 0) with h1 | h1
      · exact .inl h1
      rcases Decidable.em (4 ≤ d) with h2 | h2
      · exact .inr (.inl ⟨h1, h2⟩)
      rcases Decidable.em (e < 0) with h3 | h3
      · exact .inr (.inr (.inl ⟨h1, h2, h3⟩))
      rcases Decidable.em (4 ≤ e) with h4 | h4
      · exact .inr (.inr (.inr (.inl ⟨h1, h2, h3, h4⟩)))
      · exact .inr (.inr (.inr (.inr ⟨h1, h2, h3, h4, by rcases hbad with h | h | h | h | h <;> first | exact absurd h ‹_› | simpa using h⟩)))
    clear hbad hlaid
    rcases hcase with h1 | ⟨h1, h2⟩ | ⟨h1, h2, h3⟩ | ⟨h1, h2, h3, h4⟩ | ⟨h1, h2, h3, h4, h5⟩
    all_goals
      go_enter Tryz.func6, Tryz.ntmps6
      go_wp2_with fail
      refine hAl.mono ?_
      rintro r w1 ⟨rfl, hg1⟩
      go_wp2
      go_ret
      exact ⟨rfl, hg1⟩
  · obtain ⟨d, rfl⟩ := Int.eq_ofNat_of_zero_le (a := d) (by omega)
    obtain ⟨e, rfl⟩ := Int.eq_ofNat_of_zero_le (a := e) (by omega)
    have c1 : ¬ (d : Int) < 0 := by omega
    have c2 : ¬ 4 ≤ (d : Int) := by omega
    have c3 : ¬ (e : Int) < 0 := by omega
    have c4 : ¬ 4 ≤ (e : Int) := by omega
    have c5 : ((d : Int) == (e : Int)) = false := beq_eq_false_iff_ne.2 (fun h => hbad (.inr (.inr (.inr (.inr h)))))
    have HT : Hid ((∀ n, n < 9 → toldB d e n = true) ∧ 0 < lostN d e 9) := two_plain (by omega) (by omega) (fun h => hbad (.inr (.inr (.inr (.inr (by rw [h]))))))
    have hd3 : 0 ≤ (d : Int) ∧ (d : Int) ≤ 3 := by omega
    have he3 : 0 ≤ (e : Int) ∧ (e : Int) ≤ 3 := by omega
    have HD3 : Hid ((0 ≤ (d : Int) ∧ (d : Int) ≤ 3) ∧ (0 ≤ (e : Int) ∧ (e : Int) ≤ 3)) := ⟨hd3, he3⟩
    have HA : Hid (Arr fullA ∧ Arr (goneL fullA d) ∧ Arr (twoA d e)) := ⟨full_there.arr, goneL_arr full_there.arr d, goneL_arr (goneL_arr full_there.arr d) e⟩
    have hWl : wantL.length = 9 := wantL_length
    have HTW : Hid (goneL (goneL fullA d) e = twoA d e) := rfl
    clear hd3 he3 hbad
    go_enter Tryz.func6, Tryz.ntmps6
    go_wp2_with fail
    refine hAl.mono ?_
    rintro r w1 ⟨rfl, hg1⟩
    have hFu := topFull_any w1 (hlaid.grow hg1)
    clear hAl hlaid
    go_wp2_with fail
    refine hFu.mono ?_
    rintro r w2 ⟨r2, l2, rfl, hr2, hl2, hg2⟩
    clear hFu
    obtain ⟨a1, n1, s1, a2, n2, s2, rfl⟩ := hr2.form
    obtain ⟨W2, b1, hW2, hb1, hgA, HB1, k0, k1, HV⟩ := boxed hr2
    have HL2 : Hid (Bss W2 l2 wantL) := Bss.grow hl2 hgA
    have hDo := doGone_any _ fullA d W2 HV.out HA.out.1 HD3.out.1
    have hgw2 := (hg1.trans hg2).trans hgA
    have Hb1 : Hid (w.heap.size ≤ b1) := by rw [Hid, hb1]; exact (hg1.trans hg2).size
    have Hsz : Hid (W2.heap.size = b1 + 1) := by rw [Hid, hW2, hb1]; simp
    obtain ⟨l3, l4, rfl⟩ := Sl.form hl2
    rw [hWl] at HL2 ⊢
    clear hr2 hl2 hgA hg1 hg2 HV hWl
    subst hW2
    go_wp2_with fail
    rw [← hb1]
    refine hDo.mono ?_
    rintro r w3 ⟨r3, rfl, hr3, hg3⟩
    clear hDo hb1 k0 k1
    generalize w2.alloc (.cells #[.slice a1 n1 s1, .slice a2 n2 s2] 27) = W2 at *
    obtain ⟨x1, x2, x3, y1, y2, y3, rfl⟩ := hr3.form
    obtain ⟨W3, hW3, HB3, k0, k1, HX, r0, r1, f0, f1, HK⟩ := reboxed (hg3.block' HB1.out) hr3 HA.out.2.1
    have hgw3 := HK.out.1 _ (hgw2.trans hg3) Hb1.out
    have hT3 : Two b1 w3 := ⟨_, _, _, _, _, _, _, hg3.block' HB1.out⟩
    have HL3 : Hid (Bss W3 (.slice l3 9 l4) wantL) := by
      rw [Hid, hW3]
      exact (((hT3.bss (Bss.grow HL2.out hg3) (by rw [wantL_length]; omega)).step (by_set w3 b1 0 _)).step (by_set _ b1 1 _)).plain
    have hDo := doGone_any _ (goneL fullA d) e W3 HX.out HA.out.2.1 HD3.out.2
    rw [HTW.out] at hDo
    clear hr3 hg3 HL2 HK HB1 hgw2 hT3 HX Hsz HTW
    subst hW3
    go_wp2_with fail
    refine hDo.mono ?_
    rintro r w4 ⟨r4, rfl, hr4, hg4⟩
    clear hDo r0 r1 f0 f1 k0 k1
    generalize (w3.setCell ⟨b1, 0, none⟩ (.slice x1 x2 x3)).setCell ⟨b1, 1, none⟩ (.slice y1 y2 y3) = W3 at *
    obtain ⟨p1, p2, p3, q1, q2, q3, rfl⟩ := hr4.form
    obtain ⟨W4, hW4, HB4, k0, k1, HY, r0, r1, f0, f1, HK⟩ := reboxed (hg4.block' HB3.out) hr4 HA.out.2.2
    have hgw4 := HK.out.1 _ (hgw3.trans hg4) Hb1.out
    have hT4 : Two b1 w4 := ⟨_, _, _, _, _, _, _, hg4.block' HB3.out⟩
    have HL4 : Hid (Bss W4 (.slice l3 9 l4) wantL) := by
      rw [Hid, hW4]
      exact (((hT4.bss (Bss.grow HL3.out hg4) (by rw [wantL_length]; omega)).step (by_set w4 b1 0 _)).step (by_set _ b1 1 _)).plain
    clear hr4 hg4 HL3 HK HB3 hgw3 hT4
    subst hW4
    go_wp2
    generalize (w4.setCell ⟨b1, 0, none⟩ (.slice p1 p2 p3)).setCell ⟨b1, 1, none⟩ (.slice q1 q2 q3) = W4 at *
    clear r0 r1 f0 f1
    have HRd : Hid (∀ (k : Nat) w', Grow W4 w' → Calls Tryz.prog 16 #[.agg #[.slice p1 p2 p3, .slice q1 q2 q3], .int .i64 k] w' fun r w'' => ∃ x, r = .returned (.tuple #[x, .int .i64 (rdE (twoA d e) k)]) ∧ Bs w'' x (rdX (twoA d e) k) ∧ Grow w' w'') := fun k w' hg => arrRead_any _ (twoA d e) k w' (HY.out.grow hg) HA.out.2.2.whole HA.out.2.2.short
    clear HY HB4 HA HD3 Hb1
    go_loopw [8, 54] (fun c i wr => ∃ k : Nat, k ≤ 9 ∧ i = .int .i64 k ∧ c = .int .i64 (lostN d e k : Nat) ∧ Grow W4 wr) (fun _ i _ => 9 - (intOf i).toNat)
    case atStart => exact ⟨0, by omega, rfl, rfl, Grow.refl _⟩
    case round =>
      obtain ⟨k, hk, rfl, rfl, hgr⟩ := hrel
      by_cases hlt : k < 9
      · have hki : (k : Int) < 9 := by omega
        have j0 := hgr.at k0
        have j1 := hgr.at k1
        have hRd := HRd.out k wr hgr
        have hle := lostN_le d e k
        have htold := HT.out.1 k hlt
        have HN9 : Hid (rdE (twoA d e) k = 9 → lostN d e (k + 1) = lostN d e k + 1) := fun h => by rw [lostN, if_pos h]
        have HN0 : Hid (rdE (twoA d e) k ≠ 9 → lostN d e (k + 1) = lostN d e k) := fun h => by rw [lostN, if_neg h]; rfl
        have Htold : Hid (rdE (twoA d e) k ≠ 9 → rdE (twoA d e) k = 0 ∧ rdX (twoA d e) k = wantL.getD k []) := fun h => by
          unfold toldB at htold
          rw [Bool.or_eq_true, Bool.and_eq_true] at htold
          rcases htold with h1 | ⟨h1, h2⟩
          · exact absurd (by simpa using h1) h
          · exact ⟨by simpa using h1, by simpa using h2⟩
        clear htold
        by_cases h9 : rdE (twoA d e) k = 9
        · have HN := HN9.out h9
          rw [h9] at hRd
          have HN' : Hid (lostN d e (k + 1) = lostN d e k + 1) := HN
          clear h9 HN HN9 HN0 Htold
          generalize lostN d e k = L at *
          go_wp2_with fail
          refine hRd.mono ?_
          rintro r w5 ⟨x5, rfl, -, hg5⟩
          clear hRd j0 j1
          have hg45 := hgr.trans hg5
          go_wp2
          go_roundw
          case rel => first | exact ⟨k + 1, by omega, by go_num, by rw [HN'.out]; go_num, hg45⟩ | ((repeat apply Exists.intro); exact ⟨⟨k + 1, by omega, by go_num, by rw [HN'.out]; go_num, hg45⟩, rfl⟩)
          case measure => simp [intOf]; omega
        · obtain ⟨hE0, hX0⟩ := Htold.out h9
          have HN := HN0.out h9
          rw [hE0, hX0] at hRd
          obtain ⟨bw, ow, aw, cw, rfl, hcw, hsw⟩ : ∃ bw ow aw cw, l3 = some ⟨bw, ow, none⟩ ∧ W4.cell? ⟨bw, ow + k, none⟩ = some (.slice aw (wantL.getD k []).length cw) ∧ Bs W4 (.slice aw (wantL.getD k []).length cw) (wantL.getD k []) := by
            obtain ⟨bw, ow, u, e1, hu, hr⟩ := HL4.out.elem (k := k) (by rw [wantL_length]; exact hlt) []
            have hr' := hr
            obtain ⟨aw, cw, rfl, -⟩ := hr'
            exact ⟨bw, ow, aw, cw, e1, hu, hr⟩
          have HSW : Hid (Bs wr (.slice aw (wantL.getD k []).length cw) (wantL.getD k [])) := hsw.grow hgr
          have hcw' := hgr.at hcw
          clear h9 HN9 HN0 Htold hE0 hX0 hcw hsw
          generalize wantL.getD k [] = B at *
          generalize B.length = BL at *
          go_wp2_with fail
          refine hRd.mono ?_
          rintro r w5 ⟨x5, rfl, hx5, hg5⟩
          clear hRd j0 j1
          have hcw5 := hg5.at hcw'
          have HX5 : Hid (Bs w5 x5 B ∧ Bs w5 (.slice aw BL cw) B) := ⟨hx5, HSW.out.grow hg5⟩
          obtain ⟨o1, o2, o3, rfl⟩ := hx5.form
          have hg45 := hgr.trans hg5
          clear hx5 hcw'
          go_wp2
          refine wp_region_stable Grow [IsV (.int .i64 0), IsV (.bool false), IsV (.bool false), IsV (.slice o1 o2 o3), IsV (.string (strOfNums (B))), IsV (.slice (some ⟨bw, ow, none⟩) 9 l4), IsV (.int .i64 k), IsV (.pointer (some ⟨bw, ow + k, none⟩)), IsV (.slice aw BL cw), IsV (.string (strOfNums (B))), IsV (.bool false), IsV (.bool false)] (by kernel_rfl) (by kernel_rfl) rfl Grow.refl (fun _ _ _ => Grow.trans) ?_ ?_ ?_
          · repeat (refine List.forall_mem_cons.2 ⟨by first | exact IsV.stable _, ?_⟩)
            exact fun R hR => nomatch hR
          · skip
            refine StepsS.cons ?_ fun v0 => ⟨_, _, by simp only [Act.put, List.setIfInBounds_toArray, List.set_cons_succ, List.set_cons_zero]; first | done | rfl, by simp only [List.nil_append]; first | done | rfl, ?_⟩
            · intro w1 hE hd
              clear hd
              go_wp2
              exact ⟨_, rfl, Grow.refl _, rfl⟩
            refine StepsS.cons ?_ fun v1 => ⟨_, _, by simp only [Act.put, List.setIfInBounds_toArray, List.set_cons_succ, List.set_cons_zero]; first | done | rfl, by simp only [List.nil_append, List.cons_append]; first | done | rfl, ?_⟩
            · intro w1 hE hd
              obtain rfl := IsV.eq (dep_at hd 0 rfl rfl rfl)
              clear hd
              go_wp2
              exact ⟨_, rfl, Grow.refl _, rfl⟩
            refine StepsS.cons ?_ fun v2 => ⟨_, _, by simp only [Act.put, List.setIfInBounds_toArray, List.set_cons_succ, List.set_cons_zero]; first | done | rfl, by simp only [List.nil_append, List.cons_append]; first | done | rfl, ?_⟩
            · intro w1 hE hd
              obtain rfl := IsV.eq (dep_at hd 0 rfl rfl rfl)
              clear hd
              go_wp2
              exact ⟨_, rfl, Grow.refl _, rfl⟩
            refine StepsS.cons ?_ fun v3 => ⟨_, _, by simp only [Act.put, List.setIfInBounds_toArray, List.set_cons_succ, List.set_cons_zero]; first | done | rfl, by simp only [List.nil_append, List.cons_append]; first | done | rfl, ?_⟩
            · intro w1 hE hd
              obtain rfl := IsV.eq (dep_at hd 0 rfl rfl rfl)
              clear hd
              go_wp2
              exact ⟨_, rfl, Grow.refl _, rfl⟩
            refine StepsS.cons ?_ fun v4 => ⟨_, _, by simp only [Act.put, List.setIfInBounds_toArray, List.set_cons_succ, List.set_cons_zero]; first | done | rfl, by simp only [List.nil_append, List.cons_append]; first | done | rfl, ?_⟩
            · intro w1 hE hd
              obtain rfl := IsV.eq (dep_at hd 0 rfl rfl rfl)
              obtain rfl := IsV.eq (dep_at hd 1 rfl rfl rfl)
              clear hd
              have hcv := run_convert_bs (P := Tryz.prog) 34 5 9 Tryz.underlying34 Tryz.underlying5 Tryz.underlying9 (HX5.out.1.grow hE.drew)
              go_wp2
              exact ⟨_, rfl, Grow.refl _, rfl⟩
            refine StepsS.cons ?_ fun v5 => ⟨_, _, by simp only [Act.put, List.setIfInBounds_toArray, List.set_cons_succ, List.set_cons_zero]; first | done | rfl, by simp only [List.nil_append, List.cons_append]; first | done | rfl, ?_⟩
            · intro w1 hE hd
              obtain rfl := IsV.eq (dep_at hd 0 rfl rfl rfl)
              clear hd
              go_wp2
              exact ⟨_, rfl, Grow.refl _, rfl⟩
            refine StepsS.cons ?_ fun v6 => ⟨_, _, by simp only [Act.put, List.setIfInBounds_toArray, List.set_cons_succ, List.set_cons_zero]; first | done | rfl, by simp only [List.nil_append, List.cons_append]; first | done | rfl, ?_⟩
            · intro w1 hE hd
              obtain rfl := IsV.eq (dep_at hd 0 rfl rfl rfl)
              clear hd
              go_wp2
              exact ⟨_, rfl, Grow.refl _, rfl⟩
            refine StepsS.cons ?_ fun v7 => ⟨_, _, by simp only [Act.put, List.setIfInBounds_toArray, List.set_cons_succ, List.set_cons_zero]; first | done | rfl, by simp only [List.nil_append, List.cons_append]; first | done | rfl, ?_⟩
            · intro w1 hE hd
              obtain rfl := IsV.eq (dep_at hd 0 rfl rfl rfl)
              obtain rfl := IsV.eq (dep_at hd 1 rfl rfl rfl)
              obtain rfl := IsV.eq (dep_at hd 2 rfl rfl rfl)
              clear hd
              go_wp2
              exact ⟨_, rfl, Grow.refl _, rfl⟩
            refine StepsS.cons ?_ fun v8 => ⟨_, _, by simp only [Act.put, List.setIfInBounds_toArray, List.set_cons_succ, List.set_cons_zero]; first | done | rfl, by simp only [List.nil_append, List.cons_append]; first | done | rfl, ?_⟩
            · intro w1 hE hd
              obtain rfl := IsV.eq (dep_at hd 0 rfl rfl rfl)
              obtain rfl := IsV.eq (dep_at hd 1 rfl rfl rfl)
              clear hd
              have qq := hE.drew.at hcw5
              go_wp2
              exact ⟨_, rfl, Grow.refl _, rfl⟩
            refine StepsS.cons ?_ fun v9 => ⟨_, _, by simp only [Act.put, List.setIfInBounds_toArray, List.set_cons_succ, List.set_cons_zero]; first | done | rfl, by simp only [List.nil_append, List.cons_append]; first | done | rfl, ?_⟩
            · intro w1 hE hd
              obtain rfl := IsV.eq (dep_at hd 0 rfl rfl rfl)
              obtain rfl := IsV.eq (dep_at hd 1 rfl rfl rfl)
              clear hd
              have hcv := run_convert_bs (P := Tryz.prog) 34 5 9 Tryz.underlying34 Tryz.underlying5 Tryz.underlying9 (HX5.out.2.grow hE.drew)
              go_wp2
              exact ⟨_, rfl, Grow.refl _, rfl⟩
            refine StepsS.cons ?_ fun v10 => ⟨_, _, by simp only [Act.put, List.setIfInBounds_toArray, List.set_cons_succ, List.set_cons_zero]; first | done | rfl, by simp only [List.nil_append, List.cons_append]; first | done | rfl, ?_⟩
            · intro w1 hE hd
              obtain rfl := IsV.eq (dep_at hd 0 rfl rfl rfl)
              obtain rfl := IsV.eq (dep_at hd 1 rfl rfl rfl)
              obtain rfl := IsV.eq (dep_at hd 2 rfl rfl rfl)
              clear hd
              go_wp2
              exact ⟨_, rfl, Grow.refl _, rfl⟩
            refine StepsS.cons ?_ fun v11 => ⟨_, _, by simp only [Act.put, List.setIfInBounds_toArray, List.set_cons_succ, List.set_cons_zero]; first | done | rfl, by simp only [List.nil_append, List.cons_append]; first | done | rfl, ?_⟩
            · intro w1 hE hd
              obtain rfl := IsV.eq (dep_at hd 0 rfl rfl rfl)
              obtain rfl := IsV.eq (dep_at hd 1 rfl rfl rfl)
              clear hd
              go_wp2
              exact ⟨_, rfl, Grow.refl _, rfl⟩
            trivial
          intro w6 hw6
          refine FinS.cons ?_; rintro _ rfl; refine ⟨_, by simp only [Act.put, List.setIfInBounds_toArray, List.set_cons_succ, List.set_cons_zero]; first | done | rfl, ?_⟩
          refine FinS.cons ?_; rintro _ rfl; refine ⟨_, by simp only [Act.put, List.setIfInBounds_toArray, List.set_cons_succ, List.set_cons_zero]; first | done | rfl, ?_⟩
          refine FinS.cons ?_; rintro _ rfl; refine ⟨_, by simp only [Act.put, List.setIfInBounds_toArray, List.set_cons_succ, List.set_cons_zero]; first | done | rfl, ?_⟩
          refine FinS.cons ?_; rintro _ rfl; refine ⟨_, by simp only [Act.put, List.setIfInBounds_toArray, List.set_cons_succ, List.set_cons_zero]; first | done | rfl, ?_⟩
          refine FinS.cons ?_; rintro _ rfl; refine ⟨_, by simp only [Act.put, List.setIfInBounds_toArray, List.set_cons_succ, List.set_cons_zero]; first | done | rfl, ?_⟩
          refine FinS.cons ?_; rintro _ rfl; refine ⟨_, by simp only [Act.put, List.setIfInBounds_toArray, List.set_cons_succ, List.set_cons_zero]; first | done | rfl, ?_⟩
          refine FinS.cons ?_; rintro _ rfl; refine ⟨_, by simp only [Act.put, List.setIfInBounds_toArray, List.set_cons_succ, List.set_cons_zero]; first | done | rfl, ?_⟩
          refine FinS.cons ?_; rintro _ rfl; refine ⟨_, by simp only [Act.put, List.setIfInBounds_toArray, List.set_cons_succ, List.set_cons_zero]; first | done | rfl, ?_⟩
          refine FinS.cons ?_; rintro _ rfl; refine ⟨_, by simp only [Act.put, List.setIfInBounds_toArray, List.set_cons_succ, List.set_cons_zero]; first | done | rfl, ?_⟩
          refine FinS.cons ?_; rintro _ rfl; refine ⟨_, by simp only [Act.put, List.setIfInBounds_toArray, List.set_cons_succ, List.set_cons_zero]; first | done | rfl, ?_⟩
          refine FinS.cons ?_; rintro _ rfl; refine ⟨_, by simp only [Act.put, List.setIfInBounds_toArray, List.set_cons_succ, List.set_cons_zero]; first | done | rfl, ?_⟩
          refine FinS.cons ?_; rintro _ rfl; refine ⟨_, by simp only [Act.put, List.setIfInBounds_toArray, List.set_cons_succ, List.set_cons_zero]; first | done | rfl, ?_⟩
          first | show Exit.then _ _ _ _ _ | show Exit.inBlock _ _ _ _ _
          have hg46 := hg45.trans hw6.drew
          go_wp2
          go_roundw
          case rel => first | exact ⟨k + 1, by omega, by go_num, by rw [HN], hg46⟩ | ((repeat apply Exists.intro); exact ⟨⟨k + 1, by omega, by go_num, by rw [HN], hg46⟩, rfl⟩)
          case measure => simp [intOf]; omega
      · obtain rfl : k = 9 := by omega
        have hpos : (0 : Int) < (lostN d e 9 : Nat) := by have := HT.out.2; omega
        have hposd : decide (0 < lostN d e 9) = true := by simpa using HT.out.2
        generalize lostN d e 9 = L at *
        clear HL4 HRd HT
        go_wp2
        go_ret
        exact ⟨rfl, hgw4.trans hgr⟩

end Go.Proofs.YtjggiameajndgadGreatDoor

/-
  What the program's mend.All returns: an array of the call's own, and how many cells of each stripe were none. Nothing old turns.
-/
namespace Go.Proofs.YtjggiameajndgadGreatDoor
open Go.RowKit

/-- The first k stripes are mended. -/
def mendTo (a : ArrP) : Nat → ArrP
  | 0 => a
  | k + 1 => mendL (mendTo a k) (k : Nat)

theorem mendTo_arr {a : ArrP} (h : Arr a) : ∀ k, Arr (mendTo a k)
  | 0 => h
  | k + 1 => mendL_arr (mendTo_arr h k) _

/-- What the first k have told. -/
def toldTo (a : ArrP) (k : Nat) : List Int := (List.range 3).map fun i => if i < k then (mendN (mendTo a i) (i : Nat) : Int) else 0
def toldC (a : ArrP) (k : Nat) : Array Value := ((toldTo a k).map (Value.int .i64)).toArray

theorem toldC_set (a : ArrP) {k : Nat} (hk : k < 3) : (toldC a k).setIfInBounds k (.int .i64 (mendN (mendTo a k) (k : Nat))) = toldC a (k + 1) := by
  obtain rfl | rfl | rfl : k = 0 ∨ k = 1 ∨ k = 2 := by omega
  all_goals rfl
theorem toldC_size (a : ArrP) (k : Nat) : (toldC a k).size = 3 := by simp [toldC, toldTo]
theorem toldC_all (a : ArrP) : toldC a 3 = ((mendNs a).map (fun (n : Nat) => Value.int .i64 (n : Int))).toArray := rfl

theorem Tryz.made3 (w : World) : (Instr.makeSlice 22 (.int .i64 3) (.int .i64 3)).run Tryz.prog w = .ok (.slice (some ⟨w.heap.size, 0, none⟩) 3 3) (w.alloc (.cells #[.int .i64 0, .int .i64 0, .int .i64 0] 3)) :=
  (run_make_row' (P := Tryz.prog) 22 3 (.int .i64 0) 8 Tryz.underlying22 Tryz.infoI rfl .i64 .i64 3 (by decide) (by decide) w).trans (by rw [show madeCells #[.int .i64 0] 3 = #[Value.int .i64 0, .int .i64 0, .int .i64 0] from Array.toList_inj.1 (toList_madeCells_one _ _)])

theorem K4.set' {w : World} {b k : Nat} {u : Value} {cs : Array Value} {t : TypeId} {mk : Nat × Nat} (hb : w.heap[b]? = some (.cells cs t mk)) (ht : t ≠ 5 ∧ t ≠ 34 ∧ t ≠ 28) (hi : t ≠ 78) : K4 w (w.setCell ⟨b, k, none⟩ u) := ⟨K3.set hb ht, fun j cs' hj => by
  refine set_other hj fun e => ?_
  subst e
  rw [hb] at hj
  injection hj with hj
  injection hj with _ hj _
  exact hi hj⟩

/-- The boxes of a call: the result, what is mended, what was told. -/
def AllBox (n q t : Nat) (dv iv : Value) (cs : Array Value) (w : World) : Prop := w.heap[n + 1]? = some (.cells #[.slice none 0 0, .slice none 0 0] 27 (0, 0)) ∧ w.heap[q]? = some (.cells #[dv, iv] 27 (0, 0)) ∧ w.heap[t]? = some (.cells cs 3 (0, 0)) ∧ n + 1 < q ∧ q < t

theorem AllBox.grow {n q t : Nat} {dv iv : Value} {cs : Array Value} {w w' : World} (h : AllBox n q t dv iv cs w) (hg : Grow w w') : AllBox n q t dv iv cs w' := ⟨hg.block' h.1, hg.block' h.2.1, hg.block' h.2.2.1, h.2.2.2⟩

theorem AllBox.next {n q t B : Nat} {dv iv dv' iv' u : Value} {cs : Array Value} {bs : List Nat} {a : ArrP} {w w0 : World} (k : Nat) (h : AllBox n q t dv iv cs w) (hO : OwnA B bs w dv' iv' a) (hg : Grow w0 w) (h0 : w0.heap.size = n) :
    AllBox n q t dv' iv' (cs.setIfInBounds k u) (((w.setCell ⟨q, 0, none⟩ dv').setCell ⟨q, 1, none⟩ iv').setCell ⟨t, k, none⟩ u) ∧
    OwnA B bs (((w.setCell ⟨q, 0, none⟩ dv').setCell ⟨q, 1, none⟩ iv').setCell ⟨t, k, none⟩ u) dv' iv' a ∧
    Grow w0 (((w.setCell ⟨q, 0, none⟩ dv').setCell ⟨q, 1, none⟩ iv').setCell ⟨t, k, none⟩ u) := by
  obtain ⟨h1, h2, h3, h4, h5⟩ := h
  have e1 := two_set0 (z := dv') h2
  have e2 := two_set1 (z := iv') e1
  have t2 : ((w.setCell ⟨q, 0, none⟩ dv').setCell ⟨q, 1, none⟩ iv').heap[t]? = some (.cells cs 3 (0, 0)) := set_other (set_other h3 (by omega)) (by omega)
  refine ⟨⟨set_other (set_other (set_other h1 (by omega)) (by omega)) (by omega), set_other e2 (by omega), ?_, h4, h5⟩, ?_, ?_⟩
  · exact heap_setCell_same _ t k _ _ _ t2
  · exact ((hO.k4 (K4.set h2)).k4 (K4.set e1)).k4 (K4.set' t2 (by decide) (by decide))
  · exact ((hg.set (by omega) _).set (by omega) _).set (by omega) _

set_option maxRecDepth 20000 in
set_option maxHeartbeats 6400000 in
theorem mendAll_any (v : Value) (a : ArrP) (w : World) (h : ArrV w v a) (ha : Arr a) :
    Calls Tryz.prog 12 #[v] w fun e w' => ∃ bs dv iv T, e = .returned (.tuple #[.agg #[dv, iv], .slice (some ⟨T, 0, none⟩) 3 3]) ∧ OwnA w.heap.size bs w' dv iv (mendAll a) ∧ w'.heap[T]? = some (.cells ((mendNs a).map (fun (n : Nat) => Value.int .i64 (n : Int))).toArray 3 (0, 0)) ∧ Grow w w' := by
  have harr := h
  obtain ⟨a1, n1, c1, a2, n2, c2, rfl⟩ := h.form
  clear h
  obtain ⟨W, hW⟩ : ∃ W, W = (w.alloc (.cells #[.slice a1 n1 c1, .slice a2 n2 c2] 27)).alloc (.cells #[.slice none 0 0, .slice none 0 0] 27) := ⟨_, rfl⟩
  have hgW : Grow w W := by rw [hW]; exact (Grow.alloc _ _).trans (Grow.alloc _ _)
  have H1 : W.heap[w.heap.size]? = some (.cells #[.slice a1 n1 c1, .slice a2 n2 c2] 27 (0, 0)) := by rw [hW]; exact (heap_alloc_old _ _ (by simp)).trans (heap_alloc_new w _)
  have HR : Hid (W.heap[w.heap.size + 1]? = some (.cells #[.slice none 0 0, .slice none 0 0] 27 (0, 0))) := by rw [Hid, hW]; exact heap_alloc2_new w _ _
  have k0 := two_at0 H1
  have k1 := two_at1 H1
  have HA : Hid (∀ k, Arr (mendTo a k)) := mendTo_arr ha
  have hOw := own_any (.agg #[.slice a1 n1 c1, .slice a2 n2 c2]) a W (harr.grow hgW) ha.whole ha.short (.inl ha.none)
  clear harr ha H1
  go_enter Tryz.func12, Tryz.ntmps12
  go_wp2_with fail
  rw [← hW]
  clear hW
  refine hOw.mono ?_
  rintro e w1 ⟨bs0, dv0, iv0, rfl, hO, hg1⟩
  clear hOw k0 k1
  obtain ⟨⟨x1, x2, x3, rfl⟩, y1, y2, y3, rfl⟩ := hO.forms
  obtain ⟨q, hq⟩ : ∃ q, q = w1.heap.size := ⟨_, rfl⟩
  have hmk := Tryz.made3 (w1.alloc (.cells #[.slice x1 x2 x3, .slice y1 y2 y3] 27))
  obtain ⟨W2, hW2⟩ : ∃ W2, W2 = (w1.alloc (.cells #[.slice x1 x2 x3, .slice y1 y2 y3] 27)).alloc (.cells #[.int .i64 0, .int .i64 0, .int .i64 0] 3) := ⟨_, rfl⟩
  have hg2 : Grow w1 W2 := by rw [hW2]; exact (Grow.alloc _ _).trans (Grow.alloc _ _)
  have hgw := (hgW.trans hg1).trans hg2
  have HB0 : Hid (AllBox w.heap.size q (q + 1) (.slice x1 x2 x3) (.slice y1 y2 y3) (toldC a 0) W2) := by
    refine ⟨hg2.block' (hg1.block' HR.out), ?_, ?_, ?_, by omega⟩
    · rw [hW2, hq]; exact (heap_alloc_old _ _ (by simp)).trans (heap_alloc_new w1 _)
    · rw [hW2, hq]; exact heap_alloc2_new w1 _ _
    · have := heap_lt HR.out
      have := hg1.size
      omega
  have HO0 : Hid (OwnA w.heap.size bs0 W2 (.slice x1 x2 x3) (.slice y1 y2 y3) (mendTo a 0)) := (hO.k4 hg2.k4).low hgW.size
  clear hO hg1 hg2 hgW HR
  go_wp2
  rw [← hW2, ← hq]
  clear hW2 hq hmk
  go_loopw [12] (fun i wr => ∃ (k : Nat) (dv iv : Value) (bs : List Nat), k ≤ 3 ∧ i = .int .i64 k ∧ (∃ x1 x2 x3, dv = .slice x1 x2 x3) ∧ (∃ x1 x2 x3, iv = .slice x1 x2 x3) ∧ Hid (AllBox w.heap.size q (q + 1) dv iv (toldC a k) wr) ∧ Hid (OwnA w.heap.size bs wr dv iv (mendTo a k)) ∧ Grow w wr) (fun i _ => 3 - (intOf i).toNat)
  case atStart => exact ⟨0, _, _, bs0, by omega, rfl, ⟨_, _, _, rfl⟩, ⟨_, _, _, rfl⟩, HB0, HO0, hgw⟩
  case round =>
    obtain ⟨k, dv, iv, bs, hk, rfl, ⟨d1, d2, d3, rfl⟩, ⟨j1, j2, j3, rfl⟩, HB, HO, hgr⟩ := hrel
    clear HB0 HO0 hgw
    have b0 := two_at0 HB.out.2.1
    have b1 := two_at1 HB.out.2.1
    by_cases hlt : k < 3
    · have hA := HA.out k
      have hSt := mendStripe_any (.agg #[.slice d1 d2 d3, .slice j1 j2 j3]) (mendTo a k) (k : Nat) wr HO.out.arr hA.whole hA.short (.inl hA.none)
      have HTS : Hid ((toldC a k).setIfInBounds k (.int .i64 (mendN (mendTo a k) (k : Nat))) = toldC a (k + 1)) := toldC_set a hlt
      have HM : Hid (mendL (mendTo a k) (k : Nat) = mendTo a (k + 1)) := rfl
      rw [HM.out] at hSt
      generalize mendN (mendTo a k) ((k : Nat) : Int) = bn at *
      generalize mendE (mendTo a k) ((k : Nat) : Int) = E at *
      clear hA
      go_wp2_with fail
      refine hSt.mono ?_
      rintro e w2 ⟨bs2, dv2, iv2, rfl, hO2, hg2⟩
      clear hSt b0 b1
      obtain ⟨⟨p1, p2, p3, rfl⟩, o1, o2, o3, rfl⟩ := hO2.forms
      have hB2 := HB.out.grow hg2
      have hgr2 := hgr.trans hg2
      obtain ⟨hN1, hN2, hN3⟩ := hB2.next (u := .int .i64 (bn : Int)) k (hO2.low hgr.size) hgr2 rfl
      rw [HTS.out] at hN1
      have HN : Hid (AllBox _ _ _ _ _ _ _ ∧ OwnA _ _ _ _ _ _) := ⟨hN1, hN2⟩
      have b0 := two_at0 hB2.2.1
      have b1 := two_at1 hB2.2.1
      have f0 : w2.frozen? ⟨q, 0, none⟩ = false := frozen_of_row w2 _ 0 _ _ hB2.2.1
      have f1 : w2.frozen? ⟨q, 1, none⟩ = false := frozen_of_row w2 _ 1 _ _ hB2.2.1
      obtain ⟨u0, hu0⟩ : ∃ u0, w2.cell? ⟨q + 1, k, none⟩ = some u0 := ⟨(toldC a k)[k]'(by rw [toldC_size]; exact hlt), row_at hB2.2.2.1 k (by simp [toldC_size, hlt])⟩
      have f2 : w2.frozen? ⟨q + 1, k, none⟩ = false := frozen_of_row w2 _ k _ _ hB2.2.2.1
      clear hB2 hN1 hN2 hO2 HB HO HTS
      go_wp2
      go_roundw
      case rel => first | exact ⟨k + 1, _, _, _, by omega, by go_num, ⟨_, _, _, rfl⟩, ⟨_, _, _, rfl⟩, HN.out.1, HN.out.2, hN3⟩ | ((repeat apply Exists.intro); exact ⟨⟨k + 1, _, _, _, by omega, by go_num, ⟨_, _, _, rfl⟩, ⟨_, _, _, rfl⟩, HN.out.1, HN.out.2, hN3⟩, rfl⟩)
      case measure => simp [intOf]; omega
    · have HK : Hid (k = 3) := by rw [Hid]; omega
      have hB3 := HB.out
      have hO3 := HO.out
      rw [HK.out] at hB3 hO3
      obtain ⟨HF, z0, z1⟩ := mend_end hB3.1 hO3 hgr (by omega) (Nat.le_refl _)
      have HT : Hid (((wr.setCell ⟨w.heap.size + 1, 0, none⟩ (.slice d1 d2 d3)).setCell ⟨w.heap.size + 1, 1, none⟩ (.slice j1 j2 j3)).heap[q + 1]? = some (.cells ((mendNs a).map (fun (n : Nat) => Value.int .i64 (n : Int))).toArray 3 (0, 0))) := by
        have := hB3.2.2.2
        rw [Hid, ← toldC_all]
        exact set_other (set_other hB3.2.2.1 (by omega)) (by omega)
      have r0 := two_at0 hB3.1
      have r1 := two_at1 hB3.1
      have f0 : wr.frozen? ⟨w.heap.size + 1, 0, none⟩ = false := frozen_of_row wr _ 0 _ _ hB3.1
      have f1 : wr.frozen? ⟨w.heap.size + 1, 1, none⟩ = false := frozen_of_row wr _ 1 _ _ hB3.1
      have hno : ¬ ((k : Int) < 3) := by omega
      clear hB3 hO3 HB HO hk hlt
      go_wp2
      refine bodyPost_ret (results_two1 Tryz.results12 _ _ (w.heap.size + 1) _ rfl Tryz.underlying27 rfl Tryz.sizeA z0 z1) rfl ?_
      exact ⟨_, _, _, _, rfl, HF.out.1, HT.out, HF.out.2⟩

end Go.Proofs.YtjggiameajndgadGreatDoor

/-
  What the program's mend.Worst returns. Nothing old turns.
-/
namespace Go.Proofs.YtjggiameajndgadGreatDoor
open Go.RowKit

set_option maxRecDepth 20000 in
set_option maxHeartbeats 1600000 in
theorem mendWorst_any (v : Value) (a : ArrP) (w : World) (h : ArrV w v a) (ha : Whole a) (h8 : ∀ d s, (cellAt a d s).length ≤ 8) :
    Calls Tryz.prog 13 #[v] w fun e w' => e = .returned (.int .i64 (worstN a)) ∧ Grow w w' := by
  have harr := h
  obtain ⟨a1, n1, c1, a2, n2, c2, rfl⟩ := h.form
  clear h
  have hgA : Grow w (w.alloc (.cells #[.slice a1 n1 c1, .slice a2 n2 c2] 27)) := Grow.alloc _ _
  have hbl := fun k => badN_le ha k
  go_enter Tryz.func13, Tryz.ntmps13
  go_wp2
  obtain ⟨w1, hw1⟩ : ∃ w1, w1 = w.alloc (.cells #[.slice a1 n1 c1, .slice a2 n2 c2] 27) := ⟨_, rfl⟩
  have k0 : w1.cell? ⟨w.heap.size, 0, none⟩ = some (.slice a1 n1 c1) := by rw [hw1]; simp
  have k1 : w1.cell? ⟨w.heap.size, 1, none⟩ = some (.slice a2 n2 c2) := by rw [hw1]; simp
  rw [← hw1] at hgA ⊢
  clear hw1
  go_loopw [3, 5] (fun m i wr => ∃ (k n : Nat), k ≤ 3 ∧ i = .int .i64 k ∧ m = .int .i64 n ∧ n ≤ 4 ∧ Hid (n = worstTo a k) ∧ Grow w1 wr) (fun _ i _ => 3 - (intOf i).toNat)
  case atStart => exact ⟨0, 0, by omega, rfl, rfl, by omega, rfl, Grow.refl _⟩
  case round =>
    obtain ⟨k, n, hk, rfl, rfl, hn4, HN, hgr⟩ := hrel
    by_cases hlt : k < 3
    · have c0 := hgr.at k0
      have c1 := hgr.at k1
      have hgw := hgA.trans hgr
      clear k0 k1
      go_wp2_with fail
      refine (stripeCells_row _ a k _ (harr.grow hgw) ha h8 hlt).mono ?_
      rintro e w2 ⟨rc, rfl, hrc, hg2⟩
      have hC := hrc.done
      obtain ⟨ac, cc, rfl⟩ := Sl.form hC
      go_wp2_with fail
      refine (stripeBad_any _ _ k _ hC (by rw [cellsL_length, ha.1]) hlt).mono ?_
      rintro e w3 ⟨rb, rfl, hrb, hg3⟩
      obtain ⟨ab, cb, rfl, hb1, hb2⟩ := hrb.form'
      have hlen : (ints (badL (cellsL a k) k)).length = badN a k := by simp [ints, badN]
      rw [hlen] at hb1 ⊢
      have hb4 := hbl k
      have hgr3 := (hgr.trans hg2).trans hg3
      have HS : Hid (worstTo a (k + 1) = if worstTo a k < badN a k then badN a k else worstTo a k) := rfl
      clear hrb hrc hC hlen hbl
      generalize badN a k = bn at *
      have HN' : Hid (max n bn = worstTo a (k + 1)) := by
        rw [Hid, HS.out, ← HN.out]
        split <;> omega
      have hmx : max (n : Int) (bn : Int) = ((max n bn : Nat) : Int) := by omega
      have hm4 : max n bn ≤ 4 := by omega
      go_wp2
      go_roundw
      case rel => first | exact ⟨k + 1, max n bn, by omega, by go_num, rfl, hm4, HN', hgr3⟩ | ((repeat apply Exists.intro); exact ⟨⟨k + 1, max n bn, by omega, by go_num, rfl, hm4, HN', hgr3⟩, rfl⟩)
      case measure => simp [intOf]; omega
    · obtain rfl : k = 3 := by omega
      go_wp2
      go_ret
      exact ⟨ret_int (by rw [HN.out]; rfl), hgA.trans hgr⟩

end Go.Proofs.YtjggiameajndgadGreatDoor
