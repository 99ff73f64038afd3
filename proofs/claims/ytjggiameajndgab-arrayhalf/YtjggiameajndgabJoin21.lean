import Derived.ProofKit
import Derived.OpenShut
import Derived.Deep.Slices
import Derived.Test.YtjggiameajndgabJoin20
/-
  mhlaw8.ArrayHalf returns true, whatever it is handed; nothing old turns.
-/
namespace Go.Proofs.Ytjggiameajndgab
open Go.RowKit

theorem its_none {w : World} {u y1 : Value} {m : ArrP} (h : ArrV w (.agg #[u, y1]) m) (hn : m.is = []) : ∃ p c, y1 = .slice p 0 c := by
  obtain ⟨dv, iv, e, -, hit⟩ := h
  injection e with e
  injection e with e
  injection e with _ e
  injection e with e _
  subst e
  obtain ⟨p, c, e, -⟩ := hit
  rw [hn] at e
  exact ⟨p, c, e⟩

set_option maxRecDepth 20000 in
set_option maxHeartbeats 12800000 in
theorem arrayHalf_walk (v dv : Value) (l : List StepP) (x : DeedP) (n : Int) (w : World) (h : Stps w v l) (ho : ∀ s ∈ l, Octets s.d.d) (hd : DeedV w dv x) :
    Calls Try.prog 12 #[v, dv, .int .i64 n] w fun e w' => e = .returned (.bool true) ∧ Grow w w' := by
  have HDV : Hid (DeedV w dv x) := hd
  obtain ⟨tv, rfl, hb⟩ := hd
  have hxo : Octets x.d := hb.octets
  obtain ⟨d1, d2, d3, rfl⟩ := hb.form
  clear hb
  obtain ⟨W, hW⟩ : ∃ W, W = w.alloc (.cells #[.int .i64 x.k, .int .i64 x.n, .int .i64 x.m, .slice d1 d2 d3] 25) := ⟨_, rfl⟩
  have hgW : Grow w W := by rw [hW]; exact Grow.alloc _ _
  have hbW : W.heap[w.heap.size]? = some (.cells #[.int .i64 x.k, .int .i64 x.n, .int .i64 x.m, .slice d1 d2 d3] 25 (0, 0)) := by rw [hW]; exact heap_alloc_new w _
  have q0 : W.cell? ⟨w.heap.size, 0, none⟩ = some (.int .i64 x.k) := row_at hbW 0 rfl
  have q1 : W.cell? ⟨w.heap.size, 1, none⟩ = some (.int .i64 x.n) := row_at hbW 1 rfl
  have q2 : W.cell? ⟨w.heap.size, 2, none⟩ = some (.int .i64 x.m) := row_at hbW 2 rfl
  have q3 : W.cell? ⟨w.heap.size, 3, none⟩ = some (.slice d1 d2 d3) := row_at hbW 3 rfl
  obtain ⟨D, hI⟩ := gently_inv ho
  go_enter Try.func12, Try.ntmps12
  go_wp2_with fail
  rw [← hW]
  clear hW hbW
  refine (alive8_any W).mono ?_
  rintro e w1 ⟨rfl, hg1⟩
  go_wp2_with fail
  refine (refGently_any v l w1 (h.grow (hgW.trans hg1))).mono ?_
  rintro e w4 ⟨ra, rfl, hra, hg4⟩
  obtain ⟨a1, n1, c1, a2, n2, c2, rfl⟩ := hra.form
  generalize gentlyL l = a at *
  have HI : Hid (Inv a D ∧ Octets x.d) := ⟨hI, hxo⟩
  have hA := hI.arr
  clear hI hxo ho h
  obtain ⟨W4, hW4⟩ : ∃ W4, W4 = w4.alloc (.cells #[.slice a1 n1 c1, .slice a2 n2 c2] 39) := ⟨_, rfl⟩
  obtain ⟨b9, hb9⟩ : ∃ b9, b9 = w4.heap.size := ⟨_, rfl⟩
  have hgA : Grow w4 W4 := by rw [hW4]; exact Grow.alloc _ _
  have hB9 : W4.heap[b9]? = some (.cells #[.slice a1 n1 c1, .slice a2 n2 c2] 39 (0, 0)) := by rw [hW4, hb9]; exact heap_alloc_new w4 _
  have k0 := two_at0 hB9
  have k1 := two_at1 hB9
  have HA : Hid (ArrV W4 (.agg #[.slice a1 n1 c1, .slice a2 n2 c2]) a ∧ Arr a) := ⟨hra.grow hgA, hA⟩
  have hg04 := (hg1.trans hg4).trans hgA
  have e0 := hg04.at q0
  have e1 := hg04.at q1
  have e2 := hg04.at q2
  have e3 := hg04.at q3
  have hgw4 := hgW.trans hg04
  have HDd : Hid (∀ w', Grow W4 w' → DeedV w' (.agg #[.int .i64 x.k, .int .i64 x.n, .int .i64 x.m, .slice d1 d2 d3]) x) := fun w' hg => HDV.out.grow (hgw4.trans hg)
  have hBl := refBlocks_any (.agg #[.slice a1 n1 c1, .slice a2 n2 c2]) a W4 HA.out.1 hA.whole
  have hPl := fun w' hg => arrPlan_any (.agg #[.slice a1 n1 c1, .slice a2 n2 c2]) (.agg #[.int .i64 x.k, .int .i64 x.n, .int .i64 x.m, .slice d1 d2 d3]) a x w' (HA.out.1.grow hg) hA.whole hA.short (HDd.out w' hg)
  obtain ⟨E, hE⟩ : ∃ E, planE a x = E := ⟨_, rfl⟩
  have HE : Hid (planE a x = E) := hE
  rw [hE] at hPl
  clear hE q0 q1 q2 q3 hra hA hB9 hg1 hg4 hgA HDV
  generalize blkE a = E2 at *
  subst hW4
  go_wp2_with fail
  rw [← hb9]
  refine hBl.mono ?_
  rintro e w5 ⟨r5, rfl, hr5, hg5⟩
  clear hBl hb9
  generalize w4.alloc (.cells #[.slice a1 n1 c1, .slice a2 n2 c2] 39) = W4 at *
  have HR5 : Hid (Bss w5 r5 (blkL a)) := hr5
  obtain ⟨t1, t2, rfl⟩ := Sl.form hr5
  generalize (blkL a).length = L5 at *
  have k0' := hg5.at k0
  have k1' := hg5.at k1
  have f0 := hg5.at e0
  have f1 := hg5.at e1
  have f2 := hg5.at e2
  have f3 := hg5.at e3
  clear hr5
  go_wp2_with fail
  refine (hPl _ hg5).mono ?_
  rintro e w6 ⟨rD, rfl, hrD, hg6⟩
  clear hPl f0 f1 f2 f3 k0' k1'
  obtain ⟨cD, rfl, hcD⟩ := hrD
  obtain ⟨l1, l3, rfl⟩ : ∃ p c, cD = .slice p (planI a x).2.length c := by
    obtain ⟨p, c, e⟩ := hcD.form
    exact ⟨_, _, e⟩
  by_cases hE0 : E = 0
  · subst hE0
    obtain ⟨s, cs, hi, hs3, hc4, hc8⟩ := planI_yes HA.out.2.whole HE.out
    obtain ⟨hw0, hm1, hm2, hm3⟩ := half_plain HI.out.1 HI.out.2 HE.out n
    obtain ⟨-, -, -, hm4⟩ := model_yes HI.out.1 hw0 HI.out.2
    rw [hi] at hcD hm1 hm2 hm3 ⊢
    simp only at hcD ⊢
    obtain ⟨l2, hl2⟩ : ∃ l2, l2 = cs.length := ⟨_, rfl⟩
    rw [← hl2] at hcD ⊢
    clear hl2
    have hcD : Bss w6 (.slice l1 l2 l3) cs := hcD
    obtain ⟨W6, hW6⟩ : ∃ W6, W6 = w6.alloc (.cells #[.int .i64 s, .slice l1 l2 l3] 62) := ⟨_, rfl⟩
    obtain ⟨b11, hb11⟩ : ∃ b11, b11 = w6.heap.size := ⟨_, rfl⟩
    have hgB : Grow w6 W6 := by rw [hW6]; exact Grow.alloc _ _
    have hB11 : W6.heap[b11]? = some (.cells #[.int .i64 s, .slice l1 l2 l3] 62 (0, 0)) := by rw [hW6, hb11]; exact heap_alloc_new w6 _
    have m0 := two_at0 hB11
    have m1 := two_at1 hB11
    have hg56 := hg6.trans hgB
    have hg46 := hg5.trans hg56
    have f0 := hg46.at k0
    have f1 := hg46.at k1
    have hWr := write_any (.agg #[.slice a1 n1 c1, .slice a2 n2 c2]) (.agg #[.int .i64 s, .slice l1 l2 l3]) a s cs n W6 (HA.out.1.grow hg46) HA.out.2.whole HA.out.2.short (.inl HA.out.2.none) ⟨_, rfl, hcD.grow hgB⟩ hs3 hc4 hc8
    obtain ⟨hwl, hw8, hwf⟩ := writeL_few HA.out.2 s cs hs3 hc4 hc8 n
    have hMt := fun v w' hv => mount_any v (writeL a ((s : Int), cs) n) w' hv hwl hw8 hwf
    have HM : Hid (Arr (mountL (writeL a ((s : Int), cs) n))) := by
      have := fallA_arr HA.out.2 x n
      rw [fallA, if_pos HE.out, hi] at this
      exact this
    have HC : Hid (blkE (mountL (writeL a ((s : Int), cs) n)) = 0 ∧ wrongE x = 0 ∧ (blkL a).length = 9 ∧ (blkL (mountL (writeL a ((s : Int), cs) n)) = blkL a ∨ blkL (mountL (writeL a ((s : Int), cs) n)) = doL (blkL a) x)) := ⟨hm1, hw0, hm4, hm3⟩
    clear hi hwl hw8 hwf hm1 hm2 hm3 hm4 hw0 hcD hB11 hgB hg6 hc4 hc8 hs3
    generalize mountL (writeL a ((s : Int), cs) n) = mt at *
    generalize writeL a ((s : Int), cs) n = wl at *
    subst hW6
    go_wp2_with fail
    rw [← hb11]
    refine hWr.mono ?_
    rintro e w7 ⟨bs7, dv7, iv7, rfl, hO7, hg7⟩
    clear hWr hb11
    generalize w6.alloc (.cells #[.int .i64 s, .slice l1 l2 l3] 62) = W6 at *
    have hMt' := hMt _ w7 hO7.arr
    clear hMt hO7
    go_wp2_with fail
    refine hMt'.mono ?_
    rintro e w8 ⟨bs8, dv8, iv8, rfl, hO8, hg8⟩
    clear hMt'
    obtain ⟨⟨x1, x2, x3, rfl⟩, y1, y2, y3, rfl⟩ := hO8.forms
    obtain ⟨W8, hW8⟩ : ∃ W8, W8 = w8.alloc (.cells #[.slice x1 x2 x3, .slice y1 y2 y3] 39) := ⟨_, rfl⟩
    obtain ⟨b12, hb12⟩ : ∃ b12, b12 = w8.heap.size := ⟨_, rfl⟩
    have hgC : Grow w8 W8 := by rw [hW8]; exact Grow.alloc _ _
    have hB12 : W8.heap[b12]? = some (.cells #[.slice x1 x2 x3, .slice y1 y2 y3] 39 (0, 0)) := by rw [hW8, hb12]; exact heap_alloc_new w8 _
    obtain ⟨p, c, ey⟩ := its_none hO8.arr HM.out.none
    injection ey with ey1 ey2 ey3
    subst ey1 ey2 ey3
    have i0 := two_at0 hB12
    have i1 := two_at1 hB12
    have hBx := arrBlocks_any (.agg #[.slice x1 x2 x3, .slice y1 0 y3]) mt W8 (hO8.arr.grow hgC) HM.out.whole HM.out.short
    rw [HC.out.1] at hBx
    have hg68 := (hg7.trans hg8).trans hgC
    clear hO8 hB12 hg7 hg8 hgC
    subst hW8
    go_wp2_with fail
    rw [← hb12]
    refine hBx.mono ?_
    rintro e w9 ⟨r9, rfl, hr9, hg9⟩
    clear hBx hb12
    generalize w8.alloc (.cells #[.slice x1 x2 x3, .slice y1 0 y3] 39) = W8 at *
    have hg69 := hg68.trans hg9
    have hg49 := hg46.trans hg69
    have hg59 := hg56.trans hg69
    have j0 := hg9.at i0
    have j1 := hg9.at i1
    have hSm := refSame_any r9 (.slice t1 L5 t2) (blkL mt) (blkL a) w9 hr9 (HR5.out.grow hg59)
    by_cases hc : blkL mt = blkL a
    · rw [show (blkL mt == blkL a) = true from by simpa using hc] at hSm
      clear hc
      go_wp2_with fail
      refine hSm.mono ?_
      rintro e wA ⟨rfl, hgA⟩
      go_wp2
      go_ret
      exact ⟨rfl, (hgw4.trans hg49).trans hgA⟩
    · have hdo : blkL mt = doL (blkL a) x := HC.out.2.2.2.resolve_left hc
      rw [show (blkL mt == blkL a) = false from by simpa using hc] at hSm
      have HR9 : Hid (Bss w9 r9 (doL (blkL a) x)) := by rw [Hid, ← hdo]; exact hr9
      clear hc hdo hr9
      go_wp2_with fail
      refine hSm.mono ?_
      rintro e wA ⟨rfl, hgA⟩
      clear hSm
      have hg4A := hg49.trans hgA
      have g0 := hg4A.at e0
      have g1 := hg4A.at e1
      have g2 := hg4A.at e2
      have g3 := hg4A.at e3
      have hRd := refDo_any (.slice t1 L5 t2) (.agg #[.int .i64 x.k, .int .i64 x.n, .int .i64 x.m, .slice d1 d2 d3]) (blkL a) x wA (HR5.out.grow (hg59.trans hgA)) (HDd.out _ hg4A) HC.out.2.2.1 HC.out.2.1
      go_wp2_with fail
      refine hRd.mono ?_
      rintro e wB ⟨rB, rfl, hrB, hgB⟩
      clear hRd g0 g1 g2 g3
      go_wp2_with fail
      refine (refSame_eq r9 rB (doL (blkL a) x) wB (HR9.out.grow (hgA.trans hgB)) hrB).mono ?_
      rintro e wC ⟨rfl, hgC⟩
      go_wp2
      go_ret
      exact ⟨rfl, ((hgw4.trans hg4A).trans hgB).trans hgC⟩
  · have he' : (E != 0) = true := by simpa using hE0
    have hpn : (planI a x).2 = [] := plan_no (by rw [HE.out]; exact hE0)
    rw [hpn]
    clear hpn hcD
    generalize (planI a x).1 = I1 at *
    obtain ⟨W6, hW6⟩ : ∃ W6, W6 = w6.alloc (.cells #[.int .i64 I1, .slice l1 0 l3] 62) := ⟨_, rfl⟩
    obtain ⟨b11, hb11⟩ : ∃ b11, b11 = w6.heap.size := ⟨_, rfl⟩
    have hgB : Grow w6 W6 := by rw [hW6]; exact Grow.alloc _ _
    have hB11 : W6.heap[b11]? = some (.cells #[.int .i64 I1, .slice l1 0 l3] 62 (0, 0)) := by rw [hW6, hb11]; exact heap_alloc_new w6 _
    have m0 := two_at0 hB11
    have m1 := two_at1 hB11
    have hgw6 := hgw4.trans ((hg5.trans hg6).trans hgB)
    have hgG : Grow w (w6.alloc (.cells #[.int .i64 I1, .slice l1 0 l3] 62)) := by rw [← hW6]; exact hgw6
    rw [hb11, hW6] at m0 m1
    simp only [List.length_nil]
    go_wp2
    go_ret
    exact ⟨rfl, hgG⟩

end Go.Proofs.Ytjggiameajndgab

/-
  How an argument that is a slice of bytes is read: by its cells, and within the reach of the row.
-/
namespace Go.Proofs.Ytjggiameajndgab
open Go.ChangeShapes Go.WideShapes Go.ChangeAt Go.RowKit

theorem wf_octet {n : Int} (h : (Lit.int .u8 n).wf = true) : 0 ≤ n ∧ n ≤ 255 := by
  have := bounds_u8 h
  omega

/-- A slice of bytes that came in: what it reads as. -/
theorem open_bs {P : Program} {H : Type} {enc : TypeId × Value → H} {W : World} {base : Nat} {sp : Nat → Bool} {held : Bool} {t e : TypeId} {v : Value} {d : DataW H} {p : List MemPlace}
    (ht : P.underlying t = some (.slice e)) (he : P.underlying e = some (.int .u8)) (hc : P.cellsOf e = 1) {b0 : Nat} (hv : Value.okWide P W .any b0 t v)
    (h : DataW.Trod enc P W base sp held t v d p) :
    ∃ l, Bs W v l ∧ (l = [] ∨ ∃ elems spare, d = .slice elems spare ∧ l.length ≤ elems.length + spare.length) := by
  obtain ⟨a0, len0, cap0, rfl⟩ := okWide_slice ht hv
  obtain ⟨fuel, hf⟩ := h
  rcases open_ints ht he hc hf with ⟨hcs, _⟩ | ⟨x, l, c, zs, hcs, _, hl, hm, hz, hx, hcell, hwz⟩
  · simp [Value.cells] at hcs
    obtain ⟨rfl, rfl, rfl⟩ := hcs
    exact ⟨[], Bs.nil W, .inl rfl⟩
  · simp [Value.cells] at hcs
    obtain ⟨rfl, rfl, rfl⟩ := hcs
    have hlz : len0 ≤ zs.length := by rw [hz]; split <;> omega
    have hlen : (zs.take len0).length = len0 := by simp; omega
    refine ⟨zs.take len0, ⟨some x, cap0, by rw [hlen], by omega, hm, (fun h => nomatch h), fun n hn => wf_octet (hwz n (List.mem_of_mem_take hn)), fun hp => ?_⟩, .inr ?_⟩
    · rw [hlen] at hp
      obtain ⟨b, off, spot⟩ := x
      have hspot : spot = none := by simpa [Addr.add] using World.cell?_spot (hcell 0 (by omega))
      subst hspot
      refine ⟨b, off, rfl, fun i hi => ?_⟩
      rw [hlen] at hi
      have hplain : (⟨b, off, none⟩ : Addr).add i = ⟨b, off + i, none⟩ := by unfold Addr.add; split <;> simp_all
      rw [← hplain, hcell i (by omega)]
      simp [List.getD_eq_getElem?_getD, hi]
    · simp only [Prod.mk.injEq] at hx
      exact ⟨_, _, hx.1, by simp [lits]⟩

end Go.Proofs.Ytjggiameajndgab

/-
  How arguments that are deeds, steps, and slices of steps are read.
-/
namespace Go.Proofs.Ytjggiameajndgab
open Go.ChangeShapes Go.WideShapes Go.ChangeAt Go.RowKit

theorem four_of {α : Type} {cs : List α} (h : cs.length = 4) : ∃ c0 c1 c2 c3, cs = [c0, c1, c2, c3] := by
  match cs, h with
  | [c0, c1, c2, c3], _ => exact ⟨_, _, _, _, rfl⟩
theorem seven_of {α : Type} {cs : List α} (h : cs.length = 7) : ∃ c0 c1 c2 c3 c4 c5 c6, cs = [c0, c1, c2, c3, c4, c5, c6] := by
  match cs, h with
  | [c0, c1, c2, c3, c4, c5, c6], _ => exact ⟨_, _, _, _, _, _, _, rfl⟩

section
variable {H : Type} {enc : TypeId × Value → H} {W : World} {base : Nat} {sp : Nat → Bool} {held : Bool}

/-- Fields of a struct, each with its own reading. -/
theorem field_at {P : Program} {fuel : Nat} {t : TypeId} {cs : List Value} {x : DataW H × List MemPlace} {fs : Array Field} (ht : P.underlying t = some (.struct fs)) (h : DataW.trod enc P W base sp held fuel t cs = some x) :
    cs.length = P.cellsOf t ∧ ∀ (i : Nat) (f : Field), fs[i]? = some f → ∃ n y, DataW.trod enc P W base sp held n f.type ((cs.drop f.offset).take (P.cellsOf f.type)) = some y := by
  obtain ⟨xs, n, -, -, hlen, hxl, hf⟩ := DataW.trod_struct ht h
  refine ⟨hlen, fun i f hi => ?_⟩
  have hlt : i < fs.size := (Array.getElem?_eq_some_iff.1 hi).1
  have := hf i f hi
  rw [List.getElem?_eq_getElem (by omega)] at this
  exact ⟨n, _, this⟩

theorem Try.cellsDeed : Try.prog.cellsOf 25 = 4 := by kernel_rfl
theorem Try.cellsInt : Try.prog.cellsOf 3 = 1 := by kernel_rfl
theorem Try.cellsBs : Try.prog.cellsOf 23 = 1 := by kernel_rfl
theorem Try.cellsB : Try.prog.cellsOf 5 = 1 := by kernel_rfl

theorem int_cell {n : Nat} {c : Value} {y : DataW H × List MemPlace} (h : DataW.trod enc Try.prog W base sp held n 3 [c] = some y) : ∃ k, c = .int .i64 k ∧ (Lit.int .i64 k).wf = true := by
  obtain ⟨k, e, -, hw⟩ := DataW.trod_int Try.underlying3 h
  exact ⟨k, by simpa using e, hw⟩

set_option maxRecDepth 20000 in
/-- Cells of a deed. -/
theorem deed_cells {fuel : Nat} {cs : List Value} {x : DataW H × List MemPlace} (h : DataW.trod enc Try.prog W base sp held fuel 25 cs = some x) :
    ∃ (y : DeedP) (dv : Value), cs = [.int .i64 y.k, .int .i64 y.n, .int .i64 y.m, dv] ∧ Bs W dv y.d ∧ (Lit.int .i64 y.k).wf = true ∧ (Lit.int .i64 y.n).wf = true ∧ (Lit.int .i64 y.m).wf = true := by
  obtain ⟨hlen, hf⟩ := field_at Try.underlying25 h
  rw [Try.cellsDeed] at hlen
  obtain ⟨c0, c1, c2, c3, rfl⟩ := four_of hlen
  have g0 := hf 0 _ rfl
  have h0 : ∃ n y, DataW.trod enc Try.prog W base sp held n 3 (([c0, c1, c2, c3].drop 0).take (Try.prog.cellsOf 3)) = some y := g0
  rw [Try.cellsInt] at h0
  obtain ⟨m0, y0, f0⟩ := h0
  have g1 := hf 1 _ rfl
  have h1 : ∃ n y, DataW.trod enc Try.prog W base sp held n 3 (([c0, c1, c2, c3].drop 1).take (Try.prog.cellsOf 3)) = some y := g1
  rw [Try.cellsInt] at h1
  obtain ⟨m1, y1, f1⟩ := h1
  have g2 := hf 2 _ rfl
  have h2 : ∃ n y, DataW.trod enc Try.prog W base sp held n 3 (([c0, c1, c2, c3].drop 2).take (Try.prog.cellsOf 3)) = some y := g2
  rw [Try.cellsInt] at h2
  obtain ⟨m2, y2, f2⟩ := h2
  have g3 := hf 3 _ rfl
  have h3 : ∃ n y, DataW.trod enc Try.prog W base sp held n 23 (([c0, c1, c2, c3].drop 3).take (Try.prog.cellsOf 23)) = some y := g3
  rw [Try.cellsBs] at h3
  obtain ⟨m3, y3, f3⟩ := h3
  obtain ⟨k, rfl, hk⟩ := int_cell f0
  obtain ⟨n, rfl, hn⟩ := int_cell f1
  obtain ⟨m, rfl, hm⟩ := int_cell f2
  obtain ⟨l, hl⟩ := bs_of_trod Try.underlying23 Try.underlying5 Try.cellsB f3
  exact ⟨⟨k, n, m, l⟩, _, rfl, hl, hk, hn, hm⟩

set_option maxRecDepth 20000 in
/-- A deed that is an argument. -/
theorem open_deed {v : Value} {d : DataW H} {p : List MemPlace} {b0 : Nat} (hv : Value.okWide Try.prog W .any b0 25 v) (h : DataW.Trod enc Try.prog W base sp held 25 v d p) :
    ∃ y : DeedP, DeedV W v y ∧ (-9223372036854775808 ≤ y.n ∧ y.n ≤ 9223372036854775807) ∧ (-9223372036854775808 ≤ y.m ∧ y.m ≤ 9223372036854775807) := by
  obtain ⟨fuel, hf⟩ := h
  unfold Value.okWide at hv
  rw [Try.underlying25] at hv
  obtain ⟨cs, rfl, -, -⟩ := hv
  obtain ⟨y, dv, e, hb, -, hn, hm⟩ := deed_cells hf
  have e' : cs = #[.int .i64 y.k, .int .i64 y.n, .int .i64 y.m, dv] := Array.toList_inj.1 e
  exact ⟨y, ⟨dv, by rw [e'], hb⟩, bounds_i64 hn, bounds_i64 hm⟩

end

end Go.Proofs.Ytjggiameajndgab

/-
  How arguments that are steps, and slices of steps, are read.
-/
namespace Go.Proofs.Ytjggiameajndgab
open Go.ChangeShapes Go.WideShapes Go.ChangeAt Go.RowKit

section
variable {H : Type} {enc : TypeId × Value → H} {W : World} {base : Nat} {sp : Nat → Bool} {held : Bool}

theorem Try.cellsStep : Try.prog.cellsOf 82 = 7 := by kernel_rfl

set_option maxRecDepth 20000 in
/-- Cells of a step. -/
theorem step_cells {fuel : Nat} {cs : List Value} {x : DataW H × List MemPlace} (h : DataW.trod enc Try.prog W base sp held fuel 82 cs = some x) :
    ∃ (y : StepP) (dv : Value), cs = [.int .i64 y.k, .int .i64 y.n, .int .i64 y.m, .int .i64 y.d.k, .int .i64 y.d.n, .int .i64 y.d.m, dv] ∧ Bs W dv y.d.d ∧ y.n ≤ 9223372036854775807 := by
  obtain ⟨hlen, hf⟩ := field_at Try.underlying82 h
  rw [Try.cellsStep] at hlen
  obtain ⟨c0, c1, c2, c3, c4, c5, c6, rfl⟩ := seven_of hlen
  have g0 := hf 0 _ rfl
  have h0 : ∃ n y, DataW.trod enc Try.prog W base sp held n 3 (([c0, c1, c2, c3, c4, c5, c6].drop 0).take (Try.prog.cellsOf 3)) = some y := g0
  rw [Try.cellsInt] at h0
  obtain ⟨m0, y0, f0⟩ := h0
  have g1 := hf 1 _ rfl
  have h1 : ∃ n y, DataW.trod enc Try.prog W base sp held n 3 (([c0, c1, c2, c3, c4, c5, c6].drop 1).take (Try.prog.cellsOf 3)) = some y := g1
  rw [Try.cellsInt] at h1
  obtain ⟨m1, y1, f1⟩ := h1
  have g2 := hf 2 _ rfl
  have h2 : ∃ n y, DataW.trod enc Try.prog W base sp held n 3 (([c0, c1, c2, c3, c4, c5, c6].drop 2).take (Try.prog.cellsOf 3)) = some y := g2
  rw [Try.cellsInt] at h2
  obtain ⟨m2, y2, f2⟩ := h2
  have g3 := hf 3 _ rfl
  have h3 : ∃ n y, DataW.trod enc Try.prog W base sp held n 25 (([c0, c1, c2, c3, c4, c5, c6].drop 3).take (Try.prog.cellsOf 25)) = some y := g3
  rw [Try.cellsDeed] at h3
  obtain ⟨m3, y3, f3⟩ := h3
  obtain ⟨k, rfl, -⟩ := int_cell f0
  obtain ⟨n, rfl, hn⟩ := int_cell f1
  obtain ⟨m, rfl, -⟩ := int_cell f2
  obtain ⟨y, dv, e, hb, -⟩ := deed_cells f3
  simp only [List.drop_succ_cons, List.drop_zero, List.take_succ_cons, List.take_zero, List.cons.injEq, and_true] at e
  obtain ⟨rfl, rfl, rfl, rfl⟩ := e
  exact ⟨⟨k, n, m, y⟩, _, rfl, hb, (bounds_i64 hn).2⟩

set_option maxRecDepth 20000 in
/-- A step that is an argument. -/
theorem open_step {v : Value} {d : DataW H} {p : List MemPlace} {b0 : Nat} (hv : Value.okWide Try.prog W .any b0 82 v) (h : DataW.Trod enc Try.prog W base sp held 82 v d p) : ∃ y : StepP, StepV W v y := by
  obtain ⟨fuel, hf⟩ := h
  unfold Value.okWide at hv
  rw [Try.underlying82] at hv
  obtain ⟨cs, rfl, -, -⟩ := hv
  obtain ⟨y, dv, e, hb, hn⟩ := step_cells hf
  have e' : cs = #[.int .i64 y.k, .int .i64 y.n, .int .i64 y.m, .int .i64 y.d.k, .int .i64 y.d.n, .int .i64 y.d.m, dv] := Array.toList_inj.1 e
  exact ⟨y, dv, by rw [e'], hb, hn⟩

theorem addr_plain (b o j : Nat) : (⟨b, o, none⟩ : Addr).add j = ⟨b, o + j, none⟩ := by unfold Addr.add; split <;> simp_all

set_option maxRecDepth 20000 in
/-- Steps that are an argument. -/
theorem open_steps {v : Value} {d : DataW H} {p : List MemPlace} {b0 : Nat} (hv : Value.okWide Try.prog W .any b0 35 v) (h : DataW.Trod enc Try.prog W base sp held 35 v d p) : ∃ l : List StepP, Stps W v l ∧ ∀ s ∈ l, Octets s.d.d := by
  obtain ⟨a0, len0, cap0, rfl⟩ := okWide_slice Try.underlying35 hv
  obtain ⟨fuel, hf⟩ := h
  rcases Go.Deep.open_slice Try.underlying35 (by simpa [Value.cells] using hf) with ⟨hcs, _⟩ | ⟨a, len, cap, m, n, D, Pl, hcs, hb, hl, hm, hmm, hx, hV⟩
  · simp at hcs
    obtain ⟨rfl, rfl, rfl⟩ := hcs
    exact ⟨[], ⟨none, 0, rfl, Nat.le_refl _, Nat.zero_le _, fun _ => rfl, fun h => by simp at h⟩, fun s hs => by simp at hs⟩
  · simp at hcs
    obtain ⟨rfl, rfl, rfl⟩ := hcs
    have hlm : len0 ≤ m := by rw [hmm]; split <;> omega
    rw [Try.cellsStep] at hV
    have hch : ∀ i : Nat, ∃ y : StepP, i < len0 → ∃ dv, Bs W dv y.d.d ∧ y.n ≤ 9223372036854775807 ∧ ∀ j : Nat, j < 7 → W.cell? ((a.add (i * 7)).add j) = [Value.int .i64 y.k, .int .i64 y.n, .int .i64 y.m, .int .i64 y.d.k, .int .i64 y.d.n, .int .i64 y.d.m, dv][j]? := fun i => by
      by_cases hi : i < len0
      · obtain ⟨cs', hc, ht⟩ := hV i (by omega)
        obtain ⟨y, dv, rfl, hb, hn⟩ := step_cells ht
        obtain ⟨-, -, hcell⟩ := World.cells?_some hc
        exact ⟨y, fun _ => ⟨dv, hb, hn, hcell⟩⟩
      · exact ⟨⟨0, 0, 0, ⟨0, 0, 0, []⟩⟩, fun h => absurd h hi⟩
    obtain ⟨f, hf'⟩ : ∃ f : Nat → StepP, ∀ i, i < len0 → ∃ dv, Bs W dv (f i).d.d ∧ (f i).n ≤ 9223372036854775807 ∧ ∀ j : Nat, j < 7 → W.cell? ((a.add (i * 7)).add j) = [Value.int .i64 (f i).k, .int .i64 (f i).n, .int .i64 (f i).m, .int .i64 (f i).d.k, .int .i64 (f i).d.n, .int .i64 (f i).d.m, dv][j]? := ⟨fun i => (hch i).choose, fun i => (hch i).choose_spec⟩
    clear hch hV
    by_cases hp : 0 < len0
    · obtain ⟨b, off, spot⟩ := a
      have hspot : spot = none := by
        obtain ⟨dv, -, -, hc⟩ := hf' 0 hp
        have := World.cell?_spot (hc 0 (by omega))
        simpa [Addr.add] using this
      subst hspot
      refine ⟨(List.range len0).map f, ⟨some ⟨b, off, none⟩, cap0, by simp, by simpa using hl, hm, (fun h => nomatch h), fun _ => ⟨b, off, rfl, fun i s hs => ?_⟩⟩, fun s hs => ?_⟩
      · obtain ⟨hi, e⟩ := List.getElem?_eq_some_iff.1 hs
        have hi' : i < len0 := by simpa using hi
        have e' : s = f i := by rw [← e]; simp
        subst e'
        obtain ⟨dv, hb, hn, hc⟩ := hf' i hi'
        have hc' : ∀ j : Nat, j < 7 → W.cell? ⟨b, off + i * 7 + j, none⟩ = [Value.int .i64 (f i).k, .int .i64 (f i).n, .int .i64 (f i).m, .int .i64 (f i).d.k, .int .i64 (f i).d.n, .int .i64 (f i).d.m, dv][j]? := fun j hj => by rw [← hc j hj, addr_plain, addr_plain]
        exact ⟨dv, hc' 0 (by omega), hc' 1 (by omega), hc' 2 (by omega), hc' 3 (by omega), hc' 4 (by omega), hc' 5 (by omega), hc' 6 (by omega), hb, hn⟩
      · obtain ⟨i, hi, rfl⟩ := List.mem_map.1 hs
        obtain ⟨dv, hb, -, -⟩ := hf' i (List.mem_range.1 hi)
        exact hb.octets
    · obtain rfl : len0 = 0 := by omega
      exact ⟨[], ⟨some a, cap0, rfl, Nat.zero_le _, hm, (fun h => nomatch h), fun h => by simp at h⟩, fun s hs => by simp at hs⟩

end

end Go.Proofs.Ytjggiameajndgab
