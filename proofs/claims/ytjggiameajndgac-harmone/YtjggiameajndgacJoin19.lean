import Derived.ProofKit
import Derived.OpenShut
import Derived.Deep.Slices
import Derived.Test.YtjggiameajndgacJoin18
/-
  mhlaw10.HarmOne returns true, whatever it is handed; nothing old turns.
-/
namespace Go.Proofs.Ytjggiameajndgac
open Go.RowKit

theorem harm_rot {a : ArrP} {D : Nat → List (List Int)} (h : Inv a D) (h0 : worstN a = 0) (d s k : Int) : (rotE a d s k ≠ 0 → rotL a d s k = a) ∧ (rotE a d s k = 0 → blkE (rotL a d s k) = 0 ∧ blkL (rotL a d s k) = blkL a ∧ ((worstN (rotL a d s k) : Nat) : Int) = 1) := by
  by_cases hk : rotOk a d s k
  · refine ⟨fun he => absurd (if_pos hk) he, fun _ => ?_⟩
    obtain ⟨h1, h2⟩ := rot_one h h0 hk
    exact ⟨h2.blocks.1, h2.blocks.2.trans h.blocks.2.symm, by rw [h1]; rfl⟩
  · exact ⟨fun _ => if_neg hk, fun he => by rw [rotE, if_neg hk] at he; exact absurd he (by decide)⟩

theorem harm_gone {a : ArrP} {D : Nat → List (List Int)} (h : Inv a D) (h0 : worstN a = 0) (d : Int) : (goneE d ≠ 0 → goneL a d = a) ∧ (goneE d = 0 → blkE (goneL a d) = 0 ∧ blkL (goneL a d) = blkL a ∧ ((worstN (goneL a d) : Nat) : Int) = 1) := by
  by_cases hk : d < 0 ∨ 3 < d
  · exact ⟨fun _ => if_pos hk, fun he => by rw [goneE, if_pos hk] at he; exact absurd he (by decide)⟩
  · refine ⟨fun he => absurd (if_neg hk) he, fun _ => ?_⟩
    obtain ⟨h1, h2⟩ := gone_one h h0 (d := d) (by omega)
    exact ⟨h2.blocks.1, h2.blocks.2.trans h.blocks.2.symm, by rw [h1]; rfl⟩

set_option maxRecDepth 20000 in
set_option maxHeartbeats 6400000 in
theorem harmOne_walk (v : Value) (l : List StepP) (d s k : Int) (g : Bool) (w : World) (h : Stps w v l) (ho : ∀ s ∈ l, Octets s.d.d) :
    Calls Try.prog 8 #[v, .int .i64 d, .int .i64 s, .int .i64 k, .bool g] w fun e w' => e = .returned (.bool true) ∧ Grow w w' := by
  obtain ⟨D, hI⟩ := gently_inv ho
  go_enter Try.func8, Try.ntmps8
  go_wp2_with fail
  refine (alive10_any w).mono ?_
  rintro e w1 ⟨rfl, hg1⟩
  go_wp2_with fail
  refine (refGently_any v l w1 (h.grow hg1)).mono ?_
  rintro e w2 ⟨ra, rfl, hra, hg2⟩
  obtain ⟨a1, n1, c1, a2, n2, c2, rfl⟩ := hra.form
  generalize gentlyL l = a at *
  have hA := hI.arr
  have HA : Hid (Arr a ∧ Arr (rotL a d s k) ∧ Arr (goneL a d) ∧ blkE a = 0) := ⟨hA, rotL_arr hA d s k, goneL_arr hA d, hI.blocks.1⟩
  have HR : Hid (worstN a = 0 → (rotE a d s k ≠ 0 → rotL a d s k = a) ∧ (rotE a d s k = 0 → blkE (rotL a d s k) = 0 ∧ blkL (rotL a d s k) = blkL a ∧ ((worstN (rotL a d s k) : Nat) : Int) = 1)) := fun h0 => harm_rot hI h0 d s k
  have HG : Hid (worstN a = 0 → (goneE d ≠ 0 → goneL a d = a) ∧ (goneE d = 0 → blkE (goneL a d) = 0 ∧ blkL (goneL a d) = blkL a ∧ ((worstN (goneL a d) : Nat) : Int) = 1)) := fun h0 => harm_gone hI h0 d
  clear hI ho h
  obtain ⟨W2, b1, hW2, hb1, hgA, HB1, k0, k1, HV⟩ := boxed hra
  have hgw2 := (hg1.trans hg2).trans hgA
  have hWo := refWorst_any (.agg #[.slice a1 n1 c1, .slice a2 n2 c2]) a W2 HV.out hA.whole
  have hHi : Hid (w.heap.size ≤ W2.heap.size) := hgw2.size
  clear hra hgA hg1 hg2 hA
  by_cases h0 : worstN a = 0
  · have HR' := HR.out h0
    have HG' := HG.out h0
    rw [h0] at hWo
    have HRG : Hid (_ ∧ _) := ⟨HR', HG'⟩
    clear HR HG HR' HG' h0
    subst hW2
    go_wp2_with fail
    rw [← hb1]
    refine hWo.mono ?_
    rintro e w3 ⟨rfl, hg3⟩
    clear hWo hb1
    generalize w2.alloc (.cells #[.slice a1 n1 c1, .slice a2 n2 c2] 26) = W2 at *
    have hgw3 := hgw2.trans hg3
    have Hk : Hid (W2.cell? ⟨b1, 0, none⟩ = some (.slice a1 n1 c1) ∧ W2.cell? ⟨b1, 1, none⟩ = some (.slice a2 n2 c2)) := ⟨k0, k1⟩
    have j0 := hg3.at k0
    have j1 := hg3.at k1
    have hRo := harmRot_any (.agg #[.slice a1 n1 c1, .slice a2 n2 c2]) a d s k w3 (HV.out.grow hg3) HA.out.1
    obtain ⟨E, hE⟩ : ∃ E, rotE a d s k = E := ⟨_, rfl⟩
    have HE : Hid (rotE a d s k = E) := hE
    rw [hE] at hRo
    clear hE k0 k1
    go_wp2_with fail
    refine hRo.mono ?_
    rintro e w4 ⟨r4, rfl, hr4, hg4⟩
    clear hRo j0 j1
    obtain ⟨x1, x2, x3, y1, y2, y3, rfl⟩ := hr4.form
    obtain ⟨W4, b4, hW4, hb4, hgC, HB4, m0, m1, HX⟩ := boxed hr4
    have hg24 := (hg3.trans hg4).trans hgC
    have hgw4 := hgw2.trans hg24
    have k0 := hg24.at Hk.out.1
    have k1 := hg24.at Hk.out.2
    have Hb4 : Hid (W2.heap.size ≤ b4) := by rw [Hid, hb4]; exact (hg3.trans hg4).size
    clear hr4 hg4 hgC hg3 hgw3
    cases g with
    | false =>
      have HF : Hid ((E ≠ 0 → rotL a d s k = a) ∧ (E = 0 → blkE (rotL a d s k) = 0 ∧ blkL (rotL a d s k) = blkL a ∧ ((worstN (rotL a d s k) : Nat) : Int) = 1) ∧ Arr (rotL a d s k)) := by
        have := HRG.out.1
        rw [HE.out] at this
        exact ⟨this.1, this.2, HA.out.2.1⟩
      clear HRG HE
      generalize rotL a d s k = X at *
      by_cases hE0 : E = 0
      · obtain ⟨hXe, hXl, hXw⟩ := HF.out.2.1 hE0
        subst hE0
        have HXA : Hid (Arr X) := HF.out.2.2
        have HXL : Hid (blkE X = 0 ∧ blkL X = blkL a ∧ ((worstN X : Nat) : Int) = 1) := ⟨hXe, hXl, hXw⟩
        have hBl := refBlocks_any (.agg #[.slice a1 n1 c1, .slice a2 n2 c2]) a W4 (HV.out.grow hg24) HA.out.1.whole
        rw [HA.out.2.2.2] at hBl
        clear hXe hXl hXw HF
        subst hW4
        go_wp2_with fail
        rw [← hb4]
        refine hBl.mono ?_
        rintro e w6 ⟨r6, rfl, hr6, hg6⟩
        clear hBl k0 k1 hb4
        generalize w4.alloc (.cells #[.slice x1 x2 x3, .slice y1 y2 y3] 26) = W4 at *
        have m06 := hg6.at m0
        have m16 := hg6.at m1
        obtain ⟨e1, e2, rfl⟩ := Sl.form hr6
        have hBx := refBlocks_any (.agg #[.slice x1 x2 x3, .slice y1 y2 y3]) X w6 (HX.out.grow hg6) HXA.out.whole
        rw [HXL.out.1, HXL.out.2.1] at hBx
        go_wp2_with fail
        refine hBx.mono ?_
        rintro e w7 ⟨r7, rfl, hr7, hg7⟩
        clear hBx m06 m16
        obtain ⟨e3, e4, rfl⟩ := Sl.form hr7
        have hSb := refSame_self _ _ (blkL a) w7 (Bss.grow hr6 hg7) hr7
        clear hr6 hr7
        generalize (blkL a).length = L5 at *
        have hg67 := hg6.trans hg7
        go_wp2_with fail
        refine hSb.mono ?_
        rintro e w8 ⟨rfl, hg8⟩
        clear hSb
        have hg68 := hg67.trans hg8
        have m08 := hg68.at m0
        have m18 := hg68.at m1
        have hWx := refWorst_any (.agg #[.slice x1 x2 x3, .slice y1 y2 y3]) X w8 (HX.out.grow hg68) HXA.out.whole
        rw [HXL.out.2.2] at hWx
        go_wp2_with fail
        refine hWx.mono ?_
        rintro e w9 ⟨rfl, hg9⟩
        clear hWx m08 m18
        go_wp2
        go_ret
        exact ⟨rfl, (hgw4.trans hg68).trans hg9⟩
      · have hEn : (E != 0) = true := by simpa using hE0
        have hXa := HF.out.1 hE0
        have HX' : Hid (ArrV W4 (.agg #[.slice x1 x2 x3, .slice y1 y2 y3]) a) := by rw [← hXa]; exact HX.out
        have hSm := same6_self (.agg #[.slice x1 x2 x3, .slice y1 y2 y3]) (.agg #[.slice a1 n1 c1, .slice a2 n2 c2]) a W4 HX'.out (HV.out.grow hg24)
        clear hXa HX HX' HF
        subst hW4
        go_wp2_with fail
        rw [← hb4]
        refine hSm.mono ?_
        rintro e w6 ⟨rfl, hg6⟩
        clear hSm
        go_wp2
        go_ret
        exact ⟨rfl, hgw4.trans hg6⟩
    | true =>
      have hGo := harmGone_any (.agg #[.slice a1 n1 c1, .slice a2 n2 c2]) a d W4 (HV.out.grow hg24) HA.out.1
      obtain ⟨F, hF⟩ : ∃ F, goneE d = F := ⟨_, rfl⟩
      have HF : Hid ((F ≠ 0 → goneL a d = a) ∧ (F = 0 → blkE (goneL a d) = 0 ∧ blkL (goneL a d) = blkL a ∧ ((worstN (goneL a d) : Nat) : Int) = 1) ∧ Arr (goneL a d)) := by
        have := HRG.out.2
        rw [hF] at this
        exact ⟨this.1, this.2, HA.out.2.2.1⟩
      rw [hF] at hGo
      clear HRG HE hF
      generalize goneL a d = X at *
      clear HX
      subst hW4
      go_wp2_with fail
      rw [← hb4]
      refine hGo.mono ?_
      rintro e w5 ⟨r5, rfl, hr5, hg5⟩
      clear hGo hb4 m0 m1
      generalize w4.alloc (.cells #[.slice x1 x2 x3, .slice y1 y2 y3] 26) = W4 at *
      obtain ⟨p1, p2, p3, q1, q2, q3, rfl⟩ := hr5.form
      obtain ⟨W5, hW5, HB5, m0, m1, HX, g0, g1, f0, f1, HK⟩ := reboxed (hg5.block' HB4.out) hr5 HF.out.2.2
      have hg25 := HK.out.1 _ (hg24.trans hg5) Hb4.out
      have hgw5 := HK.out.1 _ (hgw4.trans hg5) (Nat.le_trans hHi.out Hb4.out)
      have k0 := hg25.at Hk.out.1
      have k1 := hg25.at Hk.out.2
      clear hr5 HK HB4 HB5 hg24 hg5 hgw4
      by_cases hE0 : F = 0
      · obtain ⟨hXe, hXl, hXw⟩ := HF.out.2.1 hE0
        subst hE0
        have HXA : Hid (Arr X) := HF.out.2.2
        have HXL : Hid (blkE X = 0 ∧ blkL X = blkL a ∧ ((worstN X : Nat) : Int) = 1) := ⟨hXe, hXl, hXw⟩
        have hBl := refBlocks_any (.agg #[.slice a1 n1 c1, .slice a2 n2 c2]) a W5 (HV.out.grow hg25) HA.out.1.whole
        rw [HA.out.2.2.2] at hBl
        clear hXe hXl hXw HF
        subst hW5
        go_wp2_with fail
        refine hBl.mono ?_
        rintro e w6 ⟨r6, rfl, hr6, hg6⟩
        clear hBl k0 k1 g0 g1 f0 f1
        generalize (w5.setCell ⟨b4, 0, none⟩ (.slice p1 p2 p3)).setCell ⟨b4, 1, none⟩ (.slice q1 q2 q3) = W5 at *
        have m06 := hg6.at m0
        have m16 := hg6.at m1
        obtain ⟨e1, e2, rfl⟩ := Sl.form hr6
        have hBx := refBlocks_any (.agg #[.slice p1 p2 p3, .slice q1 q2 q3]) X w6 (HX.out.grow hg6) HXA.out.whole
        rw [HXL.out.1, HXL.out.2.1] at hBx
        go_wp2_with fail
        refine hBx.mono ?_
        rintro e w7 ⟨r7, rfl, hr7, hg7⟩
        clear hBx m06 m16
        obtain ⟨e3, e4, rfl⟩ := Sl.form hr7
        have hSb := refSame_self _ _ (blkL a) w7 (Bss.grow hr6 hg7) hr7
        clear hr6 hr7
        generalize (blkL a).length = L5 at *
        have hg67 := hg6.trans hg7
        go_wp2_with fail
        refine hSb.mono ?_
        rintro e w8 ⟨rfl, hg8⟩
        clear hSb
        have hg68 := hg67.trans hg8
        have m08 := hg68.at m0
        have m18 := hg68.at m1
        have hWx := refWorst_any (.agg #[.slice p1 p2 p3, .slice q1 q2 q3]) X w8 (HX.out.grow hg68) HXA.out.whole
        rw [HXL.out.2.2] at hWx
        go_wp2_with fail
        refine hWx.mono ?_
        rintro e w9 ⟨rfl, hg9⟩
        clear hWx m08 m18
        go_wp2
        go_ret
        exact ⟨rfl, (hgw5.trans hg68).trans hg9⟩
      · have hEn : (F != 0) = true := by simpa using hE0
        have hXa := HF.out.1 hE0
        have HX' : Hid (ArrV W5 (.agg #[.slice p1 p2 p3, .slice q1 q2 q3]) a) := by rw [← hXa]; exact HX.out
        have hSm := same6_self (.agg #[.slice p1 p2 p3, .slice q1 q2 q3]) (.agg #[.slice a1 n1 c1, .slice a2 n2 c2]) a W5 HX'.out (HV.out.grow hg25)
        clear hXa HX HX' HF
        subst hW5
        go_wp2_with fail
        refine hSm.mono ?_
        rintro e w6 ⟨rfl, hg6⟩
        clear hSm
        go_wp2
        go_ret
        exact ⟨rfl, hgw5.trans hg6⟩
  · have hN : (0 : Int) < (worstN a : Nat) := by omega
    have hd : decide ((0 : Int) < (worstN a : Nat)) = true := by simpa using hN
    clear HR HG
    generalize worstN a = N at *
    subst hW2
    go_wp2_with fail
    rw [← hb1]
    refine hWo.mono ?_
    rintro e w3 ⟨rfl, hg3⟩
    go_wp2
    go_ret
    exact ⟨rfl, hgw2.trans hg3⟩

end Go.Proofs.Ytjggiameajndgac

/-
  How an argument that is a slice of bytes is read: by its cells, and within the reach of the row.
-/
namespace Go.Proofs.Ytjggiameajndgac
open Go.ChangeShapes Go.WideShapes Go.ChangeAt Go.RowKit

theorem wf_octet {n : Int} (h : (Lit.int .u8 n).wf = true) : 0 ≤ n ∧ n ≤ 255 := by
  have := bounds_u8 h
  omega

/-- A slice of bytes that came in: what it reads as. -/
theorem open_bs {P : Program} {H : Type} {enc : TypeId × Value → H} {W : World} {base : Nat} {sp : Nat → Bool} {held : Bool} {t e : TypeId} {v : Value} {d : DataW H} {p : List MemPlace}
    (ht : P.underlying t = some (.slice e)) (he : P.underlying e = some (.int .u8)) (hc : P.cellsOf e = 1) {b0 : Nat} (hv : Value.okWide P W .any b0 t v)
    (h : DataW.Trod enc P W base sp held t v d p) :
    ∃ l, Bs W v l ∧ (l = [] ∨ ∃ elems spare, d = .slice elems spare ∧ l.length ≤ elems.length + spare.length) := by
  obtain ⟨a0, len0, cap0, rfl⟩ := okWide_slice ht hv
  obtain ⟨fuel, hf⟩ := h
  rcases open_ints ht he hc hf with ⟨hcs, _⟩ | ⟨x, l, c, zs, hcs, _, hl, hm, hz, hx, hcell, hwz⟩
  · simp [Value.cells] at hcs
    obtain ⟨rfl, rfl, rfl⟩ := hcs
    exact ⟨[], Bs.nil W, .inl rfl⟩
  · simp [Value.cells] at hcs
    obtain ⟨rfl, rfl, rfl⟩ := hcs
    have hlz : len0 ≤ zs.length := by rw [hz]; split <;> omega
    have hlen : (zs.take len0).length = len0 := by simp; omega
    refine ⟨zs.take len0, ⟨some x, cap0, by rw [hlen], by omega, hm, (fun h => nomatch h), fun n hn => wf_octet (hwz n (List.mem_of_mem_take hn)), fun hp => ?_⟩, .inr ?_⟩
    · rw [hlen] at hp
      obtain ⟨b, off, spot⟩ := x
      have hspot : spot = none := by simpa [Addr.add] using World.cell?_spot (hcell 0 (by omega))
      subst hspot
      refine ⟨b, off, rfl, fun i hi => ?_⟩
      rw [hlen] at hi
      have hplain : (⟨b, off, none⟩ : Addr).add i = ⟨b, off + i, none⟩ := by unfold Addr.add; split <;> simp_all
      rw [← hplain, hcell i (by omega)]
      simp [List.getD_eq_getElem?_getD, hi]
    · simp only [Prod.mk.injEq] at hx
      exact ⟨_, _, hx.1, by simp [lits]⟩

end Go.Proofs.Ytjggiameajndgac

/-
  How arguments that are deeds, steps, and slices of steps are read.
-/
namespace Go.Proofs.Ytjggiameajndgac
open Go.ChangeShapes Go.WideShapes Go.ChangeAt Go.RowKit

theorem four_of {α : Type} {cs : List α} (h : cs.length = 4) : ∃ c0 c1 c2 c3, cs = [c0, c1, c2, c3] := by
  match cs, h with
  | [c0, c1, c2, c3], _ => exact ⟨_, _, _, _, rfl⟩
theorem seven_of {α : Type} {cs : List α} (h : cs.length = 7) : ∃ c0 c1 c2 c3 c4 c5 c6, cs = [c0, c1, c2, c3, c4, c5, c6] := by
  match cs, h with
  | [c0, c1, c2, c3, c4, c5, c6], _ => exact ⟨_, _, _, _, _, _, _, rfl⟩

section
variable {H : Type} {enc : TypeId × Value → H} {W : World} {base : Nat} {sp : Nat → Bool} {held : Bool}

/-- Fields of a struct, each with its own reading. -/
theorem field_at {P : Program} {fuel : Nat} {t : TypeId} {cs : List Value} {x : DataW H × List MemPlace} {fs : Array Field} (ht : P.underlying t = some (.struct fs)) (h : DataW.trod enc P W base sp held fuel t cs = some x) :
    cs.length = P.cellsOf t ∧ ∀ (i : Nat) (f : Field), fs[i]? = some f → ∃ n y, DataW.trod enc P W base sp held n f.type ((cs.drop f.offset).take (P.cellsOf f.type)) = some y := by
  obtain ⟨xs, n, -, -, hlen, hxl, hf⟩ := DataW.trod_struct ht h
  refine ⟨hlen, fun i f hi => ?_⟩
  have hlt : i < fs.size := (Array.getElem?_eq_some_iff.1 hi).1
  have := hf i f hi
  rw [List.getElem?_eq_getElem (by omega)] at this
  exact ⟨n, _, this⟩

theorem Try.cellsDeed : Try.prog.cellsOf 54 = 4 := by kernel_rfl
theorem Try.cellsInt : Try.prog.cellsOf 3 = 1 := by kernel_rfl
theorem Try.cellsBs : Try.prog.cellsOf 52 = 1 := by kernel_rfl
theorem Try.cellsB : Try.prog.cellsOf 5 = 1 := by kernel_rfl

theorem int_cell {n : Nat} {c : Value} {y : DataW H × List MemPlace} (h : DataW.trod enc Try.prog W base sp held n 3 [c] = some y) : ∃ k, c = .int .i64 k ∧ (Lit.int .i64 k).wf = true := by
  obtain ⟨k, e, -, hw⟩ := DataW.trod_int Try.underlying3 h
  exact ⟨k, by simpa using e, hw⟩

set_option maxRecDepth 20000 in
/-- Cells of a deed. -/
theorem deed_cells {fuel : Nat} {cs : List Value} {x : DataW H × List MemPlace} (h : DataW.trod enc Try.prog W base sp held fuel 54 cs = some x) :
    ∃ (y : DeedP) (dv : Value), cs = [.int .i64 y.k, .int .i64 y.n, .int .i64 y.m, dv] ∧ Bs W dv y.d ∧ (Lit.int .i64 y.k).wf = true ∧ (Lit.int .i64 y.n).wf = true ∧ (Lit.int .i64 y.m).wf = true := by
  obtain ⟨hlen, hf⟩ := field_at Try.underlying54 h
  rw [Try.cellsDeed] at hlen
  obtain ⟨c0, c1, c2, c3, rfl⟩ := four_of hlen
  have g0 := hf 0 _ rfl
  have h0 : ∃ n y, DataW.trod enc Try.prog W base sp held n 3 (([c0, c1, c2, c3].drop 0).take (Try.prog.cellsOf 3)) = some y := g0
  rw [Try.cellsInt] at h0
  obtain ⟨m0, y0, f0⟩ := h0
  have g1 := hf 1 _ rfl
  have h1 : ∃ n y, DataW.trod enc Try.prog W base sp held n 3 (([c0, c1, c2, c3].drop 1).take (Try.prog.cellsOf 3)) = some y := g1
  rw [Try.cellsInt] at h1
  obtain ⟨m1, y1, f1⟩ := h1
  have g2 := hf 2 _ rfl
  have h2 : ∃ n y, DataW.trod enc Try.prog W base sp held n 3 (([c0, c1, c2, c3].drop 2).take (Try.prog.cellsOf 3)) = some y := g2
  rw [Try.cellsInt] at h2
  obtain ⟨m2, y2, f2⟩ := h2
  have g3 := hf 3 _ rfl
  have h3 : ∃ n y, DataW.trod enc Try.prog W base sp held n 52 (([c0, c1, c2, c3].drop 3).take (Try.prog.cellsOf 52)) = some y := g3
  rw [Try.cellsBs] at h3
  obtain ⟨m3, y3, f3⟩ := h3
  obtain ⟨k, rfl, hk⟩ := int_cell f0
  obtain ⟨n, rfl, hn⟩ := int_cell f1
  obtain ⟨m, rfl, hm⟩ := int_cell f2
  obtain ⟨l, hl⟩ := bs_of_trod Try.underlying52 Try.underlying5 Try.cellsB f3
  exact ⟨⟨k, n, m, l⟩, _, rfl, hl, hk, hn, hm⟩

set_option maxRecDepth 20000 in
/-- A deed that is an argument. -/
theorem open_deed {v : Value} {d : DataW H} {p : List MemPlace} {b0 : Nat} (hv : Value.okWide Try.prog W .any b0 54 v) (h : DataW.Trod enc Try.prog W base sp held 54 v d p) :
    ∃ y : DeedP, DeedV W v y ∧ (-9223372036854775808 ≤ y.n ∧ y.n ≤ 9223372036854775807) ∧ (-9223372036854775808 ≤ y.m ∧ y.m ≤ 9223372036854775807) := by
  obtain ⟨fuel, hf⟩ := h
  unfold Value.okWide at hv
  rw [Try.underlying54] at hv
  obtain ⟨cs, rfl, -, -⟩ := hv
  obtain ⟨y, dv, e, hb, -, hn, hm⟩ := deed_cells hf
  have e' : cs = #[.int .i64 y.k, .int .i64 y.n, .int .i64 y.m, dv] := Array.toList_inj.1 e
  exact ⟨y, ⟨dv, by rw [e'], hb⟩, bounds_i64 hn, bounds_i64 hm⟩

end

end Go.Proofs.Ytjggiameajndgac

/-
  How arguments that are steps, and slices of steps, are read.
-/
namespace Go.Proofs.Ytjggiameajndgac
open Go.ChangeShapes Go.WideShapes Go.ChangeAt Go.RowKit

section
variable {H : Type} {enc : TypeId × Value → H} {W : World} {base : Nat} {sp : Nat → Bool} {held : Bool}

theorem Try.cellsStep : Try.prog.cellsOf 56 = 7 := by kernel_rfl

set_option maxRecDepth 20000 in
/-- Cells of a step. -/
theorem step_cells {fuel : Nat} {cs : List Value} {x : DataW H × List MemPlace} (h : DataW.trod enc Try.prog W base sp held fuel 56 cs = some x) :
    ∃ (y : StepP) (dv : Value), cs = [.int .i64 y.k, .int .i64 y.n, .int .i64 y.m, .int .i64 y.d.k, .int .i64 y.d.n, .int .i64 y.d.m, dv] ∧ Bs W dv y.d.d ∧ y.n ≤ 9223372036854775807 := by
  obtain ⟨hlen, hf⟩ := field_at Try.underlying56 h
  rw [Try.cellsStep] at hlen
  obtain ⟨c0, c1, c2, c3, c4, c5, c6, rfl⟩ := seven_of hlen
  have g0 := hf 0 _ rfl
  have h0 : ∃ n y, DataW.trod enc Try.prog W base sp held n 3 (([c0, c1, c2, c3, c4, c5, c6].drop 0).take (Try.prog.cellsOf 3)) = some y := g0
  rw [Try.cellsInt] at h0
  obtain ⟨m0, y0, f0⟩ := h0
  have g1 := hf 1 _ rfl
  have h1 : ∃ n y, DataW.trod enc Try.prog W base sp held n 3 (([c0, c1, c2, c3, c4, c5, c6].drop 1).take (Try.prog.cellsOf 3)) = some y := g1
  rw [Try.cellsInt] at h1
  obtain ⟨m1, y1, f1⟩ := h1
  have g2 := hf 2 _ rfl
  have h2 : ∃ n y, DataW.trod enc Try.prog W base sp held n 3 (([c0, c1, c2, c3, c4, c5, c6].drop 2).take (Try.prog.cellsOf 3)) = some y := g2
  rw [Try.cellsInt] at h2
  obtain ⟨m2, y2, f2⟩ := h2
  have g3 := hf 3 _ rfl
  have h3 : ∃ n y, DataW.trod enc Try.prog W base sp held n 54 (([c0, c1, c2, c3, c4, c5, c6].drop 3).take (Try.prog.cellsOf 54)) = some y := g3
  rw [Try.cellsDeed] at h3
  obtain ⟨m3, y3, f3⟩ := h3
  obtain ⟨k, rfl, -⟩ := int_cell f0
  obtain ⟨n, rfl, hn⟩ := int_cell f1
  obtain ⟨m, rfl, -⟩ := int_cell f2
  obtain ⟨y, dv, e, hb, -⟩ := deed_cells f3
  simp only [List.drop_succ_cons, List.drop_zero, List.take_succ_cons, List.take_zero, List.cons.injEq, and_true] at e
  obtain ⟨rfl, rfl, rfl, rfl⟩ := e
  exact ⟨⟨k, n, m, y⟩, _, rfl, hb, (bounds_i64 hn).2⟩

set_option maxRecDepth 20000 in
/-- A step that is an argument. -/
theorem open_step {v : Value} {d : DataW H} {p : List MemPlace} {b0 : Nat} (hv : Value.okWide Try.prog W .any b0 56 v) (h : DataW.Trod enc Try.prog W base sp held 56 v d p) : ∃ y : StepP, StepV W v y := by
  obtain ⟨fuel, hf⟩ := h
  unfold Value.okWide at hv
  rw [Try.underlying56] at hv
  obtain ⟨cs, rfl, -, -⟩ := hv
  obtain ⟨y, dv, e, hb, hn⟩ := step_cells hf
  have e' : cs = #[.int .i64 y.k, .int .i64 y.n, .int .i64 y.m, .int .i64 y.d.k, .int .i64 y.d.n, .int .i64 y.d.m, dv] := Array.toList_inj.1 e
  exact ⟨y, dv, by rw [e'], hb, hn⟩

theorem addr_plain (b o j : Nat) : (⟨b, o, none⟩ : Addr).add j = ⟨b, o + j, none⟩ := by unfold Addr.add; split <;> simp_all

set_option maxRecDepth 20000 in
/-- Steps that are an argument. -/
theorem open_steps {v : Value} {d : DataW H} {p : List MemPlace} {b0 : Nat} (hv : Value.okWide Try.prog W .any b0 22 v) (h : DataW.Trod enc Try.prog W base sp held 22 v d p) : ∃ l : List StepP, Stps W v l ∧ ∀ s ∈ l, Octets s.d.d := by
  obtain ⟨a0, len0, cap0, rfl⟩ := okWide_slice Try.underlying22 hv
  obtain ⟨fuel, hf⟩ := h
  rcases Go.Deep.open_slice Try.underlying22 (by simpa [Value.cells] using hf) with ⟨hcs, _⟩ | ⟨a, len, cap, m, n, D, Pl, hcs, hb, hl, hm, hmm, hx, hV⟩
  · simp at hcs
    obtain ⟨rfl, rfl, rfl⟩ := hcs
    exact ⟨[], ⟨none, 0, rfl, Nat.le_refl _, Nat.zero_le _, fun _ => rfl, fun h => by simp at h⟩, fun s hs => by simp at hs⟩
  · simp at hcs
    obtain ⟨rfl, rfl, rfl⟩ := hcs
    have hlm : len0 ≤ m := by rw [hmm]; split <;> omega
    rw [Try.cellsStep] at hV
    have hch : ∀ i : Nat, ∃ y : StepP, i < len0 → ∃ dv, Bs W dv y.d.d ∧ y.n ≤ 9223372036854775807 ∧ ∀ j : Nat, j < 7 → W.cell? ((a.add (i * 7)).add j) = [Value.int .i64 y.k, .int .i64 y.n, .int .i64 y.m, .int .i64 y.d.k, .int .i64 y.d.n, .int .i64 y.d.m, dv][j]? := fun i => by
      by_cases hi : i < len0
      · obtain ⟨cs', hc, ht⟩ := hV i (by omega)
        obtain ⟨y, dv, rfl, hb, hn⟩ := step_cells ht
        obtain ⟨-, -, hcell⟩ := World.cells?_some hc
        exact ⟨y, fun _ => ⟨dv, hb, hn, hcell⟩⟩
      · exact ⟨⟨0, 0, 0, ⟨0, 0, 0, []⟩⟩, fun h => absurd h hi⟩
    obtain ⟨f, hf'⟩ : ∃ f : Nat → StepP, ∀ i, i < len0 → ∃ dv, Bs W dv (f i).d.d ∧ (f i).n ≤ 9223372036854775807 ∧ ∀ j : Nat, j < 7 → W.cell? ((a.add (i * 7)).add j) = [Value.int .i64 (f i).k, .int .i64 (f i).n, .int .i64 (f i).m, .int .i64 (f i).d.k, .int .i64 (f i).d.n, .int .i64 (f i).d.m, dv][j]? := ⟨fun i => (hch i).choose, fun i => (hch i).choose_spec⟩
    clear hch hV
    by_cases hp : 0 < len0
    · obtain ⟨b, off, spot⟩ := a
      have hspot : spot = none := by
        obtain ⟨dv, -, -, hc⟩ := hf' 0 hp
        have := World.cell?_spot (hc 0 (by omega))
        simpa [Addr.add] using this
      subst hspot
      refine ⟨(List.range len0).map f, ⟨some ⟨b, off, none⟩, cap0, by simp, by simpa using hl, hm, (fun h => nomatch h), fun _ => ⟨b, off, rfl, fun i s hs => ?_⟩⟩, fun s hs => ?_⟩
      · obtain ⟨hi, e⟩ := List.getElem?_eq_some_iff.1 hs
        have hi' : i < len0 := by simpa using hi
        have e' : s = f i := by rw [← e]; simp
        subst e'
        obtain ⟨dv, hb, hn, hc⟩ := hf' i hi'
        have hc' : ∀ j : Nat, j < 7 → W.cell? ⟨b, off + i * 7 + j, none⟩ = [Value.int .i64 (f i).k, .int .i64 (f i).n, .int .i64 (f i).m, .int .i64 (f i).d.k, .int .i64 (f i).d.n, .int .i64 (f i).d.m, dv][j]? := fun j hj => by rw [← hc j hj, addr_plain, addr_plain]
        exact ⟨dv, hc' 0 (by omega), hc' 1 (by omega), hc' 2 (by omega), hc' 3 (by omega), hc' 4 (by omega), hc' 5 (by omega), hc' 6 (by omega), hb, hn⟩
      · obtain ⟨i, hi, rfl⟩ := List.mem_map.1 hs
        obtain ⟨dv, hb, -, -⟩ := hf' i (List.mem_range.1 hi)
        exact hb.octets
    · obtain rfl : len0 = 0 := by omega
      exact ⟨[], ⟨some a, cap0, rfl, Nat.zero_le _, hm, (fun h => nomatch h), fun h => by simp at h⟩, fun s hs => by simp at hs⟩

end

end Go.Proofs.Ytjggiameajndgac
