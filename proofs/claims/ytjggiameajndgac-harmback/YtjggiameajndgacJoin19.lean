import Derived.ProofKit
import Derived.OpenShut
import Derived.Deep.Slices
import Derived.Test.YtjggiameajndgacJoin18
/-
  mhlaw10.HarmBack returns true, whatever it is handed; nothing old turns.
-/
namespace Go.Proofs.Ytjggiameajndgac
open Go.RowKit

theorem same6_no (va vb : Value) (a b : ArrP) (w : World) (ha : ArrV w va a) (hb : ArrV w vb b) (h : a ≠ b) : Calls Try.prog 18 #[va, vb] w fun e w' => e = .returned (.bool false) ∧ Grow w w' := by
  have := refSame6_any va vb a b w ha hb
  rwa [show sameB a b = false from by cases hs : sameB a b; rfl; exact absurd (sameB_iff.1 hs) h] at this

set_option maxRecDepth 20000 in
set_option maxHeartbeats 6400000 in
theorem harmBack_walk (v : Value) (l : List StepP) (d s k : Int) (w : World) (h : Stps w v l) :
    Calls Try.prog 7 #[v, .int .i64 d, .int .i64 s, .int .i64 k] w fun e w' => e = .returned (.bool true) ∧ Grow w w' := by
  have hA : Arr (playL l) := playTo_arr l _
  go_enter Try.func7, Try.ntmps7
  go_wp2_with fail
  refine (alive10_any w).mono ?_
  rintro e w1 ⟨rfl, hg1⟩
  go_wp2_with fail
  refine (refPlay_any v l w1 (h.grow hg1)).mono ?_
  rintro e w2 ⟨ra, es, rfl, hra, -, hg2⟩
  obtain ⟨a1, n1, c1, a2, n2, c2, rfl⟩ := hra.form
  generalize playL l = a at *
  have HA : Hid (Arr a ∧ Arr (rotL a d s k) ∧ Arr (goneL a d)) := ⟨hA, rotL_arr hA d s k, goneL_arr hA d⟩
  obtain ⟨E, hE⟩ : ∃ E, rotE a d s k = E := ⟨_, rfl⟩
  have HR : Hid (rotE (rotL a d s k) d s k = E ∧ rotL (rotL a d s k) d s k = a ∧ (E = 0 → rotL a d s k ≠ a)) := by rw [← hE]; exact rot_twice hA.whole d s k
  have HG : Hid (goneL (goneL a d) d = goneL a d) := gone_twice hA d
  clear h
  obtain ⟨W2, b1, hW2, hb1, hgA, HB1, k0, k1, HV⟩ := boxed hra
  have hgw2 := (hg1.trans hg2).trans hgA
  have hRo := harmRot_any (.agg #[.slice a1 n1 c1, .slice a2 n2 c2]) a d s k W2 HV.out hA
  rw [hE] at hRo
  have hGo := fun w' hg => harmGone_any (.agg #[.slice a1 n1 c1, .slice a2 n2 c2]) a d w' (HV.out.grow hg) hA
  obtain ⟨F, hF⟩ : ∃ F, goneE d = F := ⟨_, rfl⟩
  have HF : Hid (goneE d = F) := hF
  rw [hF] at hGo
  clear hF
  clear hra hgA hg2 hA hg1 hE
  subst hW2
  go_wp2_with fail
  rw [← hb1]
  refine hRo.mono ?_
  rintro e w3 ⟨r3, rfl, hr3, hg3⟩
  clear hRo hb1
  generalize w2.alloc (.cells #[.slice a1 n1 c1, .slice a2 n2 c2] 26) = W2 at *
  obtain ⟨x1, x2, x3, y1, y2, y3, rfl⟩ := hr3.form
  obtain ⟨W3, b3, hW3, hb3, hgB, HB3, m0, m1, HX⟩ := boxed hr3
  have hg23 := hg3.trans hgB
  have hRo := harmRot_any (.agg #[.slice x1 x2 x3, .slice y1 y2 y3]) (rotL a d s k) d s k W3 HX.out HA.out.2.1
  rw [HR.out.1, HR.out.2.1] at hRo
  clear hr3 hgB hg3
  subst hW3
  go_wp2_with fail
  rw [← hb3]
  refine hRo.mono ?_
  rintro e w4 ⟨r4, rfl, hr4, hg4⟩
  clear hRo hb3
  generalize w3.alloc (.cells #[.slice x1 x2 x3, .slice y1 y2 y3] 26) = W3 at *
  obtain ⟨s1, s2, s3, t1, t2, t3, rfl⟩ := hr4.form
  obtain ⟨W4, b4, hW4, hb4, hgC, HB4, o0, o1, HY⟩ := boxed hr4
  have hg34 := hg4.trans hgC
  have hg24 := hg23.trans hg34
  have j0 := hg24.at k0
  have j1 := hg24.at k1
  have hG := hGo _ hg24
  clear hr4 hgC hg4 hGo
  subst hW4
  go_wp2_with fail
  rw [← hb4]
  refine hG.mono ?_
  rintro e w5 ⟨r5, rfl, hr5, hg5⟩
  clear hG hb4 j0 j1
  generalize w4.alloc (.cells #[.slice s1 s2 s3, .slice t1 t2 t3] 26) = W4 at *
  obtain ⟨p1, p2, p3, q1, q2, q3, rfl⟩ := hr5.form
  obtain ⟨W5, b5, hW5, hb5, hgD, HB5, i0, i1, HZ⟩ := boxed hr5
  have hg45 := hg5.trans hgD
  have hG := harmGone_any (.agg #[.slice p1 p2 p3, .slice q1 q2 q3]) (goneL a d) d W5 HZ.out HA.out.2.2
  rw [HG.out, HF.out] at hG
  clear hr5 hgD hg5
  subst hW5
  go_wp2_with fail
  rw [← hb5]
  refine hG.mono ?_
  rintro e w6 ⟨r6, rfl, hr6, hg6⟩
  clear hG hb5
  generalize w5.alloc (.cells #[.slice p1 p2 p3, .slice q1 q2 q3] 26) = W5 at *
  obtain ⟨z1, z2, z3, z4, z5, z6, rfl⟩ := hr6.form
  obtain ⟨W6, b6, hW6, hb6, hgE, HB6, u0, u1, HU⟩ := boxed hr6
  have hg56 := hg6.trans hgE
  have hg46 := hg45.trans hg56
  have hg36 := hg34.trans hg46
  have hg26 := hg23.trans hg36
  have Hk : Hid (W6.cell? ⟨b1, 0, none⟩ = some (.slice a1 n1 c1) ∧ W6.cell? ⟨b1, 1, none⟩ = some (.slice a2 n2 c2) ∧ ArrV W6 (.agg #[.slice a1 n1 c1, .slice a2 n2 c2]) a) := ⟨hg26.at k0, hg26.at k1, HV.out.grow hg26⟩
  have Hm : Hid (W6.cell? ⟨b3, 0, none⟩ = some (.slice x1 x2 x3) ∧ W6.cell? ⟨b3, 1, none⟩ = some (.slice y1 y2 y3) ∧ ArrV W6 (.agg #[.slice x1 x2 x3, .slice y1 y2 y3]) (rotL a d s k)) := ⟨hg36.at m0, hg36.at m1, HX.out.grow hg36⟩
  have Ho : Hid (W6.cell? ⟨b4, 0, none⟩ = some (.slice s1 s2 s3) ∧ W6.cell? ⟨b4, 1, none⟩ = some (.slice t1 t2 t3) ∧ ArrV W6 (.agg #[.slice s1 s2 s3, .slice t1 t2 t3]) a) := ⟨hg46.at o0, hg46.at o1, HY.out.grow hg46⟩
  have Hi : Hid (W6.cell? ⟨b5, 0, none⟩ = some (.slice p1 p2 p3) ∧ W6.cell? ⟨b5, 1, none⟩ = some (.slice q1 q2 q3) ∧ ArrV W6 (.agg #[.slice p1 p2 p3, .slice q1 q2 q3]) (goneL a d)) := ⟨hg56.at i0, hg56.at i1, HZ.out.grow hg56⟩
  have Hu : Hid (W6.cell? ⟨b6, 0, none⟩ = some (.slice z1 z2 z3) ∧ W6.cell? ⟨b6, 1, none⟩ = some (.slice z4 z5 z6) ∧ ArrV W6 (.agg #[.slice z1 z2 z3, .slice z4 z5 z6]) (goneL a d)) := ⟨u0, u1, HU.out⟩
  have hgw6 := hgw2.trans hg26
  clear hr6 hgE hg6 hg56 hg46 hg36 hg26 hg45 hg34 hg24 hg23 k0 k1 m0 m1 i0 i1 u0 u1 o0 o1 HV HX HY HZ HU HB1 HB3 HB4 HB5 HB6 hgw2 HG
  have o0 := Ho.out.1
  have o1 := Ho.out.2.1
  have k0 := Hk.out.1
  have k1 := Hk.out.2.1
  have hSm := same6_self _ _ a W6 Ho.out.2.2 Hk.out.2.2
  subst hW6
  go_wp2_with fail
  rw [← hb6]
  refine hSm.mono ?_
  rintro e w7 ⟨rfl, hg7⟩
  clear hSm hb6 o0 o1 k0 k1 Ho
  generalize w6.alloc (.cells #[.slice z1 z2 z3, .slice z4 z5 z6] 26) = W6 at *
  have hend : ∀ w8, Grow W6 w8 → Hid (w8.cell? ⟨b5, 0, none⟩ = some (.slice p1 p2 p3) ∧ w8.cell? ⟨b5, 1, none⟩ = some (.slice q1 q2 q3) ∧ w8.cell? ⟨b6, 0, none⟩ = some (.slice z1 z2 z3) ∧ w8.cell? ⟨b6, 1, none⟩ = some (.slice z4 z5 z6) ∧ Calls Try.prog 18 #[.agg #[.slice p1 p2 p3, .slice q1 q2 q3], .agg #[.slice z1 z2 z3, .slice z4 z5 z6]] w8 fun e w' => e = .returned (.bool true) ∧ Grow w8 w') := fun w8 hg => ⟨hg.at Hi.out.1, hg.at Hi.out.2.1, hg.at Hu.out.1, hg.at Hu.out.2.1, same6_self _ _ (goneL a d) w8 (Hi.out.2.2.grow hg) (Hu.out.2.2.grow hg)⟩
  by_cases hE0 : E = 0
  · have hne := HR.out.2.2 hE0
    subst hE0
    have m0 := hg7.at Hm.out.1
    have m1 := hg7.at Hm.out.2.1
    have k0 := hg7.at Hk.out.1
    have k1 := hg7.at Hk.out.2.1
    have hSm := same6_no _ _ _ a w7 (Hm.out.2.2.grow hg7) (Hk.out.2.2.grow hg7) hne
    clear hne HR
    go_wp2_with fail
    refine hSm.mono ?_
    rintro e w8 ⟨rfl, hg8⟩
    clear hSm m0 m1 k0 k1
    have he := hend w8 (hg7.trans hg8)
    have i0 := he.out.1
    have i1 := he.out.2.1
    have u0 := he.out.2.2.1
    have u1 := he.out.2.2.2.1
    have hSm := he.out.2.2.2.2
    clear hend he
    go_wp2_with fail
    refine hSm.mono ?_
    rintro e w9 ⟨rfl, hg9⟩
    clear hSm
    go_wp2
    go_ret
    exact ⟨rfl, ((hgw6.trans hg7).trans hg8).trans hg9⟩
  · have hE' : (E != 0) = true := by simpa using hE0
    have he := hend w7 hg7
    have i0 := he.out.1
    have i1 := he.out.2.1
    have u0 := he.out.2.2.1
    have u1 := he.out.2.2.2.1
    have hSm := he.out.2.2.2.2
    clear hend he HR
    go_wp2_with fail
    refine hSm.mono ?_
    rintro e w9 ⟨rfl, hg9⟩
    clear hSm
    go_wp2
    go_ret
    exact ⟨rfl, (hgw6.trans hg7).trans hg9⟩

end Go.Proofs.Ytjggiameajndgac

/-
  How an argument that is a slice of bytes is read: by its cells, and within the reach of the row.
-/
namespace Go.Proofs.Ytjggiameajndgac
open Go.ChangeShapes Go.WideShapes Go.ChangeAt Go.RowKit

theorem wf_octet {n : Int} (h : (Lit.int .u8 n).wf = true) : 0 ≤ n ∧ n ≤ 255 := by
  have := bounds_u8 h
  omega

/-- A slice of bytes that came in: what it reads as. -/
theorem open_bs {P : Program} {H : Type} {enc : TypeId × Value → H} {W : World} {base : Nat} {sp : Nat → Bool} {held : Bool} {t e : TypeId} {v : Value} {d : DataW H} {p : List MemPlace}
    (ht : P.underlying t = some (.slice e)) (he : P.underlying e = some (.int .u8)) (hc : P.cellsOf e = 1) {b0 : Nat} (hv : Value.okWide P W .any b0 t v)
    (h : DataW.Trod enc P W base sp held t v d p) :
    ∃ l, Bs W v l ∧ (l = [] ∨ ∃ elems spare, d = .slice elems spare ∧ l.length ≤ elems.length + spare.length) := by
  obtain ⟨a0, len0, cap0, rfl⟩ := okWide_slice ht hv
  obtain ⟨fuel, hf⟩ := h
  rcases open_ints ht he hc hf with ⟨hcs, _⟩ | ⟨x, l, c, zs, hcs, _, hl, hm, hz, hx, hcell, hwz⟩
  · simp [Value.cells] at hcs
    obtain ⟨rfl, rfl, rfl⟩ := hcs
    exact ⟨[], Bs.nil W, .inl rfl⟩
  · simp [Value.cells] at hcs
    obtain ⟨rfl, rfl, rfl⟩ := hcs
    have hlz : len0 ≤ zs.length := by rw [hz]; split <;> omega
    have hlen : (zs.take len0).length = len0 := by simp; omega
    refine ⟨zs.take len0, ⟨some x, cap0, by rw [hlen], by omega, hm, (fun h => nomatch h), fun n hn => wf_octet (hwz n (List.mem_of_mem_take hn)), fun hp => ?_⟩, .inr ?_⟩
    · rw [hlen] at hp
      obtain ⟨b, off, spot⟩ := x
      have hspot : spot = none := by simpa [Addr.add] using World.cell?_spot (hcell 0 (by omega))
      subst hspot
      refine ⟨b, off, rfl, fun i hi => ?_⟩
      rw [hlen] at hi
      have hplain : (⟨b, off, none⟩ : Addr).add i = ⟨b, off + i, none⟩ := by unfold Addr.add; split <;> simp_all
      rw [← hplain, hcell i (by omega)]
      simp [List.getD_eq_getElem?_getD, hi]
    · simp only [Prod.mk.injEq] at hx
      exact ⟨_, _, hx.1, by simp [lits]⟩

end Go.Proofs.Ytjggiameajndgac

/-
  How arguments that are deeds, steps, and slices of steps are read.
-/
namespace Go.Proofs.Ytjggiameajndgac
open Go.ChangeShapes Go.WideShapes Go.ChangeAt Go.RowKit

theorem four_of {α : Type} {cs : List α} (h : cs.length = 4) : ∃ c0 c1 c2 c3, cs = [c0, c1, c2, c3] := by
  match cs, h with
  | [c0, c1, c2, c3], _ => exact ⟨_, _, _, _, rfl⟩
theorem seven_of {α : Type} {cs : List α} (h : cs.length = 7) : ∃ c0 c1 c2 c3 c4 c5 c6, cs = [c0, c1, c2, c3, c4, c5, c6] := by
  match cs, h with
  | [c0, c1, c2, c3, c4, c5, c6], _ => exact ⟨_, _, _, _, _, _, _, rfl⟩

section
variable {H : Type} {enc : TypeId × Value → H} {W : World} {base : Nat} {sp : Nat → Bool} {held : Bool}

/-- Fields of a struct, each with its own reading. -/
theorem field_at {P : Program} {fuel : Nat} {t : TypeId} {cs : List Value} {x : DataW H × List MemPlace} {fs : Array Field} (ht : P.underlying t = some (.struct fs)) (h : DataW.trod enc P W base sp held fuel t cs = some x) :
    cs.length = P.cellsOf t ∧ ∀ (i : Nat) (f : Field), fs[i]? = some f → ∃ n y, DataW.trod enc P W base sp held n f.type ((cs.drop f.offset).take (P.cellsOf f.type)) = some y := by
  obtain ⟨xs, n, -, -, hlen, hxl, hf⟩ := DataW.trod_struct ht h
  refine ⟨hlen, fun i f hi => ?_⟩
  have hlt : i < fs.size := (Array.getElem?_eq_some_iff.1 hi).1
  have := hf i f hi
  rw [List.getElem?_eq_getElem (by omega)] at this
  exact ⟨n, _, this⟩

theorem Try.cellsDeed : Try.prog.cellsOf 54 = 4 := by kernel_rfl
theorem Try.cellsInt : Try.prog.cellsOf 3 = 1 := by kernel_rfl
theorem Try.cellsBs : Try.prog.cellsOf 52 = 1 := by kernel_rfl
theorem Try.cellsB : Try.prog.cellsOf 5 = 1 := by kernel_rfl

theorem int_cell {n : Nat} {c : Value} {y : DataW H × List MemPlace} (h : DataW.trod enc Try.prog W base sp held n 3 [c] = some y) : ∃ k, c = .int .i64 k ∧ (Lit.int .i64 k).wf = true := by
  obtain ⟨k, e, -, hw⟩ := DataW.trod_int Try.underlying3 h
  exact ⟨k, by simpa using e, hw⟩

set_option maxRecDepth 20000 in
/-- Cells of a deed. -/
theorem deed_cells {fuel : Nat} {cs : List Value} {x : DataW H × List MemPlace} (h : DataW.trod enc Try.prog W base sp held fuel 54 cs = some x) :
    ∃ (y : DeedP) (dv : Value), cs = [.int .i64 y.k, .int .i64 y.n, .int .i64 y.m, dv] ∧ Bs W dv y.d ∧ (Lit.int .i64 y.k).wf = true ∧ (Lit.int .i64 y.n).wf = true ∧ (Lit.int .i64 y.m).wf = true := by
  obtain ⟨hlen, hf⟩ := field_at Try.underlying54 h
  rw [Try.cellsDeed] at hlen
  obtain ⟨c0, c1, c2, c3, rfl⟩ := four_of hlen
  have g0 := hf 0 _ rfl
  have h0 : ∃ n y, DataW.trod enc Try.prog W base sp held n 3 (([c0, c1, c2, c3].drop 0).take (Try.prog.cellsOf 3)) = some y := g0
  rw [Try.cellsInt] at h0
  obtain ⟨m0, y0, f0⟩ := h0
  have g1 := hf 1 _ rfl
  have h1 : ∃ n y, DataW.trod enc Try.prog W base sp held n 3 (([c0, c1, c2, c3].drop 1).take (Try.prog.cellsOf 3)) = some y := g1
  rw [Try.cellsInt] at h1
  obtain ⟨m1, y1, f1⟩ := h1
  have g2 := hf 2 _ rfl
  have h2 : ∃ n y, DataW.trod enc Try.prog W base sp held n 3 (([c0, c1, c2, c3].drop 2).take (Try.prog.cellsOf 3)) = some y := g2
  rw [Try.cellsInt] at h2
  obtain ⟨m2, y2, f2⟩ := h2
  have g3 := hf 3 _ rfl
  have h3 : ∃ n y, DataW.trod enc Try.prog W base sp held n 52 (([c0, c1, c2, c3].drop 3).take (Try.prog.cellsOf 52)) = some y := g3
  rw [Try.cellsBs] at h3
  obtain ⟨m3, y3, f3⟩ := h3
  obtain ⟨k, rfl, hk⟩ := int_cell f0
  obtain ⟨n, rfl, hn⟩ := int_cell f1
  obtain ⟨m, rfl, hm⟩ := int_cell f2
  obtain ⟨l, hl⟩ := bs_of_trod Try.underlying52 Try.underlying5 Try.cellsB f3
  exact ⟨⟨k, n, m, l⟩, _, rfl, hl, hk, hn, hm⟩

set_option maxRecDepth 20000 in
/-- A deed that is an argument. -/
theorem open_deed {v : Value} {d : DataW H} {p : List MemPlace} {b0 : Nat} (hv : Value.okWide Try.prog W .any b0 54 v) (h : DataW.Trod enc Try.prog W base sp held 54 v d p) :
    ∃ y : DeedP, DeedV W v y ∧ (-9223372036854775808 ≤ y.n ∧ y.n ≤ 9223372036854775807) ∧ (-9223372036854775808 ≤ y.m ∧ y.m ≤ 9223372036854775807) := by
  obtain ⟨fuel, hf⟩ := h
  unfold Value.okWide at hv
  rw [Try.underlying54] at hv
  obtain ⟨cs, rfl, -, -⟩ := hv
  obtain ⟨y, dv, e, hb, -, hn, hm⟩ := deed_cells hf
  have e' : cs = #[.int .i64 y.k, .int .i64 y.n, .int .i64 y.m, dv] := Array.toList_inj.1 e
  exact ⟨y, ⟨dv, by rw [e'], hb⟩, bounds_i64 hn, bounds_i64 hm⟩

end

end Go.Proofs.Ytjggiameajndgac

/-
  How arguments that are steps, and slices of steps, are read.
-/
namespace Go.Proofs.Ytjggiameajndgac
open Go.ChangeShapes Go.WideShapes Go.ChangeAt Go.RowKit

section
variable {H : Type} {enc : TypeId × Value → H} {W : World} {base : Nat} {sp : Nat → Bool} {held : Bool}

theorem Try.cellsStep : Try.prog.cellsOf 56 = 7 := by kernel_rfl

set_option maxRecDepth 20000 in
/-- Cells of a step. -/
theorem step_cells {fuel : Nat} {cs : List Value} {x : DataW H × List MemPlace} (h : DataW.trod enc Try.prog W base sp held fuel 56 cs = some x) :
    ∃ (y : StepP) (dv : Value), cs = [.int .i64 y.k, .int .i64 y.n, .int .i64 y.m, .int .i64 y.d.k, .int .i64 y.d.n, .int .i64 y.d.m, dv] ∧ Bs W dv y.d.d ∧ y.n ≤ 9223372036854775807 := by
  obtain ⟨hlen, hf⟩ := field_at Try.underlying56 h
  rw [Try.cellsStep] at hlen
  obtain ⟨c0, c1, c2, c3, c4, c5, c6, rfl⟩ := seven_of hlen
  have g0 := hf 0 _ rfl
  have h0 : ∃ n y, DataW.trod enc Try.prog W base sp held n 3 (([c0, c1, c2, c3, c4, c5, c6].drop 0).take (Try.prog.cellsOf 3)) = some y := g0
  rw [Try.cellsInt] at h0
  obtain ⟨m0, y0, f0⟩ := h0
  have g1 := hf 1 _ rfl
  have h1 : ∃ n y, DataW.trod enc Try.prog W base sp held n 3 (([c0, c1, c2, c3, c4, c5, c6].drop 1).take (Try.prog.cellsOf 3)) = some y := g1
  rw [Try.cellsInt] at h1
  obtain ⟨m1, y1, f1⟩ := h1
  have g2 := hf 2 _ rfl
  have h2 : ∃ n y, DataW.trod enc Try.prog W base sp held n 3 (([c0, c1, c2, c3, c4, c5, c6].drop 2).take (Try.prog.cellsOf 3)) = some y := g2
  rw [Try.cellsInt] at h2
  obtain ⟨m2, y2, f2⟩ := h2
  have g3 := hf 3 _ rfl
  have h3 : ∃ n y, DataW.trod enc Try.prog W base sp held n 54 (([c0, c1, c2, c3, c4, c5, c6].drop 3).take (Try.prog.cellsOf 54)) = some y := g3
  rw [Try.cellsDeed] at h3
  obtain ⟨m3, y3, f3⟩ := h3
  obtain ⟨k, rfl, -⟩ := int_cell f0
  obtain ⟨n, rfl, hn⟩ := int_cell f1
  obtain ⟨m, rfl, -⟩ := int_cell f2
  obtain ⟨y, dv, e, hb, -⟩ := deed_cells f3
  simp only [List.drop_succ_cons, List.drop_zero, List.take_succ_cons, List.take_zero, List.cons.injEq, and_true] at e
  obtain ⟨rfl, rfl, rfl, rfl⟩ := e
  exact ⟨⟨k, n, m, y⟩, _, rfl, hb, (bounds_i64 hn).2⟩

set_option maxRecDepth 20000 in
/-- A step that is an argument. -/
theorem open_step {v : Value} {d : DataW H} {p : List MemPlace} {b0 : Nat} (hv : Value.okWide Try.prog W .any b0 56 v) (h : DataW.Trod enc Try.prog W base sp held 56 v d p) : ∃ y : StepP, StepV W v y := by
  obtain ⟨fuel, hf⟩ := h
  unfold Value.okWide at hv
  rw [Try.underlying56] at hv
  obtain ⟨cs, rfl, -, -⟩ := hv
  obtain ⟨y, dv, e, hb, hn⟩ := step_cells hf
  have e' : cs = #[.int .i64 y.k, .int .i64 y.n, .int .i64 y.m, .int .i64 y.d.k, .int .i64 y.d.n, .int .i64 y.d.m, dv] := Array.toList_inj.1 e
  exact ⟨y, dv, by rw [e'], hb, hn⟩

theorem addr_plain (b o j : Nat) : (⟨b, o, none⟩ : Addr).add j = ⟨b, o + j, none⟩ := by unfold Addr.add; split <;> simp_all

set_option maxRecDepth 20000 in
/-- Steps that are an argument. -/
theorem open_steps {v : Value} {d : DataW H} {p : List MemPlace} {b0 : Nat} (hv : Value.okWide Try.prog W .any b0 22 v) (h : DataW.Trod enc Try.prog W base sp held 22 v d p) : ∃ l : List StepP, Stps W v l ∧ ∀ s ∈ l, Octets s.d.d := by
  obtain ⟨a0, len0, cap0, rfl⟩ := okWide_slice Try.underlying22 hv
  obtain ⟨fuel, hf⟩ := h
  rcases Go.Deep.open_slice Try.underlying22 (by simpa [Value.cells] using hf) with ⟨hcs, _⟩ | ⟨a, len, cap, m, n, D, Pl, hcs, hb, hl, hm, hmm, hx, hV⟩
  · simp at hcs
    obtain ⟨rfl, rfl, rfl⟩ := hcs
    exact ⟨[], ⟨none, 0, rfl, Nat.le_refl _, Nat.zero_le _, fun _ => rfl, fun h => by simp at h⟩, fun s hs => by simp at hs⟩
  · simp at hcs
    obtain ⟨rfl, rfl, rfl⟩ := hcs
    have hlm : len0 ≤ m := by rw [hmm]; split <;> omega
    rw [Try.cellsStep] at hV
    have hch : ∀ i : Nat, ∃ y : StepP, i < len0 → ∃ dv, Bs W dv y.d.d ∧ y.n ≤ 9223372036854775807 ∧ ∀ j : Nat, j < 7 → W.cell? ((a.add (i * 7)).add j) = [Value.int .i64 y.k, .int .i64 y.n, .int .i64 y.m, .int .i64 y.d.k, .int .i64 y.d.n, .int .i64 y.d.m, dv][j]? := fun i => by
      by_cases hi : i < len0
      · obtain ⟨cs', hc, ht⟩ := hV i (by omega)
        obtain ⟨y, dv, rfl, hb, hn⟩ := step_cells ht
        obtain ⟨-, -, hcell⟩ := World.cells?_some hc
        exact ⟨y, fun _ => ⟨dv, hb, hn, hcell⟩⟩
      · exact ⟨⟨0, 0, 0, ⟨0, 0, 0, []⟩⟩, fun h => absurd h hi⟩
    obtain ⟨f, hf'⟩ : ∃ f : Nat → StepP, ∀ i, i < len0 → ∃ dv, Bs W dv (f i).d.d ∧ (f i).n ≤ 9223372036854775807 ∧ ∀ j : Nat, j < 7 → W.cell? ((a.add (i * 7)).add j) = [Value.int .i64 (f i).k, .int .i64 (f i).n, .int .i64 (f i).m, .int .i64 (f i).d.k, .int .i64 (f i).d.n, .int .i64 (f i).d.m, dv][j]? := ⟨fun i => (hch i).choose, fun i => (hch i).choose_spec⟩
    clear hch hV
    by_cases hp : 0 < len0
    · obtain ⟨b, off, spot⟩ := a
      have hspot : spot = none := by
        obtain ⟨dv, -, -, hc⟩ := hf' 0 hp
        have := World.cell?_spot (hc 0 (by omega))
        simpa [Addr.add] using this
      subst hspot
      refine ⟨(List.range len0).map f, ⟨some ⟨b, off, none⟩, cap0, by simp, by simpa using hl, hm, (fun h => nomatch h), fun _ => ⟨b, off, rfl, fun i s hs => ?_⟩⟩, fun s hs => ?_⟩
      · obtain ⟨hi, e⟩ := List.getElem?_eq_some_iff.1 hs
        have hi' : i < len0 := by simpa using hi
        have e' : s = f i := by rw [← e]; simp
        subst e'
        obtain ⟨dv, hb, hn, hc⟩ := hf' i hi'
        have hc' : ∀ j : Nat, j < 7 → W.cell? ⟨b, off + i * 7 + j, none⟩ = [Value.int .i64 (f i).k, .int .i64 (f i).n, .int .i64 (f i).m, .int .i64 (f i).d.k, .int .i64 (f i).d.n, .int .i64 (f i).d.m, dv][j]? := fun j hj => by rw [← hc j hj, addr_plain, addr_plain]
        exact ⟨dv, hc' 0 (by omega), hc' 1 (by omega), hc' 2 (by omega), hc' 3 (by omega), hc' 4 (by omega), hc' 5 (by omega), hc' 6 (by omega), hb, hn⟩
      · obtain ⟨i, hi, rfl⟩ := List.mem_map.1 hs
        obtain ⟨dv, hb, -, -⟩ := hf' i (List.mem_range.1 hi)
        exact hb.octets
    · obtain rfl : len0 = 0 := by omega
      exact ⟨[], ⟨some a, cap0, rfl, Nat.zero_le _, hm, (fun h => nomatch h), fun h => by simp at h⟩, fun s hs => by simp at hs⟩

end

end Go.Proofs.Ytjggiameajndgac
