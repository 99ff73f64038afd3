import Derived.ProofKit
import Derived.OpenShut
import Derived.Deep.Slices
import Derived.Test.YtjggiameajndgacJoin17
/-
  Same of an array and itself; same of blocks and themselves.
-/
namespace Go.Proofs.Ytjggiameajndgac
open Go.RowKit

theorem same6_self (va vb : Value) (a : ArrP) (w : World) (ha : ArrV w va a) (hb : ArrV w vb a) : Calls Try.prog 18 #[va, vb] w fun e w' => e = .returned (.bool true) ∧ Grow w w' := by
  have := refSame6_any va vb a a w ha hb
  rwa [sameB_iff.2 rfl] at this

theorem refSame_self (v u : Value) (a : List (List Int)) (w : World) (h : Bss w v a) (g : Bss w u a) : Calls Try.prog 25 #[v, u] w fun e w' => e = .returned (.bool true) ∧ Grow w w' := by
  have := refSame_any v u a a w h g
  rwa [show (a == a) = true from by simp] at this

end Go.Proofs.Ytjggiameajndgac

/-
  mhlaw9.alive returns true; nothing old turns.
-/
namespace Go.Proofs.Ytjggiameajndgac
open Go.RowKit

/-- What the closed fact is about. -/
def aR : ArrP := rotL newP 1 1 3
theorem aR_arr : Arr aR := rotL_arr newP_arr 1 1 3
theorem aliveN : ((mendN aR 1 : Nat) : Int) = 1 ∧ mendE aR 1 = 0 := by constructor <;> kernel_rfl
theorem aliveW : ((worstN aR : Nat) : Int) = 1 ∧ ((worstN (mendL aR 1) : Nat) : Int) = 0 := by constructor <;> kernel_rfl
theorem aliveA : mendAll aR = mendL aR 1 := by kernel_rfl
theorem aliveT : ((mendNs aR).map (fun (n : Nat) => Value.int .i64 (n : Int))).toArray = #[.int .i64 0, .int .i64 1, .int .i64 0] := by kernel_rfl

set_option maxRecDepth 20000 in
set_option maxHeartbeats 12800000 in
theorem alive9_any (w : World) : Calls Try.prog 22 #[] w fun e w' => e = .returned (.bool true) ∧ Grow w w' := by
  go_enter Try.func22, Try.ntmps22
  go_wp2_with fail
  refine (refNew6_any w).mono ?_
  rintro e w1 ⟨r1, rfl, hr1, hg1⟩
  have hRo := refRot_any r1 newP 1 1 3 w1 hr1 newP_whole newP_arr.fours (fun d s => by have := newP_arr.short d s; omega)
  obtain ⟨p1, p2, p3, p4, p5, p6, rfl⟩ := hr1.form
  go_wp2_with fail
  refine hRo.mono ?_
  rintro e w2 ⟨r2, rfl, hr2, hg2⟩
  have hr2 : ArrV w2 r2 aR := hr2
  clear hRo hr1
  obtain ⟨a1, n1, c1, a2, n2, c2, rfl⟩ := hr2.form
  generalize rotE newP 1 1 3 = E0 at *
  have hA := aR_arr
  have HA : Hid (Arr aR) := hA
  obtain ⟨W2, hW2⟩ : ∃ W2, W2 = w2.alloc (.cells #[.slice a1 n1 c1, .slice a2 n2 c2] 26) := ⟨_, rfl⟩
  obtain ⟨b1, hb1⟩ : ∃ b1, b1 = w2.heap.size := ⟨_, rfl⟩
  have hgA : Grow w2 W2 := by rw [hW2]; exact Grow.alloc _ _
  have hB1 : W2.heap[b1]? = some (.cells #[.slice a1 n1 c1, .slice a2 n2 c2] 26 (0, 0)) := by rw [hW2, hb1]; exact heap_alloc_new w2 _
  have k0 := two_at0 hB1
  have k1 := two_at1 hB1
  have HV : Hid (ArrV W2 (.agg #[.slice a1 n1 c1, .slice a2 n2 c2]) aR) := hr2.grow hgA
  have hgw2 := (hg1.trans hg2).trans hgA
  have hSt := mendStripe_any (.agg #[.slice a1 n1 c1, .slice a2 n2 c2]) aR 1 W2 HV.out hA.whole hA.short (.inl hA.none)
  rw [aliveN.1, aliveN.2] at hSt
  clear hr2 hB1 hgA hg1 hg2 hA
  subst hW2
  go_wp2_with fail
  rw [← hb1]
  refine hSt.mono ?_
  rintro e w3 ⟨bs3, dv3, iv3, rfl, hO3, hg3⟩
  clear hSt hb1
  generalize w2.alloc (.cells #[.slice a1 n1 c1, .slice a2 n2 c2] 26) = W2 at *
  obtain ⟨⟨x1, x2, x3, rfl⟩, y1, y2, y3, rfl⟩ := hO3.forms
  obtain ⟨W3, hW3⟩ : ∃ W3, W3 = w3.alloc (.cells #[.slice x1 x2 x3, .slice y1 y2 y3] 26) := ⟨_, rfl⟩
  obtain ⟨b3, hb3⟩ : ∃ b3, b3 = w3.heap.size := ⟨_, rfl⟩
  have hgB : Grow w3 W3 := by rw [hW3]; exact Grow.alloc _ _
  have hB3 : W3.heap[b3]? = some (.cells #[.slice x1 x2 x3, .slice y1 y2 y3] 26 (0, 0)) := by rw [hW3, hb3]; exact heap_alloc_new w3 _
  have m0 := two_at0 hB3
  have m1 := two_at1 hB3
  have HX : Hid (ArrV W3 (.agg #[.slice x1 x2 x3, .slice y1 y2 y3]) (mendL aR 1)) := hO3.arr.grow hgB
  have hg23 := hg3.trans hgB
  have j0 := hg23.at k0
  have j1 := hg23.at k1
  have hAl := mendAll_any (.agg #[.slice a1 n1 c1, .slice a2 n2 c2]) aR W3 (HV.out.grow hg23) HA.out
  rw [aliveT, aliveA] at hAl
  clear hO3 hB3 hgB hg3
  subst hW3
  go_wp2_with fail
  rw [← hb3]
  refine hAl.mono ?_
  rintro e w4 ⟨bs4, dv4, iv4, T, rfl, hO4, hT4, hg4⟩
  clear hAl hb3 j0 j1
  generalize w3.alloc (.cells #[.slice x1 x2 x3, .slice y1 y2 y3] 26) = W3 at *
  obtain ⟨⟨s1, s2, s3, rfl⟩, u1, u2, u3, rfl⟩ := hO4.forms
  obtain ⟨W4, hW4⟩ : ∃ W4, W4 = w4.alloc (.cells #[.slice s1 s2 s3, .slice u1 u2 u3] 26) := ⟨_, rfl⟩
  obtain ⟨b4, hb4⟩ : ∃ b4, b4 = w4.heap.size := ⟨_, rfl⟩
  have hgC : Grow w4 W4 := by rw [hW4]; exact Grow.alloc _ _
  have hB4 : W4.heap[b4]? = some (.cells #[.slice s1 s2 s3, .slice u1 u2 u3] 26 (0, 0)) := by rw [hW4, hb4]; exact heap_alloc_new w4 _
  have o0 := two_at0 hB4
  have o1 := two_at1 hB4
  have HY : Hid (ArrV W4 (.agg #[.slice s1 s2 s3, .slice u1 u2 u3]) (mendL aR 1)) := hO4.arr.grow hgC
  have hg34 := hg4.trans hgC
  have hg24 := hg23.trans hg34
  have t1 : W4.cell? ⟨T, 1, none⟩ = some (.int .i64 1) := hgC.at (row_at hT4 1 rfl)
  have k04 := hg24.at k0
  have k14 := hg24.at k1
  have hWo := mendWorst_any (.agg #[.slice a1 n1 c1, .slice a2 n2 c2]) aR W4 (HV.out.grow hg24) HA.out.whole HA.out.short
  rw [aliveW.1] at hWo
  clear hO4 hB4 hT4 hgC hg4 k0 k1
  subst hW4
  go_wp2_with fail
  rw [← hb4]
  refine hWo.mono ?_
  rintro e w5 ⟨rfl, hg5⟩
  clear hWo hb4 k04 k14
  generalize w4.alloc (.cells #[.slice s1 s2 s3, .slice u1 u2 u3] 26) = W4 at *
  have hg35 := hg34.trans hg5
  have m05 := hg35.at m0
  have m15 := hg35.at m1
  have hX := mendL_arr HA.out 1
  have hWx := mendWorst_any (.agg #[.slice x1 x2 x3, .slice y1 y2 y3]) (mendL aR 1) w5 (HX.out.grow hg35) hX.whole hX.short
  rw [aliveW.2] at hWx
  clear hX
  go_wp2_with fail
  refine hWx.mono ?_
  rintro e w6 ⟨rfl, hg6⟩
  clear hWx m05 m15
  have hg36 := hg35.trans hg6
  have hg46 := hg5.trans hg6
  have m06 := hg36.at m0
  have m16 := hg36.at m1
  have o06 := hg46.at o0
  have o16 := hg46.at o1
  have hSm := same6_self (.agg #[.slice x1 x2 x3, .slice y1 y2 y3]) (.agg #[.slice s1 s2 s3, .slice u1 u2 u3]) (mendL aR 1) w6 (HX.out.grow hg36) (HY.out.grow hg46)
  go_wp2_with fail
  refine hSm.mono ?_
  rintro e w7 ⟨rfl, hg7⟩
  have t17 := (hg46.trans hg7).at t1
  have hgf := ((hgw2.trans hg24).trans hg46).trans hg7
  clear hSm m06 m16 o06 o16 m0 m1 o0 o1 t1 HX HY HV
  go_wp2
  go_ret
  exact ⟨rfl, hgf⟩

end Go.Proofs.Ytjggiameajndgac

/-
  mhlaw9.MendWell returns true, whatever it is handed; nothing old turns.
-/
namespace Go.Proofs.Ytjggiameajndgac
open Go.RowKit

theorem told_zero {l : List Nat} (h : l = [0, 0, 0]) : (l.map (fun (n : Nat) => Value.int .i64 (n : Int))).toArray = #[.int .i64 0, .int .i64 0, .int .i64 0] := by rw [h]; rfl

set_option maxRecDepth 20000 in
set_option maxHeartbeats 12800000 in
theorem mendWell_walk (v : Value) (l : List StepP) (w : World) (h : Stps w v l) (ho : ∀ s ∈ l, Octets s.d.d) :
    Calls Try.prog 4 #[v] w fun e w' => e = .returned (.bool true) ∧ Grow w w' := by
  obtain ⟨D, hI⟩ := gently_inv ho
  go_enter Try.func4, Try.ntmps4
  go_wp2_with fail
  refine (alive9_any w).mono ?_
  rintro e w1 ⟨rfl, hg1⟩
  go_wp2_with fail
  refine (refGently_any v l w1 (h.grow hg1)).mono ?_
  rintro e w2 ⟨ra, rfl, hra, hg2⟩
  obtain ⟨a1, n1, c1, a2, n2, c2, rfl⟩ := hra.form
  generalize gentlyL l = a at *
  have hA := hI.arr
  have HA : Hid (Arr a ∧ Arr (mendAll a)) := ⟨hA, mendAll_arr hA⟩
  have HZ : Hid (((mendNs (mendAll a)).map (fun (n : Nat) => Value.int .i64 (n : Int))).toArray = #[.int .i64 0, .int .i64 0, .int .i64 0]) := told_zero (mendNs_zero hI)
  have HBk : Hid (blkE a = 0 ∧ blkE (mendAll a) = 0 ∧ blkL (mendAll a) = blkL a) := mendAll_blocks hI
  have HTw : Hid (mendAll (mendAll a) = mendAll a) := mendAll_twice hI
  have HWo : Hid (((worstN (mendAll a) : Nat) : Int) = 0) := by rw [Hid, mendAll_worst hI]; rfl
  clear hI ho h
  obtain ⟨W2, hW2⟩ : ∃ W2, W2 = w2.alloc (.cells #[.slice a1 n1 c1, .slice a2 n2 c2] 26) := ⟨_, rfl⟩
  obtain ⟨b1, hb1⟩ : ∃ b1, b1 = w2.heap.size := ⟨_, rfl⟩
  have hgA : Grow w2 W2 := by rw [hW2]; exact Grow.alloc _ _
  have hB1 : W2.heap[b1]? = some (.cells #[.slice a1 n1 c1, .slice a2 n2 c2] 26 (0, 0)) := by rw [hW2, hb1]; exact heap_alloc_new w2 _
  have k0 := two_at0 hB1
  have k1 := two_at1 hB1
  have HV : Hid (ArrV W2 (.agg #[.slice a1 n1 c1, .slice a2 n2 c2]) a) := hra.grow hgA
  have hgw2 := (hg1.trans hg2).trans hgA
  have hAl := mendAll_any (.agg #[.slice a1 n1 c1, .slice a2 n2 c2]) a W2 HV.out hA
  generalize mendNs a = N0 at *
  clear hra hB1 hgA hg1 hg2 hA
  subst hW2
  go_wp2_with fail
  rw [← hb1]
  refine hAl.mono ?_
  rintro e w3 ⟨bs3, dv3, iv3, T3, rfl, hO3, -, hg3⟩
  clear hAl hb1
  generalize w2.alloc (.cells #[.slice a1 n1 c1, .slice a2 n2 c2] 26) = W2 at *
  obtain ⟨⟨x1, x2, x3, rfl⟩, y1, y2, y3, rfl⟩ := hO3.forms
  obtain ⟨W3, hW3⟩ : ∃ W3, W3 = w3.alloc (.cells #[.slice x1 x2 x3, .slice y1 y2 y3] 26) := ⟨_, rfl⟩
  obtain ⟨b3, hb3⟩ : ∃ b3, b3 = w3.heap.size := ⟨_, rfl⟩
  have hgB : Grow w3 W3 := by rw [hW3]; exact Grow.alloc _ _
  have hB3 : W3.heap[b3]? = some (.cells #[.slice x1 x2 x3, .slice y1 y2 y3] 26 (0, 0)) := by rw [hW3, hb3]; exact heap_alloc_new w3 _
  have m0 := two_at0 hB3
  have m1 := two_at1 hB3
  have HX : Hid (ArrV W3 (.agg #[.slice x1 x2 x3, .slice y1 y2 y3]) (mendAll a)) := hO3.arr.grow hgB
  have hg23 := hg3.trans hgB
  have hAl := mendAll_any (.agg #[.slice x1 x2 x3, .slice y1 y2 y3]) (mendAll a) W3 HX.out HA.out.2
  rw [HZ.out, HTw.out] at hAl
  clear hO3 hB3 hgB hg3
  subst hW3
  go_wp2_with fail
  rw [← hb3]
  refine hAl.mono ?_
  rintro e w4 ⟨bs4, dv4, iv4, T, rfl, hO4, hT4, hg4⟩
  clear hAl hb3
  generalize w3.alloc (.cells #[.slice x1 x2 x3, .slice y1 y2 y3] 26) = W3 at *
  obtain ⟨⟨s1, s2, s3, rfl⟩, q1, q2, q3, rfl⟩ := hO4.forms
  obtain ⟨W4, hW4⟩ : ∃ W4, W4 = w4.alloc (.cells #[.slice s1 s2 s3, .slice q1 q2 q3] 26) := ⟨_, rfl⟩
  obtain ⟨b4, hb4⟩ : ∃ b4, b4 = w4.heap.size := ⟨_, rfl⟩
  have hgC : Grow w4 W4 := by rw [hW4]; exact Grow.alloc _ _
  have hB4 : W4.heap[b4]? = some (.cells #[.slice s1 s2 s3, .slice q1 q2 q3] 26 (0, 0)) := by rw [hW4, hb4]; exact heap_alloc_new w4 _
  have o0 := two_at0 hB4
  have o1 := two_at1 hB4
  have HY : Hid (ArrV W4 (.agg #[.slice s1 s2 s3, .slice q1 q2 q3]) (mendAll a)) := hO4.arr.grow hgC
  have hg34 := hg4.trans hgC
  have hg24 := hg23.trans hg34
  have HT : Hid (∀ k : Nat, k < 3 → W4.cell? ⟨T, k, none⟩ = some (.int .i64 0)) := fun k hk => by
    have hT := hgC.block' hT4
    obtain rfl | rfl | rfl : k = 0 ∨ k = 1 ∨ k = 2 := by omega
    · exact row_at hT 0 rfl
    · exact row_at hT 1 rfl
    · exact row_at hT 2 rfl
  have k04 := hg24.at k0
  have k14 := hg24.at k1
  have hBl := refBlocks_any (.agg #[.slice a1 n1 c1, .slice a2 n2 c2]) a W4 (HV.out.grow hg24) HA.out.1.whole
  rw [HBk.out.1] at hBl
  clear hO4 hB4 hT4 hgC hg4 k0 k1
  subst hW4
  go_wp2_with fail
  rw [← hb4]
  refine hBl.mono ?_
  rintro e w5 ⟨r5, rfl, hr5, hg5⟩
  clear hBl hb4 k04 k14
  generalize w4.alloc (.cells #[.slice s1 s2 s3, .slice q1 q2 q3] 26) = W4 at *
  have hg35 := hg34.trans hg5
  have m05 := hg35.at m0
  have m15 := hg35.at m1
  have hBx := refBlocks_any (.agg #[.slice x1 x2 x3, .slice y1 y2 y3]) (mendAll a) w5 (HX.out.grow hg35) HA.out.2.whole
  rw [HBk.out.2.1, HBk.out.2.2] at hBx
  obtain ⟨e1, e2, rfl⟩ := Sl.form hr5
  go_wp2_with fail
  refine hBx.mono ?_
  rintro e w6 ⟨r6, rfl, hr6, hg6⟩
  clear hBx m05 m15
  obtain ⟨e3, e4, rfl⟩ := Sl.form hr6
  have HR : Hid (Bss w6 (.slice e1 (blkL a).length e2) (blkL a) ∧ Bss w6 (.slice e3 (blkL a).length e4) (blkL a)) := ⟨Bss.grow hr5 hg6, hr6⟩
  clear hr5 hr6
  generalize (blkL a).length = L5 at *
  have hg46 := hg5.trans hg6
  have hg36 := hg35.trans hg6
  have HT6 : Hid (∀ k : Nat, k < 3 → w6.cell? ⟨T, k, none⟩ = some (.int .i64 0)) := fun k hk => hg46.at (HT.out k hk)
  clear HT
  go_wp2
  go_loopw [40] (fun i wr => ∃ k : Nat, k ≤ 3 ∧ i = .int .i64 k ∧ Grow w6 wr) (fun i _ => 3 - (intOf i).toNat)
  case atStart => exact ⟨0, by omega, rfl, Grow.refl _⟩
  case round =>
    obtain ⟨k, hk, rfl, hgr⟩ := hrel
    by_cases hlt : k < 3
    · have hT := hgr.at (HT6.out k hlt)
      have hki : (k : Int) < 3 := by omega
      clear m0 m1 o0 o1 HR HX HY HV HA
      go_wp2
      go_roundw
      case rel => first | exact ⟨k + 1, by omega, by go_num, hgr⟩ | ((repeat apply Exists.intro); exact ⟨⟨k + 1, by omega, by go_num, hgr⟩, rfl⟩)
      case measure => simp [intOf]; omega
    · have hno : ¬ ((k : Int) < 3) := by omega
      have hSb := refSame_self _ _ (blkL a) wr (Bss.grow HR.out.1 hgr) (Bss.grow HR.out.2 hgr)
      go_wp2_with fail
      refine hSb.mono ?_
      rintro e w7 ⟨rfl, hg7⟩
      clear hSb
      have hg37 := (hg36.trans hgr).trans hg7
      have m07 := hg37.at m0
      have m17 := hg37.at m1
      have hWx := mendWorst_any (.agg #[.slice x1 x2 x3, .slice y1 y2 y3]) (mendAll a) w7 (HX.out.grow hg37) HA.out.2.whole HA.out.2.short
      rw [HWo.out] at hWx
      go_wp2_with fail
      refine hWx.mono ?_
      rintro e w8 ⟨rfl, hg8⟩
      clear hWx m07 m17
      have hg38 := hg37.trans hg8
      have hg48 := ((hg46.trans hgr).trans hg7).trans hg8
      have m08 := hg38.at m0
      have m18 := hg38.at m1
      have o08 := hg48.at o0
      have o18 := hg48.at o1
      have hSm := same6_self (.agg #[.slice x1 x2 x3, .slice y1 y2 y3]) (.agg #[.slice s1 s2 s3, .slice q1 q2 q3]) (mendAll a) w8 (HX.out.grow hg38) (HY.out.grow hg48)
      go_wp2_with fail
      refine hSm.mono ?_
      rintro e w9 ⟨rfl, hg9⟩
      clear hSm
      go_wp2
      go_ret
      exact ⟨rfl, ((hgw2.trans hg24).trans hg48).trans hg9⟩

end Go.Proofs.Ytjggiameajndgac

/-
  How an argument that is a slice of bytes is read: by its cells, and within the reach of the row.
-/
namespace Go.Proofs.Ytjggiameajndgac
open Go.ChangeShapes Go.WideShapes Go.ChangeAt Go.RowKit

theorem wf_octet {n : Int} (h : (Lit.int .u8 n).wf = true) : 0 ≤ n ∧ n ≤ 255 := by
  have := bounds_u8 h
  omega

/-- A slice of bytes that came in: what it reads as. -/
theorem open_bs {P : Program} {H : Type} {enc : TypeId × Value → H} {W : World} {base : Nat} {sp : Nat → Bool} {held : Bool} {t e : TypeId} {v : Value} {d : DataW H} {p : List MemPlace}
    (ht : P.underlying t = some (.slice e)) (he : P.underlying e = some (.int .u8)) (hc : P.cellsOf e = 1) {b0 : Nat} (hv : Value.okWide P W .any b0 t v)
    (h : DataW.Trod enc P W base sp held t v d p) :
    ∃ l, Bs W v l ∧ (l = [] ∨ ∃ elems spare, d = .slice elems spare ∧ l.length ≤ elems.length + spare.length) := by
  obtain ⟨a0, len0, cap0, rfl⟩ := okWide_slice ht hv
  obtain ⟨fuel, hf⟩ := h
  rcases open_ints ht he hc hf with ⟨hcs, _⟩ | ⟨x, l, c, zs, hcs, _, hl, hm, hz, hx, hcell, hwz⟩
  · simp [Value.cells] at hcs
    obtain ⟨rfl, rfl, rfl⟩ := hcs
    exact ⟨[], Bs.nil W, .inl rfl⟩
  · simp [Value.cells] at hcs
    obtain ⟨rfl, rfl, rfl⟩ := hcs
    have hlz : len0 ≤ zs.length := by rw [hz]; split <;> omega
    have hlen : (zs.take len0).length = len0 := by simp; omega
    refine ⟨zs.take len0, ⟨some x, cap0, by rw [hlen], by omega, hm, (fun h => nomatch h), fun n hn => wf_octet (hwz n (List.mem_of_mem_take hn)), fun hp => ?_⟩, .inr ?_⟩
    · rw [hlen] at hp
      obtain ⟨b, off, spot⟩ := x
      have hspot : spot = none := by simpa [Addr.add] using World.cell?_spot (hcell 0 (by omega))
      subst hspot
      refine ⟨b, off, rfl, fun i hi => ?_⟩
      rw [hlen] at hi
      have hplain : (⟨b, off, none⟩ : Addr).add i = ⟨b, off + i, none⟩ := by unfold Addr.add; split <;> simp_all
      rw [← hplain, hcell i (by omega)]
      simp [List.getD_eq_getElem?_getD, hi]
    · simp only [Prod.mk.injEq] at hx
      exact ⟨_, _, hx.1, by simp [lits]⟩

end Go.Proofs.Ytjggiameajndgac

/-
  How arguments that are deeds, steps, and slices of steps are read.
-/
namespace Go.Proofs.Ytjggiameajndgac
open Go.ChangeShapes Go.WideShapes Go.ChangeAt Go.RowKit

theorem four_of {α : Type} {cs : List α} (h : cs.length = 4) : ∃ c0 c1 c2 c3, cs = [c0, c1, c2, c3] := by
  match cs, h with
  | [c0, c1, c2, c3], _ => exact ⟨_, _, _, _, rfl⟩
theorem seven_of {α : Type} {cs : List α} (h : cs.length = 7) : ∃ c0 c1 c2 c3 c4 c5 c6, cs = [c0, c1, c2, c3, c4, c5, c6] := by
  match cs, h with
  | [c0, c1, c2, c3, c4, c5, c6], _ => exact ⟨_, _, _, _, _, _, _, rfl⟩

section
variable {H : Type} {enc : TypeId × Value → H} {W : World} {base : Nat} {sp : Nat → Bool} {held : Bool}

/-- Fields of a struct, each with its own reading. -/
theorem field_at {P : Program} {fuel : Nat} {t : TypeId} {cs : List Value} {x : DataW H × List MemPlace} {fs : Array Field} (ht : P.underlying t = some (.struct fs)) (h : DataW.trod enc P W base sp held fuel t cs = some x) :
    cs.length = P.cellsOf t ∧ ∀ (i : Nat) (f : Field), fs[i]? = some f → ∃ n y, DataW.trod enc P W base sp held n f.type ((cs.drop f.offset).take (P.cellsOf f.type)) = some y := by
  obtain ⟨xs, n, -, -, hlen, hxl, hf⟩ := DataW.trod_struct ht h
  refine ⟨hlen, fun i f hi => ?_⟩
  have hlt : i < fs.size := (Array.getElem?_eq_some_iff.1 hi).1
  have := hf i f hi
  rw [List.getElem?_eq_getElem (by omega)] at this
  exact ⟨n, _, this⟩

theorem Try.cellsDeed : Try.prog.cellsOf 54 = 4 := by kernel_rfl
theorem Try.cellsInt : Try.prog.cellsOf 3 = 1 := by kernel_rfl
theorem Try.cellsBs : Try.prog.cellsOf 52 = 1 := by kernel_rfl
theorem Try.cellsB : Try.prog.cellsOf 5 = 1 := by kernel_rfl

theorem int_cell {n : Nat} {c : Value} {y : DataW H × List MemPlace} (h : DataW.trod enc Try.prog W base sp held n 3 [c] = some y) : ∃ k, c = .int .i64 k ∧ (Lit.int .i64 k).wf = true := by
  obtain ⟨k, e, -, hw⟩ := DataW.trod_int Try.underlying3 h
  exact ⟨k, by simpa using e, hw⟩

set_option maxRecDepth 20000 in
/-- Cells of a deed. -/
theorem deed_cells {fuel : Nat} {cs : List Value} {x : DataW H × List MemPlace} (h : DataW.trod enc Try.prog W base sp held fuel 54 cs = some x) :
    ∃ (y : DeedP) (dv : Value), cs = [.int .i64 y.k, .int .i64 y.n, .int .i64 y.m, dv] ∧ Bs W dv y.d ∧ (Lit.int .i64 y.k).wf = true ∧ (Lit.int .i64 y.n).wf = true ∧ (Lit.int .i64 y.m).wf = true := by
  obtain ⟨hlen, hf⟩ := field_at Try.underlying54 h
  rw [Try.cellsDeed] at hlen
  obtain ⟨c0, c1, c2, c3, rfl⟩ := four_of hlen
  have g0 := hf 0 _ rfl
  have h0 : ∃ n y, DataW.trod enc Try.prog W base sp held n 3 (([c0, c1, c2, c3].drop 0).take (Try.prog.cellsOf 3)) = some y := g0
  rw [Try.cellsInt] at h0
  obtain ⟨m0, y0, f0⟩ := h0
  have g1 := hf 1 _ rfl
  have h1 : ∃ n y, DataW.trod enc Try.prog W base sp held n 3 (([c0, c1, c2, c3].drop 1).take (Try.prog.cellsOf 3)) = some y := g1
  rw [Try.cellsInt] at h1
  obtain ⟨m1, y1, f1⟩ := h1
  have g2 := hf 2 _ rfl
  have h2 : ∃ n y, DataW.trod enc Try.prog W base sp held n 3 (([c0, c1, c2, c3].drop 2).take (Try.prog.cellsOf 3)) = some y := g2
  rw [Try.cellsInt] at h2
  obtain ⟨m2, y2, f2⟩ := h2
  have g3 := hf 3 _ rfl
  have h3 : ∃ n y, DataW.trod enc Try.prog W base sp held n 52 (([c0, c1, c2, c3].drop 3).take (Try.prog.cellsOf 52)) = some y := g3
  rw [Try.cellsBs] at h3
  obtain ⟨m3, y3, f3⟩ := h3
  obtain ⟨k, rfl, hk⟩ := int_cell f0
  obtain ⟨n, rfl, hn⟩ := int_cell f1
  obtain ⟨m, rfl, hm⟩ := int_cell f2
  obtain ⟨l, hl⟩ := bs_of_trod Try.underlying52 Try.underlying5 Try.cellsB f3
  exact ⟨⟨k, n, m, l⟩, _, rfl, hl, hk, hn, hm⟩

set_option maxRecDepth 20000 in
/-- A deed that is an argument. -/
theorem open_deed {v : Value} {d : DataW H} {p : List MemPlace} {b0 : Nat} (hv : Value.okWide Try.prog W .any b0 54 v) (h : DataW.Trod enc Try.prog W base sp held 54 v d p) :
    ∃ y : DeedP, DeedV W v y ∧ (-9223372036854775808 ≤ y.n ∧ y.n ≤ 9223372036854775807) ∧ (-9223372036854775808 ≤ y.m ∧ y.m ≤ 9223372036854775807) := by
  obtain ⟨fuel, hf⟩ := h
  unfold Value.okWide at hv
  rw [Try.underlying54] at hv
  obtain ⟨cs, rfl, -, -⟩ := hv
  obtain ⟨y, dv, e, hb, -, hn, hm⟩ := deed_cells hf
  have e' : cs = #[.int .i64 y.k, .int .i64 y.n, .int .i64 y.m, dv] := Array.toList_inj.1 e
  exact ⟨y, ⟨dv, by rw [e'], hb⟩, bounds_i64 hn, bounds_i64 hm⟩

end

end Go.Proofs.Ytjggiameajndgac

/-
  How arguments that are steps, and slices of steps, are read.
-/
namespace Go.Proofs.Ytjggiameajndgac
open Go.ChangeShapes Go.WideShapes Go.ChangeAt Go.RowKit

section
variable {H : Type} {enc : TypeId × Value → H} {W : World} {base : Nat} {sp : Nat → Bool} {held : Bool}

theorem Try.cellsStep : Try.prog.cellsOf 56 = 7 := by kernel_rfl

set_option maxRecDepth 20000 in
/-- Cells of a step. -/
theorem step_cells {fuel : Nat} {cs : List Value} {x : DataW H × List MemPlace} (h : DataW.trod enc Try.prog W base sp held fuel 56 cs = some x) :
    ∃ (y : StepP) (dv : Value), cs = [.int .i64 y.k, .int .i64 y.n, .int .i64 y.m, .int .i64 y.d.k, .int .i64 y.d.n, .int .i64 y.d.m, dv] ∧ Bs W dv y.d.d ∧ y.n ≤ 9223372036854775807 := by
  obtain ⟨hlen, hf⟩ := field_at Try.underlying56 h
  rw [Try.cellsStep] at hlen
  obtain ⟨c0, c1, c2, c3, c4, c5, c6, rfl⟩ := seven_of hlen
  have g0 := hf 0 _ rfl
  have h0 : ∃ n y, DataW.trod enc Try.prog W base sp held n 3 (([c0, c1, c2, c3, c4, c5, c6].drop 0).take (Try.prog.cellsOf 3)) = some y := g0
  rw [Try.cellsInt] at h0
  obtain ⟨m0, y0, f0⟩ := h0
  have g1 := hf 1 _ rfl
  have h1 : ∃ n y, DataW.trod enc Try.prog W base sp held n 3 (([c0, c1, c2, c3, c4, c5, c6].drop 1).take (Try.prog.cellsOf 3)) = some y := g1
  rw [Try.cellsInt] at h1
  obtain ⟨m1, y1, f1⟩ := h1
  have g2 := hf 2 _ rfl
  have h2 : ∃ n y, DataW.trod enc Try.prog W base sp held n 3 (([c0, c1, c2, c3, c4, c5, c6].drop 2).take (Try.prog.cellsOf 3)) = some y := g2
  rw [Try.cellsInt] at h2
  obtain ⟨m2, y2, f2⟩ := h2
  have g3 := hf 3 _ rfl
  have h3 : ∃ n y, DataW.trod enc Try.prog W base sp held n 54 (([c0, c1, c2, c3, c4, c5, c6].drop 3).take (Try.prog.cellsOf 54)) = some y := g3
  rw [Try.cellsDeed] at h3
  obtain ⟨m3, y3, f3⟩ := h3
  obtain ⟨k, rfl, -⟩ := int_cell f0
  obtain ⟨n, rfl, hn⟩ := int_cell f1
  obtain ⟨m, rfl, -⟩ := int_cell f2
  obtain ⟨y, dv, e, hb, -⟩ := deed_cells f3
  simp only [List.drop_succ_cons, List.drop_zero, List.take_succ_cons, List.take_zero, List.cons.injEq, and_true] at e
  obtain ⟨rfl, rfl, rfl, rfl⟩ := e
  exact ⟨⟨k, n, m, y⟩, _, rfl, hb, (bounds_i64 hn).2⟩

set_option maxRecDepth 20000 in
/-- A step that is an argument. -/
theorem open_step {v : Value} {d : DataW H} {p : List MemPlace} {b0 : Nat} (hv : Value.okWide Try.prog W .any b0 56 v) (h : DataW.Trod enc Try.prog W base sp held 56 v d p) : ∃ y : StepP, StepV W v y := by
  obtain ⟨fuel, hf⟩ := h
  unfold Value.okWide at hv
  rw [Try.underlying56] at hv
  obtain ⟨cs, rfl, -, -⟩ := hv
  obtain ⟨y, dv, e, hb, hn⟩ := step_cells hf
  have e' : cs = #[.int .i64 y.k, .int .i64 y.n, .int .i64 y.m, .int .i64 y.d.k, .int .i64 y.d.n, .int .i64 y.d.m, dv] := Array.toList_inj.1 e
  exact ⟨y, dv, by rw [e'], hb, hn⟩

theorem addr_plain (b o j : Nat) : (⟨b, o, none⟩ : Addr).add j = ⟨b, o + j, none⟩ := by unfold Addr.add; split <;> simp_all

set_option maxRecDepth 20000 in
/-- Steps that are an argument. -/
theorem open_steps {v : Value} {d : DataW H} {p : List MemPlace} {b0 : Nat} (hv : Value.okWide Try.prog W .any b0 22 v) (h : DataW.Trod enc Try.prog W base sp held 22 v d p) : ∃ l : List StepP, Stps W v l ∧ ∀ s ∈ l, Octets s.d.d := by
  obtain ⟨a0, len0, cap0, rfl⟩ := okWide_slice Try.underlying22 hv
  obtain ⟨fuel, hf⟩ := h
  rcases Go.Deep.open_slice Try.underlying22 (by simpa [Value.cells] using hf) with ⟨hcs, _⟩ | ⟨a, len, cap, m, n, D, Pl, hcs, hb, hl, hm, hmm, hx, hV⟩
  · simp at hcs
    obtain ⟨rfl, rfl, rfl⟩ := hcs
    exact ⟨[], ⟨none, 0, rfl, Nat.le_refl _, Nat.zero_le _, fun _ => rfl, fun h => by simp at h⟩, fun s hs => by simp at hs⟩
  · simp at hcs
    obtain ⟨rfl, rfl, rfl⟩ := hcs
    have hlm : len0 ≤ m := by rw [hmm]; split <;> omega
    rw [Try.cellsStep] at hV
    have hch : ∀ i : Nat, ∃ y : StepP, i < len0 → ∃ dv, Bs W dv y.d.d ∧ y.n ≤ 9223372036854775807 ∧ ∀ j : Nat, j < 7 → W.cell? ((a.add (i * 7)).add j) = [Value.int .i64 y.k, .int .i64 y.n, .int .i64 y.m, .int .i64 y.d.k, .int .i64 y.d.n, .int .i64 y.d.m, dv][j]? := fun i => by
      by_cases hi : i < len0
      · obtain ⟨cs', hc, ht⟩ := hV i (by omega)
        obtain ⟨y, dv, rfl, hb, hn⟩ := step_cells ht
        obtain ⟨-, -, hcell⟩ := World.cells?_some hc
        exact ⟨y, fun _ => ⟨dv, hb, hn, hcell⟩⟩
      · exact ⟨⟨0, 0, 0, ⟨0, 0, 0, []⟩⟩, fun h => absurd h hi⟩
    obtain ⟨f, hf'⟩ : ∃ f : Nat → StepP, ∀ i, i < len0 → ∃ dv, Bs W dv (f i).d.d ∧ (f i).n ≤ 9223372036854775807 ∧ ∀ j : Nat, j < 7 → W.cell? ((a.add (i * 7)).add j) = [Value.int .i64 (f i).k, .int .i64 (f i).n, .int .i64 (f i).m, .int .i64 (f i).d.k, .int .i64 (f i).d.n, .int .i64 (f i).d.m, dv][j]? := ⟨fun i => (hch i).choose, fun i => (hch i).choose_spec⟩
    clear hch hV
    by_cases hp : 0 < len0
    · obtain ⟨b, off, spot⟩ := a
      have hspot : spot = none := by
        obtain ⟨dv, -, -, hc⟩ := hf' 0 hp
        have := World.cell?_spot (hc 0 (by omega))
        simpa [Addr.add] using this
      subst hspot
      refine ⟨(List.range len0).map f, ⟨some ⟨b, off, none⟩, cap0, by simp, by simpa using hl, hm, (fun h => nomatch h), fun _ => ⟨b, off, rfl, fun i s hs => ?_⟩⟩, fun s hs => ?_⟩
      · obtain ⟨hi, e⟩ := List.getElem?_eq_some_iff.1 hs
        have hi' : i < len0 := by simpa using hi
        have e' : s = f i := by rw [← e]; simp
        subst e'
        obtain ⟨dv, hb, hn, hc⟩ := hf' i hi'
        have hc' : ∀ j : Nat, j < 7 → W.cell? ⟨b, off + i * 7 + j, none⟩ = [Value.int .i64 (f i).k, .int .i64 (f i).n, .int .i64 (f i).m, .int .i64 (f i).d.k, .int .i64 (f i).d.n, .int .i64 (f i).d.m, dv][j]? := fun j hj => by rw [← hc j hj, addr_plain, addr_plain]
        exact ⟨dv, hc' 0 (by omega), hc' 1 (by omega), hc' 2 (by omega), hc' 3 (by omega), hc' 4 (by omega), hc' 5 (by omega), hc' 6 (by omega), hb, hn⟩
      · obtain ⟨i, hi, rfl⟩ := List.mem_map.1 hs
        obtain ⟨dv, hb, -, -⟩ := hf' i (List.mem_range.1 hi)
        exact hb.octets
    · obtain rfl : len0 = 0 := by omega
      exact ⟨[], ⟨some a, cap0, rfl, Nat.zero_le _, hm, (fun h => nomatch h), fun h => by simp at h⟩, fun s hs => by simp at hs⟩

end

end Go.Proofs.Ytjggiameajndgac
