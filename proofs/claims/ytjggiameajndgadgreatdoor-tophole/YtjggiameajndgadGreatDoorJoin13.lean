import Derived.Lib.SliceRun
import Derived.Laws.EntriesVeiled
import Derived.Test.YtjggiameajndgadGreatDoorJoin12
/-
  What the reference's Plan returns: a deed's intent. Nothing old turns.
-/
namespace Go.Proofs.YtjggiameajndgadGreatDoor
open Go.RowKit

theorem Tryz.sizeI : (Tryz.prog.info? 78).map (·.size) = some 2 := by kernel_rfl

theorem Tryz.made4S (w : World) : (Instr.makeSlice 28 (.int .i64 4) (.int .i64 4)).run Tryz.prog w = .ok (.slice (some ⟨w.heap.size, 0, none⟩) 4 4) (w.alloc (.cells #[.slice none 0 0, .slice none 0 0, .slice none 0 0, .slice none 0 0] 34)) :=
  (run_make_row' (P := Tryz.prog) 28 34 (.slice none 0 0) 24 Tryz.underlying28 Tryz.infoS rfl .i64 .i64 4 (by decide) (by decide) w).trans (by rw [show madeCells #[.slice none 0 0] 4 = #[Value.slice none 0 0, .slice none 0 0, .slice none 0 0, .slice none 0 0] from Array.toList_inj.1 (toList_madeCells_one _ _)])

theorem RowingF.made4 (F : Nat → Prop) (w : World) : RowingF F Bs w.heap.size 34 (w.alloc (.cells #[.slice none 0 0, .slice none 0 0, .slice none 0 0, .slice none 0 0] 34)) (.slice (some ⟨w.heap.size, 0, none⟩) 4 4) (List.replicate 4 []) := by
  refine ⟨[.slice none 0 0, .slice none 0 0, .slice none 0 0, .slice none 0 0], ⟨rfl, .inr ⟨w.heap.size, 4, #[.slice none 0 0, .slice none 0 0, .slice none 0 0, .slice none 0 0], rfl, Nat.le_refl _, heap_alloc_new w _, Nat.le_refl _, by unfold maxLen; omega, rfl, rfl⟩⟩, rfl, fun i u x hu hx w' _ => ?_⟩
  have hu' : u = .slice none 0 0 := by
    have := List.mem_of_getElem? hu
    simpa using this
  have hx' : x = [] := by
    have := List.mem_of_getElem? hx
    simpa using this
  subst hu' hx'
  exact Bs.nil _

end Go.Proofs.YtjggiameajndgadGreatDoor

/-
  What the reference's Do and Step return. Nothing old turns.
-/
namespace Go.Proofs.YtjggiameajndgadGreatDoor
open Go.RowKit

/-- An array is laid into the two cells of the result. -/
theorem two_fin {w wN : World} {R : Nat} {x1 x2 x3 y1 y2 y3 : _} {p q : Value} {t : TypeId} {b : ArrP} (hR : wN.heap[R]? = some (.cells #[.slice x1 x2 x3, .slice y1 y2 y3] t (0, 0))) (hw : w.heap.size ≤ R) (hg : Grow w wN)
    (hv : ArrV wN (.agg #[p, q]) b) (hb : Whole b) (hf : Fours b) :
    ArrV ((wN.setCell ⟨R, 0, none⟩ p).setCell ⟨R, 1, none⟩ q) (.agg #[p, q]) b ∧ ((wN.setCell ⟨R, 0, none⟩ p).setCell ⟨R, 1, none⟩ q).cell? ⟨R, 0, none⟩ = some p ∧ ((wN.setCell ⟨R, 0, none⟩ p).setCell ⟨R, 1, none⟩ q).cell? ⟨R, 1, none⟩ = some q ∧ Grow w ((wN.setCell ⟨R, 0, none⟩ p).setCell ⟨R, 1, none⟩ q) :=
  ⟨Two.store ⟨_, _, _, _, _, _, _, hR⟩ hv hb hf _ _, by rw [cell_set_ne (by simp)]; exact World.cell?_setCell_same _ _ _ (two_at0 hR), World.cell?_setCell_same _ _ _ (by rw [cell_set_ne (by simp)]; exact two_at1 hR), (hg.set hw _).set hw _⟩

/-- What stands in a result's cells: they may be written. -/
theorem two_open {wN : World} {R : Nat} {x y : Value} {t : TypeId} (hR : wN.heap[R]? = some (.cells #[x, y] t (0, 0))) : wN.cell? ⟨R, 0, none⟩ = some x ∧ wN.cell? ⟨R, 1, none⟩ = some y ∧ wN.frozen? ⟨R, 0, none⟩ = false ∧ wN.frozen? ⟨R, 1, none⟩ = false :=
  ⟨two_at0 hR, two_at1 hR, frozen_of_row wN _ 0 _ _ hR, frozen_of_row wN _ 1 _ _ hR⟩

theorem ret_v2 {v : Value} {k2 : IntKind} {a2 b2 : Int} (h2 : a2 = b2) : Ending.returned (.tuple #[v, .int k2 a2]) = .returned (.tuple #[v, .int k2 b2]) := by rw [h2]

/-- What intents there are behind some of the writes. -/
theorem writeL_is {a : ArrP} (h : a.is = []) (i : Int × List (List Int)) (n : Int) : (writeL a i n).is = [] ∨ (writeL a i n).is = [i] := by
  rw [writeL]
  have := many6_le n
  generalize many6 n = k at *
  by_cases h0 : k = 0
  · subst h0; exact .inl h
  by_cases h6 : k = 6
  · subst h6; exact .inl rfl
  · exact .inr (writeTo_is_mid a i k (by omega) (by omega))

/-- A step, as it lies. -/
def StepV (w : World) (v : Value) (x : StepP) : Prop := ∃ dv, v = .agg #[.int .i64 x.k, .int .i64 x.n, .int .i64 x.m, .int .i64 x.d.k, .int .i64 x.d.n, .int .i64 x.d.m, dv] ∧ Bs w dv x.d.d ∧ x.n ≤ 9223372036854775807
theorem StepV.grow {w w' : World} {v : Value} {x : StepP} (h : StepV w v x) (hg : Grow w w') : StepV w' v x := by
  obtain ⟨dv, hv, hb, hn⟩ := h
  exact ⟨dv, hv, hb.grow hg, hn⟩

/-- The world behind a step's boxes, and what stands there. -/
structure Boxes (w W : World) (a1 : Option Addr) (n1 c1 : Nat) (a2 : Option Addr) (n2 c2 : Nat) (x : StepP) (dv : Value) : Prop where
  grow : Grow w W
  k0 : W.cell? ⟨w.heap.size, 0, none⟩ = some (.slice a1 n1 c1)
  k1 : W.cell? ⟨w.heap.size, 1, none⟩ = some (.slice a2 n2 c2)
  s0 : W.cell? ⟨w.heap.size + 1, 0, none⟩ = some (.int .i64 x.k)
  s1 : W.cell? ⟨w.heap.size + 1, 1, none⟩ = some (.int .i64 x.n)
  s2 : W.cell? ⟨w.heap.size + 1, 2, none⟩ = some (.int .i64 x.m)
  s3 : W.cell? ⟨w.heap.size + 1, 3, none⟩ = some (.int .i64 x.d.k)
  s4 : W.cell? ⟨w.heap.size + 1, 4, none⟩ = some (.int .i64 x.d.n)
  s5 : W.cell? ⟨w.heap.size + 1, 5, none⟩ = some (.int .i64 x.d.m)
  s6 : W.cell? ⟨w.heap.size + 1, 6, none⟩ = some dv
  res : W.heap[w.heap.size + 1 + 1]? = some (.cells #[.slice none 0 0, .slice none 0 0] 27 (0, 0))

theorem Boxes.mk' (w : World) (a1 : Option Addr) (n1 c1 : Nat) (a2 : Option Addr) (n2 c2 : Nat) (x : StepP) (dv : Value) :
    Boxes w (((w.alloc (.cells #[.slice a1 n1 c1, .slice a2 n2 c2] 27)).alloc (.cells #[.int .i64 x.k, .int .i64 x.n, .int .i64 x.m, .int .i64 x.d.k, .int .i64 x.d.n, .int .i64 x.d.m, dv] 38)).alloc (.cells #[.slice none 0 0, .slice none 0 0] 27)) a1 n1 c1 a2 n2 c2 x dv := by
  obtain ⟨H1, H2, H3⟩ := heap3 w (.cells #[.slice a1 n1 c1, .slice a2 n2 c2] 27) (.cells #[.int .i64 x.k, .int .i64 x.n, .int .i64 x.m, .int .i64 x.d.k, .int .i64 x.d.n, .int .i64 x.d.m, dv] 38) (.cells #[.slice none 0 0, .slice none 0 0] 27)
  exact ⟨((Grow.alloc _ _).trans (Grow.alloc _ _)).trans (Grow.alloc _ _), row_at H1 0 rfl, row_at H1 1 rfl, row_at H2 0 rfl, row_at H2 1 rfl, row_at H2 2 rfl, row_at H2 3 rfl, row_at H2 4 rfl, row_at H2 5 rfl, row_at H2 6 rfl, H3⟩

end Go.Proofs.YtjggiameajndgadGreatDoor

/-
  What the reference's Play returns. Nothing old turns.
-/
namespace Go.Proofs.YtjggiameajndgadGreatDoor
open Go.RowKit

/-- The cells of a step. -/
def StepC (w : World) (b o : Nat) (x : StepP) (dv : Value) : Prop :=
  w.cell? ⟨b, o, none⟩ = some (.int .i64 x.k) ∧ w.cell? ⟨b, o + 1, none⟩ = some (.int .i64 x.n) ∧ w.cell? ⟨b, o + 2, none⟩ = some (.int .i64 x.m) ∧ w.cell? ⟨b, o + 3, none⟩ = some (.int .i64 x.d.k) ∧
    w.cell? ⟨b, o + 4, none⟩ = some (.int .i64 x.d.n) ∧ w.cell? ⟨b, o + 5, none⟩ = some (.int .i64 x.d.m) ∧ w.cell? ⟨b, o + 6, none⟩ = some dv ∧ Bs w dv x.d.d ∧ x.n ≤ 9223372036854775807

theorem StepC.grow {w w' : World} {b o : Nat} {x : StepP} {dv : Value} (h : StepC w b o x dv) (hg : Grow w w') : StepC w' b o x dv := by
  obtain ⟨h0, h1, h2, h3, h4, h5, h6, h7, h8⟩ := h
  exact ⟨hg.at h0, hg.at h1, hg.at h2, hg.at h3, hg.at h4, hg.at h5, hg.at h6, h7.grow hg, h8⟩

/-- Steps, as they lie: seven cells each. -/
def Stps (w : World) (v : Value) (l : List StepP) : Prop :=
  ∃ ao cap, v = .slice ao l.length cap ∧ l.length ≤ cap ∧ cap ≤ maxLen ∧ (ao = none → cap = 0) ∧
    (0 < l.length → ∃ b off, ao = some ⟨b, off, none⟩ ∧ ∀ (i : Nat) s, l[i]? = some s → ∃ dv, StepC w b (off + i * 7) s dv)

theorem Stps.grow {w w' : World} {v : Value} {l : List StepP} (h : Stps w v l) (hg : Grow w w') : Stps w' v l := by
  obtain ⟨ao, cap, hv, h1, h2, h3, h4⟩ := h
  refine ⟨ao, cap, hv, h1, h2, h3, fun hp => ?_⟩
  obtain ⟨b, off, e, hc⟩ := h4 hp
  refine ⟨b, off, e, fun i s hi => ?_⟩
  obtain ⟨dv, hd⟩ := hc i s hi
  exact ⟨dv, hd.grow hg⟩

theorem Tryz.infoE : (Tryz.prog.info? 31).map (fun i => (i.zero, i.size, i.bytes)) = some (some (.int .i64 0), 1, 8) := by kernel_rfl

/-- Numbers are appended beside it. -/
theorem BInv.num {w w6 w7 : World} {A R : Nat} {x y es : Value} {b : ArrP} {B : Nat} {e : TypeId} {ns : List Int} (h : BInv w A R x y b w6) (hN : NumRow B e w6 es ns) (hg : GrownIn w6 w7 (fun k => es.ownBlock = some k)) (hA : A < B) (hR : R < B) (hw : w.heap.size ≤ B) (hi : b.is = []) : BInv w A R x y b w7 := by
  obtain ⟨⟨h1, h2⟩, h3, h4⟩ := h
  have hgb : w6.grownBy w7 es.ownBlock := ⟨hg.os, hg.tape, hg.output, hg.size, fun i hlt hne => hg.block i hlt (fun hk => hne hk.symm)⟩
  have hb := hN.base
  have lt : ∀ {j : Nat} {o : Obj}, w6.heap[j]? = some o → j < w6.heap.size := fun {j o} hj => by
    by_cases hlt : j < w6.heap.size
    · exact hlt
    · rw [Array.getElem?_eq_none (Nat.le_of_not_lt hlt)] at hj; cases hj
  have hX : ArrX es.ownBlock w6 (.agg #[x, y]) b := by
    cases hv : es.ownBlock with
    | none => exact ArrX.old h3.out (Grow.refl _) (fun _ h => nomatch h)
    | some g => exact (hN.2 g hv).arr h3.out hi
  refine ⟨⟨(hg.block A (lt h1) (fun hk => by have := (hb A hk).1; omega)).trans h1, (hg.block R (lt h2) (fun hk => by have := (hb R hk).1; omega)).trans h2⟩, (hX.step hgb).plain, ?_⟩
  exact h4.grown hgb (fun k hk => by have := (hb k hk).1; omega)

theorem BInv.grow {w wr w5 : World} {A R : Nat} {x y : Value} {b : ArrP} (h : BInv w A R x y b wr) (hg : Grow wr w5) : BInv w A R x y b w5 := by
  obtain ⟨⟨h1, h2⟩, h3, h4⟩ := h
  exact ⟨⟨hg.block' h1, hg.block' h2⟩, h3.out.grow hg, h4.trans hg⟩

theorem playEs_succ {l : List StepP} {k : Nat} {s : StepP} (h : l[k]? = some s) : playEs l k ++ [stepE (playTo l k) s] = playEs l (k + 1) := by
  simp [playEs, List.range_succ, h]
theorem playTo_succ {l : List StepP} {k : Nat} {s : StepP} (h : l[k]? = some s) : playTo l (k + 1) = stepA (playTo l k) s := by rw [playTo, h]
theorem playEs_length (l : List StepP) (k : Nat) : (playEs l k).length = k := by simp [playEs]

end Go.Proofs.YtjggiameajndgadGreatDoor

/-
  What the program's model.Same returns, by slices.EqualFunc and bytes.Equal. Nothing old turns.
-/
namespace Go.Proofs.YtjggiameajndgadGreatDoor
open Go.RowKit

set_option maxRecDepth 20000 in
set_option maxHeartbeats 800000 in
theorem bytesEqual_any (v u : Value) (a b : List Int) (w : World) (h : Bs w v a) (g : Bs w u b) :
    Calls Tryz.prog 25 #[v, u] w fun e w' => e = .returned (.bool (a == b)) ∧ Grow w w' := by
  have hc1 := run_convert_bs (P := Tryz.prog) 34 5 9 Tryz.underlying34 Tryz.underlying5 Tryz.underlying9 h
  have hc2 := run_convert_bs (P := Tryz.prog) 34 5 9 Tryz.underlying34 Tryz.underlying5 Tryz.underlying9 g
  have HB : Hid (((strOfNums a).toList == (strOfNums b).toList) = (a == b)) := str_beq h.octets g.octets
  clear h g
  go_enter Tryz.func25, Tryz.ntmps25
  go_wp2
  go_ret
  exact ⟨ret_bool HB.out, Grow.refl _⟩

set_option maxRecDepth 20000 in
set_option maxHeartbeats 1600000 in
theorem equalFunc_any (va vb : Value) (a b : List (List Int)) (w : World) (ha : Bss w va a) (hb : Bss w vb b) :
    Calls Tryz.prog 24 #[va, vb, .func (.func 25) #[] #[]] w fun e w' => e = .returned (.bool (a == b)) ∧ Grow w w' := by
  obtain ⟨aa, ca, rfl, h1, h2, h3, h4⟩ := ha
  obtain ⟨ab, cb, rfl, g1, g2, g3, g4⟩ := hb
  unfold maxLen at h2 g2
  by_cases hl : a.length = b.length
  · have HL : Hid (a.length = b.length) := hl
    rw [← hl] at g1 ⊢
    clear hl
    go_enter Tryz.func24, Tryz.ntmps24
    go_wp2
    go_loopw [17] (fun i wr => ∃ k : Nat, k ≤ a.length ∧ i = .int .i64 k ∧ Hid (∀ j, j < k → a.getD j [] = b.getD j []) ∧ Grow w wr) (fun i _ => a.length - (intOf i).toNat)
    case atStart => exact ⟨0, by omega, rfl, (fun j hj => by omega), Grow.refl _⟩
    case round =>
      obtain ⟨k, hk, rfl, HK, hgr⟩ := hrel
      by_cases hlt : k < a.length
      · obtain ⟨ba, offa, rfl, hca⟩ := h4 (by omega)
        obtain ⟨bb, offb, rfl, hcb⟩ := g4 (by have := HL.out; omega)
        obtain ⟨xa, cxa, hxa, hba⟩ := Sl.bytesAt hca hlt
        obtain ⟨xb, cxb, hxb, hbb⟩ := Sl.bytesAt hcb (k := k) (by have := HL.out; omega)
        have hxa' := hgr.at hxa
        have hxb' := hgr.at hxb
        have hE := bytesEqual_any _ _ _ _ _ (hba.grow hgr) (hbb.grow hgr)
        clear hca hcb h4 g4 hxa hxb hba hbb
        by_cases he : a.getD k [] = b.getD k []
        · have HK' : Hid (∀ j, j < k + 1 → a.getD j [] = b.getD j []) := fun j hj => by
            by_cases hjk : j = k
            · subst hjk; exact he
            · exact HK.out j (by omega)
          rw [show (a.getD k [] == b.getD k []) = true from by rw [he]; simp] at hE
          clear he
          generalize (a.getD k []).length = n at *
          generalize (b.getD k []).length = m at *
          go_wp2_with fail
          refine hE.mono ?_
          rintro e w1 ⟨rfl, hg1⟩
          go_wp2
          go_roundw
          case rel => first | exact ⟨k + 1, by omega, by go_num, HK', hgr.trans hg1⟩ | ((repeat apply Exists.intro); exact ⟨⟨k + 1, by omega, by go_num, HK', hgr.trans hg1⟩, rfl⟩)
          case measure => simp [intOf]; omega
        · have HE : Hid ((a == b) = false) := same_no he
          rw [show (a.getD k [] == b.getD k []) = false from by rw [beq_eq_false_iff_ne]; exact he] at hE
          clear he
          generalize (a.getD k []).length = n at *
          generalize (b.getD k []).length = m at *
          go_wp2_with fail
          refine hE.mono ?_
          rintro e w1 ⟨rfl, hg1⟩
          go_wp2
          go_ret
          exact ⟨ret_bool HE.out.symm, hgr.trans hg1⟩
      · have HE : Hid ((a == b) = true) := same_yes HL.out (fun j hj => HK.out j (by omega))
        go_wp2
        go_ret
        exact ⟨ret_bool HE.out.symm, hgr⟩
  · have HE : Hid ((a == b) = false) := same_len hl
    have hl' : ¬ (a.length : Int) = (b.length : Int) := by omega
    clear hl
    go_enter Tryz.func24, Tryz.ntmps24
    go_wp2
    go_ret
    exact ⟨ret_bool HE.out.symm, Grow.refl _⟩

set_option maxRecDepth 20000 in
theorem modelSame_any (v u : Value) (a b : List (List Int)) (w : World) (h : Bss w v a) (g : Bss w u b) (_ha : a.length = 9) (_hb : b.length = 9) :
    Calls Tryz.prog 11 #[v, u] w fun e w' => e = .returned (.bool (a == b)) ∧ Grow w w' := by
  obtain ⟨av, cv, rfl⟩ := Sl.form h
  obtain ⟨au, cu, rfl⟩ := Sl.form g
  have hcall := equalFunc_any _ _ _ _ w h g
  clear _ha _hb
  generalize a.length = n at *
  generalize b.length = m at *
  go_enter Tryz.func11, Tryz.ntmps11
  go_wp2_with fail
  refine hcall.mono ?_
  rintro e w1 ⟨rfl, hg1⟩
  go_wp2
  go_ret
  exact ⟨rfl, hg1⟩

end Go.Proofs.YtjggiameajndgadGreatDoor

/-
  What the program's model.New and bytes.Clone return. Nothing old turns.
-/
namespace Go.Proofs.YtjggiameajndgadGreatDoor
open Go.RowKit

/-- A row of nine, made. -/
def nines : Array Value := #[.slice none 0 0, .slice none 0 0, .slice none 0 0, .slice none 0 0, .slice none 0 0, .slice none 0 0, .slice none 0 0, .slice none 0 0, .slice none 0 0]

theorem Tryz.made9 (w : World) : (Instr.makeSlice 28 (.int .i64 9) (.int .i64 9)).run Tryz.prog w = .ok (.slice (some ⟨w.heap.size, 0, none⟩) 9 9) (w.alloc (.cells nines 34)) :=
  (run_make_row' (P := Tryz.prog) 28 34 (.slice none 0 0) 24 Tryz.underlying28 Tryz.infoS rfl .i64 .i64 9 (by decide) (by decide) w).trans (by rw [show madeCells #[.slice none 0 0] 9 = nines from Array.toList_inj.1 (toList_madeCells_one _ _)])

theorem Rowing.made9 (w : World) : Rowing Bs w.heap.size 34 (w.alloc (.cells nines 34)) (.slice (some ⟨w.heap.size, 0, none⟩) 9 9) (List.replicate 9 []) := by
  refine ⟨nines.toList, ⟨rfl, .inr ⟨w.heap.size, 9, nines, rfl, Nat.le_refl _, heap_alloc_new w _, Nat.le_refl _, by unfold maxLen; omega, rfl, rfl⟩⟩, rfl, fun i u x hu hx w' _ => ?_⟩
  have hu' : u = .slice none 0 0 := by
    have := List.mem_of_getElem? hu
    simpa [nines] using this
  have hx' : x = [] := by
    have := List.mem_of_getElem? hx
    simpa using this
  subst hu' hx'
  exact Bs.nil _

/-- The first k are filled. -/
def upTo (f : Nat → List Int) (k : Nat) : List (List Int) := (List.range 9).map fun i => if i < k then f i else []

theorem upTo_zero (f : Nat → List Int) : upTo f 0 = List.replicate 9 [] := by simp [upTo]; decide
theorem upTo_all (f : Nat → List Int) : upTo f 9 = (List.range 9).map f := List.map_congr_left fun _ hi => if_pos (List.mem_range.1 hi)
theorem upTo_length (f : Nat → List Int) (k : Nat) : (upTo f k).length = 9 := by simp [upTo]
theorem upTo_set (f : Nat → List Int) {k : Nat} (_h : k < 9) : (upTo f k).set k (f k) = upTo f (k + 1) := by
  refine List.ext_getElem (by simp [upTo]) fun i h1 h2 => ?_
  rw [List.getElem_set]
  simp only [upTo, List.getElem_map, List.getElem_range]
  by_cases hik : k = i
  · subst hik; rw [if_pos rfl, if_pos (by omega)]
  · rw [if_neg hik]
    by_cases hlt : i < k
    · rw [if_pos hlt, if_pos (by omega)]
    · rw [if_neg hlt, if_neg (by omega)]

set_option maxRecDepth 20000 in
set_option maxHeartbeats 800000 in
theorem modelNew_any (w : World) : Calls Tryz.prog 71 #[] w fun e w' => ∃ r, e = .returned r ∧ Bss w' r (List.replicate 9 nought) ∧ Grow w w' := by
  have hmk := Tryz.made9 w
  have hst : Hid (Rowing Bs w.heap.size 34 (w.alloc (.cells nines 34)) (.slice (some ⟨w.heap.size, 0, none⟩) 9 9) (upTo (fun _ => nought) 0)) := by rw [upTo_zero]; exact Rowing.made9 w
  have hend : Hid (upTo (fun _ => nought) 9 = List.replicate 9 nought) := by rw [Hid, upTo_all]; rfl
  go_enter Tryz.func71, Tryz.ntmps71
  go_wp2
  go_loopw [6] (fun i wr => ∃ k : Nat, k ≤ 9 ∧ i = .int .i64 k ∧ Hid (Rowing Bs w.heap.size 34 wr (.slice (some ⟨w.heap.size, 0, none⟩) 9 9) (upTo (fun _ => nought) k)) ∧ Grow w wr) (fun i _ => 9 - (intOf i).toNat)
  case atStart => exact ⟨0, by omega, rfl, hst, Grow.alloc _ _⟩
  case round =>
    obtain ⟨k, hk, rfl, HR, hgr⟩ := hrel
    clear hst hmk
    by_cases hlt : k < 9
    · have hmk := Tryz.made4 wr
      have hgA : Grow wr (wr.alloc (.cells #[.int .u8 0, .int .u8 0, .int .u8 0, .int .u8 0] 5)) := Grow.alloc _ _
      have hrow := HR.out.grow hgA
      have hb : w.heap.size < wr.heap.size := (HR.out.base _ rfl).2
      have hoff : Off Bs (some w.heap.size) (wr.alloc (.cells #[.int .u8 0, .int .u8 0, .int .u8 0, .int .u8 0] 5)) (.slice (some ⟨wr.heap.size, 0, none⟩) 4 4) nought := Off.row (l := nought) (heap_alloc_new wr _) rfl (by unfold maxLen; omega) nought_oct (fun e => by injection e with e; omega)
      obtain ⟨⟨u0, hu0⟩, hf0⟩ := hrow.at (k := k) (by rw [upTo_length]; exact hlt)
      have hpast := World.setCell_alloc_past (w := wr) (.cells #[.int .u8 0, .int .u8 0, .int .u8 0, .int .u8 0] 5) w.heap.size k (.slice (some ⟨wr.heap.size, 0, none⟩) 4 4) hb
      have hrow1 := hrow.stored k hoff
      have hg1 := (hgr.trans hgA).grown (grown_set (wr.alloc (.cells #[.int .u8 0, .int .u8 0, .int .u8 0, .int .u8 0] 5)) w.heap.size k (.slice (some ⟨wr.heap.size, 0, none⟩) 4 4)) (fun j hj => by cases hj; exact Nat.le_refl _)
      rw [upTo_set (fun _ => nought) hlt, hpast] at hrow1
      rw [hpast] at hg1
      have HR1 : Hid (Rowing Bs _ _ _ _ _) := hrow1
      clear hrow1 hpast
      clear HR hgA hrow hoff
      go_wp2
      go_roundw
      case rel => first | exact ⟨k + 1, by omega, by go_num, HR1, hg1⟩ | ((repeat apply Exists.intro); exact ⟨⟨k + 1, by omega, by go_num, HR1, hg1⟩, rfl⟩)
      case measure => simp [intOf]; omega
    · obtain rfl : k = 9 := by omega
      go_wp2
      go_ret
      exact ⟨_, rfl, by rw [← hend.out]; exact HR.out.done, hgr⟩

set_option maxRecDepth 20000 in
set_option maxHeartbeats 800000 in
theorem bytesClone_some (v : Value) (l : List Int) (w : World) (h : Bs w v l) (hp : 0 < l.length) (hm : l.length ≤ 1000) :
    Calls Tryz.prog 31 #[v] w fun e w' => ∃ r, e = .returned r ∧ (∀ g, (∀ k, g = some k → k < w.heap.size) → Off Bs g w' r l) ∧ Grow w w' := by
  obtain ⟨i0, hi, hz0, hz1, hz2⟩ := info_parts Tryz.infoB
  have hoc := h.octets
  obtain ⟨ao, cap, rfl, h1, h2, h3, h4, h5⟩ := h
  have hsrc := h5.src
  obtain ⟨b, off, rfl, hc⟩ := h5 hp
  have hsrc' := hsrc _ rfl
  unfold maxLen at h2
  have HO : Hid (∀ (v' : Value) w', w'.ownsRow w.heap.size 5 1 v' l.length (l.map (Value.int .u8)) → ∀ g : Option Nat, (∀ k, g = some k → k < w.heap.size) → Off Bs g w' v' l) := fun v' w' ho g hg => Off.own ho hoc hg
  have qT : ∀ (w : World) (a : Option Addr) (n c n' c' : Nat), (binOp .eql 34 (.slice a n c) (.slice none n' c')).run Tryz.prog w = .ok (.bool a.isNone) w := fun w a n c n' c' => Lib.run_eql_slice_nil w _ _ a n c n' c' Tryz.underlying34
  have hlm : (l.map (Value.int .u8)).length = l.length := by simp
  have hone := u8_oneCell l
  clear h5 hc hsrc hoc
  generalize l.map (Value.int .u8) = news at *
  have HLM : Hid (news.length = l.length) := hlm
  generalize l.length = n at *
  clear hlm
  go_enter Tryz.func31, Tryz.ntmps31
  go_wp2_with (first
    | (at_builtin; refine wpList_append_copy rfl (.tmp 5) (.tmp 6) 34 rfl 5 i0 (.int .u8 0) 1 Tryz.underlying34 hi hz0 hz1 hz2 rfl w.heap.size (heap_alloc_new w _) w (Grow.alloc _ _) (Nat.le_refl _) rfl ⟨b, off, none⟩ n cap news rfl HLM.out hsrc' hone hp (by omega) (by omega) ?_; rintro g1 cg w1 hown hg1 - - - -; have HX := HO.out _ _ hown; have HX' : Hid (_ ∧ _) := And.intro HX hg1; clear HX hown))
  go_wp2
  go_ret
  exact ⟨_, rfl, HX'.out.1, hg1⟩

end Go.Proofs.YtjggiameajndgadGreatDoor

/-
  What the program's model.Do returns, by the closures that tell what each block is behind a deed. Nothing old turns.
-/
namespace Go.Proofs.YtjggiameajndgadGreatDoor
open Go.RowKit

set_option maxRecDepth 20000 in
set_option maxHeartbeats 800000 in
theorem asItWas_any (n : Int) (L : Nat) (v : Value) (ls : List (List Int)) (w : World) (h : Bss w v ls) (hl : ls.length = 9) (h0 : 0 ≤ n) (h9 : n < 9) (hL : w.cell? ⟨L, 0, none⟩ = some v) :
    Calls Tryz.prog 50 #[.int .i64 n, .pointer (some ⟨L, 0, none⟩)] w fun e w' => ∃ r, e = .returned r ∧ Bs w r (ls.getD n.toNat []) ∧ w' = w := by
  obtain ⟨k, rfl⟩ := Int.eq_ofNat_of_zero_le h0
  obtain ⟨ao, cap, rfl, hc1, hc2⟩ := h.form'
  obtain ⟨b, off, u, rfl, hu, hr⟩ := h.elem (k := k) (by omega) []
  obtain ⟨x1, x2, x3, rfl⟩ := hr.form
  rw [hl] at hL hc1
  simp only [Int.toNat_natCast]
  clear h hl h0
  go_enter Tryz.func50, Tryz.ntmps50
  go_wp2
  go_ret
  exact ⟨_, rfl, hr, rfl⟩

/-- What a closure of the deed's has at hand: the deed in D, the blocks in L, the closure that tells them in A. -/
def Hand (D L A : Nat) (v d1 : Value) (x : DeedP) (w : World) : Prop :=
  w.cell? ⟨D, 1, none⟩ = some (.int .i64 x.n) ∧ w.cell? ⟨D, 2, none⟩ = some (.int .i64 x.m) ∧ w.cell? ⟨D, 3, none⟩ = some d1 ∧ w.cell? ⟨L, 0, none⟩ = some v ∧ w.cell? ⟨A, 0, none⟩ = some (.func (.func 50) #[] #[.pointer (some ⟨L, 0, none⟩)])

theorem Hand.grow {D L A : Nat} {v d1 : Value} {x : DeedP} {w w' : World} (h : Hand D L A v d1 x w) (hg : Grow w w') : Hand D L A v d1 x w' := ⟨hg.at h.1, hg.at h.2.1, hg.at h.2.2.1, hg.at h.2.2.2.1, hg.at h.2.2.2.2⟩

set_option maxRecDepth 20000 in
set_option maxHeartbeats 800000 in
theorem written_any (k : Nat) (D L A : Nat) (v d1 : Value) (x : DeedP) (ls : List (List Int)) (w : World) (hH : Hand D L A v d1 x w) (h : Bss w v ls) (hb : Bs w d1 x.d) (hl : ls.length = 9) (h9 : k < 9) (hk1 : x.k = 1) :
    Calls Tryz.prog 51 #[.int .i64 k, .pointer (some ⟨D, 0, none⟩), .pointer (some ⟨A, 0, none⟩)] w fun e w' => ∃ r, e = .returned r ∧ Bs w r (doAt ls x k) ∧ w' = w := by
  obtain ⟨c1, -, c3, c4, c5⟩ := hH
  by_cases hn : (k : Int) = x.n
  · rw [doAt_data hk1 hn]
    rw [← hn] at c1
    clear hn
    go_enter Tryz.func51, Tryz.ntmps51
    go_wp2
    go_ret
    exact ⟨_, rfl, hb, rfl⟩
  · rw [doAt_old hk1 hn]
    have hW := asItWas_any k L v ls w h hl (by omega) (by omega) c4
    simp only [Int.toNat_natCast] at hW
    have hn' : ((k : Int) == x.n) = false := by rw [beq_eq_false_iff_ne]; exact hn
    clear h hb
    go_enter Tryz.func51, Tryz.ntmps51
    go_wp2_with fail
    refine hW.mono ?_
    rintro e w1 ⟨r, rfl, hr, rfl⟩
    go_wp2
    go_ret
    exact ⟨_, rfl, hr, rfl⟩

set_option maxRecDepth 20000 in
set_option maxHeartbeats 1600000 in
theorem swapped_any (k : Nat) (D L A : Nat) (v d1 : Value) (x : DeedP) (ls : List (List Int)) (w : World) (hH : Hand D L A v d1 x w) (h : Bss w v ls) (hl : ls.length = 9) (h9 : k < 9) (hk2 : x.k = 2) (hr : wrongE x = 0) :
    Calls Tryz.prog 52 #[.int .i64 k, .pointer (some ⟨D, 0, none⟩), .pointer (some ⟨A, 0, none⟩)] w fun e w' => ∃ r, e = .returned r ∧ Bs w r (doAt ls x k) ∧ w' = w := by
  obtain ⟨c1, c2, -, c4, c5⟩ := hH
  obtain ⟨-, hn0, hn8, -, h2⟩ := right_deed hr
  have hm := whereE_zero (h2 hk2).1
  by_cases hn : (k : Int) = x.n
  · rw [doAt_n hk2 hn]
    have hW := asItWas_any x.m L v ls w h hl hm.1 hm.2 c4
    rw [← hn] at c1
    clear h hn h2
    go_enter Tryz.func52, Tryz.ntmps52
    go_wp2_with fail
    refine hW.mono ?_
    rintro e w1 ⟨r, rfl, hr, rfl⟩
    go_wp2
    go_ret
    exact ⟨_, rfl, hr, rfl⟩
  · have hn' : ((k : Int) == x.n) = false := by rw [beq_eq_false_iff_ne]; exact hn
    by_cases hkm : (k : Int) = x.m
    · rw [doAt_m hk2 hn hkm]
      have hW := asItWas_any x.n L v ls w h hl hn0 (by omega) c4
      rw [← hkm] at c2
      clear h hn h2 hkm hm
      go_enter Tryz.func52, Tryz.ntmps52
      go_wp2_with fail
      refine hW.mono ?_
      rintro e w1 ⟨r, rfl, hr, rfl⟩
      go_wp2
      go_ret
      exact ⟨_, rfl, hr, rfl⟩
    · rw [doAt_out hk2 hn hkm]
      have hm' : ((k : Int) == x.m) = false := by rw [beq_eq_false_iff_ne]; exact hkm
      have hW := asItWas_any k L v ls w h hl (by omega) (by omega) c4
      simp only [Int.toNat_natCast] at hW
      clear h hn h2 hkm hm
      go_enter Tryz.func52, Tryz.ntmps52
      go_wp2_with fail
      refine hW.mono ?_
      rintro e w1 ⟨r, rfl, hr, rfl⟩
      go_wp2
      go_ret
      exact ⟨_, rfl, hr, rfl⟩

/-- The closure that tells what a block is behind a right deed. -/
def afterV (x : DeedP) (D A : Nat) : Value := .func (.func (if x.k = 1 then 51 else 52)) #[] #[.pointer (some ⟨D, 0, none⟩), .pointer (some ⟨A, 0, none⟩)]

set_option maxRecDepth 20000 in
set_option maxHeartbeats 1600000 in
theorem behind_any (v dv : Value) (ls : List (List Int)) (x : DeedP) (w : World) (h : Bss w v ls) (hd : DeedV w dv x) (hl : ls.length = 9) (hr : wrongE x = 0) :
    Calls Tryz.prog 30 #[v, dv] w fun e w' => ∃ D L A d1, e = .returned (afterV x D A) ∧ Hand D L A v d1 x w' ∧ Bs w' d1 x.d ∧ Grow w w' := by
  have hd' := hd
  obtain ⟨dv, rfl, hb⟩ := hd
  obtain ⟨d1, d2, d3, rfl⟩ := hb.form
  obtain ⟨av, cv, rfl⟩ := Sl.form h
  obtain ⟨o1, ho1⟩ : ∃ o : Obj, o = .cells #[.slice av ls.length cv] 28 := ⟨_, rfl⟩
  obtain ⟨o2, ho2⟩ : ∃ o : Obj, o = .cells #[.int .i64 x.k, .int .i64 x.n, .int .i64 x.m, .slice d1 d2 d3] 36 := ⟨_, rfl⟩
  obtain ⟨o3, ho3⟩ : ∃ o : Obj, o = .cells #[.func (.func 50) #[] #[.pointer (some ⟨w.heap.size, 0, none⟩)]] 66 := ⟨_, rfl⟩
  obtain ⟨W, hW⟩ : ∃ W, W = ((w.alloc o1).alloc o2).alloc o3 := ⟨_, rfl⟩
  obtain ⟨H1, H2, H3⟩ := heap3 w o1 o2 o3
  rw [← hW] at H1 H2 H3
  have hgW : Grow w W := by rw [hW]; exact ((Grow.alloc _ _).trans (Grow.alloc _ _)).trans (Grow.alloc _ _)
  rw [ho1] at H1
  rw [ho2] at H2
  rw [ho3] at H3
  have k0 : W.cell? ⟨w.heap.size + 1, 0, none⟩ = some (.int .i64 x.k) := row_at H2 0 rfl
  have k1 : W.cell? ⟨w.heap.size + 1, 1, none⟩ = some (.int .i64 x.n) := row_at H2 1 rfl
  have k2 : W.cell? ⟨w.heap.size + 1, 2, none⟩ = some (.int .i64 x.m) := row_at H2 2 rfl
  have k3 : W.cell? ⟨w.heap.size + 1, 3, none⟩ = some (.slice d1 d2 d3) := row_at H2 3 rfl
  have kl : W.cell? ⟨w.heap.size, 0, none⟩ = some (.slice av ls.length cv) := row_at H1 0 rfl
  have HA : Hid (Hand (w.heap.size + 1) w.heap.size (w.heap.size + 1 + 1) (.slice av ls.length cv) (.slice d1 d2 d3) x W) := ⟨k1, k2, k3, kl, row_at H3 0 rfl⟩
  have hmw := fun w1 hg => modelWrong_any _ x w1 (hd'.grow (w' := w1) hg)
  rw [hr] at hmw
  rw [hl] at kl ho1 HA ⊢
  have HB : Hid (Bs W (.slice d1 d2 d3) x.d) := hb.grow hgW
  obtain ⟨hk, -⟩ := right_deed hr
  clear H1 H2 H3 h hd' hb hr k1 k2 k3
  have hmf : ∀ (fn : Fn) (first cap : Array Value) (w : World), (Instr.makeFunc fn first cap).run Tryz.prog w = .ok (.func fn first cap) w := fun _ _ _ _ => rfl
  subst ho1 ho2 ho3
  rcases hk with hk | hk
  · have HV : Hid (∀ D A, afterV x D A = .func (.func 51) #[] #[.pointer (some ⟨D, 0, none⟩), .pointer (some ⟨A, 0, none⟩)]) := fun D A => by rw [afterV, if_pos hk]
    rw [hk] at k0 hW hmw ⊢
    go_enter Tryz.func30, Tryz.ntmps30
    go_wp2_with fail
    rw [← hW]
    refine (hmw _ hgW).mono ?_
    rintro e w1 ⟨rfl, hg1⟩
    have c0 := hg1.at k0
    clear k0 kl hW
    go_wp2
    go_ret
    exact ⟨_, _, _, _, congrArg Ending.returned (HV.out _ _).symm, HA.out.grow hg1, HB.out.grow hg1, hgW.trans hg1⟩
  · have HV : Hid (∀ D A, afterV x D A = .func (.func 52) #[] #[.pointer (some ⟨D, 0, none⟩), .pointer (some ⟨A, 0, none⟩)]) := fun D A => by rw [afterV, if_neg (by omega)]
    rw [hk] at k0 hW hmw ⊢
    go_enter Tryz.func30, Tryz.ntmps30
    go_wp2_with fail
    rw [← hW]
    refine (hmw _ hgW).mono ?_
    rintro e w1 ⟨rfl, hg1⟩
    have c0 := hg1.at k0
    clear k0 kl hW
    go_wp2
    go_ret
    exact ⟨_, _, _, _, congrArg Ending.returned (HV.out _ _).symm, HA.out.grow hg1, HB.out.grow hg1, hgW.trans hg1⟩

set_option maxRecDepth 20000 in
set_option maxHeartbeats 3200000 in
theorem modelDo_any (v dv : Value) (ls : List (List Int)) (x : DeedP) (w : World) (h : Bss w v ls) (hd : DeedV w dv x) (hl : ls.length = 9) (h4 : ∀ b ∈ ls, b.length = 4) (hr : wrongE x = 0) :
    Calls Tryz.prog 15 #[v, dv] w fun e w' => ∃ r, e = .returned r ∧ Bss w' r (doL ls x) ∧ Grow w w' := by
  have hv := h
  have hd' := hd
  obtain ⟨dv, rfl, hb⟩ := hd
  obtain ⟨d1, d2, d3, rfl⟩ := hb.form
  obtain ⟨av, cv, rfl⟩ := Sl.form h
  have hg := Grow.alloc w (.cells #[.int .i64 x.k, .int .i64 x.n, .int .i64 x.m, .slice d1 d2 d3] 36)
  have hcall := behind_any _ _ ls x _ (h.grow hg) (hd'.grow hg) hl hr
  have hlen : ∀ k : Nat, k < 9 → (doAt ls x k).length = 4 := fun k hk => by
    rw [← doL_at (by omega)]
    exact doL_four h4 hl hr _ (getD_mem (by rw [doL_length]; omega))
  have hend : Hid (upTo (doAt ls x) 9 = doL ls x) := by rw [Hid, upTo_all, doL, hl]
  have hafter : ∀ (k D L A : Nat) (q : Value) (w1 : World), k < 9 → Grow w w1 → Hand D L A (.slice av ls.length cv) q x w1 → Bs w1 q x.d → (x.k = 1 → Calls Tryz.prog 51 #[.int .i64 k, .pointer (some ⟨D, 0, none⟩), .pointer (some ⟨A, 0, none⟩)] w1 fun e w' => ∃ r, e = .returned r ∧ Bs w1 r (doAt ls x k) ∧ w' = w1) ∧ (x.k = 2 → Calls Tryz.prog 52 #[.int .i64 k, .pointer (some ⟨D, 0, none⟩), .pointer (some ⟨A, 0, none⟩)] w1 fun e w' => ∃ r, e = .returned r ∧ Bs w1 r (doAt ls x k) ∧ w' = w1) := fun k D L A q w1 hk hg1 hH hq =>
    ⟨fun h1 => written_any k D L A _ q x ls w1 hH (hv.grow hg1) hq hl hk h1, fun h2 => swapped_any k D L A _ q x ls w1 hH (hv.grow hg1) hl hk h2 hr⟩
  obtain ⟨hk, -⟩ := right_deed hr
  rw [hl] at hcall hafter ⊢
  clear hl h hd' hb h4 hr hv
  have HF : Hid (_ ∧ _) := And.intro hafter hlen
  clear hafter hlen
  rcases hk with hk | hk
  all_goals
    generalize doAt ls x = da at *
    generalize doL ls x = dl at *
    rw [hk] at hcall hg ⊢
    have HK : Hid (x.k = _) := hk
    clear hk
    go_enter Tryz.func15, Tryz.ntmps15
    go_wp2_with fail
    refine hcall.mono ?_
    rintro e w1 ⟨D, L, A, q, rfl, hH, hq, hg1⟩
    clear hcall
    have hmk := Tryz.made9 w1
    have hst : Hid (Rowing Bs w1.heap.size 34 (w1.alloc (.cells nines 34)) (.slice (some ⟨w1.heap.size, 0, none⟩) 9 9) (upTo da 0)) := by rw [upTo_zero]; exact Rowing.made9 w1
    have hgw1 := hg.trans hg1
    first | rw [afterV, if_pos HK.out] | rw [afterV, if_neg (by rw [HK.out]; decide)]
    have HHD : Hid (Hand D L A (.slice av 9 cv) q x w1 ∧ Bs w1 q x.d) := ⟨hH, hq⟩
    clear hH hq
    go_wp2
    go_loopw [16] (fun i wr => ∃ k : Nat, k ≤ 9 ∧ i = .int .i64 k ∧ Hid (Rowing Bs w1.heap.size 34 wr (.slice (some ⟨w1.heap.size, 0, none⟩) 9 9) (upTo da k)) ∧ Grow w1 wr) (fun i _ => 9 - (intOf i).toNat)
    case atStart => exact ⟨0, by omega, rfl, hst, Grow.alloc _ _⟩
    case round =>
      obtain ⟨k, hk9, rfl, HR, hgr⟩ := hrel
      clear hst hmk
      by_cases hlt : k < 9
      · have hA := HF.out.1 k D L A q wr hlt (hgw1.trans hgr) (HHD.out.1.grow hgr) (HHD.out.2.grow hgr)
        first | have hA' := hA.1 HK.out | have hA' := hA.2 HK.out
        have hdk : Hid ((da k).length = 4) := HF.out.2 k hlt
        have hb : w1.heap.size < wr.heap.size := (HR.out.base _ rfl).2
        go_wp2_with fail
        refine hA'.mono ?_
        rintro e w2 ⟨r, rfl, hr, hw2⟩
        subst hw2
        go_wp2_with fail
        refine (bytesClone_some _ _ _ hr (by rw [hdk.out]; omega) (by rw [hdk.out]; omega)).mono ?_
        rintro e w3 ⟨r3, rfl, hoff3, hg3⟩
        have hrow := HR.out.grow hg3
        obtain ⟨⟨u0, hu0⟩, hf0⟩ := hrow.at (k := k) (by rw [upTo_length]; exact hlt)
        have hoff := hoff3 (some w1.heap.size) (fun j hj => by cases hj; exact hb)
        obtain ⟨y1, y2, y3, rfl⟩ := hoff.here.form
        have hrow1 := hrow.stored k hoff
        rw [upTo_set da hlt] at hrow1
        have hg4 := (hgr.trans hg3).grown (grown_set w3 w1.heap.size k (.slice y1 y2 y3)) (fun j hj => by cases hj; exact Nat.le_refl _)
        have HR1 : Hid (Rowing Bs _ _ _ _ _) := hrow1
        clear HR hrow hoff hoff3 hrow1 hA hA' hr
        go_wp2
        go_roundw
        case rel => first | exact ⟨k + 1, by omega, by go_num, HR1, hg4⟩ | ((repeat apply Exists.intro); exact ⟨⟨k + 1, by omega, by go_num, HR1, hg4⟩, rfl⟩)
        case measure => simp [intOf]; omega
      · obtain rfl : k = 9 := by omega
        go_wp2
        go_ret
        exact ⟨_, rfl, by rw [← hend.out]; exact HR.out.done, hgw1.trans hgr⟩

end Go.Proofs.YtjggiameajndgadGreatDoor

/-
  Plain: a stripe's data spread over blocks and gathered again, by disks. What blockAt and model.New return.
-/
namespace Go.Proofs.YtjggiameajndgadGreatDoor
open Go.RowKit

/-- The block at a place that has one. -/
def bkN (s d : Nat) : Nat := 3 * s + (if d < 3 - s then d else d - 1)

theorem bkN_lt {s d : Nat} (hs : s < 3) (hd : d < 4) (_hn : d ≠ 3 - s) : bkN s d < 9 := by unfold bkN; split <;> omega

theorem blockN_yes {s d : Nat} (hs : s < 3) (hd : d < 4) (hn : d ≠ 3 - s) : blockN (d : Int) (s : Int) = (bkN s d : Nat) ∧ blockE (d : Int) (s : Int) = 0 := by
  refine ⟨?_, if_pos (by omega)⟩
  rw [blockN, if_pos (by omega), if_neg (by omega), bkN]
  by_cases h : d < 3 - s
  · rw [if_pos (by omega), if_pos h]; omega
  · rw [if_neg (by omega), if_neg h]; omega
theorem blockN_no {s d : Nat} (hs : s < 3) (hn : d = 3 - s) : blockN (d : Int) (s : Int) = -1 ∧ blockE (d : Int) (s : Int) = 0 := by
  refine ⟨?_, if_pos (by omega)⟩
  rw [blockN, if_pos (by omega), if_pos (by omega)]

/-- Blocks of which those of the first disks of stripe s are what that has. -/
def fillB (ls : List (List Int)) (s : Nat) : Nat → List (List Int)
  | 0 => List.replicate 9 nought
  | d + 1 => if d = 3 - s then fillB ls s d else (fillB ls s d).set (bkN s d) (ls.getD d [])

theorem fillB_length (ls : List (List Int)) (s : Nat) : ∀ d, (fillB ls s d).length = 9
  | 0 => rfl
  | d + 1 => by
    rw [fillB]
    split
    · exact fillB_length ls s d
    · rw [List.length_set]; exact fillB_length ls s d

theorem fillB_all (ls : List (List Int)) {s : Nat} (hs : s < 3) : fillB ls s 4 = spreadTo ls s 9 := by
  obtain rfl | rfl | rfl : s = 0 ∨ s = 1 ∨ s = 2 := by omega
  all_goals rfl

/-- What the first disks of stripe s are to have. -/
def outB (bl : List (List Int)) (s : Nat) : Nat → List (List Int)
  | 0 => List.replicate 4 []
  | d + 1 => if d = 3 - s then outB bl s d else (outB bl s d).set d (bl.getD (bkN s d) [])
/-- The same, in a row. -/
def rowB (bl : List (List Int)) (s : Nat) : Nat → List (List Int)
  | 0 => []
  | d + 1 => if d = 3 - s then rowB bl s d else rowB bl s d ++ [bl.getD (bkN s d) []]

theorem outB_length (bl : List (List Int)) (s : Nat) : ∀ k, (outB bl s k).length = 4
  | 0 => rfl
  | k + 1 => by
    rw [outB]
    split
    · exact outB_length bl s k
    · rw [List.length_set]; exact outB_length bl s k
theorem rowB_length (bl : List (List Int)) (s : Nat) : ∀ k, (rowB bl s k).length ≤ k
  | 0 => Nat.le_refl _
  | k + 1 => by
    have := rowB_length bl s k
    rw [rowB]
    split
    · omega
    · simp; omega
theorem rowB_blocks {bl : List (List Int)} (h4 : ∀ b ∈ bl, b.length = 4) (hl : bl.length = 9) {s : Nat} (hs : s < 3) : ∀ k, k ≤ 4 → ∀ b ∈ rowB bl s k, b.length = 4
  | 0, _ => by simp [rowB]
  | k + 1, hk => by
    rw [rowB]
    split
    · exact rowB_blocks h4 hl hs k (by omega)
    · rename_i hn
      intro b hb
      rcases List.mem_append.1 hb with hb | hb
      · exact rowB_blocks h4 hl hs k (by omega) b hb
      · simp only [List.mem_singleton] at hb
        rw [hb]
        exact h4 _ (getD_mem (by have := bkN_lt hs (show k < 4 by omega) hn; omega))

theorem planOut_behind (bl : List (List Int)) {s : Nat} (hs : s < 3) : planOut bl s = (outB bl s 4).set (3 - s) (xorAll (rowB bl s 4)) := by
  rw [planOut_eq bl s hs]
  obtain rfl | rfl | rfl : s = 0 ∨ s = 1 ∨ s = 2 := by omega
  all_goals rfl

set_option maxRecDepth 20000 in
set_option maxHeartbeats 800000 in
theorem blockAt_yes (d s : Nat) (w : World) (hs : s < 3) (hd : d < 4) (hn : d ≠ 3 - s) : Calls Tryz.prog 72 #[.int .i64 d, .int .i64 s] w fun e w' => e = .returned (.tuple #[.int .i64 (bkN s d : Nat), .bool true]) ∧ w' = w := by
  have hB := block_any (d : Int) (s : Int) w
  rw [(blockN_yes hs hd hn).1, (blockN_yes hs hd hn).2] at hB
  generalize bkN s d = b at *
  go_enter Tryz.func72, Tryz.ntmps72
  go_wp2_with fail
  refine hB.mono ?_
  rintro e w1 ⟨rfl, rfl⟩
  go_wp2
  go_ret2
  first
    | exact ⟨rfl, rfl⟩
    | simp
    | exact ⟨by simp, rfl⟩

set_option maxRecDepth 20000 in
set_option maxHeartbeats 800000 in
theorem blockAt_no (d s : Nat) (w : World) (hs : s < 3) (hn : d = 3 - s) : Calls Tryz.prog 72 #[.int .i64 d, .int .i64 s] w fun e w' => e = .returned (.tuple #[.int .i64 (-1), .bool false]) ∧ w' = w := by
  have hB := block_any (d : Int) (s : Int) w
  rw [(blockN_no hs hn).1, (blockN_no hs hn).2] at hB
  clear hn hs
  go_enter Tryz.func72, Tryz.ntmps72
  go_wp2_with fail
  refine hB.mono ?_
  rintro e w1 ⟨rfl, rfl⟩
  go_wp2
  go_ret2
  first
    | exact ⟨rfl, rfl⟩
    | simp
    | exact ⟨by simp, rfl⟩

set_option maxRecDepth 20000 in
set_option maxHeartbeats 800000 in
theorem modelNew_row (w : World) : Calls Tryz.prog 71 #[] w fun e w' => e = .returned (.slice (some ⟨w.heap.size, 0, none⟩) 9 9) ∧ Rowing Bs w.heap.size 34 w' (.slice (some ⟨w.heap.size, 0, none⟩) 9 9) (List.replicate 9 nought) ∧ Grow w w' := by
  have hmk := Tryz.made9 w
  have hst : Hid (Rowing Bs w.heap.size 34 (w.alloc (.cells nines 34)) (.slice (some ⟨w.heap.size, 0, none⟩) 9 9) (upTo (fun _ => nought) 0)) := by rw [upTo_zero]; exact Rowing.made9 w
  have hend : Hid (upTo (fun _ => nought) 9 = List.replicate 9 nought) := by rw [Hid, upTo_all]; rfl
  go_enter Tryz.func71, Tryz.ntmps71
  go_wp2
  go_loopw [6] (fun i wr => ∃ k : Nat, k ≤ 9 ∧ i = .int .i64 k ∧ Hid (Rowing Bs w.heap.size 34 wr (.slice (some ⟨w.heap.size, 0, none⟩) 9 9) (upTo (fun _ => nought) k)) ∧ Grow w wr) (fun i _ => 9 - (intOf i).toNat)
  case atStart => exact ⟨0, by omega, rfl, hst, Grow.alloc _ _⟩
  case round =>
    obtain ⟨k, hk, rfl, HR, hgr⟩ := hrel
    clear hst hmk
    by_cases hlt : k < 9
    · have hmk := Tryz.made4 wr
      have hgA : Grow wr (wr.alloc (.cells #[.int .u8 0, .int .u8 0, .int .u8 0, .int .u8 0] 5)) := Grow.alloc _ _
      have hrow := HR.out.grow hgA
      have hb : w.heap.size < wr.heap.size := (HR.out.base _ rfl).2
      have hoff : Off Bs (some w.heap.size) (wr.alloc (.cells #[.int .u8 0, .int .u8 0, .int .u8 0, .int .u8 0] 5)) (.slice (some ⟨wr.heap.size, 0, none⟩) 4 4) nought := Off.row (l := nought) (heap_alloc_new wr _) rfl (by unfold maxLen; omega) nought_oct (fun e => by injection e with e; omega)
      obtain ⟨⟨u0, hu0⟩, hf0⟩ := hrow.at (k := k) (by rw [upTo_length]; exact hlt)
      have hpast := World.setCell_alloc_past (w := wr) (.cells #[.int .u8 0, .int .u8 0, .int .u8 0, .int .u8 0] 5) w.heap.size k (.slice (some ⟨wr.heap.size, 0, none⟩) 4 4) hb
      have hrow1 := hrow.stored k hoff
      have hg1 := (hgr.trans hgA).grown (grown_set (wr.alloc (.cells #[.int .u8 0, .int .u8 0, .int .u8 0, .int .u8 0] 5)) w.heap.size k (.slice (some ⟨wr.heap.size, 0, none⟩) 4 4)) (fun j hj => by cases hj; exact Nat.le_refl _)
      rw [upTo_set (fun _ => nought) hlt, hpast] at hrow1
      rw [hpast] at hg1
      have HR1 : Hid (Rowing Bs _ _ _ _ _) := hrow1
      clear hrow1 hpast
      clear HR hgA hrow hoff
      go_wp2
      go_roundw
      case rel => first | exact ⟨k + 1, by omega, by go_num, HR1, hg1⟩ | ((repeat apply Exists.intro); exact ⟨⟨k + 1, by omega, by go_num, HR1, hg1⟩, rfl⟩)
      case measure => simp [intOf]; omega
    · obtain rfl : k = 9 := by omega
      go_wp2
      go_ret
      exact ⟨rfl, by rw [← hend.out]; exact HR.out, hgr⟩

end Go.Proofs.YtjggiameajndgadGreatDoor

/-
  What the program's array.behind returns. Nothing old turns.
-/
namespace Go.Proofs.YtjggiameajndgadGreatDoor
open Go.RowKit

set_option maxRecDepth 20000 in
set_option maxHeartbeats 6400000 in
theorem arrBehind_any (v dv : Value) (ls : List (List Int)) (s : Nat) (x : DeedP) (w : World) (h : Bss w v ls) (hl : ls.length = 4) (h4 : ∀ b ∈ ls, b.length = 4) (hs : s < 3) (hd : DeedV w dv x) (hr : wrongE x = 0) :
    Calls Tryz.prog 61 #[v, .int .i64 s, dv] w fun e w' => ∃ r, e = .returned r ∧ Bss w' r (planOut (doL (spreadTo ls s 9) x) s) ∧ Grow w w' := by
  obtain ⟨i0, hi, hz0, hz1, hz2⟩ := info_parts Tryz.infoS
  have HD : Hid (DeedV w dv x ∧ wrongE x = 0 ∧ ∀ b ∈ ls, b.length = 4) := ⟨hd, hr, h4⟩
  obtain ⟨tv, rfl, hb⟩ := hd
  obtain ⟨d1, d2, d3, rfl⟩ := hb.form
  obtain ⟨av, cv, rfl, hv1, hv2⟩ := h.form'
  have HV : Hid (Bss w (.slice av ls.length cv) ls) := h
  rw [hl] at hv1 HV ⊢
  have HE : Hid (∀ k, k < 4 → ∃ b off x1 x2 x3, av = some ⟨b, off, none⟩ ∧ w.cell? ⟨b, off + k, none⟩ = some (.slice x1 x2 x3) ∧ Bs w (.slice x1 x2 x3) (ls.getD k [])) := fun k hk => by
    obtain ⟨b, off, u, e1, e2, e3⟩ := h.elem (k := k) (by omega) []
    obtain ⟨x1, x2, x3, rfl⟩ := e3.form
    exact ⟨b, off, x1, x2, x3, e1, e2, e3⟩
  have HL : Hid (ls.length = 4) := hl
  obtain ⟨W, hW⟩ : ∃ W, W = w.alloc (.cells #[.int .i64 x.k, .int .i64 x.n, .int .i64 x.m, .slice d1 d2 d3] 36) := ⟨_, rfl⟩
  have hgW : Grow w W := by rw [hW]; exact Grow.alloc _ _
  have hbW : W.heap[w.heap.size]? = some (.cells #[.int .i64 x.k, .int .i64 x.n, .int .i64 x.m, .slice d1 d2 d3] 36 (0, 0)) := by rw [hW]; exact heap_alloc_new w _
  have q0 : W.cell? ⟨w.heap.size, 0, none⟩ = some (.int .i64 x.k) := row_at hbW 0 rfl
  have q1 : W.cell? ⟨w.heap.size, 1, none⟩ = some (.int .i64 x.n) := row_at hbW 1 rfl
  have q2 : W.cell? ⟨w.heap.size, 2, none⟩ = some (.int .i64 x.m) := row_at hbW 2 rfl
  have q3 : W.cell? ⟨w.heap.size, 3, none⟩ = some (.slice d1 d2 d3) := row_at hbW 3 rfl
  have hN := modelNew_row W
  clear hb h h4 hr hl hbW
  go_enter Tryz.func61, Tryz.ntmps61
  go_wp2_with fail
  rw [← hW]
  refine hN.mono ?_
  rintro e w1 ⟨rfl, hR0, hg1⟩
  clear hN hW
  have HR0 : Hid (Rowing Bs W.heap.size 34 w1 (.slice (some ⟨W.heap.size, 0, none⟩) 9 9) (fillB ls s 0)) := hR0
  have q0' := hg1.at q0
  have q1' := hg1.at q1
  have q2' := hg1.at q2
  have q3' := hg1.at q3
  clear hR0
  go_wp2_with fail
  go_loopw [19] (fun i wr => ∃ k : Nat, k ≤ 4 ∧ i = .int .i64 k ∧ Hid (Rowing Bs W.heap.size 34 wr (.slice (some ⟨W.heap.size, 0, none⟩) 9 9) (fillB ls s k)) ∧ Grow W wr) (fun i _ => 4 - (intOf i).toNat)
  case atStart => exact ⟨0, by omega, rfl, HR0, hg1⟩
  case round =>
    obtain ⟨k, hk, rfl, HR, hgr⟩ := hrel
    clear HR0
    by_cases hlt : k < 4
    · have hdk : decide ((k : Int) < 4) = true := by simp; omega
      by_cases hks : k = 3 - s
      · have hB := blockAt_no k s wr hs hks
        have HR1 : Hid (Rowing Bs W.heap.size 34 wr (.slice (some ⟨W.heap.size, 0, none⟩) 9 9) (fillB ls s (k + 1))) := by rw [Hid, fillB, if_pos hks]; exact HR.out
        clear HR hks
        go_wp2_with fail
        refine hB.mono ?_
        rintro e w2 ⟨rfl, rfl⟩
        clear hB
        go_wp2_with fail
        go_roundw
        case rel => first | exact ⟨k + 1, by omega, by go_num, HR1, hgr⟩ | ((repeat apply Exists.intro); exact ⟨⟨k + 1, by omega, by go_num, HR1, hgr⟩, rfl⟩)
        case measure => simp [intOf]; omega
      · have hB := blockAt_yes k s wr hs hlt hks
        have hb9 := bkN_lt hs hlt hks
        obtain ⟨b, off, x1, x2, x3, rfl, e2, e3⟩ := HE.out k hlt
        have e2' := (hgW.trans hgr).at e2
        obtain ⟨⟨u0, hu0⟩, hf0⟩ := HR.out.at (k := bkN s k) (by rw [fillB_length]; exact hb9)
        have hst := HR.out.stored (bkN s k) (Off.old (g := some W.heap.size) Bs.stays e3 (hgW.trans hgr) (fun j hj => by cases hj; exact hgW.size))
        have HR1 : Hid (Rowing Bs W.heap.size 34 (wr.setCell ⟨W.heap.size, bkN s k, none⟩ (.slice x1 x2 x3)) (.slice (some ⟨W.heap.size, 0, none⟩) 9 9) (fillB ls s (k + 1))) := by rw [Hid, fillB, if_neg hks]; exact hst
        have hg3 := hgr.set (g := W.heap.size) (k := bkN s k) (Nat.le_refl _) (.slice x1 x2 x3)
        clear HR hst hks e2 e3
        generalize bkN s k = bk at *
        have hb9' : (bk : Int) < 9 := by omega
        go_wp2_with fail
        refine hB.mono ?_
        rintro e w2 ⟨rfl, rfl⟩
        clear hB
        go_wp2_with fail
        go_roundw
        case rel => first | exact ⟨k + 1, by omega, by go_num, HR1, hg3⟩ | ((repeat apply Exists.intro); exact ⟨⟨k + 1, by omega, by go_num, HR1, hg3⟩, rfl⟩)
        case measure => simp [intOf]; omega
    · have HK : Hid (k = 4) := by rw [Hid]; omega
      have HS9 : Hid (Bss wr (.slice (some ⟨W.heap.size, 0, none⟩) 9 9) (spreadTo ls s 9)) := by
        have := HR.out.done
        rw [HK.out, fillB_all ls hs] at this
        exact this
      have hgw := hgW.trans hgr
      have hsb := spread_blocks HD.out.2.2 HL.out s 9
      have hDo := modelDo_any (.slice (some ⟨W.heap.size, 0, none⟩) 9 9) (.agg #[.int .i64 x.k, .int .i64 x.n, .int .i64 x.m, .slice d1 d2 d3]) (spreadTo ls s 9) x wr HS9.out (HD.out.1.grow hgw) (spreadTo_length _ _ _) hsb HD.out.2.1
      have Hb4 : Hid (∀ b ∈ doL (spreadTo ls s 9) x, b.length = 4) := doL_blocks hsb (spreadTo_length _ _ _) HD.out.2.1
      have Hb9 : Hid ((doL (spreadTo ls s 9) x).length = 9) := by rw [Hid, doL_length, spreadTo_length]
      have HPO : Hid (planOut (doL (spreadTo ls s 9) x) s = (outB (doL (spreadTo ls s 9) x) s 4).set (3 - s) (xorAll (rowB (doL (spreadTo ls s 9) x) s 4))) := planOut_behind _ hs
      have t0 := hgr.at q0
      have t1 := hgr.at q1
      have t2 := hgr.at q2
      have t3 := hgr.at q3
      clear HR HK hsb HS9 q0 q1 q2 q3
      go_wp2_with fail
      refine hDo.mono ?_
      rintro e w6 ⟨rb, rfl, hrb, hg6⟩
      clear hDo t0 t1 t2 t3
      have hgw6 := hgw.trans hg6
      generalize hbl : doL (spreadTo ls s 9) x = bl at *
      have HBL : Hid (doL (spreadTo ls s 9) x = bl) := hbl
      clear hbl
      obtain ⟨rba, rbc, rfl, hrb1, hrb2⟩ := hrb.form'
      rw [Hb9.out] at hrb1 hrb ⊢
      obtain ⟨bb, boff, bu, rfl, -, -⟩ := hrb.elem (k := 0) (by rw [Hb9.out]; omega) []
      have hmk := Tryz.made4S w6
      have hstart : Hid (RowingF (fun j => w6.heap.size < j) Bs w6.heap.size 34 (w6.alloc (.cells #[.slice none 0 0, .slice none 0 0, .slice none 0 0, .slice none 0 0] 34)) (.slice (some ⟨w6.heap.size, 0, none⟩) 4 4) (outB bl s 0)) := RowingF.made4 _ w6
      have hgd : Grow w6 (w6.alloc (.cells #[.slice none 0 0, .slice none 0 0, .slice none 0 0, .slice none 0 0] 34)) := Grow.alloc _ _
      have hsz7 : w6.heap.size + 1 ≤ (w6.alloc (.cells #[.slice none 0 0, .slice none 0 0, .slice none 0 0, .slice none 0 0] 34)).heap.size := by simp
      have HRB : Hid (∀ k, k < 9 → ∃ x1 x2 x3, w6.cell? ⟨bb, boff + k, none⟩ = some (.slice x1 x2 x3) ∧ Bs w6 (.slice x1 x2 x3) (bl.getD k [])) := fun k hk => by
        obtain ⟨b', off', u', hb', hu', hr'⟩ := hrb.elem (k := k) (by rw [Hb9.out]; omega) []
        injection hb' with hb'
        cases hb'
        obtain ⟨x1, x2, x3, rfl⟩ := hr'.form
        exact ⟨x1, x2, x3, hu', hr'⟩
      clear hrb
      go_wp2_with fail
      go_loopw [12, 45] (fun l i wr => ∃ k : Nat, k ≤ 4 ∧ i = .int .i64 k ∧ Hid (RowingF (fun j => j = w6.heap.size) Bs (w6.heap.size + 1) 34 wr l (rowB bl s k)) ∧ Hid (RowingF (fun j => w6.heap.size < j) Bs w6.heap.size 34 wr (.slice (some ⟨w6.heap.size, 0, none⟩) 4 4) (outB bl s k)) ∧ Grow w6 wr ∧ w6.heap.size + 1 ≤ wr.heap.size) (fun _ i _ => 4 - (intOf i).toNat)
      case atStart => exact ⟨0, by omega, rfl, RowingF.nil _ _ _ _ _, hstart, hgd, hsz7⟩
      case round =>
        obtain ⟨q, hq, rfl, HL1, HO, hgr7, hsz⟩ := hrel
        clear hstart hmk hgd hsz7
        by_cases hlt4 : q < 4
        · have hdk : decide ((q : Int) < 4) = true := by simp; omega
          by_cases hqs : q = 3 - s
          · have hB := blockAt_no q s wr hs hqs
            have HL8 : Hid (RowingF (fun j => j = w6.heap.size) Bs (w6.heap.size + 1) 34 wr u12 (rowB bl s (q + 1))) := by rw [Hid, rowB, if_pos hqs]; exact HL1.out
            have HO8 : Hid (RowingF (fun j => w6.heap.size < j) Bs w6.heap.size 34 wr (.slice (some ⟨w6.heap.size, 0, none⟩) 4 4) (outB bl s (q + 1))) := by rw [Hid, outB, if_pos hqs]; exact HO.out
            clear HL1 HO hqs
            go_wp2_with fail
            refine hB.mono ?_
            rintro e w2 ⟨rfl, rfl⟩
            clear hB
            go_wp2_with fail
            go_roundw
            case rel => first | exact ⟨q + 1, by omega, by go_num, HL8, HO8, hgr7, hsz⟩ | ((repeat apply Exists.intro); exact ⟨⟨q + 1, by omega, by go_num, HL8, HO8, hgr7, hsz⟩, rfl⟩)
            case measure => simp [intOf]; omega
          · have hB := blockAt_yes q s wr hs hlt4 hqs
            have hb9 := bkN_lt hs hlt4 hqs
            obtain ⟨x1, x2, x3, hu', hr'⟩ := HRB.out (bkN s q) hb9
            have hu7 := hgr7.at hu'
            have hrl := rowB_length bl s q
            obtain ⟨⟨uo, hcu⟩, hfu⟩ := HO.out.plain.at (k := q) (by rw [outB_length]; exact hlt4)
            have hbase := fun j hj => (HL1.out.base j hj).1
            have hoff := fun G hG => OffG.old (G := G) Bs.stays hr' hgr7 hG
            have HO8 : Hid (RowingF (fun j => w6.heap.size < j) Bs w6.heap.size 34 (wr.setCell ⟨w6.heap.size, q, none⟩ (.slice x1 x2 x3)) (.slice (some ⟨w6.heap.size, 0, none⟩) 4 4) (outB bl s (q + 1))) := by
              have := HO.out.stored q (hoff (fun j => w6.heap.size < j ∨ some w6.heap.size = some j) (fun j hj => by
                rcases hj with hj | hj
                · omega
                · injection hj with hj; omega))
              rw [Hid, outB, if_neg hqs]
              exact this
            have hrowL := HL1.out.set (A := w6.heap.size) rfl (fun e => by have := hbase _ e; omega) q (.slice x1 x2 x3)
            have hoffL : OffG Bs (fun j => j = w6.heap.size ∨ u12.ownBlock = some j) (wr.setCell ⟨w6.heap.size, q, none⟩ (.slice x1 x2 x3)) (.slice x1 x2 x3) (bl.getD (bkN s q) []) := (hoff _ (fun j hj => by
                rcases hj with hj | hj
                · omega
                · have := hbase j hj; omega)).step (grownIn_set wr w6.heap.size q _ (.inl rfl))
            have hG8 : Grow w6 (wr.setCell ⟨w6.heap.size, q, none⟩ (.slice x1 x2 x3)) := hgr7.set (by show w6.heap.size ≤ w6.heap.size; omega) _
            have hT : rowB bl s q ++ [bl.getD (bkN s q) []] = rowB bl s (q + 1) := by rw [rowB, if_neg hqs]
            have hsz8 : w6.heap.size + 1 ≤ (wr.setCell ⟨w6.heap.size, q, none⟩ (.slice x1 x2 x3)).heap.size := by simpa using hsz
            have hne8 : (wr.setCell ⟨w6.heap.size, q, none⟩ (.slice x1 x2 x3)).cell? ⟨bb, boff + bkN s q, none⟩ = some (.slice x1 x2 x3) := hG8.at hu'
            clear HL1 HO hoff hr' hu' hqs
            generalize bkN s q = bk at *
            have hb9' : (bk : Int) < 9 := by omega
            go_wp2_with fail
            refine hB.mono ?_
            rintro e w2 ⟨rfl, rfl⟩
            clear hB
            go_wp2_with (first
              | (at_builtin; refine wpList_pushF rfl (.tmp 62) (.tmp 67) 28 rfl i0 (.slice none 0 0) 24 Tryz.underlying28 hi hz0 hz1 hz2 rfl w6 hG8 (by omega) hsz8 rfl hrowL rfl hoffL w2.heap.size (by simp) rfl (by omega) (by omega) ?_; rintro v1 w8 - hrow8 hg8 hgi8))
            rw [hT] at hrow8
            have HO9 := HO8.out.kept (hgi8.mono (fun j hj => by have := hbase j hj; show w6.heap.size < j; omega)) (fun j hj => by cases hj; exact Nat.lt_irrefl _)
            have HO9' : Hid (RowingF (fun j => w6.heap.size < j) Bs w6.heap.size 34 w8 (.slice (some ⟨w6.heap.size, 0, none⟩) 4 4) _) := HO9
            have hsz9 : w6.heap.size + 1 ≤ w8.heap.size := Nat.le_trans hsz8 hgi8.size
            clear HO9 HO8
            go_wp2_with fail
            go_roundw
            case rel => first | exact ⟨q + 1, by omega, by go_num, hrow8, HO9', hg8, hsz9⟩ | ((repeat apply Exists.intro); exact ⟨⟨q + 1, by omega, by go_num, hrow8, HO9', hg8, hsz9⟩, rfl⟩)
            case measure => simp [intOf]; omega
        · have HQ : Hid (q = 4) := by rw [Hid]; omega
          have HLd : Hid (Bss wr u12 (rowB bl s 4)) := by have := HL1.out.done; rw [HQ.out] at this; exact this
          have HOp : Hid (Rowing Bs w6.heap.size 34 wr (.slice (some ⟨w6.heap.size, 0, none⟩) 4 4) (outB bl s 4)) := by have := HO.out.plain; rw [HQ.out] at this; exact this
          have hoct := xorAll_octets HLd.out.octets
          have hSp := spare_any (s : Int) wr (by omega) (by omega)
          rw [show (3 - (s : Int) % 4) = ((3 - s : Nat) : Int) by omega] at hSp
          have hXr := all_row u12 (rowB bl s 4) wr HLd.out (rowB_blocks Hb4.out Hb9.out hs 4 (by omega))
          have Hol : Hid ((outB bl s 4).length = 4) := outB_length bl s 4
          have htl : 3 - s < 4 := by omega
          clear HL1 HO HLd
          generalize 3 - s = t at *
          have htl' : (t : Int) < 4 := by omega
          go_wp2_with fail
          refine hSp.mono ?_
          rintro e w7 ⟨rfl, rfl⟩
          clear hSp
          go_wp2_with fail
          refine hXr.mono ?_
          rintro e w8 ⟨rfl, HX, hg8⟩
          clear hXr
          have HO8 : Hid (Rowing Bs w6.heap.size 34 w8 (.slice (some ⟨w6.heap.size, 0, none⟩) 4 4) (outB bl s 4)) := HOp.out.grow hg8
          obtain ⟨⟨uo, hcu⟩, hfu⟩ := HO8.out.at (k := t) (by rw [Hol.out]; exact htl)
          have hst := HO8.out.stored t (Off.row (g := some w6.heap.size) HX.out (xorAll_length _) (by unfold maxLen; omega) hoct (fun e => by injection e with e; omega))
          rw [← HPO.out] at hst
          have HS : Hid (Bss (w8.setCell ⟨w6.heap.size, t, none⟩ (.slice (some ⟨w7.heap.size, 0, none⟩) 4 4)) (.slice (some ⟨w6.heap.size, 0, none⟩) 4 4) (planOut bl s)) := hst.done
          have hgl8 : Grow w6 (w8.setCell ⟨w6.heap.size, t, none⟩ (.slice (some ⟨w7.heap.size, 0, none⟩) 4 4)) := (hgr7.trans hg8).set (by show w6.heap.size ≤ w6.heap.size; omega) _
          clear HOp HO8 hst HX hoct HPO Hol
          go_wp2_with fail
          go_ret
          rw [HBL.out]
          exact ⟨_, rfl, HS.out, hgw6.trans hgl8⟩

end Go.Proofs.YtjggiameajndgadGreatDoor
