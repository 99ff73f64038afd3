import Derived.Lib.SliceRun
import Derived.Lib.AppendZeros
import Derived.Test.YtbpekcmlaagegabJoin6
/-
  What the reference's Gone returns: an array with a disk that has nothing. Nothing old turns.
-/
namespace Go.Proofs.Ytbpekcmlaagegab
open Go.RowKit

/-- Two cells that are slices: nothing of an array lies there. -/
def Two (R : Nat) (w : World) : Prop := ∃ a b c a' b' c' t, w.heap[R]? = some (.cells #[.slice a b c, .slice a' b' c'] t (0, 0))

theorem Two.cell {R : Nat} {w : World} (h : Two R w) {off : Nat} {u : Value} (hu : w.cell? ⟨R, off, none⟩ = some u) : off < 2 ∧ ∃ a b c, u = .slice a b c := by
  obtain ⟨a, b, c, a', b', c', t, h⟩ := h
  rw [cell_of_row w R off _ _ _ h] at hu
  match off, hu with
  | 0, hu => simp at hu; exact ⟨by omega, _, _, _, hu.symm⟩
  | 1, hu => simp at hu; exact ⟨by omega, _, _, _, hu.symm⟩
  | n + 2, hu => simp at hu

theorem Two.bytes {R : Nat} {w : World} (h : Two R w) {u : Value} {l : List Int} (hb : Bs w u l) : Off Bs (some R) w u l := fun w' hg => by
  obtain ⟨ao, cap, hv, h1, h2, h3, h4, h5⟩ := hb
  refine ⟨ao, cap, hv, h1, h2, h3, h4, fun hp => ?_⟩
  obtain ⟨b, off, e, hc⟩ := h5 hp
  refine ⟨b, off, e, fun i hi => hg.cell (hc i hi) (fun e => ?_)⟩
  simp only [Option.some.injEq] at e
  subst e
  obtain ⟨_, _, _, this⟩ := (h.cell (hc i hi)).2
  cases this

theorem Two.row {α : Type} {R : Nat} {Q : World → Value → α → Prop} {w : World} (h : Two R w) {v : Value} {xs : List α} (hs : Sl Q w v xs) (hl : 3 ≤ xs.length) : RowOff (some R) v xs.length := fun hp b hb e => by
  obtain ⟨ao, cap, rfl, h1, h2, h3, h4⟩ := hs
  obtain ⟨b', off, rfl, hc⟩ := h4 hp
  simp only [Value.ownBlock, Option.some.injEq] at hb e
  subst hb e
  obtain ⟨u, hu, _⟩ := hc 2 (xs[2]) (by simp [show 2 < xs.length by omega])
  have := (h.cell hu).1
  omega

theorem Two.bss {R : Nat} {w : World} (h : Two R w) {v : Value} {ls : List (List Int)} (hs : Bss w v ls) (hl : 3 ≤ ls.length) : BssX (some R) w v ls := ⟨Sl.lift (fun _ _ hb => h.bytes hb) hs (Grow.refl _), h.row hs hl⟩

/-- Intents of four cells each. -/
def Fours (a : ArrP) : Prop := ∀ p ∈ a.is, p.2.length = 4

theorem Two.arr {R : Nat} {w : World} (h : Two R w) {v : Value} {b : ArrP} (hv : ArrV w v b) (hw : Whole b) (hi : Fours b) : ArrX (some R) w v b := by
  obtain ⟨dv, iv, e, h1, h2⟩ := hv
  refine ⟨dv, iv, e, ⟨?_, h.row h1 (by have := hw.1; omega)⟩, ?_, ?_⟩
  · obtain ⟨ao, cap, hv, k1, k2, k3, k4⟩ := h1
    refine ⟨ao, cap, hv, k1, k2, k3, fun hp => ?_⟩
    obtain ⟨b', off, e, hc⟩ := k4 hp
    refine ⟨b', off, e, fun i x hx => ?_⟩
    obtain ⟨u, hu, hr⟩ := hc i x hx
    exact ⟨u, hu, h.bss hr (by rw [hw.2 x (List.mem_of_getElem? hx)]; omega)⟩
  · obtain ⟨ao, cap, hv, k1, k2, k3, k4⟩ := h2
    refine ⟨ao, cap, hv, k1, k2, k3, fun hp => ?_⟩
    obtain ⟨b', off, e, hc⟩ := k4 hp
    refine ⟨b', off, e, fun i p hx => ?_⟩
    obtain ⟨h6, cv, h7, h8⟩ := hc i p hx
    exact ⟨h6, cv, h7, h.bss h8 (by rw [hi p (List.mem_of_getElem? hx)]; omega)⟩
  · intro hp b' hb e9
    obtain ⟨ao, cap, rfl, k1, k2, k3, k4⟩ := h2
    obtain ⟨b'', off, rfl, hc⟩ := k4 hp
    simp only [Value.ownBlock, Option.some.injEq] at hb
    injection e9 with e9
    subst hb e9
    obtain ⟨_, _, _, this⟩ := (h.cell (hc 0 (b.is[0]) (by simp [hp])).1).2
    cases this

/-- An array, stored into such two cells, or while they are written: it is what it was. -/
theorem Two.store {R : Nat} {w : World} (h : Two R w) {v : Value} {b : ArrP} (hv : ArrV w v b) (hw : Whole b) (hi : Fours b) (x y : Value) : ArrV ((w.setCell ⟨R, 0, none⟩ x).setCell ⟨R, 1, none⟩ y) v b :=
  (((h.arr hv hw hi).step (by_set w R 0 x)).step (by_set _ R 1 y)).plain

/-- What an array's value looks like. -/
theorem ArrV.form {w : World} {v : Value} {a : ArrP} (h : ArrV w v a) : ∃ a1 n1 c1 a2 n2 c2, v = .agg #[.slice a1 n1 c1, .slice a2 n2 c2] := by
  obtain ⟨dv, iv, rfl, h1, h2⟩ := h
  obtain ⟨p1, p2, rfl⟩ := h1.form
  obtain ⟨p3, p4, rfl, -⟩ := h2.form
  exact ⟨_, _, _, _, _, _, rfl⟩

/-- A disk that has nothing: its first k cells. -/
def goneTo (a : ArrP) (d : Nat) : Nat → ArrP
  | 0 => a
  | k + 1 => withL (goneTo a d k) d k []

def goneE (d : Int) : Int := if d < 0 ∨ 3 < d then 6 else 0
def goneL (a : ArrP) (d : Int) : ArrP := if d < 0 ∨ 3 < d then a else goneTo a d.toNat 3

theorem goneTo_whole {a : ArrP} (ha : Whole a) {d : Nat} (hd : d < 4) : ∀ k, Whole (goneTo a d k)
  | 0 => ha
  | k + 1 => withL_whole (goneTo_whole ha hd k) hd _

theorem goneTo_fours {a : ArrP} (ha : Fours a) (d : Nat) : ∀ k, Fours (goneTo a d k)
  | 0 => ha
  | k + 1 => by
    have := goneTo_fours ha d k
    exact this

/-- What a call keeps that has an array in a box A and a result in R. -/
def BInv (w : World) (A R : Nat) (x y : Value) (b : ArrP) (wr : World) : Prop :=
  Hid (wr.heap[A]? = some (.cells #[x, y] 39 (0, 0)) ∧ wr.heap[R]? = some (.cells #[.slice none 0 0, .slice none 0 0] 39 (0, 0))) ∧ Hid (ArrV wr (.agg #[x, y]) b) ∧ Grow w wr

theorem ArrV.form2 {w : World} {x y : Value} {a : ArrP} (h : ArrV w (.agg #[x, y]) a) : (∃ a1 n1 c1, x = .slice a1 n1 c1) ∧ ∃ a2 n2 c2, y = .slice a2 n2 c2 := by
  obtain ⟨a1, n1, c1, a2, n2, c2, e⟩ := h.form
  simp only [Value.agg.injEq] at e
  have e := congrArg Array.toList e
  simp at e
  exact ⟨⟨_, _, _, e.1⟩, ⟨_, _, _, e.2⟩⟩

/-- The box gets another array. -/
theorem BInv.put {w wr w5 : World} {A R : Nat} {x y x' y' : Value} {b b' : ArrP} (h : BInv w A R x y b wr) (hg : Grow wr w5) (hv : ArrV w5 (.agg #[x', y']) b') (hw : Whole b') (hi : Fours b') (hA : w.heap.size ≤ A) (hAR : R ≠ A) :
    BInv w A R x' y' b' ((w5.setCell ⟨A, 0, none⟩ x').setCell ⟨A, 1, none⟩ y') := by
  obtain ⟨⟨h1, h2⟩, h3, h4⟩ := h
  obtain ⟨⟨a1, n1, c1, rfl⟩, a2, n2, c2, rfl⟩ := h3.out.form2
  refine ⟨⟨two_set1 (two_set0 (hg.block' h1)), set_other (set_other (hg.block' h2) hAR) hAR⟩, ?_, ((h4.trans hg).set hA _).set hA _⟩
  exact Two.store ⟨_, _, _, _, _, _, _, hg.block' h1⟩ hv hw hi x' y'

/-- The result is the box's array. -/
theorem BInv.done {w wr : World} {A R : Nat} {x y : Value} {b : ArrP} (h : BInv w A R x y b wr) (hw : Whole b) (hi : Fours b) (hR : w.heap.size ≤ R) :
    ArrV ((wr.setCell ⟨R, 0, none⟩ x).setCell ⟨R, 1, none⟩ y) (.agg #[x, y]) b ∧ Grow w ((wr.setCell ⟨R, 0, none⟩ x).setCell ⟨R, 1, none⟩ y) ∧
      ((wr.setCell ⟨R, 0, none⟩ x).setCell ⟨R, 1, none⟩ y).cell? ⟨R, 0, none⟩ = some x ∧ ((wr.setCell ⟨R, 0, none⟩ x).setCell ⟨R, 1, none⟩ y).cell? ⟨R, 1, none⟩ = some y := by
  obtain ⟨⟨h1, h2⟩, h3, h4⟩ := h
  have hb := two_set1 (z := y) (two_set0 (z := x) h2)
  exact ⟨Two.store ⟨_, _, _, _, _, _, _, h2⟩ h3.out hw hi x y, (h4.set hR _).set hR _, two_at0 hb, two_at1 hb⟩

set_option maxRecDepth 20000 in
set_option maxHeartbeats 6400000 in
theorem refGone_any (v : Value) (a : ArrP) (d : Int) (w : World) (h : ArrV w v a) (ha : Whole a) (hi : Fours a) :
    Calls Try.prog 53 #[v, .int .i64 d] w fun e w' => ∃ r, e = .returned (.tuple #[r, .int .i64 (goneE d)]) ∧ ArrV w' r (goneL a d) ∧ Grow w w' := by
  obtain ⟨a1, n1, c1, a2, n2, c2, rfl⟩ := h.form
  obtain ⟨W, hW⟩ : ∃ W, W = (w.alloc (.cells #[.slice a1 n1 c1, .slice a2 n2 c2] 39)).alloc (.cells #[.slice none 0 0, .slice none 0 0] 39) := ⟨_, rfl⟩
  have hgW : Grow w W := by rw [hW]; exact (Grow.alloc _ _).trans (Grow.alloc _ _)
  have hI : BInv w w.heap.size (w.heap.size + 1) (.slice a1 n1 c1) (.slice a2 n2 c2) a W := ⟨by rw [hW]; exact ⟨(heap_alloc_old _ _ (by simp)).trans (heap_alloc_new w _), heap_alloc2_new w _ _⟩, h.grow hgW, hgW⟩
  by_cases hd : d < 0 ∨ 3 < d
  · have HE : Hid (goneE d = 6 ∧ goneL a d = a) := ⟨if_pos hd, if_pos hd⟩
    clear hI
    have hgF : Grow w ((w.alloc (.cells #[.slice a1 n1 c1, .slice a2 n2 c2] 39)).alloc (.cells #[.slice a1 n1 c1, .slice a2 n2 c2] 39)) := (Grow.alloc _ _).trans (Grow.alloc _ _)
    have hfin : Hid (_ ∧ _) := ⟨h.grow hgF, hgF⟩
    clear h hgF hgW hW
    have hd' : d < 0 ∨ (0 ≤ d ∧ 3 < d) := by omega
    clear hd
    rcases hd' with hd | ⟨hd0, hd⟩
    all_goals
      go_enter Try.func53, Try.ntmps53
      go_wp2
      refine bodyPost_ret (results_two1 Try.results53 _ _ (w.heap.size + 1) _ rfl Try.underlying39 rfl Try.sizeA (x := .slice a1 n1 c1) (y := .slice a2 n2 c2) (by simp) (by simp)) rfl ?_
      exact ⟨_, ret_bs2 HE.out.1.symm, by rw [HE.out.2]; exact hfin.out.1, hfin.out.2⟩
  · obtain ⟨d, rfl⟩ := Int.eq_ofNat_of_zero_le (show 0 ≤ d by omega)
    have hd4 : d < 4 := by omega
    have HE : Hid (goneE (d : Int) = 0 ∧ goneL a (d : Int) = goneTo a d 3) := ⟨if_neg hd, (if_neg hd).trans (by simp)⟩
    have hw3 := fun k => goneTo_whole ha hd4 k
    have hf3 := fun k => goneTo_fours hi d k
    have hd' : ¬ 3 < (d : Int) := by omega
    clear hd h
    go_enter Try.func53, Try.ntmps53
    go_wp2
    rw [← hW]
    clear hW
    go_loopw [14] (fun q wr => ∃ (k : Nat) (x y : Value), k ≤ 3 ∧ q = .int .i64 k ∧ BInv w w.heap.size (w.heap.size + 1) x y (goneTo a d k) wr) (fun q _ => 3 - (intOf q).toNat)
    case atStart => exact ⟨0, _, _, by omega, rfl, hI⟩
    case round =>
      obtain ⟨k, x, y, hk, rfl, hB⟩ := hrel
      have HB : Hid (BInv w w.heap.size (w.heap.size + 1) x y (goneTo a d k) wr) := hB
      obtain ⟨⟨h1, h2⟩, HV, hgr⟩ := hB
      obtain ⟨⟨x1, x2, x3, rfl⟩, y1, y2, y3, rfl⟩ := HV.out.form2
      have b0 := two_at0 h1
      have b1 := two_at1 h1
      have r0 := two_at0 h2
      have r1 := two_at1 h2
      have fA0 : wr.frozen? ⟨w.heap.size, 0, none⟩ = false := frozen_of_row wr _ 0 _ _ h1
      have fA1 : wr.frozen? ⟨w.heap.size, 1, none⟩ = false := frozen_of_row wr _ 1 _ _ h1
      have f0 : wr.frozen? ⟨w.heap.size + 1, 0, none⟩ = false := frozen_of_row wr _ 0 _ _ h2
      have f1 : wr.frozen? ⟨w.heap.size + 1, 1, none⟩ = false := frozen_of_row wr _ 1 _ _ h2
      clear h1 h2
      by_cases hlt : k < 3
      · go_wp2_with fail
        refine (refWith_any _ _ (goneTo a d k) d k [] _ HV.out (hw3 k) hd4 hlt (Bs.nil _)).mono ?_
        rintro e w5 ⟨r, rfl, hr, hg5⟩
        obtain ⟨p1, p2, p3, q1, q2, q3, rfl⟩ := hr.form
        have HN := BInv.put HB.out hg5 hr (hw3 (k + 1)) (hf3 (k + 1)) (Nat.le_refl _) (by omega)
        have b05 := hg5.at b0
        have b15 := hg5.at b1
        have f05 := (hg5.frozen (a := ⟨w.heap.size, 0, none⟩) (cell_lt b0)).trans fA0
        have f15 := (hg5.frozen (a := ⟨w.heap.size, 1, none⟩) (cell_lt b0)).trans fA1
        have HN' : Hid (BInv w w.heap.size (w.heap.size + 1) _ _ (goneTo a d (k + 1)) _) := HN
        clear HN HB HV hr hw3 hf3
        go_wp2
        go_roundw
        case rel => first | exact ⟨k + 1, _, _, by omega, by go_num, HN'.out⟩ | ((repeat apply Exists.intro); exact ⟨⟨k + 1, _, _, by omega, by go_num, HN'.out⟩, rfl⟩)
        case measure => simp [intOf]; omega
      · obtain rfl : k = 3 := by omega
        obtain ⟨hv, hg, z0, z1⟩ := HB.out.done (hw3 3) (hf3 3) (by omega)
        have hfin : Hid (_ ∧ _) := ⟨hv, hg⟩
        clear hv hg HB HV hw3 hf3
        go_wp2
        refine bodyPost_ret (results_two1 Try.results53 _ _ (w.heap.size + 1) _ rfl Try.underlying39 rfl Try.sizeA z0 z1) rfl ?_
        exact ⟨_, ret_bs2 HE.out.1.symm, by rw [HE.out.2]; exact hfin.out.1, hfin.out.2⟩

end Go.Proofs.Ytbpekcmlaagegab

/-
  Stores into rows of the call's own; rows beside one another; a block that holds an intent.
-/
namespace Go.Proofs.Ytbpekcmlaagegab
open Go.RowKit

section
variable {α : Type} {R : World → Value → α → Prop} {F G : Nat → Prop} {w w0 w1 : World} {u v : Value} {x : α} {xs : List α} {B : Nat} {e : TypeId}

theorem GrownIn.mono (h : GrownIn w w1 F) (hG : ∀ k, F k → G k) : GrownIn w w1 G := ⟨h.os, h.tape, h.output, h.size, fun k hk hn => h.block k hk (fun hf => hn (hG k hf))⟩
theorem grownIn_set (w : World) (g k : Nat) (u : Value) (hG : G g) : GrownIn w (w.setCell ⟨g, k, none⟩ u) G := GrownIn.of_by (grown_set w g k u) (fun j hj => by cases hj; exact hG)

theorem RowingF.plain (h : RowingF F R B e w v xs) : Rowing R B e w v xs := by
  obtain ⟨us, h1, h2, h3⟩ := h
  exact ⟨us, h1, h2, fun i u x hu hx w' hw' => h3 i u x hu hx w' (GrownIn.of_by hw' (fun k hk => .inr hk))⟩

theorem RowingF.kept (h : RowingF F R B e w v xs) (hg : GrownIn w w1 F) (hn : ∀ k, v.ownBlock = some k → ¬ F k) : RowingF F R B e w1 v xs := by
  obtain ⟨us, h1, h2, h3⟩ := h
  exact ⟨us, own_kept h1 hg hn, h2, fun i u x hu hx => (h3 i u x hu hx).step (hg.mono (fun k hk => .inl hk))⟩

theorem RowingF.stored {g n cap : Nat} (h : RowingF F R B e w (.slice (some ⟨g, 0, none⟩) n cap) xs) (k : Nat) (hoff : OffG R (fun j => F j ∨ some g = some j) w u x) : RowingF F R B e (w.setCell ⟨g, k, none⟩ u) (.slice (some ⟨g, 0, none⟩) n cap) (xs.set k x) := by
  obtain ⟨rfl, -⟩ := h.plain.cap
  obtain ⟨us, h1, h2, h3⟩ := h
  have hg : GrownIn w (w.setCell ⟨g, k, none⟩ u) (fun j => F j ∨ some g = some j) := grownIn_set w g k u (.inr rfl)
  refine ⟨us.set k u, by rw [List.length_set]; exact (h1.stored k u).1, by simp [h2], fun i q y hq hy => ?_⟩
  by_cases hik : i = k
  · subst hik
    have hlt : i < us.length := by
      by_cases hlt : i < us.length
      · exact hlt
      · rw [List.getElem?_eq_none (by simp; omega)] at hq; cases hq
    rw [List.getElem?_set_self hlt] at hq
    rw [List.getElem?_set_self (by omega)] at hy
    cases hq
    cases hy
    exact hoff.step hg
  · rw [List.getElem?_set_ne (fun e => hik e.symm)] at hq hy
    exact (h3 i q y hq hy).step hg

end

/-- A block that holds an intent: nothing of rows of two cells lies there, nor bytes. -/
def Itn (R : Nat) (w : World) : Prop := ∃ n a b c t, w.heap[R]? = some (.cells #[.int .i64 n, .slice a b c] t (0, 0))

theorem Itn.cell {R : Nat} {w : World} (h : Itn R w) {off : Nat} {u : Value} (hu : w.cell? ⟨R, off, none⟩ = some u) : (off = 0 ∧ ∃ n, u = .int .i64 n) ∨ (off = 1 ∧ ∃ a b c, u = .slice a b c) := by
  obtain ⟨n, a, b, c, t, h⟩ := h
  rw [cell_of_row w R off _ _ _ h] at hu
  match off, hu with
  | 0, hu => simp at hu; exact .inl ⟨rfl, _, hu.symm⟩
  | 1, hu => simp at hu; exact .inr ⟨rfl, _, _, _, hu.symm⟩
  | n + 2, hu => simp at hu

theorem Itn.bytes {R : Nat} {w : World} (h : Itn R w) {u : Value} {l : List Int} (hb : Bs w u l) : Off Bs (some R) w u l := fun w' hg => by
  obtain ⟨ao, cap, hv, h1, h2, h3, h4, h5⟩ := hb
  refine ⟨ao, cap, hv, h1, h2, h3, h4, fun hp => ?_⟩
  obtain ⟨b, off, e, hc⟩ := h5 hp
  refine ⟨b, off, e, fun i hi => hg.cell (hc i hi) (fun e => ?_)⟩
  simp only [Option.some.injEq] at e
  subst e
  rcases h.cell (hc i hi) with ⟨_, n, this⟩ | ⟨_, _, _, _, this⟩
  · cases this
  · cases this

theorem Itn.bss {R : Nat} {w : World} (h : Itn R w) {v : Value} {ls : List (List Int)} (hs : Bss w v ls) (hl : 2 ≤ ls.length) : BssX (some R) w v ls := ⟨Sl.lift (fun _ _ hb => h.bytes hb) hs (Grow.refl _), fun hp b hb e => by
  obtain ⟨ao, cap, rfl, h1, h2, h3, h4⟩ := hs
  obtain ⟨b', off, rfl, hc⟩ := h4 hp
  simp only [Value.ownBlock, Option.some.injEq] at hb e
  subst hb e
  obtain ⟨u, hu, hr⟩ := hc 0 (ls[0]) (by simp [show 0 < ls.length by omega])
  obtain ⟨u', hu', _⟩ := hc 1 (ls[1]) (by simp [show 1 < ls.length by omega])
  obtain ⟨x1, x2, x3, rfl⟩ := hr.form
  rcases h.cell hu with ⟨_, n, this⟩ | ⟨h0, _⟩
  · cases this
  · rcases h.cell hu' with ⟨h1, _⟩ | ⟨h1, _⟩ <;> omega⟩

end Go.Proofs.Ytbpekcmlaagegab

/-
  A row of numbers of the call's own, whose whole block holds numbers: nothing of an array lies there. Append of one number.
-/
namespace Go.Proofs.Ytbpekcmlaagegab
open Go.RowKit

/-- A block of numbers. -/
def Nums (g : Nat) (w : World) : Prop := ∃ cs t mk, w.heap[g]? = some (.cells cs t mk) ∧ ∀ u ∈ cs.toList, ∃ n, u = Value.int .i64 n

theorem Nums.cell {g : Nat} {w : World} (h : Nums g w) {off : Nat} {u : Value} (hu : w.cell? ⟨g, off, none⟩ = some u) : ∃ n, u = .int .i64 n := by
  obtain ⟨cs, t, mk, h1, h2⟩ := h
  rw [cell_of_row w g off _ _ _ h1] at hu
  exact h2 u (by simpa using Array.mem_of_getElem? hu)

theorem Nums.bytes {g : Nat} {w : World} (h : Nums g w) {u : Value} {l : List Int} (hb : Bs w u l) : Off Bs (some g) w u l := fun w' hg => by
  obtain ⟨ao, cap, hv, h1, h2, h3, h4, h5⟩ := hb
  refine ⟨ao, cap, hv, h1, h2, h3, h4, fun hp => ?_⟩
  obtain ⟨b, off, e, hc⟩ := h5 hp
  refine ⟨b, off, e, fun i hi => hg.cell (hc i hi) (fun e => ?_)⟩
  simp only [Option.some.injEq] at e
  subst e
  obtain ⟨n, this⟩ := h.cell (hc i hi)
  cases this

theorem Nums.row {α : Type} {g : Nat} {Q : World → Value → α → Prop} {w : World} (h : Nums g w) {v : Value} {xs : List α} (hs : Sl Q w v xs) (hQ : ∀ u x, Q w u x → ∃ a b c, u = .slice a b c) : RowOff (some g) v xs.length := fun hp b hb e => by
  obtain ⟨ao, cap, rfl, h1, h2, h3, h4⟩ := hs
  obtain ⟨b', off, rfl, hc⟩ := h4 hp
  simp only [Value.ownBlock, Option.some.injEq] at hb e
  subst hb e
  obtain ⟨u, hu, hr⟩ := hc 0 (xs[0]) (by simp [show 0 < xs.length by omega])
  obtain ⟨n, rfl⟩ := h.cell hu
  obtain ⟨_, _, _, this⟩ := hQ _ _ hr
  cases this

theorem Nums.bss {g : Nat} {w : World} (h : Nums g w) {v : Value} {ls : List (List Int)} (hs : Bss w v ls) : BssX (some g) w v ls :=
  ⟨Sl.lift (fun _ _ hb => h.bytes hb) hs (Grow.refl _), h.row hs (fun _ _ hb => by obtain ⟨a, b, c, e⟩ := hb.form; exact ⟨a, b, c, e⟩)⟩

theorem Nums.dks {g : Nat} {w : World} (h : Nums g w) {v : Value} {ds : List (List (List Int))} (hs : Dks w v ds) : DksX (some g) w v ds :=
  ⟨Sl.lift (fun _ _ hb => h.bss hb) hs (Grow.refl _), h.row hs (fun _ _ hb => by obtain ⟨a, c, e⟩ := Sl.form hb; exact ⟨a, _, c, e⟩)⟩

theorem Nums.arr {g : Nat} {w : World} (h : Nums g w) {v : Value} {b : ArrP} (hv : ArrV w v b) (hi : b.is = []) : ArrX (some g) w v b := by
  obtain ⟨dv, iv, e, h1, h2⟩ := hv
  refine ⟨dv, iv, e, h.dks h1, ?_⟩
  obtain ⟨ao, cap, hv, k1, k2, k3, k4⟩ := h2
  refine ⟨⟨ao, cap, hv, k1, k2, k3, fun hp => ?_⟩, fun hp => ?_⟩
  · rw [hi] at hp; simp at hp
  · rw [hi] at hp; simp at hp

/-- The slice v of the call's own holds the numbers ns, and its block numbers alone. -/
def NumRow (B : Nat) (e : TypeId) (w : World) (v : Value) (ns : List Int) : Prop := w.ownsRow B e 1 v ns.length (ns.map (Value.int .i64)) ∧ ∀ g, v.ownBlock = some g → Nums g w

theorem NumRow.nil (B : Nat) (e : TypeId) (w : World) : NumRow B e w (.slice none 0 0) [] := ⟨World.ownsRow_nil _ _ _ _, fun g h => by cases h⟩

theorem NumRow.kept {B : Nat} {e : TypeId} {w w' : World} {v : Value} {ns : List Int} {G : Nat → Prop} (h : NumRow B e w v ns) (hg : GrownIn w w' G) (hn : ∀ k, v.ownBlock = some k → ¬ G k) : NumRow B e w' v ns := by
  refine ⟨own_kept h.1 hg hn, fun g hv => ?_⟩
  obtain ⟨cs, t, mk, h1, h2⟩ := h.2 g hv
  refine ⟨cs, t, mk, (hg.block g ?_ (hn g hv)).trans h1, h2⟩
  by_cases hlt : g < w.heap.size
  · exact hlt
  · rw [Array.getElem?_eq_none (Nat.le_of_not_lt hlt)] at h1; cases h1

theorem NumRow.grow {B : Nat} {e : TypeId} {w w' : World} {v : Value} {ns : List Int} (h : NumRow B e w v ns) (hg : Grow w w') : NumRow B e w' v ns := h.kept (hg.inn (fun _ => False)) (fun _ _ h => h)

theorem NumRow.base {B : Nat} {e : TypeId} {w : World} {v : Value} {ns : List Int} (h : NumRow B e w v ns) : ∀ k, v.ownBlock = some k → B ≤ k ∧ k < w.heap.size := h.1.lt

theorem NumRow.done {B : Nat} {e : TypeId} {w : World} {v : Value} {ns : List Int} (h : NumRow B e w v ns) : Sl IntV w v ns :=
  Sl.of_own h.1 rfl (fun i u x hu hx => by
    rw [List.getElem?_map] at hu
    rw [hx] at hu
    simp at hu
    exact hu.symm)

theorem zeroNums (k : Nat) : ∀ u ∈ (Builtin.zeroCells (Value.cells (.int .i64 0)) k).toList, ∃ n, u = Value.int .i64 n := by
  intro u hu
  simp only [Builtin.zeroCells, Array.toList_map, List.mem_map] at hu
  obtain ⟨j, _, rfl⟩ := hu
  exact ⟨0, by simp [Value.cells, Nat.mod_one]⟩

/-- An append of one number. -/
theorem run_append_num {P : Program} (w : World) (t ty e : TypeId) (i : TypeInfo) (ht : P.underlying t = some (.slice e)) (hi : P.info? e = some i) (hz : i.zero = some (.int .i64 0)) (hsize : i.size = 1) (hby : i.bytes = 8)
    (B : Nat) (v : Value) (ns : List Int) (h : NumRow B e w v ns) (x : Int) (hbase : B ≤ w.heap.size) (hl : ns.length + 1 ≤ 1000000) (a : Addr) (hx : w.cell? a = some (.int .i64 x)) :
    ∃ g cap w', (Builtin.append_ #[t, t] ty #[v, .slice (some a) 1 1]).run P w = .ok (.slice (some ⟨g, 0, none⟩) (ns.length + 1) cap) w' ∧ NumRow B e w' (.slice (some ⟨g, 0, none⟩) (ns.length + 1) cap) (ns ++ [x]) ∧ w.grownBy w' v.ownBlock := by
  have hnews : ∀ (j : Nat) u, [Value.int .i64 x][j]? = some u → w.cell? (a.add j) = some u := by
    intro j u hj
    match j, hj with
    | 0, hj =>
      simp at hj
      subst hj
      simpa [Addr.add] using hx
  have h1 : ∀ u ∈ [Value.int .i64 x], u.oneCell' = true := by intro u hu; simp at hu; subst hu; rfl
  obtain ⟨g, cap, w', hr, h2, h3, h4, h5⟩ := run_append_lies (P := P) w t ty B e i (.int .i64 0) 1 8 ht hi hz hsize hby rfl (by decide) v ns.length _ h.1 a 1 1 [.int .i64 x] rfl hnews h1 (by decide) (by unfold maxLen; omega) (by omega) hbase _ rfl
  refine ⟨g, cap, w', hr, ⟨by simpa using h2, fun g' hg' => ?_⟩, h3⟩
  cases hg'
  have hmem : ∀ u ∈ ns.map (Value.int .i64), ∃ n, u = Value.int .i64 n := fun u hu => by
    obtain ⟨n, _, rfl⟩ := List.mem_map.1 hu
    exact ⟨n, rfl⟩
  have hone : ∀ u ∈ [Value.int .i64 x], ∃ n, u = Value.int .i64 n := fun u hu => ⟨x, by simpa using hu⟩
  rcases h.1.2 with ⟨hv, h0⟩ | ⟨g0, cap0, cur, hv, hb, hg0, hnc, hcm, hcs, htk⟩
  · subst hv
    have hrn := run_append_nil (P := P) w t ty e i (.int .i64 0) ht hi hz a 1 1 [.int .i64 x] (by rw [hsize]; rfl) hnews (by decide) (by decide) (by rw [hby]; decide)
    rw [hrn] at hr
    injection hr with e1 e2
    injection e1 with e3 _ _
    injection e3 with e3
    injection e3 with e3 _ _
    subst e2 e3
    refine ⟨_, _, _, heap_alloc_new w.drew _, fun u hu => ?_⟩
    rw [Array.toList_append, List.mem_append] at hu
    rcases hu with hu | hu
    · exact hone u hu
    · exact zeroNums _ u hu
  · subst hv
    by_cases hroom : ns.length + 1 ≤ cap0
    · have hrr := run_append_room (P := P) w t ty e i ht hi g0 ns.length cap0 cur hg0 a 1 1 [.int .i64 x] (by rw [hsize]; rfl) hnews h1 hroom (by rw [hsize]; simp; omega)
      rw [hrr] at hr
      injection hr with e1 e2
      injection e1 with e3 _ _
      injection e3 with e3
      injection e3 with e3 _ _
      subst e2 e3
      refine ⟨_, _, _, setRow_heap w g0 cur _ e _ hg0, fun u hu => ?_⟩
      obtain ⟨cs, t', mk, hg1, hall⟩ := h.2 g0 rfl
      rw [hg0] at hg1
      injection hg1 with hg1
      injection hg1 with hg1 _ _
      subst hg1
      simp only [List.mem_append] at hu
      rcases hu with (hu | hu) | hu
      · exact hall u (List.mem_of_mem_take hu)
      · exact hone u hu
      · exact hall u (List.mem_of_mem_drop hu)
    · have holds : ∀ (j : Nat) u, (ns.map (Value.int .i64))[j]? = some u → w.cell? ((⟨g0, 0, none⟩ : Addr).add j) = some u := h.1.cells (g := g0) rfl
      have hrg := run_append_grow (P := P) w t ty e i (.int .i64 0) ht hi hz ⟨g0, 0, none⟩ ns.length cap0 _ (by rw [hsize]; simp) holds a 1 1 [.int .i64 x] (by rw [hsize]; rfl) hnews (by omega) (by omega) (growslice_fits (by omega) (by rw [hby]; omega))
      rw [hrg] at hr
      injection hr with e1 e2
      injection e1 with e3 _ _
      injection e3 with e3
      injection e3 with e3 _ _
      subst e2 e3
      refine ⟨_, _, _, heap_alloc_new w.drew _, fun u hu => ?_⟩
      rw [Array.toList_append, Array.toList_append, List.mem_append, List.mem_append] at hu
      rcases hu with (hu | hu) | hu
      · exact hmem u hu
      · exact hone u hu
      · exact zeroNums _ u hu

/-- The same, for the walk. -/
theorem wpList_push_num {P : Program} {w : World} {ops : Array Oper} {rest : List Oper} {o : Oper} {a : Act} {Q : Exit → Act → World → Prop} (hgd : o.guard = none) (s y : Operand) (t : TypeId)
    (ho : o.op = .call { callee := .builtin .append, args := #[s, y], argTypes := #[t, t] })
    (e : TypeId) (i : TypeInfo) (ht : P.underlying t = some (.slice e)) (hi : P.info? e = some i) (hz : i.zero = some (.int .i64 0)) (hsize : i.size = 1) (hby : i.bytes = 8)
    (B : Nat) {v : Value} {ns : List Int} (hs : a.eval s = v) (h : NumRow B e w v ns) (x : Int) (hB : B ≤ w.heap.size) (hl : ns.length + 1 ≤ 1000000)
    (H : Nat) (hH : w.heap.size = H) (hy : a.eval y = .slice (some ⟨H, 0, none⟩) 1 1)
    (hK : ∀ g cap w', NumRow B e w' (.slice (some ⟨g, 0, none⟩) (ns.length + 1) cap) (ns ++ [x]) → GrownIn w w' (fun k => v.ownBlock = some k) → wpList P ops Q rest (a.put o.dst (.slice (some ⟨g, 0, none⟩) (ns.length + 1) cap)) w') :
    wpList P ops Q (o :: rest) a (w.alloc (.cells #[.int .i64 x] e)) := by
  subst hH
  have hgA : Grow w (w.alloc (.cells #[.int .i64 x] e)) := Grow.alloc _ _
  refine wpList_plain hgd fun _ hK' => ?_
  obtain ⟨g, cap, w', hr, h2, h3⟩ := run_append_num (P := P) (w.alloc (.cells #[.int .i64 x] e)) t o.type e i ht hi hz hsize hby B v ns (h.grow hgA) x (by simp; omega) hl ⟨w.heap.size, 0, none⟩ (row_at (heap_alloc_new w _) 0 rfl)
  unfold Oper.wp execOp
  simp only [ho, resolve, invoke, builtin, Sem.run_bind, Sem.run_pure, Result.andThen_ok, List.map_toArray, List.map_cons, List.map_nil, hs, hy, hr]
  exact hK' _ _ (hK g cap w' h2 ((hgA.inn _).trans (GrownIn.of_by h3 (fun k hk => hk))))

end Go.Proofs.Ytbpekcmlaagegab

/-
  What the program's stripe stands on: an item of a list, bytes.Clone, slices.Grow and slices.Concat; rows of four, made. Nothing old turns.
-/
namespace Go.Proofs.Ytbpekcmlaagegab
open Go.RowKit

set_option maxRecDepth 20000 in
theorem atB_any (b off k n cap : Nat) (x : Option Addr) (y z : Nat) (w : World) (hk : k < n) (hu : w.cell? ⟨b, off + k, none⟩ = some (.slice x y z)) :
    Calls Try.prog 35 #[.slice (some ⟨b, off, none⟩) n cap, .int .i64 k] w fun e w' => e = .returned (.slice x y z) ∧ w' = w := by
  have h1 : ¬ ((k : Int) < 0) := by omega
  have h2 : ¬ ((k : Int) ≥ (n : Int)) := by omega
  go_enter Try.func35, Try.ntmps35
  go_wp2
  go_ret
  exact ⟨rfl, rfl⟩

set_option maxRecDepth 20000 in
theorem atD_any (b off k n cap : Nat) (x : Option Addr) (y z : Nat) (w : World) (hk : k < n) (hu : w.cell? ⟨b, off + k, none⟩ = some (.slice x y z)) :
    Calls Try.prog 36 #[.slice (some ⟨b, off, none⟩) n cap, .int .i64 k] w fun e w' => e = .returned (.slice x y z) ∧ w' = w := by
  have h1 : ¬ ((k : Int) < 0) := by omega
  have h2 : ¬ ((k : Int) ≥ (n : Int)) := by omega
  go_enter Try.func36, Try.ntmps36
  go_wp2
  go_ret
  exact ⟨rfl, rfl⟩

set_option maxRecDepth 20000 in
set_option maxHeartbeats 800000 in
theorem bytesClone_any (v : Value) (l : List Int) (w : World) (h : Bs w v l) (hm : l.length ≤ 1000) :
    Calls Try.prog 30 #[v] w fun e w' => ∃ r, e = .returned r ∧ w'.ownsRow w.heap.size 5 1 r l.length (l.map (Value.int .u8)) ∧ Grow w w' := by
  obtain ⟨i0, hi, hz0, hz1, hz2⟩ := info_parts Try.infoB
  obtain ⟨ao, cap, rfl, h1, h2, h3, h4, h5⟩ := h
  have qT : ∀ (w : World) (a : Option Addr) (n c n' c' : Nat), (binOp .eql 23 (.slice a n c) (.slice none n' c')).run Try.prog w = .ok (.bool a.isNone) w := fun w a n c n' c' => Lib.run_eql_slice_nil w _ _ a n c n' c' Try.underlying23
  unfold maxLen at h2
  cases ao with
  | none =>
    have hl : l = [] := List.eq_nil_of_length_eq_zero (by have := h3 rfl; omega)
    subst hl
    obtain rfl : cap = 0 := h3 rfl
    go_enter Try.func30, Try.ntmps30
    go_wp2
    go_ret
    exact ⟨_, rfl, World.ownsRow_nil _ _ _ _, Grow.refl _⟩
  | some ad =>
    have hgA : Grow w (w.alloc (.cells #[] 5)) := Grow.alloc _ _
    have hsrc := (h5.below hgA).src
    have hlm : (l.map (Value.int .u8)).length = l.length := by simp
    have hone := u8_oneCell l
    have hown0 : (w.alloc (.cells #[] 5)).ownsRow w.heap.size 5 1 (.slice (some ⟨w.heap.size, 0, none⟩) 0 0) 0 [] := World.ownsRow_lit w #[] 0 (Nat.le_refl _) (Nat.zero_le _) rfl
    clear h5
    generalize l.map (Value.int .u8) = news at *
    have HLM : Hid (news.length = l.length) := hlm
    generalize l.length = n at *
    clear hlm
    have Hown0 : Hid ((w.alloc (.cells #[] 5)).ownsRow w.heap.size 5 1 (.slice (some ⟨w.heap.size, 0, none⟩) 0 0) 0 []) := hown0
    clear hown0
    go_enter Try.func30, Try.ntmps30
    go_wp2_with (first
      | (at_builtin; refine wpList_append_own_any _ rfl (.tmp 5) (.tmp 6) 23 rfl w.heap.size 5 i0 (.int .u8 0) 1 Try.underlying23 hi hz0 hz1 hz2 rfl _ 0 [] rfl Hown0.out (some ad) n cap news rfl HLM.out (fun h => nomatch h) hsrc hone (by unfold maxLen; omega) (by omega) hgA.size ?_; rintro v1 w1 hown1 hgr1))
    have hg1 := hgA.grown hgr1 (fun k hk => by cases hk; exact Nat.le_refl _)
    simp only [Nat.zero_add, List.nil_append] at hown1
    have Hown1 : Hid (w1.ownsRow w.heap.size 5 1 v1 n news) := hown1
    clear hown1 hgr1
    go_wp2
    go_ret
    exact ⟨_, rfl, Hown1.out, hg1⟩

/-- An append whose run is known. -/
theorem wpList_append_run {P : Program} {w w' : World} {ops : Array Oper} {rest : List Oper} {o : Oper} {a : Act} {Q : Exit → Act → World → Prop} (hgd : o.guard = none) (s y : Operand) (ts : Array TypeId)
    (ho : o.op = .call { callee := .builtin .append, args := #[s, y], argTypes := ts }) {v u r : Value} (hs : a.eval s = v) (hy : a.eval y = u) (hr : (Builtin.append_ ts o.type #[v, u]).run P w = .ok r w')
    (h : wpList P ops Q rest (a.put o.dst r) w') : wpList P ops Q (o :: rest) a w := by
  refine wpList_plain hgd fun _ hK => ?_
  unfold Oper.wp execOp
  simp only [ho, resolve, invoke, builtin, Sem.run_bind, Sem.run_pure, Result.andThen_ok, List.map_toArray, List.map_cons, List.map_nil, hs, hy, hr]
  exact hK _ _ h

set_option maxRecDepth 20000 in
set_option maxHeartbeats 800000 in
theorem growNil_any (n : Nat) (w : World) (hp : 0 < n) (hn : n ≤ 1000) :
    Calls Try.prog 57 #[.slice none 0 0, .int .i64 n] w fun e w' => ∃ r, e = .returned r ∧ w'.ownsRow w.heap.size 23 1 r 0 [] ∧ Grow w w' := by
  obtain ⟨i0, hi, hz0, hz1, hz2⟩ := info_parts Try.infoS
  have hrz := fun ty => Lib.run_append_nil_zeros (P := Try.prog) w 22 3 ty 23 i0 (.slice none 0 0) .i64 .i64 Try.underlying22 Try.underlying3 hi hz0 n hp (by omega) (by omega) (by rw [hz2]; omega)
  have hcap := grownCap_ge w n 0 23
  have hcm := grownCap_le_maxLen w n 0 23 (by unfold maxLen; omega)
  have hsz : (Builtin.zeroCells (Value.cells (.slice none 0 0)) n ++ Builtin.zeroCells (Value.cells (.slice none 0 0)) (grownCap w n 0 23 - n)).size = grownCap w n 0 23 * 1 := by
    rw [Array.size_append, size_zeroCells, size_zeroCells]
    show n * 1 + _ * 1 = _
    omega
  have hg0 : Grow w w.drew := Grow.drew1 (Grow.refl w)
  generalize grownCap w n 0 23 = cp at *
  generalize Builtin.zeroCells (Value.cells (.slice none 0 0)) n ++ Builtin.zeroCells (Value.cells (.slice none 0 0)) (cp - n) = cur at *
  have hgA := hg0.trans (Grow.alloc w.drew (.cells cur 23))
  have hown : (w.drew.alloc (.cells cur 23)).ownsRow w.heap.size 23 1 (.slice (some ⟨w.heap.size, 0, none⟩) 0 cp) 0 [] := ⟨rfl, .inr ⟨w.heap.size, cp, cur, rfl, Nat.le_refl _, heap_alloc_new w.drew _, Nat.zero_le _, hcm, hsz, by simp⟩⟩
  have Hown : Hid ((w.drew.alloc (.cells cur 23)).ownsRow w.heap.size 23 1 (.slice (some ⟨w.heap.size, 0, none⟩) 0 cp) 0 [] ∧ Grow w (w.drew.alloc (.cells cur 23))) := ⟨hown, hgA⟩
  clear hown hgA hg0 hsz
  unfold maxLen at hcm
  have h1 : ¬ ((n : Int) < 0) := by omega
  have h4 : (n : Int) > 0 := by omega
  go_enter Try.func57, Try.ntmps57
  go_wp2_with (first
    | (at_builtin; refine wpList_append_run rfl (.tmp 20) (.tmp 21) #[22, 3] rfl rfl rfl (hrz _) ?_))
  go_ret
  exact ⟨_, rfl, Hown.out.1, Hown.out.2⟩

theorem flat_succ {α : Type} (lss : List (List α)) {k : Nat} (h : k < lss.length) : (lss.take (k + 1)).flatten = (lss.take k).flatten ++ lss.getD k [] := by
  have e : lss[k]? = some (lss.getD k []) := by simp [h, List.getD_eq_getElem?_getD]
  rw [List.take_add_one, e]
  simp only [Option.toList_some, List.flatten_append, List.flatten_cons, List.flatten_nil, List.append_nil]

theorem flat_le {α : Type} (lss : List (List α)) (k : Nat) : (lss.take k).flatten.length ≤ lss.flatten.length := by
  have := congrArg (fun l => (List.flatten l).length) (List.take_append_drop k lss)
  simp only [List.flatten_append, List.length_append] at this
  omega

set_option maxRecDepth 20000 in
set_option maxHeartbeats 1600000 in
theorem concat_any (v : Value) (lss : List (List (List Int))) (w : World) (h : Dks w v lss) (hp : 0 < lss.flatten.length) (hm : lss.flatten.length ≤ 1000) :
    Calls Try.prog 39 #[v] w fun e w' => ∃ r, e = .returned r ∧ Bss w' r lss.flatten ∧ Grow w w' := by
  obtain ⟨i0, hi, hz0, hz1, hz2⟩ := info_parts Try.infoS
  obtain ⟨ao, cap, rfl, h1, h2, h3, h4⟩ := h
  have HC : Hid (0 < lss.length → ∃ b off, ao = some ⟨b, off, none⟩ ∧ ∀ k, k < lss.length → ∃ ak ck, w.cell? ⟨b, off + k, none⟩ = some (.slice ak (lss.getD k []).length ck) ∧ (lss.getD k []).length ≤ ck ∧ ck ≤ maxLen ∧ Bss w (.slice ak (lss.getD k []).length ck) (lss.getD k [])) := fun hp => by
    obtain ⟨b, off, e, hc⟩ := h4 hp
    refine ⟨b, off, e, fun k hk => ?_⟩
    obtain ⟨u, hu, hr⟩ := hc k (lss.getD k []) (by simp [List.getD_eq_getElem?_getD, hk])
    have hr' := hr
    obtain ⟨a', c', rfl, q1, q2, -⟩ := hr'
    exact ⟨a', c', hu, q1, q2, hr⟩
  have HS : Hid (∀ k, k < lss.length → (lss.take (k + 1)).flatten = (lss.take k).flatten ++ lss.getD k []) := fun k hk => flat_succ lss hk
  have HL : Hid (∀ k, (lss.take k).flatten.length ≤ lss.flatten.length) := flat_le lss
  unfold maxLen at h2
  clear h4
  go_enter Try.func39, Try.ntmps39
  go_wp2
  go_loop [3, 11] (fun z i => ∃ k : Nat, k ≤ lss.length ∧ i = .int .i64 k ∧ z = .int .i64 (lss.take k).flatten.length) (fun _ i => lss.length - (intOf i).toNat)
  case atStart => exact ⟨0, by omega, rfl, rfl⟩
  case round =>
    obtain ⟨k, hk, rfl, rfl⟩ := hrel
    by_cases hlt : k < lss.length
    · obtain ⟨b, off, rfl, hc⟩ := HC.out (by omega)
      obtain ⟨ak, ck, hck, q1, q2, -⟩ := hc k hlt
      have e1 := congrArg List.length (HS.out k hlt)
      have e2 := HL.out (k + 1)
      rw [List.length_append] at e1
      unfold maxLen at q2
      have HE : Hid ((lss.take (k + 1)).flatten.length = (lss.take k).flatten.length + (lss.getD k []).length) := e1
      clear hc e1
      rw [HE.out] at e2
      generalize (lss.getD k []).length = nk at *
      generalize (lss.take k).flatten.length = sk at *
      generalize lss.flatten.length = tot at *
      have h0 : ¬ ((sk : Int) + (nk : Int) < 0) := by omega
      go_wp2
      go_round
      case rel => exact ⟨k + 1, by omega, by go_num, by rw [HE.out]; go_num⟩
      case measure => simp [intOf]; omega
    · obtain rfl : k = lss.length := by omega
      have hf : (lss.take lss.length).flatten.length = lss.flatten.length := by rw [List.take_length]
      have hG := growNil_any lss.flatten.length w hp hm
      have hdk : decide ((lss.length : Int) < (lss.length : Int)) = false := by simp
      rw [hf]
      clear hf
      obtain ⟨tot, htot⟩ : ∃ t, lss.flatten.length = t := ⟨_, rfl⟩
      rw [htot] at hG hm hp ⊢
      have Htot : Hid (lss.flatten.length = tot) := htot
      clear htot
      go_wp2_with fail
      refine hG.mono ?_
      rintro e w1 ⟨r1, rfl, hown1, hg1⟩
      have HW : Hid (∃ us, w1.ownsRow w.heap.size 23 1 r1 (lss.take 0).flatten.length us ∧ BsL w us (lss.take 0).flatten) := ⟨[], hown1, BsL.nil _⟩
      clear hown1 hG
      go_wp2
      go_loopw [6, 27] (fun r i wr => ∃ k : Nat, k ≤ lss.length ∧ i = .int .i64 k ∧ Hid (∃ us, wr.ownsRow w.heap.size 23 1 r (lss.take k).flatten.length us ∧ BsL w us (lss.take k).flatten) ∧ Grow w wr) (fun _ i _ => lss.length - (intOf i).toNat)
      case atStart => exact ⟨0, by omega, rfl, HW, hg1⟩
      case round =>
        obtain ⟨k, hk, rfl, HR, hgr⟩ := hrel
        clear HW
        by_cases hlt : k < lss.length
        · obtain ⟨b, off, rfl, hc⟩ := HC.out (by omega)
          obtain ⟨ak, ck, hck, q1, q2, hbk⟩ := hc k hlt
          obtain ⟨us, hown, hus⟩ := HR.out
          obtain ⟨vs, hvl, -, hcs, hvs, hnone⟩ := hbk.values
          have hck' := hgr.at hck
          have hcs' : ∀ ad, ak = some ad → ∀ (j : Nat) u, vs[j]? = some u → wr.cell? (ad.add j) = some u := fun ad e j u hu => hgr.at (hcs ad e j u hu)
          have e1 := congrArg List.length (HS.out k hlt)
          have e2 := HL.out (k + 1)
          rw [Htot.out] at e2
          rw [List.length_append] at e1
          have HB : Hid (BsL w (us ++ vs) (lss.take (k + 1)).flatten) := by rw [Hid, HS.out k hlt]; exact hus.append hvs
          have HE : Hid ((lss.take (k + 1)).flatten.length = (lss.take k).flatten.length + (lss.getD k []).length) := e1
          rw [HE.out] at e2
          have hone := hvs.oneCell
          clear hc e1 HR hbk hck hcs hvs hus
          generalize (lss.getD k []).length = nk at *
          generalize (lss.take k).flatten.length = sk at *
          have Hown : Hid (wr.ownsRow w.heap.size 23 1 u6 sk us) := hown
          have Hvl : Hid (vs.length = nk) := hvl
          clear hown hvl
          go_wp2_with (first
            | (at_builtin; refine wpList_append_own_any _ rfl (.tmp 31) (.tmp 32) 22 rfl w.heap.size 23 i0 (.slice none 0 0) 24 Try.underlying22 hi hz0 hz1 hz2 rfl _ sk us rfl Hown.out ak nk ck vs rfl Hvl.out hnone hcs' hone (by unfold maxLen; omega) (by omega) hgr.size ?_; rintro v2 w2 hown2 hgr2))
          have hg2 := hgr.grown hgr2 (fun j hj => own_base Hown.out j hj)
          have HW2 : Hid (∃ us, w2.ownsRow w.heap.size 23 1 v2 (lss.take (k + 1)).flatten.length us ∧ BsL w us (lss.take (k + 1)).flatten) := ⟨_, by rw [HE.out]; exact hown2, HB.out⟩
          clear hown2 hgr2 Hown HB
          go_wp2
          go_roundw
          case rel => first | exact ⟨k + 1, by omega, by go_num, HW2, hg2⟩ | ((repeat apply Exists.intro); exact ⟨⟨k + 1, by omega, by go_num, HW2, hg2⟩, rfl⟩)
          case measure => simp [intOf]; omega
        · obtain rfl : k = lss.length := by omega
          obtain ⟨us, hown, hus⟩ := HR.out
          rw [List.take_length] at hown hus
          have hdone := (hus.grow hgr).own hown rfl
          clear hown hus HR
          go_wp2
          go_ret
          exact ⟨_, rfl, hdone, hgr⟩

end Go.Proofs.Ytbpekcmlaagegab

/-
  What the program's stripe returns: Make, look, Bad, Data, Cells. Nothing old turns.
-/
namespace Go.Proofs.Ytbpekcmlaagegab
open Go.RowKit

theorem Rowing.slOff {α : Type} {R : World → Value → α → Prop} {B : Nat} {e : TypeId} {w : World} {v : Value} {xs : List α} (h : Rowing R B e w v xs) : Sl (Off R v.ownBlock) w v xs := by
  obtain ⟨us, h1, _, h3⟩ := h
  exact Sl.of_own h1 rfl (fun i u x hu hx => h3 i u x hu hx)

theorem Rowing.bssX {g : Nat} {B : Nat} {e : TypeId} {w : World} {v : Value} {ls : List (List Int)} (h : Rowing (Off Bs (some g)) B e w v ls) (hg : g < B) : BssX (some g) w v ls :=
  ⟨h.done, fun _ b hb e => by
    have := (h.base b hb).1
    injection e with e
    omega⟩

/-- A row of four, made. -/
def nils4 : Array Value := #[.slice none 0 0, .slice none 0 0, .slice none 0 0, .slice none 0 0]

theorem Try.madeS (w : World) : (Instr.makeSlice 22 (.int .i64 4) (.int .i64 4)).run Try.prog w = .ok (.slice (some ⟨w.heap.size, 0, none⟩) 4 4) (w.alloc (.cells nils4 23)) :=
  (run_make_row' (P := Try.prog) 22 23 (.slice none 0 0) 24 Try.underlying22 Try.infoS rfl .i64 .i64 4 (by decide) (by decide) w).trans (by rw [show madeCells #[.slice none 0 0] 4 = nils4 from Array.toList_inj.1 (toList_madeCells_one _ _)])

/-- The first k of four are filled. -/
def up4 (f : Nat → List Int) (k : Nat) : List (List Int) := (List.range 4).map fun i => if i < k then f i else []

theorem up4_zero (f : Nat → List Int) : up4 f 0 = List.replicate 4 [] := by simp [up4]; decide
theorem up4_all (f : Nat → List Int) : up4 f 4 = (List.range 4).map f := List.map_congr_left fun _ hi => if_pos (List.mem_range.1 hi)
theorem up4_length (f : Nat → List Int) (k : Nat) : (up4 f k).length = 4 := by simp [up4]
theorem up4_set (f : Nat → List Int) {k : Nat} (_h : k < 4) : (up4 f k).set k (f k) = up4 f (k + 1) := by
  refine List.ext_getElem (by simp [up4]) fun i h1 h2 => ?_
  rw [List.getElem_set]
  simp only [up4, List.getElem_map, List.getElem_range]
  by_cases hik : k = i
  · subst hik; rw [if_pos rfl, if_pos (by omega)]
  · rw [if_neg hik]
    by_cases hlt : i < k
    · rw [if_pos hlt, if_pos (by omega)]
    · rw [if_neg hlt, if_neg (by omega)]

theorem Rowing.madeS (w : World) (f : Nat → List Int) : Rowing Bs w.heap.size 23 (w.alloc (.cells nils4 23)) (.slice (some ⟨w.heap.size, 0, none⟩) 4 4) (up4 f 0) := by
  rw [up4_zero]
  refine ⟨nils4.toList, ⟨rfl, .inr ⟨w.heap.size, 4, nils4, rfl, Nat.le_refl _, heap_alloc_new w _, Nat.le_refl _, by unfold maxLen; omega, rfl, rfl⟩⟩, rfl, fun i u x hu hx w' _ => ?_⟩
  have hu' : u = .slice none 0 0 := by
    have := List.mem_of_getElem? hu
    simpa [nils4] using this
  have hx' : x = [] := by
    have := List.mem_of_getElem? hx
    simpa using this
  subst hu' hx'
  exact Bs.nil _

theorem makeL_up {ds : List (List Int)} (hl : ds.length = 4) (s : Int) : makeL ds s = up4 (fun (d : Nat) => cellOf d s (ds.getD d [])) 4 := by rw [up4_all, makeL, hl]

set_option maxRecDepth 20000 in
set_option maxHeartbeats 1600000 in
theorem stripeMake_row (v : Value) (ds : List (List Int)) (s : Nat) (w : World) (h : Bss w v ds) (hl : ds.length = 4) (hs : s < 3) (h4 : ∀ b ∈ ds, b.length = 4) :
    Calls Try.prog 22 #[v, .int .i64 s] w fun e w' => ∃ r, e = .returned r ∧ Rowing Bs w.heap.size 23 w' r (makeL ds s) ∧ Grow w w' := by
  obtain ⟨ao, cap, rfl, h1, h2, h3, h4'⟩ := h
  unfold maxLen at h2
  obtain ⟨b, off, rfl, hc⟩ := h4' (by omega)
  have HK : Hid (∀ k, k < 4 → ∃ ak ck, w.cell? ⟨b, off + k, none⟩ = some (.slice ak 4 ck) ∧ Bs w (.slice ak 4 ck) (ds.getD k []) ∧ (ds.getD k []).length = 4) := fun k hk => by
    obtain ⟨ak, ck, hck, hbk⟩ := Sl.bytesAt hc (k := k) (by omega)
    have hlk : (ds.getD k []).length = 4 := h4 _ (by simp [List.getD_eq_getElem?_getD, show k < ds.length by omega])
    rw [hlk] at hck hbk
    exact ⟨ak, ck, hck, hbk, hlk⟩
  have hmk := Try.madeS w
  rw [makeL_up hl]
  have hst : Hid (Rowing Bs w.heap.size 23 (w.alloc (.cells nils4 23)) (.slice (some ⟨w.heap.size, 0, none⟩) 4 4) (up4 (fun (d : Nat) => cellOf d s (ds.getD d [])) 0)) := Rowing.madeS w _
  rw [hl]
  clear hc h4' hl h4 h3
  go_enter Try.func22, Try.ntmps22
  go_wp2
  go_loopw [10] (fun i wr => ∃ k : Nat, k ≤ 4 ∧ i = .int .i64 k ∧ Hid (Rowing Bs w.heap.size 23 wr (.slice (some ⟨w.heap.size, 0, none⟩) 4 4) (up4 (fun (d : Nat) => cellOf d s (ds.getD d [])) k)) ∧ Grow w wr) (fun i _ => 4 - (intOf i).toNat)
  case atStart => exact ⟨0, by omega, rfl, hst, Grow.alloc _ _⟩
  case round =>
    obtain ⟨k, hk, rfl, HR, hgr⟩ := hrel
    clear hst hmk
    by_cases hlt : k < 4
    · obtain ⟨ak, ck, hck, hbk, hlk⟩ := HK.out k hlt
      have HL : Hid ((ds.getD k []).length = 4) := hlk
      clear hlk
      have hA := atB_any b off k 4 cap ak 4 ck wr hlt (hgr.at hck)
      have hC := bytes_any (.slice ak 4 ck) (ds.getD k []) k s wr (by rw [HL.out]; omega) (by omega) (by omega) (hbk.grow hgr)
      have hoc := cellOf_octets (d := k) (s := s) (by omega) (by omega) hbk.octets
      clear hck hbk
      go_wp2_with fail
      refine hA.mono ?_
      rintro e w0 ⟨rfl, rfl⟩
      go_wp2_with fail
      refine hC.mono ?_
      rintro e w1 ⟨r, rfl, hown, hg1⟩
      have hb : w.heap.size < w0.heap.size := (HR.out.base _ rfl).2
      have hoff : Off Bs (some w.heap.size) w1 r (cellOf k s (ds.getD k [])) := Off.own hown hoc (fun j hj => by cases hj; exact hb)
      obtain ⟨gr, cr, rfl, -, -⟩ := hown.form (by omega)
      have hrow := HR.out.grow hg1
      obtain ⟨⟨u0, hu0⟩, hf0⟩ := hrow.at (k := k) (by rw [up4_length]; exact hlt)
      have hrow1 := hrow.stored k hoff
      rw [up4_set (fun (d : Nat) => cellOf d s (ds.getD d [])) hlt] at hrow1
      have HR1 : Hid (Rowing Bs _ _ _ _ _) := hrow1
      have hg2 := (hgr.trans hg1).set (k := k) (Nat.le_refl w.heap.size) (.slice (some ⟨gr, 0, none⟩) ((ds.getD k []).length + 4) cr)
      rw [HL.out] at HR1 hg2 ⊢
      clear hrow hrow1 hoff hown HR hA hC
      go_wp2
      go_roundw
      case rel => first | exact ⟨k + 1, by omega, by go_num, HR1, hg2⟩ | ((repeat apply Exists.intro); exact ⟨⟨k + 1, by omega, by go_num, HR1, hg2⟩, rfl⟩)
      case measure => simp [intOf]; omega
    · obtain rfl : k = 4 := by omega
      go_wp2
      go_ret
      exact ⟨_, rfl, HR.out, hgr⟩

end Go.Proofs.Ytbpekcmlaagegab

/-
  What the program's stripe returns: look, Bad, Data, Cells. Nothing old turns.
-/
namespace Go.Proofs.Ytbpekcmlaagegab
open Go.RowKit

theorem Grow.thenIn {w w1 w2 : World} {G : Nat → Prop} (h : Grow w w1) (hg : GrownIn w1 w2 G) (hk : ∀ k, G k → w.heap.size ≤ k) : Grow w w2 :=
  ⟨hg.os.trans h.os, hg.tape.trans h.tape, hg.output.trans h.output, Nat.le_trans h.size hg.size, fun j hj => (hg.block j (Nat.lt_of_lt_of_le hj h.size) (fun e => by have := hk j e; omega)).trans (h.block j hj)⟩

theorem heap_lt {w : World} {b : Nat} {o : Obj} (h : w.heap[b]? = some o) : b < w.heap.size := by
  by_cases hb : b < w.heap.size
  · exact hb
  · rw [Array.getElem?_eq_none (Nat.le_of_not_lt hb)] at h; cases h

/-- Four bytes in a block behind H, or none. -/
def Fx (H : Nat) (x : List Int) (u : Value) (w : World) : Prop := (u = .slice none 0 0 ∧ x = []) ∨ ∃ b, u = .slice (some ⟨b, 0, none⟩) 4 4 ∧ H < b ∧ w.heap[b]? = some (.cells (x.map (Value.int .u8)).toArray 5 (0, 0)) ∧ x.length = 4 ∧ Octets x

theorem Fx.kept {H : Nat} {x : List Int} {u : Value} {w w' : World} {G : Nat → Prop} (h : Fx H x u w) (hg : GrownIn w w' G) (hn : ∀ b cs, G b → H < b → w.heap[b]? ≠ some (.cells cs 5 (0, 0))) : Fx H x u w' := by
  rcases h with h | ⟨b, h1, h2, h3, h4⟩
  · exact .inl h
  · exact .inr ⟨b, h1, h2, (hg.block b (heap_lt h3) (fun hG => hn b _ hG h2 h3)).trans h3, h4⟩

theorem Fx.of {w w' : World} {H : Nat} {x : List Int} {r : Value} (h : FreshX w x r w') (hH : H < w.heap.size) : Fx H x r w' := by
  rcases h with h | ⟨b, h1, h2, h3, h4⟩
  · exact .inl h
  · exact .inr ⟨b, h1, by omega, h3, h4⟩

theorem Fx.form {H : Nat} {x : List Int} {u : Value} {w : World} (h : Fx H x u w) : ∃ a n c, u = .slice a n c := by
  rcases h with ⟨h, -⟩ | ⟨b, h, -⟩
  · exact ⟨_, _, _, h⟩
  · exact ⟨_, _, _, h⟩

theorem Fx.off {H : Nat} {x : List Int} {u : Value} {w : World} (h : Fx H x u w) (g : Option Nat) (hg : ∀ k, g = some k → k < H) : Off (Off Bs g) (some H) w u x := by
  rcases h with ⟨rfl, rfl⟩ | ⟨b, rfl, h2, h3, h4, h5⟩
  · exact fun _ _ _ _ => Bs.nil _
  · exact Off.row2 h3 h4 (by unfold maxLen; omega) h5 (fun e => by have := hg b e; omega) (fun e => by injection e with e; omega)

/-- A row of four in block H, each of four bytes behind it, or none. -/
def Four (H : Nat) (ls : List (List Int)) (w : World) : Prop := ∃ us : List Value, us.length = 4 ∧ ls.length = 4 ∧ w.heap[H]? = some (.cells us.toArray 23 (0, 0)) ∧ ∀ (i : Nat) u x, us[i]? = some u → ls[i]? = some x → Fx H x u w

theorem Four.kept {H : Nat} {ls : List (List Int)} {w w' : World} {G : Nat → Prop} (h : Four H ls w) (hg : GrownIn w w' G) (hH : ¬ G H) (hn : ∀ b cs, G b → H < b → w.heap[b]? ≠ some (.cells cs 5 (0, 0))) : Four H ls w' := by
  obtain ⟨us, h1, h2, h3, h4⟩ := h
  exact ⟨us, h1, h2, (hg.block H (heap_lt h3) hH).trans h3, fun i u x hu hx => (h4 i u x hu hx).kept hg hn⟩

theorem Four.grow {H : Nat} {ls : List (List Int)} {w w' : World} (h : Four H ls w) (hg : Grow w w') : Four H ls w' := h.kept (hg.inn (fun _ => False)) id (fun _ _ h => h.elim)

theorem Four.put {H : Nat} {ls : List (List Int)} {w : World} (h : Four H ls w) (k : Nat) {x : List Int} {u : Value} (hx : Fx H x u w) : Four H (ls.set k x) (w.setCell ⟨H, k, none⟩ u) := by
  obtain ⟨us, h1, h2, h3, h4⟩ := h
  have hg : GrownIn w (w.setCell ⟨H, k, none⟩ u) (fun j => j = H) := grownIn_set w H k u rfl
  have hn : ∀ b cs, b = H → H < b → w.heap[b]? ≠ some (.cells cs 5 (0, 0)) := fun b _ e hb => by omega
  refine ⟨us.set k u, by simp [h1], by simp [h2], ?_, fun i q y hq hy => ?_⟩
  · rw [heap_setCell_same w H k _ _ _ h3]
    simp
  · by_cases hik : i = k
    · subst hik
      have hlt : i < us.length := by
        by_cases hlt : i < us.length
        · exact hlt
        · rw [List.getElem?_eq_none (by simp; omega)] at hq; cases hq
      rw [List.getElem?_set_self hlt] at hq
      rw [List.getElem?_set_self (by omega)] at hy
      cases hq
      cases hy
      exact hx.kept hg hn
    · rw [List.getElem?_set_ne (fun e => hik e.symm)] at hq hy
      exact (h4 i q y hq hy).kept hg hn

theorem Four.row {H : Nat} {ls : List (List Int)} {w : World} (h : Four H ls w) (g : Option Nat) (hg : ∀ k, g = some k → k < H) : Rowing (Off Bs g) H 23 w (.slice (some ⟨H, 0, none⟩) 4 4) ls := by
  obtain ⟨us, h1, h2, h3, h4⟩ := h
  refine ⟨us, ⟨by omega, .inr ⟨H, 4, us.toArray, by rw [h2], Nat.le_refl _, h3, by omega, by unfold maxLen; omega, by simp [h1], by simp [h1, h2, List.take_of_length_le]⟩⟩, by omega, fun i u x hu hx => (h4 i u x hu hx).off g hg⟩

theorem Four.bss {H : Nat} {ls : List (List Int)} {w : World} (h : Four H ls w) : Bss w (.slice (some ⟨H, 0, none⟩) 4 4) ls := Sl.off (h.row none (fun _ h => nomatch h)).done

theorem Four.at {H : Nat} {ls : List (List Int)} {w : World} (h : Four H ls w) {k : Nat} (hk : k < 4) : (∃ u, w.cell? ⟨H, k, none⟩ = some u) ∧ w.frozen? ⟨H, k, none⟩ = false := by
  obtain ⟨us, h1, h2, h3, h4⟩ := h
  exact ⟨⟨us[k]'(by omega), row_at h3 k (by simp [h1, hk])⟩, frozen_of_row w H k _ _ h3⟩

theorem Four.lt {H : Nat} {ls : List (List Int)} {w : World} (h : Four H ls w) : H < w.heap.size := by
  obtain ⟨us, h1, h2, h3, h4⟩ := h
  exact heap_lt h3

theorem Four.made (w : World) (f : Nat → List Int) : Four w.heap.size (up4 f 0) (w.alloc (.cells nils4 23)) := by
  rw [up4_zero]
  refine ⟨nils4.toList, rfl, rfl, heap_alloc_new w _, fun i u x hu hx => .inl ⟨?_, ?_⟩⟩
  · have := List.mem_of_getElem? hu
    simpa [nils4] using this
  · have := List.mem_of_getElem? hx
    simpa using this

theorem NumRow.notB {B : Nat} {w : World} {v : Value} {ns : List Int} (h : NumRow B 3 w v ns) {b : Nat} (hb : v.ownBlock = some b) (cs : Array Value) : w.heap[b]? ≠ some (.cells cs 5 (0, 0)) := by
  rcases h.1.2 with ⟨rfl, -⟩ | ⟨g, cap, cur, rfl, -, hh, -⟩
  · cases hb
  · cases hb
    intro e
    rw [hh] at e
    injection e with e
    injection e with _ e _
    exact absurd e (by decide)

theorem look_push {w w1 w2 : World} {L : List (List Int)} {v v' u : Value} {ns ns' : List Int} {x : List Int} {k : Nat} (hF : Four w.heap.size L w1) (hN : NumRow (w.heap.size + 1) 3 w1 v ns) (hx : Fx w.heap.size x u w1) (hgI : GrownIn w1 w2 (fun k => v.ownBlock = some k)) (hN2 : NumRow (w.heap.size + 1) 3 w2 v' ns') (hg : Grow w w1) (hk : k < 4) :
    (∃ u, w2.cell? ⟨w.heap.size, k, none⟩ = some u) ∧ w2.frozen? ⟨w.heap.size, k, none⟩ = false ∧ Hid (Four w.heap.size (L.set k x) (w2.setCell ⟨w.heap.size, k, none⟩ u) ∧ NumRow (w.heap.size + 1) 3 (w2.setCell ⟨w.heap.size, k, none⟩ u) v' ns' ∧ Grow w (w2.setCell ⟨w.heap.size, k, none⟩ u) ∧ w.heap.size + 1 ≤ (w2.setCell ⟨w.heap.size, k, none⟩ u).heap.size) := by
  have hb1 := fun j hj => (hN.base j hj).1
  have hF2 := hF.kept hgI (fun e => by have := hb1 _ e; omega) (fun b cs hb _ => hN.notB hb cs)
  have hx2 := hx.kept hgI (fun b cs hb _ => hN.notB hb cs)
  have hg2 := hg.thenIn hgI (fun j hj => by have := hb1 j hj; omega)
  have hlt := hF2.lt
  refine ⟨(hF2.at hk).1, (hF2.at hk).2, hF2.put k hx2, ?_, hg2.set (k := k) (Nat.le_refl w.heap.size) u, by simp; omega⟩
  exact hN2.kept (grownIn_set w2 w.heap.size k u (G := fun j => j = w.heap.size) rfl) (fun j hj e => by have := (hN2.base j hj).1; omega)

/-- What each of four cells has. -/
def readL (ls : List (List Int)) (s : Int) : List (List Int) := (List.range 4).map fun (d : Nat) => readX (ls.getD d []) d s

set_option maxRecDepth 20000 in
set_option maxHeartbeats 3200000 in
theorem look_any (v : Value) (ls : List (List Int)) (s : Int) (w : World) (h : Bss w v ls) (hl : ls.length = 4) :
    Calls Try.prog 37 #[v, .int .i64 s] w fun e w' => ∃ bd, e = .returned (.tuple #[.slice (some ⟨w.heap.size, 0, none⟩) 4 4, bd]) ∧ Four w.heap.size (readL ls s) w' ∧ NumRow (w.heap.size + 1) 3 w' bd (ints (badL ls s)) ∧ Grow w w' := by
  obtain ⟨i0, hi, hz0, hz1, hz2⟩ := info_parts Try.infoI
  obtain ⟨ao, cap, rfl, h1, h2, h3, h4⟩ := h
  unfold maxLen at h2
  obtain ⟨b, off, rfl, hc⟩ := h4 (by omega)
  have HK : Hid (∀ k, k < 4 → ∃ ak nk ck, w.cell? ⟨b, off + k, none⟩ = some (.slice ak nk ck) ∧ Bs w (.slice ak nk ck) (ls.getD k [])) := fun k hk => by
    obtain ⟨ak, ck, hck, hbk⟩ := Sl.bytesAt hc (k := k) (by omega)
    exact ⟨ak, _, ck, hck, hbk⟩
  have hmk := Try.madeS w
  have HF : Hid (Four w.heap.size (up4 (fun (d : Nat) => readX (ls.getD d []) d s) 0) (w.alloc (.cells nils4 23))) := Four.made w _
  have HE : Hid (readL ls s = up4 (fun (d : Nat) => readX (ls.getD d []) d s) 4 ∧ badL ls s = badTo ls s 4) := ⟨(up4_all _).symm, by rw [badL, hl]⟩
  have hgA : Grow w (w.alloc (.cells nils4 23)) := Grow.alloc _ _
  have hs0 : w.heap.size + 1 ≤ (w.alloc (.cells nils4 23)).heap.size := by simp
  rw [hl]
  clear hc h4 hl h3
  go_enter Try.func37, Try.ntmps37
  go_wp2
  go_loopw [7, 14] (fun bd i wr => ∃ k : Nat, k ≤ 4 ∧ i = .int .i64 k ∧ Hid (Four w.heap.size (up4 (fun (d : Nat) => readX (ls.getD d []) d s) k) wr) ∧ Hid (NumRow (w.heap.size + 1) 3 wr bd (ints (badTo ls s k))) ∧ Grow w wr ∧ w.heap.size + 1 ≤ wr.heap.size) (fun _ i _ => 4 - (intOf i).toNat)
  case atStart => exact ⟨0, by omega, rfl, HF, NumRow.nil _ _ _, hgA, hs0⟩
  case round =>
    obtain ⟨k, hk, rfl, HR, HN, hgr, hsz⟩ := hrel
    clear HF hmk hgA hs0
    by_cases hlt : k < 4
    · obtain ⟨ak, nk, ck, hck, hbk⟩ := HK.out k hlt
      have HB := badTo_succ ls s k
      have hbl := badTo_length ls s k
      have hE : isBad ls s k = (readE (ls.getD k []) k s != 0) := rfl
      have hA := atB_any b off k 4 cap ak nk ck wr hlt (hgr.at hck)
      have hC := read_fresh (.slice ak nk ck) (ls.getD k []) k s wr (hbk.grow hgr)
      have hset := up4_set (fun (d : Nat) => readX (ls.getD d []) d s) hlt
      have hlb : (ints (badTo ls s k)).length ≤ k := by simpa [ints] using hbl
      clear hck hbk
      go_wp2_with fail
      refine hA.mono ?_
      rintro e w0 ⟨rfl, rfl⟩
      go_wp2_with fail
      refine hC.mono ?_
      rintro e w1 ⟨r, rfl, hr, hg1⟩
      have hFx := Fx.of hr (H := w.heap.size) (by omega)
      obtain ⟨ar, nr, cr, rfl⟩ := hFx.form
      have hF1 := HR.out.grow hg1
      have hN1 := HN.out.grow hg1
      have hgr1 := hgr.trans hg1
      have hsz1 : w.heap.size + 1 ≤ w1.heap.size := by have := hg1.size; omega
      clear hA hC HR HN hr
      by_cases he : readE (ls.getD k []) k s = 0
      · have HB' : Hid (badTo ls s (k + 1) = badTo ls s k) := by rw [Hid, HB, hE, he]; simp
        have hF2 := hF1.put k hFx
        rw [hset] at hF2
        have HF2 : Hid (Four _ _ _) := hF2
        have hN2 := hN1.kept (grownIn_set w1 w.heap.size k (.slice ar nr cr) (G := fun j => j = w.heap.size) rfl) (fun j hj e => by have := (hN1.base j hj).1; omega)
        rw [← HB'.out] at hN2
        have HN2 : Hid (NumRow _ _ _ _ _) := hN2
        obtain ⟨⟨u0, hu0⟩, hf0⟩ := hF1.at hlt
        have hg2 := hgr1.set (k := k) (Nat.le_refl w.heap.size) (.slice ar nr cr)
        have hsz2 : w.heap.size + 1 ≤ (w1.setCell ⟨w.heap.size, k, none⟩ (.slice ar nr cr)).heap.size := by simpa using hsz1
        clear HB hE hF1 hN1 hF2 hN2 hFx hset
        generalize readE (ls.getD k []) k s = E at *
        subst he
        go_wp2
        go_roundw
        case rel => first | exact ⟨k + 1, by omega, by go_num, HF2, HN2, hg2, hsz2⟩ | ((repeat apply Exists.intro); exact ⟨⟨k + 1, by omega, by go_num, HF2, HN2, hg2, hsz2⟩, rfl⟩)
        case measure => simp [intOf]; omega
      · have HB' : Hid (ints (badTo ls s k) ++ [(k : Int)] = ints (badTo ls s (k + 1))) := by rw [Hid, HB, hE, if_pos (by simpa using he)]; simp [ints]
        have HF1 : Hid (Four _ _ _) := hF1
        have HN1 : Hid (NumRow (w.heap.size + 1) 3 w1 u7 (ints (badTo ls s k))) := hN1
        have HFx : Hid (Fx _ _ _ _) := hFx
        have Hset : Hid (_ = _) := hset
        clear HB hE hF1 hN1 hFx hset
        generalize readE (ls.getD k []) k s = E at *
        go_wp2_with (first
          | (at_builtin; refine wpList_push_num rfl (.tmp 28) (.tmp 30) 46 rfl 3 i0 Try.underlying46 hi hz0 hz1 hz2 (w.heap.size + 1) rfl HN1.out k hsz1 (by omega) w1.heap.size rfl rfl ?_; rintro g1 c1 w2 hN2 hgI; rw [HB'.out] at hN2; obtain ⟨⟨u0, hu0⟩, hf0, HZ⟩ := look_push HF1.out HN1.out HFx.out hgI hN2 hgr1 hlt; rw [Hset.out] at HZ; clear hN2 hgI))
        go_roundw
        case rel => first | exact ⟨k + 1, by omega, by go_num, HZ.out.1, HZ.out.2.1, HZ.out.2.2.1, HZ.out.2.2.2⟩ | ((repeat apply Exists.intro); exact ⟨⟨k + 1, by omega, by go_num, HZ.out.1, HZ.out.2.1, HZ.out.2.2.1, HZ.out.2.2.2⟩, rfl⟩)
        case measure => simp [intOf]; omega
    · obtain rfl : k = 4 := by omega
      go_wp2
      go_ret2
      exact ⟨_, rfl, by rw [HE.out.1]; exact HR.out, by rw [HE.out.2]; exact HN.out, hgr⟩

set_option maxRecDepth 20000 in
theorem stripeBad_any (v : Value) (ls : List (List Int)) (s : Nat) (w : World) (h : Bss w v ls) (hl : ls.length = 4) (_hs : s < 3) :
    Calls Try.prog 20 #[v, .int .i64 s] w fun e w' => ∃ r, e = .returned r ∧ Sl IntV w' r (ints (badL ls s)) ∧ Grow w w' := by
  have hcall := look_any v ls s w h hl
  obtain ⟨av, cv, rfl⟩ := Sl.form h
  rw [hl] at hcall ⊢
  clear hl h
  go_enter Try.func20, Try.ntmps20
  go_wp2_with fail
  refine hcall.mono ?_
  rintro e w1 ⟨bd, rfl, -, hN, hg1⟩
  have hS := hN.done
  clear hN
  go_wp2
  go_ret
  exact ⟨_, rfl, hS, hg1⟩

end Go.Proofs.Ytbpekcmlaagegab
