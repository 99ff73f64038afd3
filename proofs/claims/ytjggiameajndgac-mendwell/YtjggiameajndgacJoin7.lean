import Derived.Test.YtjggiameajndgacJoin6
/-
  What the reference's Write returns: an array behind so many writes. Nothing old turns.
-/
namespace Go.Proofs.Ytjggiameajndgac
open Go.RowKit

/-- One write. -/
def wstep (a : ArrP) (i : Int × List (List Int)) (k : Nat) : ArrP :=
  if k = 1 then { a with is := [i] } else if k < 6 then withL a (k - 2) i.1.toNat (i.2.getD (k - 2) []) else { a with is := [] }

/-- The first n writes. -/
def writeTo (a : ArrP) (i : Int × List (List Int)) : Nat → ArrP
  | 0 => a
  | n + 1 => wstep (writeTo a i n) i (n + 1)

/-- How many they are. -/
def many6 (n : Int) : Nat := (min n 6).toNat

def writeL (a : ArrP) (i : Int × List (List Int)) (n : Int) : ArrP := writeTo a i (many6 n)

theorem wstep_whole {a : ArrP} (ha : Whole a) (i : Int × List (List Int)) (k : Nat) : Whole (wstep a i k) := by
  unfold wstep
  split
  · exact ha
  · split
    · exact withL_whole ha (by omega) _
    · exact ha

theorem writeTo_whole {a : ArrP} (ha : Whole a) (i : Int × List (List Int)) : ∀ n, Whole (writeTo a i n)
  | 0 => ha
  | n + 1 => wstep_whole (writeTo_whole ha i n) i (n + 1)

theorem many6_le (n : Int) : many6 n ≤ 6 := by unfold many6; omega
theorem many6_iff {n : Int} {k : Nat} (hk : 1 ≤ k) : k ≤ many6 n ↔ (k : Int) ≤ n ∧ k ≤ 6 := by unfold many6; omega

/-- An intent, as it lies. -/
def IntentV (w : World) (v : Value) (i : Int × List (List Int)) : Prop := ∃ cv, v = .agg #[.int .i64 i.1, cv] ∧ Bss w cv i.2
theorem IntentV.grow {w w' : World} {v : Value} {i : Int × List (List Int)} (h : IntentV w v i) (hg : Grow w w') : IntentV w' v i := by
  obtain ⟨cv, hv, hb⟩ := h
  exact ⟨cv, hv, hb.grow hg⟩

theorem ItsX.one {g : Option Nat} {w : World} {b s : Nat} {cv : Value} {ls : List (List Int)} (h0 : w.cell? ⟨b, 0, none⟩ = some (.int .i64 s)) (h1 : w.cell? ⟨b, 1, none⟩ = some cv) (h : BssX g w cv ls) (hg : g ≠ some b) : ItsX g w (.slice (some ⟨b, 0, none⟩) 1 1) [((s : Int), ls)] := by
  refine ⟨⟨some ⟨b, 0, none⟩, 1, rfl, Nat.le_refl _, by unfold maxLen; omega, (fun h => nomatch h), fun _ => ⟨b, 0, rfl, fun i p hi => ?_⟩⟩, fun _ b' hb' => by cases hb'; exact hg⟩
  match i, hi with
  | 0, hi =>
    simp at hi
    subst hi
    exact ⟨h0, cv, h1, h⟩

theorem two_set0 {w : World} {A : Nat} {x y z : Value} {t : TypeId} (h : w.heap[A]? = some (.cells #[x, y] t (0, 0))) : (w.setCell ⟨A, 0, none⟩ z).heap[A]? = some (.cells #[z, y] t (0, 0)) := by
  rw [heap_setCell_same w A 0 _ _ _ h]; rfl
theorem two_set1 {w : World} {A : Nat} {x y z : Value} {t : TypeId} (h : w.heap[A]? = some (.cells #[x, y] t (0, 0))) : (w.setCell ⟨A, 1, none⟩ z).heap[A]? = some (.cells #[x, z] t (0, 0)) := by
  rw [heap_setCell_same w A 1 _ _ _ h]; rfl
theorem two_at0 {w : World} {A : Nat} {x y : Value} {t : TypeId} (h : w.heap[A]? = some (.cells #[x, y] t (0, 0))) : w.cell? ⟨A, 0, none⟩ = some x := by rw [cell_of_row w A 0 _ _ _ h]; rfl
theorem two_at1 {w : World} {A : Nat} {x y : Value} {t : TypeId} (h : w.heap[A]? = some (.cells #[x, y] t (0, 0))) : w.cell? ⟨A, 1, none⟩ = some y := by rw [cell_of_row w A 1 _ _ _ h]; rfl

theorem Grow.block' {w w' : World} (hg : Grow w w') {A : Nat} {o : Obj} (h : w.heap[A]? = some o) : w'.heap[A]? = some o := by
  have hlt : A < w.heap.size := by
    by_cases hlt : A < w.heap.size
    · exact hlt
    · rw [Array.getElem?_eq_none (Nat.le_of_not_lt hlt)] at h; cases h
  exact (hg.block A hlt).trans h

theorem by_set (w : World) (A k : Nat) (u : Value) : w.grownBy (w.setCell ⟨A, k, none⟩ u) (some A) := ⟨rfl, rfl, rfl, by simp, fun j _ hj => Below.heap_setCell w _ _ j (fun e => hj (by rw [e]))⟩

/-- An array in whatever memory but g. -/
def NewArr (g : Option Nat) (a : ArrP) (v : Value) (w : World) : Prop := ArrX g w v a
theorem NewArr.stable {g : Option Nat} (a : ArrP) : ∀ (v : Value) (x y : World), NewArr g a v x → Grow x y → NewArr g a v y := fun _ _ _ h hg => ArrX.grow h hg

/-- Nothing of an array lies in two cells that hold no slice: its rows have more cells than two, or numbers in them. -/
def Small (R : Nat) (w : World) : Prop := ∃ t fr, w.heap[R]? = some (.cells #[.slice none 0 0, .slice none 0 0] t fr)

theorem Small.cell {R : Nat} {w : World} (h : Small R w) {off : Nat} {u : Value} (hu : w.cell? ⟨R, off, none⟩ = some u) : off < 2 ∧ u = .slice none 0 0 := by
  obtain ⟨t, fr, h⟩ := h
  rw [cell_of_row w R off _ _ _ h] at hu
  match off, hu with
  | 0, hu => simp at hu; exact ⟨by omega, hu.symm⟩
  | 1, hu => simp at hu; exact ⟨by omega, hu.symm⟩
  | n + 2, hu => simp at hu

theorem Small.bytes {R : Nat} {w : World} (h : Small R w) {u : Value} {l : List Int} (hb : Bs w u l) : Off Bs (some R) w u l := fun w' hg => by
  obtain ⟨ao, cap, hv, h1, h2, h3, h4, h5⟩ := hb
  refine ⟨ao, cap, hv, h1, h2, h3, h4, fun hp => ?_⟩
  obtain ⟨b, off, e, hc⟩ := h5 hp
  refine ⟨b, off, e, fun i hi => hg.cell (hc i hi) (fun e => ?_)⟩
  simp only [Option.some.injEq] at e
  subst e
  have := (h.cell (hc i hi)).2
  cases this

theorem Small.row {α : Type} {R : Nat} {Q : World → Value → α → Prop} {w : World} (h : Small R w) {v : Value} {xs : List α} (hs : Sl Q w v xs) (hl : 3 ≤ xs.length) : RowOff (some R) v xs.length := fun hp b hb e => by
  obtain ⟨ao, cap, rfl, h1, h2, h3, h4⟩ := hs
  obtain ⟨b', off, rfl, hc⟩ := h4 hp
  simp only [Value.ownBlock, Option.some.injEq] at hb e
  subst hb e
  obtain ⟨u, hu, _⟩ := hc 2 (xs[2]) (by simp [show 2 < xs.length by omega])
  have := (h.cell hu).1
  omega

theorem Small.bss {R : Nat} {w : World} (h : Small R w) {v : Value} {ls : List (List Int)} (hs : Bss w v ls) (hl : 3 ≤ ls.length) : BssX (some R) w v ls := ⟨Sl.lift (fun _ _ hb => h.bytes hb) hs (Grow.refl _), h.row hs hl⟩

theorem Small.arr {R : Nat} {w : World} (h : Small R w) {v : Value} {b : ArrP} (hv : ArrV w v b) (hw : Whole b) (hi : ∀ p ∈ b.is, p.2.length = 4) : ArrX (some R) w v b := by
  obtain ⟨dv, iv, e, h1, h2⟩ := hv
  refine ⟨dv, iv, e, ⟨?_, h.row h1 (by have := hw.1; omega)⟩, ?_, ?_⟩
  · obtain ⟨ao, cap, hv, k1, k2, k3, k4⟩ := h1
    refine ⟨ao, cap, hv, k1, k2, k3, fun hp => ?_⟩
    obtain ⟨b', off, e, hc⟩ := k4 hp
    refine ⟨b', off, e, fun i x hx => ?_⟩
    obtain ⟨u, hu, hr⟩ := hc i x hx
    exact ⟨u, hu, h.bss hr (by rw [hw.2 x (List.mem_of_getElem? hx)]; omega)⟩
  · obtain ⟨ao, cap, hv, k1, k2, k3, k4⟩ := h2
    refine ⟨ao, cap, hv, k1, k2, k3, fun hp => ?_⟩
    obtain ⟨b', off, e, hc⟩ := k4 hp
    refine ⟨b', off, e, fun i p hx => ?_⟩
    obtain ⟨h6, cv, h7, h8⟩ := hc i p hx
    exact ⟨h6, cv, h7, h.bss h8 (by rw [hi p (List.mem_of_getElem? hx)]; omega)⟩
  · intro hp b' hb e9
    obtain ⟨ao, cap, rfl, k1, k2, k3, k4⟩ := h2
    obtain ⟨b'', off, rfl, hc⟩ := k4 hp
    simp only [Value.ownBlock, Option.some.injEq] at hb
    injection e9 with e9
    subst hb e9
    have := (h.cell (hc 0 (b.is[0]) (by simp [hp])).1).2
    cases this

theorem wstep_is {a : ArrP} {i : Int × List (List Int)} {k : Nat} (h : ∀ p ∈ a.is, p.2.length = 4) (hi : i.2.length = 4) : ∀ p ∈ (wstep a i k).is, p.2.length = 4 := by
  unfold wstep
  split
  · intro p hp; simp at hp; rw [hp]; exact hi
  · split
    · exact h
    · intro p hp; simp at hp

theorem writeTo_is {a : ArrP} {i : Int × List (List Int)} (h : ∀ p ∈ a.is, p.2.length = 4) (hi : i.2.length = 4) : ∀ n, ∀ p ∈ (writeTo a i n).is, p.2.length = 4
  | 0 => h
  | n + 1 => wstep_is (writeTo_is h hi n) hi

/-- What the loop keeps. -/
def WInv (w : World) (s : Nat) (cv x y : Value) (b : ArrP) (wr : World) : Prop :=
  Hid (wr.heap[w.heap.size]? = some (.cells #[x, y] 26 (0, 0)) ∧ wr.heap[w.heap.size + 1]? = some (.cells #[.int .i64 s, cv] 80 (0, 0)) ∧ wr.heap[w.heap.size + 1 + 1]? = some (.cells #[.slice none 0 0, .slice none 0 0] 26 (0, 0))) ∧
    Hid (ArrX (some w.heap.size) wr (.agg #[x, y]) b) ∧ Grow w wr

theorem set_other {w : World} {A k j : Nat} {u : Value} {o : Option Obj} (h : w.heap[j]? = o) (hne : j ≠ A) : (w.setCell ⟨A, k, none⟩ u).heap[j]? = o := by
  rw [Below.heap_setCell w _ _ j (show j ≠ A from hne), h]

theorem w_first {w wr : World} {s : Nat} {cv x y : Value} {a : ArrP} {cs : List (List Int)} (hcv : Bss w cv cs)
    (hR : wr.heap[w.heap.size]? = some (.cells #[x, y] 26 (0, 0)) ∧ wr.heap[w.heap.size + 1]? = some (.cells #[.int .i64 s, cv] 80 (0, 0)) ∧ wr.heap[w.heap.size + 1 + 1]? = some (.cells #[.slice none 0 0, .slice none 0 0] 26 (0, 0)))
    (hX : ArrX (some w.heap.size) wr (.agg #[x, y]) (writeTo a ((s : Int), cs) 0)) (hgr : Grow w wr) (hlt : w.heap.size < wr.heap.size) :
    WInv w s cv x (.slice (some ⟨wr.heap.size, 0, none⟩) 1 1) (writeTo a ((s : Int), cs) 1) ((wr.alloc (.cells #[.int .i64 s, cv] 80)).setCell ⟨w.heap.size, 1, none⟩ (.slice (some ⟨wr.heap.size, 0, none⟩) 1 1)) := by
  have gE : Grow wr (wr.alloc (.cells #[.int .i64 s, cv] 80)) := Grow.alloc _ _
  have hb := heap_alloc_new wr (.cells #[.int .i64 s, cv] 80)
  have hset := by_set (wr.alloc (.cells #[.int .i64 s, cv] 80)) w.heap.size 1 (.slice (some ⟨wr.heap.size, 0, none⟩) 1 1)
  have hb' := set_other (A := w.heap.size) (k := 1) (u := .slice (some ⟨wr.heap.size, 0, none⟩) 1 1) hb (by omega)
  refine ⟨⟨two_set1 (gE.block' hR.1), set_other (gE.block' hR.2.1) (by omega), set_other (gE.block' hR.2.2) (by omega)⟩, ?_, (hgr.trans gE).set (Nat.le_refl _) _⟩
  obtain ⟨dv, iv, e, h1, h2⟩ := hX
  simp only [Value.agg.injEq] at e
  have e := congrArg Array.toList e
  simp at e
  refine ⟨x, _, rfl, ?_, ItsX.one (two_at0 hb') (two_at1 hb') (BssX.step (BssX.old hcv (hgr.trans gE) (fun k hk => by cases hk; exact Nat.le_refl _)) hset) (fun e => by injection e; omega)⟩
  rw [e.1]
  exact DksX.step (DksX.step h1 (gE.by _)) hset

theorem w_last {w wr : World} {s : Nat} {cv x y : Value} {a : ArrP} {cs : List (List Int)}
    (hR : wr.heap[w.heap.size]? = some (.cells #[x, y] 26 (0, 0)) ∧ wr.heap[w.heap.size + 1]? = some (.cells #[.int .i64 s, cv] 80 (0, 0)) ∧ wr.heap[w.heap.size + 1 + 1]? = some (.cells #[.slice none 0 0, .slice none 0 0] 26 (0, 0)))
    (hX : ArrX (some w.heap.size) wr (.agg #[x, y]) (writeTo a ((s : Int), cs) 5)) (hgr : Grow w wr) :
    WInv w s cv x (.slice none 0 0) (writeTo a ((s : Int), cs) 6) (wr.setCell ⟨w.heap.size, 1, none⟩ (.slice none 0 0)) := by
  have hset := by_set wr w.heap.size 1 (.slice none 0 0)
  refine ⟨⟨two_set1 hR.1, set_other hR.2.1 (by omega), set_other hR.2.2 (by omega)⟩, ?_, hgr.set (Nat.le_refl _) _⟩
  obtain ⟨dv, iv, e, h1, h2⟩ := hX
  simp only [Value.agg.injEq] at e
  have e := congrArg Array.toList e
  simp at e
  refine ⟨x, _, rfl, ?_, ItsX.nil _ _⟩
  rw [e.1]
  exact DksX.step h1 hset

theorem w_mid {w wr wR : World} {s : Nat} {cv x y x' y' : Value} {b : ArrP}
    (hR : wr.heap[w.heap.size]? = some (.cells #[x, y] 26 (0, 0)) ∧ wr.heap[w.heap.size + 1]? = some (.cells #[.int .i64 s, cv] 80 (0, 0)) ∧ wr.heap[w.heap.size + 1 + 1]? = some (.cells #[.slice none 0 0, .slice none 0 0] 26 (0, 0)))
    (hX : ArrX (some w.heap.size) wR (.agg #[x', y']) b) (hgr : Grow w wr) (hg : Grow wr wR) :
    WInv w s cv x' y' b ((wR.setCell ⟨w.heap.size, 0, none⟩ x').setCell ⟨w.heap.size, 1, none⟩ y') :=
  ⟨⟨two_set1 (two_set0 (hg.block' hR.1)), set_other (set_other (hg.block' hR.2.1) (by omega)) (by omega), set_other (set_other (hg.block' hR.2.2) (by omega)) (by omega)⟩,
    (hX.step (by_set wR _ 0 x')).step (by_set _ _ 1 y'), ((hgr.trans hg).set (Nat.le_refl _) _).set (Nat.le_refl _) _⟩

theorem w_end {w wr : World} {s : Nat} {cv x y : Value} {b : ArrP}
    (hR : wr.heap[w.heap.size]? = some (.cells #[x, y] 26 (0, 0)) ∧ wr.heap[w.heap.size + 1]? = some (.cells #[.int .i64 s, cv] 80 (0, 0)) ∧ wr.heap[w.heap.size + 1 + 1]? = some (.cells #[.slice none 0 0, .slice none 0 0] 26 (0, 0)))
    (hX : ArrX (some (w.heap.size + 1 + 1)) wr (.agg #[x, y]) b) (hgr : Grow w wr) :
    ArrV ((wr.setCell ⟨w.heap.size + 1 + 1, 0, none⟩ x).setCell ⟨w.heap.size + 1 + 1, 1, none⟩ y) (.agg #[x, y]) b ∧ Grow w ((wr.setCell ⟨w.heap.size + 1 + 1, 0, none⟩ x).setCell ⟨w.heap.size + 1 + 1, 1, none⟩ y) ∧
      ((wr.setCell ⟨w.heap.size + 1 + 1, 0, none⟩ x).setCell ⟨w.heap.size + 1 + 1, 1, none⟩ y).cell? ⟨w.heap.size + 1 + 1, 0, none⟩ = some x ∧ ((wr.setCell ⟨w.heap.size + 1 + 1, 0, none⟩ x).setCell ⟨w.heap.size + 1 + 1, 1, none⟩ y).cell? ⟨w.heap.size + 1 + 1, 1, none⟩ = some y := by
  have hb := two_set1 (z := y) (two_set0 (z := x) hR.2.2)
  exact ⟨((hX.step (by_set wr _ 0 x)).step (by_set _ _ 1 y)).plain, (hgr.set (by omega) _).set (by omega) _, two_at0 hb, two_at1 hb⟩

set_option maxRecDepth 20000 in
set_option maxHeartbeats 6400000 in
theorem refWrite_any (v iv : Value) (a : ArrP) (s : Nat) (cs : List (List Int)) (n : Int) (w : World) (h : ArrV w v a) (ha : Whole a) (hi : IntentV w iv ((s : Int), cs)) (hs3 : s < 3) (hc4 : cs.length = 4) (his : ∀ p ∈ a.is, p.2.length = 4) :
    Calls Try.prog 63 #[v, iv, .int .i64 n] w fun e w' => ∃ r, e = .returned r ∧ ArrV w' r (writeL a ((s : Int), cs) n) ∧ Grow w w' := by
  obtain ⟨dv, ev, rfl, hd, hit⟩ := h
  obtain ⟨ad, cd, rfl, hd1, hd2⟩ := hd.form'
  obtain ⟨ai, ci, rfl, hi1, hi2⟩ := hit.form
  obtain ⟨cv, rfl, hcv⟩ := hi
  have hcv : Bss w cv cs := hcv
  obtain ⟨ac, cc, rfl, hc1, hc2⟩ := hcv.form'
  obtain ⟨bc, oc, -, rfl, -, -⟩ := hcv.elem (k := 0) (by omega) []
  have hw4 := fun m => writeTo_whole ha ((s : Int), cs) m
  have hm6 := many6_le n
  have Hw4 : Hid (∀ m, Whole (writeTo a ((s : Int), cs) m) ∧ ∀ p ∈ (writeTo a ((s : Int), cs) m).is, p.2.length = 4) := fun m => ⟨hw4 m, writeTo_is his hc4 m⟩
  clear his
  have hmi := fun k => many6_iff (n := n) (k := k)
  have hcx : ∀ k, k < 4 → ∃ x1 x2 x3, w.cell? ⟨bc, oc + k, none⟩ = some (.slice x1 x2 x3) ∧ Bs w (.slice x1 x2 x3) (cs.getD k []) := fun k hk => by
    obtain ⟨b', o', u, e1, e2, e3⟩ := hcv.elem (k := k) (by omega) []
    injection e1 with e1
    injection e1 with e4 e5
    subst e4 e5
    obtain ⟨x1, x2, x3, rfl⟩ := e3.form
    exact ⟨x1, x2, x3, e2, e3⟩
  rw [ha.1] at hd hd1 ⊢
  have HC : Hid (cs.length = 4) := hc4
  rw [hc4] at hcv hc1 ⊢
  clear hc4
  generalize hni : a.is.length = ni at *
  obtain ⟨W, hW⟩ : ∃ W, W = ((w.alloc (.cells #[.slice ad 4 cd, .slice ai ni ci] 26)).alloc (.cells #[.int .i64 s, .slice (some ⟨bc, oc, none⟩) 4 cc] 80)).alloc (.cells #[.slice none 0 0, .slice none 0 0] 26) := ⟨_, rfl⟩
  have hgW : Grow w W := by rw [hW]; exact ((Grow.alloc _ _).trans (Grow.alloc _ _)).trans (Grow.alloc _ _)
  go_enter Try.func63, Try.ntmps63
  go_wp2
  have bA : W.heap[w.heap.size]? = some (.cells #[.slice ad 4 cd, .slice ai ni ci] 26 (0, 0)) := by
    rw [hW, heap_alloc_old _ _ (by simp; omega), heap_alloc_old _ _ (by simp)]; exact heap_alloc_new w _
  have bI : W.heap[w.heap.size + 1]? = some (.cells #[.int .i64 s, .slice (some ⟨bc, oc, none⟩) 4 cc] 80 (0, 0)) := by
    rw [hW, heap_alloc_old _ _ (by simp)]; exact heap_alloc2_new w _ _
  have bR : W.heap[w.heap.size + 1 + 1]? = some (.cells #[.slice none 0 0, .slice none 0 0] 26 (0, 0)) := by
    have := heap_alloc_new ((w.alloc (.cells #[.slice ad 4 cd, .slice ai ni ci] 26)).alloc (.cells #[.int .i64 s, .slice (some ⟨bc, oc, none⟩) 4 cc] 80)) (.cells #[.slice none 0 0, .slice none 0 0] 26)
    rw [hW]
    simpa using this
  have hX : ArrX (some w.heap.size) W (.agg #[.slice ad 4 cd, .slice ai ni ci]) a := ArrX.old (w0 := w) ⟨_, _, rfl, hd, hit⟩ hgW (fun k hk => by cases hk; exact Nat.le_refl _)
  rw [← hW]
  have HB : Hid (W.heap[w.heap.size]? = some (.cells #[.slice ad 4 cd, .slice ai ni ci] 26 (0, 0)) ∧ W.heap[w.heap.size + 1]? = some (.cells #[.int .i64 s, .slice (some ⟨bc, oc, none⟩) 4 cc] 80 (0, 0)) ∧ W.heap[w.heap.size + 1 + 1]? = some (.cells #[.slice none 0 0, .slice none 0 0] 26 (0, 0))) := ⟨bA, bI, bR⟩
  clear hW bA bI bR hd hit
  go_loopw [7] (fun q wr => ∃ (k : Nat) (x y : Value), 1 ≤ k ∧ k ≤ many6 n + 1 ∧ q = .int .i64 k ∧ Hid (wr.heap[w.heap.size]? = some (.cells #[x, y] 26 (0, 0)) ∧ wr.heap[w.heap.size + 1]? = some (.cells #[.int .i64 s, .slice (some ⟨bc, oc, none⟩) 4 cc] 80 (0, 0)) ∧ wr.heap[w.heap.size + 1 + 1]? = some (.cells #[.slice none 0 0, .slice none 0 0] 26 (0, 0))) ∧ Hid (ArrX (some w.heap.size) wr (.agg #[x, y]) (writeTo a ((s : Int), cs) (k - 1))) ∧ Grow w wr) (fun q _ => 7 - (intOf q).toNat)
  case atStart => exact ⟨1, _, _, by omega, by omega, rfl, HB, hX, hgW⟩
  case round =>
    obtain ⟨k, x, y, hk1, hkm, rfl, HR, HX, hgr⟩ := hrel
    obtain ⟨hA, hI, hR⟩ := HR.out
    have a0 := two_at0 hA
    have a1 := two_at1 hA
    have i0 := two_at0 hI
    have i1 := two_at1 hI
    have fA0 : wr.frozen? ⟨w.heap.size, 0, none⟩ = false := frozen_of_row wr _ 0 _ _ hA
    have fA1 : wr.frozen? ⟨w.heap.size, 1, none⟩ = false := frozen_of_row wr _ 1 _ _ hA
    have r0 := two_at0 hR
    have r1 := two_at1 hR
    have fR0 : wr.frozen? ⟨w.heap.size + 1 + 1, 0, none⟩ = false := frozen_of_row wr _ 0 _ _ hR
    have fR1 : wr.frozen? ⟨w.heap.size + 1 + 1, 1, none⟩ = false := frozen_of_row wr _ 1 _ _ hR
    clear hA hI hR
    have hxy : (∃ x1 x2 x3, x = .slice x1 x2 x3) ∧ ∃ y1 y2 y3, y = .slice y1 y2 y3 := by
      obtain ⟨dv, iv, e, h1, h2⟩ := HX.out
      obtain ⟨p1, p2, e1⟩ := h1.1.form
      obtain ⟨p3, p4, e2, -⟩ := h2.plain.form
      simp only [Value.agg.injEq] at e
      have e := congrArg Array.toList e
      simp at e
      exact ⟨⟨_, _, _, e.1.trans e1⟩, ⟨_, _, _, e.2.trans e2⟩⟩
    obtain ⟨⟨x1, x2, x3, rfl⟩, y1, y2, y3, rfl⟩ := hxy
    by_cases hgo : k ≤ many6 n
    · obtain ⟨hkn, hk6⟩ := (hmi k hk1).1 hgo
      by_cases h1 : k = 1
      · subst h1
        have gE : Grow wr (wr.alloc (.cells #[.int .i64 s, .slice (some ⟨bc, oc, none⟩) 4 cc] 80)) := Grow.alloc _ _
        have a1' := gE.at a1
        have fA1' := (gE.frozen (a := ⟨w.heap.size, 1, none⟩) (cell_lt a1)).trans fA1
        have HN := w_first hcv HR.out HX.out hgr (cell_lt a1)
        clear hmi hw4 HR HX gE
        go_wp2
        go_roundw
        case rel => first | exact ⟨2, _, _, by omega, by omega, rfl, HN.1, HN.2.1, HN.2.2⟩ | ((repeat apply Exists.intro); exact ⟨⟨2, _, _, by omega, by omega, rfl, HN.1, HN.2.1, HN.2.2⟩, rfl⟩)
        case measure => simp [intOf]
      · have h1' : ¬ (k : Int) = 1 := by omega
        by_cases h6 : k < 6
        · obtain ⟨m, rfl⟩ : ∃ m, k = m + 2 := ⟨k - 2, by omega⟩
          have hm4 : m < 4 := by omega
          obtain ⟨z1, z2, z3, hz1, hz2⟩ := hcx m hm4
          have hz1' := hgr.at hz1
          have hwm := hw4 (m + 1)
          have HS : Hid (writeTo a ((s : Int), cs) (m + 2) = withL (writeTo a ((s : Int), cs) (m + 1)) m s (cs.getD m [])) := by
            rw [Hid, writeTo, wstep, if_neg (by omega), if_pos (by omega)]
            simp
          rw [show m + 2 - 1 = m + 1 by omega] at HX
          clear hmi hw4 hcx hz1
          have HZ : Hid (Bs w (.slice z1 z2 z3) (cs.getD m [])) := hz2
          have HM : Hid (Whole (writeTo a ((s : Int), cs) (m + 1))) := hwm
          clear hz2 hwm h1 h1' h6
          have hm4i : (m : Int) < 4 := by omega
          have hb1 : (((m : Int) + 2) == 1) = false := by simp; omega
          have hb6 : decide ((m : Int) + 2 < 6) = true := by simp; omega
          have hb7 : (m : Int) + 2 ≤ 6 := by omega
          have hb8 : (m : Int) + 2 ≤ n := by omega
          go_wp2
          refine wp_region_last [_, _, _, _, _, _, _, _, _, _, _, _] _ rfl Grow [IsV (.agg #[.slice x1 x2 x3, .slice y1 y2 y3]), IsV (.int .i64 ((m : Int) + 2)), IsV (.int .i64 m), IsV (.pointer (some ⟨w.heap.size + 1, 0, none⟩)), IsV (.int .i64 s), IsV (.pointer (some ⟨w.heap.size + 1, 1, none⟩)), IsV (.slice (some ⟨bc, oc, none⟩) 4 cc), IsV (.int .i64 ((m : Int) + 2)), IsV (.int .i64 m), IsV (.pointer (some ⟨bc, oc + m, none⟩)), IsV (.slice z1 z2 z3), NewArr (some w.heap.size) (withL (writeTo a ((s : Int), cs) (m + 1)) m s (cs.getD m []))] (by kernel_rfl) (by kernel_rfl) (by kernel_rfl) rfl Grow.refl (fun _ _ _ => Grow.trans) ?_ ?_ ?_
          · repeat (refine List.forall_mem_cons.2 ⟨by first | exact IsV.stable _ | exact NewArr.stable _, ?_⟩)
            exact fun R hR => nomatch hR
          · skip
            refine StepsS.cons ?_ fun v0 => ⟨_, _, by simp only [Act.put, List.setIfInBounds_toArray, List.set_cons_succ, List.set_cons_zero]; first | done | rfl, by simp only [List.nil_append]; first | done | rfl, ?_⟩
            · intro w1 hE hd
              clear hd
              have q0 := hE.drew.at a0
              have q1 := hE.drew.at a1
              go_wp2
              exact ⟨_, rfl, Grow.refl _, rfl⟩
            refine StepsS.cons ?_ fun v1 => ⟨_, _, by simp only [Act.put, List.setIfInBounds_toArray, List.set_cons_succ, List.set_cons_zero]; first | done | rfl, by simp only [List.nil_append, List.cons_append]; first | done | rfl, ?_⟩
            · intro w1 hE hd
              clear hd
              go_wp2
              exact ⟨_, rfl, Grow.refl _, rfl⟩
            refine StepsS.cons ?_ fun v2 => ⟨_, _, by simp only [Act.put, List.setIfInBounds_toArray, List.set_cons_succ, List.set_cons_zero]; first | done | rfl, by simp only [List.nil_append, List.cons_append]; first | done | rfl, ?_⟩
            · intro w1 hE hd
              obtain rfl := IsV.eq (dep_at hd 0 rfl rfl rfl)
              clear hd
              go_wp2
              exact ⟨_, rfl, Grow.refl _, rfl⟩
            refine StepsS.cons ?_ fun v3 => ⟨_, _, by simp only [Act.put, List.setIfInBounds_toArray, List.set_cons_succ, List.set_cons_zero]; first | done | rfl, by simp only [List.nil_append, List.cons_append]; first | done | rfl, ?_⟩
            · intro w1 hE hd
              clear hd
              go_wp2
              exact ⟨_, rfl, Grow.refl _, rfl⟩
            refine StepsS.cons ?_ fun v4 => ⟨_, _, by simp only [Act.put, List.setIfInBounds_toArray, List.set_cons_succ, List.set_cons_zero]; first | done | rfl, by simp only [List.nil_append, List.cons_append]; first | done | rfl, ?_⟩
            · intro w1 hE hd
              obtain rfl := IsV.eq (dep_at hd 0 rfl rfl rfl)
              clear hd
              have q0 := hE.drew.at i0
              go_wp2
              exact ⟨_, rfl, Grow.refl _, rfl⟩
            refine StepsS.cons ?_ fun v5 => ⟨_, _, by simp only [Act.put, List.setIfInBounds_toArray, List.set_cons_succ, List.set_cons_zero]; first | done | rfl, by simp only [List.nil_append, List.cons_append]; first | done | rfl, ?_⟩
            · intro w1 hE hd
              clear hd
              go_wp2
              exact ⟨_, rfl, Grow.refl _, rfl⟩
            refine StepsS.cons ?_ fun v6 => ⟨_, _, by simp only [Act.put, List.setIfInBounds_toArray, List.set_cons_succ, List.set_cons_zero]; first | done | rfl, by simp only [List.nil_append, List.cons_append]; first | done | rfl, ?_⟩
            · intro w1 hE hd
              obtain rfl := IsV.eq (dep_at hd 0 rfl rfl rfl)
              clear hd
              have q0 := hE.drew.at i1
              go_wp2
              exact ⟨_, rfl, Grow.refl _, rfl⟩
            refine StepsS.cons ?_ fun v7 => ⟨_, _, by simp only [Act.put, List.setIfInBounds_toArray, List.set_cons_succ, List.set_cons_zero]; first | done | rfl, by simp only [List.nil_append, List.cons_append]; first | done | rfl, ?_⟩
            · intro w1 hE hd
              clear hd
              go_wp2
              exact ⟨_, rfl, Grow.refl _, rfl⟩
            refine StepsS.cons ?_ fun v8 => ⟨_, _, by simp only [Act.put, List.setIfInBounds_toArray, List.set_cons_succ, List.set_cons_zero]; first | done | rfl, by simp only [List.nil_append, List.cons_append]; first | done | rfl, ?_⟩
            · intro w1 hE hd
              obtain rfl := IsV.eq (dep_at hd 0 rfl rfl rfl)
              clear hd
              go_wp2
              exact ⟨_, rfl, Grow.refl _, rfl⟩
            refine StepsS.cons ?_ fun v9 => ⟨_, _, by simp only [Act.put, List.setIfInBounds_toArray, List.set_cons_succ, List.set_cons_zero]; first | done | rfl, by simp only [List.nil_append, List.cons_append]; first | done | rfl, ?_⟩
            · intro w1 hE hd
              obtain rfl := IsV.eq (dep_at hd 0 rfl rfl rfl)
              obtain rfl := IsV.eq (dep_at hd 1 rfl rfl rfl)
              clear hd
              go_wp2
              exact ⟨_, rfl, Grow.refl _, rfl⟩
            refine StepsS.cons ?_ fun v10 => ⟨_, _, by simp only [Act.put, List.setIfInBounds_toArray, List.set_cons_succ, List.set_cons_zero]; first | done | rfl, by simp only [List.nil_append, List.cons_append]; first | done | rfl, ?_⟩
            · intro w1 hE hd
              obtain rfl := IsV.eq (dep_at hd 0 rfl rfl rfl)
              clear hd
              have q0 := hE.drew.at hz1'
              go_wp2
              exact ⟨_, rfl, Grow.refl _, rfl⟩
            refine StepsS.cons ?_ fun v11 => ⟨_, _, by simp only [Act.put, List.setIfInBounds_toArray, List.set_cons_succ, List.set_cons_zero]; first | done | rfl, by simp only [List.nil_append, List.cons_append]; first | done | rfl, ?_⟩
            · intro w1 hE hd
              obtain rfl := IsV.eq (dep_at hd 0 rfl rfl rfl)
              obtain rfl := IsV.eq (dep_at hd 1 rfl rfl rfl)
              obtain rfl := IsV.eq (dep_at hd 2 rfl rfl rfl)
              obtain rfl := IsV.eq (dep_at hd 3 rfl rfl rfl)
              clear hd
              go_wp2_with fail
              refine (refWith_off (some w.heap.size) _ _ _ m s _ _ (HX.out.grow hE.drew) (fun j hj => by cases hj; exact cell_lt (hE.drew.at a0)) HM.out hm4 hs3 (Off.old Bs.stays HZ.out (hgr.trans hE.drew) (fun j hj => by cases hj; exact Nat.le_refl _))).mono ?_
              rintro e w5 ⟨r, rfl, hr, hg5⟩
              go_wp2_with fail
              exact ⟨_, rfl, hg5, hr⟩
            trivial
          intro wR hwR
          refine FinS.cons ?_; rintro _ rfl; refine ⟨_, by simp only [Act.put, List.setIfInBounds_toArray, List.set_cons_succ, List.set_cons_zero]; first | done | rfl, ?_⟩
          refine FinS.cons ?_; rintro _ rfl; refine ⟨_, by simp only [Act.put, List.setIfInBounds_toArray, List.set_cons_succ, List.set_cons_zero]; first | done | rfl, ?_⟩
          refine FinS.cons ?_; rintro _ rfl; refine ⟨_, by simp only [Act.put, List.setIfInBounds_toArray, List.set_cons_succ, List.set_cons_zero]; first | done | rfl, ?_⟩
          refine FinS.cons ?_; rintro _ rfl; refine ⟨_, by simp only [Act.put, List.setIfInBounds_toArray, List.set_cons_succ, List.set_cons_zero]; first | done | rfl, ?_⟩
          refine FinS.cons ?_; rintro _ rfl; refine ⟨_, by simp only [Act.put, List.setIfInBounds_toArray, List.set_cons_succ, List.set_cons_zero]; first | done | rfl, ?_⟩
          refine FinS.cons ?_; rintro _ rfl; refine ⟨_, by simp only [Act.put, List.setIfInBounds_toArray, List.set_cons_succ, List.set_cons_zero]; first | done | rfl, ?_⟩
          refine FinS.cons ?_; rintro _ rfl; refine ⟨_, by simp only [Act.put, List.setIfInBounds_toArray, List.set_cons_succ, List.set_cons_zero]; first | done | rfl, ?_⟩
          refine FinS.cons ?_; rintro _ rfl; refine ⟨_, by simp only [Act.put, List.setIfInBounds_toArray, List.set_cons_succ, List.set_cons_zero]; first | done | rfl, ?_⟩
          refine FinS.cons ?_; rintro _ rfl; refine ⟨_, by simp only [Act.put, List.setIfInBounds_toArray, List.set_cons_succ, List.set_cons_zero]; first | done | rfl, ?_⟩
          refine FinS.cons ?_; rintro _ rfl; refine ⟨_, by simp only [Act.put, List.setIfInBounds_toArray, List.set_cons_succ, List.set_cons_zero]; first | done | rfl, ?_⟩
          refine FinS.cons ?_; rintro _ rfl; refine ⟨_, by simp only [Act.put, List.setIfInBounds_toArray, List.set_cons_succ, List.set_cons_zero]; first | done | rfl, ?_⟩
          refine FinS.cons fun v11 h11 => ⟨_, by simp only [Act.put, List.setIfInBounds_toArray, List.set_cons_succ, List.set_cons_zero]; first | done | rfl, ?_⟩
          show wpList _ _ _ _ _ _
          rw [← HS.out] at h11
          obtain ⟨x', y', rfl, hdv, hiv⟩ := h11
          obtain ⟨d1, d2, rfl⟩ := hdv.1.form
          obtain ⟨e1, e2, rfl, -⟩ := hiv.plain.form
          have hgR : Grow wr wR := hwR.drew
          have q0 := hgR.at a0
          have q1 := hgR.at a1
          have f0 := (hgR.frozen (a := ⟨w.heap.size, 0, none⟩) (cell_lt a0)).trans fA0
          have f1 := (hgR.frozen (a := ⟨w.heap.size, 1, none⟩) (cell_lt a0)).trans fA1
          have HN := w_mid HR.out ⟨_, _, rfl, hdv, hiv⟩ hgr hgR
          clear hdv hiv HR HX HM HZ
          generalize (writeTo a ((s : Int), cs) (m + 2)).ds.length = L1 at *
          generalize (writeTo a ((s : Int), cs) (m + 2)).is.length = L2 at *
          go_wp2
          go_roundw
          case rel => first | exact ⟨m + 2 + 1, _, _, by omega, by omega, by go_num, HN.1, HN.2.1, HN.2.2⟩ | ((repeat apply Exists.intro); exact ⟨⟨m + 2 + 1, _, _, by omega, by omega, by go_num, HN.1, HN.2.1, HN.2.2⟩, rfl⟩)
          case measure => simp [intOf]; omega
        · obtain rfl : k = 6 := by omega
          have HN := w_last HR.out HX.out hgr
          clear hmi hw4 HR HX
          go_wp2
          go_roundw
          case rel => first | exact ⟨7, _, _, by omega, by omega, rfl, HN.1, HN.2.1, HN.2.2⟩ | ((repeat apply Exists.intro); exact ⟨⟨7, _, _, by omega, by omega, rfl, HN.1, HN.2.1, HN.2.2⟩, rfl⟩)
          case measure => simp [intOf]
    · have hkm' : many6 n = k - 1 := by omega
      have Hw : Hid (writeL a ((s : Int), cs) n = writeTo a ((s : Int), cs) (k - 1)) := by rw [Hid, writeL, hkm']
      have hno : ¬ ((k : Int) ≤ n ∧ k ≤ 6) := fun h => hgo ((hmi k hk1).2 h)
      have HX2 : ArrX (some (w.heap.size + 1 + 1)) wr (.agg #[.slice x1 x2 x3, .slice y1 y2 y3]) (writeTo a ((s : Int), cs) (k - 1)) := Small.arr ⟨_, _, HR.out.2.2⟩ HX.out.plain (Hw4.out _).1 (Hw4.out _).2
      obtain ⟨hv, hgv, z0, z1⟩ := w_end HR.out HX2 hgr
      have hfin : Hid (_ ∧ _) := ⟨hv, hgv⟩
      clear hmi hw4 hv hgv HX2 HX HR hkm' hgo
      by_cases hkn : (k : Int) ≤ n
      · have hk6 : ¬ (k : Int) ≤ 6 := fun h => hno ⟨hkn, by omega⟩
        clear hno
        go_wp2
        refine bodyPost_ret (results_two Try.results63 _ _ (w.heap.size + 1 + 1) _ rfl Try.underlying26 rfl Try.sizeA z0 z1) rfl ?_
        exact ⟨_, rfl, by rw [Hw.out]; exact hfin.out.1, hfin.out.2⟩
      · clear hno
        go_wp2
        refine bodyPost_ret (results_two Try.results63 _ _ (w.heap.size + 1 + 1) _ rfl Try.underlying26 rfl Try.sizeA z0 z1) rfl ?_
        exact ⟨_, rfl, by rw [Hw.out]; exact hfin.out.1, hfin.out.2⟩

end Go.Proofs.Ytjggiameajndgac

/-
  What the reference's Gone returns: an array with a disk that has nothing. Nothing old turns.
-/
namespace Go.Proofs.Ytjggiameajndgac
open Go.RowKit

/-- Two cells that are slices: nothing of an array lies there. -/
def Two (R : Nat) (w : World) : Prop := ∃ a b c a' b' c' t, w.heap[R]? = some (.cells #[.slice a b c, .slice a' b' c'] t (0, 0))

theorem Two.cell {R : Nat} {w : World} (h : Two R w) {off : Nat} {u : Value} (hu : w.cell? ⟨R, off, none⟩ = some u) : off < 2 ∧ ∃ a b c, u = .slice a b c := by
  obtain ⟨a, b, c, a', b', c', t, h⟩ := h
  rw [cell_of_row w R off _ _ _ h] at hu
  match off, hu with
  | 0, hu => simp at hu; exact ⟨by omega, _, _, _, hu.symm⟩
  | 1, hu => simp at hu; exact ⟨by omega, _, _, _, hu.symm⟩
  | n + 2, hu => simp at hu

theorem Two.bytes {R : Nat} {w : World} (h : Two R w) {u : Value} {l : List Int} (hb : Bs w u l) : Off Bs (some R) w u l := fun w' hg => by
  obtain ⟨ao, cap, hv, h1, h2, h3, h4, h5⟩ := hb
  refine ⟨ao, cap, hv, h1, h2, h3, h4, fun hp => ?_⟩
  obtain ⟨b, off, e, hc⟩ := h5 hp
  refine ⟨b, off, e, fun i hi => hg.cell (hc i hi) (fun e => ?_)⟩
  simp only [Option.some.injEq] at e
  subst e
  obtain ⟨_, _, _, this⟩ := (h.cell (hc i hi)).2
  cases this

theorem Two.row {α : Type} {R : Nat} {Q : World → Value → α → Prop} {w : World} (h : Two R w) {v : Value} {xs : List α} (hs : Sl Q w v xs) (hl : 3 ≤ xs.length) : RowOff (some R) v xs.length := fun hp b hb e => by
  obtain ⟨ao, cap, rfl, h1, h2, h3, h4⟩ := hs
  obtain ⟨b', off, rfl, hc⟩ := h4 hp
  simp only [Value.ownBlock, Option.some.injEq] at hb e
  subst hb e
  obtain ⟨u, hu, _⟩ := hc 2 (xs[2]) (by simp [show 2 < xs.length by omega])
  have := (h.cell hu).1
  omega

theorem Two.bss {R : Nat} {w : World} (h : Two R w) {v : Value} {ls : List (List Int)} (hs : Bss w v ls) (hl : 3 ≤ ls.length) : BssX (some R) w v ls := ⟨Sl.lift (fun _ _ hb => h.bytes hb) hs (Grow.refl _), h.row hs hl⟩

/-- Intents of four cells each. -/
def Fours (a : ArrP) : Prop := ∀ p ∈ a.is, p.2.length = 4

theorem Two.arr {R : Nat} {w : World} (h : Two R w) {v : Value} {b : ArrP} (hv : ArrV w v b) (hw : Whole b) (hi : Fours b) : ArrX (some R) w v b := by
  obtain ⟨dv, iv, e, h1, h2⟩ := hv
  refine ⟨dv, iv, e, ⟨?_, h.row h1 (by have := hw.1; omega)⟩, ?_, ?_⟩
  · obtain ⟨ao, cap, hv, k1, k2, k3, k4⟩ := h1
    refine ⟨ao, cap, hv, k1, k2, k3, fun hp => ?_⟩
    obtain ⟨b', off, e, hc⟩ := k4 hp
    refine ⟨b', off, e, fun i x hx => ?_⟩
    obtain ⟨u, hu, hr⟩ := hc i x hx
    exact ⟨u, hu, h.bss hr (by rw [hw.2 x (List.mem_of_getElem? hx)]; omega)⟩
  · obtain ⟨ao, cap, hv, k1, k2, k3, k4⟩ := h2
    refine ⟨ao, cap, hv, k1, k2, k3, fun hp => ?_⟩
    obtain ⟨b', off, e, hc⟩ := k4 hp
    refine ⟨b', off, e, fun i p hx => ?_⟩
    obtain ⟨h6, cv, h7, h8⟩ := hc i p hx
    exact ⟨h6, cv, h7, h.bss h8 (by rw [hi p (List.mem_of_getElem? hx)]; omega)⟩
  · intro hp b' hb e9
    obtain ⟨ao, cap, rfl, k1, k2, k3, k4⟩ := h2
    obtain ⟨b'', off, rfl, hc⟩ := k4 hp
    simp only [Value.ownBlock, Option.some.injEq] at hb
    injection e9 with e9
    subst hb e9
    obtain ⟨_, _, _, this⟩ := (h.cell (hc 0 (b.is[0]) (by simp [hp])).1).2
    cases this

/-- An array, stored into such two cells, or while they are written: it is what it was. -/
theorem Two.store {R : Nat} {w : World} (h : Two R w) {v : Value} {b : ArrP} (hv : ArrV w v b) (hw : Whole b) (hi : Fours b) (x y : Value) : ArrV ((w.setCell ⟨R, 0, none⟩ x).setCell ⟨R, 1, none⟩ y) v b :=
  (((h.arr hv hw hi).step (by_set w R 0 x)).step (by_set _ R 1 y)).plain

/-- What an array's value looks like. -/
theorem ArrV.form {w : World} {v : Value} {a : ArrP} (h : ArrV w v a) : ∃ a1 n1 c1 a2 n2 c2, v = .agg #[.slice a1 n1 c1, .slice a2 n2 c2] := by
  obtain ⟨dv, iv, rfl, h1, h2⟩ := h
  obtain ⟨p1, p2, rfl⟩ := h1.form
  obtain ⟨p3, p4, rfl, -⟩ := h2.form
  exact ⟨_, _, _, _, _, _, rfl⟩

/-- A disk that has nothing: its first k cells. -/
def goneTo (a : ArrP) (d : Nat) : Nat → ArrP
  | 0 => a
  | k + 1 => withL (goneTo a d k) d k []

def goneE (d : Int) : Int := if d < 0 ∨ 3 < d then 6 else 0
def goneL (a : ArrP) (d : Int) : ArrP := if d < 0 ∨ 3 < d then a else goneTo a d.toNat 3

theorem goneTo_whole {a : ArrP} (ha : Whole a) {d : Nat} (hd : d < 4) : ∀ k, Whole (goneTo a d k)
  | 0 => ha
  | k + 1 => withL_whole (goneTo_whole ha hd k) hd _

theorem goneTo_fours {a : ArrP} (ha : Fours a) (d : Nat) : ∀ k, Fours (goneTo a d k)
  | 0 => ha
  | k + 1 => by
    have := goneTo_fours ha d k
    exact this

/-- What a call keeps that has an array in a box A and a result in R. -/
def BInv (w : World) (A R : Nat) (x y : Value) (b : ArrP) (wr : World) : Prop :=
  Hid (wr.heap[A]? = some (.cells #[x, y] 26 (0, 0)) ∧ wr.heap[R]? = some (.cells #[.slice none 0 0, .slice none 0 0] 26 (0, 0))) ∧ Hid (ArrV wr (.agg #[x, y]) b) ∧ Grow w wr

theorem ArrV.form2 {w : World} {x y : Value} {a : ArrP} (h : ArrV w (.agg #[x, y]) a) : (∃ a1 n1 c1, x = .slice a1 n1 c1) ∧ ∃ a2 n2 c2, y = .slice a2 n2 c2 := by
  obtain ⟨a1, n1, c1, a2, n2, c2, e⟩ := h.form
  simp only [Value.agg.injEq] at e
  have e := congrArg Array.toList e
  simp at e
  exact ⟨⟨_, _, _, e.1⟩, ⟨_, _, _, e.2⟩⟩

/-- The box gets another array. -/
theorem BInv.put {w wr w5 : World} {A R : Nat} {x y x' y' : Value} {b b' : ArrP} (h : BInv w A R x y b wr) (hg : Grow wr w5) (hv : ArrV w5 (.agg #[x', y']) b') (hw : Whole b') (hi : Fours b') (hA : w.heap.size ≤ A) (hAR : R ≠ A) :
    BInv w A R x' y' b' ((w5.setCell ⟨A, 0, none⟩ x').setCell ⟨A, 1, none⟩ y') := by
  obtain ⟨⟨h1, h2⟩, h3, h4⟩ := h
  obtain ⟨⟨a1, n1, c1, rfl⟩, a2, n2, c2, rfl⟩ := h3.out.form2
  refine ⟨⟨two_set1 (two_set0 (hg.block' h1)), set_other (set_other (hg.block' h2) hAR) hAR⟩, ?_, ((h4.trans hg).set hA _).set hA _⟩
  exact Two.store ⟨_, _, _, _, _, _, _, hg.block' h1⟩ hv hw hi x' y'

/-- The result is the box's array. -/
theorem BInv.done {w wr : World} {A R : Nat} {x y : Value} {b : ArrP} (h : BInv w A R x y b wr) (hw : Whole b) (hi : Fours b) (hR : w.heap.size ≤ R) :
    ArrV ((wr.setCell ⟨R, 0, none⟩ x).setCell ⟨R, 1, none⟩ y) (.agg #[x, y]) b ∧ Grow w ((wr.setCell ⟨R, 0, none⟩ x).setCell ⟨R, 1, none⟩ y) ∧
      ((wr.setCell ⟨R, 0, none⟩ x).setCell ⟨R, 1, none⟩ y).cell? ⟨R, 0, none⟩ = some x ∧ ((wr.setCell ⟨R, 0, none⟩ x).setCell ⟨R, 1, none⟩ y).cell? ⟨R, 1, none⟩ = some y := by
  obtain ⟨⟨h1, h2⟩, h3, h4⟩ := h
  have hb := two_set1 (z := y) (two_set0 (z := x) h2)
  exact ⟨Two.store ⟨_, _, _, _, _, _, _, h2⟩ h3.out hw hi x y, (h4.set hR _).set hR _, two_at0 hb, two_at1 hb⟩

set_option maxRecDepth 20000 in
set_option maxHeartbeats 6400000 in
theorem refGone_any (v : Value) (a : ArrP) (d : Int) (w : World) (h : ArrV w v a) (ha : Whole a) (hi : Fours a) :
    Calls Try.prog 30 #[v, .int .i64 d] w fun e w' => ∃ r, e = .returned (.tuple #[r, .int .i64 (goneE d)]) ∧ ArrV w' r (goneL a d) ∧ Grow w w' := by
  obtain ⟨a1, n1, c1, a2, n2, c2, rfl⟩ := h.form
  obtain ⟨W, hW⟩ : ∃ W, W = (w.alloc (.cells #[.slice a1 n1 c1, .slice a2 n2 c2] 26)).alloc (.cells #[.slice none 0 0, .slice none 0 0] 26) := ⟨_, rfl⟩
  have hgW : Grow w W := by rw [hW]; exact (Grow.alloc _ _).trans (Grow.alloc _ _)
  have hI : BInv w w.heap.size (w.heap.size + 1) (.slice a1 n1 c1) (.slice a2 n2 c2) a W := ⟨by rw [hW]; exact ⟨(heap_alloc_old _ _ (by simp)).trans (heap_alloc_new w _), heap_alloc2_new w _ _⟩, h.grow hgW, hgW⟩
  by_cases hd : d < 0 ∨ 3 < d
  · have HE : Hid (goneE d = 6 ∧ goneL a d = a) := ⟨if_pos hd, if_pos hd⟩
    clear hI
    have hgF : Grow w ((w.alloc (.cells #[.slice a1 n1 c1, .slice a2 n2 c2] 26)).alloc (.cells #[.slice a1 n1 c1, .slice a2 n2 c2] 26)) := (Grow.alloc _ _).trans (Grow.alloc _ _)
    have hfin : Hid (_ ∧ _) := ⟨h.grow hgF, hgF⟩
    clear h hgF hgW hW
    have hd' : d < 0 ∨ (0 ≤ d ∧ 3 < d) := by omega
    clear hd
    rcases hd' with hd | ⟨hd0, hd⟩
    all_goals
      go_enter Try.func30, Try.ntmps30
      go_wp2
      refine bodyPost_ret (results_two1 Try.results30 _ _ (w.heap.size + 1) _ rfl Try.underlying26 rfl Try.sizeA (x := .slice a1 n1 c1) (y := .slice a2 n2 c2) (by simp) (by simp)) rfl ?_
      exact ⟨_, ret_bs2 HE.out.1.symm, by rw [HE.out.2]; exact hfin.out.1, hfin.out.2⟩
  · obtain ⟨d, rfl⟩ := Int.eq_ofNat_of_zero_le (show 0 ≤ d by omega)
    have hd4 : d < 4 := by omega
    have HE : Hid (goneE (d : Int) = 0 ∧ goneL a (d : Int) = goneTo a d 3) := ⟨if_neg hd, (if_neg hd).trans (by simp)⟩
    have hw3 := fun k => goneTo_whole ha hd4 k
    have hf3 := fun k => goneTo_fours hi d k
    have hd' : ¬ 3 < (d : Int) := by omega
    clear hd h
    go_enter Try.func30, Try.ntmps30
    go_wp2
    rw [← hW]
    clear hW
    go_loopw [14] (fun q wr => ∃ (k : Nat) (x y : Value), k ≤ 3 ∧ q = .int .i64 k ∧ BInv w w.heap.size (w.heap.size + 1) x y (goneTo a d k) wr) (fun q _ => 3 - (intOf q).toNat)
    case atStart => exact ⟨0, _, _, by omega, rfl, hI⟩
    case round =>
      obtain ⟨k, x, y, hk, rfl, hB⟩ := hrel
      have HB : Hid (BInv w w.heap.size (w.heap.size + 1) x y (goneTo a d k) wr) := hB
      obtain ⟨⟨h1, h2⟩, HV, hgr⟩ := hB
      obtain ⟨⟨x1, x2, x3, rfl⟩, y1, y2, y3, rfl⟩ := HV.out.form2
      have b0 := two_at0 h1
      have b1 := two_at1 h1
      have r0 := two_at0 h2
      have r1 := two_at1 h2
      have fA0 : wr.frozen? ⟨w.heap.size, 0, none⟩ = false := frozen_of_row wr _ 0 _ _ h1
      have fA1 : wr.frozen? ⟨w.heap.size, 1, none⟩ = false := frozen_of_row wr _ 1 _ _ h1
      have f0 : wr.frozen? ⟨w.heap.size + 1, 0, none⟩ = false := frozen_of_row wr _ 0 _ _ h2
      have f1 : wr.frozen? ⟨w.heap.size + 1, 1, none⟩ = false := frozen_of_row wr _ 1 _ _ h2
      clear h1 h2
      by_cases hlt : k < 3
      · go_wp2_with fail
        refine (refWith_any _ _ (goneTo a d k) d k [] _ HV.out (hw3 k) hd4 hlt (Bs.nil _)).mono ?_
        rintro e w5 ⟨r, rfl, hr, hg5⟩
        obtain ⟨p1, p2, p3, q1, q2, q3, rfl⟩ := hr.form
        have HN := BInv.put HB.out hg5 hr (hw3 (k + 1)) (hf3 (k + 1)) (Nat.le_refl _) (by omega)
        have b05 := hg5.at b0
        have b15 := hg5.at b1
        have f05 := (hg5.frozen (a := ⟨w.heap.size, 0, none⟩) (cell_lt b0)).trans fA0
        have f15 := (hg5.frozen (a := ⟨w.heap.size, 1, none⟩) (cell_lt b0)).trans fA1
        have HN' : Hid (BInv w w.heap.size (w.heap.size + 1) _ _ (goneTo a d (k + 1)) _) := HN
        clear HN HB HV hr hw3 hf3
        go_wp2
        go_roundw
        case rel => first | exact ⟨k + 1, _, _, by omega, by go_num, HN'.out⟩ | ((repeat apply Exists.intro); exact ⟨⟨k + 1, _, _, by omega, by go_num, HN'.out⟩, rfl⟩)
        case measure => simp [intOf]; omega
      · obtain rfl : k = 3 := by omega
        obtain ⟨hv, hg, z0, z1⟩ := HB.out.done (hw3 3) (hf3 3) (by omega)
        have hfin : Hid (_ ∧ _) := ⟨hv, hg⟩
        clear hv hg HB HV hw3 hf3
        go_wp2
        refine bodyPost_ret (results_two1 Try.results30 _ _ (w.heap.size + 1) _ rfl Try.underlying26 rfl Try.sizeA z0 z1) rfl ?_
        exact ⟨_, ret_bs2 HE.out.1.symm, by rw [HE.out.2]; exact hfin.out.1, hfin.out.2⟩

end Go.Proofs.Ytjggiameajndgac

/-
  Stores into rows of the call's own; rows beside one another; a block that holds an intent.
-/
namespace Go.Proofs.Ytjggiameajndgac
open Go.RowKit

section
variable {α : Type} {R : World → Value → α → Prop} {F G : Nat → Prop} {w w0 w1 : World} {u v : Value} {x : α} {xs : List α} {B : Nat} {e : TypeId}

theorem GrownIn.mono (h : GrownIn w w1 F) (hG : ∀ k, F k → G k) : GrownIn w w1 G := ⟨h.os, h.tape, h.output, h.size, fun k hk hn => h.block k hk (fun hf => hn (hG k hf))⟩
theorem grownIn_set (w : World) (g k : Nat) (u : Value) (hG : G g) : GrownIn w (w.setCell ⟨g, k, none⟩ u) G := GrownIn.of_by (grown_set w g k u) (fun j hj => by cases hj; exact hG)

theorem RowingF.plain (h : RowingF F R B e w v xs) : Rowing R B e w v xs := by
  obtain ⟨us, h1, h2, h3⟩ := h
  exact ⟨us, h1, h2, fun i u x hu hx w' hw' => h3 i u x hu hx w' (GrownIn.of_by hw' (fun k hk => .inr hk))⟩

theorem RowingF.kept (h : RowingF F R B e w v xs) (hg : GrownIn w w1 F) (hn : ∀ k, v.ownBlock = some k → ¬ F k) : RowingF F R B e w1 v xs := by
  obtain ⟨us, h1, h2, h3⟩ := h
  exact ⟨us, own_kept h1 hg hn, h2, fun i u x hu hx => (h3 i u x hu hx).step (hg.mono (fun k hk => .inl hk))⟩

theorem RowingF.stored {g n cap : Nat} (h : RowingF F R B e w (.slice (some ⟨g, 0, none⟩) n cap) xs) (k : Nat) (hoff : OffG R (fun j => F j ∨ some g = some j) w u x) : RowingF F R B e (w.setCell ⟨g, k, none⟩ u) (.slice (some ⟨g, 0, none⟩) n cap) (xs.set k x) := by
  obtain ⟨rfl, -⟩ := h.plain.cap
  obtain ⟨us, h1, h2, h3⟩ := h
  have hg : GrownIn w (w.setCell ⟨g, k, none⟩ u) (fun j => F j ∨ some g = some j) := grownIn_set w g k u (.inr rfl)
  refine ⟨us.set k u, by rw [List.length_set]; exact (h1.stored k u).1, by simp [h2], fun i q y hq hy => ?_⟩
  by_cases hik : i = k
  · subst hik
    have hlt : i < us.length := by
      by_cases hlt : i < us.length
      · exact hlt
      · rw [List.getElem?_eq_none (by simp; omega)] at hq; cases hq
    rw [List.getElem?_set_self hlt] at hq
    rw [List.getElem?_set_self (by omega)] at hy
    cases hq
    cases hy
    exact hoff.step hg
  · rw [List.getElem?_set_ne (fun e => hik e.symm)] at hq hy
    exact (h3 i q y hq hy).step hg

end

/-- A block that holds an intent: nothing of rows of two cells lies there, nor bytes. -/
def Itn (R : Nat) (w : World) : Prop := ∃ n a b c t, w.heap[R]? = some (.cells #[.int .i64 n, .slice a b c] t (0, 0))

theorem Itn.cell {R : Nat} {w : World} (h : Itn R w) {off : Nat} {u : Value} (hu : w.cell? ⟨R, off, none⟩ = some u) : (off = 0 ∧ ∃ n, u = .int .i64 n) ∨ (off = 1 ∧ ∃ a b c, u = .slice a b c) := by
  obtain ⟨n, a, b, c, t, h⟩ := h
  rw [cell_of_row w R off _ _ _ h] at hu
  match off, hu with
  | 0, hu => simp at hu; exact .inl ⟨rfl, _, hu.symm⟩
  | 1, hu => simp at hu; exact .inr ⟨rfl, _, _, _, hu.symm⟩
  | n + 2, hu => simp at hu

theorem Itn.bytes {R : Nat} {w : World} (h : Itn R w) {u : Value} {l : List Int} (hb : Bs w u l) : Off Bs (some R) w u l := fun w' hg => by
  obtain ⟨ao, cap, hv, h1, h2, h3, h4, h5⟩ := hb
  refine ⟨ao, cap, hv, h1, h2, h3, h4, fun hp => ?_⟩
  obtain ⟨b, off, e, hc⟩ := h5 hp
  refine ⟨b, off, e, fun i hi => hg.cell (hc i hi) (fun e => ?_)⟩
  simp only [Option.some.injEq] at e
  subst e
  rcases h.cell (hc i hi) with ⟨_, n, this⟩ | ⟨_, _, _, _, this⟩
  · cases this
  · cases this

theorem Itn.bss {R : Nat} {w : World} (h : Itn R w) {v : Value} {ls : List (List Int)} (hs : Bss w v ls) (hl : 2 ≤ ls.length) : BssX (some R) w v ls := ⟨Sl.lift (fun _ _ hb => h.bytes hb) hs (Grow.refl _), fun hp b hb e => by
  obtain ⟨ao, cap, rfl, h1, h2, h3, h4⟩ := hs
  obtain ⟨b', off, rfl, hc⟩ := h4 hp
  simp only [Value.ownBlock, Option.some.injEq] at hb e
  subst hb e
  obtain ⟨u, hu, hr⟩ := hc 0 (ls[0]) (by simp [show 0 < ls.length by omega])
  obtain ⟨u', hu', _⟩ := hc 1 (ls[1]) (by simp [show 1 < ls.length by omega])
  obtain ⟨x1, x2, x3, rfl⟩ := hr.form
  rcases h.cell hu with ⟨_, n, this⟩ | ⟨h0, _⟩
  · cases this
  · rcases h.cell hu' with ⟨h1, _⟩ | ⟨h1, _⟩ <;> omega⟩

end Go.Proofs.Ytjggiameajndgac

/-
  A row of numbers of the call's own, whose whole block holds numbers: nothing of an array lies there. Append of one number.
-/
namespace Go.Proofs.Ytjggiameajndgac
open Go.RowKit

/-- A block of numbers. -/
def Nums (g : Nat) (w : World) : Prop := ∃ cs t mk, w.heap[g]? = some (.cells cs t mk) ∧ ∀ u ∈ cs.toList, ∃ n, u = Value.int .i64 n

theorem Nums.cell {g : Nat} {w : World} (h : Nums g w) {off : Nat} {u : Value} (hu : w.cell? ⟨g, off, none⟩ = some u) : ∃ n, u = .int .i64 n := by
  obtain ⟨cs, t, mk, h1, h2⟩ := h
  rw [cell_of_row w g off _ _ _ h1] at hu
  exact h2 u (by simpa using Array.mem_of_getElem? hu)

theorem Nums.bytes {g : Nat} {w : World} (h : Nums g w) {u : Value} {l : List Int} (hb : Bs w u l) : Off Bs (some g) w u l := fun w' hg => by
  obtain ⟨ao, cap, hv, h1, h2, h3, h4, h5⟩ := hb
  refine ⟨ao, cap, hv, h1, h2, h3, h4, fun hp => ?_⟩
  obtain ⟨b, off, e, hc⟩ := h5 hp
  refine ⟨b, off, e, fun i hi => hg.cell (hc i hi) (fun e => ?_)⟩
  simp only [Option.some.injEq] at e
  subst e
  obtain ⟨n, this⟩ := h.cell (hc i hi)
  cases this

theorem Nums.row {α : Type} {g : Nat} {Q : World → Value → α → Prop} {w : World} (h : Nums g w) {v : Value} {xs : List α} (hs : Sl Q w v xs) (hQ : ∀ u x, Q w u x → ∃ a b c, u = .slice a b c) : RowOff (some g) v xs.length := fun hp b hb e => by
  obtain ⟨ao, cap, rfl, h1, h2, h3, h4⟩ := hs
  obtain ⟨b', off, rfl, hc⟩ := h4 hp
  simp only [Value.ownBlock, Option.some.injEq] at hb e
  subst hb e
  obtain ⟨u, hu, hr⟩ := hc 0 (xs[0]) (by simp [show 0 < xs.length by omega])
  obtain ⟨n, rfl⟩ := h.cell hu
  obtain ⟨_, _, _, this⟩ := hQ _ _ hr
  cases this

theorem Nums.bss {g : Nat} {w : World} (h : Nums g w) {v : Value} {ls : List (List Int)} (hs : Bss w v ls) : BssX (some g) w v ls :=
  ⟨Sl.lift (fun _ _ hb => h.bytes hb) hs (Grow.refl _), h.row hs (fun _ _ hb => by obtain ⟨a, b, c, e⟩ := hb.form; exact ⟨a, b, c, e⟩)⟩

theorem Nums.dks {g : Nat} {w : World} (h : Nums g w) {v : Value} {ds : List (List (List Int))} (hs : Dks w v ds) : DksX (some g) w v ds :=
  ⟨Sl.lift (fun _ _ hb => h.bss hb) hs (Grow.refl _), h.row hs (fun _ _ hb => by obtain ⟨a, c, e⟩ := Sl.form hb; exact ⟨a, _, c, e⟩)⟩

theorem Nums.arr {g : Nat} {w : World} (h : Nums g w) {v : Value} {b : ArrP} (hv : ArrV w v b) (hi : b.is = []) : ArrX (some g) w v b := by
  obtain ⟨dv, iv, e, h1, h2⟩ := hv
  refine ⟨dv, iv, e, h.dks h1, ?_⟩
  obtain ⟨ao, cap, hv, k1, k2, k3, k4⟩ := h2
  refine ⟨⟨ao, cap, hv, k1, k2, k3, fun hp => ?_⟩, fun hp => ?_⟩
  · rw [hi] at hp; simp at hp
  · rw [hi] at hp; simp at hp

/-- The slice v of the call's own holds the numbers ns, and its block numbers alone. -/
def NumRow (B : Nat) (e : TypeId) (w : World) (v : Value) (ns : List Int) : Prop := w.ownsRow B e 1 v ns.length (ns.map (Value.int .i64)) ∧ ∀ g, v.ownBlock = some g → Nums g w

theorem NumRow.nil (B : Nat) (e : TypeId) (w : World) : NumRow B e w (.slice none 0 0) [] := ⟨World.ownsRow_nil _ _ _ _, fun g h => by cases h⟩

theorem NumRow.kept {B : Nat} {e : TypeId} {w w' : World} {v : Value} {ns : List Int} {G : Nat → Prop} (h : NumRow B e w v ns) (hg : GrownIn w w' G) (hn : ∀ k, v.ownBlock = some k → ¬ G k) : NumRow B e w' v ns := by
  refine ⟨own_kept h.1 hg hn, fun g hv => ?_⟩
  obtain ⟨cs, t, mk, h1, h2⟩ := h.2 g hv
  refine ⟨cs, t, mk, (hg.block g ?_ (hn g hv)).trans h1, h2⟩
  by_cases hlt : g < w.heap.size
  · exact hlt
  · rw [Array.getElem?_eq_none (Nat.le_of_not_lt hlt)] at h1; cases h1

theorem NumRow.grow {B : Nat} {e : TypeId} {w w' : World} {v : Value} {ns : List Int} (h : NumRow B e w v ns) (hg : Grow w w') : NumRow B e w' v ns := h.kept (hg.inn (fun _ => False)) (fun _ _ h => h)

theorem NumRow.base {B : Nat} {e : TypeId} {w : World} {v : Value} {ns : List Int} (h : NumRow B e w v ns) : ∀ k, v.ownBlock = some k → B ≤ k ∧ k < w.heap.size := h.1.lt

theorem NumRow.done {B : Nat} {e : TypeId} {w : World} {v : Value} {ns : List Int} (h : NumRow B e w v ns) : Sl IntV w v ns :=
  Sl.of_own h.1 rfl (fun i u x hu hx => by
    rw [List.getElem?_map] at hu
    rw [hx] at hu
    simp at hu
    exact hu.symm)

theorem zeroNums (k : Nat) : ∀ u ∈ (Builtin.zeroCells (Value.cells (.int .i64 0)) k).toList, ∃ n, u = Value.int .i64 n := by
  intro u hu
  simp only [Builtin.zeroCells, Array.toList_map, List.mem_map] at hu
  obtain ⟨j, _, rfl⟩ := hu
  exact ⟨0, by simp [Value.cells, Nat.mod_one]⟩

/-- An append of one number. -/
theorem run_append_num {P : Program} (w : World) (t ty e : TypeId) (i : TypeInfo) (ht : P.underlying t = some (.slice e)) (hi : P.info? e = some i) (hz : i.zero = some (.int .i64 0)) (hsize : i.size = 1) (hby : i.bytes = 8)
    (B : Nat) (v : Value) (ns : List Int) (h : NumRow B e w v ns) (x : Int) (hbase : B ≤ w.heap.size) (hl : ns.length + 1 ≤ 1000000) (a : Addr) (hx : w.cell? a = some (.int .i64 x)) :
    ∃ g cap w', (Builtin.append_ #[t, t] ty #[v, .slice (some a) 1 1]).run P w = .ok (.slice (some ⟨g, 0, none⟩) (ns.length + 1) cap) w' ∧ NumRow B e w' (.slice (some ⟨g, 0, none⟩) (ns.length + 1) cap) (ns ++ [x]) ∧ w.grownBy w' v.ownBlock := by
  have hnews : ∀ (j : Nat) u, [Value.int .i64 x][j]? = some u → w.cell? (a.add j) = some u := by
    intro j u hj
    match j, hj with
    | 0, hj =>
      simp at hj
      subst hj
      simpa [Addr.add] using hx
  have h1 : ∀ u ∈ [Value.int .i64 x], u.oneCell' = true := by intro u hu; simp at hu; subst hu; rfl
  obtain ⟨g, cap, w', hr, h2, h3, h4, h5⟩ := run_append_lies (P := P) w t ty B e i (.int .i64 0) 1 8 ht hi hz hsize hby rfl (by decide) v ns.length _ h.1 a 1 1 [.int .i64 x] rfl hnews h1 (by decide) (by unfold maxLen; omega) (by omega) hbase _ rfl
  refine ⟨g, cap, w', hr, ⟨by simpa using h2, fun g' hg' => ?_⟩, h3⟩
  cases hg'
  have hmem : ∀ u ∈ ns.map (Value.int .i64), ∃ n, u = Value.int .i64 n := fun u hu => by
    obtain ⟨n, _, rfl⟩ := List.mem_map.1 hu
    exact ⟨n, rfl⟩
  have hone : ∀ u ∈ [Value.int .i64 x], ∃ n, u = Value.int .i64 n := fun u hu => ⟨x, by simpa using hu⟩
  rcases h.1.2 with ⟨hv, h0⟩ | ⟨g0, cap0, cur, hv, hb, hg0, hnc, hcm, hcs, htk⟩
  · subst hv
    have hrn := run_append_nil (P := P) w t ty e i (.int .i64 0) ht hi hz a 1 1 [.int .i64 x] (by rw [hsize]; rfl) hnews (by decide) (by decide) (by rw [hby]; decide)
    rw [hrn] at hr
    injection hr with e1 e2
    injection e1 with e3 _ _
    injection e3 with e3
    injection e3 with e3 _ _
    subst e2 e3
    refine ⟨_, _, _, heap_alloc_new w.drew _, fun u hu => ?_⟩
    rw [Array.toList_append, List.mem_append] at hu
    rcases hu with hu | hu
    · exact hone u hu
    · exact zeroNums _ u hu
  · subst hv
    by_cases hroom : ns.length + 1 ≤ cap0
    · have hrr := run_append_room (P := P) w t ty e i ht hi g0 ns.length cap0 cur hg0 a 1 1 [.int .i64 x] (by rw [hsize]; rfl) hnews h1 hroom (by rw [hsize]; simp; omega)
      rw [hrr] at hr
      injection hr with e1 e2
      injection e1 with e3 _ _
      injection e3 with e3
      injection e3 with e3 _ _
      subst e2 e3
      refine ⟨_, _, _, setRow_heap w g0 cur _ e _ hg0, fun u hu => ?_⟩
      obtain ⟨cs, t', mk, hg1, hall⟩ := h.2 g0 rfl
      rw [hg0] at hg1
      injection hg1 with hg1
      injection hg1 with hg1 _ _
      subst hg1
      simp only [List.mem_append] at hu
      rcases hu with (hu | hu) | hu
      · exact hall u (List.mem_of_mem_take hu)
      · exact hone u hu
      · exact hall u (List.mem_of_mem_drop hu)
    · have holds : ∀ (j : Nat) u, (ns.map (Value.int .i64))[j]? = some u → w.cell? ((⟨g0, 0, none⟩ : Addr).add j) = some u := h.1.cells (g := g0) rfl
      have hrg := run_append_grow (P := P) w t ty e i (.int .i64 0) ht hi hz ⟨g0, 0, none⟩ ns.length cap0 _ (by rw [hsize]; simp) holds a 1 1 [.int .i64 x] (by rw [hsize]; rfl) hnews (by omega) (by omega) (growslice_fits (by omega) (by rw [hby]; omega))
      rw [hrg] at hr
      injection hr with e1 e2
      injection e1 with e3 _ _
      injection e3 with e3
      injection e3 with e3 _ _
      subst e2 e3
      refine ⟨_, _, _, heap_alloc_new w.drew _, fun u hu => ?_⟩
      rw [Array.toList_append, Array.toList_append, List.mem_append, List.mem_append] at hu
      rcases hu with (hu | hu) | hu
      · exact hmem u hu
      · exact hone u hu
      · exact zeroNums _ u hu

/-- The same, for the walk. -/
theorem wpList_push_num {P : Program} {w : World} {ops : Array Oper} {rest : List Oper} {o : Oper} {a : Act} {Q : Exit → Act → World → Prop} (hgd : o.guard = none) (s y : Operand) (t : TypeId)
    (ho : o.op = .call { callee := .builtin .append, args := #[s, y], argTypes := #[t, t] })
    (e : TypeId) (i : TypeInfo) (ht : P.underlying t = some (.slice e)) (hi : P.info? e = some i) (hz : i.zero = some (.int .i64 0)) (hsize : i.size = 1) (hby : i.bytes = 8)
    (B : Nat) {v : Value} {ns : List Int} (hs : a.eval s = v) (h : NumRow B e w v ns) (x : Int) (hB : B ≤ w.heap.size) (hl : ns.length + 1 ≤ 1000000)
    (H : Nat) (hH : w.heap.size = H) (hy : a.eval y = .slice (some ⟨H, 0, none⟩) 1 1)
    (hK : ∀ g cap w', NumRow B e w' (.slice (some ⟨g, 0, none⟩) (ns.length + 1) cap) (ns ++ [x]) → GrownIn w w' (fun k => v.ownBlock = some k) → wpList P ops Q rest (a.put o.dst (.slice (some ⟨g, 0, none⟩) (ns.length + 1) cap)) w') :
    wpList P ops Q (o :: rest) a (w.alloc (.cells #[.int .i64 x] e)) := by
  subst hH
  have hgA : Grow w (w.alloc (.cells #[.int .i64 x] e)) := Grow.alloc _ _
  refine wpList_plain hgd fun _ hK' => ?_
  obtain ⟨g, cap, w', hr, h2, h3⟩ := run_append_num (P := P) (w.alloc (.cells #[.int .i64 x] e)) t o.type e i ht hi hz hsize hby B v ns (h.grow hgA) x (by simp; omega) hl ⟨w.heap.size, 0, none⟩ (row_at (heap_alloc_new w _) 0 rfl)
  unfold Oper.wp execOp
  simp only [ho, resolve, invoke, builtin, Sem.run_bind, Sem.run_pure, Result.andThen_ok, List.map_toArray, List.map_cons, List.map_nil, hs, hy, hr]
  exact hK' _ _ (hK g cap w' h2 ((hgA.inn _).trans (GrownIn.of_by h3 (fun k hk => hk))))

end Go.Proofs.Ytjggiameajndgac
