import Derived.Deep.RegionLaw
import Derived.Test.YtjggiameajndgabJoin6
/-
  What the reference's with returns: an array with one cell another one. Nothing old turns.
-/
namespace Go.Proofs.Ytjggiameajndgab
open Go.RowKit

theorem Try.infoD : (Try.prog.info? 22).map (fun i => (i.zero, i.size, i.bytes)) = some (some (.slice none 0 0), 1, 24) := by kernel_rfl

theorem Try.sizeA : (Try.prog.info? 39).map (·.size) = some 2 := by kernel_rfl

/-- With a cell that is another one. -/
def withL (a : ArrP) (d s : Nat) (l : List Int) : ArrP := { a with ds := a.ds.set d ((a.ds.getD d []).set s l) }

/-- A row keeps what it holds where another block is written. -/
theorem own_set {w : World} {B : Nat} {e : TypeId} {v : Value} {n : Nat} {us : List Value} (h : w.ownsRow B e 1 v n us) {p : Addr} (hp : v.ownBlock ≠ some p.block) (u : Value) : (w.setCell p u).ownsRow B e 1 v n us :=
  h.kept (row := some p.block) ⟨rfl, rfl, rfl, by simp, fun k _ hk => Below.heap_setCell w p u k (fun e => hk (by rw [e]))⟩ (.inr hp)

theorem cell_set_ne {w : World} {p a : Addr} {v : Value} (h : p.block ≠ a.block ∨ p.off ≠ a.off) : (w.setCell p v).cell? a = w.cell? a :=
  World.cell?_setCell_other w p a v (fun e => by rw [e] at h; simp at h)

/-- What is there behind the two writes. -/
theorem with_facts {A g1 g2 d s B1 : Nat} {c1 c3 : Nat} {us us2 : List Value} {W3 w4 : World} {e1 e2 : TypeId} {iv bv : Value}
    (hown3 : W3.ownsRow B1 e1 1 (.slice (some ⟨g1, 0, none⟩) 4 c1) 4 us) (hown4 : w4.ownsRow W3.heap.size e2 1 (.slice (some ⟨g2, 0, none⟩) 3 c3) 3 us2) (hg4 : Grow W3 w4) (hle4 : W3.heap.size ≤ g2)
    (hd : d < 4) (hs : s < 3) (hA : A + 1 < W3.heap.size) (n1 : g1 ≠ A) (n2 : g1 ≠ A + 1)
    (k0 : W3.cell? ⟨A, 0, none⟩ = some (.slice (some ⟨g1, 0, none⟩) 4 c1)) (k1 : W3.cell? ⟨A, 1, none⟩ = some iv) (r0 : W3.cell? ⟨A + 1, 0, none⟩ = some (.slice none 0 0)) (r1 : W3.cell? ⟨A + 1, 1, none⟩ = some (.slice none 0 0)) (fr : ∀ j, W3.frozen? ⟨A + 1, j, none⟩ = false) :
    let w5 := w4.setCell ⟨g1, d, none⟩ (.slice (some ⟨g2, 0, none⟩) 3 c3)
    let w6 := w5.setCell ⟨g2, s, none⟩ bv
    w5.cell? ⟨A, 0, none⟩ = some (.slice (some ⟨g1, 0, none⟩) 4 c1) ∧ w5.cell? ⟨g1, d, none⟩ = some (.slice (some ⟨g2, 0, none⟩) 3 c3) ∧ (∃ x, w5.cell? ⟨g2, s, none⟩ = some x) ∧ w5.frozen? ⟨g2, s, none⟩ = false ∧
      w6.cell? ⟨A, 0, none⟩ = some (.slice (some ⟨g1, 0, none⟩) 4 c1) ∧ w6.cell? ⟨A, 1, none⟩ = some iv ∧ w6.cell? ⟨A + 1, 0, none⟩ = some (.slice none 0 0) ∧ w6.cell? ⟨A + 1, 1, none⟩ = some (.slice none 0 0) ∧ (∀ j, w6.frozen? ⟨A + 1, j, none⟩ = false) ∧
      w6.ownsRow B1 e1 1 (.slice (some ⟨g1, 0, none⟩) 4 c1) 4 (us.set d (.slice (some ⟨g2, 0, none⟩) 3 c3)) ∧ w6.ownsRow W3.heap.size e2 1 (.slice (some ⟨g2, 0, none⟩) 3 c3) 3 (us2.set s bv) := by
  intro w5 w6
  have hg1lt : g1 < W3.heap.size := (hown3.lt g1 rfl).2
  have n3 : g2 ≠ g1 := by omega
  have hw5 := (hown4.kept (w' := w5) (row := some g1) (hown3.stored d (.slice (some ⟨g2, 0, none⟩) 3 c3) |>.2 |> fun _ => ⟨rfl, rfl, rfl, by simp [w5], fun k _ hk => Below.heap_setCell w4 _ _ k (fun e => hk (by rw [e]))⟩) (.inr (by simp [Value.ownBlock]; exact n3)))
  have ho1 := (grow_own hown3 hg4).stored d (.slice (some ⟨g2, 0, none⟩) 3 c3)
  have ho2 := hw5.stored s bv
  have f5 : ∀ {p : Addr} {x : Value}, p.block ≠ g1 → W3.cell? p = some x → w5.cell? p = some x := fun hp hx => by
    show (w4.setCell _ _).cell? _ = _
    rw [cell_set_ne (.inl (fun e => hp e.symm))]; exact hg4.at hx
  have f6 : ∀ {p : Addr} {x : Value}, p.block ≠ g2 → w5.cell? p = some x → w6.cell? p = some x := fun hp hx => by
    show (w5.setCell _ _).cell? _ = _
    rw [cell_set_ne (.inl (fun e => hp e.symm))]; exact hx
  have a0 := f5 (p := ⟨A, 0, none⟩) (fun e => n1 e.symm) k0
  have a1 := f5 (p := ⟨A, 1, none⟩) (fun e => n1 e.symm) k1
  have b0 := f5 (p := ⟨A + 1, 0, none⟩) (fun e => n2 e.symm) r0
  have b1 := f5 (p := ⟨A + 1, 1, none⟩) (fun e => n2 e.symm) r1
  have hl2 : us2.length = 3 := by have := hown4.1; omega
  refine ⟨a0, ?_, ⟨us2[s]'(by omega), ?_⟩, hw5.frozenAt s, f6 (by show A ≠ g2; omega) a0, f6 (by show A ≠ g2; omega) a1, f6 (by show A + 1 ≠ g2; omega) b0, f6 (by show A + 1 ≠ g2; omega) b1, fun j => ?_, ?_, ho2.1⟩
  · have := ho1.1.cellAt d (by omega)
    rw [this]
    have hl1 : us.length = 4 := by have := hown3.1; omega
    simp [show d < us.length by omega]
  · rw [hw5.cellAt s (by omega)]
    simp [show s < us2.length by omega]
  · show (World.setCell _ _ _).frozen? _ = _
    rw [World.frozen?_setCell]
    show (World.setCell _ _ _).frozen? _ = _
    rw [World.frozen?_setCell, hg4.frozen (by show A + 1 < _; omega), fr j]
  · exact own_set ho1.1 (p := ⟨g2, s, none⟩) (by simp [Value.ownBlock]; exact fun e => n3 e.symm) bv

/-- The array that comes of it. -/
theorem with_done {g : Option Nat} {w w7 : World} {a : ArrP} {ni : Nat} {ai : Option Addr} {ci d s g1 g2 c1 c3 B1 B2 : Nat} {e1 e2 : TypeId} {us us2 : List Value} {bv : Value} {l : List Int} (ha : Whole a) (hd4 : d < 4) (hs3 : s < 3)
    (hit : ItsX g w (.slice ai ni ci) a.is) (hb : Off Bs g w bv l) (hg1 : g ≠ some g1) (hg2 : g ≠ some g2) (hG : Grow w w7) (hul : us.length = 4) (hul2 : us2.length = 3)
    (hus : ∀ (i : Nat) u x, us[i]? = some u → a.ds[i]? = some x → BssX g w u x) (hus2 : ∀ (i : Nat) u x, us2[i]? = some u → (a.ds.getD d [])[i]? = some x → Off Bs g w u x)
    (h1 : w7.ownsRow B1 e1 1 (.slice (some ⟨g1, 0, none⟩) 4 c1) 4 (us.set d (.slice (some ⟨g2, 0, none⟩) 3 c3))) (h2 : w7.ownsRow B2 e2 1 (.slice (some ⟨g2, 0, none⟩) 3 c3) 3 (us2.set s bv)) :
    ArrX g w7 (.agg #[.slice (some ⟨g1, 0, none⟩) 4 c1, .slice ai ni ci]) (withL a d s l) := by
  have hdl : d < a.ds.length := by have := ha.1; omega
  have h3 : (a.ds.getD d []).length = 3 := ha.2 _ (by simp [List.getD_eq_getElem?_getD, hdl])
  refine ⟨_, _, rfl, ⟨Sl.of_own h1 (by simp [withL, ha.1]) (fun i u x hu hx => ?_), fun _ b hb => by cases hb; exact hg1⟩, hit.step (hG.by g)⟩
  simp only [withL] at hx
  by_cases hid : i = d
  · subst hid
    simp [show i < us.length by omega] at hu
    rw [List.getElem?_set_self hdl] at hx
    injection hx with hx
    subst hu hx
    refine ⟨Sl.of_own h2 (by rw [List.length_set]; exact h3) (fun j u x hu hx => ?_), fun _ b hb => by cases hb; exact hg2⟩
    by_cases hjs : j = s
    · subst hjs
      simp [show j < us2.length by omega] at hu
      rw [List.getElem?_set_self (by omega)] at hx
      injection hx with hx
      subst hu hx
      exact hb.grow hG
    · rw [List.getElem?_set_ne (fun e => hjs e.symm)] at hu hx
      exact (hus2 j u x hu hx).grow hG
  · rw [List.getElem?_set_ne (fun e => hid e.symm)] at hu hx
    exact BssX.step (hus i u x hu hx) (hG.by g)

set_option maxRecDepth 20000 in
set_option maxHeartbeats 3200000 in
theorem refWith_off (g : Option Nat) (v bv : Value) (a : ArrP) (d s : Nat) (l : List Int) (w : World) (h : ArrX g w v a) (hgw : ∀ k, g = some k → k < w.heap.size) (ha : Whole a) (hd4 : d < 4) (hs3 : s < 3) (hb : Off Bs g w bv l) :
    Calls Try.prog 77 #[v, .int .i64 d, .int .i64 s, bv] w fun e w' => ∃ r, e = .returned r ∧ ArrX g w' r (withL a d s l) ∧ Grow w w' := by
  obtain ⟨i0, hi, hz0, hz1, hz2⟩ := info_parts Try.infoS
  obtain ⟨i1, hj, hy0, hy1, hy2⟩ := info_parts Try.infoD
  obtain ⟨dv, iv, rfl, hd, hit⟩ := h
  obtain ⟨hd, hdo⟩ := hd
  obtain ⟨ad, cd, rfl, hd1, hd2⟩ := hd.form'
  obtain ⟨ai, ci, rfl, hi1, hi2⟩ := hit.plain.form
  obtain ⟨ba, bn, bc, rfl⟩ := hb.here.form
  obtain ⟨us, hul, -, hcs, hus⟩ := Sl.values hd
  rw [ha.1] at hd hd1 hul ⊢
  clear hdo
  obtain ⟨b, off, u0, rfl, -, -⟩ := hd.elem (k := 0) (by have := ha.1; omega) []
  generalize hni : a.is.length = ni at *
  have hcs' := hcs _ rfl
  have hone : ∀ u ∈ us, u.oneCell' = true := by
    intro u hu
    obtain ⟨j, hj, rfl⟩ := List.mem_iff_getElem.1 hu
    obtain ⟨x1, x2, e1⟩ := (hus j us[j] (a.ds[j]'(by have := ha.1; omega)) (by simp [hj]) (by simp [show j < a.ds.length by have := ha.1; omega])).1.form
    rw [e1]
    rfl
  obtain ⟨W2, hW2⟩ : ∃ W2, W2 = (w.alloc (.cells #[.slice (some ⟨b, off, none⟩) 4 cd, .slice ai ni ci] 39)).alloc (.cells #[.slice none 0 0, .slice none 0 0] 39) := ⟨_, rfl⟩
  have hs2 : W2.heap.size = w.heap.size + 1 + 1 := by rw [hW2]; simp
  have hg2 : Grow w W2 := by rw [hW2]; exact (Grow.alloc _ _).trans (Grow.alloc _ _)
  have hA0 : W2.cell? ⟨w.heap.size, 0, none⟩ = some (.slice (some ⟨b, off, none⟩) 4 cd) := by rw [hW2]; simp
  have hA1 : W2.cell? ⟨w.heap.size, 1, none⟩ = some (.slice ai ni ci) := by rw [hW2]; simp
  have hR0 : W2.cell? ⟨w.heap.size + 1, 0, none⟩ = some (.slice none 0 0) := by rw [hW2]; simp
  have hR1 : W2.cell? ⟨w.heap.size + 1, 1, none⟩ = some (.slice none 0 0) := by rw [hW2]; simp
  have hF : ∀ (k j : Nat), k < 2 → W2.frozen? ⟨w.heap.size + k, j, none⟩ = false := by
    intro k j hk
    rw [hW2]
    match k, hk with
    | 0, _ => simp
    | 1, _ => simp
  have HE0 : Hid ((W2.alloc (.cells #[] 22)).heap[w.heap.size + 1 + 1]? = some (.cells #[] 22 (0, 0))) := by
    have := heap_alloc_new W2 (.cells #[] 22)
    rw [hs2] at this
    exact this
  have HN : Hid (∀ (j : Nat) u, us[j]? = some u → W2.cell? ((⟨b, off, none⟩ : Addr).add j) = some u) := fun j u hu => hg2.at (hcs' j u hu)
  have hgE : Grow W2 (W2.alloc (.cells #[] 22)) := Grow.alloc _ _
  have HW : Hid (W2.heap.size = w.heap.size + 1 + 1) := hs2
  have HA : Hid (W2.cell? ⟨w.heap.size, 0, none⟩ = some (.slice (some ⟨b, off, none⟩) 4 cd) ∧ W2.cell? ⟨w.heap.size, 1, none⟩ = some (.slice ai ni ci) ∧ W2.cell? ⟨w.heap.size + 1, 0, none⟩ = some (.slice none 0 0) ∧ W2.cell? ⟨w.heap.size + 1, 1, none⟩ = some (.slice none 0 0) ∧ ∀ (k j : Nat), k < 2 → W2.frozen? ⟨w.heap.size + k, j, none⟩ = false) := ⟨hA0, hA1, hR0, hR1, hF⟩
  clear hs2 hA0 hA1 hR0 hR1 hF hcs hcs'
  go_enter Try.func77, Try.ntmps77
  subst hW2
  go_wp2_with (first
    | (at_builtin; refine wpList_append_copy rfl (.tmp 9) (.tmp 11) 36 rfl 22 i1 (.slice none 0 0) 24 Try.underlying36 hj hy0 hy1 hy2 rfl (w.heap.size + 1 + 1) HE0.out _ hgE (Nat.le_of_eq HW.out) rfl ⟨b, off, none⟩ 4 cd us rfl hul HN.out hone (by decide) (by omega) (by omega) ?_; rintro g1 c1 w1 hown1 hg1 hle1 - - -; have hc0 := hg1.at HA.out.1; have hf0 := (hg1.frozen (a := ⟨w.heap.size, 0, none⟩) (by have := HW.out; show w.heap.size < _; omega)).trans (HA.out.2.2.2.2 0 0 (by omega))))
  have hne1 : g1 ≠ w.heap.size := by have := HW.out; omega
  have hne1' : g1 ≠ w.heap.size + 1 := by have := HW.out; omega
  have hgw1 := hg2.trans hg1
  obtain ⟨W3, hW3⟩ : ∃ W3, W3 = w1.setCell ⟨w.heap.size, 0, none⟩ (.slice (some ⟨g1, 0, none⟩) 4 c1) := ⟨_, rfl⟩
  have hg3 : Grow w W3 := by rw [hW3]; exact hgw1.set (Nat.le_refl _) _
  have hown3 := own_set hown1 (p := ⟨w.heap.size, 0, none⟩) (by simp [Value.ownBlock]; exact hne1) (.slice (some ⟨g1, 0, none⟩) 4 c1)
  have k0 : W3.cell? ⟨w.heap.size, 0, none⟩ = some (.slice (some ⟨g1, 0, none⟩) 4 c1) := by rw [hW3]; exact World.cell?_setCell_same _ _ _ hc0
  have k1 : W3.cell? ⟨w.heap.size, 1, none⟩ = some (.slice ai ni ci) := by rw [hW3, cell_set_ne (by simp)]; exact hg1.at HA.out.2.1
  have r0 : W3.cell? ⟨w.heap.size + 1, 0, none⟩ = some (.slice none 0 0) := by rw [hW3, cell_set_ne (by simp)]; exact hg1.at HA.out.2.2.1
  have r1 : W3.cell? ⟨w.heap.size + 1, 1, none⟩ = some (.slice none 0 0) := by rw [hW3, cell_set_ne (by simp)]; exact hg1.at HA.out.2.2.2.1
  have fr : ∀ j, W3.frozen? ⟨w.heap.size + 1, j, none⟩ = false := fun j => by rw [hW3, World.frozen?_setCell]; exact (hg1.frozen (by have := HW.out; show w.heap.size + 1 < _; omega)).trans (HA.out.2.2.2.2 1 j (by omega))
  have hsz3 : w.heap.size + 1 + 1 ≤ W3.heap.size := by rw [hW3]; have := HW.out; have := hg1.size; simp; omega
  rw [← hW3] at hown3 ⊢
  clear hW3 hc0 hf0 hg1 hgE HE0 HN HA hown1 hg2
  have hdl : d < a.ds.length := by have := ha.1; omega
  have hdu : d < us.length := by omega
  have hbd := hus d us[d] (a.ds.getD d []) (by simp [hdu]) (by simp [List.getD_eq_getElem?_getD, hdl])
  have h3 : (a.ds.getD d []).length = 3 := ha.2 _ (by simp [List.getD_eq_getElem?_getD, hdl])
  obtain ⟨hbd, -⟩ := hbd
  obtain ⟨a2, c2, e2⟩ := hbd.form
  have kd : W3.cell? ⟨g1, d, none⟩ = some us[d] := by rw [hown3.cellAt d (by omega)]; simp [hdu]
  have fd : W3.frozen? ⟨g1, d, none⟩ = false := hown3.frozenAt d
  rw [e2, h3] at kd
  rw [e2] at hbd
  obtain ⟨b', off', u0', rfl, -, -⟩ := hbd.elem (k := 0) (by omega) []
  obtain ⟨us2, hul2, -, hcs2, hus2⟩ := Sl.values hbd
  rw [h3] at hul2
  have hone2 : ∀ u ∈ us2, u.oneCell' = true := bs_oneCell (by omega) (fun i u x hu hx => (hus2 i u x hu hx).here)
  have HN2 : Hid (∀ (j : Nat) u, us2[j]? = some u → W3.cell? ((⟨b', off', none⟩ : Addr).add j) = some u) := fun j u hu => hg3.at (hcs2 _ rfl j u hu)
  clear hbd hcs2
  have hdi : (d : Int) < 4 := by omega
  have hsi : (s : Int) < 3 := by omega
  have k0' := (Grow.alloc W3 (.cells #[] 23)).at k0
  have kd' := (Grow.alloc W3 (.cells #[] 23)).at kd
  go_wp2_with fail
  go_region_law (refine step_append_copy rfl (.tmp 17) (.tmp 22) 22 rfl 23 i0 (.slice none 0 0) 24 Try.underlying22 hi hz0 hz1 hz2 rfl W3.heap.size (by first | exact heap_alloc_new W3 _) W3 (by first | exact Grow.alloc _ _ | exact (Grow.alloc _ _).drew1 | exact Grow.trans (Grow.drew1 (Grow.refl _)) (Grow.alloc _ _)) (Nat.le_refl _) (by simp [Act.eval]) ⟨b', off', none⟩ 3 c2 us2 (by simp [Act.eval]) hul2 HN2.out hone2 (by decide) (by omega) (by omega) ?_; rintro g2 c3 w4 hown4 hg4 hle4 - - -; have k04 := hg4.at k0; have kd4 := hg4.at kd; have fd4 := (hg4.frozen (a := ⟨g1, d, none⟩) (cell_lt kd)).trans fd)
  all_goals
    obtain ⟨p0, pd, ⟨x, ps⟩, fs, q0, q1, t0, t1, tf, ho1, ho2⟩ := with_facts (bv := .slice ba bn bc) hown3 hown4 hg4 hle4 hd4 hs3 (by omega) hne1 hne1' k0 k1 r0 r1 fr
    have tf0 := tf 0
    have tf1 := tf 1
    have Ho : Hid (_ ∧ _) := ⟨ho1, ho2⟩
    clear ho1 ho2 tf k0' kd' k04 kd4 fd4 kd fd k0 k1 r0 r1
    go_wp2
    refine bodyPost_ret (results_two Try.results77 _ _ (w.heap.size + 1) _ rfl Try.underlying39 rfl Try.sizeA (by rw [cell_set_ne (by simp)]; exact World.cell?_setCell_same _ _ _ t0) (World.cell?_setCell_same _ _ _ (by rw [cell_set_ne (by simp)]; exact t1))) rfl ?_
    refine ⟨_, rfl, with_done ha hd4 hs3 hit hb (fun e => by have := hgw _ e; have := HW.out; omega) (fun e => by have := hgw _ e; omega) ?_ hul hul2 hus hus2 (own_set (own_set Ho.out.1 (p := ⟨w.heap.size + 1, 0, none⟩) (by simp [Value.ownBlock]; exact hne1') _) (p := ⟨w.heap.size + 1, 1, none⟩) (by simp [Value.ownBlock]; exact hne1') _) (own_set (own_set Ho.out.2 (p := ⟨w.heap.size + 1, 0, none⟩) (by simp [Value.ownBlock]; omega) _) (p := ⟨w.heap.size + 1, 1, none⟩) (by simp [Value.ownBlock]; omega) _), ?_⟩
    all_goals exact ((((hg3.trans hg4).set (by have := HW.out; omega) _).set (by have := HW.out; omega) _).set (by omega) _).set (by omega) _

theorem refWith_any (v bv : Value) (a : ArrP) (d s : Nat) (l : List Int) (w : World) (h : ArrV w v a) (ha : Whole a) (hd4 : d < 4) (hs3 : s < 3) (hb : Bs w bv l) :
    Calls Try.prog 77 #[v, .int .i64 d, .int .i64 s, bv] w fun e w' => ∃ r, e = .returned r ∧ ArrV w' r (withL a d s l) ∧ Grow w w' :=
  (refWith_off none v bv a d s l w (ArrX.old h (Grow.refl _) (fun _ h => nomatch h)) (fun _ h => nomatch h) ha hd4 hs3 (Off.plain Bs.stays hb)).mono fun _ _ ⟨r, he, hr, hg⟩ => ⟨r, he, hr.plain, hg⟩

theorem withL_whole {a : ArrP} (ha : Whole a) {d s : Nat} (hd : d < 4) (l : List Int) : Whole (withL a d s l) := by
  refine ⟨by simp [withL, ha.1], fun x hx => ?_⟩
  simp only [withL] at hx
  rcases List.mem_or_eq_of_mem_set hx with hx | rfl
  · exact ha.2 x hx
  · rw [List.length_set]
    exact ha.2 _ (by simp [List.getD_eq_getElem?_getD, show d < a.ds.length by have := ha.1; omega])

end Go.Proofs.Ytjggiameajndgab

/-
  What the reference's Write returns: an array behind so many writes. Nothing old turns.
-/
namespace Go.Proofs.Ytjggiameajndgab
open Go.RowKit

/-- One write. -/
def wstep (a : ArrP) (i : Int × List (List Int)) (k : Nat) : ArrP :=
  if k = 1 then { a with is := [i] } else if k < 6 then withL a (k - 2) i.1.toNat (i.2.getD (k - 2) []) else { a with is := [] }

/-- The first n writes. -/
def writeTo (a : ArrP) (i : Int × List (List Int)) : Nat → ArrP
  | 0 => a
  | n + 1 => wstep (writeTo a i n) i (n + 1)

/-- How many they are. -/
def many6 (n : Int) : Nat := (min n 6).toNat

def writeL (a : ArrP) (i : Int × List (List Int)) (n : Int) : ArrP := writeTo a i (many6 n)

theorem wstep_whole {a : ArrP} (ha : Whole a) (i : Int × List (List Int)) (k : Nat) : Whole (wstep a i k) := by
  unfold wstep
  split
  · exact ha
  · split
    · exact withL_whole ha (by omega) _
    · exact ha

theorem writeTo_whole {a : ArrP} (ha : Whole a) (i : Int × List (List Int)) : ∀ n, Whole (writeTo a i n)
  | 0 => ha
  | n + 1 => wstep_whole (writeTo_whole ha i n) i (n + 1)

theorem many6_le (n : Int) : many6 n ≤ 6 := by unfold many6; omega
theorem many6_iff {n : Int} {k : Nat} (hk : 1 ≤ k) : k ≤ many6 n ↔ (k : Int) ≤ n ∧ k ≤ 6 := by unfold many6; omega

/-- An intent, as it lies. -/
def IntentV (w : World) (v : Value) (i : Int × List (List Int)) : Prop := ∃ cv, v = .agg #[.int .i64 i.1, cv] ∧ Bss w cv i.2
theorem IntentV.grow {w w' : World} {v : Value} {i : Int × List (List Int)} (h : IntentV w v i) (hg : Grow w w') : IntentV w' v i := by
  obtain ⟨cv, hv, hb⟩ := h
  exact ⟨cv, hv, hb.grow hg⟩

theorem ItsX.one {g : Option Nat} {w : World} {b s : Nat} {cv : Value} {ls : List (List Int)} (h0 : w.cell? ⟨b, 0, none⟩ = some (.int .i64 s)) (h1 : w.cell? ⟨b, 1, none⟩ = some cv) (h : BssX g w cv ls) (hg : g ≠ some b) : ItsX g w (.slice (some ⟨b, 0, none⟩) 1 1) [((s : Int), ls)] := by
  refine ⟨⟨some ⟨b, 0, none⟩, 1, rfl, Nat.le_refl _, by unfold maxLen; omega, (fun h => nomatch h), fun _ => ⟨b, 0, rfl, fun i p hi => ?_⟩⟩, fun _ b' hb' => by cases hb'; exact hg⟩
  match i, hi with
  | 0, hi =>
    simp at hi
    subst hi
    exact ⟨h0, cv, h1, h⟩

theorem two_set0 {w : World} {A : Nat} {x y z : Value} {t : TypeId} (h : w.heap[A]? = some (.cells #[x, y] t (0, 0))) : (w.setCell ⟨A, 0, none⟩ z).heap[A]? = some (.cells #[z, y] t (0, 0)) := by
  rw [heap_setCell_same w A 0 _ _ _ h]; rfl
theorem two_set1 {w : World} {A : Nat} {x y z : Value} {t : TypeId} (h : w.heap[A]? = some (.cells #[x, y] t (0, 0))) : (w.setCell ⟨A, 1, none⟩ z).heap[A]? = some (.cells #[x, z] t (0, 0)) := by
  rw [heap_setCell_same w A 1 _ _ _ h]; rfl
theorem two_at0 {w : World} {A : Nat} {x y : Value} {t : TypeId} (h : w.heap[A]? = some (.cells #[x, y] t (0, 0))) : w.cell? ⟨A, 0, none⟩ = some x := by rw [cell_of_row w A 0 _ _ _ h]; rfl
theorem two_at1 {w : World} {A : Nat} {x y : Value} {t : TypeId} (h : w.heap[A]? = some (.cells #[x, y] t (0, 0))) : w.cell? ⟨A, 1, none⟩ = some y := by rw [cell_of_row w A 1 _ _ _ h]; rfl

theorem Grow.block' {w w' : World} (hg : Grow w w') {A : Nat} {o : Obj} (h : w.heap[A]? = some o) : w'.heap[A]? = some o := by
  have hlt : A < w.heap.size := by
    by_cases hlt : A < w.heap.size
    · exact hlt
    · rw [Array.getElem?_eq_none (Nat.le_of_not_lt hlt)] at h; cases h
  exact (hg.block A hlt).trans h

theorem by_set (w : World) (A k : Nat) (u : Value) : w.grownBy (w.setCell ⟨A, k, none⟩ u) (some A) := ⟨rfl, rfl, rfl, by simp, fun j _ hj => Below.heap_setCell w _ _ j (fun e => hj (by rw [e]))⟩

/-- An array in whatever memory but g. -/
def NewArr (g : Option Nat) (a : ArrP) (v : Value) (w : World) : Prop := ArrX g w v a
theorem NewArr.stable {g : Option Nat} (a : ArrP) : ∀ (v : Value) (x y : World), NewArr g a v x → Grow x y → NewArr g a v y := fun _ _ _ h hg => ArrX.grow h hg

/-- Nothing of an array lies in two cells that hold no slice: its rows have more cells than two, or numbers in them. -/
def Small (R : Nat) (w : World) : Prop := ∃ t fr, w.heap[R]? = some (.cells #[.slice none 0 0, .slice none 0 0] t fr)

theorem Small.cell {R : Nat} {w : World} (h : Small R w) {off : Nat} {u : Value} (hu : w.cell? ⟨R, off, none⟩ = some u) : off < 2 ∧ u = .slice none 0 0 := by
  obtain ⟨t, fr, h⟩ := h
  rw [cell_of_row w R off _ _ _ h] at hu
  match off, hu with
  | 0, hu => simp at hu; exact ⟨by omega, hu.symm⟩
  | 1, hu => simp at hu; exact ⟨by omega, hu.symm⟩
  | n + 2, hu => simp at hu

theorem Small.bytes {R : Nat} {w : World} (h : Small R w) {u : Value} {l : List Int} (hb : Bs w u l) : Off Bs (some R) w u l := fun w' hg => by
  obtain ⟨ao, cap, hv, h1, h2, h3, h4, h5⟩ := hb
  refine ⟨ao, cap, hv, h1, h2, h3, h4, fun hp => ?_⟩
  obtain ⟨b, off, e, hc⟩ := h5 hp
  refine ⟨b, off, e, fun i hi => hg.cell (hc i hi) (fun e => ?_)⟩
  simp only [Option.some.injEq] at e
  subst e
  have := (h.cell (hc i hi)).2
  cases this

theorem Small.row {α : Type} {R : Nat} {Q : World → Value → α → Prop} {w : World} (h : Small R w) {v : Value} {xs : List α} (hs : Sl Q w v xs) (hl : 3 ≤ xs.length) : RowOff (some R) v xs.length := fun hp b hb e => by
  obtain ⟨ao, cap, rfl, h1, h2, h3, h4⟩ := hs
  obtain ⟨b', off, rfl, hc⟩ := h4 hp
  simp only [Value.ownBlock, Option.some.injEq] at hb e
  subst hb e
  obtain ⟨u, hu, _⟩ := hc 2 (xs[2]) (by simp [show 2 < xs.length by omega])
  have := (h.cell hu).1
  omega

theorem Small.bss {R : Nat} {w : World} (h : Small R w) {v : Value} {ls : List (List Int)} (hs : Bss w v ls) (hl : 3 ≤ ls.length) : BssX (some R) w v ls := ⟨Sl.lift (fun _ _ hb => h.bytes hb) hs (Grow.refl _), h.row hs hl⟩

theorem Small.arr {R : Nat} {w : World} (h : Small R w) {v : Value} {b : ArrP} (hv : ArrV w v b) (hw : Whole b) (hi : ∀ p ∈ b.is, p.2.length = 4) : ArrX (some R) w v b := by
  obtain ⟨dv, iv, e, h1, h2⟩ := hv
  refine ⟨dv, iv, e, ⟨?_, h.row h1 (by have := hw.1; omega)⟩, ?_, ?_⟩
  · obtain ⟨ao, cap, hv, k1, k2, k3, k4⟩ := h1
    refine ⟨ao, cap, hv, k1, k2, k3, fun hp => ?_⟩
    obtain ⟨b', off, e, hc⟩ := k4 hp
    refine ⟨b', off, e, fun i x hx => ?_⟩
    obtain ⟨u, hu, hr⟩ := hc i x hx
    exact ⟨u, hu, h.bss hr (by rw [hw.2 x (List.mem_of_getElem? hx)]; omega)⟩
  · obtain ⟨ao, cap, hv, k1, k2, k3, k4⟩ := h2
    refine ⟨ao, cap, hv, k1, k2, k3, fun hp => ?_⟩
    obtain ⟨b', off, e, hc⟩ := k4 hp
    refine ⟨b', off, e, fun i p hx => ?_⟩
    obtain ⟨h6, cv, h7, h8⟩ := hc i p hx
    exact ⟨h6, cv, h7, h.bss h8 (by rw [hi p (List.mem_of_getElem? hx)]; omega)⟩
  · intro hp b' hb e9
    obtain ⟨ao, cap, rfl, k1, k2, k3, k4⟩ := h2
    obtain ⟨b'', off, rfl, hc⟩ := k4 hp
    simp only [Value.ownBlock, Option.some.injEq] at hb
    injection e9 with e9
    subst hb e9
    have := (h.cell (hc 0 (b.is[0]) (by simp [hp])).1).2
    cases this

theorem wstep_is {a : ArrP} {i : Int × List (List Int)} {k : Nat} (h : ∀ p ∈ a.is, p.2.length = 4) (hi : i.2.length = 4) : ∀ p ∈ (wstep a i k).is, p.2.length = 4 := by
  unfold wstep
  split
  · intro p hp; simp at hp; rw [hp]; exact hi
  · split
    · exact h
    · intro p hp; simp at hp

theorem writeTo_is {a : ArrP} {i : Int × List (List Int)} (h : ∀ p ∈ a.is, p.2.length = 4) (hi : i.2.length = 4) : ∀ n, ∀ p ∈ (writeTo a i n).is, p.2.length = 4
  | 0 => h
  | n + 1 => wstep_is (writeTo_is h hi n) hi

/-- What the loop keeps. -/
def WInv (w : World) (s : Nat) (cv x y : Value) (b : ArrP) (wr : World) : Prop :=
  Hid (wr.heap[w.heap.size]? = some (.cells #[x, y] 39 (0, 0)) ∧ wr.heap[w.heap.size + 1]? = some (.cells #[.int .i64 s, cv] 62 (0, 0)) ∧ wr.heap[w.heap.size + 1 + 1]? = some (.cells #[.slice none 0 0, .slice none 0 0] 39 (0, 0))) ∧
    Hid (ArrX (some w.heap.size) wr (.agg #[x, y]) b) ∧ Grow w wr

theorem set_other {w : World} {A k j : Nat} {u : Value} {o : Option Obj} (h : w.heap[j]? = o) (hne : j ≠ A) : (w.setCell ⟨A, k, none⟩ u).heap[j]? = o := by
  rw [Below.heap_setCell w _ _ j (show j ≠ A from hne), h]

theorem w_first {w wr : World} {s : Nat} {cv x y : Value} {a : ArrP} {cs : List (List Int)} (hcv : Bss w cv cs)
    (hR : wr.heap[w.heap.size]? = some (.cells #[x, y] 39 (0, 0)) ∧ wr.heap[w.heap.size + 1]? = some (.cells #[.int .i64 s, cv] 62 (0, 0)) ∧ wr.heap[w.heap.size + 1 + 1]? = some (.cells #[.slice none 0 0, .slice none 0 0] 39 (0, 0)))
    (hX : ArrX (some w.heap.size) wr (.agg #[x, y]) (writeTo a ((s : Int), cs) 0)) (hgr : Grow w wr) (hlt : w.heap.size < wr.heap.size) :
    WInv w s cv x (.slice (some ⟨wr.heap.size, 0, none⟩) 1 1) (writeTo a ((s : Int), cs) 1) ((wr.alloc (.cells #[.int .i64 s, cv] 62)).setCell ⟨w.heap.size, 1, none⟩ (.slice (some ⟨wr.heap.size, 0, none⟩) 1 1)) := by
  have gE : Grow wr (wr.alloc (.cells #[.int .i64 s, cv] 62)) := Grow.alloc _ _
  have hb := heap_alloc_new wr (.cells #[.int .i64 s, cv] 62)
  have hset := by_set (wr.alloc (.cells #[.int .i64 s, cv] 62)) w.heap.size 1 (.slice (some ⟨wr.heap.size, 0, none⟩) 1 1)
  have hb' := set_other (A := w.heap.size) (k := 1) (u := .slice (some ⟨wr.heap.size, 0, none⟩) 1 1) hb (by omega)
  refine ⟨⟨two_set1 (gE.block' hR.1), set_other (gE.block' hR.2.1) (by omega), set_other (gE.block' hR.2.2) (by omega)⟩, ?_, (hgr.trans gE).set (Nat.le_refl _) _⟩
  obtain ⟨dv, iv, e, h1, h2⟩ := hX
  simp only [Value.agg.injEq] at e
  have e := congrArg Array.toList e
  simp at e
  refine ⟨x, _, rfl, ?_, ItsX.one (two_at0 hb') (two_at1 hb') (BssX.step (BssX.old hcv (hgr.trans gE) (fun k hk => by cases hk; exact Nat.le_refl _)) hset) (fun e => by injection e; omega)⟩
  rw [e.1]
  exact DksX.step (DksX.step h1 (gE.by _)) hset

theorem w_last {w wr : World} {s : Nat} {cv x y : Value} {a : ArrP} {cs : List (List Int)}
    (hR : wr.heap[w.heap.size]? = some (.cells #[x, y] 39 (0, 0)) ∧ wr.heap[w.heap.size + 1]? = some (.cells #[.int .i64 s, cv] 62 (0, 0)) ∧ wr.heap[w.heap.size + 1 + 1]? = some (.cells #[.slice none 0 0, .slice none 0 0] 39 (0, 0)))
    (hX : ArrX (some w.heap.size) wr (.agg #[x, y]) (writeTo a ((s : Int), cs) 5)) (hgr : Grow w wr) :
    WInv w s cv x (.slice none 0 0) (writeTo a ((s : Int), cs) 6) (wr.setCell ⟨w.heap.size, 1, none⟩ (.slice none 0 0)) := by
  have hset := by_set wr w.heap.size 1 (.slice none 0 0)
  refine ⟨⟨two_set1 hR.1, set_other hR.2.1 (by omega), set_other hR.2.2 (by omega)⟩, ?_, hgr.set (Nat.le_refl _) _⟩
  obtain ⟨dv, iv, e, h1, h2⟩ := hX
  simp only [Value.agg.injEq] at e
  have e := congrArg Array.toList e
  simp at e
  refine ⟨x, _, rfl, ?_, ItsX.nil _ _⟩
  rw [e.1]
  exact DksX.step h1 hset

theorem w_mid {w wr wR : World} {s : Nat} {cv x y x' y' : Value} {b : ArrP}
    (hR : wr.heap[w.heap.size]? = some (.cells #[x, y] 39 (0, 0)) ∧ wr.heap[w.heap.size + 1]? = some (.cells #[.int .i64 s, cv] 62 (0, 0)) ∧ wr.heap[w.heap.size + 1 + 1]? = some (.cells #[.slice none 0 0, .slice none 0 0] 39 (0, 0)))
    (hX : ArrX (some w.heap.size) wR (.agg #[x', y']) b) (hgr : Grow w wr) (hg : Grow wr wR) :
    WInv w s cv x' y' b ((wR.setCell ⟨w.heap.size, 0, none⟩ x').setCell ⟨w.heap.size, 1, none⟩ y') :=
  ⟨⟨two_set1 (two_set0 (hg.block' hR.1)), set_other (set_other (hg.block' hR.2.1) (by omega)) (by omega), set_other (set_other (hg.block' hR.2.2) (by omega)) (by omega)⟩,
    (hX.step (by_set wR _ 0 x')).step (by_set _ _ 1 y'), ((hgr.trans hg).set (Nat.le_refl _) _).set (Nat.le_refl _) _⟩

theorem w_end {w wr : World} {s : Nat} {cv x y : Value} {b : ArrP}
    (hR : wr.heap[w.heap.size]? = some (.cells #[x, y] 39 (0, 0)) ∧ wr.heap[w.heap.size + 1]? = some (.cells #[.int .i64 s, cv] 62 (0, 0)) ∧ wr.heap[w.heap.size + 1 + 1]? = some (.cells #[.slice none 0 0, .slice none 0 0] 39 (0, 0)))
    (hX : ArrX (some (w.heap.size + 1 + 1)) wr (.agg #[x, y]) b) (hgr : Grow w wr) :
    ArrV ((wr.setCell ⟨w.heap.size + 1 + 1, 0, none⟩ x).setCell ⟨w.heap.size + 1 + 1, 1, none⟩ y) (.agg #[x, y]) b ∧ Grow w ((wr.setCell ⟨w.heap.size + 1 + 1, 0, none⟩ x).setCell ⟨w.heap.size + 1 + 1, 1, none⟩ y) ∧
      ((wr.setCell ⟨w.heap.size + 1 + 1, 0, none⟩ x).setCell ⟨w.heap.size + 1 + 1, 1, none⟩ y).cell? ⟨w.heap.size + 1 + 1, 0, none⟩ = some x ∧ ((wr.setCell ⟨w.heap.size + 1 + 1, 0, none⟩ x).setCell ⟨w.heap.size + 1 + 1, 1, none⟩ y).cell? ⟨w.heap.size + 1 + 1, 1, none⟩ = some y := by
  have hb := two_set1 (z := y) (two_set0 (z := x) hR.2.2)
  exact ⟨((hX.step (by_set wr _ 0 x)).step (by_set _ _ 1 y)).plain, (hgr.set (by omega) _).set (by omega) _, two_at0 hb, two_at1 hb⟩

set_option maxRecDepth 20000 in
set_option maxHeartbeats 6400000 in
theorem refWrite_any (v iv : Value) (a : ArrP) (s : Nat) (cs : List (List Int)) (n : Int) (w : World) (h : ArrV w v a) (ha : Whole a) (hi : IntentV w iv ((s : Int), cs)) (hs3 : s < 3) (hc4 : cs.length = 4) (his : ∀ p ∈ a.is, p.2.length = 4) :
    Calls Try.prog 43 #[v, iv, .int .i64 n] w fun e w' => ∃ r, e = .returned r ∧ ArrV w' r (writeL a ((s : Int), cs) n) ∧ Grow w w' := by
  obtain ⟨dv, ev, rfl, hd, hit⟩ := h
  obtain ⟨ad, cd, rfl, hd1, hd2⟩ := hd.form'
  obtain ⟨ai, ci, rfl, hi1, hi2⟩ := hit.form
  obtain ⟨cv, rfl, hcv⟩ := hi
  have hcv : Bss w cv cs := hcv
  obtain ⟨ac, cc, rfl, hc1, hc2⟩ := hcv.form'
  obtain ⟨bc, oc, -, rfl, -, -⟩ := hcv.elem (k := 0) (by omega) []
  have hw4 := fun m => writeTo_whole ha ((s : Int), cs) m
  have hm6 := many6_le n
  have Hw4 : Hid (∀ m, Whole (writeTo a ((s : Int), cs) m) ∧ ∀ p ∈ (writeTo a ((s : Int), cs) m).is, p.2.length = 4) := fun m => ⟨hw4 m, writeTo_is his hc4 m⟩
  clear his
  have hmi := fun k => many6_iff (n := n) (k := k)
  have hcx : ∀ k, k < 4 → ∃ x1 x2 x3, w.cell? ⟨bc, oc + k, none⟩ = some (.slice x1 x2 x3) ∧ Bs w (.slice x1 x2 x3) (cs.getD k []) := fun k hk => by
    obtain ⟨b', o', u, e1, e2, e3⟩ := hcv.elem (k := k) (by omega) []
    injection e1 with e1
    injection e1 with e4 e5
    subst e4 e5
    obtain ⟨x1, x2, x3, rfl⟩ := e3.form
    exact ⟨x1, x2, x3, e2, e3⟩
  rw [ha.1] at hd hd1 ⊢
  have HC : Hid (cs.length = 4) := hc4
  rw [hc4] at hcv hc1 ⊢
  clear hc4
  generalize hni : a.is.length = ni at *
  obtain ⟨W, hW⟩ : ∃ W, W = ((w.alloc (.cells #[.slice ad 4 cd, .slice ai ni ci] 39)).alloc (.cells #[.int .i64 s, .slice (some ⟨bc, oc, none⟩) 4 cc] 62)).alloc (.cells #[.slice none 0 0, .slice none 0 0] 39) := ⟨_, rfl⟩
  have hgW : Grow w W := by rw [hW]; exact ((Grow.alloc _ _).trans (Grow.alloc _ _)).trans (Grow.alloc _ _)
  go_enter Try.func43, Try.ntmps43
  go_wp2
  have bA : W.heap[w.heap.size]? = some (.cells #[.slice ad 4 cd, .slice ai ni ci] 39 (0, 0)) := by
    rw [hW, heap_alloc_old _ _ (by simp; omega), heap_alloc_old _ _ (by simp)]; exact heap_alloc_new w _
  have bI : W.heap[w.heap.size + 1]? = some (.cells #[.int .i64 s, .slice (some ⟨bc, oc, none⟩) 4 cc] 62 (0, 0)) := by
    rw [hW, heap_alloc_old _ _ (by simp)]; exact heap_alloc2_new w _ _
  have bR : W.heap[w.heap.size + 1 + 1]? = some (.cells #[.slice none 0 0, .slice none 0 0] 39 (0, 0)) := by
    have := heap_alloc_new ((w.alloc (.cells #[.slice ad 4 cd, .slice ai ni ci] 39)).alloc (.cells #[.int .i64 s, .slice (some ⟨bc, oc, none⟩) 4 cc] 62)) (.cells #[.slice none 0 0, .slice none 0 0] 39)
    rw [hW]
    simpa using this
  have hX : ArrX (some w.heap.size) W (.agg #[.slice ad 4 cd, .slice ai ni ci]) a := ArrX.old (w0 := w) ⟨_, _, rfl, hd, hit⟩ hgW (fun k hk => by cases hk; exact Nat.le_refl _)
  rw [← hW]
  have HB : Hid (W.heap[w.heap.size]? = some (.cells #[.slice ad 4 cd, .slice ai ni ci] 39 (0, 0)) ∧ W.heap[w.heap.size + 1]? = some (.cells #[.int .i64 s, .slice (some ⟨bc, oc, none⟩) 4 cc] 62 (0, 0)) ∧ W.heap[w.heap.size + 1 + 1]? = some (.cells #[.slice none 0 0, .slice none 0 0] 39 (0, 0))) := ⟨bA, bI, bR⟩
  clear hW bA bI bR hd hit
  go_loopw [7] (fun q wr => ∃ (k : Nat) (x y : Value), 1 ≤ k ∧ k ≤ many6 n + 1 ∧ q = .int .i64 k ∧ Hid (wr.heap[w.heap.size]? = some (.cells #[x, y] 39 (0, 0)) ∧ wr.heap[w.heap.size + 1]? = some (.cells #[.int .i64 s, .slice (some ⟨bc, oc, none⟩) 4 cc] 62 (0, 0)) ∧ wr.heap[w.heap.size + 1 + 1]? = some (.cells #[.slice none 0 0, .slice none 0 0] 39 (0, 0))) ∧ Hid (ArrX (some w.heap.size) wr (.agg #[x, y]) (writeTo a ((s : Int), cs) (k - 1))) ∧ Grow w wr) (fun q _ => 7 - (intOf q).toNat)
  case atStart => exact ⟨1, _, _, by omega, by omega, rfl, HB, hX, hgW⟩
  case round =>
    obtain ⟨k, x, y, hk1, hkm, rfl, HR, HX, hgr⟩ := hrel
    obtain ⟨hA, hI, hR⟩ := HR.out
    have a0 := two_at0 hA
    have a1 := two_at1 hA
    have i0 := two_at0 hI
    have i1 := two_at1 hI
    have fA0 : wr.frozen? ⟨w.heap.size, 0, none⟩ = false := frozen_of_row wr _ 0 _ _ hA
    have fA1 : wr.frozen? ⟨w.heap.size, 1, none⟩ = false := frozen_of_row wr _ 1 _ _ hA
    have r0 := two_at0 hR
    have r1 := two_at1 hR
    have fR0 : wr.frozen? ⟨w.heap.size + 1 + 1, 0, none⟩ = false := frozen_of_row wr _ 0 _ _ hR
    have fR1 : wr.frozen? ⟨w.heap.size + 1 + 1, 1, none⟩ = false := frozen_of_row wr _ 1 _ _ hR
    clear hA hI hR
    have hxy : (∃ x1 x2 x3, x = .slice x1 x2 x3) ∧ ∃ y1 y2 y3, y = .slice y1 y2 y3 := by
      obtain ⟨dv, iv, e, h1, h2⟩ := HX.out
      obtain ⟨p1, p2, e1⟩ := h1.1.form
      obtain ⟨p3, p4, e2, -⟩ := h2.plain.form
      simp only [Value.agg.injEq] at e
      have e := congrArg Array.toList e
      simp at e
      exact ⟨⟨_, _, _, e.1.trans e1⟩, ⟨_, _, _, e.2.trans e2⟩⟩
    obtain ⟨⟨x1, x2, x3, rfl⟩, y1, y2, y3, rfl⟩ := hxy
    by_cases hgo : k ≤ many6 n
    · obtain ⟨hkn, hk6⟩ := (hmi k hk1).1 hgo
      by_cases h1 : k = 1
      · subst h1
        have gE : Grow wr (wr.alloc (.cells #[.int .i64 s, .slice (some ⟨bc, oc, none⟩) 4 cc] 62)) := Grow.alloc _ _
        have a1' := gE.at a1
        have fA1' := (gE.frozen (a := ⟨w.heap.size, 1, none⟩) (cell_lt a1)).trans fA1
        have HN := w_first hcv HR.out HX.out hgr (cell_lt a1)
        clear hmi hw4 HR HX gE
        go_wp2
        go_roundw
        case rel => first | exact ⟨2, _, _, by omega, by omega, rfl, HN.1, HN.2.1, HN.2.2⟩ | ((repeat apply Exists.intro); exact ⟨⟨2, _, _, by omega, by omega, rfl, HN.1, HN.2.1, HN.2.2⟩, rfl⟩)
        case measure => simp [intOf]
      · have h1' : ¬ (k : Int) = 1 := by omega
        by_cases h6 : k < 6
        · obtain ⟨m, rfl⟩ : ∃ m, k = m + 2 := ⟨k - 2, by omega⟩
          have hm4 : m < 4 := by omega
          obtain ⟨z1, z2, z3, hz1, hz2⟩ := hcx m hm4
          have hz1' := hgr.at hz1
          have hwm := hw4 (m + 1)
          have HS : Hid (writeTo a ((s : Int), cs) (m + 2) = withL (writeTo a ((s : Int), cs) (m + 1)) m s (cs.getD m [])) := by
            rw [Hid, writeTo, wstep, if_neg (by omega), if_pos (by omega)]
            simp
          rw [show m + 2 - 1 = m + 1 by omega] at HX
          clear hmi hw4 hcx hz1
          have HZ : Hid (Bs w (.slice z1 z2 z3) (cs.getD m [])) := hz2
          have HM : Hid (Whole (writeTo a ((s : Int), cs) (m + 1))) := hwm
          clear hz2 hwm h1 h1' h6
          have hm4i : (m : Int) < 4 := by omega
          have hb1 : (((m : Int) + 2) == 1) = false := by simp; omega
          have hb6 : decide ((m : Int) + 2 < 6) = true := by simp; omega
          have hb7 : (m : Int) + 2 ≤ 6 := by omega
          have hb8 : (m : Int) + 2 ≤ n := by omega
          go_wp2
          refine wp_region_last [_, _, _, _, _, _, _, _, _, _, _, _] _ rfl Grow [IsV (.agg #[.slice x1 x2 x3, .slice y1 y2 y3]), IsV (.int .i64 ((m : Int) + 2)), IsV (.int .i64 m), IsV (.pointer (some ⟨w.heap.size + 1, 0, none⟩)), IsV (.int .i64 s), IsV (.pointer (some ⟨w.heap.size + 1, 1, none⟩)), IsV (.slice (some ⟨bc, oc, none⟩) 4 cc), IsV (.int .i64 ((m : Int) + 2)), IsV (.int .i64 m), IsV (.pointer (some ⟨bc, oc + m, none⟩)), IsV (.slice z1 z2 z3), NewArr (some w.heap.size) (withL (writeTo a ((s : Int), cs) (m + 1)) m s (cs.getD m []))] (by kernel_rfl) (by kernel_rfl) (by kernel_rfl) rfl Grow.refl (fun _ _ _ => Grow.trans) ?_ ?_ ?_
          · repeat (refine List.forall_mem_cons.2 ⟨by first | exact IsV.stable _ | exact NewArr.stable _, ?_⟩)
            exact fun R hR => nomatch hR
          · skip
            refine StepsS.cons ?_ fun v0 => ⟨_, _, by simp only [Act.put, List.setIfInBounds_toArray, List.set_cons_succ, List.set_cons_zero]; first | done | rfl, by simp only [List.nil_append]; first | done | rfl, ?_⟩
            · intro w1 hE hd
              clear hd
              have q0 := hE.drew.at a0
              have q1 := hE.drew.at a1
              go_wp2
              exact ⟨_, rfl, Grow.refl _, rfl⟩
            refine StepsS.cons ?_ fun v1 => ⟨_, _, by simp only [Act.put, List.setIfInBounds_toArray, List.set_cons_succ, List.set_cons_zero]; first | done | rfl, by simp only [List.nil_append, List.cons_append]; first | done | rfl, ?_⟩
            · intro w1 hE hd
              clear hd
              go_wp2
              exact ⟨_, rfl, Grow.refl _, rfl⟩
            refine StepsS.cons ?_ fun v2 => ⟨_, _, by simp only [Act.put, List.setIfInBounds_toArray, List.set_cons_succ, List.set_cons_zero]; first | done | rfl, by simp only [List.nil_append, List.cons_append]; first | done | rfl, ?_⟩
            · intro w1 hE hd
              obtain rfl := IsV.eq (dep_at hd 0 rfl rfl rfl)
              clear hd
              go_wp2
              exact ⟨_, rfl, Grow.refl _, rfl⟩
            refine StepsS.cons ?_ fun v3 => ⟨_, _, by simp only [Act.put, List.setIfInBounds_toArray, List.set_cons_succ, List.set_cons_zero]; first | done | rfl, by simp only [List.nil_append, List.cons_append]; first | done | rfl, ?_⟩
            · intro w1 hE hd
              clear hd
              go_wp2
              exact ⟨_, rfl, Grow.refl _, rfl⟩
            refine StepsS.cons ?_ fun v4 => ⟨_, _, by simp only [Act.put, List.setIfInBounds_toArray, List.set_cons_succ, List.set_cons_zero]; first | done | rfl, by simp only [List.nil_append, List.cons_append]; first | done | rfl, ?_⟩
            · intro w1 hE hd
              obtain rfl := IsV.eq (dep_at hd 0 rfl rfl rfl)
              clear hd
              have q0 := hE.drew.at i0
              go_wp2
              exact ⟨_, rfl, Grow.refl _, rfl⟩
            refine StepsS.cons ?_ fun v5 => ⟨_, _, by simp only [Act.put, List.setIfInBounds_toArray, List.set_cons_succ, List.set_cons_zero]; first | done | rfl, by simp only [List.nil_append, List.cons_append]; first | done | rfl, ?_⟩
            · intro w1 hE hd
              clear hd
              go_wp2
              exact ⟨_, rfl, Grow.refl _, rfl⟩
            refine StepsS.cons ?_ fun v6 => ⟨_, _, by simp only [Act.put, List.setIfInBounds_toArray, List.set_cons_succ, List.set_cons_zero]; first | done | rfl, by simp only [List.nil_append, List.cons_append]; first | done | rfl, ?_⟩
            · intro w1 hE hd
              obtain rfl := IsV.eq (dep_at hd 0 rfl rfl rfl)
              clear hd
              have q0 := hE.drew.at i1
              go_wp2
              exact ⟨_, rfl, Grow.refl _, rfl⟩
            refine StepsS.cons ?_ fun v7 => ⟨_, _, by simp only [Act.put, List.setIfInBounds_toArray, List.set_cons_succ, List.set_cons_zero]; first | done | rfl, by simp only [List.nil_append, List.cons_append]; first | done | rfl, ?_⟩
            · intro w1 hE hd
              clear hd
              go_wp2
              exact ⟨_, rfl, Grow.refl _, rfl⟩
            refine StepsS.cons ?_ fun v8 => ⟨_, _, by simp only [Act.put, List.setIfInBounds_toArray, List.set_cons_succ, List.set_cons_zero]; first | done | rfl, by simp only [List.nil_append, List.cons_append]; first | done | rfl, ?_⟩
            · intro w1 hE hd
              obtain rfl := IsV.eq (dep_at hd 0 rfl rfl rfl)
              clear hd
              go_wp2
              exact ⟨_, rfl, Grow.refl _, rfl⟩
            refine StepsS.cons ?_ fun v9 => ⟨_, _, by simp only [Act.put, List.setIfInBounds_toArray, List.set_cons_succ, List.set_cons_zero]; first | done | rfl, by simp only [List.nil_append, List.cons_append]; first | done | rfl, ?_⟩
            · intro w1 hE hd
              obtain rfl := IsV.eq (dep_at hd 0 rfl rfl rfl)
              obtain rfl := IsV.eq (dep_at hd 1 rfl rfl rfl)
              clear hd
              go_wp2
              exact ⟨_, rfl, Grow.refl _, rfl⟩
            refine StepsS.cons ?_ fun v10 => ⟨_, _, by simp only [Act.put, List.setIfInBounds_toArray, List.set_cons_succ, List.set_cons_zero]; first | done | rfl, by simp only [List.nil_append, List.cons_append]; first | done | rfl, ?_⟩
            · intro w1 hE hd
              obtain rfl := IsV.eq (dep_at hd 0 rfl rfl rfl)
              clear hd
              have q0 := hE.drew.at hz1'
              go_wp2
              exact ⟨_, rfl, Grow.refl _, rfl⟩
            refine StepsS.cons ?_ fun v11 => ⟨_, _, by simp only [Act.put, List.setIfInBounds_toArray, List.set_cons_succ, List.set_cons_zero]; first | done | rfl, by simp only [List.nil_append, List.cons_append]; first | done | rfl, ?_⟩
            · intro w1 hE hd
              obtain rfl := IsV.eq (dep_at hd 0 rfl rfl rfl)
              obtain rfl := IsV.eq (dep_at hd 1 rfl rfl rfl)
              obtain rfl := IsV.eq (dep_at hd 2 rfl rfl rfl)
              obtain rfl := IsV.eq (dep_at hd 3 rfl rfl rfl)
              clear hd
              go_wp2_with fail
              refine (refWith_off (some w.heap.size) _ _ _ m s _ _ (HX.out.grow hE.drew) (fun j hj => by cases hj; exact cell_lt (hE.drew.at a0)) HM.out hm4 hs3 (Off.old Bs.stays HZ.out (hgr.trans hE.drew) (fun j hj => by cases hj; exact Nat.le_refl _))).mono ?_
              rintro e w5 ⟨r, rfl, hr, hg5⟩
              go_wp2_with fail
              exact ⟨_, rfl, hg5, hr⟩
            trivial
          intro wR hwR
          refine FinS.cons ?_; rintro _ rfl; refine ⟨_, by simp only [Act.put, List.setIfInBounds_toArray, List.set_cons_succ, List.set_cons_zero]; first | done | rfl, ?_⟩
          refine FinS.cons ?_; rintro _ rfl; refine ⟨_, by simp only [Act.put, List.setIfInBounds_toArray, List.set_cons_succ, List.set_cons_zero]; first | done | rfl, ?_⟩
          refine FinS.cons ?_; rintro _ rfl; refine ⟨_, by simp only [Act.put, List.setIfInBounds_toArray, List.set_cons_succ, List.set_cons_zero]; first | done | rfl, ?_⟩
          refine FinS.cons ?_; rintro _ rfl; refine ⟨_, by simp only [Act.put, List.setIfInBounds_toArray, List.set_cons_succ, List.set_cons_zero]; first | done | rfl, ?_⟩
          refine FinS.cons ?_; rintro _ rfl; refine ⟨_, by simp only [Act.put, List.setIfInBounds_toArray, List.set_cons_succ, List.set_cons_zero]; first | done | rfl, ?_⟩
          refine FinS.cons ?_; rintro _ rfl; refine ⟨_, by simp only [Act.put, List.setIfInBounds_toArray, List.set_cons_succ, List.set_cons_zero]; first | done | rfl, ?_⟩
          refine FinS.cons ?_; rintro _ rfl; refine ⟨_, by simp only [Act.put, List.setIfInBounds_toArray, List.set_cons_succ, List.set_cons_zero]; first | done | rfl, ?_⟩
          refine FinS.cons ?_; rintro _ rfl; refine ⟨_, by simp only [Act.put, List.setIfInBounds_toArray, List.set_cons_succ, List.set_cons_zero]; first | done | rfl, ?_⟩
          refine FinS.cons ?_; rintro _ rfl; refine ⟨_, by simp only [Act.put, List.setIfInBounds_toArray, List.set_cons_succ, List.set_cons_zero]; first | done | rfl, ?_⟩
          refine FinS.cons ?_; rintro _ rfl; refine ⟨_, by simp only [Act.put, List.setIfInBounds_toArray, List.set_cons_succ, List.set_cons_zero]; first | done | rfl, ?_⟩
          refine FinS.cons ?_; rintro _ rfl; refine ⟨_, by simp only [Act.put, List.setIfInBounds_toArray, List.set_cons_succ, List.set_cons_zero]; first | done | rfl, ?_⟩
          refine FinS.cons fun v11 h11 => ⟨_, by simp only [Act.put, List.setIfInBounds_toArray, List.set_cons_succ, List.set_cons_zero]; first | done | rfl, ?_⟩
          show wpList _ _ _ _ _ _
          rw [← HS.out] at h11
          obtain ⟨x', y', rfl, hdv, hiv⟩ := h11
          obtain ⟨d1, d2, rfl⟩ := hdv.1.form
          obtain ⟨e1, e2, rfl, -⟩ := hiv.plain.form
          have hgR : Grow wr wR := hwR.drew
          have q0 := hgR.at a0
          have q1 := hgR.at a1
          have f0 := (hgR.frozen (a := ⟨w.heap.size, 0, none⟩) (cell_lt a0)).trans fA0
          have f1 := (hgR.frozen (a := ⟨w.heap.size, 1, none⟩) (cell_lt a0)).trans fA1
          have HN := w_mid HR.out ⟨_, _, rfl, hdv, hiv⟩ hgr hgR
          clear hdv hiv HR HX HM HZ
          generalize (writeTo a ((s : Int), cs) (m + 2)).ds.length = L1 at *
          generalize (writeTo a ((s : Int), cs) (m + 2)).is.length = L2 at *
          go_wp2
          go_roundw
          case rel => first | exact ⟨m + 2 + 1, _, _, by omega, by omega, by go_num, HN.1, HN.2.1, HN.2.2⟩ | ((repeat apply Exists.intro); exact ⟨⟨m + 2 + 1, _, _, by omega, by omega, by go_num, HN.1, HN.2.1, HN.2.2⟩, rfl⟩)
          case measure => simp [intOf]; omega
        · obtain rfl : k = 6 := by omega
          have HN := w_last HR.out HX.out hgr
          clear hmi hw4 HR HX
          go_wp2
          go_roundw
          case rel => first | exact ⟨7, _, _, by omega, by omega, rfl, HN.1, HN.2.1, HN.2.2⟩ | ((repeat apply Exists.intro); exact ⟨⟨7, _, _, by omega, by omega, rfl, HN.1, HN.2.1, HN.2.2⟩, rfl⟩)
          case measure => simp [intOf]
    · have hkm' : many6 n = k - 1 := by omega
      have Hw : Hid (writeL a ((s : Int), cs) n = writeTo a ((s : Int), cs) (k - 1)) := by rw [Hid, writeL, hkm']
      have hno : ¬ ((k : Int) ≤ n ∧ k ≤ 6) := fun h => hgo ((hmi k hk1).2 h)
      have HX2 : ArrX (some (w.heap.size + 1 + 1)) wr (.agg #[.slice x1 x2 x3, .slice y1 y2 y3]) (writeTo a ((s : Int), cs) (k - 1)) := Small.arr ⟨_, _, HR.out.2.2⟩ HX.out.plain (Hw4.out _).1 (Hw4.out _).2
      obtain ⟨hv, hgv, z0, z1⟩ := w_end HR.out HX2 hgr
      have hfin : Hid (_ ∧ _) := ⟨hv, hgv⟩
      clear hmi hw4 hv hgv HX2 HX HR hkm' hgo
      by_cases hkn : (k : Int) ≤ n
      · have hk6 : ¬ (k : Int) ≤ 6 := fun h => hno ⟨hkn, by omega⟩
        clear hno
        go_wp2
        refine bodyPost_ret (results_two Try.results43 _ _ (w.heap.size + 1 + 1) _ rfl Try.underlying39 rfl Try.sizeA z0 z1) rfl ?_
        exact ⟨_, rfl, by rw [Hw.out]; exact hfin.out.1, hfin.out.2⟩
      · clear hno
        go_wp2
        refine bodyPost_ret (results_two Try.results43 _ _ (w.heap.size + 1 + 1) _ rfl Try.underlying39 rfl Try.sizeA z0 z1) rfl ?_
        exact ⟨_, rfl, by rw [Hw.out]; exact hfin.out.1, hfin.out.2⟩

end Go.Proofs.Ytjggiameajndgab

/-
  What the reference's Gone returns: an array with a disk that has nothing. Nothing old turns.
-/
namespace Go.Proofs.Ytjggiameajndgab
open Go.RowKit

/-- Two cells that are slices: nothing of an array lies there. -/
def Two (R : Nat) (w : World) : Prop := ∃ a b c a' b' c' t, w.heap[R]? = some (.cells #[.slice a b c, .slice a' b' c'] t (0, 0))

theorem Two.cell {R : Nat} {w : World} (h : Two R w) {off : Nat} {u : Value} (hu : w.cell? ⟨R, off, none⟩ = some u) : off < 2 ∧ ∃ a b c, u = .slice a b c := by
  obtain ⟨a, b, c, a', b', c', t, h⟩ := h
  rw [cell_of_row w R off _ _ _ h] at hu
  match off, hu with
  | 0, hu => simp at hu; exact ⟨by omega, _, _, _, hu.symm⟩
  | 1, hu => simp at hu; exact ⟨by omega, _, _, _, hu.symm⟩
  | n + 2, hu => simp at hu

theorem Two.bytes {R : Nat} {w : World} (h : Two R w) {u : Value} {l : List Int} (hb : Bs w u l) : Off Bs (some R) w u l := fun w' hg => by
  obtain ⟨ao, cap, hv, h1, h2, h3, h4, h5⟩ := hb
  refine ⟨ao, cap, hv, h1, h2, h3, h4, fun hp => ?_⟩
  obtain ⟨b, off, e, hc⟩ := h5 hp
  refine ⟨b, off, e, fun i hi => hg.cell (hc i hi) (fun e => ?_)⟩
  simp only [Option.some.injEq] at e
  subst e
  obtain ⟨_, _, _, this⟩ := (h.cell (hc i hi)).2
  cases this

theorem Two.row {α : Type} {R : Nat} {Q : World → Value → α → Prop} {w : World} (h : Two R w) {v : Value} {xs : List α} (hs : Sl Q w v xs) (hl : 3 ≤ xs.length) : RowOff (some R) v xs.length := fun hp b hb e => by
  obtain ⟨ao, cap, rfl, h1, h2, h3, h4⟩ := hs
  obtain ⟨b', off, rfl, hc⟩ := h4 hp
  simp only [Value.ownBlock, Option.some.injEq] at hb e
  subst hb e
  obtain ⟨u, hu, _⟩ := hc 2 (xs[2]) (by simp [show 2 < xs.length by omega])
  have := (h.cell hu).1
  omega

theorem Two.bss {R : Nat} {w : World} (h : Two R w) {v : Value} {ls : List (List Int)} (hs : Bss w v ls) (hl : 3 ≤ ls.length) : BssX (some R) w v ls := ⟨Sl.lift (fun _ _ hb => h.bytes hb) hs (Grow.refl _), h.row hs hl⟩

/-- Intents of four cells each. -/
def Fours (a : ArrP) : Prop := ∀ p ∈ a.is, p.2.length = 4

theorem Two.arr {R : Nat} {w : World} (h : Two R w) {v : Value} {b : ArrP} (hv : ArrV w v b) (hw : Whole b) (hi : Fours b) : ArrX (some R) w v b := by
  obtain ⟨dv, iv, e, h1, h2⟩ := hv
  refine ⟨dv, iv, e, ⟨?_, h.row h1 (by have := hw.1; omega)⟩, ?_, ?_⟩
  · obtain ⟨ao, cap, hv, k1, k2, k3, k4⟩ := h1
    refine ⟨ao, cap, hv, k1, k2, k3, fun hp => ?_⟩
    obtain ⟨b', off, e, hc⟩ := k4 hp
    refine ⟨b', off, e, fun i x hx => ?_⟩
    obtain ⟨u, hu, hr⟩ := hc i x hx
    exact ⟨u, hu, h.bss hr (by rw [hw.2 x (List.mem_of_getElem? hx)]; omega)⟩
  · obtain ⟨ao, cap, hv, k1, k2, k3, k4⟩ := h2
    refine ⟨ao, cap, hv, k1, k2, k3, fun hp => ?_⟩
    obtain ⟨b', off, e, hc⟩ := k4 hp
    refine ⟨b', off, e, fun i p hx => ?_⟩
    obtain ⟨h6, cv, h7, h8⟩ := hc i p hx
    exact ⟨h6, cv, h7, h.bss h8 (by rw [hi p (List.mem_of_getElem? hx)]; omega)⟩
  · intro hp b' hb e9
    obtain ⟨ao, cap, rfl, k1, k2, k3, k4⟩ := h2
    obtain ⟨b'', off, rfl, hc⟩ := k4 hp
    simp only [Value.ownBlock, Option.some.injEq] at hb
    injection e9 with e9
    subst hb e9
    obtain ⟨_, _, _, this⟩ := (h.cell (hc 0 (b.is[0]) (by simp [hp])).1).2
    cases this

/-- An array, stored into such two cells, or while they are written: it is what it was. -/
theorem Two.store {R : Nat} {w : World} (h : Two R w) {v : Value} {b : ArrP} (hv : ArrV w v b) (hw : Whole b) (hi : Fours b) (x y : Value) : ArrV ((w.setCell ⟨R, 0, none⟩ x).setCell ⟨R, 1, none⟩ y) v b :=
  (((h.arr hv hw hi).step (by_set w R 0 x)).step (by_set _ R 1 y)).plain

/-- What an array's value looks like. -/
theorem ArrV.form {w : World} {v : Value} {a : ArrP} (h : ArrV w v a) : ∃ a1 n1 c1 a2 n2 c2, v = .agg #[.slice a1 n1 c1, .slice a2 n2 c2] := by
  obtain ⟨dv, iv, rfl, h1, h2⟩ := h
  obtain ⟨p1, p2, rfl⟩ := h1.form
  obtain ⟨p3, p4, rfl, -⟩ := h2.form
  exact ⟨_, _, _, _, _, _, rfl⟩

/-- A disk that has nothing: its first k cells. -/
def goneTo (a : ArrP) (d : Nat) : Nat → ArrP
  | 0 => a
  | k + 1 => withL (goneTo a d k) d k []

def goneE (d : Int) : Int := if d < 0 ∨ 3 < d then 6 else 0
def goneL (a : ArrP) (d : Int) : ArrP := if d < 0 ∨ 3 < d then a else goneTo a d.toNat 3

theorem goneTo_whole {a : ArrP} (ha : Whole a) {d : Nat} (hd : d < 4) : ∀ k, Whole (goneTo a d k)
  | 0 => ha
  | k + 1 => withL_whole (goneTo_whole ha hd k) hd _

theorem goneTo_fours {a : ArrP} (ha : Fours a) (d : Nat) : ∀ k, Fours (goneTo a d k)
  | 0 => ha
  | k + 1 => by
    have := goneTo_fours ha d k
    exact this

/-- What a call keeps that has an array in a box A and a result in R. -/
def BInv (w : World) (A R : Nat) (x y : Value) (b : ArrP) (wr : World) : Prop :=
  Hid (wr.heap[A]? = some (.cells #[x, y] 39 (0, 0)) ∧ wr.heap[R]? = some (.cells #[.slice none 0 0, .slice none 0 0] 39 (0, 0))) ∧ Hid (ArrV wr (.agg #[x, y]) b) ∧ Grow w wr

theorem ArrV.form2 {w : World} {x y : Value} {a : ArrP} (h : ArrV w (.agg #[x, y]) a) : (∃ a1 n1 c1, x = .slice a1 n1 c1) ∧ ∃ a2 n2 c2, y = .slice a2 n2 c2 := by
  obtain ⟨a1, n1, c1, a2, n2, c2, e⟩ := h.form
  simp only [Value.agg.injEq] at e
  have e := congrArg Array.toList e
  simp at e
  exact ⟨⟨_, _, _, e.1⟩, ⟨_, _, _, e.2⟩⟩

/-- The box gets another array. -/
theorem BInv.put {w wr w5 : World} {A R : Nat} {x y x' y' : Value} {b b' : ArrP} (h : BInv w A R x y b wr) (hg : Grow wr w5) (hv : ArrV w5 (.agg #[x', y']) b') (hw : Whole b') (hi : Fours b') (hA : w.heap.size ≤ A) (hAR : R ≠ A) :
    BInv w A R x' y' b' ((w5.setCell ⟨A, 0, none⟩ x').setCell ⟨A, 1, none⟩ y') := by
  obtain ⟨⟨h1, h2⟩, h3, h4⟩ := h
  obtain ⟨⟨a1, n1, c1, rfl⟩, a2, n2, c2, rfl⟩ := h3.out.form2
  refine ⟨⟨two_set1 (two_set0 (hg.block' h1)), set_other (set_other (hg.block' h2) hAR) hAR⟩, ?_, ((h4.trans hg).set hA _).set hA _⟩
  exact Two.store ⟨_, _, _, _, _, _, _, hg.block' h1⟩ hv hw hi x' y'

/-- The result is the box's array. -/
theorem BInv.done {w wr : World} {A R : Nat} {x y : Value} {b : ArrP} (h : BInv w A R x y b wr) (hw : Whole b) (hi : Fours b) (hR : w.heap.size ≤ R) :
    ArrV ((wr.setCell ⟨R, 0, none⟩ x).setCell ⟨R, 1, none⟩ y) (.agg #[x, y]) b ∧ Grow w ((wr.setCell ⟨R, 0, none⟩ x).setCell ⟨R, 1, none⟩ y) ∧
      ((wr.setCell ⟨R, 0, none⟩ x).setCell ⟨R, 1, none⟩ y).cell? ⟨R, 0, none⟩ = some x ∧ ((wr.setCell ⟨R, 0, none⟩ x).setCell ⟨R, 1, none⟩ y).cell? ⟨R, 1, none⟩ = some y := by
  obtain ⟨⟨h1, h2⟩, h3, h4⟩ := h
  have hb := two_set1 (z := y) (two_set0 (z := x) h2)
  exact ⟨Two.store ⟨_, _, _, _, _, _, _, h2⟩ h3.out hw hi x y, (h4.set hR _).set hR _, two_at0 hb, two_at1 hb⟩

set_option maxRecDepth 20000 in
set_option maxHeartbeats 6400000 in
theorem refGone_any (v : Value) (a : ArrP) (d : Int) (w : World) (h : ArrV w v a) (ha : Whole a) (hi : Fours a) :
    Calls Try.prog 53 #[v, .int .i64 d] w fun e w' => ∃ r, e = .returned (.tuple #[r, .int .i64 (goneE d)]) ∧ ArrV w' r (goneL a d) ∧ Grow w w' := by
  obtain ⟨a1, n1, c1, a2, n2, c2, rfl⟩ := h.form
  obtain ⟨W, hW⟩ : ∃ W, W = (w.alloc (.cells #[.slice a1 n1 c1, .slice a2 n2 c2] 39)).alloc (.cells #[.slice none 0 0, .slice none 0 0] 39) := ⟨_, rfl⟩
  have hgW : Grow w W := by rw [hW]; exact (Grow.alloc _ _).trans (Grow.alloc _ _)
  have hI : BInv w w.heap.size (w.heap.size + 1) (.slice a1 n1 c1) (.slice a2 n2 c2) a W := ⟨by rw [hW]; exact ⟨(heap_alloc_old _ _ (by simp)).trans (heap_alloc_new w _), heap_alloc2_new w _ _⟩, h.grow hgW, hgW⟩
  by_cases hd : d < 0 ∨ 3 < d
  · have HE : Hid (goneE d = 6 ∧ goneL a d = a) := ⟨if_pos hd, if_pos hd⟩
    clear hI
    have hgF : Grow w ((w.alloc (.cells #[.slice a1 n1 c1, .slice a2 n2 c2] 39)).alloc (.cells #[.slice a1 n1 c1, .slice a2 n2 c2] 39)) := (Grow.alloc _ _).trans (Grow.alloc _ _)
    have hfin : Hid (_ ∧ _) := ⟨h.grow hgF, hgF⟩
    clear h hgF hgW hW
    have hd' : d < 0 ∨ (0 ≤ d ∧ 3 < d) := by omega
    clear hd
    rcases hd' with hd | ⟨hd0, hd⟩
    all_goals
      go_enter Try.func53, Try.ntmps53
      go_wp2
      refine bodyPost_ret (results_two1 Try.results53 _ _ (w.heap.size + 1) _ rfl Try.underlying39 rfl Try.sizeA (x := .slice a1 n1 c1) (y := .slice a2 n2 c2) (by simp) (by simp)) rfl ?_
      exact ⟨_, ret_bs2 HE.out.1.symm, by rw [HE.out.2]; exact hfin.out.1, hfin.out.2⟩
  · obtain ⟨d, rfl⟩ := Int.eq_ofNat_of_zero_le (show 0 ≤ d by omega)
    have hd4 : d < 4 := by omega
    have HE : Hid (goneE (d : Int) = 0 ∧ goneL a (d : Int) = goneTo a d 3) := ⟨if_neg hd, (if_neg hd).trans (by simp)⟩
    have hw3 := fun k => goneTo_whole ha hd4 k
    have hf3 := fun k => goneTo_fours hi d k
    have hd' : ¬ 3 < (d : Int) := by omega
    clear hd h
    go_enter Try.func53, Try.ntmps53
    go_wp2
    rw [← hW]
    clear hW
    go_loopw [14] (fun q wr => ∃ (k : Nat) (x y : Value), k ≤ 3 ∧ q = .int .i64 k ∧ BInv w w.heap.size (w.heap.size + 1) x y (goneTo a d k) wr) (fun q _ => 3 - (intOf q).toNat)
    case atStart => exact ⟨0, _, _, by omega, rfl, hI⟩
    case round =>
      obtain ⟨k, x, y, hk, rfl, hB⟩ := hrel
      have HB : Hid (BInv w w.heap.size (w.heap.size + 1) x y (goneTo a d k) wr) := hB
      obtain ⟨⟨h1, h2⟩, HV, hgr⟩ := hB
      obtain ⟨⟨x1, x2, x3, rfl⟩, y1, y2, y3, rfl⟩ := HV.out.form2
      have b0 := two_at0 h1
      have b1 := two_at1 h1
      have r0 := two_at0 h2
      have r1 := two_at1 h2
      have fA0 : wr.frozen? ⟨w.heap.size, 0, none⟩ = false := frozen_of_row wr _ 0 _ _ h1
      have fA1 : wr.frozen? ⟨w.heap.size, 1, none⟩ = false := frozen_of_row wr _ 1 _ _ h1
      have f0 : wr.frozen? ⟨w.heap.size + 1, 0, none⟩ = false := frozen_of_row wr _ 0 _ _ h2
      have f1 : wr.frozen? ⟨w.heap.size + 1, 1, none⟩ = false := frozen_of_row wr _ 1 _ _ h2
      clear h1 h2
      by_cases hlt : k < 3
      · go_wp2_with fail
        refine (refWith_any _ _ (goneTo a d k) d k [] _ HV.out (hw3 k) hd4 hlt (Bs.nil _)).mono ?_
        rintro e w5 ⟨r, rfl, hr, hg5⟩
        obtain ⟨p1, p2, p3, q1, q2, q3, rfl⟩ := hr.form
        have HN := BInv.put HB.out hg5 hr (hw3 (k + 1)) (hf3 (k + 1)) (Nat.le_refl _) (by omega)
        have b05 := hg5.at b0
        have b15 := hg5.at b1
        have f05 := (hg5.frozen (a := ⟨w.heap.size, 0, none⟩) (cell_lt b0)).trans fA0
        have f15 := (hg5.frozen (a := ⟨w.heap.size, 1, none⟩) (cell_lt b0)).trans fA1
        have HN' : Hid (BInv w w.heap.size (w.heap.size + 1) _ _ (goneTo a d (k + 1)) _) := HN
        clear HN HB HV hr hw3 hf3
        go_wp2
        go_roundw
        case rel => first | exact ⟨k + 1, _, _, by omega, by go_num, HN'.out⟩ | ((repeat apply Exists.intro); exact ⟨⟨k + 1, _, _, by omega, by go_num, HN'.out⟩, rfl⟩)
        case measure => simp [intOf]; omega
      · obtain rfl : k = 3 := by omega
        obtain ⟨hv, hg, z0, z1⟩ := HB.out.done (hw3 3) (hf3 3) (by omega)
        have hfin : Hid (_ ∧ _) := ⟨hv, hg⟩
        clear hv hg HB HV hw3 hf3
        go_wp2
        refine bodyPost_ret (results_two1 Try.results53 _ _ (w.heap.size + 1) _ rfl Try.underlying39 rfl Try.sizeA z0 z1) rfl ?_
        exact ⟨_, ret_bs2 HE.out.1.symm, by rw [HE.out.2]; exact hfin.out.1, hfin.out.2⟩

end Go.Proofs.Ytjggiameajndgab
