import Derived.Test.YtjggiameajndgacJoin7
/-
  What the reference's Rot returns: an array with a byte that has turned. Nothing old turns.
-/
namespace Go.Proofs.Ytjggiameajndgac
open Go.RowKit

/-- A byte, its lowest bit turned. -/
def rotI (x : Int) : Int := if x % 2 = 0 then x + 1 else x - 1
def rotB (l : List Int) (k : Nat) : List Int := l.set k (rotI (l.getD k 0))

def rotOk (a : ArrP) (d s k : Int) : Prop := 0 ≤ d ∧ d ≤ 3 ∧ 0 ≤ s ∧ s ≤ 2 ∧ 0 ≤ k ∧ k < (cellAt a d.toNat s.toNat).length
instance (a : ArrP) (d s k : Int) : Decidable (rotOk a d s k) := by unfold rotOk; infer_instance
def rotE (a : ArrP) (d s k : Int) : Int := if rotOk a d s k then 0 else 6
def rotL (a : ArrP) (d s k : Int) : ArrP := if rotOk a d s k then withL a d.toNat s.toNat (rotB (cellAt a d.toNat s.toNat) k.toNat) else a

theorem rotI_bd {x : Int} (h : 0 ≤ x ∧ x ≤ 255) : 0 ≤ rotI x ∧ rotI x ≤ 255 := by unfold rotI; split <;> omega
theorem rotB_octets {l : List Int} (h : Octets l) (k : Nat) : Octets (rotB l k) := fun x hx => by
  rcases List.mem_or_eq_of_mem_set hx with hx | rfl
  · exact h x hx
  · exact rotI_bd (getD_bd h k)

set_option maxRecDepth 20000 in
set_option maxHeartbeats 6400000 in
theorem refRot_no (v : Value) (a : ArrP) (d s k : Int) (w : World) (h : ArrV w v a) (ha : Whole a) (hk : ¬ rotOk a d s k) :
    Calls Try.prog 28 #[v, .int .i64 d, .int .i64 s, .int .i64 k] w fun e w' => ∃ r, e = .returned (.tuple #[r, .int .i64 (rotE a d s k)]) ∧ ArrV w' r (rotL a d s k) ∧ Grow w w' := by
  have HE : Hid (rotE a d s k = 6 ∧ rotL a d s k = a) := ⟨if_neg hk, if_neg hk⟩
  have hcase : d < 0 ∨ (0 ≤ d ∧ 3 < d) ∨ (0 ≤ d ∧ d ≤ 3 ∧ s < 0) ∨ (0 ≤ d ∧ d ≤ 3 ∧ 0 ≤ s ∧ 2 < s) ∨ (0 ≤ d ∧ d ≤ 3 ∧ 0 ≤ s ∧ s ≤ 2 ∧ k < 0) ∨ (0 ≤ d ∧ d ≤ 3 ∧ 0 ≤ s ∧ s ≤ 2 ∧ 0 ≤ k ∧ ((cellAt a d.toNat s.toNat).length : Int) ≤ k) := by
    unfold rotOk at hk
    omega
  clear hk
  obtain ⟨dv, iv, e, hd, hit⟩ := ArrX.old (g := none) h (Grow.refl w) (fun _ h => nomatch h) |>.toG
  obtain ⟨a1, n1, c1, a2, n2, c2, rfl⟩ := h.form
  have hgF : Grow w ((w.alloc (.cells #[.slice a1 n1 c1, .slice a2 n2 c2] 26)).alloc (.cells #[.slice a1 n1 c1, .slice a2 n2 c2] 26)) := (Grow.alloc _ _).trans (Grow.alloc _ _)
  have hfin : Hid (_ ∧ _) := ⟨h.grow hgF, hgF⟩
  rcases hcase with h1 | ⟨h1, h2⟩ | ⟨h1, h2, h3⟩ | ⟨h1, h2, h3, h4⟩ | ⟨h1, h2, h3, h4, h5⟩ | ⟨h1, h2, h3, h4, h5, h6⟩
  case inr.inr.inr.inr.inr =>
    simp only [Value.agg.injEq] at e
    have e := congrArg Array.toList e
    simp at e
    obtain ⟨rfl, rfl⟩ := e
    obtain ⟨d, rfl⟩ := Int.eq_ofNat_of_zero_le h1
    obtain ⟨s, rfl⟩ := Int.eq_ofNat_of_zero_le h3
    have hn : n1 = 4 := by
      obtain ⟨q1, q2, q3⟩ := hd.form
      injection q3 with _ q4 _
      rw [q4, ha.1]
    subst hn
    obtain ⟨b, off, c', b', off', u', n', cc', rfl, hc1, hc2, hb, h3c⟩ := ArrG.cell hd ha (k := d) (s := s) (by omega) (by omega)
    have hl := hb.here.len
    unfold maxLen at hl
    obtain ⟨_, _, e2, -⟩ := hb.here
    injection e2 with _ e3 _
    simp only [Int.toNat_natCast] at h6
    rw [← e3] at h6 hl
    have gA := Grow.alloc w (.cells #[.slice (some ⟨b, off, none⟩) 4 c1, .slice a2 n2 c2] 26)
    have gB := gA.trans (Grow.alloc _ (.cells #[.slice none 0 0, .slice none 0 0] 26))
    have hc1' := gB.at hc1
    have hc2' := gB.at hc2
    have hdi : (d : Int) < 4 := by omega
    have hsi : (s : Int) < 3 := by omega
    clear hc1 hc2 hd hit hb gA gB hgF h
    go_enter Try.func28, Try.ntmps28
    go_wp2
    refine bodyPost_ret (results_two1 Try.results28 _ _ (w.heap.size + 1) _ rfl Try.underlying26 rfl Try.sizeA (x := .slice (some ⟨b, off, none⟩) 4 c1) (y := .slice a2 n2 c2) (by simp) (by simp)) rfl ?_
    exact ⟨_, ret_bs2 HE.out.1.symm, by rw [HE.out.2]; exact hfin.out.1, hfin.out.2⟩
  all_goals
    clear hd hit e h hgF
    go_enter Try.func28, Try.ntmps28
    go_wp2
    refine bodyPost_ret (results_two1 Try.results28 _ _ (w.heap.size + 1) _ rfl Try.underlying26 rfl Try.sizeA (x := .slice a1 n1 c1) (y := .slice a2 n2 c2) (by simp) (by simp)) rfl ?_
    exact ⟨_, ret_bs2 HE.out.1.symm, by rw [HE.out.2]; exact hfin.out.1, hfin.out.2⟩

theorem rotB_map (l : List Int) (k : Nat) (z : Int) (h : z = rotI (l.getD k 0)) : (l.map (Value.int .u8)).set k (.int .u8 z) = (rotB l k).map (Value.int .u8) := by rw [rotB, List.map_set, h]

set_option maxRecDepth 20000 in
set_option maxHeartbeats 6400000 in
theorem refRot_yes (v : Value) (a : ArrP) (d s k : Nat) (w : World) (h : ArrV w v a) (ha : Whole a) (hi : Fours a) (hd4 : d < 4) (hs3 : s < 3) (hk : k < (cellAt a d s).length) (h1000 : (cellAt a d s).length ≤ 1000) :
    Calls Try.prog 28 #[v, .int .i64 d, .int .i64 s, .int .i64 k] w fun e w' => ∃ r, e = .returned (.tuple #[r, .int .i64 0]) ∧ ArrV w' r (withL a d s (rotB (cellAt a d s) k)) ∧ Grow w w' := by
  obtain ⟨i0, hj, hz0, hz1, hz2⟩ := info_parts Try.infoB
  obtain ⟨dv, iv, e, hd, hit⟩ := ArrX.old (g := none) h (Grow.refl w) (fun _ h => nomatch h) |>.toG
  obtain ⟨a1, n1, c1, a2, n2, c2, rfl⟩ := h.form
  simp only [Value.agg.injEq] at e
  have e := congrArg Array.toList e
  simp at e
  obtain ⟨rfl, rfl⟩ := e
  have hn : n1 = 4 := by
    obtain ⟨q1, q2, q3⟩ := hd.form
    injection q3 with _ q4 _
    rw [q4, ha.1]
  subst hn
  obtain ⟨b, off, c', b', off', u', n', cc', rfl, hc1, hc2, hbo, h3c⟩ := ArrG.cell hd ha hd4 hs3
  have hb := hbo.here
  have hoc := hb.octets
  have hll := hb.len
  unfold maxLen at hll
  obtain ⟨ao, cb, e2, hcl, -, -, -, hcs⟩ := hb
  injection e2 with e4 e3 e5
  subst e4 e5
  obtain ⟨bb, ob, rfl, -⟩ := hcs (by omega)
  have HS : Hid (∀ (j : Nat) u, ((cellAt a d s).map (Value.int .u8))[j]? = some u → w.cell? ((⟨bb, ob, none⟩ : Addr).add j) = some u) := fun j u hu => hcs.src _ rfl j u hu
  have HL : Hid ((cellAt a d s).length = n') := e3.symm
  have hkn : k < n' := by omega
  have hn1000 : n' ≤ 1000 := by omega
  have hwW := withL_whole (s := s) ha hd4 (rotB (cellAt a d s) k)
  have hwF : Fours (withL a d s (rotB (cellAt a d s) k)) := hi
  generalize cellAt a d s = l at *
  clear hk e3 hcs hbo h1000 hll
  obtain ⟨W, hW⟩ : ∃ W, W = (w.alloc (.cells #[.slice (some ⟨b, off, none⟩) 4 c1, .slice a2 n2 c2] 26)).alloc (.cells #[.slice none 0 0, .slice none 0 0] 26) := ⟨_, rfl⟩
  have hgW : Grow w W := by rw [hW]; exact (Grow.alloc _ _).trans (Grow.alloc _ _)
  have hI : BInv w w.heap.size (w.heap.size + 1) (.slice (some ⟨b, off, none⟩) 4 c1) (.slice a2 n2 c2) a W := ⟨by rw [hW]; exact ⟨(heap_alloc_old _ _ (by simp)).trans (heap_alloc_new w _), heap_alloc2_new w _ _⟩, h.grow hgW, hgW⟩
  have HW : Hid (W.heap.size = w.heap.size + 1 + 1) := by rw [Hid, hW]; simp
  have HE0 : Hid ((W.alloc (.cells #[] 5)).heap[w.heap.size + 1 + 1]? = some (.cells #[] 5 (0, 0))) := by
    have := heap_alloc_new W (.cells #[] 5)
    rw [HW.out] at this
    exact this
  have gE : Grow W (W.alloc (.cells #[] 5)) := Grow.alloc _ _
  have hc1' := (hgW.trans gE).at hc1
  have hc2' := (hgW.trans gE).at hc2
  have hc1'' := hgW.at hc1
  have hc2'' := hgW.at hc2
  have hdi : (d : Int) < 4 := by omega
  have hsi : (s : Int) < 3 := by omega
  have hki : (k : Int) < n' := by omega
  have HH : Hid (∀ (j : Nat) u, (l.map (Value.int .u8))[j]? = some u → W.cell? ((⟨bb, ob, none⟩ : Addr).add j) = some u) := fun j u hu => hgW.at (HS.out j u hu)
  have hx := getD_bd hoc k
  have Hl : Hid ((l.map (Value.int .u8)).length = n') := by rw [Hid, List.length_map]; exact HL.out
  have Hk : Hid ((l.map (Value.int .u8))[k]? = some (.int .u8 (l.getD k 0))) := by
    rw [Hid, List.getElem?_map]
    have := HL.out
    simp [List.getD_eq_getElem?_getD, show k < l.length by omega]
  have qa0 := two_at0 hI.1.out.1
  have qa1 := two_at1 hI.1.out.1
  have qa0' := gE.at qa0
  have qa1' := gE.at qa1
  have t1 : decide ((d : Int) < 0) = false := by simp
  have t2 : decide (3 < (d : Int)) = false := by simp; omega
  have t3 : decide ((s : Int) < 0) = false := by simp
  have t4 : decide (2 < (s : Int)) = false := by simp; omega
  have t5 : decide ((k : Int) < 0) = false := by simp
  have qr0 := two_at0 hI.1.out.2
  have qr1 := two_at1 hI.1.out.2
  have fr0 : W.frozen? ⟨w.heap.size + 1, 0, none⟩ = false := frozen_of_row W _ 0 _ _ hI.1.out.2
  have fr1 : W.frozen? ⟨w.heap.size + 1, 1, none⟩ = false := frozen_of_row W _ 1 _ _ hI.1.out.2
  have HM : Hid (∀ (z : Int) (w1 : World) (g1 cg : Nat), z = rotI (l.getD k 0) → w1.ownsRow W.heap.size 5 1 (.slice (some ⟨g1, 0, none⟩) n' cg) n' (l.map (Value.int .u8)) → Grow W w1 → W.heap.size ≤ g1 →
      Bs (w1.setCell ⟨g1, k, none⟩ (.int .u8 z)) (.slice (some ⟨g1, 0, none⟩) n' cg) (rotB l k) ∧ Grow W (w1.setCell ⟨g1, k, none⟩ (.int .u8 z))) := fun z w1 g1 cg hz ho hg hle =>
    ⟨Bs.of_own (by have := (ho.stored k (.int .u8 z)).1; rw [rotB_map l k z hz] at this; exact this) (rotB_octets hoc k), hg.set hle _⟩
  generalize l.getD k 0 = x at *
  by_cases hp : x % 2 = 0
  · have HR : Hid (rotI x = x + 1) := if_pos hp
    go_enter Try.func28, Try.ntmps28
    subst hW
    go_wp2_with (first
      | (at_builtin; refine wpList_append_copy rfl (.tmp 43) (.tmp 51) 52 rfl 5 i0 (.int .u8 0) 1 Try.underlying52 hj hz0 hz1 hz2 rfl (w.heap.size + 1 + 1) HE0.out _ gE (Nat.le_of_eq HW.out) rfl ⟨bb, ob, none⟩ n' cc' (l.map (Value.int .u8)) rfl Hl.out HH.out (u8_oneCell _) (by omega) (by omega) (by omega) ?_; rintro g1 cg w1 hown hg1 hle - - -; have kx : w1.cell? ⟨g1, k, none⟩ = some (.int .u8 x) := (hown.cellAt k (by omega)).trans (Hk.out); have fx : w1.frozen? ⟨g1, k, none⟩ = false := hown.frozenAt k; have hX := HM.out (x + 1) w1 g1 cg HR.out.symm hown hg1 hle; have HX : Hid (_ ∧ _) := hX; have b0 := hX.2.at qa0; have b1 := hX.2.at qa1; clear hown hle hX))
    refine (refWith_any _ _ a d s (rotB l k) _ (h.grow (hgW.trans HX.out.2)) ha hd4 hs3 HX.out.1).mono ?_
    rintro e w5 ⟨r, rfl, hr, hg5⟩
    obtain ⟨p1, p2, p3, o1, o2, o3, rfl⟩ := hr.form
    have hg15 := HX.out.2.trans hg5
    have b05 := hg15.at qr0
    have b15 := hg15.at qr1
    have f05 := (hg15.frozen (a := ⟨w.heap.size + 1, 0, none⟩) (cell_lt qr0)).trans fr0
    have f15 := (hg15.frozen (a := ⟨w.heap.size + 1, 1, none⟩) (cell_lt qr0)).trans fr1
    have hb5 := two_set1 (z := .slice o1 o2 o3) (two_set0 (z := .slice p1 p2 p3) (hg15.block' hI.1.out.2))
    have z0 := two_at0 hb5
    have z1 := two_at1 hb5
    have hfin : Hid (_ ∧ _) := ⟨Two.store (R := w.heap.size + 1) ⟨_, _, _, _, _, _, _, hg15.block' hI.1.out.2⟩ hr hwW hwF (.slice p1 p2 p3) (.slice o1 o2 o3), ((hgW.trans hg15).set (g := w.heap.size + 1) (k := 0) (by omega) (.slice p1 p2 p3)).set (g := w.heap.size + 1) (k := 1) (by omega) (.slice o1 o2 o3)⟩
    clear hb5 hr
    go_wp2
    refine bodyPost_ret (results_two1 Try.results28 _ _ (w.heap.size + 1) _ rfl Try.underlying26 rfl Try.sizeA z0 z1) rfl ?_
    exact ⟨_, rfl, hfin.out.1, hfin.out.2⟩
  · have HR : Hid (rotI x = x - 1) := if_neg hp
    go_enter Try.func28, Try.ntmps28
    subst hW
    go_wp2_with (first
      | (at_builtin; refine wpList_append_copy rfl (.tmp 43) (.tmp 51) 52 rfl 5 i0 (.int .u8 0) 1 Try.underlying52 hj hz0 hz1 hz2 rfl (w.heap.size + 1 + 1) HE0.out _ gE (Nat.le_of_eq HW.out) rfl ⟨bb, ob, none⟩ n' cc' (l.map (Value.int .u8)) rfl Hl.out HH.out (u8_oneCell _) (by omega) (by omega) (by omega) ?_; rintro g1 cg w1 hown hg1 hle - - -; have kx : w1.cell? ⟨g1, k, none⟩ = some (.int .u8 x) := (hown.cellAt k (by omega)).trans (Hk.out); have fx : w1.frozen? ⟨g1, k, none⟩ = false := hown.frozenAt k; have hX := HM.out (x - 1) w1 g1 cg HR.out.symm hown hg1 hle; have HX : Hid (_ ∧ _) := hX; have b0 := hX.2.at qa0; have b1 := hX.2.at qa1; clear hown hle hX))
    refine (refWith_any _ _ a d s (rotB l k) _ (h.grow (hgW.trans HX.out.2)) ha hd4 hs3 HX.out.1).mono ?_
    rintro e w5 ⟨r, rfl, hr, hg5⟩
    obtain ⟨p1, p2, p3, o1, o2, o3, rfl⟩ := hr.form
    have hg15 := HX.out.2.trans hg5
    have b05 := hg15.at qr0
    have b15 := hg15.at qr1
    have f05 := (hg15.frozen (a := ⟨w.heap.size + 1, 0, none⟩) (cell_lt qr0)).trans fr0
    have f15 := (hg15.frozen (a := ⟨w.heap.size + 1, 1, none⟩) (cell_lt qr0)).trans fr1
    have hb5 := two_set1 (z := .slice o1 o2 o3) (two_set0 (z := .slice p1 p2 p3) (hg15.block' hI.1.out.2))
    have z0 := two_at0 hb5
    have z1 := two_at1 hb5
    have hfin : Hid (_ ∧ _) := ⟨Two.store (R := w.heap.size + 1) ⟨_, _, _, _, _, _, _, hg15.block' hI.1.out.2⟩ hr hwW hwF (.slice p1 p2 p3) (.slice o1 o2 o3), ((hgW.trans hg15).set (g := w.heap.size + 1) (k := 0) (by omega) (.slice p1 p2 p3)).set (g := w.heap.size + 1) (k := 1) (by omega) (.slice o1 o2 o3)⟩
    clear hb5 hr
    go_wp2
    refine bodyPost_ret (results_two1 Try.results28 _ _ (w.heap.size + 1) _ rfl Try.underlying26 rfl Try.sizeA z0 z1) rfl ?_
    exact ⟨_, rfl, hfin.out.1, hfin.out.2⟩

theorem refRot_any (v : Value) (a : ArrP) (d s k : Int) (w : World) (h : ArrV w v a) (ha : Whole a) (hi : Fours a) (h1000 : ∀ d s, (cellAt a d s).length ≤ 1000) :
    Calls Try.prog 28 #[v, .int .i64 d, .int .i64 s, .int .i64 k] w fun e w' => ∃ r, e = .returned (.tuple #[r, .int .i64 (rotE a d s k)]) ∧ ArrV w' r (rotL a d s k) ∧ Grow w w' := by
  by_cases hk : rotOk a d s k
  · have hk' := hk
    obtain ⟨h1, h2, h3, h4, h5, h6⟩ := hk'
    obtain ⟨d, rfl⟩ := Int.eq_ofNat_of_zero_le h1
    obtain ⟨s, rfl⟩ := Int.eq_ofNat_of_zero_le h3
    obtain ⟨k, rfl⟩ := Int.eq_ofNat_of_zero_le h5
    simp only [Int.toNat_natCast] at h6
    rw [rotE, rotL, if_pos hk, if_pos hk]
    simp only [Int.toNat_natCast]
    exact refRot_yes v a d s k w h ha hi (by omega) (by omega) (by omega) (h1000 d s)
  · exact refRot_no v a d s k w h ha hk

end Go.Proofs.Ytjggiameajndgac

/-
  As Rowing, with a set of other blocks that may be written too.
-/
namespace Go.Proofs.Ytjggiameajndgac
open Go.RowKit

/-- New blocks, and writes to blocks of G alone. -/
structure GrownIn (w w' : World) (G : Nat → Prop) : Prop where
  os : w'.os = w.os
  tape : w'.tape = w.tape
  output : w'.output = w.output
  size : w.heap.size ≤ w'.heap.size
  block : ∀ k, k < w.heap.size → ¬ G k → w'.heap[k]? = w.heap[k]?

theorem GrownIn.refl (w : World) (G : Nat → Prop) : GrownIn w w G := ⟨rfl, rfl, rfl, Nat.le_refl _, fun _ _ _ => rfl⟩
theorem GrownIn.trans {x y z : World} {G : Nat → Prop} (h : GrownIn x y G) (k : GrownIn y z G) : GrownIn x z G :=
  ⟨k.os.trans h.os, k.tape.trans h.tape, k.output.trans h.output, Nat.le_trans h.size k.size, fun j hj hn => (k.block j (Nat.lt_of_lt_of_le hj h.size) hn).trans (h.block j hj hn)⟩
theorem Grow.inn {w w' : World} (h : Grow w w') (G : Nat → Prop) : GrownIn w w' G := ⟨h.os, h.tape, h.output, h.size, fun k hk _ => h.block k hk⟩
theorem GrownIn.of_by {w w' : World} {g : Option Nat} {G : Nat → Prop} (h : w.grownBy w' g) (hg : ∀ k, g = some k → G k) : GrownIn w w' G := ⟨h.os, h.tape, h.output, h.size, fun k hk hn => h.block k hk (fun e => hn (hg k e.symm))⟩
theorem GrownIn.cell {w w' : World} {G : Nat → Prop} (h : GrownIn w w' G) {a : Addr} {v : Value} (hv : w.cell? a = some v) (hn : ¬ G a.block) : w'.cell? a = some v := (World.cell?_of_block (h.block a.block (cell_lt' hv) hn)).trans hv

/-- It reads so in every world that agrees with w off the blocks of G. -/
def OffG {α : Type} (R : World → Value → α → Prop) (G : Nat → Prop) (w : World) (u : Value) (x : α) : Prop := ∀ w', GrownIn w w' G → R w' u x

section
variable {α : Type} {R : World → Value → α → Prop} {F G : Nat → Prop} {w w0 w1 : World} {u v : Value} {x : α} {xs : List α} {B : Nat} {e : TypeId}

theorem OffG.here (h : OffG R G w u x) : R w u x := h w (GrownIn.refl _ _)
theorem OffG.step (h : OffG R G w u x) (hg : GrownIn w w1 G) : OffG R G w1 u x := fun w' h' => h w' (hg.trans h')
theorem OffG.grow (h : OffG R G w u x) (hg : Grow w w1) : OffG R G w1 u x := h.step (hg.inn G)
theorem OffG.mono (h : OffG R G w u x) (hF : ∀ k, F k → G k) : OffG R F w u x := fun w' h' => h w' ⟨h'.os, h'.tape, h'.output, h'.size, fun k hk hn => h'.block k hk (fun hf => hn (hF k hf))⟩
theorem OffG.old (hR : Stays R) (h : R w0 u x) (hg : Grow w0 w) (hk : ∀ k, G k → w0.heap.size ≤ k) : OffG R G w u x := fun w' h' =>
  hR w0 w' u x h ⟨h'.os.trans hg.os, h'.tape.trans hg.tape, h'.output.trans hg.output, Nat.le_trans hg.size h'.size, fun j hj => (h'.block j (Nat.lt_of_lt_of_le hj hg.size) (fun e => by have := hk j e; omega)).trans (hg.block j hj)⟩

theorem own_kept {n : Nat} {us : List Value} (h : w.ownsRow B e 1 v n us) (hg : GrownIn w w1 G) (hn : ∀ k, v.ownBlock = some k → ¬ G k) : w1.ownsRow B e 1 v n us := by
  obtain ⟨h1, h2⟩ := h
  refine ⟨h1, ?_⟩
  rcases h2 with h2 | ⟨g, cap, cur, hv, hb, hh, hr⟩
  · exact .inl h2
  · have hlt : g < w.heap.size := by
      by_cases hlt : g < w.heap.size
      · exact hlt
      · rw [Array.getElem?_eq_none (Nat.le_of_not_lt hlt)] at hh; cases hh
    exact .inr ⟨g, cap, cur, hv, hb, (hg.block g hlt (hn g (by rw [hv]; rfl))).trans hh, hr⟩

/-- The slice v of the call's own reads as xs; it, and blocks of F, may be written on. -/
def RowingF (F : Nat → Prop) (R : World → Value → α → Prop) (B : Nat) (e : TypeId) (w : World) (v : Value) (xs : List α) : Prop :=
  ∃ us, w.ownsRow B e 1 v xs.length us ∧ us.length = xs.length ∧ ∀ (i : Nat) u x, us[i]? = some u → xs[i]? = some x → OffG R (fun k => F k ∨ v.ownBlock = some k) w u x

theorem RowingF.nil (F : Nat → Prop) (R : World → Value → α → Prop) (B : Nat) (e : TypeId) (w : World) : RowingF F R B e w (.slice none 0 0) [] :=
  ⟨[], World.ownsRow_nil _ _ _ _, rfl, fun i u x hu => by simp at hu⟩

theorem RowingF.grow (h : RowingF F R B e w v xs) (hg : Grow w w1) : RowingF F R B e w1 v xs := by
  obtain ⟨us, h1, h2, h3⟩ := h
  exact ⟨us, grow_own h1 hg, h2, fun i u x hu hx => (h3 i u x hu hx).grow hg⟩

theorem RowingF.done (h : RowingF F R B e w v xs) : Sl R w v xs := by
  obtain ⟨us, h1, _, h3⟩ := h
  exact Sl.of_own h1 rfl (fun i u x hu hx => (h3 i u x hu hx).here)

theorem RowingF.base (h : RowingF F R B e w v xs) : ∀ k, v.ownBlock = some k → B ≤ k ∧ k < w.heap.size := by
  obtain ⟨us, h1, _, _⟩ := h
  exact h1.lt

/-- A write to a block of F. -/
theorem RowingF.set (h : RowingF F R B e w v xs) {A : Nat} (hA : F A) (hn : v.ownBlock ≠ some A) (k : Nat) (u : Value) : RowingF F R B e (w.setCell ⟨A, k, none⟩ u) v xs := by
  obtain ⟨us, h1, h2, h3⟩ := h
  have hg : ∀ G : Nat → Prop, G A → GrownIn w (w.setCell ⟨A, k, none⟩ u) G := fun G hG => ⟨rfl, rfl, rfl, by simp, fun j _ hj => Below.heap_setCell w _ _ j (fun e => hj (by rw [e]; exact hG))⟩
  exact ⟨us, own_kept h1 (hg (fun k => k = A) rfl) (fun j hj e => hn (by rw [hj, e])), h2, fun i q x hu hx => (h3 i q x hu hx).step (hg _ (.inl hA))⟩

/-- The whole slice is readable off F. -/
theorem RowingF.off (h : RowingF F R B e w v xs) (hG : ∀ k, G k → F k) (hn : ∀ k, v.ownBlock = some k → ¬ G k) : OffG (Sl R) G w v xs := fun w' h' => by
  obtain ⟨us, h1, h2, h3⟩ := h
  exact Sl.of_own (own_kept h1 h' hn) rfl (fun i u x hu hx => (h3 i u x hu hx).mono (F := G) (fun k hk => .inl (hG k hk)) w' h')

/-- An append of one element to such a row. -/
theorem wpList_pushF {P : Program} {ops : Array Oper} {rest : List Oper} {o : Oper} {a : Act} {Q : Exit → Act → World → Prop} (hgd : o.guard = none) (s y : Operand) (t : TypeId)
    (ho : o.op = .call { callee := .builtin .append, args := #[s, y], argTypes := #[t, t] })
    (i : TypeInfo) (z : Value) (bytes : Nat) (ht : P.underlying t = some (.slice e)) (hi : P.info? e = some i) (hz : i.zero = some z)
    (hsize : i.size = 1) (hby : i.bytes = bytes) (hzs : z.cells.size = 1)
    (w0 : World) (hG : Grow w0 w) (hB : w0.heap.size ≤ B) (hBw : B ≤ w.heap.size)
    (hs : a.eval s = v) (hrow : RowingF F R B e w v xs) (hu1 : u.oneCell' = true) (hoff : OffG R (fun k => F k ∨ v.ownBlock = some k) w u x)
    (H : Nat) (hH : w.heap.size = H) (hy : a.eval y = .slice (some ⟨H, 0, none⟩) 1 1)
    (h63 : xs.length + 1 ≤ 4611686018427387904) (hbytes : (xs.length + 1) * bytes ≤ 140737488355328)
    (h : ∀ v' w', (∃ g cap, v' = .slice (some ⟨g, 0, none⟩) (xs.length + 1) cap) → RowingF F R B e w' v' (xs ++ [x]) → Grow w0 w' → GrownIn w w' (fun k => v.ownBlock = some k) → wpList P ops Q rest (a.put o.dst v') w') :
    wpList P ops Q (o :: rest) a (w.alloc (.cells #[u] e)) := by
  subst hH
  obtain ⟨us, h1, h2, h3⟩ := hrow
  have hsz : w.heap.size < (w.alloc (.cells #[u] e)).heap.size := by simp
  have hgA : Grow w (w.alloc (.cells #[u] e)) := (Below.refl _ _).alloc (Nat.le_refl _) _
  refine wpList_append_lies _ hgd s y t ho B e i z 1 bytes ht hi hz hsize hby hzs (by decide) v xs.length us hs (h1.alloc _) ⟨w.heap.size, 0, none⟩ 1 1 [u] hy rfl ?_ ?_ (by decide) (by unfold maxLen; omega) hbytes (by omega) _ rfl ?_
  · exact fun j q hj => World.news_of_block (heap_alloc_new w _) j q (by simpa using hj)
  · intro q hq
    simp at hq
    subst hq
    exact hu1
  · intro g' cap w' hown hgr hat _
    refine h _ _ ⟨g', cap, rfl⟩ ⟨us ++ [u], by simpa using hown, by simp [h2], fun j q y' hq hy' => ?_⟩ (Below.grown (hG.trans hgA) hgr (Nat.le_trans hG.size (Nat.le_of_lt hsz)) (fun k hk => by have := (h1.lt k hk).1; omega)) ((hgA.inn _).trans (GrownIn.of_by hgr (fun k hk => hk)))
    have key : ∀ q y', OffG R (fun k => F k ∨ v.ownBlock = some k) w q y' → OffG R (fun k => F k ∨ some g' = some k) w' q y' := by
      intro q y' hq w2 h2'
      have hq' := (hq.grow hgA).step (GrownIn.of_by hgr (fun k hk => .inr hk))
      refine hq.grow hgA w2 ⟨h2'.os.trans hgr.os, h2'.tape.trans hgr.tape, h2'.output.trans hgr.output, Nat.le_trans hgr.size h2'.size, fun j hj hn => ?_⟩
      have hn' : ¬ (F j ∨ v.ownBlock = some j) := hn
      have e1 := hgr.block j hj (fun e => hn' (.inr e.symm))
      refine (h2'.block j (Nat.lt_of_lt_of_le hj hgr.size) (fun hc => ?_)).trans e1
      rcases hc with hc | hc
      · exact hn' (.inl hc)
      · injection hc with hc
        rcases hat with hat | hat
        · exact hn' (.inr (by rw [hat, hc]))
        · omega
    show OffG R (fun k => F k ∨ some g' = some k) w' q y'
    by_cases hj : j < us.length
    · rw [List.getElem?_append_left hj] at hq
      rw [List.getElem?_append_left (by omega)] at hy'
      exact key q y' (h3 j q y' hq hy')
    · rw [List.getElem?_append_right (by omega)] at hq
      rw [List.getElem?_append_right (by omega)] at hy'
      obtain hj0 : j - us.length = 0 := by
        by_cases h0 : j - us.length = 0
        · exact h0
        · rw [List.getElem?_eq_none (by simp; omega)] at hq; cases hq
      rw [hj0] at hq
      rw [← h2, hj0] at hy'
      simp at hq hy'
      subst hq hy'
      exact key _ _ hoff

end

/-- Bytes of a row of the call's own. -/
theorem OffG.own {G : Nat → Prop} {w : World} {B : Nat} {e : TypeId} {v : Value} {n : Nat} {l : List Int} (h : w.ownsRow B e 1 v n (l.map (Value.int .u8))) (ho : Octets l) (hg : ∀ k, G k → k < B) : OffG Bs G w v l := fun _ h' =>
  Bs.of_own (own_kept h h' (fun k hk hGk => by have := hg k hGk; have := (h.lt k hk).1; omega)) ho

end Go.Proofs.Ytjggiameajndgac

/-
  What the reference's New returns: an array of noughts. Nothing old turns.
-/
namespace Go.Proofs.Ytjggiameajndgac
open Go.RowKit

/-- The first m cells of disk d, of noughts. -/
def newRow (d m : Nat) : List (List Int) := (List.range m).map fun (s : Nat) => cellOf d s nought
/-- The first k disks. -/
def newDs (k : Nat) : List (List (List Int)) := (List.range k).map fun d => newRow d 3
def newP : ArrP := ⟨newDs 4, []⟩

theorem newRow_succ (d m : Nat) : newRow d m ++ [cellOf d m nought] = newRow d (m + 1) := by simp [newRow, List.range_succ]
theorem newDs_succ (k : Nat) : newDs k ++ [newRow k 3] = newDs (k + 1) := by simp [newDs, List.range_succ]
theorem newP_whole : Whole newP := by
  refine ⟨by simp [newP, newDs], fun x hx => ?_⟩
  simp only [newP, newDs, List.mem_map] at hx
  obtain ⟨d, _, rfl⟩ := hx
  simp [newRow]
theorem newP_fours : Fours newP := fun p hp => by simp [newP] at hp

set_option maxRecDepth 20000 in
set_option maxHeartbeats 6400000 in
theorem refNew6_any (w : World) :
    Calls Try.prog 38 #[] w fun e w' => ∃ r, e = .returned r ∧ ArrV w' r newP ∧ Grow w w' := by
  obtain ⟨i0, hi, hz0, hz1, hz2⟩ := info_parts Try.infoS
  obtain ⟨i1, hj, hy0, hy1, hy2⟩ := info_parts Try.infoD
  obtain ⟨W, hW⟩ : ∃ W, W = (w.alloc (.cells #[.slice none 0 0, .slice none 0 0] 26)).alloc (.cells #[.slice none 0 0, .slice none 0 0] 26) := ⟨_, rfl⟩
  have hgW : Grow w W := by rw [hW]; exact (Grow.alloc _ _).trans (Grow.alloc _ _)
  have hbR : W.heap[w.heap.size]? = some (.cells #[.slice none 0 0, .slice none 0 0] 26 (0, 0)) := by rw [hW]; exact (heap_alloc_old _ _ (by simp)).trans (heap_alloc_new w _)
  have hbA : W.heap[w.heap.size + 1]? = some (.cells #[.slice none 0 0, .slice none 0 0] 26 (0, 0)) := by rw [hW]; exact heap_alloc2_new w _ _
  have HW : Hid (W.heap.size = w.heap.size + 2) := by rw [Hid, hW]; simp
  have HI : Hid (W.heap[w.heap.size]? = some (.cells #[.slice none 0 0, .slice none 0 0] 26 (0, 0)) ∧ W.heap[w.heap.size + 1]? = some (.cells #[.slice none 0 0, .slice none 0 0] 26 (0, 0))) := ⟨hbR, hbA⟩
  clear hbR hbA
  obtain ⟨F, hF⟩ : ∃ F : Nat → Prop, F = fun k => k = w.heap.size ∨ k = w.heap.size + 1 := ⟨_, rfl⟩
  have HF : Hid (F w.heap.size ∧ F (w.heap.size + 1) ∧ ∀ k, F k → k < w.heap.size + 2) := by rw [Hid, hF]; exact ⟨.inl rfl, .inr rfl, fun k hk => by omega⟩
  clear hF
  go_enter Try.func38, Try.ntmps38
  go_wp2
  rw [← hW]
  clear hW
  go_loopw [6] (fun q wr => ∃ (k : Nat) (dv : Value), k ≤ 4 ∧ q = .int .i64 k ∧ (∃ x1 x2 x3, dv = .slice x1 x2 x3) ∧ Hid (wr.heap[w.heap.size]? = some (.cells #[.slice none 0 0, .slice none 0 0] 26 (0, 0)) ∧ wr.heap[w.heap.size + 1]? = some (.cells #[dv, .slice none 0 0] 26 (0, 0))) ∧ Hid (RowingF F Bss (w.heap.size + 2) 41 wr dv (newDs k)) ∧ Grow w wr) (fun q _ => 4 - (intOf q).toNat)
  case atStart => exact ⟨0, _, by omega, rfl, ⟨_, _, _, rfl⟩, HI, RowingF.nil _ _ _ _ _, hgW⟩
  case round =>
    obtain ⟨k, dv, hk, rfl, ⟨x1, x2, x3, rfl⟩, HB, HR, hgr⟩ := hrel
    have hsz : w.heap.size + 2 ≤ wr.heap.size := by
      have := cell_lt (two_at0 HB.out.2)
      omega
    by_cases hlt : k < 4
    · obtain ⟨wo, hwo⟩ : ∃ wo : World, wo = wr := ⟨_, rfl⟩
      subst hwo
      have hd : decide ((k : Int) < 4) = true := by simp; omega
      go_wp2
      go_loopw [3, 9] (fun lv i wr => ∃ (m : Nat), m ≤ 3 ∧ i = .int .i64 m ∧ Hid (RowingF (fun j => F j ∨ (Value.slice x1 x2 x3).ownBlock = some j) Bs wo.heap.size 52 wr lv (newRow k m)) ∧ Grow wo wr) (fun _ i _ => 3 - (intOf i).toNat)
      case atStart => exact ⟨0, by omega, rfl, RowingF.nil _ _ _ _ _, Grow.refl _⟩
      case round =>
        obtain ⟨m, hm, rfl, HL, hgm⟩ := hrel
        by_cases hm3 : m < 3
        · have hgZ : Grow wr (wr.alloc (.cells #[.int .u8 0, .int .u8 0, .int .u8 0, .int .u8 0] 5)) := Grow.alloc _ _
          have hbz : Bs (wr.alloc (.cells #[.int .u8 0, .int .u8 0, .int .u8 0, .int .u8 0] 5)) (.slice (some ⟨wr.heap.size, 0, none⟩) 4 4) nought := Bs.row (l := nought) (heap_alloc_new wr _) rfl (by unfold maxLen; omega) nought_oct
          have hoc : Octets (cellOf (k : Int) m nought) := cellOf_octets (by omega) (by omega) nought_oct
          have hT := newRow_succ k m
          have hln : (newRow k m).length = m := by simp [newRow]
          go_wp2_with fail
          refine (refBytes_own _ nought k m _ (by simp [nought]) (by omega) (by omega) hbz).mono ?_
          rintro e w1 ⟨r, rfl, hown, hg1⟩
          have hg2 := hgZ.trans hg1
          obtain ⟨gr, cr, rfl, -, -⟩ := hown.form (by omega)
          have Hrow : Hid (RowingF (fun j => F j ∨ (Value.slice x1 x2 x3).ownBlock = some j) Bs wo.heap.size 52 w1 u3 (newRow k m)) := HL.out.grow hg2
          have Hoff : Hid (OffG Bs (fun j => (F j ∨ (Value.slice x1 x2 x3).ownBlock = some j) ∨ u3.ownBlock = some j) w1 (.slice (some ⟨gr, 0, none⟩) (nought.length + 4) cr) (cellOf k m nought)) :=
            OffG.own hown hoc (fun j hj => by
              have h2 := hgm.size
              have h3 := hgZ.size
              rcases hj with (hj | hj) | hj
              · have := HF.out.2.2 j hj; omega
              · have := (HR.out.base j hj).2; omega
              · have := (HL.out.base j hj).2; omega)
          have hgo := hgm.trans hg2
          clear HL hown hbz hoc hgZ
          rw [show nought.length = 4 from rfl] at Hoff ⊢
          go_wp2_with (first
            | (at_builtin; refine wpList_pushF rfl (.tmp 12) (.tmp 17) 41 rfl i0 (.slice none 0 0) 24 Try.underlying41 hi hz0 hz1 hz2 rfl wo hgo (Nat.le_refl _) hgo.size rfl Hrow.out rfl Hoff.out w1.heap.size rfl rfl (by omega) (by omega) ?_; rintro v1 w2 - hrow1 hg3 -))
          rw [hT] at hrow1
          go_wp2
          go_roundw
          case rel => first | exact ⟨m + 1, by omega, by go_num, hrow1, hg3⟩ | ((repeat apply Exists.intro); exact ⟨⟨m + 1, by omega, by go_num, hrow1, hg3⟩, rfl⟩)
          case measure => simp [intOf]; omega
        · obtain rfl : m = 3 := by omega
          obtain ⟨l1, l2, hl⟩ := HL.out.done.form
          have Hrow : Hid (RowingF F Bss (w.heap.size + 2) 41 wr (.slice x1 x2 x3) (newDs k)) := HR.out.grow hgm
          have Hoff : Hid (OffG Bss (fun j => F j ∨ (Value.slice x1 x2 x3).ownBlock = some j) wr u3 (newRow k 3)) := HL.out.off (fun j hj => hj) (fun j hj hG => by
            have h1 := (HL.out.base j hj).1
            rcases hG with hG | hG
            · have := HF.out.2.2 j hG; omega
            · have := (HR.out.base j hG).2; omega)
          subst hl
          have hbR := hgm.block' HB.out.1
          have hbA := hgm.block' HB.out.2
          have a0 := two_at0 hbA
          have fA0 : wr.frozen? ⟨w.heap.size + 1, 0, none⟩ = false := frozen_of_row wr _ 0 _ _ hbA
          have HB' : Hid (wr.heap[w.heap.size]? = some (.cells #[.slice none 0 0, .slice none 0 0] 26 (0, 0)) ∧ wr.heap[w.heap.size + 1]? = some (.cells #[.slice x1 x2 x3, .slice none 0 0] 26 (0, 0))) := ⟨hbR, hbA⟩
          have hgw := hgr.trans hgm
          have hT := newDs_succ k
          have hln : (newDs k).length = k := by simp [newDs]
          have hsz' : w.heap.size + 2 ≤ wr.heap.size := by have := hgm.size; omega
          have hb0 : ∀ j, (Value.slice x1 x2 x3).ownBlock = some j → w.heap.size + 2 ≤ j := fun j hj => (HR.out.base j hj).1
          have Hb0 : Hid (∀ j, (Value.slice x1 x2 x3).ownBlock = some j → w.heap.size + 2 ≤ j) := hb0
          have gE := Grow.alloc wr (.cells #[.slice l1 (newRow k 3).length l2] 41)
          have a0' := gE.at a0
          clear hb0 HL HR HB hbR hbA
          generalize (newRow k 3).length = L3 at *
          go_wp2_with (first
            | (at_builtin; refine wpList_pushF rfl (.tmp 21) (.tmp 23) 23 rfl i1 (.slice none 0 0) 24 Try.underlying23 hj hy0 hy1 hy2 rfl w hgw (by omega) hsz' rfl Hrow.out rfl Hoff.out wr.heap.size rfl rfl (by omega) (by omega) ?_; rintro v1 w2 ⟨g2, c2, rfl⟩ hrow2 hg2 hin2; have HB2 : Hid (w2.heap[w.heap.size]? = some (.cells #[.slice none 0 0, .slice none 0 0] 26 (0, 0)) ∧ w2.heap[w.heap.size + 1]? = some (.cells #[.slice x1 x2 x3, .slice none 0 0] 26 (0, 0))) := ⟨(hin2.block _ (by omega) (fun e => by have := Hb0.out _ e; omega)).trans HB'.out.1, (hin2.block _ (by omega) (fun e => by have := Hb0.out _ e; omega)).trans HB'.out.2⟩; have a02 := two_at0 HB2.out.2; have fA02 : w2.frozen? ⟨w.heap.size + 1, 0, none⟩ = false := frozen_of_row w2 _ 0 _ _ HB2.out.2))
          rw [hT] at hrow2
          have hne : g2 ≠ w.heap.size + 1 := by have := (hrow2.base g2 rfl).1; omega
          have HN : Hid (RowingF F Bss (w.heap.size + 2) 41 (w2.setCell ⟨w.heap.size + 1, 0, none⟩ (.slice (some ⟨g2, 0, none⟩) ((newDs k).length + 1) c2)) (.slice (some ⟨g2, 0, none⟩) ((newDs k).length + 1) c2) (newDs (k + 1))) := hrow2.set HF.out.2.1 (by simp [Value.ownBlock]; exact hne) 0 _
          have HB3 : Hid ((w2.setCell ⟨w.heap.size + 1, 0, none⟩ (.slice (some ⟨g2, 0, none⟩) ((newDs k).length + 1) c2)).heap[w.heap.size]? = some (.cells #[.slice none 0 0, .slice none 0 0] 26 (0, 0)) ∧ (w2.setCell ⟨w.heap.size + 1, 0, none⟩ (.slice (some ⟨g2, 0, none⟩) ((newDs k).length + 1) c2)).heap[w.heap.size + 1]? = some (.cells #[.slice (some ⟨g2, 0, none⟩) ((newDs k).length + 1) c2, .slice none 0 0] 26 (0, 0))) := ⟨set_other HB2.out.1 (by omega), two_set0 HB2.out.2⟩
          have hg3 := hg2.set (g := w.heap.size + 1) (k := 0) (by omega) (.slice (some ⟨g2, 0, none⟩) ((newDs k).length + 1) c2)
          rw [hln] at HN HB3 hg3
          clear hrow2 hin2 HB2 Hrow Hoff HB' gE
          go_roundw
          case rel => first | exact ⟨k + 1, _, by omega, by go_num, ⟨_, _, _, rfl⟩, HB3, HN, hg3⟩ | ((repeat apply Exists.intro); exact ⟨⟨k + 1, _, by omega, by go_num, ⟨_, _, _, rfl⟩, HB3, HN, hg3⟩, rfl⟩)
          case measure => simp [intOf]; omega
    · obtain rfl : k = 4 := by omega
      have a0 := two_at0 HB.out.2
      have a1 := two_at1 HB.out.2
      have r0 := two_at0 HB.out.1
      have r1 := two_at1 HB.out.1
      have f0 : wr.frozen? ⟨w.heap.size, 0, none⟩ = false := frozen_of_row wr _ 0 _ _ HB.out.1
      have f1 : wr.frozen? ⟨w.heap.size, 1, none⟩ = false := frozen_of_row wr _ 1 _ _ HB.out.1
      have hne : (Value.slice x1 x2 x3).ownBlock ≠ some w.heap.size := fun e => by have := (HR.out.base _ e).1; omega
      have hb := two_set1 (z := .slice none 0 0) (two_set0 (z := .slice x1 x2 x3) HB.out.1)
      have z0 := two_at0 hb
      have z1 := two_at1 hb
      have hfin : Hid (ArrV ((wr.setCell ⟨w.heap.size, 0, none⟩ (.slice x1 x2 x3)).setCell ⟨w.heap.size, 1, none⟩ (.slice none 0 0)) (.agg #[.slice x1 x2 x3, .slice none 0 0]) newP ∧ Grow w ((wr.setCell ⟨w.heap.size, 0, none⟩ (.slice x1 x2 x3)).setCell ⟨w.heap.size, 1, none⟩ (.slice none 0 0))) :=
        ⟨⟨_, _, rfl, ((HR.out.set HF.out.1 hne 0 _).set HF.out.1 hne 1 _).done, Its.nil _⟩, (hgr.set (Nat.le_refl _) _).set (Nat.le_refl _) _⟩
      clear hb HB HR HF
      go_wp2
      refine bodyPost_ret (results_two Try.results38 _ _ w.heap.size _ rfl Try.underlying26 rfl Try.sizeA z0 z1) rfl ?_
      exact ⟨_, rfl, hfin.out.1, hfin.out.2⟩

end Go.Proofs.Ytjggiameajndgac

/-
  Plain: what arrays are that come of steps; what a step makes of one.
-/
namespace Go.Proofs.Ytjggiameajndgac

/-- An array that came of steps. -/
structure Arr (a : ArrP) : Prop where
  whole : Whole a
  none : a.is = []
  short : ∀ d s, (cellAt a d s).length ≤ 8

theorem Arr.fours {a : ArrP} (h : Arr a) : Fours a := fun p hp => by rw [h.none] at hp; simp at hp

theorem cellAt_with {a : ArrP} {d s : Nat} {l : List Int} (hd : d < a.ds.length) (hs : s < (a.ds.getD d []).length) (d' s' : Nat) : cellAt (withL a d s l) d' s' = if d' = d ∧ s' = s then l else cellAt a d' s' := by
  simp only [cellAt, withL]
  by_cases h1 : d' = d
  · subst h1
    have e1 : (a.ds.set d' ((a.ds.getD d' []).set s l)).getD d' [] = (a.ds.getD d' []).set s l := by simp [List.getD_eq_getElem?_getD, hd]
    rw [e1]
    by_cases h2 : s' = s
    · subst h2
      rw [if_pos ⟨rfl, rfl⟩]
      rw [List.getD_eq_getElem?_getD, List.getElem?_set_self hs]
      rfl
    · rw [if_neg (fun h => h2 h.2), List.getD_eq_getElem?_getD, List.getElem?_set_ne (fun e => h2 e.symm), ← List.getD_eq_getElem?_getD]
  · rw [if_neg (fun h => h1 h.1)]
    rw [List.getD_eq_getElem?_getD (l := a.ds.set _ _), List.getElem?_set_ne (fun e => h1 e.symm), ← List.getD_eq_getElem?_getD]

theorem Whole.cellAt_with {a : ArrP} (ha : Whole a) {d s : Nat} (hd : d < 4) (hs : s < 3) (l : List Int) (d' s' : Nat) : cellAt (withL a d s l) d' s' = if d' = d ∧ s' = s then l else cellAt a d' s' := by
  have hdl : d < a.ds.length := by have := ha.1; omega
  refine Go.Proofs.Ytjggiameajndgac.cellAt_with hdl ?_ d' s'
  rw [ha.2 _ (by simp [List.getD_eq_getElem?_getD, hdl])]
  exact hs

theorem Arr.with {a : ArrP} (h : Arr a) {d s : Nat} (hd : d < 4) (hs : s < 3) {l : List Int} (hl : l.length ≤ 8) : Arr (withL a d s l) :=
  ⟨withL_whole h.whole hd l, h.none, fun d' s' => by rw [h.whole.cellAt_with hd hs]; split; exact hl; exact h.short d' s'⟩

theorem newP_arr : Arr newP := ⟨newP_whole, rfl, fun d s => by
  simp only [cellAt, newP, newDs, newRow, List.getD_eq_getElem?_getD]
  by_cases hd : d < 4
  · rw [List.getElem?_map, List.getElem?_range hd]
    simp only [Option.map_some, Option.getD_some]
    by_cases hs : s < 3
    · rw [List.getElem?_map, List.getElem?_range hs]
      simp only [Option.map_some, Option.getD_some]
      rw [cellOf_length]
      simp [nought]
    · rw [List.getElem?_eq_none (by simp; omega)]
      simp
  · rw [List.getElem?_eq_none (l := List.map _ (List.range 4)) (by simp; omega)]
    simp⟩

/-- All of an intent's writes: its cells, and no intents. -/
theorem writeTo_six_eq (a : ArrP) (i : Int × List (List Int)) : writeTo a i 6 = { putTo { a with is := [i] } i.2 i.1.toNat 4 with is := [] } := rfl

theorem putTo_arr {a : ArrP} (h : Arr a) {cs : List (List Int)} (hc : ∀ b ∈ cs, b.length ≤ 8) {s : Nat} (hs : s < 3) : ∀ k, k ≤ 4 → Arr (putTo a cs s k)
  | 0, _ => h
  | k + 1, hk => (putTo_arr h hc hs k (by omega)).with (by omega) hs (by
    by_cases hkl : k < cs.length
    · exact hc _ (getD_mem hkl)
    · rw [List.getD_eq_getElem?_getD, List.getElem?_eq_none (by omega)]; simp)

theorem putTo_ds (a b : ArrP) (h : a.ds = b.ds) (cs : List (List Int)) (s : Nat) : ∀ k, (putTo a cs s k).ds = (putTo b cs s k).ds
  | 0 => h
  | k + 1 => by simp only [putTo, withL]; rw [putTo_ds a b h cs s k]

theorem putTo_is (a : ArrP) (cs : List (List Int)) (s : Nat) : ∀ k, (putTo a cs s k).is = a.is
  | 0 => rfl
  | k + 1 => by simp only [putTo, withL]; exact putTo_is a cs s k

/-- Whatever its intents were, all six of an intent come to this. -/
theorem six_eq {a : ArrP} {i : Int × List (List Int)} : writeTo a i 6 = { putTo a i.2 i.1.toNat 4 with is := [] } := by
  rw [writeTo_six_eq]
  have := putTo_ds { a with is := [i] } a rfl i.2 i.1.toNat 4
  cases h1 : putTo { a with is := [i] } i.2 i.1.toNat 4
  cases h2 : putTo a i.2 i.1.toNat 4
  rw [h1, h2] at this
  simp only at this ⊢
  rw [this]

theorem putTo_none {a : ArrP} (h : a.is = []) (cs : List (List Int)) (s k : Nat) : { putTo a cs s k with is := [] } = putTo a cs s k := by
  have := putTo_is a cs s k
  rw [h] at this
  cases h1 : putTo a cs s k
  rw [h1] at this
  simp only at this ⊢
  rw [this]

theorem writeTo_is_mid (a : ArrP) (i : Int × List (List Int)) : ∀ k, 1 ≤ k → k ≤ 5 → (writeTo a i k).is = [i]
  | 1, _, _ => rfl
  | 2, _, _ => rfl
  | 3, _, _ => rfl
  | 4, _, _ => rfl
  | 5, _, _ => rfl

/-- Starting anew. -/
def mountL (a : ArrP) : ArrP := match a.is with | [] => a | i :: _ => writeTo a i 6

/-- A deed done. -/
def doA (a : ArrP) (x : DeedP) : ArrP := if planE a x = 0 then writeTo a (planI a x) 6 else a

/-- A deed that falls behind n of its writes. -/
def fallA (a : ArrP) (x : DeedP) (n : Int) : ArrP := if planE a x = 0 then mountL (writeL a (planI a x) n) else a

/-- A step. -/
structure StepP where
  k : Int
  n : Int
  m : Int
  d : DeedP

def stepE (a : ArrP) (s : StepP) : Int :=
  if s.k = 1 then planE a s.d else if s.k = 2 then planE a s.d else if s.k = 3 then (if s.n < 0 then 6 else rotE a (s.n / 3) (s.n % 3) s.m) else if s.k = 4 then goneE s.n else if s.k = 5 then mendE a s.n else 1
def stepA (a : ArrP) (s : StepP) : ArrP :=
  if s.k = 1 then doA a s.d else if s.k = 2 then fallA a s.d s.n else if s.k = 3 then (if s.n < 0 then a else rotL a (s.n / 3) (s.n % 3) s.m) else if s.k = 4 then goneL a s.n else if s.k = 5 then mendL a s.n else a

theorem planI_ok {a : ArrP} {x : DeedP} (h : planE a x = 0) : ∃ s : Nat, s < 3 ∧ s = sOf x.n ∧ wrongE x = 0 ∧ dataE (cellsL a s) s = 0 ∧ planI a x = ((s : Int), makeL (planOut (planBl a x) s) s) := by
  have hw0 : wrongE x = 0 := by
    unfold planE at h
    split at h
    · exact h
    · rename_i h'; exact Decidable.not_not.1 h'
  have hde : dataE (cellsL a (sOf x.n)) (sOf x.n) = 0 := by
    unfold planE at h
    rwa [if_neg (by simp [hw0])] at h
  obtain ⟨-, hn0, hn8, -, -⟩ := right_deed hw0
  obtain ⟨-, -, -, -, hs3⟩ := where_bd (n := x.n) (by omega)
  exact ⟨sOf x.n, hs3, rfl, hw0, hde, if_neg (by simp [h])⟩

theorem planBl_blocks {a : ArrP} (ha : Whole a) {x : DeedP} (h : planE a x = 0) : (∀ b ∈ planBl a x, b.length = 4) ∧ (planBl a x).length = 9 := by
  obtain ⟨s, hs3, rfl, hw0, hde, -⟩ := planI_ok h
  have hdl := dataL_length hde
  rw [cellsL_length, ha.1] at hdl
  exact ⟨doL_blocks (spread_blocks (dataL_blocks hde) hdl _ 9) (spreadTo_length _ _ _) hw0, by rw [planBl, doL_length, spreadTo_length]⟩

theorem makeL_mem {ds : List (List Int)} {s : Int} (h4 : ∀ b ∈ ds, b.length = 4) : ∀ b ∈ makeL ds s, b.length = 8 := by
  intro b hb
  simp only [makeL, List.mem_map, List.mem_range] at hb
  obtain ⟨d, hd, rfl⟩ := hb
  rw [cellOf_length, h4 _ (getD_mem hd)]

theorem planI_cells {a : ArrP} (ha : Whole a) {x : DeedP} (h : planE a x = 0) : (planI a x).2.length = 4 ∧ ∀ b ∈ (planI a x).2, b.length = 8 := by
  obtain ⟨s, hs3, -, -, -, he⟩ := planI_ok h
  obtain ⟨h4, h9⟩ := planBl_blocks ha h
  rw [he]
  exact ⟨by rw [makeL_length, planOut_length], makeL_mem (planOut_blocks h4 h9 hs3)⟩

theorem doA_eq {a : ArrP} (h : Arr a) {x : DeedP} (he : planE a x = 0) : doA a x = putTo a (planI a x).2 (planI a x).1.toNat 4 := by
  rw [doA, if_pos he, six_eq, putTo_none h.none]

theorem doA_arr {a : ArrP} (h : Arr a) (x : DeedP) : Arr (doA a x) := by
  by_cases he : planE a x = 0
  · obtain ⟨s, hs3, -, -, -, hi⟩ := planI_ok he
    rw [doA_eq h he]
    refine putTo_arr h (fun b hb => by rw [(planI_cells h.whole he).2 b hb]; omega) ?_ 4 (Nat.le_refl _)
    rw [hi]
    simpa using hs3
  · rw [doA, if_neg he]; exact h

/-- Behind a fall it is as it was, or as if the deed had been done. -/
theorem putTo_twice_at {a : ArrP} (ha : Whole a) (cs : List (List Int)) {s : Nat} (hs : s < 3) (d' s' : Nat) : ∀ k, k ≤ 4 → cellAt (putTo a cs s k) d' s' = if d' < k ∧ s' = s then cs.getD d' [] else cellAt a d' s'
  | 0, _ => by simp [putTo]
  | k + 1, hk => by
    rw [putTo, (putTo_whole ha cs s k (by omega)).cellAt_with (by omega) hs, putTo_twice_at ha cs hs d' s' k (by omega)]
    by_cases h1 : d' = k ∧ s' = s
    · rw [if_pos h1, if_pos ⟨by omega, h1.2⟩, h1.1]
    · rw [if_neg h1]
      by_cases h2 : d' < k ∧ s' = s
      · rw [if_pos h2, if_pos ⟨by omega, h2.2⟩]
      · rw [if_neg h2, if_neg (fun h => by
          by_cases h3 : d' = k
          · exact h1 ⟨h3, h.2⟩
          · exact h2 ⟨by omega, h.2⟩)]

/-- Arrays of the same cells are the same. -/
theorem arr_ext {a b : ArrP} (ha : Whole a) (hb : Whole b) (hi : a.is = b.is) (h : ∀ d s, d < 4 → s < 3 → cellAt a d s = cellAt b d s) : a = b := by
  obtain ⟨ads, ais⟩ := a
  obtain ⟨bds, bis⟩ := b
  obtain ⟨ha1, ha2⟩ := ha
  obtain ⟨hb1, hb2⟩ := hb
  simp only at ha1 ha2 hb1 hb2 hi
  simp only [ArrP.mk.injEq]
  refine ⟨List.ext_getElem (by omega) fun i h1 h2 => List.ext_getElem (by rw [ha2 _ (List.getElem_mem h1), hb2 _ (List.getElem_mem h2)]) fun j g1 g2 => ?_, hi⟩
  have h3 : ads[i].length = 3 := ha2 _ (List.getElem_mem h1)
  have := h i j (by omega) (by omega)
  simpa [cellAt, List.getD_eq_getElem?_getD, h1, h2, g1, g2] using this

theorem writeTo_mid_ds (a : ArrP) (i : Int × List (List Int)) : ∀ k, k ≤ 4 → (writeTo a i (k + 1)).ds = (putTo a i.2 i.1.toNat k).ds
  | 0, _ => rfl
  | 1, _ => rfl
  | 2, _ => rfl
  | 3, _ => rfl
  | 4, _ => rfl

theorem cellAt_ds {a b : ArrP} (h : a.ds = b.ds) (d s : Nat) : cellAt a d s = cellAt b d s := by rw [cellAt, cellAt, h]

theorem fallA_eq {a : ArrP} (h : Arr a) {x : DeedP} (he : planE a x = 0) (n : Int) : fallA a x n = if n ≤ 0 then a else doA a x := by
  obtain ⟨s, hs3, -, -, -, hi⟩ := planI_ok he
  rw [fallA, if_pos he]
  split
  · rename_i hn
    rw [show writeL a (planI a x) n = a from by rw [writeL, show many6 n = 0 from by unfold many6; omega]; rfl, mountL, h.none]
  · rename_i hn
    rw [doA, if_pos he]
    by_cases h6 : 6 ≤ n
    · rw [writeL, show many6 n = 6 from by unfold many6; omega]
      rw [mountL]
      rfl
    · obtain ⟨k, hk, hk4⟩ : ∃ k, many6 n = k + 1 ∧ k ≤ 4 := ⟨(n - 1).toNat, by unfold many6; omega, by omega⟩
      rw [writeL, hk, mountL, writeTo_is_mid a _ (k + 1) (by omega) (by omega)]
      simp only
      rw [six_eq, six_eq]
      have hs : (planI a x).1.toNat = s := by rw [hi]; simp
      rw [hs]
      have hw1 : Whole (writeTo a (planI a x) (k + 1)) := writeTo_whole h.whole _ _
      refine arr_ext (a := { putTo _ _ _ _ with is := [] }) (b := { putTo _ _ _ _ with is := [] }) (putTo_whole hw1 _ _ 4 (Nat.le_refl _)) (putTo_whole h.whole _ _ 4 (Nat.le_refl _)) rfl fun d' s' hd' hs' => ?_
      show cellAt (putTo _ _ _ _) d' s' = cellAt (putTo _ _ _ _) d' s'
      rw [putTo_twice_at hw1 _ hs3 d' s' 4 (Nat.le_refl _), putTo_twice_at h.whole _ hs3 d' s' 4 (Nat.le_refl _)]
      split
      · rfl
      · rename_i hns
        rw [cellAt_ds (writeTo_mid_ds a (planI a x) k hk4), hs, putTo_twice_at h.whole _ hs3 d' s' k hk4, if_neg (fun hc => hns ⟨hd', hc.2⟩)]

theorem fallA_arr {a : ArrP} (h : Arr a) (x : DeedP) (n : Int) : Arr (fallA a x n) := by
  by_cases he : planE a x = 0
  · rw [fallA_eq h he]
    split
    · exact h
    · exact doA_arr h x
  · rw [fallA, if_neg he]; exact h

theorem rotL_arr {a : ArrP} (h : Arr a) (d s k : Int) : Arr (rotL a d s k) := by
  unfold rotL
  split
  · rename_i hk
    obtain ⟨h1, h2, h3, h4, h5, h6⟩ := hk
    exact h.with (by omega) (by omega) (by rw [rotB, List.length_set]; exact h.short _ _)
  · exact h

theorem goneTo_arr {a : ArrP} (h : Arr a) {d : Nat} (hd : d < 4) : ∀ k, k ≤ 3 → Arr (goneTo a d k)
  | 0, _ => h
  | k + 1, hk => (goneTo_arr h hd k (by omega)).with hd (by omega) (by simp)

theorem goneL_arr {a : ArrP} (h : Arr a) (d : Int) : Arr (goneL a d) := by
  unfold goneL
  split
  · exact h
  · exact goneTo_arr h (by omega) 3 (Nat.le_refl _)

theorem mendL_arr {a : ArrP} (h : Arr a) (s : Int) : Arr (mendL a s) := by
  unfold mendL
  split
  · exact h
  · rename_i hn
    have hde : dataE (cellsL a s.toNat) s = 0 := Decidable.byContradiction fun hc => hn (.inr hc)
    have hs : ¬ (s < 0 ∨ 2 < s) := fun hc => hn (.inl hc)
    exact putTo_arr h (fun b hb => by rw [makeL_mem (dataL_blocks hde) b hb]; omega) (by omega) 4 (Nat.le_refl _)

theorem stepA_arr {a : ArrP} (h : Arr a) (s : StepP) : Arr (stepA a s) := by
  unfold stepA
  split
  · exact doA_arr h _
  split
  · exact fallA_arr h _ _
  split
  · split
    · exact h
    · exact rotL_arr h _ _ _
  split
  · exact goneL_arr h _
  split
  · exact mendL_arr h _
  · exact h

/-- What steps come to: at most a hundred. -/
def playTo (l : List StepP) : Nat → ArrP
  | 0 => newP
  | k + 1 => match l[k]? with | some s => stepA (playTo l k) s | none => playTo l k
def playL (l : List StepP) : ArrP := playTo l (min l.length 100)
def playEs (l : List StepP) (k : Nat) : List Int := (List.range k).map fun i => match l[i]? with | some s => stepE (playTo l i) s | none => 0

theorem playTo_arr (l : List StepP) : ∀ k, Arr (playTo l k)
  | 0 => newP_arr
  | k + 1 => by
    rw [playTo]
    split
    · exact stepA_arr (playTo_arr l k) _
    · exact playTo_arr l k

/-- Does a cell rot that is none? -/
def againB (a : ArrP) (s : StepP) : Bool := decide (s.k = 3 ∧ 0 ≤ s.n ∧ s.n ≤ 11 ∧ readE (cellAt a (s.n / 3).toNat (s.n % 3).toNat) (s.n / 3) (s.n % 3) ≠ 0)

/-- May this step be taken? -/
def gentleB (a : ArrP) (s : StepP) : Bool := !againB a s && decide (worstN (stepA a s) ≤ 1)

/-- How far steps are gentle, from k on, of at most so many. -/
def gentlyFrom (l : List StepP) (a : ArrP) : Nat → ArrP
  | 0 => a
  | n + 1 => match l with | [] => a | s :: r => if gentleB a s then gentlyFrom r (stepA a s) n else a
def gentlyL (l : List StepP) : ArrP := gentlyFrom l newP 100

theorem gentlyFrom_arr : ∀ (n : Nat) (l : List StepP) (a : ArrP), Arr a → Arr (gentlyFrom l a n)
  | 0, l, a, h => by rw [gentlyFrom]; exact h
  | n + 1, [], a, h => by rw [gentlyFrom]; exact h
  | n + 1, s :: r, a, h => by
    rw [gentlyFrom]
    split
    · exact gentlyFrom_arr n r _ (stepA_arr h s)
    · exact h

end Go.Proofs.Ytjggiameajndgac

/-
  Stores into rows of the call's own.
-/
namespace Go.Proofs.Ytjggiameajndgac
open Go.RowKit

section
variable {α : Type} {R : World → Value → α → Prop} {w w0 w1 : World} {u v : Value} {x : α} {xs : List α} {B : Nat} {e : TypeId}

theorem grown_set (w : World) (g k : Nat) (u : Value) : w.grownBy (w.setCell ⟨g, k, none⟩ u) (some g) := ⟨rfl, rfl, rfl, by simp, fun j _ hj => Below.heap_setCell w _ _ j (fun e => hj (by rw [e]))⟩

/-- The form of a row that has an element. -/
theorem Rowing.form (h : Rowing R B e w v xs) (hp : 0 < xs.length) : ∃ g cap, v = .slice (some ⟨g, 0, none⟩) xs.length cap ∧ B ≤ g ∧ g < w.heap.size := by
  obtain ⟨us, h1, _, _⟩ := h
  exact h1.form hp

theorem Rowing.cap {g n cap : Nat} (h : Rowing R B e w (.slice (some ⟨g, 0, none⟩) n cap) xs) : xs.length = n ∧ n ≤ cap ∧ cap ≤ 9223372036854775807 := by
  obtain ⟨ao, c, e1, h1, h2⟩ := h.done.form'
  injection e1 with _ e2 e3
  omega

/-- Its cells may be written. -/
theorem Rowing.at {g n cap : Nat} (h : Rowing R B e w (.slice (some ⟨g, 0, none⟩) n cap) xs) {k : Nat} (hk : k < xs.length) : (∃ u, w.cell? ⟨g, k, none⟩ = some u) ∧ w.frozen? ⟨g, k, none⟩ = false := by
  obtain ⟨rfl, -⟩ := h.cap
  obtain ⟨us, h1, h2, _⟩ := h
  refine ⟨⟨us[k]'(by omega), ?_⟩, h1.frozenAt k⟩
  rw [h1.cellAt k (by omega)]
  simp [show k < us.length by omega]

theorem Rowing.stored {g n cap : Nat} (h : Rowing R B e w (.slice (some ⟨g, 0, none⟩) n cap) xs) (k : Nat) (hoff : Off R (some g) w u x) : Rowing R B e (w.setCell ⟨g, k, none⟩ u) (.slice (some ⟨g, 0, none⟩) n cap) (xs.set k x) := by
  obtain ⟨rfl, -⟩ := h.cap
  obtain ⟨us, h1, h2, h3⟩ := h
  have hg := grown_set w g k u
  refine ⟨us.set k u, by rw [List.length_set]; exact (h1.stored k u).1, by simp [h2], fun i q y hq hy => ?_⟩
  by_cases hik : i = k
  · subst hik
    have hlt : i < us.length := by
      by_cases hlt : i < us.length
      · exact hlt
      · rw [List.getElem?_eq_none (by simp; omega)] at hq; cases hq
    rw [List.getElem?_set_self hlt] at hq
    rw [List.getElem?_set_self (by omega)] at hy
    cases hq
    cases hy
    exact hoff.step hg
  · rw [List.getElem?_set_ne (fun e => hik e.symm)] at hq hy
    exact (h3 i q y hq hy).step hg

end

end Go.Proofs.Ytjggiameajndgac

/-
  New blocks, and their cells.
-/
namespace Go.Proofs.Ytjggiameajndgac
open Go.RowKit

/-- Three new blocks. -/
theorem heap3 (w : World) (o1 o2 o3 : Obj) : (((w.alloc o1).alloc o2).alloc o3).heap[w.heap.size]? = some o1 ∧ (((w.alloc o1).alloc o2).alloc o3).heap[w.heap.size + 1]? = some o2 ∧ (((w.alloc o1).alloc o2).alloc o3).heap[w.heap.size + 1 + 1]? = some o3 :=
  ⟨(heap_alloc_old _ _ (by simp; omega)).trans ((heap_alloc_old _ _ (by simp)).trans (heap_alloc_new w o1)), (heap_alloc_old _ _ (by simp)).trans (heap_alloc2_new w o1 o2), by
    have := heap_alloc2_new (w.alloc o1) o2 o3
    simpa using this⟩

theorem row_at {w : World} {A : Nat} {cs : Array Value} {t : TypeId} {mk : Nat × Nat} (h : w.heap[A]? = some (.cells cs t mk)) (k : Nat) {v : Value} (hk : cs[k]? = some v) : w.cell? ⟨A, k, none⟩ = some v := by rw [cell_of_row w A k _ _ _ h]; exact hk

end Go.Proofs.Ytjggiameajndgac

/-
  Stores into rows of the call's own; rows beside one another; a block that holds an intent.
-/
namespace Go.Proofs.Ytjggiameajndgac
open Go.RowKit

section
variable {α : Type} {R : World → Value → α → Prop} {F G : Nat → Prop} {w w0 w1 : World} {u v : Value} {x : α} {xs : List α} {B : Nat} {e : TypeId}

theorem GrownIn.mono (h : GrownIn w w1 F) (hG : ∀ k, F k → G k) : GrownIn w w1 G := ⟨h.os, h.tape, h.output, h.size, fun k hk hn => h.block k hk (fun hf => hn (hG k hf))⟩
theorem grownIn_set (w : World) (g k : Nat) (u : Value) (hG : G g) : GrownIn w (w.setCell ⟨g, k, none⟩ u) G := GrownIn.of_by (grown_set w g k u) (fun j hj => by cases hj; exact hG)

theorem RowingF.plain (h : RowingF F R B e w v xs) : Rowing R B e w v xs := by
  obtain ⟨us, h1, h2, h3⟩ := h
  exact ⟨us, h1, h2, fun i u x hu hx w' hw' => h3 i u x hu hx w' (GrownIn.of_by hw' (fun k hk => .inr hk))⟩

theorem RowingF.kept (h : RowingF F R B e w v xs) (hg : GrownIn w w1 F) (hn : ∀ k, v.ownBlock = some k → ¬ F k) : RowingF F R B e w1 v xs := by
  obtain ⟨us, h1, h2, h3⟩ := h
  exact ⟨us, own_kept h1 hg hn, h2, fun i u x hu hx => (h3 i u x hu hx).step (hg.mono (fun k hk => .inl hk))⟩

theorem RowingF.stored {g n cap : Nat} (h : RowingF F R B e w (.slice (some ⟨g, 0, none⟩) n cap) xs) (k : Nat) (hoff : OffG R (fun j => F j ∨ some g = some j) w u x) : RowingF F R B e (w.setCell ⟨g, k, none⟩ u) (.slice (some ⟨g, 0, none⟩) n cap) (xs.set k x) := by
  obtain ⟨rfl, -⟩ := h.plain.cap
  obtain ⟨us, h1, h2, h3⟩ := h
  have hg : GrownIn w (w.setCell ⟨g, k, none⟩ u) (fun j => F j ∨ some g = some j) := grownIn_set w g k u (.inr rfl)
  refine ⟨us.set k u, by rw [List.length_set]; exact (h1.stored k u).1, by simp [h2], fun i q y hq hy => ?_⟩
  by_cases hik : i = k
  · subst hik
    have hlt : i < us.length := by
      by_cases hlt : i < us.length
      · exact hlt
      · rw [List.getElem?_eq_none (by simp; omega)] at hq; cases hq
    rw [List.getElem?_set_self hlt] at hq
    rw [List.getElem?_set_self (by omega)] at hy
    cases hq
    cases hy
    exact hoff.step hg
  · rw [List.getElem?_set_ne (fun e => hik e.symm)] at hq hy
    exact (h3 i q y hq hy).step hg

end

/-- A block that holds an intent: nothing of rows of two cells lies there, nor bytes. -/
def Itn (R : Nat) (w : World) : Prop := ∃ n a b c t, w.heap[R]? = some (.cells #[.int .i64 n, .slice a b c] t (0, 0))

theorem Itn.cell {R : Nat} {w : World} (h : Itn R w) {off : Nat} {u : Value} (hu : w.cell? ⟨R, off, none⟩ = some u) : (off = 0 ∧ ∃ n, u = .int .i64 n) ∨ (off = 1 ∧ ∃ a b c, u = .slice a b c) := by
  obtain ⟨n, a, b, c, t, h⟩ := h
  rw [cell_of_row w R off _ _ _ h] at hu
  match off, hu with
  | 0, hu => simp at hu; exact .inl ⟨rfl, _, hu.symm⟩
  | 1, hu => simp at hu; exact .inr ⟨rfl, _, _, _, hu.symm⟩
  | n + 2, hu => simp at hu

theorem Itn.bytes {R : Nat} {w : World} (h : Itn R w) {u : Value} {l : List Int} (hb : Bs w u l) : Off Bs (some R) w u l := fun w' hg => by
  obtain ⟨ao, cap, hv, h1, h2, h3, h4, h5⟩ := hb
  refine ⟨ao, cap, hv, h1, h2, h3, h4, fun hp => ?_⟩
  obtain ⟨b, off, e, hc⟩ := h5 hp
  refine ⟨b, off, e, fun i hi => hg.cell (hc i hi) (fun e => ?_)⟩
  simp only [Option.some.injEq] at e
  subst e
  rcases h.cell (hc i hi) with ⟨_, n, this⟩ | ⟨_, _, _, _, this⟩
  · cases this
  · cases this

theorem Itn.bss {R : Nat} {w : World} (h : Itn R w) {v : Value} {ls : List (List Int)} (hs : Bss w v ls) (hl : 2 ≤ ls.length) : BssX (some R) w v ls := ⟨Sl.lift (fun _ _ hb => h.bytes hb) hs (Grow.refl _), fun hp b hb e => by
  obtain ⟨ao, cap, rfl, h1, h2, h3, h4⟩ := hs
  obtain ⟨b', off, rfl, hc⟩ := h4 hp
  simp only [Value.ownBlock, Option.some.injEq] at hb e
  subst hb e
  obtain ⟨u, hu, hr⟩ := hc 0 (ls[0]) (by simp [show 0 < ls.length by omega])
  obtain ⟨u', hu', _⟩ := hc 1 (ls[1]) (by simp [show 1 < ls.length by omega])
  obtain ⟨x1, x2, x3, rfl⟩ := hr.form
  rcases h.cell hu with ⟨_, n, this⟩ | ⟨h0, _⟩
  · cases this
  · rcases h.cell hu' with ⟨h1, _⟩ | ⟨h1, _⟩ <;> omega⟩

end Go.Proofs.Ytjggiameajndgac
