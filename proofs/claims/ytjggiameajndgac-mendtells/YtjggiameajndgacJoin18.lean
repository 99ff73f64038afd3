import Derived.ProofKit
import Derived.OpenShut
import Derived.Deep.Slices
import Derived.Test.YtjggiameajndgacJoin17
/-
  Same of an array and itself; same of blocks and themselves.
-/
namespace Go.Proofs.Ytjggiameajndgac
open Go.RowKit

theorem same6_self (va vb : Value) (a : ArrP) (w : World) (ha : ArrV w va a) (hb : ArrV w vb a) : Calls Try.prog 18 #[va, vb] w fun e w' => e = .returned (.bool true) ∧ Grow w w' := by
  have := refSame6_any va vb a a w ha hb
  rwa [sameB_iff.2 rfl] at this

theorem refSame_self (v u : Value) (a : List (List Int)) (w : World) (h : Bss w v a) (g : Bss w u a) : Calls Try.prog 25 #[v, u] w fun e w' => e = .returned (.bool true) ∧ Grow w w' := by
  have := refSame_any v u a a w h g
  rwa [show (a == a) = true from by simp] at this

end Go.Proofs.Ytjggiameajndgac

/-
  mhlaw9.MendTells returns true, whatever it is handed; nothing old turns.
-/
namespace Go.Proofs.Ytjggiameajndgac
open Go.RowKit

/-- The boxes of the law: what the reference has mended, what the program has, what it told. -/
def TellBox (b u t : Nat) (x y dv iv : Value) (cs : Array Value) (w : World) : Prop := w.heap[b]? = some (.cells #[x, y] 26 (0, 0)) ∧ w.heap[u]? = some (.cells #[dv, iv] 26 (0, 0)) ∧ w.heap[t]? = some (.cells cs 3 (0, 0)) ∧ b ≠ u ∧ b ≠ t

theorem TellBox.grow {b u t : Nat} {x y dv iv : Value} {cs : Array Value} {w w' : World} (h : TellBox b u t x y dv iv cs w) (hg : Grow w w') : TellBox b u t x y dv iv cs w' := ⟨hg.block' h.1, hg.block' h.2.1, hg.block' h.2.2.1, h.2.2.2⟩

theorem TellBox.next {b u t : Nat} {x y dv iv x' y' : Value} {cs : Array Value} {w : World} (h : TellBox b u t x y dv iv cs w) : TellBox b u t x' y' dv iv cs ((w.setCell ⟨b, 0, none⟩ x').setCell ⟨b, 1, none⟩ y') :=
  ⟨two_set1 (two_set0 h.1), set_other (set_other h.2.1 (fun e => h.2.2.2.1 e.symm)) (fun e => h.2.2.2.1 e.symm), set_other (set_other h.2.2.1 (fun e => h.2.2.2.2 e.symm)) (fun e => h.2.2.2.2 e.symm), h.2.2.2⟩

theorem told_at (a : ArrP) {k : Nat} (hk : k < 3) : (((mendNs a).map (fun (n : Nat) => Value.int .i64 (n : Int))).toArray)[k]? = some (.int .i64 (mendN (mendTo a k) (k : Nat))) := by
  obtain rfl | rfl | rfl : k = 0 ∨ k = 1 ∨ k = 2 := by omega
  all_goals rfl

set_option maxRecDepth 20000 in
set_option maxHeartbeats 1600000 in
theorem mendTells_walk (v : Value) (l : List StepP) (s : Int) (w : World) (h : Stps w v l) :
    Calls Try.prog 3 #[v, .int .i64 s] w fun e w' => e = .returned (.bool true) ∧ Grow w w' := by
  have hA : Arr (playL l) := playTo_arr l _
  go_enter Try.func3, Try.ntmps3
  go_wp2_with fail
  refine (refPlay_any v l w h).mono ?_
  rintro e w2 ⟨ra, es, rfl, hra, -, hg2⟩
  obtain ⟨a1, n1, c1, a2, n2, c2, rfl⟩ := hra.form
  generalize playL l = a at *
  have HA : Hid (Arr a ∧ Arr (mendL a s)) := ⟨hA, mendL_arr hA s⟩
  clear h
  obtain ⟨W2, hW2⟩ : ∃ W2, W2 = w2.alloc (.cells #[.slice a1 n1 c1, .slice a2 n2 c2] 26) := ⟨_, rfl⟩
  obtain ⟨b1, hb1⟩ : ∃ b1, b1 = w2.heap.size := ⟨_, rfl⟩
  have hgA : Grow w2 W2 := by rw [hW2]; exact Grow.alloc _ _
  have hB1 : W2.heap[b1]? = some (.cells #[.slice a1 n1 c1, .slice a2 n2 c2] 26 (0, 0)) := by rw [hW2, hb1]; exact heap_alloc_new w2 _
  have HB1 : Hid (W2.heap[b1]? = some (.cells #[.slice a1 n1 c1, .slice a2 n2 c2] 26 (0, 0)) ∧ w.heap.size ≤ b1) := ⟨hB1, by rw [hb1]; exact hg2.size⟩
  have k0 := two_at0 hB1
  have k1 := two_at1 hB1
  have HV : Hid (ArrV W2 (.agg #[.slice a1 n1 c1, .slice a2 n2 c2]) a) := hra.grow hgA
  have hgw2 := hg2.trans hgA
  have hSt := mendStripe_any (.agg #[.slice a1 n1 c1, .slice a2 n2 c2]) a s W2 HV.out hA.whole hA.short (.inl hA.none)
  have hRm := fun w' hg => refMend_any (.agg #[.slice a1 n1 c1, .slice a2 n2 c2]) a s w' (HV.out.grow hg) hA.whole hA.fours
  generalize mendN a s = N at *
  generalize mendE a s = E at *
  clear hra hB1 hgA hg2 hA
  subst hW2
  go_wp2_with fail
  rw [← hb1]
  refine hSt.mono ?_
  rintro e w3 ⟨bs3, dv3, iv3, rfl, hO3, hg3⟩
  clear hSt hb1
  generalize w2.alloc (.cells #[.slice a1 n1 c1, .slice a2 n2 c2] 26) = W2 at *
  obtain ⟨⟨x1, x2, x3, rfl⟩, y1, y2, y3, rfl⟩ := hO3.forms
  obtain ⟨W3, hW3⟩ : ∃ W3, W3 = w3.alloc (.cells #[.slice x1 x2 x3, .slice y1 y2 y3] 26) := ⟨_, rfl⟩
  obtain ⟨b3, hb3⟩ : ∃ b3, b3 = w3.heap.size := ⟨_, rfl⟩
  have hgB : Grow w3 W3 := by rw [hW3]; exact Grow.alloc _ _
  have hB3 : W3.heap[b3]? = some (.cells #[.slice x1 x2 x3, .slice y1 y2 y3] 26 (0, 0)) := by rw [hW3, hb3]; exact heap_alloc_new w3 _
  have m0 := two_at0 hB3
  have m1 := two_at1 hB3
  have HX : Hid (ArrV W3 (.agg #[.slice x1 x2 x3, .slice y1 y2 y3]) (mendL a s)) := hO3.arr.grow hgB
  have hg23 := hg3.trans hgB
  have j0 := hg23.at k0
  have j1 := hg23.at k1
  have hR := hRm _ hg23
  clear hO3 hB3 hgB hg3 hRm
  subst hW3
  go_wp2_with fail
  rw [← hb3]
  refine hR.mono ?_
  rintro e w4 ⟨r4, rfl, hr4, hg4⟩
  clear hR hb3 j0 j1
  generalize w3.alloc (.cells #[.slice x1 x2 x3, .slice y1 y2 y3] 26) = W3 at *
  obtain ⟨s1, s2, s3, t1, t2, t3, rfl⟩ := hr4.form
  obtain ⟨W4, hW4⟩ : ∃ W4, W4 = w4.alloc (.cells #[.slice s1 s2 s3, .slice t1 t2 t3] 26) := ⟨_, rfl⟩
  obtain ⟨b4, hb4⟩ : ∃ b4, b4 = w4.heap.size := ⟨_, rfl⟩
  have hgC : Grow w4 W4 := by rw [hW4]; exact Grow.alloc _ _
  have hB4 : W4.heap[b4]? = some (.cells #[.slice s1 s2 s3, .slice t1 t2 t3] 26 (0, 0)) := by rw [hW4, hb4]; exact heap_alloc_new w4 _
  have o0 := two_at0 hB4
  have o1 := two_at1 hB4
  have HY : Hid (ArrV W4 (.agg #[.slice s1 s2 s3, .slice t1 t2 t3]) (mendL a s)) := hr4.grow hgC
  have hg34 := hg4.trans hgC
  have hg24 := hg23.trans hg34
  have k04 := hg24.at k0
  have k14 := hg24.at k1
  have m04 := hg34.at m0
  have m14 := hg34.at m1
  have HX4 : Hid (ArrV W4 (.agg #[.slice x1 x2 x3, .slice y1 y2 y3]) (mendL a s)) := HX.out.grow hg34
  have HV4 : Hid (ArrV W4 (.agg #[.slice a1 n1 c1, .slice a2 n2 c2]) a) := HV.out.grow hg24
  have HB4 : Hid (W4.heap[b1]? = some (.cells #[.slice a1 n1 c1, .slice a2 n2 c2] 26 (0, 0)) ∧ w.heap.size ≤ b1) := ⟨hg24.block' HB1.out.1, HB1.out.2⟩
  have hgw4 := hgw2.trans hg24
  clear hr4 hB4 hgC hg4 k0 k1 m0 m1 HX HV HB1 hg34 hg23 hg24 hgw2
  go_wp2
  rw [← hW4, ← hb4]
  clear hW4 hb4
  refine wp_region_stable Grow [IsV (.int .i64 E), IsV (.int .i64 E), IsV (.bool false), IsV (.bool false), IsV (.int .i64 N), IsV (.int .i64 N), IsV (.bool false), IsV (.bool false), IsV (.bool false), IsV (.agg #[.slice x1 x2 x3, .slice y1 y2 y3]), IsV (.agg #[.slice s1 s2 s3, .slice t1 t2 t3]), IsV (.bool true), IsV (.bool false), IsV (.bool false), IsV (.bool false), IsV (.agg #[.slice a1 n1 c1, .slice a2 n2 c2]), IsV (.int .i64 (worstN a)), IsV (.agg #[.slice a1 n1 c1, .slice a2 n2 c2]), IsV (.int .i64 (worstN a)), IsV (.bool false), IsV (.bool false)] (by kernel_rfl) (by kernel_rfl) rfl Grow.refl (fun _ _ _ => Grow.trans) ?_ ?_ ?_
  · repeat (refine List.forall_mem_cons.2 ⟨by first | exact IsV.stable _, ?_⟩)
    exact fun R hR => nomatch hR
  · skip
    refine StepsS.cons ?_ fun v0 => ⟨_, _, by simp only [Act.put, List.setIfInBounds_toArray, List.set_cons_succ, List.set_cons_zero]; first | done | rfl, by simp only [List.nil_append]; first | done | rfl, ?_⟩
    · intro w1 hE hd
      clear hd
      go_wp2
      exact ⟨_, rfl, Grow.refl _, rfl⟩
    refine StepsS.cons ?_ fun v1 => ⟨_, _, by simp only [Act.put, List.setIfInBounds_toArray, List.set_cons_succ, List.set_cons_zero]; first | done | rfl, by simp only [List.nil_append, List.cons_append]; first | done | rfl, ?_⟩
    · intro w1 hE hd
      clear hd
      go_wp2
      exact ⟨_, rfl, Grow.refl _, rfl⟩
    refine StepsS.cons ?_ fun v2 => ⟨_, _, by simp only [Act.put, List.setIfInBounds_toArray, List.set_cons_succ, List.set_cons_zero]; first | done | rfl, by simp only [List.nil_append, List.cons_append]; first | done | rfl, ?_⟩
    · intro w1 hE hd
      obtain rfl := IsV.eq (dep_at hd 0 rfl rfl rfl)
      obtain rfl := IsV.eq (dep_at hd 1 rfl rfl rfl)
      clear hd
      go_wp2
      exact ⟨_, rfl, Grow.refl _, rfl⟩
    refine StepsS.cons ?_ fun v3 => ⟨_, _, by simp only [Act.put, List.setIfInBounds_toArray, List.set_cons_succ, List.set_cons_zero]; first | done | rfl, by simp only [List.nil_append, List.cons_append]; first | done | rfl, ?_⟩
    · intro w1 hE hd
      obtain rfl := IsV.eq (dep_at hd 0 rfl rfl rfl)
      clear hd
      go_wp2
      exact ⟨_, rfl, Grow.refl _, rfl⟩
    refine StepsS.cons ?_ fun v4 => ⟨_, _, by simp only [Act.put, List.setIfInBounds_toArray, List.set_cons_succ, List.set_cons_zero]; first | done | rfl, by simp only [List.nil_append, List.cons_append]; first | done | rfl, ?_⟩
    · intro w1 hE hd
      obtain rfl := IsV.eq (dep_at hd 0 rfl rfl rfl)
      clear hd
      go_wp2
      exact ⟨_, rfl, Grow.refl _, rfl⟩
    refine StepsS.cons ?_ fun v5 => ⟨_, _, by simp only [Act.put, List.setIfInBounds_toArray, List.set_cons_succ, List.set_cons_zero]; first | done | rfl, by simp only [List.nil_append, List.cons_append]; first | done | rfl, ?_⟩
    · intro w1 hE hd
      obtain rfl := IsV.eq (dep_at hd 0 rfl rfl rfl)
      clear hd
      go_wp2
      exact ⟨_, rfl, Grow.refl _, rfl⟩
    refine StepsS.cons ?_ fun v6 => ⟨_, _, by simp only [Act.put, List.setIfInBounds_toArray, List.set_cons_succ, List.set_cons_zero]; first | done | rfl, by simp only [List.nil_append, List.cons_append]; first | done | rfl, ?_⟩
    · intro w1 hE hd
      obtain rfl := IsV.eq (dep_at hd 0 rfl rfl rfl)
      obtain rfl := IsV.eq (dep_at hd 1 rfl rfl rfl)
      obtain rfl := IsV.eq (dep_at hd 2 rfl rfl rfl)
      clear hd
      go_wp2
      exact ⟨_, rfl, Grow.refl _, rfl⟩
    refine StepsS.cons ?_ fun v7 => ⟨_, _, by simp only [Act.put, List.setIfInBounds_toArray, List.set_cons_succ, List.set_cons_zero]; first | done | rfl, by simp only [List.nil_append, List.cons_append]; first | done | rfl, ?_⟩
    · intro w1 hE hd
      obtain rfl := IsV.eq (dep_at hd 0 rfl rfl rfl)
      obtain rfl := IsV.eq (dep_at hd 1 rfl rfl rfl)
      clear hd
      go_wp2
      exact ⟨_, rfl, Grow.refl _, rfl⟩
    refine StepsS.cons ?_ fun v8 => ⟨_, _, by simp only [Act.put, List.setIfInBounds_toArray, List.set_cons_succ, List.set_cons_zero]; first | done | rfl, by simp only [List.nil_append, List.cons_append]; first | done | rfl, ?_⟩
    · intro w1 hE hd
      obtain rfl := IsV.eq (dep_at hd 0 rfl rfl rfl)
      clear hd
      go_wp2
      exact ⟨_, rfl, Grow.refl _, rfl⟩
    refine StepsS.cons ?_ fun v9 => ⟨_, _, by simp only [Act.put, List.setIfInBounds_toArray, List.set_cons_succ, List.set_cons_zero]; first | done | rfl, by simp only [List.nil_append, List.cons_append]; first | done | rfl, ?_⟩
    · intro w1 hE hd
      obtain rfl := IsV.eq (dep_at hd 0 rfl rfl rfl)
      clear hd
      have qq0 := hE.drew.at m04
      have qq1 := hE.drew.at m14
      go_wp2
      exact ⟨_, rfl, Grow.refl _, rfl⟩
    refine StepsS.cons ?_ fun v10 => ⟨_, _, by simp only [Act.put, List.setIfInBounds_toArray, List.set_cons_succ, List.set_cons_zero]; first | done | rfl, by simp only [List.nil_append, List.cons_append]; first | done | rfl, ?_⟩
    · intro w1 hE hd
      obtain rfl := IsV.eq (dep_at hd 0 rfl rfl rfl)
      clear hd
      have qq0 := hE.drew.at o0
      have qq1 := hE.drew.at o1
      go_wp2
      exact ⟨_, rfl, Grow.refl _, rfl⟩
    refine StepsS.cons ?_ fun v11 => ⟨_, _, by simp only [Act.put, List.setIfInBounds_toArray, List.set_cons_succ, List.set_cons_zero]; first | done | rfl, by simp only [List.nil_append, List.cons_append]; first | done | rfl, ?_⟩
    · intro w1 hE hd
      obtain rfl := IsV.eq (dep_at hd 0 rfl rfl rfl)
      obtain rfl := IsV.eq (dep_at hd 1 rfl rfl rfl)
      obtain rfl := IsV.eq (dep_at hd 2 rfl rfl rfl)
      clear hd
      go_wp2_with fail
      refine (same6_self _ _ (mendL a s) _ (HX4.out.grow hE.drew) (HY.out.grow hE.drew)).mono ?_
      rintro e w4 ⟨rfl, hg4⟩
      go_wp2_with fail
      exact ⟨_, rfl, hg4, rfl⟩
    refine StepsS.cons ?_ fun v12 => ⟨_, _, by simp only [Act.put, List.setIfInBounds_toArray, List.set_cons_succ, List.set_cons_zero]; first | done | rfl, by simp only [List.nil_append, List.cons_append]; first | done | rfl, ?_⟩
    · intro w1 hE hd
      obtain rfl := IsV.eq (dep_at hd 0 rfl rfl rfl)
      obtain rfl := IsV.eq (dep_at hd 1 rfl rfl rfl)
      clear hd
      go_wp2
      exact ⟨_, rfl, Grow.refl _, rfl⟩
    refine StepsS.cons ?_ fun v13 => ⟨_, _, by simp only [Act.put, List.setIfInBounds_toArray, List.set_cons_succ, List.set_cons_zero]; first | done | rfl, by simp only [List.nil_append, List.cons_append]; first | done | rfl, ?_⟩
    · intro w1 hE hd
      obtain rfl := IsV.eq (dep_at hd 0 rfl rfl rfl)
      obtain rfl := IsV.eq (dep_at hd 1 rfl rfl rfl)
      clear hd
      go_wp2
      exact ⟨_, rfl, Grow.refl _, rfl⟩
    refine StepsS.cons ?_ fun v14 => ⟨_, _, by simp only [Act.put, List.setIfInBounds_toArray, List.set_cons_succ, List.set_cons_zero]; first | done | rfl, by simp only [List.nil_append, List.cons_append]; first | done | rfl, ?_⟩
    · intro w1 hE hd
      obtain rfl := IsV.eq (dep_at hd 0 rfl rfl rfl)
      clear hd
      go_wp2
      exact ⟨_, rfl, Grow.refl _, rfl⟩
    refine StepsS.cons ?_ fun v15 => ⟨_, _, by simp only [Act.put, List.setIfInBounds_toArray, List.set_cons_succ, List.set_cons_zero]; first | done | rfl, by simp only [List.nil_append, List.cons_append]; first | done | rfl, ?_⟩
    · intro w1 hE hd
      obtain rfl := IsV.eq (dep_at hd 0 rfl rfl rfl)
      clear hd
      have qq0 := hE.drew.at k04
      have qq1 := hE.drew.at k14
      go_wp2
      exact ⟨_, rfl, Grow.refl _, rfl⟩
    refine StepsS.cons ?_ fun v16 => ⟨_, _, by simp only [Act.put, List.setIfInBounds_toArray, List.set_cons_succ, List.set_cons_zero]; first | done | rfl, by simp only [List.nil_append, List.cons_append]; first | done | rfl, ?_⟩
    · intro w1 hE hd
      obtain rfl := IsV.eq (dep_at hd 0 rfl rfl rfl)
      obtain rfl := IsV.eq (dep_at hd 1 rfl rfl rfl)
      clear hd
      go_wp2_with fail
      refine (mendWorst_any _ a _ (HV4.out.grow hE.drew) HA.out.1.whole HA.out.1.short).mono ?_
      rintro e w4 ⟨rfl, hg4⟩
      go_wp2_with fail
      exact ⟨_, rfl, hg4, rfl⟩
    refine StepsS.cons ?_ fun v17 => ⟨_, _, by simp only [Act.put, List.setIfInBounds_toArray, List.set_cons_succ, List.set_cons_zero]; first | done | rfl, by simp only [List.nil_append, List.cons_append]; first | done | rfl, ?_⟩
    · intro w1 hE hd
      obtain rfl := IsV.eq (dep_at hd 0 rfl rfl rfl)
      clear hd
      have qq0 := hE.drew.at k04
      have qq1 := hE.drew.at k14
      go_wp2
      exact ⟨_, rfl, Grow.refl _, rfl⟩
    refine StepsS.cons ?_ fun v18 => ⟨_, _, by simp only [Act.put, List.setIfInBounds_toArray, List.set_cons_succ, List.set_cons_zero]; first | done | rfl, by simp only [List.nil_append, List.cons_append]; first | done | rfl, ?_⟩
    · intro w1 hE hd
      obtain rfl := IsV.eq (dep_at hd 0 rfl rfl rfl)
      obtain rfl := IsV.eq (dep_at hd 2 rfl rfl rfl)
      clear hd
      go_wp2_with fail
      refine (refWorst_any _ a _ (HV4.out.grow hE.drew) HA.out.1.whole).mono ?_
      rintro e w4 ⟨rfl, hg4⟩
      go_wp2_with fail
      exact ⟨_, rfl, hg4, rfl⟩
    refine StepsS.cons ?_ fun v19 => ⟨_, _, by simp only [Act.put, List.setIfInBounds_toArray, List.set_cons_succ, List.set_cons_zero]; first | done | rfl, by simp only [List.nil_append, List.cons_append]; first | done | rfl, ?_⟩
    · intro w1 hE hd
      obtain rfl := IsV.eq (dep_at hd 0 rfl rfl rfl)
      obtain rfl := IsV.eq (dep_at hd 1 rfl rfl rfl)
      obtain rfl := IsV.eq (dep_at hd 2 rfl rfl rfl)
      clear hd
      go_wp2
      exact ⟨_, rfl, Grow.refl _, rfl⟩
    refine StepsS.cons ?_ fun v20 => ⟨_, _, by simp only [Act.put, List.setIfInBounds_toArray, List.set_cons_succ, List.set_cons_zero]; first | done | rfl, by simp only [List.nil_append, List.cons_append]; first | done | rfl, ?_⟩
    · intro w1 hE hd
      obtain rfl := IsV.eq (dep_at hd 0 rfl rfl rfl)
      obtain rfl := IsV.eq (dep_at hd 1 rfl rfl rfl)
      clear hd
      go_wp2
      exact ⟨_, rfl, Grow.refl _, rfl⟩
    trivial
  intro w5 hw5
  refine FinS.cons ?_; rintro _ rfl; refine ⟨_, by simp only [Act.put, List.setIfInBounds_toArray, List.set_cons_succ, List.set_cons_zero]; first | done | rfl, ?_⟩
  refine FinS.cons ?_; rintro _ rfl; refine ⟨_, by simp only [Act.put, List.setIfInBounds_toArray, List.set_cons_succ, List.set_cons_zero]; first | done | rfl, ?_⟩
  refine FinS.cons ?_; rintro _ rfl; refine ⟨_, by simp only [Act.put, List.setIfInBounds_toArray, List.set_cons_succ, List.set_cons_zero]; first | done | rfl, ?_⟩
  refine FinS.cons ?_; rintro _ rfl; refine ⟨_, by simp only [Act.put, List.setIfInBounds_toArray, List.set_cons_succ, List.set_cons_zero]; first | done | rfl, ?_⟩
  refine FinS.cons ?_; rintro _ rfl; refine ⟨_, by simp only [Act.put, List.setIfInBounds_toArray, List.set_cons_succ, List.set_cons_zero]; first | done | rfl, ?_⟩
  refine FinS.cons ?_; rintro _ rfl; refine ⟨_, by simp only [Act.put, List.setIfInBounds_toArray, List.set_cons_succ, List.set_cons_zero]; first | done | rfl, ?_⟩
  refine FinS.cons ?_; rintro _ rfl; refine ⟨_, by simp only [Act.put, List.setIfInBounds_toArray, List.set_cons_succ, List.set_cons_zero]; first | done | rfl, ?_⟩
  refine FinS.cons ?_; rintro _ rfl; refine ⟨_, by simp only [Act.put, List.setIfInBounds_toArray, List.set_cons_succ, List.set_cons_zero]; first | done | rfl, ?_⟩
  refine FinS.cons ?_; rintro _ rfl; refine ⟨_, by simp only [Act.put, List.setIfInBounds_toArray, List.set_cons_succ, List.set_cons_zero]; first | done | rfl, ?_⟩
  refine FinS.cons ?_; rintro _ rfl; refine ⟨_, by simp only [Act.put, List.setIfInBounds_toArray, List.set_cons_succ, List.set_cons_zero]; first | done | rfl, ?_⟩
  refine FinS.cons ?_; rintro _ rfl; refine ⟨_, by simp only [Act.put, List.setIfInBounds_toArray, List.set_cons_succ, List.set_cons_zero]; first | done | rfl, ?_⟩
  refine FinS.cons ?_; rintro _ rfl; refine ⟨_, by simp only [Act.put, List.setIfInBounds_toArray, List.set_cons_succ, List.set_cons_zero]; first | done | rfl, ?_⟩
  refine FinS.cons ?_; rintro _ rfl; refine ⟨_, by simp only [Act.put, List.setIfInBounds_toArray, List.set_cons_succ, List.set_cons_zero]; first | done | rfl, ?_⟩
  refine FinS.cons ?_; rintro _ rfl; refine ⟨_, by simp only [Act.put, List.setIfInBounds_toArray, List.set_cons_succ, List.set_cons_zero]; first | done | rfl, ?_⟩
  refine FinS.cons ?_; rintro _ rfl; refine ⟨_, by simp only [Act.put, List.setIfInBounds_toArray, List.set_cons_succ, List.set_cons_zero]; first | done | rfl, ?_⟩
  refine FinS.cons ?_; rintro _ rfl; refine ⟨_, by simp only [Act.put, List.setIfInBounds_toArray, List.set_cons_succ, List.set_cons_zero]; first | done | rfl, ?_⟩
  refine FinS.cons ?_; rintro _ rfl; refine ⟨_, by simp only [Act.put, List.setIfInBounds_toArray, List.set_cons_succ, List.set_cons_zero]; first | done | rfl, ?_⟩
  refine FinS.cons ?_; rintro _ rfl; refine ⟨_, by simp only [Act.put, List.setIfInBounds_toArray, List.set_cons_succ, List.set_cons_zero]; first | done | rfl, ?_⟩
  refine FinS.cons ?_; rintro _ rfl; refine ⟨_, by simp only [Act.put, List.setIfInBounds_toArray, List.set_cons_succ, List.set_cons_zero]; first | done | rfl, ?_⟩
  refine FinS.cons ?_; rintro _ rfl; refine ⟨_, by simp only [Act.put, List.setIfInBounds_toArray, List.set_cons_succ, List.set_cons_zero]; first | done | rfl, ?_⟩
  refine FinS.cons ?_; rintro _ rfl; refine ⟨_, by simp only [Act.put, List.setIfInBounds_toArray, List.set_cons_succ, List.set_cons_zero]; first | done | rfl, ?_⟩
  first | show Exit.then _ _ _ _ _ | show Exit.inBlock _ _ _ _ _
  have hg45 : Grow W4 w5 := hw5.drew
  have k05 := hg45.at k04
  have k15 := hg45.at k14
  have HV5 : Hid (ArrV w5 (.agg #[.slice a1 n1 c1, .slice a2 n2 c2]) a) := HV4.out.grow hg45
  have HB5 : Hid (w5.heap[b1]? = some (.cells #[.slice a1 n1 c1, .slice a2 n2 c2] 26 (0, 0)) ∧ w.heap.size ≤ b1) := ⟨hg45.block' HB4.out.1, HB4.out.2⟩
  have hgw5 := hgw4.trans hg45
  have HM : Hid (∀ k, Arr (mendTo a k)) := mendTo_arr HA.out.1
  have hAl := mendAll_any (.agg #[.slice a1 n1 c1, .slice a2 n2 c2]) a w5 HV5.out HA.out.1
  clear k04 k14 m04 m14 o0 o1 HX4 HY HV4 HB4 hg45 hgw4 hw5
  go_wp2_with fail
  refine hAl.mono ?_
  rintro e w6 ⟨bs6, dv6, iv6, T, rfl, hO6, hT6, hg6⟩
  clear hAl k05 k15
  obtain ⟨⟨p1, p2, p3, rfl⟩, r1, r2, r3, rfl⟩ := hO6.forms
  obtain ⟨W6, hW6⟩ : ∃ W6, W6 = w6.alloc (.cells #[.slice p1 p2 p3, .slice r1 r2 r3] 26) := ⟨_, rfl⟩
  obtain ⟨b6, hb6⟩ : ∃ b6, b6 = w6.heap.size := ⟨_, rfl⟩
  have hgD : Grow w6 W6 := by rw [hW6]; exact Grow.alloc _ _
  have hg56 := hg6.trans hgD
  have HTB0 : Hid (TellBox b1 b6 T (.slice a1 n1 c1) (.slice a2 n2 c2) (.slice p1 p2 p3) (.slice r1 r2 r3) ((mendNs a).map (fun (n : Nat) => Value.int .i64 (n : Int))).toArray W6) := by
    have h1 := hg6.block' HB5.out.1
    have l1 := heap_lt h1
    refine ⟨hgD.block' h1, by rw [hW6, hb6]; exact heap_alloc_new w6 _, hgD.block' hT6, by omega, fun e => ?_⟩
    rw [e, hT6] at h1
    injection h1 with h1
    injection h1 with _ h1 _
    exact absurd h1 (by decide)
  have HV6 : Hid (ArrV W6 (.agg #[.slice a1 n1 c1, .slice a2 n2 c2]) (mendTo a 0)) := HV5.out.grow hg56
  have HO6 : Hid (OwnA w5.heap.size bs6 W6 (.slice p1 p2 p3) (.slice r1 r2 r3) (mendTo a 3)) := hO6.k4 hgD.k4
  have Hb1 : Hid (w.heap.size ≤ b1) := HB5.out.2
  have hgw6 := hgw5.trans hg56
  clear hO6 hT6 hg6 hgD hg56 HV5 HB5 hgw5
  go_wp2
  rw [← hW6, ← hb6]
  clear hW6 hb6
  go_loopw [64] (fun i wr => ∃ (k : Nat) (x y : Value), k ≤ 3 ∧ i = .int .i64 k ∧ (∃ x1 x2 x3, x = .slice x1 x2 x3) ∧ (∃ x1 x2 x3, y = .slice x1 x2 x3) ∧ Hid (TellBox b1 b6 T x y (.slice p1 p2 p3) (.slice r1 r2 r3) ((mendNs a).map (fun (n : Nat) => Value.int .i64 (n : Int))).toArray wr) ∧ Hid (ArrV wr (.agg #[x, y]) (mendTo a k)) ∧ Hid (OwnA w5.heap.size bs6 wr (.slice p1 p2 p3) (.slice r1 r2 r3) (mendTo a 3)) ∧ Grow w wr) (fun i _ => 3 - (intOf i).toNat)
  case atStart => exact ⟨0, _, _, by omega, rfl, ⟨_, _, _, rfl⟩, ⟨_, _, _, rfl⟩, HTB0, HV6, HO6, hgw6⟩
  case round =>
    obtain ⟨k, x, y, hk, rfl, ⟨d1, d2, d3, rfl⟩, ⟨f1, f2, f3, rfl⟩, HB, HV, HO, hgr⟩ := hrel
    clear HTB0 HV6 HO6 hgw6
    have g0 := two_at0 HB.out.1
    have g1 := two_at1 HB.out.1
    by_cases hlt : k < 3
    · have hki : (k : Int) < 3 := by omega
      have hA := HM.out k
      have hRm := refMend_any (.agg #[.slice d1 d2 d3, .slice f1 f2 f3]) (mendTo a k) (k : Nat) wr HV.out hA.whole hA.fours
      have HMk : Hid (mendL (mendTo a k) (k : Nat) = mendTo a (k + 1)) := rfl
      have HTa : Hid ((((mendNs a).map (fun (n : Nat) => Value.int .i64 (n : Int))).toArray)[k]? = some (.int .i64 (mendN (mendTo a k) (k : Nat)))) := told_at a hlt
      rw [HMk.out] at hRm
      generalize mendN (mendTo a k) ((k : Nat) : Int) = bn at *
      generalize mendE (mendTo a k) ((k : Nat) : Int) = Ek at *
      clear hA
      go_wp2_with fail
      refine hRm.mono ?_
      rintro e w8 ⟨r8, rfl, hr8, hg8⟩
      clear hRm g0 g1
      obtain ⟨z1, z2, z3, z4, z5, z6, rfl⟩ := hr8.form
      have hgX : Grow w8 (w8.alloc (.cells #[.slice z1 z2 z3, .slice z4 z5 z6] 26)) := Grow.alloc _ _
      have hg9 := hg8.trans hgX
      have hB9 := HB.out.grow hg9
      have hV9 := hr8.grow hgX
      have hA9 := HM.out (k + 1)
      have HB' : Hid (TellBox b1 b6 T _ _ _ _ _ _) := hB9.next (x' := .slice z1 z2 z3) (y' := .slice z4 z5 z6)
      have HV' : Hid (ArrV _ _ _) := Two.store ⟨_, _, _, _, _, _, _, hB9.1⟩ hV9 hA9.whole hA9.fours (.slice z1 z2 z3) (.slice z4 z5 z6)
      have HO' : Hid (OwnA _ _ _ _ _ _) := ((HO.out.k4 hg9.k4).k4 (K4.set (k := 0) (u := .slice z1 z2 z3) hB9.1)).k4 (K4.set (k := 1) (u := .slice z4 z5 z6) (two_set0 hB9.1))
      have hgr' := ((hgr.trans hg9).set (g := b1) (k := 0) Hb1.out (.slice z1 z2 z3)).set (g := b1) (k := 1) Hb1.out (.slice z4 z5 z6)
      have g0 := two_at0 hB9.1
      have g1 := two_at1 hB9.1
      have fz0 := frozen_of_row _ b1 0 _ _ hB9.1
      have fz1 := frozen_of_row _ b1 1 _ _ hB9.1
      have ht := row_at hB9.2.2.1 k HTa.out
      have hB8 := HB.out.grow hg8
      have g08 := two_at0 hB8.1
      have g18 := two_at1 hB8.1
      have fz08 : w8.frozen? ⟨b1, 0, none⟩ = false := frozen_of_row w8 b1 0 _ _ hB8.1
      have fz18 : w8.frozen? ⟨b1, 1, none⟩ = false := frozen_of_row w8 b1 1 _ _ hB8.1
      have ht8 := row_at hB8.2.2.1 k HTa.out
      have hne := hB9.2.2.2.2
      have hne' : T ≠ b1 := fun e => hne e.symm
      have hlt8 : b1 < w8.heap.size := heap_lt (hg8.block' HB.out.1)
      have hpast : ((w8.alloc (.cells #[.slice z1 z2 z3, .slice z4 z5 z6] 26)).setCell ⟨b1, 0, none⟩ (.slice z1 z2 z3)).setCell ⟨b1, 1, none⟩ (.slice z4 z5 z6) = ((w8.setCell ⟨b1, 0, none⟩ (.slice z1 z2 z3)).setCell ⟨b1, 1, none⟩ (.slice z4 z5 z6)).alloc (.cells #[.slice z1 z2 z3, .slice z4 z5 z6] 26) := by
        rw [World.setCell_alloc_past (w := w8) _ b1 0 _ hlt8, World.setCell_alloc_past (w := w8.setCell _ _) _ b1 1 _ (by simpa using hlt8)]
      rw [hpast] at HB' HV' HO' hgr'
      have hne8 : b1 ≠ w8.heap.size := by omega
      have hne8' : w8.heap.size ≠ b1 := by omega
      have hltT : T < w8.heap.size := heap_lt (hg8.block' HB.out.2.2.1)
      have hneT : T ≠ w8.heap.size := by omega
      have hneT' : w8.heap.size ≠ T := by omega
      clear hB9 hV9 hA9 hr8 HB HV HO HTa hB8
      go_wp2
      go_roundw
      case rel => first | exact ⟨k + 1, _, _, by omega, by go_num, ⟨_, _, _, rfl⟩, ⟨_, _, _, rfl⟩, HB', HV', HO', hgr'⟩ | ((repeat apply Exists.intro); exact ⟨⟨k + 1, _, _, by omega, by go_num, ⟨_, _, _, rfl⟩, ⟨_, _, _, rfl⟩, HB', HV', HO', hgr'⟩, rfl⟩)
      case measure => simp [intOf]; omega
    · have HK : Hid (k = 3) := by rw [Hid]; omega
      have HV' : Hid (ArrV wr (.agg #[.slice d1 d2 d3, .slice f1 f2 f3]) (mendTo a 3)) := by have := HV.out; rw [HK.out] at this; exact this
      have hno : ¬ ((k : Int) < 3) := by omega
      have e0 := two_at0 HB.out.2.1
      have e1 := two_at1 HB.out.2.1
      have hSm := same6_self (.agg #[.slice p1 p2 p3, .slice r1 r2 r3]) (.agg #[.slice d1 d2 d3, .slice f1 f2 f3]) (mendTo a 3) wr HO.out.arr HV'.out
      clear HB HV HO hk hlt
      go_wp2_with fail
      refine hSm.mono ?_
      rintro e w9 ⟨rfl, hg9⟩
      clear hSm
      go_wp2
      go_ret
      exact ⟨rfl, hgr.trans hg9⟩

end Go.Proofs.Ytjggiameajndgac

/-
  How an argument that is a slice of bytes is read: by its cells, and within the reach of the row.
-/
namespace Go.Proofs.Ytjggiameajndgac
open Go.ChangeShapes Go.WideShapes Go.ChangeAt Go.RowKit

theorem wf_octet {n : Int} (h : (Lit.int .u8 n).wf = true) : 0 ≤ n ∧ n ≤ 255 := by
  have := bounds_u8 h
  omega

/-- A slice of bytes that came in: what it reads as. -/
theorem open_bs {P : Program} {H : Type} {enc : TypeId × Value → H} {W : World} {base : Nat} {sp : Nat → Bool} {held : Bool} {t e : TypeId} {v : Value} {d : DataW H} {p : List MemPlace}
    (ht : P.underlying t = some (.slice e)) (he : P.underlying e = some (.int .u8)) (hc : P.cellsOf e = 1) {b0 : Nat} (hv : Value.okWide P W .any b0 t v)
    (h : DataW.Trod enc P W base sp held t v d p) :
    ∃ l, Bs W v l ∧ (l = [] ∨ ∃ elems spare, d = .slice elems spare ∧ l.length ≤ elems.length + spare.length) := by
  obtain ⟨a0, len0, cap0, rfl⟩ := okWide_slice ht hv
  obtain ⟨fuel, hf⟩ := h
  rcases open_ints ht he hc hf with ⟨hcs, _⟩ | ⟨x, l, c, zs, hcs, _, hl, hm, hz, hx, hcell, hwz⟩
  · simp [Value.cells] at hcs
    obtain ⟨rfl, rfl, rfl⟩ := hcs
    exact ⟨[], Bs.nil W, .inl rfl⟩
  · simp [Value.cells] at hcs
    obtain ⟨rfl, rfl, rfl⟩ := hcs
    have hlz : len0 ≤ zs.length := by rw [hz]; split <;> omega
    have hlen : (zs.take len0).length = len0 := by simp; omega
    refine ⟨zs.take len0, ⟨some x, cap0, by rw [hlen], by omega, hm, (fun h => nomatch h), fun n hn => wf_octet (hwz n (List.mem_of_mem_take hn)), fun hp => ?_⟩, .inr ?_⟩
    · rw [hlen] at hp
      obtain ⟨b, off, spot⟩ := x
      have hspot : spot = none := by simpa [Addr.add] using World.cell?_spot (hcell 0 (by omega))
      subst hspot
      refine ⟨b, off, rfl, fun i hi => ?_⟩
      rw [hlen] at hi
      have hplain : (⟨b, off, none⟩ : Addr).add i = ⟨b, off + i, none⟩ := by unfold Addr.add; split <;> simp_all
      rw [← hplain, hcell i (by omega)]
      simp [List.getD_eq_getElem?_getD, hi]
    · simp only [Prod.mk.injEq] at hx
      exact ⟨_, _, hx.1, by simp [lits]⟩

end Go.Proofs.Ytjggiameajndgac

/-
  How arguments that are deeds, steps, and slices of steps are read.
-/
namespace Go.Proofs.Ytjggiameajndgac
open Go.ChangeShapes Go.WideShapes Go.ChangeAt Go.RowKit

theorem four_of {α : Type} {cs : List α} (h : cs.length = 4) : ∃ c0 c1 c2 c3, cs = [c0, c1, c2, c3] := by
  match cs, h with
  | [c0, c1, c2, c3], _ => exact ⟨_, _, _, _, rfl⟩
theorem seven_of {α : Type} {cs : List α} (h : cs.length = 7) : ∃ c0 c1 c2 c3 c4 c5 c6, cs = [c0, c1, c2, c3, c4, c5, c6] := by
  match cs, h with
  | [c0, c1, c2, c3, c4, c5, c6], _ => exact ⟨_, _, _, _, _, _, _, rfl⟩

section
variable {H : Type} {enc : TypeId × Value → H} {W : World} {base : Nat} {sp : Nat → Bool} {held : Bool}

/-- Fields of a struct, each with its own reading. -/
theorem field_at {P : Program} {fuel : Nat} {t : TypeId} {cs : List Value} {x : DataW H × List MemPlace} {fs : Array Field} (ht : P.underlying t = some (.struct fs)) (h : DataW.trod enc P W base sp held fuel t cs = some x) :
    cs.length = P.cellsOf t ∧ ∀ (i : Nat) (f : Field), fs[i]? = some f → ∃ n y, DataW.trod enc P W base sp held n f.type ((cs.drop f.offset).take (P.cellsOf f.type)) = some y := by
  obtain ⟨xs, n, -, -, hlen, hxl, hf⟩ := DataW.trod_struct ht h
  refine ⟨hlen, fun i f hi => ?_⟩
  have hlt : i < fs.size := (Array.getElem?_eq_some_iff.1 hi).1
  have := hf i f hi
  rw [List.getElem?_eq_getElem (by omega)] at this
  exact ⟨n, _, this⟩

theorem Try.cellsDeed : Try.prog.cellsOf 54 = 4 := by kernel_rfl
theorem Try.cellsInt : Try.prog.cellsOf 3 = 1 := by kernel_rfl
theorem Try.cellsBs : Try.prog.cellsOf 52 = 1 := by kernel_rfl
theorem Try.cellsB : Try.prog.cellsOf 5 = 1 := by kernel_rfl

theorem int_cell {n : Nat} {c : Value} {y : DataW H × List MemPlace} (h : DataW.trod enc Try.prog W base sp held n 3 [c] = some y) : ∃ k, c = .int .i64 k ∧ (Lit.int .i64 k).wf = true := by
  obtain ⟨k, e, -, hw⟩ := DataW.trod_int Try.underlying3 h
  exact ⟨k, by simpa using e, hw⟩

set_option maxRecDepth 20000 in
/-- Cells of a deed. -/
theorem deed_cells {fuel : Nat} {cs : List Value} {x : DataW H × List MemPlace} (h : DataW.trod enc Try.prog W base sp held fuel 54 cs = some x) :
    ∃ (y : DeedP) (dv : Value), cs = [.int .i64 y.k, .int .i64 y.n, .int .i64 y.m, dv] ∧ Bs W dv y.d ∧ (Lit.int .i64 y.k).wf = true ∧ (Lit.int .i64 y.n).wf = true ∧ (Lit.int .i64 y.m).wf = true := by
  obtain ⟨hlen, hf⟩ := field_at Try.underlying54 h
  rw [Try.cellsDeed] at hlen
  obtain ⟨c0, c1, c2, c3, rfl⟩ := four_of hlen
  have g0 := hf 0 _ rfl
  have h0 : ∃ n y, DataW.trod enc Try.prog W base sp held n 3 (([c0, c1, c2, c3].drop 0).take (Try.prog.cellsOf 3)) = some y := g0
  rw [Try.cellsInt] at h0
  obtain ⟨m0, y0, f0⟩ := h0
  have g1 := hf 1 _ rfl
  have h1 : ∃ n y, DataW.trod enc Try.prog W base sp held n 3 (([c0, c1, c2, c3].drop 1).take (Try.prog.cellsOf 3)) = some y := g1
  rw [Try.cellsInt] at h1
  obtain ⟨m1, y1, f1⟩ := h1
  have g2 := hf 2 _ rfl
  have h2 : ∃ n y, DataW.trod enc Try.prog W base sp held n 3 (([c0, c1, c2, c3].drop 2).take (Try.prog.cellsOf 3)) = some y := g2
  rw [Try.cellsInt] at h2
  obtain ⟨m2, y2, f2⟩ := h2
  have g3 := hf 3 _ rfl
  have h3 : ∃ n y, DataW.trod enc Try.prog W base sp held n 52 (([c0, c1, c2, c3].drop 3).take (Try.prog.cellsOf 52)) = some y := g3
  rw [Try.cellsBs] at h3
  obtain ⟨m3, y3, f3⟩ := h3
  obtain ⟨k, rfl, hk⟩ := int_cell f0
  obtain ⟨n, rfl, hn⟩ := int_cell f1
  obtain ⟨m, rfl, hm⟩ := int_cell f2
  obtain ⟨l, hl⟩ := bs_of_trod Try.underlying52 Try.underlying5 Try.cellsB f3
  exact ⟨⟨k, n, m, l⟩, _, rfl, hl, hk, hn, hm⟩

set_option maxRecDepth 20000 in
/-- A deed that is an argument. -/
theorem open_deed {v : Value} {d : DataW H} {p : List MemPlace} {b0 : Nat} (hv : Value.okWide Try.prog W .any b0 54 v) (h : DataW.Trod enc Try.prog W base sp held 54 v d p) :
    ∃ y : DeedP, DeedV W v y ∧ (-9223372036854775808 ≤ y.n ∧ y.n ≤ 9223372036854775807) ∧ (-9223372036854775808 ≤ y.m ∧ y.m ≤ 9223372036854775807) := by
  obtain ⟨fuel, hf⟩ := h
  unfold Value.okWide at hv
  rw [Try.underlying54] at hv
  obtain ⟨cs, rfl, -, -⟩ := hv
  obtain ⟨y, dv, e, hb, -, hn, hm⟩ := deed_cells hf
  have e' : cs = #[.int .i64 y.k, .int .i64 y.n, .int .i64 y.m, dv] := Array.toList_inj.1 e
  exact ⟨y, ⟨dv, by rw [e'], hb⟩, bounds_i64 hn, bounds_i64 hm⟩

end

end Go.Proofs.Ytjggiameajndgac

/-
  How arguments that are steps, and slices of steps, are read.
-/
namespace Go.Proofs.Ytjggiameajndgac
open Go.ChangeShapes Go.WideShapes Go.ChangeAt Go.RowKit

section
variable {H : Type} {enc : TypeId × Value → H} {W : World} {base : Nat} {sp : Nat → Bool} {held : Bool}

theorem Try.cellsStep : Try.prog.cellsOf 56 = 7 := by kernel_rfl

set_option maxRecDepth 20000 in
/-- Cells of a step. -/
theorem step_cells {fuel : Nat} {cs : List Value} {x : DataW H × List MemPlace} (h : DataW.trod enc Try.prog W base sp held fuel 56 cs = some x) :
    ∃ (y : StepP) (dv : Value), cs = [.int .i64 y.k, .int .i64 y.n, .int .i64 y.m, .int .i64 y.d.k, .int .i64 y.d.n, .int .i64 y.d.m, dv] ∧ Bs W dv y.d.d ∧ y.n ≤ 9223372036854775807 := by
  obtain ⟨hlen, hf⟩ := field_at Try.underlying56 h
  rw [Try.cellsStep] at hlen
  obtain ⟨c0, c1, c2, c3, c4, c5, c6, rfl⟩ := seven_of hlen
  have g0 := hf 0 _ rfl
  have h0 : ∃ n y, DataW.trod enc Try.prog W base sp held n 3 (([c0, c1, c2, c3, c4, c5, c6].drop 0).take (Try.prog.cellsOf 3)) = some y := g0
  rw [Try.cellsInt] at h0
  obtain ⟨m0, y0, f0⟩ := h0
  have g1 := hf 1 _ rfl
  have h1 : ∃ n y, DataW.trod enc Try.prog W base sp held n 3 (([c0, c1, c2, c3, c4, c5, c6].drop 1).take (Try.prog.cellsOf 3)) = some y := g1
  rw [Try.cellsInt] at h1
  obtain ⟨m1, y1, f1⟩ := h1
  have g2 := hf 2 _ rfl
  have h2 : ∃ n y, DataW.trod enc Try.prog W base sp held n 3 (([c0, c1, c2, c3, c4, c5, c6].drop 2).take (Try.prog.cellsOf 3)) = some y := g2
  rw [Try.cellsInt] at h2
  obtain ⟨m2, y2, f2⟩ := h2
  have g3 := hf 3 _ rfl
  have h3 : ∃ n y, DataW.trod enc Try.prog W base sp held n 54 (([c0, c1, c2, c3, c4, c5, c6].drop 3).take (Try.prog.cellsOf 54)) = some y := g3
  rw [Try.cellsDeed] at h3
  obtain ⟨m3, y3, f3⟩ := h3
  obtain ⟨k, rfl, -⟩ := int_cell f0
  obtain ⟨n, rfl, hn⟩ := int_cell f1
  obtain ⟨m, rfl, -⟩ := int_cell f2
  obtain ⟨y, dv, e, hb, -⟩ := deed_cells f3
  simp only [List.drop_succ_cons, List.drop_zero, List.take_succ_cons, List.take_zero, List.cons.injEq, and_true] at e
  obtain ⟨rfl, rfl, rfl, rfl⟩ := e
  exact ⟨⟨k, n, m, y⟩, _, rfl, hb, (bounds_i64 hn).2⟩

set_option maxRecDepth 20000 in
/-- A step that is an argument. -/
theorem open_step {v : Value} {d : DataW H} {p : List MemPlace} {b0 : Nat} (hv : Value.okWide Try.prog W .any b0 56 v) (h : DataW.Trod enc Try.prog W base sp held 56 v d p) : ∃ y : StepP, StepV W v y := by
  obtain ⟨fuel, hf⟩ := h
  unfold Value.okWide at hv
  rw [Try.underlying56] at hv
  obtain ⟨cs, rfl, -, -⟩ := hv
  obtain ⟨y, dv, e, hb, hn⟩ := step_cells hf
  have e' : cs = #[.int .i64 y.k, .int .i64 y.n, .int .i64 y.m, .int .i64 y.d.k, .int .i64 y.d.n, .int .i64 y.d.m, dv] := Array.toList_inj.1 e
  exact ⟨y, dv, by rw [e'], hb, hn⟩

theorem addr_plain (b o j : Nat) : (⟨b, o, none⟩ : Addr).add j = ⟨b, o + j, none⟩ := by unfold Addr.add; split <;> simp_all

set_option maxRecDepth 20000 in
/-- Steps that are an argument. -/
theorem open_steps {v : Value} {d : DataW H} {p : List MemPlace} {b0 : Nat} (hv : Value.okWide Try.prog W .any b0 22 v) (h : DataW.Trod enc Try.prog W base sp held 22 v d p) : ∃ l : List StepP, Stps W v l ∧ ∀ s ∈ l, Octets s.d.d := by
  obtain ⟨a0, len0, cap0, rfl⟩ := okWide_slice Try.underlying22 hv
  obtain ⟨fuel, hf⟩ := h
  rcases Go.Deep.open_slice Try.underlying22 (by simpa [Value.cells] using hf) with ⟨hcs, _⟩ | ⟨a, len, cap, m, n, D, Pl, hcs, hb, hl, hm, hmm, hx, hV⟩
  · simp at hcs
    obtain ⟨rfl, rfl, rfl⟩ := hcs
    exact ⟨[], ⟨none, 0, rfl, Nat.le_refl _, Nat.zero_le _, fun _ => rfl, fun h => by simp at h⟩, fun s hs => by simp at hs⟩
  · simp at hcs
    obtain ⟨rfl, rfl, rfl⟩ := hcs
    have hlm : len0 ≤ m := by rw [hmm]; split <;> omega
    rw [Try.cellsStep] at hV
    have hch : ∀ i : Nat, ∃ y : StepP, i < len0 → ∃ dv, Bs W dv y.d.d ∧ y.n ≤ 9223372036854775807 ∧ ∀ j : Nat, j < 7 → W.cell? ((a.add (i * 7)).add j) = [Value.int .i64 y.k, .int .i64 y.n, .int .i64 y.m, .int .i64 y.d.k, .int .i64 y.d.n, .int .i64 y.d.m, dv][j]? := fun i => by
      by_cases hi : i < len0
      · obtain ⟨cs', hc, ht⟩ := hV i (by omega)
        obtain ⟨y, dv, rfl, hb, hn⟩ := step_cells ht
        obtain ⟨-, -, hcell⟩ := World.cells?_some hc
        exact ⟨y, fun _ => ⟨dv, hb, hn, hcell⟩⟩
      · exact ⟨⟨0, 0, 0, ⟨0, 0, 0, []⟩⟩, fun h => absurd h hi⟩
    obtain ⟨f, hf'⟩ : ∃ f : Nat → StepP, ∀ i, i < len0 → ∃ dv, Bs W dv (f i).d.d ∧ (f i).n ≤ 9223372036854775807 ∧ ∀ j : Nat, j < 7 → W.cell? ((a.add (i * 7)).add j) = [Value.int .i64 (f i).k, .int .i64 (f i).n, .int .i64 (f i).m, .int .i64 (f i).d.k, .int .i64 (f i).d.n, .int .i64 (f i).d.m, dv][j]? := ⟨fun i => (hch i).choose, fun i => (hch i).choose_spec⟩
    clear hch hV
    by_cases hp : 0 < len0
    · obtain ⟨b, off, spot⟩ := a
      have hspot : spot = none := by
        obtain ⟨dv, -, -, hc⟩ := hf' 0 hp
        have := World.cell?_spot (hc 0 (by omega))
        simpa [Addr.add] using this
      subst hspot
      refine ⟨(List.range len0).map f, ⟨some ⟨b, off, none⟩, cap0, by simp, by simpa using hl, hm, (fun h => nomatch h), fun _ => ⟨b, off, rfl, fun i s hs => ?_⟩⟩, fun s hs => ?_⟩
      · obtain ⟨hi, e⟩ := List.getElem?_eq_some_iff.1 hs
        have hi' : i < len0 := by simpa using hi
        have e' : s = f i := by rw [← e]; simp
        subst e'
        obtain ⟨dv, hb, hn, hc⟩ := hf' i hi'
        have hc' : ∀ j : Nat, j < 7 → W.cell? ⟨b, off + i * 7 + j, none⟩ = [Value.int .i64 (f i).k, .int .i64 (f i).n, .int .i64 (f i).m, .int .i64 (f i).d.k, .int .i64 (f i).d.n, .int .i64 (f i).d.m, dv][j]? := fun j hj => by rw [← hc j hj, addr_plain, addr_plain]
        exact ⟨dv, hc' 0 (by omega), hc' 1 (by omega), hc' 2 (by omega), hc' 3 (by omega), hc' 4 (by omega), hc' 5 (by omega), hc' 6 (by omega), hb, hn⟩
      · obtain ⟨i, hi, rfl⟩ := List.mem_map.1 hs
        obtain ⟨dv, hb, -, -⟩ := hf' i (List.mem_range.1 hi)
        exact hb.octets
    · obtain rfl : len0 = 0 := by omega
      exact ⟨[], ⟨some a, cap0, rfl, Nat.zero_le _, hm, (fun h => nomatch h), fun h => by simp at h⟩, fun s hs => by simp at hs⟩

end

end Go.Proofs.Ytjggiameajndgac
