import Derived.ProofKit
import Derived.OpenShut
import Derived.Deep.Slices
import Derived.Test.YtjggiameajndgabJoin17
/-
  Chapter 5's statements, walked over what the program's model returns.
-/
namespace Go.Proofs.Ytjggiameajndgab
open Go.RowKit

/-- A slice of slices of bytes. -/
def AnBss (ls : List (List Int)) (v : Value) (w : World) : Prop := Bss w v ls
theorem AnBss.stable (ls : List (List Int)) : ∀ (v : Value) (x y : World), AnBss ls v x → Grow x y → AnBss ls v y := fun _ _ _ h hg => Bss.grow h hg

theorem refSame_eq (v u : Value) (a : List (List Int)) (w : World) (h : Bss w v a) (g : Bss w u a) : Calls Try.prog 20 #[v, u] w fun e w' => e = .returned (.bool true) ∧ Grow w w' := by
  have := refSame_any v u a a w h g
  rwa [show (a == a) = true from by simp] at this

end Go.Proofs.Ytjggiameajndgab

/-
  mhlaw8.ArrayTells returns true, whatever it is handed; nothing old turns.
-/
namespace Go.Proofs.Ytjggiameajndgab
open Go.RowKit

/-- An array. -/
def AnArr (a : ArrP) (v : Value) (w : World) : Prop := ArrV w v a
theorem AnArr.stable (a : ArrP) : ∀ (v : Value) (x y : World), AnArr a v x → Grow x y → AnArr a v y := fun _ _ _ h hg => ArrV.grow h hg

theorem same6_yes (va vb : Value) (a : ArrP) (w : World) (ha : ArrV w va a) (hb : ArrV w vb a) : Calls Try.prog 31 #[va, vb] w fun e w' => e = .returned (.bool true) ∧ Grow w w' := by
  have := refSame6_any va vb a a w ha hb
  rwa [sameB_iff.2 rfl] at this

theorem own_arr (v : Value) (a : ArrP) (w : World) (h : ArrV w v a) (ha : Whole a) (h8 : ∀ d s, (cellAt a d s).length ≤ 8) (hI : Few a) :
    Calls Try.prog 36 #[v] w fun e w' => ∃ r, e = .returned r ∧ AnArr a r w' ∧ Grow w w' :=
  (own_any v a w h ha h8 hI).mono fun _ _ ⟨_, _, _, he, hO, hg⟩ => ⟨_, he, hO.arr, hg⟩
theorem write_arr (v nv : Value) (a : ArrP) (s : Nat) (cs : List (List Int)) (n : Int) (w : World) (h : ArrV w v a) (ha : Whole a) (h8 : ∀ d s, (cellAt a d s).length ≤ 8) (hI : Few a) (hi : IntentV w nv ((s : Int), cs)) (hs3 : s < 3) (hc4 : cs.length = 4) (hc8 : ∀ b ∈ cs, b.length ≤ 8) :
    Calls Try.prog 44 #[v, nv, .int .i64 n] w fun e w' => ∃ r, e = .returned r ∧ AnArr (writeL a ((s : Int), cs) n) r w' ∧ Grow w w' :=
  (write_any v nv a s cs n w h ha h8 hI hi hs3 hc4 hc8).mono fun _ _ ⟨_, _, _, he, hO, hg⟩ => ⟨_, he, hO.arr, hg⟩
theorem mount_arr (v : Value) (a : ArrP) (w : World) (h : ArrV w v a) (ha : Whole a) (h8 : ∀ d s, (cellAt a d s).length ≤ 8) (hI : Fewer a) :
    Calls Try.prog 45 #[v] w fun e w' => ∃ r, e = .returned r ∧ AnArr (mountL a) r w' ∧ Grow w w' :=
  (mount_any v a w h ha h8 hI).mono fun _ _ ⟨_, _, _, he, hO, hg⟩ => ⟨_, he, hO.arr, hg⟩

/-- What an array that came of the first writes of an intent is. -/
theorem writeL_few {a : ArrP} (ha : Arr a) (s : Nat) (cs : List (List Int)) (hs : s < 3) (hc4 : cs.length = 4) (hc8 : ∀ b ∈ cs, b.length ≤ 8) (n : Int) :
    Whole (writeL a ((s : Int), cs) n) ∧ (∀ d s', (cellAt (writeL a ((s : Int), cs) n) d s').length ≤ 8) ∧ Fewer (writeL a ((s : Int), cs) n) := by
  have hw := writeTo_whole ha.whole ((s : Int), cs)
  have hp : ∀ k, k ≤ 4 → Arr (putTo a cs s k) := fun k hk => putTo_arr ha hc8 hs k hk
  have hcell : ∀ k, k ≤ 6 → ∀ d s', (cellAt (writeTo a ((s : Int), cs) k) d s').length ≤ 8 := fun k hk d s' => by
    by_cases h0 : k = 0
    · subst h0; exact ha.short d s'
    by_cases h6 : k = 6
    · subst h6
      have : (writeTo a ((s : Int), cs) 6).ds = (putTo a cs s 4).ds := by rw [six_eq]; rfl
      rw [cellAt, this]
      exact (hp 4 (by omega)).short d s'
    · obtain ⟨j, rfl⟩ : ∃ j, k = j + 1 := ⟨k - 1, by omega⟩
      have : (writeTo a ((s : Int), cs) (j + 1)).ds = (putTo a cs s j).ds := writeTo_mid_ds a ((s : Int), cs) j (by omega)
      rw [cellAt, this]
      exact (hp j (by omega)).short d s'
  have h6 := many6_le n
  refine ⟨hw _, hcell _ h6, ?_⟩
  show Fewer (writeTo a ((s : Int), cs) (many6 n))
  by_cases h0 : many6 n = 0
  · rw [h0]; exact .inl ha.none
  by_cases h6' : many6 n = 6
  · rw [h6']; exact .inl rfl
  · exact .inr ⟨s, cs, writeTo_is_mid a _ _ (by omega) (by omega), hs, hc4, hc8⟩

end Go.Proofs.Ytjggiameajndgab

/-
  mhlaw8.ArrayTells returns true, whatever it is handed; nothing old turns: the walk.
-/
namespace Go.Proofs.Ytjggiameajndgab
open Go.RowKit

set_option maxRecDepth 20000 in
set_option maxHeartbeats 12800000 in
theorem arrayTells_walk (v dv : Value) (l : List StepP) (x : DeedP) (n m : Int) (w : World) (h : Stps w v l) (hd : DeedV w dv x) :
    Calls Try.prog 8 #[v, dv, .int .i64 n, .int .i64 m] w fun e w' => e = .returned (.bool true) ∧ Grow w w' := by
  have HDV : Hid (DeedV w dv x) := hd
  obtain ⟨tv, rfl, hb⟩ := hd
  obtain ⟨d1, d2, d3, rfl⟩ := hb.form
  clear hb
  obtain ⟨W, hW⟩ : ∃ W, W = w.alloc (.cells #[.int .i64 x.k, .int .i64 x.n, .int .i64 x.m, .slice d1 d2 d3] 25) := ⟨_, rfl⟩
  have hgW : Grow w W := by rw [hW]; exact Grow.alloc _ _
  have hbW : W.heap[w.heap.size]? = some (.cells #[.int .i64 x.k, .int .i64 x.n, .int .i64 x.m, .slice d1 d2 d3] 25 (0, 0)) := by rw [hW]; exact heap_alloc_new w _
  have q0 : W.cell? ⟨w.heap.size, 0, none⟩ = some (.int .i64 x.k) := row_at hbW 0 rfl
  have q1 : W.cell? ⟨w.heap.size, 1, none⟩ = some (.int .i64 x.n) := row_at hbW 1 rfl
  have q2 : W.cell? ⟨w.heap.size, 2, none⟩ = some (.int .i64 x.m) := row_at hbW 2 rfl
  have q3 : W.cell? ⟨w.heap.size, 3, none⟩ = some (.slice d1 d2 d3) := row_at hbW 3 rfl
  have hA := playTo_arr l (min l.length 100)
  go_enter Try.func8, Try.ntmps8
  go_wp2_with fail
  rw [← hW]
  clear hW hbW
  refine (arrNew_any W).mono ?_
  rintro e w1 ⟨r1, rfl, hr1, hg1⟩
  go_wp2_with fail
  refine (refNew6_any w1).mono ?_
  rintro e w2 ⟨r2, rfl, hr2, hg2⟩
  go_wp2_with fail
  refine (same6_yes r1 r2 newP w2 (hr1.grow hg2) hr2).mono ?_
  rintro e w3 ⟨rfl, hg3⟩
  have hg03 := (hg1.trans hg2).trans hg3
  clear hr1 hr2 hg1 hg2 hg3
  go_wp2_with fail
  refine (refPlay_any v l w3 (h.grow (hgW.trans hg03))).mono ?_
  rintro e w4 ⟨ra, es, rfl, hra, -, hg4⟩
  obtain ⟨a1, n1, c1, a2, n2, c2, rfl⟩ := hra.form
  have hA : Arr (playL l) := hA
  generalize playL l = a at *
  obtain ⟨W4, hW4⟩ : ∃ W4, W4 = w4.alloc (.cells #[.slice a1 n1 c1, .slice a2 n2 c2] 39) := ⟨_, rfl⟩
  obtain ⟨b9, hb9⟩ : ∃ b9, b9 = w4.heap.size := ⟨_, rfl⟩
  have hgA : Grow w4 W4 := by rw [hW4]; exact Grow.alloc _ _
  have hB9 : W4.heap[b9]? = some (.cells #[.slice a1 n1 c1, .slice a2 n2 c2] 39 (0, 0)) := by rw [hW4, hb9]; exact heap_alloc_new w4 _
  have k0 := two_at0 hB9
  have k1 := two_at1 hB9
  have HA : Hid (ArrV W4 (.agg #[.slice a1 n1 c1, .slice a2 n2 c2]) a ∧ Arr a) := ⟨hra.grow hgA, hA⟩
  have hg04 := (hg03.trans hg4).trans hgA
  have e0 := hg04.at q0
  have e1 := hg04.at q1
  have e2 := hg04.at q2
  have e3 := hg04.at q3
  have hgw4 := hgW.trans hg04
  have HDd : Hid (∀ w', Grow W4 w' → DeedV w' (.agg #[.int .i64 x.k, .int .i64 x.n, .int .i64 x.m, .slice d1 d2 d3]) x) := fun w' hg => HDV.out.grow (hgw4.trans hg)
  have hDo := arrDo_any (.agg #[.slice a1 n1 c1, .slice a2 n2 c2]) (.agg #[.int .i64 x.k, .int .i64 x.n, .int .i64 x.m, .slice d1 d2 d3]) a x W4 HA.out.1 hA.whole hA.short (.inl hA.none) (HDd.out _ (Grow.refl _))
  clear q0 q1 q2 q3 hra hA hB9 hg03 hg4 hgA HDV
  subst hW4
  go_wp2_with fail
  rw [← hb9]
  refine hDo.mono ?_
  rintro e w5 ⟨bs5, dv5, iv5, rfl, hO5, hg5⟩
  clear hDo
  clear hb9
  generalize w4.alloc (.cells #[.slice a1 n1 c1, .slice a2 n2 c2] 39) = W4 at *
  obtain ⟨⟨x1, x2, x3, rfl⟩, y1, y2, y3, rfl⟩ := hO5.forms
  obtain ⟨W5, hW5⟩ : ∃ W5, W5 = w5.alloc (.cells #[.slice x1 x2 x3, .slice y1 y2 y3] 39) := ⟨_, rfl⟩
  obtain ⟨b11, hb11⟩ : ∃ b11, b11 = w5.heap.size := ⟨_, rfl⟩
  have hgB : Grow w5 W5 := by rw [hW5]; exact Grow.alloc _ _
  have hB11 : W5.heap[b11]? = some (.cells #[.slice x1 x2 x3, .slice y1 y2 y3] 39 (0, 0)) := by rw [hW5, hb11]; exact heap_alloc_new w5 _
  have m0 := two_at0 hB11
  have m1 := two_at1 hB11
  have HX : Hid (ArrV W5 (.agg #[.slice x1 x2 x3, .slice y1 y2 y3]) (doA a x)) := hO5.arr.grow hgB
  have hg45 := hg5.trans hgB
  have f0 := hg45.at k0
  have f1 := hg45.at k1
  have g0 := hg45.at e0
  have g1 := hg45.at e1
  have g2 := hg45.at e2
  have g3 := hg45.at e3
  have hDo := refDo6_any (.agg #[.slice a1 n1 c1, .slice a2 n2 c2]) (.agg #[.int .i64 x.k, .int .i64 x.n, .int .i64 x.m, .slice d1 d2 d3]) a x W5 (HA.out.1.grow hg45) HA.out.2 (HDd.out _ hg45)
  clear hO5 hB11 hgB hg5
  subst hW5
  go_wp2_with fail
  rw [← hb11]
  refine hDo.mono ?_
  rintro e w6 ⟨r6, rfl, hr6, hg6⟩
  clear hDo hb11
  generalize w5.alloc (.cells #[.slice x1 x2 x3, .slice y1 y2 y3] 39) = W5 at *
  obtain ⟨s1, s2, s3, u1, u2, u3, rfl⟩ := hr6.form
  obtain ⟨W6, hW6⟩ : ∃ W6, W6 = w6.alloc (.cells #[.slice s1 s2 s3, .slice u1 u2 u3] 39) := ⟨_, rfl⟩
  obtain ⟨b13, hb13⟩ : ∃ b13, b13 = w6.heap.size := ⟨_, rfl⟩
  have hgC : Grow w6 W6 := by rw [hW6]; exact Grow.alloc _ _
  have hB13 : W6.heap[b13]? = some (.cells #[.slice s1 s2 s3, .slice u1 u2 u3] 39 (0, 0)) := by rw [hW6, hb13]; exact heap_alloc_new w6 _
  have p0 := two_at0 hB13
  have p1 := two_at1 hB13
  have hg56 := hg6.trans hgC
  have HX6 : Hid (ArrV W6 (.agg #[.slice x1 x2 x3, .slice y1 y2 y3]) (doA a x)) := HX.out.grow hg56
  have HY6 : Hid (ArrV W6 (.agg #[.slice s1 s2 s3, .slice u1 u2 u3]) (doA a x)) := hr6.grow hgC
  have hg46 := hg45.trans hg56
  have HA6 : Hid (∀ w', Grow W6 w' → ArrV w' (.agg #[.slice a1 n1 c1, .slice a2 n2 c2]) a) := fun w' hg => HA.out.1.grow (hg46.trans hg)
  have m0' := hg56.at m0
  have m1' := hg56.at m1
  have f0' := hg56.at f0
  have f1' := hg56.at f1
  have g0' := hg56.at g0
  have g1' := hg56.at g1
  have g2' := hg56.at g2
  have g3' := hg56.at g3
  clear f0 f1 g0 g1 g2 g3 m0 m1 k0 k1 e0 e1 e2 e3 hr6 hB13 hgC hg6 HX
  have Hpe : Hid (planE a x = planE a x) := rfl
  generalize hE : planE a x = E at *
  have HPE : Hid (planE a x = E) := hE
  clear hE Hpe
  go_wp2
  rw [← hW6, ← hb13]
  clear hW6 hb13
  refine wp_region_stable Grow [IsV (.int .i64 E), IsV (.int .i64 E), IsV (.bool false), IsV (.bool false), IsV (.agg #[.slice x1 x2 x3, .slice y1 y2 y3]), IsV (.agg #[.slice s1 s2 s3, .slice u1 u2 u3]), IsV (.bool true), IsV (.bool false), IsV (.bool false), IsV (.bool false), IsV (.agg #[.slice a1 n1 c1, .slice a2 n2 c2]), AnArr a, IsV (.agg #[.slice a1 n1 c1, .slice a2 n2 c2]), IsV (.bool true), IsV (.bool false), IsV (.bool false)] (by kernel_rfl) (by kernel_rfl) rfl Grow.refl (fun _ _ _ => Grow.trans) ?_ ?_ ?_
  · repeat (refine List.forall_mem_cons.2 ⟨by first | exact IsV.stable _ | exact AnArr.stable _, ?_⟩)
    exact fun R hR => nomatch hR
  · skip
    refine StepsS.cons ?_ fun v0 => ⟨_, _, by simp only [Act.put, List.setIfInBounds_toArray, List.set_cons_succ, List.set_cons_zero]; first | done | rfl, by simp only [List.nil_append]; first | done | rfl, ?_⟩
    · intro w1 hE hd
      clear hd
      go_wp2
      exact ⟨_, rfl, Grow.refl _, rfl⟩
    refine StepsS.cons ?_ fun v1 => ⟨_, _, by simp only [Act.put, List.setIfInBounds_toArray, List.set_cons_succ, List.set_cons_zero]; first | done | rfl, by simp only [List.nil_append, List.cons_append]; first | done | rfl, ?_⟩
    · intro w1 hE hd
      clear hd
      go_wp2
      exact ⟨_, rfl, Grow.refl _, rfl⟩
    refine StepsS.cons ?_ fun v2 => ⟨_, _, by simp only [Act.put, List.setIfInBounds_toArray, List.set_cons_succ, List.set_cons_zero]; first | done | rfl, by simp only [List.nil_append, List.cons_append]; first | done | rfl, ?_⟩
    · intro w1 hE hd
      obtain rfl := IsV.eq (dep_at hd 0 rfl rfl rfl)
      obtain rfl := IsV.eq (dep_at hd 1 rfl rfl rfl)
      clear hd
      go_wp2
      exact ⟨_, rfl, Grow.refl _, rfl⟩
    refine StepsS.cons ?_ fun v3 => ⟨_, _, by simp only [Act.put, List.setIfInBounds_toArray, List.set_cons_succ, List.set_cons_zero]; first | done | rfl, by simp only [List.nil_append, List.cons_append]; first | done | rfl, ?_⟩
    · intro w1 hE hd
      obtain rfl := IsV.eq (dep_at hd 0 rfl rfl rfl)
      clear hd
      go_wp2
      exact ⟨_, rfl, Grow.refl _, rfl⟩
    refine StepsS.cons ?_ fun v4 => ⟨_, _, by simp only [Act.put, List.setIfInBounds_toArray, List.set_cons_succ, List.set_cons_zero]; first | done | rfl, by simp only [List.nil_append, List.cons_append]; first | done | rfl, ?_⟩
    · intro w1 hE hd
      obtain rfl := IsV.eq (dep_at hd 0 rfl rfl rfl)
      clear hd
      have qq0 := hE.drew.at m0'
      have qq1 := hE.drew.at m1'
      go_wp2
      exact ⟨_, rfl, Grow.refl _, rfl⟩
    refine StepsS.cons ?_ fun v5 => ⟨_, _, by simp only [Act.put, List.setIfInBounds_toArray, List.set_cons_succ, List.set_cons_zero]; first | done | rfl, by simp only [List.nil_append, List.cons_append]; first | done | rfl, ?_⟩
    · intro w1 hE hd
      obtain rfl := IsV.eq (dep_at hd 0 rfl rfl rfl)
      clear hd
      have qq0 := hE.drew.at p0
      have qq1 := hE.drew.at p1
      go_wp2
      exact ⟨_, rfl, Grow.refl _, rfl⟩
    refine StepsS.cons ?_ fun v6 => ⟨_, _, by simp only [Act.put, List.setIfInBounds_toArray, List.set_cons_succ, List.set_cons_zero]; first | done | rfl, by simp only [List.nil_append, List.cons_append]; first | done | rfl, ?_⟩
    · intro w1 hE hd
      obtain rfl := IsV.eq (dep_at hd 0 rfl rfl rfl)
      obtain rfl := IsV.eq (dep_at hd 1 rfl rfl rfl)
      obtain rfl := IsV.eq (dep_at hd 2 rfl rfl rfl)
      clear hd
      go_wp2_with fail
      refine (same6_yes _ _ (doA a x) _ (HX6.out.grow hE.drew) (HY6.out.grow hE.drew)).mono ?_
      rintro e w4 ⟨rfl, hg4⟩
      go_wp2_with fail
      exact ⟨_, rfl, hg4, rfl⟩
    refine StepsS.cons ?_ fun v7 => ⟨_, _, by simp only [Act.put, List.setIfInBounds_toArray, List.set_cons_succ, List.set_cons_zero]; first | done | rfl, by simp only [List.nil_append, List.cons_append]; first | done | rfl, ?_⟩
    · intro w1 hE hd
      obtain rfl := IsV.eq (dep_at hd 0 rfl rfl rfl)
      obtain rfl := IsV.eq (dep_at hd 1 rfl rfl rfl)
      clear hd
      go_wp2
      exact ⟨_, rfl, Grow.refl _, rfl⟩
    refine StepsS.cons ?_ fun v8 => ⟨_, _, by simp only [Act.put, List.setIfInBounds_toArray, List.set_cons_succ, List.set_cons_zero]; first | done | rfl, by simp only [List.nil_append, List.cons_append]; first | done | rfl, ?_⟩
    · intro w1 hE hd
      obtain rfl := IsV.eq (dep_at hd 0 rfl rfl rfl)
      obtain rfl := IsV.eq (dep_at hd 1 rfl rfl rfl)
      clear hd
      go_wp2
      exact ⟨_, rfl, Grow.refl _, rfl⟩
    refine StepsS.cons ?_ fun v9 => ⟨_, _, by simp only [Act.put, List.setIfInBounds_toArray, List.set_cons_succ, List.set_cons_zero]; first | done | rfl, by simp only [List.nil_append, List.cons_append]; first | done | rfl, ?_⟩
    · intro w1 hE hd
      obtain rfl := IsV.eq (dep_at hd 0 rfl rfl rfl)
      clear hd
      go_wp2
      exact ⟨_, rfl, Grow.refl _, rfl⟩
    refine StepsS.cons ?_ fun v10 => ⟨_, _, by simp only [Act.put, List.setIfInBounds_toArray, List.set_cons_succ, List.set_cons_zero]; first | done | rfl, by simp only [List.nil_append, List.cons_append]; first | done | rfl, ?_⟩
    · intro w1 hE hd
      obtain rfl := IsV.eq (dep_at hd 0 rfl rfl rfl)
      clear hd
      have qq0 := hE.drew.at f0'
      have qq1 := hE.drew.at f1'
      go_wp2
      exact ⟨_, rfl, Grow.refl _, rfl⟩
    refine StepsS.cons ?_ fun v11 => ⟨_, _, by simp only [Act.put, List.setIfInBounds_toArray, List.set_cons_succ, List.set_cons_zero]; first | done | rfl, by simp only [List.nil_append, List.cons_append]; first | done | rfl, ?_⟩
    · intro w1 hE hd
      obtain rfl := IsV.eq (dep_at hd 0 rfl rfl rfl)
      obtain rfl := IsV.eq (dep_at hd 1 rfl rfl rfl)
      clear hd
      go_wp2_with fail
      refine (own_arr _ a _ (HA6.out _ hE.drew) HA.out.2.whole HA.out.2.short (.inl HA.out.2.none)).mono ?_
      rintro e w4 ⟨r', rfl, hr', hg4⟩
      go_wp2_with fail
      exact ⟨_, rfl, hg4, hr'⟩
    refine StepsS.cons ?_ fun v12 => ⟨_, _, by simp only [Act.put, List.setIfInBounds_toArray, List.set_cons_succ, List.set_cons_zero]; first | done | rfl, by simp only [List.nil_append, List.cons_append]; first | done | rfl, ?_⟩
    · intro w1 hE hd
      obtain rfl := IsV.eq (dep_at hd 0 rfl rfl rfl)
      clear hd
      have qq0 := hE.drew.at f0'
      have qq1 := hE.drew.at f1'
      go_wp2
      exact ⟨_, rfl, Grow.refl _, rfl⟩
    refine StepsS.cons ?_ fun v13 => ⟨_, _, by simp only [Act.put, List.setIfInBounds_toArray, List.set_cons_succ, List.set_cons_zero]; first | done | rfl, by simp only [List.nil_append, List.cons_append]; first | done | rfl, ?_⟩
    · intro w1 hE hd
      have d11 := dep_at hd 0 rfl rfl rfl
      obtain rfl := IsV.eq (dep_at hd 1 rfl rfl rfl)
      obtain rfl := IsV.eq (dep_at hd 3 rfl rfl rfl)
      clear hd
      go_wp2_with fail
      refine (same6_yes _ _ a _ d11 (HA6.out _ hE.drew)).mono ?_
      rintro e w4 ⟨rfl, hg4⟩
      go_wp2_with fail
      exact ⟨_, rfl, hg4, rfl⟩
    refine StepsS.cons ?_ fun v14 => ⟨_, _, by simp only [Act.put, List.setIfInBounds_toArray, List.set_cons_succ, List.set_cons_zero]; first | done | rfl, by simp only [List.nil_append, List.cons_append]; first | done | rfl, ?_⟩
    · intro w1 hE hd
      obtain rfl := IsV.eq (dep_at hd 0 rfl rfl rfl)
      obtain rfl := IsV.eq (dep_at hd 1 rfl rfl rfl)
      clear hd
      go_wp2
      exact ⟨_, rfl, Grow.refl _, rfl⟩
    refine StepsS.cons ?_ fun v15 => ⟨_, _, by simp only [Act.put, List.setIfInBounds_toArray, List.set_cons_succ, List.set_cons_zero]; first | done | rfl, by simp only [List.nil_append, List.cons_append]; first | done | rfl, ?_⟩
    · intro w1 hE hd
      obtain rfl := IsV.eq (dep_at hd 0 rfl rfl rfl)
      obtain rfl := IsV.eq (dep_at hd 1 rfl rfl rfl)
      clear hd
      go_wp2
      exact ⟨_, rfl, Grow.refl _, rfl⟩
    trivial
  intro w7 hw7
  refine FinS.cons ?_; rintro _ rfl; refine ⟨_, by simp only [Act.put, List.setIfInBounds_toArray, List.set_cons_succ, List.set_cons_zero]; first | done | rfl, ?_⟩
  refine FinS.cons ?_; rintro _ rfl; refine ⟨_, by simp only [Act.put, List.setIfInBounds_toArray, List.set_cons_succ, List.set_cons_zero]; first | done | rfl, ?_⟩
  refine FinS.cons ?_; rintro _ rfl; refine ⟨_, by simp only [Act.put, List.setIfInBounds_toArray, List.set_cons_succ, List.set_cons_zero]; first | done | rfl, ?_⟩
  refine FinS.cons ?_; rintro _ rfl; refine ⟨_, by simp only [Act.put, List.setIfInBounds_toArray, List.set_cons_succ, List.set_cons_zero]; first | done | rfl, ?_⟩
  refine FinS.cons ?_; rintro _ rfl; refine ⟨_, by simp only [Act.put, List.setIfInBounds_toArray, List.set_cons_succ, List.set_cons_zero]; first | done | rfl, ?_⟩
  refine FinS.cons ?_; rintro _ rfl; refine ⟨_, by simp only [Act.put, List.setIfInBounds_toArray, List.set_cons_succ, List.set_cons_zero]; first | done | rfl, ?_⟩
  refine FinS.cons ?_; rintro _ rfl; refine ⟨_, by simp only [Act.put, List.setIfInBounds_toArray, List.set_cons_succ, List.set_cons_zero]; first | done | rfl, ?_⟩
  refine FinS.cons ?_; rintro _ rfl; refine ⟨_, by simp only [Act.put, List.setIfInBounds_toArray, List.set_cons_succ, List.set_cons_zero]; first | done | rfl, ?_⟩
  refine FinS.cons ?_; rintro _ rfl; refine ⟨_, by simp only [Act.put, List.setIfInBounds_toArray, List.set_cons_succ, List.set_cons_zero]; first | done | rfl, ?_⟩
  refine FinS.cons ?_; rintro _ rfl; refine ⟨_, by simp only [Act.put, List.setIfInBounds_toArray, List.set_cons_succ, List.set_cons_zero]; first | done | rfl, ?_⟩
  refine FinS.cons ?_; rintro _ rfl; refine ⟨_, by simp only [Act.put, List.setIfInBounds_toArray, List.set_cons_succ, List.set_cons_zero]; first | done | rfl, ?_⟩
  refine FinS.cons fun v11 h11 => ⟨_, by simp only [Act.put, List.setIfInBounds_toArray, List.set_cons_succ, List.set_cons_zero]; first | done | rfl, ?_⟩
  refine FinS.cons ?_; rintro _ rfl; refine ⟨_, by simp only [Act.put, List.setIfInBounds_toArray, List.set_cons_succ, List.set_cons_zero]; first | done | rfl, ?_⟩
  refine FinS.cons ?_; rintro _ rfl; refine ⟨_, by simp only [Act.put, List.setIfInBounds_toArray, List.set_cons_succ, List.set_cons_zero]; first | done | rfl, ?_⟩
  refine FinS.cons ?_; rintro _ rfl; refine ⟨_, by simp only [Act.put, List.setIfInBounds_toArray, List.set_cons_succ, List.set_cons_zero]; first | done | rfl, ?_⟩
  refine FinS.cons ?_; rintro _ rfl; refine ⟨_, by simp only [Act.put, List.setIfInBounds_toArray, List.set_cons_succ, List.set_cons_zero]; first | done | rfl, ?_⟩
  first | show Exit.then _ _ _ _ _ | show Exit.inBlock _ _ _ _ _
  have hg67 : Grow W6 w7 := hw7.drew
  have i0 := hg67.at f0'
  have i1 := hg67.at f1'
  have j0 := hg67.at g0'
  have j1 := hg67.at g1'
  have j2 := hg67.at g2'
  have j3 := hg67.at g3'
  have hg47 := hg46.trans hg67
  have HA7 : Hid (∀ w', Grow w7 w' → ArrV w' (.agg #[.slice a1 n1 c1, .slice a2 n2 c2]) a) := fun w' hg => HA.out.1.grow (hg47.trans hg)
  have HD7 : Hid (∀ w', Grow w7 w' → DeedV w' (.agg #[.int .i64 x.k, .int .i64 x.n, .int .i64 x.m, .slice d1 d2 d3]) x) := fun w' hg => HDd.out w' (hg47.trans hg)
  have hgw7 := hgw4.trans hg47
  have hAA := HA.out.2
  clear f0' f1' g0' g1' g2' g3' m0' m1' p0 p1 HX6 HY6 HA6 HDd HA h11 hgw4 hg45 hg56 hg46 hg04 hgW
  have hRd := arrRead_any (.agg #[.slice a1 n1 c1, .slice a2 n2 c2]) a n w7 (HA7.out _ (Grow.refl _)) hAA.whole hAA.short
  have hRe := fun w' hg => refRead6_any (.agg #[.slice a1 n1 c1, .slice a2 n2 c2]) a n w' (HA7.out w' hg) hAA.whole
  have hBl := fun w' hg => arrBlocks_any (.agg #[.slice a1 n1 c1, .slice a2 n2 c2]) a w' (HA7.out w' hg) hAA.whole hAA.short
  have hBe := fun w' hg => refBlocks_any (.agg #[.slice a1 n1 c1, .slice a2 n2 c2]) a w' (HA7.out w' hg) hAA.whole
  generalize rdE a n = E1 at *
  generalize rdX a n = X1 at *
  generalize blkE a = E2 at *
  generalize blkL a = X2 at *
  go_wp2_with fail
  refine hRd.mono ?_
  rintro e w8 ⟨r8, rfl, hr8, hg8⟩
  have i0' := hg8.at i0
  have i1' := hg8.at i1
  clear hRd
  go_wp2_with fail
  refine (hRe _ hg8).mono ?_
  rintro e w9 ⟨r9, rfl, hr9, hg9⟩
  obtain ⟨t1, t2, t3, rfl⟩ := hr8.form
  obtain ⟨o1, o2, o3, rfl⟩ := hr9.form
  have hg79 := hg8.trans hg9
  have i09 := hg79.at i0
  have i19 := hg79.at i1
  have cv8 := run_convert_bs (P := Try.prog) 23 5 9 Try.underlying23 Try.underlying5 Try.underlying9 (hr8.grow hg9)
  have cv9 := run_convert_bs (P := Try.prog) 23 5 9 Try.underlying23 Try.underlying5 Try.underlying9 hr9
  clear hRe hr8 hr9 i0' i1'
  go_wp2_with fail
  refine (hBl _ hg79).mono ?_
  rintro e wA ⟨rA, rfl, hrA, hgA⟩
  have hg7A := hg79.trans hgA
  have i0A := hg7A.at i0
  have i1A := hg7A.at i1
  clear hBl cv8 cv9 i09 i19
  go_wp2_with fail
  refine (hBe _ hg7A).mono ?_
  rintro e wB ⟨rB, rfl, hrB, hgB⟩
  have hSm := refSame_eq rA rB X2 wB (hrA.grow hgB) hrB
  have hg7B := hg7A.trans hgB
  clear hBe i0A i1A hrA hrB
  go_wp2_with fail
  refine hSm.mono ?_
  rintro e wC ⟨rfl, hgC⟩
  have hg7C := hg7B.trans hgC
  clear hSm
  have i0C := hg7C.at i0
  have i1C := hg7C.at i1
  have j0C := hg7C.at j0
  have j1C := hg7C.at j1
  have j2C := hg7C.at j2
  have j3C := hg7C.at j3
  have hPl := arrPlan_any (.agg #[.slice a1 n1 c1, .slice a2 n2 c2]) (.agg #[.int .i64 x.k, .int .i64 x.n, .int .i64 x.m, .slice d1 d2 d3]) a x wC (HA7.out _ hg7C) hAA.whole hAA.short (HD7.out _ hg7C)
  have hPe := fun w' hg => refPlan_any (.agg #[.slice a1 n1 c1, .slice a2 n2 c2]) (.agg #[.int .i64 x.k, .int .i64 x.n, .int .i64 x.m, .slice d1 d2 d3]) a x w' (HA7.out w' hg) hAA.whole (HD7.out _ hg)
  rw [HPE.out] at hPl hPe
  go_wp2_with fail
  refine hPl.mono ?_
  rintro e wD ⟨rD, rfl, hrD, hgD⟩
  clear hPl i0C i1C j0C j1C j2C j3C
  obtain ⟨cD, rfl, hcD⟩ := hrD
  obtain ⟨l1, l2, l3, rfl⟩ : ∃ a n c, cD = .slice a n c := by
    obtain ⟨a, c, e⟩ := hcD.form
    exact ⟨_, _, _, e⟩
  have hcD : Bss wD (.slice l1 l2 l3) (planI a x).2 := hcD
  generalize hI1 : (planI a x).1 = I1 at *
  obtain ⟨WD, hWD⟩ : ∃ WD, WD = wD.alloc (.cells #[.int .i64 I1, .slice l1 l2 l3] 62) := ⟨_, rfl⟩
  obtain ⟨b19, hb19⟩ : ∃ b19, b19 = wD.heap.size := ⟨_, rfl⟩
  have hgD' : Grow wD WD := by rw [hWD]; exact Grow.alloc _ _
  have hB19 : WD.heap[b19]? = some (.cells #[.int .i64 I1, .slice l1 l2 l3] 62 (0, 0)) := by rw [hWD, hb19]; exact heap_alloc_new wD _
  have z0 := two_at0 hB19
  have z1 := two_at1 hB19
  have hg7D := (hg7C.trans hgD).trans hgD'
  have i0D := hg7D.at i0
  have i1D := hg7D.at i1
  have j0D := hg7D.at j0
  have j1D := hg7D.at j1
  have j2D := hg7D.at j2
  have j3D := hg7D.at j3
  have HcD : Hid (Bss WD (.slice l1 l2 l3) (planI a x).2) := hcD.grow hgD'
  clear hcD hB19
  subst hWD
  go_wp2_with fail
  rw [← hb19]
  refine (hPe _ hg7D).mono ?_
  rintro e wE ⟨rE, rfl, hrE, hgE⟩
  clear hPe hb19 i0D i1D j0D j1D j2D j3D
  generalize wD.alloc (.cells #[.int .i64 I1, .slice l1 l2 l3] 62) = WD at *
  obtain ⟨cE, rfl, hcE⟩ := hrE
  obtain ⟨v1, v2, v3, rfl⟩ : ∃ a n c, cE = .slice a n c := by
    obtain ⟨a, c, e⟩ := hcE.form
    exact ⟨_, _, _, e⟩
  have hcE : Bss wE (.slice v1 v2 v3) (planI a x).2 := hcE
  rw [hI1]
  obtain ⟨WE, hWE⟩ : ∃ WE, WE = wE.alloc (.cells #[.int .i64 I1, .slice v1 v2 v3] 62) := ⟨_, rfl⟩
  obtain ⟨b20, hb20⟩ : ∃ b20, b20 = wE.heap.size := ⟨_, rfl⟩
  have hgE' : Grow wE WE := by rw [hWE]; exact Grow.alloc _ _
  have hB20 : WE.heap[b20]? = some (.cells #[.int .i64 I1, .slice v1 v2 v3] 62 (0, 0)) := by rw [hWE, hb20]; exact heap_alloc_new wE _
  have y20 := two_at0 hB20
  have y21 := two_at1 hB20
  have hgDE := hgE.trans hgE'
  have z0' := hgDE.at z0
  have z1' := hgDE.at z1
  have hg7E := hg7D.trans hgDE
  have HcE : Hid (Bss WE (.slice v1 v2 v3) (planI a x).2) := hcE.grow hgE'
  have hSm := refSame_eq (.slice l1 l2 l3) (.slice v1 v2 v3) (planI a x).2 WE (HcD.out.grow hgDE) HcE.out
  clear hcE hB20 z0 z1
  subst hWE
  go_wp2_with fail
  rw [← hb20]
  refine hSm.mono ?_
  rintro e wF ⟨rfl, hgF⟩
  clear hSm hb20
  generalize wE.alloc (.cells #[.int .i64 I1, .slice v1 v2 v3] 62) = WE at *
  have hg7F := hg7E.trans hgF
  have i0F := hg7F.at i0
  have i1F := hg7F.at i1
  have t0F := hgF.at y20
  have t1F := hgF.at y21
  have HcF : Hid (Bss wF (.slice v1 v2 v3) (planI a x).2) := HcE.out.grow hgF
  clear z0' z1' y20 y21 HcE HcD j0 j1 j2 j3 i0 i1
  by_cases hE0 : E = 0
  · subst hE0
    obtain ⟨s, cs, hi, hs3, hc4, hc8⟩ := planI_yes hAA.whole HPE.out
    obtain rfl : I1 = (s : Int) := by rw [← hI1, hi]
    have hcs := HcF.out
    rw [hi] at hcs
    have HcF' : Hid (Bss wF (.slice v1 v2 v3) cs) := hcs
    obtain ⟨hwl, hw8, hwf⟩ := writeL_few hAA s cs hs3 hc4 hc8 m
    have hWr := refWrite_any (.agg #[.slice a1 n1 c1, .slice a2 n2 c2]) (.agg #[.int .i64 s, .slice v1 v2 v3]) a s cs m wF (HA7.out _ hg7F) hAA.whole ⟨_, rfl, HcF'.out⟩ hs3 hc4 hAA.fours
    have Hwr : Hid (∀ w', Grow wF w' → Calls Try.prog 44 #[.agg #[.slice a1 n1 c1, .slice a2 n2 c2], .agg #[.int .i64 s, .slice v1 v2 v3], .int .i64 m] w' fun e w'' => ∃ r, e = .returned r ∧ AnArr (writeL a ((s : Int), cs) m) r w'' ∧ Grow w' w'') := fun w' hg => write_arr _ _ a s cs m w' (HA7.out _ (hg7F.trans hg)) hAA.whole hAA.short (.inl hAA.none) ⟨_, rfl, HcF'.out.grow hg⟩ hs3 hc4 hc8
    clear hi hI1 hcs HcF HPE
    generalize writeL a ((s : Int), cs) m = wl at *
    have HW : Hid (Whole wl ∧ (∀ d s', (cellAt wl d s').length ≤ 8) ∧ Fewer wl) := ⟨hwl, hw8, hwf⟩
    clear hwl hw8 hwf hc4 hc8
    go_wp2_with fail
    refine hWr.mono ?_
    rintro e wG ⟨rG, rfl, hrG, hgG⟩
    clear hWr
    obtain ⟨p1, p2, p3, q1, q2, q3, rfl⟩ := hrG.form
    obtain ⟨WG, hWG⟩ : ∃ WG, WG = wG.alloc (.cells #[.slice p1 p2 p3, .slice q1 q2 q3] 39) := ⟨_, rfl⟩
    obtain ⟨b21, hb21⟩ : ∃ b21, b21 = wG.heap.size := ⟨_, rfl⟩
    have hgG' : Grow wG WG := by rw [hWG]; exact Grow.alloc _ _
    have hB21 : WG.heap[b21]? = some (.cells #[.slice p1 p2 p3, .slice q1 q2 q3] 39 (0, 0)) := by rw [hWG, hb21]; exact heap_alloc_new wG _
    have y0 := two_at0 hB21
    have y1 := two_at1 hB21
    have hgFG := hgG.trans hgG'
    have i0G := hgFG.at i0F
    have i1G := hgFG.at i1F
    have t0G := hgFG.at t0F
    have t1G := hgFG.at t1F
    have HWG : Hid (ArrV WG (.agg #[.slice p1 p2 p3, .slice q1 q2 q3]) wl) := hrG.grow hgG'
    have hgwG := hgw7.trans (hg7F.trans hgFG)
    clear hB21 hrG i0F i1F t0F t1F
    go_wp2
    rw [← hWG, ← hb21]
    clear hWG hb21
    refine wp_region_stable Grow [IsV (.agg #[.slice a1 n1 c1, .slice a2 n2 c2]), IsV (.agg #[.int .i64 s, .slice v1 v2 v3]), IsV (.int .i64 m), AnArr wl, IsV (.agg #[.slice p1 p2 p3, .slice q1 q2 q3]), IsV (.bool true), IsV (.bool true), IsV (.agg #[.slice p1 p2 p3, .slice q1 q2 q3]), AnArr (mountL wl), IsV (.agg #[.slice p1 p2 p3, .slice q1 q2 q3]), AnArr (mountL wl), IsV (.bool true), IsV (.bool true), IsV (.bool true)] (by kernel_rfl) (by kernel_rfl) rfl Grow.refl (fun _ _ _ => Grow.trans) ?_ ?_ ?_
    · repeat (refine List.forall_mem_cons.2 ⟨by first | exact IsV.stable _ | exact AnArr.stable _, ?_⟩)
      exact fun R hR => nomatch hR
    · skip
      refine StepsS.cons ?_ fun v0 => ⟨_, _, by simp only [Act.put, List.setIfInBounds_toArray, List.set_cons_succ, List.set_cons_zero]; first | done | rfl, by simp only [List.nil_append]; first | done | rfl, ?_⟩
      · intro w1 hE hd
        clear hd
        have qq0 := hE.drew.at i0G
        have qq1 := hE.drew.at i1G
        go_wp2
        exact ⟨_, rfl, Grow.refl _, rfl⟩
      refine StepsS.cons ?_ fun v1 => ⟨_, _, by simp only [Act.put, List.setIfInBounds_toArray, List.set_cons_succ, List.set_cons_zero]; first | done | rfl, by simp only [List.nil_append, List.cons_append]; first | done | rfl, ?_⟩
      · intro w1 hE hd
        clear hd
        have qq0 := hE.drew.at t0G
        have qq1 := hE.drew.at t1G
        go_wp2
        exact ⟨_, rfl, Grow.refl _, rfl⟩
      refine StepsS.cons ?_ fun v2 => ⟨_, _, by simp only [Act.put, List.setIfInBounds_toArray, List.set_cons_succ, List.set_cons_zero]; first | done | rfl, by simp only [List.nil_append, List.cons_append]; first | done | rfl, ?_⟩
      · intro w1 hE hd
        clear hd
        go_wp2
        exact ⟨_, rfl, Grow.refl _, rfl⟩
      refine StepsS.cons ?_ fun v3 => ⟨_, _, by simp only [Act.put, List.setIfInBounds_toArray, List.set_cons_succ, List.set_cons_zero]; first | done | rfl, by simp only [List.nil_append, List.cons_append]; first | done | rfl, ?_⟩
      · intro w1 hE hd
        obtain rfl := IsV.eq (dep_at hd 0 rfl rfl rfl)
        obtain rfl := IsV.eq (dep_at hd 1 rfl rfl rfl)
        obtain rfl := IsV.eq (dep_at hd 2 rfl rfl rfl)
        clear hd
        go_wp2_with fail
        refine (Hwr.out _ (hgFG.trans hE.drew)).mono ?_
        rintro e w4 ⟨r', rfl, hr', hg4⟩
        go_wp2_with fail
        exact ⟨_, rfl, hg4, hr'⟩
      refine StepsS.cons ?_ fun v4 => ⟨_, _, by simp only [Act.put, List.setIfInBounds_toArray, List.set_cons_succ, List.set_cons_zero]; first | done | rfl, by simp only [List.nil_append, List.cons_append]; first | done | rfl, ?_⟩
      · intro w1 hE hd
        clear hd
        have qq0 := hE.drew.at y0
        have qq1 := hE.drew.at y1
        go_wp2
        exact ⟨_, rfl, Grow.refl _, rfl⟩
      refine StepsS.cons ?_ fun v5 => ⟨_, _, by simp only [Act.put, List.setIfInBounds_toArray, List.set_cons_succ, List.set_cons_zero]; first | done | rfl, by simp only [List.nil_append, List.cons_append]; first | done | rfl, ?_⟩
      · intro w1 hE hd
        have d3 := dep_at hd 0 rfl rfl rfl
        obtain rfl := IsV.eq (dep_at hd 1 rfl rfl rfl)
        clear hd
        go_wp2_with fail
        refine (same6_yes _ _ wl _ d3 (HWG.out.grow hE.drew)).mono ?_
        rintro e w4 ⟨rfl, hg4⟩
        go_wp2_with fail
        exact ⟨_, rfl, hg4, rfl⟩
      refine StepsS.cons ?_ fun v6 => ⟨_, _, by simp only [Act.put, List.setIfInBounds_toArray, List.set_cons_succ, List.set_cons_zero]; first | done | rfl, by simp only [List.nil_append, List.cons_append]; first | done | rfl, ?_⟩
      · intro w1 hE hd
        obtain rfl := IsV.eq (dep_at hd 0 rfl rfl rfl)
        clear hd
        go_wp2
        exact ⟨_, rfl, Grow.refl _, rfl⟩
      refine StepsS.cons ?_ fun v7 => ⟨_, _, by simp only [Act.put, List.setIfInBounds_toArray, List.set_cons_succ, List.set_cons_zero]; first | done | rfl, by simp only [List.nil_append, List.cons_append]; first | done | rfl, ?_⟩
      · intro w1 hE hd
        obtain rfl := IsV.eq (dep_at hd 0 rfl rfl rfl)
        clear hd
        have qq0 := hE.drew.at y0
        have qq1 := hE.drew.at y1
        go_wp2
        exact ⟨_, rfl, Grow.refl _, rfl⟩
      refine StepsS.cons ?_ fun v8 => ⟨_, _, by simp only [Act.put, List.setIfInBounds_toArray, List.set_cons_succ, List.set_cons_zero]; first | done | rfl, by simp only [List.nil_append, List.cons_append]; first | done | rfl, ?_⟩
      · intro w1 hE hd
        obtain rfl := IsV.eq (dep_at hd 0 rfl rfl rfl)
        obtain rfl := IsV.eq (dep_at hd 1 rfl rfl rfl)
        clear hd
        go_wp2_with fail
        refine (mount_arr _ wl _ (HWG.out.grow hE.drew) HW.out.1 HW.out.2.1 HW.out.2.2).mono ?_
        rintro e w4 ⟨r', rfl, hr', hg4⟩
        go_wp2_with fail
        exact ⟨_, rfl, hg4, hr'⟩
      refine StepsS.cons ?_ fun v9 => ⟨_, _, by simp only [Act.put, List.setIfInBounds_toArray, List.set_cons_succ, List.set_cons_zero]; first | done | rfl, by simp only [List.nil_append, List.cons_append]; first | done | rfl, ?_⟩
      · intro w1 hE hd
        obtain rfl := IsV.eq (dep_at hd 0 rfl rfl rfl)
        clear hd
        have qq0 := hE.drew.at y0
        have qq1 := hE.drew.at y1
        go_wp2
        exact ⟨_, rfl, Grow.refl _, rfl⟩
      refine StepsS.cons ?_ fun v10 => ⟨_, _, by simp only [Act.put, List.setIfInBounds_toArray, List.set_cons_succ, List.set_cons_zero]; first | done | rfl, by simp only [List.nil_append, List.cons_append]; first | done | rfl, ?_⟩
      · intro w1 hE hd
        obtain rfl := IsV.eq (dep_at hd 0 rfl rfl rfl)
        obtain rfl := IsV.eq (dep_at hd 2 rfl rfl rfl)
        clear hd
        go_wp2_with fail
        refine (refMount_any _ wl _ (HWG.out.grow hE.drew) HW.out.1 (HW.out.2.2.imp id fun ⟨s, cs, h1, h2, h3, _⟩ => ⟨s, cs, h1, h2, h3⟩)).mono ?_
        rintro e w4 ⟨r', rfl, hr', hg4⟩
        go_wp2_with fail
        exact ⟨_, rfl, hg4, hr'⟩
      refine StepsS.cons ?_ fun v11 => ⟨_, _, by simp only [Act.put, List.setIfInBounds_toArray, List.set_cons_succ, List.set_cons_zero]; first | done | rfl, by simp only [List.nil_append, List.cons_append]; first | done | rfl, ?_⟩
      · intro w1 hE hd
        have d8 := dep_at hd 0 rfl rfl rfl
        have d10 := dep_at hd 1 rfl rfl rfl
        obtain rfl := IsV.eq (dep_at hd 3 rfl rfl rfl)
        clear hd
        go_wp2_with fail
        refine (same6_yes _ _ (mountL wl) _ d8 d10).mono ?_
        rintro e w4 ⟨rfl, hg4⟩
        go_wp2_with fail
        exact ⟨_, rfl, hg4, rfl⟩
      refine StepsS.cons ?_ fun v12 => ⟨_, _, by simp only [Act.put, List.setIfInBounds_toArray, List.set_cons_succ, List.set_cons_zero]; first | done | rfl, by simp only [List.nil_append, List.cons_append]; first | done | rfl, ?_⟩
      · intro w1 hE hd
        obtain rfl := IsV.eq (dep_at hd 0 rfl rfl rfl)
        obtain rfl := IsV.eq (dep_at hd 1 rfl rfl rfl)
        clear hd
        go_wp2
        exact ⟨_, rfl, Grow.refl _, rfl⟩
      refine StepsS.cons ?_ fun v13 => ⟨_, _, by simp only [Act.put, List.setIfInBounds_toArray, List.set_cons_succ, List.set_cons_zero]; first | done | rfl, by simp only [List.nil_append, List.cons_append]; first | done | rfl, ?_⟩
      · intro w1 hE hd
        obtain rfl := IsV.eq (dep_at hd 0 rfl rfl rfl)
        clear hd
        go_wp2
        exact ⟨_, rfl, Grow.refl _, rfl⟩
      trivial
    intro wZ hwZ
    refine FinS.cons ?_; rintro _ rfl; refine ⟨_, by simp only [Act.put, List.setIfInBounds_toArray, List.set_cons_succ, List.set_cons_zero]; first | done | rfl, ?_⟩
    refine FinS.cons ?_; rintro _ rfl; refine ⟨_, by simp only [Act.put, List.setIfInBounds_toArray, List.set_cons_succ, List.set_cons_zero]; first | done | rfl, ?_⟩
    refine FinS.cons ?_; rintro _ rfl; refine ⟨_, by simp only [Act.put, List.setIfInBounds_toArray, List.set_cons_succ, List.set_cons_zero]; first | done | rfl, ?_⟩
    refine FinS.cons fun v3 h3 => ⟨_, by simp only [Act.put, List.setIfInBounds_toArray, List.set_cons_succ, List.set_cons_zero]; first | done | rfl, ?_⟩
    refine FinS.cons ?_; rintro _ rfl; refine ⟨_, by simp only [Act.put, List.setIfInBounds_toArray, List.set_cons_succ, List.set_cons_zero]; first | done | rfl, ?_⟩
    refine FinS.cons ?_; rintro _ rfl; refine ⟨_, by simp only [Act.put, List.setIfInBounds_toArray, List.set_cons_succ, List.set_cons_zero]; first | done | rfl, ?_⟩
    refine FinS.cons ?_; rintro _ rfl; refine ⟨_, by simp only [Act.put, List.setIfInBounds_toArray, List.set_cons_succ, List.set_cons_zero]; first | done | rfl, ?_⟩
    refine FinS.cons ?_; rintro _ rfl; refine ⟨_, by simp only [Act.put, List.setIfInBounds_toArray, List.set_cons_succ, List.set_cons_zero]; first | done | rfl, ?_⟩
    refine FinS.cons fun v8 h8 => ⟨_, by simp only [Act.put, List.setIfInBounds_toArray, List.set_cons_succ, List.set_cons_zero]; first | done | rfl, ?_⟩
    refine FinS.cons ?_; rintro _ rfl; refine ⟨_, by simp only [Act.put, List.setIfInBounds_toArray, List.set_cons_succ, List.set_cons_zero]; first | done | rfl, ?_⟩
    refine FinS.cons fun v10 h10 => ⟨_, by simp only [Act.put, List.setIfInBounds_toArray, List.set_cons_succ, List.set_cons_zero]; first | done | rfl, ?_⟩
    refine FinS.cons ?_; rintro _ rfl; refine ⟨_, by simp only [Act.put, List.setIfInBounds_toArray, List.set_cons_succ, List.set_cons_zero]; first | done | rfl, ?_⟩
    refine FinS.cons ?_; rintro _ rfl; refine ⟨_, by simp only [Act.put, List.setIfInBounds_toArray, List.set_cons_succ, List.set_cons_zero]; first | done | rfl, ?_⟩
    refine FinS.cons ?_; rintro _ rfl; refine ⟨_, by simp only [Act.put, List.setIfInBounds_toArray, List.set_cons_succ, List.set_cons_zero]; first | done | rfl, ?_⟩
    first | show Exit.then _ _ _ _ _ | show Exit.inBlock _ _ _ _ _
    go_wp2
    go_ret
    exact ⟨rfl, hgwG.trans hwZ.drew⟩
  · have he' : (E != 0) = true := by simpa using hE0
    go_wp2
    go_ret
    exact ⟨rfl, hgw7.trans hg7F⟩

end Go.Proofs.Ytjggiameajndgab

/-
  How an argument that is a slice of bytes is read: by its cells, and within the reach of the row.
-/
namespace Go.Proofs.Ytjggiameajndgab
open Go.ChangeShapes Go.WideShapes Go.ChangeAt Go.RowKit

theorem wf_octet {n : Int} (h : (Lit.int .u8 n).wf = true) : 0 ≤ n ∧ n ≤ 255 := by
  have := bounds_u8 h
  omega

/-- A slice of bytes that came in: what it reads as. -/
theorem open_bs {P : Program} {H : Type} {enc : TypeId × Value → H} {W : World} {base : Nat} {sp : Nat → Bool} {held : Bool} {t e : TypeId} {v : Value} {d : DataW H} {p : List MemPlace}
    (ht : P.underlying t = some (.slice e)) (he : P.underlying e = some (.int .u8)) (hc : P.cellsOf e = 1) {b0 : Nat} (hv : Value.okWide P W .any b0 t v)
    (h : DataW.Trod enc P W base sp held t v d p) :
    ∃ l, Bs W v l ∧ (l = [] ∨ ∃ elems spare, d = .slice elems spare ∧ l.length ≤ elems.length + spare.length) := by
  obtain ⟨a0, len0, cap0, rfl⟩ := okWide_slice ht hv
  obtain ⟨fuel, hf⟩ := h
  rcases open_ints ht he hc hf with ⟨hcs, _⟩ | ⟨x, l, c, zs, hcs, _, hl, hm, hz, hx, hcell, hwz⟩
  · simp [Value.cells] at hcs
    obtain ⟨rfl, rfl, rfl⟩ := hcs
    exact ⟨[], Bs.nil W, .inl rfl⟩
  · simp [Value.cells] at hcs
    obtain ⟨rfl, rfl, rfl⟩ := hcs
    have hlz : len0 ≤ zs.length := by rw [hz]; split <;> omega
    have hlen : (zs.take len0).length = len0 := by simp; omega
    refine ⟨zs.take len0, ⟨some x, cap0, by rw [hlen], by omega, hm, (fun h => nomatch h), fun n hn => wf_octet (hwz n (List.mem_of_mem_take hn)), fun hp => ?_⟩, .inr ?_⟩
    · rw [hlen] at hp
      obtain ⟨b, off, spot⟩ := x
      have hspot : spot = none := by simpa [Addr.add] using World.cell?_spot (hcell 0 (by omega))
      subst hspot
      refine ⟨b, off, rfl, fun i hi => ?_⟩
      rw [hlen] at hi
      have hplain : (⟨b, off, none⟩ : Addr).add i = ⟨b, off + i, none⟩ := by unfold Addr.add; split <;> simp_all
      rw [← hplain, hcell i (by omega)]
      simp [List.getD_eq_getElem?_getD, hi]
    · simp only [Prod.mk.injEq] at hx
      exact ⟨_, _, hx.1, by simp [lits]⟩

end Go.Proofs.Ytjggiameajndgab

/-
  How arguments that are deeds, steps, and slices of steps are read.
-/
namespace Go.Proofs.Ytjggiameajndgab
open Go.ChangeShapes Go.WideShapes Go.ChangeAt Go.RowKit

theorem four_of {α : Type} {cs : List α} (h : cs.length = 4) : ∃ c0 c1 c2 c3, cs = [c0, c1, c2, c3] := by
  match cs, h with
  | [c0, c1, c2, c3], _ => exact ⟨_, _, _, _, rfl⟩
theorem seven_of {α : Type} {cs : List α} (h : cs.length = 7) : ∃ c0 c1 c2 c3 c4 c5 c6, cs = [c0, c1, c2, c3, c4, c5, c6] := by
  match cs, h with
  | [c0, c1, c2, c3, c4, c5, c6], _ => exact ⟨_, _, _, _, _, _, _, rfl⟩

section
variable {H : Type} {enc : TypeId × Value → H} {W : World} {base : Nat} {sp : Nat → Bool} {held : Bool}

/-- Fields of a struct, each with its own reading. -/
theorem field_at {P : Program} {fuel : Nat} {t : TypeId} {cs : List Value} {x : DataW H × List MemPlace} {fs : Array Field} (ht : P.underlying t = some (.struct fs)) (h : DataW.trod enc P W base sp held fuel t cs = some x) :
    cs.length = P.cellsOf t ∧ ∀ (i : Nat) (f : Field), fs[i]? = some f → ∃ n y, DataW.trod enc P W base sp held n f.type ((cs.drop f.offset).take (P.cellsOf f.type)) = some y := by
  obtain ⟨xs, n, -, -, hlen, hxl, hf⟩ := DataW.trod_struct ht h
  refine ⟨hlen, fun i f hi => ?_⟩
  have hlt : i < fs.size := (Array.getElem?_eq_some_iff.1 hi).1
  have := hf i f hi
  rw [List.getElem?_eq_getElem (by omega)] at this
  exact ⟨n, _, this⟩

theorem Try.cellsDeed : Try.prog.cellsOf 25 = 4 := by kernel_rfl
theorem Try.cellsInt : Try.prog.cellsOf 3 = 1 := by kernel_rfl
theorem Try.cellsBs : Try.prog.cellsOf 23 = 1 := by kernel_rfl
theorem Try.cellsB : Try.prog.cellsOf 5 = 1 := by kernel_rfl

theorem int_cell {n : Nat} {c : Value} {y : DataW H × List MemPlace} (h : DataW.trod enc Try.prog W base sp held n 3 [c] = some y) : ∃ k, c = .int .i64 k ∧ (Lit.int .i64 k).wf = true := by
  obtain ⟨k, e, -, hw⟩ := DataW.trod_int Try.underlying3 h
  exact ⟨k, by simpa using e, hw⟩

set_option maxRecDepth 20000 in
/-- Cells of a deed. -/
theorem deed_cells {fuel : Nat} {cs : List Value} {x : DataW H × List MemPlace} (h : DataW.trod enc Try.prog W base sp held fuel 25 cs = some x) :
    ∃ (y : DeedP) (dv : Value), cs = [.int .i64 y.k, .int .i64 y.n, .int .i64 y.m, dv] ∧ Bs W dv y.d ∧ (Lit.int .i64 y.k).wf = true ∧ (Lit.int .i64 y.n).wf = true ∧ (Lit.int .i64 y.m).wf = true := by
  obtain ⟨hlen, hf⟩ := field_at Try.underlying25 h
  rw [Try.cellsDeed] at hlen
  obtain ⟨c0, c1, c2, c3, rfl⟩ := four_of hlen
  have g0 := hf 0 _ rfl
  have h0 : ∃ n y, DataW.trod enc Try.prog W base sp held n 3 (([c0, c1, c2, c3].drop 0).take (Try.prog.cellsOf 3)) = some y := g0
  rw [Try.cellsInt] at h0
  obtain ⟨m0, y0, f0⟩ := h0
  have g1 := hf 1 _ rfl
  have h1 : ∃ n y, DataW.trod enc Try.prog W base sp held n 3 (([c0, c1, c2, c3].drop 1).take (Try.prog.cellsOf 3)) = some y := g1
  rw [Try.cellsInt] at h1
  obtain ⟨m1, y1, f1⟩ := h1
  have g2 := hf 2 _ rfl
  have h2 : ∃ n y, DataW.trod enc Try.prog W base sp held n 3 (([c0, c1, c2, c3].drop 2).take (Try.prog.cellsOf 3)) = some y := g2
  rw [Try.cellsInt] at h2
  obtain ⟨m2, y2, f2⟩ := h2
  have g3 := hf 3 _ rfl
  have h3 : ∃ n y, DataW.trod enc Try.prog W base sp held n 23 (([c0, c1, c2, c3].drop 3).take (Try.prog.cellsOf 23)) = some y := g3
  rw [Try.cellsBs] at h3
  obtain ⟨m3, y3, f3⟩ := h3
  obtain ⟨k, rfl, hk⟩ := int_cell f0
  obtain ⟨n, rfl, hn⟩ := int_cell f1
  obtain ⟨m, rfl, hm⟩ := int_cell f2
  obtain ⟨l, hl⟩ := bs_of_trod Try.underlying23 Try.underlying5 Try.cellsB f3
  exact ⟨⟨k, n, m, l⟩, _, rfl, hl, hk, hn, hm⟩

set_option maxRecDepth 20000 in
/-- A deed that is an argument. -/
theorem open_deed {v : Value} {d : DataW H} {p : List MemPlace} {b0 : Nat} (hv : Value.okWide Try.prog W .any b0 25 v) (h : DataW.Trod enc Try.prog W base sp held 25 v d p) :
    ∃ y : DeedP, DeedV W v y ∧ (-9223372036854775808 ≤ y.n ∧ y.n ≤ 9223372036854775807) ∧ (-9223372036854775808 ≤ y.m ∧ y.m ≤ 9223372036854775807) := by
  obtain ⟨fuel, hf⟩ := h
  unfold Value.okWide at hv
  rw [Try.underlying25] at hv
  obtain ⟨cs, rfl, -, -⟩ := hv
  obtain ⟨y, dv, e, hb, -, hn, hm⟩ := deed_cells hf
  have e' : cs = #[.int .i64 y.k, .int .i64 y.n, .int .i64 y.m, dv] := Array.toList_inj.1 e
  exact ⟨y, ⟨dv, by rw [e'], hb⟩, bounds_i64 hn, bounds_i64 hm⟩

end

end Go.Proofs.Ytjggiameajndgab

/-
  How arguments that are steps, and slices of steps, are read.
-/
namespace Go.Proofs.Ytjggiameajndgab
open Go.ChangeShapes Go.WideShapes Go.ChangeAt Go.RowKit

section
variable {H : Type} {enc : TypeId × Value → H} {W : World} {base : Nat} {sp : Nat → Bool} {held : Bool}

theorem Try.cellsStep : Try.prog.cellsOf 82 = 7 := by kernel_rfl

set_option maxRecDepth 20000 in
/-- Cells of a step. -/
theorem step_cells {fuel : Nat} {cs : List Value} {x : DataW H × List MemPlace} (h : DataW.trod enc Try.prog W base sp held fuel 82 cs = some x) :
    ∃ (y : StepP) (dv : Value), cs = [.int .i64 y.k, .int .i64 y.n, .int .i64 y.m, .int .i64 y.d.k, .int .i64 y.d.n, .int .i64 y.d.m, dv] ∧ Bs W dv y.d.d ∧ y.n ≤ 9223372036854775807 := by
  obtain ⟨hlen, hf⟩ := field_at Try.underlying82 h
  rw [Try.cellsStep] at hlen
  obtain ⟨c0, c1, c2, c3, c4, c5, c6, rfl⟩ := seven_of hlen
  have g0 := hf 0 _ rfl
  have h0 : ∃ n y, DataW.trod enc Try.prog W base sp held n 3 (([c0, c1, c2, c3, c4, c5, c6].drop 0).take (Try.prog.cellsOf 3)) = some y := g0
  rw [Try.cellsInt] at h0
  obtain ⟨m0, y0, f0⟩ := h0
  have g1 := hf 1 _ rfl
  have h1 : ∃ n y, DataW.trod enc Try.prog W base sp held n 3 (([c0, c1, c2, c3, c4, c5, c6].drop 1).take (Try.prog.cellsOf 3)) = some y := g1
  rw [Try.cellsInt] at h1
  obtain ⟨m1, y1, f1⟩ := h1
  have g2 := hf 2 _ rfl
  have h2 : ∃ n y, DataW.trod enc Try.prog W base sp held n 3 (([c0, c1, c2, c3, c4, c5, c6].drop 2).take (Try.prog.cellsOf 3)) = some y := g2
  rw [Try.cellsInt] at h2
  obtain ⟨m2, y2, f2⟩ := h2
  have g3 := hf 3 _ rfl
  have h3 : ∃ n y, DataW.trod enc Try.prog W base sp held n 25 (([c0, c1, c2, c3, c4, c5, c6].drop 3).take (Try.prog.cellsOf 25)) = some y := g3
  rw [Try.cellsDeed] at h3
  obtain ⟨m3, y3, f3⟩ := h3
  obtain ⟨k, rfl, -⟩ := int_cell f0
  obtain ⟨n, rfl, hn⟩ := int_cell f1
  obtain ⟨m, rfl, -⟩ := int_cell f2
  obtain ⟨y, dv, e, hb, -⟩ := deed_cells f3
  simp only [List.drop_succ_cons, List.drop_zero, List.take_succ_cons, List.take_zero, List.cons.injEq, and_true] at e
  obtain ⟨rfl, rfl, rfl, rfl⟩ := e
  exact ⟨⟨k, n, m, y⟩, _, rfl, hb, (bounds_i64 hn).2⟩

set_option maxRecDepth 20000 in
/-- A step that is an argument. -/
theorem open_step {v : Value} {d : DataW H} {p : List MemPlace} {b0 : Nat} (hv : Value.okWide Try.prog W .any b0 82 v) (h : DataW.Trod enc Try.prog W base sp held 82 v d p) : ∃ y : StepP, StepV W v y := by
  obtain ⟨fuel, hf⟩ := h
  unfold Value.okWide at hv
  rw [Try.underlying82] at hv
  obtain ⟨cs, rfl, -, -⟩ := hv
  obtain ⟨y, dv, e, hb, hn⟩ := step_cells hf
  have e' : cs = #[.int .i64 y.k, .int .i64 y.n, .int .i64 y.m, .int .i64 y.d.k, .int .i64 y.d.n, .int .i64 y.d.m, dv] := Array.toList_inj.1 e
  exact ⟨y, dv, by rw [e'], hb, hn⟩

theorem addr_plain (b o j : Nat) : (⟨b, o, none⟩ : Addr).add j = ⟨b, o + j, none⟩ := by unfold Addr.add; split <;> simp_all

set_option maxRecDepth 20000 in
/-- Steps that are an argument. -/
theorem open_steps {v : Value} {d : DataW H} {p : List MemPlace} {b0 : Nat} (hv : Value.okWide Try.prog W .any b0 35 v) (h : DataW.Trod enc Try.prog W base sp held 35 v d p) : ∃ l : List StepP, Stps W v l ∧ ∀ s ∈ l, Octets s.d.d := by
  obtain ⟨a0, len0, cap0, rfl⟩ := okWide_slice Try.underlying35 hv
  obtain ⟨fuel, hf⟩ := h
  rcases Go.Deep.open_slice Try.underlying35 (by simpa [Value.cells] using hf) with ⟨hcs, _⟩ | ⟨a, len, cap, m, n, D, Pl, hcs, hb, hl, hm, hmm, hx, hV⟩
  · simp at hcs
    obtain ⟨rfl, rfl, rfl⟩ := hcs
    exact ⟨[], ⟨none, 0, rfl, Nat.le_refl _, Nat.zero_le _, fun _ => rfl, fun h => by simp at h⟩, fun s hs => by simp at hs⟩
  · simp at hcs
    obtain ⟨rfl, rfl, rfl⟩ := hcs
    have hlm : len0 ≤ m := by rw [hmm]; split <;> omega
    rw [Try.cellsStep] at hV
    have hch : ∀ i : Nat, ∃ y : StepP, i < len0 → ∃ dv, Bs W dv y.d.d ∧ y.n ≤ 9223372036854775807 ∧ ∀ j : Nat, j < 7 → W.cell? ((a.add (i * 7)).add j) = [Value.int .i64 y.k, .int .i64 y.n, .int .i64 y.m, .int .i64 y.d.k, .int .i64 y.d.n, .int .i64 y.d.m, dv][j]? := fun i => by
      by_cases hi : i < len0
      · obtain ⟨cs', hc, ht⟩ := hV i (by omega)
        obtain ⟨y, dv, rfl, hb, hn⟩ := step_cells ht
        obtain ⟨-, -, hcell⟩ := World.cells?_some hc
        exact ⟨y, fun _ => ⟨dv, hb, hn, hcell⟩⟩
      · exact ⟨⟨0, 0, 0, ⟨0, 0, 0, []⟩⟩, fun h => absurd h hi⟩
    obtain ⟨f, hf'⟩ : ∃ f : Nat → StepP, ∀ i, i < len0 → ∃ dv, Bs W dv (f i).d.d ∧ (f i).n ≤ 9223372036854775807 ∧ ∀ j : Nat, j < 7 → W.cell? ((a.add (i * 7)).add j) = [Value.int .i64 (f i).k, .int .i64 (f i).n, .int .i64 (f i).m, .int .i64 (f i).d.k, .int .i64 (f i).d.n, .int .i64 (f i).d.m, dv][j]? := ⟨fun i => (hch i).choose, fun i => (hch i).choose_spec⟩
    clear hch hV
    by_cases hp : 0 < len0
    · obtain ⟨b, off, spot⟩ := a
      have hspot : spot = none := by
        obtain ⟨dv, -, -, hc⟩ := hf' 0 hp
        have := World.cell?_spot (hc 0 (by omega))
        simpa [Addr.add] using this
      subst hspot
      refine ⟨(List.range len0).map f, ⟨some ⟨b, off, none⟩, cap0, by simp, by simpa using hl, hm, (fun h => nomatch h), fun _ => ⟨b, off, rfl, fun i s hs => ?_⟩⟩, fun s hs => ?_⟩
      · obtain ⟨hi, e⟩ := List.getElem?_eq_some_iff.1 hs
        have hi' : i < len0 := by simpa using hi
        have e' : s = f i := by rw [← e]; simp
        subst e'
        obtain ⟨dv, hb, hn, hc⟩ := hf' i hi'
        have hc' : ∀ j : Nat, j < 7 → W.cell? ⟨b, off + i * 7 + j, none⟩ = [Value.int .i64 (f i).k, .int .i64 (f i).n, .int .i64 (f i).m, .int .i64 (f i).d.k, .int .i64 (f i).d.n, .int .i64 (f i).d.m, dv][j]? := fun j hj => by rw [← hc j hj, addr_plain, addr_plain]
        exact ⟨dv, hc' 0 (by omega), hc' 1 (by omega), hc' 2 (by omega), hc' 3 (by omega), hc' 4 (by omega), hc' 5 (by omega), hc' 6 (by omega), hb, hn⟩
      · obtain ⟨i, hi, rfl⟩ := List.mem_map.1 hs
        obtain ⟨dv, hb, -, -⟩ := hf' i (List.mem_range.1 hi)
        exact hb.octets
    · obtain rfl : len0 = 0 := by omega
      exact ⟨[], ⟨some a, cap0, rfl, Nat.zero_le _, hm, (fun h => nomatch h), fun h => by simp at h⟩, fun s hs => by simp at hs⟩

end

end Go.Proofs.Ytjggiameajndgab
