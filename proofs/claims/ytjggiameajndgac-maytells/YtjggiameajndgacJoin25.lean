import Derived.Test.YtjggiameajndgacJoin24
/-
  mhlaw12.MayTells returns true, whatever it is handed; nothing old turns.
-/
namespace Go.Proofs.Ytjggiameajndgac
open Go.RowKit

/-- An array that came of steps. -/
def ArrW (a : ArrP) (v : Value) (w : World) : Prop := Arr a ∧ ArrV w v a
theorem ArrW.stable (a : ArrP) : ∀ (v : Value) (x y : World), ArrW a v x → Grow x y → ArrW a v y := fun _ _ _ h hg => ⟨h.1, h.2.grow hg⟩
/-- A box of an array is written. -/
def Tb2 (n : Nat) (x y : World) : Prop := ∃ b p1 p2 p3 p4 p5 p6 q1 q2 q3 q4 q5 q6, n ≤ b ∧ x.heap[b]? = some (.cells #[.slice p1 p2 p3, .slice p4 p5 p6] 26 (0, 0)) ∧ y.heap[b]? = some (.cells #[.slice q1 q2 q3, .slice q4 q5 q6] 26 (0, 0)) ∧ x.grownBy y (some b)
theorem Tb2.inn {n : Nat} {x y : World} (h : Tb2 n x y) : GrownIn x y (fun j => n ≤ j) := by
  obtain ⟨b, p1, p2, p3, p4, p5, p6, q1, q2, q3, q4, q5, q6, h0, h1, -, h2⟩ := h
  exact GrownIn.of_by h2 (fun k hk => by cases hk; exact h0)
theorem ArrW.tb2 {n : Nat} {a : ArrP} {v : Value} {x y : World} (h : ArrW a v x) (ht : Tb2 n x y) : ArrW a v y := by
  obtain ⟨b, p1, p2, p3, p4, p5, p6, q1, q2, q3, q4, q5, q6, h0, h1, -, h2⟩ := ht
  exact ⟨h.1, ((Two.arr ⟨_, _, _, _, _, _, _, h1⟩ h.2 h.1.whole h.1.fours).step h2).plain⟩
/-- An array and an error. -/
def StW (p : ArrP × Int) (v : Value) (w : World) : Prop := ∃ r, v = .tuple #[r, .int .i64 p.2] ∧ ArrW p.1 r w
theorem StW.stable (p : ArrP × Int) : ∀ (v : Value) (x y : World), StW p v x → Grow x y → StW p v y := fun _ _ _ ⟨r, h1, h2⟩ hg => ⟨r, h1, h2.stable _ _ _ _ hg⟩
/-- A box of an array. -/
def BxW (n : Nat) (v : Value) (w : World) : Prop := ∃ b p1 p2 p3 p4 p5 p6, v = .pointer (some ⟨b, 0, none⟩) ∧ n ≤ b ∧ w.heap[b]? = some (.cells #[.slice p1 p2 p3, .slice p4 p5 p6] 26 (0, 0))
theorem BxW.stable (n : Nat) : ∀ (v : Value) (x y : World), BxW n v x → Grow x y → BxW n v y := fun _ _ _ ⟨b, p1, p2, p3, p4, p5, p6, h1, h2, h3⟩ hg => ⟨b, p1, p2, p3, p4, p5, p6, h1, h2, hg.block' h3⟩
theorem BxW.tb2 {n : Nat} {v : Value} {x y : World} (h : BxW n v x) (ht : Tb2 n x y) : BxW n v y := by
  obtain ⟨b, p1, p2, p3, p4, p5, p6, h1, h2, h3⟩ := h
  obtain ⟨b', r1, r2, r3, r4, r5, r6, q1, q2, q3, q4, q5, q6, k0, k1, k2, k3⟩ := ht
  by_cases hb : b = b'
  · subst hb; exact ⟨b, _, _, _, _, _, _, h1, h2, k2⟩
  · exact ⟨b, _, _, _, _, _, _, h1, h2, (k3.block b (heap_lt1 h3) (fun e => hb (by injection e))).trans h3⟩
/-- A box that has an array. -/
def HsW (n : Nat) (a : ArrP) (v : Value) (w : World) : Prop := ∃ b p1 p2 p3 p4 p5 p6, v = .pointer (some ⟨b, 0, none⟩) ∧ n ≤ b ∧ w.heap[b]? = some (.cells #[.slice p1 p2 p3, .slice p4 p5 p6] 26 (0, 0)) ∧ ArrV w (.agg #[.slice p1 p2 p3, .slice p4 p5 p6]) a
theorem HsW.stable {n : Nat} (a : ArrP) : ∀ (v : Value) (x y : World), HsW n a v x → Grow x y → HsW n a v y := fun _ _ _ ⟨b, p1, p2, p3, p4, p5, p6, h1, h2, h3, h4⟩ hg => ⟨b, p1, p2, p3, p4, p5, p6, h1, h2, hg.block' h3, h4.grow hg⟩
/-- Nothing is asked. -/
def TrivW (_ : Nat) (_ : Value) (_ : World) : Prop := True
theorem TrivW.stable (n : Nat) : ∀ (v : Value) (x y : World), TrivW n v x → Grow x y → TrivW n v y := fun _ _ _ _ _ => trivial

theorem step_w (v sv : Value) (a : ArrP) (x : StepP) (w : World) (h : ArrV w v a) (ha : Arr a) (hs : StepV w sv x) : Calls Try.prog 34 #[v, sv] w fun e w' => ∃ r, e = .returned r ∧ StW (stepA a x, stepE a x) r w' ∧ Grow w w' :=
  (refStep_any v sv a x w h ha hs).mono fun _ _ ⟨_, he, hv, hg⟩ => ⟨_, he, ⟨_, rfl, stepA_arr ha x, hv⟩, hg⟩

theorem Grow.thenIn1 {w w1 w2 : World} {G : Nat → Prop} (h : Grow w w1) (hg : GrownIn w1 w2 G) (hk : ∀ k, G k → w.heap.size ≤ k) : Grow w w2 :=
  ⟨hg.os.trans h.os, hg.tape.trans h.tape, hg.output.trans h.output, Nat.le_trans h.size hg.size, fun j hj => (hg.block j (Nat.lt_of_lt_of_le hj h.size) (fun e => by have := hk j e; omega)).trans (h.block j hj)⟩

theorem right_nine' {ls : List (List Int)} (h : rightBlocksB ls = true) : ls.length = 9 := by
  unfold rightBlocksB at h
  simp at h
  exact h.2

set_option maxRecDepth 20000 in
set_option maxHeartbeats 12800000 in
theorem mayTells_walk (v bv sv : Value) (l : List StepP) (ls : List (List Int)) (XX : StepP) (w : World) (h : Stps w v l) (ho : ∀ s ∈ l, StpOk s) (hb : Bss w bv ls) (hs : StepV w sv XX) :
    Calls Try.prog 12 #[v, bv, sv] w fun e w' => e = .returned (.bool true) ∧ Grow w w' := by
  obtain ⟨dv, rfl, hbd, hmax⟩ := hs
  obtain ⟨d1, d2, d3, rfl⟩ := hbd.form
  obtain ⟨W0, b0, hW0, hb0, hg0, HS⟩ := stepBox (x := XX) hbd hmax
  have HL : Hid (Stps w v l ∧ ∀ s ∈ l, StpOk s) := ⟨h, ho⟩
  obtain ⟨ao, cap, rfl, g1, g2, g3, g4⟩ := h
  unfold maxLen at g2
  have HB : Hid (Bss w bv ls) := hb
  obtain ⟨bv1, bv2, bv3, rfl⟩ : ∃ a n c, bv = .slice a n c := by
    obtain ⟨a, c, e⟩ := hb.form
    exact ⟨a, _, c, e⟩
  clear hbd hmax ho hb
  have Hle : Hid (l.length ≤ 9223372036854775807) := by rw [Hid]; omega
  go_enter Try.func12, Try.ntmps12
  go_wp2_with fail
  rw [← hW0, ← hb0]
  refine (refNew6_any W0).mono ?_
  rintro e w1 ⟨r1, rfl, hr1, hg1⟩
  clear hW0 hb0
  obtain ⟨a1, n1, c1, a2, n2, c2, rfl⟩ := hr1.form
  obtain ⟨W1, b1, hW1, hb1, hgA, HB1, i0, i1, HV1⟩ := boxed hr1
  have hg01 := hg1.trans hgA
  have Hb1 : Hid (W0.heap.size ≤ b1) := by rw [Hid, hb1]; exact hg1.size
  clear hr1 hg1 hgA i0 i1
  go_wp2
  rw [← hW1, ← hb1]
  clear hW1 hb1
  go_loopw [8] (fun i wr => ∃ (k : Nat) (x y : Value) (a : ArrP), k ≤ l.length ∧ i = .int .i64 k ∧ (∃ x1 x2 x3, x = .slice x1 x2 x3) ∧ (∃ x1 x2 x3, y = .slice x1 x2 x3) ∧ Hid (wr.heap[b1]? = some (.cells #[x, y] 26 (0, 0))) ∧ Hid (ArrV wr (.agg #[x, y]) a) ∧ Hid (Arr a) ∧ Hid (k + gentleN a (l.drop k) = gentleN newP l) ∧ Grow W0 wr) (fun i _ => l.length - (intOf i).toNat)
  case atStart => exact ⟨0, _, _, newP, by omega, rfl, ⟨_, _, _, rfl⟩, ⟨_, _, _, rfl⟩, HB1, HV1, newP_arr, by rw [Hid, Nat.zero_add]; rfl, hg01⟩
  case round =>
    obtain ⟨k, x0, y0, a, hk, rfl, ⟨z1, z2, z3, rfl⟩, ⟨z4, z5, z6, rfl⟩, HBx, HV, HA, HN, hgr⟩ := hrel
    clear HB1 HV1 hg01
    have k0 := two_at0 HBx.out
    have k1 := two_at1 HBx.out
    by_cases hlt : k < l.length
    · obtain ⟨b, off, rfl, hc⟩ := g4 (by omega)
      obtain ⟨stv, hst⟩ := hc k l[k] (by simp [hlt])
      have HD : Hid (l.drop k = l[k] :: l.drop (k + 1)) := List.drop_eq_getElem_cons hlt
      generalize l[k] = s at *
      have hst' := hst.grow (hg0.trans hgr)
      have HST : Hid (StepC wr b (off + k * 7) s stv) := hst'
      obtain ⟨s1', s2', s3', rfl⟩ := hst'.2.2.2.2.2.2.2.1.form
      have Hno : Hid (gentleB a s = false → gentleN newP l = k) := fun hg => by
        have := HN.out
        rw [HD.out, gentleN_no hg] at this
        omega
      have Hyes : Hid (gentleB a s = true → (k + 1) + gentleN (stepA a s) (l.drop (k + 1)) = gentleN newP l) := fun hg => by
        have := HN.out
        rw [HD.out, gentleN_yes hg] at this
        rw [← this]
        omega
      have hki : (k : Int) < (l.length : Int) := by omega
      have hklt : k < l.length := hlt
      have hkmax := Hle.out
      clear hc g4 hst hst' HD HN hk
      generalize l.length = M at *
      obtain ⟨n, hn, hnl⟩ : ∃ n, n ≤ wr.heap.size ∧ wr.heap.size ≤ n := ⟨_, Nat.le_refl _, Nat.le_refl _⟩
      have hF0 : ∀ x : World, GrownIn x x (fun j => n ≤ j) := fun x => GrownIn.refl x _
      have hF1 : ∀ x y z : World, GrownIn x y (fun j => n ≤ j) → Grow y z → GrownIn x z (fun j => n ≤ j) := fun x y z h1 h2 => h1.trans (h2.inn _)
      have hF2 : ∀ x y z : World, GrownIn x y (fun j => n ≤ j) → Tb2 n y z → GrownIn x z (fun j => n ≤ j) := fun x y z h1 h2 => h1.trans h2.inn
      have HG : Hid (∀ x : World, GrownIn { wr with drawn := wr.drawn + 1 } x (fun j => n ≤ j) → Grow wr x) := fun x hx => (Grow.drewN wr 1).thenIn1 hx (fun k hk => by omega)
      have HZ : Hid (∀ x : World, GrownIn { wr with drawn := wr.drawn + 1 } x (fun j => n ≤ j) → n ≤ x.heap.size) := fun x hx => Nat.le_trans hn (HG.out x hx).size
      obtain ⟨X, hX⟩ : ∃ X, stepA a s = X := ⟨_, rfl⟩
      obtain ⟨E, hE⟩ : ∃ E, stepE a s = E := ⟨_, rfl⟩
      have HXE : Hid (stepA a s = X ∧ stepE a s = E) := ⟨hX, hE⟩
      have HXA : Hid (Arr X) := by rw [Hid, ← hX]; exact stepA_arr HA.out s
      have stabT : ∀ (v : Value) (x y : World), StW (X, E) v x → Tb2 n x y → StW (X, E) v y := fun v x y ⟨r, h1, h2⟩ ht => ⟨r, h1, h2.tb2 ht⟩
      have stabT2 : ∀ (v : Value) (x y : World), ArrW X v x → Tb2 n x y → ArrW X v y := fun v x y h ht => h.tb2 ht
      have stabT3 : ∀ (v : Value) (x y : World), BxW n v x → Tb2 n x y → BxW n v y := fun v x y h ht => h.tb2 ht
      have stabZ : ∀ (v : Value) (x y : World), HsW n X v x → Grow x y → HsW n X v y := fun v x y h hg => h.stable _ _ _ _ hg
      have Hn : Hid (wr.heap.size ≤ n) := hnl
      clear hn hnl hX hE hlt
      go_wp2
      refine wp_region_oneZ 10 9 (HsW n X) (by decide) (by decide) (by kernel_rfl) Grow (Tb2 n) (fun x y => GrownIn x y (fun j => n ≤ j)) [(fun x y => GrownIn x y (fun j => n ≤ j), Grow), (fun x y => GrownIn x y (fun j => n ≤ j), Grow), (fun x y => GrownIn x y (fun j => n ≤ j), Grow), (fun x y => GrownIn x y (fun j => n ≤ j), Grow), (fun x y => GrownIn x y (fun j => n ≤ j), Grow), (fun x y => GrownIn x y (fun j => n ≤ j), Grow), (fun x y => GrownIn x y (fun j => n ≤ j), Grow), (fun x y => GrownIn x y (fun j => n ≤ j), Grow), (fun x y => GrownIn x y (fun j => n ≤ j), Grow), (fun x y => GrownIn x y (fun j => n ≤ j), Grow), (Grow, Tb2 n), (fun x y => GrownIn x y (fun j => n ≤ j), Grow)] [IsV (.agg #[.slice z1 z2 z3, .slice z4 z5 z6]), IsV (.slice (some ⟨b, off, none⟩) M cap), IsV (.int .i64 k), IsV (.pointer (some ⟨b, off + k * 7, none⟩)), IsV (.agg #[.int .i64 s.k, .int .i64 s.n, .int .i64 s.m, .int .i64 s.d.k, .int .i64 s.d.n, .int .i64 s.d.m, .slice s1' s2' s3']), StW (X, E), StW (X, E), ArrW X, IsV (.int .i64 E), BxW n, TrivW 0, IsV (.int .i64 E)] rfl (by kernel_rfl) (by kernel_rfl) rfl Grow.refl (fun _ _ _ => Grow.trans) (hF0 _) (hF1 _) (hF2 _) ?_ ?_ stabZ ?_ ?_
      · repeat (refine List.forall_mem_cons.2 ⟨by first | exact IsV.stable _ | exact ArrW.stable _ | exact BxW.stable _ | exact StW.stable _ | exact TrivW.stable _, ?_⟩)
        exact fun R hR => nomatch hR
      · skip
        refine ⟨by first | exact fun _ _ _ h _ => h | exact stabT | exact stabT _ | exact stabT2 | exact stabT2 _ | exact stabT3 | exact stabT4 | exact fun _ _ _ _ _ => trivial, ?_⟩
        refine ⟨by first | exact fun _ _ _ h _ => h | exact stabT | exact stabT _ | exact stabT2 | exact stabT2 _ | exact stabT3 | exact stabT4 | exact fun _ _ _ _ _ => trivial, ?_⟩
        refine ⟨by first | exact fun _ _ _ h _ => h | exact stabT | exact stabT _ | exact stabT2 | exact stabT2 _ | exact stabT3 | exact stabT4 | exact fun _ _ _ _ _ => trivial, ?_⟩
        refine ⟨by first | exact fun _ _ _ h _ => h | exact stabT | exact stabT _ | exact stabT2 | exact stabT2 _ | exact stabT3 | exact stabT4 | exact fun _ _ _ _ _ => trivial, ?_⟩
        refine ⟨by first | exact fun _ _ _ h _ => h | exact stabT | exact stabT _ | exact stabT2 | exact stabT2 _ | exact stabT3 | exact stabT4 | exact fun _ _ _ _ _ => trivial, ?_⟩
        refine ⟨by first | exact fun _ _ _ h _ => h | exact stabT | exact stabT _ | exact stabT2 | exact stabT2 _ | exact stabT3 | exact stabT4 | exact fun _ _ _ _ _ => trivial, ?_⟩
        refine ⟨by first | exact fun _ _ _ h _ => h | exact stabT | exact stabT _ | exact stabT2 | exact stabT2 _ | exact stabT3 | exact stabT4 | exact fun _ _ _ _ _ => trivial, ?_⟩
        refine ⟨by first | exact fun _ _ _ h _ => h | exact stabT | exact stabT _ | exact stabT2 | exact stabT2 _ | exact stabT3 | exact stabT4 | exact fun _ _ _ _ _ => trivial, ?_⟩
        refine ⟨by first | exact fun _ _ _ h _ => h | exact stabT | exact stabT _ | exact stabT2 | exact stabT2 _ | exact stabT3 | exact stabT4 | exact fun _ _ _ _ _ => trivial, ?_⟩
        refine ⟨by first | exact fun _ _ _ h _ => h | exact stabT | exact stabT _ | exact stabT2 | exact stabT2 _ | exact stabT3 | exact stabT4 | exact fun _ _ _ _ _ => trivial, ?_⟩
        repeat (refine List.forall_mem_cons.2 ⟨by first | exact fun _ _ _ h _ => h | exact stabT | exact stabT _ | exact stabT2 | exact stabT2 _ | exact stabT3 | exact stabT4 | exact fun _ _ _ _ _ => trivial, ?_⟩)
        exact fun R hR => nomatch hR
      · skip
        refine StepsZ.cons ?_ fun v0 => ⟨_, _, by simp only [Act.put, List.setIfInBounds_toArray, List.set_cons_succ, List.set_cons_zero]; first | done | rfl, by simp only [List.nil_append]; first | done | rfl, ?_⟩
        · intro w1 hE hd
          clear hd
          have hgx := HG.out _ hE
          have p0 := hgx.at k0
          have p1 := hgx.at k1
          go_wp2
          exact ⟨_, rfl, Grow.refl _, rfl⟩
        refine StepsZ.cons ?_ fun v1 => ⟨_, _, by simp only [Act.put, List.setIfInBounds_toArray, List.set_cons_succ, List.set_cons_zero]; first | done | rfl, by simp only [List.nil_append, List.cons_append]; first | done | rfl, ?_⟩
        · intro w1 hE hd
          clear hd
          go_wp2
          exact ⟨_, rfl, Grow.refl _, rfl⟩
        refine StepsZ.cons ?_ fun v2 => ⟨_, _, by simp only [Act.put, List.setIfInBounds_toArray, List.set_cons_succ, List.set_cons_zero]; first | done | rfl, by simp only [List.nil_append, List.cons_append]; first | done | rfl, ?_⟩
        · intro w1 hE hd
          clear hd
          go_wp2
          exact ⟨_, rfl, Grow.refl _, rfl⟩
        refine StepsZ.cons ?_ fun v3 => ⟨_, _, by simp only [Act.put, List.setIfInBounds_toArray, List.set_cons_succ, List.set_cons_zero]; first | done | rfl, by simp only [List.nil_append, List.cons_append]; first | done | rfl, ?_⟩
        · intro w1 hE hd
          obtain rfl := IsV.eq (dep_at hd 0 rfl rfl rfl)
          obtain rfl := IsV.eq (dep_at hd 1 rfl rfl rfl)
          clear hd
          go_wp2
          exact ⟨_, rfl, Grow.refl _, rfl⟩
        refine StepsZ.cons ?_ fun v4 => ⟨_, _, by simp only [Act.put, List.setIfInBounds_toArray, List.set_cons_succ, List.set_cons_zero]; first | done | rfl, by simp only [List.nil_append, List.cons_append]; first | done | rfl, ?_⟩
        · intro w1 hE hd
          obtain rfl := IsV.eq (dep_at hd 0 rfl rfl rfl)
          clear hd
          obtain ⟨s0, s1, s2, s3, s4, s5, s6, -, -⟩ := HST.out.grow (HG.out _ hE)
          go_wp2
          exact ⟨_, rfl, Grow.refl _, rfl⟩
        refine StepsZ.cons ?_ fun v5 => ⟨_, _, by simp only [Act.put, List.setIfInBounds_toArray, List.set_cons_succ, List.set_cons_zero]; first | done | rfl, by simp only [List.nil_append, List.cons_append]; first | done | rfl, ?_⟩
        · intro w1 hE hd
          obtain rfl := IsV.eq (dep_at hd 0 rfl rfl rfl)
          obtain rfl := IsV.eq (dep_at hd 1 rfl rfl rfl)
          clear hd
          have hcl := HST.out.grow (HG.out _ hE)
          have hcs := step_w (.agg #[.slice z1 z2 z3, .slice z4 z5 z6]) (.agg #[.int .i64 s.k, .int .i64 s.n, .int .i64 s.m, .int .i64 s.d.k, .int .i64 s.d.n, .int .i64 s.d.m, .slice s1' s2' s3']) a s _ (HV.out.grow (HG.out _ hE)) HA.out ⟨_, rfl, hcl.2.2.2.2.2.2.2.1, hcl.2.2.2.2.2.2.2.2⟩
          rw [HXE.out.1, HXE.out.2] at hcs
          clear hcl
          go_wp2_with fail
          refine hcs.mono ?_
          rintro e w4 ⟨r', rfl, hr', hg4⟩
          go_wp2_with fail
          exact ⟨_, rfl, hg4, hr'⟩
        refine StepsZ.cons ?_ fun v6 => ⟨_, _, by simp only [Act.put, List.setIfInBounds_toArray, List.set_cons_succ, List.set_cons_zero]; first | done | rfl, by simp only [List.nil_append, List.cons_append]; first | done | rfl, ?_⟩
        · intro w1 hE hd
          have d5 := dep_at hd 0 rfl rfl rfl
          clear hd
          go_wp2
          exact ⟨_, rfl, Grow.refl _, d5⟩
        refine StepsZ.cons ?_ fun v7 => ⟨_, _, by simp only [Act.put, List.setIfInBounds_toArray, List.set_cons_succ, List.set_cons_zero]; first | done | rfl, by simp only [List.nil_append, List.cons_append]; first | done | rfl, ?_⟩
        · intro w1 hE hd
          have d6 := dep_at hd 0 rfl rfl rfl
          clear hd
          obtain ⟨u, rfl, hu⟩ := d6
          go_wp2
          exact ⟨_, rfl, Grow.refl _, hu⟩
        refine StepsZ.cons ?_ fun v8 => ⟨_, _, by simp only [Act.put, List.setIfInBounds_toArray, List.set_cons_succ, List.set_cons_zero]; first | done | rfl, by simp only [List.nil_append, List.cons_append]; first | done | rfl, ?_⟩
        · intro w1 hE hd
          have d6 := dep_at hd 0 rfl rfl rfl
          clear hd
          obtain ⟨u, rfl, hu⟩ := d6
          go_wp2
          exact ⟨_, rfl, Grow.refl _, rfl⟩
        refine StepsZ.cons ?_ fun v9 => ⟨_, _, by simp only [Act.put, List.setIfInBounds_toArray, List.set_cons_succ, List.set_cons_zero]; first | done | rfl, by simp only [List.nil_append, List.cons_append]; first | done | rfl, ?_⟩
        · intro w1 hE hd
          clear hd
          have hgx := HZ.out _ hE
          go_wp2
          exact ⟨_, rfl, Grow.alloc _ _, _, _, _, _, _, _, _, rfl, hgx, heap_alloc_new _ _⟩
        refine StepsZ.here v9 rfl ?_ fun v10 => ⟨_, _, by rfl, by simp only [List.nil_append, List.cons_append]; first | done | rfl, ?_⟩
        · intro w1 hE hd
          have d9 := dep_at hd 0 rfl rfl rfl
          have d7 := dep_at hd 1 rfl rfl rfl
          clear hd
          obtain ⟨b9, f1, f2, f3, f4, f5, f6, rfl, hb, hbb⟩ := d9
          obtain ⟨hXa, hXv⟩ := d7
          obtain ⟨e1, e2, e3, e4, e5, e6, rfl⟩ := hXv.form
          have m0 := two_at0 hbb
          have m1 := two_at1 hbb
          have fr0 : w1.frozen? ⟨b9, 0, none⟩ = false := frozen_of_row w1 _ 0 _ _ hbb
          have fr1 : w1.frozen? ⟨b9, 1, none⟩ = false := frozen_of_row w1 _ 1 _ _ hbb
          have h1 := two_set0 (z := .slice e1 e2 e3) hbb
          have h2 := two_set1 (z := .slice e4 e5 e6) h1
          have hT : Tb2 n w1 ((w1.setCell ⟨b9, 0, none⟩ (.slice e1 e2 e3)).setCell ⟨b9, 1, none⟩ (.slice e4 e5 e6)) := ⟨b9, _, _, _, _, _, _, _, _, _, _, _, _, hb, hbb, h2, (grown_set _ _ _ _).trans (grown_set _ _ _ _)⟩
          have HAA : Hid (Tb2 n w1 ((w1.setCell ⟨b9, 0, none⟩ (.slice e1 e2 e3)).setCell ⟨b9, 1, none⟩ (.slice e4 e5 e6)) ∧ HsW n X (.pointer (some ⟨b9, 0, none⟩)) ((w1.setCell ⟨b9, 0, none⟩ (.slice e1 e2 e3)).setCell ⟨b9, 1, none⟩ (.slice e4 e5 e6))) := ⟨hT, b9, _, _, _, _, _, _, rfl, hb, h2, (ArrW.tb2 ⟨hXa, hXv⟩ hT).2⟩
          clear hXv h1 h2 hT
          go_wp2
          exact ⟨.bool true, rfl, HAA.out.1, trivial, HAA.out.2⟩
        refine StepsT.cons ?_ fun v11 => ⟨_, _, by simp only [Act.put, List.setIfInBounds_toArray, List.set_cons_succ, List.set_cons_zero]; first | done | rfl, by simp only [List.nil_append, List.cons_append]; first | done | rfl, ?_⟩
        · intro w1 hE hd
          obtain rfl := IsV.eq (dep_at hd 0 rfl rfl rfl)
          clear hd
          go_wp2
          exact ⟨_, rfl, Grow.refl _, rfl⟩
        trivial
      intro zp w3 hw3 hZw3
      show FinS _ _ _ [IsV (.agg #[.slice z1 z2 z3, .slice z4 z5 z6]), IsV (.slice (some ⟨b, off, none⟩) M cap), IsV (.int .i64 k), IsV (.pointer (some ⟨b, off + k * 7, none⟩)), IsV (.agg #[.int .i64 s.k, .int .i64 s.n, .int .i64 s.m, .int .i64 s.d.k, .int .i64 s.d.n, .int .i64 s.d.m, .slice s1' s2' s3']), StW (X, E), StW (X, E), ArrW X, IsV (.int .i64 E), fun v w => (BxW n) v w ∧ v = zp, TrivW 0, IsV (.int .i64 E)] _
      refine FinS.cons ?_; rintro _ rfl; refine ⟨_, by simp only [Act.put, List.setIfInBounds_toArray, List.set_cons_succ, List.set_cons_zero]; first | done | rfl, ?_⟩
      refine FinS.cons ?_; rintro _ rfl; refine ⟨_, by simp only [Act.put, List.setIfInBounds_toArray, List.set_cons_succ, List.set_cons_zero]; first | done | rfl, ?_⟩
      refine FinS.cons ?_; rintro _ rfl; refine ⟨_, by simp only [Act.put, List.setIfInBounds_toArray, List.set_cons_succ, List.set_cons_zero]; first | done | rfl, ?_⟩
      refine FinS.cons ?_; rintro _ rfl; refine ⟨_, by simp only [Act.put, List.setIfInBounds_toArray, List.set_cons_succ, List.set_cons_zero]; first | done | rfl, ?_⟩
      refine FinS.cons ?_; rintro _ rfl; refine ⟨_, by simp only [Act.put, List.setIfInBounds_toArray, List.set_cons_succ, List.set_cons_zero]; first | done | rfl, ?_⟩
      refine FinS.cons fun v5 h5 => ⟨_, by simp only [Act.put, List.setIfInBounds_toArray, List.set_cons_succ, List.set_cons_zero]; first | done | rfl, ?_⟩
      refine FinS.cons fun v6 h6 => ⟨_, by simp only [Act.put, List.setIfInBounds_toArray, List.set_cons_succ, List.set_cons_zero]; first | done | rfl, ?_⟩
      refine FinS.cons fun v7 h7 => ⟨_, by simp only [Act.put, List.setIfInBounds_toArray, List.set_cons_succ, List.set_cons_zero]; first | done | rfl, ?_⟩
      refine FinS.cons ?_; rintro _ rfl; refine ⟨_, by simp only [Act.put, List.setIfInBounds_toArray, List.set_cons_succ, List.set_cons_zero]; first | done | rfl, ?_⟩
      refine FinS.cons fun v9 h9 => ⟨_, by simp only [Act.put, List.setIfInBounds_toArray, List.set_cons_succ, List.set_cons_zero]; first | done | rfl, ?_⟩
      refine FinS.cons fun v10 h10 => ⟨_, by rfl, ?_⟩
      refine FinS.cons ?_; rintro _ rfl; refine ⟨_, by simp only [Act.put, List.setIfInBounds_toArray, List.set_cons_succ, List.set_cons_zero]; first | done | rfl, ?_⟩
      first | show Exit.then _ _ _ _ _ | show Exit.inBlock _ _ _ _ _
      obtain ⟨-, rfl⟩ := h9
      obtain ⟨b3, x1, x2, x3, y1, y2, y3, rfl, hbn, hb3, hX3⟩ := hZw3
      have hg3 := HG.out _ hw3
      have HB3 : Hid (w3.heap[b3]? = some (.cells #[.slice x1 x2 x3, .slice y1 y2 y3] 26 (0, 0)) ∧ ArrV w3 (.agg #[.slice x1 x2 x3, .slice y1 y2 y3]) X) := ⟨hb3, hX3⟩
      have j0 := hg3.at k0
      have j1 := hg3.at k1
      have m0 := two_at0 hb3
      have m1 := two_at1 hb3
      have HST3 : Hid (StepC w3 b (off + k * 7) s (.slice s1' s2' s3')) := HST.out.grow hg3
      have HV3 : Hid (ArrV w3 (.agg #[.slice z1 z2 z3, .slice z4 z5 z6]) a) := HV.out.grow hg3
      have HBx3 : Hid (w3.heap[b1]? = some (.cells #[.slice z1 z2 z3, .slice z4 z5 z6] 26 (0, 0))) := hg3.block' HBx.out
      have hgw3 := hgr.trans hg3
      have Hgb : Hid (gentleB a s = (!againB a s && decide (worstN X ≤ 1))) := by rw [Hid, ← HXE.out.1]; rfl
      rw [HXE.out.1] at Hyes
      clear h5 h6 h7 h10 hw3 hb3 hX3 hbn HG HZ hF0 hF1 hF2 stabT stabT2 stabT3 stabZ k0 k1 HST HV HBx HXE hg3 Hn hgr
      have HAg : Hid (∀ w', Grow w3 w' → Calls Try.prog 36 #[.agg #[.slice z1 z2 z3, .slice z4 z5 z6], .agg #[.int .i64 s.k, .int .i64 s.n, .int .i64 s.m, .int .i64 s.d.k, .int .i64 s.d.n, .int .i64 s.d.m, .slice s1' s2' s3']] w' fun e w'' => e = .returned (.bool (againB a s)) ∧ Grow w' w'') := fun w' hg => by
        have hcl := HST3.out.grow hg
        exact refAgain_any _ _ a s w' (HV3.out.grow hg) HA.out ⟨_, rfl, hcl.2.2.2.2.2.2.2.1, hcl.2.2.2.2.2.2.2.2⟩
      have hgstep : ∀ w', Grow w3 w' → Hid (StepC w' b (off + k * 7) s (.slice s1' s2' s3')) := fun w' hg => HST3.out.grow hg
      cases hab : againB a s with
      | true =>
        have hkn := Hno.out (by rw [Hgb.out, hab]; rfl)
        have HKN : Hid (gentleN newP l = k) := hkn
        rw [hab] at HAg
        clear hab hkn
        go_wp2
        refine wp_region_stable Grow [IsV (.agg #[.slice z1 z2 z3, .slice z4 z5 z6]), IsV (.slice (some ⟨b, off, none⟩) M cap), IsV (.int .i64 k), IsV (.pointer (some ⟨b, off + k * 7, none⟩)), IsV (.agg #[.int .i64 s.k, .int .i64 s.n, .int .i64 s.m, .int .i64 s.d.k, .int .i64 s.d.n, .int .i64 s.d.m, .slice s1' s2' s3']), IsV (.bool true), IsV (.bool true), IsV (undef), IsV (undef), IsV (undef), IsV (.bool true)] (by kernel_rfl) (by kernel_rfl) rfl Grow.refl (fun _ _ _ => Grow.trans) ?_ ?_ ?_
        · repeat (refine List.forall_mem_cons.2 ⟨by first | exact IsV.stable _, ?_⟩)
          exact fun R hR => nomatch hR
        · skip
          refine StepsS.cons ?_ fun v0 => ⟨_, _, by simp only [Act.put, List.setIfInBounds_toArray, List.set_cons_succ, List.set_cons_zero]; first | done | rfl, by simp only [List.nil_append]; first | done | rfl, ?_⟩
          · intro w1 hE hd
            clear hd
            have p0 := hE.drew.at j0
            have p1 := hE.drew.at j1
            go_wp2
            exact ⟨_, rfl, Grow.refl _, rfl⟩
          refine StepsS.cons ?_ fun v1 => ⟨_, _, by simp only [Act.put, List.setIfInBounds_toArray, List.set_cons_succ, List.set_cons_zero]; first | done | rfl, by simp only [List.nil_append, List.cons_append]; first | done | rfl, ?_⟩
          · intro w1 hE hd
            clear hd
            go_wp2
            exact ⟨_, rfl, Grow.refl _, rfl⟩
          refine StepsS.cons ?_ fun v2 => ⟨_, _, by simp only [Act.put, List.setIfInBounds_toArray, List.set_cons_succ, List.set_cons_zero]; first | done | rfl, by simp only [List.nil_append, List.cons_append]; first | done | rfl, ?_⟩
          · intro w1 hE hd
            clear hd
            go_wp2
            exact ⟨_, rfl, Grow.refl _, rfl⟩
          refine StepsS.cons ?_ fun v3 => ⟨_, _, by simp only [Act.put, List.setIfInBounds_toArray, List.set_cons_succ, List.set_cons_zero]; first | done | rfl, by simp only [List.nil_append, List.cons_append]; first | done | rfl, ?_⟩
          · intro w1 hE hd
            obtain rfl := IsV.eq (dep_at hd 0 rfl rfl rfl)
            obtain rfl := IsV.eq (dep_at hd 1 rfl rfl rfl)
            clear hd
            go_wp2
            exact ⟨_, rfl, Grow.refl _, rfl⟩
          refine StepsS.cons ?_ fun v4 => ⟨_, _, by simp only [Act.put, List.setIfInBounds_toArray, List.set_cons_succ, List.set_cons_zero]; first | done | rfl, by simp only [List.nil_append, List.cons_append]; first | done | rfl, ?_⟩
          · intro w1 hE hd
            obtain rfl := IsV.eq (dep_at hd 0 rfl rfl rfl)
            clear hd
            obtain ⟨s0, s1, s2, s3, s4, s5, s6, -, -⟩ := (hgstep _ hE.drew).out
            go_wp2
            exact ⟨_, rfl, Grow.refl _, rfl⟩
          refine StepsS.cons ?_ fun v5 => ⟨_, _, by simp only [Act.put, List.setIfInBounds_toArray, List.set_cons_succ, List.set_cons_zero]; first | done | rfl, by simp only [List.nil_append, List.cons_append]; first | done | rfl, ?_⟩
          · intro w1 hE hd
            obtain rfl := IsV.eq (dep_at hd 0 rfl rfl rfl)
            obtain rfl := IsV.eq (dep_at hd 1 rfl rfl rfl)
            clear hd
            go_wp2_with fail
            refine (HAg.out _ hE.drew).mono ?_
            rintro e w4 ⟨rfl, hg4⟩
            go_wp2_with fail
            exact ⟨_, rfl, hg4, rfl⟩
          refine StepsS.cons ?_ fun v6 => ⟨_, _, by simp only [Act.put, List.setIfInBounds_toArray, List.set_cons_succ, List.set_cons_zero]; first | done | rfl, by simp only [List.nil_append, List.cons_append]; first | done | rfl, ?_⟩
          · intro w1 hE hd
            obtain rfl := IsV.eq (dep_at hd 0 rfl rfl rfl)
            clear hd
            go_wp2
            exact ⟨_, rfl, Grow.refl _, rfl⟩
          refine StepsS.cons ?_ fun v7 => ⟨_, _, by simp only [Act.put, List.setIfInBounds_toArray, List.set_cons_succ, List.set_cons_zero]; first | done | rfl, by simp only [List.nil_append, List.cons_append]; first | done | rfl, ?_⟩
          · intro w1 hE hd
            obtain rfl := IsV.eq (dep_at hd 0 rfl rfl rfl)
            clear hd
            go_wp2
            exact ⟨_, rfl, Grow.refl _, rfl⟩
          refine StepsS.cons ?_ fun v8 => ⟨_, _, by simp only [Act.put, List.setIfInBounds_toArray, List.set_cons_succ, List.set_cons_zero]; first | done | rfl, by simp only [List.nil_append, List.cons_append]; first | done | rfl, ?_⟩
          · intro w1 hE hd
            obtain rfl := IsV.eq (dep_at hd 0 rfl rfl rfl)
            obtain rfl := IsV.eq (dep_at hd 1 rfl rfl rfl)
            clear hd
            go_wp2
            exact ⟨_, rfl, Grow.refl _, rfl⟩
          refine StepsS.cons ?_ fun v9 => ⟨_, _, by simp only [Act.put, List.setIfInBounds_toArray, List.set_cons_succ, List.set_cons_zero]; first | done | rfl, by simp only [List.nil_append, List.cons_append]; first | done | rfl, ?_⟩
          · intro w1 hE hd
            obtain rfl := IsV.eq (dep_at hd 0 rfl rfl rfl)
            obtain rfl := IsV.eq (dep_at hd 1 rfl rfl rfl)
            clear hd
            go_wp2
            exact ⟨_, rfl, Grow.refl _, rfl⟩
          refine StepsS.cons ?_ fun v10 => ⟨_, _, by simp only [Act.put, List.setIfInBounds_toArray, List.set_cons_succ, List.set_cons_zero]; first | done | rfl, by simp only [List.nil_append, List.cons_append]; first | done | rfl, ?_⟩
          · intro w1 hE hd
            obtain rfl := IsV.eq (dep_at hd 0 rfl rfl rfl)
            obtain rfl := IsV.eq (dep_at hd 1 rfl rfl rfl)
            clear hd
            go_wp2
            exact ⟨_, rfl, Grow.refl _, rfl⟩
          trivial
        intro w4 hw4
        refine FinS.cons ?_; rintro _ rfl; refine ⟨_, by simp only [Act.put, List.setIfInBounds_toArray, List.set_cons_succ, List.set_cons_zero]; first | done | rfl, ?_⟩
        refine FinS.cons ?_; rintro _ rfl; refine ⟨_, by simp only [Act.put, List.setIfInBounds_toArray, List.set_cons_succ, List.set_cons_zero]; first | done | rfl, ?_⟩
        refine FinS.cons ?_; rintro _ rfl; refine ⟨_, by simp only [Act.put, List.setIfInBounds_toArray, List.set_cons_succ, List.set_cons_zero]; first | done | rfl, ?_⟩
        refine FinS.cons ?_; rintro _ rfl; refine ⟨_, by simp only [Act.put, List.setIfInBounds_toArray, List.set_cons_succ, List.set_cons_zero]; first | done | rfl, ?_⟩
        refine FinS.cons ?_; rintro _ rfl; refine ⟨_, by simp only [Act.put, List.setIfInBounds_toArray, List.set_cons_succ, List.set_cons_zero]; first | done | rfl, ?_⟩
        refine FinS.cons ?_; rintro _ rfl; refine ⟨_, by simp only [Act.put, List.setIfInBounds_toArray, List.set_cons_succ, List.set_cons_zero]; first | done | rfl, ?_⟩
        refine FinS.cons ?_; rintro _ rfl; refine ⟨_, by simp only [Act.put, List.setIfInBounds_toArray, List.set_cons_succ, List.set_cons_zero]; first | done | rfl, ?_⟩
        refine FinS.cons ?_; rintro _ rfl; refine ⟨_, by simp only [Act.put, List.setIfInBounds_toArray, List.set_cons_succ, List.set_cons_zero]; first | done | rfl, ?_⟩
        refine FinS.cons ?_; rintro _ rfl; refine ⟨_, by simp only [Act.put, List.setIfInBounds_toArray, List.set_cons_succ, List.set_cons_zero]; first | done | rfl, ?_⟩
        refine FinS.cons ?_; rintro _ rfl; refine ⟨_, by simp only [Act.put, List.setIfInBounds_toArray, List.set_cons_succ, List.set_cons_zero]; first | done | rfl, ?_⟩
        refine FinS.cons ?_; rintro _ rfl; refine ⟨_, by simp only [Act.put, List.setIfInBounds_toArray, List.set_cons_succ, List.set_cons_zero]; first | done | rfl, ?_⟩
        first | show Exit.then _ _ _ _ _ | show Exit.inBlock _ _ _ _ _
        have hgf := hgw3.trans hw4.drew
        clear hgstep HAg HST3 HV3 HBx3 HB3 j0 j1 m0 m1 Hno Hyes Hgb
        have hWk := mayWalk_any _ l w4 (HL.out.1.grow (hg0.trans hgf)) HL.out.2
        rw [HKN.out] at hWk
        go_wp2_with fail
        refine hWk.mono ?_
        rintro e w6 ⟨rfl, hg6⟩
        clear hWk
        have hgf6 := hgf.trans hg6
        have hRb := refRight_any (.slice bv1 bv2 bv3) ls w6 (Bss.grow HB.out (hg0.trans hgf6))
        by_cases hr : rightBlocksB ls = true
        · rw [hr] at hRb
          have HB6 : Hid (Bss w6 (.slice bv1 bv2 bv3) ls ∧ rightBlocksB ls = true) := ⟨Bss.grow HB.out (hg0.trans hgf6), hr⟩
          have HS6 : Hid (StepC w6 b0 0 XX (.slice d1 d2 d3)) := HS.out.grow hgf6
          go_wp2_with fail
          refine hRb.mono ?_
          rintro e w6' ⟨rfl, hw⟩
          have hw := hw.symm
          subst hw
          clear hRb hr hg6 hgf
          obtain ⟨Y, hY⟩ : ∃ Y, listsL ls XX = Y := ⟨_, rfl⟩
          have HY : Hid (listsL ls XX = Y) := hY
          clear hY
          go_wp2
          refine wp_region_stable Grow [IsV (.slice bv1 bv2 bv3), IsV (.agg #[.int .i64 XX.k, .int .i64 XX.n, .int .i64 XX.m, .int .i64 XX.d.k, .int .i64 XX.d.n, .int .i64 XX.d.m, .slice d1 d2 d3]), DksP Y, IsV (.slice bv1 bv2 bv3), IsV (.agg #[.int .i64 XX.k, .int .i64 XX.n, .int .i64 XX.m, .int .i64 XX.d.k, .int .i64 XX.d.n, .int .i64 XX.d.m, .slice d1 d2 d3]), DksP Y, DksP Y, DksP Y] (by kernel_rfl) (by kernel_rfl) rfl Grow.refl (fun _ _ _ => Grow.trans) ?_ ?_ ?_
          · repeat (refine List.forall_mem_cons.2 ⟨by first | exact IsV.stable _ | exact DksP.stable _, ?_⟩)
            exact fun R hR => nomatch hR
          · skip
            refine StepsS.cons ?_ fun v0 => ⟨_, _, by simp only [Act.put, List.setIfInBounds_toArray, List.set_cons_succ, List.set_cons_zero]; first | done | rfl, by simp only [List.nil_append]; first | done | rfl, ?_⟩
            · intro w1 hE hd
              clear hd
              go_wp2
              exact ⟨_, rfl, Grow.refl _, rfl⟩
            refine StepsS.cons ?_ fun v1 => ⟨_, _, by simp only [Act.put, List.setIfInBounds_toArray, List.set_cons_succ, List.set_cons_zero]; first | done | rfl, by simp only [List.nil_append, List.cons_append]; first | done | rfl, ?_⟩
            · intro w1 hE hd
              clear hd
              obtain ⟨s0, s1, s2, s3, s4, s5, s6, -, -⟩ := HS6.out.grow hE.drew
              go_wp2
              exact ⟨_, rfl, Grow.refl _, rfl⟩
            refine StepsS.cons ?_ fun v2 => ⟨_, _, by simp only [Act.put, List.setIfInBounds_toArray, List.set_cons_succ, List.set_cons_zero]; first | done | rfl, by simp only [List.nil_append, List.cons_append]; first | done | rfl, ?_⟩
            · intro w1 hE hd
              obtain rfl := IsV.eq (dep_at hd 0 rfl rfl rfl)
              obtain rfl := IsV.eq (dep_at hd 1 rfl rfl rfl)
              clear hd
              have hcl := HS6.out.grow hE.drew
              have hcs := mayLists_any (.slice bv1 bv2 bv3) (.agg #[.int .i64 XX.k, .int .i64 XX.n, .int .i64 XX.m, .int .i64 XX.d.k, .int .i64 XX.d.n, .int .i64 XX.d.m, .slice d1 d2 d3]) ls XX _ (Bss.grow HB6.out.1 hE.drew) HB6.out.2 ⟨_, rfl, hcl.2.2.2.2.2.2.2.1, hcl.2.2.2.2.2.2.2.2⟩
              rw [HY.out] at hcs
              clear hcl
              go_wp2_with fail
              refine hcs.mono ?_
              rintro e w9 ⟨r', rfl, hr', hg9⟩
              go_wp2_with fail
              exact ⟨_, rfl, hg9, hr'⟩
            refine StepsS.cons ?_ fun v3 => ⟨_, _, by simp only [Act.put, List.setIfInBounds_toArray, List.set_cons_succ, List.set_cons_zero]; first | done | rfl, by simp only [List.nil_append, List.cons_append]; first | done | rfl, ?_⟩
            · intro w1 hE hd
              clear hd
              go_wp2
              exact ⟨_, rfl, Grow.refl _, rfl⟩
            refine StepsS.cons ?_ fun v4 => ⟨_, _, by simp only [Act.put, List.setIfInBounds_toArray, List.set_cons_succ, List.set_cons_zero]; first | done | rfl, by simp only [List.nil_append, List.cons_append]; first | done | rfl, ?_⟩
            · intro w1 hE hd
              clear hd
              obtain ⟨s0, s1, s2, s3, s4, s5, s6, -, -⟩ := HS6.out.grow hE.drew
              go_wp2
              exact ⟨_, rfl, Grow.refl _, rfl⟩
            refine StepsS.cons ?_ fun v5 => ⟨_, _, by simp only [Act.put, List.setIfInBounds_toArray, List.set_cons_succ, List.set_cons_zero]; first | done | rfl, by simp only [List.nil_append, List.cons_append]; first | done | rfl, ?_⟩
            · intro w1 hE hd
              obtain rfl := IsV.eq (dep_at hd 0 rfl rfl rfl)
              obtain rfl := IsV.eq (dep_at hd 1 rfl rfl rfl)
              clear hd
              have hcl := HS6.out.grow hE.drew
              have hcs := refLists_any (.slice bv1 bv2 bv3) (.agg #[.int .i64 XX.k, .int .i64 XX.n, .int .i64 XX.m, .int .i64 XX.d.k, .int .i64 XX.d.n, .int .i64 XX.d.m, .slice d1 d2 d3]) ls XX _ (Bss.grow HB6.out.1 hE.drew) (right_nine' HB6.out.2) ⟨_, rfl, hcl.2.2.2.2.2.2.2.1, hcl.2.2.2.2.2.2.2.2⟩
              rw [HY.out] at hcs
              clear hcl
              go_wp2_with fail
              refine hcs.mono ?_
              rintro e w9 ⟨r', rfl, hr', hg9⟩
              go_wp2_with fail
              exact ⟨_, rfl, hg9, hr'⟩
            refine StepsS.cons ?_ fun v6 => ⟨_, _, by simp only [Act.put, List.setIfInBounds_toArray, List.set_cons_succ, List.set_cons_zero]; first | done | rfl, by simp only [List.nil_append, List.cons_append]; first | done | rfl, ?_⟩
            · intro w1 hE hd
              have d2 := dep_at hd 0 rfl rfl rfl
              clear hd
              go_wp2
              exact ⟨_, rfl, Grow.refl _, d2⟩
            refine StepsS.cons ?_ fun v7 => ⟨_, _, by simp only [Act.put, List.setIfInBounds_toArray, List.set_cons_succ, List.set_cons_zero]; first | done | rfl, by simp only [List.nil_append, List.cons_append]; first | done | rfl, ?_⟩
            · intro w1 hE hd
              have d5 := dep_at hd 0 rfl rfl rfl
              clear hd
              go_wp2
              exact ⟨_, rfl, Grow.refl _, d5⟩
            trivial
          intro w7 hw7
          refine FinS.cons ?_; rintro _ rfl; refine ⟨_, by simp only [Act.put, List.setIfInBounds_toArray, List.set_cons_succ, List.set_cons_zero]; first | done | rfl, ?_⟩
          refine FinS.cons ?_; rintro _ rfl; refine ⟨_, by simp only [Act.put, List.setIfInBounds_toArray, List.set_cons_succ, List.set_cons_zero]; first | done | rfl, ?_⟩
          refine FinS.cons fun v2 h2 => ⟨_, by simp only [Act.put, List.setIfInBounds_toArray, List.set_cons_succ, List.set_cons_zero]; first | done | rfl, ?_⟩
          refine FinS.cons ?_; rintro _ rfl; refine ⟨_, by simp only [Act.put, List.setIfInBounds_toArray, List.set_cons_succ, List.set_cons_zero]; first | done | rfl, ?_⟩
          refine FinS.cons ?_; rintro _ rfl; refine ⟨_, by simp only [Act.put, List.setIfInBounds_toArray, List.set_cons_succ, List.set_cons_zero]; first | done | rfl, ?_⟩
          refine FinS.cons fun v5 h5 => ⟨_, by simp only [Act.put, List.setIfInBounds_toArray, List.set_cons_succ, List.set_cons_zero]; first | done | rfl, ?_⟩
          refine FinS.cons fun v6 h6 => ⟨_, by simp only [Act.put, List.setIfInBounds_toArray, List.set_cons_succ, List.set_cons_zero]; first | done | rfl, ?_⟩
          refine FinS.cons fun v7 h7 => ⟨_, by simp only [Act.put, List.setIfInBounds_toArray, List.set_cons_succ, List.set_cons_zero]; first | done | rfl, ?_⟩
          first | show Exit.then _ _ _ _ _ | show Exit.inBlock _ _ _ _ _
          have hgf7 := hgf6.trans hw7.drew
          have HD1 : Hid (Dks w7 v6 Y) := h6
          have HD2 : Hid (Dks w7 v7 Y) := h7
          obtain ⟨p1, p2, rfl⟩ := HD1.out.form
          obtain ⟨q1, q2, rfl⟩ := HD2.out.form
          have HYl : Hid (Y.length ≤ 9223372036854775807) := by
            obtain ⟨_, _, _, t1, t2, _⟩ := HD1.out
            unfold maxLen at t2
            rw [Hid]
            omega
          clear h2 h5 h6 h7 hw7 HS6 HB6 hgf6
          obtain ⟨L, hL⟩ : ∃ L, Y.length = L := ⟨_, rfl⟩
          have HLL : Hid (Y.length = L) := hL
          rw [hL] at HD1 HD2 HYl ⊢
          clear hL
          have hLm := HYl.out
          go_wp2
          go_loopw [68] (fun i wr => ∃ m : Nat, m ≤ L ∧ i = .int .i64 m ∧ Grow w7 wr) (fun i _ => L - (intOf i).toNat)
          case atStart => exact ⟨0, by omega, rfl, Grow.refl _⟩
          case round =>
            obtain ⟨m, hm, rfl, hg7r⟩ := hrel
            by_cases hml : m < L
            · have HE1 := HD1.out.elems (k := m) (by rw [HLL.out]; exact hml)
              have HE2 := HD2.out.elems (k := m) (by rw [HLL.out]; exact hml)
              obtain ⟨be, oe, a', c', rfl, hc1, hs1⟩ := HE1
              obtain ⟨bf, of, a'', c'', rfl, hc2, hs2⟩ := HE2
              generalize Y.getD m [] = B at *
              have hc1' := hg7r.at hc1
              have hc2' := hg7r.at hc2
              have HSS : Hid (Bss wr (.slice a' B.length c') B ∧ Bss wr (.slice a'' B.length c'') B) := ⟨Bss.grow hs1 hg7r, Bss.grow hs2 hg7r⟩
              have hmi : (m : Int) < (L : Int) := by omega
              clear hc1 hc2 hs1 hs2
              generalize B.length = BL at *
              go_wp2
              refine wp_region_stable Grow [IsV (.slice (some ⟨be, oe, none⟩) L p2), IsV (.int .i64 m), IsV (.pointer (some ⟨be, oe + m, none⟩)), IsV (.slice a' BL c'), IsV (.slice (some ⟨bf, of, none⟩) L q2), IsV (.int .i64 m), IsV (.pointer (some ⟨bf, of + m, none⟩)), IsV (.slice a'' BL c''), IsV (.bool true), IsV (.bool false)] (by kernel_rfl) (by kernel_rfl) rfl Grow.refl (fun _ _ _ => Grow.trans) ?_ ?_ ?_
              · repeat (refine List.forall_mem_cons.2 ⟨by first | exact IsV.stable _, ?_⟩)
                exact fun R hR => nomatch hR
              · skip
                refine StepsS.cons ?_ fun v0 => ⟨_, _, by simp only [Act.put, List.setIfInBounds_toArray, List.set_cons_succ, List.set_cons_zero]; first | done | rfl, by simp only [List.nil_append]; first | done | rfl, ?_⟩
                · intro w1 hE hd
                  clear hd
                  go_wp2
                  exact ⟨_, rfl, Grow.refl _, rfl⟩
                refine StepsS.cons ?_ fun v1 => ⟨_, _, by simp only [Act.put, List.setIfInBounds_toArray, List.set_cons_succ, List.set_cons_zero]; first | done | rfl, by simp only [List.nil_append, List.cons_append]; first | done | rfl, ?_⟩
                · intro w1 hE hd
                  clear hd
                  go_wp2
                  exact ⟨_, rfl, Grow.refl _, rfl⟩
                refine StepsS.cons ?_ fun v2 => ⟨_, _, by simp only [Act.put, List.setIfInBounds_toArray, List.set_cons_succ, List.set_cons_zero]; first | done | rfl, by simp only [List.nil_append, List.cons_append]; first | done | rfl, ?_⟩
                · intro w1 hE hd
                  obtain rfl := IsV.eq (dep_at hd 0 rfl rfl rfl)
                  obtain rfl := IsV.eq (dep_at hd 1 rfl rfl rfl)
                  clear hd
                  go_wp2
                  exact ⟨_, rfl, Grow.refl _, rfl⟩
                refine StepsS.cons ?_ fun v3 => ⟨_, _, by simp only [Act.put, List.setIfInBounds_toArray, List.set_cons_succ, List.set_cons_zero]; first | done | rfl, by simp only [List.nil_append, List.cons_append]; first | done | rfl, ?_⟩
                · intro w1 hE hd
                  obtain rfl := IsV.eq (dep_at hd 0 rfl rfl rfl)
                  clear hd
                  have qq := hE.drew.at hc1'
                  go_wp2
                  exact ⟨_, rfl, Grow.refl _, rfl⟩
                refine StepsS.cons ?_ fun v4 => ⟨_, _, by simp only [Act.put, List.setIfInBounds_toArray, List.set_cons_succ, List.set_cons_zero]; first | done | rfl, by simp only [List.nil_append, List.cons_append]; first | done | rfl, ?_⟩
                · intro w1 hE hd
                  clear hd
                  go_wp2
                  exact ⟨_, rfl, Grow.refl _, rfl⟩
                refine StepsS.cons ?_ fun v5 => ⟨_, _, by simp only [Act.put, List.setIfInBounds_toArray, List.set_cons_succ, List.set_cons_zero]; first | done | rfl, by simp only [List.nil_append, List.cons_append]; first | done | rfl, ?_⟩
                · intro w1 hE hd
                  clear hd
                  go_wp2
                  exact ⟨_, rfl, Grow.refl _, rfl⟩
                refine StepsS.cons ?_ fun v6 => ⟨_, _, by simp only [Act.put, List.setIfInBounds_toArray, List.set_cons_succ, List.set_cons_zero]; first | done | rfl, by simp only [List.nil_append, List.cons_append]; first | done | rfl, ?_⟩
                · intro w1 hE hd
                  obtain rfl := IsV.eq (dep_at hd 0 rfl rfl rfl)
                  obtain rfl := IsV.eq (dep_at hd 1 rfl rfl rfl)
                  clear hd
                  go_wp2
                  exact ⟨_, rfl, Grow.refl _, rfl⟩
                refine StepsS.cons ?_ fun v7 => ⟨_, _, by simp only [Act.put, List.setIfInBounds_toArray, List.set_cons_succ, List.set_cons_zero]; first | done | rfl, by simp only [List.nil_append, List.cons_append]; first | done | rfl, ?_⟩
                · intro w1 hE hd
                  obtain rfl := IsV.eq (dep_at hd 0 rfl rfl rfl)
                  clear hd
                  have qq := hE.drew.at hc2'
                  go_wp2
                  exact ⟨_, rfl, Grow.refl _, rfl⟩
                refine StepsS.cons ?_ fun v8 => ⟨_, _, by simp only [Act.put, List.setIfInBounds_toArray, List.set_cons_succ, List.set_cons_zero]; first | done | rfl, by simp only [List.nil_append, List.cons_append]; first | done | rfl, ?_⟩
                · intro w1 hE hd
                  obtain rfl := IsV.eq (dep_at hd 0 rfl rfl rfl)
                  obtain rfl := IsV.eq (dep_at hd 1 rfl rfl rfl)
                  clear hd
                  go_wp2_with fail
                  refine (refSame_self _ _ B _ (Bss.grow HSS.out.1 hE.drew) (Bss.grow HSS.out.2 hE.drew)).mono ?_
                  rintro e w4 ⟨rfl, hg4⟩
                  go_wp2_with fail
                  exact ⟨_, rfl, hg4, rfl⟩
                refine StepsS.cons ?_ fun v9 => ⟨_, _, by simp only [Act.put, List.setIfInBounds_toArray, List.set_cons_succ, List.set_cons_zero]; first | done | rfl, by simp only [List.nil_append, List.cons_append]; first | done | rfl, ?_⟩
                · intro w1 hE hd
                  obtain rfl := IsV.eq (dep_at hd 0 rfl rfl rfl)
                  clear hd
                  go_wp2
                  exact ⟨_, rfl, Grow.refl _, rfl⟩
                trivial
              intro wR hwR
              refine FinS.cons ?_; rintro _ rfl; refine ⟨_, by simp only [Act.put, List.setIfInBounds_toArray, List.set_cons_succ, List.set_cons_zero]; first | done | rfl, ?_⟩
              refine FinS.cons ?_; rintro _ rfl; refine ⟨_, by simp only [Act.put, List.setIfInBounds_toArray, List.set_cons_succ, List.set_cons_zero]; first | done | rfl, ?_⟩
              refine FinS.cons ?_; rintro _ rfl; refine ⟨_, by simp only [Act.put, List.setIfInBounds_toArray, List.set_cons_succ, List.set_cons_zero]; first | done | rfl, ?_⟩
              refine FinS.cons ?_; rintro _ rfl; refine ⟨_, by simp only [Act.put, List.setIfInBounds_toArray, List.set_cons_succ, List.set_cons_zero]; first | done | rfl, ?_⟩
              refine FinS.cons ?_; rintro _ rfl; refine ⟨_, by simp only [Act.put, List.setIfInBounds_toArray, List.set_cons_succ, List.set_cons_zero]; first | done | rfl, ?_⟩
              refine FinS.cons ?_; rintro _ rfl; refine ⟨_, by simp only [Act.put, List.setIfInBounds_toArray, List.set_cons_succ, List.set_cons_zero]; first | done | rfl, ?_⟩
              refine FinS.cons ?_; rintro _ rfl; refine ⟨_, by simp only [Act.put, List.setIfInBounds_toArray, List.set_cons_succ, List.set_cons_zero]; first | done | rfl, ?_⟩
              refine FinS.cons ?_; rintro _ rfl; refine ⟨_, by simp only [Act.put, List.setIfInBounds_toArray, List.set_cons_succ, List.set_cons_zero]; first | done | rfl, ?_⟩
              refine FinS.cons ?_; rintro _ rfl; refine ⟨_, by simp only [Act.put, List.setIfInBounds_toArray, List.set_cons_succ, List.set_cons_zero]; first | done | rfl, ?_⟩
              refine FinS.cons ?_; rintro _ rfl; refine ⟨_, by simp only [Act.put, List.setIfInBounds_toArray, List.set_cons_succ, List.set_cons_zero]; first | done | rfl, ?_⟩
              first | show Exit.then _ _ _ _ _ | show Exit.inBlock _ _ _ _ _
              have hgR := hg7r.trans hwR.drew
              go_wp2
              go_roundw
              case rel => first | exact ⟨m + 1, by omega, by go_num, hgR⟩ | ((repeat apply Exists.intro); exact ⟨⟨m + 1, by omega, by go_num, hgR⟩, rfl⟩)
              case measure => simp [intOf]; omega
            · have hno' : ¬ ((m : Int) < (L : Int)) := by omega
              clear HD1 HD2 HLL HYl
              go_wp2
              go_ret
              exact ⟨rfl, hg0.trans (hgf7.trans hg7r)⟩
        · have hr' : rightBlocksB ls = false := by simpa using hr
          rw [hr'] at hRb
          go_wp2_with fail
          refine hRb.mono ?_
          rintro e w6' ⟨rfl, hw⟩
          have hw := hw.symm
          subst hw
          go_wp2
          go_ret
          exact ⟨rfl, hg0.trans hgf6⟩
      | false =>
        rw [hab] at HAg
        by_cases hw1 : worstN X ≤ 1
        · have hkn := Hyes.out (by rw [Hgb.out, hab]; simpa using hw1)
          have HKN : Hid ((k + 1) + gentleN X (l.drop (k + 1)) = gentleN newP l) := hkn
          have nb : ¬ 1 < ((worstN X : Nat) : Int) := by omega
          have nbd : decide (1 < ((worstN X : Nat) : Int)) = false := by simpa using nb
          have HWr := fun w' hg => refWorst_any (.agg #[.slice x1 x2 x3, .slice y1 y2 y3]) X w' (HB3.out.2.grow (hg : Grow w3 w')) HXA.out.whole
          clear hab hkn
          generalize worstN X = N at *
          go_wp2
          refine wp_region_stable Grow [IsV (.agg #[.slice z1 z2 z3, .slice z4 z5 z6]), IsV (.slice (some ⟨b, off, none⟩) M cap), IsV (.int .i64 k), IsV (.pointer (some ⟨b, off + k * 7, none⟩)), IsV (.agg #[.int .i64 s.k, .int .i64 s.n, .int .i64 s.m, .int .i64 s.d.k, .int .i64 s.d.n, .int .i64 s.d.m, .slice s1' s2' s3']), IsV (.bool false), IsV (.bool false), IsV (.agg #[.slice x1 x2 x3, .slice y1 y2 y3]), IsV (.int .i64 (N : Nat)), IsV (.bool false), IsV (.bool false)] (by kernel_rfl) (by kernel_rfl) rfl Grow.refl (fun _ _ _ => Grow.trans) ?_ ?_ ?_
          · repeat (refine List.forall_mem_cons.2 ⟨by first | exact IsV.stable _, ?_⟩)
            exact fun R hR => nomatch hR
          · skip
            refine StepsS.cons ?_ fun v0 => ⟨_, _, by simp only [Act.put, List.setIfInBounds_toArray, List.set_cons_succ, List.set_cons_zero]; first | done | rfl, by simp only [List.nil_append]; first | done | rfl, ?_⟩
            · intro w1 hE hd
              clear hd
              have p0 := hE.drew.at j0
              have p1 := hE.drew.at j1
              go_wp2
              exact ⟨_, rfl, Grow.refl _, rfl⟩
            refine StepsS.cons ?_ fun v1 => ⟨_, _, by simp only [Act.put, List.setIfInBounds_toArray, List.set_cons_succ, List.set_cons_zero]; first | done | rfl, by simp only [List.nil_append, List.cons_append]; first | done | rfl, ?_⟩
            · intro w1 hE hd
              clear hd
              go_wp2
              exact ⟨_, rfl, Grow.refl _, rfl⟩
            refine StepsS.cons ?_ fun v2 => ⟨_, _, by simp only [Act.put, List.setIfInBounds_toArray, List.set_cons_succ, List.set_cons_zero]; first | done | rfl, by simp only [List.nil_append, List.cons_append]; first | done | rfl, ?_⟩
            · intro w1 hE hd
              clear hd
              go_wp2
              exact ⟨_, rfl, Grow.refl _, rfl⟩
            refine StepsS.cons ?_ fun v3 => ⟨_, _, by simp only [Act.put, List.setIfInBounds_toArray, List.set_cons_succ, List.set_cons_zero]; first | done | rfl, by simp only [List.nil_append, List.cons_append]; first | done | rfl, ?_⟩
            · intro w1 hE hd
              obtain rfl := IsV.eq (dep_at hd 0 rfl rfl rfl)
              obtain rfl := IsV.eq (dep_at hd 1 rfl rfl rfl)
              clear hd
              go_wp2
              exact ⟨_, rfl, Grow.refl _, rfl⟩
            refine StepsS.cons ?_ fun v4 => ⟨_, _, by simp only [Act.put, List.setIfInBounds_toArray, List.set_cons_succ, List.set_cons_zero]; first | done | rfl, by simp only [List.nil_append, List.cons_append]; first | done | rfl, ?_⟩
            · intro w1 hE hd
              obtain rfl := IsV.eq (dep_at hd 0 rfl rfl rfl)
              clear hd
              obtain ⟨s0, s1, s2, s3, s4, s5, s6, -, -⟩ := (hgstep _ hE.drew).out
              go_wp2
              exact ⟨_, rfl, Grow.refl _, rfl⟩
            refine StepsS.cons ?_ fun v5 => ⟨_, _, by simp only [Act.put, List.setIfInBounds_toArray, List.set_cons_succ, List.set_cons_zero]; first | done | rfl, by simp only [List.nil_append, List.cons_append]; first | done | rfl, ?_⟩
            · intro w1 hE hd
              obtain rfl := IsV.eq (dep_at hd 0 rfl rfl rfl)
              obtain rfl := IsV.eq (dep_at hd 1 rfl rfl rfl)
              clear hd
              go_wp2_with fail
              refine (HAg.out _ hE.drew).mono ?_
              rintro e w4 ⟨rfl, hg4⟩
              go_wp2_with fail
              exact ⟨_, rfl, hg4, rfl⟩
            refine StepsS.cons ?_ fun v6 => ⟨_, _, by simp only [Act.put, List.setIfInBounds_toArray, List.set_cons_succ, List.set_cons_zero]; first | done | rfl, by simp only [List.nil_append, List.cons_append]; first | done | rfl, ?_⟩
            · intro w1 hE hd
              obtain rfl := IsV.eq (dep_at hd 0 rfl rfl rfl)
              clear hd
              go_wp2
              exact ⟨_, rfl, Grow.refl _, rfl⟩
            refine StepsS.cons ?_ fun v7 => ⟨_, _, by simp only [Act.put, List.setIfInBounds_toArray, List.set_cons_succ, List.set_cons_zero]; first | done | rfl, by simp only [List.nil_append, List.cons_append]; first | done | rfl, ?_⟩
            · intro w1 hE hd
              obtain rfl := IsV.eq (dep_at hd 0 rfl rfl rfl)
              clear hd
              have p0 := hE.drew.at m0
              have p1 := hE.drew.at m1
              go_wp2
              exact ⟨_, rfl, Grow.refl _, rfl⟩
            refine StepsS.cons ?_ fun v8 => ⟨_, _, by simp only [Act.put, List.setIfInBounds_toArray, List.set_cons_succ, List.set_cons_zero]; first | done | rfl, by simp only [List.nil_append, List.cons_append]; first | done | rfl, ?_⟩
            · intro w1 hE hd
              obtain rfl := IsV.eq (dep_at hd 0 rfl rfl rfl)
              obtain rfl := IsV.eq (dep_at hd 1 rfl rfl rfl)
              clear hd
              go_wp2_with fail
              refine (HWr _ hE.drew).mono ?_
              rintro e w4 ⟨rfl, hg4⟩
              go_wp2_with fail
              exact ⟨_, rfl, hg4, rfl⟩
            refine StepsS.cons ?_ fun v9 => ⟨_, _, by simp only [Act.put, List.setIfInBounds_toArray, List.set_cons_succ, List.set_cons_zero]; first | done | rfl, by simp only [List.nil_append, List.cons_append]; first | done | rfl, ?_⟩
            · intro w1 hE hd
              obtain rfl := IsV.eq (dep_at hd 0 rfl rfl rfl)
              obtain rfl := IsV.eq (dep_at hd 1 rfl rfl rfl)
              clear hd
              go_wp2
              exact ⟨_, rfl, Grow.refl _, rfl⟩
            refine StepsS.cons ?_ fun v10 => ⟨_, _, by simp only [Act.put, List.setIfInBounds_toArray, List.set_cons_succ, List.set_cons_zero]; first | done | rfl, by simp only [List.nil_append, List.cons_append]; first | done | rfl, ?_⟩
            · intro w1 hE hd
              obtain rfl := IsV.eq (dep_at hd 0 rfl rfl rfl)
              obtain rfl := IsV.eq (dep_at hd 1 rfl rfl rfl)
              clear hd
              go_wp2
              exact ⟨_, rfl, Grow.refl _, rfl⟩
            trivial
          intro w4 hw4
          refine FinS.cons ?_; rintro _ rfl; refine ⟨_, by simp only [Act.put, List.setIfInBounds_toArray, List.set_cons_succ, List.set_cons_zero]; first | done | rfl, ?_⟩
          refine FinS.cons ?_; rintro _ rfl; refine ⟨_, by simp only [Act.put, List.setIfInBounds_toArray, List.set_cons_succ, List.set_cons_zero]; first | done | rfl, ?_⟩
          refine FinS.cons ?_; rintro _ rfl; refine ⟨_, by simp only [Act.put, List.setIfInBounds_toArray, List.set_cons_succ, List.set_cons_zero]; first | done | rfl, ?_⟩
          refine FinS.cons ?_; rintro _ rfl; refine ⟨_, by simp only [Act.put, List.setIfInBounds_toArray, List.set_cons_succ, List.set_cons_zero]; first | done | rfl, ?_⟩
          refine FinS.cons ?_; rintro _ rfl; refine ⟨_, by simp only [Act.put, List.setIfInBounds_toArray, List.set_cons_succ, List.set_cons_zero]; first | done | rfl, ?_⟩
          refine FinS.cons ?_; rintro _ rfl; refine ⟨_, by simp only [Act.put, List.setIfInBounds_toArray, List.set_cons_succ, List.set_cons_zero]; first | done | rfl, ?_⟩
          refine FinS.cons ?_; rintro _ rfl; refine ⟨_, by simp only [Act.put, List.setIfInBounds_toArray, List.set_cons_succ, List.set_cons_zero]; first | done | rfl, ?_⟩
          refine FinS.cons ?_; rintro _ rfl; refine ⟨_, by simp only [Act.put, List.setIfInBounds_toArray, List.set_cons_succ, List.set_cons_zero]; first | done | rfl, ?_⟩
          refine FinS.cons ?_; rintro _ rfl; refine ⟨_, by simp only [Act.put, List.setIfInBounds_toArray, List.set_cons_succ, List.set_cons_zero]; first | done | rfl, ?_⟩
          refine FinS.cons ?_; rintro _ rfl; refine ⟨_, by simp only [Act.put, List.setIfInBounds_toArray, List.set_cons_succ, List.set_cons_zero]; first | done | rfl, ?_⟩
          refine FinS.cons ?_; rintro _ rfl; refine ⟨_, by simp only [Act.put, List.setIfInBounds_toArray, List.set_cons_succ, List.set_cons_zero]; first | done | rfl, ?_⟩
          first | show Exit.then _ _ _ _ _ | show Exit.inBlock _ _ _ _ _
          have hg34 := hw4.drew
          have u0 := hg34.at m0
          have u1 := hg34.at m1
          obtain ⟨W5, hW5, HB5, g50, g51, HY, r0, r1, f0, f1, HK⟩ := reboxed (hg34.block' HBx3.out) (HB3.out.2.grow hg34) HXA.out
          have hgf5 := HK.out.1 _ (hgw3.trans hg34) Hb1.out
          clear HWr hgstep HAg HST3 HV3 HBx3 HB3 j0 j1 m0 m1 Hno Hyes Hgb HK g50 g51 hg34 hgw3
          subst hW5
          go_wp2
          go_roundw
          case rel => first | exact ⟨k + 1, _, _, X, by omega, by go_num, ⟨_, _, _, rfl⟩, ⟨_, _, _, rfl⟩, HB5, HY, HXA, HKN, hgf5⟩ | ((repeat apply Exists.intro); exact ⟨⟨k + 1, _, _, X, by omega, by go_num, ⟨_, _, _, rfl⟩, ⟨_, _, _, rfl⟩, HB5, HY, HXA, HKN, hgf5⟩, rfl⟩)
          case measure => simp [intOf]; omega
        · have hkn := Hno.out (by rw [Hgb.out, hab]; simpa using hw1)
          have HKN : Hid (gentleN newP l = k) := hkn
          have nb : 1 < ((worstN X : Nat) : Int) := by omega
          have nbd : decide (1 < ((worstN X : Nat) : Int)) = true := by simpa using nb
          have HWr := fun w' hg => refWorst_any (.agg #[.slice x1 x2 x3, .slice y1 y2 y3]) X w' (HB3.out.2.grow (hg : Grow w3 w')) HXA.out.whole
          clear hab hkn hw1
          generalize worstN X = N at *
          go_wp2
          refine wp_region_stable Grow [IsV (.agg #[.slice z1 z2 z3, .slice z4 z5 z6]), IsV (.slice (some ⟨b, off, none⟩) M cap), IsV (.int .i64 k), IsV (.pointer (some ⟨b, off + k * 7, none⟩)), IsV (.agg #[.int .i64 s.k, .int .i64 s.n, .int .i64 s.m, .int .i64 s.d.k, .int .i64 s.d.n, .int .i64 s.d.m, .slice s1' s2' s3']), IsV (.bool false), IsV (.bool false), IsV (.agg #[.slice x1 x2 x3, .slice y1 y2 y3]), IsV (.int .i64 (N : Nat)), IsV (.bool true), IsV (.bool true)] (by kernel_rfl) (by kernel_rfl) rfl Grow.refl (fun _ _ _ => Grow.trans) ?_ ?_ ?_
          · repeat (refine List.forall_mem_cons.2 ⟨by first | exact IsV.stable _, ?_⟩)
            exact fun R hR => nomatch hR
          · skip
            refine StepsS.cons ?_ fun v0 => ⟨_, _, by simp only [Act.put, List.setIfInBounds_toArray, List.set_cons_succ, List.set_cons_zero]; first | done | rfl, by simp only [List.nil_append]; first | done | rfl, ?_⟩
            · intro w1 hE hd
              clear hd
              have p0 := hE.drew.at j0
              have p1 := hE.drew.at j1
              go_wp2
              exact ⟨_, rfl, Grow.refl _, rfl⟩
            refine StepsS.cons ?_ fun v1 => ⟨_, _, by simp only [Act.put, List.setIfInBounds_toArray, List.set_cons_succ, List.set_cons_zero]; first | done | rfl, by simp only [List.nil_append, List.cons_append]; first | done | rfl, ?_⟩
            · intro w1 hE hd
              clear hd
              go_wp2
              exact ⟨_, rfl, Grow.refl _, rfl⟩
            refine StepsS.cons ?_ fun v2 => ⟨_, _, by simp only [Act.put, List.setIfInBounds_toArray, List.set_cons_succ, List.set_cons_zero]; first | done | rfl, by simp only [List.nil_append, List.cons_append]; first | done | rfl, ?_⟩
            · intro w1 hE hd
              clear hd
              go_wp2
              exact ⟨_, rfl, Grow.refl _, rfl⟩
            refine StepsS.cons ?_ fun v3 => ⟨_, _, by simp only [Act.put, List.setIfInBounds_toArray, List.set_cons_succ, List.set_cons_zero]; first | done | rfl, by simp only [List.nil_append, List.cons_append]; first | done | rfl, ?_⟩
            · intro w1 hE hd
              obtain rfl := IsV.eq (dep_at hd 0 rfl rfl rfl)
              obtain rfl := IsV.eq (dep_at hd 1 rfl rfl rfl)
              clear hd
              go_wp2
              exact ⟨_, rfl, Grow.refl _, rfl⟩
            refine StepsS.cons ?_ fun v4 => ⟨_, _, by simp only [Act.put, List.setIfInBounds_toArray, List.set_cons_succ, List.set_cons_zero]; first | done | rfl, by simp only [List.nil_append, List.cons_append]; first | done | rfl, ?_⟩
            · intro w1 hE hd
              obtain rfl := IsV.eq (dep_at hd 0 rfl rfl rfl)
              clear hd
              obtain ⟨s0, s1, s2, s3, s4, s5, s6, -, -⟩ := (hgstep _ hE.drew).out
              go_wp2
              exact ⟨_, rfl, Grow.refl _, rfl⟩
            refine StepsS.cons ?_ fun v5 => ⟨_, _, by simp only [Act.put, List.setIfInBounds_toArray, List.set_cons_succ, List.set_cons_zero]; first | done | rfl, by simp only [List.nil_append, List.cons_append]; first | done | rfl, ?_⟩
            · intro w1 hE hd
              obtain rfl := IsV.eq (dep_at hd 0 rfl rfl rfl)
              obtain rfl := IsV.eq (dep_at hd 1 rfl rfl rfl)
              clear hd
              go_wp2_with fail
              refine (HAg.out _ hE.drew).mono ?_
              rintro e w4 ⟨rfl, hg4⟩
              go_wp2_with fail
              exact ⟨_, rfl, hg4, rfl⟩
            refine StepsS.cons ?_ fun v6 => ⟨_, _, by simp only [Act.put, List.setIfInBounds_toArray, List.set_cons_succ, List.set_cons_zero]; first | done | rfl, by simp only [List.nil_append, List.cons_append]; first | done | rfl, ?_⟩
            · intro w1 hE hd
              obtain rfl := IsV.eq (dep_at hd 0 rfl rfl rfl)
              clear hd
              go_wp2
              exact ⟨_, rfl, Grow.refl _, rfl⟩
            refine StepsS.cons ?_ fun v7 => ⟨_, _, by simp only [Act.put, List.setIfInBounds_toArray, List.set_cons_succ, List.set_cons_zero]; first | done | rfl, by simp only [List.nil_append, List.cons_append]; first | done | rfl, ?_⟩
            · intro w1 hE hd
              obtain rfl := IsV.eq (dep_at hd 0 rfl rfl rfl)
              clear hd
              have p0 := hE.drew.at m0
              have p1 := hE.drew.at m1
              go_wp2
              exact ⟨_, rfl, Grow.refl _, rfl⟩
            refine StepsS.cons ?_ fun v8 => ⟨_, _, by simp only [Act.put, List.setIfInBounds_toArray, List.set_cons_succ, List.set_cons_zero]; first | done | rfl, by simp only [List.nil_append, List.cons_append]; first | done | rfl, ?_⟩
            · intro w1 hE hd
              obtain rfl := IsV.eq (dep_at hd 0 rfl rfl rfl)
              obtain rfl := IsV.eq (dep_at hd 1 rfl rfl rfl)
              clear hd
              go_wp2_with fail
              refine (HWr _ hE.drew).mono ?_
              rintro e w4 ⟨rfl, hg4⟩
              go_wp2_with fail
              exact ⟨_, rfl, hg4, rfl⟩
            refine StepsS.cons ?_ fun v9 => ⟨_, _, by simp only [Act.put, List.setIfInBounds_toArray, List.set_cons_succ, List.set_cons_zero]; first | done | rfl, by simp only [List.nil_append, List.cons_append]; first | done | rfl, ?_⟩
            · intro w1 hE hd
              obtain rfl := IsV.eq (dep_at hd 0 rfl rfl rfl)
              obtain rfl := IsV.eq (dep_at hd 1 rfl rfl rfl)
              clear hd
              go_wp2
              exact ⟨_, rfl, Grow.refl _, rfl⟩
            refine StepsS.cons ?_ fun v10 => ⟨_, _, by simp only [Act.put, List.setIfInBounds_toArray, List.set_cons_succ, List.set_cons_zero]; first | done | rfl, by simp only [List.nil_append, List.cons_append]; first | done | rfl, ?_⟩
            · intro w1 hE hd
              obtain rfl := IsV.eq (dep_at hd 0 rfl rfl rfl)
              obtain rfl := IsV.eq (dep_at hd 1 rfl rfl rfl)
              clear hd
              go_wp2
              exact ⟨_, rfl, Grow.refl _, rfl⟩
            trivial
          intro w4 hw4
          refine FinS.cons ?_; rintro _ rfl; refine ⟨_, by simp only [Act.put, List.setIfInBounds_toArray, List.set_cons_succ, List.set_cons_zero]; first | done | rfl, ?_⟩
          refine FinS.cons ?_; rintro _ rfl; refine ⟨_, by simp only [Act.put, List.setIfInBounds_toArray, List.set_cons_succ, List.set_cons_zero]; first | done | rfl, ?_⟩
          refine FinS.cons ?_; rintro _ rfl; refine ⟨_, by simp only [Act.put, List.setIfInBounds_toArray, List.set_cons_succ, List.set_cons_zero]; first | done | rfl, ?_⟩
          refine FinS.cons ?_; rintro _ rfl; refine ⟨_, by simp only [Act.put, List.setIfInBounds_toArray, List.set_cons_succ, List.set_cons_zero]; first | done | rfl, ?_⟩
          refine FinS.cons ?_; rintro _ rfl; refine ⟨_, by simp only [Act.put, List.setIfInBounds_toArray, List.set_cons_succ, List.set_cons_zero]; first | done | rfl, ?_⟩
          refine FinS.cons ?_; rintro _ rfl; refine ⟨_, by simp only [Act.put, List.setIfInBounds_toArray, List.set_cons_succ, List.set_cons_zero]; first | done | rfl, ?_⟩
          refine FinS.cons ?_; rintro _ rfl; refine ⟨_, by simp only [Act.put, List.setIfInBounds_toArray, List.set_cons_succ, List.set_cons_zero]; first | done | rfl, ?_⟩
          refine FinS.cons ?_; rintro _ rfl; refine ⟨_, by simp only [Act.put, List.setIfInBounds_toArray, List.set_cons_succ, List.set_cons_zero]; first | done | rfl, ?_⟩
          refine FinS.cons ?_; rintro _ rfl; refine ⟨_, by simp only [Act.put, List.setIfInBounds_toArray, List.set_cons_succ, List.set_cons_zero]; first | done | rfl, ?_⟩
          refine FinS.cons ?_; rintro _ rfl; refine ⟨_, by simp only [Act.put, List.setIfInBounds_toArray, List.set_cons_succ, List.set_cons_zero]; first | done | rfl, ?_⟩
          refine FinS.cons ?_; rintro _ rfl; refine ⟨_, by simp only [Act.put, List.setIfInBounds_toArray, List.set_cons_succ, List.set_cons_zero]; first | done | rfl, ?_⟩
          first | show Exit.then _ _ _ _ _ | show Exit.inBlock _ _ _ _ _
          have hgf := hgw3.trans hw4.drew
          clear HWr hgstep HAg HST3 HV3 HBx3 HB3 j0 j1 m0 m1 Hno Hyes Hgb nb nbd
          have hWk := mayWalk_any _ l w4 (HL.out.1.grow (hg0.trans hgf)) HL.out.2
          rw [HKN.out] at hWk
          go_wp2_with fail
          refine hWk.mono ?_
          rintro e w6 ⟨rfl, hg6⟩
          clear hWk
          have hgf6 := hgf.trans hg6
          have hRb := refRight_any (.slice bv1 bv2 bv3) ls w6 (Bss.grow HB.out (hg0.trans hgf6))
          by_cases hr : rightBlocksB ls = true
          · rw [hr] at hRb
            have HB6 : Hid (Bss w6 (.slice bv1 bv2 bv3) ls ∧ rightBlocksB ls = true) := ⟨Bss.grow HB.out (hg0.trans hgf6), hr⟩
            have HS6 : Hid (StepC w6 b0 0 XX (.slice d1 d2 d3)) := HS.out.grow hgf6
            go_wp2_with fail
            refine hRb.mono ?_
            rintro e w6' ⟨rfl, hw⟩
            have hw := hw.symm
            subst hw
            clear hRb hr hg6 hgf
            obtain ⟨Y, hY⟩ : ∃ Y, listsL ls XX = Y := ⟨_, rfl⟩
            have HY : Hid (listsL ls XX = Y) := hY
            clear hY
            go_wp2
            refine wp_region_stable Grow [IsV (.slice bv1 bv2 bv3), IsV (.agg #[.int .i64 XX.k, .int .i64 XX.n, .int .i64 XX.m, .int .i64 XX.d.k, .int .i64 XX.d.n, .int .i64 XX.d.m, .slice d1 d2 d3]), DksP Y, IsV (.slice bv1 bv2 bv3), IsV (.agg #[.int .i64 XX.k, .int .i64 XX.n, .int .i64 XX.m, .int .i64 XX.d.k, .int .i64 XX.d.n, .int .i64 XX.d.m, .slice d1 d2 d3]), DksP Y, DksP Y, DksP Y] (by kernel_rfl) (by kernel_rfl) rfl Grow.refl (fun _ _ _ => Grow.trans) ?_ ?_ ?_
            · repeat (refine List.forall_mem_cons.2 ⟨by first | exact IsV.stable _ | exact DksP.stable _, ?_⟩)
              exact fun R hR => nomatch hR
            · skip
              refine StepsS.cons ?_ fun v0 => ⟨_, _, by simp only [Act.put, List.setIfInBounds_toArray, List.set_cons_succ, List.set_cons_zero]; first | done | rfl, by simp only [List.nil_append]; first | done | rfl, ?_⟩
              · intro w1 hE hd
                clear hd
                go_wp2
                exact ⟨_, rfl, Grow.refl _, rfl⟩
              refine StepsS.cons ?_ fun v1 => ⟨_, _, by simp only [Act.put, List.setIfInBounds_toArray, List.set_cons_succ, List.set_cons_zero]; first | done | rfl, by simp only [List.nil_append, List.cons_append]; first | done | rfl, ?_⟩
              · intro w1 hE hd
                clear hd
                obtain ⟨s0, s1, s2, s3, s4, s5, s6, -, -⟩ := HS6.out.grow hE.drew
                go_wp2
                exact ⟨_, rfl, Grow.refl _, rfl⟩
              refine StepsS.cons ?_ fun v2 => ⟨_, _, by simp only [Act.put, List.setIfInBounds_toArray, List.set_cons_succ, List.set_cons_zero]; first | done | rfl, by simp only [List.nil_append, List.cons_append]; first | done | rfl, ?_⟩
              · intro w1 hE hd
                obtain rfl := IsV.eq (dep_at hd 0 rfl rfl rfl)
                obtain rfl := IsV.eq (dep_at hd 1 rfl rfl rfl)
                clear hd
                have hcl := HS6.out.grow hE.drew
                have hcs := mayLists_any (.slice bv1 bv2 bv3) (.agg #[.int .i64 XX.k, .int .i64 XX.n, .int .i64 XX.m, .int .i64 XX.d.k, .int .i64 XX.d.n, .int .i64 XX.d.m, .slice d1 d2 d3]) ls XX _ (Bss.grow HB6.out.1 hE.drew) HB6.out.2 ⟨_, rfl, hcl.2.2.2.2.2.2.2.1, hcl.2.2.2.2.2.2.2.2⟩
                rw [HY.out] at hcs
                clear hcl
                go_wp2_with fail
                refine hcs.mono ?_
                rintro e w9 ⟨r', rfl, hr', hg9⟩
                go_wp2_with fail
                exact ⟨_, rfl, hg9, hr'⟩
              refine StepsS.cons ?_ fun v3 => ⟨_, _, by simp only [Act.put, List.setIfInBounds_toArray, List.set_cons_succ, List.set_cons_zero]; first | done | rfl, by simp only [List.nil_append, List.cons_append]; first | done | rfl, ?_⟩
              · intro w1 hE hd
                clear hd
                go_wp2
                exact ⟨_, rfl, Grow.refl _, rfl⟩
              refine StepsS.cons ?_ fun v4 => ⟨_, _, by simp only [Act.put, List.setIfInBounds_toArray, List.set_cons_succ, List.set_cons_zero]; first | done | rfl, by simp only [List.nil_append, List.cons_append]; first | done | rfl, ?_⟩
              · intro w1 hE hd
                clear hd
                obtain ⟨s0, s1, s2, s3, s4, s5, s6, -, -⟩ := HS6.out.grow hE.drew
                go_wp2
                exact ⟨_, rfl, Grow.refl _, rfl⟩
              refine StepsS.cons ?_ fun v5 => ⟨_, _, by simp only [Act.put, List.setIfInBounds_toArray, List.set_cons_succ, List.set_cons_zero]; first | done | rfl, by simp only [List.nil_append, List.cons_append]; first | done | rfl, ?_⟩
              · intro w1 hE hd
                obtain rfl := IsV.eq (dep_at hd 0 rfl rfl rfl)
                obtain rfl := IsV.eq (dep_at hd 1 rfl rfl rfl)
                clear hd
                have hcl := HS6.out.grow hE.drew
                have hcs := refLists_any (.slice bv1 bv2 bv3) (.agg #[.int .i64 XX.k, .int .i64 XX.n, .int .i64 XX.m, .int .i64 XX.d.k, .int .i64 XX.d.n, .int .i64 XX.d.m, .slice d1 d2 d3]) ls XX _ (Bss.grow HB6.out.1 hE.drew) (right_nine' HB6.out.2) ⟨_, rfl, hcl.2.2.2.2.2.2.2.1, hcl.2.2.2.2.2.2.2.2⟩
                rw [HY.out] at hcs
                clear hcl
                go_wp2_with fail
                refine hcs.mono ?_
                rintro e w9 ⟨r', rfl, hr', hg9⟩
                go_wp2_with fail
                exact ⟨_, rfl, hg9, hr'⟩
              refine StepsS.cons ?_ fun v6 => ⟨_, _, by simp only [Act.put, List.setIfInBounds_toArray, List.set_cons_succ, List.set_cons_zero]; first | done | rfl, by simp only [List.nil_append, List.cons_append]; first | done | rfl, ?_⟩
              · intro w1 hE hd
                have d2 := dep_at hd 0 rfl rfl rfl
                clear hd
                go_wp2
                exact ⟨_, rfl, Grow.refl _, d2⟩
              refine StepsS.cons ?_ fun v7 => ⟨_, _, by simp only [Act.put, List.setIfInBounds_toArray, List.set_cons_succ, List.set_cons_zero]; first | done | rfl, by simp only [List.nil_append, List.cons_append]; first | done | rfl, ?_⟩
              · intro w1 hE hd
                have d5 := dep_at hd 0 rfl rfl rfl
                clear hd
                go_wp2
                exact ⟨_, rfl, Grow.refl _, d5⟩
              trivial
            intro w7 hw7
            refine FinS.cons ?_; rintro _ rfl; refine ⟨_, by simp only [Act.put, List.setIfInBounds_toArray, List.set_cons_succ, List.set_cons_zero]; first | done | rfl, ?_⟩
            refine FinS.cons ?_; rintro _ rfl; refine ⟨_, by simp only [Act.put, List.setIfInBounds_toArray, List.set_cons_succ, List.set_cons_zero]; first | done | rfl, ?_⟩
            refine FinS.cons fun v2 h2 => ⟨_, by simp only [Act.put, List.setIfInBounds_toArray, List.set_cons_succ, List.set_cons_zero]; first | done | rfl, ?_⟩
            refine FinS.cons ?_; rintro _ rfl; refine ⟨_, by simp only [Act.put, List.setIfInBounds_toArray, List.set_cons_succ, List.set_cons_zero]; first | done | rfl, ?_⟩
            refine FinS.cons ?_; rintro _ rfl; refine ⟨_, by simp only [Act.put, List.setIfInBounds_toArray, List.set_cons_succ, List.set_cons_zero]; first | done | rfl, ?_⟩
            refine FinS.cons fun v5 h5 => ⟨_, by simp only [Act.put, List.setIfInBounds_toArray, List.set_cons_succ, List.set_cons_zero]; first | done | rfl, ?_⟩
            refine FinS.cons fun v6 h6 => ⟨_, by simp only [Act.put, List.setIfInBounds_toArray, List.set_cons_succ, List.set_cons_zero]; first | done | rfl, ?_⟩
            refine FinS.cons fun v7 h7 => ⟨_, by simp only [Act.put, List.setIfInBounds_toArray, List.set_cons_succ, List.set_cons_zero]; first | done | rfl, ?_⟩
            first | show Exit.then _ _ _ _ _ | show Exit.inBlock _ _ _ _ _
            have hgf7 := hgf6.trans hw7.drew
            have HD1 : Hid (Dks w7 v6 Y) := h6
            have HD2 : Hid (Dks w7 v7 Y) := h7
            obtain ⟨p1, p2, rfl⟩ := HD1.out.form
            obtain ⟨q1, q2, rfl⟩ := HD2.out.form
            have HYl : Hid (Y.length ≤ 9223372036854775807) := by
              obtain ⟨_, _, _, t1, t2, _⟩ := HD1.out
              unfold maxLen at t2
              rw [Hid]
              omega
            clear h2 h5 h6 h7 hw7 HS6 HB6 hgf6
            obtain ⟨L, hL⟩ : ∃ L, Y.length = L := ⟨_, rfl⟩
            have HLL : Hid (Y.length = L) := hL
            rw [hL] at HD1 HD2 HYl ⊢
            clear hL
            have hLm := HYl.out
            go_wp2
            go_loopw [68] (fun i wr => ∃ m : Nat, m ≤ L ∧ i = .int .i64 m ∧ Grow w7 wr) (fun i _ => L - (intOf i).toNat)
            case atStart => exact ⟨0, by omega, rfl, Grow.refl _⟩
            case round =>
              obtain ⟨m, hm, rfl, hg7r⟩ := hrel
              by_cases hml : m < L
              · have HE1 := HD1.out.elems (k := m) (by rw [HLL.out]; exact hml)
                have HE2 := HD2.out.elems (k := m) (by rw [HLL.out]; exact hml)
                obtain ⟨be, oe, a', c', rfl, hc1, hs1⟩ := HE1
                obtain ⟨bf, of, a'', c'', rfl, hc2, hs2⟩ := HE2
                generalize Y.getD m [] = B at *
                have hc1' := hg7r.at hc1
                have hc2' := hg7r.at hc2
                have HSS : Hid (Bss wr (.slice a' B.length c') B ∧ Bss wr (.slice a'' B.length c'') B) := ⟨Bss.grow hs1 hg7r, Bss.grow hs2 hg7r⟩
                have hmi : (m : Int) < (L : Int) := by omega
                clear hc1 hc2 hs1 hs2
                generalize B.length = BL at *
                go_wp2
                refine wp_region_stable Grow [IsV (.slice (some ⟨be, oe, none⟩) L p2), IsV (.int .i64 m), IsV (.pointer (some ⟨be, oe + m, none⟩)), IsV (.slice a' BL c'), IsV (.slice (some ⟨bf, of, none⟩) L q2), IsV (.int .i64 m), IsV (.pointer (some ⟨bf, of + m, none⟩)), IsV (.slice a'' BL c''), IsV (.bool true), IsV (.bool false)] (by kernel_rfl) (by kernel_rfl) rfl Grow.refl (fun _ _ _ => Grow.trans) ?_ ?_ ?_
                · repeat (refine List.forall_mem_cons.2 ⟨by first | exact IsV.stable _, ?_⟩)
                  exact fun R hR => nomatch hR
                · skip
                  refine StepsS.cons ?_ fun v0 => ⟨_, _, by simp only [Act.put, List.setIfInBounds_toArray, List.set_cons_succ, List.set_cons_zero]; first | done | rfl, by simp only [List.nil_append]; first | done | rfl, ?_⟩
                  · intro w1 hE hd
                    clear hd
                    go_wp2
                    exact ⟨_, rfl, Grow.refl _, rfl⟩
                  refine StepsS.cons ?_ fun v1 => ⟨_, _, by simp only [Act.put, List.setIfInBounds_toArray, List.set_cons_succ, List.set_cons_zero]; first | done | rfl, by simp only [List.nil_append, List.cons_append]; first | done | rfl, ?_⟩
                  · intro w1 hE hd
                    clear hd
                    go_wp2
                    exact ⟨_, rfl, Grow.refl _, rfl⟩
                  refine StepsS.cons ?_ fun v2 => ⟨_, _, by simp only [Act.put, List.setIfInBounds_toArray, List.set_cons_succ, List.set_cons_zero]; first | done | rfl, by simp only [List.nil_append, List.cons_append]; first | done | rfl, ?_⟩
                  · intro w1 hE hd
                    obtain rfl := IsV.eq (dep_at hd 0 rfl rfl rfl)
                    obtain rfl := IsV.eq (dep_at hd 1 rfl rfl rfl)
                    clear hd
                    go_wp2
                    exact ⟨_, rfl, Grow.refl _, rfl⟩
                  refine StepsS.cons ?_ fun v3 => ⟨_, _, by simp only [Act.put, List.setIfInBounds_toArray, List.set_cons_succ, List.set_cons_zero]; first | done | rfl, by simp only [List.nil_append, List.cons_append]; first | done | rfl, ?_⟩
                  · intro w1 hE hd
                    obtain rfl := IsV.eq (dep_at hd 0 rfl rfl rfl)
                    clear hd
                    have qq := hE.drew.at hc1'
                    go_wp2
                    exact ⟨_, rfl, Grow.refl _, rfl⟩
                  refine StepsS.cons ?_ fun v4 => ⟨_, _, by simp only [Act.put, List.setIfInBounds_toArray, List.set_cons_succ, List.set_cons_zero]; first | done | rfl, by simp only [List.nil_append, List.cons_append]; first | done | rfl, ?_⟩
                  · intro w1 hE hd
                    clear hd
                    go_wp2
                    exact ⟨_, rfl, Grow.refl _, rfl⟩
                  refine StepsS.cons ?_ fun v5 => ⟨_, _, by simp only [Act.put, List.setIfInBounds_toArray, List.set_cons_succ, List.set_cons_zero]; first | done | rfl, by simp only [List.nil_append, List.cons_append]; first | done | rfl, ?_⟩
                  · intro w1 hE hd
                    clear hd
                    go_wp2
                    exact ⟨_, rfl, Grow.refl _, rfl⟩
                  refine StepsS.cons ?_ fun v6 => ⟨_, _, by simp only [Act.put, List.setIfInBounds_toArray, List.set_cons_succ, List.set_cons_zero]; first | done | rfl, by simp only [List.nil_append, List.cons_append]; first | done | rfl, ?_⟩
                  · intro w1 hE hd
                    obtain rfl := IsV.eq (dep_at hd 0 rfl rfl rfl)
                    obtain rfl := IsV.eq (dep_at hd 1 rfl rfl rfl)
                    clear hd
                    go_wp2
                    exact ⟨_, rfl, Grow.refl _, rfl⟩
                  refine StepsS.cons ?_ fun v7 => ⟨_, _, by simp only [Act.put, List.setIfInBounds_toArray, List.set_cons_succ, List.set_cons_zero]; first | done | rfl, by simp only [List.nil_append, List.cons_append]; first | done | rfl, ?_⟩
                  · intro w1 hE hd
                    obtain rfl := IsV.eq (dep_at hd 0 rfl rfl rfl)
                    clear hd
                    have qq := hE.drew.at hc2'
                    go_wp2
                    exact ⟨_, rfl, Grow.refl _, rfl⟩
                  refine StepsS.cons ?_ fun v8 => ⟨_, _, by simp only [Act.put, List.setIfInBounds_toArray, List.set_cons_succ, List.set_cons_zero]; first | done | rfl, by simp only [List.nil_append, List.cons_append]; first | done | rfl, ?_⟩
                  · intro w1 hE hd
                    obtain rfl := IsV.eq (dep_at hd 0 rfl rfl rfl)
                    obtain rfl := IsV.eq (dep_at hd 1 rfl rfl rfl)
                    clear hd
                    go_wp2_with fail
                    refine (refSame_self _ _ B _ (Bss.grow HSS.out.1 hE.drew) (Bss.grow HSS.out.2 hE.drew)).mono ?_
                    rintro e w4 ⟨rfl, hg4⟩
                    go_wp2_with fail
                    exact ⟨_, rfl, hg4, rfl⟩
                  refine StepsS.cons ?_ fun v9 => ⟨_, _, by simp only [Act.put, List.setIfInBounds_toArray, List.set_cons_succ, List.set_cons_zero]; first | done | rfl, by simp only [List.nil_append, List.cons_append]; first | done | rfl, ?_⟩
                  · intro w1 hE hd
                    obtain rfl := IsV.eq (dep_at hd 0 rfl rfl rfl)
                    clear hd
                    go_wp2
                    exact ⟨_, rfl, Grow.refl _, rfl⟩
                  trivial
                intro wR hwR
                refine FinS.cons ?_; rintro _ rfl; refine ⟨_, by simp only [Act.put, List.setIfInBounds_toArray, List.set_cons_succ, List.set_cons_zero]; first | done | rfl, ?_⟩
                refine FinS.cons ?_; rintro _ rfl; refine ⟨_, by simp only [Act.put, List.setIfInBounds_toArray, List.set_cons_succ, List.set_cons_zero]; first | done | rfl, ?_⟩
                refine FinS.cons ?_; rintro _ rfl; refine ⟨_, by simp only [Act.put, List.setIfInBounds_toArray, List.set_cons_succ, List.set_cons_zero]; first | done | rfl, ?_⟩
                refine FinS.cons ?_; rintro _ rfl; refine ⟨_, by simp only [Act.put, List.setIfInBounds_toArray, List.set_cons_succ, List.set_cons_zero]; first | done | rfl, ?_⟩
                refine FinS.cons ?_; rintro _ rfl; refine ⟨_, by simp only [Act.put, List.setIfInBounds_toArray, List.set_cons_succ, List.set_cons_zero]; first | done | rfl, ?_⟩
                refine FinS.cons ?_; rintro _ rfl; refine ⟨_, by simp only [Act.put, List.setIfInBounds_toArray, List.set_cons_succ, List.set_cons_zero]; first | done | rfl, ?_⟩
                refine FinS.cons ?_; rintro _ rfl; refine ⟨_, by simp only [Act.put, List.setIfInBounds_toArray, List.set_cons_succ, List.set_cons_zero]; first | done | rfl, ?_⟩
                refine FinS.cons ?_; rintro _ rfl; refine ⟨_, by simp only [Act.put, List.setIfInBounds_toArray, List.set_cons_succ, List.set_cons_zero]; first | done | rfl, ?_⟩
                refine FinS.cons ?_; rintro _ rfl; refine ⟨_, by simp only [Act.put, List.setIfInBounds_toArray, List.set_cons_succ, List.set_cons_zero]; first | done | rfl, ?_⟩
                refine FinS.cons ?_; rintro _ rfl; refine ⟨_, by simp only [Act.put, List.setIfInBounds_toArray, List.set_cons_succ, List.set_cons_zero]; first | done | rfl, ?_⟩
                first | show Exit.then _ _ _ _ _ | show Exit.inBlock _ _ _ _ _
                have hgR := hg7r.trans hwR.drew
                go_wp2
                go_roundw
                case rel => first | exact ⟨m + 1, by omega, by go_num, hgR⟩ | ((repeat apply Exists.intro); exact ⟨⟨m + 1, by omega, by go_num, hgR⟩, rfl⟩)
                case measure => simp [intOf]; omega
              · have hno' : ¬ ((m : Int) < (L : Int)) := by omega
                clear HD1 HD2 HLL HYl
                go_wp2
                go_ret
                exact ⟨rfl, hg0.trans (hgf7.trans hg7r)⟩
          · have hr' : rightBlocksB ls = false := by simpa using hr
            rw [hr'] at hRb
            go_wp2_with fail
            refine hRb.mono ?_
            rintro e w6' ⟨rfl, hw⟩
            have hw := hw.symm
            subst hw
            go_wp2
            go_ret
            exact ⟨rfl, hg0.trans hgf6⟩
    · have hno : ¬ ((k : Int) < (l.length : Int)) := by omega
      have HKN : Hid (gentleN newP l = k) := by
        have := HN.out
        rw [List.drop_eq_nil_of_le (by omega)] at this
        rw [Hid, ← this]
        rfl
      have hgf := hgr
      clear HBx HV HN k0 k1
      have hWk := mayWalk_any _ l wr (HL.out.1.grow (hg0.trans hgf)) HL.out.2
      rw [HKN.out] at hWk
      go_wp2_with fail
      refine hWk.mono ?_
      rintro e w6 ⟨rfl, hg6⟩
      clear hWk
      have hgf6 := hgf.trans hg6
      have hRb := refRight_any (.slice bv1 bv2 bv3) ls w6 (Bss.grow HB.out (hg0.trans hgf6))
      by_cases hr : rightBlocksB ls = true
      · rw [hr] at hRb
        have HB6 : Hid (Bss w6 (.slice bv1 bv2 bv3) ls ∧ rightBlocksB ls = true) := ⟨Bss.grow HB.out (hg0.trans hgf6), hr⟩
        have HS6 : Hid (StepC w6 b0 0 XX (.slice d1 d2 d3)) := HS.out.grow hgf6
        go_wp2_with fail
        refine hRb.mono ?_
        rintro e w6' ⟨rfl, hw⟩
        have hw := hw.symm
        subst hw
        clear hRb hr hg6 hgf
        obtain ⟨Y, hY⟩ : ∃ Y, listsL ls XX = Y := ⟨_, rfl⟩
        have HY : Hid (listsL ls XX = Y) := hY
        clear hY
        go_wp2
        refine wp_region_stable Grow [IsV (.slice bv1 bv2 bv3), IsV (.agg #[.int .i64 XX.k, .int .i64 XX.n, .int .i64 XX.m, .int .i64 XX.d.k, .int .i64 XX.d.n, .int .i64 XX.d.m, .slice d1 d2 d3]), DksP Y, IsV (.slice bv1 bv2 bv3), IsV (.agg #[.int .i64 XX.k, .int .i64 XX.n, .int .i64 XX.m, .int .i64 XX.d.k, .int .i64 XX.d.n, .int .i64 XX.d.m, .slice d1 d2 d3]), DksP Y, DksP Y, DksP Y] (by kernel_rfl) (by kernel_rfl) rfl Grow.refl (fun _ _ _ => Grow.trans) ?_ ?_ ?_
        · repeat (refine List.forall_mem_cons.2 ⟨by first | exact IsV.stable _ | exact DksP.stable _, ?_⟩)
          exact fun R hR => nomatch hR
        · skip
          refine StepsS.cons ?_ fun v0 => ⟨_, _, by simp only [Act.put, List.setIfInBounds_toArray, List.set_cons_succ, List.set_cons_zero]; first | done | rfl, by simp only [List.nil_append]; first | done | rfl, ?_⟩
          · intro w1 hE hd
            clear hd
            go_wp2
            exact ⟨_, rfl, Grow.refl _, rfl⟩
          refine StepsS.cons ?_ fun v1 => ⟨_, _, by simp only [Act.put, List.setIfInBounds_toArray, List.set_cons_succ, List.set_cons_zero]; first | done | rfl, by simp only [List.nil_append, List.cons_append]; first | done | rfl, ?_⟩
          · intro w1 hE hd
            clear hd
            obtain ⟨s0, s1, s2, s3, s4, s5, s6, -, -⟩ := HS6.out.grow hE.drew
            go_wp2
            exact ⟨_, rfl, Grow.refl _, rfl⟩
          refine StepsS.cons ?_ fun v2 => ⟨_, _, by simp only [Act.put, List.setIfInBounds_toArray, List.set_cons_succ, List.set_cons_zero]; first | done | rfl, by simp only [List.nil_append, List.cons_append]; first | done | rfl, ?_⟩
          · intro w1 hE hd
            obtain rfl := IsV.eq (dep_at hd 0 rfl rfl rfl)
            obtain rfl := IsV.eq (dep_at hd 1 rfl rfl rfl)
            clear hd
            have hcl := HS6.out.grow hE.drew
            have hcs := mayLists_any (.slice bv1 bv2 bv3) (.agg #[.int .i64 XX.k, .int .i64 XX.n, .int .i64 XX.m, .int .i64 XX.d.k, .int .i64 XX.d.n, .int .i64 XX.d.m, .slice d1 d2 d3]) ls XX _ (Bss.grow HB6.out.1 hE.drew) HB6.out.2 ⟨_, rfl, hcl.2.2.2.2.2.2.2.1, hcl.2.2.2.2.2.2.2.2⟩
            rw [HY.out] at hcs
            clear hcl
            go_wp2_with fail
            refine hcs.mono ?_
            rintro e w9 ⟨r', rfl, hr', hg9⟩
            go_wp2_with fail
            exact ⟨_, rfl, hg9, hr'⟩
          refine StepsS.cons ?_ fun v3 => ⟨_, _, by simp only [Act.put, List.setIfInBounds_toArray, List.set_cons_succ, List.set_cons_zero]; first | done | rfl, by simp only [List.nil_append, List.cons_append]; first | done | rfl, ?_⟩
          · intro w1 hE hd
            clear hd
            go_wp2
            exact ⟨_, rfl, Grow.refl _, rfl⟩
          refine StepsS.cons ?_ fun v4 => ⟨_, _, by simp only [Act.put, List.setIfInBounds_toArray, List.set_cons_succ, List.set_cons_zero]; first | done | rfl, by simp only [List.nil_append, List.cons_append]; first | done | rfl, ?_⟩
          · intro w1 hE hd
            clear hd
            obtain ⟨s0, s1, s2, s3, s4, s5, s6, -, -⟩ := HS6.out.grow hE.drew
            go_wp2
            exact ⟨_, rfl, Grow.refl _, rfl⟩
          refine StepsS.cons ?_ fun v5 => ⟨_, _, by simp only [Act.put, List.setIfInBounds_toArray, List.set_cons_succ, List.set_cons_zero]; first | done | rfl, by simp only [List.nil_append, List.cons_append]; first | done | rfl, ?_⟩
          · intro w1 hE hd
            obtain rfl := IsV.eq (dep_at hd 0 rfl rfl rfl)
            obtain rfl := IsV.eq (dep_at hd 1 rfl rfl rfl)
            clear hd
            have hcl := HS6.out.grow hE.drew
            have hcs := refLists_any (.slice bv1 bv2 bv3) (.agg #[.int .i64 XX.k, .int .i64 XX.n, .int .i64 XX.m, .int .i64 XX.d.k, .int .i64 XX.d.n, .int .i64 XX.d.m, .slice d1 d2 d3]) ls XX _ (Bss.grow HB6.out.1 hE.drew) (right_nine' HB6.out.2) ⟨_, rfl, hcl.2.2.2.2.2.2.2.1, hcl.2.2.2.2.2.2.2.2⟩
            rw [HY.out] at hcs
            clear hcl
            go_wp2_with fail
            refine hcs.mono ?_
            rintro e w9 ⟨r', rfl, hr', hg9⟩
            go_wp2_with fail
            exact ⟨_, rfl, hg9, hr'⟩
          refine StepsS.cons ?_ fun v6 => ⟨_, _, by simp only [Act.put, List.setIfInBounds_toArray, List.set_cons_succ, List.set_cons_zero]; first | done | rfl, by simp only [List.nil_append, List.cons_append]; first | done | rfl, ?_⟩
          · intro w1 hE hd
            have d2 := dep_at hd 0 rfl rfl rfl
            clear hd
            go_wp2
            exact ⟨_, rfl, Grow.refl _, d2⟩
          refine StepsS.cons ?_ fun v7 => ⟨_, _, by simp only [Act.put, List.setIfInBounds_toArray, List.set_cons_succ, List.set_cons_zero]; first | done | rfl, by simp only [List.nil_append, List.cons_append]; first | done | rfl, ?_⟩
          · intro w1 hE hd
            have d5 := dep_at hd 0 rfl rfl rfl
            clear hd
            go_wp2
            exact ⟨_, rfl, Grow.refl _, d5⟩
          trivial
        intro w7 hw7
        refine FinS.cons ?_; rintro _ rfl; refine ⟨_, by simp only [Act.put, List.setIfInBounds_toArray, List.set_cons_succ, List.set_cons_zero]; first | done | rfl, ?_⟩
        refine FinS.cons ?_; rintro _ rfl; refine ⟨_, by simp only [Act.put, List.setIfInBounds_toArray, List.set_cons_succ, List.set_cons_zero]; first | done | rfl, ?_⟩
        refine FinS.cons fun v2 h2 => ⟨_, by simp only [Act.put, List.setIfInBounds_toArray, List.set_cons_succ, List.set_cons_zero]; first | done | rfl, ?_⟩
        refine FinS.cons ?_; rintro _ rfl; refine ⟨_, by simp only [Act.put, List.setIfInBounds_toArray, List.set_cons_succ, List.set_cons_zero]; first | done | rfl, ?_⟩
        refine FinS.cons ?_; rintro _ rfl; refine ⟨_, by simp only [Act.put, List.setIfInBounds_toArray, List.set_cons_succ, List.set_cons_zero]; first | done | rfl, ?_⟩
        refine FinS.cons fun v5 h5 => ⟨_, by simp only [Act.put, List.setIfInBounds_toArray, List.set_cons_succ, List.set_cons_zero]; first | done | rfl, ?_⟩
        refine FinS.cons fun v6 h6 => ⟨_, by simp only [Act.put, List.setIfInBounds_toArray, List.set_cons_succ, List.set_cons_zero]; first | done | rfl, ?_⟩
        refine FinS.cons fun v7 h7 => ⟨_, by simp only [Act.put, List.setIfInBounds_toArray, List.set_cons_succ, List.set_cons_zero]; first | done | rfl, ?_⟩
        first | show Exit.then _ _ _ _ _ | show Exit.inBlock _ _ _ _ _
        have hgf7 := hgf6.trans hw7.drew
        have HD1 : Hid (Dks w7 v6 Y) := h6
        have HD2 : Hid (Dks w7 v7 Y) := h7
        obtain ⟨p1, p2, rfl⟩ := HD1.out.form
        obtain ⟨q1, q2, rfl⟩ := HD2.out.form
        have HYl : Hid (Y.length ≤ 9223372036854775807) := by
          obtain ⟨_, _, _, t1, t2, _⟩ := HD1.out
          unfold maxLen at t2
          rw [Hid]
          omega
        clear h2 h5 h6 h7 hw7 HS6 HB6 hgf6
        obtain ⟨L, hL⟩ : ∃ L, Y.length = L := ⟨_, rfl⟩
        have HLL : Hid (Y.length = L) := hL
        rw [hL] at HD1 HD2 HYl ⊢
        clear hL
        have hLm := HYl.out
        go_wp2
        go_loopw [68] (fun i wr => ∃ m : Nat, m ≤ L ∧ i = .int .i64 m ∧ Grow w7 wr) (fun i _ => L - (intOf i).toNat)
        case atStart => exact ⟨0, by omega, rfl, Grow.refl _⟩
        case round =>
          obtain ⟨m, hm, rfl, hg7r⟩ := hrel
          by_cases hml : m < L
          · have HE1 := HD1.out.elems (k := m) (by rw [HLL.out]; exact hml)
            have HE2 := HD2.out.elems (k := m) (by rw [HLL.out]; exact hml)
            obtain ⟨be, oe, a', c', rfl, hc1, hs1⟩ := HE1
            obtain ⟨bf, of, a'', c'', rfl, hc2, hs2⟩ := HE2
            generalize Y.getD m [] = B at *
            have hc1' := hg7r.at hc1
            have hc2' := hg7r.at hc2
            have HSS : Hid (Bss wr (.slice a' B.length c') B ∧ Bss wr (.slice a'' B.length c'') B) := ⟨Bss.grow hs1 hg7r, Bss.grow hs2 hg7r⟩
            have hmi : (m : Int) < (L : Int) := by omega
            clear hc1 hc2 hs1 hs2
            generalize B.length = BL at *
            go_wp2
            refine wp_region_stable Grow [IsV (.slice (some ⟨be, oe, none⟩) L p2), IsV (.int .i64 m), IsV (.pointer (some ⟨be, oe + m, none⟩)), IsV (.slice a' BL c'), IsV (.slice (some ⟨bf, of, none⟩) L q2), IsV (.int .i64 m), IsV (.pointer (some ⟨bf, of + m, none⟩)), IsV (.slice a'' BL c''), IsV (.bool true), IsV (.bool false)] (by kernel_rfl) (by kernel_rfl) rfl Grow.refl (fun _ _ _ => Grow.trans) ?_ ?_ ?_
            · repeat (refine List.forall_mem_cons.2 ⟨by first | exact IsV.stable _, ?_⟩)
              exact fun R hR => nomatch hR
            · skip
              refine StepsS.cons ?_ fun v0 => ⟨_, _, by simp only [Act.put, List.setIfInBounds_toArray, List.set_cons_succ, List.set_cons_zero]; first | done | rfl, by simp only [List.nil_append]; first | done | rfl, ?_⟩
              · intro w1 hE hd
                clear hd
                go_wp2
                exact ⟨_, rfl, Grow.refl _, rfl⟩
              refine StepsS.cons ?_ fun v1 => ⟨_, _, by simp only [Act.put, List.setIfInBounds_toArray, List.set_cons_succ, List.set_cons_zero]; first | done | rfl, by simp only [List.nil_append, List.cons_append]; first | done | rfl, ?_⟩
              · intro w1 hE hd
                clear hd
                go_wp2
                exact ⟨_, rfl, Grow.refl _, rfl⟩
              refine StepsS.cons ?_ fun v2 => ⟨_, _, by simp only [Act.put, List.setIfInBounds_toArray, List.set_cons_succ, List.set_cons_zero]; first | done | rfl, by simp only [List.nil_append, List.cons_append]; first | done | rfl, ?_⟩
              · intro w1 hE hd
                obtain rfl := IsV.eq (dep_at hd 0 rfl rfl rfl)
                obtain rfl := IsV.eq (dep_at hd 1 rfl rfl rfl)
                clear hd
                go_wp2
                exact ⟨_, rfl, Grow.refl _, rfl⟩
              refine StepsS.cons ?_ fun v3 => ⟨_, _, by simp only [Act.put, List.setIfInBounds_toArray, List.set_cons_succ, List.set_cons_zero]; first | done | rfl, by simp only [List.nil_append, List.cons_append]; first | done | rfl, ?_⟩
              · intro w1 hE hd
                obtain rfl := IsV.eq (dep_at hd 0 rfl rfl rfl)
                clear hd
                have qq := hE.drew.at hc1'
                go_wp2
                exact ⟨_, rfl, Grow.refl _, rfl⟩
              refine StepsS.cons ?_ fun v4 => ⟨_, _, by simp only [Act.put, List.setIfInBounds_toArray, List.set_cons_succ, List.set_cons_zero]; first | done | rfl, by simp only [List.nil_append, List.cons_append]; first | done | rfl, ?_⟩
              · intro w1 hE hd
                clear hd
                go_wp2
                exact ⟨_, rfl, Grow.refl _, rfl⟩
              refine StepsS.cons ?_ fun v5 => ⟨_, _, by simp only [Act.put, List.setIfInBounds_toArray, List.set_cons_succ, List.set_cons_zero]; first | done | rfl, by simp only [List.nil_append, List.cons_append]; first | done | rfl, ?_⟩
              · intro w1 hE hd
                clear hd
                go_wp2
                exact ⟨_, rfl, Grow.refl _, rfl⟩
              refine StepsS.cons ?_ fun v6 => ⟨_, _, by simp only [Act.put, List.setIfInBounds_toArray, List.set_cons_succ, List.set_cons_zero]; first | done | rfl, by simp only [List.nil_append, List.cons_append]; first | done | rfl, ?_⟩
              · intro w1 hE hd
                obtain rfl := IsV.eq (dep_at hd 0 rfl rfl rfl)
                obtain rfl := IsV.eq (dep_at hd 1 rfl rfl rfl)
                clear hd
                go_wp2
                exact ⟨_, rfl, Grow.refl _, rfl⟩
              refine StepsS.cons ?_ fun v7 => ⟨_, _, by simp only [Act.put, List.setIfInBounds_toArray, List.set_cons_succ, List.set_cons_zero]; first | done | rfl, by simp only [List.nil_append, List.cons_append]; first | done | rfl, ?_⟩
              · intro w1 hE hd
                obtain rfl := IsV.eq (dep_at hd 0 rfl rfl rfl)
                clear hd
                have qq := hE.drew.at hc2'
                go_wp2
                exact ⟨_, rfl, Grow.refl _, rfl⟩
              refine StepsS.cons ?_ fun v8 => ⟨_, _, by simp only [Act.put, List.setIfInBounds_toArray, List.set_cons_succ, List.set_cons_zero]; first | done | rfl, by simp only [List.nil_append, List.cons_append]; first | done | rfl, ?_⟩
              · intro w1 hE hd
                obtain rfl := IsV.eq (dep_at hd 0 rfl rfl rfl)
                obtain rfl := IsV.eq (dep_at hd 1 rfl rfl rfl)
                clear hd
                go_wp2_with fail
                refine (refSame_self _ _ B _ (Bss.grow HSS.out.1 hE.drew) (Bss.grow HSS.out.2 hE.drew)).mono ?_
                rintro e w4 ⟨rfl, hg4⟩
                go_wp2_with fail
                exact ⟨_, rfl, hg4, rfl⟩
              refine StepsS.cons ?_ fun v9 => ⟨_, _, by simp only [Act.put, List.setIfInBounds_toArray, List.set_cons_succ, List.set_cons_zero]; first | done | rfl, by simp only [List.nil_append, List.cons_append]; first | done | rfl, ?_⟩
              · intro w1 hE hd
                obtain rfl := IsV.eq (dep_at hd 0 rfl rfl rfl)
                clear hd
                go_wp2
                exact ⟨_, rfl, Grow.refl _, rfl⟩
              trivial
            intro wR hwR
            refine FinS.cons ?_; rintro _ rfl; refine ⟨_, by simp only [Act.put, List.setIfInBounds_toArray, List.set_cons_succ, List.set_cons_zero]; first | done | rfl, ?_⟩
            refine FinS.cons ?_; rintro _ rfl; refine ⟨_, by simp only [Act.put, List.setIfInBounds_toArray, List.set_cons_succ, List.set_cons_zero]; first | done | rfl, ?_⟩
            refine FinS.cons ?_; rintro _ rfl; refine ⟨_, by simp only [Act.put, List.setIfInBounds_toArray, List.set_cons_succ, List.set_cons_zero]; first | done | rfl, ?_⟩
            refine FinS.cons ?_; rintro _ rfl; refine ⟨_, by simp only [Act.put, List.setIfInBounds_toArray, List.set_cons_succ, List.set_cons_zero]; first | done | rfl, ?_⟩
            refine FinS.cons ?_; rintro _ rfl; refine ⟨_, by simp only [Act.put, List.setIfInBounds_toArray, List.set_cons_succ, List.set_cons_zero]; first | done | rfl, ?_⟩
            refine FinS.cons ?_; rintro _ rfl; refine ⟨_, by simp only [Act.put, List.setIfInBounds_toArray, List.set_cons_succ, List.set_cons_zero]; first | done | rfl, ?_⟩
            refine FinS.cons ?_; rintro _ rfl; refine ⟨_, by simp only [Act.put, List.setIfInBounds_toArray, List.set_cons_succ, List.set_cons_zero]; first | done | rfl, ?_⟩
            refine FinS.cons ?_; rintro _ rfl; refine ⟨_, by simp only [Act.put, List.setIfInBounds_toArray, List.set_cons_succ, List.set_cons_zero]; first | done | rfl, ?_⟩
            refine FinS.cons ?_; rintro _ rfl; refine ⟨_, by simp only [Act.put, List.setIfInBounds_toArray, List.set_cons_succ, List.set_cons_zero]; first | done | rfl, ?_⟩
            refine FinS.cons ?_; rintro _ rfl; refine ⟨_, by simp only [Act.put, List.setIfInBounds_toArray, List.set_cons_succ, List.set_cons_zero]; first | done | rfl, ?_⟩
            first | show Exit.then _ _ _ _ _ | show Exit.inBlock _ _ _ _ _
            have hgR := hg7r.trans hwR.drew
            go_wp2
            go_roundw
            case rel => first | exact ⟨m + 1, by omega, by go_num, hgR⟩ | ((repeat apply Exists.intro); exact ⟨⟨m + 1, by omega, by go_num, hgR⟩, rfl⟩)
            case measure => simp [intOf]; omega
          · have hno' : ¬ ((m : Int) < (L : Int)) := by omega
            clear HD1 HD2 HLL HYl
            go_wp2
            go_ret
            exact ⟨rfl, hg0.trans (hgf7.trans hg7r)⟩
      · have hr' : rightBlocksB ls = false := by simpa using hr
        rw [hr'] at hRb
        go_wp2_with fail
        refine hRb.mono ?_
        rintro e w6' ⟨rfl, hw⟩
        have hw := hw.symm
        subst hw
        go_wp2
        go_ret
        exact ⟨rfl, hg0.trans hgf6⟩

end Go.Proofs.Ytjggiameajndgac
