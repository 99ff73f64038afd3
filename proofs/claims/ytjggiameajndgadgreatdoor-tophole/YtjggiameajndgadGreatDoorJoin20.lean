import Derived.Test.YtjggiameajndgadGreatDoorJoin19
/-
  mhtop.TopHole returns true, whatever it is handed; nothing old turns.
-/
namespace Go.Proofs.YtjggiameajndgadGreatDoor
open Go.RowKit

/-- A deed's cells in a box. -/
def DeedC (w : World) (b : Nat) (x : DeedP) (dv : Value) : Prop :=
  w.cell? ⟨b, 0, none⟩ = some (.int .i64 x.k) ∧ w.cell? ⟨b, 1, none⟩ = some (.int .i64 x.n) ∧ w.cell? ⟨b, 2, none⟩ = some (.int .i64 x.m) ∧ w.cell? ⟨b, 3, none⟩ = some dv ∧ Bs w dv x.d
theorem DeedC.grow {w w' : World} {b : Nat} {x : DeedP} {dv : Value} (h : DeedC w b x dv) (hg : Grow w w') : DeedC w' b x dv := by
  obtain ⟨h0, h1, h2, h3, h4⟩ := h
  exact ⟨hg.at h0, hg.at h1, hg.at h2, hg.at h3, h4.grow hg⟩

/-- A deed in a box of its own. -/
theorem deedBox {w : World} {x : DeedP} {d1 : Option Addr} {d2 d3 : Nat} (hb : Bs w (.slice d1 d2 d3) x.d) :
    ∃ W b, W = w.alloc (.cells #[.int .i64 x.k, .int .i64 x.n, .int .i64 x.m, .slice d1 d2 d3] 36) ∧ b = w.heap.size ∧ Grow w W ∧ Hid (DeedC W b x (.slice d1 d2 d3)) := by
  refine ⟨_, _, rfl, rfl, Grow.alloc _ _, ?_⟩
  have h := heap_alloc_new w (.cells #[.int .i64 x.k, .int .i64 x.n, .int .i64 x.m, .slice d1 d2 d3] 36)
  exact ⟨row_at h 0 rfl, row_at h 1 rfl, row_at h 2 rfl, row_at h 3 rfl, hb.grow (Grow.alloc _ _)⟩

theorem doFall_any (v dv : Value) (x : DeedP) (m : Int) (w : World) (h : ArrV w v fullA) (hb : Bs w dv x.d) (hm : m ≤ 9223372036854775807) (hp : planE fullA x = 0) :
    Calls Tryz.prog 9 #[v, .agg #[.int .i64 2, .int .i64 m, .int .i64 0, .int .i64 x.k, .int .i64 x.n, .int .i64 x.m, dv]] w fun e w' => ∃ r, e = .returned (.tuple #[r, .int .i64 0]) ∧ ArrV w' r (fallA fullA x m) ∧ Grow w w' := by
  have := playDo_any v (.agg #[.int .i64 2, .int .i64 m, .int .i64 0, .int .i64 x.k, .int .i64 x.n, .int .i64 x.m, dv]) fullA ⟨2, m, 0, x⟩ w h full_there.arr ⟨_, rfl, hb, hm⟩
  rw [show stepE fullA ⟨2, m, 0, x⟩ = 0 from hp, show stepA fullA ⟨2, m, 0, x⟩ = fallA fullA x m from rfl] at this
  exact this

set_option maxRecDepth 20000 in
set_option maxHeartbeats 12800000 in
theorem topHole_walk (v : Value) (x : DeedP) (m g : Int) (w : World) (hv : DeedV w v x) (hm : m ≤ 9223372036854775807) (hlaid : Laid w) :
    Calls Tryz.prog 5 #[v, .int .i64 m, .int .i64 g] w fun r w' => r = .returned (.bool true) ∧ Grow w w' := by
  obtain ⟨dv, rfl, hbd⟩ := hv
  obtain ⟨d1, d2, d3, rfl⟩ := hbd.form
  have hoct := hbd.octets
  obtain ⟨W0, b0, hW0, hb0, hg0, HS⟩ := deedBox hbd
  have hAl := topAlive_any W0 (hlaid.grow hg0)
  clear hbd
  go_enter Tryz.func5, Tryz.ntmps5
  go_wp2_with fail
  rw [← hW0, ← hb0]
  refine hAl.mono ?_
  rintro r w1 ⟨rfl, hg1⟩
  clear hAl hW0 hb0
  obtain ⟨s0, s1, s2, s3, s4⟩ := HS.out.grow hg1
  have hWr := modelWrong_any (.agg #[.int .i64 x.k, .int .i64 x.n, .int .i64 x.m, .slice d1 d2 d3]) x w1 ⟨_, rfl, s4⟩
  clear s4
  by_cases hw : wrongE x = 0
  · rw [hw] at hWr
    go_wp2_with fail
    refine hWr.mono ?_
    rintro r w2 ⟨rfl, hg2⟩
    clear hWr s0 s1 s2 s3
    have hg02 := (hg0.trans hg1).trans hg2
    have HS2 : Hid (DeedC w2 b0 x (.slice d1 d2 d3)) := HS.out.grow (hg1.trans hg2)
    clear hg1 hg2 hg0 HS
    by_cases hbad : g < 0 ∨ 4 ≤ g
    · have hcase : g < 0 ∨ (¬ g < 0 ∧ 4 ≤ g) := by omega
      clear hbad hlaid
      rcases hcase with h1 | ⟨h1, h2⟩
      all_goals
        go_wp2
        go_ret
        exact ⟨rfl, hg02⟩
    · have c1 : ¬ g < 0 := by omega
      have c2 : ¬ 4 ≤ g := by omega
      have hg3 : 0 ≤ g ∧ g ≤ 3 := by omega
      have HP : Hid (planE fullA x = 0 ∧ blkE (goneL (fallA fullA x m) g) = 0 ∧ (blkL (goneL (fallA fullA x m) g) = wantL ∨ blkL (goneL (fallA fullA x m) g) = doL wantL x) ∧ (∀ i : Nat, i < 9 → (i : Int) ≠ x.n → (x.k ≠ 2 ∨ (i : Int) ≠ x.m) → (blkL (goneL (fallA fullA x m) g)).getD i [] = wantL.getD i [])) := hole_plain hw hoct m hg3
      have HA : Hid (Arr (fallA fullA x m) ∧ Arr (goneL (fallA fullA x m) g)) := ⟨fallA_arr full_there.arr x m, goneL_arr (fallA_arr full_there.arr x m) g⟩
      have HW : Hid (wrongE x = 0) := hw
      have Hg3 : Hid (0 ≤ g ∧ g ≤ 3) := hg3
      have hFu := topFull_any w2 (hlaid.grow hg02)
      clear hbad hlaid hg3 hw
      go_wp2_with fail
      refine hFu.mono ?_
      rintro r w3 ⟨r3, l3, rfl, hr3, hl3, hg3⟩
      clear hFu
      obtain ⟨a1, n1, t1, a2, n2, t2, rfl⟩ := hr3.form
      obtain ⟨W3, b1, hW3, hb1, hgA, HB3, k0, k1, HV⟩ := boxed hr3
      have HL3 : Hid (Bss W3 l3 wantL) := Bss.grow hl3 hgA
      have hg23 := hg3.trans hgA
      have HS3 : Hid (DeedC W3 b0 x (.slice d1 d2 d3)) := HS2.out.grow hg23
      have hgw3 := hg02.trans hg23
      have Hb1 : Hid (w2.heap.size ≤ b1) := by rw [Hid, hb1]; exact hg3.size
      have Hb1w : Hid (w.heap.size ≤ b1) := Nat.le_trans hg02.size Hb1.out
      obtain ⟨s0, s1, s2, s3, s4⟩ := HS3.out
      have hDo := doFall_any (.agg #[.slice a1 n1 t1, .slice a2 n2 t2]) (.slice d1 d2 d3) x m W3 HV.out s4 hm HP.out.1
      obtain ⟨l5, l4, rfl⟩ := Sl.form hl3
      rw [wantL_length] at HL3 ⊢
      clear hr3 hl3 hgA hg3 s4 HV
      subst hW3
      go_wp2_with fail
      rw [← hb1]
      refine hDo.mono ?_
      rintro r w4 ⟨r4, rfl, hr4, hg4⟩
      clear hDo hb1 k0 k1 s0 s1 s2 s3
      generalize w3.alloc (.cells #[.slice a1 n1 t1, .slice a2 n2 t2] 27) = W3 at *
      obtain ⟨x1, x2, x3, y1, y2, y3, rfl⟩ := hr4.form
      obtain ⟨W4, hW4, HB4, k0, k1, HX, r0, r1, f0, f1, HK⟩ := reboxed (hg4.block' HB3.out) hr4 HA.out.1
      have hg24 := HK.out.1 _ (hg23.trans hg4) Hb1.out
      have hgw4 := HK.out.1 _ (hgw3.trans hg4) Hb1w.out
      have hT4 : Two b1 w4 := ⟨_, _, _, _, _, _, _, hg4.block' HB3.out⟩
      have HL4 : Hid (Bss W4 (.slice l5 9 l4) wantL) := by
        rw [Hid, hW4]
        exact (((hT4.bss (Bss.grow HL3.out hg4) (by rw [wantL_length]; omega)).step (by_set w4 b1 0 _)).step (by_set _ b1 1 _)).plain
      have hDo := doGone_any _ (fallA fullA x m) g W4 HX.out HA.out.1 Hg3.out
      clear hr4 hg4 HL3 HK HB3 hgw3 hT4 HX hg23 HS3
      subst hW4
      go_wp2_with fail
      refine hDo.mono ?_
      rintro r w5 ⟨r5, rfl, hr5, hg5⟩
      clear hDo r0 r1 f0 f1 k0 k1
      generalize (w4.setCell ⟨b1, 0, none⟩ (.slice x1 x2 x3)).setCell ⟨b1, 1, none⟩ (.slice y1 y2 y3) = W4 at *
      generalize goneL (fallA fullA x m) g = Z at *
      obtain ⟨p1, p2, p3, q1, q2, q3, rfl⟩ := hr5.form
      obtain ⟨W5, hW5, HB5, k0, k1, HY, r0, r1, f0, f1, HK⟩ := reboxed (hg5.block' HB4.out) hr5 HA.out.2
      have hg25 := HK.out.1 _ (hg24.trans hg5) Hb1.out
      have hgw5 := HK.out.1 _ (hgw4.trans hg5) Hb1w.out
      have hT5 : Two b1 w5 := ⟨_, _, _, _, _, _, _, hg5.block' HB4.out⟩
      have HL5 : Hid (Bss W5 (.slice l5 9 l4) wantL) := by
        rw [Hid, hW5]
        exact (((hT5.bss (Bss.grow HL4.out hg5) (by rw [wantL_length]; omega)).step (by_set w5 b1 0 _)).step (by_set _ b1 1 _)).plain
      have hBl := arrBlocks_any (.agg #[.slice p1 p2 p3, .slice q1 q2 q3]) Z W5 HY.out HA.out.2.whole HA.out.2.short
      rw [HP.out.2.1] at hBl
      clear hr5 hg5 HL4 HK HB4 hgw4 hT5 HY hg24
      subst hW5
      go_wp2_with fail
      refine hBl.mono ?_
      rintro r w6 ⟨r6, rfl, hr6, hg6⟩
      clear hBl r0 r1 f0 f1 k0 k1
      generalize (w5.setCell ⟨b1, 0, none⟩ (.slice p1 p2 p3)).setCell ⟨b1, 1, none⟩ (.slice q1 q2 q3) = W5 at *
      have hZl : (blkL Z).length = 9 := by
        rcases HP.out.2.2.1 with e | e
        · rw [e, wantL_length]
        · rw [e, doL_length, wantL_length]
      have HZl : Hid ((blkL Z).length = 9) := hZl
      have HR6 : Hid (Bss w6 r6 (blkL Z)) := hr6
      obtain ⟨e1, e2, rfl⟩ := Sl.form hr6
      rw [hZl] at HR6 ⊢
      have HS6 : Hid (DeedC w6 b0 x (.slice d1 d2 d3)) := HS2.out.grow (hg25.trans hg6)
      have HL6 : Hid (Bss w6 (.slice l5 9 l4) wantL) := Bss.grow HL5.out hg6
      have hgw6 := hgw5.trans hg6
      obtain ⟨bl, ol, rfl⟩ : ∃ b o, e1 = some ⟨b, o, none⟩ := by
        obtain ⟨b, o, _, e, -⟩ := HR6.out.elem (k := 0) (by rw [HZl.out]; omega) []
        exact ⟨b, o, e⟩
      obtain ⟨bw, ow, rfl⟩ : ∃ b o, l5 = some ⟨b, o, none⟩ := by
        obtain ⟨b, o, _, e, -⟩ := HL6.out.elem (k := 0) (by rw [wantL_length]; omega) []
        exact ⟨b, o, e⟩
      clear hr6 hZl hg25 hg6 HL5 HS2 HB5 hgw5 hg02
      go_wp2
      go_loopw [70] (fun i wr => ∃ i' : Nat, i' ≤ 9 ∧ i = .int .i64 i' ∧ Grow w6 wr) (fun i _ => 9 - (intOf i).toNat)
      case atStart => exact ⟨0, by omega, rfl, Grow.refl _⟩
      case round =>
        obtain ⟨i, hi, rfl, hgr⟩ := hrel
        obtain ⟨q0, q1, q2, q3, q4⟩ := HS6.out.grow hgr
        by_cases hlt : i < 9
        · have hii : (i : Int) < 9 := by omega
          obtain ⟨aw, cw, hcl, hsl⟩ : ∃ aw cw, w6.cell? ⟨bl, ol + i, none⟩ = some (.slice aw ((blkL Z).getD i []).length cw) ∧ Bs w6 (.slice aw ((blkL Z).getD i []).length cw) ((blkL Z).getD i []) := by
            obtain ⟨b, o, u, e, hu, hr⟩ := HR6.out.elem (k := i) (by rw [HZl.out]; exact hlt) []
            injection e with e
            injection e with e1 e2
            subst e1 e2
            have hr' := hr
            obtain ⟨aw, cw, rfl, -⟩ := hr'
            exact ⟨aw, cw, hu, hr⟩
          obtain ⟨aw', cw', hcw, hsw⟩ : ∃ aw cw, w6.cell? ⟨bw, ow + i, none⟩ = some (.slice aw (wantL.getD i []).length cw) ∧ Bs w6 (.slice aw (wantL.getD i []).length cw) (wantL.getD i []) := by
            obtain ⟨b, o, u, e, hu, hr⟩ := HL6.out.elem (k := i) (by rw [wantL_length]; exact hlt) []
            injection e with e
            injection e with e1 e2
            subst e1 e2
            have hr' := hr
            obtain ⟨aw, cw, rfl, -⟩ := hr'
            exact ⟨aw, cw, hu, hr⟩
          have hcl' := hgr.at hcl
          have hcw' := hgr.at hcw
          have HEQ : Hid ((i : Int) ≠ x.n → (x.k ≠ 2 ∨ (i : Int) ≠ x.m) → (blkL Z).getD i [] = wantL.getD i []) := HP.out.2.2.2 i hlt
          clear hcl hcw q3 q4
          by_cases hN : (i : Int) = x.n
          · have hNb : ((i : Int) != x.n) = false := by simpa using hN
            clear hN hsl hsw HEQ
            generalize ((blkL Z).getD i []).length = BL at *
            generalize (wantL.getD i []).length = BL' at *
            go_wp2
            refine wp_region_stable Grow [IsV (.int .i64 i), IsV (.pointer (some ⟨b0, 1, none⟩)), IsV (.int .i64 x.n), IsV (.bool false), IsV (.bool false), IsV (undef), IsV (undef), IsV (undef), IsV (undef), IsV (undef), IsV (undef), IsV (undef), IsV (undef), IsV (undef), IsV (.bool false), IsV (.bool false), IsV (undef), IsV (undef), IsV (undef), IsV (undef), IsV (undef), IsV (undef), IsV (undef), IsV (undef), IsV (.bool false)] (by kernel_rfl) (by kernel_rfl) rfl Grow.refl (fun _ _ _ => Grow.trans) ?_ ?_ ?_
            · repeat (refine List.forall_mem_cons.2 ⟨by first | exact IsV.stable _, ?_⟩)
              exact fun R hR => nomatch hR
            · skip
              refine StepsS.cons ?_ fun v0 => ⟨_, _, by simp only [Act.put, List.setIfInBounds_toArray, List.set_cons_succ, List.set_cons_zero]; first | done | rfl, by simp only [List.nil_append]; first | done | rfl, ?_⟩
              · intro w1 hE hd
                clear hd
                go_wp2
                exact ⟨_, rfl, Grow.refl _, rfl⟩
              refine StepsS.cons ?_ fun v1 => ⟨_, _, by simp only [Act.put, List.setIfInBounds_toArray, List.set_cons_succ, List.set_cons_zero]; first | done | rfl, by simp only [List.nil_append, List.cons_append]; first | done | rfl, ?_⟩
              · intro w1 hE hd
                clear hd
                go_wp2
                exact ⟨_, rfl, Grow.refl _, rfl⟩
              refine StepsS.cons ?_ fun v2 => ⟨_, _, by simp only [Act.put, List.setIfInBounds_toArray, List.set_cons_succ, List.set_cons_zero]; first | done | rfl, by simp only [List.nil_append, List.cons_append]; first | done | rfl, ?_⟩
              · intro w1 hE hd
                obtain rfl := IsV.eq (dep_at hd 0 rfl rfl rfl)
                clear hd
                have qq := hE.drew.at q1
                go_wp2
                exact ⟨_, rfl, Grow.refl _, rfl⟩
              refine StepsS.cons ?_ fun v3 => ⟨_, _, by simp only [Act.put, List.setIfInBounds_toArray, List.set_cons_succ, List.set_cons_zero]; first | done | rfl, by simp only [List.nil_append, List.cons_append]; first | done | rfl, ?_⟩
              · intro w1 hE hd
                obtain rfl := IsV.eq (dep_at hd 0 rfl rfl rfl)
                obtain rfl := IsV.eq (dep_at hd 1 rfl rfl rfl)
                clear hd
                go_wp2
                exact ⟨_, rfl, Grow.refl _, rfl⟩
              refine StepsS.cons ?_ fun v4 => ⟨_, _, by simp only [Act.put, List.setIfInBounds_toArray, List.set_cons_succ, List.set_cons_zero]; first | done | rfl, by simp only [List.nil_append, List.cons_append]; first | done | rfl, ?_⟩
              · intro w1 hE hd
                obtain rfl := IsV.eq (dep_at hd 0 rfl rfl rfl)
                clear hd
                go_wp2
                exact ⟨_, rfl, Grow.refl _, rfl⟩
              refine StepsS.cons ?_ fun v5 => ⟨_, _, by simp only [Act.put, List.setIfInBounds_toArray, List.set_cons_succ, List.set_cons_zero]; first | done | rfl, by simp only [List.nil_append, List.cons_append]; first | done | rfl, ?_⟩
              · intro w1 hE hd
                obtain rfl := IsV.eq (dep_at hd 0 rfl rfl rfl)
                clear hd
                go_wp2
                exact ⟨_, rfl, Grow.refl _, rfl⟩
              refine StepsS.cons ?_ fun v6 => ⟨_, _, by simp only [Act.put, List.setIfInBounds_toArray, List.set_cons_succ, List.set_cons_zero]; first | done | rfl, by simp only [List.nil_append, List.cons_append]; first | done | rfl, ?_⟩
              · intro w1 hE hd
                obtain rfl := IsV.eq (dep_at hd 0 rfl rfl rfl)
                obtain rfl := IsV.eq (dep_at hd 1 rfl rfl rfl)
                clear hd
                go_wp2
                exact ⟨_, rfl, Grow.refl _, rfl⟩
              refine StepsS.cons ?_ fun v7 => ⟨_, _, by simp only [Act.put, List.setIfInBounds_toArray, List.set_cons_succ, List.set_cons_zero]; first | done | rfl, by simp only [List.nil_append, List.cons_append]; first | done | rfl, ?_⟩
              · intro w1 hE hd
                obtain rfl := IsV.eq (dep_at hd 0 rfl rfl rfl)
                obtain rfl := IsV.eq (dep_at hd 1 rfl rfl rfl)
                clear hd
                go_wp2
                exact ⟨_, rfl, Grow.refl _, rfl⟩
              refine StepsS.cons ?_ fun v8 => ⟨_, _, by simp only [Act.put, List.setIfInBounds_toArray, List.set_cons_succ, List.set_cons_zero]; first | done | rfl, by simp only [List.nil_append, List.cons_append]; first | done | rfl, ?_⟩
              · intro w1 hE hd
                obtain rfl := IsV.eq (dep_at hd 0 rfl rfl rfl)
                obtain rfl := IsV.eq (dep_at hd 1 rfl rfl rfl)
                clear hd
                go_wp2
                exact ⟨_, rfl, Grow.refl _, rfl⟩
              refine StepsS.cons ?_ fun v9 => ⟨_, _, by simp only [Act.put, List.setIfInBounds_toArray, List.set_cons_succ, List.set_cons_zero]; first | done | rfl, by simp only [List.nil_append, List.cons_append]; first | done | rfl, ?_⟩
              · intro w1 hE hd
                obtain rfl := IsV.eq (dep_at hd 0 rfl rfl rfl)
                clear hd
                go_wp2
                exact ⟨_, rfl, Grow.refl _, rfl⟩
              refine StepsS.cons ?_ fun v10 => ⟨_, _, by simp only [Act.put, List.setIfInBounds_toArray, List.set_cons_succ, List.set_cons_zero]; first | done | rfl, by simp only [List.nil_append, List.cons_append]; first | done | rfl, ?_⟩
              · intro w1 hE hd
                obtain rfl := IsV.eq (dep_at hd 0 rfl rfl rfl)
                clear hd
                go_wp2
                exact ⟨_, rfl, Grow.refl _, rfl⟩
              refine StepsS.cons ?_ fun v11 => ⟨_, _, by simp only [Act.put, List.setIfInBounds_toArray, List.set_cons_succ, List.set_cons_zero]; first | done | rfl, by simp only [List.nil_append, List.cons_append]; first | done | rfl, ?_⟩
              · intro w1 hE hd
                obtain rfl := IsV.eq (dep_at hd 0 rfl rfl rfl)
                obtain rfl := IsV.eq (dep_at hd 1 rfl rfl rfl)
                clear hd
                go_wp2
                exact ⟨_, rfl, Grow.refl _, rfl⟩
              refine StepsS.cons ?_ fun v12 => ⟨_, _, by simp only [Act.put, List.setIfInBounds_toArray, List.set_cons_succ, List.set_cons_zero]; first | done | rfl, by simp only [List.nil_append, List.cons_append]; first | done | rfl, ?_⟩
              · intro w1 hE hd
                obtain rfl := IsV.eq (dep_at hd 0 rfl rfl rfl)
                obtain rfl := IsV.eq (dep_at hd 1 rfl rfl rfl)
                obtain rfl := IsV.eq (dep_at hd 2 rfl rfl rfl)
                clear hd
                go_wp2
                exact ⟨_, rfl, Grow.refl _, rfl⟩
              refine StepsS.cons ?_ fun v13 => ⟨_, _, by simp only [Act.put, List.setIfInBounds_toArray, List.set_cons_succ, List.set_cons_zero]; first | done | rfl, by simp only [List.nil_append, List.cons_append]; first | done | rfl, ?_⟩
              · intro w1 hE hd
                obtain rfl := IsV.eq (dep_at hd 0 rfl rfl rfl)
                obtain rfl := IsV.eq (dep_at hd 1 rfl rfl rfl)
                obtain rfl := IsV.eq (dep_at hd 2 rfl rfl rfl)
                clear hd
                go_wp2
                exact ⟨_, rfl, Grow.refl _, rfl⟩
              refine StepsS.cons ?_ fun v14 => ⟨_, _, by simp only [Act.put, List.setIfInBounds_toArray, List.set_cons_succ, List.set_cons_zero]; first | done | rfl, by simp only [List.nil_append, List.cons_append]; first | done | rfl, ?_⟩
              · intro w1 hE hd
                obtain rfl := IsV.eq (dep_at hd 0 rfl rfl rfl)
                obtain rfl := IsV.eq (dep_at hd 1 rfl rfl rfl)
                clear hd
                go_wp2
                exact ⟨_, rfl, Grow.refl _, rfl⟩
              refine StepsS.cons ?_ fun v15 => ⟨_, _, by simp only [Act.put, List.setIfInBounds_toArray, List.set_cons_succ, List.set_cons_zero]; first | done | rfl, by simp only [List.nil_append, List.cons_append]; first | done | rfl, ?_⟩
              · intro w1 hE hd
                obtain rfl := IsV.eq (dep_at hd 0 rfl rfl rfl)
                clear hd
                go_wp2
                exact ⟨_, rfl, Grow.refl _, rfl⟩
              refine StepsS.cons ?_ fun v16 => ⟨_, _, by simp only [Act.put, List.setIfInBounds_toArray, List.set_cons_succ, List.set_cons_zero]; first | done | rfl, by simp only [List.nil_append, List.cons_append]; first | done | rfl, ?_⟩
              · intro w1 hE hd
                obtain rfl := IsV.eq (dep_at hd 0 rfl rfl rfl)
                clear hd
                go_wp2
                exact ⟨_, rfl, Grow.refl _, rfl⟩
              refine StepsS.cons ?_ fun v17 => ⟨_, _, by simp only [Act.put, List.setIfInBounds_toArray, List.set_cons_succ, List.set_cons_zero]; first | done | rfl, by simp only [List.nil_append, List.cons_append]; first | done | rfl, ?_⟩
              · intro w1 hE hd
                obtain rfl := IsV.eq (dep_at hd 0 rfl rfl rfl)
                obtain rfl := IsV.eq (dep_at hd 1 rfl rfl rfl)
                clear hd
                go_wp2
                exact ⟨_, rfl, Grow.refl _, rfl⟩
              refine StepsS.cons ?_ fun v18 => ⟨_, _, by simp only [Act.put, List.setIfInBounds_toArray, List.set_cons_succ, List.set_cons_zero]; first | done | rfl, by simp only [List.nil_append, List.cons_append]; first | done | rfl, ?_⟩
              · intro w1 hE hd
                obtain rfl := IsV.eq (dep_at hd 0 rfl rfl rfl)
                clear hd
                go_wp2
                exact ⟨_, rfl, Grow.refl _, rfl⟩
              refine StepsS.cons ?_ fun v19 => ⟨_, _, by simp only [Act.put, List.setIfInBounds_toArray, List.set_cons_succ, List.set_cons_zero]; first | done | rfl, by simp only [List.nil_append, List.cons_append]; first | done | rfl, ?_⟩
              · intro w1 hE hd
                obtain rfl := IsV.eq (dep_at hd 0 rfl rfl rfl)
                clear hd
                go_wp2
                exact ⟨_, rfl, Grow.refl _, rfl⟩
              refine StepsS.cons ?_ fun v20 => ⟨_, _, by simp only [Act.put, List.setIfInBounds_toArray, List.set_cons_succ, List.set_cons_zero]; first | done | rfl, by simp only [List.nil_append, List.cons_append]; first | done | rfl, ?_⟩
              · intro w1 hE hd
                obtain rfl := IsV.eq (dep_at hd 0 rfl rfl rfl)
                obtain rfl := IsV.eq (dep_at hd 1 rfl rfl rfl)
                obtain rfl := IsV.eq (dep_at hd 2 rfl rfl rfl)
                clear hd
                go_wp2
                exact ⟨_, rfl, Grow.refl _, rfl⟩
              refine StepsS.cons ?_ fun v21 => ⟨_, _, by simp only [Act.put, List.setIfInBounds_toArray, List.set_cons_succ, List.set_cons_zero]; first | done | rfl, by simp only [List.nil_append, List.cons_append]; first | done | rfl, ?_⟩
              · intro w1 hE hd
                obtain rfl := IsV.eq (dep_at hd 0 rfl rfl rfl)
                obtain rfl := IsV.eq (dep_at hd 1 rfl rfl rfl)
                clear hd
                go_wp2
                exact ⟨_, rfl, Grow.refl _, rfl⟩
              refine StepsS.cons ?_ fun v22 => ⟨_, _, by simp only [Act.put, List.setIfInBounds_toArray, List.set_cons_succ, List.set_cons_zero]; first | done | rfl, by simp only [List.nil_append, List.cons_append]; first | done | rfl, ?_⟩
              · intro w1 hE hd
                obtain rfl := IsV.eq (dep_at hd 0 rfl rfl rfl)
                obtain rfl := IsV.eq (dep_at hd 1 rfl rfl rfl)
                clear hd
                go_wp2
                exact ⟨_, rfl, Grow.refl _, rfl⟩
              refine StepsS.cons ?_ fun v23 => ⟨_, _, by simp only [Act.put, List.setIfInBounds_toArray, List.set_cons_succ, List.set_cons_zero]; first | done | rfl, by simp only [List.nil_append, List.cons_append]; first | done | rfl, ?_⟩
              · intro w1 hE hd
                obtain rfl := IsV.eq (dep_at hd 0 rfl rfl rfl)
                obtain rfl := IsV.eq (dep_at hd 1 rfl rfl rfl)
                obtain rfl := IsV.eq (dep_at hd 2 rfl rfl rfl)
                clear hd
                go_wp2
                exact ⟨_, rfl, Grow.refl _, rfl⟩
              refine StepsS.cons ?_ fun v24 => ⟨_, _, by simp only [Act.put, List.setIfInBounds_toArray, List.set_cons_succ, List.set_cons_zero]; first | done | rfl, by simp only [List.nil_append, List.cons_append]; first | done | rfl, ?_⟩
              · intro w1 hE hd
                obtain rfl := IsV.eq (dep_at hd 0 rfl rfl rfl)
                obtain rfl := IsV.eq (dep_at hd 1 rfl rfl rfl)
                clear hd
                go_wp2
                exact ⟨_, rfl, Grow.refl _, rfl⟩
              trivial
            intro wR hwR
            refine FinS.cons ?_; rintro _ rfl; refine ⟨_, by simp only [Act.put, List.setIfInBounds_toArray, List.set_cons_succ, List.set_cons_zero]; first | done | rfl, ?_⟩
            refine FinS.cons ?_; rintro _ rfl; refine ⟨_, by simp only [Act.put, List.setIfInBounds_toArray, List.set_cons_succ, List.set_cons_zero]; first | done | rfl, ?_⟩
            refine FinS.cons ?_; rintro _ rfl; refine ⟨_, by simp only [Act.put, List.setIfInBounds_toArray, List.set_cons_succ, List.set_cons_zero]; first | done | rfl, ?_⟩
            refine FinS.cons ?_; rintro _ rfl; refine ⟨_, by simp only [Act.put, List.setIfInBounds_toArray, List.set_cons_succ, List.set_cons_zero]; first | done | rfl, ?_⟩
            refine FinS.cons ?_; rintro _ rfl; refine ⟨_, by simp only [Act.put, List.setIfInBounds_toArray, List.set_cons_succ, List.set_cons_zero]; first | done | rfl, ?_⟩
            refine FinS.cons ?_; rintro _ rfl; refine ⟨_, by simp only [Act.put, List.setIfInBounds_toArray, List.set_cons_succ, List.set_cons_zero]; first | done | rfl, ?_⟩
            refine FinS.cons ?_; rintro _ rfl; refine ⟨_, by simp only [Act.put, List.setIfInBounds_toArray, List.set_cons_succ, List.set_cons_zero]; first | done | rfl, ?_⟩
            refine FinS.cons ?_; rintro _ rfl; refine ⟨_, by simp only [Act.put, List.setIfInBounds_toArray, List.set_cons_succ, List.set_cons_zero]; first | done | rfl, ?_⟩
            refine FinS.cons ?_; rintro _ rfl; refine ⟨_, by simp only [Act.put, List.setIfInBounds_toArray, List.set_cons_succ, List.set_cons_zero]; first | done | rfl, ?_⟩
            refine FinS.cons ?_; rintro _ rfl; refine ⟨_, by simp only [Act.put, List.setIfInBounds_toArray, List.set_cons_succ, List.set_cons_zero]; first | done | rfl, ?_⟩
            refine FinS.cons ?_; rintro _ rfl; refine ⟨_, by simp only [Act.put, List.setIfInBounds_toArray, List.set_cons_succ, List.set_cons_zero]; first | done | rfl, ?_⟩
            refine FinS.cons ?_; rintro _ rfl; refine ⟨_, by simp only [Act.put, List.setIfInBounds_toArray, List.set_cons_succ, List.set_cons_zero]; first | done | rfl, ?_⟩
            refine FinS.cons ?_; rintro _ rfl; refine ⟨_, by simp only [Act.put, List.setIfInBounds_toArray, List.set_cons_succ, List.set_cons_zero]; first | done | rfl, ?_⟩
            refine FinS.cons ?_; rintro _ rfl; refine ⟨_, by simp only [Act.put, List.setIfInBounds_toArray, List.set_cons_succ, List.set_cons_zero]; first | done | rfl, ?_⟩
            refine FinS.cons ?_; rintro _ rfl; refine ⟨_, by simp only [Act.put, List.setIfInBounds_toArray, List.set_cons_succ, List.set_cons_zero]; first | done | rfl, ?_⟩
            refine FinS.cons ?_; rintro _ rfl; refine ⟨_, by simp only [Act.put, List.setIfInBounds_toArray, List.set_cons_succ, List.set_cons_zero]; first | done | rfl, ?_⟩
            refine FinS.cons ?_; rintro _ rfl; refine ⟨_, by simp only [Act.put, List.setIfInBounds_toArray, List.set_cons_succ, List.set_cons_zero]; first | done | rfl, ?_⟩
            refine FinS.cons ?_; rintro _ rfl; refine ⟨_, by simp only [Act.put, List.setIfInBounds_toArray, List.set_cons_succ, List.set_cons_zero]; first | done | rfl, ?_⟩
            refine FinS.cons ?_; rintro _ rfl; refine ⟨_, by simp only [Act.put, List.setIfInBounds_toArray, List.set_cons_succ, List.set_cons_zero]; first | done | rfl, ?_⟩
            refine FinS.cons ?_; rintro _ rfl; refine ⟨_, by simp only [Act.put, List.setIfInBounds_toArray, List.set_cons_succ, List.set_cons_zero]; first | done | rfl, ?_⟩
            refine FinS.cons ?_; rintro _ rfl; refine ⟨_, by simp only [Act.put, List.setIfInBounds_toArray, List.set_cons_succ, List.set_cons_zero]; first | done | rfl, ?_⟩
            refine FinS.cons ?_; rintro _ rfl; refine ⟨_, by simp only [Act.put, List.setIfInBounds_toArray, List.set_cons_succ, List.set_cons_zero]; first | done | rfl, ?_⟩
            refine FinS.cons ?_; rintro _ rfl; refine ⟨_, by simp only [Act.put, List.setIfInBounds_toArray, List.set_cons_succ, List.set_cons_zero]; first | done | rfl, ?_⟩
            refine FinS.cons ?_; rintro _ rfl; refine ⟨_, by simp only [Act.put, List.setIfInBounds_toArray, List.set_cons_succ, List.set_cons_zero]; first | done | rfl, ?_⟩
            refine FinS.cons ?_; rintro _ rfl; refine ⟨_, by simp only [Act.put, List.setIfInBounds_toArray, List.set_cons_succ, List.set_cons_zero]; first | done | rfl, ?_⟩
            first | show Exit.then _ _ _ _ _ | show Exit.inBlock _ _ _ _ _
            have hgR := hgr.trans hwR.drew
            go_wp2
            go_roundw
            case rel => first | exact ⟨i + 1, by omega, by go_num, hgR⟩ | ((repeat apply Exists.intro); exact ⟨⟨i + 1, by omega, by go_num, hgR⟩, rfl⟩)
            case measure => simp [intOf]; omega
          · have hNb : ((i : Int) != x.n) = true := by simpa using hN
            by_cases hK : x.k = 2
            · have hKb : (x.k != 2) = false := by simpa using hK
              by_cases hM : (i : Int) = x.m
              · have hMb : ((i : Int) != x.m) = false := by simpa using hM
                clear hN hM hK hsl hsw HEQ
                generalize ((blkL Z).getD i []).length = BL at *
                generalize (wantL.getD i []).length = BL' at *
                go_wp2
                refine wp_region_stable Grow [IsV (.int .i64 i), IsV (.pointer (some ⟨b0, 1, none⟩)), IsV (.int .i64 x.n), IsV (.bool true), IsV (.bool true), IsV (.pointer (some ⟨b0, 0, none⟩)), IsV (.int .i64 x.k), IsV (.bool false), IsV (.bool false), IsV (.int .i64 i), IsV (.pointer (some ⟨b0, 2, none⟩)), IsV (.int .i64 x.m), IsV (.bool false), IsV (.bool false), IsV (.bool false), IsV (.bool false), IsV (undef), IsV (undef), IsV (undef), IsV (undef), IsV (undef), IsV (undef), IsV (undef), IsV (undef), IsV (.bool false)] (by kernel_rfl) (by kernel_rfl) rfl Grow.refl (fun _ _ _ => Grow.trans) ?_ ?_ ?_
                · repeat (refine List.forall_mem_cons.2 ⟨by first | exact IsV.stable _, ?_⟩)
                  exact fun R hR => nomatch hR
                · skip
                  refine StepsS.cons ?_ fun v0 => ⟨_, _, by simp only [Act.put, List.setIfInBounds_toArray, List.set_cons_succ, List.set_cons_zero]; first | done | rfl, by simp only [List.nil_append]; first | done | rfl, ?_⟩
                  · intro w1 hE hd
                    clear hd
                    go_wp2
                    exact ⟨_, rfl, Grow.refl _, rfl⟩
                  refine StepsS.cons ?_ fun v1 => ⟨_, _, by simp only [Act.put, List.setIfInBounds_toArray, List.set_cons_succ, List.set_cons_zero]; first | done | rfl, by simp only [List.nil_append, List.cons_append]; first | done | rfl, ?_⟩
                  · intro w1 hE hd
                    clear hd
                    go_wp2
                    exact ⟨_, rfl, Grow.refl _, rfl⟩
                  refine StepsS.cons ?_ fun v2 => ⟨_, _, by simp only [Act.put, List.setIfInBounds_toArray, List.set_cons_succ, List.set_cons_zero]; first | done | rfl, by simp only [List.nil_append, List.cons_append]; first | done | rfl, ?_⟩
                  · intro w1 hE hd
                    obtain rfl := IsV.eq (dep_at hd 0 rfl rfl rfl)
                    clear hd
                    have qq := hE.drew.at q1
                    go_wp2
                    exact ⟨_, rfl, Grow.refl _, rfl⟩
                  refine StepsS.cons ?_ fun v3 => ⟨_, _, by simp only [Act.put, List.setIfInBounds_toArray, List.set_cons_succ, List.set_cons_zero]; first | done | rfl, by simp only [List.nil_append, List.cons_append]; first | done | rfl, ?_⟩
                  · intro w1 hE hd
                    obtain rfl := IsV.eq (dep_at hd 0 rfl rfl rfl)
                    obtain rfl := IsV.eq (dep_at hd 1 rfl rfl rfl)
                    clear hd
                    go_wp2
                    exact ⟨_, rfl, Grow.refl _, rfl⟩
                  refine StepsS.cons ?_ fun v4 => ⟨_, _, by simp only [Act.put, List.setIfInBounds_toArray, List.set_cons_succ, List.set_cons_zero]; first | done | rfl, by simp only [List.nil_append, List.cons_append]; first | done | rfl, ?_⟩
                  · intro w1 hE hd
                    obtain rfl := IsV.eq (dep_at hd 0 rfl rfl rfl)
                    clear hd
                    go_wp2
                    exact ⟨_, rfl, Grow.refl _, rfl⟩
                  refine StepsS.cons ?_ fun v5 => ⟨_, _, by simp only [Act.put, List.setIfInBounds_toArray, List.set_cons_succ, List.set_cons_zero]; first | done | rfl, by simp only [List.nil_append, List.cons_append]; first | done | rfl, ?_⟩
                  · intro w1 hE hd
                    obtain rfl := IsV.eq (dep_at hd 0 rfl rfl rfl)
                    clear hd
                    go_wp2
                    exact ⟨_, rfl, Grow.refl _, rfl⟩
                  refine StepsS.cons ?_ fun v6 => ⟨_, _, by simp only [Act.put, List.setIfInBounds_toArray, List.set_cons_succ, List.set_cons_zero]; first | done | rfl, by simp only [List.nil_append, List.cons_append]; first | done | rfl, ?_⟩
                  · intro w1 hE hd
                    obtain rfl := IsV.eq (dep_at hd 0 rfl rfl rfl)
                    obtain rfl := IsV.eq (dep_at hd 1 rfl rfl rfl)
                    clear hd
                    have qq := hE.drew.at q0
                    go_wp2
                    exact ⟨_, rfl, Grow.refl _, rfl⟩
                  refine StepsS.cons ?_ fun v7 => ⟨_, _, by simp only [Act.put, List.setIfInBounds_toArray, List.set_cons_succ, List.set_cons_zero]; first | done | rfl, by simp only [List.nil_append, List.cons_append]; first | done | rfl, ?_⟩
                  · intro w1 hE hd
                    obtain rfl := IsV.eq (dep_at hd 0 rfl rfl rfl)
                    obtain rfl := IsV.eq (dep_at hd 1 rfl rfl rfl)
                    clear hd
                    go_wp2
                    exact ⟨_, rfl, Grow.refl _, rfl⟩
                  refine StepsS.cons ?_ fun v8 => ⟨_, _, by simp only [Act.put, List.setIfInBounds_toArray, List.set_cons_succ, List.set_cons_zero]; first | done | rfl, by simp only [List.nil_append, List.cons_append]; first | done | rfl, ?_⟩
                  · intro w1 hE hd
                    obtain rfl := IsV.eq (dep_at hd 0 rfl rfl rfl)
                    obtain rfl := IsV.eq (dep_at hd 1 rfl rfl rfl)
                    clear hd
                    go_wp2
                    exact ⟨_, rfl, Grow.refl _, rfl⟩
                  refine StepsS.cons ?_ fun v9 => ⟨_, _, by simp only [Act.put, List.setIfInBounds_toArray, List.set_cons_succ, List.set_cons_zero]; first | done | rfl, by simp only [List.nil_append, List.cons_append]; first | done | rfl, ?_⟩
                  · intro w1 hE hd
                    obtain rfl := IsV.eq (dep_at hd 0 rfl rfl rfl)
                    clear hd
                    go_wp2
                    exact ⟨_, rfl, Grow.refl _, rfl⟩
                  refine StepsS.cons ?_ fun v10 => ⟨_, _, by simp only [Act.put, List.setIfInBounds_toArray, List.set_cons_succ, List.set_cons_zero]; first | done | rfl, by simp only [List.nil_append, List.cons_append]; first | done | rfl, ?_⟩
                  · intro w1 hE hd
                    obtain rfl := IsV.eq (dep_at hd 0 rfl rfl rfl)
                    clear hd
                    go_wp2
                    exact ⟨_, rfl, Grow.refl _, rfl⟩
                  refine StepsS.cons ?_ fun v11 => ⟨_, _, by simp only [Act.put, List.setIfInBounds_toArray, List.set_cons_succ, List.set_cons_zero]; first | done | rfl, by simp only [List.nil_append, List.cons_append]; first | done | rfl, ?_⟩
                  · intro w1 hE hd
                    obtain rfl := IsV.eq (dep_at hd 0 rfl rfl rfl)
                    obtain rfl := IsV.eq (dep_at hd 1 rfl rfl rfl)
                    clear hd
                    have qq := hE.drew.at q2
                    go_wp2
                    exact ⟨_, rfl, Grow.refl _, rfl⟩
                  refine StepsS.cons ?_ fun v12 => ⟨_, _, by simp only [Act.put, List.setIfInBounds_toArray, List.set_cons_succ, List.set_cons_zero]; first | done | rfl, by simp only [List.nil_append, List.cons_append]; first | done | rfl, ?_⟩
                  · intro w1 hE hd
                    obtain rfl := IsV.eq (dep_at hd 0 rfl rfl rfl)
                    obtain rfl := IsV.eq (dep_at hd 1 rfl rfl rfl)
                    obtain rfl := IsV.eq (dep_at hd 2 rfl rfl rfl)
                    clear hd
                    go_wp2
                    exact ⟨_, rfl, Grow.refl _, rfl⟩
                  refine StepsS.cons ?_ fun v13 => ⟨_, _, by simp only [Act.put, List.setIfInBounds_toArray, List.set_cons_succ, List.set_cons_zero]; first | done | rfl, by simp only [List.nil_append, List.cons_append]; first | done | rfl, ?_⟩
                  · intro w1 hE hd
                    obtain rfl := IsV.eq (dep_at hd 0 rfl rfl rfl)
                    obtain rfl := IsV.eq (dep_at hd 1 rfl rfl rfl)
                    obtain rfl := IsV.eq (dep_at hd 2 rfl rfl rfl)
                    clear hd
                    go_wp2
                    exact ⟨_, rfl, Grow.refl _, rfl⟩
                  refine StepsS.cons ?_ fun v14 => ⟨_, _, by simp only [Act.put, List.setIfInBounds_toArray, List.set_cons_succ, List.set_cons_zero]; first | done | rfl, by simp only [List.nil_append, List.cons_append]; first | done | rfl, ?_⟩
                  · intro w1 hE hd
                    obtain rfl := IsV.eq (dep_at hd 0 rfl rfl rfl)
                    obtain rfl := IsV.eq (dep_at hd 1 rfl rfl rfl)
                    clear hd
                    go_wp2
                    exact ⟨_, rfl, Grow.refl _, rfl⟩
                  refine StepsS.cons ?_ fun v15 => ⟨_, _, by simp only [Act.put, List.setIfInBounds_toArray, List.set_cons_succ, List.set_cons_zero]; first | done | rfl, by simp only [List.nil_append, List.cons_append]; first | done | rfl, ?_⟩
                  · intro w1 hE hd
                    obtain rfl := IsV.eq (dep_at hd 0 rfl rfl rfl)
                    clear hd
                    go_wp2
                    exact ⟨_, rfl, Grow.refl _, rfl⟩
                  refine StepsS.cons ?_ fun v16 => ⟨_, _, by simp only [Act.put, List.setIfInBounds_toArray, List.set_cons_succ, List.set_cons_zero]; first | done | rfl, by simp only [List.nil_append, List.cons_append]; first | done | rfl, ?_⟩
                  · intro w1 hE hd
                    obtain rfl := IsV.eq (dep_at hd 0 rfl rfl rfl)
                    clear hd
                    go_wp2
                    exact ⟨_, rfl, Grow.refl _, rfl⟩
                  refine StepsS.cons ?_ fun v17 => ⟨_, _, by simp only [Act.put, List.setIfInBounds_toArray, List.set_cons_succ, List.set_cons_zero]; first | done | rfl, by simp only [List.nil_append, List.cons_append]; first | done | rfl, ?_⟩
                  · intro w1 hE hd
                    obtain rfl := IsV.eq (dep_at hd 0 rfl rfl rfl)
                    obtain rfl := IsV.eq (dep_at hd 1 rfl rfl rfl)
                    clear hd
                    go_wp2
                    exact ⟨_, rfl, Grow.refl _, rfl⟩
                  refine StepsS.cons ?_ fun v18 => ⟨_, _, by simp only [Act.put, List.setIfInBounds_toArray, List.set_cons_succ, List.set_cons_zero]; first | done | rfl, by simp only [List.nil_append, List.cons_append]; first | done | rfl, ?_⟩
                  · intro w1 hE hd
                    obtain rfl := IsV.eq (dep_at hd 0 rfl rfl rfl)
                    clear hd
                    go_wp2
                    exact ⟨_, rfl, Grow.refl _, rfl⟩
                  refine StepsS.cons ?_ fun v19 => ⟨_, _, by simp only [Act.put, List.setIfInBounds_toArray, List.set_cons_succ, List.set_cons_zero]; first | done | rfl, by simp only [List.nil_append, List.cons_append]; first | done | rfl, ?_⟩
                  · intro w1 hE hd
                    obtain rfl := IsV.eq (dep_at hd 0 rfl rfl rfl)
                    clear hd
                    go_wp2
                    exact ⟨_, rfl, Grow.refl _, rfl⟩
                  refine StepsS.cons ?_ fun v20 => ⟨_, _, by simp only [Act.put, List.setIfInBounds_toArray, List.set_cons_succ, List.set_cons_zero]; first | done | rfl, by simp only [List.nil_append, List.cons_append]; first | done | rfl, ?_⟩
                  · intro w1 hE hd
                    obtain rfl := IsV.eq (dep_at hd 0 rfl rfl rfl)
                    obtain rfl := IsV.eq (dep_at hd 1 rfl rfl rfl)
                    obtain rfl := IsV.eq (dep_at hd 2 rfl rfl rfl)
                    clear hd
                    go_wp2
                    exact ⟨_, rfl, Grow.refl _, rfl⟩
                  refine StepsS.cons ?_ fun v21 => ⟨_, _, by simp only [Act.put, List.setIfInBounds_toArray, List.set_cons_succ, List.set_cons_zero]; first | done | rfl, by simp only [List.nil_append, List.cons_append]; first | done | rfl, ?_⟩
                  · intro w1 hE hd
                    obtain rfl := IsV.eq (dep_at hd 0 rfl rfl rfl)
                    obtain rfl := IsV.eq (dep_at hd 1 rfl rfl rfl)
                    clear hd
                    go_wp2
                    exact ⟨_, rfl, Grow.refl _, rfl⟩
                  refine StepsS.cons ?_ fun v22 => ⟨_, _, by simp only [Act.put, List.setIfInBounds_toArray, List.set_cons_succ, List.set_cons_zero]; first | done | rfl, by simp only [List.nil_append, List.cons_append]; first | done | rfl, ?_⟩
                  · intro w1 hE hd
                    obtain rfl := IsV.eq (dep_at hd 0 rfl rfl rfl)
                    obtain rfl := IsV.eq (dep_at hd 1 rfl rfl rfl)
                    clear hd
                    go_wp2
                    exact ⟨_, rfl, Grow.refl _, rfl⟩
                  refine StepsS.cons ?_ fun v23 => ⟨_, _, by simp only [Act.put, List.setIfInBounds_toArray, List.set_cons_succ, List.set_cons_zero]; first | done | rfl, by simp only [List.nil_append, List.cons_append]; first | done | rfl, ?_⟩
                  · intro w1 hE hd
                    obtain rfl := IsV.eq (dep_at hd 0 rfl rfl rfl)
                    obtain rfl := IsV.eq (dep_at hd 1 rfl rfl rfl)
                    obtain rfl := IsV.eq (dep_at hd 2 rfl rfl rfl)
                    clear hd
                    go_wp2
                    exact ⟨_, rfl, Grow.refl _, rfl⟩
                  refine StepsS.cons ?_ fun v24 => ⟨_, _, by simp only [Act.put, List.setIfInBounds_toArray, List.set_cons_succ, List.set_cons_zero]; first | done | rfl, by simp only [List.nil_append, List.cons_append]; first | done | rfl, ?_⟩
                  · intro w1 hE hd
                    obtain rfl := IsV.eq (dep_at hd 0 rfl rfl rfl)
                    obtain rfl := IsV.eq (dep_at hd 1 rfl rfl rfl)
                    clear hd
                    go_wp2
                    exact ⟨_, rfl, Grow.refl _, rfl⟩
                  trivial
                intro wR hwR
                refine FinS.cons ?_; rintro _ rfl; refine ⟨_, by simp only [Act.put, List.setIfInBounds_toArray, List.set_cons_succ, List.set_cons_zero]; first | done | rfl, ?_⟩
                refine FinS.cons ?_; rintro _ rfl; refine ⟨_, by simp only [Act.put, List.setIfInBounds_toArray, List.set_cons_succ, List.set_cons_zero]; first | done | rfl, ?_⟩
                refine FinS.cons ?_; rintro _ rfl; refine ⟨_, by simp only [Act.put, List.setIfInBounds_toArray, List.set_cons_succ, List.set_cons_zero]; first | done | rfl, ?_⟩
                refine FinS.cons ?_; rintro _ rfl; refine ⟨_, by simp only [Act.put, List.setIfInBounds_toArray, List.set_cons_succ, List.set_cons_zero]; first | done | rfl, ?_⟩
                refine FinS.cons ?_; rintro _ rfl; refine ⟨_, by simp only [Act.put, List.setIfInBounds_toArray, List.set_cons_succ, List.set_cons_zero]; first | done | rfl, ?_⟩
                refine FinS.cons ?_; rintro _ rfl; refine ⟨_, by simp only [Act.put, List.setIfInBounds_toArray, List.set_cons_succ, List.set_cons_zero]; first | done | rfl, ?_⟩
                refine FinS.cons ?_; rintro _ rfl; refine ⟨_, by simp only [Act.put, List.setIfInBounds_toArray, List.set_cons_succ, List.set_cons_zero]; first | done | rfl, ?_⟩
                refine FinS.cons ?_; rintro _ rfl; refine ⟨_, by simp only [Act.put, List.setIfInBounds_toArray, List.set_cons_succ, List.set_cons_zero]; first | done | rfl, ?_⟩
                refine FinS.cons ?_; rintro _ rfl; refine ⟨_, by simp only [Act.put, List.setIfInBounds_toArray, List.set_cons_succ, List.set_cons_zero]; first | done | rfl, ?_⟩
                refine FinS.cons ?_; rintro _ rfl; refine ⟨_, by simp only [Act.put, List.setIfInBounds_toArray, List.set_cons_succ, List.set_cons_zero]; first | done | rfl, ?_⟩
                refine FinS.cons ?_; rintro _ rfl; refine ⟨_, by simp only [Act.put, List.setIfInBounds_toArray, List.set_cons_succ, List.set_cons_zero]; first | done | rfl, ?_⟩
                refine FinS.cons ?_; rintro _ rfl; refine ⟨_, by simp only [Act.put, List.setIfInBounds_toArray, List.set_cons_succ, List.set_cons_zero]; first | done | rfl, ?_⟩
                refine FinS.cons ?_; rintro _ rfl; refine ⟨_, by simp only [Act.put, List.setIfInBounds_toArray, List.set_cons_succ, List.set_cons_zero]; first | done | rfl, ?_⟩
                refine FinS.cons ?_; rintro _ rfl; refine ⟨_, by simp only [Act.put, List.setIfInBounds_toArray, List.set_cons_succ, List.set_cons_zero]; first | done | rfl, ?_⟩
                refine FinS.cons ?_; rintro _ rfl; refine ⟨_, by simp only [Act.put, List.setIfInBounds_toArray, List.set_cons_succ, List.set_cons_zero]; first | done | rfl, ?_⟩
                refine FinS.cons ?_; rintro _ rfl; refine ⟨_, by simp only [Act.put, List.setIfInBounds_toArray, List.set_cons_succ, List.set_cons_zero]; first | done | rfl, ?_⟩
                refine FinS.cons ?_; rintro _ rfl; refine ⟨_, by simp only [Act.put, List.setIfInBounds_toArray, List.set_cons_succ, List.set_cons_zero]; first | done | rfl, ?_⟩
                refine FinS.cons ?_; rintro _ rfl; refine ⟨_, by simp only [Act.put, List.setIfInBounds_toArray, List.set_cons_succ, List.set_cons_zero]; first | done | rfl, ?_⟩
                refine FinS.cons ?_; rintro _ rfl; refine ⟨_, by simp only [Act.put, List.setIfInBounds_toArray, List.set_cons_succ, List.set_cons_zero]; first | done | rfl, ?_⟩
                refine FinS.cons ?_; rintro _ rfl; refine ⟨_, by simp only [Act.put, List.setIfInBounds_toArray, List.set_cons_succ, List.set_cons_zero]; first | done | rfl, ?_⟩
                refine FinS.cons ?_; rintro _ rfl; refine ⟨_, by simp only [Act.put, List.setIfInBounds_toArray, List.set_cons_succ, List.set_cons_zero]; first | done | rfl, ?_⟩
                refine FinS.cons ?_; rintro _ rfl; refine ⟨_, by simp only [Act.put, List.setIfInBounds_toArray, List.set_cons_succ, List.set_cons_zero]; first | done | rfl, ?_⟩
                refine FinS.cons ?_; rintro _ rfl; refine ⟨_, by simp only [Act.put, List.setIfInBounds_toArray, List.set_cons_succ, List.set_cons_zero]; first | done | rfl, ?_⟩
                refine FinS.cons ?_; rintro _ rfl; refine ⟨_, by simp only [Act.put, List.setIfInBounds_toArray, List.set_cons_succ, List.set_cons_zero]; first | done | rfl, ?_⟩
                refine FinS.cons ?_; rintro _ rfl; refine ⟨_, by simp only [Act.put, List.setIfInBounds_toArray, List.set_cons_succ, List.set_cons_zero]; first | done | rfl, ?_⟩
                first | show Exit.then _ _ _ _ _ | show Exit.inBlock _ _ _ _ _
                have hgR := hgr.trans hwR.drew
                go_wp2
                go_roundw
                case rel => first | exact ⟨i + 1, by omega, by go_num, hgR⟩ | ((repeat apply Exists.intro); exact ⟨⟨i + 1, by omega, by go_num, hgR⟩, rfl⟩)
                case measure => simp [intOf]; omega
              · have hMb : ((i : Int) != x.m) = true := by simpa using hM
                have hE := HEQ.out hN (.inr hM)
                rw [hE] at hcl' hsl
                have HLW : Hid (Bs wr (.slice aw (wantL.getD i []).length cw) (wantL.getD i []) ∧ Bs wr (.slice aw' (wantL.getD i []).length cw') (wantL.getD i [])) := ⟨hsl.grow hgr, hsw.grow hgr⟩
                clear hN hM hK hsl hsw HEQ hE
                generalize wantL.getD i [] = B at *
                generalize B.length = BL at *
                go_wp2
                refine wp_region_stable Grow [IsV (.int .i64 i), IsV (.pointer (some ⟨b0, 1, none⟩)), IsV (.int .i64 x.n), IsV (.bool true), IsV (.bool true), IsV (.pointer (some ⟨b0, 0, none⟩)), IsV (.int .i64 x.k), IsV (.bool false), IsV (.bool false), IsV (.int .i64 i), IsV (.pointer (some ⟨b0, 2, none⟩)), IsV (.int .i64 x.m), IsV (.bool true), IsV (.bool true), IsV (.bool true), IsV (.bool true), IsV (.slice aw BL cw), IsV (.string (strOfNums (B))), IsV (.slice (some ⟨bw, ow, none⟩) 9 l4), IsV (.int .i64 i), IsV (.pointer (some ⟨bw, ow + i, none⟩)), IsV (.slice aw' BL cw'), IsV (.string (strOfNums (B))), IsV (.bool false), IsV (.bool false)] (by kernel_rfl) (by kernel_rfl) rfl Grow.refl (fun _ _ _ => Grow.trans) ?_ ?_ ?_
                · repeat (refine List.forall_mem_cons.2 ⟨by first | exact IsV.stable _, ?_⟩)
                  exact fun R hR => nomatch hR
                · skip
                  refine StepsS.cons ?_ fun v0 => ⟨_, _, by simp only [Act.put, List.setIfInBounds_toArray, List.set_cons_succ, List.set_cons_zero]; first | done | rfl, by simp only [List.nil_append]; first | done | rfl, ?_⟩
                  · intro w1 hE hd
                    clear hd
                    go_wp2
                    exact ⟨_, rfl, Grow.refl _, rfl⟩
                  refine StepsS.cons ?_ fun v1 => ⟨_, _, by simp only [Act.put, List.setIfInBounds_toArray, List.set_cons_succ, List.set_cons_zero]; first | done | rfl, by simp only [List.nil_append, List.cons_append]; first | done | rfl, ?_⟩
                  · intro w1 hE hd
                    clear hd
                    go_wp2
                    exact ⟨_, rfl, Grow.refl _, rfl⟩
                  refine StepsS.cons ?_ fun v2 => ⟨_, _, by simp only [Act.put, List.setIfInBounds_toArray, List.set_cons_succ, List.set_cons_zero]; first | done | rfl, by simp only [List.nil_append, List.cons_append]; first | done | rfl, ?_⟩
                  · intro w1 hE hd
                    obtain rfl := IsV.eq (dep_at hd 0 rfl rfl rfl)
                    clear hd
                    have qq := hE.drew.at q1
                    go_wp2
                    exact ⟨_, rfl, Grow.refl _, rfl⟩
                  refine StepsS.cons ?_ fun v3 => ⟨_, _, by simp only [Act.put, List.setIfInBounds_toArray, List.set_cons_succ, List.set_cons_zero]; first | done | rfl, by simp only [List.nil_append, List.cons_append]; first | done | rfl, ?_⟩
                  · intro w1 hE hd
                    obtain rfl := IsV.eq (dep_at hd 0 rfl rfl rfl)
                    obtain rfl := IsV.eq (dep_at hd 1 rfl rfl rfl)
                    clear hd
                    go_wp2
                    exact ⟨_, rfl, Grow.refl _, rfl⟩
                  refine StepsS.cons ?_ fun v4 => ⟨_, _, by simp only [Act.put, List.setIfInBounds_toArray, List.set_cons_succ, List.set_cons_zero]; first | done | rfl, by simp only [List.nil_append, List.cons_append]; first | done | rfl, ?_⟩
                  · intro w1 hE hd
                    obtain rfl := IsV.eq (dep_at hd 0 rfl rfl rfl)
                    clear hd
                    go_wp2
                    exact ⟨_, rfl, Grow.refl _, rfl⟩
                  refine StepsS.cons ?_ fun v5 => ⟨_, _, by simp only [Act.put, List.setIfInBounds_toArray, List.set_cons_succ, List.set_cons_zero]; first | done | rfl, by simp only [List.nil_append, List.cons_append]; first | done | rfl, ?_⟩
                  · intro w1 hE hd
                    obtain rfl := IsV.eq (dep_at hd 0 rfl rfl rfl)
                    clear hd
                    go_wp2
                    exact ⟨_, rfl, Grow.refl _, rfl⟩
                  refine StepsS.cons ?_ fun v6 => ⟨_, _, by simp only [Act.put, List.setIfInBounds_toArray, List.set_cons_succ, List.set_cons_zero]; first | done | rfl, by simp only [List.nil_append, List.cons_append]; first | done | rfl, ?_⟩
                  · intro w1 hE hd
                    obtain rfl := IsV.eq (dep_at hd 0 rfl rfl rfl)
                    obtain rfl := IsV.eq (dep_at hd 1 rfl rfl rfl)
                    clear hd
                    have qq := hE.drew.at q0
                    go_wp2
                    exact ⟨_, rfl, Grow.refl _, rfl⟩
                  refine StepsS.cons ?_ fun v7 => ⟨_, _, by simp only [Act.put, List.setIfInBounds_toArray, List.set_cons_succ, List.set_cons_zero]; first | done | rfl, by simp only [List.nil_append, List.cons_append]; first | done | rfl, ?_⟩
                  · intro w1 hE hd
                    obtain rfl := IsV.eq (dep_at hd 0 rfl rfl rfl)
                    obtain rfl := IsV.eq (dep_at hd 1 rfl rfl rfl)
                    clear hd
                    go_wp2
                    exact ⟨_, rfl, Grow.refl _, rfl⟩
                  refine StepsS.cons ?_ fun v8 => ⟨_, _, by simp only [Act.put, List.setIfInBounds_toArray, List.set_cons_succ, List.set_cons_zero]; first | done | rfl, by simp only [List.nil_append, List.cons_append]; first | done | rfl, ?_⟩
                  · intro w1 hE hd
                    obtain rfl := IsV.eq (dep_at hd 0 rfl rfl rfl)
                    obtain rfl := IsV.eq (dep_at hd 1 rfl rfl rfl)
                    clear hd
                    go_wp2
                    exact ⟨_, rfl, Grow.refl _, rfl⟩
                  refine StepsS.cons ?_ fun v9 => ⟨_, _, by simp only [Act.put, List.setIfInBounds_toArray, List.set_cons_succ, List.set_cons_zero]; first | done | rfl, by simp only [List.nil_append, List.cons_append]; first | done | rfl, ?_⟩
                  · intro w1 hE hd
                    obtain rfl := IsV.eq (dep_at hd 0 rfl rfl rfl)
                    clear hd
                    go_wp2
                    exact ⟨_, rfl, Grow.refl _, rfl⟩
                  refine StepsS.cons ?_ fun v10 => ⟨_, _, by simp only [Act.put, List.setIfInBounds_toArray, List.set_cons_succ, List.set_cons_zero]; first | done | rfl, by simp only [List.nil_append, List.cons_append]; first | done | rfl, ?_⟩
                  · intro w1 hE hd
                    obtain rfl := IsV.eq (dep_at hd 0 rfl rfl rfl)
                    clear hd
                    go_wp2
                    exact ⟨_, rfl, Grow.refl _, rfl⟩
                  refine StepsS.cons ?_ fun v11 => ⟨_, _, by simp only [Act.put, List.setIfInBounds_toArray, List.set_cons_succ, List.set_cons_zero]; first | done | rfl, by simp only [List.nil_append, List.cons_append]; first | done | rfl, ?_⟩
                  · intro w1 hE hd
                    obtain rfl := IsV.eq (dep_at hd 0 rfl rfl rfl)
                    obtain rfl := IsV.eq (dep_at hd 1 rfl rfl rfl)
                    clear hd
                    have qq := hE.drew.at q2
                    go_wp2
                    exact ⟨_, rfl, Grow.refl _, rfl⟩
                  refine StepsS.cons ?_ fun v12 => ⟨_, _, by simp only [Act.put, List.setIfInBounds_toArray, List.set_cons_succ, List.set_cons_zero]; first | done | rfl, by simp only [List.nil_append, List.cons_append]; first | done | rfl, ?_⟩
                  · intro w1 hE hd
                    obtain rfl := IsV.eq (dep_at hd 0 rfl rfl rfl)
                    obtain rfl := IsV.eq (dep_at hd 1 rfl rfl rfl)
                    obtain rfl := IsV.eq (dep_at hd 2 rfl rfl rfl)
                    clear hd
                    go_wp2
                    exact ⟨_, rfl, Grow.refl _, rfl⟩
                  refine StepsS.cons ?_ fun v13 => ⟨_, _, by simp only [Act.put, List.setIfInBounds_toArray, List.set_cons_succ, List.set_cons_zero]; first | done | rfl, by simp only [List.nil_append, List.cons_append]; first | done | rfl, ?_⟩
                  · intro w1 hE hd
                    obtain rfl := IsV.eq (dep_at hd 0 rfl rfl rfl)
                    obtain rfl := IsV.eq (dep_at hd 1 rfl rfl rfl)
                    obtain rfl := IsV.eq (dep_at hd 2 rfl rfl rfl)
                    clear hd
                    go_wp2
                    exact ⟨_, rfl, Grow.refl _, rfl⟩
                  refine StepsS.cons ?_ fun v14 => ⟨_, _, by simp only [Act.put, List.setIfInBounds_toArray, List.set_cons_succ, List.set_cons_zero]; first | done | rfl, by simp only [List.nil_append, List.cons_append]; first | done | rfl, ?_⟩
                  · intro w1 hE hd
                    obtain rfl := IsV.eq (dep_at hd 0 rfl rfl rfl)
                    obtain rfl := IsV.eq (dep_at hd 1 rfl rfl rfl)
                    clear hd
                    go_wp2
                    exact ⟨_, rfl, Grow.refl _, rfl⟩
                  refine StepsS.cons ?_ fun v15 => ⟨_, _, by simp only [Act.put, List.setIfInBounds_toArray, List.set_cons_succ, List.set_cons_zero]; first | done | rfl, by simp only [List.nil_append, List.cons_append]; first | done | rfl, ?_⟩
                  · intro w1 hE hd
                    obtain rfl := IsV.eq (dep_at hd 0 rfl rfl rfl)
                    clear hd
                    go_wp2
                    exact ⟨_, rfl, Grow.refl _, rfl⟩
                  refine StepsS.cons ?_ fun v16 => ⟨_, _, by simp only [Act.put, List.setIfInBounds_toArray, List.set_cons_succ, List.set_cons_zero]; first | done | rfl, by simp only [List.nil_append, List.cons_append]; first | done | rfl, ?_⟩
                  · intro w1 hE hd
                    obtain rfl := IsV.eq (dep_at hd 0 rfl rfl rfl)
                    clear hd
                    go_wp2
                    exact ⟨_, rfl, Grow.refl _, rfl⟩
                  refine StepsS.cons ?_ fun v17 => ⟨_, _, by simp only [Act.put, List.setIfInBounds_toArray, List.set_cons_succ, List.set_cons_zero]; first | done | rfl, by simp only [List.nil_append, List.cons_append]; first | done | rfl, ?_⟩
                  · intro w1 hE hd
                    obtain rfl := IsV.eq (dep_at hd 0 rfl rfl rfl)
                    obtain rfl := IsV.eq (dep_at hd 1 rfl rfl rfl)
                    clear hd
                    have hcv := run_convert_bs (P := Tryz.prog) 34 5 9 Tryz.underlying34 Tryz.underlying5 Tryz.underlying9 (HLW.out.1.grow hE.drew)
                    go_wp2
                    exact ⟨_, rfl, Grow.refl _, rfl⟩
                  refine StepsS.cons ?_ fun v18 => ⟨_, _, by simp only [Act.put, List.setIfInBounds_toArray, List.set_cons_succ, List.set_cons_zero]; first | done | rfl, by simp only [List.nil_append, List.cons_append]; first | done | rfl, ?_⟩
                  · intro w1 hE hd
                    obtain rfl := IsV.eq (dep_at hd 0 rfl rfl rfl)
                    clear hd
                    go_wp2
                    exact ⟨_, rfl, Grow.refl _, rfl⟩
                  refine StepsS.cons ?_ fun v19 => ⟨_, _, by simp only [Act.put, List.setIfInBounds_toArray, List.set_cons_succ, List.set_cons_zero]; first | done | rfl, by simp only [List.nil_append, List.cons_append]; first | done | rfl, ?_⟩
                  · intro w1 hE hd
                    obtain rfl := IsV.eq (dep_at hd 0 rfl rfl rfl)
                    clear hd
                    go_wp2
                    exact ⟨_, rfl, Grow.refl _, rfl⟩
                  refine StepsS.cons ?_ fun v20 => ⟨_, _, by simp only [Act.put, List.setIfInBounds_toArray, List.set_cons_succ, List.set_cons_zero]; first | done | rfl, by simp only [List.nil_append, List.cons_append]; first | done | rfl, ?_⟩
                  · intro w1 hE hd
                    obtain rfl := IsV.eq (dep_at hd 0 rfl rfl rfl)
                    obtain rfl := IsV.eq (dep_at hd 1 rfl rfl rfl)
                    obtain rfl := IsV.eq (dep_at hd 2 rfl rfl rfl)
                    clear hd
                    go_wp2
                    exact ⟨_, rfl, Grow.refl _, rfl⟩
                  refine StepsS.cons ?_ fun v21 => ⟨_, _, by simp only [Act.put, List.setIfInBounds_toArray, List.set_cons_succ, List.set_cons_zero]; first | done | rfl, by simp only [List.nil_append, List.cons_append]; first | done | rfl, ?_⟩
                  · intro w1 hE hd
                    obtain rfl := IsV.eq (dep_at hd 0 rfl rfl rfl)
                    obtain rfl := IsV.eq (dep_at hd 1 rfl rfl rfl)
                    clear hd
                    have qq := hE.drew.at hcw'
                    go_wp2
                    exact ⟨_, rfl, Grow.refl _, rfl⟩
                  refine StepsS.cons ?_ fun v22 => ⟨_, _, by simp only [Act.put, List.setIfInBounds_toArray, List.set_cons_succ, List.set_cons_zero]; first | done | rfl, by simp only [List.nil_append, List.cons_append]; first | done | rfl, ?_⟩
                  · intro w1 hE hd
                    obtain rfl := IsV.eq (dep_at hd 0 rfl rfl rfl)
                    obtain rfl := IsV.eq (dep_at hd 1 rfl rfl rfl)
                    clear hd
                    have hcv := run_convert_bs (P := Tryz.prog) 34 5 9 Tryz.underlying34 Tryz.underlying5 Tryz.underlying9 (HLW.out.2.grow hE.drew)
                    go_wp2
                    exact ⟨_, rfl, Grow.refl _, rfl⟩
                  refine StepsS.cons ?_ fun v23 => ⟨_, _, by simp only [Act.put, List.setIfInBounds_toArray, List.set_cons_succ, List.set_cons_zero]; first | done | rfl, by simp only [List.nil_append, List.cons_append]; first | done | rfl, ?_⟩
                  · intro w1 hE hd
                    obtain rfl := IsV.eq (dep_at hd 0 rfl rfl rfl)
                    obtain rfl := IsV.eq (dep_at hd 1 rfl rfl rfl)
                    obtain rfl := IsV.eq (dep_at hd 2 rfl rfl rfl)
                    clear hd
                    go_wp2
                    exact ⟨_, rfl, Grow.refl _, rfl⟩
                  refine StepsS.cons ?_ fun v24 => ⟨_, _, by simp only [Act.put, List.setIfInBounds_toArray, List.set_cons_succ, List.set_cons_zero]; first | done | rfl, by simp only [List.nil_append, List.cons_append]; first | done | rfl, ?_⟩
                  · intro w1 hE hd
                    obtain rfl := IsV.eq (dep_at hd 0 rfl rfl rfl)
                    obtain rfl := IsV.eq (dep_at hd 1 rfl rfl rfl)
                    clear hd
                    go_wp2
                    exact ⟨_, rfl, Grow.refl _, rfl⟩
                  trivial
                intro wR hwR
                refine FinS.cons ?_; rintro _ rfl; refine ⟨_, by simp only [Act.put, List.setIfInBounds_toArray, List.set_cons_succ, List.set_cons_zero]; first | done | rfl, ?_⟩
                refine FinS.cons ?_; rintro _ rfl; refine ⟨_, by simp only [Act.put, List.setIfInBounds_toArray, List.set_cons_succ, List.set_cons_zero]; first | done | rfl, ?_⟩
                refine FinS.cons ?_; rintro _ rfl; refine ⟨_, by simp only [Act.put, List.setIfInBounds_toArray, List.set_cons_succ, List.set_cons_zero]; first | done | rfl, ?_⟩
                refine FinS.cons ?_; rintro _ rfl; refine ⟨_, by simp only [Act.put, List.setIfInBounds_toArray, List.set_cons_succ, List.set_cons_zero]; first | done | rfl, ?_⟩
                refine FinS.cons ?_; rintro _ rfl; refine ⟨_, by simp only [Act.put, List.setIfInBounds_toArray, List.set_cons_succ, List.set_cons_zero]; first | done | rfl, ?_⟩
                refine FinS.cons ?_; rintro _ rfl; refine ⟨_, by simp only [Act.put, List.setIfInBounds_toArray, List.set_cons_succ, List.set_cons_zero]; first | done | rfl, ?_⟩
                refine FinS.cons ?_; rintro _ rfl; refine ⟨_, by simp only [Act.put, List.setIfInBounds_toArray, List.set_cons_succ, List.set_cons_zero]; first | done | rfl, ?_⟩
                refine FinS.cons ?_; rintro _ rfl; refine ⟨_, by simp only [Act.put, List.setIfInBounds_toArray, List.set_cons_succ, List.set_cons_zero]; first | done | rfl, ?_⟩
                refine FinS.cons ?_; rintro _ rfl; refine ⟨_, by simp only [Act.put, List.setIfInBounds_toArray, List.set_cons_succ, List.set_cons_zero]; first | done | rfl, ?_⟩
                refine FinS.cons ?_; rintro _ rfl; refine ⟨_, by simp only [Act.put, List.setIfInBounds_toArray, List.set_cons_succ, List.set_cons_zero]; first | done | rfl, ?_⟩
                refine FinS.cons ?_; rintro _ rfl; refine ⟨_, by simp only [Act.put, List.setIfInBounds_toArray, List.set_cons_succ, List.set_cons_zero]; first | done | rfl, ?_⟩
                refine FinS.cons ?_; rintro _ rfl; refine ⟨_, by simp only [Act.put, List.setIfInBounds_toArray, List.set_cons_succ, List.set_cons_zero]; first | done | rfl, ?_⟩
                refine FinS.cons ?_; rintro _ rfl; refine ⟨_, by simp only [Act.put, List.setIfInBounds_toArray, List.set_cons_succ, List.set_cons_zero]; first | done | rfl, ?_⟩
                refine FinS.cons ?_; rintro _ rfl; refine ⟨_, by simp only [Act.put, List.setIfInBounds_toArray, List.set_cons_succ, List.set_cons_zero]; first | done | rfl, ?_⟩
                refine FinS.cons ?_; rintro _ rfl; refine ⟨_, by simp only [Act.put, List.setIfInBounds_toArray, List.set_cons_succ, List.set_cons_zero]; first | done | rfl, ?_⟩
                refine FinS.cons ?_; rintro _ rfl; refine ⟨_, by simp only [Act.put, List.setIfInBounds_toArray, List.set_cons_succ, List.set_cons_zero]; first | done | rfl, ?_⟩
                refine FinS.cons ?_; rintro _ rfl; refine ⟨_, by simp only [Act.put, List.setIfInBounds_toArray, List.set_cons_succ, List.set_cons_zero]; first | done | rfl, ?_⟩
                refine FinS.cons ?_; rintro _ rfl; refine ⟨_, by simp only [Act.put, List.setIfInBounds_toArray, List.set_cons_succ, List.set_cons_zero]; first | done | rfl, ?_⟩
                refine FinS.cons ?_; rintro _ rfl; refine ⟨_, by simp only [Act.put, List.setIfInBounds_toArray, List.set_cons_succ, List.set_cons_zero]; first | done | rfl, ?_⟩
                refine FinS.cons ?_; rintro _ rfl; refine ⟨_, by simp only [Act.put, List.setIfInBounds_toArray, List.set_cons_succ, List.set_cons_zero]; first | done | rfl, ?_⟩
                refine FinS.cons ?_; rintro _ rfl; refine ⟨_, by simp only [Act.put, List.setIfInBounds_toArray, List.set_cons_succ, List.set_cons_zero]; first | done | rfl, ?_⟩
                refine FinS.cons ?_; rintro _ rfl; refine ⟨_, by simp only [Act.put, List.setIfInBounds_toArray, List.set_cons_succ, List.set_cons_zero]; first | done | rfl, ?_⟩
                refine FinS.cons ?_; rintro _ rfl; refine ⟨_, by simp only [Act.put, List.setIfInBounds_toArray, List.set_cons_succ, List.set_cons_zero]; first | done | rfl, ?_⟩
                refine FinS.cons ?_; rintro _ rfl; refine ⟨_, by simp only [Act.put, List.setIfInBounds_toArray, List.set_cons_succ, List.set_cons_zero]; first | done | rfl, ?_⟩
                refine FinS.cons ?_; rintro _ rfl; refine ⟨_, by simp only [Act.put, List.setIfInBounds_toArray, List.set_cons_succ, List.set_cons_zero]; first | done | rfl, ?_⟩
                first | show Exit.then _ _ _ _ _ | show Exit.inBlock _ _ _ _ _
                have hgR := hgr.trans hwR.drew
                go_wp2
                go_roundw
                case rel => first | exact ⟨i + 1, by omega, by go_num, hgR⟩ | ((repeat apply Exists.intro); exact ⟨⟨i + 1, by omega, by go_num, hgR⟩, rfl⟩)
                case measure => simp [intOf]; omega
            · have hKb : (x.k != 2) = true := by simpa using hK
              have hE := HEQ.out hN (.inl hK)
              rw [hE] at hcl' hsl
              have HLW : Hid (Bs wr (.slice aw (wantL.getD i []).length cw) (wantL.getD i []) ∧ Bs wr (.slice aw' (wantL.getD i []).length cw') (wantL.getD i [])) := ⟨hsl.grow hgr, hsw.grow hgr⟩
              clear hN hK hsl hsw HEQ hE
              generalize wantL.getD i [] = B at *
              generalize B.length = BL at *
              go_wp2
              refine wp_region_stable Grow [IsV (.int .i64 i), IsV (.pointer (some ⟨b0, 1, none⟩)), IsV (.int .i64 x.n), IsV (.bool true), IsV (.bool true), IsV (.pointer (some ⟨b0, 0, none⟩)), IsV (.int .i64 x.k), IsV (.bool true), IsV (.bool true), IsV (undef), IsV (undef), IsV (undef), IsV (undef), IsV (.bool true), IsV (.bool true), IsV (.bool true), IsV (.slice aw BL cw), IsV (.string (strOfNums (B))), IsV (.slice (some ⟨bw, ow, none⟩) 9 l4), IsV (.int .i64 i), IsV (.pointer (some ⟨bw, ow + i, none⟩)), IsV (.slice aw' BL cw'), IsV (.string (strOfNums (B))), IsV (.bool false), IsV (.bool false)] (by kernel_rfl) (by kernel_rfl) rfl Grow.refl (fun _ _ _ => Grow.trans) ?_ ?_ ?_
              · repeat (refine List.forall_mem_cons.2 ⟨by first | exact IsV.stable _, ?_⟩)
                exact fun R hR => nomatch hR
              · skip
                refine StepsS.cons ?_ fun v0 => ⟨_, _, by simp only [Act.put, List.setIfInBounds_toArray, List.set_cons_succ, List.set_cons_zero]; first | done | rfl, by simp only [List.nil_append]; first | done | rfl, ?_⟩
                · intro w1 hE hd
                  clear hd
                  go_wp2
                  exact ⟨_, rfl, Grow.refl _, rfl⟩
                refine StepsS.cons ?_ fun v1 => ⟨_, _, by simp only [Act.put, List.setIfInBounds_toArray, List.set_cons_succ, List.set_cons_zero]; first | done | rfl, by simp only [List.nil_append, List.cons_append]; first | done | rfl, ?_⟩
                · intro w1 hE hd
                  clear hd
                  go_wp2
                  exact ⟨_, rfl, Grow.refl _, rfl⟩
                refine StepsS.cons ?_ fun v2 => ⟨_, _, by simp only [Act.put, List.setIfInBounds_toArray, List.set_cons_succ, List.set_cons_zero]; first | done | rfl, by simp only [List.nil_append, List.cons_append]; first | done | rfl, ?_⟩
                · intro w1 hE hd
                  obtain rfl := IsV.eq (dep_at hd 0 rfl rfl rfl)
                  clear hd
                  have qq := hE.drew.at q1
                  go_wp2
                  exact ⟨_, rfl, Grow.refl _, rfl⟩
                refine StepsS.cons ?_ fun v3 => ⟨_, _, by simp only [Act.put, List.setIfInBounds_toArray, List.set_cons_succ, List.set_cons_zero]; first | done | rfl, by simp only [List.nil_append, List.cons_append]; first | done | rfl, ?_⟩
                · intro w1 hE hd
                  obtain rfl := IsV.eq (dep_at hd 0 rfl rfl rfl)
                  obtain rfl := IsV.eq (dep_at hd 1 rfl rfl rfl)
                  clear hd
                  go_wp2
                  exact ⟨_, rfl, Grow.refl _, rfl⟩
                refine StepsS.cons ?_ fun v4 => ⟨_, _, by simp only [Act.put, List.setIfInBounds_toArray, List.set_cons_succ, List.set_cons_zero]; first | done | rfl, by simp only [List.nil_append, List.cons_append]; first | done | rfl, ?_⟩
                · intro w1 hE hd
                  obtain rfl := IsV.eq (dep_at hd 0 rfl rfl rfl)
                  clear hd
                  go_wp2
                  exact ⟨_, rfl, Grow.refl _, rfl⟩
                refine StepsS.cons ?_ fun v5 => ⟨_, _, by simp only [Act.put, List.setIfInBounds_toArray, List.set_cons_succ, List.set_cons_zero]; first | done | rfl, by simp only [List.nil_append, List.cons_append]; first | done | rfl, ?_⟩
                · intro w1 hE hd
                  obtain rfl := IsV.eq (dep_at hd 0 rfl rfl rfl)
                  clear hd
                  go_wp2
                  exact ⟨_, rfl, Grow.refl _, rfl⟩
                refine StepsS.cons ?_ fun v6 => ⟨_, _, by simp only [Act.put, List.setIfInBounds_toArray, List.set_cons_succ, List.set_cons_zero]; first | done | rfl, by simp only [List.nil_append, List.cons_append]; first | done | rfl, ?_⟩
                · intro w1 hE hd
                  obtain rfl := IsV.eq (dep_at hd 0 rfl rfl rfl)
                  obtain rfl := IsV.eq (dep_at hd 1 rfl rfl rfl)
                  clear hd
                  have qq := hE.drew.at q0
                  go_wp2
                  exact ⟨_, rfl, Grow.refl _, rfl⟩
                refine StepsS.cons ?_ fun v7 => ⟨_, _, by simp only [Act.put, List.setIfInBounds_toArray, List.set_cons_succ, List.set_cons_zero]; first | done | rfl, by simp only [List.nil_append, List.cons_append]; first | done | rfl, ?_⟩
                · intro w1 hE hd
                  obtain rfl := IsV.eq (dep_at hd 0 rfl rfl rfl)
                  obtain rfl := IsV.eq (dep_at hd 1 rfl rfl rfl)
                  clear hd
                  go_wp2
                  exact ⟨_, rfl, Grow.refl _, rfl⟩
                refine StepsS.cons ?_ fun v8 => ⟨_, _, by simp only [Act.put, List.setIfInBounds_toArray, List.set_cons_succ, List.set_cons_zero]; first | done | rfl, by simp only [List.nil_append, List.cons_append]; first | done | rfl, ?_⟩
                · intro w1 hE hd
                  obtain rfl := IsV.eq (dep_at hd 0 rfl rfl rfl)
                  obtain rfl := IsV.eq (dep_at hd 1 rfl rfl rfl)
                  clear hd
                  go_wp2
                  exact ⟨_, rfl, Grow.refl _, rfl⟩
                refine StepsS.cons ?_ fun v9 => ⟨_, _, by simp only [Act.put, List.setIfInBounds_toArray, List.set_cons_succ, List.set_cons_zero]; first | done | rfl, by simp only [List.nil_append, List.cons_append]; first | done | rfl, ?_⟩
                · intro w1 hE hd
                  obtain rfl := IsV.eq (dep_at hd 0 rfl rfl rfl)
                  clear hd
                  go_wp2
                  exact ⟨_, rfl, Grow.refl _, rfl⟩
                refine StepsS.cons ?_ fun v10 => ⟨_, _, by simp only [Act.put, List.setIfInBounds_toArray, List.set_cons_succ, List.set_cons_zero]; first | done | rfl, by simp only [List.nil_append, List.cons_append]; first | done | rfl, ?_⟩
                · intro w1 hE hd
                  obtain rfl := IsV.eq (dep_at hd 0 rfl rfl rfl)
                  clear hd
                  go_wp2
                  exact ⟨_, rfl, Grow.refl _, rfl⟩
                refine StepsS.cons ?_ fun v11 => ⟨_, _, by simp only [Act.put, List.setIfInBounds_toArray, List.set_cons_succ, List.set_cons_zero]; first | done | rfl, by simp only [List.nil_append, List.cons_append]; first | done | rfl, ?_⟩
                · intro w1 hE hd
                  obtain rfl := IsV.eq (dep_at hd 0 rfl rfl rfl)
                  obtain rfl := IsV.eq (dep_at hd 1 rfl rfl rfl)
                  clear hd
                  go_wp2
                  exact ⟨_, rfl, Grow.refl _, rfl⟩
                refine StepsS.cons ?_ fun v12 => ⟨_, _, by simp only [Act.put, List.setIfInBounds_toArray, List.set_cons_succ, List.set_cons_zero]; first | done | rfl, by simp only [List.nil_append, List.cons_append]; first | done | rfl, ?_⟩
                · intro w1 hE hd
                  obtain rfl := IsV.eq (dep_at hd 0 rfl rfl rfl)
                  obtain rfl := IsV.eq (dep_at hd 1 rfl rfl rfl)
                  obtain rfl := IsV.eq (dep_at hd 2 rfl rfl rfl)
                  clear hd
                  go_wp2
                  exact ⟨_, rfl, Grow.refl _, rfl⟩
                refine StepsS.cons ?_ fun v13 => ⟨_, _, by simp only [Act.put, List.setIfInBounds_toArray, List.set_cons_succ, List.set_cons_zero]; first | done | rfl, by simp only [List.nil_append, List.cons_append]; first | done | rfl, ?_⟩
                · intro w1 hE hd
                  obtain rfl := IsV.eq (dep_at hd 0 rfl rfl rfl)
                  obtain rfl := IsV.eq (dep_at hd 1 rfl rfl rfl)
                  obtain rfl := IsV.eq (dep_at hd 2 rfl rfl rfl)
                  clear hd
                  go_wp2
                  exact ⟨_, rfl, Grow.refl _, rfl⟩
                refine StepsS.cons ?_ fun v14 => ⟨_, _, by simp only [Act.put, List.setIfInBounds_toArray, List.set_cons_succ, List.set_cons_zero]; first | done | rfl, by simp only [List.nil_append, List.cons_append]; first | done | rfl, ?_⟩
                · intro w1 hE hd
                  obtain rfl := IsV.eq (dep_at hd 0 rfl rfl rfl)
                  obtain rfl := IsV.eq (dep_at hd 1 rfl rfl rfl)
                  clear hd
                  go_wp2
                  exact ⟨_, rfl, Grow.refl _, rfl⟩
                refine StepsS.cons ?_ fun v15 => ⟨_, _, by simp only [Act.put, List.setIfInBounds_toArray, List.set_cons_succ, List.set_cons_zero]; first | done | rfl, by simp only [List.nil_append, List.cons_append]; first | done | rfl, ?_⟩
                · intro w1 hE hd
                  obtain rfl := IsV.eq (dep_at hd 0 rfl rfl rfl)
                  clear hd
                  go_wp2
                  exact ⟨_, rfl, Grow.refl _, rfl⟩
                refine StepsS.cons ?_ fun v16 => ⟨_, _, by simp only [Act.put, List.setIfInBounds_toArray, List.set_cons_succ, List.set_cons_zero]; first | done | rfl, by simp only [List.nil_append, List.cons_append]; first | done | rfl, ?_⟩
                · intro w1 hE hd
                  obtain rfl := IsV.eq (dep_at hd 0 rfl rfl rfl)
                  clear hd
                  go_wp2
                  exact ⟨_, rfl, Grow.refl _, rfl⟩
                refine StepsS.cons ?_ fun v17 => ⟨_, _, by simp only [Act.put, List.setIfInBounds_toArray, List.set_cons_succ, List.set_cons_zero]; first | done | rfl, by simp only [List.nil_append, List.cons_append]; first | done | rfl, ?_⟩
                · intro w1 hE hd
                  obtain rfl := IsV.eq (dep_at hd 0 rfl rfl rfl)
                  obtain rfl := IsV.eq (dep_at hd 1 rfl rfl rfl)
                  clear hd
                  have hcv := run_convert_bs (P := Tryz.prog) 34 5 9 Tryz.underlying34 Tryz.underlying5 Tryz.underlying9 (HLW.out.1.grow hE.drew)
                  go_wp2
                  exact ⟨_, rfl, Grow.refl _, rfl⟩
                refine StepsS.cons ?_ fun v18 => ⟨_, _, by simp only [Act.put, List.setIfInBounds_toArray, List.set_cons_succ, List.set_cons_zero]; first | done | rfl, by simp only [List.nil_append, List.cons_append]; first | done | rfl, ?_⟩
                · intro w1 hE hd
                  obtain rfl := IsV.eq (dep_at hd 0 rfl rfl rfl)
                  clear hd
                  go_wp2
                  exact ⟨_, rfl, Grow.refl _, rfl⟩
                refine StepsS.cons ?_ fun v19 => ⟨_, _, by simp only [Act.put, List.setIfInBounds_toArray, List.set_cons_succ, List.set_cons_zero]; first | done | rfl, by simp only [List.nil_append, List.cons_append]; first | done | rfl, ?_⟩
                · intro w1 hE hd
                  obtain rfl := IsV.eq (dep_at hd 0 rfl rfl rfl)
                  clear hd
                  go_wp2
                  exact ⟨_, rfl, Grow.refl _, rfl⟩
                refine StepsS.cons ?_ fun v20 => ⟨_, _, by simp only [Act.put, List.setIfInBounds_toArray, List.set_cons_succ, List.set_cons_zero]; first | done | rfl, by simp only [List.nil_append, List.cons_append]; first | done | rfl, ?_⟩
                · intro w1 hE hd
                  obtain rfl := IsV.eq (dep_at hd 0 rfl rfl rfl)
                  obtain rfl := IsV.eq (dep_at hd 1 rfl rfl rfl)
                  obtain rfl := IsV.eq (dep_at hd 2 rfl rfl rfl)
                  clear hd
                  go_wp2
                  exact ⟨_, rfl, Grow.refl _, rfl⟩
                refine StepsS.cons ?_ fun v21 => ⟨_, _, by simp only [Act.put, List.setIfInBounds_toArray, List.set_cons_succ, List.set_cons_zero]; first | done | rfl, by simp only [List.nil_append, List.cons_append]; first | done | rfl, ?_⟩
                · intro w1 hE hd
                  obtain rfl := IsV.eq (dep_at hd 0 rfl rfl rfl)
                  obtain rfl := IsV.eq (dep_at hd 1 rfl rfl rfl)
                  clear hd
                  have qq := hE.drew.at hcw'
                  go_wp2
                  exact ⟨_, rfl, Grow.refl _, rfl⟩
                refine StepsS.cons ?_ fun v22 => ⟨_, _, by simp only [Act.put, List.setIfInBounds_toArray, List.set_cons_succ, List.set_cons_zero]; first | done | rfl, by simp only [List.nil_append, List.cons_append]; first | done | rfl, ?_⟩
                · intro w1 hE hd
                  obtain rfl := IsV.eq (dep_at hd 0 rfl rfl rfl)
                  obtain rfl := IsV.eq (dep_at hd 1 rfl rfl rfl)
                  clear hd
                  have hcv := run_convert_bs (P := Tryz.prog) 34 5 9 Tryz.underlying34 Tryz.underlying5 Tryz.underlying9 (HLW.out.2.grow hE.drew)
                  go_wp2
                  exact ⟨_, rfl, Grow.refl _, rfl⟩
                refine StepsS.cons ?_ fun v23 => ⟨_, _, by simp only [Act.put, List.setIfInBounds_toArray, List.set_cons_succ, List.set_cons_zero]; first | done | rfl, by simp only [List.nil_append, List.cons_append]; first | done | rfl, ?_⟩
                · intro w1 hE hd
                  obtain rfl := IsV.eq (dep_at hd 0 rfl rfl rfl)
                  obtain rfl := IsV.eq (dep_at hd 1 rfl rfl rfl)
                  obtain rfl := IsV.eq (dep_at hd 2 rfl rfl rfl)
                  clear hd
                  go_wp2
                  exact ⟨_, rfl, Grow.refl _, rfl⟩
                refine StepsS.cons ?_ fun v24 => ⟨_, _, by simp only [Act.put, List.setIfInBounds_toArray, List.set_cons_succ, List.set_cons_zero]; first | done | rfl, by simp only [List.nil_append, List.cons_append]; first | done | rfl, ?_⟩
                · intro w1 hE hd
                  obtain rfl := IsV.eq (dep_at hd 0 rfl rfl rfl)
                  obtain rfl := IsV.eq (dep_at hd 1 rfl rfl rfl)
                  clear hd
                  go_wp2
                  exact ⟨_, rfl, Grow.refl _, rfl⟩
                trivial
              intro wR hwR
              refine FinS.cons ?_; rintro _ rfl; refine ⟨_, by simp only [Act.put, List.setIfInBounds_toArray, List.set_cons_succ, List.set_cons_zero]; first | done | rfl, ?_⟩
              refine FinS.cons ?_; rintro _ rfl; refine ⟨_, by simp only [Act.put, List.setIfInBounds_toArray, List.set_cons_succ, List.set_cons_zero]; first | done | rfl, ?_⟩
              refine FinS.cons ?_; rintro _ rfl; refine ⟨_, by simp only [Act.put, List.setIfInBounds_toArray, List.set_cons_succ, List.set_cons_zero]; first | done | rfl, ?_⟩
              refine FinS.cons ?_; rintro _ rfl; refine ⟨_, by simp only [Act.put, List.setIfInBounds_toArray, List.set_cons_succ, List.set_cons_zero]; first | done | rfl, ?_⟩
              refine FinS.cons ?_; rintro _ rfl; refine ⟨_, by simp only [Act.put, List.setIfInBounds_toArray, List.set_cons_succ, List.set_cons_zero]; first | done | rfl, ?_⟩
              refine FinS.cons ?_; rintro _ rfl; refine ⟨_, by simp only [Act.put, List.setIfInBounds_toArray, List.set_cons_succ, List.set_cons_zero]; first | done | rfl, ?_⟩
              refine FinS.cons ?_; rintro _ rfl; refine ⟨_, by simp only [Act.put, List.setIfInBounds_toArray, List.set_cons_succ, List.set_cons_zero]; first | done | rfl, ?_⟩
              refine FinS.cons ?_; rintro _ rfl; refine ⟨_, by simp only [Act.put, List.setIfInBounds_toArray, List.set_cons_succ, List.set_cons_zero]; first | done | rfl, ?_⟩
              refine FinS.cons ?_; rintro _ rfl; refine ⟨_, by simp only [Act.put, List.setIfInBounds_toArray, List.set_cons_succ, List.set_cons_zero]; first | done | rfl, ?_⟩
              refine FinS.cons ?_; rintro _ rfl; refine ⟨_, by simp only [Act.put, List.setIfInBounds_toArray, List.set_cons_succ, List.set_cons_zero]; first | done | rfl, ?_⟩
              refine FinS.cons ?_; rintro _ rfl; refine ⟨_, by simp only [Act.put, List.setIfInBounds_toArray, List.set_cons_succ, List.set_cons_zero]; first | done | rfl, ?_⟩
              refine FinS.cons ?_; rintro _ rfl; refine ⟨_, by simp only [Act.put, List.setIfInBounds_toArray, List.set_cons_succ, List.set_cons_zero]; first | done | rfl, ?_⟩
              refine FinS.cons ?_; rintro _ rfl; refine ⟨_, by simp only [Act.put, List.setIfInBounds_toArray, List.set_cons_succ, List.set_cons_zero]; first | done | rfl, ?_⟩
              refine FinS.cons ?_; rintro _ rfl; refine ⟨_, by simp only [Act.put, List.setIfInBounds_toArray, List.set_cons_succ, List.set_cons_zero]; first | done | rfl, ?_⟩
              refine FinS.cons ?_; rintro _ rfl; refine ⟨_, by simp only [Act.put, List.setIfInBounds_toArray, List.set_cons_succ, List.set_cons_zero]; first | done | rfl, ?_⟩
              refine FinS.cons ?_; rintro _ rfl; refine ⟨_, by simp only [Act.put, List.setIfInBounds_toArray, List.set_cons_succ, List.set_cons_zero]; first | done | rfl, ?_⟩
              refine FinS.cons ?_; rintro _ rfl; refine ⟨_, by simp only [Act.put, List.setIfInBounds_toArray, List.set_cons_succ, List.set_cons_zero]; first | done | rfl, ?_⟩
              refine FinS.cons ?_; rintro _ rfl; refine ⟨_, by simp only [Act.put, List.setIfInBounds_toArray, List.set_cons_succ, List.set_cons_zero]; first | done | rfl, ?_⟩
              refine FinS.cons ?_; rintro _ rfl; refine ⟨_, by simp only [Act.put, List.setIfInBounds_toArray, List.set_cons_succ, List.set_cons_zero]; first | done | rfl, ?_⟩
              refine FinS.cons ?_; rintro _ rfl; refine ⟨_, by simp only [Act.put, List.setIfInBounds_toArray, List.set_cons_succ, List.set_cons_zero]; first | done | rfl, ?_⟩
              refine FinS.cons ?_; rintro _ rfl; refine ⟨_, by simp only [Act.put, List.setIfInBounds_toArray, List.set_cons_succ, List.set_cons_zero]; first | done | rfl, ?_⟩
              refine FinS.cons ?_; rintro _ rfl; refine ⟨_, by simp only [Act.put, List.setIfInBounds_toArray, List.set_cons_succ, List.set_cons_zero]; first | done | rfl, ?_⟩
              refine FinS.cons ?_; rintro _ rfl; refine ⟨_, by simp only [Act.put, List.setIfInBounds_toArray, List.set_cons_succ, List.set_cons_zero]; first | done | rfl, ?_⟩
              refine FinS.cons ?_; rintro _ rfl; refine ⟨_, by simp only [Act.put, List.setIfInBounds_toArray, List.set_cons_succ, List.set_cons_zero]; first | done | rfl, ?_⟩
              refine FinS.cons ?_; rintro _ rfl; refine ⟨_, by simp only [Act.put, List.setIfInBounds_toArray, List.set_cons_succ, List.set_cons_zero]; first | done | rfl, ?_⟩
              first | show Exit.then _ _ _ _ _ | show Exit.inBlock _ _ _ _ _
              have hgR := hgr.trans hwR.drew
              go_wp2
              go_roundw
              case rel => first | exact ⟨i + 1, by omega, by go_num, hgR⟩ | ((repeat apply Exists.intro); exact ⟨⟨i + 1, by omega, by go_num, hgR⟩, rfl⟩)
              case measure => simp [intOf]; omega
        · have hno : ¬ ((i : Int) < 9) := by omega
          have HRr : Hid (Bss wr (.slice (some ⟨bl, ol, none⟩) 9 e2) (blkL Z)) := Bss.grow HR6.out hgr
          have HLr : Hid (Bss wr (.slice (some ⟨bw, ow, none⟩) 9 l4) wantL) := Bss.grow HL6.out hgr
          have hSm := modelSame_any _ _ (blkL Z) wantL wr HRr.out HLr.out HZl.out wantL_length
          by_cases hEq : blkL Z = wantL
          · rw [show (blkL Z == wantL) = true from by simpa using hEq] at hSm
            clear HRr HLr HS6 HR6 HL6 hEq HP
            go_wp2_with fail
            refine hSm.mono ?_
            rintro r w7 ⟨rfl, hg7⟩
            clear hSm
            go_wp2
            go_ret
            exact ⟨rfl, (hgw6.trans hgr).trans hg7⟩
          · have hZ2 : blkL Z = doL wantL x := by
              rcases HP.out.2.2.1 with e | e
              · exact absurd e hEq
              · exact e
            rw [show (blkL Z == wantL) = false from beq_eq_false_iff_ne.2 hEq] at hSm
            have HZ2 : Hid (blkL Z = doL wantL x) := hZ2
            clear hEq hZ2
            go_wp2_with fail
            refine hSm.mono ?_
            rintro r w7 ⟨rfl, hg7⟩
            clear hSm
            have c0 := hg7.at q0
            have c1' := hg7.at q1
            have c2' := hg7.at q2
            have c3 := hg7.at q3
            have hDo := modelDo_any (.slice (some ⟨bw, ow, none⟩) 9 l4) (.agg #[.int .i64 x.k, .int .i64 x.n, .int .i64 x.m, .slice d1 d2 d3]) wantL x w7 (Bss.grow HLr.out hg7) ⟨_, rfl, q4.grow hg7⟩ wantL_length wantL_four HW.out
            clear q0 q1 q2 q3 q4
            go_wp2_with fail
            refine hDo.mono ?_
            rintro r w8 ⟨r8, rfl, hr8, hg8⟩
            clear hDo c0 c1' c2' c3
            have hSm : Calls Tryz.prog 11 #[.slice (some ⟨bl, ol, none⟩) 9 e2, r8] w8 fun e w' => e = .returned (.bool true) ∧ Grow w8 w' := by
              have h9 : (doL wantL x).length = 9 := by rw [doL_length, wantL_length]
              have := modelSame_any (.slice (some ⟨bl, ol, none⟩) 9 e2) r8 (doL wantL x) (doL wantL x) w8 (by have := Bss.grow HRr.out (hg7.trans hg8); rwa [HZ2.out] at this) hr8 h9 h9
              rwa [show (doL wantL x == doL wantL x) = true from by simp] at this
            obtain ⟨o1, o2, rfl⟩ := Sl.form hr8
            clear hr8
            generalize (doL wantL x).length = L8 at *
            go_wp2_with fail
            refine hSm.mono ?_
            rintro r w9 ⟨rfl, hg9⟩
            clear hSm
            go_wp2
            go_ret
            exact ⟨rfl, (((hgw6.trans hgr).trans hg7).trans hg8).trans hg9⟩
  · have hwb : (wrongE x != 0) = true := by simpa using hw
    clear hw
    generalize wrongE x = E at *
    go_wp2_with fail
    refine hWr.mono ?_
    rintro r w2 ⟨rfl, hg2⟩
    clear hWr
    go_wp2
    go_ret
    exact ⟨rfl, (hg0.trans hg1).trans hg2⟩

end Go.Proofs.YtjggiameajndgadGreatDoor
