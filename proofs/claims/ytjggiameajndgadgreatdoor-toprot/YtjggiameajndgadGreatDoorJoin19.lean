import Derived.Test.YtjggiameajndgadGreatDoorJoin18
/-
  mhtop.TopDisks returns true, whatever it is handed; nothing old turns.
-/
namespace Go.Proofs.YtjggiameajndgadGreatDoor
open Go.RowKit

theorem wantSame_any (v u : Value) (w : World) (h : Bss w v wantL) (g : Bss w u wantL) : Calls Tryz.prog 11 #[v, u] w fun e w' => e = .returned (.bool true) ∧ Grow w w' := by
  have := modelSame_any v u wantL wantL w h g wantL_length wantL_length
  rwa [show (wantL == wantL) = true from by simp] at this

/-- What lies in a list of numbers. -/
theorem Sl.ints {w : World} {ao : Option Addr} {n c : Nat} {xs : List Int} (h : Sl IntV w (.slice ao n c) xs) : n = xs.length ∧ ∀ k, k < n → ∃ b off, ao = some ⟨b, off, none⟩ ∧ w.cell? ⟨b, off + k, none⟩ = some (.int .i64 (xs.getD k 0)) := by
  have hn : n = xs.length := by
    obtain ⟨_, _, e⟩ := h.form
    injection e
  exact ⟨hn, fun k hk => h.intAt (by omega)⟩

set_option maxRecDepth 20000 in
set_option maxHeartbeats 6400000 in
theorem topDisks_walk (v : Value) (xs : List Int) (w : World) (h : Sl IntV w v xs) (hlaid : Laid w) :
    Calls Tryz.prog 3 #[v] w fun r w' => r = .returned (.bool true) ∧ Grow w w' := by
  obtain ⟨ao, n, cap, rfl⟩ : ∃ a n c, v = .slice a n c := by
    obtain ⟨a, c, e⟩ := h.form
    exact ⟨a, _, c, e⟩
  obtain ⟨hn, hx⟩ := h.ints
  clear hn
  generalize hxs : (fun k => xs.getD k 0) = f at *
  have hx : ∀ k, k < n → ∃ b off, ao = some ⟨b, off, none⟩ ∧ w.cell? ⟨b, off + k, none⟩ = some (.int .i64 (f k)) := fun k hk => by rw [← hxs]; exact hx k hk
  clear hxs h
  have hAl := topAlive_any w hlaid
  by_cases h30 : 30 < n
  · have hni : (30 : Int) < (n : Int) := by omega
    clear hlaid hx
    go_enter Tryz.func3, Tryz.ntmps3
    go_wp2_with fail
    refine hAl.mono ?_
    rintro r w1 ⟨rfl, hg1⟩
    go_wp2
    go_ret
    exact ⟨rfl, hg1⟩
  · have hni : ¬ (30 : Int) < (n : Int) := by omega
    have HX : Hid (∀ k, k < n → ∃ b off, ao = some ⟨b, off, none⟩ ∧ w.cell? ⟨b, off + k, none⟩ = some (.int .i64 (f k))) := hx
    have hn30 : n ≤ 30 := by omega
    clear hx h30
    go_enter Tryz.func3, Tryz.ntmps3
    go_wp2_with fail
    refine hAl.mono ?_
    rintro r w1 ⟨rfl, hg1⟩
    have hFu := topFull_any w1 (hlaid.grow hg1)
    clear hAl hlaid
    go_wp2_with fail
    refine hFu.mono ?_
    rintro r w2 ⟨r2, l2, rfl, hr2, hl2, hg2⟩
    clear hFu
    obtain ⟨a1, n1, s1, a2, n2, s2, rfl⟩ := hr2.form
    obtain ⟨W2, b1, hW2, hb1, hgA, HB1, k0, k1, HV⟩ := boxed hr2
    have HL2 : Hid (Bss W2 l2 wantL) := Bss.grow hl2 hgA
    have hgw2 := (hg1.trans hg2).trans hgA
    have Hb1 : Hid (w.heap.size ≤ b1) := by rw [Hid, hb1]; exact (hg1.trans hg2).size
    have HP : Hid (AllThere fullA ∧ worstN fullA = 0) := ⟨full_there, full_worst⟩
    obtain ⟨l3, l4, rfl⟩ := Sl.form hl2
    rw [wantL_length] at HL2 ⊢
    clear hr2 hl2 hgA hg1 hg2 k0 k1
    generalize fullA = a0 at *
    go_wp2
    rw [← hW2, ← hb1]
    clear hW2 hb1
    go_loopw [26] (fun i wr => ∃ (k : Nat) (x y : Value) (a : ArrP), k ≤ n ∧ i = .int .i64 k ∧ (∃ x1 x2 x3, x = .slice x1 x2 x3) ∧ (∃ x1 x2 x3, y = .slice x1 x2 x3) ∧ Hid (wr.heap[b1]? = some (.cells #[x, y] 27 (0, 0))) ∧ Hid (ArrV wr (.agg #[x, y]) a) ∧ Hid (AllThere a ∧ worstN a = 0) ∧ Hid (Bss wr (.slice l3 9 l4) wantL) ∧ Grow w wr) (fun i _ => n - (intOf i).toNat)
    case atStart => exact ⟨0, _, _, a0, by omega, rfl, ⟨_, _, _, rfl⟩, ⟨_, _, _, rfl⟩, HB1, HV, HP, HL2, hgw2⟩
    case round =>
      obtain ⟨k, x, y, a, hk, rfl, ⟨z1, z2, z3, rfl⟩, ⟨z4, z5, z6, rfl⟩, HB, HVr, HPr, HL, hgr⟩ := hrel
      clear HB1 HV HP HL2 hgw2
      have k0 := two_at0 HB.out
      have k1 := two_at1 HB.out
      have HAr : Hid (Arr a) := HPr.out.1.arr
      by_cases hlt : k < n
      · obtain ⟨bo, oo, rfl, hco⟩ := HX.out k hlt
        have hc := hgr.at hco
        have hki : (k : Int) < (n : Int) := by omega
        generalize f k = d at *
        clear hco
        by_cases hbad : d < 0 ∨ 4 ≤ d
        · have hcase : d < 0 ∨ (¬ d < 0 ∧ 4 ≤ d) := by omega
          clear hbad HL HPr HVr HB HAr
          rcases hcase with h1 | ⟨h1, h2⟩
          all_goals
            go_wp2
            go_ret
            exact ⟨rfl, hgr⟩
        · have h1 : ¬ d < 0 := by omega
          have h2 : ¬ 4 ≤ d := by omega
          have hd : 0 ≤ d ∧ d ≤ 3 := by omega
          have hDo := doGone_any _ a d wr HVr.out HAr.out hd
          have HPX : Hid (AllThere (goneL a d) ∧ Arr (goneL a d)) := ⟨HPr.out.1.gone HPr.out.2 hd, goneL_arr HAr.out d⟩
          clear hd hbad
          generalize goneL a d = X at *
          go_wp2_with fail
          refine hDo.mono ?_
          rintro r w4 ⟨r4, rfl, hr4, hg4⟩
          clear hDo k0 k1 hc
          obtain ⟨p1, p2, p3, q1, q2, q3, rfl⟩ := hr4.form
          obtain ⟨W4, b4, hW4, hb4, hgC, HB4, o0, o1, HY⟩ := boxed hr4
          have hgr4 := hg4.trans hgC
          have hBl := arrBlocks_any (.agg #[.slice p1 p2 p3, .slice q1 q2 q3]) X W4 HY.out HPX.out.2.whole HPX.out.2.short
          rw [HPX.out.1.blocks.1, HPX.out.1.blocks.2] at hBl
          clear hr4 hg4 hgC HB4
          subst hW4
          go_wp2_with fail
          rw [← hb4]
          refine hBl.mono ?_
          rintro r w5 ⟨r5, rfl, hr5, hg5⟩
          clear hBl hb4
          generalize w4.alloc (.cells #[.slice p1 p2 p3, .slice q1 q2 q3] 27) = W4 at *
          have hSm := wantSame_any r5 (.slice l3 9 l4) w5 hr5 (Bss.grow HL.out (hgr4.trans hg5))
          obtain ⟨e1, e2, rfl⟩ := Sl.form hr5
          have hgr5 := hgr4.trans hg5
          clear hr5
          generalize wantL.length = L5 at *
          go_wp2_with fail
          refine hSm.mono ?_
          rintro r w6 ⟨rfl, hg6⟩
          clear hSm
          have hg46 := hg5.trans hg6
          have hgr6 := hgr5.trans hg6
          have o06 := hg46.at o0
          have o16 := hg46.at o1
          have hMe := mendAll_any (.agg #[.slice p1 p2 p3, .slice q1 q2 q3]) X w6 (HY.out.grow hg46) HPX.out.2
          have HPM : Hid ((AllThere (mendAll X) ∧ worstN (mendAll X) = 0) ∧ Arr (mendAll X)) := ⟨HPX.out.1.mend, mendAll_arr HPX.out.2⟩
          clear HY o0 o1 HPX
          generalize mendAll X = Y at *
          go_wp2_with fail
          refine hMe.mono ?_
          rintro r w7 ⟨bs7, dv7, iv7, T7, rfl, hO7, -, hg7⟩
          clear hMe o06 o16
          have hr7 := hO7.arr
          obtain ⟨⟨u1, u2, u3, rfl⟩, u4, u5, u6, rfl⟩ := hO7.forms
          have hgr7 := hgr6.trans hg7
          obtain ⟨W7, hW7, HB7, j0, j1, HZ, r0, r1, f0, f1, HK⟩ := reboxed (hgr7.block' HB.out) hr7 HPM.out.2
          have hgw7 := HK.out.1 _ (hgr.trans hgr7) Hb1.out
          have hT7 : Two b1 w7 := ⟨_, _, _, _, _, _, _, hgr7.block' HB.out⟩
          have HL7 : Hid (Bss W7 (.slice l3 9 l4) wantL) := by
            rw [Hid, hW7]
            exact (((hT7.bss (Bss.grow HL.out hgr7) (by rw [wantL_length]; omega)).step (by_set w7 b1 0 _)).step (by_set _ b1 1 _)).plain
          have HPY : Hid (AllThere Y ∧ worstN Y = 0) := HPM.out.1
          clear hO7 hr7 HB HVr HPr HL HAr HK hT7 j0 j1
          subst hW7
          go_wp2
          go_roundw
          case rel => first | exact ⟨k + 1, _, _, Y, by omega, by go_num, ⟨_, _, _, rfl⟩, ⟨_, _, _, rfl⟩, HB7, HZ, HPY, HL7, hgw7⟩ | ((repeat apply Exists.intro); exact ⟨⟨k + 1, _, _, Y, by omega, by go_num, ⟨_, _, _, rfl⟩, ⟨_, _, _, rfl⟩, HB7, HZ, HPY, HL7, hgw7⟩, rfl⟩)
          case measure => simp [intOf]; omega
      · have hno : ¬ ((k : Int) < (n : Int)) := by omega
        have hBl := arrBlocks_any (.agg #[.slice z1 z2 z3, .slice z4 z5 z6]) a wr HVr.out HAr.out.whole HAr.out.short
        rw [HPr.out.1.blocks.1, HPr.out.1.blocks.2] at hBl
        go_wp2_with fail
        refine hBl.mono ?_
        rintro r w5 ⟨r5, rfl, hr5, hg5⟩
        clear hBl
        have hSm := wantSame_any r5 (.slice l3 9 l4) w5 hr5 (Bss.grow HL.out hg5)
        obtain ⟨e1, e2, rfl⟩ := Sl.form hr5
        clear hr5
        generalize wantL.length = L5 at *
        go_wp2_with fail
        refine hSm.mono ?_
        rintro r w6 ⟨rfl, hg6⟩
        clear hSm
        have hg46 := hg5.trans hg6
        have o0 := hg46.at k0
        have o1 := hg46.at k1
        have hWo := mendWorst_any (.agg #[.slice z1 z2 z3, .slice z4 z5 z6]) a w6 (HVr.out.grow hg46) HAr.out.whole HAr.out.short
        rw [HPr.out.2] at hWo
        clear HVr HPr HB HL HAr
        go_wp2_with fail
        refine hWo.mono ?_
        rintro r w7 ⟨rfl, hg7⟩
        clear hWo o0 o1 k0 k1
        go_wp2
        go_ret
        exact ⟨rfl, (hgr.trans hg46).trans hg7⟩

end Go.Proofs.YtjggiameajndgadGreatDoor

/-
  How an argument that is a slice of ints is read.
-/
namespace Go.Proofs.YtjggiameajndgadGreatDoor
open Go.ChangeShapes Go.WideShapes Go.ChangeAt Go.RowKit

set_option maxRecDepth 20000 in
theorem open_intl {H : Type} {enc : TypeId × Value → H} {W : World} {base : Nat} {sp : Nat → Bool} {held : Bool} {v : Value} {d : DataW H} {p : List MemPlace} {b0 : Nat} (hv : Value.okWide Tryz.prog W .any b0 22 v)
    (h : DataW.Trod enc Tryz.prog W base sp held 22 v d p) : ∃ l, Sl IntV W v l := by
  obtain ⟨a0, len0, cap0, rfl⟩ := okWide_slice Tryz.underlying22 hv
  obtain ⟨fuel, hf⟩ := h
  exact sl_of_trod (v := .slice a0 len0 cap0) Tryz.underlying22 Tryz.cellsInt (fun n u y hy => by
    obtain ⟨k, e, -⟩ := int_cell hy
    exact ⟨k, e⟩) (by simpa [Value.cells] using hf)

theorem int_le {n : Int} (h : (Lit.int .i64 n).wf = true) : n ≤ 9223372036854775807 := (bounds_i64 h).2

end Go.Proofs.YtjggiameajndgadGreatDoor

/-
  mhtop.TopRot returns true, whatever it is handed; nothing old turns.
-/
namespace Go.Proofs.YtjggiameajndgadGreatDoor
open Go.RowKit

theorem doRot_any (v : Value) (a : ArrP) (d j k : Nat) (w : World) (h : ArrV w v a) (ha : RotI j a) (hd : d < 4) (hj : j < 3) (hk : k < 8) :
    Calls Tryz.prog 9 #[v, .agg #[.int .i64 3, .int .i64 (3 * (d : Int) + (j : Int)), .int .i64 k, .int .i64 0, .int .i64 0, .int .i64 0, .slice none 0 0]] w fun e w' => ∃ r, e = .returned (.tuple #[r, .int .i64 0]) ∧ ArrV w' r (rotL a d j k) ∧ Grow w w' := by
  have := playDo_any v _ a ⟨3, 3 * (d : Int) + (j : Int), k, ⟨0, 0, 0, []⟩⟩ w h ha.arr ⟨_, rfl, Bs.nil w, by show 3 * (d : Int) + (j : Int) ≤ _; omega⟩
  have e1 : (3 * (d : Int) + (j : Int)) / 3 = d := by omega
  have e2 : (3 * (d : Int) + (j : Int)) % 3 = j := by omega
  have e3 : ¬ (3 * (d : Int) + (j : Int)) < 0 := by omega
  have hE : stepE a ⟨3, 3 * (d : Int) + (j : Int), k, ⟨0, 0, 0, []⟩⟩ = 0 := by
    show (if (3 : Int) = 1 then _ else if (3 : Int) = 2 then _ else if (3 : Int) = 3 then (if 3 * (d : Int) + (j : Int) < 0 then 6 else rotE a ((3 * (d : Int) + (j : Int)) / 3) ((3 * (d : Int) + (j : Int)) % 3) k) else _) = 0
    rw [if_neg (by decide), if_neg (by decide), if_pos rfl, if_neg e3, e1, e2]
    exact (ha.rot hd hj hk).1
  have hA : stepA a ⟨3, 3 * (d : Int) + (j : Int), k, ⟨0, 0, 0, []⟩⟩ = rotL a d j k := by
    show (if (3 : Int) = 1 then _ else if (3 : Int) = 2 then _ else if (3 : Int) = 3 then (if 3 * (d : Int) + (j : Int) < 0 then a else rotL a ((3 * (d : Int) + (j : Int)) / 3) ((3 * (d : Int) + (j : Int)) % 3) k) else _) = _
    rw [if_neg (by decide), if_neg (by decide), if_pos rfl, if_neg e3, e1, e2]
  rw [hE, hA] at this
  exact this

set_option maxRecDepth 20000 in
set_option maxHeartbeats 12800000 in
theorem topRot_walk (v : Value) (xs : List Int) (at' rounds : Int) (w : World) (h : Sl IntV w v xs) (hlaid : Laid w) :
    Calls Tryz.prog 4 #[v, .int .i64 at', .int .i64 rounds] w fun r w' => r = .returned (.bool true) ∧ Grow w w' := by
  obtain ⟨ao, n, cap, rfl⟩ : ∃ a n c, v = .slice a n c := by
    obtain ⟨a, c, e⟩ := h.form
    exact ⟨a, _, c, e⟩
  obtain ⟨-, hx⟩ := h.ints
  generalize hxs : (fun k => xs.getD k 0) = f at *
  have hx : ∀ k, k < n → ∃ b off, ao = some ⟨b, off, none⟩ ∧ w.cell? ⟨b, off + k, none⟩ = some (.int .i64 (f k)) := fun k hk => by rw [← hxs]; exact hx k hk
  clear hxs h
  have hAl := topAlive_any w hlaid
  by_cases hbad : n ≠ 3 ∨ at' < 0 ∨ 8 ≤ at' ∨ rounds < 0 ∨ 9 < rounds
  · have hcase : ((n : Int) != 3) = true ∨ (((n : Int) != 3) = false ∧ at' < 0) ∨ (((n : Int) != 3) = false ∧ ¬ at' < 0 ∧ 8 ≤ at') ∨ (((n : Int) != 3) = false ∧ ¬ at' < 0 ∧ ¬ 8 ≤ at' ∧ rounds < 0) ∨ (((n : Int) != 3) = false ∧ ¬ at' < 0 ∧ ¬ 8 ≤ at' ∧ ¬ rounds < 0 ∧ 9 < rounds) := by
      simp only [bne_iff_ne, bne_eq_false_iff_eq]
      omega
    clear hbad hlaid hx
    rcases hcase with h1 | ⟨h1, h2⟩ | ⟨h1, h2, h3⟩ | ⟨h1, h2, h3, h4⟩ | ⟨h1, h2, h3, h4, h5⟩
    all_goals
      go_enter Tryz.func4, Tryz.ntmps4
      go_wp2_with fail
      refine hAl.mono ?_
      rintro r w1 ⟨rfl, hg1⟩
      go_wp2
      go_ret
      exact ⟨rfl, hg1⟩
  · obtain rfl : n = 3 := by omega
    obtain ⟨A, rfl⟩ := Int.eq_ofNat_of_zero_le (a := at') (by omega)
    obtain ⟨R, rfl⟩ := Int.eq_ofNat_of_zero_le (a := rounds) (by omega)
    have hA8 : A < 8 := by omega
    have hR9 : R ≤ 9 := by omega
    have c2 : ¬ (A : Int) < 0 := by omega
    have c3 : ¬ 8 ≤ (A : Int) := by omega
    have c4 : ¬ (R : Int) < 0 := by omega
    have c5 : ¬ 9 < (R : Int) := by omega
    have HX : Hid (∀ k, k < 3 → ∃ b off, ao = some ⟨b, off, none⟩ ∧ w.cell? ⟨b, off + k, none⟩ = some (.int .i64 (f k))) := hx
    obtain ⟨bo, oo, rfl, -⟩ := hx 0 (by omega)
    clear hx hbad
    go_enter Tryz.func4, Tryz.ntmps4
    go_wp2_with fail
    refine hAl.mono ?_
    rintro r w1 ⟨rfl, hg1⟩
    have hFu := topFull_any w1 (hlaid.grow hg1)
    clear hAl hlaid
    go_wp2_with fail
    refine hFu.mono ?_
    rintro r w2 ⟨r2, l2, rfl, hr2, hl2, hg2⟩
    clear hFu
    obtain ⟨a1, n1, s1, a2, n2, s2, rfl⟩ := hr2.form
    obtain ⟨W2, b1, hW2, hb1, hgA, HB1, k0, k1, HV⟩ := boxed hr2
    have HL2 : Hid (Bss W2 l2 wantL) := Bss.grow hl2 hgA
    have hgw2 := (hg1.trans hg2).trans hgA
    have Hb1 : Hid (w.heap.size ≤ b1) := by rw [Hid, hb1]; exact (hg1.trans hg2).size
    have HP : Hid (AllThere fullA ∧ worstN fullA = 0) := ⟨full_there, full_worst⟩
    obtain ⟨l3, l4, rfl⟩ := Sl.form hl2
    rw [wantL_length] at HL2 ⊢
    clear hr2 hl2 hgA hg1 hg2 k0 k1
    generalize fullA = a0 at *
    go_wp2
    rw [← hW2, ← hb1]
    clear hW2 hb1
    go_loopw [41] (fun i wr => ∃ (k : Nat) (x y : Value) (a : ArrP), k ≤ R ∧ i = .int .i64 k ∧ (∃ x1 x2 x3, x = .slice x1 x2 x3) ∧ (∃ x1 x2 x3, y = .slice x1 x2 x3) ∧ Hid (wr.heap[b1]? = some (.cells #[x, y] 27 (0, 0))) ∧ Hid (ArrV wr (.agg #[x, y]) a) ∧ Hid (AllThere a ∧ worstN a = 0) ∧ Hid (Bss wr (.slice l3 9 l4) wantL) ∧ Grow w wr) (fun i _ => R - (intOf i).toNat)
    case atStart => exact ⟨0, _, _, a0, by omega, rfl, ⟨_, _, _, rfl⟩, ⟨_, _, _, rfl⟩, HB1, HV, HP, HL2, hgw2⟩
    case round =>
      obtain ⟨k, x, y, a, hk, rfl, ⟨z1, z2, z3, rfl⟩, ⟨z4, z5, z6, rfl⟩, HB, HVr, HPr, HL, hgr⟩ := hrel
      clear HB1 HV HP HL2 hgw2
      by_cases hlt : k < R
      · have hki : (k : Int) < (R : Int) := by omega
        have hkd : decide ((k : Int) < (R : Int)) = true := by simpa using hki
        have HI0 : Hid (RotI 0 a) := RotI.start HPr.out.1 HPr.out.2
        obtain ⟨wo, hwo⟩ : ∃ wo : World, wo = wr := ⟨_, rfl⟩
        subst hwo
        clear HPr
        go_wp2
        go_loopw [45] (fun i wr => ∃ (j : Nat) (x y : Value) (a : ArrP), j ≤ 3 ∧ i = .int .i64 j ∧ (∃ x1 x2 x3, x = .slice x1 x2 x3) ∧ (∃ x1 x2 x3, y = .slice x1 x2 x3) ∧ Hid (wr.heap[b1]? = some (.cells #[x, y] 27 (0, 0))) ∧ Hid (ArrV wr (.agg #[x, y]) a) ∧ Hid (RotI j a) ∧ Hid (Bss wr (.slice l3 9 l4) wantL) ∧ Grow w wr) (fun i _ => 3 - (intOf i).toNat)
        case atStart => exact ⟨0, _, _, a, by omega, rfl, ⟨_, _, _, rfl⟩, ⟨_, _, _, rfl⟩, HB, HVr, HI0, HL, hgr⟩
        case round =>
          obtain ⟨j, x, y, a', hj, rfl, ⟨x1, x2, x3, rfl⟩, ⟨x4, x5, x6, rfl⟩, HB', HV', HI', HL', hgr'⟩ := hrel
          clear HB HVr HI0 HL hgr
          have k0 := two_at0 HB'.out
          have k1 := two_at1 HB'.out
          by_cases hj3 : j < 3
          · obtain ⟨bo', oo', ebo, hco⟩ := HX.out j hj3
            injection ebo with ebo
            injection ebo with ebo1 ebo2
            subst ebo1 ebo2
            have hc := hgr'.at hco
            have hji : (j : Int) < 3 := by omega
            generalize f j = d at *
            clear hco
            by_cases hbd : d < 0 ∨ 4 ≤ d
            · have hcase : d < 0 ∨ (¬ d < 0 ∧ 4 ≤ d) := by omega
              clear hbd HL' HI' HV' HB'
              rcases hcase with h1 | ⟨h1, h2⟩
              all_goals
                go_wp2
                go_ret
                exact ⟨rfl, hgr'⟩
            · have h1 : ¬ d < 0 := by omega
              have h2 : ¬ 4 ≤ d := by omega
              obtain ⟨d, rfl⟩ := Int.eq_ofNat_of_zero_le (a := d) (by omega)
              have hd4 : d < 4 := by omega
              have hDo := doRot_any _ a' d j A wr HV'.out HI'.out hd4 hj3 hA8
              have HIX : Hid (RotI (j + 1) (rotL a' d j A)) := (HI'.out.rot hd4 hj3 hA8).2
              clear hbd
              generalize rotL a' d j A = X at *
              go_wp2_with fail
              refine hDo.mono ?_
              rintro r w4 ⟨r4, rfl, hr4, hg4⟩
              clear hDo k0 k1 hc
              obtain ⟨p1, p2, p3, q1, q2, q3, rfl⟩ := hr4.form
              obtain ⟨W4, hW4, HB4, j0, j1, HY, r0, r1, f0, f1, HK⟩ := reboxed (hg4.block' HB'.out) hr4 HIX.out.arr
              have hgw4 := HK.out.1 _ (hgr'.trans hg4) Hb1.out
              have hT4 : Two b1 w4 := ⟨_, _, _, _, _, _, _, hg4.block' HB'.out⟩
              have HL4 : Hid (Bss W4 (.slice l3 9 l4) wantL) := by
                rw [Hid, hW4]
                exact (((hT4.bss (Bss.grow HL'.out hg4) (by rw [wantL_length]; omega)).step (by_set w4 b1 0 _)).step (by_set _ b1 1 _)).plain
              clear hr4 hg4 HB' HV' HI' HL' HK hT4 j0 j1
              subst hW4
              go_wp2
              go_roundw
              case rel => first | exact ⟨j + 1, _, _, X, by omega, by go_num, ⟨_, _, _, rfl⟩, ⟨_, _, _, rfl⟩, HB4, HY, HIX, HL4, hgw4⟩ | ((repeat apply Exists.intro); exact ⟨⟨j + 1, _, _, X, by omega, by go_num, ⟨_, _, _, rfl⟩, ⟨_, _, _, rfl⟩, HB4, HY, HIX, HL4, hgw4⟩, rfl⟩)
              case measure => simp [intOf]; omega
          · have HJ : Hid (j = 3) := by rw [Hid]; omega
            have hnj : ¬ ((j : Int) < 3) := by omega
            have HI3 : Hid (RotI 3 a') := by have := HI'.out; rw [HJ.out] at this; exact this
            have hAr := HI3.out.arr
            have hBl := arrBlocks_any (.agg #[.slice x1 x2 x3, .slice x4 x5 x6]) a' wr HV'.out hAr.whole hAr.short
            rw [HI3.out.there.blocks.1, HI3.out.there.blocks.2] at hBl
            clear hj hj3 HI'
            go_wp2_with fail
            refine hBl.mono ?_
            rintro r w5 ⟨r5, rfl, hr5, hg5⟩
            clear hBl
            have hSm := wantSame_any r5 (.slice l3 9 l4) w5 hr5 (Bss.grow HL'.out hg5)
            obtain ⟨e1, e2, rfl⟩ := Sl.form hr5
            clear hr5
            generalize wantL.length = L5 at *
            go_wp2_with fail
            refine hSm.mono ?_
            rintro r w6 ⟨rfl, hg6⟩
            clear hSm
            have hg46 := hg5.trans hg6
            have o0 := hg46.at k0
            have o1 := hg46.at k1
            have hWo := mendWorst_any (.agg #[.slice x1 x2 x3, .slice x4 x5 x6]) a' w6 (HV'.out.grow hg46) hAr.whole hAr.short
            rw [HI3.out.worst] at hWo
            go_wp2_with fail
            refine hWo.mono ?_
            rintro r w7 ⟨rfl, hg7⟩
            clear hWo o0 o1
            have hg47 := hg46.trans hg7
            have o0 := hg47.at k0
            have o1 := hg47.at k1
            have hMe := mendAll_any (.agg #[.slice x1 x2 x3, .slice x4 x5 x6]) a' w7 (HV'.out.grow hg47) hAr
            have HPM : Hid ((AllThere (mendAll a') ∧ worstN (mendAll a') = 0) ∧ Arr (mendAll a')) := ⟨HI3.out.there.mend, mendAll_arr hAr⟩
            clear k0 k1 hAr HI3
            generalize mendAll a' = Y at *
            go_wp2_with fail
            refine hMe.mono ?_
            rintro r w8 ⟨bs8, dv8, iv8, T8, rfl, hO8, -, hg8⟩
            clear hMe o0 o1
            have hr8 := hO8.arr
            obtain ⟨⟨u1, u2, u3, rfl⟩, u4, u5, u6, rfl⟩ := hO8.forms
            have hgr8 := hg47.trans hg8
            obtain ⟨W8, hW8, HB8, j0, j1, HZ, r0, r1, f0, f1, HK⟩ := reboxed (hgr8.block' HB'.out) hr8 HPM.out.2
            have hgw8 := HK.out.1 _ (hgr'.trans hgr8) Hb1.out
            have hT8 : Two b1 w8 := ⟨_, _, _, _, _, _, _, hgr8.block' HB'.out⟩
            have HL8 : Hid (Bss W8 (.slice l3 9 l4) wantL) := by
              rw [Hid, hW8]
              exact (((hT8.bss (Bss.grow HL'.out hgr8) (by rw [wantL_length]; omega)).step (by_set w8 b1 0 _)).step (by_set _ b1 1 _)).plain
            have HPY : Hid (AllThere Y ∧ worstN Y = 0) := HPM.out.1
            clear hO8 hr8 HB' HV' HL' HK hT8 j0 j1 hkd
            subst hW8
            go_wp2
            go_roundw
            case rel => first | exact ⟨k + 1, _, _, Y, by omega, by go_num, ⟨_, _, _, rfl⟩, ⟨_, _, _, rfl⟩, HB8, HZ, HPY, HL8, hgw8⟩ | ((repeat apply Exists.intro); exact ⟨⟨k + 1, _, _, Y, by omega, by go_num, ⟨_, _, _, rfl⟩, ⟨_, _, _, rfl⟩, HB8, HZ, HPY, HL8, hgw8⟩, rfl⟩)
            case measure => simp [intOf]; omega
      · have hno : ¬ ((k : Int) < (R : Int)) := by omega
        have k0 := two_at0 HB.out
        have k1 := two_at1 HB.out
        have hAr := HPr.out.1.arr
        have hWo := mendWorst_any (.agg #[.slice z1 z2 z3, .slice z4 z5 z6]) a wr HVr.out hAr.whole hAr.short
        rw [HPr.out.2] at hWo
        clear HVr HPr HB HL hAr
        go_wp2_with fail
        refine hWo.mono ?_
        rintro r w7 ⟨rfl, hg7⟩
        clear hWo k0 k1
        go_wp2
        go_ret
        exact ⟨rfl, hgr.trans hg7⟩

end Go.Proofs.YtjggiameajndgadGreatDoor
