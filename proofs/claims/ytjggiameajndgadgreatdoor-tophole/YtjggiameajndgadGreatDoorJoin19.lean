import Derived.Test.YtjggiameajndgadGreatDoorJoin18
/-
  mhtop.TopDisks returns true, whatever it is handed; nothing old turns.
-/
namespace Go.Proofs.YtjggiameajndgadGreatDoor
open Go.RowKit

theorem wantSame_any (v u : Value) (w : World) (h : Bss w v wantL) (g : Bss w u wantL) : Calls Tryz.prog 11 #[v, u] w fun e w' => e = .returned (.bool true) ∧ Grow w w' := by
  have := modelSame_any v u wantL wantL w h g wantL_length wantL_length
  rwa [show (wantL == wantL) = true from by simp] at this

/-- What lies in a list of numbers. -/
theorem Sl.ints {w : World} {ao : Option Addr} {n c : Nat} {xs : List Int} (h : Sl IntV w (.slice ao n c) xs) : n = xs.length ∧ ∀ k, k < n → ∃ b off, ao = some ⟨b, off, none⟩ ∧ w.cell? ⟨b, off + k, none⟩ = some (.int .i64 (xs.getD k 0)) := by
  have hn : n = xs.length := by
    obtain ⟨_, _, e⟩ := h.form
    injection e
  exact ⟨hn, fun k hk => h.intAt (by omega)⟩

set_option maxRecDepth 20000 in
set_option maxHeartbeats 6400000 in
theorem topDisks_walk (v : Value) (xs : List Int) (w : World) (h : Sl IntV w v xs) (hlaid : Laid w) :
    Calls Tryz.prog 3 #[v] w fun r w' => r = .returned (.bool true) ∧ Grow w w' := by
  obtain ⟨ao, n, cap, rfl⟩ : ∃ a n c, v = .slice a n c := by
    obtain ⟨a, c, e⟩ := h.form
    exact ⟨a, _, c, e⟩
  obtain ⟨hn, hx⟩ := h.ints
  clear hn
  generalize hxs : (fun k => xs.getD k 0) = f at *
  have hx : ∀ k, k < n → ∃ b off, ao = some ⟨b, off, none⟩ ∧ w.cell? ⟨b, off + k, none⟩ = some (.int .i64 (f k)) := fun k hk => by rw [← hxs]; exact hx k hk
  clear hxs h
  have hAl := topAlive_any w hlaid
  by_cases h30 : 30 < n
  · have hni : (30 : Int) < (n : Int) := by omega
    clear hlaid hx
    go_enter Tryz.func3, Tryz.ntmps3
    go_wp2_with fail
    refine hAl.mono ?_
    rintro r w1 ⟨rfl, hg1⟩
    go_wp2
    go_ret
    exact ⟨rfl, hg1⟩
  · have hni : ¬ (30 : Int) < (n : Int) := by omega
    have HX : Hid (∀ k, k < n → ∃ b off, ao = some ⟨b, off, none⟩ ∧ w.cell? ⟨b, off + k, none⟩ = some (.int .i64 (f k))) := hx
    have hn30 : n ≤ 30 := by omega
    clear hx h30
    go_enter Tryz.func3, Tryz.ntmps3
    go_wp2_with fail
    refine hAl.mono ?_
    rintro r w1 ⟨rfl, hg1⟩
    have hFu := topFull_any w1 (hlaid.grow hg1)
    clear hAl hlaid
    go_wp2_with fail
    refine hFu.mono ?_
    rintro r w2 ⟨r2, l2, rfl, hr2, hl2, hg2⟩
    clear hFu
    obtain ⟨a1, n1, s1, a2, n2, s2, rfl⟩ := hr2.form
    obtain ⟨W2, b1, hW2, hb1, hgA, HB1, k0, k1, HV⟩ := boxed hr2
    have HL2 : Hid (Bss W2 l2 wantL) := Bss.grow hl2 hgA
    have hgw2 := (hg1.trans hg2).trans hgA
    have Hb1 : Hid (w.heap.size ≤ b1) := by rw [Hid, hb1]; exact (hg1.trans hg2).size
    have HP : Hid (AllThere fullA ∧ worstN fullA = 0) := ⟨full_there, full_worst⟩
    obtain ⟨l3, l4, rfl⟩ := Sl.form hl2
    rw [wantL_length] at HL2 ⊢
    clear hr2 hl2 hgA hg1 hg2 k0 k1
    generalize fullA = a0 at *
    go_wp2
    rw [← hW2, ← hb1]
    clear hW2 hb1
    go_loopw [26] (fun i wr => ∃ (k : Nat) (x y : Value) (a : ArrP), k ≤ n ∧ i = .int .i64 k ∧ (∃ x1 x2 x3, x = .slice x1 x2 x3) ∧ (∃ x1 x2 x3, y = .slice x1 x2 x3) ∧ Hid (wr.heap[b1]? = some (.cells #[x, y] 27 (0, 0))) ∧ Hid (ArrV wr (.agg #[x, y]) a) ∧ Hid (AllThere a ∧ worstN a = 0) ∧ Hid (Bss wr (.slice l3 9 l4) wantL) ∧ Grow w wr) (fun i _ => n - (intOf i).toNat)
    case atStart => exact ⟨0, _, _, a0, by omega, rfl, ⟨_, _, _, rfl⟩, ⟨_, _, _, rfl⟩, HB1, HV, HP, HL2, hgw2⟩
    case round =>
      obtain ⟨k, x, y, a, hk, rfl, ⟨z1, z2, z3, rfl⟩, ⟨z4, z5, z6, rfl⟩, HB, HVr, HPr, HL, hgr⟩ := hrel
      clear HB1 HV HP HL2 hgw2
      have k0 := two_at0 HB.out
      have k1 := two_at1 HB.out
      have HAr : Hid (Arr a) := HPr.out.1.arr
      by_cases hlt : k < n
      · obtain ⟨bo, oo, rfl, hco⟩ := HX.out k hlt
        have hc := hgr.at hco
        have hki : (k : Int) < (n : Int) := by omega
        generalize f k = d at *
        clear hco
        by_cases hbad : d < 0 ∨ 4 ≤ d
        · have hcase : d < 0 ∨ (¬ d < 0 ∧ 4 ≤ d) := by omega
          clear hbad HL HPr HVr HB HAr
          rcases hcase with h1 | ⟨h1, h2⟩
          all_goals
            go_wp2
            go_ret
            exact ⟨rfl, hgr⟩
        · have h1 : ¬ d < 0 := by omega
          have h2 : ¬ 4 ≤ d := by omega
          have hd : 0 ≤ d ∧ d ≤ 3 := by omega
          have hDo := doGone_any _ a d wr HVr.out HAr.out hd
          have HPX : Hid (AllThere (goneL a d) ∧ Arr (goneL a d)) := ⟨HPr.out.1.gone HPr.out.2 hd, goneL_arr HAr.out d⟩
          clear hd hbad
          generalize goneL a d = X at *
          go_wp2_with fail
          refine hDo.mono ?_
          rintro r w4 ⟨r4, rfl, hr4, hg4⟩
          clear hDo k0 k1 hc
          obtain ⟨p1, p2, p3, q1, q2, q3, rfl⟩ := hr4.form
          obtain ⟨W4, b4, hW4, hb4, hgC, HB4, o0, o1, HY⟩ := boxed hr4
          have hgr4 := hg4.trans hgC
          have hBl := arrBlocks_any (.agg #[.slice p1 p2 p3, .slice q1 q2 q3]) X W4 HY.out HPX.out.2.whole HPX.out.2.short
          rw [HPX.out.1.blocks.1, HPX.out.1.blocks.2] at hBl
          clear hr4 hg4 hgC HB4
          subst hW4
          go_wp2_with fail
          rw [← hb4]
          refine hBl.mono ?_
          rintro r w5 ⟨r5, rfl, hr5, hg5⟩
          clear hBl hb4
          generalize w4.alloc (.cells #[.slice p1 p2 p3, .slice q1 q2 q3] 27) = W4 at *
          have hSm := wantSame_any r5 (.slice l3 9 l4) w5 hr5 (Bss.grow HL.out (hgr4.trans hg5))
          obtain ⟨e1, e2, rfl⟩ := Sl.form hr5
          have hgr5 := hgr4.trans hg5
          clear hr5
          generalize wantL.length = L5 at *
          go_wp2_with fail
          refine hSm.mono ?_
          rintro r w6 ⟨rfl, hg6⟩
          clear hSm
          have hg46 := hg5.trans hg6
          have hgr6 := hgr5.trans hg6
          have o06 := hg46.at o0
          have o16 := hg46.at o1
          have hMe := mendAll_any (.agg #[.slice p1 p2 p3, .slice q1 q2 q3]) X w6 (HY.out.grow hg46) HPX.out.2
          have HPM : Hid ((AllThere (mendAll X) ∧ worstN (mendAll X) = 0) ∧ Arr (mendAll X)) := ⟨HPX.out.1.mend, mendAll_arr HPX.out.2⟩
          clear HY o0 o1 HPX
          generalize mendAll X = Y at *
          go_wp2_with fail
          refine hMe.mono ?_
          rintro r w7 ⟨bs7, dv7, iv7, T7, rfl, hO7, -, hg7⟩
          clear hMe o06 o16
          have hr7 := hO7.arr
          obtain ⟨⟨u1, u2, u3, rfl⟩, u4, u5, u6, rfl⟩ := hO7.forms
          have hgr7 := hgr6.trans hg7
          obtain ⟨W7, hW7, HB7, j0, j1, HZ, r0, r1, f0, f1, HK⟩ := reboxed (hgr7.block' HB.out) hr7 HPM.out.2
          have hgw7 := HK.out.1 _ (hgr.trans hgr7) Hb1.out
          have hT7 : Two b1 w7 := ⟨_, _, _, _, _, _, _, hgr7.block' HB.out⟩
          have HL7 : Hid (Bss W7 (.slice l3 9 l4) wantL) := by
            rw [Hid, hW7]
            exact (((hT7.bss (Bss.grow HL.out hgr7) (by rw [wantL_length]; omega)).step (by_set w7 b1 0 _)).step (by_set _ b1 1 _)).plain
          have HPY : Hid (AllThere Y ∧ worstN Y = 0) := HPM.out.1
          clear hO7 hr7 HB HVr HPr HL HAr HK hT7 j0 j1
          subst hW7
          go_wp2
          go_roundw
          case rel => first | exact ⟨k + 1, _, _, Y, by omega, by go_num, ⟨_, _, _, rfl⟩, ⟨_, _, _, rfl⟩, HB7, HZ, HPY, HL7, hgw7⟩ | ((repeat apply Exists.intro); exact ⟨⟨k + 1, _, _, Y, by omega, by go_num, ⟨_, _, _, rfl⟩, ⟨_, _, _, rfl⟩, HB7, HZ, HPY, HL7, hgw7⟩, rfl⟩)
          case measure => simp [intOf]; omega
      · have hno : ¬ ((k : Int) < (n : Int)) := by omega
        have hBl := arrBlocks_any (.agg #[.slice z1 z2 z3, .slice z4 z5 z6]) a wr HVr.out HAr.out.whole HAr.out.short
        rw [HPr.out.1.blocks.1, HPr.out.1.blocks.2] at hBl
        go_wp2_with fail
        refine hBl.mono ?_
        rintro r w5 ⟨r5, rfl, hr5, hg5⟩
        clear hBl
        have hSm := wantSame_any r5 (.slice l3 9 l4) w5 hr5 (Bss.grow HL.out hg5)
        obtain ⟨e1, e2, rfl⟩ := Sl.form hr5
        clear hr5
        generalize wantL.length = L5 at *
        go_wp2_with fail
        refine hSm.mono ?_
        rintro r w6 ⟨rfl, hg6⟩
        clear hSm
        have hg46 := hg5.trans hg6
        have o0 := hg46.at k0
        have o1 := hg46.at k1
        have hWo := mendWorst_any (.agg #[.slice z1 z2 z3, .slice z4 z5 z6]) a w6 (HVr.out.grow hg46) HAr.out.whole HAr.out.short
        rw [HPr.out.2] at hWo
        clear HVr HPr HB HL HAr
        go_wp2_with fail
        refine hWo.mono ?_
        rintro r w7 ⟨rfl, hg7⟩
        clear hWo o0 o1 k0 k1
        go_wp2
        go_ret
        exact ⟨rfl, (hgr.trans hg46).trans hg7⟩

end Go.Proofs.YtjggiameajndgadGreatDoor

/-
  How an argument that is a slice of ints is read.
-/
namespace Go.Proofs.YtjggiameajndgadGreatDoor
open Go.ChangeShapes Go.WideShapes Go.ChangeAt Go.RowKit

set_option maxRecDepth 20000 in
theorem open_intl {H : Type} {enc : TypeId × Value → H} {W : World} {base : Nat} {sp : Nat → Bool} {held : Bool} {v : Value} {d : DataW H} {p : List MemPlace} {b0 : Nat} (hv : Value.okWide Tryz.prog W .any b0 22 v)
    (h : DataW.Trod enc Tryz.prog W base sp held 22 v d p) : ∃ l, Sl IntV W v l := by
  obtain ⟨a0, len0, cap0, rfl⟩ := okWide_slice Tryz.underlying22 hv
  obtain ⟨fuel, hf⟩ := h
  exact sl_of_trod (v := .slice a0 len0 cap0) Tryz.underlying22 Tryz.cellsInt (fun n u y hy => by
    obtain ⟨k, e, -⟩ := int_cell hy
    exact ⟨k, e⟩) (by simpa [Value.cells] using hf)

theorem int_le {n : Int} (h : (Lit.int .i64 n).wf = true) : n ≤ 9223372036854775807 := (bounds_i64 h).2

end Go.Proofs.YtjggiameajndgadGreatDoor
