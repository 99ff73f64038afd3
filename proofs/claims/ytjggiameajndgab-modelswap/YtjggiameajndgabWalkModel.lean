/-
  What the program's model.Do returns, by the closures that tell what each block is behind a deed. Nothing old turns.
-/
import Derived.Test.YtjggiameajndgabWalkModelN
import Derived.Laws.EntriesVeiled
namespace Go.Proofs.Ytjggiameajndgab
open Go.RowKit

set_option maxRecDepth 20000 in
set_option maxHeartbeats 800000 in
theorem asItWas_any (n : Int) (L : Nat) (v : Value) (ls : List (List Int)) (w : World) (h : Bss w v ls) (hl : ls.length = 9) (h0 : 0 ≤ n) (h9 : n < 9) (hL : w.cell? ⟨L, 0, none⟩ = some v) :
    Calls Try.prog 81 #[.int .i64 n, .pointer (some ⟨L, 0, none⟩)] w fun e w' => ∃ r, e = .returned r ∧ Bs w r (ls.getD n.toNat []) ∧ w' = w := by
  obtain ⟨k, rfl⟩ := Int.eq_ofNat_of_zero_le h0
  obtain ⟨ao, cap, rfl, hc1, hc2⟩ := h.form'
  obtain ⟨b, off, u, rfl, hu, hr⟩ := h.elem (k := k) (by omega) []
  obtain ⟨x1, x2, x3, rfl⟩ := hr.form
  rw [hl] at hL hc1
  simp only [Int.toNat_natCast]
  clear h hl h0
  go_enter Try.func81, Try.ntmps81
  go_wp2
  go_ret
  exact ⟨_, rfl, hr, rfl⟩

/-- What a closure of the deed's has at hand: the deed in D, the blocks in L, the closure that tells them in A. -/
def Hand (D L A : Nat) (v d1 : Value) (x : DeedP) (w : World) : Prop :=
  w.cell? ⟨D, 1, none⟩ = some (.int .i64 x.n) ∧ w.cell? ⟨D, 2, none⟩ = some (.int .i64 x.m) ∧ w.cell? ⟨D, 3, none⟩ = some d1 ∧ w.cell? ⟨L, 0, none⟩ = some v ∧ w.cell? ⟨A, 0, none⟩ = some (.func (.func 81) #[] #[.pointer (some ⟨L, 0, none⟩)])

theorem Hand.grow {D L A : Nat} {v d1 : Value} {x : DeedP} {w w' : World} (h : Hand D L A v d1 x w) (hg : Grow w w') : Hand D L A v d1 x w' := ⟨hg.at h.1, hg.at h.2.1, hg.at h.2.2.1, hg.at h.2.2.2.1, hg.at h.2.2.2.2⟩

set_option maxRecDepth 20000 in
set_option maxHeartbeats 800000 in
theorem written_any (k : Nat) (D L A : Nat) (v d1 : Value) (x : DeedP) (ls : List (List Int)) (w : World) (hH : Hand D L A v d1 x w) (h : Bss w v ls) (hb : Bs w d1 x.d) (hl : ls.length = 9) (h9 : k < 9) (hk1 : x.k = 1) :
    Calls Try.prog 82 #[.int .i64 k, .pointer (some ⟨D, 0, none⟩), .pointer (some ⟨A, 0, none⟩)] w fun e w' => ∃ r, e = .returned r ∧ Bs w r (doAt ls x k) ∧ w' = w := by
  obtain ⟨c1, -, c3, c4, c5⟩ := hH
  by_cases hn : (k : Int) = x.n
  · rw [doAt_data hk1 hn]
    rw [← hn] at c1
    clear hn
    go_enter Try.func82, Try.ntmps82
    go_wp2
    go_ret
    exact ⟨_, rfl, hb, rfl⟩
  · rw [doAt_old hk1 hn]
    have hW := asItWas_any k L v ls w h hl (by omega) (by omega) c4
    simp only [Int.toNat_natCast] at hW
    have hn' : ((k : Int) == x.n) = false := by rw [beq_eq_false_iff_ne]; exact hn
    clear h hb
    go_enter Try.func82, Try.ntmps82
    go_wp2_with fail
    refine hW.mono ?_
    rintro e w1 ⟨r, rfl, hr, rfl⟩
    go_wp2
    go_ret
    exact ⟨_, rfl, hr, rfl⟩

set_option maxRecDepth 20000 in
set_option maxHeartbeats 1600000 in
theorem swapped_any (k : Nat) (D L A : Nat) (v d1 : Value) (x : DeedP) (ls : List (List Int)) (w : World) (hH : Hand D L A v d1 x w) (h : Bss w v ls) (hl : ls.length = 9) (h9 : k < 9) (hk2 : x.k = 2) (hr : wrongE x = 0) :
    Calls Try.prog 83 #[.int .i64 k, .pointer (some ⟨D, 0, none⟩), .pointer (some ⟨A, 0, none⟩)] w fun e w' => ∃ r, e = .returned r ∧ Bs w r (doAt ls x k) ∧ w' = w := by
  obtain ⟨c1, c2, -, c4, c5⟩ := hH
  obtain ⟨-, hn0, hn8, -, h2⟩ := right_deed hr
  have hm := whereE_zero (h2 hk2).1
  by_cases hn : (k : Int) = x.n
  · rw [doAt_n hk2 hn]
    have hW := asItWas_any x.m L v ls w h hl hm.1 hm.2 c4
    rw [← hn] at c1
    clear h hn h2
    go_enter Try.func83, Try.ntmps83
    go_wp2_with fail
    refine hW.mono ?_
    rintro e w1 ⟨r, rfl, hr, rfl⟩
    go_wp2
    go_ret
    exact ⟨_, rfl, hr, rfl⟩
  · have hn' : ((k : Int) == x.n) = false := by rw [beq_eq_false_iff_ne]; exact hn
    by_cases hkm : (k : Int) = x.m
    · rw [doAt_m hk2 hn hkm]
      have hW := asItWas_any x.n L v ls w h hl hn0 (by omega) c4
      rw [← hkm] at c2
      clear h hn h2 hkm hm
      go_enter Try.func83, Try.ntmps83
      go_wp2_with fail
      refine hW.mono ?_
      rintro e w1 ⟨r, rfl, hr, rfl⟩
      go_wp2
      go_ret
      exact ⟨_, rfl, hr, rfl⟩
    · rw [doAt_out hk2 hn hkm]
      have hm' : ((k : Int) == x.m) = false := by rw [beq_eq_false_iff_ne]; exact hkm
      have hW := asItWas_any k L v ls w h hl (by omega) (by omega) c4
      simp only [Int.toNat_natCast] at hW
      clear h hn h2 hkm hm
      go_enter Try.func83, Try.ntmps83
      go_wp2_with fail
      refine hW.mono ?_
      rintro e w1 ⟨r, rfl, hr, rfl⟩
      go_wp2
      go_ret
      exact ⟨_, rfl, hr, rfl⟩

/-- The closure that tells what a block is behind a right deed. -/
def afterV (x : DeedP) (D A : Nat) : Value := .func (.func (if x.k = 1 then 82 else 83)) #[] #[.pointer (some ⟨D, 0, none⟩), .pointer (some ⟨A, 0, none⟩)]

set_option maxRecDepth 20000 in
set_option maxHeartbeats 1600000 in
theorem behind_any (v dv : Value) (ls : List (List Int)) (x : DeedP) (w : World) (h : Bss w v ls) (hd : DeedV w dv x) (hl : ls.length = 9) (hr : wrongE x = 0) :
    Calls Try.prog 57 #[v, dv] w fun e w' => ∃ D L A d1, e = .returned (afterV x D A) ∧ Hand D L A v d1 x w' ∧ Bs w' d1 x.d ∧ Grow w w' := by
  have hd' := hd
  obtain ⟨dv, rfl, hb⟩ := hd
  obtain ⟨d1, d2, d3, rfl⟩ := hb.form
  obtain ⟨av, cv, rfl⟩ := Sl.form h
  obtain ⟨o1, ho1⟩ : ∃ o : Obj, o = .cells #[.slice av ls.length cv] 22 := ⟨_, rfl⟩
  obtain ⟨o2, ho2⟩ : ∃ o : Obj, o = .cells #[.int .i64 x.k, .int .i64 x.n, .int .i64 x.m, .slice d1 d2 d3] 25 := ⟨_, rfl⟩
  obtain ⟨o3, ho3⟩ : ∃ o : Obj, o = .cells #[.func (.func 81) #[] #[.pointer (some ⟨w.heap.size, 0, none⟩)]] 76 := ⟨_, rfl⟩
  obtain ⟨W, hW⟩ : ∃ W, W = ((w.alloc o1).alloc o2).alloc o3 := ⟨_, rfl⟩
  obtain ⟨H1, H2, H3⟩ := heap3 w o1 o2 o3
  rw [← hW] at H1 H2 H3
  have hgW : Grow w W := by rw [hW]; exact ((Grow.alloc _ _).trans (Grow.alloc _ _)).trans (Grow.alloc _ _)
  rw [ho1] at H1
  rw [ho2] at H2
  rw [ho3] at H3
  have k0 : W.cell? ⟨w.heap.size + 1, 0, none⟩ = some (.int .i64 x.k) := row_at H2 0 rfl
  have k1 : W.cell? ⟨w.heap.size + 1, 1, none⟩ = some (.int .i64 x.n) := row_at H2 1 rfl
  have k2 : W.cell? ⟨w.heap.size + 1, 2, none⟩ = some (.int .i64 x.m) := row_at H2 2 rfl
  have k3 : W.cell? ⟨w.heap.size + 1, 3, none⟩ = some (.slice d1 d2 d3) := row_at H2 3 rfl
  have kl : W.cell? ⟨w.heap.size, 0, none⟩ = some (.slice av ls.length cv) := row_at H1 0 rfl
  have HA : Hid (Hand (w.heap.size + 1) w.heap.size (w.heap.size + 1 + 1) (.slice av ls.length cv) (.slice d1 d2 d3) x W) := ⟨k1, k2, k3, kl, row_at H3 0 rfl⟩
  have hmw := fun w1 hg => modelWrong_any _ x w1 (hd'.grow (w' := w1) hg)
  rw [hr] at hmw
  rw [hl] at kl ho1 HA ⊢
  have HB : Hid (Bs W (.slice d1 d2 d3) x.d) := hb.grow hgW
  obtain ⟨hk, -⟩ := right_deed hr
  clear H1 H2 H3 h hd' hb hr k1 k2 k3
  have hmf : ∀ (fn : Fn) (first cap : Array Value) (w : World), (Instr.makeFunc fn first cap).run Try.prog w = .ok (.func fn first cap) w := fun _ _ _ _ => rfl
  subst ho1 ho2 ho3
  rcases hk with hk | hk
  · have HV : Hid (∀ D A, afterV x D A = .func (.func 82) #[] #[.pointer (some ⟨D, 0, none⟩), .pointer (some ⟨A, 0, none⟩)]) := fun D A => by rw [afterV, if_pos hk]
    rw [hk] at k0 hW hmw ⊢
    go_enter Try.func57, Try.ntmps57
    go_wp2_with fail
    rw [← hW]
    refine (hmw _ hgW).mono ?_
    rintro e w1 ⟨rfl, hg1⟩
    have c0 := hg1.at k0
    clear k0 kl hW
    go_wp2
    go_ret
    exact ⟨_, _, _, _, congrArg Ending.returned (HV.out _ _).symm, HA.out.grow hg1, HB.out.grow hg1, hgW.trans hg1⟩
  · have HV : Hid (∀ D A, afterV x D A = .func (.func 83) #[] #[.pointer (some ⟨D, 0, none⟩), .pointer (some ⟨A, 0, none⟩)]) := fun D A => by rw [afterV, if_neg (by omega)]
    rw [hk] at k0 hW hmw ⊢
    go_enter Try.func57, Try.ntmps57
    go_wp2_with fail
    rw [← hW]
    refine (hmw _ hgW).mono ?_
    rintro e w1 ⟨rfl, hg1⟩
    have c0 := hg1.at k0
    clear k0 kl hW
    go_wp2
    go_ret
    exact ⟨_, _, _, _, congrArg Ending.returned (HV.out _ _).symm, HA.out.grow hg1, HB.out.grow hg1, hgW.trans hg1⟩

set_option maxRecDepth 20000 in
set_option maxHeartbeats 3200000 in
theorem modelDo_any (v dv : Value) (ls : List (List Int)) (x : DeedP) (w : World) (h : Bss w v ls) (hd : DeedV w dv x) (hl : ls.length = 9) (h4 : ∀ b ∈ ls, b.length = 4) (hr : wrongE x = 0) :
    Calls Try.prog 17 #[v, dv] w fun e w' => ∃ r, e = .returned r ∧ Bss w' r (doL ls x) ∧ Grow w w' := by
  have hv := h
  have hd' := hd
  obtain ⟨dv, rfl, hb⟩ := hd
  obtain ⟨d1, d2, d3, rfl⟩ := hb.form
  obtain ⟨av, cv, rfl⟩ := Sl.form h
  have hg := Grow.alloc w (.cells #[.int .i64 x.k, .int .i64 x.n, .int .i64 x.m, .slice d1 d2 d3] 25)
  have hcall := behind_any _ _ ls x _ (h.grow hg) (hd'.grow hg) hl hr
  have hlen : ∀ k : Nat, k < 9 → (doAt ls x k).length = 4 := fun k hk => by
    rw [← doL_at (by omega)]
    exact doL_four h4 hl hr _ (getD_mem (by rw [doL_length]; omega))
  have hend : Hid (upTo (doAt ls x) 9 = doL ls x) := by rw [Hid, upTo_all, doL, hl]
  have hafter : ∀ (k D L A : Nat) (q : Value) (w1 : World), k < 9 → Grow w w1 → Hand D L A (.slice av ls.length cv) q x w1 → Bs w1 q x.d → (x.k = 1 → Calls Try.prog 82 #[.int .i64 k, .pointer (some ⟨D, 0, none⟩), .pointer (some ⟨A, 0, none⟩)] w1 fun e w' => ∃ r, e = .returned r ∧ Bs w1 r (doAt ls x k) ∧ w' = w1) ∧ (x.k = 2 → Calls Try.prog 83 #[.int .i64 k, .pointer (some ⟨D, 0, none⟩), .pointer (some ⟨A, 0, none⟩)] w1 fun e w' => ∃ r, e = .returned r ∧ Bs w1 r (doAt ls x k) ∧ w' = w1) := fun k D L A q w1 hk hg1 hH hq =>
    ⟨fun h1 => written_any k D L A _ q x ls w1 hH (hv.grow hg1) hq hl hk h1, fun h2 => swapped_any k D L A _ q x ls w1 hH (hv.grow hg1) hl hk h2 hr⟩
  obtain ⟨hk, -⟩ := right_deed hr
  rw [hl] at hcall hafter ⊢
  clear hl h hd' hb h4 hr hv
  have HF : Hid (_ ∧ _) := And.intro hafter hlen
  clear hafter hlen
  rcases hk with hk | hk
  all_goals
    generalize doAt ls x = da at *
    generalize doL ls x = dl at *
    rw [hk] at hcall hg ⊢
    have HK : Hid (x.k = _) := hk
    clear hk
    go_enter Try.func17, Try.ntmps17
    go_wp2_with fail
    refine hcall.mono ?_
    rintro e w1 ⟨D, L, A, q, rfl, hH, hq, hg1⟩
    clear hcall
    have hmk := Try.made9 w1
    have hst : Hid (Rowing Bs w1.heap.size 23 (w1.alloc (.cells nines 23)) (.slice (some ⟨w1.heap.size, 0, none⟩) 9 9) (upTo da 0)) := by rw [upTo_zero]; exact Rowing.made9 w1
    have hgw1 := hg.trans hg1
    first | rw [afterV, if_pos HK.out] | rw [afterV, if_neg (by rw [HK.out]; decide)]
    have HHD : Hid (Hand D L A (.slice av 9 cv) q x w1 ∧ Bs w1 q x.d) := ⟨hH, hq⟩
    clear hH hq
    go_wp2
    go_loopw [16] (fun i wr => ∃ k : Nat, k ≤ 9 ∧ i = .int .i64 k ∧ Hid (Rowing Bs w1.heap.size 23 wr (.slice (some ⟨w1.heap.size, 0, none⟩) 9 9) (upTo da k)) ∧ Grow w1 wr) (fun i _ => 9 - (intOf i).toNat)
    case atStart => exact ⟨0, by omega, rfl, hst, Grow.alloc _ _⟩
    case round =>
      obtain ⟨k, hk9, rfl, HR, hgr⟩ := hrel
      clear hst hmk
      by_cases hlt : k < 9
      · have hA := HF.out.1 k D L A q wr hlt (hgw1.trans hgr) (HHD.out.1.grow hgr) (HHD.out.2.grow hgr)
        first | have hA' := hA.1 HK.out | have hA' := hA.2 HK.out
        have hdk : Hid ((da k).length = 4) := HF.out.2 k hlt
        have hb : w1.heap.size < wr.heap.size := (HR.out.base _ rfl).2
        go_wp2_with fail
        refine hA'.mono ?_
        rintro e w2 ⟨r, rfl, hr, hw2⟩
        subst hw2
        go_wp2_with fail
        refine (bytesClone_some _ _ _ hr (by rw [hdk.out]; omega) (by rw [hdk.out]; omega)).mono ?_
        rintro e w3 ⟨r3, rfl, hoff3, hg3⟩
        have hrow := HR.out.grow hg3
        obtain ⟨⟨u0, hu0⟩, hf0⟩ := hrow.at (k := k) (by rw [upTo_length]; exact hlt)
        have hoff := hoff3 (some w1.heap.size) (fun j hj => by cases hj; exact hb)
        obtain ⟨y1, y2, y3, rfl⟩ := hoff.here.form
        have hrow1 := hrow.stored k hoff
        rw [upTo_set da hlt] at hrow1
        have hg4 := (hgr.trans hg3).grown (grown_set w3 w1.heap.size k (.slice y1 y2 y3)) (fun j hj => by cases hj; exact Nat.le_refl _)
        have HR1 : Hid (Rowing Bs _ _ _ _ _) := hrow1
        clear HR hrow hoff hoff3 hrow1 hA hA' hr
        go_wp2
        go_roundw
        case rel => first | exact ⟨k + 1, by omega, by go_num, HR1, hg4⟩ | ((repeat apply Exists.intro); exact ⟨⟨k + 1, by omega, by go_num, HR1, hg4⟩, rfl⟩)
        case measure => simp [intOf]; omega
      · obtain rfl : k = 9 := by omega
        go_wp2
        go_ret
        exact ⟨_, rfl, by rw [← hend.out]; exact HR.out.done, hgw1.trans hgr⟩

end Go.Proofs.Ytjggiameajndgab
