import Derived.Laws.EntriesVeiled
import Derived.ProofKit
import Derived.OpenShut
import Derived.Deep.Slices
import Derived.Test.YtjggiameajndgabJoin11
/-
  What the program's model.Do returns, by the closures that tell what each block is behind a deed. Nothing old turns.
-/
namespace Go.Proofs.Ytjggiameajndgab
open Go.RowKit

set_option maxRecDepth 20000 in
set_option maxHeartbeats 800000 in
theorem asItWas_any (n : Int) (L : Nat) (v : Value) (ls : List (List Int)) (w : World) (h : Bss w v ls) (hl : ls.length = 9) (h0 : 0 ≤ n) (h9 : n < 9) (hL : w.cell? ⟨L, 0, none⟩ = some v) :
    Calls Try.prog 81 #[.int .i64 n, .pointer (some ⟨L, 0, none⟩)] w fun e w' => ∃ r, e = .returned r ∧ Bs w r (ls.getD n.toNat []) ∧ w' = w := by
  obtain ⟨k, rfl⟩ := Int.eq_ofNat_of_zero_le h0
  obtain ⟨ao, cap, rfl, hc1, hc2⟩ := h.form'
  obtain ⟨b, off, u, rfl, hu, hr⟩ := h.elem (k := k) (by omega) []
  obtain ⟨x1, x2, x3, rfl⟩ := hr.form
  rw [hl] at hL hc1
  simp only [Int.toNat_natCast]
  clear h hl h0
  go_enter Try.func81, Try.ntmps81
  go_wp2
  go_ret
  exact ⟨_, rfl, hr, rfl⟩

/-- What a closure of the deed's has at hand: the deed in D, the blocks in L, the closure that tells them in A. -/
def Hand (D L A : Nat) (v d1 : Value) (x : DeedP) (w : World) : Prop :=
  w.cell? ⟨D, 1, none⟩ = some (.int .i64 x.n) ∧ w.cell? ⟨D, 2, none⟩ = some (.int .i64 x.m) ∧ w.cell? ⟨D, 3, none⟩ = some d1 ∧ w.cell? ⟨L, 0, none⟩ = some v ∧ w.cell? ⟨A, 0, none⟩ = some (.func (.func 81) #[] #[.pointer (some ⟨L, 0, none⟩)])

theorem Hand.grow {D L A : Nat} {v d1 : Value} {x : DeedP} {w w' : World} (h : Hand D L A v d1 x w) (hg : Grow w w') : Hand D L A v d1 x w' := ⟨hg.at h.1, hg.at h.2.1, hg.at h.2.2.1, hg.at h.2.2.2.1, hg.at h.2.2.2.2⟩

set_option maxRecDepth 20000 in
set_option maxHeartbeats 800000 in
theorem written_any (k : Nat) (D L A : Nat) (v d1 : Value) (x : DeedP) (ls : List (List Int)) (w : World) (hH : Hand D L A v d1 x w) (h : Bss w v ls) (hb : Bs w d1 x.d) (hl : ls.length = 9) (h9 : k < 9) (hk1 : x.k = 1) :
    Calls Try.prog 82 #[.int .i64 k, .pointer (some ⟨D, 0, none⟩), .pointer (some ⟨A, 0, none⟩)] w fun e w' => ∃ r, e = .returned r ∧ Bs w r (doAt ls x k) ∧ w' = w := by
  obtain ⟨c1, -, c3, c4, c5⟩ := hH
  by_cases hn : (k : Int) = x.n
  · rw [doAt_data hk1 hn]
    rw [← hn] at c1
    clear hn
    go_enter Try.func82, Try.ntmps82
    go_wp2
    go_ret
    exact ⟨_, rfl, hb, rfl⟩
  · rw [doAt_old hk1 hn]
    have hW := asItWas_any k L v ls w h hl (by omega) (by omega) c4
    simp only [Int.toNat_natCast] at hW
    have hn' : ((k : Int) == x.n) = false := by rw [beq_eq_false_iff_ne]; exact hn
    clear h hb
    go_enter Try.func82, Try.ntmps82
    go_wp2_with fail
    refine hW.mono ?_
    rintro e w1 ⟨r, rfl, hr, rfl⟩
    go_wp2
    go_ret
    exact ⟨_, rfl, hr, rfl⟩

set_option maxRecDepth 20000 in
set_option maxHeartbeats 1600000 in
theorem swapped_any (k : Nat) (D L A : Nat) (v d1 : Value) (x : DeedP) (ls : List (List Int)) (w : World) (hH : Hand D L A v d1 x w) (h : Bss w v ls) (hl : ls.length = 9) (h9 : k < 9) (hk2 : x.k = 2) (hr : wrongE x = 0) :
    Calls Try.prog 83 #[.int .i64 k, .pointer (some ⟨D, 0, none⟩), .pointer (some ⟨A, 0, none⟩)] w fun e w' => ∃ r, e = .returned r ∧ Bs w r (doAt ls x k) ∧ w' = w := by
  obtain ⟨c1, c2, -, c4, c5⟩ := hH
  obtain ⟨-, hn0, hn8, -, h2⟩ := right_deed hr
  have hm := whereE_zero (h2 hk2).1
  by_cases hn : (k : Int) = x.n
  · rw [doAt_n hk2 hn]
    have hW := asItWas_any x.m L v ls w h hl hm.1 hm.2 c4
    rw [← hn] at c1
    clear h hn h2
    go_enter Try.func83, Try.ntmps83
    go_wp2_with fail
    refine hW.mono ?_
    rintro e w1 ⟨r, rfl, hr, rfl⟩
    go_wp2
    go_ret
    exact ⟨_, rfl, hr, rfl⟩
  · have hn' : ((k : Int) == x.n) = false := by rw [beq_eq_false_iff_ne]; exact hn
    by_cases hkm : (k : Int) = x.m
    · rw [doAt_m hk2 hn hkm]
      have hW := asItWas_any x.n L v ls w h hl hn0 (by omega) c4
      rw [← hkm] at c2
      clear h hn h2 hkm hm
      go_enter Try.func83, Try.ntmps83
      go_wp2_with fail
      refine hW.mono ?_
      rintro e w1 ⟨r, rfl, hr, rfl⟩
      go_wp2
      go_ret
      exact ⟨_, rfl, hr, rfl⟩
    · rw [doAt_out hk2 hn hkm]
      have hm' : ((k : Int) == x.m) = false := by rw [beq_eq_false_iff_ne]; exact hkm
      have hW := asItWas_any k L v ls w h hl (by omega) (by omega) c4
      simp only [Int.toNat_natCast] at hW
      clear h hn h2 hkm hm
      go_enter Try.func83, Try.ntmps83
      go_wp2_with fail
      refine hW.mono ?_
      rintro e w1 ⟨r, rfl, hr, rfl⟩
      go_wp2
      go_ret
      exact ⟨_, rfl, hr, rfl⟩

/-- The closure that tells what a block is behind a right deed. -/
def afterV (x : DeedP) (D A : Nat) : Value := .func (.func (if x.k = 1 then 82 else 83)) #[] #[.pointer (some ⟨D, 0, none⟩), .pointer (some ⟨A, 0, none⟩)]

set_option maxRecDepth 20000 in
set_option maxHeartbeats 1600000 in
theorem behind_any (v dv : Value) (ls : List (List Int)) (x : DeedP) (w : World) (h : Bss w v ls) (hd : DeedV w dv x) (hl : ls.length = 9) (hr : wrongE x = 0) :
    Calls Try.prog 57 #[v, dv] w fun e w' => ∃ D L A d1, e = .returned (afterV x D A) ∧ Hand D L A v d1 x w' ∧ Bs w' d1 x.d ∧ Grow w w' := by
  have hd' := hd
  obtain ⟨dv, rfl, hb⟩ := hd
  obtain ⟨d1, d2, d3, rfl⟩ := hb.form
  obtain ⟨av, cv, rfl⟩ := Sl.form h
  obtain ⟨o1, ho1⟩ : ∃ o : Obj, o = .cells #[.slice av ls.length cv] 22 := ⟨_, rfl⟩
  obtain ⟨o2, ho2⟩ : ∃ o : Obj, o = .cells #[.int .i64 x.k, .int .i64 x.n, .int .i64 x.m, .slice d1 d2 d3] 25 := ⟨_, rfl⟩
  obtain ⟨o3, ho3⟩ : ∃ o : Obj, o = .cells #[.func (.func 81) #[] #[.pointer (some ⟨w.heap.size, 0, none⟩)]] 76 := ⟨_, rfl⟩
  obtain ⟨W, hW⟩ : ∃ W, W = ((w.alloc o1).alloc o2).alloc o3 := ⟨_, rfl⟩
  obtain ⟨H1, H2, H3⟩ := heap3 w o1 o2 o3
  rw [← hW] at H1 H2 H3
  have hgW : Grow w W := by rw [hW]; exact ((Grow.alloc _ _).trans (Grow.alloc _ _)).trans (Grow.alloc _ _)
  rw [ho1] at H1
  rw [ho2] at H2
  rw [ho3] at H3
  have k0 : W.cell? ⟨w.heap.size + 1, 0, none⟩ = some (.int .i64 x.k) := row_at H2 0 rfl
  have k1 : W.cell? ⟨w.heap.size + 1, 1, none⟩ = some (.int .i64 x.n) := row_at H2 1 rfl
  have k2 : W.cell? ⟨w.heap.size + 1, 2, none⟩ = some (.int .i64 x.m) := row_at H2 2 rfl
  have k3 : W.cell? ⟨w.heap.size + 1, 3, none⟩ = some (.slice d1 d2 d3) := row_at H2 3 rfl
  have kl : W.cell? ⟨w.heap.size, 0, none⟩ = some (.slice av ls.length cv) := row_at H1 0 rfl
  have HA : Hid (Hand (w.heap.size + 1) w.heap.size (w.heap.size + 1 + 1) (.slice av ls.length cv) (.slice d1 d2 d3) x W) := ⟨k1, k2, k3, kl, row_at H3 0 rfl⟩
  have hmw := fun w1 hg => modelWrong_any _ x w1 (hd'.grow (w' := w1) hg)
  rw [hr] at hmw
  rw [hl] at kl ho1 HA ⊢
  have HB : Hid (Bs W (.slice d1 d2 d3) x.d) := hb.grow hgW
  obtain ⟨hk, -⟩ := right_deed hr
  clear H1 H2 H3 h hd' hb hr k1 k2 k3
  have hmf : ∀ (fn : Fn) (first cap : Array Value) (w : World), (Instr.makeFunc fn first cap).run Try.prog w = .ok (.func fn first cap) w := fun _ _ _ _ => rfl
  subst ho1 ho2 ho3
  rcases hk with hk | hk
  · have HV : Hid (∀ D A, afterV x D A = .func (.func 82) #[] #[.pointer (some ⟨D, 0, none⟩), .pointer (some ⟨A, 0, none⟩)]) := fun D A => by rw [afterV, if_pos hk]
    rw [hk] at k0 hW hmw ⊢
    go_enter Try.func57, Try.ntmps57
    go_wp2_with fail
    rw [← hW]
    refine (hmw _ hgW).mono ?_
    rintro e w1 ⟨rfl, hg1⟩
    have c0 := hg1.at k0
    clear k0 kl hW
    go_wp2
    go_ret
    exact ⟨_, _, _, _, congrArg Ending.returned (HV.out _ _).symm, HA.out.grow hg1, HB.out.grow hg1, hgW.trans hg1⟩
  · have HV : Hid (∀ D A, afterV x D A = .func (.func 83) #[] #[.pointer (some ⟨D, 0, none⟩), .pointer (some ⟨A, 0, none⟩)]) := fun D A => by rw [afterV, if_neg (by omega)]
    rw [hk] at k0 hW hmw ⊢
    go_enter Try.func57, Try.ntmps57
    go_wp2_with fail
    rw [← hW]
    refine (hmw _ hgW).mono ?_
    rintro e w1 ⟨rfl, hg1⟩
    have c0 := hg1.at k0
    clear k0 kl hW
    go_wp2
    go_ret
    exact ⟨_, _, _, _, congrArg Ending.returned (HV.out _ _).symm, HA.out.grow hg1, HB.out.grow hg1, hgW.trans hg1⟩

set_option maxRecDepth 20000 in
set_option maxHeartbeats 3200000 in
theorem modelDo_any (v dv : Value) (ls : List (List Int)) (x : DeedP) (w : World) (h : Bss w v ls) (hd : DeedV w dv x) (hl : ls.length = 9) (h4 : ∀ b ∈ ls, b.length = 4) (hr : wrongE x = 0) :
    Calls Try.prog 17 #[v, dv] w fun e w' => ∃ r, e = .returned r ∧ Bss w' r (doL ls x) ∧ Grow w w' := by
  have hv := h
  have hd' := hd
  obtain ⟨dv, rfl, hb⟩ := hd
  obtain ⟨d1, d2, d3, rfl⟩ := hb.form
  obtain ⟨av, cv, rfl⟩ := Sl.form h
  have hg := Grow.alloc w (.cells #[.int .i64 x.k, .int .i64 x.n, .int .i64 x.m, .slice d1 d2 d3] 25)
  have hcall := behind_any _ _ ls x _ (h.grow hg) (hd'.grow hg) hl hr
  have hlen : ∀ k : Nat, k < 9 → (doAt ls x k).length = 4 := fun k hk => by
    rw [← doL_at (by omega)]
    exact doL_four h4 hl hr _ (getD_mem (by rw [doL_length]; omega))
  have hend : Hid (upTo (doAt ls x) 9 = doL ls x) := by rw [Hid, upTo_all, doL, hl]
  have hafter : ∀ (k D L A : Nat) (q : Value) (w1 : World), k < 9 → Grow w w1 → Hand D L A (.slice av ls.length cv) q x w1 → Bs w1 q x.d → (x.k = 1 → Calls Try.prog 82 #[.int .i64 k, .pointer (some ⟨D, 0, none⟩), .pointer (some ⟨A, 0, none⟩)] w1 fun e w' => ∃ r, e = .returned r ∧ Bs w1 r (doAt ls x k) ∧ w' = w1) ∧ (x.k = 2 → Calls Try.prog 83 #[.int .i64 k, .pointer (some ⟨D, 0, none⟩), .pointer (some ⟨A, 0, none⟩)] w1 fun e w' => ∃ r, e = .returned r ∧ Bs w1 r (doAt ls x k) ∧ w' = w1) := fun k D L A q w1 hk hg1 hH hq =>
    ⟨fun h1 => written_any k D L A _ q x ls w1 hH (hv.grow hg1) hq hl hk h1, fun h2 => swapped_any k D L A _ q x ls w1 hH (hv.grow hg1) hl hk h2 hr⟩
  obtain ⟨hk, -⟩ := right_deed hr
  rw [hl] at hcall hafter ⊢
  clear hl h hd' hb h4 hr hv
  have HF : Hid (_ ∧ _) := And.intro hafter hlen
  clear hafter hlen
  rcases hk with hk | hk
  all_goals
    generalize doAt ls x = da at *
    generalize doL ls x = dl at *
    rw [hk] at hcall hg ⊢
    have HK : Hid (x.k = _) := hk
    clear hk
    go_enter Try.func17, Try.ntmps17
    go_wp2_with fail
    refine hcall.mono ?_
    rintro e w1 ⟨D, L, A, q, rfl, hH, hq, hg1⟩
    clear hcall
    have hmk := Try.made9 w1
    have hst : Hid (Rowing Bs w1.heap.size 23 (w1.alloc (.cells nines 23)) (.slice (some ⟨w1.heap.size, 0, none⟩) 9 9) (upTo da 0)) := by rw [upTo_zero]; exact Rowing.made9 w1
    have hgw1 := hg.trans hg1
    first | rw [afterV, if_pos HK.out] | rw [afterV, if_neg (by rw [HK.out]; decide)]
    have HHD : Hid (Hand D L A (.slice av 9 cv) q x w1 ∧ Bs w1 q x.d) := ⟨hH, hq⟩
    clear hH hq
    go_wp2
    go_loopw [16] (fun i wr => ∃ k : Nat, k ≤ 9 ∧ i = .int .i64 k ∧ Hid (Rowing Bs w1.heap.size 23 wr (.slice (some ⟨w1.heap.size, 0, none⟩) 9 9) (upTo da k)) ∧ Grow w1 wr) (fun i _ => 9 - (intOf i).toNat)
    case atStart => exact ⟨0, by omega, rfl, hst, Grow.alloc _ _⟩
    case round =>
      obtain ⟨k, hk9, rfl, HR, hgr⟩ := hrel
      clear hst hmk
      by_cases hlt : k < 9
      · have hA := HF.out.1 k D L A q wr hlt (hgw1.trans hgr) (HHD.out.1.grow hgr) (HHD.out.2.grow hgr)
        first | have hA' := hA.1 HK.out | have hA' := hA.2 HK.out
        have hdk : Hid ((da k).length = 4) := HF.out.2 k hlt
        have hb : w1.heap.size < wr.heap.size := (HR.out.base _ rfl).2
        go_wp2_with fail
        refine hA'.mono ?_
        rintro e w2 ⟨r, rfl, hr, hw2⟩
        subst hw2
        go_wp2_with fail
        refine (bytesClone_some _ _ _ hr (by rw [hdk.out]; omega) (by rw [hdk.out]; omega)).mono ?_
        rintro e w3 ⟨r3, rfl, hoff3, hg3⟩
        have hrow := HR.out.grow hg3
        obtain ⟨⟨u0, hu0⟩, hf0⟩ := hrow.at (k := k) (by rw [upTo_length]; exact hlt)
        have hoff := hoff3 (some w1.heap.size) (fun j hj => by cases hj; exact hb)
        obtain ⟨y1, y2, y3, rfl⟩ := hoff.here.form
        have hrow1 := hrow.stored k hoff
        rw [upTo_set da hlt] at hrow1
        have hg4 := (hgr.trans hg3).grown (grown_set w3 w1.heap.size k (.slice y1 y2 y3)) (fun j hj => by cases hj; exact Nat.le_refl _)
        have HR1 : Hid (Rowing Bs _ _ _ _ _) := hrow1
        clear HR hrow hoff hoff3 hrow1 hA hA' hr
        go_wp2
        go_roundw
        case rel => first | exact ⟨k + 1, by omega, by go_num, HR1, hg4⟩ | ((repeat apply Exists.intro); exact ⟨⟨k + 1, by omega, by go_num, HR1, hg4⟩, rfl⟩)
        case measure => simp [intOf]; omega
      · obtain rfl : k = 9 := by omega
        go_wp2
        go_ret
        exact ⟨_, rfl, by rw [← hend.out]; exact HR.out.done, hgw1.trans hgr⟩

end Go.Proofs.Ytjggiameajndgab

/-
  Chapter 5's statements, walked over what the program's model returns.
-/
namespace Go.Proofs.Ytjggiameajndgab
open Go.RowKit

/-- A slice of slices of bytes. -/
def AnBss (ls : List (List Int)) (v : Value) (w : World) : Prop := Bss w v ls
theorem AnBss.stable (ls : List (List Int)) : ∀ (v : Value) (x y : World), AnBss ls v x → Grow x y → AnBss ls v y := fun _ _ _ h hg => Bss.grow h hg

theorem refSame_eq (v u : Value) (a : List (List Int)) (w : World) (h : Bss w v a) (g : Bss w u a) : Calls Try.prog 20 #[v, u] w fun e w' => e = .returned (.bool true) ∧ Grow w w' := by
  have := refSame_any v u a a w h g
  rwa [show (a == a) = true from by simp] at this

end Go.Proofs.Ytjggiameajndgab

/-
  Chapter 7's statements, walked over what the program's stripe returns.
-/
namespace Go.Proofs.Ytjggiameajndgab
open Go.RowKit

/-- Four cells of noughts, of stripe 1. -/
def cells1 : List (List Int) := cellsL newP 1
theorem cells1_length : cells1.length = 4 := by rw [cells1, cellsL_length]; rfl
theorem cells1_make : cells1 = makeL [nought, nought, nought, nought] (1 : Nat) := by decide +kernel

theorem nought4_blocks : Blocks [nought, nought, nought, nought] := fun b hb => by simp at hb; subst hb; exact ⟨rfl, nought_oct⟩

set_option maxRecDepth 20000 in
set_option maxHeartbeats 3200000 in
theorem alive7_any (w : World) : Calls Try.prog 29 #[] w fun e w' => e = .returned (.bool true) ∧ Grow w w' := by
  have hone := one_gone (ds := [nought, nought, nought, nought]) rfl nought4_blocks nought_even (s := 1) (by omega) (g := 2) (by omega)
  have htwo := two_gone (ds := [nought, nought, nought, nought]) rfl (fun b h => (nought4_blocks b h).1) (s := 1) (by omega) (one := 0) (two := 2) (by omega) (by omega)
  rw [← cells1_make] at hone htwo
  have hl1 : (cells1.set 2 []).length = 4 := by rw [List.length_set, cells1_length]
  have hl2 : ((cells1.set 2 []).set 0 []).length = 4 := by rw [List.length_set, hl1]
  rw [show (cells1.set 0 []).set 2 [] = (cells1.set 2 []).set 0 [] from List.set_comm _ _ (by decide)] at htwo
  go_enter Try.func29, Try.ntmps29
  go_wp2_with fail
  refine (refNew6_any _).mono ?_
  rintro e w1 ⟨r, rfl, hr, hg1⟩
  obtain ⟨p1, p2, p3, r1, r2, r3, rfl⟩ := hr.form
  have hgA : Grow w1 (w1.alloc (.cells #[.slice p1 p2 p3, .slice r1 r2 r3] 39)) := Grow.alloc _ _
  go_wp2_with fail
  refine (stripeCells_row _ newP 1 _ (hr.grow hgA) newP_whole newP_arr.short (by omega)).mono ?_
  rintro e w2 ⟨rc, rfl, hrc, hg2⟩
  have hrow : Rowing Bs (w1.alloc (.cells #[.slice p1 p2 p3, .slice r1 r2 r3] 39)).heap.size 23 w2 rc cells1 := hrc
  clear hrc
  obtain ⟨g, cap, e1, hgb, hgl⟩ := hrow.form (by rw [cells1_length]; omega)
  rw [cells1_length] at e1
  subst e1
  have hcap := hrow.cap
  obtain ⟨⟨u2, hu2⟩, hf2⟩ := hrow.at (k := 2) (by rw [cells1_length]; omega)
  have hrow2 := hrow.stored 2 (u := .slice none 0 0) (x := []) (fun _ _ => Bs.nil _)
  have hgw1 : w1.heap.size ≤ g := by have := hgA.size; omega
  have hgs1 := (Grow.refl w2)
  have hgW1 : Grow w1 (w2.setCell ⟨g, 2, none⟩ (.slice none 0 0)) := (hgA.trans hg2).set hgw1 _
  have hD1 := stripeData_row (.slice (some ⟨g, 0, none⟩) 4 cap) (cells1.set 2 []) 1 _ (some g) hrow2.slOff (fun k hk => by cases hk; simpa using hgl) hl1 (by omega)
  rw [hone.1, hone.2.1] at hD1
  have HR2 : Hid (Rowing Bs _ 23 (w2.setCell ⟨g, 2, none⟩ (.slice none 0 0)) (.slice (some ⟨g, 0, none⟩) 4 cap) (cells1.set 2 [])) := hrow2
  clear hrow2 hone hrow
  go_wp2_with fail
  refine hD1.mono ?_
  rintro e w3 ⟨rx, rfl, hrx, hg3⟩
  have HR3 : Hid (Rowing Bs _ 23 w3 (.slice (some ⟨g, 0, none⟩) 4 cap) (cells1.set 2 [])) := HR2.out.grow hg3
  obtain ⟨⟨u0, hu0⟩, hf0⟩ := HR3.out.at (k := 0) (by rw [hl1]; omega)
  have hrow4 := HR3.out.stored 0 (u := .slice none 0 0) (x := []) (fun _ _ => Bs.nil _)
  have hX := hrx.bssX (by simpa using hgl)
  have hX4 : BssX (some g) (w3.setCell ⟨g, 0, none⟩ (.slice none 0 0)) rx [nought, nought, nought, nought] := hX.step (grown_set _ _ _ _)
  obtain ⟨gx, cx, ex, -, -⟩ := hrx.form (by simp)
  simp only [List.length_cons, List.length_nil, Nat.zero_add, Nat.reduceAdd] at ex
  subst ex
  have hcx := hrx.cap
  have hgl3 : g < w3.heap.size := by have := hg3.size; simp at this; omega
  have hgW3 : Grow w1 (w3.setCell ⟨g, 0, none⟩ (.slice none 0 0)) := (hgW1.trans hg3).set hgw1 _
  have hD2 := stripeData_row (.slice (some ⟨g, 0, none⟩) 4 cap) ((cells1.set 2 []).set 0 []) 1 _ (some g) hrow4.slOff (fun k hk => by cases hk; simpa using hgl3) hl2 (by omega)
  rw [htwo.1, htwo.2.1] at hD2
  have hB2 := fun w4 (hg : Grow (w3.setCell ⟨g, 0, none⟩ (.slice none 0 0)) w4) => stripeBad_any (.slice (some ⟨g, 0, none⟩) 4 cap) ((cells1.set 2 []).set 0 []) 1 w4 (Bss.grow hrow4.done hg) hl2 (by omega)
  rw [htwo.2.2] at hB2
  have HX : Hid (Bss (w3.setCell ⟨g, 0, none⟩ (.slice none 0 0)) (.slice (some ⟨gx, 0, none⟩) 4 cx) [nought, nought, nought, nought]) := hX4.plain
  clear hX hX4 hrow4 HR2 hrx htwo hD1
  go_wp2_with fail
  refine hD2.mono ?_
  rintro e w4 ⟨ry, rfl, -, hg4⟩
  go_wp2_with fail
  refine (hB2 _ hg4).mono ?_
  rintro e w5 ⟨rb, rfl, hrb, hg5⟩
  have hg35 := hg4.trans hg5
  have hX5 := Bss.grow HX.out hg35
  obtain ⟨bx, ox, ux, ebx, hux, hrux⟩ := hX5.elem (k := 2) (by simp) []
  cases ebx
  obtain ⟨y1, y2, y3, rfl⟩ := hrux.form
  obtain rfl : y2 = 4 := by
    obtain ⟨_, _, e, -⟩ := hrux
    injection e with _ e _
  obtain ⟨ab, cb, eb⟩ := Sl.form hrb
  simp only [ints, List.length_map, List.length_cons, List.length_nil, Nat.zero_add, Nat.reduceAdd] at eb
  subst eb
  obtain ⟨bb, ob, ub, ebb, hub, hbb⟩ := hrb.elem (k := 1) (by simp [ints]) 0
  subst ebb
  obtain rfl : ub = .int .i64 2 := hbb
  have hcb : 2 ≤ cb ∧ cb ≤ 9223372036854775807 := by
    obtain ⟨_, _, e, q1, q2⟩ := hrb.form'
    simp only [ints, List.length_map, List.length_cons, List.length_nil] at q1
    injection e with _ q3 q4
    omega
  have hM := stripeMake_row _ _ 1 w5 hX5 rfl (by omega) (fun b h => (nought4_blocks b h).1)
  clear hX5 HX hrb hrux hD2 hB2 HR3 hr
  go_wp2_with fail
  refine hM.mono ?_
  rintro e w6 ⟨rm, rfl, hrm, hg6⟩
  obtain ⟨gm, cm, em, -, -⟩ := hrm.form (by rw [makeL_length]; simp)
  rw [makeL_length] at em
  simp only [List.length_cons, List.length_nil, Nat.zero_add, Nat.reduceAdd] at em
  subst em
  clear hrm
  go_wp2
  go_ret
  exact ⟨rfl, ((hg1.trans hgW3).trans hg35).trans hg6⟩

set_option maxRecDepth 20000 in
set_option maxHeartbeats 3200000 in
theorem stripeTwo_walk (v : Value) (ls : List (List Int)) (s one two : Int) (w : World) (h : Bss w v ls) :
    Calls Try.prog 6 #[v, .int .i64 s, .int .i64 one, .int .i64 two] w fun e w' => e = .returned (.bool true) ∧ Grow w w' := by
  have hb := h
  obtain ⟨ao, cap, rfl, h1, h2, h3, h4⟩ := h
  unfold maxLen at h2
  by_cases hin : ls.length = 4 ∧ 0 ≤ s ∧ s < 3 ∧ 0 ≤ one ∧ one < two ∧ two < 4
  · obtain ⟨hl, hs0, hs3, ho, hot, ht⟩ := hin
    obtain ⟨s, rfl⟩ := Int.eq_ofNat_of_zero_le hs0
    obtain ⟨one, rfl⟩ := Int.eq_ofNat_of_zero_le ho
    obtain ⟨two, rfl⟩ := Int.eq_ofNat_of_zero_le (show 0 ≤ two by omega)
    have Hl : Hid (ls.length = 4) := hl
    obtain ⟨b, off, rfl, hc⟩ := h4 (by omega)
    rw [hl] at hb h1 ⊢
    clear h4 h3 hl
    go_enter Try.func6, Try.ntmps6
    go_wp2_with fail
    refine (alive7_any _).mono ?_
    rintro e w0 ⟨rfl, hg0⟩
    go_wp2
    go_loop [43] (fun i => ∃ k : Nat, k ≤ 4 ∧ i = .int .i64 k ∧ Hid (∀ j, j < k → (ls.getD j []).length = 4)) (fun i => 4 - (intOf i).toNat)
    case atStart => exact ⟨0, by omega, rfl, (fun j hj => by omega)⟩
    case round =>
      obtain ⟨k, hk, rfl, HK⟩ := hrel
      by_cases hlt : k < 4
      · obtain ⟨ak, ck, hck, hbk⟩ := Sl.bytesAt hc (k := k) (by have := Hl.out; omega)
        have hck' := hg0.at hck
        have hn := hbk.len
        unfold maxLen at hn
        by_cases hk4 : (ls.getD k []).length = 4
        · have HK' : Hid (∀ j, j < k + 1 → (ls.getD j []).length = 4) := fun j hj => by
            by_cases hjk : j = k
            · subst hjk; exact hk4
            · exact HK.out j (by omega)
          rw [hk4] at hck'
          clear hk4 hbk hck
          go_wp2
          go_round
          case rel => exact ⟨k + 1, by omega, by go_num, HK'⟩
          case measure => simp [intOf]; omega
        · clear hbk hck
          generalize (ls.getD k []).length = n at *
          have hn4 : ¬ (n : Int) = 4 := by omega
          go_wp2
          go_ret
          exact ⟨rfl, hg0⟩
      · have hall : ∀ x ∈ ls, x.length = 4 := fun x hx => by
          obtain ⟨j, hj, rfl⟩ := List.mem_iff_getElem.1 hx
          have := HK.out j (by have := Hl.out; omega)
          simpa [List.getD_eq_getElem?_getD, hj] using this
        have hone4 : one < 4 := by omega
        have htwo4 : two < 4 := by omega
        have hs3' : s < 3 := by omega
        have HT : Hid (dataE (((makeL ls s).set one []).set two []) s = 9 ∧ dataL (((makeL ls s).set one []).set two []) s = [] ∧ badL (((makeL ls s).set one []).set two []) s = [one, two]) := two_gone Hl.out hall hs3' (by omega) htwo4
        have Hml : Hid ((makeL ls s).length = 4) := by rw [Hid, makeL_length]; exact Hl.out
        have hM := stripeMake_row _ ls s w0 (hb.grow hg0) Hl.out hs3' hall
        clear HK hc
        go_wp2_with fail
        refine hM.mono ?_
        rintro e w1 ⟨r, rfl, hr, hg1⟩
        obtain ⟨g, cp, e1, hgb, hgl⟩ := hr.form (by rw [Hml.out]; omega)
        rw [Hml.out] at e1
        subst e1
        have hcp := hr.cap
        have hr1 := hr.stored one (u := .slice none 0 0) (x := []) (fun _ _ => Bs.nil _)
        have hr2 := hr1.stored two (u := .slice none 0 0) (x := []) (fun _ _ => Bs.nil _)
        obtain ⟨⟨u1, hu1⟩, hf1⟩ := hr.at (k := one) (by rw [Hml.out]; exact hone4)
        obtain ⟨⟨u2, hu2⟩, hf2⟩ := hr1.at (k := two) (by rw [List.length_set, Hml.out]; exact htwo4)
        have hl2 : (((makeL ls s).set one []).set two []).length = 4 := by rw [List.length_set, List.length_set]; exact Hml.out
        have hgW : Grow w0 ((w1.setCell ⟨g, one, none⟩ (.slice none 0 0)).setCell ⟨g, two, none⟩ (.slice none 0 0)) := (hg1.set hgb _).set hgb _
        have hD := stripeData_row (.slice (some ⟨g, 0, none⟩) 4 cp) (((makeL ls s).set one []).set two []) s _ none (Sl.lift (fun _ _ h => Off.plain Bs.stays h) hr2.done (Grow.refl _)) (fun _ h => nomatch h) hl2 hs3'
        rw [HT.out.1, HT.out.2.1] at hD
        have hB := fun w4 (hg : Grow ((w1.setCell ⟨g, one, none⟩ (.slice none 0 0)).setCell ⟨g, two, none⟩ (.slice none 0 0)) w4) => stripeBad_any (.slice (some ⟨g, 0, none⟩) 4 cp) (((makeL ls s).set one []).set two []) s w4 (Bss.grow hr2.done hg) hl2 hs3'
        rw [HT.out.2.2] at hB
        have hoi : (one : Int) < 4 := by omega
        have hti : (two : Int) < 4 := by omega
        clear hr hr1 hr2 HT hM
        go_wp2_with fail
        refine hD.mono ?_
        rintro e w2 ⟨rx, rfl, hrx, hg2⟩
        obtain ⟨ax, cx, ex⟩ := Sl.form hrx.done
        simp only [List.length_nil] at ex
        subst ex
        go_wp2_with fail
        refine (hB _ hg2).mono ?_
        rintro e w3 ⟨rb, rfl, hrb, hg3⟩
        obtain ⟨ab, cb, eb⟩ := Sl.form hrb
        simp only [ints, List.length_map, List.length_cons, List.length_nil, Nat.zero_add, Nat.reduceAdd] at eb
        subst eb
        obtain ⟨bb, ob, ub, ebb, hub, hbb⟩ := hrb.elem (k := 1) (by simp [ints]) 0
        subst ebb
        obtain rfl : ub = .int .i64 two := hbb
        obtain ⟨bb', ob', ub', ebb', hub', hbb'⟩ := hrb.elem (k := 0) (by simp [ints]) 0
        cases ebb'
        obtain rfl : ub' = .int .i64 one := hbb'
        rw [Nat.add_zero] at hub'
        have hcb : 2 ≤ cb ∧ cb ≤ 9223372036854775807 := by
          obtain ⟨_, _, e, q1, q2⟩ := hrb.form'
          simp only [ints, List.length_map, List.length_cons, List.length_nil] at q1
          injection e with _ q3 q4
          omega
        clear hrb hrx hB hD
        go_wp2
        go_ret
        exact ⟨rfl, ((hg0.trans hgW).trans hg2).trans hg3⟩
  · have hout : ¬ ls.length = 4 ∨ (ls.length = 4 ∧ s < 0) ∨ (ls.length = 4 ∧ 0 ≤ s ∧ 3 ≤ s) ∨ (ls.length = 4 ∧ 0 ≤ s ∧ s < 3 ∧ one < 0) ∨ (ls.length = 4 ∧ 0 ≤ s ∧ s < 3 ∧ 0 ≤ one ∧ two ≤ one) ∨ (ls.length = 4 ∧ 0 ≤ s ∧ s < 3 ∧ 0 ≤ one ∧ one < two ∧ 4 ≤ two) := by omega
    clear hin hb h4 h3
    rcases hout with q | ⟨hl, q⟩ | ⟨hl, q, q1⟩ | ⟨hl, q, q1, q2⟩ | ⟨hl, q, q1, q2, q3⟩ | ⟨hl, q, q1, q2, q3, q4⟩
    · generalize ls.length = nl at *
      have q' : ¬ (nl : Int) = 4 := by omega
      go_enter Try.func6, Try.ntmps6
      go_wp2_with fail
      refine (alive7_any _).mono ?_
      rintro e w0 ⟨rfl, hg0⟩
      go_wp2
      go_ret
      exact ⟨rfl, hg0⟩
    all_goals
      rw [hl] at h1 ⊢
      clear hl
      go_enter Try.func6, Try.ntmps6
      go_wp2_with fail
      refine (alive7_any _).mono ?_
      rintro e w0 ⟨rfl, hg0⟩
      go_wp2
      go_ret
      exact ⟨rfl, hg0⟩

end Go.Proofs.Ytjggiameajndgab

/-
  How an argument that is a slice of bytes is read: by its cells, and within the reach of the row.
-/
namespace Go.Proofs.Ytjggiameajndgab
open Go.ChangeShapes Go.WideShapes Go.ChangeAt Go.RowKit

theorem wf_octet {n : Int} (h : (Lit.int .u8 n).wf = true) : 0 ≤ n ∧ n ≤ 255 := by
  have := bounds_u8 h
  omega

/-- A slice of bytes that came in: what it reads as. -/
theorem open_bs {P : Program} {H : Type} {enc : TypeId × Value → H} {W : World} {base : Nat} {sp : Nat → Bool} {held : Bool} {t e : TypeId} {v : Value} {d : DataW H} {p : List MemPlace}
    (ht : P.underlying t = some (.slice e)) (he : P.underlying e = some (.int .u8)) (hc : P.cellsOf e = 1) {b0 : Nat} (hv : Value.okWide P W .any b0 t v)
    (h : DataW.Trod enc P W base sp held t v d p) :
    ∃ l, Bs W v l ∧ (l = [] ∨ ∃ elems spare, d = .slice elems spare ∧ l.length ≤ elems.length + spare.length) := by
  obtain ⟨a0, len0, cap0, rfl⟩ := okWide_slice ht hv
  obtain ⟨fuel, hf⟩ := h
  rcases open_ints ht he hc hf with ⟨hcs, _⟩ | ⟨x, l, c, zs, hcs, _, hl, hm, hz, hx, hcell, hwz⟩
  · simp [Value.cells] at hcs
    obtain ⟨rfl, rfl, rfl⟩ := hcs
    exact ⟨[], Bs.nil W, .inl rfl⟩
  · simp [Value.cells] at hcs
    obtain ⟨rfl, rfl, rfl⟩ := hcs
    have hlz : len0 ≤ zs.length := by rw [hz]; split <;> omega
    have hlen : (zs.take len0).length = len0 := by simp; omega
    refine ⟨zs.take len0, ⟨some x, cap0, by rw [hlen], by omega, hm, (fun h => nomatch h), fun n hn => wf_octet (hwz n (List.mem_of_mem_take hn)), fun hp => ?_⟩, .inr ?_⟩
    · rw [hlen] at hp
      obtain ⟨b, off, spot⟩ := x
      have hspot : spot = none := by simpa [Addr.add] using World.cell?_spot (hcell 0 (by omega))
      subst hspot
      refine ⟨b, off, rfl, fun i hi => ?_⟩
      rw [hlen] at hi
      have hplain : (⟨b, off, none⟩ : Addr).add i = ⟨b, off + i, none⟩ := by unfold Addr.add; split <;> simp_all
      rw [← hplain, hcell i (by omega)]
      simp [List.getD_eq_getElem?_getD, hi]
    · simp only [Prod.mk.injEq] at hx
      exact ⟨_, _, hx.1, by simp [lits]⟩

end Go.Proofs.Ytjggiameajndgab

/-
  How arguments that are deeds, steps, and slices of steps are read.
-/
namespace Go.Proofs.Ytjggiameajndgab
open Go.ChangeShapes Go.WideShapes Go.ChangeAt Go.RowKit

theorem four_of {α : Type} {cs : List α} (h : cs.length = 4) : ∃ c0 c1 c2 c3, cs = [c0, c1, c2, c3] := by
  match cs, h with
  | [c0, c1, c2, c3], _ => exact ⟨_, _, _, _, rfl⟩
theorem seven_of {α : Type} {cs : List α} (h : cs.length = 7) : ∃ c0 c1 c2 c3 c4 c5 c6, cs = [c0, c1, c2, c3, c4, c5, c6] := by
  match cs, h with
  | [c0, c1, c2, c3, c4, c5, c6], _ => exact ⟨_, _, _, _, _, _, _, rfl⟩

section
variable {H : Type} {enc : TypeId × Value → H} {W : World} {base : Nat} {sp : Nat → Bool} {held : Bool}

/-- Fields of a struct, each with its own reading. -/
theorem field_at {P : Program} {fuel : Nat} {t : TypeId} {cs : List Value} {x : DataW H × List MemPlace} {fs : Array Field} (ht : P.underlying t = some (.struct fs)) (h : DataW.trod enc P W base sp held fuel t cs = some x) :
    cs.length = P.cellsOf t ∧ ∀ (i : Nat) (f : Field), fs[i]? = some f → ∃ n y, DataW.trod enc P W base sp held n f.type ((cs.drop f.offset).take (P.cellsOf f.type)) = some y := by
  obtain ⟨xs, n, -, -, hlen, hxl, hf⟩ := DataW.trod_struct ht h
  refine ⟨hlen, fun i f hi => ?_⟩
  have hlt : i < fs.size := (Array.getElem?_eq_some_iff.1 hi).1
  have := hf i f hi
  rw [List.getElem?_eq_getElem (by omega)] at this
  exact ⟨n, _, this⟩

theorem Try.cellsDeed : Try.prog.cellsOf 25 = 4 := by kernel_rfl
theorem Try.cellsInt : Try.prog.cellsOf 3 = 1 := by kernel_rfl
theorem Try.cellsBs : Try.prog.cellsOf 23 = 1 := by kernel_rfl
theorem Try.cellsB : Try.prog.cellsOf 5 = 1 := by kernel_rfl

theorem int_cell {n : Nat} {c : Value} {y : DataW H × List MemPlace} (h : DataW.trod enc Try.prog W base sp held n 3 [c] = some y) : ∃ k, c = .int .i64 k ∧ (Lit.int .i64 k).wf = true := by
  obtain ⟨k, e, -, hw⟩ := DataW.trod_int Try.underlying3 h
  exact ⟨k, by simpa using e, hw⟩

set_option maxRecDepth 20000 in
/-- Cells of a deed. -/
theorem deed_cells {fuel : Nat} {cs : List Value} {x : DataW H × List MemPlace} (h : DataW.trod enc Try.prog W base sp held fuel 25 cs = some x) :
    ∃ (y : DeedP) (dv : Value), cs = [.int .i64 y.k, .int .i64 y.n, .int .i64 y.m, dv] ∧ Bs W dv y.d ∧ (Lit.int .i64 y.k).wf = true ∧ (Lit.int .i64 y.n).wf = true ∧ (Lit.int .i64 y.m).wf = true := by
  obtain ⟨hlen, hf⟩ := field_at Try.underlying25 h
  rw [Try.cellsDeed] at hlen
  obtain ⟨c0, c1, c2, c3, rfl⟩ := four_of hlen
  have g0 := hf 0 _ rfl
  have h0 : ∃ n y, DataW.trod enc Try.prog W base sp held n 3 (([c0, c1, c2, c3].drop 0).take (Try.prog.cellsOf 3)) = some y := g0
  rw [Try.cellsInt] at h0
  obtain ⟨m0, y0, f0⟩ := h0
  have g1 := hf 1 _ rfl
  have h1 : ∃ n y, DataW.trod enc Try.prog W base sp held n 3 (([c0, c1, c2, c3].drop 1).take (Try.prog.cellsOf 3)) = some y := g1
  rw [Try.cellsInt] at h1
  obtain ⟨m1, y1, f1⟩ := h1
  have g2 := hf 2 _ rfl
  have h2 : ∃ n y, DataW.trod enc Try.prog W base sp held n 3 (([c0, c1, c2, c3].drop 2).take (Try.prog.cellsOf 3)) = some y := g2
  rw [Try.cellsInt] at h2
  obtain ⟨m2, y2, f2⟩ := h2
  have g3 := hf 3 _ rfl
  have h3 : ∃ n y, DataW.trod enc Try.prog W base sp held n 23 (([c0, c1, c2, c3].drop 3).take (Try.prog.cellsOf 23)) = some y := g3
  rw [Try.cellsBs] at h3
  obtain ⟨m3, y3, f3⟩ := h3
  obtain ⟨k, rfl, hk⟩ := int_cell f0
  obtain ⟨n, rfl, hn⟩ := int_cell f1
  obtain ⟨m, rfl, hm⟩ := int_cell f2
  obtain ⟨l, hl⟩ := bs_of_trod Try.underlying23 Try.underlying5 Try.cellsB f3
  exact ⟨⟨k, n, m, l⟩, _, rfl, hl, hk, hn, hm⟩

set_option maxRecDepth 20000 in
/-- A deed that is an argument. -/
theorem open_deed {v : Value} {d : DataW H} {p : List MemPlace} {b0 : Nat} (hv : Value.okWide Try.prog W .any b0 25 v) (h : DataW.Trod enc Try.prog W base sp held 25 v d p) :
    ∃ y : DeedP, DeedV W v y ∧ (-9223372036854775808 ≤ y.n ∧ y.n ≤ 9223372036854775807) ∧ (-9223372036854775808 ≤ y.m ∧ y.m ≤ 9223372036854775807) := by
  obtain ⟨fuel, hf⟩ := h
  unfold Value.okWide at hv
  rw [Try.underlying25] at hv
  obtain ⟨cs, rfl, -, -⟩ := hv
  obtain ⟨y, dv, e, hb, -, hn, hm⟩ := deed_cells hf
  have e' : cs = #[.int .i64 y.k, .int .i64 y.n, .int .i64 y.m, dv] := Array.toList_inj.1 e
  exact ⟨y, ⟨dv, by rw [e'], hb⟩, bounds_i64 hn, bounds_i64 hm⟩

end

end Go.Proofs.Ytjggiameajndgab

/-
  What the reference's Plan returns: a deed's intent. Nothing old turns.
-/
namespace Go.Proofs.Ytjggiameajndgab
open Go.RowKit

theorem Try.sizeI : (Try.prog.info? 62).map (·.size) = some 2 := by kernel_rfl

theorem Try.made4S (w : World) : (Instr.makeSlice 22 (.int .i64 4) (.int .i64 4)).run Try.prog w = .ok (.slice (some ⟨w.heap.size, 0, none⟩) 4 4) (w.alloc (.cells #[.slice none 0 0, .slice none 0 0, .slice none 0 0, .slice none 0 0] 23)) :=
  (run_make_row' (P := Try.prog) 22 23 (.slice none 0 0) 24 Try.underlying22 Try.infoS rfl .i64 .i64 4 (by decide) (by decide) w).trans (by rw [show madeCells #[.slice none 0 0] 4 = #[Value.slice none 0 0, .slice none 0 0, .slice none 0 0, .slice none 0 0] from Array.toList_inj.1 (toList_madeCells_one _ _)])

theorem RowingF.made4 (F : Nat → Prop) (w : World) : RowingF F Bs w.heap.size 23 (w.alloc (.cells #[.slice none 0 0, .slice none 0 0, .slice none 0 0, .slice none 0 0] 23)) (.slice (some ⟨w.heap.size, 0, none⟩) 4 4) (List.replicate 4 []) := by
  refine ⟨[.slice none 0 0, .slice none 0 0, .slice none 0 0, .slice none 0 0], ⟨rfl, .inr ⟨w.heap.size, 4, #[.slice none 0 0, .slice none 0 0, .slice none 0 0, .slice none 0 0], rfl, Nat.le_refl _, heap_alloc_new w _, Nat.le_refl _, by unfold maxLen; omega, rfl, rfl⟩⟩, rfl, fun i u x hu hx w' _ => ?_⟩
  have hu' : u = .slice none 0 0 := by
    have := List.mem_of_getElem? hu
    simpa using this
  have hx' : x = [] := by
    have := List.mem_of_getElem? hx
    simpa using this
  subst hu' hx'
  exact Bs.nil _

set_option maxRecDepth 20000 in
set_option maxHeartbeats 3200000 in
theorem refPlan_no (v dv : Value) (a : ArrP) (x : DeedP) (w : World) (h : ArrV w v a) (ha : Whole a) (hd : DeedV w dv x) (he : planE a x ≠ 0) :
    Calls Try.prog 42 #[v, dv] w fun e w' => ∃ r, e = .returned (.tuple #[r, .int .i64 (planE a x)]) ∧ IntentV w' r (planI a x) ∧ Grow w w' := by
  have HP : Hid (planI a x = (0, [])) := if_pos he
  have harr := h
  have hdeed := hd
  obtain ⟨a1, n1, c1, a2, n2, c2, rfl⟩ := h.form
  obtain ⟨sv, rfl, hbd⟩ := hd
  obtain ⟨d1, d2, d3, rfl⟩ := hbd.form
  clear h hbd
  obtain ⟨W, hW⟩ : ∃ W, W = ((w.alloc (.cells #[.slice a1 n1 c1, .slice a2 n2 c2] 39)).alloc (.cells #[.int .i64 x.k, .int .i64 x.n, .int .i64 x.m, .slice d1 d2 d3] 25)).alloc (.cells #[.int .i64 0, .slice none 0 0] 62) := ⟨_, rfl⟩
  have hgW : Grow w W := by rw [hW]; exact ((Grow.alloc _ _).trans (Grow.alloc _ _)).trans (Grow.alloc _ _)
  obtain ⟨H1, H2, H3⟩ := heap3 w (.cells #[.slice a1 n1 c1, .slice a2 n2 c2] 39) (.cells #[.int .i64 x.k, .int .i64 x.n, .int .i64 x.m, .slice d1 d2 d3] 25) (.cells #[.int .i64 0, .slice none 0 0] 62)
  rw [← hW] at H1 H2 H3
  have k0 : W.cell? ⟨w.heap.size, 0, none⟩ = some (.slice a1 n1 c1) := row_at H1 0 rfl
  have k1 : W.cell? ⟨w.heap.size, 1, none⟩ = some (.slice a2 n2 c2) := row_at H1 1 rfl
  have d0' : W.cell? ⟨w.heap.size + 1, 0, none⟩ = some (.int .i64 x.k) := row_at H2 0 rfl
  have d1' : W.cell? ⟨w.heap.size + 1, 1, none⟩ = some (.int .i64 x.n) := row_at H2 1 rfl
  have d2' : W.cell? ⟨w.heap.size + 1, 2, none⟩ = some (.int .i64 x.m) := row_at H2 2 rfl
  have d3' : W.cell? ⟨w.heap.size + 1, 3, none⟩ = some (.slice d1 d2 d3) := row_at H2 3 rfl
  have r0 : W.cell? ⟨w.heap.size + 1 + 1, 0, none⟩ = some (.int .i64 0) := row_at H3 0 rfl
  have r1 : W.cell? ⟨w.heap.size + 1 + 1, 1, none⟩ = some (.slice none 0 0) := row_at H3 1 rfl
  have f0 : W.frozen? ⟨w.heap.size + 1 + 1, 0, none⟩ = false := frozen_of_row W _ 0 _ _ H3
  have f1 : W.frozen? ⟨w.heap.size + 1 + 1, 1, none⟩ = false := frozen_of_row W _ 1 _ _ H3
  clear H1 H2 H3
  have hwr := refWrong_any _ x W (hdeed.grow hgW)
  have hWh := fun w1 => refWhere_any x.n w1
  have hlW : w.heap.size + 1 + 1 < W.heap.size := cell_lt r0
  by_cases hw0 : wrongE x = 0
  · obtain ⟨-, hn0, hn8, -, -⟩ := right_deed hw0
    obtain ⟨hD, hS, hE, hd4, hs3⟩ := where_bd (n := x.n) (by omega)
    have HE : Hid (planE a x = dataE (cellsL a (sOf x.n)) (sOf x.n)) := if_neg (by simp [hw0])
    rw [HE.out] at he
    rw [hD, hS, hE] at hWh
    rw [hw0] at hwr
    clear hD hS hE hw0
    generalize dOf x.n = dn at *
    generalize sOf x.n = s at *
    go_enter Try.func42, Try.ntmps42
    go_wp2_with fail
    rw [← hW]
    refine hwr.mono ?_
    rintro e w1 ⟨rfl, hg1⟩
    have e1 := hg1.at d1'
    go_wp2_with fail
    refine (hWh _).mono ?_
    rintro e w2 ⟨rfl, hg2⟩
    have hg02 := hg1.trans hg2
    have q0 := hg02.at k0
    have q1 := hg02.at k1
    clear hW
    go_wp2_with fail
    refine (refCells_any _ a s _ (harr.grow (hgW.trans hg02)) ha hs3).mono ?_
    rintro e w3 ⟨rc, rfl, hrc, hg3⟩
    go_wp2_with fail
    refine (refData_any _ _ s _ hrc (by rw [cellsL_length, ha.1]; omega)).mono ?_
    rintro e w4 ⟨rd, rfl, hrd, hg4⟩
    have hg04 := (hg02.trans hg3).trans hg4
    have t0 := hg04.at r0
    have t1 := hg04.at r1
    have z0 := (hg04.frozen (a := ⟨w.heap.size + 1 + 1, 0, none⟩) hlW).trans f0
    have z1 := (hg04.frozen (a := ⟨w.heap.size + 1 + 1, 1, none⟩) hlW).trans f1
    clear k0 k1 d0' d1' d2' d3' r0 r1 f0 f1 hwr hWh q0 q1 e1 hg1 hg2 hg3 hg4
    generalize dataE (cellsL a s) s = E at *
    have he' : (E != 0) = true := by simpa using he
    have hgF := hgW.trans hg04
    go_wp2
    refine bodyPost_ret (results_two1 Try.results42 _ _ (w.heap.size + 1 + 1) _ rfl Try.underlying62 rfl Try.sizeI (x := .int .i64 0) (y := .slice none 0 0) (by rw [cell_set_ne (by simp)]; exact World.cell?_setCell_same _ _ _ t0) (World.cell?_setCell_same _ _ _ (by rw [cell_set_ne (by simp)]; exact t1))) rfl ?_
    exact ⟨_, ret_bs2 HE.out.symm, by rw [HP.out]; exact ⟨_, rfl, Sl.nil _ _⟩, (hgF.set (by omega) _).set (by omega) _⟩
  · have HE : Hid (planE a x = wrongE x) := if_pos hw0
    clear he
    generalize wrongE x = E at *
    have he' : (E != 0) = true := by simpa using hw0
    go_enter Try.func42, Try.ntmps42
    go_wp2_with fail
    rw [← hW]
    refine hwr.mono ?_
    rintro e w1 ⟨rfl, hg1⟩
    have t0 := hg1.at r0
    have t1 := hg1.at r1
    have z0 := (hg1.frozen (a := ⟨w.heap.size + 1 + 1, 0, none⟩) hlW).trans f0
    have z1 := (hg1.frozen (a := ⟨w.heap.size + 1 + 1, 1, none⟩) hlW).trans f1
    clear k0 k1 d0' d1' d2' d3' r0 r1 f0 f1 hwr hWh hW
    have hgF := hgW.trans hg1
    go_wp2
    refine bodyPost_ret (results_two1 Try.results42 _ _ (w.heap.size + 1 + 1) _ rfl Try.underlying62 rfl Try.sizeI (x := .int .i64 0) (y := .slice none 0 0) (by rw [cell_set_ne (by simp)]; exact World.cell?_setCell_same _ _ _ t0) (World.cell?_setCell_same _ _ _ (by rw [cell_set_ne (by simp)]; exact t1))) rfl ?_
    exact ⟨_, ret_bs2 HE.out.symm, by rw [HP.out]; exact ⟨_, rfl, Sl.nil _ _⟩, (hgF.set (by omega) _).set (by omega) _⟩

set_option maxRecDepth 20000 in
set_option maxHeartbeats 6400000 in
theorem refPlan_yes (v dv : Value) (a : ArrP) (x : DeedP) (w : World) (h : ArrV w v a) (ha : Whole a) (hd : DeedV w dv x) (he : planE a x = 0) :
    Calls Try.prog 42 #[v, dv] w fun e w' => ∃ r, e = .returned (.tuple #[r, .int .i64 (planE a x)]) ∧ IntentV w' r (planI a x) ∧ Grow w w' := by
  obtain ⟨i0, hi, hz0, hz1, hz2⟩ := info_parts Try.infoS
  have hw0 : wrongE x = 0 := by
    unfold planE at he
    split at he
    · exact he
    · rename_i h; exact Decidable.not_not.1 h
  have hde : dataE (cellsL a (sOf x.n)) (sOf x.n) = 0 := by
    unfold planE at he
    rwa [if_neg (by simp [hw0])] at he
  have HP : Hid (planI a x = ((sOf x.n : Int), makeL (planOut (planBl a x) (sOf x.n)) (sOf x.n))) := if_neg (by simp [he])
  have HB : Hid (planBl a x = doL (spreadTo (dataL (cellsL a (sOf x.n)) (sOf x.n)) (sOf x.n) 9) x) := rfl
  have HE : Hid (planE a x = 0) := he
  have harr := h
  have hdeed := hd
  obtain ⟨a1, n1, c1, a2, n2, c2, rfl⟩ := h.form
  obtain ⟨sv, rfl, hbd⟩ := hd
  obtain ⟨d1, d2, d3, rfl⟩ := hbd.form
  clear h hbd he
  obtain ⟨W, hW⟩ : ∃ W, W = ((w.alloc (.cells #[.slice a1 n1 c1, .slice a2 n2 c2] 39)).alloc (.cells #[.int .i64 x.k, .int .i64 x.n, .int .i64 x.m, .slice d1 d2 d3] 25)).alloc (.cells #[.int .i64 0, .slice none 0 0] 62) := ⟨_, rfl⟩
  have hgW : Grow w W := by rw [hW]; exact ((Grow.alloc _ _).trans (Grow.alloc _ _)).trans (Grow.alloc _ _)
  obtain ⟨H1, H2, H3⟩ := heap3 w (.cells #[.slice a1 n1 c1, .slice a2 n2 c2] 39) (.cells #[.int .i64 x.k, .int .i64 x.n, .int .i64 x.m, .slice d1 d2 d3] 25) (.cells #[.int .i64 0, .slice none 0 0] 62)
  rw [← hW] at H1 H2 H3
  have k0 : W.cell? ⟨w.heap.size, 0, none⟩ = some (.slice a1 n1 c1) := row_at H1 0 rfl
  have k1 : W.cell? ⟨w.heap.size, 1, none⟩ = some (.slice a2 n2 c2) := row_at H1 1 rfl
  have d0' : W.cell? ⟨w.heap.size + 1, 0, none⟩ = some (.int .i64 x.k) := row_at H2 0 rfl
  have d1' : W.cell? ⟨w.heap.size + 1, 1, none⟩ = some (.int .i64 x.n) := row_at H2 1 rfl
  have d2' : W.cell? ⟨w.heap.size + 1, 2, none⟩ = some (.int .i64 x.m) := row_at H2 2 rfl
  have d3' : W.cell? ⟨w.heap.size + 1, 3, none⟩ = some (.slice d1 d2 d3) := row_at H2 3 rfl
  have hRW := H3
  clear H1 H2 H3
  have hwr := refWrong_any _ x W (hdeed.grow hgW)
  have hWh := fun w1 => refWhere_any x.n w1
  obtain ⟨-, hn0, hn8, -, -⟩ := right_deed hw0
  obtain ⟨hD, hS, hEw, hd4, hs3⟩ := where_bd (n := x.n) (by omega)
  rw [hD, hS, hEw] at hWh
  have Hw0 : Hid (wrongE x = 0) := hw0
  rw [hw0] at hwr
  clear hD hS hEw hw0
  generalize dOf x.n = dn at *
  generalize sOf x.n = s at *
  have hdl := dataL_length hde
  rw [cellsL_length, ha.1] at hdl
  have hdb := dataL_blocks hde
  go_enter Try.func42, Try.ntmps42
  go_wp2_with fail
  rw [← hW]
  refine hwr.mono ?_
  rintro e w1 ⟨rfl, hg1⟩
  have e1 := hg1.at d1'
  go_wp2_with fail
  refine (hWh _).mono ?_
  rintro e w2 ⟨rfl, hg2⟩
  have hg02 := hg1.trans hg2
  have q0 := hg02.at k0
  have q1 := hg02.at k1
  clear hW
  go_wp2_with fail
  refine (refCells_any _ a s _ (harr.grow (hgW.trans hg02)) ha hs3).mono ?_
  rintro e w3 ⟨rc, rfl, hrc, hg3⟩
  go_wp2_with fail
  refine (refData_any _ _ s _ hrc (by rw [cellsL_length, ha.1]; omega)).mono ?_
  rintro e w4 ⟨rd, rfl, hrd, hg4⟩
  rw [hde]
  have hg04 := (hg02.trans hg3).trans hg4
  clear k0 k1 hwr hWh q0 q1 e1 hg1 hg2 hg3 hg4 hrc hde
  generalize dataL (cellsL a s) s = ds at *
  obtain ⟨rda, rdc, rfl, hrd1, hrd2⟩ := hrd.form'
  rw [hdl] at hrd1 hrd ⊢
  obtain ⟨db, doff, du, rfl, -, -⟩ := hrd.elem (k := 0) (by omega) []
  go_wp2_with fail
  refine (refNew_any _).mono ?_
  rintro e w5 ⟨r, rfl, hrow, hg5⟩
  obtain ⟨g, cap, hr, hgb, hgl⟩ := hrow.form (by simp)
  rw [List.length_replicate] at hr
  subst hr
  rw [← spreadTo_zero ds s] at hrow
  have hcap := hrow.cap
  go_wp2
  go_loopw [52] (fun i wr => ∃ k : Nat, k ≤ 9 ∧ i = .int .i64 k ∧ Hid (Rowing Bs w4.heap.size 23 wr (.slice (some ⟨g, 0, none⟩) 9 cap) (spreadTo ds s k)) ∧ Grow w4 wr) (fun i _ => 9 - (intOf i).toNat)
  case atStart => exact ⟨0, by omega, rfl, hrow, hg5⟩
  case round =>
    obtain ⟨k, hk, rfl, HR, hgr⟩ := hrel
    by_cases hlt : k < 9
    · obtain ⟨hD, hS, hEw, hdk, hsk⟩ := where_bd (n := (k : Int)) (by omega)
      have hWk := fun w1 => refWhere_any (k : Int) w1
      rw [hD, hS, hEw] at hWk
      clear hD hS hEw
      obtain ⟨b', off', u', hb', hu', hr'⟩ := hrd.elem (k := dOf (k : Int)) (by omega) []
      injection hb' with hb'
      cases hb'
      obtain ⟨x1, x2, x3, rfl⟩ := hr'.form
      have Hin : Hid (sOf (k : Int) = s → (spreadTo ds s k).set k (ds.getD (dOf (k : Int)) []) = spreadTo ds s (k + 1)) := fun h => spreadTo_in h
      have Hout : Hid (sOf (k : Int) ≠ s → spreadTo ds s k = spreadTo ds s (k + 1)) := fun h => spreadTo_out h
      have Hlen : Hid ((spreadTo ds s k).length = 9) := spreadTo_length ds s k
      generalize dOf (k : Int) = dk at *
      generalize sOf (k : Int) = sk at *
      go_wp2_with fail
      refine (hWk _).mono ?_
      rintro e w6 ⟨rfl, hg6⟩
      have hgr6 := hgr.trans hg6
      have hu6 := hgr6.at hu'
      have HR6 : Hid (Rowing Bs w4.heap.size 23 w6 (.slice (some ⟨g, 0, none⟩) 9 cap) (spreadTo ds s k)) := HR.out.grow hg6
      obtain ⟨⟨uo, hcu⟩, hfu⟩ := HR6.out.at (k := k) (by rw [Hlen.out]; exact hlt)
      by_cases hsks : sk = s
      · have HN := HR6.out.stored k (u := .slice x1 x2 x3) (x := ds.getD dk []) (Off.old Bs.stays hr' hgr6 (fun j hj => by cases hj; exact hgb))
        rw [Hin.out hsks] at HN
        have HN' : Hid (Rowing Bs w4.heap.size 23 _ (.slice (some ⟨g, 0, none⟩) 9 cap) (spreadTo ds s (k + 1))) := HN
        clear HN HR HR6 Hin Hout Hlen hr'
        subst hsks
        go_wp2
        go_roundw
        case rel => first | exact ⟨k + 1, by omega, by go_num, HN', hgr6.set hgb _⟩ | ((repeat apply Exists.intro); exact ⟨⟨k + 1, by omega, by go_num, HN', hgr6.set hgb _⟩, rfl⟩)
        case measure => simp [intOf]; omega
      · have HN' : Hid (Rowing Bs w4.heap.size 23 w6 (.slice (some ⟨g, 0, none⟩) 9 cap) (spreadTo ds s (k + 1))) := by rw [Hid, ← Hout.out hsks]; exact HR6.out
        have hsk' : ¬ (sk : Int) = s := by omega
        clear HR HR6 Hin Hout Hlen hr' hsks
        go_wp2
        go_roundw
        case rel => first | exact ⟨k + 1, by omega, by go_num, HN', hgr6⟩ | ((repeat apply Exists.intro); exact ⟨⟨k + 1, by omega, by go_num, HN', hgr6⟩, rfl⟩)
        case measure => simp [intOf]; omega
    · have HK : Hid (k = 9) := by rw [Hid]; omega
      have HS9 : Hid (Bss wr (.slice (some ⟨g, 0, none⟩) 9 cap) (spreadTo ds s 9)) := by
        have := HR.out.done
        rw [HK.out] at this
        exact this
      have hg0r := hg04.trans hgr
      have e0 := hg0r.at d0'
      have e1 := hg0r.at d1'
      have e2 := hg0r.at d2'
      have e3 := hg0r.at d3'
      have hR6 := hg0r.block' hRW
      have hsb := spread_blocks hdb hdl s 9
      have Hb4 : Hid (∀ b ∈ planBl a x, b.length = 4) := by rw [Hid, HB.out]; exact doL_blocks hsb (spreadTo_length _ _ _) Hw0.out
      have Hb9 : Hid ((planBl a x).length = 9) := by rw [Hid, HB.out, doL_length, spreadTo_length]
      have hgwr := hgW.trans hg0r
      clear HR hrow hrd hRW d0' d1' d2' d3' hg5 hgl hcap
      go_wp2_with fail
      refine (refDo_any _ _ (spreadTo ds s 9) x _ HS9.out (hdeed.grow hgwr) (spreadTo_length _ _ _) Hw0.out).mono ?_
      rintro e w6 ⟨rb, rfl, hrb, hg6⟩
      rw [← HB.out] at hrb
      have hR7 := hg6.block' hR6
      have hgw6 := hgwr.trans hg6
      clear HB HS9 e0 e1 e2 e3 hR6 hsb hdb hdl
      generalize planBl a x = bl at *
      obtain ⟨rba, rbc, rfl, hrb1, hrb2⟩ := hrb.form'
      rw [Hb9.out] at hrb1 hrb ⊢
      obtain ⟨bb, boff, bu, rfl, -, -⟩ := hrb.elem (k := 0) (by rw [Hb9.out]; omega) []
      have hmk := Try.made4S w6
      have hwl : w.heap.size + 1 + 1 < w6.heap.size := by
        have := two_at0 hR7
        exact cell_lt this
      have hstart : Hid (RowingF (fun j => w6.heap.size < j) Bs w6.heap.size 23 (w6.alloc (.cells #[.slice none 0 0, .slice none 0 0, .slice none 0 0, .slice none 0 0] 23)) (.slice (some ⟨w6.heap.size, 0, none⟩) 4 4) (outTo bl s 0)) := RowingF.made4 _ w6
      have hgd : Grow w6 (w6.alloc (.cells #[.slice none 0 0, .slice none 0 0, .slice none 0 0, .slice none 0 0] 23)) := Grow.alloc _ _
      have hsz7 : w6.heap.size + 1 ≤ (w6.alloc (.cells #[.slice none 0 0, .slice none 0 0, .slice none 0 0, .slice none 0 0] 23)).heap.size := by simp
      go_wp2
      go_loopw [18, 78] (fun l i wr => ∃ k : Nat, k ≤ 9 ∧ i = .int .i64 k ∧ Hid (RowingF (fun j => j = w6.heap.size) Bs (w6.heap.size + 1) 23 wr l (rowTo bl s k)) ∧ Hid (RowingF (fun j => w6.heap.size < j) Bs w6.heap.size 23 wr (.slice (some ⟨w6.heap.size, 0, none⟩) 4 4) (outTo bl s k)) ∧ Grow w6 wr ∧ w6.heap.size + 1 ≤ wr.heap.size) (fun _ i _ => 9 - (intOf i).toNat)
      case atStart => exact ⟨0, by omega, rfl, RowingF.nil _ _ _ _ _, hstart, hgd, hsz7⟩
      case round =>
        obtain ⟨q, hq, rfl, HL, HO, hgr7, hsz⟩ := hrel
        clear hstart hmk hgd hsz7
        by_cases hlt9 : q < 9
        · obtain ⟨hD, hS, hEw, hdk, hsk⟩ := where_bd (n := (q : Int)) (by omega)
          have hWk := fun w1 => refWhere_any (q : Int) w1
          rw [hD, hS, hEw] at hWk
          clear hD hS hEw
          obtain ⟨b', off', u', hb', hu', hr'⟩ := hrb.elem (k := q) (by rw [Hb9.out]; omega) []
          injection hb' with hb'
          cases hb'
          obtain ⟨x1, x2, x3, rfl⟩ := hr'.form
          have Hin : Hid (sOf (q : Int) = s → (outTo bl s q).set (dOf (q : Int)) (bl.getD q []) = outTo bl s (q + 1) ∧ rowTo bl s q ++ [bl.getD q []] = rowTo bl s (q + 1)) := fun h => ⟨outTo_in h, rowTo_in h⟩
          have Hout : Hid (sOf (q : Int) ≠ s → outTo bl s q = outTo bl s (q + 1) ∧ rowTo bl s q = rowTo bl s (q + 1)) := fun h => ⟨outTo_out h, rowTo_out h⟩
          have Hlen : Hid ((outTo bl s q).length = 4) := outTo_length bl s q
          have hrl := rowTo_length bl s q
          generalize dOf (q : Int) = dk at *
          generalize sOf (q : Int) = sk at *
          have hu7 := hgr7.at hu'
          have hdk' : (dk : Int) < 4 := by omega
          go_wp2_with fail
          refine (hWk _).mono ?_
          rintro e w7 ⟨rfl, hg7⟩
          have hgr77 := hgr7.trans hg7
          have hsz77 : w6.heap.size + 1 ≤ w7.heap.size := Nat.le_trans hsz hg7.size
          have HL7 : Hid (RowingF (fun j => j = w6.heap.size) Bs (w6.heap.size + 1) 23 w7 u18 (rowTo bl s q)) := HL.out.grow hg7
          have HO7 : Hid (RowingF (fun j => w6.heap.size < j) Bs w6.heap.size 23 w7 (.slice (some ⟨w6.heap.size, 0, none⟩) 4 4) (outTo bl s q)) := HO.out.grow hg7
          clear HL HO
          by_cases hsks : sk = s
          · obtain ⟨⟨uo, hcu⟩, hfu⟩ := HO7.out.plain.at (k := dk) (by rw [Hlen.out]; exact hdk)
            have hbase := fun j hj => (HL7.out.base j hj).1
            have hoff := fun G hG => OffG.old (G := G) Bs.stays hr' hgr77 hG
            have HO8 : Hid (RowingF (fun j => w6.heap.size < j) Bs w6.heap.size 23 (w7.setCell ⟨w6.heap.size, dk, none⟩ (.slice x1 x2 x3)) (.slice (some ⟨w6.heap.size, 0, none⟩) 4 4) (outTo bl s (q + 1))) := by
              have := HO7.out.stored dk (hoff (fun j => w6.heap.size < j ∨ some w6.heap.size = some j) (fun j hj => by
                rcases hj with hj | hj
                · omega
                · injection hj with hj; omega))
              rw [(Hin.out hsks).1] at this
              exact this
            have hrowL := HL7.out.set (A := w6.heap.size) rfl (fun e => by have := hbase _ e; omega) dk (.slice x1 x2 x3)
            have hoffL : OffG Bs (fun j => j = w6.heap.size ∨ u18.ownBlock = some j) (w7.setCell ⟨w6.heap.size, dk, none⟩ (.slice x1 x2 x3)) (.slice x1 x2 x3) (bl.getD q []) := (hoff _ (fun j hj => by
                rcases hj with hj | hj
                · omega
                · have := hbase j hj; omega)).step (grownIn_set w7 w6.heap.size dk _ (.inl rfl))
            have hG8 : Grow w6 (w7.setCell ⟨w6.heap.size, dk, none⟩ (.slice x1 x2 x3)) := hgr77.set (by show w6.heap.size ≤ w6.heap.size; omega) _
            have hT := (Hin.out hsks).2
            have hsz8 : w6.heap.size + 1 ≤ (w7.setCell ⟨w6.heap.size, dk, none⟩ (.slice x1 x2 x3)).heap.size := by simpa using hsz77
            clear HL7 HO7 Hin Hout Hlen hoff hr'
            subst hsks
            go_wp2_with (first
              | (at_builtin; refine wpList_pushF rfl (.tmp 96) (.tmp 98) 22 rfl i0 (.slice none 0 0) 24 Try.underlying22 hi hz0 hz1 hz2 rfl w6 hG8 (by omega) hsz8 rfl hrowL rfl hoffL w7.heap.size (by simp) rfl (by omega) (by omega) ?_; rintro v1 w8 - hrow8 hg8 hgi8))
            rw [hT] at hrow8
            have HO9 := HO8.out.kept (hgi8.mono (fun j hj => by have := hbase j hj; show w6.heap.size < j; omega)) (fun j hj => by cases hj; exact Nat.lt_irrefl _)
            have HO9' : Hid (RowingF (fun j => w6.heap.size < j) Bs w6.heap.size 23 w8 (.slice (some ⟨w6.heap.size, 0, none⟩) 4 4) _) := HO9
            have hsz9 : w6.heap.size + 1 ≤ w8.heap.size := Nat.le_trans hsz8 hgi8.size
            clear HO9 HO8
            go_wp2
            go_roundw
            case rel => first | exact ⟨q + 1, by omega, by go_num, hrow8, HO9', hg8, hsz9⟩ | ((repeat apply Exists.intro); exact ⟨⟨q + 1, by omega, by go_num, hrow8, HO9', hg8, hsz9⟩, rfl⟩)
            case measure => simp [intOf]; omega
          · have hsk' : ¬ (sk : Int) = s := by omega
            have HL8 : Hid (RowingF (fun j => j = w6.heap.size) Bs (w6.heap.size + 1) 23 w7 u18 (rowTo bl s (q + 1))) := by rw [Hid, ← (Hout.out hsks).2]; exact HL7.out
            have HO8 : Hid (RowingF (fun j => w6.heap.size < j) Bs w6.heap.size 23 w7 (.slice (some ⟨w6.heap.size, 0, none⟩) 4 4) (outTo bl s (q + 1))) := by rw [Hid, ← (Hout.out hsks).1]; exact HO7.out
            clear HL7 HO7 Hin Hout Hlen hr' hsks
            go_wp2
            go_roundw
            case rel => first | exact ⟨q + 1, by omega, by go_num, HL8, HO8, hgr77, hsz77⟩ | ((repeat apply Exists.intro); exact ⟨⟨q + 1, by omega, by go_num, HL8, HO8, hgr77, hsz77⟩, rfl⟩)
            case measure => simp [intOf]; omega
        · have HQ : Hid (q = 9) := by rw [Hid]; omega
          have HLd : Hid (Bss wr u18 (rowTo bl s 9)) := by have := HL.out.done; rw [HQ.out] at this; exact this
          have HOp : Hid (Rowing Bs w6.heap.size 23 wr (.slice (some ⟨w6.heap.size, 0, none⟩) 4 4) (outTo bl s 9)) := by have := HO.out.plain; rw [HQ.out] at this; exact this
          have HX4 : Hid (∀ b ∈ rowTo bl s 9, b.length = 4) := rowTo_blocks Hb4.out Hb9.out s 9 (by omega)
          have hoct := xorAll_octets HLd.out.octets
          have hR8 := hgr7.block' hR7
          have hSp : ∀ w1, Calls Try.prog 76 #[.int .i64 (s : Int)] w1 fun e w' => e = .returned (.int .i64 ((3 - s : Nat) : Int)) ∧ Grow w1 w' := fun w1 => (refSpare_any (s : Int) w1 (by omega) (by omega)).mono fun e w' ⟨he, hg⟩ => ⟨he.trans (ret_int (by omega)), hg⟩
          have Hpo : Hid (planOut bl s = (outTo bl s 9).set (3 - s) (xorAll (rowTo bl s 9))) := rfl
          have Hpb : Hid (∀ b ∈ planOut bl s, b.length = 4) := planOut_blocks Hb4.out Hb9.out hs3
          have Hpl : Hid ((planOut bl s).length = 4) := planOut_length bl s
          have Hol : Hid ((outTo bl s 9).length = 4) := outTo_length bl s 9
          have htl : 3 - s < 4 := by omega
          clear HL HO hrb hR7
          generalize 3 - s = t at *
          have htl' : (t : Int) < 4 := by omega
          go_wp2_with fail
          refine (hSp _).mono ?_
          rintro e w7 ⟨rfl, hg7⟩
          go_wp2_with fail
          refine (refXor_new _ _ _ (HLd.out.grow hg7) HX4.out).mono ?_
          rintro e w8 ⟨rfl, HX, hg8⟩
          have hg78 := hg7.trans hg8
          have HO8 : Hid (Rowing Bs w6.heap.size 23 w8 (.slice (some ⟨w6.heap.size, 0, none⟩) 4 4) (outTo bl s 9)) := HOp.out.grow hg78
          obtain ⟨⟨uo, hcu⟩, hfu⟩ := HO8.out.at (k := t) (by rw [Hol.out]; exact htl)
          have hne : w6.heap.size ≠ w7.heap.size := by have := hg7.size; omega
          have hst := HO8.out.stored t (Off.row (g := some w6.heap.size) HX.out (xorAll_length _) (by unfold maxLen; omega) hoct (fun e => by injection e with e; exact hne e))
          rw [← Hpo.out] at hst
          have HS : Hid (Bss (w8.setCell ⟨w6.heap.size, t, none⟩ (.slice (some ⟨w7.heap.size, 0, none⟩) 4 4)) (.slice (some ⟨w6.heap.size, 0, none⟩) 4 4) (planOut bl s)) := hst.done
          have hgl8 : Grow w6 (w8.setCell ⟨w6.heap.size, t, none⟩ (.slice (some ⟨w7.heap.size, 0, none⟩) 4 4)) := (hgr7.trans hg78).set (by show w6.heap.size ≤ w6.heap.size; omega) _
          have hR9 : (w8.setCell ⟨w6.heap.size, t, none⟩ (.slice (some ⟨w7.heap.size, 0, none⟩) 4 4)).heap[w.heap.size + 1 + 1]? = _ := (Below.heap_setCell w8 ⟨w6.heap.size, t, none⟩ _ _ (by show w.heap.size + 1 + 1 ≠ w6.heap.size; omega)).trans (hg78.block' hR8)
          clear HOp HO8 hst HX HLd HX4 hR8 hoct Hpo Hol
          go_wp2_with fail
          refine (refMake_any _ _ (s : Int) _ HS.out (by rw [Hpl.out]; omega) (by omega) Hpb.out).mono ?_
          rintro e w9 ⟨rm, rfl, hrm, hg9⟩
          have hml : (makeL (planOut bl s) (s : Int)).length = 4 := by simp [makeL, Hpl.out]
          obtain ⟨ga, ca, hrf, hga, hgal⟩ := hrm.form (by omega)
          rw [hml] at hrf
          subst hrf
          have hR10 := hg9.block' hR9
          have hbx : BssX (some (w.heap.size + 1 + 1)) w9 (.slice (some ⟨ga, 0, none⟩) 4 ca) (makeL (planOut bl s) (s : Int)) := Itn.bss ⟨_, _, _, _, _, hR10⟩ hrm.done (by omega)
          have t0 := two_at0 hR10
          have t1 := two_at1 hR10
          have z0 : w9.frozen? ⟨w.heap.size + 1 + 1, 0, none⟩ = false := frozen_of_row w9 _ 0 _ _ hR10
          have z1 : w9.frozen? ⟨w.heap.size + 1 + 1, 1, none⟩ = false := frozen_of_row w9 _ 1 _ _ hR10
          have hgF := (hgw6.trans hgl8).trans hg9
          have Hbx : Hid (BssX (some (w.heap.size + 1 + 1)) w9 (.slice (some ⟨ga, 0, none⟩) 4 ca) (makeL (planOut bl s) (s : Int))) := hbx
          clear hbx hrm hR9 hR10 HS
          go_wp2
          refine bodyPost_ret (results_two1 Try.results42 _ _ (w.heap.size + 1 + 1) _ rfl Try.underlying62 rfl Try.sizeI (x := .int .i64 (s : Int)) (y := .slice (some ⟨ga, 0, none⟩) 4 ca) (by rw [cell_set_ne (by simp)]; exact World.cell?_setCell_same _ _ _ t0) (World.cell?_setCell_same _ _ _ (by rw [cell_set_ne (by simp)]; exact t1))) rfl ?_
          exact ⟨_, ret_bs2 HE.out.symm, by rw [HP.out]; exact ⟨_, rfl, ((Hbx.out.step (grown_set _ _ _ _)).step (grown_set _ _ _ _)).plain⟩, (hgF.set (by omega) _).set (by omega) _⟩

theorem refPlan_any (v dv : Value) (a : ArrP) (x : DeedP) (w : World) (h : ArrV w v a) (ha : Whole a) (hd : DeedV w dv x) :
    Calls Try.prog 42 #[v, dv] w fun e w' => ∃ r, e = .returned (.tuple #[r, .int .i64 (planE a x)]) ∧ IntentV w' r (planI a x) ∧ Grow w w' := by
  by_cases he : planE a x = 0
  · exact refPlan_yes v dv a x w h ha hd he
  · exact refPlan_no v dv a x w h ha hd he

end Go.Proofs.Ytjggiameajndgab
