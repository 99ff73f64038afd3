import Derived.Test.YtjggiameajndgacProg
import Derived.Deep.QuietTactic
import Derived.BigQuiet
import Derived.Deep.AppendLies
import Derived.Lib.SlBytesConst
import Derived.Laws.CopyOwn
import Derived.Deep.OwnRows
import Derived.Test.YtjggiameajndgacJoin3
/-
  What the reference's NewBlocks, RightBlocks, Wrong and Do return. Nothing old turns.
-/
namespace Go.Proofs.Ytjggiameajndgac
open Go.RowKit

/-- A block of noughts. -/
def nought : List Int := [0, 0, 0, 0]
theorem nought_oct : Octets nought := by intro x hx; simp [nought] at hx; omega

theorem replicate_push (k : Nat) (x : List Int) : List.replicate k x ++ [x] = List.replicate (k + 1) x := (List.replicate_succ').symm

set_option maxRecDepth 20000 in
set_option maxHeartbeats 800000 in
theorem refNew_any (w : World) :
    Calls Try.prog 73 #[] w fun e w' => ∃ r, e = .returned r ∧ Rowing Bs w.heap.size 52 w' r (List.replicate 9 nought) ∧ Grow w w' := by
  obtain ⟨i0, hi, hz0, hz1, hz2⟩ := info_parts Try.infoS
  go_enter Try.func73, Try.ntmps73
  go_wp2
  go_loopw [1, 2] (fun v i wr => ∃ k : Nat, k ≤ 9 ∧ i = .int .i64 k ∧ Hid (Rowing Bs w.heap.size 52 wr v (List.replicate k nought)) ∧ Grow w wr) (fun _ i _ => 9 - (intOf i).toNat)
  case atStart => exact ⟨0, by omega, rfl, Rowing.nil _ _ _ _, Grow.refl _⟩
  case round =>
    obtain ⟨k, hk, rfl, HR, hgr⟩ := hrel
    by_cases hlt : k < 9
    · have hgA : Grow wr (wr.alloc (.cells #[.int .u8 0, .int .u8 0, .int .u8 0, .int .u8 0] 5)) := Grow.alloc _ _
      have hrow := HR.out.grow hgA
      have hoff : Off Bs u1.ownBlock (wr.alloc (.cells #[.int .u8 0, .int .u8 0, .int .u8 0, .int .u8 0] 5)) (.slice (some ⟨wr.heap.size, 0, none⟩) 4 4) nought := Off.row (l := nought) (heap_alloc_new wr _) rfl (by unfold maxLen; omega) nought_oct (fun e => by have := (HR.out.base _ e).2; omega)
      have hg1 := hgr.trans hgA
      clear HR hgA
      go_wp2_with (first
        | (at_builtin; refine wpList_push rfl (.tmp 4) (.tmp 6) 41 rfl i0 (.slice none 0 0) 24 Try.underlying41 hi hz0 hz1 hz2 rfl w hg1 rfl rfl hrow rfl hoff (wr.heap.size + 1) (by simp) rfl (by rw [List.length_replicate]; omega) (by rw [List.length_replicate]; omega) ?_; rintro v1 w1 - hrow1 hg2))
      rw [replicate_push] at hrow1
      go_wp2
      go_roundw
      case rel => first | exact ⟨k + 1, by omega, by go_num, hrow1, hg2⟩ | ((repeat apply Exists.intro); exact ⟨⟨k + 1, by omega, by go_num, hrow1, hg2⟩, rfl⟩)
      case measure => simp [intOf]; omega
    · obtain rfl : k = 9 := by omega
      go_wp2
      go_ret
      exact ⟨_, rfl, HR.out, hgr⟩

/-- Blocks, all of them. -/
def rightBlocksB (ls : List (List Int)) : Bool := ls.all (fun b => b.length == 4) && decide (ls.length = 9)

theorem rb_no {ls : List (List Int)} {k : Nat} (hk : k < ls.length) (h : (ls.getD k []).length ≠ 4) : rightBlocksB ls = false := by
  rw [rightBlocksB, Bool.and_eq_false_iff]
  left
  rw [List.all_eq_false]
  exact ⟨ls.getD k [], by simp [List.getD_eq_getElem?_getD, hk], by simpa using h⟩

theorem rb_end {ls : List (List Int)} (h : ∀ k, k < ls.length → (ls.getD k []).length = 4) : rightBlocksB ls = decide (ls.length = 9) := by
  have : ls.all (fun b => b.length == 4) = true := by
    rw [List.all_eq_true]
    intro b hb
    obtain ⟨i, hi, rfl⟩ := List.mem_iff_getElem.1 hb
    have := h i hi
    simpa [List.getD_eq_getElem?_getD, hi] using this
  rw [rightBlocksB, this, Bool.true_and]

theorem rb_all {ls : List (List Int)} (h : rightBlocksB ls = true) : (∀ b ∈ ls, b.length = 4) ∧ ls.length = 9 := by
  simp [rightBlocksB] at h
  exact h

set_option maxRecDepth 20000 in
set_option maxHeartbeats 400000 in
theorem refRight_any (v : Value) (ls : List (List Int)) (w : World) (h : Bss w v ls) :
    Calls Try.prog 40 #[v] w fun e w' => e = .returned (.bool (rightBlocksB ls)) ∧ w' = w := by
  obtain ⟨ao, cap, rfl, h1, h2, h3, h4⟩ := h
  unfold maxLen at h2
  go_enter Try.func40, Try.ntmps40
  go_wp2
  go_loop [7] (fun i => ∃ k : Nat, k ≤ ls.length ∧ i = .int .i64 k ∧ Hid (∀ j, j < k → (ls.getD j []).length = 4)) (fun i => ls.length - (intOf i).toNat)
  case atStart => exact ⟨0, by omega, rfl, (fun j hj => by omega)⟩
  case round =>
    obtain ⟨k, hk, rfl, HK⟩ := hrel
    by_cases hlt : k < ls.length
    · obtain ⟨b, off, rfl, hc⟩ := h4 (by omega)
      obtain ⟨ak, ck, hck, hbk⟩ := Sl.bytesAt hc hlt
      have hn := hbk.len
      unfold maxLen at hn
      clear hc h4 hbk
      by_cases h0 : (ls.getD k []).length = 4
      · have HK' : Hid (∀ j, j < k + 1 → (ls.getD j []).length = 4) := fun j hj => by
          by_cases hjk : j = k
          · subst hjk; exact h0
          · exact HK.out j (by omega)
        rw [h0] at hck
        clear h0
        go_wp2
        go_round
        case rel => exact ⟨k + 1, by omega, by go_num, HK'⟩
        case measure => simp [intOf]; omega
      · have HE : Hid (rightBlocksB ls = false) := rb_no hlt h0
        generalize (ls.getD k []).length = n at *
        have h0' : ¬ (n : Int) = 4 := by omega
        go_wp2
        go_ret
        exact ⟨ret_bool HE.out.symm, rfl⟩
    · have HE : Hid (rightBlocksB ls = decide (ls.length = 9)) := rb_end fun j hj => HK.out j (by omega)
      go_wp2
      go_ret
      exact ⟨ret_bool (by rw [HE.out]; exact decide_eq_decide.2 (by omega)), rfl⟩

/-- A deed, as it lies. -/
def DeedV (w : World) (v : Value) (x : DeedP) : Prop := ∃ dv, v = .agg #[.int .i64 x.k, .int .i64 x.n, .int .i64 x.m, dv] ∧ Bs w dv x.d
theorem DeedV.grow {w w' : World} {v : Value} {x : DeedP} (h : DeedV w v x) (hg : Grow w w') : DeedV w' v x := by
  obtain ⟨dv, hv, hb⟩ := h
  exact ⟨dv, hv, hb.grow hg⟩

theorem w_kind {x : DeedP} (h : x.k ≠ 1) (h2 : x.k ≠ 2) : wrongE x = 1 := by rw [wrongE, if_pos ⟨h, h2⟩]
theorem w_n {x : DeedP} (h : x.k = 1 ∨ x.k = 2) (h2 : x.n < 0 ∨ 8 < x.n) : wrongE x = 3 := by rw [wrongE, if_neg (by omega), if_pos h2]
theorem w_m {x : DeedP} (h : x.k = 1) (h2 : 0 ≤ x.n ∧ x.n ≤ 8) (h3 : x.m ≠ 0) : wrongE x = 3 := by rw [wrongE, if_neg (by omega), if_neg (by omega), if_pos h, if_pos h3]
theorem w_len {x : DeedP} (h : x.k = 1) (h2 : 0 ≤ x.n ∧ x.n ≤ 8) (h3 : x.m = 0) (h4 : x.d.length ≠ 4) : wrongE x = 4 := by rw [wrongE, if_neg (by omega), if_neg (by omega), if_pos h, if_neg (by omega), if_pos h4]
theorem w_ok {x : DeedP} (h : x.k = 1) (h2 : 0 ≤ x.n ∧ x.n ≤ 8) (h3 : x.m = 0) (h4 : x.d.length = 4) : wrongE x = 0 := by rw [wrongE, if_neg (by omega), if_neg (by omega), if_pos h, if_neg (by omega), if_neg (by omega)]
theorem w_at {x : DeedP} (h : x.k = 2) (h2 : 0 ≤ x.n ∧ x.n ≤ 8) (h3 : whereE x.m ≠ 0 ∨ whereS x.n ≠ whereS x.m) : wrongE x = 3 := by rw [wrongE, if_neg (by omega), if_neg (by omega), if_neg (by omega), if_pos h3]
theorem w_much {x : DeedP} (h : x.k = 2) (h2 : 0 ≤ x.n ∧ x.n ≤ 8) (h3 : ¬ (whereE x.m ≠ 0 ∨ whereS x.n ≠ whereS x.m)) (h4 : x.d.length ≠ 0) : wrongE x = 4 := by rw [wrongE, if_neg (by omega), if_neg (by omega), if_neg (by omega), if_neg h3, if_pos h4]
theorem w_ok2 {x : DeedP} (h : x.k = 2) (h2 : 0 ≤ x.n ∧ x.n ≤ 8) (h3 : ¬ (whereE x.m ≠ 0 ∨ whereS x.n ≠ whereS x.m)) (h4 : x.d.length = 0) : wrongE x = 0 := by rw [wrongE, if_neg (by omega), if_neg (by omega), if_neg (by omega), if_neg h3, if_neg (by omega)]

set_option maxRecDepth 20000 in
set_option maxHeartbeats 1600000 in
theorem refWrong_any (v : Value) (x : DeedP) (w : World) (h : DeedV w v x) :
    Calls Try.prog 71 #[v] w fun e w' => e = .returned (.int .i64 (wrongE x)) ∧ Grow w w' := by
  obtain ⟨dv, rfl, hb⟩ := h
  obtain ⟨ao, cap, rfl, h1, h2, -⟩ := hb
  unfold maxLen at h2
  have wk := w_kind (x := x)
  have wn := w_n (x := x)
  have wm := w_m (x := x)
  have wl := w_len (x := x)
  have wo := w_ok (x := x)
  have wa := w_at (x := x)
  have wu := w_much (x := x)
  have wp := w_ok2 (x := x)
  obtain ⟨k, n, m, d⟩ := x
  dsimp only at *
  generalize wrongE ⟨k, n, m, d⟩ = W at *
  generalize d.length = len at *
  have hgA : Grow w (w.alloc (.cells #[.int .i64 k, .int .i64 n, .int .i64 m, .slice ao len cap] 54)) := Grow.alloc _ _
  by_cases k1 : k = 1
  · subst k1
    by_cases n0 : n < 0
    · have HW : Hid (W = 3) := wn (.inl rfl) (.inl n0)
      clear wk wn wm wl wo wa wu wp
      go_enter Try.func71, Try.ntmps71
      go_wp2
      go_ret
      exact ⟨ret_int HW.out.symm, hgA⟩
    by_cases n8 : 8 < n
    · have HW : Hid (W = 3) := wn (.inl rfl) (.inr n8)
      clear wk wn wm wl wo wa wu wp
      go_enter Try.func71, Try.ntmps71
      go_wp2
      go_ret
      exact ⟨ret_int HW.out.symm, hgA⟩
    by_cases m0 : m = 0
    · subst m0
      by_cases l4 : len = 4
      · subst l4
        have HW : Hid (W = 0) := wo rfl (by omega) rfl rfl
        clear wk wn wm wl wo wa wu wp
        go_enter Try.func71, Try.ntmps71
        go_wp2
        go_ret
        exact ⟨ret_int HW.out.symm, hgA⟩
      · have HW : Hid (W = 4) := wl rfl (by omega) rfl l4
        have l4' : ¬ (len : Int) = 4 := by omega
        clear wk wn wm wl wo wa wu wp
        go_enter Try.func71, Try.ntmps71
        go_wp2
        go_ret
        exact ⟨ret_int HW.out.symm, hgA⟩
    · have HW : Hid (W = 3) := wm rfl (by omega) m0
      clear wk wn wm wl wo wa wu wp
      go_enter Try.func71, Try.ntmps71
      go_wp2
      go_ret
      exact ⟨ret_int HW.out.symm, hgA⟩
  by_cases k2 : k = 2
  · subst k2
    by_cases n0 : n < 0
    · have HW : Hid (W = 3) := wn (.inr rfl) (.inl n0)
      clear wk wn wm wl wo wa wu wp
      go_enter Try.func71, Try.ntmps71
      go_wp2
      go_ret
      exact ⟨ret_int HW.out.symm, hgA⟩
    by_cases n8 : 8 < n
    · have HW : Hid (W = 3) := wn (.inr rfl) (.inr n8)
      clear wk wn wm wl wo wa wu wp
      go_enter Try.func71, Try.ntmps71
      go_wp2
      go_ret
      exact ⟨ret_int HW.out.symm, hgA⟩
    have wa' := wa rfl (by omega)
    have wu' := wu rfl (by omega)
    have wp' := wp rfl (by omega)
    clear wk wn wm wl wo wa wu wp
    have HF : Hid ((whereE m ≠ 0 ∨ whereS n ≠ whereS m → W = 3) ∧ (¬ (whereE m ≠ 0 ∨ whereS n ≠ whereS m) → len ≠ 0 → W = 4) ∧ (¬ (whereE m ≠ 0 ∨ whereS n ≠ whereS m) → len = 0 → W = 0)) := ⟨wa', wu', wp'⟩
    clear wa' wu' wp'
    go_enter Try.func71, Try.ntmps71
    go_wp2_with fail
    refine (refWhere_any _ _).mono ?_
    rintro e w1 ⟨rfl, hg1⟩
    have hcell := fun i : Nat => hg1.cell (p := ⟨w.heap.size, i, none⟩) (by simp)
    have c2 := (hcell 2).trans (show _ = some (Value.int .i64 m) by simp)
    have c3 := (hcell 3).trans (show _ = some (Value.slice ao len cap) by simp)
    clear hcell
    go_wp2_with fail
    refine (refWhere_any _ _).mono ?_
    rintro e w2 ⟨rfl, hg2⟩
    have hlt : w.heap.size < w1.heap.size := by have := hg1.size; simp at this; omega
    have c3' := (hg2.cell (p := ⟨w.heap.size, 3, none⟩) hlt).trans c3
    have hg := (hgA.trans hg1).trans hg2
    clear c2 c3 hg1 hg2
    generalize hE : whereE m = E at *
    generalize hA : whereS n = A at *
    generalize hB : whereS m = B at *
    clear hE hA hB
    by_cases e0 : E = 0
    · subst e0
      by_cases ab : A = B
      · subst ab
        by_cases l0 : len = 0
        · subst l0
          have HW : Hid (W = 0) := HF.out.2.2 (by simp) rfl
          clear HF
          go_wp2
          go_ret
          exact ⟨ret_int HW.out.symm, hg⟩
        · have HW : Hid (W = 4) := HF.out.2.1 (by simp) l0
          have l0' : ¬ (len : Int) = 0 := by omega
          clear HF
          go_wp2
          go_ret
          exact ⟨ret_int HW.out.symm, hg⟩
      · have HW : Hid (W = 3) := HF.out.1 (.inr ab)
        clear HF
        go_wp2
        go_ret
        exact ⟨ret_int HW.out.symm, hg⟩
    · have HW : Hid (W = 3) := HF.out.1 (.inl e0)
      clear HF
      go_wp2
      go_ret
      exact ⟨ret_int HW.out.symm, hg⟩
  · have HW : Hid (W = 1) := wk k1 k2
    have k1' : (k != 1) = true := by simpa using k1
    have k2' : (k != 2) = true := by simpa using k2
    clear wk wn wm wl wo wa wu wp
    go_enter Try.func71, Try.ntmps71
    go_wp2
    go_ret
    exact ⟨ret_int HW.out.symm, hgA⟩

end Go.Proofs.Ytjggiameajndgac

/-
  What the reference's Cells returns. Nothing old turns.
-/
namespace Go.Proofs.Ytjggiameajndgac
open Go.RowKit

set_option maxRecDepth 20000 in
set_option maxHeartbeats 1600000 in
theorem refCells_row (v : Value) (a : ArrP) (s : Nat) (w : World) (g : Option Nat) (h : ArrG g w v a) (ha : Whole a) (hs : s < 3) :
    Calls Try.prog 26 #[v, .int .i64 s] w fun e w' => ∃ r, e = .returned r ∧ Rowing (Off Bs g) w.heap.size 52 w' r (cellsL a s) ∧ Grow w w' := by
  obtain ⟨i0, hi, hz0, hz1, hz2⟩ := info_parts Try.infoS
  obtain ⟨dv, iv, rfl, hd, hit⟩ := h
  obtain ⟨ad, cd, rfl, hd1, hd2⟩ := hd.form'
  obtain ⟨ai, ci, rfl, hi1, hi2⟩ := hit.form
  obtain ⟨ha4, ha3⟩ := ha
  have HC : Hid (cellsL a s = (a.ds.take 4).map (fun d => d.getD s [])) := by rw [Hid, cellsL, List.take_of_length_le (by omega)]
  have HT : Hid (∀ k, k < 4 → (a.ds.take k).map (fun d => d.getD s []) ++ [(a.ds.getD k []).getD s []] = (a.ds.take (k + 1)).map (fun d => d.getD s [])) := fun k hk => cells_take_succ (by omega) s
  have HK : Hid (∀ k, k < 4 → ∃ b off a' c' b' off' u' n' cc', ad = some ⟨b, off, none⟩ ∧ w.cell? ⟨b, off + k, none⟩ = some (.slice a' 3 c') ∧ a' = some ⟨b', off', none⟩ ∧ w.cell? ⟨b', off' + s, none⟩ = some (.slice u' n' cc') ∧ Off Bs g w (.slice u' n' cc') ((a.ds.getD k []).getD s [])) := fun k hk => by
    obtain ⟨b, off, a', c', e1, e2, e3⟩ := hd.elems (k := k) (by omega)
    have h3 : (a.ds.getD k []).length = 3 := ha3 _ (by simp [List.getD_eq_getElem?_getD, show k < a.ds.length by omega])
    obtain ⟨b', off', u', e4, e5, e6⟩ := e3.elem (k := s) (by omega) []
    obtain ⟨x1, x2, x3, rfl⟩ := e6.here.form
    rw [h3] at e2
    exact ⟨b, off, a', c', b', off', x1, x2, x3, e1, e2, e4, e5, e6⟩
  rw [ha4] at hd1 ⊢
  clear hd hit ha3
  generalize a.is.length = ni at *
  have hgA : Grow w (w.alloc (.cells #[.slice ad 4 cd, .slice ai ni ci] 26)) := Grow.alloc _ _
  go_enter Try.func26, Try.ntmps26
  go_wp2
  obtain ⟨w1, hw1⟩ : ∃ w1, w1 = w.alloc (.cells #[.slice ad 4 cd, .slice ai ni ci] 26) := ⟨_, rfl⟩
  rw [← hw1] at hgA ⊢
  clear hw1
  go_loopw [5, 11] (fun r i wr => ∃ k : Nat, k ≤ 4 ∧ i = .int .i64 k ∧ Hid (Rowing (Off Bs g) w1.heap.size 52 wr r ((a.ds.take k).map (fun d => d.getD s []))) ∧ Grow w1 wr) (fun _ i _ => 4 - (intOf i).toNat)
  case atStart => exact ⟨0, by omega, rfl, Rowing.nil _ _ _ _, Grow.refl _⟩
  case round =>
    obtain ⟨k, hk, rfl, HR, hgr⟩ := hrel
    by_cases hlt : k < 4
    · obtain ⟨b, off, a', c', b', off', u', n', cc', rfl, hc1, rfl, hc2, hb⟩ := HK.out k hlt
      have hgw := hgA.trans hgr
      have hc1' := hgw.at hc1
      have hc2' := hgw.at hc2
      have Hoff : Hid (Off (Off Bs g) u5.ownBlock wr (.slice u' n' cc') ((a.ds.getD k []).getD s [])) := Off.old (Off.stays Bs g) (hb.grow hgA) hgr (fun j hj => (HR.out.base j hj).1)
      have hT := HT.out k hlt
      have hln : ((a.ds.take k).map (fun d => d.getD s [])).length ≤ k := by simp; omega
      clear hc1 hc2 hb
      go_wp2_with (first
        | (at_builtin; refine wpList_push rfl (.tmp 15) (.tmp 20) 41 rfl i0 (.slice none 0 0) 24 Try.underlying41 hi hz0 hz1 hz2 rfl w1 hgr rfl rfl HR.out rfl Hoff.out wr.heap.size rfl rfl (by omega) (by omega) ?_; rintro v1 w2 - hrow1 hg2))
      rw [hT] at hrow1
      go_wp2
      go_roundw
      case rel => first | exact ⟨k + 1, by omega, by go_num, hrow1, hg2⟩ | ((repeat apply Exists.intro); exact ⟨⟨k + 1, by omega, by go_num, hrow1, hg2⟩, rfl⟩)
      case measure => simp [intOf]; omega
    · obtain rfl : k = 4 := by omega
      go_wp2
      go_ret
      exact ⟨_, rfl, by rw [HC.out]; exact HR.out.low hgA.size, hgA.trans hgr⟩

theorem refCells_off (v : Value) (a : ArrP) (s : Nat) (w : World) (g : Option Nat) (h : ArrG g w v a) (ha : Whole a) (hs : s < 3) :
    Calls Try.prog 26 #[v, .int .i64 s] w fun e w' => ∃ r, e = .returned r ∧ Sl (Off Bs g) w' r (cellsL a s) ∧ Grow w w' :=
  (refCells_row v a s w g h ha hs).mono fun _ _ ⟨r, he, hr, hg⟩ => ⟨r, he, hr.done, hg⟩

theorem refCells_any (v : Value) (a : ArrP) (s : Nat) (w : World) (h : ArrV w v a) (ha : Whole a) (hs : s < 3) :
    Calls Try.prog 26 #[v, .int .i64 s] w fun e w' => ∃ r, e = .returned r ∧ Bss w' r (cellsL a s) ∧ Grow w w' :=
  (refCells_off v a s w none (ArrG.of h (Grow.refl _) (fun _ h => nomatch h)) ha hs).mono fun _ _ ⟨r, he, hr, hg⟩ => ⟨r, he, hr.off, hg⟩

end Go.Proofs.Ytjggiameajndgac

/-
  What sum.Of and the reference's Sum return: the sum of the bytes that they are handed; nothing in memory turns.
-/
namespace Go.Proofs.Ytjggiameajndgac
open Go.RowKit

set_option maxRecDepth 20000 in
set_option maxHeartbeats 400000 in
theorem of_any (v : Value) (l : List Int) (w : World) (h : Bs w v l) :
    Calls Try.prog 111 #[v] w fun e w' => e = .returned (.int .i64 (sumOf l)) ∧ w' = w := by
  obtain ⟨ao, cap, rfl, h1, h2, h3, h4, h5⟩ := h
  unfold maxLen at h2
  go_enter Try.func111, Try.ntmps111
  go_wp2
  go_loop [3, 8] (fun s i => ∃ k : Nat, k ≤ l.length ∧ i = .int .i64 k ∧ s = .int .i64 (sumOf (l.take k))) (fun _ i => l.length - (intOf i).toNat)
  case atStart => exact ⟨0, Nat.zero_le _, rfl, rfl⟩
  case round =>
    obtain ⟨k, hk, rfl, rfl⟩ := hrel
    have hs := sumOf_bd (l.take k)
    have hx := getD_bd h4 k
    by_cases hlt : k < l.length
    · obtain ⟨b, off, rfl, hc⟩ := h5 (by omega)
      have hck := hc k hlt
      have HS : Hid (sumOf (l.take (k + 1)) = (sumOf (l.take k) * 151 + l.getD k 0 + 1) % 65521) := sumOf_take_succ l k hlt
      clear hc
      generalize l.getD k 0 = x at *
      go_wp2
      go_round
      case rel => exact ⟨k + 1, by omega, by go_num, by rw [HS.out]⟩
      case measure => simp [intOf]; omega
    · go_wp2
      go_ret
      exact ⟨ret_int (by rw [List.take_of_length_le (by omega)]), rfl⟩

set_option maxRecDepth 20000 in
set_option maxHeartbeats 400000 in
theorem refSum_any (v : Value) (l : List Int) (w : World) (h : Bs w v l) :
    Calls Try.prog 101 #[v] w fun e w' => e = .returned (.int .i64 (sumOf l)) ∧ w' = w := by
  obtain ⟨ao, cap, rfl, h1, h2, h3, h4, h5⟩ := h
  unfold maxLen at h2
  go_enter Try.func101, Try.ntmps101
  go_wp2
  go_loop [3, 7] (fun s i => ∃ k : Nat, k ≤ l.length ∧ i = .int .i64 k ∧ s = .int .i64 (sumOf (l.take k))) (fun _ i => l.length - (intOf i).toNat)
  case atStart => exact ⟨0, Nat.zero_le _, rfl, rfl⟩
  case round =>
    obtain ⟨k, hk, rfl, rfl⟩ := hrel
    have hs := sumOf_bd (l.take k)
    have hx := getD_bd h4 k
    by_cases hlt : k < l.length
    · obtain ⟨b, off, rfl, hc⟩ := h5 (by omega)
      have hck := hc k hlt
      have HS : Hid (sumOf (l.take (k + 1)) = (151 * sumOf (l.take k) + l.getD k 0 + 1) % 65521) := by rw [Hid, Int.mul_comm 151]; exact sumOf_take_succ l k hlt
      clear hc
      generalize l.getD k 0 = x at *
      go_wp2
      go_round
      case rel => exact ⟨k + 1, by omega, by go_num, by rw [HS.out]⟩
      case measure => simp [intOf]; omega
    · go_wp2
      go_ret
      exact ⟨ret_int (by rw [List.take_of_length_le (by omega)]), rfl⟩

end Go.Proofs.Ytjggiameajndgac

/-
  What sum.Seal and the reference's Seal return: new memory that holds the bytes with their sum behind; nothing old turns.
-/
namespace Go.Proofs.Ytjggiameajndgac
open Go.RowKit

theorem Try.infoB : (Try.prog.info? 5).map (fun i => (i.zero, i.size, i.bytes)) = some (some (.int .u8 0), 1, 1) := by kernel_rfl

set_option maxRecDepth 20000 in
set_option maxHeartbeats 800000 in
theorem seal_any (v : Value) (l : List Int) (w : World) (hlen : l.length ≤ 140737488351232) (h : Bs w v l) :
    Calls Try.prog 97 #[v] w fun e w' => ∃ r, e = .returned r ∧ w'.ownsRow w.heap.size 5 1 r (l.length + 2) ((sealOf l).map (Value.int .u8)) ∧ Below w.heap.size w w' := by
  have hbs := h
  have hbd := sumOf_bd l
  obtain ⟨ao, cap, rfl, h1, h2, h3, h4, h5⟩ := h
  unfold maxLen at h2
  obtain ⟨i0, hi, hz0, hz1, hz2⟩ := info_parts Try.infoB
  go_enter Try.func97, Try.ntmps97
  go_wp2_with (first
    | (go_at_call 111; refine (of_any _ l _ hbs).mono ?_; rintro e w' ⟨rfl, rfl⟩)
    | (at_make; refine wpList_make_own _ rfl _ _ 52 rfl w'.heap.size 5 i0 (.int .u8 0) 1 Try.underlying52 hi hz0 hz1 _ _ _ (l.length + 2) rfl rfl (by omega) (by rw [hz2]; omega) (by unfold maxLen; omega) (Nat.le_refl _) ?_; intro w0 hown0 hgrow0; have hb0 := (Below.refl w'.heap.size w').grown hgrow0 (Nat.le_refl _) (fun k h => by cases h))
    | (at_builtin; refine wpList_append_fits_any _ rfl (.tmp 11) (.tmp 12) 52 rfl w'.heap.size 5 i0 1 Try.underlying52 hi hz1 w'.heap.size 0 (l.length + 2) _ rfl hown0 _ l.length _ (l.map (Value.int .u8)) rfl (by simp) (fun h => by have := h3 h; omega) (h5.below hb0).src (u8_oneCell _) (by omega) ?_; intro w1 hown1 hgrow1; simp only [Nat.zero_add, List.nil_append] at hown1)
    | (at_builtin; refine wpList_append_fits _ rfl (.tmp 14) (.tmp 20) 52 rfl w'.heap.size 5 i0 1 Try.underlying52 hi hz1 w'.heap.size l.length (l.length + 2) _ rfl (hown1.alloc _) ⟨w1.heap.size, 0, none⟩ 2 2 [.int .u8 (sumOf l / 256), .int .u8 (sumOf l % 256)] rfl rfl (by intro t u ht; match t, ht with | 0, ht => simp at ht; subst ht; simp [Addr.add] | 1, ht => simp at ht; subst ht; simp [Addr.add]) (by intro u hu; simp at hu; rcases hu with rfl | rfl <;> rfl) (by omega) ?_; intro w2 hown2 hgrow2))
  go_ret
  refine ⟨_, rfl, by simpa [sealOf] using hown2, ?_⟩
  have hb1 := hb0.grown hgrow1 hb0.size (fun k h => by cases h; exact Nat.le_refl _)
  exact (hb1.alloc hb1.size _).grown hgrow2 (by have := hb1.size; simp; omega) (fun k h => by cases h; exact Nat.le_refl _)

set_option maxRecDepth 20000 in
set_option maxHeartbeats 800000 in
theorem refSeal_any (v : Value) (l : List Int) (w : World) (hlen : l.length ≤ 140737488351232) (h : Bs w v l) :
    Calls Try.prog 89 #[v] w fun e w' => ∃ r, e = .returned r ∧ w'.ownsRow w.heap.size 5 1 r (l.length + 2) ((sealOf l).map (Value.int .u8)) ∧ Below w.heap.size w w' := by
  have hbs := h
  have hbd := sumOf_bd l
  obtain ⟨ao, cap, rfl, h1, h2, h3, h4, h5⟩ := h
  unfold maxLen at h2
  obtain ⟨i0, hi, hz0, hz1, hz2⟩ := info_parts Try.infoB
  go_enter Try.func89, Try.ntmps89
  go_wp2_with (first
    | (go_at_call 101; refine (refSum_any _ l _ hbs).mono ?_; rintro e w' ⟨rfl, rfl⟩)
    | (at_builtin; refine wpList_append_own_any _ rfl (.tmp 6) (.tmp 7) 52 rfl w'.heap.size 5 i0 (.int .u8 0) 1 Try.underlying52 hi hz0 hz1 hz2 rfl _ 0 [] rfl (World.ownsRow_lit w' #[] 0 (Nat.le_refl _) (Nat.zero_le _) (by simp)) _ l.length _ (l.map (Value.int .u8)) rfl (by simp) (fun h => by have := h3 h; omega) (h5.below ((Below.refl _ _).alloc (Nat.le_refl _) _)).src (u8_oneCell _) (by unfold maxLen; omega) (by omega) (by simp) ?_; intro v1 w1 hown1 hgrow1; simp only [Nat.zero_add, List.nil_append] at hown1)
    | (at_builtin; refine wpList_append_own_any _ rfl (.tmp 8) (.tmp 15) 52 rfl w'.heap.size 5 i0 (.int .u8 0) 1 Try.underlying52 hi hz0 hz1 hz2 rfl _ l.length _ rfl (hown1.alloc _) (some ⟨w1.heap.size, 0, none⟩) 2 2 [.int .u8 (sumOf l / 256), .int .u8 (sumOf l % 256)] rfl rfl (fun h => nomatch h) (by intro ad had t u ht; cases had; match t, ht with | 0, ht => simp at ht; subst ht; simp [Addr.add] | 1, ht => simp at ht; subst ht; simp [Addr.add]) (by intro u hu; simp at hu; rcases hu with rfl | rfl <;> rfl) (by unfold maxLen; omega) (by omega) (by have := hgrow1.size; simp at this; simp; omega) ?_; intro v2 w2 hown2 hgrow2))
  go_ret
  refine ⟨_, rfl, by simpa [sealOf] using hown2, ?_⟩
  have hb1 : Below w'.heap.size w' w1 := ((Below.refl _ _).alloc (Nat.le_refl _) _).grown hgrow1 (by simp) (fun k h => by cases h; exact Nat.le_refl _)
  exact (hb1.alloc hb1.size _).grown hgrow2 (by have := hb1.size; simp; omega) (own_base hown1)

end Go.Proofs.Ytjggiameajndgac

/-
  What sum.Sealed and the reference's Sealed return: whether the bytes end with the sum of what is ahead; nothing old turns.
-/
namespace Go.Proofs.Ytjggiameajndgac
open Go.RowKit

theorem wrap_i64_small (n : Nat) (h : n < 65536) : IntKind.i64.wrap (n : Int) = n := by
  simp [IntKind.wrap, IntKind.bits, IntKind.signed]
  omega

theorem or_bytes (x y : Int) (hx : 0 ≤ x ∧ x ≤ 255) (hy : 0 ≤ y ∧ y ≤ 255) : bits .or .i64 (x * 256) y = x * 256 + y := by
  obtain ⟨a, rfl⟩ := Int.eq_ofNat_of_zero_le hx.1
  obtain ⟨b, rfl⟩ := Int.eq_ofNat_of_zero_le hy.1
  have e : ((a : Int) * 256) = ((2 ^ 8 * a : Nat) : Int) := by omega
  have h1 : (BitVec.ofInt 64 ((2 ^ 8 * a : Nat) : Int)).toNat = 2 ^ 8 * a := by
    rw [BitVec.ofInt_natCast, BitVec.toNat_ofNat]; exact Nat.mod_eq_of_lt (by omega)
  have h2 : (BitVec.ofInt 64 (b : Int)).toNat = b := by
    rw [BitVec.ofInt_natCast, BitVec.toNat_ofNat]; exact Nat.mod_eq_of_lt (by omega)
  rw [e]
  show IntKind.i64.wrap ((BitVec.ofInt 64 ((2 ^ 8 * a : Nat) : Int) ||| BitVec.ofInt 64 (b : Int)).toNat : Int) = _
  rw [BitVec.toNat_or, h1, h2, ← Nat.two_pow_add_eq_or_of_lt (by omega), wrap_i64_small _ (by omega)]
  omega

theorem Bs.take {w : World} {ao : Option Addr} {cap n : Nat} {l : List Int} (hn : n ≤ l.length) (h1 : l.length ≤ cap) (h2 : cap ≤ maxLen) (h3 : ao = none → cap = 0) (h4 : Octets l) (h5 : Cs w ao l) : Bs w (.slice ao n cap) (l.take n) := by
  have hlen : (l.take n).length = n := by simp; omega
  refine ⟨ao, cap, by rw [hlen], by omega, h2, h3, fun x hx => h4 x (List.mem_of_mem_take hx), fun hp => ?_⟩
  rw [hlen] at hp
  obtain ⟨b, off, e, hc⟩ := h5 (by omega)
  refine ⟨b, off, e, fun i hi => ?_⟩
  rw [hlen] at hi
  rw [hc i (by omega)]
  simp [List.getD_eq_getElem?_getD, hi]

set_option maxRecDepth 20000 in
set_option maxHeartbeats 800000 in
theorem sealed_any (v : Value) (l : List Int) (w : World) (h : Bs w v l) :
    Calls Try.prog 110 #[v] w fun e w' => e = .returned (.bool (sealedB l)) ∧ ∃ n, w' = w.drewN n := by
  obtain ⟨ao, cap, rfl, h1, h2, h3, h4, h5⟩ := h
  by_cases hlt : l.length < 2
  · unfold maxLen at h2
    have hs : Hid (sealedB l = false) := sealedB_short l hlt
    go_enter Try.func110, Try.ntmps110
    go_wp2
    go_ret
    exact ⟨ret_bool hs.out.symm, 0, rfl⟩
  · obtain ⟨n, hn⟩ : ∃ n, l.length = n + 2 := ⟨l.length - 2, by omega⟩
    have hsub := Bs.take (w := w) (n := n) (by omega) h1 h2 h3 h4 h5
    have hs : Hid (sealedB l = _) := sealedB_eq l h4 n hn
    have hbd := sumOf_bd (l.take n)
    obtain ⟨b, off, rfl, hc⟩ := h5 (by omega)
    have c0 := hc n (by omega)
    have c1 := hc (n + 1) (by omega)
    have x0 := getD_bd h4 n
    have x1 := getD_bd h4 (n + 1)
    have hcap : (n : Int) + 2 ≤ (cap : Int) := by omega
    clear hc
    unfold maxLen at h2
    rw [hn]
    generalize l.getD n 0 = x at *
    generalize l.getD (n + 1) 0 = y at *
    go_enter Try.func110, Try.ntmps110
    go_wp2
    go_quiet ((go_at_call 111; exact Calls.quiet_of_same (of_any _ (l.take n) _ hsub)))
    go_wp2
    go_ret
    exact ⟨ret_bool (by rw [hs.out, or_bytes x y x0 x1]), _, rfl⟩

end Go.Proofs.Ytjggiameajndgac

/-
  What the reference's Sealed returns: whether the bytes end with the sum of what is ahead; nothing old turns.
-/
namespace Go.Proofs.Ytjggiameajndgac
open Go.RowKit

/-- New memory that reads as these bytes. -/
def NewBs (l : List Int) (v : Value) (w : World) : Prop := ∃ g cap, v = .slice (some ⟨g, 0, none⟩) l.length cap ∧ Bs w v l
theorem NewBs.stable (l : List Int) : ∀ (v : Value) (x y : World), NewBs l v x → Grow x y → NewBs l v y := fun _ _ _ ⟨g, cap, hv, hb⟩ h => ⟨g, cap, hv, hb.grow h⟩

theorem refSeal_new (v : Value) (l : List Int) (w : World) (hlen : l.length ≤ 140737488351232) (h : Bs w v l) :
    Calls Try.prog 89 #[v] w fun e w' => ∃ r, e = .returned r ∧ NewBs (sealOf l) r w' ∧ Grow w w' :=
  (refSeal_any v l w hlen h).mono fun e w' ⟨r, he, hown, hb⟩ => by
    obtain ⟨g, cap, rfl, -, -⟩ := hown.form (by omega)
    exact ⟨_, he, ⟨g, cap, by rw [sealOf_length], Bs.of_own hown (sealOf_octets l h.octets)⟩, hb⟩

set_option maxRecDepth 20000 in
set_option maxHeartbeats 1600000 in
theorem refSealed_any (v : Value) (l : List Int) (w : World) (hlen : l.length ≤ 140737488351232) (h : Bs w v l) :
    Calls Try.prog 88 #[v] w fun e w' => e = .returned (.bool (sealedB l)) ∧ Grow w w' := by
  have hbs := h
  obtain ⟨ao, cap, rfl, h1, h2, h3, h4, h5⟩ := h
  by_cases hlt : l.length < 2
  · unfold maxLen at h2
    have hs : Hid (sealedB l = false) := sealedB_short l hlt
    have hd : decide (1 < (l.length : Int)) = false := by simp; omega
    go_enter Try.func88, Try.ntmps88
    go_wp2
    go_quiet (fail)
    go_wp2
    go_ret
    exact ⟨ret_bool hs.out.symm, Grow.drewN _ _⟩
  · obtain ⟨n, hn⟩ : ∃ n, l.length = n + 2 := ⟨l.length - 2, by omega⟩
    have hsub := Bs.take (w := w) (n := n) (by omega) h1 h2 h3 h4 h5
    have ht : (l.take n).length = n := by simp; omega
    unfold maxLen at h2
    rw [hn] at hbs
    rw [hn]
    go_enter Try.func88, Try.ntmps88
    go_wp2
    have hL : l.length ≤ 140737488351232 := hlen
    refine wp_region_stable Grow [IsV (.slice ao (n + 2) cap), IsV (.int .i64 (n + 2)), IsV (.bool true), IsV (.bool true), IsV (.slice ao (n + 2) cap), IsV (.slice ao (n + 2) cap), IsV (.int .i64 (n + 2)), IsV (.int .i64 n), IsV (.slice ao n cap), NewBs (sealOf (l.take n)), IsV (.string (strOfNums (sealOf (l.take n)))), IsV (.slice ao (n + 2) cap), IsV (.string (strOfNums l)), IsV (.bool (sealedB l)), IsV (.bool (sealedB l)), IsV (.bool (sealedB l))] (by kernel_rfl) (by kernel_rfl) rfl Grow.refl (fun _ _ _ => Grow.trans) ?_ ?_ ?_
    · repeat (refine List.forall_mem_cons.2 ⟨by first | exact IsV.stable _ | exact NewBs.stable _, ?_⟩)
      exact fun R hR => nomatch hR
    · skip
      refine StepsS.cons ?_ fun v0 => ⟨_, _, by simp only [Act.put, List.setIfInBounds_toArray, List.set_cons_succ, List.set_cons_zero]; first | done | rfl, by simp only [List.nil_append]; first | done | rfl, ?_⟩
      · intro w1 hE hd
        clear hd
        go_wp2
        exact ⟨_, rfl, Grow.refl _, rfl⟩
      refine StepsS.cons ?_ fun v1 => ⟨_, _, by simp only [Act.put, List.setIfInBounds_toArray, List.set_cons_succ, List.set_cons_zero]; first | done | rfl, by simp only [List.nil_append, List.cons_append]; first | done | rfl, ?_⟩
      · intro w1 hE hd
        obtain rfl := IsV.eq (dep_at hd 0 rfl rfl rfl)
        clear hd
        go_wp2
        exact ⟨_, rfl, Grow.refl _, rfl⟩
      refine StepsS.cons ?_ fun v2 => ⟨_, _, by simp only [Act.put, List.setIfInBounds_toArray, List.set_cons_succ, List.set_cons_zero]; first | done | rfl, by simp only [List.nil_append, List.cons_append]; first | done | rfl, ?_⟩
      · intro w1 hE hd
        obtain rfl := IsV.eq (dep_at hd 0 rfl rfl rfl)
        clear hd
        go_wp2
        exact ⟨_, rfl, Grow.refl _, congrArg Value.bool (by simp; omega)⟩
      refine StepsS.cons ?_ fun v3 => ⟨_, _, by simp only [Act.put, List.setIfInBounds_toArray, List.set_cons_succ, List.set_cons_zero]; first | done | rfl, by simp only [List.nil_append, List.cons_append]; first | done | rfl, ?_⟩
      · intro w1 hE hd
        obtain rfl := IsV.eq (dep_at hd 0 rfl rfl rfl)
        clear hd
        go_wp2
        exact ⟨_, rfl, Grow.refl _, rfl⟩
      refine StepsS.cons ?_ fun v4 => ⟨_, _, by simp only [Act.put, List.setIfInBounds_toArray, List.set_cons_succ, List.set_cons_zero]; first | done | rfl, by simp only [List.nil_append, List.cons_append]; first | done | rfl, ?_⟩
      · intro w1 hE hd
        obtain rfl := IsV.eq (dep_at hd 0 rfl rfl rfl)
        clear hd
        go_wp2
        exact ⟨_, rfl, Grow.refl _, rfl⟩
      refine StepsS.cons ?_ fun v5 => ⟨_, _, by simp only [Act.put, List.setIfInBounds_toArray, List.set_cons_succ, List.set_cons_zero]; first | done | rfl, by simp only [List.nil_append, List.cons_append]; first | done | rfl, ?_⟩
      · intro w1 hE hd
        obtain rfl := IsV.eq (dep_at hd 0 rfl rfl rfl)
        clear hd
        go_wp2
        exact ⟨_, rfl, Grow.refl _, rfl⟩
      refine StepsS.cons ?_ fun v6 => ⟨_, _, by simp only [Act.put, List.setIfInBounds_toArray, List.set_cons_succ, List.set_cons_zero]; first | done | rfl, by simp only [List.nil_append, List.cons_append]; first | done | rfl, ?_⟩
      · intro w1 hE hd
        obtain rfl := IsV.eq (dep_at hd 0 rfl rfl rfl)
        obtain rfl := IsV.eq (dep_at hd 1 rfl rfl rfl)
        clear hd
        go_wp2
        exact ⟨_, rfl, Grow.refl _, rfl⟩
      refine StepsS.cons ?_ fun v7 => ⟨_, _, by simp only [Act.put, List.setIfInBounds_toArray, List.set_cons_succ, List.set_cons_zero]; first | done | rfl, by simp only [List.nil_append, List.cons_append]; first | done | rfl, ?_⟩
      · intro w1 hE hd
        obtain rfl := IsV.eq (dep_at hd 0 rfl rfl rfl)
        obtain rfl := IsV.eq (dep_at hd 1 rfl rfl rfl)
        clear hd
        go_wp2
        exact ⟨_, rfl, Grow.refl _, rfl⟩
      refine StepsS.cons ?_ fun v8 => ⟨_, _, by simp only [Act.put, List.setIfInBounds_toArray, List.set_cons_succ, List.set_cons_zero]; first | done | rfl, by simp only [List.nil_append, List.cons_append]; first | done | rfl, ?_⟩
      · intro w1 hE hd
        obtain rfl := IsV.eq (dep_at hd 0 rfl rfl rfl)
        obtain rfl := IsV.eq (dep_at hd 1 rfl rfl rfl)
        obtain rfl := IsV.eq (dep_at hd 2 rfl rfl rfl)
        clear hd
        go_wp2
        exact ⟨_, rfl, Grow.refl _, rfl⟩
      refine StepsS.cons ?_ fun v9 => ⟨_, _, by simp only [Act.put, List.setIfInBounds_toArray, List.set_cons_succ, List.set_cons_zero]; first | done | rfl, by simp only [List.nil_append, List.cons_append]; first | done | rfl, ?_⟩
      · intro w1 hE hd
        obtain rfl := IsV.eq (dep_at hd 0 rfl rfl rfl)
        obtain rfl := IsV.eq (dep_at hd 1 rfl rfl rfl)
        clear hd
        go_wp2_with fail
        refine (refSeal_new _ _ _ (by omega) (hsub.grow hE.drew)).mono ?_
        rintro e w2 ⟨r, rfl, hr, hg⟩
        go_wp2_with fail
        exact ⟨_, rfl, hg, hr⟩
      refine StepsS.cons ?_ fun v10 => ⟨_, _, by simp only [Act.put, List.setIfInBounds_toArray, List.set_cons_succ, List.set_cons_zero]; first | done | rfl, by simp only [List.nil_append, List.cons_append]; first | done | rfl, ?_⟩
      · intro w1 hE hd
        have d9 := dep_at hd 0 rfl rfl rfl
        obtain rfl := IsV.eq (dep_at hd 1 rfl rfl rfl)
        clear hd
        obtain ⟨g, c9, rfl, hb9⟩ := d9
        have hcv := run_convert_bs 52 5 9 Try.underlying52 Try.underlying5 Try.underlying9 hb9
        go_wp2
        exact ⟨_, rfl, Grow.refl _, rfl⟩
      refine StepsS.cons ?_ fun v11 => ⟨_, _, by simp only [Act.put, List.setIfInBounds_toArray, List.set_cons_succ, List.set_cons_zero]; first | done | rfl, by simp only [List.nil_append, List.cons_append]; first | done | rfl, ?_⟩
      · intro w1 hE hd
        obtain rfl := IsV.eq (dep_at hd 0 rfl rfl rfl)
        clear hd
        go_wp2
        exact ⟨_, rfl, Grow.refl _, rfl⟩
      refine StepsS.cons ?_ fun v12 => ⟨_, _, by simp only [Act.put, List.setIfInBounds_toArray, List.set_cons_succ, List.set_cons_zero]; first | done | rfl, by simp only [List.nil_append, List.cons_append]; first | done | rfl, ?_⟩
      · intro w1 hE hd
        obtain rfl := IsV.eq (dep_at hd 0 rfl rfl rfl)
        obtain rfl := IsV.eq (dep_at hd 1 rfl rfl rfl)
        clear hd
        have hcv := run_convert_bs 52 5 9 Try.underlying52 Try.underlying5 Try.underlying9 (hbs.grow hE.drew)
        go_wp2
        exact ⟨_, rfl, Grow.refl _, rfl⟩
      refine StepsS.cons ?_ fun v13 => ⟨_, _, by simp only [Act.put, List.setIfInBounds_toArray, List.set_cons_succ, List.set_cons_zero]; first | done | rfl, by simp only [List.nil_append, List.cons_append]; first | done | rfl, ?_⟩
      · intro w1 hE hd
        obtain rfl := IsV.eq (dep_at hd 0 rfl rfl rfl)
        obtain rfl := IsV.eq (dep_at hd 1 rfl rfl rfl)
        obtain rfl := IsV.eq (dep_at hd 2 rfl rfl rfl)
        clear hd
        go_wp2
        exact ⟨_, rfl, Grow.refl _, congrArg Value.bool (by rw [str_beq (sealOf_octets _ hsub.octets) h4, sealedB_of l n hn])⟩
      refine StepsS.cons ?_ fun v14 => ⟨_, _, by simp only [Act.put, List.setIfInBounds_toArray, List.set_cons_succ, List.set_cons_zero]; first | done | rfl, by simp only [List.nil_append, List.cons_append]; first | done | rfl, ?_⟩
      · intro w1 hE hd
        obtain rfl := IsV.eq (dep_at hd 0 rfl rfl rfl)
        obtain rfl := IsV.eq (dep_at hd 1 rfl rfl rfl)
        clear hd
        go_wp2
        exact ⟨_, rfl, Grow.refl _, rfl⟩
      refine StepsS.cons ?_ fun v15 => ⟨_, _, by simp only [Act.put, List.setIfInBounds_toArray, List.set_cons_succ, List.set_cons_zero]; first | done | rfl, by simp only [List.nil_append, List.cons_append]; first | done | rfl, ?_⟩
      · intro w1 hE hd
        obtain rfl := IsV.eq (dep_at hd 0 rfl rfl rfl)
        clear hd
        go_wp2
        exact ⟨_, rfl, Grow.refl _, rfl⟩
      trivial
    intro wR hwR
    refine FinS.cons ?_; rintro _ rfl; refine ⟨_, by simp only [Act.put, List.setIfInBounds_toArray, List.set_cons_succ, List.set_cons_zero]; first | done | rfl, ?_⟩
    refine FinS.cons ?_; rintro _ rfl; refine ⟨_, by simp only [Act.put, List.setIfInBounds_toArray, List.set_cons_succ, List.set_cons_zero]; first | done | rfl, ?_⟩
    refine FinS.cons ?_; rintro _ rfl; refine ⟨_, by simp only [Act.put, List.setIfInBounds_toArray, List.set_cons_succ, List.set_cons_zero]; first | done | rfl, ?_⟩
    refine FinS.cons ?_; rintro _ rfl; refine ⟨_, by simp only [Act.put, List.setIfInBounds_toArray, List.set_cons_succ, List.set_cons_zero]; first | done | rfl, ?_⟩
    refine FinS.cons ?_; rintro _ rfl; refine ⟨_, by simp only [Act.put, List.setIfInBounds_toArray, List.set_cons_succ, List.set_cons_zero]; first | done | rfl, ?_⟩
    refine FinS.cons ?_; rintro _ rfl; refine ⟨_, by simp only [Act.put, List.setIfInBounds_toArray, List.set_cons_succ, List.set_cons_zero]; first | done | rfl, ?_⟩
    refine FinS.cons ?_; rintro _ rfl; refine ⟨_, by simp only [Act.put, List.setIfInBounds_toArray, List.set_cons_succ, List.set_cons_zero]; first | done | rfl, ?_⟩
    refine FinS.cons ?_; rintro _ rfl; refine ⟨_, by simp only [Act.put, List.setIfInBounds_toArray, List.set_cons_succ, List.set_cons_zero]; first | done | rfl, ?_⟩
    refine FinS.cons ?_; rintro _ rfl; refine ⟨_, by simp only [Act.put, List.setIfInBounds_toArray, List.set_cons_succ, List.set_cons_zero]; first | done | rfl, ?_⟩
    refine FinS.cons fun v9 h9 => ⟨_, by simp only [Act.put, List.setIfInBounds_toArray, List.set_cons_succ, List.set_cons_zero]; first | done | rfl, ?_⟩
    refine FinS.cons ?_; rintro _ rfl; refine ⟨_, by simp only [Act.put, List.setIfInBounds_toArray, List.set_cons_succ, List.set_cons_zero]; first | done | rfl, ?_⟩
    refine FinS.cons ?_; rintro _ rfl; refine ⟨_, by simp only [Act.put, List.setIfInBounds_toArray, List.set_cons_succ, List.set_cons_zero]; first | done | rfl, ?_⟩
    refine FinS.cons ?_; rintro _ rfl; refine ⟨_, by simp only [Act.put, List.setIfInBounds_toArray, List.set_cons_succ, List.set_cons_zero]; first | done | rfl, ?_⟩
    refine FinS.cons ?_; rintro _ rfl; refine ⟨_, by simp only [Act.put, List.setIfInBounds_toArray, List.set_cons_succ, List.set_cons_zero]; first | done | rfl, ?_⟩
    refine FinS.cons ?_; rintro _ rfl; refine ⟨_, by simp only [Act.put, List.setIfInBounds_toArray, List.set_cons_succ, List.set_cons_zero]; first | done | rfl, ?_⟩
    refine FinS.cons ?_; rintro _ rfl; refine ⟨_, by simp only [Act.put, List.setIfInBounds_toArray, List.set_cons_succ, List.set_cons_zero]; first | done | rfl, ?_⟩
    first | show Exit.then _ _ _ _ _ | show Exit.inBlock _ _ _ _ _
    go_wp2
    go_ret
    exact ⟨rfl, hwR.drew⟩

end Go.Proofs.Ytjggiameajndgac

/-
  The statement that the sum, the seal and the test are the document's own, walked: whatever bytes: it returns true, and nothing old turns.
-/
namespace Go.Proofs.Ytjggiameajndgac
open Go.RowKit

theorem seal_new (v : Value) (l : List Int) (w : World) (hlen : l.length ≤ 140737488351232) (h : Bs w v l) :
    Calls Try.prog 97 #[v] w fun e w' => ∃ r, e = .returned r ∧ NewBs (sealOf l) r w' ∧ Grow w w' :=
  (seal_any v l w hlen h).mono fun e w' ⟨r, he, hown, hb⟩ => by
    obtain ⟨g, cap, rfl, -, -⟩ := hown.form (by omega)
    exact ⟨_, he, ⟨g, cap, by rw [sealOf_length], Bs.of_own hown (sealOf_octets l h.octets)⟩, hb⟩

end Go.Proofs.Ytjggiameajndgac

/-
  What the closed fact at the head of the outright statement returns: true.
-/
namespace Go.Proofs.Ytjggiameajndgac
open Go.RowKit

theorem of_nil (w : World) : Calls Try.prog 111 #[.slice none 0 0] w fun e w' => e = .returned (.int .i64 13) ∧ w' = w := of_any _ [] w (Bs.nil w)

theorem sealed_yes (v : Value) (l : List Int) (w : World) (h : Bs w v l) (hs : sealedB l = true) :
    Calls Try.prog 110 #[v] w fun e w' => e = .returned (.bool true) ∧ ∃ n, w' = w.drewN n := by rw [← hs]; exact sealed_any v l w h

theorem sealed_no (v : Value) (l : List Int) (w : World) (h : Bs w v l) (hs : sealedB l = false) :
    Calls Try.prog 110 #[v] w fun e w' => e = .returned (.bool false) ∧ ∃ n, w' = w.drewN n := by rw [← hs]; exact sealed_any v l w h

theorem octets_ab : Octets [97, 98] := by intro x hx; simp at hx; omega

theorem below_drewN {B : Nat} {a w : World} (h : Below B a w) (n : Nat) : Below B a (w.drewN n) := ⟨h.os, h.tape, h.output, h.size, h.block⟩

end Go.Proofs.Ytjggiameajndgac

/-
  The outright statement of chapter 1, walked: whatever bytes, whatever place, whatever byte: it returns true, and nothing old turns.
-/
namespace Go.Proofs.Ytjggiameajndgac
open Go.RowKit

/-- Behind a store into a row of the call's own that holds bytes: the bytes with that one turned. -/
theorem Bs.stored {w : World} {base : Nat} {e : TypeId} {g n cap k : Nat} {l : List Int} {c : Int} (h : w.ownsRow base e 1 (.slice (some ⟨g, 0, none⟩) n cap) n (l.map (Value.int .u8))) (ho : Octets l) (hc : 0 ≤ c ∧ c ≤ 255) :
    Bs (w.setCell ⟨g, k, none⟩ (.int .u8 c)) (.slice (some ⟨g, 0, none⟩) n cap) (l.set k c) := by
  have h1 := (h.stored k (.int .u8 c)).1
  rw [← List.map_set] at h1
  refine Bs.of_own h1 fun x hx => ?_
  rcases List.mem_or_eq_of_mem_set hx with hx | rfl
  · exact ho x hx
  · exact hc

end Go.Proofs.Ytjggiameajndgac

/-
  What the program's cells return: There, Bytes, Read; and the reference's CellBytes and CellRead. Nothing old turns.
-/
namespace Go.Proofs.Ytjggiameajndgac
open Go.RowKit

set_option maxRecDepth 20000 in
set_option maxHeartbeats 400000 in
theorem there_any (d s : Int) (w : World) :
    Calls Try.prog 45 #[.int .i64 d, .int .i64 s] w fun e w' => e = .returned (.bool (thereB d s)) ∧ w' = w := by
  have hc : d < 0 ∨ (0 ≤ d ∧ 4 ≤ d) ∨ (0 ≤ d ∧ d < 4 ∧ s < 0) ∨ (0 ≤ d ∧ d < 4 ∧ 0 ≤ s ∧ 3 ≤ s) ∨ (0 ≤ d ∧ d < 4 ∧ 0 ≤ s ∧ s < 3) := by omega
  have HT : Hid (thereB d s = decide (0 ≤ d ∧ d < 4 ∧ 0 ≤ s ∧ s < 3)) := rfl
  rcases hc with h | ⟨h, h'⟩ | ⟨h, h', h''⟩ | ⟨h, h', h'', h'''⟩ | ⟨h, h', h'', h'''⟩
  all_goals
    go_enter Try.func45, Try.ntmps45
    go_wp2
    go_ret
    exact ⟨ret_bool (by rw [HT.out]; first | exact (decide_eq_true (by omega)).symm | exact (decide_eq_false (by omega)).symm | exact decide_eq_decide.2 (by omega)), rfl⟩

theorem Bs.cut {w : World} {cap n m : Nat} {l : List Int} {b off : Nat} (hm : n + m ≤ l.length) (h1 : l.length ≤ cap) (h2 : cap ≤ maxLen) (h4 : Octets l) (hc : ∀ i, i < l.length → w.cell? ⟨b, off + i, none⟩ = some (.int .u8 (l.getD i 0))) :
    Bs w (.slice (some ⟨b, off + n, none⟩) m (cap - n)) ((l.drop n).take m) := by
  have hlen : ((l.drop n).take m).length = m := by simp; omega
  refine ⟨some ⟨b, off + n, none⟩, cap - n, by rw [hlen], by omega, by omega, (fun h => nomatch h), fun x hx => h4 x (List.mem_of_mem_drop (List.mem_of_mem_take hx)), fun _ => ⟨b, off + n, rfl, fun i hi => ?_⟩⟩
  rw [hlen] at hi
  rw [Nat.add_assoc, hc (n + i) (by omega)]
  simp [List.getD_eq_getElem?_getD, hi]

theorem Bs.lit {w : World} {e : TypeId} {l : List Int} (h : l.length ≤ maxLen) (ho : Octets l) (mk : Nat × Nat) : Bs (w.alloc (.cells (l.map (Value.int .u8)).toArray e mk)) (.slice (some ⟨w.heap.size, 0, none⟩) l.length l.length) l := by
  refine ⟨some ⟨w.heap.size, 0, none⟩, l.length, rfl, Nat.le_refl _, h, (fun h => nomatch h), ho, fun _ => ⟨w.heap.size, 0, rfl, fun i hi => ?_⟩⟩
  simp only [World.cell?, heap_alloc_new w]
  simp [hi, List.getD_eq_getElem?_getD]

theorem ret_bs2 {v : Value} {k2 : IntKind} {a2 b2 : Int} (h2 : a2 = b2) : Ending.returned (.tuple #[v, .int k2 a2]) = .returned (.tuple #[v, .int k2 b2]) := by rw [h2]

/-- A row of one-cell bytes that is known whole. -/
theorem Bs.row {w : World} {e : TypeId} {mk : Nat × Nat} {g n : Nat} {l : List Int} (hg : w.heap[g]? = some (.cells (l.map (Value.int .u8)).toArray e mk)) (hn : l.length = n) (h : n ≤ maxLen) (ho : Octets l) : Bs w (.slice (some ⟨g, 0, none⟩) n n) l := by
  subst hn
  refine ⟨some ⟨g, 0, none⟩, l.length, rfl, Nat.le_refl _, h, (fun h => nomatch h), ho, fun _ => ⟨g, 0, rfl, fun i hi => ?_⟩⟩
  simp only [World.cell?, hg]
  simp [hi, List.getD_eq_getElem?_getD]

theorem Try.made4 (w : World) : (Instr.makeSlice 52 (.int .i64 4) (.int .i64 4)).run Try.prog w = .ok (.slice (some ⟨w.heap.size, 0, none⟩) 4 4) (w.alloc (.cells #[.int .u8 0, .int .u8 0, .int .u8 0, .int .u8 0] 5)) :=
  (run_make_row' (P := Try.prog) 52 5 (.int .u8 0) 1 Try.underlying52 Try.infoB rfl .i64 .i64 4 (by decide) (by decide) w).trans (by rw [show madeCells #[.int .u8 0] 4 = #[Value.int .u8 0, .int .u8 0, .int .u8 0, .int .u8 0] from Array.toList_inj.1 (toList_madeCells_one _ _)])

theorem Try.sizeB : (Try.prog.info? 5).map (·.size) = some 1 := by kernel_rfl

/-- A copy that fills a row of the call's own. -/
theorem run_copy_fill {P : Program} {w0 w : World} (dT sT ty elem : TypeId) (hu : P.underlying dT = some (.slice elem)) (hsz : (P.info? elem).map (·.size) = some 1) {g n m c cap : Nat} {cur : Array Value} {t : TypeId} {ad : Addr} {zs : List Int}
    (hg : w.heap[g]? = some (.cells cur t (0, 0))) (hcur : cur.size = n) (hz : zs.length = n) (hm : n ≤ m) (hsrc : Bs w (.slice (some ad) n cap) zs) (hG : Grow w0 w) (hB : w0.heap.size ≤ g) :
    ∃ w', (Builtin.copy_ #[dT, sT] ty #[.slice (some ⟨g, 0, none⟩) n n, .slice (some ad) m c]).run P w = .ok (goInt n) w' ∧ Hid (w'.heap[g]? = some (.cells (zs.map (Value.int .u8)).toArray t (0, 0))) ∧ Grow w0 w' := by
  have hcs : Cs w (some ad) zs := by
    obtain ⟨a1, c1, e1, -, -, -, -, h⟩ := hsrc
    injection e1 with e1 _ _
    rw [e1]
    exact h
  have hrun := run_copy_row (P := P) w dT sT ty elem g 0 n n ad m c cur t (zs.map (Value.int .u8)) hu hsz hg (by simp [hz, Nat.min_eq_right hm]) (hcs.src _ rfl) (by simp [hz, hcur]) (u8_oneCell _)
  rw [show (zs.map (Value.int .u8)).length = n from by simp [hz]] at hrun
  refine ⟨_, hrun, ?_, below_setRow hG hB _⟩
  have h2 := setRow_heap w g cur (cur.toList.take 0 ++ zs.map (Value.int .u8) ++ cur.toList.drop (0 + n)).toArray t (0, 0) hg
  rw [Hid, h2]
  simp [List.drop_eq_nil_of_le, hcur]

/-- What a read returns. -/
def ReadPost (l : List Int) (d s : Int) (w : World) (e : Ending) (w' : World) : Prop := ∃ r, e = .returned (.tuple #[r, .int .i64 (readE l d s)]) ∧ Bs w' r (readX l d s) ∧ Grow w w'

/-- Four bytes in new memory, or none. -/
def FreshX (w : World) (x : List Int) (r : Value) (w' : World) : Prop := (r = .slice none 0 0 ∧ x = []) ∨ ∃ b, r = .slice (some ⟨b, 0, none⟩) 4 4 ∧ w.heap.size ≤ b ∧ w'.heap[b]? = some (.cells (x.map (Value.int .u8)).toArray 5 (0, 0)) ∧ x.length = 4 ∧ Octets x

theorem FreshX.bs {w w' : World} {x : List Int} {r : Value} (h : FreshX w x r w') : Bs w' r x := by
  rcases h with ⟨rfl, rfl⟩ | ⟨b, rfl, -, hb, hl, ho⟩
  · exact Bs.nil _
  · exact Bs.row hb hl (by unfold maxLen; omega) ho

/-- What a read returns, and where. -/
def ReadFresh (l : List Int) (d s : Int) (w : World) (e : Ending) (w' : World) : Prop := ∃ r, e = .returned (.tuple #[r, .int .i64 (readE l d s)]) ∧ FreshX w (readX l d s) r w' ∧ Grow w w'

theorem ReadPost.none {l : List Int} {d s k : Int} {w w' : World} (h : readX l d s = [] ∧ readE l d s = k) (hg : Grow w w') : ReadFresh l d s w (.returned (.tuple #[.slice none 0 0, .int .i64 k])) w' :=
  ⟨_, by rw [h.2], .inl ⟨rfl, h.1⟩, hg⟩

set_option maxRecDepth 20000 in
set_option maxHeartbeats 1600000 in
theorem read_fresh (v : Value) (l : List Int) (d s : Int) (w : World) (h : Bs w v l) :
    Calls Try.prog 94 #[v, .int .i64 d, .int .i64 s] w (ReadFresh l d s w) := by
  have hbs := h
  obtain ⟨ao, cap, rfl, h1, h2, h3, h4, h5⟩ := h
  by_cases hl : l.length = 8
  · cases hs : sealedB l with
    | false =>
      have HR : Hid (readX l d s = [] ∧ readE l d s = 7) := read_sum d s (by rw [hs]; simp)
      rw [hl] at hbs
      rw [hl]
      clear h5 h1 h2 h3
      go_enter Try.func94, Try.ntmps94
      go_wp2_with fail
      refine (sealed_no _ _ _ hbs hs).mono ?_
      rintro e w1 ⟨rfl, n, rfl⟩
      go_wp2_with fail
      go_ret2
      exact ReadPost.none HR.out (Grow.drewN _ _)
    | true =>
      obtain ⟨b, off, rfl, hc⟩ := h5 (by omega)
      have c0 := hc 0 (by omega)
      rw [Nat.add_zero] at c0
      have c1 := hc 1 (by omega)
      have c2 := hc 2 (by omega)
      have c3 := hc 3 (by omega)
      have c4 := hc 4 (by omega)
      have c5 := hc 5 (by omega)
      have x0 := getD_bd h4 0
      have x1 := getD_bd h4 1
      have hx : Hid ((l.drop 2).take 4 = [l.getD 2 0, l.getD 3 0, l.getD 4 0, l.getD 5 0]) := by
        match l, hl with
        | [a0, a1, a2, a3, a4, a5, a6, a7], _ => rfl
      have hcap : (8 : Int) ≤ (cap : Int) := by omega
      have hsub : Bs w (.slice (some ⟨b, off + 2, none⟩) 4 (cap - 2)) ((l.drop 2).take 4) := Bs.cut (by omega) h1 h2 h4 hc
      clear hc
      unfold maxLen at h2
      rw [hl] at hbs
      rw [hl]
      by_cases hp : l.getD 0 0 = d
      · by_cases hq : l.getD 1 0 = s
        · have HR : Hid (readX l d s = (l.drop 2).take 4 ∧ readE l d s = 0) := read_ok ⟨hl, hs⟩ ⟨hp, hq⟩
          generalize l.getD 0 0 = y0 at *
          generalize l.getD 1 0 = y1 at *
          go_enter Try.func94, Try.ntmps94
          go_wp2_with fail
          refine (sealed_yes _ _ _ hbs hs).mono ?_
          rintro e w1 ⟨rfl, n, rfl⟩
          have hlen : ((l.drop 2).take 4).length = 4 := by simp [hl]
          have hso : Octets ((l.drop 2).take 4) := fun x hx => h4 x (List.mem_of_mem_drop (List.mem_of_mem_take hx))
          have hgr : Grow w ((w.drewN n).alloc (.cells #[.int .u8 0, .int .u8 0, .int .u8 0, .int .u8 0] 5)) := (Grow.drewN w n).trans (Grow.alloc _ _)
          obtain ⟨w2, hcp, HG2, hB2⟩ := run_copy_fill (P := Try.prog) 52 52 3 5 Try.underlying52 Try.sizeB (g := w.heap.size) (n := 4) (m := 6) (c := cap - 2) (heap_alloc_new (w.drewN n) _) rfl hlen (by omega) (hsub.grow hgr) hgr (Nat.le_refl _)
          have hmk := Try.made4 (w.drewN n)
          go_wp2_with fail
          go_ret2
          exact ⟨_, ret_bs2 HR.out.2.symm, by rw [HR.out.1]; exact .inr ⟨_, rfl, Nat.le_refl _, HG2.out, hlen, hso⟩, hB2⟩
        · have HR : Hid (readX l d s = [] ∧ readE l d s = 8) := read_place ⟨hl, hs⟩ (fun h => hq h.2)
          generalize l.getD 0 0 = y0 at *
          generalize l.getD 1 0 = y1 at *
          go_enter Try.func94, Try.ntmps94
          go_wp2_with fail
          refine (sealed_yes _ _ _ hbs hs).mono ?_
          rintro e w1 ⟨rfl, n, rfl⟩
          go_wp2_with fail
          go_ret2
          exact ReadPost.none HR.out (Grow.drewN _ _)
      · have HR : Hid (readX l d s = [] ∧ readE l d s = 8) := read_place ⟨hl, hs⟩ (fun h => hp h.1)
        generalize l.getD 0 0 = y0 at *
        generalize l.getD 1 0 = y1 at *
        go_enter Try.func94, Try.ntmps94
        go_wp2_with fail
        refine (sealed_yes _ _ _ hbs hs).mono ?_
        rintro e w1 ⟨rfl, n, rfl⟩
        go_wp2_with fail
        go_ret2
        exact ReadPost.none HR.out (Grow.drewN _ _)
  · have HR : Hid (readX l d s = [] ∧ readE l d s = 7) := read_sum d s (by simp [hl])
    have hl' : ¬ (l.length : Int) = 8 := by omega
    unfold maxLen at h2
    go_enter Try.func94, Try.ntmps94
    go_wp2_with fail
    go_ret2
    exact ReadPost.none HR.out (Grow.refl _)

theorem read_any (v : Value) (l : List Int) (d s : Int) (w : World) (h : Bs w v l) :
    Calls Try.prog 94 #[v, .int .i64 d, .int .i64 s] w (ReadPost l d s w) :=
  (read_fresh v l d s w h).mono fun _ _ ⟨r, he, hf, hg⟩ => ⟨r, he, hf.bs, hg⟩

end Go.Proofs.Ytjggiameajndgac
