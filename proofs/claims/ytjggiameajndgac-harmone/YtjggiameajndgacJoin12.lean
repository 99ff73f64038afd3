import Derived.Lib.SliceRun
import Derived.Test.YtjggiameajndgacJoin11
/-
  What the reference's Do returns. Nothing old turns.
-/
namespace Go.Proofs.Ytjggiameajndgac
open Go.RowKit

theorem do_take_succ (ls : List (List Int)) (x : DeedP) (k : Nat) : (List.range k).map (doAt ls x) ++ [doAt ls x k] = (List.range (k + 1)).map (doAt ls x) := by simp [List.range_succ]

theorem doAt_data {ls : List (List Int)} {x : DeedP} {i : Nat} (h : x.k = 1) (hi : (i : Int) = x.n) : doAt ls x i = x.d := by rw [doAt, if_pos ⟨h, hi⟩]
theorem doAt_old {ls : List (List Int)} {x : DeedP} {i : Nat} (h : x.k = 1) (hi : (i : Int) ≠ x.n) : doAt ls x i = ls.getD i [] := by rw [doAt, if_neg (fun h => hi h.2), if_neg (by omega), if_neg (by omega)]
theorem doAt_n {ls : List (List Int)} {x : DeedP} {i : Nat} (h : x.k = 2) (hi : (i : Int) = x.n) : doAt ls x i = ls.getD x.m.toNat [] := by rw [doAt, if_neg (by omega), if_pos ⟨h, hi⟩]
theorem doAt_m {ls : List (List Int)} {x : DeedP} {i : Nat} (h : x.k = 2) (hi : (i : Int) ≠ x.n) (hj : (i : Int) = x.m) : doAt ls x i = ls.getD x.n.toNat [] := by rw [doAt, if_neg (by omega), if_neg (by omega), if_pos ⟨h, hj⟩]
theorem doAt_out {ls : List (List Int)} {x : DeedP} {i : Nat} (h : x.k = 2) (hi : (i : Int) ≠ x.n) (hj : (i : Int) ≠ x.m) : doAt ls x i = ls.getD i [] := by rw [doAt, if_neg (by omega), if_neg (by omega), if_neg (by omega)]

theorem whereE_zero {m : Int} (h : whereE m = 0) : 0 ≤ m ∧ m < 9 := by
  unfold whereE at h
  split at h
  · assumption
  · cases h

set_option maxRecDepth 20000 in
set_option maxHeartbeats 3200000 in
theorem refDo_write (v dv : Value) (ls : List (List Int)) (x : DeedP) (w : World) (h : Bss w v ls) (hd : DeedV w dv x) (hl : ls.length = 9) (hk1 : x.k = 1) :
    Calls Try.prog 72 #[v, dv] w fun e w' => ∃ r, e = .returned r ∧ Bss w' r (doL ls x) ∧ Grow w w' := by
  obtain ⟨i0, hi, hz0, hz1, hz2⟩ := info_parts Try.infoS
  obtain ⟨sv, rfl, hbd⟩ := hd
  obtain ⟨ad, nd, cd, rfl⟩ := hbd.form
  have hd1 := fun i => doAt_data (ls := ls) (x := x) (i := i) hk1
  have hd2 := fun i => doAt_old (ls := ls) (x := x) (i := i) hk1
  have HDL : Hid (doL ls x = (List.range 9).map (doAt ls x)) := by rw [Hid, doL, hl]
  have HT : Hid (∀ k, (List.range k).map (doAt ls x) ++ [doAt ls x k] = (List.range (k + 1)).map (doAt ls x)) := do_take_succ ls x
  generalize doL ls x = dl at *
  generalize doAt ls x = da at *
  obtain ⟨k, n, m, d⟩ := x
  dsimp only at *
  subst hk1
  obtain ⟨ao, cap, rfl, h1, h2, h3, h4⟩ := h
  obtain ⟨b, off, rfl, hc⟩ := h4 (by omega)
  have Hc : Hid (∀ k, k < 9 → ∃ ak n ck, w.cell? ⟨b, off + k, none⟩ = some (.slice ak n ck) ∧ Bs w (.slice ak n ck) (ls.getD k [])) := fun k hk => by
    obtain ⟨ak, ck, e1, e2⟩ := Sl.bytesAt hc (k := k) (by omega)
    exact ⟨_, _, _, e1, e2⟩
  have Hd : Hid ((∀ i : Nat, (i : Int) = n → da i = d) ∧ (∀ i : Nat, (i : Int) ≠ n → da i = ls.getD i [])) := ⟨hd1, hd2⟩
  unfold maxLen at h2
  rw [hl] at h1 ⊢
  clear hc h4 h3 hl hd1 hd2
  have hgA : Grow w (w.alloc (.cells #[.int .i64 1, .int .i64 n, .int .i64 m, .slice ad nd cd] 54)) := Grow.alloc _ _
  go_enter Try.func72, Try.ntmps72
  go_wp2
  obtain ⟨w1, hw1⟩ : ∃ w1, w1 = w.alloc (.cells #[.int .i64 1, .int .i64 n, .int .i64 m, .slice ad nd cd] 54) := ⟨_, rfl⟩
  have hc0 : w1.cell? ⟨w.heap.size, 0, none⟩ = some (.int .i64 1) := by rw [hw1]; simp
  have hc1 : w1.cell? ⟨w.heap.size, 1, none⟩ = some (.int .i64 n) := by rw [hw1]; simp
  have hc3 : w1.cell? ⟨w.heap.size, 3, none⟩ = some (.slice ad nd cd) := by rw [hw1]; simp
  rw [← hw1] at hgA ⊢
  clear hw1
  go_loopw [5, 10] (fun r i wr => ∃ k : Nat, k ≤ 9 ∧ i = .int .i64 k ∧ Hid (Rowing Bs w1.heap.size 52 wr r ((List.range k).map da)) ∧ Grow w1 wr) (fun _ i _ => 9 - (intOf i).toNat)
  case atStart => exact ⟨0, by omega, rfl, Rowing.nil _ _ _ _, Grow.refl _⟩
  case round =>
    obtain ⟨k, hk, rfl, HR, hgr⟩ := hrel
    by_cases hlt : k < 9
    · have c0 := hgr.at hc0
      have c1 := hgr.at hc1
      have c3 := hgr.at hc3
      obtain ⟨ak, nk, ck, hck, hbk⟩ := Hc.out k hlt
      have hck' := (hgA.trans hgr).at hck
      clear hc0 hc1 hc3 hck
      by_cases hkn : (k : Int) = n
      · have HD : Hid (da k = d) := Hd.out.1 k hkn
        have hoff : Off Bs u5.ownBlock wr (.slice ad nd cd) (da k) := by rw [HD.out]; exact Off.old Bs.stays (hbd.grow hgA) hgr (fun j hj => (HR.out.base j hj).1)
        have hT := HT.out k
        subst hkn
        go_wp2_with (first
          | (at_builtin; refine wpList_push rfl (.tmp 57) (.tmp 59) 41 rfl i0 (.slice none 0 0) 24 Try.underlying41 hi hz0 hz1 hz2 rfl w1 hgr rfl rfl HR.out rfl hoff wr.heap.size rfl rfl (by simp; omega) (by simp; omega) ?_; rintro v1 w2 - hrow1 hg2))
        rw [hT] at hrow1
        go_wp2
        go_roundw
        case rel => first | exact ⟨k + 1, by omega, by go_num, hrow1, hg2⟩ | ((repeat apply Exists.intro); exact ⟨⟨k + 1, by omega, by go_num, hrow1, hg2⟩, rfl⟩)
        case measure => simp [intOf]; omega
      · have HD : Hid (da k = ls.getD k []) := Hd.out.2 k hkn
        have hoff : Off Bs u5.ownBlock wr (.slice ak nk ck) (da k) := by rw [HD.out]; exact Off.old Bs.stays (hbk.grow hgA) hgr (fun j hj => (HR.out.base j hj).1)
        have hT := HT.out k
        go_wp2_with (first
          | (at_builtin; refine wpList_push rfl (.tmp 57) (.tmp 59) 41 rfl i0 (.slice none 0 0) 24 Try.underlying41 hi hz0 hz1 hz2 rfl w1 hgr rfl rfl HR.out rfl hoff wr.heap.size rfl rfl (by simp; omega) (by simp; omega) ?_; rintro v1 w2 - hrow1 hg2))
        rw [hT] at hrow1
        go_wp2
        go_roundw
        case rel => first | exact ⟨k + 1, by omega, by go_num, hrow1, hg2⟩ | ((repeat apply Exists.intro); exact ⟨⟨k + 1, by omega, by go_num, hrow1, hg2⟩, rfl⟩)
        case measure => simp [intOf]; omega
    · obtain rfl : k = 9 := by omega
      go_wp2
      go_ret
      exact ⟨_, rfl, by rw [HDL.out]; exact HR.out.done, hgA.trans hgr⟩

set_option maxRecDepth 20000 in
set_option maxHeartbeats 3200000 in
theorem refDo_swap (v dv : Value) (ls : List (List Int)) (x : DeedP) (w : World) (h : Bss w v ls) (hd : DeedV w dv x) (hl : ls.length = 9) (hk1 : x.k = 2) (hn : 0 ≤ x.n ∧ x.n < 9) (hm : 0 ≤ x.m ∧ x.m < 9) :
    Calls Try.prog 72 #[v, dv] w fun e w' => ∃ r, e = .returned r ∧ Bss w' r (doL ls x) ∧ Grow w w' := by
  obtain ⟨i0, hi, hz0, hz1, hz2⟩ := info_parts Try.infoS
  obtain ⟨sv, rfl, hbd⟩ := hd
  obtain ⟨ad, nd, cd, rfl⟩ := hbd.form
  have hd1 := fun i => doAt_n (ls := ls) (x := x) (i := i) hk1
  have hd2 := fun i => doAt_m (ls := ls) (x := x) (i := i) hk1
  have hd3 := fun i => doAt_out (ls := ls) (x := x) (i := i) hk1
  have HDL : Hid (doL ls x = (List.range 9).map (doAt ls x)) := by rw [Hid, doL, hl]
  have HT : Hid (∀ k, (List.range k).map (doAt ls x) ++ [doAt ls x k] = (List.range (k + 1)).map (doAt ls x)) := do_take_succ ls x
  generalize doL ls x = dl at *
  generalize doAt ls x = da at *
  obtain ⟨k, n, m, d⟩ := x
  dsimp only at *
  subst hk1
  obtain ⟨n, rfl⟩ := Int.eq_ofNat_of_zero_le hn.1
  obtain ⟨m, rfl⟩ := Int.eq_ofNat_of_zero_le hm.1
  have hn9 : n < 9 := by omega
  have hm9 : m < 9 := by omega
  clear hn hm
  simp only [Int.toNat_natCast] at hd1 hd2 hd3
  obtain ⟨ao, cap, rfl, h1, h2, h3, h4⟩ := h
  obtain ⟨b, off, rfl, hc⟩ := h4 (by omega)
  have Hc : Hid (∀ k, k < 9 → ∃ ak n ck, w.cell? ⟨b, off + k, none⟩ = some (.slice ak n ck) ∧ Bs w (.slice ak n ck) (ls.getD k [])) := fun k hk => by
    obtain ⟨ak, ck, e1, e2⟩ := Sl.bytesAt hc (k := k) (by omega)
    exact ⟨_, _, _, e1, e2⟩
  have Hd : Hid ((∀ i : Nat, i = n → da i = ls.getD m []) ∧ (∀ i : Nat, i ≠ n → i = m → da i = ls.getD n []) ∧ (∀ i : Nat, i ≠ n → i ≠ m → da i = ls.getD i [])) := ⟨fun i h => hd1 i (by omega), fun i h h' => hd2 i (by omega) (by omega), fun i h h' => hd3 i (by omega) (by omega)⟩
  unfold maxLen at h2
  rw [hl] at h1 ⊢
  clear hc h4 h3 hl hd1 hd2 hd3
  have hgA : Grow w (w.alloc (.cells #[.int .i64 2, .int .i64 n, .int .i64 m, .slice ad nd cd] 54)) := Grow.alloc _ _
  go_enter Try.func72, Try.ntmps72
  go_wp2
  obtain ⟨w1, hw1⟩ : ∃ w1, w1 = w.alloc (.cells #[.int .i64 2, .int .i64 n, .int .i64 m, .slice ad nd cd] 54) := ⟨_, rfl⟩
  have hc0 : w1.cell? ⟨w.heap.size, 0, none⟩ = some (.int .i64 2) := by rw [hw1]; simp
  have hc1 : w1.cell? ⟨w.heap.size, 1, none⟩ = some (.int .i64 n) := by rw [hw1]; simp
  have hc2 : w1.cell? ⟨w.heap.size, 2, none⟩ = some (.int .i64 m) := by rw [hw1]; simp
  rw [← hw1] at hgA ⊢
  clear hw1
  go_loopw [5, 10] (fun r i wr => ∃ k : Nat, k ≤ 9 ∧ i = .int .i64 k ∧ Hid (Rowing Bs w1.heap.size 52 wr r ((List.range k).map da)) ∧ Grow w1 wr) (fun _ i _ => 9 - (intOf i).toNat)
  case atStart => exact ⟨0, by omega, rfl, Rowing.nil _ _ _ _, Grow.refl _⟩
  case round =>
    obtain ⟨k, hk, rfl, HR, hgr⟩ := hrel
    by_cases hlt : k < 9
    · have c0 := hgr.at hc0
      have c1 := hgr.at hc1
      have c2 := hgr.at hc2
      obtain ⟨ak, nk, ck, hck, hbk⟩ := Hc.out k hlt
      obtain ⟨an, nn, cn, hcn, hbn⟩ := Hc.out n hn9
      obtain ⟨am, nm, cm, hcm, hbm⟩ := Hc.out m hm9
      have hck' := (hgA.trans hgr).at hck
      have hcn' := (hgA.trans hgr).at hcn
      have hcm' := (hgA.trans hgr).at hcm
      clear hc0 hc1 hc2 hck hcn hcm
      by_cases hkn : k = n
      · have HD : Hid (da k = ls.getD m []) := Hd.out.1 k hkn
        have hoff : Off Bs u5.ownBlock wr (.slice am nm cm) (da k) := by rw [HD.out]; exact Off.old Bs.stays (hbm.grow hgA) hgr (fun j hj => (HR.out.base j hj).1)
        have hT := HT.out k
        subst hkn
        go_wp2_with (first
          | (at_builtin; refine wpList_push rfl (.tmp 57) (.tmp 59) 41 rfl i0 (.slice none 0 0) 24 Try.underlying41 hi hz0 hz1 hz2 rfl w1 hgr rfl rfl HR.out rfl hoff wr.heap.size rfl rfl (by simp; omega) (by simp; omega) ?_; rintro v1 w2 - hrow1 hg2))
        rw [hT] at hrow1
        go_wp2
        go_roundw
        case rel => first | exact ⟨k + 1, by omega, by go_num, hrow1, hg2⟩ | ((repeat apply Exists.intro); exact ⟨⟨k + 1, by omega, by go_num, hrow1, hg2⟩, rfl⟩)
        case measure => simp [intOf]; omega
      · have hkn' : ¬ (k : Int) = n := by omega
        by_cases hkm : k = m
        · have HD : Hid (da k = ls.getD n []) := Hd.out.2.1 k hkn hkm
          have hoff : Off Bs u5.ownBlock wr (.slice an nn cn) (da k) := by rw [HD.out]; exact Off.old Bs.stays (hbn.grow hgA) hgr (fun j hj => (HR.out.base j hj).1)
          have hT := HT.out k
          subst hkm
          go_wp2_with (first
            | (at_builtin; refine wpList_push rfl (.tmp 57) (.tmp 59) 41 rfl i0 (.slice none 0 0) 24 Try.underlying41 hi hz0 hz1 hz2 rfl w1 hgr rfl rfl HR.out rfl hoff wr.heap.size rfl rfl (by simp; omega) (by simp; omega) ?_; rintro v1 w2 - hrow1 hg2))
          rw [hT] at hrow1
          go_wp2
          go_roundw
          case rel => first | exact ⟨k + 1, by omega, by go_num, hrow1, hg2⟩ | ((repeat apply Exists.intro); exact ⟨⟨k + 1, by omega, by go_num, hrow1, hg2⟩, rfl⟩)
          case measure => simp [intOf]; omega
        · have hkm' : ¬ (k : Int) = m := by omega
          have HD : Hid (da k = ls.getD k []) := Hd.out.2.2 k hkn hkm
          have hoff : Off Bs u5.ownBlock wr (.slice ak nk ck) (da k) := by rw [HD.out]; exact Off.old Bs.stays (hbk.grow hgA) hgr (fun j hj => (HR.out.base j hj).1)
          have hT := HT.out k
          go_wp2_with (first
            | (at_builtin; refine wpList_push rfl (.tmp 57) (.tmp 59) 41 rfl i0 (.slice none 0 0) 24 Try.underlying41 hi hz0 hz1 hz2 rfl w1 hgr rfl rfl HR.out rfl hoff wr.heap.size rfl rfl (by simp; omega) (by simp; omega) ?_; rintro v1 w2 - hrow1 hg2))
          rw [hT] at hrow1
          go_wp2
          go_roundw
          case rel => first | exact ⟨k + 1, by omega, by go_num, hrow1, hg2⟩ | ((repeat apply Exists.intro); exact ⟨⟨k + 1, by omega, by go_num, hrow1, hg2⟩, rfl⟩)
          case measure => simp [intOf]; omega
    · obtain rfl : k = 9 := by omega
      go_wp2
      go_ret
      exact ⟨_, rfl, by rw [HDL.out]; exact HR.out.done, hgA.trans hgr⟩

theorem refDo_any (v dv : Value) (ls : List (List Int)) (x : DeedP) (w : World) (h : Bss w v ls) (hd : DeedV w dv x) (hl : ls.length = 9) (hr : wrongE x = 0) :
    Calls Try.prog 72 #[v, dv] w fun e w' => ∃ r, e = .returned r ∧ Bss w' r (doL ls x) ∧ Grow w w' := by
  obtain ⟨hk, hn0, hn8, -, h2⟩ := right_deed hr
  rcases hk with hk | hk
  · exact refDo_write v dv ls x w h hd hl hk
  · exact refDo_swap v dv ls x w h hd hl hk (by omega) (whereE_zero (h2 hk).1)

end Go.Proofs.Ytjggiameajndgac

/-
  Plain: what a deed's intent is: a stripe's data spread over blocks, the deed done, gathered again, and the xor of it.
-/
namespace Go.Proofs.Ytjggiameajndgac

/-- Blocks of which the first k that are of stripe s are what that has. -/
def spreadTo (ds : List (List Int)) (s : Nat) (k : Nat) : List (List Int) := (List.range 9).map fun n => if n < k ∧ sOf (n : Nat) = s then ds.getD (dOf (n : Nat)) [] else nought

theorem spreadTo_length (ds : List (List Int)) (s k : Nat) : (spreadTo ds s k).length = 9 := by simp [spreadTo]
theorem spreadTo_zero (ds : List (List Int)) (s : Nat) : spreadTo ds s 0 = List.replicate 9 nought := by simp [spreadTo]; rfl

theorem spreadTo_in {ds : List (List Int)} {s k : Nat} (h : sOf (k : Nat) = s) : (spreadTo ds s k).set k (ds.getD (dOf (k : Nat)) []) = spreadTo ds s (k + 1) := by
  refine List.ext_getElem (by simp [spreadTo]) fun i h1 h2 => ?_
  rw [List.getElem_set]
  simp only [spreadTo, List.getElem_map, List.getElem_range]
  split
  · rename_i e; subst e; rw [if_pos ⟨by omega, h⟩]
  · by_cases hi : i < k ∧ sOf (i : Nat) = s
    · rw [if_pos hi, if_pos ⟨by omega, hi.2⟩]
    · rw [if_neg hi, if_neg (fun hc => hi ⟨by omega, hc.2⟩)]

theorem spreadTo_out {ds : List (List Int)} {s k : Nat} (h : sOf (k : Nat) ≠ s) : spreadTo ds s k = spreadTo ds s (k + 1) := by
  refine List.map_congr_left fun i _ => ?_
  by_cases hi : i < k ∧ sOf (i : Nat) = s
  · rw [if_pos hi, if_pos ⟨by omega, hi.2⟩]
  · rw [if_neg hi, if_neg (fun hc => hi ⟨by
      by_cases e : i = k
      · subst e; exact absurd hc.2 h
      · omega, hc.2⟩)]

/-- Of the first k blocks those of stripe s, by disks. -/
def outTo (bl : List (List Int)) (s : Nat) : Nat → List (List Int)
  | 0 => List.replicate 4 []
  | k + 1 => if sOf (k : Nat) = s then (outTo bl s k).set (dOf (k : Nat)) (bl.getD k []) else outTo bl s k

/-- The same, in a row. -/
def rowTo (bl : List (List Int)) (s : Nat) : Nat → List (List Int)
  | 0 => []
  | k + 1 => if sOf (k : Nat) = s then rowTo bl s k ++ [bl.getD k []] else rowTo bl s k

theorem outTo_length (bl : List (List Int)) (s : Nat) : ∀ k, (outTo bl s k).length = 4
  | 0 => rfl
  | k + 1 => by
    rw [outTo]
    split
    · rw [List.length_set]; exact outTo_length bl s k
    · exact outTo_length bl s k

theorem rowTo_length (bl : List (List Int)) (s : Nat) : ∀ k, (rowTo bl s k).length ≤ k
  | 0 => Nat.le_refl _
  | k + 1 => by
    have := rowTo_length bl s k
    rw [rowTo]
    split
    · simp; omega
    · omega

theorem outTo_in {bl : List (List Int)} {s k : Nat} (h : sOf (k : Nat) = s) : (outTo bl s k).set (dOf (k : Nat)) (bl.getD k []) = outTo bl s (k + 1) := by rw [outTo, if_pos h]
theorem outTo_out {bl : List (List Int)} {s k : Nat} (h : sOf (k : Nat) ≠ s) : outTo bl s k = outTo bl s (k + 1) := by rw [outTo, if_neg h]
theorem rowTo_in {bl : List (List Int)} {s k : Nat} (h : sOf (k : Nat) = s) : rowTo bl s k ++ [bl.getD k []] = rowTo bl s (k + 1) := by rw [rowTo, if_pos h]
theorem rowTo_out {bl : List (List Int)} {s k : Nat} (h : sOf (k : Nat) ≠ s) : rowTo bl s k = rowTo bl s (k + 1) := by rw [rowTo, if_neg h]

/-- What the disks of stripe s are to have. -/
def planOut (bl : List (List Int)) (s : Nat) : List (List Int) := (outTo bl s 9).set (3 - s) (xorAll (rowTo bl s 9))

/-- Blocks behind a deed, of stripe s those that it has. -/
def planBl (a : ArrP) (x : DeedP) : List (List Int) := doL (spreadTo (dataL (cellsL a (sOf x.n)) (sOf x.n)) (sOf x.n) 9) x

def planE (a : ArrP) (x : DeedP) : Int := if wrongE x ≠ 0 then wrongE x else dataE (cellsL a (sOf x.n)) (sOf x.n)
def planI (a : ArrP) (x : DeedP) : Int × List (List Int) := if planE a x ≠ 0 then (0, []) else ((sOf x.n : Int), makeL (planOut (planBl a x) (sOf x.n)) (sOf x.n))

theorem rowTo_blocks {bl : List (List Int)} (h4 : ∀ b ∈ bl, b.length = 4) (hl : bl.length = 9) (s : Nat) : ∀ k, k ≤ 9 → ∀ b ∈ rowTo bl s k, b.length = 4
  | 0, _ => by simp [rowTo]
  | k + 1, hk => by
    rw [rowTo]
    split
    · intro b hb
      rcases List.mem_append.1 hb with hb | hb
      · exact rowTo_blocks h4 hl s k (by omega) b hb
      · simp only [List.mem_singleton] at hb
        rw [hb]
        exact h4 _ (getD_mem (by omega))
    · exact rowTo_blocks h4 hl s k (by omega)

/-- What the disks are to have, written out. -/
theorem planOut_eq (bl : List (List Int)) (s : Nat) (hs : s < 3) : planOut bl s =
    if s = 0 then [bl.getD 0 [], bl.getD 1 [], bl.getD 2 [], xorAll [bl.getD 0 [], bl.getD 1 [], bl.getD 2 []]]
    else if s = 1 then [bl.getD 3 [], bl.getD 4 [], xorAll [bl.getD 3 [], bl.getD 4 [], bl.getD 5 []], bl.getD 5 []]
    else [bl.getD 6 [], xorAll [bl.getD 6 [], bl.getD 7 [], bl.getD 8 []], bl.getD 7 [], bl.getD 8 []] := by
  have h := fun n : Nat => show n < 9 → sOf (n : Nat) = n / 3 from fun hn => by
    simp only [sOf, whereS]
    rw [if_pos (by omega)]
    omega
  have h0 := h 0 (by omega)
  have h1 := h 1 (by omega)
  have h2 := h 2 (by omega)
  have h3 := h 3 (by omega)
  have h4 := h 4 (by omega)
  have h5 := h 5 (by omega)
  have h6 := h 6 (by omega)
  have h7 := h 7 (by omega)
  have h8 := h 8 (by omega)
  obtain rfl | rfl | rfl : s = 0 ∨ s = 1 ∨ s = 2 := by omega
  all_goals
    simp only [planOut, outTo, rowTo, h0, h1, h2, h3, h4, h5, h6, h7, h8]
    rfl

theorem planOut_length (bl : List (List Int)) (s : Nat) : (planOut bl s).length = 4 := by rw [planOut, List.length_set, outTo_length]

theorem planOut_blocks {bl : List (List Int)} (h4 : ∀ b ∈ bl, b.length = 4) (hl : bl.length = 9) {s : Nat} (hs : s < 3) : ∀ b ∈ planOut bl s, b.length = 4 := by
  have hg : ∀ k, k < 9 → (bl.getD k []).length = 4 := fun k hk => h4 _ (getD_mem (by omega))
  have hx : ∀ l, (xorAll l).length = 4 := fun l => by simp [xorAll]
  rw [planOut_eq bl s hs]
  intro b hb
  split at hb
  · simp only [List.mem_cons, List.not_mem_nil, or_false] at hb
    rcases hb with rfl | rfl | rfl | rfl
    · exact hg 0 (by omega)
    · exact hg 1 (by omega)
    · exact hg 2 (by omega)
    · exact hx _
  split at hb
  · simp only [List.mem_cons, List.not_mem_nil, or_false] at hb
    rcases hb with rfl | rfl | rfl | rfl
    · exact hg 3 (by omega)
    · exact hg 4 (by omega)
    · exact hx _
    · exact hg 5 (by omega)
  · simp only [List.mem_cons, List.not_mem_nil, or_false] at hb
    rcases hb with rfl | rfl | rfl | rfl
    · exact hg 6 (by omega)
    · exact hx _
    · exact hg 7 (by omega)
    · exact hg 8 (by omega)

theorem spread_blocks {ds : List (List Int)} (hd : ∀ b ∈ ds, b.length = 4) (hl : ds.length = 4) (s k : Nat) : ∀ b ∈ spreadTo ds s k, b.length = 4 := by
  intro b hb
  simp only [spreadTo, List.mem_map, List.mem_range] at hb
  obtain ⟨n, hn, rfl⟩ := hb
  split
  · have := (where_bd (n := (n : Int)) (by omega)).2.2.2.1
    exact hd _ (getD_mem (by omega))
  · rfl

theorem doL_blocks {ls : List (List Int)} {x : DeedP} (h4 : ∀ b ∈ ls, b.length = 4) (hl : ls.length = 9) (hr : wrongE x = 0) : ∀ b ∈ doL ls x, b.length = 4 := by
  obtain ⟨hk, hn0, hn8, h1, h2⟩ := right_deed hr
  intro b hb
  simp only [doL, List.mem_map, List.mem_range] at hb
  obtain ⟨i, hi, rfl⟩ := hb
  unfold doAt
  split
  · rename_i h; exact (h1 h.1).2
  split
  · rename_i h
    have := whereE_zero (h2 h.1).1
    exact h4 _ (getD_mem (by omega))
  split
  · exact h4 _ (getD_mem (by omega))
  · exact h4 _ (getD_mem (by omega))

end Go.Proofs.Ytjggiameajndgac

/-
  What the reference's Mount returns, of an array with no intent, or one. Nothing old turns.
-/
namespace Go.Proofs.Ytjggiameajndgac
open Go.RowKit

set_option maxRecDepth 20000 in
set_option maxHeartbeats 3200000 in
theorem refMount_none (v : Value) (a : ArrP) (w : World) (h : ArrV w v a) (hi : a.is = []) :
    Calls Try.prog 62 #[v] w fun e w' => ∃ r, e = .returned r ∧ ArrV w' r a ∧ Grow w w' := by
  obtain ⟨dv, iv, e, hd, hit⟩ := id h
  obtain ⟨a1, n1, c1, a2, n2, c2, rfl⟩ := h.form
  simp only [Value.agg.injEq] at e
  have e := congrArg Array.toList e
  simp at e
  obtain ⟨rfl, rfl⟩ := e
  have hn : n2 = 0 := by
    obtain ⟨q1, q2, q3, -⟩ := hit.form
    injection q3 with _ q4 _
    rw [q4, hi]
    rfl
  subst hn
  have hgF : Grow w ((w.alloc (.cells #[.slice a1 n1 c1, .slice a2 0 c2] 26)).alloc (.cells #[.slice a1 n1 c1, .slice a2 0 c2] 26)) := (Grow.alloc _ _).trans (Grow.alloc _ _)
  have hfin : Hid (_ ∧ _) := ⟨h.grow hgF, hgF⟩
  clear hd hit h hgF
  go_enter Try.func62, Try.ntmps62
  go_wp2
  go_loop [8] (fun i => i = .int .i64 0) (fun _ => 0)
  case atStart => rfl
  case round =>
    subst hrel
    go_wp2
    refine bodyPost_ret (results_two Try.results62 _ _ (w.heap.size + 1) _ rfl Try.underlying26 rfl Try.sizeA (x := .slice a1 n1 c1) (y := .slice a2 0 c2) (by simp) (by simp)) rfl ?_
    exact ⟨_, rfl, hfin.out.1, hfin.out.2⟩

theorem writeTo_six (a : ArrP) (i : Int × List (List Int)) : writeL a i 6 = writeTo a i 6 := rfl

set_option maxRecDepth 20000 in
set_option maxHeartbeats 6400000 in
theorem refMount_one (v : Value) (a : ArrP) (s : Nat) (cs : List (List Int)) (w : World) (h : ArrV w v a) (ha : Whole a) (hi : a.is = [((s : Int), cs)]) (hs3 : s < 3) (hc4 : cs.length = 4) :
    Calls Try.prog 62 #[v] w fun e w' => ∃ r, e = .returned r ∧ ArrV w' r (writeTo a ((s : Int), cs) 6) ∧ Grow w w' := by
  have hf : Fours a := fun p hp => by rw [hi] at hp; simp at hp; rw [hp]; exact hc4
  obtain ⟨dv, iv, e, hd, hit⟩ := id h
  obtain ⟨a1, n1, c1, a2, n2, c2, rfl⟩ := h.form
  simp only [Value.agg.injEq] at e
  have e := congrArg Array.toList e
  simp at e
  obtain ⟨rfl, rfl⟩ := e
  rw [hi] at hit
  obtain ⟨ao, cap, e1, k1, k2, k3, k4⟩ := hit
  injection e1 with e2 e3 e4
  subst e2 e3 e4
  obtain ⟨bi, oi, rfl, hci⟩ := k4 (by simp)
  obtain ⟨hci0, cv, hci1, hcv⟩ := hci 0 _ rfl
  simp only [Nat.zero_mul, Nat.add_zero] at hci0 hci1
  obtain ⟨vc, cc, rfl⟩ := hcv.form
  have HCL : Hid (cs.length = 4) := hc4
  obtain ⟨W, hW⟩ : ∃ W, W = (w.alloc (.cells #[.slice a1 n1 c1, .slice (some ⟨bi, oi, none⟩) 1 c2] 26)).alloc (.cells #[.slice none 0 0, .slice none 0 0] 26) := ⟨_, rfl⟩
  have hgW : Grow w W := by rw [hW]; exact (Grow.alloc _ _).trans (Grow.alloc _ _)
  have hI : BInv w w.heap.size (w.heap.size + 1) (.slice a1 n1 c1) (.slice (some ⟨bi, oi, none⟩) 1 c2) a W := ⟨by rw [hW]; exact ⟨(heap_alloc_old _ _ (by simp)).trans (heap_alloc_new w _), heap_alloc2_new w _ _⟩, h.grow hgW, hgW⟩
  have hw6 := writeTo_whole ha ((s : Int), cs) 6
  have hf6 : Fours (writeTo a ((s : Int), cs) 6) := writeTo_is hf hc4 6
  clear h hd k4 hci k3 hc4
  simp only [List.length_cons, List.length_nil, Nat.zero_add] at k1 ⊢
  go_enter Try.func62, Try.ntmps62
  go_wp2
  rw [← hW]
  clear hW
  go_loopw [8] (fun q wr => ∃ (k : Nat) (x y : Value), k ≤ 1 ∧ q = .int .i64 k ∧ BInv w w.heap.size (w.heap.size + 1) x y (if k = 0 then a else writeTo a ((s : Int), cs) 6) wr) (fun q _ => 1 - (intOf q).toNat)
  case atStart => exact ⟨0, _, _, by omega, rfl, hI⟩
  case round =>
    obtain ⟨k, x, y, hk, rfl, hB⟩ := hrel
    have HB : Hid (BInv w w.heap.size (w.heap.size + 1) x y (if k = 0 then a else writeTo a ((s : Int), cs) 6) wr) := hB
    obtain ⟨⟨h1, h2⟩, HV, hgr⟩ := hB
    obtain ⟨⟨x1, x2, x3, rfl⟩, y1, y2, y3, rfl⟩ := HV.out.form2
    have b0 := two_at0 h1
    have b1 := two_at1 h1
    have r0 := two_at0 h2
    have r1 := two_at1 h2
    have fA0 : wr.frozen? ⟨w.heap.size, 0, none⟩ = false := frozen_of_row wr _ 0 _ _ h1
    have fA1 : wr.frozen? ⟨w.heap.size, 1, none⟩ = false := frozen_of_row wr _ 1 _ _ h1
    have f0 : wr.frozen? ⟨w.heap.size + 1, 0, none⟩ = false := frozen_of_row wr _ 0 _ _ h2
    have f1 : wr.frozen? ⟨w.heap.size + 1, 1, none⟩ = false := frozen_of_row wr _ 1 _ _ h2
    clear h1 h2
    obtain rfl | rfl : k = 0 ∨ k = 1 := by omega
    · rw [if_pos rfl] at HV HB
      have g0 := hgr.at hci0
      have g1 := hgr.at hci1
      have gE := Grow.alloc wr (.cells #[.int .i64 s, .slice vc cs.length cc] 80)
      have b0' := gE.at b0
      have b1' := gE.at b1
      have hgE := hgr.trans gE
      have HcE : Hid (Bss (wr.alloc (.cells #[.int .i64 s, .slice vc cs.length cc] 80)) (.slice vc cs.length cc) cs) := hcv.grow hgE
      have HvE : Hid (ArrV (wr.alloc (.cells #[.int .i64 s, .slice vc cs.length cc] 80)) (.agg #[.slice x1 x2 x3, .slice y1 y2 y3]) a) := HV.out.grow gE
      clear hcv hci0 hci1
      generalize hLn : cs.length = Ln at *
      go_wp2_with fail
      refine (refWrite_any _ _ a s cs 6 _ HvE.out ha ⟨_, rfl, HcE.out⟩ hs3 (by rw [hLn]; exact HCL.out) hf).mono ?_
      rintro e w5 ⟨r, rfl, hr, hg5⟩
      rw [writeTo_six] at hr
      obtain ⟨p1, p2, p3, q1, q2, q3, rfl⟩ := hr.form
      have hg15 := gE.trans hg5
      have HN : Hid (BInv w w.heap.size (w.heap.size + 1) _ _ (if 1 = 0 then a else writeTo a ((s : Int), cs) 6) _) := BInv.put HB.out hg15 hr hw6 hf6 (Nat.le_refl _) (by omega)
      have b05 := hg15.at b0
      have b15 := hg15.at b1
      have f05 := (hg15.frozen (a := ⟨w.heap.size, 0, none⟩) (cell_lt b0)).trans fA0
      have f15 := (hg15.frozen (a := ⟨w.heap.size, 1, none⟩) (cell_lt b0)).trans fA1
      clear HB HV hr HcE HvE b0' b1' gE hgE g0 g1
      go_wp2
      go_roundw
      case rel => first | exact ⟨1, _, _, by omega, rfl, HN.out⟩ | ((repeat apply Exists.intro); exact ⟨⟨1, _, _, by omega, rfl, HN.out⟩, rfl⟩)
      case measure => simp [intOf]
    · rw [if_neg (by omega)] at HV HB
      obtain ⟨hv, hg, z0, z1⟩ := HB.out.done hw6 hf6 (by omega)
      have hfin : Hid (_ ∧ _) := ⟨hv, hg⟩
      clear hv hg HB HV
      go_wp2
      refine bodyPost_ret (results_two Try.results62 _ _ (w.heap.size + 1) _ rfl Try.underlying26 rfl Try.sizeA z0 z1) rfl ?_
      exact ⟨_, rfl, hfin.out.1, hfin.out.2⟩

end Go.Proofs.Ytjggiameajndgac

/-
  What the reference's New returns: an array of noughts. Nothing old turns.
-/
namespace Go.Proofs.Ytjggiameajndgac
open Go.RowKit

/-- The first m cells of disk d, of noughts. -/
def newRow (d m : Nat) : List (List Int) := (List.range m).map fun (s : Nat) => cellOf d s nought
/-- The first k disks. -/
def newDs (k : Nat) : List (List (List Int)) := (List.range k).map fun d => newRow d 3
def newP : ArrP := ⟨newDs 4, []⟩

theorem newRow_succ (d m : Nat) : newRow d m ++ [cellOf d m nought] = newRow d (m + 1) := by simp [newRow, List.range_succ]
theorem newDs_succ (k : Nat) : newDs k ++ [newRow k 3] = newDs (k + 1) := by simp [newDs, List.range_succ]
theorem newP_whole : Whole newP := by
  refine ⟨by simp [newP, newDs], fun x hx => ?_⟩
  simp only [newP, newDs, List.mem_map] at hx
  obtain ⟨d, _, rfl⟩ := hx
  simp [newRow]
theorem newP_fours : Fours newP := fun p hp => by simp [newP] at hp

set_option maxRecDepth 20000 in
set_option maxHeartbeats 6400000 in
theorem refNew6_any (w : World) :
    Calls Try.prog 38 #[] w fun e w' => ∃ r, e = .returned r ∧ ArrV w' r newP ∧ Grow w w' := by
  obtain ⟨i0, hi, hz0, hz1, hz2⟩ := info_parts Try.infoS
  obtain ⟨i1, hj, hy0, hy1, hy2⟩ := info_parts Try.infoD
  obtain ⟨W, hW⟩ : ∃ W, W = (w.alloc (.cells #[.slice none 0 0, .slice none 0 0] 26)).alloc (.cells #[.slice none 0 0, .slice none 0 0] 26) := ⟨_, rfl⟩
  have hgW : Grow w W := by rw [hW]; exact (Grow.alloc _ _).trans (Grow.alloc _ _)
  have hbR : W.heap[w.heap.size]? = some (.cells #[.slice none 0 0, .slice none 0 0] 26 (0, 0)) := by rw [hW]; exact (heap_alloc_old _ _ (by simp)).trans (heap_alloc_new w _)
  have hbA : W.heap[w.heap.size + 1]? = some (.cells #[.slice none 0 0, .slice none 0 0] 26 (0, 0)) := by rw [hW]; exact heap_alloc2_new w _ _
  have HW : Hid (W.heap.size = w.heap.size + 2) := by rw [Hid, hW]; simp
  have HI : Hid (W.heap[w.heap.size]? = some (.cells #[.slice none 0 0, .slice none 0 0] 26 (0, 0)) ∧ W.heap[w.heap.size + 1]? = some (.cells #[.slice none 0 0, .slice none 0 0] 26 (0, 0))) := ⟨hbR, hbA⟩
  clear hbR hbA
  obtain ⟨F, hF⟩ : ∃ F : Nat → Prop, F = fun k => k = w.heap.size ∨ k = w.heap.size + 1 := ⟨_, rfl⟩
  have HF : Hid (F w.heap.size ∧ F (w.heap.size + 1) ∧ ∀ k, F k → k < w.heap.size + 2) := by rw [Hid, hF]; exact ⟨.inl rfl, .inr rfl, fun k hk => by omega⟩
  clear hF
  go_enter Try.func38, Try.ntmps38
  go_wp2
  rw [← hW]
  clear hW
  go_loopw [6] (fun q wr => ∃ (k : Nat) (dv : Value), k ≤ 4 ∧ q = .int .i64 k ∧ (∃ x1 x2 x3, dv = .slice x1 x2 x3) ∧ Hid (wr.heap[w.heap.size]? = some (.cells #[.slice none 0 0, .slice none 0 0] 26 (0, 0)) ∧ wr.heap[w.heap.size + 1]? = some (.cells #[dv, .slice none 0 0] 26 (0, 0))) ∧ Hid (RowingF F Bss (w.heap.size + 2) 41 wr dv (newDs k)) ∧ Grow w wr) (fun q _ => 4 - (intOf q).toNat)
  case atStart => exact ⟨0, _, by omega, rfl, ⟨_, _, _, rfl⟩, HI, RowingF.nil _ _ _ _ _, hgW⟩
  case round =>
    obtain ⟨k, dv, hk, rfl, ⟨x1, x2, x3, rfl⟩, HB, HR, hgr⟩ := hrel
    have hsz : w.heap.size + 2 ≤ wr.heap.size := by
      have := cell_lt (two_at0 HB.out.2)
      omega
    by_cases hlt : k < 4
    · obtain ⟨wo, hwo⟩ : ∃ wo : World, wo = wr := ⟨_, rfl⟩
      subst hwo
      have hd : decide ((k : Int) < 4) = true := by simp; omega
      go_wp2
      go_loopw [3, 9] (fun lv i wr => ∃ (m : Nat), m ≤ 3 ∧ i = .int .i64 m ∧ Hid (RowingF (fun j => F j ∨ (Value.slice x1 x2 x3).ownBlock = some j) Bs wo.heap.size 52 wr lv (newRow k m)) ∧ Grow wo wr) (fun _ i _ => 3 - (intOf i).toNat)
      case atStart => exact ⟨0, by omega, rfl, RowingF.nil _ _ _ _ _, Grow.refl _⟩
      case round =>
        obtain ⟨m, hm, rfl, HL, hgm⟩ := hrel
        by_cases hm3 : m < 3
        · have hgZ : Grow wr (wr.alloc (.cells #[.int .u8 0, .int .u8 0, .int .u8 0, .int .u8 0] 5)) := Grow.alloc _ _
          have hbz : Bs (wr.alloc (.cells #[.int .u8 0, .int .u8 0, .int .u8 0, .int .u8 0] 5)) (.slice (some ⟨wr.heap.size, 0, none⟩) 4 4) nought := Bs.row (l := nought) (heap_alloc_new wr _) rfl (by unfold maxLen; omega) nought_oct
          have hoc : Octets (cellOf (k : Int) m nought) := cellOf_octets (by omega) (by omega) nought_oct
          have hT := newRow_succ k m
          have hln : (newRow k m).length = m := by simp [newRow]
          go_wp2_with fail
          refine (refBytes_own _ nought k m _ (by simp [nought]) (by omega) (by omega) hbz).mono ?_
          rintro e w1 ⟨r, rfl, hown, hg1⟩
          have hg2 := hgZ.trans hg1
          obtain ⟨gr, cr, rfl, -, -⟩ := hown.form (by omega)
          have Hrow : Hid (RowingF (fun j => F j ∨ (Value.slice x1 x2 x3).ownBlock = some j) Bs wo.heap.size 52 w1 u3 (newRow k m)) := HL.out.grow hg2
          have Hoff : Hid (OffG Bs (fun j => (F j ∨ (Value.slice x1 x2 x3).ownBlock = some j) ∨ u3.ownBlock = some j) w1 (.slice (some ⟨gr, 0, none⟩) (nought.length + 4) cr) (cellOf k m nought)) :=
            OffG.own hown hoc (fun j hj => by
              have h2 := hgm.size
              have h3 := hgZ.size
              rcases hj with (hj | hj) | hj
              · have := HF.out.2.2 j hj; omega
              · have := (HR.out.base j hj).2; omega
              · have := (HL.out.base j hj).2; omega)
          have hgo := hgm.trans hg2
          clear HL hown hbz hoc hgZ
          rw [show nought.length = 4 from rfl] at Hoff ⊢
          go_wp2_with (first
            | (at_builtin; refine wpList_pushF rfl (.tmp 12) (.tmp 17) 41 rfl i0 (.slice none 0 0) 24 Try.underlying41 hi hz0 hz1 hz2 rfl wo hgo (Nat.le_refl _) hgo.size rfl Hrow.out rfl Hoff.out w1.heap.size rfl rfl (by omega) (by omega) ?_; rintro v1 w2 - hrow1 hg3 -))
          rw [hT] at hrow1
          go_wp2
          go_roundw
          case rel => first | exact ⟨m + 1, by omega, by go_num, hrow1, hg3⟩ | ((repeat apply Exists.intro); exact ⟨⟨m + 1, by omega, by go_num, hrow1, hg3⟩, rfl⟩)
          case measure => simp [intOf]; omega
        · obtain rfl : m = 3 := by omega
          obtain ⟨l1, l2, hl⟩ := HL.out.done.form
          have Hrow : Hid (RowingF F Bss (w.heap.size + 2) 41 wr (.slice x1 x2 x3) (newDs k)) := HR.out.grow hgm
          have Hoff : Hid (OffG Bss (fun j => F j ∨ (Value.slice x1 x2 x3).ownBlock = some j) wr u3 (newRow k 3)) := HL.out.off (fun j hj => hj) (fun j hj hG => by
            have h1 := (HL.out.base j hj).1
            rcases hG with hG | hG
            · have := HF.out.2.2 j hG; omega
            · have := (HR.out.base j hG).2; omega)
          subst hl
          have hbR := hgm.block' HB.out.1
          have hbA := hgm.block' HB.out.2
          have a0 := two_at0 hbA
          have fA0 : wr.frozen? ⟨w.heap.size + 1, 0, none⟩ = false := frozen_of_row wr _ 0 _ _ hbA
          have HB' : Hid (wr.heap[w.heap.size]? = some (.cells #[.slice none 0 0, .slice none 0 0] 26 (0, 0)) ∧ wr.heap[w.heap.size + 1]? = some (.cells #[.slice x1 x2 x3, .slice none 0 0] 26 (0, 0))) := ⟨hbR, hbA⟩
          have hgw := hgr.trans hgm
          have hT := newDs_succ k
          have hln : (newDs k).length = k := by simp [newDs]
          have hsz' : w.heap.size + 2 ≤ wr.heap.size := by have := hgm.size; omega
          have hb0 : ∀ j, (Value.slice x1 x2 x3).ownBlock = some j → w.heap.size + 2 ≤ j := fun j hj => (HR.out.base j hj).1
          have Hb0 : Hid (∀ j, (Value.slice x1 x2 x3).ownBlock = some j → w.heap.size + 2 ≤ j) := hb0
          have gE := Grow.alloc wr (.cells #[.slice l1 (newRow k 3).length l2] 41)
          have a0' := gE.at a0
          clear hb0 HL HR HB hbR hbA
          generalize (newRow k 3).length = L3 at *
          go_wp2_with (first
            | (at_builtin; refine wpList_pushF rfl (.tmp 21) (.tmp 23) 23 rfl i1 (.slice none 0 0) 24 Try.underlying23 hj hy0 hy1 hy2 rfl w hgw (by omega) hsz' rfl Hrow.out rfl Hoff.out wr.heap.size rfl rfl (by omega) (by omega) ?_; rintro v1 w2 ⟨g2, c2, rfl⟩ hrow2 hg2 hin2; have HB2 : Hid (w2.heap[w.heap.size]? = some (.cells #[.slice none 0 0, .slice none 0 0] 26 (0, 0)) ∧ w2.heap[w.heap.size + 1]? = some (.cells #[.slice x1 x2 x3, .slice none 0 0] 26 (0, 0))) := ⟨(hin2.block _ (by omega) (fun e => by have := Hb0.out _ e; omega)).trans HB'.out.1, (hin2.block _ (by omega) (fun e => by have := Hb0.out _ e; omega)).trans HB'.out.2⟩; have a02 := two_at0 HB2.out.2; have fA02 : w2.frozen? ⟨w.heap.size + 1, 0, none⟩ = false := frozen_of_row w2 _ 0 _ _ HB2.out.2))
          rw [hT] at hrow2
          have hne : g2 ≠ w.heap.size + 1 := by have := (hrow2.base g2 rfl).1; omega
          have HN : Hid (RowingF F Bss (w.heap.size + 2) 41 (w2.setCell ⟨w.heap.size + 1, 0, none⟩ (.slice (some ⟨g2, 0, none⟩) ((newDs k).length + 1) c2)) (.slice (some ⟨g2, 0, none⟩) ((newDs k).length + 1) c2) (newDs (k + 1))) := hrow2.set HF.out.2.1 (by simp [Value.ownBlock]; exact hne) 0 _
          have HB3 : Hid ((w2.setCell ⟨w.heap.size + 1, 0, none⟩ (.slice (some ⟨g2, 0, none⟩) ((newDs k).length + 1) c2)).heap[w.heap.size]? = some (.cells #[.slice none 0 0, .slice none 0 0] 26 (0, 0)) ∧ (w2.setCell ⟨w.heap.size + 1, 0, none⟩ (.slice (some ⟨g2, 0, none⟩) ((newDs k).length + 1) c2)).heap[w.heap.size + 1]? = some (.cells #[.slice (some ⟨g2, 0, none⟩) ((newDs k).length + 1) c2, .slice none 0 0] 26 (0, 0))) := ⟨set_other HB2.out.1 (by omega), two_set0 HB2.out.2⟩
          have hg3 := hg2.set (g := w.heap.size + 1) (k := 0) (by omega) (.slice (some ⟨g2, 0, none⟩) ((newDs k).length + 1) c2)
          rw [hln] at HN HB3 hg3
          clear hrow2 hin2 HB2 Hrow Hoff HB' gE
          go_roundw
          case rel => first | exact ⟨k + 1, _, by omega, by go_num, ⟨_, _, _, rfl⟩, HB3, HN, hg3⟩ | ((repeat apply Exists.intro); exact ⟨⟨k + 1, _, by omega, by go_num, ⟨_, _, _, rfl⟩, HB3, HN, hg3⟩, rfl⟩)
          case measure => simp [intOf]; omega
    · obtain rfl : k = 4 := by omega
      have a0 := two_at0 HB.out.2
      have a1 := two_at1 HB.out.2
      have r0 := two_at0 HB.out.1
      have r1 := two_at1 HB.out.1
      have f0 : wr.frozen? ⟨w.heap.size, 0, none⟩ = false := frozen_of_row wr _ 0 _ _ HB.out.1
      have f1 : wr.frozen? ⟨w.heap.size, 1, none⟩ = false := frozen_of_row wr _ 1 _ _ HB.out.1
      have hne : (Value.slice x1 x2 x3).ownBlock ≠ some w.heap.size := fun e => by have := (HR.out.base _ e).1; omega
      have hb := two_set1 (z := .slice none 0 0) (two_set0 (z := .slice x1 x2 x3) HB.out.1)
      have z0 := two_at0 hb
      have z1 := two_at1 hb
      have hfin : Hid (ArrV ((wr.setCell ⟨w.heap.size, 0, none⟩ (.slice x1 x2 x3)).setCell ⟨w.heap.size, 1, none⟩ (.slice none 0 0)) (.agg #[.slice x1 x2 x3, .slice none 0 0]) newP ∧ Grow w ((wr.setCell ⟨w.heap.size, 0, none⟩ (.slice x1 x2 x3)).setCell ⟨w.heap.size, 1, none⟩ (.slice none 0 0))) :=
        ⟨⟨_, _, rfl, ((HR.out.set HF.out.1 hne 0 _).set HF.out.1 hne 1 _).done, Its.nil _⟩, (hgr.set (Nat.le_refl _) _).set (Nat.le_refl _) _⟩
      clear hb HB HR HF
      go_wp2
      refine bodyPost_ret (results_two Try.results38 _ _ w.heap.size _ rfl Try.underlying26 rfl Try.sizeA z0 z1) rfl ?_
      exact ⟨_, rfl, hfin.out.1, hfin.out.2⟩

end Go.Proofs.Ytjggiameajndgac

/-
  Plain: what arrays are that come of steps; what a step makes of one.
-/
namespace Go.Proofs.Ytjggiameajndgac

/-- An array that came of steps. -/
structure Arr (a : ArrP) : Prop where
  whole : Whole a
  none : a.is = []
  short : ∀ d s, (cellAt a d s).length ≤ 8

theorem Arr.fours {a : ArrP} (h : Arr a) : Fours a := fun p hp => by rw [h.none] at hp; simp at hp

theorem cellAt_with {a : ArrP} {d s : Nat} {l : List Int} (hd : d < a.ds.length) (hs : s < (a.ds.getD d []).length) (d' s' : Nat) : cellAt (withL a d s l) d' s' = if d' = d ∧ s' = s then l else cellAt a d' s' := by
  simp only [cellAt, withL]
  by_cases h1 : d' = d
  · subst h1
    have e1 : (a.ds.set d' ((a.ds.getD d' []).set s l)).getD d' [] = (a.ds.getD d' []).set s l := by simp [List.getD_eq_getElem?_getD, hd]
    rw [e1]
    by_cases h2 : s' = s
    · subst h2
      rw [if_pos ⟨rfl, rfl⟩]
      rw [List.getD_eq_getElem?_getD, List.getElem?_set_self hs]
      rfl
    · rw [if_neg (fun h => h2 h.2), List.getD_eq_getElem?_getD, List.getElem?_set_ne (fun e => h2 e.symm), ← List.getD_eq_getElem?_getD]
  · rw [if_neg (fun h => h1 h.1)]
    rw [List.getD_eq_getElem?_getD (l := a.ds.set _ _), List.getElem?_set_ne (fun e => h1 e.symm), ← List.getD_eq_getElem?_getD]

theorem Whole.cellAt_with {a : ArrP} (ha : Whole a) {d s : Nat} (hd : d < 4) (hs : s < 3) (l : List Int) (d' s' : Nat) : cellAt (withL a d s l) d' s' = if d' = d ∧ s' = s then l else cellAt a d' s' := by
  have hdl : d < a.ds.length := by have := ha.1; omega
  refine Go.Proofs.Ytjggiameajndgac.cellAt_with hdl ?_ d' s'
  rw [ha.2 _ (by simp [List.getD_eq_getElem?_getD, hdl])]
  exact hs

theorem Arr.with {a : ArrP} (h : Arr a) {d s : Nat} (hd : d < 4) (hs : s < 3) {l : List Int} (hl : l.length ≤ 8) : Arr (withL a d s l) :=
  ⟨withL_whole h.whole hd l, h.none, fun d' s' => by rw [h.whole.cellAt_with hd hs]; split; exact hl; exact h.short d' s'⟩

theorem newP_arr : Arr newP := ⟨newP_whole, rfl, fun d s => by
  simp only [cellAt, newP, newDs, newRow, List.getD_eq_getElem?_getD]
  by_cases hd : d < 4
  · rw [List.getElem?_map, List.getElem?_range hd]
    simp only [Option.map_some, Option.getD_some]
    by_cases hs : s < 3
    · rw [List.getElem?_map, List.getElem?_range hs]
      simp only [Option.map_some, Option.getD_some]
      rw [cellOf_length]
      simp [nought]
    · rw [List.getElem?_eq_none (by simp; omega)]
      simp
  · rw [List.getElem?_eq_none (l := List.map _ (List.range 4)) (by simp; omega)]
    simp⟩

/-- All of an intent's writes: its cells, and no intents. -/
theorem writeTo_six_eq (a : ArrP) (i : Int × List (List Int)) : writeTo a i 6 = { putTo { a with is := [i] } i.2 i.1.toNat 4 with is := [] } := rfl

theorem putTo_arr {a : ArrP} (h : Arr a) {cs : List (List Int)} (hc : ∀ b ∈ cs, b.length ≤ 8) {s : Nat} (hs : s < 3) : ∀ k, k ≤ 4 → Arr (putTo a cs s k)
  | 0, _ => h
  | k + 1, hk => (putTo_arr h hc hs k (by omega)).with (by omega) hs (by
    by_cases hkl : k < cs.length
    · exact hc _ (getD_mem hkl)
    · rw [List.getD_eq_getElem?_getD, List.getElem?_eq_none (by omega)]; simp)

theorem putTo_ds (a b : ArrP) (h : a.ds = b.ds) (cs : List (List Int)) (s : Nat) : ∀ k, (putTo a cs s k).ds = (putTo b cs s k).ds
  | 0 => h
  | k + 1 => by simp only [putTo, withL]; rw [putTo_ds a b h cs s k]

theorem putTo_is (a : ArrP) (cs : List (List Int)) (s : Nat) : ∀ k, (putTo a cs s k).is = a.is
  | 0 => rfl
  | k + 1 => by simp only [putTo, withL]; exact putTo_is a cs s k

/-- Whatever its intents were, all six of an intent come to this. -/
theorem six_eq {a : ArrP} {i : Int × List (List Int)} : writeTo a i 6 = { putTo a i.2 i.1.toNat 4 with is := [] } := by
  rw [writeTo_six_eq]
  have := putTo_ds { a with is := [i] } a rfl i.2 i.1.toNat 4
  cases h1 : putTo { a with is := [i] } i.2 i.1.toNat 4
  cases h2 : putTo a i.2 i.1.toNat 4
  rw [h1, h2] at this
  simp only at this ⊢
  rw [this]

theorem putTo_none {a : ArrP} (h : a.is = []) (cs : List (List Int)) (s k : Nat) : { putTo a cs s k with is := [] } = putTo a cs s k := by
  have := putTo_is a cs s k
  rw [h] at this
  cases h1 : putTo a cs s k
  rw [h1] at this
  simp only at this ⊢
  rw [this]

theorem writeTo_is_mid (a : ArrP) (i : Int × List (List Int)) : ∀ k, 1 ≤ k → k ≤ 5 → (writeTo a i k).is = [i]
  | 1, _, _ => rfl
  | 2, _, _ => rfl
  | 3, _, _ => rfl
  | 4, _, _ => rfl
  | 5, _, _ => rfl

/-- Starting anew. -/
def mountL (a : ArrP) : ArrP := match a.is with | [] => a | i :: _ => writeTo a i 6

/-- A deed done. -/
def doA (a : ArrP) (x : DeedP) : ArrP := if planE a x = 0 then writeTo a (planI a x) 6 else a

/-- A deed that falls behind n of its writes. -/
def fallA (a : ArrP) (x : DeedP) (n : Int) : ArrP := if planE a x = 0 then mountL (writeL a (planI a x) n) else a

/-- A step. -/
structure StepP where
  k : Int
  n : Int
  m : Int
  d : DeedP

def stepE (a : ArrP) (s : StepP) : Int :=
  if s.k = 1 then planE a s.d else if s.k = 2 then planE a s.d else if s.k = 3 then (if s.n < 0 then 6 else rotE a (s.n / 3) (s.n % 3) s.m) else if s.k = 4 then goneE s.n else if s.k = 5 then mendE a s.n else 1
def stepA (a : ArrP) (s : StepP) : ArrP :=
  if s.k = 1 then doA a s.d else if s.k = 2 then fallA a s.d s.n else if s.k = 3 then (if s.n < 0 then a else rotL a (s.n / 3) (s.n % 3) s.m) else if s.k = 4 then goneL a s.n else if s.k = 5 then mendL a s.n else a

theorem planI_ok {a : ArrP} {x : DeedP} (h : planE a x = 0) : ∃ s : Nat, s < 3 ∧ s = sOf x.n ∧ wrongE x = 0 ∧ dataE (cellsL a s) s = 0 ∧ planI a x = ((s : Int), makeL (planOut (planBl a x) s) s) := by
  have hw0 : wrongE x = 0 := by
    unfold planE at h
    split at h
    · exact h
    · rename_i h'; exact Decidable.not_not.1 h'
  have hde : dataE (cellsL a (sOf x.n)) (sOf x.n) = 0 := by
    unfold planE at h
    rwa [if_neg (by simp [hw0])] at h
  obtain ⟨-, hn0, hn8, -, -⟩ := right_deed hw0
  obtain ⟨-, -, -, -, hs3⟩ := where_bd (n := x.n) (by omega)
  exact ⟨sOf x.n, hs3, rfl, hw0, hde, if_neg (by simp [h])⟩

theorem planBl_blocks {a : ArrP} (ha : Whole a) {x : DeedP} (h : planE a x = 0) : (∀ b ∈ planBl a x, b.length = 4) ∧ (planBl a x).length = 9 := by
  obtain ⟨s, hs3, rfl, hw0, hde, -⟩ := planI_ok h
  have hdl := dataL_length hde
  rw [cellsL_length, ha.1] at hdl
  exact ⟨doL_blocks (spread_blocks (dataL_blocks hde) hdl _ 9) (spreadTo_length _ _ _) hw0, by rw [planBl, doL_length, spreadTo_length]⟩

theorem makeL_mem {ds : List (List Int)} {s : Int} (h4 : ∀ b ∈ ds, b.length = 4) : ∀ b ∈ makeL ds s, b.length = 8 := by
  intro b hb
  simp only [makeL, List.mem_map, List.mem_range] at hb
  obtain ⟨d, hd, rfl⟩ := hb
  rw [cellOf_length, h4 _ (getD_mem hd)]

theorem planI_cells {a : ArrP} (ha : Whole a) {x : DeedP} (h : planE a x = 0) : (planI a x).2.length = 4 ∧ ∀ b ∈ (planI a x).2, b.length = 8 := by
  obtain ⟨s, hs3, -, -, -, he⟩ := planI_ok h
  obtain ⟨h4, h9⟩ := planBl_blocks ha h
  rw [he]
  exact ⟨by rw [makeL_length, planOut_length], makeL_mem (planOut_blocks h4 h9 hs3)⟩

theorem doA_eq {a : ArrP} (h : Arr a) {x : DeedP} (he : planE a x = 0) : doA a x = putTo a (planI a x).2 (planI a x).1.toNat 4 := by
  rw [doA, if_pos he, six_eq, putTo_none h.none]

theorem doA_arr {a : ArrP} (h : Arr a) (x : DeedP) : Arr (doA a x) := by
  by_cases he : planE a x = 0
  · obtain ⟨s, hs3, -, -, -, hi⟩ := planI_ok he
    rw [doA_eq h he]
    refine putTo_arr h (fun b hb => by rw [(planI_cells h.whole he).2 b hb]; omega) ?_ 4 (Nat.le_refl _)
    rw [hi]
    simpa using hs3
  · rw [doA, if_neg he]; exact h

/-- Behind a fall it is as it was, or as if the deed had been done. -/
theorem putTo_twice_at {a : ArrP} (ha : Whole a) (cs : List (List Int)) {s : Nat} (hs : s < 3) (d' s' : Nat) : ∀ k, k ≤ 4 → cellAt (putTo a cs s k) d' s' = if d' < k ∧ s' = s then cs.getD d' [] else cellAt a d' s'
  | 0, _ => by simp [putTo]
  | k + 1, hk => by
    rw [putTo, (putTo_whole ha cs s k (by omega)).cellAt_with (by omega) hs, putTo_twice_at ha cs hs d' s' k (by omega)]
    by_cases h1 : d' = k ∧ s' = s
    · rw [if_pos h1, if_pos ⟨by omega, h1.2⟩, h1.1]
    · rw [if_neg h1]
      by_cases h2 : d' < k ∧ s' = s
      · rw [if_pos h2, if_pos ⟨by omega, h2.2⟩]
      · rw [if_neg h2, if_neg (fun h => by
          by_cases h3 : d' = k
          · exact h1 ⟨h3, h.2⟩
          · exact h2 ⟨by omega, h.2⟩)]

/-- Arrays of the same cells are the same. -/
theorem arr_ext {a b : ArrP} (ha : Whole a) (hb : Whole b) (hi : a.is = b.is) (h : ∀ d s, d < 4 → s < 3 → cellAt a d s = cellAt b d s) : a = b := by
  obtain ⟨ads, ais⟩ := a
  obtain ⟨bds, bis⟩ := b
  obtain ⟨ha1, ha2⟩ := ha
  obtain ⟨hb1, hb2⟩ := hb
  simp only at ha1 ha2 hb1 hb2 hi
  simp only [ArrP.mk.injEq]
  refine ⟨List.ext_getElem (by omega) fun i h1 h2 => List.ext_getElem (by rw [ha2 _ (List.getElem_mem h1), hb2 _ (List.getElem_mem h2)]) fun j g1 g2 => ?_, hi⟩
  have h3 : ads[i].length = 3 := ha2 _ (List.getElem_mem h1)
  have := h i j (by omega) (by omega)
  simpa [cellAt, List.getD_eq_getElem?_getD, h1, h2, g1, g2] using this

theorem writeTo_mid_ds (a : ArrP) (i : Int × List (List Int)) : ∀ k, k ≤ 4 → (writeTo a i (k + 1)).ds = (putTo a i.2 i.1.toNat k).ds
  | 0, _ => rfl
  | 1, _ => rfl
  | 2, _ => rfl
  | 3, _ => rfl
  | 4, _ => rfl

theorem cellAt_ds {a b : ArrP} (h : a.ds = b.ds) (d s : Nat) : cellAt a d s = cellAt b d s := by rw [cellAt, cellAt, h]

theorem fallA_eq {a : ArrP} (h : Arr a) {x : DeedP} (he : planE a x = 0) (n : Int) : fallA a x n = if n ≤ 0 then a else doA a x := by
  obtain ⟨s, hs3, -, -, -, hi⟩ := planI_ok he
  rw [fallA, if_pos he]
  split
  · rename_i hn
    rw [show writeL a (planI a x) n = a from by rw [writeL, show many6 n = 0 from by unfold many6; omega]; rfl, mountL, h.none]
  · rename_i hn
    rw [doA, if_pos he]
    by_cases h6 : 6 ≤ n
    · rw [writeL, show many6 n = 6 from by unfold many6; omega]
      rw [mountL]
      rfl
    · obtain ⟨k, hk, hk4⟩ : ∃ k, many6 n = k + 1 ∧ k ≤ 4 := ⟨(n - 1).toNat, by unfold many6; omega, by omega⟩
      rw [writeL, hk, mountL, writeTo_is_mid a _ (k + 1) (by omega) (by omega)]
      simp only
      rw [six_eq, six_eq]
      have hs : (planI a x).1.toNat = s := by rw [hi]; simp
      rw [hs]
      have hw1 : Whole (writeTo a (planI a x) (k + 1)) := writeTo_whole h.whole _ _
      refine arr_ext (a := { putTo _ _ _ _ with is := [] }) (b := { putTo _ _ _ _ with is := [] }) (putTo_whole hw1 _ _ 4 (Nat.le_refl _)) (putTo_whole h.whole _ _ 4 (Nat.le_refl _)) rfl fun d' s' hd' hs' => ?_
      show cellAt (putTo _ _ _ _) d' s' = cellAt (putTo _ _ _ _) d' s'
      rw [putTo_twice_at hw1 _ hs3 d' s' 4 (Nat.le_refl _), putTo_twice_at h.whole _ hs3 d' s' 4 (Nat.le_refl _)]
      split
      · rfl
      · rename_i hns
        rw [cellAt_ds (writeTo_mid_ds a (planI a x) k hk4), hs, putTo_twice_at h.whole _ hs3 d' s' k hk4, if_neg (fun hc => hns ⟨hd', hc.2⟩)]

theorem fallA_arr {a : ArrP} (h : Arr a) (x : DeedP) (n : Int) : Arr (fallA a x n) := by
  by_cases he : planE a x = 0
  · rw [fallA_eq h he]
    split
    · exact h
    · exact doA_arr h x
  · rw [fallA, if_neg he]; exact h

theorem rotL_arr {a : ArrP} (h : Arr a) (d s k : Int) : Arr (rotL a d s k) := by
  unfold rotL
  split
  · rename_i hk
    obtain ⟨h1, h2, h3, h4, h5, h6⟩ := hk
    exact h.with (by omega) (by omega) (by rw [rotB, List.length_set]; exact h.short _ _)
  · exact h

theorem goneTo_arr {a : ArrP} (h : Arr a) {d : Nat} (hd : d < 4) : ∀ k, k ≤ 3 → Arr (goneTo a d k)
  | 0, _ => h
  | k + 1, hk => (goneTo_arr h hd k (by omega)).with hd (by omega) (by simp)

theorem goneL_arr {a : ArrP} (h : Arr a) (d : Int) : Arr (goneL a d) := by
  unfold goneL
  split
  · exact h
  · exact goneTo_arr h (by omega) 3 (Nat.le_refl _)

theorem mendL_arr {a : ArrP} (h : Arr a) (s : Int) : Arr (mendL a s) := by
  unfold mendL
  split
  · exact h
  · rename_i hn
    have hde : dataE (cellsL a s.toNat) s = 0 := Decidable.byContradiction fun hc => hn (.inr hc)
    have hs : ¬ (s < 0 ∨ 2 < s) := fun hc => hn (.inl hc)
    exact putTo_arr h (fun b hb => by rw [makeL_mem (dataL_blocks hde) b hb]; omega) (by omega) 4 (Nat.le_refl _)

theorem stepA_arr {a : ArrP} (h : Arr a) (s : StepP) : Arr (stepA a s) := by
  unfold stepA
  split
  · exact doA_arr h _
  split
  · exact fallA_arr h _ _
  split
  · split
    · exact h
    · exact rotL_arr h _ _ _
  split
  · exact goneL_arr h _
  split
  · exact mendL_arr h _
  · exact h

/-- What steps come to: at most a hundred. -/
def playTo (l : List StepP) : Nat → ArrP
  | 0 => newP
  | k + 1 => match l[k]? with | some s => stepA (playTo l k) s | none => playTo l k
def playL (l : List StepP) : ArrP := playTo l (min l.length 100)
def playEs (l : List StepP) (k : Nat) : List Int := (List.range k).map fun i => match l[i]? with | some s => stepE (playTo l i) s | none => 0

theorem playTo_arr (l : List StepP) : ∀ k, Arr (playTo l k)
  | 0 => newP_arr
  | k + 1 => by
    rw [playTo]
    split
    · exact stepA_arr (playTo_arr l k) _
    · exact playTo_arr l k

/-- Does a cell rot that is none? -/
def againB (a : ArrP) (s : StepP) : Bool := decide (s.k = 3 ∧ 0 ≤ s.n ∧ s.n ≤ 11 ∧ readE (cellAt a (s.n / 3).toNat (s.n % 3).toNat) (s.n / 3) (s.n % 3) ≠ 0)

/-- May this step be taken? -/
def gentleB (a : ArrP) (s : StepP) : Bool := !againB a s && decide (worstN (stepA a s) ≤ 1)

/-- How far steps are gentle, from k on, of at most so many. -/
def gentlyFrom (l : List StepP) (a : ArrP) : Nat → ArrP
  | 0 => a
  | n + 1 => match l with | [] => a | s :: r => if gentleB a s then gentlyFrom r (stepA a s) n else a
def gentlyL (l : List StepP) : ArrP := gentlyFrom l newP 100

theorem gentlyFrom_arr : ∀ (n : Nat) (l : List StepP) (a : ArrP), Arr a → Arr (gentlyFrom l a n)
  | 0, l, a, h => by rw [gentlyFrom]; exact h
  | n + 1, [], a, h => by rw [gentlyFrom]; exact h
  | n + 1, s :: r, a, h => by
    rw [gentlyFrom]
    split
    · exact gentlyFrom_arr n r _ (stepA_arr h s)
    · exact h

end Go.Proofs.Ytjggiameajndgac

/-
  A byte of an array of the call's own turns: no other cell's bytes do. A disk of one loses its bytes.
-/
namespace Go.Proofs.Ytjggiameajndgac
open Go.RowKit

theorem own_other {w : World} {lo n g k : Nat} {u z : Value} {xs : List Value} (h : w.ownsRow lo 5 1 u n xs) (hne : u.ownBlock ≠ some g) : (w.setCell ⟨g, k, none⟩ z).ownsRow lo 5 1 u n xs := by
  refine ⟨h.1, ?_⟩
  rcases h.2 with h2 | ⟨g', cap, cur, hv, hb, hh, hr⟩
  · exact .inl h2
  · subst hv
    exact .inr ⟨g', cap, cur, rfl, hb, set_other hh (fun e => hne (by simp only [Value.ownBlock]; rw [e])), hr⟩

theorem getD_at {α : Type} {l : List α} {i : Nat} (h : i < l.length) (d : α) : l[i]? = some (l.getD i d) := by simp [List.getD_eq_getElem?_getD, h]

/-- A cell of such disks. -/
theorem SDs.cell {B : Nat} {bs : List Nat} {ds : List (List (List Int))} {U : Nat → List Value} {w : World} (h : SDs B bs ds U w) (hlen : bs.length = ds.length) {d s : Nat} (hd : d < ds.length) (hs : s < (ds.getD d []).length) :
    ∃ b u, bs[d]? = some b ∧ (U d)[s]? = some u ∧ w.cell? ⟨b, s, none⟩ = some u ∧ w.ownsRow B 5 1 u ((ds.getD d []).getD s []).length (((ds.getD d []).getD s []).map (Value.int .u8)) ∧ Octets ((ds.getD d []).getD s []) := by
  have hbd : bs[d]? = some (bs[d]'(by omega)) := by simp [show d < bs.length by omega]
  have hr := h.rows d _ _ hbd (getD_at hd [])
  have hul : s < (U d).length := by rw [hr.len]; exact hs
  have hu : (U d)[s]? = some ((U d)[s]'hul) := by simp [hul]
  have ho := hr.own s _ _ hu (getD_at hs [])
  exact ⟨_, _, hbd, hu, row_at hr.row s (by simp), ho.1, ho.2⟩

theorem rot_rows {B : Nat} {bs : List Nat} {ds : List (List (List Int))} {U : Nat → List Value} {w : World} {dv : Value} (h : DRows B bs ds w dv) (hS : SDs B bs ds U w) {d s g n cap k : Nat} (hd : d < ds.length) (hs : s < (ds.getD d []).length) (hu : (U d)[s]? = some (.slice (some ⟨g, 0, none⟩) n cap)) {z : Int} (hz : 0 ≤ z ∧ z ≤ 255) :
    DRows B bs (ds.set d ((ds.getD d []).set s (((ds.getD d []).getD s []).set k z))) (w.setCell ⟨g, k, none⟩ (.int .u8 z)) dv := by
  obtain ⟨b, u, hbd, hu', hcell, hown, hoc⟩ := hS.cell h.len hd hs
  rw [hu] at hu'
  cases hu'
  have hgt : ∃ cur, w.heap[g]? = some (.cells cur 5 (0, 0)) := own_typed hown rfl
  have hty : ∀ (b : Nat) cs t, t ≠ 5 → w.heap[b]? = some (.cells cs t (0, 0)) → b ≠ g := fun b cs t ht hb e => by
    subst e
    obtain ⟨cur, hc⟩ := hgt
    rw [hb] at hc
    injection hc with hc
    injection hc with _ hc _
    exact ht hc
  have hdb : d < bs.length := by have := h.len; omega
  have hlen : ((ds.getD d []).set s (((ds.getD d []).getD s []).set k z)).length = ds[d].length := by simp [List.getD_eq_getElem?_getD, hd]
  have hother : ∀ (i j : Nat) b' l q x, bs[i]? = some b' → ds[i]? = some l → (U i)[j]? = some q → l[j]? = some x → (i ≠ d ∨ j ≠ s) → Tb (w.setCell ⟨g, k, none⟩ (.int .u8 z)) q x := fun i j b' l q x hb' hl hq hx hne => by
    have hr := hS.rows i b' l hb' hl
    have ho := hr.own j q x hq hx
    refine Tb.own (own_other ho.1 fun hg => ?_) ho.2
    have hib : i < bs.length := (List.getElem?_eq_some_iff.1 hb').1
    have hid := hS.apart i d q _ g hib hdb (List.mem_of_getElem? hq) (List.mem_of_getElem? hu) hg rfl
    subst hid
    have hjs := (hS.rows i b' l hb' hl).apart j s q _ g hq hu hg rfl
    subst hjs
    exact hne.elim (fun h => h rfl) (fun h => h rfl)
  refine ⟨by simpa using h.len, h.up, h.base, ?_, fun i b' l hb' hl => ?_⟩
  · rw [rowVals_set h.len hd hlen, List.length_set]
    refine ⟨h.own.1, ?_⟩
    rcases h.own.2 with h2 | ⟨g', cap, cur, hv, hbb, hh, hr'⟩
    · exact .inl h2
    · exact .inr ⟨g', cap, cur, hv, hbb, set_other hh (hty g' _ _ (by decide) hh), hr'⟩
  · by_cases hid : i = d
    · subst hid
      rw [List.getElem?_set_self hd] at hl
      cases hl
      have hr := hS.rows i b' _ hb' (getD_at hd [])
      refine ⟨U i, by rw [List.length_set]; exact hr.len, set_other hr.row (hty b' _ _ (by decide) hr.row), fun j q x hq hx => ?_⟩
      by_cases hjs : j = s
      · subst hjs
        rw [hu] at hq
        cases hq
        rw [List.getElem?_set_self hs] at hx
        cases hx
        refine Tb.own (B := B) (n := n) ?_ (fun y hy => ?_)
        · have hn : n = ((ds.getD i []).getD j []).length := by
            rcases hown.2 with ⟨h1, -⟩ | ⟨g', cap', cur, h1, -⟩
            · cases h1
            · injection h1
          rw [← hn] at hown
          have := (hown.stored k (.int .u8 z)).1
          rw [List.map_set]
          exact this
        · rcases List.mem_or_eq_of_mem_set hy with hy | rfl
          · exact hoc y hy
          · exact hz
      · rw [List.getElem?_set_ne (fun e => hjs e.symm)] at hx
        exact hother i j b' _ q x hb' (getD_at hd []) hq hx (.inr hjs)
    · rw [List.getElem?_set_ne (fun e => hid e.symm)] at hl
      have hr := hS.rows i b' l hb' hl
      exact ⟨U i, hr.len, set_other hr.row (hty b' _ _ (by decide) hr.row), fun j q x hq hx => hother i j b' l q x hb' hl hq hx (.inl hid)⟩

/-- A byte has turned. -/
theorem rot_own {B : Nat} {bs : List Nat} {U : Nat → List Value} {w : World} {dv iv : Value} {a : ArrP} (h : OwnA B bs w dv iv a) (hS : SDs B bs a.ds U w) (hi : a.is = []) {d s g n cap k : Nat} (hd : d < 4) (hs : s < 3) (hu : (U d)[s]? = some (.slice (some ⟨g, 0, none⟩) n cap)) :
    OwnA B bs (w.setCell ⟨g, k, none⟩ (.int .u8 (rotI ((cellAt a d s).getD k 0)))) dv iv (withL a d s (rotB (cellAt a d s) k)) := by
  have hd' : d < a.ds.length := by have := h.whole.1; omega
  have hs' : s < (a.ds.getD d []).length := by rw [h.whole.2 _ (by simp [List.getD_eq_getElem?_getD, hd'])]; exact hs
  obtain ⟨b, u, hbd, hu', hcell, hown, hoc⟩ := hS.cell h.disks.len hd' hs'
  refine ⟨withL_whole h.whole hd _, rot_rows h.disks hS hd' hs' hu (rotI_bd (getD_bd hoc k)), ?_⟩
  rcases h.its with ⟨h1, h2⟩ | ⟨q, r, cap, cur, s', cs, h1, _⟩
  · exact .inl ⟨h1, h2⟩
  · rw [hi] at h1; cases h1

/-- A disk has lost its bytes. -/
theorem gone_own {B : Nat} {bs : List Nat} {w : World} {dv iv : Value} {a : ArrP} (h : OwnA B bs w dv iv a) {d b : Nat} (hd : d < 4) (hb : bs[d]? = some b) : OwnA B bs (w.setCells b 0 (List.replicate 3 (.slice none 0 0))) dv iv (goneTo a d 3) := by
  have h1 := h.put (s := 0) hd hb (Tb.nil w)
  have h2 := h1.put (s := 1) hd hb (Tb.nil _)
  have h3 := h2.put (s := 2) hd hb (Tb.nil _)
  exact h3

theorem gone_grow {w wr : World} {b : Nat} (h : Grow w wr) (hb : w.heap.size ≤ b) : Grow w (wr.setCells b 0 (List.replicate 3 (.slice none 0 0))) :=
  ((h.set (k := 0) hb (.slice none 0 0)).set (k := 1) hb (.slice none 0 0)).set (k := 2) hb (.slice none 0 0)

end Go.Proofs.Ytjggiameajndgac
