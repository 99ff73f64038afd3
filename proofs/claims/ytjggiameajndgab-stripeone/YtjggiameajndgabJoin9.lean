import Derived.Test.YtjggiameajndgabJoin8
/-
  What the reference's Worst and Mend return. Nothing old turns.
-/
namespace Go.Proofs.Ytjggiameajndgab
open Go.RowKit

/-- How many cells of stripe s are none. -/
def badN (a : ArrP) (s : Nat) : Nat := (badL (cellsL a s) s).length

/-- Of one of the first k stripes, at most. -/
def worstTo (a : ArrP) : Nat → Nat
  | 0 => 0
  | k + 1 => if worstTo a k < badN a k then badN a k else worstTo a k

def worstN (a : ArrP) : Nat := worstTo a 3

theorem badN_le {a : ArrP} (ha : Whole a) (s : Nat) : badN a s ≤ 4 := by
  have := badTo_length (cellsL a s) s (cellsL a s).length
  rw [cellsL_length, ha.1] at this
  unfold badN badL
  rw [cellsL_length, ha.1]
  exact this

theorem worstTo_le {a : ArrP} (ha : Whole a) : ∀ k, worstTo a k ≤ 4
  | 0 => by simp [worstTo]
  | k + 1 => by
    have := badN_le ha k
    have := worstTo_le ha k
    rw [worstTo]
    split <;> omega

set_option maxRecDepth 20000 in
set_option maxHeartbeats 1600000 in
theorem refWorst_any (v : Value) (a : ArrP) (w : World) (h : ArrV w v a) (ha : Whole a) :
    Calls Try.prog 52 #[v] w fun e w' => e = .returned (.int .i64 (worstN a)) ∧ Grow w w' := by
  have harr := h
  obtain ⟨a1, n1, c1, a2, n2, c2, rfl⟩ := h.form
  clear h
  have hgA : Grow w (w.alloc (.cells #[.slice a1 n1 c1, .slice a2 n2 c2] 39)) := Grow.alloc _ _
  have hwl := fun k => worstTo_le ha k
  have hbl := fun k => badN_le ha k
  go_enter Try.func52, Try.ntmps52
  go_wp2
  obtain ⟨w1, hw1⟩ : ∃ w1, w1 = w.alloc (.cells #[.slice a1 n1 c1, .slice a2 n2 c2] 39) := ⟨_, rfl⟩
  have k0 : w1.cell? ⟨w.heap.size, 0, none⟩ = some (.slice a1 n1 c1) := by rw [hw1]; simp
  have k1 : w1.cell? ⟨w.heap.size, 1, none⟩ = some (.slice a2 n2 c2) := by rw [hw1]; simp
  rw [← hw1] at hgA ⊢
  clear hw1
  go_loopw [3, 6] (fun m i wr => ∃ (k n : Nat), k ≤ 3 ∧ i = .int .i64 k ∧ m = .int .i64 n ∧ n ≤ 4 ∧ Hid (n = worstTo a k) ∧ Grow w1 wr) (fun _ i _ => 3 - (intOf i).toNat)
  case atStart => exact ⟨0, 0, by omega, rfl, rfl, by omega, rfl, Grow.refl _⟩
  case round =>
    obtain ⟨k, n, hk, rfl, rfl, hn4, HN, hgr⟩ := hrel
    by_cases hlt : k < 3
    · have c0 := hgr.at k0
      have c1 := hgr.at k1
      have hgw := hgA.trans hgr
      clear k0 k1
      go_wp2_with fail
      refine (refCells_any _ a k _ (harr.grow hgw) ha hlt).mono ?_
      rintro e w2 ⟨rc, rfl, hrc, hg2⟩
      go_wp2_with fail
      refine (refBad_any _ _ k _ hrc (by rw [cellsL_length, ha.1]; omega)).mono ?_
      rintro e w3 ⟨rb, rfl, hrb, hg3⟩
      obtain ⟨ab, cb, rfl, hb1, hb2⟩ := hrb.form'
      have hlen : (ints (badL (cellsL a k) k)).length = badN a k := by simp [ints, badN]
      rw [hlen] at hb1 ⊢
      have hb4 := hbl k
      have hgr3 := (hgr.trans hg2).trans hg3
      have HS : Hid (worstTo a (k + 1) = if worstTo a k < badN a k then badN a k else worstTo a k) := rfl
      clear hrb hrc hlen hwl hbl
      generalize badN a k = bn at *
      by_cases hlt2 : n < bn
      · have HN' : Hid (bn = worstTo a (k + 1)) := by rw [Hid, HS.out, ← HN.out, if_pos hlt2]
        go_wp2
        go_roundw
        case rel => first | exact ⟨k + 1, bn, by omega, by go_num, rfl, hb4, HN', hgr3⟩ | ((repeat apply Exists.intro); exact ⟨⟨k + 1, bn, by omega, by go_num, rfl, hb4, HN', hgr3⟩, rfl⟩)
        case measure => simp [intOf]; omega
      · have HN' : Hid (n = worstTo a (k + 1)) := by rw [Hid, HS.out, ← HN.out, if_neg hlt2]
        go_wp2
        go_roundw
        case rel => first | exact ⟨k + 1, n, by omega, by go_num, rfl, hn4, HN', hgr3⟩ | ((repeat apply Exists.intro); exact ⟨⟨k + 1, n, by omega, by go_num, rfl, hn4, HN', hgr3⟩, rfl⟩)
        case measure => simp [intOf]; omega
    · obtain rfl : k = 3 := by omega
      go_wp2
      go_ret
      exact ⟨ret_int (by rw [HN.out]; rfl), hgA.trans hgr⟩

theorem ret_arr3 {v : Value} {k2 k3 : IntKind} {a2 b2 a3 b3 : Int} (h2 : a2 = b2) (h3 : a3 = b3) : Ending.returned (.tuple #[v, .int k2 a2, .int k3 a3]) = .returned (.tuple #[v, .int k2 b2, .int k3 b3]) := by rw [h2, h3]

/-- Cells of stripe s, the first k of them. -/
def putTo (a : ArrP) (cs : List (List Int)) (s : Nat) : Nat → ArrP
  | 0 => a
  | k + 1 => withL (putTo a cs s k) k s (cs.getD k [])

def mendE (a : ArrP) (s : Int) : Int := if s < 0 ∨ 2 < s then 3 else dataE (cellsL a s.toNat) s
def mendN (a : ArrP) (s : Int) : Nat := if s < 0 ∨ 2 < s then 0 else badN a s.toNat
def mendL (a : ArrP) (s : Int) : ArrP := if (s < 0 ∨ 2 < s) ∨ dataE (cellsL a s.toNat) s ≠ 0 then a else putTo a (makeL (dataL (cellsL a s.toNat) s) s) s.toNat 4

theorem putTo_whole {a : ArrP} (ha : Whole a) (cs : List (List Int)) (s : Nat) : ∀ k, k ≤ 4 → Whole (putTo a cs s k)
  | 0, _ => ha
  | k + 1, h => withL_whole (putTo_whole ha cs s k (by omega)) (by omega) _

theorem putTo_fours {a : ArrP} (ha : Fours a) (cs : List (List Int)) (s : Nat) : ∀ k, Fours (putTo a cs s k)
  | 0 => ha
  | k + 1 => by
    have := putTo_fours ha cs s k
    exact this

theorem dataL_blocks {ls : List (List Int)} {s : Int} (h : dataE ls s = 0) : ∀ b ∈ dataL ls s, b.length = 4 := by
  unfold dataE at h
  split at h
  · cases h
  rename_i h1
  intro b hb
  rw [dataL, if_neg h1] at hb
  obtain ⟨d, hd, rfl⟩ := List.mem_map.1 hb
  unfold datAt
  split
  · rfl
  · rename_i h2
    exact readX_length (by simpa [isBad] using h2)

theorem makeL_length (ds : List (List Int)) (s : Int) : (makeL ds s).length = ds.length := by simp [makeL]

set_option maxRecDepth 20000 in
set_option maxHeartbeats 6400000 in
theorem refMend_any (v : Value) (a : ArrP) (s : Int) (w : World) (h : ArrV w v a) (ha : Whole a) (hi : Fours a) :
    Calls Try.prog 85 #[v, .int .i64 s] w fun e w' => ∃ r, e = .returned (.tuple #[r, .int .i64 (mendN a s), .int .i64 (mendE a s)]) ∧ ArrV w' r (mendL a s) ∧ Grow w w' := by
  obtain ⟨a1, n1, c1, a2, n2, c2, rfl⟩ := h.form
  obtain ⟨W, hW⟩ : ∃ W, W = (w.alloc (.cells #[.slice a1 n1 c1, .slice a2 n2 c2] 39)).alloc (.cells #[.slice none 0 0, .slice none 0 0] 39) := ⟨_, rfl⟩
  have hgW : Grow w W := by rw [hW]; exact (Grow.alloc _ _).trans (Grow.alloc _ _)
  have hI : BInv w w.heap.size (w.heap.size + 1) (.slice a1 n1 c1) (.slice a2 n2 c2) a W := ⟨by rw [hW]; exact ⟨(heap_alloc_old _ _ (by simp)).trans (heap_alloc_new w _), heap_alloc2_new w _ _⟩, h.grow hgW, hgW⟩
  by_cases hs : s < 0 ∨ 2 < s
  · have HE : Hid ((mendN a s : Int) = 0 ∧ mendE a s = 3 ∧ mendL a s = a) := ⟨by rw [mendN, if_pos hs]; rfl, if_pos hs, if_pos (.inl hs)⟩
    clear hI
    have hgF : Grow w ((w.alloc (.cells #[.slice a1 n1 c1, .slice a2 n2 c2] 39)).alloc (.cells #[.slice a1 n1 c1, .slice a2 n2 c2] 39)) := (Grow.alloc _ _).trans (Grow.alloc _ _)
    have hfin : Hid (_ ∧ _) := ⟨h.grow hgF, hgF⟩
    clear h hgF hgW hW
    have hs' : s < 0 ∨ (0 ≤ s ∧ 2 < s) := by omega
    clear hs
    rcases hs' with hs | ⟨hs0, hs⟩
    all_goals
      go_enter Try.func85, Try.ntmps85
      go_wp2
      refine bodyPost_ret (results_two2 Try.results85 _ _ (w.heap.size + 1) _ rfl Try.underlying39 rfl Try.sizeA (x := .slice a1 n1 c1) (y := .slice a2 n2 c2) (by simp) (by simp)) rfl ?_
      exact ⟨_, ret_arr3 HE.out.1.symm HE.out.2.1.symm, by rw [HE.out.2.2]; exact hfin.out.1, hfin.out.2⟩
  · obtain ⟨s, rfl⟩ := Int.eq_ofNat_of_zero_le (show 0 ≤ s by omega)
    have hs3 : s < 3 := by omega
    have HE : Hid (mendN a (s : Int) = badN a s ∧ mendE a (s : Int) = dataE (cellsL a s) s ∧ (dataE (cellsL a s) s ≠ 0 → mendL a (s : Int) = a) ∧ (dataE (cellsL a s) s = 0 → mendL a (s : Int) = putTo a (makeL (dataL (cellsL a s) s) s) s 4)) :=
      ⟨(if_neg hs).trans (by simp), (if_neg hs).trans (by simp), fun h => if_pos (.inr (by simpa using h)), fun h => (if_neg (by simp only [Int.toNat_natCast]; exact fun h' => h'.elim hs (fun h' => h' h))).trans (by simp)⟩
    have hs' : ¬ 2 < (s : Int) := by omega
    have hb4 := badN_le ha s
    clear hs h
    go_enter Try.func85, Try.ntmps85
    have q0 := two_at0 hI.1.out.1
    have q1 := two_at1 hI.1.out.1
    subst hW
    go_wp2_with fail
    refine (refCells_any _ a s _ hI.2.1.out ha hs3).mono ?_
    rintro e w2 ⟨rc, rfl, hrc, hg2⟩
    go_wp2_with fail
    refine (refBad_any _ _ s _ hrc (by rw [cellsL_length, ha.1]; omega)).mono ?_
    rintro e w3 ⟨rb, rfl, hrb, hg3⟩
    obtain ⟨ab, cb, rfl, hb1, hb2⟩ := hrb.form'
    have hlen : (ints (badL (cellsL a s) s)).length = badN a s := by simp [ints, badN]
    rw [hlen] at hb1 ⊢
    clear hrb hlen
    go_wp2_with fail
    refine (refData_any _ _ s _ (hrc.grow hg3) (by rw [cellsL_length, ha.1]; omega)).mono ?_
    rintro e w4 ⟨rd, rfl, hrd, hg4⟩
    have hg24 := (hg2.trans hg3).trans hg4
    have hI4 : BInv w w.heap.size (w.heap.size + 1) (.slice a1 n1 c1) (.slice a2 n2 c2) a w4 := ⟨⟨hg24.block' hI.1.out.1, hg24.block' hI.1.out.2⟩, hI.2.1.out.grow hg24, hgW.trans hg24⟩
    clear hI hrc hg2 hg3 hg4 hg24 q0 q1 hgW
    have b0 := two_at0 hI4.1.out.1
    have b1 := two_at1 hI4.1.out.1
    have r0 := two_at0 hI4.1.out.2
    have r1 := two_at1 hI4.1.out.2
    have f0 : w4.frozen? ⟨w.heap.size + 1, 0, none⟩ = false := frozen_of_row w4 _ 0 _ _ hI4.1.out.2
    have f1 : w4.frozen? ⟨w.heap.size + 1, 1, none⟩ = false := frozen_of_row w4 _ 1 _ _ hI4.1.out.2
    by_cases hde : dataE (cellsL a s) s = 0
    · have hdb := dataL_blocks hde
      have hdl := dataL_length hde
      rw [cellsL_length, ha.1] at hdl
      have Hf : Hid (mendN a (s : Int) = badN a s ∧ mendE a (s : Int) = 0 ∧ mendL a (s : Int) = putTo a (makeL (dataL (cellsL a s) s) s) s 4) := ⟨HE.out.1, HE.out.2.1.trans hde, HE.out.2.2.2 hde⟩
      have hcl : (makeL (dataL (cellsL a s) s) (s : Int)).length = 4 := by rw [makeL_length, hdl]
      clear HE r0 r1 f0 f1
      generalize dataE (cellsL a s) s = E at *
      subst hde
      generalize badN a s = bn at *
      go_wp2_with fail
      refine (refMake_any _ _ s _ hrd (by omega) (by omega) hdb).mono ?_
      rintro e w5 ⟨rm, rfl, hrm, hg5⟩
      have hcs := hrm.done
      have hI5 : BInv w w.heap.size (w.heap.size + 1) (.slice a1 n1 c1) (.slice a2 n2 c2) a w5 := ⟨⟨hg5.block' hI4.1.out.1, hg5.block' hI4.1.out.2⟩, hI4.2.1.out.grow hg5, hI4.2.2.trans hg5⟩
      clear hrm hrd hI4 hdb hdl b0 b1 hg5
      generalize makeL (dataL (cellsL a s) s) (s : Int) = cs at *
      obtain ⟨am, cm, rfl, hm1, hm2⟩ := hcs.form'
      have HL : Hid (cs.length = 4) := hcl
      rw [hcl] at hcs hm1 ⊢
      clear hcl
      have hw4 := fun k (hk : k ≤ 4) => putTo_whole ha cs s k hk
      have hf4 := fun k => putTo_fours hi cs s k
      go_wp2
      go_loopw [42] (fun q wr => ∃ (k : Nat) (x y : Value), k ≤ 4 ∧ q = .int .i64 k ∧ BInv w w.heap.size (w.heap.size + 1) x y (putTo a cs s k) wr ∧ Hid (Bss wr (.slice am 4 cm) cs)) (fun q _ => 4 - (intOf q).toNat)
      case atStart => exact ⟨0, _, _, by omega, rfl, hI5, hcs⟩
      case round =>
        obtain ⟨k, x, y, hk, rfl, hB, HC⟩ := hrel
        have HB : Hid (BInv w w.heap.size (w.heap.size + 1) x y (putTo a cs s k) wr) := hB
        obtain ⟨⟨h1, h2⟩, HV, hgr⟩ := hB
        obtain ⟨⟨x1, x2, x3, rfl⟩, y1, y2, y3, rfl⟩ := HV.out.form2
        have H1 : Hid (wr.heap[w.heap.size]? = some (.cells #[.slice x1 x2 x3, .slice y1 y2 y3] 39 (0, 0))) := h1
        have b0 := two_at0 h1
        have b1 := two_at1 h1
        have r0 := two_at0 h2
        have r1 := two_at1 h2
        have fA0 : wr.frozen? ⟨w.heap.size, 0, none⟩ = false := frozen_of_row wr _ 0 _ _ h1
        have fA1 : wr.frozen? ⟨w.heap.size, 1, none⟩ = false := frozen_of_row wr _ 1 _ _ h1
        have f0 : wr.frozen? ⟨w.heap.size + 1, 0, none⟩ = false := frozen_of_row wr _ 0 _ _ h2
        have f1 : wr.frozen? ⟨w.heap.size + 1, 1, none⟩ = false := frozen_of_row wr _ 1 _ _ h2
        clear h1 h2
        by_cases hlt : k < 4
        · obtain ⟨bm, om, uk, e1, hck, hbk⟩ := HC.out.elem (k := k) (by have := HL.out; omega) []
          subst e1
          obtain ⟨z1, z2, z3, rfl⟩ := hbk.form
          go_wp2_with fail
          refine (refWith_any _ _ (putTo a cs s k) k s (cs.getD k []) _ HV.out (hw4 k hk) hlt hs3 hbk).mono ?_
          rintro e w6 ⟨r, rfl, hr, hg6⟩
          obtain ⟨p1, p2, p3, q1, q2, q3, rfl⟩ := hr.form
          have HN : Hid (BInv w w.heap.size (w.heap.size + 1) _ _ (putTo a cs s (k + 1)) _) := BInv.put HB.out hg6 hr (hw4 (k + 1) (by omega)) (hf4 (k + 1)) (Nat.le_refl _) (by omega)
          have HC' : Hid (Bss ((w6.setCell ⟨w.heap.size, 0, none⟩ (.slice p1 p2 p3)).setCell ⟨w.heap.size, 1, none⟩ (.slice q1 q2 q3)) (.slice (some ⟨bm, om, none⟩) 4 cm) cs) :=
            BssX.plain (BssX.step (BssX.step (Two.bss (R := w.heap.size) ⟨_, _, _, _, _, _, _, hg6.block' H1.out⟩ (HC.out.grow hg6) (by have := HL.out; omega)) (by_set w6 _ 0 _)) (by_set _ _ 1 _))
          have b06 := hg6.at b0
          have b16 := hg6.at b1
          have f06 := (hg6.frozen (a := ⟨w.heap.size, 0, none⟩) (cell_lt b0)).trans fA0
          have f16 := (hg6.frozen (a := ⟨w.heap.size, 1, none⟩) (cell_lt b0)).trans fA1
          clear HB HV hr hw4 hf4 HC hbk H1
          go_wp2
          go_roundw
          case rel => first | exact ⟨k + 1, _, _, by omega, by go_num, HN.out, HC'⟩ | ((repeat apply Exists.intro); exact ⟨⟨k + 1, _, _, by omega, by go_num, HN.out, HC'⟩, rfl⟩)
          case measure => simp [intOf]; omega
        · obtain rfl : k = 4 := by omega
          obtain ⟨hv, hg, z0, z1⟩ := HB.out.done (hw4 4 (by omega)) (hf4 4) (by omega)
          have hfin : Hid (_ ∧ _) := ⟨hv, hg⟩
          clear hv hg HB HV hw4 hf4 HC H1
          go_wp2
          refine bodyPost_ret (results_two2 Try.results85 _ _ (w.heap.size + 1) _ rfl Try.underlying39 rfl Try.sizeA z0 z1) rfl ?_
          exact ⟨_, ret_arr3 (by rw [Hf.out.1]) Hf.out.2.1.symm, by rw [Hf.out.2.2]; exact hfin.out.1, hfin.out.2⟩
    · obtain ⟨hv, hg, z0, z1⟩ := hI4.done ha hi (by omega)
      have hfin : Hid (mendN a (s : Int) = badN a s ∧ mendE a (s : Int) = dataE (cellsL a s) s ∧ mendL a (s : Int) = a ∧ _ ∧ _) := ⟨HE.out.1, HE.out.2.1, HE.out.2.2.1 hde, hv, hg⟩
      clear hv hg HE hrd hI4
      generalize dataE (cellsL a s) s = E at *
      generalize badN a s = bn at *
      have he' : (E != 0) = true := by simpa using hde
      go_wp2
      refine bodyPost_ret (results_two2 Try.results85 _ _ (w.heap.size + 1) _ rfl Try.underlying39 rfl Try.sizeA z0 z1) rfl ?_
      exact ⟨_, ret_arr3 (by rw [hfin.out.1]) hfin.out.2.1.symm, by rw [hfin.out.2.2.1]; exact hfin.out.2.2.2.1, hfin.out.2.2.2.2⟩

end Go.Proofs.Ytjggiameajndgab

/-
  What the reference's Do returns. Nothing old turns.
-/
namespace Go.Proofs.Ytjggiameajndgab
open Go.RowKit

theorem do_take_succ (ls : List (List Int)) (x : DeedP) (k : Nat) : (List.range k).map (doAt ls x) ++ [doAt ls x k] = (List.range (k + 1)).map (doAt ls x) := by simp [List.range_succ]

theorem doAt_data {ls : List (List Int)} {x : DeedP} {i : Nat} (h : x.k = 1) (hi : (i : Int) = x.n) : doAt ls x i = x.d := by rw [doAt, if_pos ⟨h, hi⟩]
theorem doAt_old {ls : List (List Int)} {x : DeedP} {i : Nat} (h : x.k = 1) (hi : (i : Int) ≠ x.n) : doAt ls x i = ls.getD i [] := by rw [doAt, if_neg (fun h => hi h.2), if_neg (by omega), if_neg (by omega)]
theorem doAt_n {ls : List (List Int)} {x : DeedP} {i : Nat} (h : x.k = 2) (hi : (i : Int) = x.n) : doAt ls x i = ls.getD x.m.toNat [] := by rw [doAt, if_neg (by omega), if_pos ⟨h, hi⟩]
theorem doAt_m {ls : List (List Int)} {x : DeedP} {i : Nat} (h : x.k = 2) (hi : (i : Int) ≠ x.n) (hj : (i : Int) = x.m) : doAt ls x i = ls.getD x.n.toNat [] := by rw [doAt, if_neg (by omega), if_neg (by omega), if_pos ⟨h, hj⟩]
theorem doAt_out {ls : List (List Int)} {x : DeedP} {i : Nat} (h : x.k = 2) (hi : (i : Int) ≠ x.n) (hj : (i : Int) ≠ x.m) : doAt ls x i = ls.getD i [] := by rw [doAt, if_neg (by omega), if_neg (by omega), if_neg (by omega)]

theorem whereE_zero {m : Int} (h : whereE m = 0) : 0 ≤ m ∧ m < 9 := by
  unfold whereE at h
  split at h
  · assumption
  · cases h

set_option maxRecDepth 20000 in
set_option maxHeartbeats 3200000 in
theorem refDo_write (v dv : Value) (ls : List (List Int)) (x : DeedP) (w : World) (h : Bss w v ls) (hd : DeedV w dv x) (hl : ls.length = 9) (hk1 : x.k = 1) :
    Calls Try.prog 50 #[v, dv] w fun e w' => ∃ r, e = .returned r ∧ Bss w' r (doL ls x) ∧ Grow w w' := by
  obtain ⟨i0, hi, hz0, hz1, hz2⟩ := info_parts Try.infoS
  obtain ⟨sv, rfl, hbd⟩ := hd
  obtain ⟨ad, nd, cd, rfl⟩ := hbd.form
  have hd1 := fun i => doAt_data (ls := ls) (x := x) (i := i) hk1
  have hd2 := fun i => doAt_old (ls := ls) (x := x) (i := i) hk1
  have HDL : Hid (doL ls x = (List.range 9).map (doAt ls x)) := by rw [Hid, doL, hl]
  have HT : Hid (∀ k, (List.range k).map (doAt ls x) ++ [doAt ls x k] = (List.range (k + 1)).map (doAt ls x)) := do_take_succ ls x
  generalize doL ls x = dl at *
  generalize doAt ls x = da at *
  obtain ⟨k, n, m, d⟩ := x
  dsimp only at *
  subst hk1
  obtain ⟨ao, cap, rfl, h1, h2, h3, h4⟩ := h
  obtain ⟨b, off, rfl, hc⟩ := h4 (by omega)
  have Hc : Hid (∀ k, k < 9 → ∃ ak n ck, w.cell? ⟨b, off + k, none⟩ = some (.slice ak n ck) ∧ Bs w (.slice ak n ck) (ls.getD k [])) := fun k hk => by
    obtain ⟨ak, ck, e1, e2⟩ := Sl.bytesAt hc (k := k) (by omega)
    exact ⟨_, _, _, e1, e2⟩
  have Hd : Hid ((∀ i : Nat, (i : Int) = n → da i = d) ∧ (∀ i : Nat, (i : Int) ≠ n → da i = ls.getD i [])) := ⟨hd1, hd2⟩
  unfold maxLen at h2
  rw [hl] at h1 ⊢
  clear hc h4 h3 hl hd1 hd2
  have hgA : Grow w (w.alloc (.cells #[.int .i64 1, .int .i64 n, .int .i64 m, .slice ad nd cd] 25)) := Grow.alloc _ _
  go_enter Try.func50, Try.ntmps50
  go_wp2
  obtain ⟨w1, hw1⟩ : ∃ w1, w1 = w.alloc (.cells #[.int .i64 1, .int .i64 n, .int .i64 m, .slice ad nd cd] 25) := ⟨_, rfl⟩
  have hc0 : w1.cell? ⟨w.heap.size, 0, none⟩ = some (.int .i64 1) := by rw [hw1]; simp
  have hc1 : w1.cell? ⟨w.heap.size, 1, none⟩ = some (.int .i64 n) := by rw [hw1]; simp
  have hc3 : w1.cell? ⟨w.heap.size, 3, none⟩ = some (.slice ad nd cd) := by rw [hw1]; simp
  rw [← hw1] at hgA ⊢
  clear hw1
  go_loopw [5, 10] (fun r i wr => ∃ k : Nat, k ≤ 9 ∧ i = .int .i64 k ∧ Hid (Rowing Bs w1.heap.size 23 wr r ((List.range k).map da)) ∧ Grow w1 wr) (fun _ i _ => 9 - (intOf i).toNat)
  case atStart => exact ⟨0, by omega, rfl, Rowing.nil _ _ _ _, Grow.refl _⟩
  case round =>
    obtain ⟨k, hk, rfl, HR, hgr⟩ := hrel
    by_cases hlt : k < 9
    · have c0 := hgr.at hc0
      have c1 := hgr.at hc1
      have c3 := hgr.at hc3
      obtain ⟨ak, nk, ck, hck, hbk⟩ := Hc.out k hlt
      have hck' := (hgA.trans hgr).at hck
      clear hc0 hc1 hc3 hck
      by_cases hkn : (k : Int) = n
      · have HD : Hid (da k = d) := Hd.out.1 k hkn
        have hoff : Off Bs u5.ownBlock wr (.slice ad nd cd) (da k) := by rw [HD.out]; exact Off.old Bs.stays (hbd.grow hgA) hgr (fun j hj => (HR.out.base j hj).1)
        have hT := HT.out k
        subst hkn
        go_wp2_with (first
          | (at_builtin; refine wpList_push rfl (.tmp 57) (.tmp 59) 22 rfl i0 (.slice none 0 0) 24 Try.underlying22 hi hz0 hz1 hz2 rfl w1 hgr rfl rfl HR.out rfl hoff wr.heap.size rfl rfl (by simp; omega) (by simp; omega) ?_; rintro v1 w2 - hrow1 hg2))
        rw [hT] at hrow1
        go_wp2
        go_roundw
        case rel => first | exact ⟨k + 1, by omega, by go_num, hrow1, hg2⟩ | ((repeat apply Exists.intro); exact ⟨⟨k + 1, by omega, by go_num, hrow1, hg2⟩, rfl⟩)
        case measure => simp [intOf]; omega
      · have HD : Hid (da k = ls.getD k []) := Hd.out.2 k hkn
        have hoff : Off Bs u5.ownBlock wr (.slice ak nk ck) (da k) := by rw [HD.out]; exact Off.old Bs.stays (hbk.grow hgA) hgr (fun j hj => (HR.out.base j hj).1)
        have hT := HT.out k
        go_wp2_with (first
          | (at_builtin; refine wpList_push rfl (.tmp 57) (.tmp 59) 22 rfl i0 (.slice none 0 0) 24 Try.underlying22 hi hz0 hz1 hz2 rfl w1 hgr rfl rfl HR.out rfl hoff wr.heap.size rfl rfl (by simp; omega) (by simp; omega) ?_; rintro v1 w2 - hrow1 hg2))
        rw [hT] at hrow1
        go_wp2
        go_roundw
        case rel => first | exact ⟨k + 1, by omega, by go_num, hrow1, hg2⟩ | ((repeat apply Exists.intro); exact ⟨⟨k + 1, by omega, by go_num, hrow1, hg2⟩, rfl⟩)
        case measure => simp [intOf]; omega
    · obtain rfl : k = 9 := by omega
      go_wp2
      go_ret
      exact ⟨_, rfl, by rw [HDL.out]; exact HR.out.done, hgA.trans hgr⟩

set_option maxRecDepth 20000 in
set_option maxHeartbeats 3200000 in
theorem refDo_swap (v dv : Value) (ls : List (List Int)) (x : DeedP) (w : World) (h : Bss w v ls) (hd : DeedV w dv x) (hl : ls.length = 9) (hk1 : x.k = 2) (hn : 0 ≤ x.n ∧ x.n < 9) (hm : 0 ≤ x.m ∧ x.m < 9) :
    Calls Try.prog 50 #[v, dv] w fun e w' => ∃ r, e = .returned r ∧ Bss w' r (doL ls x) ∧ Grow w w' := by
  obtain ⟨i0, hi, hz0, hz1, hz2⟩ := info_parts Try.infoS
  obtain ⟨sv, rfl, hbd⟩ := hd
  obtain ⟨ad, nd, cd, rfl⟩ := hbd.form
  have hd1 := fun i => doAt_n (ls := ls) (x := x) (i := i) hk1
  have hd2 := fun i => doAt_m (ls := ls) (x := x) (i := i) hk1
  have hd3 := fun i => doAt_out (ls := ls) (x := x) (i := i) hk1
  have HDL : Hid (doL ls x = (List.range 9).map (doAt ls x)) := by rw [Hid, doL, hl]
  have HT : Hid (∀ k, (List.range k).map (doAt ls x) ++ [doAt ls x k] = (List.range (k + 1)).map (doAt ls x)) := do_take_succ ls x
  generalize doL ls x = dl at *
  generalize doAt ls x = da at *
  obtain ⟨k, n, m, d⟩ := x
  dsimp only at *
  subst hk1
  obtain ⟨n, rfl⟩ := Int.eq_ofNat_of_zero_le hn.1
  obtain ⟨m, rfl⟩ := Int.eq_ofNat_of_zero_le hm.1
  have hn9 : n < 9 := by omega
  have hm9 : m < 9 := by omega
  clear hn hm
  simp only [Int.toNat_natCast] at hd1 hd2 hd3
  obtain ⟨ao, cap, rfl, h1, h2, h3, h4⟩ := h
  obtain ⟨b, off, rfl, hc⟩ := h4 (by omega)
  have Hc : Hid (∀ k, k < 9 → ∃ ak n ck, w.cell? ⟨b, off + k, none⟩ = some (.slice ak n ck) ∧ Bs w (.slice ak n ck) (ls.getD k [])) := fun k hk => by
    obtain ⟨ak, ck, e1, e2⟩ := Sl.bytesAt hc (k := k) (by omega)
    exact ⟨_, _, _, e1, e2⟩
  have Hd : Hid ((∀ i : Nat, i = n → da i = ls.getD m []) ∧ (∀ i : Nat, i ≠ n → i = m → da i = ls.getD n []) ∧ (∀ i : Nat, i ≠ n → i ≠ m → da i = ls.getD i [])) := ⟨fun i h => hd1 i (by omega), fun i h h' => hd2 i (by omega) (by omega), fun i h h' => hd3 i (by omega) (by omega)⟩
  unfold maxLen at h2
  rw [hl] at h1 ⊢
  clear hc h4 h3 hl hd1 hd2 hd3
  have hgA : Grow w (w.alloc (.cells #[.int .i64 2, .int .i64 n, .int .i64 m, .slice ad nd cd] 25)) := Grow.alloc _ _
  go_enter Try.func50, Try.ntmps50
  go_wp2
  obtain ⟨w1, hw1⟩ : ∃ w1, w1 = w.alloc (.cells #[.int .i64 2, .int .i64 n, .int .i64 m, .slice ad nd cd] 25) := ⟨_, rfl⟩
  have hc0 : w1.cell? ⟨w.heap.size, 0, none⟩ = some (.int .i64 2) := by rw [hw1]; simp
  have hc1 : w1.cell? ⟨w.heap.size, 1, none⟩ = some (.int .i64 n) := by rw [hw1]; simp
  have hc2 : w1.cell? ⟨w.heap.size, 2, none⟩ = some (.int .i64 m) := by rw [hw1]; simp
  rw [← hw1] at hgA ⊢
  clear hw1
  go_loopw [5, 10] (fun r i wr => ∃ k : Nat, k ≤ 9 ∧ i = .int .i64 k ∧ Hid (Rowing Bs w1.heap.size 23 wr r ((List.range k).map da)) ∧ Grow w1 wr) (fun _ i _ => 9 - (intOf i).toNat)
  case atStart => exact ⟨0, by omega, rfl, Rowing.nil _ _ _ _, Grow.refl _⟩
  case round =>
    obtain ⟨k, hk, rfl, HR, hgr⟩ := hrel
    by_cases hlt : k < 9
    · have c0 := hgr.at hc0
      have c1 := hgr.at hc1
      have c2 := hgr.at hc2
      obtain ⟨ak, nk, ck, hck, hbk⟩ := Hc.out k hlt
      obtain ⟨an, nn, cn, hcn, hbn⟩ := Hc.out n hn9
      obtain ⟨am, nm, cm, hcm, hbm⟩ := Hc.out m hm9
      have hck' := (hgA.trans hgr).at hck
      have hcn' := (hgA.trans hgr).at hcn
      have hcm' := (hgA.trans hgr).at hcm
      clear hc0 hc1 hc2 hck hcn hcm
      by_cases hkn : k = n
      · have HD : Hid (da k = ls.getD m []) := Hd.out.1 k hkn
        have hoff : Off Bs u5.ownBlock wr (.slice am nm cm) (da k) := by rw [HD.out]; exact Off.old Bs.stays (hbm.grow hgA) hgr (fun j hj => (HR.out.base j hj).1)
        have hT := HT.out k
        subst hkn
        go_wp2_with (first
          | (at_builtin; refine wpList_push rfl (.tmp 57) (.tmp 59) 22 rfl i0 (.slice none 0 0) 24 Try.underlying22 hi hz0 hz1 hz2 rfl w1 hgr rfl rfl HR.out rfl hoff wr.heap.size rfl rfl (by simp; omega) (by simp; omega) ?_; rintro v1 w2 - hrow1 hg2))
        rw [hT] at hrow1
        go_wp2
        go_roundw
        case rel => first | exact ⟨k + 1, by omega, by go_num, hrow1, hg2⟩ | ((repeat apply Exists.intro); exact ⟨⟨k + 1, by omega, by go_num, hrow1, hg2⟩, rfl⟩)
        case measure => simp [intOf]; omega
      · have hkn' : ¬ (k : Int) = n := by omega
        by_cases hkm : k = m
        · have HD : Hid (da k = ls.getD n []) := Hd.out.2.1 k hkn hkm
          have hoff : Off Bs u5.ownBlock wr (.slice an nn cn) (da k) := by rw [HD.out]; exact Off.old Bs.stays (hbn.grow hgA) hgr (fun j hj => (HR.out.base j hj).1)
          have hT := HT.out k
          subst hkm
          go_wp2_with (first
            | (at_builtin; refine wpList_push rfl (.tmp 57) (.tmp 59) 22 rfl i0 (.slice none 0 0) 24 Try.underlying22 hi hz0 hz1 hz2 rfl w1 hgr rfl rfl HR.out rfl hoff wr.heap.size rfl rfl (by simp; omega) (by simp; omega) ?_; rintro v1 w2 - hrow1 hg2))
          rw [hT] at hrow1
          go_wp2
          go_roundw
          case rel => first | exact ⟨k + 1, by omega, by go_num, hrow1, hg2⟩ | ((repeat apply Exists.intro); exact ⟨⟨k + 1, by omega, by go_num, hrow1, hg2⟩, rfl⟩)
          case measure => simp [intOf]; omega
        · have hkm' : ¬ (k : Int) = m := by omega
          have HD : Hid (da k = ls.getD k []) := Hd.out.2.2 k hkn hkm
          have hoff : Off Bs u5.ownBlock wr (.slice ak nk ck) (da k) := by rw [HD.out]; exact Off.old Bs.stays (hbk.grow hgA) hgr (fun j hj => (HR.out.base j hj).1)
          have hT := HT.out k
          go_wp2_with (first
            | (at_builtin; refine wpList_push rfl (.tmp 57) (.tmp 59) 22 rfl i0 (.slice none 0 0) 24 Try.underlying22 hi hz0 hz1 hz2 rfl w1 hgr rfl rfl HR.out rfl hoff wr.heap.size rfl rfl (by simp; omega) (by simp; omega) ?_; rintro v1 w2 - hrow1 hg2))
          rw [hT] at hrow1
          go_wp2
          go_roundw
          case rel => first | exact ⟨k + 1, by omega, by go_num, hrow1, hg2⟩ | ((repeat apply Exists.intro); exact ⟨⟨k + 1, by omega, by go_num, hrow1, hg2⟩, rfl⟩)
          case measure => simp [intOf]; omega
    · obtain rfl : k = 9 := by omega
      go_wp2
      go_ret
      exact ⟨_, rfl, by rw [HDL.out]; exact HR.out.done, hgA.trans hgr⟩

theorem refDo_any (v dv : Value) (ls : List (List Int)) (x : DeedP) (w : World) (h : Bss w v ls) (hd : DeedV w dv x) (hl : ls.length = 9) (hr : wrongE x = 0) :
    Calls Try.prog 50 #[v, dv] w fun e w' => ∃ r, e = .returned r ∧ Bss w' r (doL ls x) ∧ Grow w w' := by
  obtain ⟨hk, hn0, hn8, -, h2⟩ := right_deed hr
  rcases hk with hk | hk
  · exact refDo_write v dv ls x w h hd hl hk
  · exact refDo_swap v dv ls x w h hd hl hk (by omega) (whereE_zero (h2 hk).1)

end Go.Proofs.Ytjggiameajndgab

/-
  Plain: what a deed's intent is: a stripe's data spread over blocks, the deed done, gathered again, and the xor of it.
-/
namespace Go.Proofs.Ytjggiameajndgab

/-- Blocks of which the first k that are of stripe s are what that has. -/
def spreadTo (ds : List (List Int)) (s : Nat) (k : Nat) : List (List Int) := (List.range 9).map fun n => if n < k ∧ sOf (n : Nat) = s then ds.getD (dOf (n : Nat)) [] else nought

theorem spreadTo_length (ds : List (List Int)) (s k : Nat) : (spreadTo ds s k).length = 9 := by simp [spreadTo]
theorem spreadTo_zero (ds : List (List Int)) (s : Nat) : spreadTo ds s 0 = List.replicate 9 nought := by simp [spreadTo]; rfl

theorem spreadTo_in {ds : List (List Int)} {s k : Nat} (h : sOf (k : Nat) = s) : (spreadTo ds s k).set k (ds.getD (dOf (k : Nat)) []) = spreadTo ds s (k + 1) := by
  refine List.ext_getElem (by simp [spreadTo]) fun i h1 h2 => ?_
  rw [List.getElem_set]
  simp only [spreadTo, List.getElem_map, List.getElem_range]
  split
  · rename_i e; subst e; rw [if_pos ⟨by omega, h⟩]
  · by_cases hi : i < k ∧ sOf (i : Nat) = s
    · rw [if_pos hi, if_pos ⟨by omega, hi.2⟩]
    · rw [if_neg hi, if_neg (fun hc => hi ⟨by omega, hc.2⟩)]

theorem spreadTo_out {ds : List (List Int)} {s k : Nat} (h : sOf (k : Nat) ≠ s) : spreadTo ds s k = spreadTo ds s (k + 1) := by
  refine List.map_congr_left fun i _ => ?_
  by_cases hi : i < k ∧ sOf (i : Nat) = s
  · rw [if_pos hi, if_pos ⟨by omega, hi.2⟩]
  · rw [if_neg hi, if_neg (fun hc => hi ⟨by
      by_cases e : i = k
      · subst e; exact absurd hc.2 h
      · omega, hc.2⟩)]

/-- Of the first k blocks those of stripe s, by disks. -/
def outTo (bl : List (List Int)) (s : Nat) : Nat → List (List Int)
  | 0 => List.replicate 4 []
  | k + 1 => if sOf (k : Nat) = s then (outTo bl s k).set (dOf (k : Nat)) (bl.getD k []) else outTo bl s k

/-- The same, in a row. -/
def rowTo (bl : List (List Int)) (s : Nat) : Nat → List (List Int)
  | 0 => []
  | k + 1 => if sOf (k : Nat) = s then rowTo bl s k ++ [bl.getD k []] else rowTo bl s k

theorem outTo_length (bl : List (List Int)) (s : Nat) : ∀ k, (outTo bl s k).length = 4
  | 0 => rfl
  | k + 1 => by
    rw [outTo]
    split
    · rw [List.length_set]; exact outTo_length bl s k
    · exact outTo_length bl s k

theorem rowTo_length (bl : List (List Int)) (s : Nat) : ∀ k, (rowTo bl s k).length ≤ k
  | 0 => Nat.le_refl _
  | k + 1 => by
    have := rowTo_length bl s k
    rw [rowTo]
    split
    · simp; omega
    · omega

theorem outTo_in {bl : List (List Int)} {s k : Nat} (h : sOf (k : Nat) = s) : (outTo bl s k).set (dOf (k : Nat)) (bl.getD k []) = outTo bl s (k + 1) := by rw [outTo, if_pos h]
theorem outTo_out {bl : List (List Int)} {s k : Nat} (h : sOf (k : Nat) ≠ s) : outTo bl s k = outTo bl s (k + 1) := by rw [outTo, if_neg h]
theorem rowTo_in {bl : List (List Int)} {s k : Nat} (h : sOf (k : Nat) = s) : rowTo bl s k ++ [bl.getD k []] = rowTo bl s (k + 1) := by rw [rowTo, if_pos h]
theorem rowTo_out {bl : List (List Int)} {s k : Nat} (h : sOf (k : Nat) ≠ s) : rowTo bl s k = rowTo bl s (k + 1) := by rw [rowTo, if_neg h]

/-- What the disks of stripe s are to have. -/
def planOut (bl : List (List Int)) (s : Nat) : List (List Int) := (outTo bl s 9).set (3 - s) (xorAll (rowTo bl s 9))

/-- Blocks behind a deed, of stripe s those that it has. -/
def planBl (a : ArrP) (x : DeedP) : List (List Int) := doL (spreadTo (dataL (cellsL a (sOf x.n)) (sOf x.n)) (sOf x.n) 9) x

def planE (a : ArrP) (x : DeedP) : Int := if wrongE x ≠ 0 then wrongE x else dataE (cellsL a (sOf x.n)) (sOf x.n)
def planI (a : ArrP) (x : DeedP) : Int × List (List Int) := if planE a x ≠ 0 then (0, []) else ((sOf x.n : Int), makeL (planOut (planBl a x) (sOf x.n)) (sOf x.n))

theorem rowTo_blocks {bl : List (List Int)} (h4 : ∀ b ∈ bl, b.length = 4) (hl : bl.length = 9) (s : Nat) : ∀ k, k ≤ 9 → ∀ b ∈ rowTo bl s k, b.length = 4
  | 0, _ => by simp [rowTo]
  | k + 1, hk => by
    rw [rowTo]
    split
    · intro b hb
      rcases List.mem_append.1 hb with hb | hb
      · exact rowTo_blocks h4 hl s k (by omega) b hb
      · simp only [List.mem_singleton] at hb
        rw [hb]
        exact h4 _ (getD_mem (by omega))
    · exact rowTo_blocks h4 hl s k (by omega)

/-- What the disks are to have, written out. -/
theorem planOut_eq (bl : List (List Int)) (s : Nat) (hs : s < 3) : planOut bl s =
    if s = 0 then [bl.getD 0 [], bl.getD 1 [], bl.getD 2 [], xorAll [bl.getD 0 [], bl.getD 1 [], bl.getD 2 []]]
    else if s = 1 then [bl.getD 3 [], bl.getD 4 [], xorAll [bl.getD 3 [], bl.getD 4 [], bl.getD 5 []], bl.getD 5 []]
    else [bl.getD 6 [], xorAll [bl.getD 6 [], bl.getD 7 [], bl.getD 8 []], bl.getD 7 [], bl.getD 8 []] := by
  have h := fun n : Nat => show n < 9 → sOf (n : Nat) = n / 3 from fun hn => by
    simp only [sOf, whereS]
    rw [if_pos (by omega)]
    omega
  have h0 := h 0 (by omega)
  have h1 := h 1 (by omega)
  have h2 := h 2 (by omega)
  have h3 := h 3 (by omega)
  have h4 := h 4 (by omega)
  have h5 := h 5 (by omega)
  have h6 := h 6 (by omega)
  have h7 := h 7 (by omega)
  have h8 := h 8 (by omega)
  obtain rfl | rfl | rfl : s = 0 ∨ s = 1 ∨ s = 2 := by omega
  all_goals
    simp only [planOut, outTo, rowTo, h0, h1, h2, h3, h4, h5, h6, h7, h8]
    rfl

theorem planOut_length (bl : List (List Int)) (s : Nat) : (planOut bl s).length = 4 := by rw [planOut, List.length_set, outTo_length]

theorem planOut_blocks {bl : List (List Int)} (h4 : ∀ b ∈ bl, b.length = 4) (hl : bl.length = 9) {s : Nat} (hs : s < 3) : ∀ b ∈ planOut bl s, b.length = 4 := by
  have hg : ∀ k, k < 9 → (bl.getD k []).length = 4 := fun k hk => h4 _ (getD_mem (by omega))
  have hx : ∀ l, (xorAll l).length = 4 := fun l => by simp [xorAll]
  rw [planOut_eq bl s hs]
  intro b hb
  split at hb
  · simp only [List.mem_cons, List.not_mem_nil, or_false] at hb
    rcases hb with rfl | rfl | rfl | rfl
    · exact hg 0 (by omega)
    · exact hg 1 (by omega)
    · exact hg 2 (by omega)
    · exact hx _
  split at hb
  · simp only [List.mem_cons, List.not_mem_nil, or_false] at hb
    rcases hb with rfl | rfl | rfl | rfl
    · exact hg 3 (by omega)
    · exact hg 4 (by omega)
    · exact hx _
    · exact hg 5 (by omega)
  · simp only [List.mem_cons, List.not_mem_nil, or_false] at hb
    rcases hb with rfl | rfl | rfl | rfl
    · exact hg 6 (by omega)
    · exact hx _
    · exact hg 7 (by omega)
    · exact hg 8 (by omega)

theorem spread_blocks {ds : List (List Int)} (hd : ∀ b ∈ ds, b.length = 4) (hl : ds.length = 4) (s k : Nat) : ∀ b ∈ spreadTo ds s k, b.length = 4 := by
  intro b hb
  simp only [spreadTo, List.mem_map, List.mem_range] at hb
  obtain ⟨n, hn, rfl⟩ := hb
  split
  · have := (where_bd (n := (n : Int)) (by omega)).2.2.2.1
    exact hd _ (getD_mem (by omega))
  · rfl

theorem doL_blocks {ls : List (List Int)} {x : DeedP} (h4 : ∀ b ∈ ls, b.length = 4) (hl : ls.length = 9) (hr : wrongE x = 0) : ∀ b ∈ doL ls x, b.length = 4 := by
  obtain ⟨hk, hn0, hn8, h1, h2⟩ := right_deed hr
  intro b hb
  simp only [doL, List.mem_map, List.mem_range] at hb
  obtain ⟨i, hi, rfl⟩ := hb
  unfold doAt
  split
  · rename_i h; exact (h1 h.1).2
  split
  · rename_i h
    have := whereE_zero (h2 h.1).1
    exact h4 _ (getD_mem (by omega))
  split
  · exact h4 _ (getD_mem (by omega))
  · exact h4 _ (getD_mem (by omega))

end Go.Proofs.Ytjggiameajndgab

/-
  What the reference's Mount returns, of an array with no intent, or one. Nothing old turns.
-/
namespace Go.Proofs.Ytjggiameajndgab
open Go.RowKit

set_option maxRecDepth 20000 in
set_option maxHeartbeats 3200000 in
theorem refMount_none (v : Value) (a : ArrP) (w : World) (h : ArrV w v a) (hi : a.is = []) :
    Calls Try.prog 46 #[v] w fun e w' => ∃ r, e = .returned r ∧ ArrV w' r a ∧ Grow w w' := by
  obtain ⟨dv, iv, e, hd, hit⟩ := id h
  obtain ⟨a1, n1, c1, a2, n2, c2, rfl⟩ := h.form
  simp only [Value.agg.injEq] at e
  have e := congrArg Array.toList e
  simp at e
  obtain ⟨rfl, rfl⟩ := e
  have hn : n2 = 0 := by
    obtain ⟨q1, q2, q3, -⟩ := hit.form
    injection q3 with _ q4 _
    rw [q4, hi]
    rfl
  subst hn
  have hgF : Grow w ((w.alloc (.cells #[.slice a1 n1 c1, .slice a2 0 c2] 39)).alloc (.cells #[.slice a1 n1 c1, .slice a2 0 c2] 39)) := (Grow.alloc _ _).trans (Grow.alloc _ _)
  have hfin : Hid (_ ∧ _) := ⟨h.grow hgF, hgF⟩
  clear hd hit h hgF
  go_enter Try.func46, Try.ntmps46
  go_wp2
  go_loop [8] (fun i => i = .int .i64 0) (fun _ => 0)
  case atStart => rfl
  case round =>
    subst hrel
    go_wp2
    refine bodyPost_ret (results_two Try.results46 _ _ (w.heap.size + 1) _ rfl Try.underlying39 rfl Try.sizeA (x := .slice a1 n1 c1) (y := .slice a2 0 c2) (by simp) (by simp)) rfl ?_
    exact ⟨_, rfl, hfin.out.1, hfin.out.2⟩

theorem writeTo_six (a : ArrP) (i : Int × List (List Int)) : writeL a i 6 = writeTo a i 6 := rfl

set_option maxRecDepth 20000 in
set_option maxHeartbeats 6400000 in
theorem refMount_one (v : Value) (a : ArrP) (s : Nat) (cs : List (List Int)) (w : World) (h : ArrV w v a) (ha : Whole a) (hi : a.is = [((s : Int), cs)]) (hs3 : s < 3) (hc4 : cs.length = 4) :
    Calls Try.prog 46 #[v] w fun e w' => ∃ r, e = .returned r ∧ ArrV w' r (writeTo a ((s : Int), cs) 6) ∧ Grow w w' := by
  have hf : Fours a := fun p hp => by rw [hi] at hp; simp at hp; rw [hp]; exact hc4
  obtain ⟨dv, iv, e, hd, hit⟩ := id h
  obtain ⟨a1, n1, c1, a2, n2, c2, rfl⟩ := h.form
  simp only [Value.agg.injEq] at e
  have e := congrArg Array.toList e
  simp at e
  obtain ⟨rfl, rfl⟩ := e
  rw [hi] at hit
  obtain ⟨ao, cap, e1, k1, k2, k3, k4⟩ := hit
  injection e1 with e2 e3 e4
  subst e2 e3 e4
  obtain ⟨bi, oi, rfl, hci⟩ := k4 (by simp)
  obtain ⟨hci0, cv, hci1, hcv⟩ := hci 0 _ rfl
  simp only [Nat.zero_mul, Nat.add_zero] at hci0 hci1
  obtain ⟨vc, cc, rfl⟩ := hcv.form
  have HCL : Hid (cs.length = 4) := hc4
  obtain ⟨W, hW⟩ : ∃ W, W = (w.alloc (.cells #[.slice a1 n1 c1, .slice (some ⟨bi, oi, none⟩) 1 c2] 39)).alloc (.cells #[.slice none 0 0, .slice none 0 0] 39) := ⟨_, rfl⟩
  have hgW : Grow w W := by rw [hW]; exact (Grow.alloc _ _).trans (Grow.alloc _ _)
  have hI : BInv w w.heap.size (w.heap.size + 1) (.slice a1 n1 c1) (.slice (some ⟨bi, oi, none⟩) 1 c2) a W := ⟨by rw [hW]; exact ⟨(heap_alloc_old _ _ (by simp)).trans (heap_alloc_new w _), heap_alloc2_new w _ _⟩, h.grow hgW, hgW⟩
  have hw6 := writeTo_whole ha ((s : Int), cs) 6
  have hf6 : Fours (writeTo a ((s : Int), cs) 6) := writeTo_is hf hc4 6
  clear h hd k4 hci k3 hc4
  simp only [List.length_cons, List.length_nil, Nat.zero_add] at k1 ⊢
  go_enter Try.func46, Try.ntmps46
  go_wp2
  rw [← hW]
  clear hW
  go_loopw [8] (fun q wr => ∃ (k : Nat) (x y : Value), k ≤ 1 ∧ q = .int .i64 k ∧ BInv w w.heap.size (w.heap.size + 1) x y (if k = 0 then a else writeTo a ((s : Int), cs) 6) wr) (fun q _ => 1 - (intOf q).toNat)
  case atStart => exact ⟨0, _, _, by omega, rfl, hI⟩
  case round =>
    obtain ⟨k, x, y, hk, rfl, hB⟩ := hrel
    have HB : Hid (BInv w w.heap.size (w.heap.size + 1) x y (if k = 0 then a else writeTo a ((s : Int), cs) 6) wr) := hB
    obtain ⟨⟨h1, h2⟩, HV, hgr⟩ := hB
    obtain ⟨⟨x1, x2, x3, rfl⟩, y1, y2, y3, rfl⟩ := HV.out.form2
    have b0 := two_at0 h1
    have b1 := two_at1 h1
    have r0 := two_at0 h2
    have r1 := two_at1 h2
    have fA0 : wr.frozen? ⟨w.heap.size, 0, none⟩ = false := frozen_of_row wr _ 0 _ _ h1
    have fA1 : wr.frozen? ⟨w.heap.size, 1, none⟩ = false := frozen_of_row wr _ 1 _ _ h1
    have f0 : wr.frozen? ⟨w.heap.size + 1, 0, none⟩ = false := frozen_of_row wr _ 0 _ _ h2
    have f1 : wr.frozen? ⟨w.heap.size + 1, 1, none⟩ = false := frozen_of_row wr _ 1 _ _ h2
    clear h1 h2
    obtain rfl | rfl : k = 0 ∨ k = 1 := by omega
    · rw [if_pos rfl] at HV HB
      have g0 := hgr.at hci0
      have g1 := hgr.at hci1
      have gE := Grow.alloc wr (.cells #[.int .i64 s, .slice vc cs.length cc] 62)
      have b0' := gE.at b0
      have b1' := gE.at b1
      have hgE := hgr.trans gE
      have HcE : Hid (Bss (wr.alloc (.cells #[.int .i64 s, .slice vc cs.length cc] 62)) (.slice vc cs.length cc) cs) := hcv.grow hgE
      have HvE : Hid (ArrV (wr.alloc (.cells #[.int .i64 s, .slice vc cs.length cc] 62)) (.agg #[.slice x1 x2 x3, .slice y1 y2 y3]) a) := HV.out.grow gE
      clear hcv hci0 hci1
      generalize hLn : cs.length = Ln at *
      go_wp2_with fail
      refine (refWrite_any _ _ a s cs 6 _ HvE.out ha ⟨_, rfl, HcE.out⟩ hs3 (by rw [hLn]; exact HCL.out) hf).mono ?_
      rintro e w5 ⟨r, rfl, hr, hg5⟩
      rw [writeTo_six] at hr
      obtain ⟨p1, p2, p3, q1, q2, q3, rfl⟩ := hr.form
      have hg15 := gE.trans hg5
      have HN : Hid (BInv w w.heap.size (w.heap.size + 1) _ _ (if 1 = 0 then a else writeTo a ((s : Int), cs) 6) _) := BInv.put HB.out hg15 hr hw6 hf6 (Nat.le_refl _) (by omega)
      have b05 := hg15.at b0
      have b15 := hg15.at b1
      have f05 := (hg15.frozen (a := ⟨w.heap.size, 0, none⟩) (cell_lt b0)).trans fA0
      have f15 := (hg15.frozen (a := ⟨w.heap.size, 1, none⟩) (cell_lt b0)).trans fA1
      clear HB HV hr HcE HvE b0' b1' gE hgE g0 g1
      go_wp2
      go_roundw
      case rel => first | exact ⟨1, _, _, by omega, rfl, HN.out⟩ | ((repeat apply Exists.intro); exact ⟨⟨1, _, _, by omega, rfl, HN.out⟩, rfl⟩)
      case measure => simp [intOf]
    · rw [if_neg (by omega)] at HV HB
      obtain ⟨hv, hg, z0, z1⟩ := HB.out.done hw6 hf6 (by omega)
      have hfin : Hid (_ ∧ _) := ⟨hv, hg⟩
      clear hv hg HB HV
      go_wp2
      refine bodyPost_ret (results_two Try.results46 _ _ (w.heap.size + 1) _ rfl Try.underlying39 rfl Try.sizeA z0 z1) rfl ?_
      exact ⟨_, rfl, hfin.out.1, hfin.out.2⟩

end Go.Proofs.Ytjggiameajndgab

/-
  What the reference's Rot returns: an array with a byte that has turned. Nothing old turns.
-/
namespace Go.Proofs.Ytjggiameajndgab
open Go.RowKit

/-- A byte, its lowest bit turned. -/
def rotI (x : Int) : Int := if x % 2 = 0 then x + 1 else x - 1
def rotB (l : List Int) (k : Nat) : List Int := l.set k (rotI (l.getD k 0))

def rotOk (a : ArrP) (d s k : Int) : Prop := 0 ≤ d ∧ d ≤ 3 ∧ 0 ≤ s ∧ s ≤ 2 ∧ 0 ≤ k ∧ k < (cellAt a d.toNat s.toNat).length
instance (a : ArrP) (d s k : Int) : Decidable (rotOk a d s k) := by unfold rotOk; infer_instance
def rotE (a : ArrP) (d s k : Int) : Int := if rotOk a d s k then 0 else 6
def rotL (a : ArrP) (d s k : Int) : ArrP := if rotOk a d s k then withL a d.toNat s.toNat (rotB (cellAt a d.toNat s.toNat) k.toNat) else a

theorem rotI_bd {x : Int} (h : 0 ≤ x ∧ x ≤ 255) : 0 ≤ rotI x ∧ rotI x ≤ 255 := by unfold rotI; split <;> omega
theorem rotB_octets {l : List Int} (h : Octets l) (k : Nat) : Octets (rotB l k) := fun x hx => by
  rcases List.mem_or_eq_of_mem_set hx with hx | rfl
  · exact h x hx
  · exact rotI_bd (getD_bd h k)

set_option maxRecDepth 20000 in
set_option maxHeartbeats 6400000 in
theorem refRot_no (v : Value) (a : ArrP) (d s k : Int) (w : World) (h : ArrV w v a) (ha : Whole a) (hk : ¬ rotOk a d s k) :
    Calls Try.prog 84 #[v, .int .i64 d, .int .i64 s, .int .i64 k] w fun e w' => ∃ r, e = .returned (.tuple #[r, .int .i64 (rotE a d s k)]) ∧ ArrV w' r (rotL a d s k) ∧ Grow w w' := by
  have HE : Hid (rotE a d s k = 6 ∧ rotL a d s k = a) := ⟨if_neg hk, if_neg hk⟩
  have hcase : d < 0 ∨ (0 ≤ d ∧ 3 < d) ∨ (0 ≤ d ∧ d ≤ 3 ∧ s < 0) ∨ (0 ≤ d ∧ d ≤ 3 ∧ 0 ≤ s ∧ 2 < s) ∨ (0 ≤ d ∧ d ≤ 3 ∧ 0 ≤ s ∧ s ≤ 2 ∧ k < 0) ∨ (0 ≤ d ∧ d ≤ 3 ∧ 0 ≤ s ∧ s ≤ 2 ∧ 0 ≤ k ∧ ((cellAt a d.toNat s.toNat).length : Int) ≤ k) := by
    unfold rotOk at hk
    omega
  clear hk
  obtain ⟨dv, iv, e, hd, hit⟩ := ArrX.old (g := none) h (Grow.refl w) (fun _ h => nomatch h) |>.toG
  obtain ⟨a1, n1, c1, a2, n2, c2, rfl⟩ := h.form
  have hgF : Grow w ((w.alloc (.cells #[.slice a1 n1 c1, .slice a2 n2 c2] 39)).alloc (.cells #[.slice a1 n1 c1, .slice a2 n2 c2] 39)) := (Grow.alloc _ _).trans (Grow.alloc _ _)
  have hfin : Hid (_ ∧ _) := ⟨h.grow hgF, hgF⟩
  rcases hcase with h1 | ⟨h1, h2⟩ | ⟨h1, h2, h3⟩ | ⟨h1, h2, h3, h4⟩ | ⟨h1, h2, h3, h4, h5⟩ | ⟨h1, h2, h3, h4, h5, h6⟩
  case inr.inr.inr.inr.inr =>
    simp only [Value.agg.injEq] at e
    have e := congrArg Array.toList e
    simp at e
    obtain ⟨rfl, rfl⟩ := e
    obtain ⟨d, rfl⟩ := Int.eq_ofNat_of_zero_le h1
    obtain ⟨s, rfl⟩ := Int.eq_ofNat_of_zero_le h3
    have hn : n1 = 4 := by
      obtain ⟨q1, q2, q3⟩ := hd.form
      injection q3 with _ q4 _
      rw [q4, ha.1]
    subst hn
    obtain ⟨b, off, c', b', off', u', n', cc', rfl, hc1, hc2, hb, h3c⟩ := ArrG.cell hd ha (k := d) (s := s) (by omega) (by omega)
    have hl := hb.here.len
    unfold maxLen at hl
    obtain ⟨_, _, e2, -⟩ := hb.here
    injection e2 with _ e3 _
    simp only [Int.toNat_natCast] at h6
    rw [← e3] at h6 hl
    have gA := Grow.alloc w (.cells #[.slice (some ⟨b, off, none⟩) 4 c1, .slice a2 n2 c2] 39)
    have gB := gA.trans (Grow.alloc _ (.cells #[.slice none 0 0, .slice none 0 0] 39))
    have hc1' := gB.at hc1
    have hc2' := gB.at hc2
    have hdi : (d : Int) < 4 := by omega
    have hsi : (s : Int) < 3 := by omega
    clear hc1 hc2 hd hit hb gA gB hgF h
    go_enter Try.func84, Try.ntmps84
    go_wp2
    refine bodyPost_ret (results_two1 Try.results84 _ _ (w.heap.size + 1) _ rfl Try.underlying39 rfl Try.sizeA (x := .slice (some ⟨b, off, none⟩) 4 c1) (y := .slice a2 n2 c2) (by simp) (by simp)) rfl ?_
    exact ⟨_, ret_bs2 HE.out.1.symm, by rw [HE.out.2]; exact hfin.out.1, hfin.out.2⟩
  all_goals
    clear hd hit e h hgF
    go_enter Try.func84, Try.ntmps84
    go_wp2
    refine bodyPost_ret (results_two1 Try.results84 _ _ (w.heap.size + 1) _ rfl Try.underlying39 rfl Try.sizeA (x := .slice a1 n1 c1) (y := .slice a2 n2 c2) (by simp) (by simp)) rfl ?_
    exact ⟨_, ret_bs2 HE.out.1.symm, by rw [HE.out.2]; exact hfin.out.1, hfin.out.2⟩

theorem rotB_map (l : List Int) (k : Nat) (z : Int) (h : z = rotI (l.getD k 0)) : (l.map (Value.int .u8)).set k (.int .u8 z) = (rotB l k).map (Value.int .u8) := by rw [rotB, List.map_set, h]

set_option maxRecDepth 20000 in
set_option maxHeartbeats 6400000 in
theorem refRot_yes (v : Value) (a : ArrP) (d s k : Nat) (w : World) (h : ArrV w v a) (ha : Whole a) (hi : Fours a) (hd4 : d < 4) (hs3 : s < 3) (hk : k < (cellAt a d s).length) (h1000 : (cellAt a d s).length ≤ 1000) :
    Calls Try.prog 84 #[v, .int .i64 d, .int .i64 s, .int .i64 k] w fun e w' => ∃ r, e = .returned (.tuple #[r, .int .i64 0]) ∧ ArrV w' r (withL a d s (rotB (cellAt a d s) k)) ∧ Grow w w' := by
  obtain ⟨i0, hj, hz0, hz1, hz2⟩ := info_parts Try.infoB
  obtain ⟨dv, iv, e, hd, hit⟩ := ArrX.old (g := none) h (Grow.refl w) (fun _ h => nomatch h) |>.toG
  obtain ⟨a1, n1, c1, a2, n2, c2, rfl⟩ := h.form
  simp only [Value.agg.injEq] at e
  have e := congrArg Array.toList e
  simp at e
  obtain ⟨rfl, rfl⟩ := e
  have hn : n1 = 4 := by
    obtain ⟨q1, q2, q3⟩ := hd.form
    injection q3 with _ q4 _
    rw [q4, ha.1]
  subst hn
  obtain ⟨b, off, c', b', off', u', n', cc', rfl, hc1, hc2, hbo, h3c⟩ := ArrG.cell hd ha hd4 hs3
  have hb := hbo.here
  have hoc := hb.octets
  have hll := hb.len
  unfold maxLen at hll
  obtain ⟨ao, cb, e2, hcl, -, -, -, hcs⟩ := hb
  injection e2 with e4 e3 e5
  subst e4 e5
  obtain ⟨bb, ob, rfl, -⟩ := hcs (by omega)
  have HS : Hid (∀ (j : Nat) u, ((cellAt a d s).map (Value.int .u8))[j]? = some u → w.cell? ((⟨bb, ob, none⟩ : Addr).add j) = some u) := fun j u hu => hcs.src _ rfl j u hu
  have HL : Hid ((cellAt a d s).length = n') := e3.symm
  have hkn : k < n' := by omega
  have hn1000 : n' ≤ 1000 := by omega
  have hwW := withL_whole (s := s) ha hd4 (rotB (cellAt a d s) k)
  have hwF : Fours (withL a d s (rotB (cellAt a d s) k)) := hi
  generalize cellAt a d s = l at *
  clear hk e3 hcs hbo h1000 hll
  obtain ⟨W, hW⟩ : ∃ W, W = (w.alloc (.cells #[.slice (some ⟨b, off, none⟩) 4 c1, .slice a2 n2 c2] 39)).alloc (.cells #[.slice none 0 0, .slice none 0 0] 39) := ⟨_, rfl⟩
  have hgW : Grow w W := by rw [hW]; exact (Grow.alloc _ _).trans (Grow.alloc _ _)
  have hI : BInv w w.heap.size (w.heap.size + 1) (.slice (some ⟨b, off, none⟩) 4 c1) (.slice a2 n2 c2) a W := ⟨by rw [hW]; exact ⟨(heap_alloc_old _ _ (by simp)).trans (heap_alloc_new w _), heap_alloc2_new w _ _⟩, h.grow hgW, hgW⟩
  have HW : Hid (W.heap.size = w.heap.size + 1 + 1) := by rw [Hid, hW]; simp
  have HE0 : Hid ((W.alloc (.cells #[] 5)).heap[w.heap.size + 1 + 1]? = some (.cells #[] 5 (0, 0))) := by
    have := heap_alloc_new W (.cells #[] 5)
    rw [HW.out] at this
    exact this
  have gE : Grow W (W.alloc (.cells #[] 5)) := Grow.alloc _ _
  have hc1' := (hgW.trans gE).at hc1
  have hc2' := (hgW.trans gE).at hc2
  have hc1'' := hgW.at hc1
  have hc2'' := hgW.at hc2
  have hdi : (d : Int) < 4 := by omega
  have hsi : (s : Int) < 3 := by omega
  have hki : (k : Int) < n' := by omega
  have HH : Hid (∀ (j : Nat) u, (l.map (Value.int .u8))[j]? = some u → W.cell? ((⟨bb, ob, none⟩ : Addr).add j) = some u) := fun j u hu => hgW.at (HS.out j u hu)
  have hx := getD_bd hoc k
  have Hl : Hid ((l.map (Value.int .u8)).length = n') := by rw [Hid, List.length_map]; exact HL.out
  have Hk : Hid ((l.map (Value.int .u8))[k]? = some (.int .u8 (l.getD k 0))) := by
    rw [Hid, List.getElem?_map]
    have := HL.out
    simp [List.getD_eq_getElem?_getD, show k < l.length by omega]
  have qa0 := two_at0 hI.1.out.1
  have qa1 := two_at1 hI.1.out.1
  have qa0' := gE.at qa0
  have qa1' := gE.at qa1
  have t1 : decide ((d : Int) < 0) = false := by simp
  have t2 : decide (3 < (d : Int)) = false := by simp; omega
  have t3 : decide ((s : Int) < 0) = false := by simp
  have t4 : decide (2 < (s : Int)) = false := by simp; omega
  have t5 : decide ((k : Int) < 0) = false := by simp
  have qr0 := two_at0 hI.1.out.2
  have qr1 := two_at1 hI.1.out.2
  have fr0 : W.frozen? ⟨w.heap.size + 1, 0, none⟩ = false := frozen_of_row W _ 0 _ _ hI.1.out.2
  have fr1 : W.frozen? ⟨w.heap.size + 1, 1, none⟩ = false := frozen_of_row W _ 1 _ _ hI.1.out.2
  have HM : Hid (∀ (z : Int) (w1 : World) (g1 cg : Nat), z = rotI (l.getD k 0) → w1.ownsRow W.heap.size 5 1 (.slice (some ⟨g1, 0, none⟩) n' cg) n' (l.map (Value.int .u8)) → Grow W w1 → W.heap.size ≤ g1 →
      Bs (w1.setCell ⟨g1, k, none⟩ (.int .u8 z)) (.slice (some ⟨g1, 0, none⟩) n' cg) (rotB l k) ∧ Grow W (w1.setCell ⟨g1, k, none⟩ (.int .u8 z))) := fun z w1 g1 cg hz ho hg hle =>
    ⟨Bs.of_own (by have := (ho.stored k (.int .u8 z)).1; rw [rotB_map l k z hz] at this; exact this) (rotB_octets hoc k), hg.set hle _⟩
  generalize l.getD k 0 = x at *
  by_cases hp : x % 2 = 0
  · have HR : Hid (rotI x = x + 1) := if_pos hp
    go_enter Try.func84, Try.ntmps84
    subst hW
    go_wp2_with (first
      | (at_builtin; refine wpList_append_copy rfl (.tmp 43) (.tmp 51) 23 rfl 5 i0 (.int .u8 0) 1 Try.underlying23 hj hz0 hz1 hz2 rfl (w.heap.size + 1 + 1) HE0.out _ gE (Nat.le_of_eq HW.out) rfl ⟨bb, ob, none⟩ n' cc' (l.map (Value.int .u8)) rfl Hl.out HH.out (u8_oneCell _) (by omega) (by omega) (by omega) ?_; rintro g1 cg w1 hown hg1 hle - - -; have kx : w1.cell? ⟨g1, k, none⟩ = some (.int .u8 x) := (hown.cellAt k (by omega)).trans (Hk.out); have fx : w1.frozen? ⟨g1, k, none⟩ = false := hown.frozenAt k; have hX := HM.out (x + 1) w1 g1 cg HR.out.symm hown hg1 hle; have HX : Hid (_ ∧ _) := hX; have b0 := hX.2.at qa0; have b1 := hX.2.at qa1; clear hown hle hX))
    refine (refWith_any _ _ a d s (rotB l k) _ (h.grow (hgW.trans HX.out.2)) ha hd4 hs3 HX.out.1).mono ?_
    rintro e w5 ⟨r, rfl, hr, hg5⟩
    obtain ⟨p1, p2, p3, o1, o2, o3, rfl⟩ := hr.form
    have hg15 := HX.out.2.trans hg5
    have b05 := hg15.at qr0
    have b15 := hg15.at qr1
    have f05 := (hg15.frozen (a := ⟨w.heap.size + 1, 0, none⟩) (cell_lt qr0)).trans fr0
    have f15 := (hg15.frozen (a := ⟨w.heap.size + 1, 1, none⟩) (cell_lt qr0)).trans fr1
    have hb5 := two_set1 (z := .slice o1 o2 o3) (two_set0 (z := .slice p1 p2 p3) (hg15.block' hI.1.out.2))
    have z0 := two_at0 hb5
    have z1 := two_at1 hb5
    have hfin : Hid (_ ∧ _) := ⟨Two.store (R := w.heap.size + 1) ⟨_, _, _, _, _, _, _, hg15.block' hI.1.out.2⟩ hr hwW hwF (.slice p1 p2 p3) (.slice o1 o2 o3), ((hgW.trans hg15).set (g := w.heap.size + 1) (k := 0) (by omega) (.slice p1 p2 p3)).set (g := w.heap.size + 1) (k := 1) (by omega) (.slice o1 o2 o3)⟩
    clear hb5 hr
    go_wp2
    refine bodyPost_ret (results_two1 Try.results84 _ _ (w.heap.size + 1) _ rfl Try.underlying39 rfl Try.sizeA z0 z1) rfl ?_
    exact ⟨_, rfl, hfin.out.1, hfin.out.2⟩
  · have HR : Hid (rotI x = x - 1) := if_neg hp
    go_enter Try.func84, Try.ntmps84
    subst hW
    go_wp2_with (first
      | (at_builtin; refine wpList_append_copy rfl (.tmp 43) (.tmp 51) 23 rfl 5 i0 (.int .u8 0) 1 Try.underlying23 hj hz0 hz1 hz2 rfl (w.heap.size + 1 + 1) HE0.out _ gE (Nat.le_of_eq HW.out) rfl ⟨bb, ob, none⟩ n' cc' (l.map (Value.int .u8)) rfl Hl.out HH.out (u8_oneCell _) (by omega) (by omega) (by omega) ?_; rintro g1 cg w1 hown hg1 hle - - -; have kx : w1.cell? ⟨g1, k, none⟩ = some (.int .u8 x) := (hown.cellAt k (by omega)).trans (Hk.out); have fx : w1.frozen? ⟨g1, k, none⟩ = false := hown.frozenAt k; have hX := HM.out (x - 1) w1 g1 cg HR.out.symm hown hg1 hle; have HX : Hid (_ ∧ _) := hX; have b0 := hX.2.at qa0; have b1 := hX.2.at qa1; clear hown hle hX))
    refine (refWith_any _ _ a d s (rotB l k) _ (h.grow (hgW.trans HX.out.2)) ha hd4 hs3 HX.out.1).mono ?_
    rintro e w5 ⟨r, rfl, hr, hg5⟩
    obtain ⟨p1, p2, p3, o1, o2, o3, rfl⟩ := hr.form
    have hg15 := HX.out.2.trans hg5
    have b05 := hg15.at qr0
    have b15 := hg15.at qr1
    have f05 := (hg15.frozen (a := ⟨w.heap.size + 1, 0, none⟩) (cell_lt qr0)).trans fr0
    have f15 := (hg15.frozen (a := ⟨w.heap.size + 1, 1, none⟩) (cell_lt qr0)).trans fr1
    have hb5 := two_set1 (z := .slice o1 o2 o3) (two_set0 (z := .slice p1 p2 p3) (hg15.block' hI.1.out.2))
    have z0 := two_at0 hb5
    have z1 := two_at1 hb5
    have hfin : Hid (_ ∧ _) := ⟨Two.store (R := w.heap.size + 1) ⟨_, _, _, _, _, _, _, hg15.block' hI.1.out.2⟩ hr hwW hwF (.slice p1 p2 p3) (.slice o1 o2 o3), ((hgW.trans hg15).set (g := w.heap.size + 1) (k := 0) (by omega) (.slice p1 p2 p3)).set (g := w.heap.size + 1) (k := 1) (by omega) (.slice o1 o2 o3)⟩
    clear hb5 hr
    go_wp2
    refine bodyPost_ret (results_two1 Try.results84 _ _ (w.heap.size + 1) _ rfl Try.underlying39 rfl Try.sizeA z0 z1) rfl ?_
    exact ⟨_, rfl, hfin.out.1, hfin.out.2⟩

theorem refRot_any (v : Value) (a : ArrP) (d s k : Int) (w : World) (h : ArrV w v a) (ha : Whole a) (hi : Fours a) (h1000 : ∀ d s, (cellAt a d s).length ≤ 1000) :
    Calls Try.prog 84 #[v, .int .i64 d, .int .i64 s, .int .i64 k] w fun e w' => ∃ r, e = .returned (.tuple #[r, .int .i64 (rotE a d s k)]) ∧ ArrV w' r (rotL a d s k) ∧ Grow w w' := by
  by_cases hk : rotOk a d s k
  · have hk' := hk
    obtain ⟨h1, h2, h3, h4, h5, h6⟩ := hk'
    obtain ⟨d, rfl⟩ := Int.eq_ofNat_of_zero_le h1
    obtain ⟨s, rfl⟩ := Int.eq_ofNat_of_zero_le h3
    obtain ⟨k, rfl⟩ := Int.eq_ofNat_of_zero_le h5
    simp only [Int.toNat_natCast] at h6
    rw [rotE, rotL, if_pos hk, if_pos hk]
    simp only [Int.toNat_natCast]
    exact refRot_yes v a d s k w h ha hi (by omega) (by omega) (by omega) (h1000 d s)
  · exact refRot_no v a d s k w h ha hk

end Go.Proofs.Ytjggiameajndgab
