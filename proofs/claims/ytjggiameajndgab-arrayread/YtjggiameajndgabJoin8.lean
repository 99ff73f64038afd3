import Derived.Test.YtjggiameajndgabJoin7
/-
  What the reference's Worst and Mend return. Nothing old turns.
-/
namespace Go.Proofs.Ytjggiameajndgab
open Go.RowKit

/-- How many cells of stripe s are none. -/
def badN (a : ArrP) (s : Nat) : Nat := (badL (cellsL a s) s).length

/-- Of one of the first k stripes, at most. -/
def worstTo (a : ArrP) : Nat → Nat
  | 0 => 0
  | k + 1 => if worstTo a k < badN a k then badN a k else worstTo a k

def worstN (a : ArrP) : Nat := worstTo a 3

theorem badN_le {a : ArrP} (ha : Whole a) (s : Nat) : badN a s ≤ 4 := by
  have := badTo_length (cellsL a s) s (cellsL a s).length
  rw [cellsL_length, ha.1] at this
  unfold badN badL
  rw [cellsL_length, ha.1]
  exact this

theorem worstTo_le {a : ArrP} (ha : Whole a) : ∀ k, worstTo a k ≤ 4
  | 0 => by simp [worstTo]
  | k + 1 => by
    have := badN_le ha k
    have := worstTo_le ha k
    rw [worstTo]
    split <;> omega

set_option maxRecDepth 20000 in
set_option maxHeartbeats 1600000 in
theorem refWorst_any (v : Value) (a : ArrP) (w : World) (h : ArrV w v a) (ha : Whole a) :
    Calls Try.prog 52 #[v] w fun e w' => e = .returned (.int .i64 (worstN a)) ∧ Grow w w' := by
  have harr := h
  obtain ⟨a1, n1, c1, a2, n2, c2, rfl⟩ := h.form
  clear h
  have hgA : Grow w (w.alloc (.cells #[.slice a1 n1 c1, .slice a2 n2 c2] 39)) := Grow.alloc _ _
  have hwl := fun k => worstTo_le ha k
  have hbl := fun k => badN_le ha k
  go_enter Try.func52, Try.ntmps52
  go_wp2
  obtain ⟨w1, hw1⟩ : ∃ w1, w1 = w.alloc (.cells #[.slice a1 n1 c1, .slice a2 n2 c2] 39) := ⟨_, rfl⟩
  have k0 : w1.cell? ⟨w.heap.size, 0, none⟩ = some (.slice a1 n1 c1) := by rw [hw1]; simp
  have k1 : w1.cell? ⟨w.heap.size, 1, none⟩ = some (.slice a2 n2 c2) := by rw [hw1]; simp
  rw [← hw1] at hgA ⊢
  clear hw1
  go_loopw [3, 6] (fun m i wr => ∃ (k n : Nat), k ≤ 3 ∧ i = .int .i64 k ∧ m = .int .i64 n ∧ n ≤ 4 ∧ Hid (n = worstTo a k) ∧ Grow w1 wr) (fun _ i _ => 3 - (intOf i).toNat)
  case atStart => exact ⟨0, 0, by omega, rfl, rfl, by omega, rfl, Grow.refl _⟩
  case round =>
    obtain ⟨k, n, hk, rfl, rfl, hn4, HN, hgr⟩ := hrel
    by_cases hlt : k < 3
    · have c0 := hgr.at k0
      have c1 := hgr.at k1
      have hgw := hgA.trans hgr
      clear k0 k1
      go_wp2_with fail
      refine (refCells_any _ a k _ (harr.grow hgw) ha hlt).mono ?_
      rintro e w2 ⟨rc, rfl, hrc, hg2⟩
      go_wp2_with fail
      refine (refBad_any _ _ k _ hrc (by rw [cellsL_length, ha.1]; omega)).mono ?_
      rintro e w3 ⟨rb, rfl, hrb, hg3⟩
      obtain ⟨ab, cb, rfl, hb1, hb2⟩ := hrb.form'
      have hlen : (ints (badL (cellsL a k) k)).length = badN a k := by simp [ints, badN]
      rw [hlen] at hb1 ⊢
      have hb4 := hbl k
      have hgr3 := (hgr.trans hg2).trans hg3
      have HS : Hid (worstTo a (k + 1) = if worstTo a k < badN a k then badN a k else worstTo a k) := rfl
      clear hrb hrc hlen hwl hbl
      generalize badN a k = bn at *
      by_cases hlt2 : n < bn
      · have HN' : Hid (bn = worstTo a (k + 1)) := by rw [Hid, HS.out, ← HN.out, if_pos hlt2]
        go_wp2
        go_roundw
        case rel => first | exact ⟨k + 1, bn, by omega, by go_num, rfl, hb4, HN', hgr3⟩ | ((repeat apply Exists.intro); exact ⟨⟨k + 1, bn, by omega, by go_num, rfl, hb4, HN', hgr3⟩, rfl⟩)
        case measure => simp [intOf]; omega
      · have HN' : Hid (n = worstTo a (k + 1)) := by rw [Hid, HS.out, ← HN.out, if_neg hlt2]
        go_wp2
        go_roundw
        case rel => first | exact ⟨k + 1, n, by omega, by go_num, rfl, hn4, HN', hgr3⟩ | ((repeat apply Exists.intro); exact ⟨⟨k + 1, n, by omega, by go_num, rfl, hn4, HN', hgr3⟩, rfl⟩)
        case measure => simp [intOf]; omega
    · obtain rfl : k = 3 := by omega
      go_wp2
      go_ret
      exact ⟨ret_int (by rw [HN.out]; rfl), hgA.trans hgr⟩

theorem ret_arr3 {v : Value} {k2 k3 : IntKind} {a2 b2 a3 b3 : Int} (h2 : a2 = b2) (h3 : a3 = b3) : Ending.returned (.tuple #[v, .int k2 a2, .int k3 a3]) = .returned (.tuple #[v, .int k2 b2, .int k3 b3]) := by rw [h2, h3]

/-- Cells of stripe s, the first k of them. -/
def putTo (a : ArrP) (cs : List (List Int)) (s : Nat) : Nat → ArrP
  | 0 => a
  | k + 1 => withL (putTo a cs s k) k s (cs.getD k [])

def mendE (a : ArrP) (s : Int) : Int := if s < 0 ∨ 2 < s then 3 else dataE (cellsL a s.toNat) s
def mendN (a : ArrP) (s : Int) : Nat := if s < 0 ∨ 2 < s then 0 else badN a s.toNat
def mendL (a : ArrP) (s : Int) : ArrP := if (s < 0 ∨ 2 < s) ∨ dataE (cellsL a s.toNat) s ≠ 0 then a else putTo a (makeL (dataL (cellsL a s.toNat) s) s) s.toNat 4

theorem putTo_whole {a : ArrP} (ha : Whole a) (cs : List (List Int)) (s : Nat) : ∀ k, k ≤ 4 → Whole (putTo a cs s k)
  | 0, _ => ha
  | k + 1, h => withL_whole (putTo_whole ha cs s k (by omega)) (by omega) _

theorem putTo_fours {a : ArrP} (ha : Fours a) (cs : List (List Int)) (s : Nat) : ∀ k, Fours (putTo a cs s k)
  | 0 => ha
  | k + 1 => by
    have := putTo_fours ha cs s k
    exact this

theorem dataL_blocks {ls : List (List Int)} {s : Int} (h : dataE ls s = 0) : ∀ b ∈ dataL ls s, b.length = 4 := by
  unfold dataE at h
  split at h
  · cases h
  rename_i h1
  intro b hb
  rw [dataL, if_neg h1] at hb
  obtain ⟨d, hd, rfl⟩ := List.mem_map.1 hb
  unfold datAt
  split
  · rfl
  · rename_i h2
    exact readX_length (by simpa [isBad] using h2)

theorem makeL_length (ds : List (List Int)) (s : Int) : (makeL ds s).length = ds.length := by simp [makeL]

set_option maxRecDepth 20000 in
set_option maxHeartbeats 6400000 in
theorem refMend_any (v : Value) (a : ArrP) (s : Int) (w : World) (h : ArrV w v a) (ha : Whole a) (hi : Fours a) :
    Calls Try.prog 85 #[v, .int .i64 s] w fun e w' => ∃ r, e = .returned (.tuple #[r, .int .i64 (mendN a s), .int .i64 (mendE a s)]) ∧ ArrV w' r (mendL a s) ∧ Grow w w' := by
  obtain ⟨a1, n1, c1, a2, n2, c2, rfl⟩ := h.form
  obtain ⟨W, hW⟩ : ∃ W, W = (w.alloc (.cells #[.slice a1 n1 c1, .slice a2 n2 c2] 39)).alloc (.cells #[.slice none 0 0, .slice none 0 0] 39) := ⟨_, rfl⟩
  have hgW : Grow w W := by rw [hW]; exact (Grow.alloc _ _).trans (Grow.alloc _ _)
  have hI : BInv w w.heap.size (w.heap.size + 1) (.slice a1 n1 c1) (.slice a2 n2 c2) a W := ⟨by rw [hW]; exact ⟨(heap_alloc_old _ _ (by simp)).trans (heap_alloc_new w _), heap_alloc2_new w _ _⟩, h.grow hgW, hgW⟩
  by_cases hs : s < 0 ∨ 2 < s
  · have HE : Hid ((mendN a s : Int) = 0 ∧ mendE a s = 3 ∧ mendL a s = a) := ⟨by rw [mendN, if_pos hs]; rfl, if_pos hs, if_pos (.inl hs)⟩
    clear hI
    have hgF : Grow w ((w.alloc (.cells #[.slice a1 n1 c1, .slice a2 n2 c2] 39)).alloc (.cells #[.slice a1 n1 c1, .slice a2 n2 c2] 39)) := (Grow.alloc _ _).trans (Grow.alloc _ _)
    have hfin : Hid (_ ∧ _) := ⟨h.grow hgF, hgF⟩
    clear h hgF hgW hW
    have hs' : s < 0 ∨ (0 ≤ s ∧ 2 < s) := by omega
    clear hs
    rcases hs' with hs | ⟨hs0, hs⟩
    all_goals
      go_enter Try.func85, Try.ntmps85
      go_wp2
      refine bodyPost_ret (results_two2 Try.results85 _ _ (w.heap.size + 1) _ rfl Try.underlying39 rfl Try.sizeA (x := .slice a1 n1 c1) (y := .slice a2 n2 c2) (by simp) (by simp)) rfl ?_
      exact ⟨_, ret_arr3 HE.out.1.symm HE.out.2.1.symm, by rw [HE.out.2.2]; exact hfin.out.1, hfin.out.2⟩
  · obtain ⟨s, rfl⟩ := Int.eq_ofNat_of_zero_le (show 0 ≤ s by omega)
    have hs3 : s < 3 := by omega
    have HE : Hid (mendN a (s : Int) = badN a s ∧ mendE a (s : Int) = dataE (cellsL a s) s ∧ (dataE (cellsL a s) s ≠ 0 → mendL a (s : Int) = a) ∧ (dataE (cellsL a s) s = 0 → mendL a (s : Int) = putTo a (makeL (dataL (cellsL a s) s) s) s 4)) :=
      ⟨(if_neg hs).trans (by simp), (if_neg hs).trans (by simp), fun h => if_pos (.inr (by simpa using h)), fun h => (if_neg (by simp only [Int.toNat_natCast]; exact fun h' => h'.elim hs (fun h' => h' h))).trans (by simp)⟩
    have hs' : ¬ 2 < (s : Int) := by omega
    have hb4 := badN_le ha s
    clear hs h
    go_enter Try.func85, Try.ntmps85
    have q0 := two_at0 hI.1.out.1
    have q1 := two_at1 hI.1.out.1
    subst hW
    go_wp2_with fail
    refine (refCells_any _ a s _ hI.2.1.out ha hs3).mono ?_
    rintro e w2 ⟨rc, rfl, hrc, hg2⟩
    go_wp2_with fail
    refine (refBad_any _ _ s _ hrc (by rw [cellsL_length, ha.1]; omega)).mono ?_
    rintro e w3 ⟨rb, rfl, hrb, hg3⟩
    obtain ⟨ab, cb, rfl, hb1, hb2⟩ := hrb.form'
    have hlen : (ints (badL (cellsL a s) s)).length = badN a s := by simp [ints, badN]
    rw [hlen] at hb1 ⊢
    clear hrb hlen
    go_wp2_with fail
    refine (refData_any _ _ s _ (hrc.grow hg3) (by rw [cellsL_length, ha.1]; omega)).mono ?_
    rintro e w4 ⟨rd, rfl, hrd, hg4⟩
    have hg24 := (hg2.trans hg3).trans hg4
    have hI4 : BInv w w.heap.size (w.heap.size + 1) (.slice a1 n1 c1) (.slice a2 n2 c2) a w4 := ⟨⟨hg24.block' hI.1.out.1, hg24.block' hI.1.out.2⟩, hI.2.1.out.grow hg24, hgW.trans hg24⟩
    clear hI hrc hg2 hg3 hg4 hg24 q0 q1 hgW
    have b0 := two_at0 hI4.1.out.1
    have b1 := two_at1 hI4.1.out.1
    have r0 := two_at0 hI4.1.out.2
    have r1 := two_at1 hI4.1.out.2
    have f0 : w4.frozen? ⟨w.heap.size + 1, 0, none⟩ = false := frozen_of_row w4 _ 0 _ _ hI4.1.out.2
    have f1 : w4.frozen? ⟨w.heap.size + 1, 1, none⟩ = false := frozen_of_row w4 _ 1 _ _ hI4.1.out.2
    by_cases hde : dataE (cellsL a s) s = 0
    · have hdb := dataL_blocks hde
      have hdl := dataL_length hde
      rw [cellsL_length, ha.1] at hdl
      have Hf : Hid (mendN a (s : Int) = badN a s ∧ mendE a (s : Int) = 0 ∧ mendL a (s : Int) = putTo a (makeL (dataL (cellsL a s) s) s) s 4) := ⟨HE.out.1, HE.out.2.1.trans hde, HE.out.2.2.2 hde⟩
      have hcl : (makeL (dataL (cellsL a s) s) (s : Int)).length = 4 := by rw [makeL_length, hdl]
      clear HE r0 r1 f0 f1
      generalize dataE (cellsL a s) s = E at *
      subst hde
      generalize badN a s = bn at *
      go_wp2_with fail
      refine (refMake_any _ _ s _ hrd (by omega) (by omega) hdb).mono ?_
      rintro e w5 ⟨rm, rfl, hrm, hg5⟩
      have hcs := hrm.done
      have hI5 : BInv w w.heap.size (w.heap.size + 1) (.slice a1 n1 c1) (.slice a2 n2 c2) a w5 := ⟨⟨hg5.block' hI4.1.out.1, hg5.block' hI4.1.out.2⟩, hI4.2.1.out.grow hg5, hI4.2.2.trans hg5⟩
      clear hrm hrd hI4 hdb hdl b0 b1 hg5
      generalize makeL (dataL (cellsL a s) s) (s : Int) = cs at *
      obtain ⟨am, cm, rfl, hm1, hm2⟩ := hcs.form'
      have HL : Hid (cs.length = 4) := hcl
      rw [hcl] at hcs hm1 ⊢
      clear hcl
      have hw4 := fun k (hk : k ≤ 4) => putTo_whole ha cs s k hk
      have hf4 := fun k => putTo_fours hi cs s k
      go_wp2
      go_loopw [42] (fun q wr => ∃ (k : Nat) (x y : Value), k ≤ 4 ∧ q = .int .i64 k ∧ BInv w w.heap.size (w.heap.size + 1) x y (putTo a cs s k) wr ∧ Hid (Bss wr (.slice am 4 cm) cs)) (fun q _ => 4 - (intOf q).toNat)
      case atStart => exact ⟨0, _, _, by omega, rfl, hI5, hcs⟩
      case round =>
        obtain ⟨k, x, y, hk, rfl, hB, HC⟩ := hrel
        have HB : Hid (BInv w w.heap.size (w.heap.size + 1) x y (putTo a cs s k) wr) := hB
        obtain ⟨⟨h1, h2⟩, HV, hgr⟩ := hB
        obtain ⟨⟨x1, x2, x3, rfl⟩, y1, y2, y3, rfl⟩ := HV.out.form2
        have H1 : Hid (wr.heap[w.heap.size]? = some (.cells #[.slice x1 x2 x3, .slice y1 y2 y3] 39 (0, 0))) := h1
        have b0 := two_at0 h1
        have b1 := two_at1 h1
        have r0 := two_at0 h2
        have r1 := two_at1 h2
        have fA0 : wr.frozen? ⟨w.heap.size, 0, none⟩ = false := frozen_of_row wr _ 0 _ _ h1
        have fA1 : wr.frozen? ⟨w.heap.size, 1, none⟩ = false := frozen_of_row wr _ 1 _ _ h1
        have f0 : wr.frozen? ⟨w.heap.size + 1, 0, none⟩ = false := frozen_of_row wr _ 0 _ _ h2
        have f1 : wr.frozen? ⟨w.heap.size + 1, 1, none⟩ = false := frozen_of_row wr _ 1 _ _ h2
        clear h1 h2
        by_cases hlt : k < 4
        · obtain ⟨bm, om, uk, e1, hck, hbk⟩ := HC.out.elem (k := k) (by have := HL.out; omega) []
          subst e1
          obtain ⟨z1, z2, z3, rfl⟩ := hbk.form
          go_wp2_with fail
          refine (refWith_any _ _ (putTo a cs s k) k s (cs.getD k []) _ HV.out (hw4 k hk) hlt hs3 hbk).mono ?_
          rintro e w6 ⟨r, rfl, hr, hg6⟩
          obtain ⟨p1, p2, p3, q1, q2, q3, rfl⟩ := hr.form
          have HN : Hid (BInv w w.heap.size (w.heap.size + 1) _ _ (putTo a cs s (k + 1)) _) := BInv.put HB.out hg6 hr (hw4 (k + 1) (by omega)) (hf4 (k + 1)) (Nat.le_refl _) (by omega)
          have HC' : Hid (Bss ((w6.setCell ⟨w.heap.size, 0, none⟩ (.slice p1 p2 p3)).setCell ⟨w.heap.size, 1, none⟩ (.slice q1 q2 q3)) (.slice (some ⟨bm, om, none⟩) 4 cm) cs) :=
            BssX.plain (BssX.step (BssX.step (Two.bss (R := w.heap.size) ⟨_, _, _, _, _, _, _, hg6.block' H1.out⟩ (HC.out.grow hg6) (by have := HL.out; omega)) (by_set w6 _ 0 _)) (by_set _ _ 1 _))
          have b06 := hg6.at b0
          have b16 := hg6.at b1
          have f06 := (hg6.frozen (a := ⟨w.heap.size, 0, none⟩) (cell_lt b0)).trans fA0
          have f16 := (hg6.frozen (a := ⟨w.heap.size, 1, none⟩) (cell_lt b0)).trans fA1
          clear HB HV hr hw4 hf4 HC hbk H1
          go_wp2
          go_roundw
          case rel => first | exact ⟨k + 1, _, _, by omega, by go_num, HN.out, HC'⟩ | ((repeat apply Exists.intro); exact ⟨⟨k + 1, _, _, by omega, by go_num, HN.out, HC'⟩, rfl⟩)
          case measure => simp [intOf]; omega
        · obtain rfl : k = 4 := by omega
          obtain ⟨hv, hg, z0, z1⟩ := HB.out.done (hw4 4 (by omega)) (hf4 4) (by omega)
          have hfin : Hid (_ ∧ _) := ⟨hv, hg⟩
          clear hv hg HB HV hw4 hf4 HC H1
          go_wp2
          refine bodyPost_ret (results_two2 Try.results85 _ _ (w.heap.size + 1) _ rfl Try.underlying39 rfl Try.sizeA z0 z1) rfl ?_
          exact ⟨_, ret_arr3 (by rw [Hf.out.1]) Hf.out.2.1.symm, by rw [Hf.out.2.2]; exact hfin.out.1, hfin.out.2⟩
    · obtain ⟨hv, hg, z0, z1⟩ := hI4.done ha hi (by omega)
      have hfin : Hid (mendN a (s : Int) = badN a s ∧ mendE a (s : Int) = dataE (cellsL a s) s ∧ mendL a (s : Int) = a ∧ _ ∧ _) := ⟨HE.out.1, HE.out.2.1, HE.out.2.2.1 hde, hv, hg⟩
      clear hv hg HE hrd hI4
      generalize dataE (cellsL a s) s = E at *
      generalize badN a s = bn at *
      have he' : (E != 0) = true := by simpa using hde
      go_wp2
      refine bodyPost_ret (results_two2 Try.results85 _ _ (w.heap.size + 1) _ rfl Try.underlying39 rfl Try.sizeA z0 z1) rfl ?_
      exact ⟨_, ret_arr3 (by rw [hfin.out.1]) hfin.out.2.1.symm, by rw [hfin.out.2.2.1]; exact hfin.out.2.2.2.1, hfin.out.2.2.2.2⟩

end Go.Proofs.Ytjggiameajndgab

/-
  What the reference's Do returns. Nothing old turns.
-/
namespace Go.Proofs.Ytjggiameajndgab
open Go.RowKit

theorem do_take_succ (ls : List (List Int)) (x : DeedP) (k : Nat) : (List.range k).map (doAt ls x) ++ [doAt ls x k] = (List.range (k + 1)).map (doAt ls x) := by simp [List.range_succ]

theorem doAt_data {ls : List (List Int)} {x : DeedP} {i : Nat} (h : x.k = 1) (hi : (i : Int) = x.n) : doAt ls x i = x.d := by rw [doAt, if_pos ⟨h, hi⟩]
theorem doAt_old {ls : List (List Int)} {x : DeedP} {i : Nat} (h : x.k = 1) (hi : (i : Int) ≠ x.n) : doAt ls x i = ls.getD i [] := by rw [doAt, if_neg (fun h => hi h.2), if_neg (by omega), if_neg (by omega)]
theorem doAt_n {ls : List (List Int)} {x : DeedP} {i : Nat} (h : x.k = 2) (hi : (i : Int) = x.n) : doAt ls x i = ls.getD x.m.toNat [] := by rw [doAt, if_neg (by omega), if_pos ⟨h, hi⟩]
theorem doAt_m {ls : List (List Int)} {x : DeedP} {i : Nat} (h : x.k = 2) (hi : (i : Int) ≠ x.n) (hj : (i : Int) = x.m) : doAt ls x i = ls.getD x.n.toNat [] := by rw [doAt, if_neg (by omega), if_neg (by omega), if_pos ⟨h, hj⟩]
theorem doAt_out {ls : List (List Int)} {x : DeedP} {i : Nat} (h : x.k = 2) (hi : (i : Int) ≠ x.n) (hj : (i : Int) ≠ x.m) : doAt ls x i = ls.getD i [] := by rw [doAt, if_neg (by omega), if_neg (by omega), if_neg (by omega)]

theorem whereE_zero {m : Int} (h : whereE m = 0) : 0 ≤ m ∧ m < 9 := by
  unfold whereE at h
  split at h
  · assumption
  · cases h

set_option maxRecDepth 20000 in
set_option maxHeartbeats 3200000 in
theorem refDo_write (v dv : Value) (ls : List (List Int)) (x : DeedP) (w : World) (h : Bss w v ls) (hd : DeedV w dv x) (hl : ls.length = 9) (hk1 : x.k = 1) :
    Calls Try.prog 50 #[v, dv] w fun e w' => ∃ r, e = .returned r ∧ Bss w' r (doL ls x) ∧ Grow w w' := by
  obtain ⟨i0, hi, hz0, hz1, hz2⟩ := info_parts Try.infoS
  obtain ⟨sv, rfl, hbd⟩ := hd
  obtain ⟨ad, nd, cd, rfl⟩ := hbd.form
  have hd1 := fun i => doAt_data (ls := ls) (x := x) (i := i) hk1
  have hd2 := fun i => doAt_old (ls := ls) (x := x) (i := i) hk1
  have HDL : Hid (doL ls x = (List.range 9).map (doAt ls x)) := by rw [Hid, doL, hl]
  have HT : Hid (∀ k, (List.range k).map (doAt ls x) ++ [doAt ls x k] = (List.range (k + 1)).map (doAt ls x)) := do_take_succ ls x
  generalize doL ls x = dl at *
  generalize doAt ls x = da at *
  obtain ⟨k, n, m, d⟩ := x
  dsimp only at *
  subst hk1
  obtain ⟨ao, cap, rfl, h1, h2, h3, h4⟩ := h
  obtain ⟨b, off, rfl, hc⟩ := h4 (by omega)
  have Hc : Hid (∀ k, k < 9 → ∃ ak n ck, w.cell? ⟨b, off + k, none⟩ = some (.slice ak n ck) ∧ Bs w (.slice ak n ck) (ls.getD k [])) := fun k hk => by
    obtain ⟨ak, ck, e1, e2⟩ := Sl.bytesAt hc (k := k) (by omega)
    exact ⟨_, _, _, e1, e2⟩
  have Hd : Hid ((∀ i : Nat, (i : Int) = n → da i = d) ∧ (∀ i : Nat, (i : Int) ≠ n → da i = ls.getD i [])) := ⟨hd1, hd2⟩
  unfold maxLen at h2
  rw [hl] at h1 ⊢
  clear hc h4 h3 hl hd1 hd2
  have hgA : Grow w (w.alloc (.cells #[.int .i64 1, .int .i64 n, .int .i64 m, .slice ad nd cd] 25)) := Grow.alloc _ _
  go_enter Try.func50, Try.ntmps50
  go_wp2
  obtain ⟨w1, hw1⟩ : ∃ w1, w1 = w.alloc (.cells #[.int .i64 1, .int .i64 n, .int .i64 m, .slice ad nd cd] 25) := ⟨_, rfl⟩
  have hc0 : w1.cell? ⟨w.heap.size, 0, none⟩ = some (.int .i64 1) := by rw [hw1]; simp
  have hc1 : w1.cell? ⟨w.heap.size, 1, none⟩ = some (.int .i64 n) := by rw [hw1]; simp
  have hc3 : w1.cell? ⟨w.heap.size, 3, none⟩ = some (.slice ad nd cd) := by rw [hw1]; simp
  rw [← hw1] at hgA ⊢
  clear hw1
  go_loopw [5, 10] (fun r i wr => ∃ k : Nat, k ≤ 9 ∧ i = .int .i64 k ∧ Hid (Rowing Bs w1.heap.size 23 wr r ((List.range k).map da)) ∧ Grow w1 wr) (fun _ i _ => 9 - (intOf i).toNat)
  case atStart => exact ⟨0, by omega, rfl, Rowing.nil _ _ _ _, Grow.refl _⟩
  case round =>
    obtain ⟨k, hk, rfl, HR, hgr⟩ := hrel
    by_cases hlt : k < 9
    · have c0 := hgr.at hc0
      have c1 := hgr.at hc1
      have c3 := hgr.at hc3
      obtain ⟨ak, nk, ck, hck, hbk⟩ := Hc.out k hlt
      have hck' := (hgA.trans hgr).at hck
      clear hc0 hc1 hc3 hck
      by_cases hkn : (k : Int) = n
      · have HD : Hid (da k = d) := Hd.out.1 k hkn
        have hoff : Off Bs u5.ownBlock wr (.slice ad nd cd) (da k) := by rw [HD.out]; exact Off.old Bs.stays (hbd.grow hgA) hgr (fun j hj => (HR.out.base j hj).1)
        have hT := HT.out k
        subst hkn
        go_wp2_with (first
          | (at_builtin; refine wpList_push rfl (.tmp 57) (.tmp 59) 22 rfl i0 (.slice none 0 0) 24 Try.underlying22 hi hz0 hz1 hz2 rfl w1 hgr rfl rfl HR.out rfl hoff wr.heap.size rfl rfl (by simp; omega) (by simp; omega) ?_; rintro v1 w2 - hrow1 hg2))
        rw [hT] at hrow1
        go_wp2
        go_roundw
        case rel => first | exact ⟨k + 1, by omega, by go_num, hrow1, hg2⟩ | ((repeat apply Exists.intro); exact ⟨⟨k + 1, by omega, by go_num, hrow1, hg2⟩, rfl⟩)
        case measure => simp [intOf]; omega
      · have HD : Hid (da k = ls.getD k []) := Hd.out.2 k hkn
        have hoff : Off Bs u5.ownBlock wr (.slice ak nk ck) (da k) := by rw [HD.out]; exact Off.old Bs.stays (hbk.grow hgA) hgr (fun j hj => (HR.out.base j hj).1)
        have hT := HT.out k
        go_wp2_with (first
          | (at_builtin; refine wpList_push rfl (.tmp 57) (.tmp 59) 22 rfl i0 (.slice none 0 0) 24 Try.underlying22 hi hz0 hz1 hz2 rfl w1 hgr rfl rfl HR.out rfl hoff wr.heap.size rfl rfl (by simp; omega) (by simp; omega) ?_; rintro v1 w2 - hrow1 hg2))
        rw [hT] at hrow1
        go_wp2
        go_roundw
        case rel => first | exact ⟨k + 1, by omega, by go_num, hrow1, hg2⟩ | ((repeat apply Exists.intro); exact ⟨⟨k + 1, by omega, by go_num, hrow1, hg2⟩, rfl⟩)
        case measure => simp [intOf]; omega
    · obtain rfl : k = 9 := by omega
      go_wp2
      go_ret
      exact ⟨_, rfl, by rw [HDL.out]; exact HR.out.done, hgA.trans hgr⟩

set_option maxRecDepth 20000 in
set_option maxHeartbeats 3200000 in
theorem refDo_swap (v dv : Value) (ls : List (List Int)) (x : DeedP) (w : World) (h : Bss w v ls) (hd : DeedV w dv x) (hl : ls.length = 9) (hk1 : x.k = 2) (hn : 0 ≤ x.n ∧ x.n < 9) (hm : 0 ≤ x.m ∧ x.m < 9) :
    Calls Try.prog 50 #[v, dv] w fun e w' => ∃ r, e = .returned r ∧ Bss w' r (doL ls x) ∧ Grow w w' := by
  obtain ⟨i0, hi, hz0, hz1, hz2⟩ := info_parts Try.infoS
  obtain ⟨sv, rfl, hbd⟩ := hd
  obtain ⟨ad, nd, cd, rfl⟩ := hbd.form
  have hd1 := fun i => doAt_n (ls := ls) (x := x) (i := i) hk1
  have hd2 := fun i => doAt_m (ls := ls) (x := x) (i := i) hk1
  have hd3 := fun i => doAt_out (ls := ls) (x := x) (i := i) hk1
  have HDL : Hid (doL ls x = (List.range 9).map (doAt ls x)) := by rw [Hid, doL, hl]
  have HT : Hid (∀ k, (List.range k).map (doAt ls x) ++ [doAt ls x k] = (List.range (k + 1)).map (doAt ls x)) := do_take_succ ls x
  generalize doL ls x = dl at *
  generalize doAt ls x = da at *
  obtain ⟨k, n, m, d⟩ := x
  dsimp only at *
  subst hk1
  obtain ⟨n, rfl⟩ := Int.eq_ofNat_of_zero_le hn.1
  obtain ⟨m, rfl⟩ := Int.eq_ofNat_of_zero_le hm.1
  have hn9 : n < 9 := by omega
  have hm9 : m < 9 := by omega
  clear hn hm
  simp only [Int.toNat_natCast] at hd1 hd2 hd3
  obtain ⟨ao, cap, rfl, h1, h2, h3, h4⟩ := h
  obtain ⟨b, off, rfl, hc⟩ := h4 (by omega)
  have Hc : Hid (∀ k, k < 9 → ∃ ak n ck, w.cell? ⟨b, off + k, none⟩ = some (.slice ak n ck) ∧ Bs w (.slice ak n ck) (ls.getD k [])) := fun k hk => by
    obtain ⟨ak, ck, e1, e2⟩ := Sl.bytesAt hc (k := k) (by omega)
    exact ⟨_, _, _, e1, e2⟩
  have Hd : Hid ((∀ i : Nat, i = n → da i = ls.getD m []) ∧ (∀ i : Nat, i ≠ n → i = m → da i = ls.getD n []) ∧ (∀ i : Nat, i ≠ n → i ≠ m → da i = ls.getD i [])) := ⟨fun i h => hd1 i (by omega), fun i h h' => hd2 i (by omega) (by omega), fun i h h' => hd3 i (by omega) (by omega)⟩
  unfold maxLen at h2
  rw [hl] at h1 ⊢
  clear hc h4 h3 hl hd1 hd2 hd3
  have hgA : Grow w (w.alloc (.cells #[.int .i64 2, .int .i64 n, .int .i64 m, .slice ad nd cd] 25)) := Grow.alloc _ _
  go_enter Try.func50, Try.ntmps50
  go_wp2
  obtain ⟨w1, hw1⟩ : ∃ w1, w1 = w.alloc (.cells #[.int .i64 2, .int .i64 n, .int .i64 m, .slice ad nd cd] 25) := ⟨_, rfl⟩
  have hc0 : w1.cell? ⟨w.heap.size, 0, none⟩ = some (.int .i64 2) := by rw [hw1]; simp
  have hc1 : w1.cell? ⟨w.heap.size, 1, none⟩ = some (.int .i64 n) := by rw [hw1]; simp
  have hc2 : w1.cell? ⟨w.heap.size, 2, none⟩ = some (.int .i64 m) := by rw [hw1]; simp
  rw [← hw1] at hgA ⊢
  clear hw1
  go_loopw [5, 10] (fun r i wr => ∃ k : Nat, k ≤ 9 ∧ i = .int .i64 k ∧ Hid (Rowing Bs w1.heap.size 23 wr r ((List.range k).map da)) ∧ Grow w1 wr) (fun _ i _ => 9 - (intOf i).toNat)
  case atStart => exact ⟨0, by omega, rfl, Rowing.nil _ _ _ _, Grow.refl _⟩
  case round =>
    obtain ⟨k, hk, rfl, HR, hgr⟩ := hrel
    by_cases hlt : k < 9
    · have c0 := hgr.at hc0
      have c1 := hgr.at hc1
      have c2 := hgr.at hc2
      obtain ⟨ak, nk, ck, hck, hbk⟩ := Hc.out k hlt
      obtain ⟨an, nn, cn, hcn, hbn⟩ := Hc.out n hn9
      obtain ⟨am, nm, cm, hcm, hbm⟩ := Hc.out m hm9
      have hck' := (hgA.trans hgr).at hck
      have hcn' := (hgA.trans hgr).at hcn
      have hcm' := (hgA.trans hgr).at hcm
      clear hc0 hc1 hc2 hck hcn hcm
      by_cases hkn : k = n
      · have HD : Hid (da k = ls.getD m []) := Hd.out.1 k hkn
        have hoff : Off Bs u5.ownBlock wr (.slice am nm cm) (da k) := by rw [HD.out]; exact Off.old Bs.stays (hbm.grow hgA) hgr (fun j hj => (HR.out.base j hj).1)
        have hT := HT.out k
        subst hkn
        go_wp2_with (first
          | (at_builtin; refine wpList_push rfl (.tmp 57) (.tmp 59) 22 rfl i0 (.slice none 0 0) 24 Try.underlying22 hi hz0 hz1 hz2 rfl w1 hgr rfl rfl HR.out rfl hoff wr.heap.size rfl rfl (by simp; omega) (by simp; omega) ?_; rintro v1 w2 - hrow1 hg2))
        rw [hT] at hrow1
        go_wp2
        go_roundw
        case rel => first | exact ⟨k + 1, by omega, by go_num, hrow1, hg2⟩ | ((repeat apply Exists.intro); exact ⟨⟨k + 1, by omega, by go_num, hrow1, hg2⟩, rfl⟩)
        case measure => simp [intOf]; omega
      · have hkn' : ¬ (k : Int) = n := by omega
        by_cases hkm : k = m
        · have HD : Hid (da k = ls.getD n []) := Hd.out.2.1 k hkn hkm
          have hoff : Off Bs u5.ownBlock wr (.slice an nn cn) (da k) := by rw [HD.out]; exact Off.old Bs.stays (hbn.grow hgA) hgr (fun j hj => (HR.out.base j hj).1)
          have hT := HT.out k
          subst hkm
          go_wp2_with (first
            | (at_builtin; refine wpList_push rfl (.tmp 57) (.tmp 59) 22 rfl i0 (.slice none 0 0) 24 Try.underlying22 hi hz0 hz1 hz2 rfl w1 hgr rfl rfl HR.out rfl hoff wr.heap.size rfl rfl (by simp; omega) (by simp; omega) ?_; rintro v1 w2 - hrow1 hg2))
          rw [hT] at hrow1
          go_wp2
          go_roundw
          case rel => first | exact ⟨k + 1, by omega, by go_num, hrow1, hg2⟩ | ((repeat apply Exists.intro); exact ⟨⟨k + 1, by omega, by go_num, hrow1, hg2⟩, rfl⟩)
          case measure => simp [intOf]; omega
        · have hkm' : ¬ (k : Int) = m := by omega
          have HD : Hid (da k = ls.getD k []) := Hd.out.2.2 k hkn hkm
          have hoff : Off Bs u5.ownBlock wr (.slice ak nk ck) (da k) := by rw [HD.out]; exact Off.old Bs.stays (hbk.grow hgA) hgr (fun j hj => (HR.out.base j hj).1)
          have hT := HT.out k
          go_wp2_with (first
            | (at_builtin; refine wpList_push rfl (.tmp 57) (.tmp 59) 22 rfl i0 (.slice none 0 0) 24 Try.underlying22 hi hz0 hz1 hz2 rfl w1 hgr rfl rfl HR.out rfl hoff wr.heap.size rfl rfl (by simp; omega) (by simp; omega) ?_; rintro v1 w2 - hrow1 hg2))
          rw [hT] at hrow1
          go_wp2
          go_roundw
          case rel => first | exact ⟨k + 1, by omega, by go_num, hrow1, hg2⟩ | ((repeat apply Exists.intro); exact ⟨⟨k + 1, by omega, by go_num, hrow1, hg2⟩, rfl⟩)
          case measure => simp [intOf]; omega
    · obtain rfl : k = 9 := by omega
      go_wp2
      go_ret
      exact ⟨_, rfl, by rw [HDL.out]; exact HR.out.done, hgA.trans hgr⟩

theorem refDo_any (v dv : Value) (ls : List (List Int)) (x : DeedP) (w : World) (h : Bss w v ls) (hd : DeedV w dv x) (hl : ls.length = 9) (hr : wrongE x = 0) :
    Calls Try.prog 50 #[v, dv] w fun e w' => ∃ r, e = .returned r ∧ Bss w' r (doL ls x) ∧ Grow w w' := by
  obtain ⟨hk, hn0, hn8, -, h2⟩ := right_deed hr
  rcases hk with hk | hk
  · exact refDo_write v dv ls x w h hd hl hk
  · exact refDo_swap v dv ls x w h hd hl hk (by omega) (whereE_zero (h2 hk).1)

end Go.Proofs.Ytjggiameajndgab

/-
  Plain: what a deed's intent is: a stripe's data spread over blocks, the deed done, gathered again, and the xor of it.
-/
namespace Go.Proofs.Ytjggiameajndgab

/-- Blocks of which the first k that are of stripe s are what that has. -/
def spreadTo (ds : List (List Int)) (s : Nat) (k : Nat) : List (List Int) := (List.range 9).map fun n => if n < k ∧ sOf (n : Nat) = s then ds.getD (dOf (n : Nat)) [] else nought

theorem spreadTo_length (ds : List (List Int)) (s k : Nat) : (spreadTo ds s k).length = 9 := by simp [spreadTo]
theorem spreadTo_zero (ds : List (List Int)) (s : Nat) : spreadTo ds s 0 = List.replicate 9 nought := by simp [spreadTo]; rfl

theorem spreadTo_in {ds : List (List Int)} {s k : Nat} (h : sOf (k : Nat) = s) : (spreadTo ds s k).set k (ds.getD (dOf (k : Nat)) []) = spreadTo ds s (k + 1) := by
  refine List.ext_getElem (by simp [spreadTo]) fun i h1 h2 => ?_
  rw [List.getElem_set]
  simp only [spreadTo, List.getElem_map, List.getElem_range]
  split
  · rename_i e; subst e; rw [if_pos ⟨by omega, h⟩]
  · by_cases hi : i < k ∧ sOf (i : Nat) = s
    · rw [if_pos hi, if_pos ⟨by omega, hi.2⟩]
    · rw [if_neg hi, if_neg (fun hc => hi ⟨by omega, hc.2⟩)]

theorem spreadTo_out {ds : List (List Int)} {s k : Nat} (h : sOf (k : Nat) ≠ s) : spreadTo ds s k = spreadTo ds s (k + 1) := by
  refine List.map_congr_left fun i _ => ?_
  by_cases hi : i < k ∧ sOf (i : Nat) = s
  · rw [if_pos hi, if_pos ⟨by omega, hi.2⟩]
  · rw [if_neg hi, if_neg (fun hc => hi ⟨by
      by_cases e : i = k
      · subst e; exact absurd hc.2 h
      · omega, hc.2⟩)]

/-- Of the first k blocks those of stripe s, by disks. -/
def outTo (bl : List (List Int)) (s : Nat) : Nat → List (List Int)
  | 0 => List.replicate 4 []
  | k + 1 => if sOf (k : Nat) = s then (outTo bl s k).set (dOf (k : Nat)) (bl.getD k []) else outTo bl s k

/-- The same, in a row. -/
def rowTo (bl : List (List Int)) (s : Nat) : Nat → List (List Int)
  | 0 => []
  | k + 1 => if sOf (k : Nat) = s then rowTo bl s k ++ [bl.getD k []] else rowTo bl s k

theorem outTo_length (bl : List (List Int)) (s : Nat) : ∀ k, (outTo bl s k).length = 4
  | 0 => rfl
  | k + 1 => by
    rw [outTo]
    split
    · rw [List.length_set]; exact outTo_length bl s k
    · exact outTo_length bl s k

theorem rowTo_length (bl : List (List Int)) (s : Nat) : ∀ k, (rowTo bl s k).length ≤ k
  | 0 => Nat.le_refl _
  | k + 1 => by
    have := rowTo_length bl s k
    rw [rowTo]
    split
    · simp; omega
    · omega

theorem outTo_in {bl : List (List Int)} {s k : Nat} (h : sOf (k : Nat) = s) : (outTo bl s k).set (dOf (k : Nat)) (bl.getD k []) = outTo bl s (k + 1) := by rw [outTo, if_pos h]
theorem outTo_out {bl : List (List Int)} {s k : Nat} (h : sOf (k : Nat) ≠ s) : outTo bl s k = outTo bl s (k + 1) := by rw [outTo, if_neg h]
theorem rowTo_in {bl : List (List Int)} {s k : Nat} (h : sOf (k : Nat) = s) : rowTo bl s k ++ [bl.getD k []] = rowTo bl s (k + 1) := by rw [rowTo, if_pos h]
theorem rowTo_out {bl : List (List Int)} {s k : Nat} (h : sOf (k : Nat) ≠ s) : rowTo bl s k = rowTo bl s (k + 1) := by rw [rowTo, if_neg h]

/-- What the disks of stripe s are to have. -/
def planOut (bl : List (List Int)) (s : Nat) : List (List Int) := (outTo bl s 9).set (3 - s) (xorAll (rowTo bl s 9))

/-- Blocks behind a deed, of stripe s those that it has. -/
def planBl (a : ArrP) (x : DeedP) : List (List Int) := doL (spreadTo (dataL (cellsL a (sOf x.n)) (sOf x.n)) (sOf x.n) 9) x

def planE (a : ArrP) (x : DeedP) : Int := if wrongE x ≠ 0 then wrongE x else dataE (cellsL a (sOf x.n)) (sOf x.n)
def planI (a : ArrP) (x : DeedP) : Int × List (List Int) := if planE a x ≠ 0 then (0, []) else ((sOf x.n : Int), makeL (planOut (planBl a x) (sOf x.n)) (sOf x.n))

theorem rowTo_blocks {bl : List (List Int)} (h4 : ∀ b ∈ bl, b.length = 4) (hl : bl.length = 9) (s : Nat) : ∀ k, k ≤ 9 → ∀ b ∈ rowTo bl s k, b.length = 4
  | 0, _ => by simp [rowTo]
  | k + 1, hk => by
    rw [rowTo]
    split
    · intro b hb
      rcases List.mem_append.1 hb with hb | hb
      · exact rowTo_blocks h4 hl s k (by omega) b hb
      · simp only [List.mem_singleton] at hb
        rw [hb]
        exact h4 _ (getD_mem (by omega))
    · exact rowTo_blocks h4 hl s k (by omega)

/-- What the disks are to have, written out. -/
theorem planOut_eq (bl : List (List Int)) (s : Nat) (hs : s < 3) : planOut bl s =
    if s = 0 then [bl.getD 0 [], bl.getD 1 [], bl.getD 2 [], xorAll [bl.getD 0 [], bl.getD 1 [], bl.getD 2 []]]
    else if s = 1 then [bl.getD 3 [], bl.getD 4 [], xorAll [bl.getD 3 [], bl.getD 4 [], bl.getD 5 []], bl.getD 5 []]
    else [bl.getD 6 [], xorAll [bl.getD 6 [], bl.getD 7 [], bl.getD 8 []], bl.getD 7 [], bl.getD 8 []] := by
  have h := fun n : Nat => show n < 9 → sOf (n : Nat) = n / 3 from fun hn => by
    simp only [sOf, whereS]
    rw [if_pos (by omega)]
    omega
  have h0 := h 0 (by omega)
  have h1 := h 1 (by omega)
  have h2 := h 2 (by omega)
  have h3 := h 3 (by omega)
  have h4 := h 4 (by omega)
  have h5 := h 5 (by omega)
  have h6 := h 6 (by omega)
  have h7 := h 7 (by omega)
  have h8 := h 8 (by omega)
  obtain rfl | rfl | rfl : s = 0 ∨ s = 1 ∨ s = 2 := by omega
  all_goals
    simp only [planOut, outTo, rowTo, h0, h1, h2, h3, h4, h5, h6, h7, h8]
    rfl

theorem planOut_length (bl : List (List Int)) (s : Nat) : (planOut bl s).length = 4 := by rw [planOut, List.length_set, outTo_length]

theorem planOut_blocks {bl : List (List Int)} (h4 : ∀ b ∈ bl, b.length = 4) (hl : bl.length = 9) {s : Nat} (hs : s < 3) : ∀ b ∈ planOut bl s, b.length = 4 := by
  have hg : ∀ k, k < 9 → (bl.getD k []).length = 4 := fun k hk => h4 _ (getD_mem (by omega))
  have hx : ∀ l, (xorAll l).length = 4 := fun l => by simp [xorAll]
  rw [planOut_eq bl s hs]
  intro b hb
  split at hb
  · simp only [List.mem_cons, List.not_mem_nil, or_false] at hb
    rcases hb with rfl | rfl | rfl | rfl
    · exact hg 0 (by omega)
    · exact hg 1 (by omega)
    · exact hg 2 (by omega)
    · exact hx _
  split at hb
  · simp only [List.mem_cons, List.not_mem_nil, or_false] at hb
    rcases hb with rfl | rfl | rfl | rfl
    · exact hg 3 (by omega)
    · exact hg 4 (by omega)
    · exact hx _
    · exact hg 5 (by omega)
  · simp only [List.mem_cons, List.not_mem_nil, or_false] at hb
    rcases hb with rfl | rfl | rfl | rfl
    · exact hg 6 (by omega)
    · exact hx _
    · exact hg 7 (by omega)
    · exact hg 8 (by omega)

theorem spread_blocks {ds : List (List Int)} (hd : ∀ b ∈ ds, b.length = 4) (hl : ds.length = 4) (s k : Nat) : ∀ b ∈ spreadTo ds s k, b.length = 4 := by
  intro b hb
  simp only [spreadTo, List.mem_map, List.mem_range] at hb
  obtain ⟨n, hn, rfl⟩ := hb
  split
  · have := (where_bd (n := (n : Int)) (by omega)).2.2.2.1
    exact hd _ (getD_mem (by omega))
  · rfl

theorem doL_blocks {ls : List (List Int)} {x : DeedP} (h4 : ∀ b ∈ ls, b.length = 4) (hl : ls.length = 9) (hr : wrongE x = 0) : ∀ b ∈ doL ls x, b.length = 4 := by
  obtain ⟨hk, hn0, hn8, h1, h2⟩ := right_deed hr
  intro b hb
  simp only [doL, List.mem_map, List.mem_range] at hb
  obtain ⟨i, hi, rfl⟩ := hb
  unfold doAt
  split
  · rename_i h; exact (h1 h.1).2
  split
  · rename_i h
    have := whereE_zero (h2 h.1).1
    exact h4 _ (getD_mem (by omega))
  split
  · exact h4 _ (getD_mem (by omega))
  · exact h4 _ (getD_mem (by omega))

end Go.Proofs.Ytjggiameajndgab

/-
  The two outright statements of chapter 2, walked: unlike cells look unlike; rot is found, and a wrong place. They return true, and nothing old turns.
-/
namespace Go.Proofs.Ytjggiameajndgab
open Go.RowKit

theorem read_yes (v : Value) (l : List Int) (d s : Int) (w : World) (hl : l.length = 4) (h : Bs w v (cellOf d s l)) :
    Calls Try.prog 73 #[v, .int .i64 d, .int .i64 s] w fun e w' => ∃ r, e = .returned (.tuple #[r, .int .i64 0]) ∧ Bs w' r l ∧ Grow w w' :=
  (read_any v _ d s w h).mono fun e w' ⟨r, he, hb, hg⟩ => by
    have := read_cell (d := d) (s := s) hl d s
    simp only [and_self, if_true] at this
    rw [this.1] at hb
    rw [this.2] at he
    exact ⟨r, he, hb, hg⟩

theorem read_no (v : Value) (l : List Int) (d s d' s' : Int) (w : World) (hl : l.length = 4) (hne : ¬ (d = d' ∧ s = s')) (h : Bs w v (cellOf d s l)) :
    Calls Try.prog 73 #[v, .int .i64 d', .int .i64 s'] w fun e w' => ∃ r, e = .returned (.tuple #[r, .int .i64 8]) ∧ Grow w w' :=
  (read_any v _ d' s' w h).mono fun e w' ⟨r, he, hb, hg⟩ => by
    have := read_cell (d := d) (s := s) hl d' s'
    rw [if_neg hne, if_neg hne] at this
    rw [this.2] at he
    exact ⟨r, he, hg⟩

theorem there_yes (d s : Int) (w : World) (h : 0 ≤ d ∧ d < 4 ∧ 0 ≤ s ∧ s < 3) : Calls Try.prog 97 #[.int .i64 d, .int .i64 s] w fun e w' => e = .returned (.bool true) ∧ w' = w := by
  rw [← show thereB d s = true from decide_eq_true h]; exact there_any d s w

theorem there_no (d s : Int) (w : World) (h : ¬ (0 ≤ d ∧ d < 4 ∧ 0 ≤ s ∧ s < 3)) : Calls Try.prog 97 #[.int .i64 d, .int .i64 s] w fun e w' => e = .returned (.bool false) ∧ w' = w := by
  rw [← show thereB d s = false from decide_eq_false h]; exact there_any d s w

theorem octets_abcd : Octets [97, 98, 99, 100] := by intro x hx; simp at hx; omega

theorem str_abcd : strOfNums [97, 98, 99, 100] = { data := #[97, 98, 99, 100] } := rfl

theorem read_rot (v : Value) (l : List Int) (d s : Int) (k : Nat) (c : Int) (w : World) (hd : 0 ≤ d ∧ d ≤ 255) (hs : 0 ≤ s ∧ s ≤ 255) (ho : Octets l) (hk : k < (cellOf d s l).length) (hc : 0 ≤ c ∧ c ≤ 255) (hne : (cellOf d s l).getD k 0 ≠ c) (h : Bs w v ((cellOf d s l).set k c)) :
    Calls Try.prog 73 #[v, .int .i64 d, .int .i64 s] w fun e w' => ∃ r, e = .returned (.tuple #[r, .int .i64 7]) ∧ Grow w w' :=
  (read_any v _ d s w h).mono fun e w' ⟨r, he, hb, hg⟩ => by
    rw [(read_turned hd hs ho hk hc hne d s).2] at he
    exact ⟨r, he, hg⟩

end Go.Proofs.Ytjggiameajndgab

/-
  What the program's Spare, Where and Block return; the reference's Spare on from 0. The program's make nothing.
-/
namespace Go.Proofs.Ytjggiameajndgab
open Go.RowKit

set_option maxRecDepth 20000 in
set_option maxHeartbeats 400000 in
theorem spare_any (s : Int) (w : World) (h0 : 0 ≤ s) (h1 : s ≤ 9223372036854775807) :
    Calls Try.prog 91 #[.int .i64 s] w fun e w' => e = .returned (.int .i64 (3 - s % 4)) ∧ w' = w := by
  go_enter Try.func91, Try.ntmps91
  go_wp2
  go_ret
  exact ⟨rfl, rfl⟩

set_option maxRecDepth 20000 in
set_option maxHeartbeats 400000 in
theorem spare_low (s : Int) (w : World) (h0 : 0 ≤ s) (h1 : s < 3) :
    Calls Try.prog 91 #[.int .i64 s] w fun e w' => e = .returned (.int .i64 (3 - s)) ∧ w' = w :=
  (spare_any s w h0 (by omega)).mono fun e w' ⟨he, hw⟩ => ⟨he.trans (ret_int (by omega)), hw⟩

set_option maxRecDepth 20000 in
set_option maxHeartbeats 400000 in
theorem refSpare_on (s : Int) (w : World) (h0 : 0 ≤ s) (h1 : s ≤ 9223372036854775807) :
    Calls Try.prog 76 #[.int .i64 s] w fun e w' => e = .returned (.int .i64 (3 - s % 4)) ∧ Grow w w' := by
  obtain h | h | h | h : s % 4 = 0 ∨ s % 4 = 1 ∨ s % 4 = 2 ∨ s % 4 = 3 := by omega
  all_goals
    rw [h]
    go_enter Try.func76, Try.ntmps76
    go_wp2
    go_ret
    exact ⟨rfl, Grow.alloc _ _⟩

set_option maxRecDepth 20000 in
set_option maxHeartbeats 1600000 in
theorem where_any (b : Int) (w : World) :
    Calls Try.prog 72 #[.int .i64 b] w fun e w' => e = .returned (.tuple #[.int .i64 (whereD b), .int .i64 (whereS b), .int .i64 (whereE b)]) ∧ w' = w := by
  by_cases hp : 0 ≤ b ∧ b < 9
  · obtain rfl | rfl | rfl | rfl | rfl | rfl | rfl | rfl | rfl : b = 0 ∨ b = 1 ∨ b = 2 ∨ b = 3 ∨ b = 4 ∨ b = 5 ∨ b = 6 ∨ b = 7 ∨ b = 8 := by omega
    all_goals
      go_enter Try.func72, Try.ntmps72
      go_wp2_with fail
      refine (spare_any _ _ (by omega) (by omega)).mono ?_
      rintro e w1 ⟨rfl, rfl⟩
      go_wp2_with fail
      go_ret3
      exact ⟨rfl, rfl⟩
  · have hw := where_out hp
    obtain ⟨h1, h2, h3⟩ := hw
    have hout : b < 0 ∨ (0 ≤ b ∧ 9 ≤ b) := by omega
    clear hp
    rcases hout with h | ⟨h, g⟩
    all_goals
      go_enter Try.func72, Try.ntmps72
      go_wp2
      go_ret3
      exact ⟨ret_int3 h1.symm h2.symm h3.symm, rfl⟩

set_option maxRecDepth 20000 in
set_option maxHeartbeats 1600000 in
theorem block_any (d s : Int) (w : World) :
    Calls Try.prog 96 #[.int .i64 d, .int .i64 s] w fun e w' => e = .returned (.tuple #[.int .i64 (blockN d s), .int .i64 (blockE d s)]) ∧ w' = w := by
  by_cases hp : 0 ≤ d ∧ d < 4 ∧ 0 ≤ s ∧ s < 3
  · have hT := fun w1 => there_yes d s w1 hp
    obtain ⟨hd0, hd1, hs0, hs1⟩ := hp
    obtain rfl | rfl | rfl | rfl : d = 0 ∨ d = 1 ∨ d = 2 ∨ d = 3 := by omega
    all_goals
      obtain rfl | rfl | rfl : s = 0 ∨ s = 1 ∨ s = 2 := by omega
      all_goals
        go_enter Try.func96, Try.ntmps96
        go_wp2_with fail
        refine (hT _).mono ?_
        rintro e w1 ⟨rfl, rfl⟩
        go_wp2_with fail
        refine (spare_any _ _ (by omega) (by omega)).mono ?_
        rintro e w1 ⟨rfl, rfl⟩
        go_wp2_with fail
        go_ret2
        exact ⟨rfl, rfl⟩
  · have HB : Hid (blockN d s = 0 ∧ blockE d s = 3) := by rw [Hid, blockN, blockE, if_neg hp, if_neg hp]; exact ⟨rfl, rfl⟩
    have hT := fun w1 => there_no d s w1 hp
    clear hp
    go_enter Try.func96, Try.ntmps96
    go_wp2_with fail
    refine (hT _).mono ?_
    rintro e w1 ⟨rfl, rfl⟩
    go_wp2_with fail
    go_ret2
    exact ⟨ret_int2 HB.out.1.symm HB.out.2.symm, rfl⟩

end Go.Proofs.Ytjggiameajndgab

/-
  Plain: deeds that name no block in common may change places; what is done twice.
-/
namespace Go.Proofs.Ytjggiameajndgab

/-- Does a deed name a block? -/
def namesB (x : DeedP) (n : Int) : Bool := decide (n = x.n ∨ (x.k = 2 ∧ n = x.m))

theorem getD_ext {a b : List (List Int)} (hl : a.length = b.length) (h : ∀ i, i < a.length → a.getD i [] = b.getD i []) : a = b := by
  refine List.ext_getElem hl fun i g1 g2 => ?_
  have := h i g1
  rw [List.getD_eq_getElem?_getD, List.getD_eq_getElem?_getD, List.getElem?_eq_getElem g1, List.getElem?_eq_getElem g2] at this
  exact this

theorem doL_at {ls : List (List Int)} {x : DeedP} {i : Nat} (h : i < ls.length) : (doL ls x).getD i [] = doAt ls x i := by
  simp [doL, List.getD_eq_getElem?_getD, h]

theorem doAt_free {ls : List (List Int)} {x : DeedP} {i : Nat} (h : namesB x i = false) : doAt ls x i = ls.getD i [] := by
  have h' : ¬ ((i : Int) = x.n ∨ (x.k = 2 ∧ (i : Int) = x.m)) := of_decide_eq_false h
  rw [doAt, if_neg (fun hc => h' (.inl hc.2)), if_neg (fun hc => h' (.inl hc.2)), if_neg (fun hc => h' (.inr hc))]

theorem named_n (x : DeedP) : namesB x x.n = true := by simp [namesB]
theorem named_m {x : DeedP} (h : x.k = 2) : namesB x x.m = true := by simp [namesB, h]

/-- What a deed makes of a block that it names hangs on those alone that it names. -/
theorem doAt_congr {ls ms : List (List Int)} {x : DeedP} (hr : wrongE x = 0) (h : ∀ j : Nat, j < 9 → namesB x j = true → ls.getD j [] = ms.getD j []) {i : Nat} (hi : i < 9) (hn : namesB x i = true) : doAt ls x i = doAt ms x i := by
  obtain ⟨hk, hn0, hn8, h1, h2⟩ := right_deed hr
  unfold doAt
  split
  · rfl
  split
  · rename_i hc
    have hm := whereE_zero (h2 hc.1).1
    refine h x.m.toNat (by omega) ?_
    rw [show ((x.m.toNat : Nat) : Int) = x.m from by omega]
    exact named_m hc.1
  split
  · refine h x.n.toNat (by omega) ?_
    rw [show ((x.n.toNat : Nat) : Int) = x.n from by omega]
    exact named_n x
  · exact h i hi hn

theorem do_apart {ls : List (List Int)} {a b : DeedP} (hl : ls.length = 9) (ha : wrongE a = 0) (hb : wrongE b = 0) (hap : ∀ n : Nat, n < 9 → ¬ (namesB a n = true ∧ namesB b n = true)) : doL (doL ls a) b = doL (doL ls b) a := by
  have hla : (doL ls a).length = 9 := by rw [doL_length, hl]
  have hlb : (doL ls b).length = 9 := by rw [doL_length, hl]
  have key : ∀ {x y : DeedP}, wrongE x = 0 → (∀ n : Nat, n < 9 → ¬ (namesB x n = true ∧ namesB y n = true)) → ∀ i : Nat, i < 9 → namesB y i = false → doAt (doL ls x) y i = doAt (doL ls y) x i := by
    intro x y hx hxy i hi hy
    rw [doAt_free hy, doL_at (by omega)]
    cases hxi : namesB x i with
    | true =>
      refine doAt_congr hx (fun j hj hxj => ?_) hi hxi
      rw [doL_at (by omega), doAt_free (x := y)]
      cases hyj : namesB y j with
      | false => rfl
      | true => exact absurd ⟨hxj, hyj⟩ (hxy j hj)
    | false => rw [doAt_free hxi, doAt_free hxi, doL_at (by omega), doAt_free hy]
  refine getD_ext (by simp only [doL_length]) fun i hi => ?_
  have hi9 : i < 9 := by simp only [doL_length, hl] at hi; exact hi
  rw [doL_at (by omega), doL_at (by omega)]
  cases hbi : namesB b i with
  | false => exact key ha hap i hi9 hbi
  | true =>
    have hai : namesB a i = false := by
      cases hai : namesB a i with
      | false => rfl
      | true => exact absurd ⟨hai, hbi⟩ (hap i hi9)
    exact (key hb (fun n hn hc => hap n hn ⟨hc.2, hc.1⟩) i hi9 hai).symm

theorem do_free {ls : List (List Int)} {a b : DeedP} (hl : ls.length = 9) {n : Nat} (hn : n < 9) (ha : namesB a n = false) (hb : namesB b n = false) : (doL (doL ls a) b).getD n [] = ls.getD n [] := by
  rw [doL_at (by rw [doL_length]; omega), doAt_free hb, doL_at (by omega), doAt_free ha]

/-- Two that change, and change again. -/
theorem do_swap_back {ls : List (List Int)} {x : DeedP} (hl : ls.length = 9) (hr : wrongE x = 0) (hk : x.k = 2) : doL (doL ls x) x = ls := by
  obtain ⟨-, hn0, hn8, -, h2⟩ := right_deed hr
  have hm := whereE_zero (h2 hk).1
  refine getD_ext (by rw [doL_length, doL_length]) fun i hi => ?_
  have hi9 : i < 9 := by rw [doL_length, doL_length, hl] at hi; exact hi
  rw [doL_at (by rw [doL_length]; omega)]
  have at_n : (doL ls x).getD x.n.toNat [] = ls.getD x.m.toNat [] := by rw [doL_at (by omega)]; exact doAt_n hk (by omega)
  have at_m : (doL ls x).getD x.m.toNat [] = ls.getD x.n.toNat [] := by
    rw [doL_at (by omega)]
    by_cases hnm : x.n = x.m
    · rw [doAt_n hk (by omega), hnm]
    · exact doAt_m hk (by omega) (by omega)
  by_cases hin : (i : Int) = x.n
  · rw [doAt_n hk hin, at_m, show x.n.toNat = i from by omega]
  · by_cases him : (i : Int) = x.m
    · rw [doAt_m hk hin him, at_n, show x.m.toNat = i from by omega]
    · rw [doAt_out hk hin him, doL_at (by omega), doAt_out hk hin him]

/-- What is written twice is as if it had been once. -/
theorem do_write_twice {ls : List (List Int)} {x : DeedP} (hl : ls.length = 9) (hk : x.k = 1) : doL (doL ls x) x = doL ls x := by
  refine getD_ext (by rw [doL_length]) fun i hi => ?_
  have hi9 : i < 9 := by rw [doL_length, doL_length, hl] at hi; exact hi
  rw [doL_at (by rw [doL_length]; omega)]
  by_cases hin : (i : Int) = x.n
  · rw [doAt_data hk hin, doL_at (by omega), doAt_data hk hin]
  · rw [doAt_old hk hin]

theorem do_write_at {ls : List (List Int)} {x : DeedP} (hl : ls.length = 9) (hr : wrongE x = 0) (hk : x.k = 1) : (doL ls x).getD x.n.toNat [] = x.d := by
  obtain ⟨-, hn0, hn8, -, -⟩ := right_deed hr
  rw [doL_at (by omega)]
  exact doAt_data hk (by omega)

theorem doL_four {ls : List (List Int)} {x : DeedP} (h4 : ∀ b ∈ ls, b.length = 4) (hl : ls.length = 9) (hr : wrongE x = 0) : ∀ b ∈ doL ls x, b.length = 4 := by
  obtain ⟨hk, hn0, hn8, h1, h2⟩ := right_deed hr
  have hg : ∀ k, k < 9 → (ls.getD k []).length = 4 := fun k hk => h4 _ (getD_mem (by omega))
  intro b hb
  simp only [doL, List.mem_map, List.mem_range] at hb
  obtain ⟨i, hi, rfl⟩ := hb
  unfold doAt
  split
  · rename_i h; exact (h1 h.1).2
  split
  · rename_i h
    have := whereE_zero (h2 h.1).1
    exact hg _ (by omega)
  split
  · exact hg _ (by omega)
  · exact hg _ (by omega)

end Go.Proofs.Ytjggiameajndgab

/-
  New blocks, and their cells.
-/
namespace Go.Proofs.Ytjggiameajndgab
open Go.RowKit

/-- Three new blocks. -/
theorem heap3 (w : World) (o1 o2 o3 : Obj) : (((w.alloc o1).alloc o2).alloc o3).heap[w.heap.size]? = some o1 ∧ (((w.alloc o1).alloc o2).alloc o3).heap[w.heap.size + 1]? = some o2 ∧ (((w.alloc o1).alloc o2).alloc o3).heap[w.heap.size + 1 + 1]? = some o3 :=
  ⟨(heap_alloc_old _ _ (by simp; omega)).trans ((heap_alloc_old _ _ (by simp)).trans (heap_alloc_new w o1)), (heap_alloc_old _ _ (by simp)).trans (heap_alloc2_new w o1 o2), by
    have := heap_alloc2_new (w.alloc o1) o2 o3
    simpa using this⟩

theorem row_at {w : World} {A : Nat} {cs : Array Value} {t : TypeId} {mk : Nat × Nat} (h : w.heap[A]? = some (.cells cs t mk)) (k : Nat) {v : Value} (hk : cs[k]? = some v) : w.cell? ⟨A, k, none⟩ = some v := by rw [cell_of_row w A k _ _ _ h]; exact hk

end Go.Proofs.Ytjggiameajndgab

/-
  What the program's model.Wrong returns, by its parts. Nothing old turns.
-/
namespace Go.Proofs.Ytjggiameajndgab
open Go.RowKit

set_option maxRecDepth 20000 in
set_option maxHeartbeats 800000 in
theorem inOne_yes (n m : Int) (w : World) (h1 : whereE n = 0) (h2 : whereE m = 0) (h3 : whereS n = whereS m) :
    Calls Try.prog 80 #[.int .i64 n, .int .i64 m] w fun e w' => e = .returned (.bool true) ∧ w' = w := by
  have hN := fun w1 => where_any n w1
  have hM := fun w1 => where_any m w1
  rw [h1, h3] at hN
  rw [h2] at hM
  clear h1 h2 h3
  generalize whereS m = s at *
  generalize whereD m = d at *
  generalize whereD n = d' at *
  go_enter Try.func80, Try.ntmps80
  go_wp2_with fail
  refine (hN _).mono ?_
  rintro e w1 ⟨rfl, rfl⟩
  go_wp2_with fail
  refine (hM _).mono ?_
  rintro e w1 ⟨rfl, rfl⟩
  go_wp2
  go_ret
  exact ⟨rfl, rfl⟩

set_option maxRecDepth 20000 in
set_option maxHeartbeats 1600000 in
theorem inOne_no (n m : Int) (w : World) (h : ¬ (whereE n = 0 ∧ whereE m = 0 ∧ whereS n = whereS m)) :
    Calls Try.prog 80 #[.int .i64 n, .int .i64 m] w fun e w' => e = .returned (.bool false) ∧ w' = w := by
  have hN := fun w1 => where_any n w1
  have hM := fun w1 => where_any m w1
  generalize whereE n = en at *
  generalize whereE m = em at *
  generalize whereS n = s' at *
  generalize whereS m = s at *
  generalize whereD m = d at *
  generalize whereD n = d' at *
  by_cases h1 : en = 0
  · by_cases h2 : em = 0
    · have h3 : (s' == s) = false := by rw [beq_eq_false_iff_ne]; exact fun h3 => h ⟨h1, h2, h3⟩
      subst h1 h2
      clear h
      go_enter Try.func80, Try.ntmps80
      go_wp2_with fail
      refine (hN _).mono ?_
      rintro e w1 ⟨rfl, rfl⟩
      go_wp2_with fail
      refine (hM _).mono ?_
      rintro e w1 ⟨rfl, rfl⟩
      go_wp2
      go_ret
      exact ⟨rfl, rfl⟩
    · have h2' : (em == 0) = false := by simpa using h2
      subst h1
      clear h h2
      go_enter Try.func80, Try.ntmps80
      go_wp2_with fail
      refine (hN _).mono ?_
      rintro e w1 ⟨rfl, rfl⟩
      go_wp2_with fail
      refine (hM _).mono ?_
      rintro e w1 ⟨rfl, rfl⟩
      go_wp2
      go_ret
      exact ⟨rfl, rfl⟩
  · have h1' : (en == 0) = false := by simpa using h1
    clear h h1
    go_enter Try.func80, Try.ntmps80
    go_wp2_with fail
    refine (hN _).mono ?_
    rintro e w1 ⟨rfl, rfl⟩
    go_wp2_with fail
    refine (hM _).mono ?_
    rintro e w1 ⟨rfl, rfl⟩
    go_wp2
    go_ret
    exact ⟨rfl, rfl⟩

theorem whereE_in {n : Int} (h : 0 ≤ n ∧ n ≤ 8) : whereE n = 0 := by rw [whereE, if_pos (by omega)]
theorem whereE_out {n : Int} (h : n < 0 ∨ 8 < n) : whereE n = 3 := by rw [whereE, if_neg (by omega)]

set_option maxRecDepth 20000 in
set_option maxHeartbeats 1600000 in
theorem wrongWrite_any (v : Value) (x : DeedP) (w : World) (h : DeedV w v x) (hk : x.k = 1) :
    Calls Try.prog 55 #[v] w fun e w' => e = .returned (.int .i64 (wrongE x)) ∧ Grow w w' := by
  obtain ⟨dv, rfl, hb⟩ := h
  obtain ⟨ao, cap, rfl, h1, h2, -⟩ := hb
  unfold maxLen at h2
  have wn := w_n (x := x)
  have wm := w_m (x := x)
  have wl := w_len (x := x)
  have wo := w_ok (x := x)
  obtain ⟨k, n, m, d⟩ := x
  dsimp only at *
  subst hk
  generalize wrongE ⟨1, n, m, d⟩ = W at *
  generalize d.length = len at *
  have hgA : Grow w (w.alloc (.cells #[.int .i64 1, .int .i64 n, .int .i64 m, .slice ao len cap] 25)) := Grow.alloc _ _
  have hN := fun w1 => where_any n w1
  by_cases hn : 0 ≤ n ∧ n ≤ 8
  · rw [whereE_in hn] at hN
    by_cases hm : m = 0
    · subst hm
      by_cases hl : len = 4
      · have hW : W = 0 := wo rfl hn rfl hl
        subst hl hW
        clear wn wm wl wo hn
        go_enter Try.func55, Try.ntmps55
        go_wp2_with fail
        refine (hN _).mono ?_
        rintro e w1 ⟨rfl, rfl⟩
        go_wp2
        go_ret
        exact ⟨rfl, hgA⟩
      · have hW : W = 4 := wl rfl hn rfl hl
        have hl' : ¬ (len : Int) = 4 := by omega
        subst hW
        clear wn wm wl wo hn hl
        go_enter Try.func55, Try.ntmps55
        go_wp2_with fail
        refine (hN _).mono ?_
        rintro e w1 ⟨rfl, rfl⟩
        go_wp2
        go_ret
        exact ⟨rfl, hgA⟩
    · have hW : W = 3 := wm rfl hn hm
      subst hW
      clear wn wm wl wo hn
      go_enter Try.func55, Try.ntmps55
      go_wp2_with fail
      refine (hN _).mono ?_
      rintro e w1 ⟨rfl, rfl⟩
      go_wp2
      go_ret
      exact ⟨rfl, hgA⟩
  · rw [whereE_out (by omega)] at hN
    have hW : W = 3 := wn (.inl rfl) (by omega)
    subst hW
    clear wn wm wl wo hn
    go_enter Try.func55, Try.ntmps55
    go_wp2_with fail
    refine (hN _).mono ?_
    rintro e w1 ⟨rfl, rfl⟩
    go_wp2
    go_ret
    exact ⟨rfl, hgA⟩

set_option maxRecDepth 20000 in
set_option maxHeartbeats 1600000 in
theorem wrongSwap_any (v : Value) (x : DeedP) (w : World) (h : DeedV w v x) (hk : x.k = 2) :
    Calls Try.prog 56 #[v] w fun e w' => e = .returned (.int .i64 (wrongE x)) ∧ Grow w w' := by
  obtain ⟨dv, rfl, hb⟩ := h
  obtain ⟨ao, cap, rfl, h1, h2, -⟩ := hb
  unfold maxLen at h2
  have wn := w_n (x := x)
  have wa := w_at (x := x)
  have wu := w_much (x := x)
  have wp := w_ok2 (x := x)
  obtain ⟨k, n, m, d⟩ := x
  dsimp only at *
  subst hk
  generalize wrongE ⟨2, n, m, d⟩ = W at *
  generalize d.length = len at *
  have hgA : Grow w (w.alloc (.cells #[.int .i64 2, .int .i64 n, .int .i64 m, .slice ao len cap] 25)) := Grow.alloc _ _
  by_cases hn : whereE n = 0 ∧ whereE m = 0 ∧ whereS n = whereS m
  · have hI := fun w1 => inOne_yes n m w1 hn.1 hn.2.1 hn.2.2
    have hn8 : 0 ≤ n ∧ n ≤ 8 := by have := whereE_zero hn.1; omega
    have hnm : ¬ (whereE m ≠ 0 ∨ whereS n ≠ whereS m) := fun hc => by rcases hc with hc | hc; exact hc hn.2.1; exact hc hn.2.2
    by_cases hl : len = 0
    · have hW : W = 0 := wp rfl hn8 hnm hl
      subst hl hW
      clear wn wa wu wp hn hn8 hnm
      go_enter Try.func56, Try.ntmps56
      go_wp2_with fail
      refine (hI _).mono ?_
      rintro e w1 ⟨rfl, rfl⟩
      go_wp2
      go_ret
      exact ⟨rfl, hgA⟩
    · have hW : W = 4 := wu rfl hn8 hnm hl
      have hl' : ¬ (len : Int) = 0 := by omega
      subst hW
      clear wn wa wu wp hn hn8 hnm hl
      go_enter Try.func56, Try.ntmps56
      go_wp2_with fail
      refine (hI _).mono ?_
      rintro e w1 ⟨rfl, rfl⟩
      go_wp2
      go_ret
      exact ⟨rfl, hgA⟩
  · have hI := fun w1 => inOne_no n m w1 hn
    have hW : W = 3 := by
      by_cases h8 : 0 ≤ n ∧ n ≤ 8
      · refine wa rfl h8 ?_
        by_cases hm : whereE m = 0
        · exact .inr fun hs => hn ⟨whereE_in h8, hm, hs⟩
        · exact .inl hm
      · exact wn (.inr rfl) (by omega)
    subst hW
    clear wn wa wu wp hn
    go_enter Try.func56, Try.ntmps56
    go_wp2_with fail
    refine (hI _).mono ?_
    rintro e w1 ⟨rfl, rfl⟩
    go_wp2
    go_ret
    exact ⟨rfl, hgA⟩

set_option maxRecDepth 20000 in
set_option maxHeartbeats 1600000 in
theorem modelWrong_any (v : Value) (x : DeedP) (w : World) (h : DeedV w v x) : Calls Try.prog 15 #[v] w fun e w' => e = .returned (.int .i64 (wrongE x)) ∧ Grow w w' := by
  have hd := h
  obtain ⟨dv, rfl, hb⟩ := h
  obtain ⟨d1, d2, d3, rfl⟩ := hb.form
  have hg := Grow.alloc w (.cells #[.int .i64 x.k, .int .i64 x.n, .int .i64 x.m, .slice d1 d2 d3] 25)
  by_cases h1 : x.k = 1
  · have hW := wrongWrite_any _ x _ (hd.grow hg) h1
    clear hd hb
    generalize wrongE x = E at *
    rw [h1] at hW hg ⊢
    clear h1
    go_enter Try.func15, Try.ntmps15
    go_wp2_with fail
    refine hW.mono ?_
    rintro e w1 ⟨rfl, hg1⟩
    go_wp2
    go_ret
    exact ⟨rfl, hg.trans hg1⟩
  · by_cases h2 : x.k = 2
    · have hW := wrongSwap_any _ x _ (hd.grow hg) h2
      clear hd hb h1
      generalize wrongE x = E at *
      rw [h2] at hW hg ⊢
      clear h2
      go_enter Try.func15, Try.ntmps15
      go_wp2_with fail
      refine hW.mono ?_
      rintro e w1 ⟨rfl, hg1⟩
      go_wp2
      go_ret
      exact ⟨rfl, hg.trans hg1⟩
    · have hW : Hid (wrongE x = 1) := w_kind h1 h2
      go_enter Try.func15, Try.ntmps15
      go_wp2
      go_ret
      exact ⟨ret_int hW.out.symm, hg⟩

end Go.Proofs.Ytjggiameajndgab
