import Derived.Lib.SliceRun
import Derived.Lib.AppendZeros
import Derived.Test.YtjggiameajndgacJoin10
/-
  Plain: a stripe's data spread over blocks and gathered again, by disks. What blockAt and model.New return.
-/
namespace Go.Proofs.Ytjggiameajndgac
open Go.RowKit

/-- The block at a place that has one. -/
def bkN (s d : Nat) : Nat := 3 * s + (if d < 3 - s then d else d - 1)

theorem bkN_lt {s d : Nat} (hs : s < 3) (hd : d < 4) (_hn : d ≠ 3 - s) : bkN s d < 9 := by unfold bkN; split <;> omega

theorem blockN_yes {s d : Nat} (hs : s < 3) (hd : d < 4) (hn : d ≠ 3 - s) : blockN (d : Int) (s : Int) = (bkN s d : Nat) ∧ blockE (d : Int) (s : Int) = 0 := by
  refine ⟨?_, if_pos (by omega)⟩
  rw [blockN, if_pos (by omega), if_neg (by omega), bkN]
  by_cases h : d < 3 - s
  · rw [if_pos (by omega), if_pos h]; omega
  · rw [if_neg (by omega), if_neg h]; omega
theorem blockN_no {s d : Nat} (hs : s < 3) (hn : d = 3 - s) : blockN (d : Int) (s : Int) = -1 ∧ blockE (d : Int) (s : Int) = 0 := by
  refine ⟨?_, if_pos (by omega)⟩
  rw [blockN, if_pos (by omega), if_pos (by omega)]

/-- Blocks of which those of the first disks of stripe s are what that has. -/
def fillB (ls : List (List Int)) (s : Nat) : Nat → List (List Int)
  | 0 => List.replicate 9 nought
  | d + 1 => if d = 3 - s then fillB ls s d else (fillB ls s d).set (bkN s d) (ls.getD d [])

theorem fillB_length (ls : List (List Int)) (s : Nat) : ∀ d, (fillB ls s d).length = 9
  | 0 => rfl
  | d + 1 => by
    rw [fillB]
    split
    · exact fillB_length ls s d
    · rw [List.length_set]; exact fillB_length ls s d

theorem fillB_all (ls : List (List Int)) {s : Nat} (hs : s < 3) : fillB ls s 4 = spreadTo ls s 9 := by
  obtain rfl | rfl | rfl : s = 0 ∨ s = 1 ∨ s = 2 := by omega
  all_goals rfl

/-- What the first disks of stripe s are to have. -/
def outB (bl : List (List Int)) (s : Nat) : Nat → List (List Int)
  | 0 => List.replicate 4 []
  | d + 1 => if d = 3 - s then outB bl s d else (outB bl s d).set d (bl.getD (bkN s d) [])
/-- The same, in a row. -/
def rowB (bl : List (List Int)) (s : Nat) : Nat → List (List Int)
  | 0 => []
  | d + 1 => if d = 3 - s then rowB bl s d else rowB bl s d ++ [bl.getD (bkN s d) []]

theorem outB_length (bl : List (List Int)) (s : Nat) : ∀ k, (outB bl s k).length = 4
  | 0 => rfl
  | k + 1 => by
    rw [outB]
    split
    · exact outB_length bl s k
    · rw [List.length_set]; exact outB_length bl s k
theorem rowB_length (bl : List (List Int)) (s : Nat) : ∀ k, (rowB bl s k).length ≤ k
  | 0 => Nat.le_refl _
  | k + 1 => by
    have := rowB_length bl s k
    rw [rowB]
    split
    · omega
    · simp; omega
theorem rowB_blocks {bl : List (List Int)} (h4 : ∀ b ∈ bl, b.length = 4) (hl : bl.length = 9) {s : Nat} (hs : s < 3) : ∀ k, k ≤ 4 → ∀ b ∈ rowB bl s k, b.length = 4
  | 0, _ => by simp [rowB]
  | k + 1, hk => by
    rw [rowB]
    split
    · exact rowB_blocks h4 hl hs k (by omega)
    · rename_i hn
      intro b hb
      rcases List.mem_append.1 hb with hb | hb
      · exact rowB_blocks h4 hl hs k (by omega) b hb
      · simp only [List.mem_singleton] at hb
        rw [hb]
        exact h4 _ (getD_mem (by have := bkN_lt hs (show k < 4 by omega) hn; omega))

theorem planOut_behind (bl : List (List Int)) {s : Nat} (hs : s < 3) : planOut bl s = (outB bl s 4).set (3 - s) (xorAll (rowB bl s 4)) := by
  rw [planOut_eq bl s hs]
  obtain rfl | rfl | rfl : s = 0 ∨ s = 1 ∨ s = 2 := by omega
  all_goals rfl

set_option maxRecDepth 20000 in
set_option maxHeartbeats 800000 in
theorem blockAt_yes (d s : Nat) (w : World) (hs : s < 3) (hd : d < 4) (hn : d ≠ 3 - s) : Calls Try.prog 114 #[.int .i64 d, .int .i64 s] w fun e w' => e = .returned (.tuple #[.int .i64 (bkN s d : Nat), .bool true]) ∧ w' = w := by
  have hB := block_any (d : Int) (s : Int) w
  rw [(blockN_yes hs hd hn).1, (blockN_yes hs hd hn).2] at hB
  generalize bkN s d = b at *
  go_enter Try.func114, Try.ntmps114
  go_wp2_with fail
  refine hB.mono ?_
  rintro e w1 ⟨rfl, rfl⟩
  go_wp2
  go_ret2
  first
    | exact ⟨rfl, rfl⟩
    | simp
    | exact ⟨by simp, rfl⟩

set_option maxRecDepth 20000 in
set_option maxHeartbeats 800000 in
theorem blockAt_no (d s : Nat) (w : World) (hs : s < 3) (hn : d = 3 - s) : Calls Try.prog 114 #[.int .i64 d, .int .i64 s] w fun e w' => e = .returned (.tuple #[.int .i64 (-1), .bool false]) ∧ w' = w := by
  have hB := block_any (d : Int) (s : Int) w
  rw [(blockN_no hs hn).1, (blockN_no hs hn).2] at hB
  clear hn hs
  go_enter Try.func114, Try.ntmps114
  go_wp2_with fail
  refine hB.mono ?_
  rintro e w1 ⟨rfl, rfl⟩
  go_wp2
  go_ret2
  first
    | exact ⟨rfl, rfl⟩
    | simp
    | exact ⟨by simp, rfl⟩

set_option maxRecDepth 20000 in
set_option maxHeartbeats 800000 in
theorem modelNew_row (w : World) : Calls Try.prog 113 #[] w fun e w' => e = .returned (.slice (some ⟨w.heap.size, 0, none⟩) 9 9) ∧ Rowing Bs w.heap.size 52 w' (.slice (some ⟨w.heap.size, 0, none⟩) 9 9) (List.replicate 9 nought) ∧ Grow w w' := by
  have hmk := Try.made9 w
  have hst : Hid (Rowing Bs w.heap.size 52 (w.alloc (.cells nines 52)) (.slice (some ⟨w.heap.size, 0, none⟩) 9 9) (upTo (fun _ => nought) 0)) := by rw [upTo_zero]; exact Rowing.made9 w
  have hend : Hid (upTo (fun _ => nought) 9 = List.replicate 9 nought) := by rw [Hid, upTo_all]; rfl
  go_enter Try.func113, Try.ntmps113
  go_wp2
  go_loopw [6] (fun i wr => ∃ k : Nat, k ≤ 9 ∧ i = .int .i64 k ∧ Hid (Rowing Bs w.heap.size 52 wr (.slice (some ⟨w.heap.size, 0, none⟩) 9 9) (upTo (fun _ => nought) k)) ∧ Grow w wr) (fun i _ => 9 - (intOf i).toNat)
  case atStart => exact ⟨0, by omega, rfl, hst, Grow.alloc _ _⟩
  case round =>
    obtain ⟨k, hk, rfl, HR, hgr⟩ := hrel
    clear hst hmk
    by_cases hlt : k < 9
    · have hmk := Try.made4 wr
      have hgA : Grow wr (wr.alloc (.cells #[.int .u8 0, .int .u8 0, .int .u8 0, .int .u8 0] 5)) := Grow.alloc _ _
      have hrow := HR.out.grow hgA
      have hb : w.heap.size < wr.heap.size := (HR.out.base _ rfl).2
      have hoff : Off Bs (some w.heap.size) (wr.alloc (.cells #[.int .u8 0, .int .u8 0, .int .u8 0, .int .u8 0] 5)) (.slice (some ⟨wr.heap.size, 0, none⟩) 4 4) nought := Off.row (l := nought) (heap_alloc_new wr _) rfl (by unfold maxLen; omega) nought_oct (fun e => by injection e with e; omega)
      obtain ⟨⟨u0, hu0⟩, hf0⟩ := hrow.at (k := k) (by rw [upTo_length]; exact hlt)
      have hpast := World.setCell_alloc_past (w := wr) (.cells #[.int .u8 0, .int .u8 0, .int .u8 0, .int .u8 0] 5) w.heap.size k (.slice (some ⟨wr.heap.size, 0, none⟩) 4 4) hb
      have hrow1 := hrow.stored k hoff
      have hg1 := (hgr.trans hgA).grown (grown_set (wr.alloc (.cells #[.int .u8 0, .int .u8 0, .int .u8 0, .int .u8 0] 5)) w.heap.size k (.slice (some ⟨wr.heap.size, 0, none⟩) 4 4)) (fun j hj => by cases hj; exact Nat.le_refl _)
      rw [upTo_set (fun _ => nought) hlt, hpast] at hrow1
      rw [hpast] at hg1
      have HR1 : Hid (Rowing Bs _ _ _ _ _) := hrow1
      clear hrow1 hpast
      clear HR hgA hrow hoff
      go_wp2
      go_roundw
      case rel => first | exact ⟨k + 1, by omega, by go_num, HR1, hg1⟩ | ((repeat apply Exists.intro); exact ⟨⟨k + 1, by omega, by go_num, HR1, hg1⟩, rfl⟩)
      case measure => simp [intOf]; omega
    · obtain rfl : k = 9 := by omega
      go_wp2
      go_ret
      exact ⟨rfl, by rw [← hend.out]; exact HR.out, hgr⟩

end Go.Proofs.Ytjggiameajndgac

/-
  What the program's array.behind returns. Nothing old turns.
-/
namespace Go.Proofs.Ytjggiameajndgac
open Go.RowKit

set_option maxRecDepth 20000 in
set_option maxHeartbeats 6400000 in
theorem arrBehind_any (v dv : Value) (ls : List (List Int)) (s : Nat) (x : DeedP) (w : World) (h : Bss w v ls) (hl : ls.length = 4) (h4 : ∀ b ∈ ls, b.length = 4) (hs : s < 3) (hd : DeedV w dv x) (hr : wrongE x = 0) :
    Calls Try.prog 99 #[v, .int .i64 s, dv] w fun e w' => ∃ r, e = .returned r ∧ Bss w' r (planOut (doL (spreadTo ls s 9) x) s) ∧ Grow w w' := by
  obtain ⟨i0, hi, hz0, hz1, hz2⟩ := info_parts Try.infoS
  have HD : Hid (DeedV w dv x ∧ wrongE x = 0 ∧ ∀ b ∈ ls, b.length = 4) := ⟨hd, hr, h4⟩
  obtain ⟨tv, rfl, hb⟩ := hd
  obtain ⟨d1, d2, d3, rfl⟩ := hb.form
  obtain ⟨av, cv, rfl, hv1, hv2⟩ := h.form'
  have HV : Hid (Bss w (.slice av ls.length cv) ls) := h
  rw [hl] at hv1 HV ⊢
  have HE : Hid (∀ k, k < 4 → ∃ b off x1 x2 x3, av = some ⟨b, off, none⟩ ∧ w.cell? ⟨b, off + k, none⟩ = some (.slice x1 x2 x3) ∧ Bs w (.slice x1 x2 x3) (ls.getD k [])) := fun k hk => by
    obtain ⟨b, off, u, e1, e2, e3⟩ := h.elem (k := k) (by omega) []
    obtain ⟨x1, x2, x3, rfl⟩ := e3.form
    exact ⟨b, off, x1, x2, x3, e1, e2, e3⟩
  have HL : Hid (ls.length = 4) := hl
  obtain ⟨W, hW⟩ : ∃ W, W = w.alloc (.cells #[.int .i64 x.k, .int .i64 x.n, .int .i64 x.m, .slice d1 d2 d3] 54) := ⟨_, rfl⟩
  have hgW : Grow w W := by rw [hW]; exact Grow.alloc _ _
  have hbW : W.heap[w.heap.size]? = some (.cells #[.int .i64 x.k, .int .i64 x.n, .int .i64 x.m, .slice d1 d2 d3] 54 (0, 0)) := by rw [hW]; exact heap_alloc_new w _
  have q0 : W.cell? ⟨w.heap.size, 0, none⟩ = some (.int .i64 x.k) := row_at hbW 0 rfl
  have q1 : W.cell? ⟨w.heap.size, 1, none⟩ = some (.int .i64 x.n) := row_at hbW 1 rfl
  have q2 : W.cell? ⟨w.heap.size, 2, none⟩ = some (.int .i64 x.m) := row_at hbW 2 rfl
  have q3 : W.cell? ⟨w.heap.size, 3, none⟩ = some (.slice d1 d2 d3) := row_at hbW 3 rfl
  have hN := modelNew_row W
  clear hb h h4 hr hl hbW
  go_enter Try.func99, Try.ntmps99
  go_wp2_with fail
  rw [← hW]
  refine hN.mono ?_
  rintro e w1 ⟨rfl, hR0, hg1⟩
  clear hN hW
  have HR0 : Hid (Rowing Bs W.heap.size 52 w1 (.slice (some ⟨W.heap.size, 0, none⟩) 9 9) (fillB ls s 0)) := hR0
  have q0' := hg1.at q0
  have q1' := hg1.at q1
  have q2' := hg1.at q2
  have q3' := hg1.at q3
  clear hR0
  go_wp2_with fail
  go_loopw [19] (fun i wr => ∃ k : Nat, k ≤ 4 ∧ i = .int .i64 k ∧ Hid (Rowing Bs W.heap.size 52 wr (.slice (some ⟨W.heap.size, 0, none⟩) 9 9) (fillB ls s k)) ∧ Grow W wr) (fun i _ => 4 - (intOf i).toNat)
  case atStart => exact ⟨0, by omega, rfl, HR0, hg1⟩
  case round =>
    obtain ⟨k, hk, rfl, HR, hgr⟩ := hrel
    clear HR0
    by_cases hlt : k < 4
    · have hdk : decide ((k : Int) < 4) = true := by simp; omega
      by_cases hks : k = 3 - s
      · have hB := blockAt_no k s wr hs hks
        have HR1 : Hid (Rowing Bs W.heap.size 52 wr (.slice (some ⟨W.heap.size, 0, none⟩) 9 9) (fillB ls s (k + 1))) := by rw [Hid, fillB, if_pos hks]; exact HR.out
        clear HR hks
        go_wp2_with fail
        refine hB.mono ?_
        rintro e w2 ⟨rfl, rfl⟩
        clear hB
        go_wp2_with fail
        go_roundw
        case rel => first | exact ⟨k + 1, by omega, by go_num, HR1, hgr⟩ | ((repeat apply Exists.intro); exact ⟨⟨k + 1, by omega, by go_num, HR1, hgr⟩, rfl⟩)
        case measure => simp [intOf]; omega
      · have hB := blockAt_yes k s wr hs hlt hks
        have hb9 := bkN_lt hs hlt hks
        obtain ⟨b, off, x1, x2, x3, rfl, e2, e3⟩ := HE.out k hlt
        have e2' := (hgW.trans hgr).at e2
        obtain ⟨⟨u0, hu0⟩, hf0⟩ := HR.out.at (k := bkN s k) (by rw [fillB_length]; exact hb9)
        have hst := HR.out.stored (bkN s k) (Off.old (g := some W.heap.size) Bs.stays e3 (hgW.trans hgr) (fun j hj => by cases hj; exact hgW.size))
        have HR1 : Hid (Rowing Bs W.heap.size 52 (wr.setCell ⟨W.heap.size, bkN s k, none⟩ (.slice x1 x2 x3)) (.slice (some ⟨W.heap.size, 0, none⟩) 9 9) (fillB ls s (k + 1))) := by rw [Hid, fillB, if_neg hks]; exact hst
        have hg3 := hgr.set (g := W.heap.size) (k := bkN s k) (Nat.le_refl _) (.slice x1 x2 x3)
        clear HR hst hks e2 e3
        generalize bkN s k = bk at *
        have hb9' : (bk : Int) < 9 := by omega
        go_wp2_with fail
        refine hB.mono ?_
        rintro e w2 ⟨rfl, rfl⟩
        clear hB
        go_wp2_with fail
        go_roundw
        case rel => first | exact ⟨k + 1, by omega, by go_num, HR1, hg3⟩ | ((repeat apply Exists.intro); exact ⟨⟨k + 1, by omega, by go_num, HR1, hg3⟩, rfl⟩)
        case measure => simp [intOf]; omega
    · have HK : Hid (k = 4) := by rw [Hid]; omega
      have HS9 : Hid (Bss wr (.slice (some ⟨W.heap.size, 0, none⟩) 9 9) (spreadTo ls s 9)) := by
        have := HR.out.done
        rw [HK.out, fillB_all ls hs] at this
        exact this
      have hgw := hgW.trans hgr
      have hsb := spread_blocks HD.out.2.2 HL.out s 9
      have hDo := modelDo_any (.slice (some ⟨W.heap.size, 0, none⟩) 9 9) (.agg #[.int .i64 x.k, .int .i64 x.n, .int .i64 x.m, .slice d1 d2 d3]) (spreadTo ls s 9) x wr HS9.out (HD.out.1.grow hgw) (spreadTo_length _ _ _) hsb HD.out.2.1
      have Hb4 : Hid (∀ b ∈ doL (spreadTo ls s 9) x, b.length = 4) := doL_blocks hsb (spreadTo_length _ _ _) HD.out.2.1
      have Hb9 : Hid ((doL (spreadTo ls s 9) x).length = 9) := by rw [Hid, doL_length, spreadTo_length]
      have HPO : Hid (planOut (doL (spreadTo ls s 9) x) s = (outB (doL (spreadTo ls s 9) x) s 4).set (3 - s) (xorAll (rowB (doL (spreadTo ls s 9) x) s 4))) := planOut_behind _ hs
      have t0 := hgr.at q0
      have t1 := hgr.at q1
      have t2 := hgr.at q2
      have t3 := hgr.at q3
      clear HR HK hsb HS9 q0 q1 q2 q3
      go_wp2_with fail
      refine hDo.mono ?_
      rintro e w6 ⟨rb, rfl, hrb, hg6⟩
      clear hDo t0 t1 t2 t3
      have hgw6 := hgw.trans hg6
      generalize hbl : doL (spreadTo ls s 9) x = bl at *
      have HBL : Hid (doL (spreadTo ls s 9) x = bl) := hbl
      clear hbl
      obtain ⟨rba, rbc, rfl, hrb1, hrb2⟩ := hrb.form'
      rw [Hb9.out] at hrb1 hrb ⊢
      obtain ⟨bb, boff, bu, rfl, -, -⟩ := hrb.elem (k := 0) (by rw [Hb9.out]; omega) []
      have hmk := Try.made4S w6
      have hstart : Hid (RowingF (fun j => w6.heap.size < j) Bs w6.heap.size 52 (w6.alloc (.cells #[.slice none 0 0, .slice none 0 0, .slice none 0 0, .slice none 0 0] 52)) (.slice (some ⟨w6.heap.size, 0, none⟩) 4 4) (outB bl s 0)) := RowingF.made4 _ w6
      have hgd : Grow w6 (w6.alloc (.cells #[.slice none 0 0, .slice none 0 0, .slice none 0 0, .slice none 0 0] 52)) := Grow.alloc _ _
      have hsz7 : w6.heap.size + 1 ≤ (w6.alloc (.cells #[.slice none 0 0, .slice none 0 0, .slice none 0 0, .slice none 0 0] 52)).heap.size := by simp
      have HRB : Hid (∀ k, k < 9 → ∃ x1 x2 x3, w6.cell? ⟨bb, boff + k, none⟩ = some (.slice x1 x2 x3) ∧ Bs w6 (.slice x1 x2 x3) (bl.getD k [])) := fun k hk => by
        obtain ⟨b', off', u', hb', hu', hr'⟩ := hrb.elem (k := k) (by rw [Hb9.out]; omega) []
        injection hb' with hb'
        cases hb'
        obtain ⟨x1, x2, x3, rfl⟩ := hr'.form
        exact ⟨x1, x2, x3, hu', hr'⟩
      clear hrb
      go_wp2_with fail
      go_loopw [12, 45] (fun l i wr => ∃ k : Nat, k ≤ 4 ∧ i = .int .i64 k ∧ Hid (RowingF (fun j => j = w6.heap.size) Bs (w6.heap.size + 1) 52 wr l (rowB bl s k)) ∧ Hid (RowingF (fun j => w6.heap.size < j) Bs w6.heap.size 52 wr (.slice (some ⟨w6.heap.size, 0, none⟩) 4 4) (outB bl s k)) ∧ Grow w6 wr ∧ w6.heap.size + 1 ≤ wr.heap.size) (fun _ i _ => 4 - (intOf i).toNat)
      case atStart => exact ⟨0, by omega, rfl, RowingF.nil _ _ _ _ _, hstart, hgd, hsz7⟩
      case round =>
        obtain ⟨q, hq, rfl, HL1, HO, hgr7, hsz⟩ := hrel
        clear hstart hmk hgd hsz7
        by_cases hlt4 : q < 4
        · have hdk : decide ((q : Int) < 4) = true := by simp; omega
          by_cases hqs : q = 3 - s
          · have hB := blockAt_no q s wr hs hqs
            have HL8 : Hid (RowingF (fun j => j = w6.heap.size) Bs (w6.heap.size + 1) 52 wr u12 (rowB bl s (q + 1))) := by rw [Hid, rowB, if_pos hqs]; exact HL1.out
            have HO8 : Hid (RowingF (fun j => w6.heap.size < j) Bs w6.heap.size 52 wr (.slice (some ⟨w6.heap.size, 0, none⟩) 4 4) (outB bl s (q + 1))) := by rw [Hid, outB, if_pos hqs]; exact HO.out
            clear HL1 HO hqs
            go_wp2_with fail
            refine hB.mono ?_
            rintro e w2 ⟨rfl, rfl⟩
            clear hB
            go_wp2_with fail
            go_roundw
            case rel => first | exact ⟨q + 1, by omega, by go_num, HL8, HO8, hgr7, hsz⟩ | ((repeat apply Exists.intro); exact ⟨⟨q + 1, by omega, by go_num, HL8, HO8, hgr7, hsz⟩, rfl⟩)
            case measure => simp [intOf]; omega
          · have hB := blockAt_yes q s wr hs hlt4 hqs
            have hb9 := bkN_lt hs hlt4 hqs
            obtain ⟨x1, x2, x3, hu', hr'⟩ := HRB.out (bkN s q) hb9
            have hu7 := hgr7.at hu'
            have hrl := rowB_length bl s q
            obtain ⟨⟨uo, hcu⟩, hfu⟩ := HO.out.plain.at (k := q) (by rw [outB_length]; exact hlt4)
            have hbase := fun j hj => (HL1.out.base j hj).1
            have hoff := fun G hG => OffG.old (G := G) Bs.stays hr' hgr7 hG
            have HO8 : Hid (RowingF (fun j => w6.heap.size < j) Bs w6.heap.size 52 (wr.setCell ⟨w6.heap.size, q, none⟩ (.slice x1 x2 x3)) (.slice (some ⟨w6.heap.size, 0, none⟩) 4 4) (outB bl s (q + 1))) := by
              have := HO.out.stored q (hoff (fun j => w6.heap.size < j ∨ some w6.heap.size = some j) (fun j hj => by
                rcases hj with hj | hj
                · omega
                · injection hj with hj; omega))
              rw [Hid, outB, if_neg hqs]
              exact this
            have hrowL := HL1.out.set (A := w6.heap.size) rfl (fun e => by have := hbase _ e; omega) q (.slice x1 x2 x3)
            have hoffL : OffG Bs (fun j => j = w6.heap.size ∨ u12.ownBlock = some j) (wr.setCell ⟨w6.heap.size, q, none⟩ (.slice x1 x2 x3)) (.slice x1 x2 x3) (bl.getD (bkN s q) []) := (hoff _ (fun j hj => by
                rcases hj with hj | hj
                · omega
                · have := hbase j hj; omega)).step (grownIn_set wr w6.heap.size q _ (.inl rfl))
            have hG8 : Grow w6 (wr.setCell ⟨w6.heap.size, q, none⟩ (.slice x1 x2 x3)) := hgr7.set (by show w6.heap.size ≤ w6.heap.size; omega) _
            have hT : rowB bl s q ++ [bl.getD (bkN s q) []] = rowB bl s (q + 1) := by rw [rowB, if_neg hqs]
            have hsz8 : w6.heap.size + 1 ≤ (wr.setCell ⟨w6.heap.size, q, none⟩ (.slice x1 x2 x3)).heap.size := by simpa using hsz
            have hne8 : (wr.setCell ⟨w6.heap.size, q, none⟩ (.slice x1 x2 x3)).cell? ⟨bb, boff + bkN s q, none⟩ = some (.slice x1 x2 x3) := hG8.at hu'
            clear HL1 HO hoff hr' hu' hqs
            generalize bkN s q = bk at *
            have hb9' : (bk : Int) < 9 := by omega
            go_wp2_with fail
            refine hB.mono ?_
            rintro e w2 ⟨rfl, rfl⟩
            clear hB
            go_wp2_with (first
              | (at_builtin; refine wpList_pushF rfl (.tmp 62) (.tmp 67) 41 rfl i0 (.slice none 0 0) 24 Try.underlying41 hi hz0 hz1 hz2 rfl w6 hG8 (by omega) hsz8 rfl hrowL rfl hoffL w2.heap.size (by simp) rfl (by omega) (by omega) ?_; rintro v1 w8 - hrow8 hg8 hgi8))
            rw [hT] at hrow8
            have HO9 := HO8.out.kept (hgi8.mono (fun j hj => by have := hbase j hj; show w6.heap.size < j; omega)) (fun j hj => by cases hj; exact Nat.lt_irrefl _)
            have HO9' : Hid (RowingF (fun j => w6.heap.size < j) Bs w6.heap.size 52 w8 (.slice (some ⟨w6.heap.size, 0, none⟩) 4 4) _) := HO9
            have hsz9 : w6.heap.size + 1 ≤ w8.heap.size := Nat.le_trans hsz8 hgi8.size
            clear HO9 HO8
            go_wp2_with fail
            go_roundw
            case rel => first | exact ⟨q + 1, by omega, by go_num, hrow8, HO9', hg8, hsz9⟩ | ((repeat apply Exists.intro); exact ⟨⟨q + 1, by omega, by go_num, hrow8, HO9', hg8, hsz9⟩, rfl⟩)
            case measure => simp [intOf]; omega
        · have HQ : Hid (q = 4) := by rw [Hid]; omega
          have HLd : Hid (Bss wr u12 (rowB bl s 4)) := by have := HL1.out.done; rw [HQ.out] at this; exact this
          have HOp : Hid (Rowing Bs w6.heap.size 52 wr (.slice (some ⟨w6.heap.size, 0, none⟩) 4 4) (outB bl s 4)) := by have := HO.out.plain; rw [HQ.out] at this; exact this
          have hoct := xorAll_octets HLd.out.octets
          have hSp := spare_any (s : Int) wr (by omega) (by omega)
          rw [show (3 - (s : Int) % 4) = ((3 - s : Nat) : Int) by omega] at hSp
          have hXr := all_row u12 (rowB bl s 4) wr HLd.out (rowB_blocks Hb4.out Hb9.out hs 4 (by omega))
          have Hol : Hid ((outB bl s 4).length = 4) := outB_length bl s 4
          have htl : 3 - s < 4 := by omega
          clear HL1 HO HLd
          generalize 3 - s = t at *
          have htl' : (t : Int) < 4 := by omega
          go_wp2_with fail
          refine hSp.mono ?_
          rintro e w7 ⟨rfl, rfl⟩
          clear hSp
          go_wp2_with fail
          refine hXr.mono ?_
          rintro e w8 ⟨rfl, HX, hg8⟩
          clear hXr
          have HO8 : Hid (Rowing Bs w6.heap.size 52 w8 (.slice (some ⟨w6.heap.size, 0, none⟩) 4 4) (outB bl s 4)) := HOp.out.grow hg8
          obtain ⟨⟨uo, hcu⟩, hfu⟩ := HO8.out.at (k := t) (by rw [Hol.out]; exact htl)
          have hst := HO8.out.stored t (Off.row (g := some w6.heap.size) HX.out (xorAll_length _) (by unfold maxLen; omega) hoct (fun e => by injection e with e; omega))
          rw [← HPO.out] at hst
          have HS : Hid (Bss (w8.setCell ⟨w6.heap.size, t, none⟩ (.slice (some ⟨w7.heap.size, 0, none⟩) 4 4)) (.slice (some ⟨w6.heap.size, 0, none⟩) 4 4) (planOut bl s)) := hst.done
          have hgl8 : Grow w6 (w8.setCell ⟨w6.heap.size, t, none⟩ (.slice (some ⟨w7.heap.size, 0, none⟩) 4 4)) := (hgr7.trans hg8).set (by show w6.heap.size ≤ w6.heap.size; omega) _
          clear HOp HO8 hst HX hoct HPO Hol
          go_wp2_with fail
          go_ret
          rw [HBL.out]
          exact ⟨_, rfl, HS.out, hgw6.trans hgl8⟩

end Go.Proofs.Ytjggiameajndgac

/-
  What the program's stripe stands on: an item of a list, bytes.Clone, slices.Grow and slices.Concat; rows of four, made. Nothing old turns.
-/
namespace Go.Proofs.Ytjggiameajndgac
open Go.RowKit

set_option maxRecDepth 20000 in
theorem atB_any (b off k n cap : Nat) (x : Option Addr) (y z : Nat) (w : World) (hk : k < n) (hu : w.cell? ⟨b, off + k, none⟩ = some (.slice x y z)) :
    Calls Try.prog 77 #[.slice (some ⟨b, off, none⟩) n cap, .int .i64 k] w fun e w' => e = .returned (.slice x y z) ∧ w' = w := by
  have h1 : ¬ ((k : Int) < 0) := by omega
  have h2 : ¬ ((k : Int) ≥ (n : Int)) := by omega
  go_enter Try.func77, Try.ntmps77
  go_wp2
  go_ret
  exact ⟨rfl, rfl⟩

set_option maxRecDepth 20000 in
theorem atD_any (b off k n cap : Nat) (x : Option Addr) (y z : Nat) (w : World) (hk : k < n) (hu : w.cell? ⟨b, off + k, none⟩ = some (.slice x y z)) :
    Calls Try.prog 78 #[.slice (some ⟨b, off, none⟩) n cap, .int .i64 k] w fun e w' => e = .returned (.slice x y z) ∧ w' = w := by
  have h1 : ¬ ((k : Int) < 0) := by omega
  have h2 : ¬ ((k : Int) ≥ (n : Int)) := by omega
  go_enter Try.func78, Try.ntmps78
  go_wp2
  go_ret
  exact ⟨rfl, rfl⟩

set_option maxRecDepth 20000 in
set_option maxHeartbeats 800000 in
theorem bytesClone_any (v : Value) (l : List Int) (w : World) (h : Bs w v l) (hm : l.length ≤ 1000) :
    Calls Try.prog 76 #[v] w fun e w' => ∃ r, e = .returned r ∧ w'.ownsRow w.heap.size 5 1 r l.length (l.map (Value.int .u8)) ∧ Grow w w' := by
  obtain ⟨i0, hi, hz0, hz1, hz2⟩ := info_parts Try.infoB
  obtain ⟨ao, cap, rfl, h1, h2, h3, h4, h5⟩ := h
  have qT : ∀ (w : World) (a : Option Addr) (n c n' c' : Nat), (binOp .eql 52 (.slice a n c) (.slice none n' c')).run Try.prog w = .ok (.bool a.isNone) w := fun w a n c n' c' => Lib.run_eql_slice_nil w _ _ a n c n' c' Try.underlying52
  unfold maxLen at h2
  cases ao with
  | none =>
    have hl : l = [] := List.eq_nil_of_length_eq_zero (by have := h3 rfl; omega)
    subst hl
    obtain rfl : cap = 0 := h3 rfl
    go_enter Try.func76, Try.ntmps76
    go_wp2
    go_ret
    exact ⟨_, rfl, World.ownsRow_nil _ _ _ _, Grow.refl _⟩
  | some ad =>
    have hgA : Grow w (w.alloc (.cells #[] 5)) := Grow.alloc _ _
    have hsrc := (h5.below hgA).src
    have hlm : (l.map (Value.int .u8)).length = l.length := by simp
    have hone := u8_oneCell l
    have hown0 : (w.alloc (.cells #[] 5)).ownsRow w.heap.size 5 1 (.slice (some ⟨w.heap.size, 0, none⟩) 0 0) 0 [] := World.ownsRow_lit w #[] 0 (Nat.le_refl _) (Nat.zero_le _) rfl
    clear h5
    generalize l.map (Value.int .u8) = news at *
    have HLM : Hid (news.length = l.length) := hlm
    generalize l.length = n at *
    clear hlm
    have Hown0 : Hid ((w.alloc (.cells #[] 5)).ownsRow w.heap.size 5 1 (.slice (some ⟨w.heap.size, 0, none⟩) 0 0) 0 []) := hown0
    clear hown0
    go_enter Try.func76, Try.ntmps76
    go_wp2_with (first
      | (at_builtin; refine wpList_append_own_any _ rfl (.tmp 5) (.tmp 6) 52 rfl w.heap.size 5 i0 (.int .u8 0) 1 Try.underlying52 hi hz0 hz1 hz2 rfl _ 0 [] rfl Hown0.out (some ad) n cap news rfl HLM.out (fun h => nomatch h) hsrc hone (by unfold maxLen; omega) (by omega) hgA.size ?_; rintro v1 w1 hown1 hgr1))
    have hg1 := hgA.grown hgr1 (fun k hk => by cases hk; exact Nat.le_refl _)
    simp only [Nat.zero_add, List.nil_append] at hown1
    have Hown1 : Hid (w1.ownsRow w.heap.size 5 1 v1 n news) := hown1
    clear hown1 hgr1
    go_wp2
    go_ret
    exact ⟨_, rfl, Hown1.out, hg1⟩

/-- An append whose run is known. -/
theorem wpList_append_run {P : Program} {w w' : World} {ops : Array Oper} {rest : List Oper} {o : Oper} {a : Act} {Q : Exit → Act → World → Prop} (hgd : o.guard = none) (s y : Operand) (ts : Array TypeId)
    (ho : o.op = .call { callee := .builtin .append, args := #[s, y], argTypes := ts }) {v u r : Value} (hs : a.eval s = v) (hy : a.eval y = u) (hr : (Builtin.append_ ts o.type #[v, u]).run P w = .ok r w')
    (h : wpList P ops Q rest (a.put o.dst r) w') : wpList P ops Q (o :: rest) a w := by
  refine wpList_plain hgd fun _ hK => ?_
  unfold Oper.wp execOp
  simp only [ho, resolve, invoke, builtin, Sem.run_bind, Sem.run_pure, Result.andThen_ok, List.map_toArray, List.map_cons, List.map_nil, hs, hy, hr]
  exact hK _ _ h

set_option maxRecDepth 20000 in
set_option maxHeartbeats 800000 in
theorem growNil_any (n : Nat) (w : World) (hp : 0 < n) (hn : n ≤ 1000) :
    Calls Try.prog 96 #[.slice none 0 0, .int .i64 n] w fun e w' => ∃ r, e = .returned r ∧ w'.ownsRow w.heap.size 52 1 r 0 [] ∧ Grow w w' := by
  obtain ⟨i0, hi, hz0, hz1, hz2⟩ := info_parts Try.infoS
  have hrz := fun ty => Lib.run_append_nil_zeros (P := Try.prog) w 41 3 ty 52 i0 (.slice none 0 0) .i64 .i64 Try.underlying41 Try.underlying3 hi hz0 n hp (by omega) (by omega) (by rw [hz2]; omega)
  have hcap := grownCap_ge w n 0 52
  have hcm := grownCap_le_maxLen w n 0 52 (by unfold maxLen; omega)
  have hsz : (Builtin.zeroCells (Value.cells (.slice none 0 0)) n ++ Builtin.zeroCells (Value.cells (.slice none 0 0)) (grownCap w n 0 52 - n)).size = grownCap w n 0 52 * 1 := by
    rw [Array.size_append, size_zeroCells, size_zeroCells]
    show n * 1 + _ * 1 = _
    omega
  have hg0 : Grow w w.drew := Grow.drew1 (Grow.refl w)
  generalize grownCap w n 0 52 = cp at *
  generalize Builtin.zeroCells (Value.cells (.slice none 0 0)) n ++ Builtin.zeroCells (Value.cells (.slice none 0 0)) (cp - n) = cur at *
  have hgA := hg0.trans (Grow.alloc w.drew (.cells cur 52))
  have hown : (w.drew.alloc (.cells cur 52)).ownsRow w.heap.size 52 1 (.slice (some ⟨w.heap.size, 0, none⟩) 0 cp) 0 [] := ⟨rfl, .inr ⟨w.heap.size, cp, cur, rfl, Nat.le_refl _, heap_alloc_new w.drew _, Nat.zero_le _, hcm, hsz, by simp⟩⟩
  have Hown : Hid ((w.drew.alloc (.cells cur 52)).ownsRow w.heap.size 52 1 (.slice (some ⟨w.heap.size, 0, none⟩) 0 cp) 0 [] ∧ Grow w (w.drew.alloc (.cells cur 52))) := ⟨hown, hgA⟩
  clear hown hgA hg0 hsz
  unfold maxLen at hcm
  have h1 : ¬ ((n : Int) < 0) := by omega
  have h4 : (n : Int) > 0 := by omega
  go_enter Try.func96, Try.ntmps96
  go_wp2_with (first
    | (at_builtin; refine wpList_append_run rfl (.tmp 20) (.tmp 21) #[41, 3] rfl rfl rfl (hrz _) ?_))
  go_ret
  exact ⟨_, rfl, Hown.out.1, Hown.out.2⟩

theorem flat_succ {α : Type} (lss : List (List α)) {k : Nat} (h : k < lss.length) : (lss.take (k + 1)).flatten = (lss.take k).flatten ++ lss.getD k [] := by
  have e : lss[k]? = some (lss.getD k []) := by simp [h, List.getD_eq_getElem?_getD]
  rw [List.take_add_one, e]
  simp only [Option.toList_some, List.flatten_append, List.flatten_cons, List.flatten_nil, List.append_nil]

theorem flat_le {α : Type} (lss : List (List α)) (k : Nat) : (lss.take k).flatten.length ≤ lss.flatten.length := by
  have := congrArg (fun l => (List.flatten l).length) (List.take_append_drop k lss)
  simp only [List.flatten_append, List.length_append] at this
  omega

set_option maxRecDepth 20000 in
set_option maxHeartbeats 1600000 in
theorem concat_any (v : Value) (lss : List (List (List Int))) (w : World) (h : Dks w v lss) (hp : 0 < lss.flatten.length) (hm : lss.flatten.length ≤ 1000) :
    Calls Try.prog 81 #[v] w fun e w' => ∃ r, e = .returned r ∧ Bss w' r lss.flatten ∧ Grow w w' := by
  obtain ⟨i0, hi, hz0, hz1, hz2⟩ := info_parts Try.infoS
  obtain ⟨ao, cap, rfl, h1, h2, h3, h4⟩ := h
  have HC : Hid (0 < lss.length → ∃ b off, ao = some ⟨b, off, none⟩ ∧ ∀ k, k < lss.length → ∃ ak ck, w.cell? ⟨b, off + k, none⟩ = some (.slice ak (lss.getD k []).length ck) ∧ (lss.getD k []).length ≤ ck ∧ ck ≤ maxLen ∧ Bss w (.slice ak (lss.getD k []).length ck) (lss.getD k [])) := fun hp => by
    obtain ⟨b, off, e, hc⟩ := h4 hp
    refine ⟨b, off, e, fun k hk => ?_⟩
    obtain ⟨u, hu, hr⟩ := hc k (lss.getD k []) (by simp [List.getD_eq_getElem?_getD, hk])
    have hr' := hr
    obtain ⟨a', c', rfl, q1, q2, -⟩ := hr'
    exact ⟨a', c', hu, q1, q2, hr⟩
  have HS : Hid (∀ k, k < lss.length → (lss.take (k + 1)).flatten = (lss.take k).flatten ++ lss.getD k []) := fun k hk => flat_succ lss hk
  have HL : Hid (∀ k, (lss.take k).flatten.length ≤ lss.flatten.length) := flat_le lss
  unfold maxLen at h2
  clear h4
  go_enter Try.func81, Try.ntmps81
  go_wp2
  go_loop [3, 11] (fun z i => ∃ k : Nat, k ≤ lss.length ∧ i = .int .i64 k ∧ z = .int .i64 (lss.take k).flatten.length) (fun _ i => lss.length - (intOf i).toNat)
  case atStart => exact ⟨0, by omega, rfl, rfl⟩
  case round =>
    obtain ⟨k, hk, rfl, rfl⟩ := hrel
    by_cases hlt : k < lss.length
    · obtain ⟨b, off, rfl, hc⟩ := HC.out (by omega)
      obtain ⟨ak, ck, hck, q1, q2, -⟩ := hc k hlt
      have e1 := congrArg List.length (HS.out k hlt)
      have e2 := HL.out (k + 1)
      rw [List.length_append] at e1
      unfold maxLen at q2
      have HE : Hid ((lss.take (k + 1)).flatten.length = (lss.take k).flatten.length + (lss.getD k []).length) := e1
      clear hc e1
      rw [HE.out] at e2
      generalize (lss.getD k []).length = nk at *
      generalize (lss.take k).flatten.length = sk at *
      generalize lss.flatten.length = tot at *
      have h0 : ¬ ((sk : Int) + (nk : Int) < 0) := by omega
      go_wp2
      go_round
      case rel => exact ⟨k + 1, by omega, by go_num, by rw [HE.out]; go_num⟩
      case measure => simp [intOf]; omega
    · obtain rfl : k = lss.length := by omega
      have hf : (lss.take lss.length).flatten.length = lss.flatten.length := by rw [List.take_length]
      have hG := growNil_any lss.flatten.length w hp hm
      have hdk : decide ((lss.length : Int) < (lss.length : Int)) = false := by simp
      rw [hf]
      clear hf
      obtain ⟨tot, htot⟩ : ∃ t, lss.flatten.length = t := ⟨_, rfl⟩
      rw [htot] at hG hm hp ⊢
      have Htot : Hid (lss.flatten.length = tot) := htot
      clear htot
      go_wp2_with fail
      refine hG.mono ?_
      rintro e w1 ⟨r1, rfl, hown1, hg1⟩
      have HW : Hid (∃ us, w1.ownsRow w.heap.size 52 1 r1 (lss.take 0).flatten.length us ∧ BsL w us (lss.take 0).flatten) := ⟨[], hown1, BsL.nil _⟩
      clear hown1 hG
      go_wp2
      go_loopw [6, 27] (fun r i wr => ∃ k : Nat, k ≤ lss.length ∧ i = .int .i64 k ∧ Hid (∃ us, wr.ownsRow w.heap.size 52 1 r (lss.take k).flatten.length us ∧ BsL w us (lss.take k).flatten) ∧ Grow w wr) (fun _ i _ => lss.length - (intOf i).toNat)
      case atStart => exact ⟨0, by omega, rfl, HW, hg1⟩
      case round =>
        obtain ⟨k, hk, rfl, HR, hgr⟩ := hrel
        clear HW
        by_cases hlt : k < lss.length
        · obtain ⟨b, off, rfl, hc⟩ := HC.out (by omega)
          obtain ⟨ak, ck, hck, q1, q2, hbk⟩ := hc k hlt
          obtain ⟨us, hown, hus⟩ := HR.out
          obtain ⟨vs, hvl, -, hcs, hvs, hnone⟩ := hbk.values
          have hck' := hgr.at hck
          have hcs' : ∀ ad, ak = some ad → ∀ (j : Nat) u, vs[j]? = some u → wr.cell? (ad.add j) = some u := fun ad e j u hu => hgr.at (hcs ad e j u hu)
          have e1 := congrArg List.length (HS.out k hlt)
          have e2 := HL.out (k + 1)
          rw [Htot.out] at e2
          rw [List.length_append] at e1
          have HB : Hid (BsL w (us ++ vs) (lss.take (k + 1)).flatten) := by rw [Hid, HS.out k hlt]; exact hus.append hvs
          have HE : Hid ((lss.take (k + 1)).flatten.length = (lss.take k).flatten.length + (lss.getD k []).length) := e1
          rw [HE.out] at e2
          have hone := hvs.oneCell
          clear hc e1 HR hbk hck hcs hvs hus
          generalize (lss.getD k []).length = nk at *
          generalize (lss.take k).flatten.length = sk at *
          have Hown : Hid (wr.ownsRow w.heap.size 52 1 u6 sk us) := hown
          have Hvl : Hid (vs.length = nk) := hvl
          clear hown hvl
          go_wp2_with (first
            | (at_builtin; refine wpList_append_own_any _ rfl (.tmp 31) (.tmp 32) 41 rfl w.heap.size 52 i0 (.slice none 0 0) 24 Try.underlying41 hi hz0 hz1 hz2 rfl _ sk us rfl Hown.out ak nk ck vs rfl Hvl.out hnone hcs' hone (by unfold maxLen; omega) (by omega) hgr.size ?_; rintro v2 w2 hown2 hgr2))
          have hg2 := hgr.grown hgr2 (fun j hj => own_base Hown.out j hj)
          have HW2 : Hid (∃ us, w2.ownsRow w.heap.size 52 1 v2 (lss.take (k + 1)).flatten.length us ∧ BsL w us (lss.take (k + 1)).flatten) := ⟨_, by rw [HE.out]; exact hown2, HB.out⟩
          clear hown2 hgr2 Hown HB
          go_wp2
          go_roundw
          case rel => first | exact ⟨k + 1, by omega, by go_num, HW2, hg2⟩ | ((repeat apply Exists.intro); exact ⟨⟨k + 1, by omega, by go_num, HW2, hg2⟩, rfl⟩)
          case measure => simp [intOf]; omega
        · obtain rfl : k = lss.length := by omega
          obtain ⟨us, hown, hus⟩ := HR.out
          rw [List.take_length] at hown hus
          have hdone := (hus.grow hgr).own hown rfl
          clear hown hus HR
          go_wp2
          go_ret
          exact ⟨_, rfl, hdone, hgr⟩

end Go.Proofs.Ytjggiameajndgac

/-
  What the program's stripe returns: Make, look, Bad, Data, Cells. Nothing old turns.
-/
namespace Go.Proofs.Ytjggiameajndgac
open Go.RowKit

theorem Rowing.slOff {α : Type} {R : World → Value → α → Prop} {B : Nat} {e : TypeId} {w : World} {v : Value} {xs : List α} (h : Rowing R B e w v xs) : Sl (Off R v.ownBlock) w v xs := by
  obtain ⟨us, h1, _, h3⟩ := h
  exact Sl.of_own h1 rfl (fun i u x hu hx => h3 i u x hu hx)

theorem Rowing.bssX {g : Nat} {B : Nat} {e : TypeId} {w : World} {v : Value} {ls : List (List Int)} (h : Rowing (Off Bs (some g)) B e w v ls) (hg : g < B) : BssX (some g) w v ls :=
  ⟨h.done, fun _ b hb e => by
    have := (h.base b hb).1
    injection e with e
    omega⟩

/-- A row of four, made. -/
def nils4 : Array Value := #[.slice none 0 0, .slice none 0 0, .slice none 0 0, .slice none 0 0]

theorem Try.madeS (w : World) : (Instr.makeSlice 41 (.int .i64 4) (.int .i64 4)).run Try.prog w = .ok (.slice (some ⟨w.heap.size, 0, none⟩) 4 4) (w.alloc (.cells nils4 52)) :=
  (run_make_row' (P := Try.prog) 41 52 (.slice none 0 0) 24 Try.underlying41 Try.infoS rfl .i64 .i64 4 (by decide) (by decide) w).trans (by rw [show madeCells #[.slice none 0 0] 4 = nils4 from Array.toList_inj.1 (toList_madeCells_one _ _)])

/-- The first k of four are filled. -/
def up4 (f : Nat → List Int) (k : Nat) : List (List Int) := (List.range 4).map fun i => if i < k then f i else []

theorem up4_zero (f : Nat → List Int) : up4 f 0 = List.replicate 4 [] := by simp [up4]; decide
theorem up4_all (f : Nat → List Int) : up4 f 4 = (List.range 4).map f := List.map_congr_left fun _ hi => if_pos (List.mem_range.1 hi)
theorem up4_length (f : Nat → List Int) (k : Nat) : (up4 f k).length = 4 := by simp [up4]
theorem up4_set (f : Nat → List Int) {k : Nat} (_h : k < 4) : (up4 f k).set k (f k) = up4 f (k + 1) := by
  refine List.ext_getElem (by simp [up4]) fun i h1 h2 => ?_
  rw [List.getElem_set]
  simp only [up4, List.getElem_map, List.getElem_range]
  by_cases hik : k = i
  · subst hik; rw [if_pos rfl, if_pos (by omega)]
  · rw [if_neg hik]
    by_cases hlt : i < k
    · rw [if_pos hlt, if_pos (by omega)]
    · rw [if_neg hlt, if_neg (by omega)]

theorem Rowing.madeS (w : World) (f : Nat → List Int) : Rowing Bs w.heap.size 52 (w.alloc (.cells nils4 52)) (.slice (some ⟨w.heap.size, 0, none⟩) 4 4) (up4 f 0) := by
  rw [up4_zero]
  refine ⟨nils4.toList, ⟨rfl, .inr ⟨w.heap.size, 4, nils4, rfl, Nat.le_refl _, heap_alloc_new w _, Nat.le_refl _, by unfold maxLen; omega, rfl, rfl⟩⟩, rfl, fun i u x hu hx w' _ => ?_⟩
  have hu' : u = .slice none 0 0 := by
    have := List.mem_of_getElem? hu
    simpa [nils4] using this
  have hx' : x = [] := by
    have := List.mem_of_getElem? hx
    simpa using this
  subst hu' hx'
  exact Bs.nil _

theorem makeL_up {ds : List (List Int)} (hl : ds.length = 4) (s : Int) : makeL ds s = up4 (fun (d : Nat) => cellOf d s (ds.getD d [])) 4 := by rw [up4_all, makeL, hl]

set_option maxRecDepth 20000 in
set_option maxHeartbeats 1600000 in
theorem stripeMake_row (v : Value) (ds : List (List Int)) (s : Nat) (w : World) (h : Bss w v ds) (hl : ds.length = 4) (hs : s < 3) (h4 : ∀ b ∈ ds, b.length = 4) :
    Calls Try.prog 50 #[v, .int .i64 s] w fun e w' => ∃ r, e = .returned r ∧ Rowing Bs w.heap.size 52 w' r (makeL ds s) ∧ Grow w w' := by
  obtain ⟨ao, cap, rfl, h1, h2, h3, h4'⟩ := h
  unfold maxLen at h2
  obtain ⟨b, off, rfl, hc⟩ := h4' (by omega)
  have HK : Hid (∀ k, k < 4 → ∃ ak ck, w.cell? ⟨b, off + k, none⟩ = some (.slice ak 4 ck) ∧ Bs w (.slice ak 4 ck) (ds.getD k []) ∧ (ds.getD k []).length = 4) := fun k hk => by
    obtain ⟨ak, ck, hck, hbk⟩ := Sl.bytesAt hc (k := k) (by omega)
    have hlk : (ds.getD k []).length = 4 := h4 _ (by simp [List.getD_eq_getElem?_getD, show k < ds.length by omega])
    rw [hlk] at hck hbk
    exact ⟨ak, ck, hck, hbk, hlk⟩
  have hmk := Try.madeS w
  rw [makeL_up hl]
  have hst : Hid (Rowing Bs w.heap.size 52 (w.alloc (.cells nils4 52)) (.slice (some ⟨w.heap.size, 0, none⟩) 4 4) (up4 (fun (d : Nat) => cellOf d s (ds.getD d [])) 0)) := Rowing.madeS w _
  rw [hl]
  clear hc h4' hl h4 h3
  go_enter Try.func50, Try.ntmps50
  go_wp2
  go_loopw [10] (fun i wr => ∃ k : Nat, k ≤ 4 ∧ i = .int .i64 k ∧ Hid (Rowing Bs w.heap.size 52 wr (.slice (some ⟨w.heap.size, 0, none⟩) 4 4) (up4 (fun (d : Nat) => cellOf d s (ds.getD d [])) k)) ∧ Grow w wr) (fun i _ => 4 - (intOf i).toNat)
  case atStart => exact ⟨0, by omega, rfl, hst, Grow.alloc _ _⟩
  case round =>
    obtain ⟨k, hk, rfl, HR, hgr⟩ := hrel
    clear hst hmk
    by_cases hlt : k < 4
    · obtain ⟨ak, ck, hck, hbk, hlk⟩ := HK.out k hlt
      have HL : Hid ((ds.getD k []).length = 4) := hlk
      clear hlk
      have hA := atB_any b off k 4 cap ak 4 ck wr hlt (hgr.at hck)
      have hC := bytes_any (.slice ak 4 ck) (ds.getD k []) k s wr (by rw [HL.out]; omega) (by omega) (by omega) (hbk.grow hgr)
      have hoc := cellOf_octets (d := k) (s := s) (by omega) (by omega) hbk.octets
      clear hck hbk
      go_wp2_with fail
      refine hA.mono ?_
      rintro e w0 ⟨rfl, rfl⟩
      go_wp2_with fail
      refine hC.mono ?_
      rintro e w1 ⟨r, rfl, hown, hg1⟩
      have hb : w.heap.size < w0.heap.size := (HR.out.base _ rfl).2
      have hoff : Off Bs (some w.heap.size) w1 r (cellOf k s (ds.getD k [])) := Off.own hown hoc (fun j hj => by cases hj; exact hb)
      obtain ⟨gr, cr, rfl, -, -⟩ := hown.form (by omega)
      have hrow := HR.out.grow hg1
      obtain ⟨⟨u0, hu0⟩, hf0⟩ := hrow.at (k := k) (by rw [up4_length]; exact hlt)
      have hrow1 := hrow.stored k hoff
      rw [up4_set (fun (d : Nat) => cellOf d s (ds.getD d [])) hlt] at hrow1
      have HR1 : Hid (Rowing Bs _ _ _ _ _) := hrow1
      have hg2 := (hgr.trans hg1).set (k := k) (Nat.le_refl w.heap.size) (.slice (some ⟨gr, 0, none⟩) ((ds.getD k []).length + 4) cr)
      rw [HL.out] at HR1 hg2 ⊢
      clear hrow hrow1 hoff hown HR hA hC
      go_wp2
      go_roundw
      case rel => first | exact ⟨k + 1, by omega, by go_num, HR1, hg2⟩ | ((repeat apply Exists.intro); exact ⟨⟨k + 1, by omega, by go_num, HR1, hg2⟩, rfl⟩)
      case measure => simp [intOf]; omega
    · obtain rfl : k = 4 := by omega
      go_wp2
      go_ret
      exact ⟨_, rfl, HR.out, hgr⟩

end Go.Proofs.Ytjggiameajndgac

/-
  What the program's stripe returns: look, Bad, Data, Cells. Nothing old turns.
-/
namespace Go.Proofs.Ytjggiameajndgac
open Go.RowKit

theorem Grow.thenIn {w w1 w2 : World} {G : Nat → Prop} (h : Grow w w1) (hg : GrownIn w1 w2 G) (hk : ∀ k, G k → w.heap.size ≤ k) : Grow w w2 :=
  ⟨hg.os.trans h.os, hg.tape.trans h.tape, hg.output.trans h.output, Nat.le_trans h.size hg.size, fun j hj => (hg.block j (Nat.lt_of_lt_of_le hj h.size) (fun e => by have := hk j e; omega)).trans (h.block j hj)⟩

theorem heap_lt {w : World} {b : Nat} {o : Obj} (h : w.heap[b]? = some o) : b < w.heap.size := by
  by_cases hb : b < w.heap.size
  · exact hb
  · rw [Array.getElem?_eq_none (Nat.le_of_not_lt hb)] at h; cases h

/-- Four bytes in a block behind H, or none. -/
def Fx (H : Nat) (x : List Int) (u : Value) (w : World) : Prop := (u = .slice none 0 0 ∧ x = []) ∨ ∃ b, u = .slice (some ⟨b, 0, none⟩) 4 4 ∧ H < b ∧ w.heap[b]? = some (.cells (x.map (Value.int .u8)).toArray 5 (0, 0)) ∧ x.length = 4 ∧ Octets x

theorem Fx.kept {H : Nat} {x : List Int} {u : Value} {w w' : World} {G : Nat → Prop} (h : Fx H x u w) (hg : GrownIn w w' G) (hn : ∀ b cs, G b → H < b → w.heap[b]? ≠ some (.cells cs 5 (0, 0))) : Fx H x u w' := by
  rcases h with h | ⟨b, h1, h2, h3, h4⟩
  · exact .inl h
  · exact .inr ⟨b, h1, h2, (hg.block b (heap_lt h3) (fun hG => hn b _ hG h2 h3)).trans h3, h4⟩

theorem Fx.of {w w' : World} {H : Nat} {x : List Int} {r : Value} (h : FreshX w x r w') (hH : H < w.heap.size) : Fx H x r w' := by
  rcases h with h | ⟨b, h1, h2, h3, h4⟩
  · exact .inl h
  · exact .inr ⟨b, h1, by omega, h3, h4⟩

theorem Fx.form {H : Nat} {x : List Int} {u : Value} {w : World} (h : Fx H x u w) : ∃ a n c, u = .slice a n c := by
  rcases h with ⟨h, -⟩ | ⟨b, h, -⟩
  · exact ⟨_, _, _, h⟩
  · exact ⟨_, _, _, h⟩

theorem Fx.off {H : Nat} {x : List Int} {u : Value} {w : World} (h : Fx H x u w) (g : Option Nat) (hg : ∀ k, g = some k → k < H) : Off (Off Bs g) (some H) w u x := by
  rcases h with ⟨rfl, rfl⟩ | ⟨b, rfl, h2, h3, h4, h5⟩
  · exact fun _ _ _ _ => Bs.nil _
  · exact Off.row2 h3 h4 (by unfold maxLen; omega) h5 (fun e => by have := hg b e; omega) (fun e => by injection e with e; omega)

/-- A row of four in block H, each of four bytes behind it, or none. -/
def Four (H : Nat) (ls : List (List Int)) (w : World) : Prop := ∃ us : List Value, us.length = 4 ∧ ls.length = 4 ∧ w.heap[H]? = some (.cells us.toArray 52 (0, 0)) ∧ ∀ (i : Nat) u x, us[i]? = some u → ls[i]? = some x → Fx H x u w

theorem Four.kept {H : Nat} {ls : List (List Int)} {w w' : World} {G : Nat → Prop} (h : Four H ls w) (hg : GrownIn w w' G) (hH : ¬ G H) (hn : ∀ b cs, G b → H < b → w.heap[b]? ≠ some (.cells cs 5 (0, 0))) : Four H ls w' := by
  obtain ⟨us, h1, h2, h3, h4⟩ := h
  exact ⟨us, h1, h2, (hg.block H (heap_lt h3) hH).trans h3, fun i u x hu hx => (h4 i u x hu hx).kept hg hn⟩

theorem Four.grow {H : Nat} {ls : List (List Int)} {w w' : World} (h : Four H ls w) (hg : Grow w w') : Four H ls w' := h.kept (hg.inn (fun _ => False)) id (fun _ _ h => h.elim)

theorem Four.put {H : Nat} {ls : List (List Int)} {w : World} (h : Four H ls w) (k : Nat) {x : List Int} {u : Value} (hx : Fx H x u w) : Four H (ls.set k x) (w.setCell ⟨H, k, none⟩ u) := by
  obtain ⟨us, h1, h2, h3, h4⟩ := h
  have hg : GrownIn w (w.setCell ⟨H, k, none⟩ u) (fun j => j = H) := grownIn_set w H k u rfl
  have hn : ∀ b cs, b = H → H < b → w.heap[b]? ≠ some (.cells cs 5 (0, 0)) := fun b _ e hb => by omega
  refine ⟨us.set k u, by simp [h1], by simp [h2], ?_, fun i q y hq hy => ?_⟩
  · rw [heap_setCell_same w H k _ _ _ h3]
    simp
  · by_cases hik : i = k
    · subst hik
      have hlt : i < us.length := by
        by_cases hlt : i < us.length
        · exact hlt
        · rw [List.getElem?_eq_none (by simp; omega)] at hq; cases hq
      rw [List.getElem?_set_self hlt] at hq
      rw [List.getElem?_set_self (by omega)] at hy
      cases hq
      cases hy
      exact hx.kept hg hn
    · rw [List.getElem?_set_ne (fun e => hik e.symm)] at hq hy
      exact (h4 i q y hq hy).kept hg hn

theorem Four.row {H : Nat} {ls : List (List Int)} {w : World} (h : Four H ls w) (g : Option Nat) (hg : ∀ k, g = some k → k < H) : Rowing (Off Bs g) H 52 w (.slice (some ⟨H, 0, none⟩) 4 4) ls := by
  obtain ⟨us, h1, h2, h3, h4⟩ := h
  refine ⟨us, ⟨by omega, .inr ⟨H, 4, us.toArray, by rw [h2], Nat.le_refl _, h3, by omega, by unfold maxLen; omega, by simp [h1], by simp [h1, h2, List.take_of_length_le]⟩⟩, by omega, fun i u x hu hx => (h4 i u x hu hx).off g hg⟩

theorem Four.bss {H : Nat} {ls : List (List Int)} {w : World} (h : Four H ls w) : Bss w (.slice (some ⟨H, 0, none⟩) 4 4) ls := Sl.off (h.row none (fun _ h => nomatch h)).done

theorem Four.at {H : Nat} {ls : List (List Int)} {w : World} (h : Four H ls w) {k : Nat} (hk : k < 4) : (∃ u, w.cell? ⟨H, k, none⟩ = some u) ∧ w.frozen? ⟨H, k, none⟩ = false := by
  obtain ⟨us, h1, h2, h3, h4⟩ := h
  exact ⟨⟨us[k]'(by omega), row_at h3 k (by simp [h1, hk])⟩, frozen_of_row w H k _ _ h3⟩

theorem Four.lt {H : Nat} {ls : List (List Int)} {w : World} (h : Four H ls w) : H < w.heap.size := by
  obtain ⟨us, h1, h2, h3, h4⟩ := h
  exact heap_lt h3

theorem Four.made (w : World) (f : Nat → List Int) : Four w.heap.size (up4 f 0) (w.alloc (.cells nils4 52)) := by
  rw [up4_zero]
  refine ⟨nils4.toList, rfl, rfl, heap_alloc_new w _, fun i u x hu hx => .inl ⟨?_, ?_⟩⟩
  · have := List.mem_of_getElem? hu
    simpa [nils4] using this
  · have := List.mem_of_getElem? hx
    simpa using this

theorem NumRow.notB {B : Nat} {w : World} {v : Value} {ns : List Int} (h : NumRow B 3 w v ns) {b : Nat} (hb : v.ownBlock = some b) (cs : Array Value) : w.heap[b]? ≠ some (.cells cs 5 (0, 0)) := by
  rcases h.1.2 with ⟨rfl, -⟩ | ⟨g, cap, cur, rfl, -, hh, -⟩
  · cases hb
  · cases hb
    intro e
    rw [hh] at e
    injection e with e
    injection e with _ e _
    exact absurd e (by decide)

theorem look_push {w w1 w2 : World} {L : List (List Int)} {v v' u : Value} {ns ns' : List Int} {x : List Int} {k : Nat} (hF : Four w.heap.size L w1) (hN : NumRow (w.heap.size + 1) 3 w1 v ns) (hx : Fx w.heap.size x u w1) (hgI : GrownIn w1 w2 (fun k => v.ownBlock = some k)) (hN2 : NumRow (w.heap.size + 1) 3 w2 v' ns') (hg : Grow w w1) (hk : k < 4) :
    (∃ u, w2.cell? ⟨w.heap.size, k, none⟩ = some u) ∧ w2.frozen? ⟨w.heap.size, k, none⟩ = false ∧ Hid (Four w.heap.size (L.set k x) (w2.setCell ⟨w.heap.size, k, none⟩ u) ∧ NumRow (w.heap.size + 1) 3 (w2.setCell ⟨w.heap.size, k, none⟩ u) v' ns' ∧ Grow w (w2.setCell ⟨w.heap.size, k, none⟩ u) ∧ w.heap.size + 1 ≤ (w2.setCell ⟨w.heap.size, k, none⟩ u).heap.size) := by
  have hb1 := fun j hj => (hN.base j hj).1
  have hF2 := hF.kept hgI (fun e => by have := hb1 _ e; omega) (fun b cs hb _ => hN.notB hb cs)
  have hx2 := hx.kept hgI (fun b cs hb _ => hN.notB hb cs)
  have hg2 := hg.thenIn hgI (fun j hj => by have := hb1 j hj; omega)
  have hlt := hF2.lt
  refine ⟨(hF2.at hk).1, (hF2.at hk).2, hF2.put k hx2, ?_, hg2.set (k := k) (Nat.le_refl w.heap.size) u, by simp; omega⟩
  exact hN2.kept (grownIn_set w2 w.heap.size k u (G := fun j => j = w.heap.size) rfl) (fun j hj e => by have := (hN2.base j hj).1; omega)

/-- What each of four cells has. -/
def readL (ls : List (List Int)) (s : Int) : List (List Int) := (List.range 4).map fun (d : Nat) => readX (ls.getD d []) d s

set_option maxRecDepth 20000 in
set_option maxHeartbeats 3200000 in
theorem look_any (v : Value) (ls : List (List Int)) (s : Int) (w : World) (h : Bss w v ls) (hl : ls.length = 4) :
    Calls Try.prog 79 #[v, .int .i64 s] w fun e w' => ∃ bd, e = .returned (.tuple #[.slice (some ⟨w.heap.size, 0, none⟩) 4 4, bd]) ∧ Four w.heap.size (readL ls s) w' ∧ NumRow (w.heap.size + 1) 3 w' bd (ints (badL ls s)) ∧ Grow w w' := by
  obtain ⟨i0, hi, hz0, hz1, hz2⟩ := info_parts Try.infoI
  obtain ⟨ao, cap, rfl, h1, h2, h3, h4⟩ := h
  unfold maxLen at h2
  obtain ⟨b, off, rfl, hc⟩ := h4 (by omega)
  have HK : Hid (∀ k, k < 4 → ∃ ak nk ck, w.cell? ⟨b, off + k, none⟩ = some (.slice ak nk ck) ∧ Bs w (.slice ak nk ck) (ls.getD k [])) := fun k hk => by
    obtain ⟨ak, ck, hck, hbk⟩ := Sl.bytesAt hc (k := k) (by omega)
    exact ⟨ak, _, ck, hck, hbk⟩
  have hmk := Try.madeS w
  have HF : Hid (Four w.heap.size (up4 (fun (d : Nat) => readX (ls.getD d []) d s) 0) (w.alloc (.cells nils4 52))) := Four.made w _
  have HE : Hid (readL ls s = up4 (fun (d : Nat) => readX (ls.getD d []) d s) 4 ∧ badL ls s = badTo ls s 4) := ⟨(up4_all _).symm, by rw [badL, hl]⟩
  have hgA : Grow w (w.alloc (.cells nils4 52)) := Grow.alloc _ _
  have hs0 : w.heap.size + 1 ≤ (w.alloc (.cells nils4 52)).heap.size := by simp
  rw [hl]
  clear hc h4 hl h3
  go_enter Try.func79, Try.ntmps79
  go_wp2
  go_loopw [7, 14] (fun bd i wr => ∃ k : Nat, k ≤ 4 ∧ i = .int .i64 k ∧ Hid (Four w.heap.size (up4 (fun (d : Nat) => readX (ls.getD d []) d s) k) wr) ∧ Hid (NumRow (w.heap.size + 1) 3 wr bd (ints (badTo ls s k))) ∧ Grow w wr ∧ w.heap.size + 1 ≤ wr.heap.size) (fun _ i _ => 4 - (intOf i).toNat)
  case atStart => exact ⟨0, by omega, rfl, HF, NumRow.nil _ _ _, hgA, hs0⟩
  case round =>
    obtain ⟨k, hk, rfl, HR, HN, hgr, hsz⟩ := hrel
    clear HF hmk hgA hs0
    by_cases hlt : k < 4
    · obtain ⟨ak, nk, ck, hck, hbk⟩ := HK.out k hlt
      have HB := badTo_succ ls s k
      have hbl := badTo_length ls s k
      have hE : isBad ls s k = (readE (ls.getD k []) k s != 0) := rfl
      have hA := atB_any b off k 4 cap ak nk ck wr hlt (hgr.at hck)
      have hC := read_fresh (.slice ak nk ck) (ls.getD k []) k s wr (hbk.grow hgr)
      have hset := up4_set (fun (d : Nat) => readX (ls.getD d []) d s) hlt
      have hlb : (ints (badTo ls s k)).length ≤ k := by simpa [ints] using hbl
      clear hck hbk
      go_wp2_with fail
      refine hA.mono ?_
      rintro e w0 ⟨rfl, rfl⟩
      go_wp2_with fail
      refine hC.mono ?_
      rintro e w1 ⟨r, rfl, hr, hg1⟩
      have hFx := Fx.of hr (H := w.heap.size) (by omega)
      obtain ⟨ar, nr, cr, rfl⟩ := hFx.form
      have hF1 := HR.out.grow hg1
      have hN1 := HN.out.grow hg1
      have hgr1 := hgr.trans hg1
      have hsz1 : w.heap.size + 1 ≤ w1.heap.size := by have := hg1.size; omega
      clear hA hC HR HN hr
      by_cases he : readE (ls.getD k []) k s = 0
      · have HB' : Hid (badTo ls s (k + 1) = badTo ls s k) := by rw [Hid, HB, hE, he]; simp
        have hF2 := hF1.put k hFx
        rw [hset] at hF2
        have HF2 : Hid (Four _ _ _) := hF2
        have hN2 := hN1.kept (grownIn_set w1 w.heap.size k (.slice ar nr cr) (G := fun j => j = w.heap.size) rfl) (fun j hj e => by have := (hN1.base j hj).1; omega)
        rw [← HB'.out] at hN2
        have HN2 : Hid (NumRow _ _ _ _ _) := hN2
        obtain ⟨⟨u0, hu0⟩, hf0⟩ := hF1.at hlt
        have hg2 := hgr1.set (k := k) (Nat.le_refl w.heap.size) (.slice ar nr cr)
        have hsz2 : w.heap.size + 1 ≤ (w1.setCell ⟨w.heap.size, k, none⟩ (.slice ar nr cr)).heap.size := by simpa using hsz1
        clear HB hE hF1 hN1 hF2 hN2 hFx hset
        generalize readE (ls.getD k []) k s = E at *
        subst he
        go_wp2
        go_roundw
        case rel => first | exact ⟨k + 1, by omega, by go_num, HF2, HN2, hg2, hsz2⟩ | ((repeat apply Exists.intro); exact ⟨⟨k + 1, by omega, by go_num, HF2, HN2, hg2, hsz2⟩, rfl⟩)
        case measure => simp [intOf]; omega
      · have HB' : Hid (ints (badTo ls s k) ++ [(k : Int)] = ints (badTo ls s (k + 1))) := by rw [Hid, HB, hE, if_pos (by simpa using he)]; simp [ints]
        have HF1 : Hid (Four _ _ _) := hF1
        have HN1 : Hid (NumRow (w.heap.size + 1) 3 w1 u7 (ints (badTo ls s k))) := hN1
        have HFx : Hid (Fx _ _ _ _) := hFx
        have Hset : Hid (_ = _) := hset
        clear HB hE hF1 hN1 hFx hset
        generalize readE (ls.getD k []) k s = E at *
        go_wp2_with (first
          | (at_builtin; refine wpList_push_num rfl (.tmp 28) (.tmp 30) 35 rfl 3 i0 Try.underlying35 hi hz0 hz1 hz2 (w.heap.size + 1) rfl HN1.out k hsz1 (by omega) w1.heap.size rfl rfl ?_; rintro g1 c1 w2 hN2 hgI; rw [HB'.out] at hN2; obtain ⟨⟨u0, hu0⟩, hf0, HZ⟩ := look_push HF1.out HN1.out HFx.out hgI hN2 hgr1 hlt; rw [Hset.out] at HZ; clear hN2 hgI))
        go_roundw
        case rel => first | exact ⟨k + 1, by omega, by go_num, HZ.out.1, HZ.out.2.1, HZ.out.2.2.1, HZ.out.2.2.2⟩ | ((repeat apply Exists.intro); exact ⟨⟨k + 1, by omega, by go_num, HZ.out.1, HZ.out.2.1, HZ.out.2.2.1, HZ.out.2.2.2⟩, rfl⟩)
        case measure => simp [intOf]; omega
    · obtain rfl : k = 4 := by omega
      go_wp2
      go_ret2
      exact ⟨_, rfl, by rw [HE.out.1]; exact HR.out, by rw [HE.out.2]; exact HN.out, hgr⟩

set_option maxRecDepth 20000 in
theorem stripeBad_any (v : Value) (ls : List (List Int)) (s : Nat) (w : World) (h : Bss w v ls) (hl : ls.length = 4) (_hs : s < 3) :
    Calls Try.prog 47 #[v, .int .i64 s] w fun e w' => ∃ r, e = .returned r ∧ Sl IntV w' r (ints (badL ls s)) ∧ Grow w w' := by
  have hcall := look_any v ls s w h hl
  obtain ⟨av, cv, rfl⟩ := Sl.form h
  rw [hl] at hcall ⊢
  clear hl h
  go_enter Try.func47, Try.ntmps47
  go_wp2_with fail
  refine hcall.mono ?_
  rintro e w1 ⟨bd, rfl, -, hN, hg1⟩
  have hS := hN.done
  clear hN
  go_wp2
  go_ret
  exact ⟨_, rfl, hS, hg1⟩

end Go.Proofs.Ytjggiameajndgac
