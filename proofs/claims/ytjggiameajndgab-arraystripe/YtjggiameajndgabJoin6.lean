import Derived.Test.YtjggiameajndgabJoin5
/-
  What the reference's Xor returns, bit by bit; and what the statements of chapter 3 hold for blocks (right). Nothing old turns.
-/
namespace Go.Proofs.Ytjggiameajndgab
open Go.RowKit

/-- Blocks, and not too many. -/
def rightB (ls : List (List Int)) : Bool := ls.all (fun b => b.length == 4) && decide (ls.length ≤ 50)

theorem right_no {ls : List (List Int)} {k : Nat} (hk : k < ls.length) (h : (ls.getD k []).length ≠ 4) : rightB ls = false := by
  rw [rightB, Bool.and_eq_false_iff]
  left
  rw [List.all_eq_false]
  exact ⟨ls.getD k [], by simp [List.getD_eq_getElem?_getD, hk], by simpa using h⟩

theorem right_end {ls : List (List Int)} (h : ∀ k, k < ls.length → (ls.getD k []).length = 4) : rightB ls = decide (ls.length ≤ 50) := by
  have : ls.all (fun b => b.length == 4) = true := by
    rw [List.all_eq_true]
    intro b hb
    obtain ⟨i, hi, rfl⟩ := List.mem_iff_getElem.1 hb
    have := h i hi
    simpa [List.getD_eq_getElem?_getD, hi] using this
  rw [rightB, this, Bool.true_and]

theorem right_all {ls : List (List Int)} (h : rightB ls = true) : (∀ b ∈ ls, b.length = 4) ∧ ls.length ≤ 50 := by
  simp [rightB] at h
  exact h


/-- The row when place i has its first j bits. -/
def xp (ls : List (List Int)) (i j : Nat) : List Int := (List.range 4).map fun m => if m < i then (xC ls m : Int) else if m = i then ((xC ls i % 2 ^ j : Nat) : Int) else 0

theorem xp_start (ls : List (List Int)) : xp ls 0 0 = [0, 0, 0, 0] := by
  simp [xp, List.range_succ, Nat.mod_one]

theorem xp_next {ls : List (List Int)} (h : ∀ b ∈ ls, Octets b) {i : Nat} (hi : i < 4) : xp ls i 8 = xp ls (i + 1) 0 := by
  have hx := xC_lt h i
  have h8 : xC ls i % 2 ^ 8 = xC ls i := Nat.mod_eq_of_lt hx
  match i, hi with
  | 0, _ => simp [xp, List.range_succ, Nat.mod_one]; omega
  | 1, _ => simp [xp, List.range_succ, Nat.mod_one]; omega
  | 2, _ => simp [xp, List.range_succ, Nat.mod_one]; omega
  | 3, _ => simp [xp, List.range_succ, Nat.mod_one]; omega

theorem xp_end (ls : List (List Int)) : xp ls 4 0 = xorAll ls := by
  simp [xp, List.range_succ, xorAll]

theorem xp_getD (ls : List (List Int)) {i : Nat} (hi : i < 4) (j : Nat) : (xp ls i j)[i]? = some ((xC ls i % 2 ^ j : Nat) : Int) := by
  simp [xp, hi]

theorem xp_set (ls : List (List Int)) {i : Nat} (hi : i < 4) (j : Nat) : ((xp ls i j).map (Value.int .u8)).set i (.int .u8 ((xC ls i % 2 ^ (j + 1) : Nat) : Int)) = (xp ls i (j + 1)).map (Value.int .u8) := by
  match i, hi with
  | 0, _ => simp [xp, List.range_succ]
  | 1, _ => simp [xp, List.range_succ]
  | 2, _ => simp [xp, List.range_succ]
  | 3, _ => simp [xp, List.range_succ]

theorem pow_le_128 {j : Nat} (h : j < 8) : (2 : Int) ^ j ≤ 128 ∧ 1 ≤ (2 : Int) ^ j := by
  match j, h with
  | 0, _ | 1, _ | 2, _ | 3, _ | 4, _ | 5, _ | 6, _ | 7, _ => decide

theorem bit_int {x p : Int} {j : Nat} (hx : 0 ≤ x) (hp : p = 2 ^ j) : x / p % 2 = ((x.toNat / 2 ^ j % 2 : Nat) : Int) := by
  obtain ⟨n, rfl⟩ := Int.eq_ofNat_of_zero_le hx
  subst hp
  simp

theorem low_le {x j : Nat} (h : j < 8) : x % 2 ^ (j + 1) ≤ 255 := by
  have h1 := Nat.mod_lt x (show 0 < 2 ^ (j + 1) from Nat.pow_pos (by omega))
  have h2 : 2 ^ (j + 1) ≤ 2 ^ 8 := Nat.pow_le_pow_right (by omega) (by omega)
  omega

set_option maxRecDepth 20000 in
set_option maxHeartbeats 1600000 in
theorem refXor_new (v : Value) (ls : List (List Int)) (w : World) (h : Bss w v ls) (hl : ∀ b ∈ ls, b.length = 4) :
    Calls Try.prog 30 #[v] w fun e w' => e = .returned (.slice (some ⟨w.heap.size, 0, none⟩) 4 4) ∧ Hid (w'.heap[w.heap.size]? = some (.cells ((xorAll ls).map (Value.int .u8)).toArray 5 (0, 0))) ∧ Grow w w' := by
  have hoc := h.octets
  obtain ⟨ao, cap, rfl, h1, h2, h3, h4⟩ := h
  unfold maxLen at h2
  have hg0 : Grow w (w.alloc (.cells #[.int .u8 0, .int .u8 0, .int .u8 0, .int .u8 0] 5)) := Grow.alloc _ _
  have hr0 : (w.alloc (.cells #[.int .u8 0, .int .u8 0, .int .u8 0, .int .u8 0] 5)).heap[w.heap.size]? = some (.cells (([0, 0, 0, 0] : List Int).map (Value.int .u8)).toArray 5 (0, 0)) := heap_alloc_new _ _
  go_enter Try.func30, Try.ntmps30
  go_wp2
  go_loopw [12] (fun i wr => ∃ k : Nat, k ≤ 4 ∧ i = .int .i64 k ∧ Hid (wr.heap[w.heap.size]? = some (.cells ((xp ls k 0).map (Value.int .u8)).toArray 5 (0, 0))) ∧ Grow w wr) (fun i _ => 4 - (intOf i).toNat)
  case atStart => exact ⟨0, by omega, rfl, by rw [xp_start]; exact hr0, hg0⟩
  case round =>
    obtain ⟨i, hi, rfl, HR, hgr⟩ := hrel
    by_cases hlt : i < 4
    · obtain ⟨wo, hwo⟩ : ∃ wo : World, wo = wr := ⟨_, rfl⟩
      subst hwo
      have hd : decide ((i : Int) < 4) = true := by simp; omega
      go_wp2
      go_loopw [5] (fun q wr => ∃ (j : Nat) (p : Int), j ≤ 8 ∧ q = .int .i64 p ∧ 1 ≤ p ∧ p ≤ 256 ∧ Hid (p = 2 ^ j) ∧ Hid (wr.heap[w.heap.size]? = some (.cells ((xp ls i j).map (Value.int .u8)).toArray 5 (0, 0))) ∧ Grow w wr) (fun q _ => 256 - (intOf q).toNat)
      case atStart => exact ⟨0, 1, by omega, rfl, by omega, by omega, rfl, HR, hgr⟩
      case round =>
        obtain ⟨j, p, hj, rfl, hp1, hp2, HP, HR', hg'⟩ := hrel
        by_cases hj8 : j < 8
        · have hpw := pow_le_128 hj8
          rw [← HP.out] at hpw
          obtain ⟨hp3, -⟩ := hpw
          obtain ⟨wi, hwi⟩ : ∃ wi : World, wi = wr := ⟨_, rfl⟩
          subst hwi
          have hdp : decide (p < 256) = true := by simp; omega
          go_wp2
          go_loop [6, 21] (fun n q => ∃ (k c : Nat), k ≤ ls.length ∧ q = .int .i64 k ∧ n = .int .i64 c ∧ c ≤ k ∧ Hid (c = cnt (ls.take k) i j)) (fun _ q => ls.length - (intOf q).toNat)
          case atStart => exact ⟨0, 0, by omega, rfl, rfl, by omega, rfl⟩
          case round =>
            obtain ⟨k, c, hk, rfl, rfl, hck, HC⟩ := hrel
            by_cases hk2 : k < ls.length
            · obtain ⟨b, off, rfl, hc⟩ := h4 (by omega)
              obtain ⟨ak, cak, hce, hbk⟩ := Sl.bytesAt hc hk2
              have hlk : (ls.getD k []).length = 4 := hl _ (by simp [List.getD_eq_getElem?_getD, hk2])
              have hce' := (hg'.cell (p := ⟨b, off + k, none⟩) (cell_lt hce)).trans hce
              have hbk' := hbk.grow hg'
              rw [hlk] at hce' hbk'
              obtain ⟨a1, c1, e1, -, -, -, hok, hcs⟩ := hbk'
              injection e1 with e1 e2 e3
              subst e1 e3
              obtain ⟨bb, boff, rfl, hcb⟩ := hcs (by omega)
              have hcx := hcb i (by omega)
              have hx := getD_bd hok i
              have HN := cnt_take_succ ls hk2 i j
              clear hc h4 hce hbk hcs hcb e2
              generalize ls.getD k [] = bk at *
              generalize hxe : bk.getD i 0 = x at *
              have hq0 : 0 ≤ x / p := Int.ediv_nonneg hx.1 (by omega)
              have hq1 : x / p ≤ 255 := Int.le_trans (Int.ediv_le_self p hx.1) hx.2
              have hqt : x.tdiv p = x / p := Int.tdiv_eq_ediv_of_nonneg hx.1
              rw [← HC.out] at HN
              have hbi := bit_int (j := j) hx.1 HP.out
              by_cases hb1 : x / p % 2 = 1
              · rw [if_pos (by omega)] at HN
                have HN' : Hid (c + 1 = cnt (ls.take (k + 1)) i j) := HN.symm
                clear HN hbi hxe
                go_wp2
                go_round
                case rel => first | exact ⟨k + 1, c + 1, by omega, by go_num, by go_num, by omega, HN'⟩ | ((repeat apply Exists.intro); exact ⟨⟨k + 1, c + 1, by omega, by go_num, by go_num, by omega, HN'⟩, rfl⟩)
                case measure => simp [intOf]; omega
              · rw [if_neg (by omega)] at HN
                have HN' : Hid (c = cnt (ls.take (k + 1)) i j) := HN.symm
                clear HN hbi hxe
                go_wp2
                go_round
                case rel => first | exact ⟨k + 1, c, by omega, by go_num, rfl, by omega, HN'⟩ | ((repeat apply Exists.intro); exact ⟨⟨k + 1, c, by omega, by go_num, rfl, by omega, HN'⟩, rfl⟩)
                case measure => simp [intOf]; omega
            · obtain rfl : k = ls.length := by omega
              rw [List.take_of_length_le (Nat.le_refl _)] at HC
              have hlc := low_cnt ls i j
              rw [← HC.out] at hlc
              have hle := low_le (x := xC ls i) hj8
              have hco : wi.cell? ⟨w.heap.size, i, none⟩ = some (.int .u8 ((xC ls i % 2 ^ j : Nat) : Int)) := by
                simp only [World.cell?, HR'.out]
                simp [xp_getD ls hlt]
              have hfr : wi.frozen? ⟨w.heap.size, i, none⟩ = false := frozen_of_row wi _ i _ _ HR'.out
              have HS : Hid (∀ z : Int, z = ((xC ls i % 2 ^ (j + 1) : Nat) : Int) → (wi.setCell ⟨w.heap.size, i, none⟩ (.int .u8 z)).heap[w.heap.size]? = some (.cells ((xp ls i (j + 1)).map (Value.int .u8)).toArray 5 (0, 0))) := by
                rintro z rfl
                rw [heap_setCell_same wi _ i _ _ _ HR'.out, ← xp_set ls hlt]
                simp
              have HP' : Hid (2 * p = 2 ^ (j + 1)) := by rw [Hid, Int.pow_succ, ← HP.out, Int.mul_comm]
              have hpn : ((2 ^ j : Nat) : Int) = p := by rw [HP.out]; simp
              generalize xC ls i % 2 ^ j = y at *
              generalize xC ls i % 2 ^ (j + 1) = y' at *
              generalize 2 ^ j = pn at *
              subst hpn
              by_cases hpar : c % 2 = 0
              · rw [hpar, Nat.mul_zero, Nat.add_zero] at hlc
                have hpar' : (c : Int) % 2 = 0 := by omega
                subst hlc
                go_wp2
                go_roundw
                case rel => first | exact ⟨j + 1, 2 * pn, by omega, rfl, by omega, by omega, HP', HS.out _ (by omega), hg'.set (Nat.le_refl _) _⟩ | ((repeat apply Exists.intro); exact ⟨⟨j + 1, 2 * pn, by omega, rfl, by omega, by omega, HP', HS.out _ (by omega), hg'.set (Nat.le_refl _) _⟩, rfl⟩)
                case measure => simp [intOf]; omega
              · have hpar1 : c % 2 = 1 := by omega
                rw [hpar1, Nat.mul_one] at hlc
                have hpar' : (c : Int) % 2 = 1 := by omega
                go_wp2
                go_roundw
                case rel => first | exact ⟨j + 1, 2 * pn, by omega, rfl, by omega, by omega, HP', HS.out _ (by omega), hg'.set (Nat.le_refl _) _⟩ | ((repeat apply Exists.intro); exact ⟨⟨j + 1, 2 * pn, by omega, rfl, by omega, by omega, HP', HS.out _ (by omega), hg'.set (Nat.le_refl _) _⟩, rfl⟩)
                case measure => simp [intOf]; omega
        · obtain rfl : j = 8 := by omega
          have h256 : p = 256 := by rw [HP.out]; decide
          subst h256
          rw [xp_next hoc hlt] at HR'
          go_wp2
          go_roundw
          case rel => first | exact ⟨i + 1, by omega, by go_num, HR', hg'⟩ | ((repeat apply Exists.intro); exact ⟨⟨i + 1, by omega, by go_num, HR', hg'⟩, rfl⟩)
          case measure => simp [intOf]; omega
    · obtain rfl : i = 4 := by omega
      rw [xp_end] at HR
      go_wp2
      go_ret
      exact ⟨rfl, HR, hgr⟩

theorem refXor_any (v : Value) (ls : List (List Int)) (w : World) (h : Bss w v ls) (hl : ∀ b ∈ ls, b.length = 4) :
    Calls Try.prog 30 #[v] w fun e w' => ∃ r, e = .returned r ∧ NewBs (xorAll ls) r w' ∧ Grow w w' :=
  (refXor_new v ls w h hl).mono fun _ _ ⟨he, hn, hg⟩ => ⟨_, he, NewBs.row hn.out rfl (xorAll_octets h.octets), hg⟩

end Go.Proofs.Ytjggiameajndgab

/-
  What the reference's Bad, Make and Data return. Nothing old turns.
-/
namespace Go.Proofs.Ytjggiameajndgab
open Go.RowKit

/-- A number, as it lies. -/
def IntV (_ : World) (v : Value) (x : Int) : Prop := v = .int .i64 x
theorem IntV.stays : Stays IntV := fun _ _ _ _ h _ => h
theorem IntV.off (g : Option Nat) (w : World) (x : Int) : Off IntV g w (.int .i64 x) x := fun _ _ => rfl

theorem Try.infoI : (Try.prog.info? 3).map (fun i => (i.zero, i.size, i.bytes)) = some (some (.int .i64 0), 1, 8) := by kernel_rfl

/-- Numbers of disks. -/
def ints (l : List Nat) : List Int := l.map fun (n : Nat) => (n : Int)

set_option maxRecDepth 20000 in
set_option maxHeartbeats 1600000 in
theorem refBad_any (v : Value) (ls : List (List Int)) (s : Int) (w : World) (h : Bss w v ls) (hl : ls.length ≤ 100) :
    Calls Try.prog 26 #[v, .int .i64 s] w fun e w' => ∃ r, e = .returned r ∧ Sl IntV w' r (ints (badL ls s)) ∧ Grow w w' := by
  obtain ⟨i0, hi, hz0, hz1, hz2⟩ := info_parts Try.infoI
  have hbs := h
  obtain ⟨ao, cap, rfl, h1, h2, h3, h4⟩ := h
  unfold maxLen at h2
  go_enter Try.func26, Try.ntmps26
  go_wp2
  go_loopw [5, 11] (fun r i wr => ∃ k : Nat, k ≤ ls.length ∧ i = .int .i64 k ∧ Hid (Rowing IntV w.heap.size 3 wr r (ints (badTo ls s k))) ∧ Grow w wr) (fun _ i _ => ls.length - (intOf i).toNat)
  case atStart => exact ⟨0, by omega, rfl, Rowing.nil _ _ _ _, Grow.refl _⟩
  case round =>
    obtain ⟨k, hk, rfl, HR, hgr⟩ := hrel
    by_cases hlt : k < ls.length
    · obtain ⟨b, off, rfl, hc⟩ := h4 (by omega)
      obtain ⟨ak, ck, hck, hbk⟩ := Sl.bytesAt hc hlt
      have hck' := hgr.at hck
      have hbk' := hbk.grow hgr
      have HB := badTo_succ ls s k
      have hbl := badTo_length ls s k
      have hE : isBad ls s k = (readE (ls.getD k []) k s != 0) := rfl
      clear hc h4 hck hbk
      generalize hlk : ls.getD k [] = lk at *
      generalize hnk : lk.length = nk at *
      have hlb : (ints (badTo ls s k)).length ≤ k := by simpa [ints] using hbl
      clear hbs hlk hnk
      go_wp2_with fail
      refine (refRead_any _ lk k s _ hbk').mono ?_
      rintro e w1 ⟨r, rfl, hr, hg1⟩
      by_cases he : readE lk k s = 0
      · have HB' : Hid (badTo ls s (k + 1) = badTo ls s k) := by rw [Hid, HB, hE, he]; simp
        have hrow := HR.out.grow hg1
        rw [← HB'.out] at hrow
        clear HB hE
        go_wp2
        go_roundw
        case rel => first | exact ⟨k + 1, by omega, by go_num, hrow, hgr.trans hg1⟩ | ((repeat apply Exists.intro); exact ⟨⟨k + 1, by omega, by go_num, hrow, hgr.trans hg1⟩, rfl⟩)
        case measure => simp [intOf]; omega
      · have HB' : Hid (ints (badTo ls s k) ++ [(k : Int)] = ints (badTo ls s (k + 1))) := by rw [Hid, HB, hE]; simp [ints, he]
        have hrow := HR.out.grow hg1
        have hg2 := hgr.trans hg1
        generalize readE lk k s = E at *
        clear HB hE HR
        go_wp2_with (first
          | (at_builtin; refine wpList_push rfl (.tmp 26) (.tmp 28) 46 rfl i0 (.int .i64 0) 8 Try.underlying46 hi hz0 hz1 hz2 rfl w hg2 rfl rfl hrow rfl (IntV.off _ _ k) w1.heap.size rfl rfl (by omega) (by omega) ?_; rintro v1 w2 - hrow1 hg3))
        rw [HB'.out] at hrow1
        go_wp2
        go_roundw
        case rel => first | exact ⟨k + 1, by omega, by go_num, hrow1, hg3⟩ | ((repeat apply Exists.intro); exact ⟨⟨k + 1, by omega, by go_num, hrow1, hg3⟩, rfl⟩)
        case measure => simp [intOf]; omega
    · obtain rfl : k = ls.length := by omega
      go_wp2
      go_ret
      exact ⟨_, rfl, HR.out.done, hgr⟩

/-- Bytes in memory of the call's own: readable whatever is written into what was there before. -/
def FreshBs (w : World) (l : List Int) (r : Value) (w' : World) : Prop := NewBs l r w' ∧ ∀ g, (∀ k, g = some k → k < w.heap.size) → Off Bs g w' r l

theorem FreshBs.of_own {w w' : World} {B : Nat} {e : TypeId} {v : Value} {n : Nat} {l : List Int} (h : w'.ownsRow B e 1 v n (l.map (Value.int .u8))) (ho : Octets l) (hn : 0 < n) (hl : l.length = n) (hB : w.heap.size ≤ B) : FreshBs w l v w' := by
  obtain ⟨g, cap, rfl, -, -⟩ := h.form hn
  exact ⟨⟨g, cap, by rw [hl], Bs.of_own h ho⟩, fun g' hg' => Off.own h ho (fun k hk => by have := hg' k hk; omega)⟩

theorem FreshBs.of_row {w w' : World} {e : TypeId} {mk : Nat × Nat} {b : Nat} {l : List Int} (hb : w'.heap[b]? = some (.cells (l.map (Value.int .u8)).toArray e mk)) (hl : l.length = 4) (ho : Octets l) (hB : w.heap.size ≤ b) : FreshBs w l (.slice (some ⟨b, 0, none⟩) 4 4) w' :=
  ⟨⟨b, 4, by rw [hl], (Off.row (g := none) hb hl (by unfold maxLen; omega) ho (by simp)).here⟩, fun g hg => Off.row hb hl (by unfold maxLen; omega) ho (fun e => by have := hg b e; omega)⟩

set_option maxRecDepth 20000 in
set_option maxHeartbeats 1600000 in
theorem refBytes_own (v : Value) (l : List Int) (d s : Int) (w : World) (hlen : l.length ≤ 140737488351000) (hd : 0 ≤ d ∧ d ≤ 255) (hs : 0 ≤ s ∧ s ≤ 255) (h : Bs w v l) :
    Calls Try.prog 69 #[.int .i64 d, .int .i64 s, v] w fun e w' => ∃ r, e = .returned r ∧ w'.ownsRow w.heap.size 5 1 r (l.length + 4) ((cellOf d s l).map (Value.int .u8)) ∧ Grow w w' := by
  have hbs := h
  obtain ⟨ao, cap, rfl, h1, h2, h3, h4, h5⟩ := h
  unfold maxLen at h2
  have hp : Octets [d, s] := by intro x hx; simp at hx; rcases hx with rfl | rfl <;> assumption
  obtain ⟨hd0, hd1⟩ := hd
  obtain ⟨hs0, hs1⟩ := hs
  have hlit : Bs (w.alloc (.cells #[.int .u8 d, .int .u8 s] 5)) (.slice (some ⟨w.heap.size, 0, none⟩) 2 2) [d, s] := Bs.lit (by unfold maxLen; simp) hp _
  have hg1 : Grow w (w.alloc (.cells #[.int .u8 d, .int .u8 s] 5)) := Grow.alloc _ _
  have hcv1 := run_convert_bs (P := Try.prog) 23 5 9 Try.underlying23 Try.underlying5 Try.underlying9 hlit
  have hcv2 := run_convert_bs (P := Try.prog) 23 5 9 Try.underlying23 Try.underlying5 Try.underlying9 (hbs.grow hg1)
  have hap := strOfNums_append [d, s] l
  have hz1 : (strOfNums [d, s]).size = 2 := strOfNums_size _
  have hz2 : (strOfNums l).size = l.length := strOfNums_size _
  obtain ⟨v3, w3, hcv3, hbs3, hg3⟩ := run_convert_sb (P := Try.prog) (w.alloc (.cells #[.int .u8 d, .int .u8 s] 5)) 9 23 5 Try.underlying9 Try.underlying23 Try.underlying5 (l := d :: s :: l) (octets_cons ⟨hd0, hd1⟩ ⟨hs0, hs1⟩ h4) (by unfold maxLen; simp; omega)
  go_enter Try.func69, Try.ntmps69
  go_wp2_with fail
  refine (refSeal_any _ (d :: s :: l) _ (by simp; omega) hbs3).mono ?_
  rintro e w4 ⟨r, rfl, hown, hg4⟩
  go_wp2_with fail
  go_ret
  exact ⟨r, rfl, ownsRow_mono hown (hg1.trans hg3).size, (hg1.trans hg3).trans hg4⟩

theorem refBytes_fresh (v : Value) (l : List Int) (d s : Int) (w : World) (hlen : l.length ≤ 140737488351000) (hd : 0 ≤ d ∧ d ≤ 255) (hs : 0 ≤ s ∧ s ≤ 255) (h : Bs w v l) :
    Calls Try.prog 69 #[.int .i64 d, .int .i64 s, v] w fun e w' => ∃ r, e = .returned r ∧ FreshBs w (cellOf d s l) r w' ∧ Grow w w' :=
  (refBytes_own v l d s w hlen hd hs h).mono fun _ _ ⟨r, he, hown, hg⟩ => ⟨r, he, FreshBs.of_own hown (cellOf_octets hd hs h.octets) (by omega) (by rw [cellOf_length]) (Nat.le_refl _), hg⟩

theorem make_succ (ds : List (List Int)) (s : Int) (k : Nat) : (List.range k).map (fun (d : Nat) => cellOf d s (ds.getD d [])) ++ [cellOf k s (ds.getD k [])] = (List.range (k + 1)).map (fun (d : Nat) => cellOf d s (ds.getD d [])) := by simp [List.range_succ]

set_option maxRecDepth 20000 in
set_option maxHeartbeats 1600000 in
theorem refMake_any (v : Value) (ds : List (List Int)) (s : Int) (w : World) (h : Bss w v ds) (hl : ds.length ≤ 100) (hs : 0 ≤ s ∧ s ≤ 255) (h4 : ∀ b ∈ ds, b.length = 4) :
    Calls Try.prog 28 #[v, .int .i64 s] w fun e w' => ∃ r, e = .returned r ∧ Rowing Bs w.heap.size 23 w' r (makeL ds s) ∧ Grow w w' := by
  obtain ⟨i0, hi, hz0, hz1, hz2⟩ := info_parts Try.infoS
  obtain ⟨ao, cap, rfl, h1, h2, h3, h4'⟩ := h
  unfold maxLen at h2
  have HM : Hid (makeL ds s = (List.range ds.length).map (fun (d : Nat) => cellOf d s (ds.getD d []))) := rfl
  have HT : Hid (∀ k, (List.range k).map (fun (d : Nat) => cellOf d s (ds.getD d [])) ++ [cellOf k s (ds.getD k [])] = (List.range (k + 1)).map (fun (d : Nat) => cellOf d s (ds.getD d []))) := make_succ ds s
  go_enter Try.func28, Try.ntmps28
  go_wp2
  go_loopw [5, 9] (fun r i wr => ∃ k : Nat, k ≤ ds.length ∧ i = .int .i64 k ∧ Hid (Rowing Bs w.heap.size 23 wr r ((List.range k).map (fun (d : Nat) => cellOf d s (ds.getD d [])))) ∧ Grow w wr) (fun _ i _ => ds.length - (intOf i).toNat)
  case atStart => exact ⟨0, by omega, rfl, Rowing.nil _ _ _ _, Grow.refl _⟩
  case round =>
    obtain ⟨k, hk, rfl, HR, hgr⟩ := hrel
    by_cases hlt : k < ds.length
    · obtain ⟨b, off, rfl, hc⟩ := h4' (by omega)
      obtain ⟨ak, ck, hck, hbk⟩ := Sl.bytesAt hc hlt
      have hck' := hgr.at hck
      have hbk' := hbk.grow hgr
      have hlk : (ds.getD k []).length = 4 := h4 _ (by simp [List.getD_eq_getElem?_getD, hlt])
      have hT := HT.out k
      rw [hlk] at hck' hbk'
      clear hc h4' hck hbk
      generalize ds.getD k [] = dk at *
      have Hlk : Hid (dk.length = 4) := hlk
      clear hlk
      go_wp2_with fail
      refine (refBytes_fresh _ dk k s _ (by have := Hlk.out; omega) (by omega) hs hbk').mono ?_
      rintro e w1 ⟨r, rfl, ⟨⟨gr, cr, rfl, hr⟩, hoff⟩, hg1⟩
      have Hrow : Hid (Rowing Bs w.heap.size 23 w1 u5 _) := HR.out.grow hg1
      have Hoff : Hid (Off Bs u5.ownBlock w1 (.slice (some ⟨gr, 0, none⟩) (cellOf k s dk).length cr) (cellOf k s dk)) := hoff u5.ownBlock (fun j hj => (HR.out.base j hj).2)
      have hg2 := hgr.trans hg1
      have hlc : (cellOf (k : Int) s dk).length = 8 := by rw [cellOf_length, Hlk.out]
      rw [hlc] at Hoff ⊢
      clear HR hoff hr
      go_wp2_with (first
        | (at_builtin; refine wpList_push rfl (.tmp 12) (.tmp 20) 22 rfl i0 (.slice none 0 0) 24 Try.underlying22 hi hz0 hz1 hz2 rfl w hg2 rfl rfl Hrow.out rfl Hoff.out w1.heap.size rfl rfl (by simp; omega) (by simp; omega) ?_; rintro v1 w2 - hrow1 hg3))
      rw [hT] at hrow1
      go_wp2
      go_roundw
      case rel => first | exact ⟨k + 1, by omega, by go_num, hrow1, hg3⟩ | ((repeat apply Exists.intro); exact ⟨⟨k + 1, by omega, by go_num, hrow1, hg3⟩, rfl⟩)
      case measure => simp [intOf]; omega
    · obtain rfl : k = ds.length := by omega
      go_wp2
      go_ret
      exact ⟨_, rfl, by rw [HM.out]; exact HR.out, hgr⟩

end Go.Proofs.Ytjggiameajndgab

/-
  What the reference's Data returns. Nothing old turns.
-/
namespace Go.Proofs.Ytjggiameajndgab
open Go.RowKit

theorem dat_succ (ls : List (List Int)) (s : Int) (k : Nat) : (List.range k).map (datAt ls s) ++ [datAt ls s k] = (List.range (k + 1)).map (datAt ls s) := by simp [List.range_succ]

set_option maxRecDepth 20000 in
set_option maxHeartbeats 3200000 in
theorem refData_row (v : Value) (ls : List (List Int)) (s : Int) (w : World) (g : Option Nat) (h00 : Sl (Off Bs g) w v ls) (hg : ∀ k, g = some k → k < w.heap.size) (hl : ls.length ≤ 100) :
    Calls Try.prog 24 #[v, .int .i64 s] w fun e w' => ∃ r, e = .returned (.tuple #[r, .int .i64 (dataE ls s)]) ∧ Rowing (Off Bs g) w.heap.size 23 w' r (dataL ls s) ∧ Grow w w' := by
  have h : Bss w v ls := h00.off
  obtain ⟨i0, hi, hz0, hz1, hz2⟩ := info_parts Try.infoS
  have hbs := h
  have hoc := h.octets
  obtain ⟨ao, cap, rfl, h1, h2, h3, -⟩ := h
  have h4 := (show 0 < ls.length → ∃ b off, ao = some ⟨b, off, none⟩ ∧ ∀ (i : Nat) x, ls[i]? = some x → ∃ u, w.cell? ⟨b, off + i, none⟩ = some u ∧ Off Bs g w u x by
    obtain ⟨a1, c1, e1, -, -, -, k4⟩ := h00
    injection e1 with e1 _ _
    subst e1
    exact k4)
  unfold maxLen at h2
  have hbl := badTo_length ls s ls.length
  by_cases hbad : 1 < (badL ls s).length
  · have HE : Hid (dataE ls s = 9) := if_pos hbad
    have HL : Hid (dataL ls s = []) := if_pos hbad
    go_enter Try.func24, Try.ntmps24
    go_wp2_with fail
    refine (refBad_any _ ls s _ hbs hl).mono ?_
    rintro e w1 ⟨r, rfl, hr, hg1⟩
    obtain ⟨ar, cr, rfl, hr1, hr2⟩ := hr.form'
    have hlen : (ints (badL ls s)).length = (badL ls s).length := by simp [ints]
    rw [hlen] at hr1 ⊢
    clear hbs hr hlen h00
    generalize (badL ls s).length = nb at *
    go_wp2
    go_ret2
    exact ⟨_, ret_bs2 HE.out.symm, by rw [HL.out]; exact Rowing.nil _ _ _ _, hg1⟩
  · have HE : Hid (dataE ls s = 0) := if_neg hbad
    have HL : Hid (dataL ls s = (List.range ls.length).map (datAt ls s)) := if_neg hbad
    have HT : Hid (∀ k, (List.range k).map (datAt ls s) ++ [datAt ls s k] = (List.range (k + 1)).map (datAt ls s)) := dat_succ ls s
    have HG : Hid (∀ d, isBad ls s d = true → datAt ls s d = xorAll (restTo ls s d ls.length)) := fun d h => if_pos h
    have HN : Hid (∀ d, isBad ls s d = false → datAt ls s d = readX (ls.getD d []) d s) := fun d h => if_neg (by rw [h]; simp)
    have HF : Hid (∀ d, d < ls.length → isBad ls s d = true → ∀ b ∈ restTo ls s d ls.length, b.length = 4) := fun d hd hb => rest_blocks hd hb (by omega) (Nat.le_refl _)
    have HB : Hid (∀ d, isBad ls s d = (readE (ls.getD d []) d s != 0)) := fun _ => rfl
    have Hc : Hid (0 < ls.length → ∃ b off, ao = some ⟨b, off, none⟩ ∧ ∀ k, k < ls.length → ∃ ak n ck, w.cell? ⟨b, off + k, none⟩ = some (.slice ak n ck) ∧ Off Bs g w (.slice ak n ck) (ls.getD k [])) := fun hp => by
      obtain ⟨b, off, e, hc⟩ := h4 hp
      refine ⟨b, off, e, fun k hk => ?_⟩
      obtain ⟨u, e1, e2⟩ := hc k (ls.getD k []) (by simp [List.getD_eq_getElem?_getD, hk])
      obtain ⟨x1, x2, x3, rfl⟩ := e2.here.form
      exact ⟨_, _, _, e1, e2⟩
    have HO : Hid (∀ k, k < ls.length → Octets (ls.getD k [])) := fun k hk => hoc _ (by simp [List.getD_eq_getElem?_getD, hk])
    clear h4 hoc
    go_enter Try.func24, Try.ntmps24
    go_wp2_with fail
    refine (refBad_any _ ls s _ hbs hl).mono ?_
    rintro e w1 ⟨r, rfl, hr, hg1⟩
    obtain ⟨ar, cr, rfl, hr1, hr2⟩ := hr.form'
    have hlen : (ints (badL ls s)).length = (badL ls s).length := by simp [ints]
    rw [hlen] at hr1 ⊢
    clear hbs hr hlen hbl h00
    generalize (badL ls s).length = nb at *
    go_wp2
    go_loopw [7, 23] (fun r i wr => ∃ k : Nat, k ≤ ls.length ∧ i = .int .i64 k ∧ Hid (Rowing (Off Bs g) w1.heap.size 23 wr r ((List.range k).map (datAt ls s))) ∧ Grow w1 wr) (fun _ i _ => ls.length - (intOf i).toNat)
    case atStart => exact ⟨0, by omega, rfl, Rowing.nil _ _ _ _, Grow.refl _⟩
    case round =>
      obtain ⟨k, hk, rfl, HR, hgr⟩ := hrel
      by_cases hlt : k < ls.length
      · obtain ⟨b, off, rfl, hc⟩ := Hc.out (by omega)
        obtain ⟨ak, nk, ck, hck, hbk⟩ := hc k hlt
        have hgw := hg1.trans hgr
        have hck' := hgw.at hck
        have Hbk : Hid (Off Bs g w (.slice ak nk ck) (ls.getD k [])) := hbk
        have HC : Hid (∀ k, k < ls.length → ∃ ak n ck, w.cell? ⟨b, off + k, none⟩ = some (.slice ak n ck) ∧ Off Bs g w (.slice ak n ck) (ls.getD k [])) := hc
        clear hc hck hbk
        have hdk : decide ((k : Int) < ls.length) = true := by simp; omega
        go_wp2_with fail
        refine (refRead_sub _ (ls.getD k []) k s _ (Hbk.out.here.grow hgw)).mono ?_
        rintro e w2 ⟨r, rfl, hr, hg2⟩
        obtain ⟨arr, nr, crr, rfl⟩ := (hr _ Hbk.out.here).form
        have Hr : Hid (∀ w2, Bs w2 (.slice ak nk ck) (ls.getD k []) → Bs w2 (.slice arr nr crr) (readX (ls.getD k []) k s)) := hr
        clear hr
        have hB := HB.out k
        have hgr2 := hgr.trans hg2
        have Hrow : Hid (Rowing (Off Bs g) w1.heap.size 23 w2 u7 ((List.range k).map (datAt ls s))) := HR.out.grow hg2
        clear HR hck' hgr hgw
        have hT := HT.out k
        by_cases he : readE (ls.getD k []) k s = 0
        · have HD := HN.out k (by rw [hB, he]; rfl)
          have Hoff : Hid (Off (Off Bs g) u7.ownBlock w2 (.slice arr nr crr) (datAt ls s k)) := by
            rw [HD]
            exact Off.old (Off.stays Bs g) (w0 := w1) (fun w' h' => Hr.out w' ((Hbk.out.grow hg1) w' h')) hgr2 (fun j hj => (Hrow.out.base j hj).1)
          clear HD hB
          generalize readE (ls.getD k []) k s = E at *
          subst he
          go_wp2_with (first
            | (at_builtin; refine wpList_push rfl (.tmp 63) (.tmp 65) 22 rfl i0 (.slice none 0 0) 24 Try.underlying22 hi hz0 hz1 hz2 rfl w1 hgr2 rfl rfl Hrow.out rfl Hoff.out w2.heap.size rfl rfl (by simp; omega) (by simp; omega) ?_; rintro v1 w3 - hrow1 hg3))
          rw [hT] at hrow1
          go_wp2
          go_roundw
          case rel => first | exact ⟨k + 1, by omega, by go_num, hrow1, hg3⟩ | ((repeat apply Exists.intro); exact ⟨⟨k + 1, by omega, by go_num, hrow1, hg3⟩, rfl⟩)
          case measure => simp [intOf]; omega
        · have hbk : isBad ls s k = true := by rw [hB]; simpa using he
          have HD := HG.out k hbk
          have HQ : Hid (∀ b ∈ restTo ls s k ls.length, b.length = 4) := HF.out k hlt hbk
          clear hB hbk
          generalize readE (ls.getD k []) k s = E at *
          have hd1 : (E != 0) = true := by simpa using he
          go_wp2
          go_loopw [11, 40] (fun q i wr => ∃ m : Nat, m ≤ ls.length ∧ i = .int .i64 m ∧ Hid (Rowing Bs w2.heap.size 23 wr q (restTo ls s k m)) ∧ Grow w2 wr) (fun _ i _ => ls.length - (intOf i).toNat)
          case atStart => exact ⟨0, by omega, rfl, Rowing.nil _ _ _ _, Grow.refl _⟩
          case round =>
            obtain ⟨m, hm, rfl, HM, hgm⟩ := hrel
            by_cases hmlt : m < ls.length
            · by_cases hmk : m = k
              · have HM' : Hid (Rowing Bs w2.heap.size 23 wr u11 (restTo ls s k (m + 1))) := by rw [Hid, restTo_skip ls s hmk]; exact HM.out
                subst hmk
                go_wp2
                go_roundw
                case rel => first | exact ⟨m + 1, by omega, by go_num, HM', hgm⟩ | ((repeat apply Exists.intro); exact ⟨⟨m + 1, by omega, by go_num, HM', hgm⟩, rfl⟩)
                case measure => simp [intOf]; omega
              · have hmk' : ¬ (m : Int) = k := by omega
                have HS : Hid (restTo ls s k (m + 1) = restTo ls s k m ++ [readX (ls.getD m []) m s]) := restTo_take ls s hmk
                have hrl := restTo_length ls s k m
                obtain ⟨am, nm, cm, hcm, hbm⟩ := HC.out m hmlt
                have hgw2 := (hg1.trans hgr2).trans hgm
                have hcm' := hgw2.at hcm
                have Hbm : Hid (Off Bs g w (.slice am nm cm) (ls.getD m [])) := hbm
                clear hcm hbm
                go_wp2_with fail
                refine (refRead_sub _ (ls.getD m []) m s _ (Hbm.out.here.grow hgw2)).mono ?_
                rintro e w3 ⟨rm, rfl, hrm, hg3⟩
                obtain ⟨arm, nrm, crm, rfl⟩ := (hrm _ Hbm.out.here).form
                have hgm3 := hgm.trans hg3
                have Hrow3 : Hid (Rowing Bs w2.heap.size 23 w3 u11 (restTo ls s k m)) := HM.out.grow hg3
                have Hoff : Hid (Off Bs u11.ownBlock w3 (.slice arm nrm crm) (readX (ls.getD m []) m s)) := Off.old Bs.stays (hrm _ (Hbm.out.here.grow (hg1.trans hgr2))) hgm3 (fun j hj => (Hrow3.out.base j hj).1)
                clear hrm HM hcm'
                go_wp2_with (first
                  | (at_builtin; refine wpList_push rfl (.tmp 56) (.tmp 58) 22 rfl i0 (.slice none 0 0) 24 Try.underlying22 hi hz0 hz1 hz2 rfl w2 hgm3 rfl rfl Hrow3.out rfl Hoff.out w3.heap.size rfl rfl (by omega) (by omega) ?_; rintro v1 w4 - hrow4 hg4))
                rw [← HS.out] at hrow4
                go_wp2
                go_roundw
                case rel => first | exact ⟨m + 1, by omega, by go_num, hrow4, hg4⟩ | ((repeat apply Exists.intro); exact ⟨⟨m + 1, by omega, by go_num, hrow4, hg4⟩, rfl⟩)
                case measure => simp [intOf]; omega
            · obtain rfl : m = ls.length := by omega
              have Hxo := xorAll_octets (Bss.octets (HM.out.done))
              go_wp2_with fail
              refine (refXor_new _ _ _ HM.out.done HQ.out).mono ?_
              rintro e w5 ⟨rfl, HX, hg5⟩
              have hgr5 := (hgr2.trans hgm).trans hg5
              have Hrow5 : Hid (Rowing (Off Bs g) w1.heap.size 23 w5 u7 ((List.range k).map (datAt ls s))) := Hrow.out.grow (hgm.trans hg5)
              have Hoff : Hid (Off (Off Bs g) u7.ownBlock w5 (.slice (some ⟨wr.heap.size, 0, none⟩) 4 4) (datAt ls s k)) := by
                rw [HD]
                exact Off.row2 HX.out rfl (by unfold maxLen; omega) Hxo (fun e => by have := hg _ e; have := (hg1.trans hgr2).size; have := hgm.size; omega) (fun e => by have := (Hrow.out.base _ e).2; have := hgm.size; omega)
              clear HD HX HM
              go_wp2_with (first
                | (at_builtin; refine wpList_push rfl (.tmp 63) (.tmp 65) 22 rfl i0 (.slice none 0 0) 24 Try.underlying22 hi hz0 hz1 hz2 rfl w1 hgr5 rfl rfl Hrow5.out rfl Hoff.out w5.heap.size rfl rfl (by simp; omega) (by simp; omega) ?_; rintro v1 w6 - hrow6 hg6))
              rw [hT] at hrow6
              go_wp2
              go_roundw
              case rel => first | exact ⟨k + 1, by omega, by go_num, hrow6, hg6⟩ | ((repeat apply Exists.intro); exact ⟨⟨k + 1, by omega, by go_num, hrow6, hg6⟩, rfl⟩)
              case measure => simp [intOf]; omega
      · obtain rfl : k = ls.length := by omega
        go_wp2
        go_ret2
        exact ⟨_, ret_bs2 HE.out.symm, by rw [HL.out]; exact HR.out.low hg1.size, hg1.trans hgr⟩

theorem refData_off (v : Value) (ls : List (List Int)) (s : Int) (w : World) (g : Option Nat) (h00 : Sl (Off Bs g) w v ls) (hg : ∀ k, g = some k → k < w.heap.size) (hl : ls.length ≤ 100) :
    Calls Try.prog 24 #[v, .int .i64 s] w fun e w' => ∃ r, e = .returned (.tuple #[r, .int .i64 (dataE ls s)]) ∧ Sl (Off Bs g) w' r (dataL ls s) ∧ Grow w w' :=
  (refData_row v ls s w g h00 hg hl).mono fun _ _ ⟨r, he, hr, hg⟩ => ⟨r, he, hr.done, hg⟩

theorem refData_any (v : Value) (ls : List (List Int)) (s : Int) (w : World) (h : Bss w v ls) (hl : ls.length ≤ 100) :
    Calls Try.prog 24 #[v, .int .i64 s] w fun e w' => ∃ r, e = .returned (.tuple #[r, .int .i64 (dataE ls s)]) ∧ Bss w' r (dataL ls s) ∧ Grow w w' :=
  (refData_off v ls s w none (Sl.lift (fun _ _ h => Off.plain Bs.stays h) h (Grow.refl _)) (fun _ h => nomatch h) hl).mono fun _ _ ⟨r, he, hr, hg⟩ => ⟨r, he, hr.off, hg⟩

end Go.Proofs.Ytjggiameajndgab

/-
  What the reference's Read and Blocks return. Nothing old turns.
-/
namespace Go.Proofs.Ytjggiameajndgab
open Go.RowKit

/-- A cell of an array, as it lies. -/
theorem ArrG.cell {g : Option Nat} {w : World} {ad : Option Addr} {cd : Nat} {a : ArrP} (hd : Sl (Sl (Off Bs g)) w (.slice ad 4 cd) a.ds) (ha : Whole a) {k s : Nat} (hk : k < 4) (hs : s < 3) :
    ∃ b off c' b' off' u' n' cc', ad = some ⟨b, off, none⟩ ∧ w.cell? ⟨b, off + k, none⟩ = some (.slice (some ⟨b', off', none⟩) 3 c') ∧ w.cell? ⟨b', off' + s, none⟩ = some (.slice u' n' cc') ∧ Off Bs g w (.slice u' n' cc') (cellAt a k s) ∧ 3 ≤ c' := by
  have hk' : k < a.ds.length := by have := ha.1; omega
  obtain ⟨b, off, a', c', e1, e2, e3⟩ := hd.elems hk'
  have h3 : (a.ds.getD k []).length = 3 := ha.2 _ (by simp [List.getD_eq_getElem?_getD, hk'])
  obtain ⟨b', off', u', e4, e5, e6⟩ := e3.elem (k := s) (by omega) []
  obtain ⟨x1, x2, x3, rfl⟩ := e6.here.form
  have h4 : 3 ≤ c' := by
    obtain ⟨_, _, e7, h7, _⟩ := e3
    injection e7 with _ _ e7
    omega
  rw [h3, e4] at e2
  exact ⟨b, off, c', b', off', x1, x2, x3, e1, e2, e5, e6, h4⟩

set_option maxRecDepth 20000 in
set_option maxHeartbeats 3200000 in
theorem refRead6_off (v : Value) (a : ArrP) (n : Int) (w : World) (g : Option Nat) (h : ArrG g w v a) (hg : ∀ k, g = some k → k < w.heap.size) (ha : Whole a) :
    Calls Try.prog 38 #[v, .int .i64 n] w fun e w' => ∃ r, e = .returned (.tuple #[r, .int .i64 (rdE a n)]) ∧ Off Bs g w' r (rdX a n) ∧ Grow w w' := by
  have harr := h
  obtain ⟨dv, iv, rfl, hd, hit⟩ := h
  obtain ⟨ad, cd, rfl, hd1, hd2⟩ := hd.form'
  obtain ⟨ai, ci, rfl, hi1, hi2⟩ := hit.form
  rw [ha.1] at hd hd1 harr ⊢
  have hgA : Grow w (w.alloc (.cells #[.slice ad 4 cd, .slice ai a.is.length ci] 39)) := Grow.alloc _ _
  by_cases hn : 0 ≤ n ∧ n < 9
  · obtain ⟨hD, hS, hE, hd4, hs3⟩ := where_bd hn
    obtain ⟨b, off, c', b', off', u', n', cc', rfl, hc1, hc2, hb, h3c⟩ := ArrG.cell hd ha hd4 hs3
    have HE : Hid (rdE a n = if readE (cellAt a (dOf n) (sOf n)) (dOf n) (sOf n) = 0 then 0 else dataE (cellsL a (sOf n)) (sOf n)) := if_pos hn
    have HX : Hid (rdX a n = if readE (cellAt a (dOf n) (sOf n)) (dOf n) (sOf n) = 0 then readX (cellAt a (dOf n) (sOf n)) (dOf n) (sOf n) else (dataL (cellsL a (sOf n)) (sOf n)).getD (dOf n) []) := if_pos hn
    have hW := fun w1 => refWhere_any n w1
    rw [hD, hS, hE] at hW
    clear hD hS hE hn hd hit
    generalize dOf n = d at *
    generalize sOf n = s at *
    generalize a.is.length = ni at *
    go_enter Try.func38, Try.ntmps38
    go_wp2_with fail
    refine (hW _).mono ?_
    rintro e w1 ⟨rfl, hg1⟩
    have hcell := fun i : Nat => hg1.cell (p := ⟨w.heap.size, i, none⟩) (by simp)
    have k0 := (hcell 0).trans (show _ = some (Value.slice (some ⟨b, off, none⟩) 4 cd) by simp)
    have k1 := (hcell 1).trans (show _ = some (Value.slice ai ni ci) by simp)
    have hgw := hgA.trans hg1
    have hc1' := hgw.at hc1
    have hc2' := hgw.at hc2
    clear hcell hg1 hW hgA
    go_wp2_with fail
    refine (refRead_sub _ _ d s _ (hb.here.grow hgw)).mono ?_
    rintro e w2 ⟨r, rfl, hr, hg2⟩
    by_cases he : readE (cellAt a d s) d s = 0
    · have HE' := HE.out
      have HX' := HX.out
      rw [if_pos he] at HE' HX'
      have Hfin : Hid (rdE a n = 0 ∧ Off Bs g w2 r (rdX a n)) := ⟨HE', by rw [HX']; exact fun w' h' => hr w' (((hb.grow hgw).grow hg2) w' h')⟩
      clear HE' HX' HE HX hr
      generalize readE (cellAt a d s) d s = E at *
      subst he
      go_wp2
      go_ret2
      exact ⟨_, ret_bs2 Hfin.out.1.symm, Hfin.out.2, hgw.trans hg2⟩
    · have HE' := HE.out
      have HX' := HX.out
      rw [if_neg he] at HE' HX'
      have Hfin : Hid (rdE a n = dataE (cellsL a s) s ∧ rdX a n = (dataL (cellsL a s) s).getD d []) := ⟨HE', HX'⟩
      have k0' := hg2.at k0
      have k1' := hg2.at k1
      have hgw2 := hgw.trans hg2
      clear HE' HX' HE HX hr hc1 hc2 hc1' hc2' k0 k1
      generalize readE (cellAt a d s) d s = E at *
      have he' : (E == 0) = false := by simpa using he
      go_wp2_with fail
      refine (refCells_off _ a s _ g (harr.grow hgw2) ha hs3).mono ?_
      rintro e w3 ⟨rc, rfl, hrc, hg3⟩
      go_wp2_with fail
      refine (refData_off _ _ s _ g hrc (fun j hj => by have := hg j hj; have := (hgw2.trans hg3).size; omega) (by rw [cellsL_length, ha.1]; omega)).mono ?_
      rintro e w4 ⟨rd, rfl, hrd, hg4⟩
      have hgw4 := (hgw2.trans hg3).trans hg4
      by_cases hde : dataE (cellsL a s) s = 0
      · have hlen := dataL_length hde
        rw [cellsL_length, ha.1] at hlen
        obtain ⟨ar, cr, rfl, hr1, hr2⟩ := hrd.form'
        obtain ⟨br, or, ud, e1, e2, e3⟩ := hrd.elem (k := d) (by omega) []
        obtain ⟨x1, x2, x3, rfl⟩ := e3.here.form
        subst e1
        have Hfin' : Hid (rdE a n = 0 ∧ Off Bs g w4 (.slice x1 x2 x3) (rdX a n)) := ⟨by rw [Hfin.out.1, hde], by rw [Hfin.out.2]; exact e3⟩
        rw [hlen] at hr1 ⊢
        clear Hfin hrd e3 hrc hlen
        generalize dataE (cellsL a s) s = E2 at *
        subst hde
        go_wp2
        go_ret2
        exact ⟨_, ret_bs2 Hfin'.out.1.symm, Hfin'.out.2, hgw4⟩
      · have hnil := dataL_nil hde
        have Hfin' : Hid (rdE a n = dataE (cellsL a s) s ∧ rdX a n = []) := ⟨Hfin.out.1, by rw [Hfin.out.2, hnil]; simp⟩
        clear Hfin hrd hrc hnil
        generalize dataE (cellsL a s) s = E2 at *
        have hde' : (E2 != 0) = true := by simpa using hde
        go_wp2
        go_ret2
        exact ⟨_, ret_bs2 Hfin'.out.1.symm, by rw [Hfin'.out.2]; exact fun _ _ => Bs.nil _, hgw4⟩
  · have HE : Hid (rdE a n = 3) := if_neg hn
    have HX : Hid (rdX a n = []) := if_neg hn
    have hW := fun w1 => refWhere_any n w1
    obtain ⟨hD, hS, hEw⟩ := where_out hn
    rw [hEw] at hW
    clear hd hit hn hD hS hEw
    generalize a.is.length = ni at *
    go_enter Try.func38, Try.ntmps38
    go_wp2_with fail
    refine (hW _).mono ?_
    rintro e w1 ⟨rfl, hg1⟩
    go_wp2
    go_ret2
    exact ⟨_, ret_bs2 HE.out.symm, by rw [HX.out]; exact fun _ _ => Bs.nil _, hgA.trans hg1⟩

theorem refRead6_any (v : Value) (a : ArrP) (n : Int) (w : World) (h : ArrV w v a) (ha : Whole a) :
    Calls Try.prog 38 #[v, .int .i64 n] w fun e w' => ∃ r, e = .returned (.tuple #[r, .int .i64 (rdE a n)]) ∧ Bs w' r (rdX a n) ∧ Grow w w' :=
  (refRead6_off v a n w none (ArrG.of h (Grow.refl _) (fun _ h => nomatch h)) (fun _ h => nomatch h) ha).mono fun _ _ ⟨r, he, hr, hg⟩ => ⟨r, he, hr.here, hg⟩

set_option maxRecDepth 20000 in
set_option maxHeartbeats 3200000 in
theorem refBlocks_any (v : Value) (a : ArrP) (w : World) (h : ArrV w v a) (ha : Whole a) :
    Calls Try.prog 40 #[v] w fun e w' => ∃ r, e = .returned (.tuple #[r, .int .i64 (blkE a)]) ∧ Bss w' r (blkL a) ∧ Grow w w' := by
  obtain ⟨i0, hi, hz0, hz1, hz2⟩ := info_parts Try.infoS
  have harr := h
  obtain ⟨dv, iv, rfl, hd, hit⟩ := h
  obtain ⟨ad, cd, rfl, hd1, hd2⟩ := hd.form'
  obtain ⟨ai, ci, rfl, hi1, hi2⟩ := hit.form
  rw [ha.1] at hd hd1 harr ⊢
  have hgA : Grow w (w.alloc (.cells #[.slice ad 4 cd, .slice ai a.is.length ci] 39)) := Grow.alloc _ _
  have HT : Hid (∀ k, (List.range k).map (fun n => rdX a (n : Nat)) ++ [rdX a (k : Nat)] = (List.range (k + 1)).map (fun n => rdX a (n : Nat))) := blk_succ a
  have HO : Hid ((∀ j, j < 9 → rdE a (j : Nat) = 0) → blkE a = 0 ∧ blkL a = (List.range 9).map (fun n => rdX a (n : Nat))) := fun h => by
    have := blkE_ok h
    exact ⟨this, if_pos this⟩
  have HF : Hid (∀ k, k < 9 → (∀ j, j < k → rdE a (j : Nat) = 0) → rdE a (k : Nat) ≠ 0 → blkE a = rdE a (k : Nat) ∧ blkL a = []) := fun k hk h1 h2 => by
    have := blkE_no hk h1 h2
    exact ⟨this, if_neg (by rw [this]; exact h2)⟩
  clear hd hit
  generalize a.is.length = ni at *
  go_enter Try.func40, Try.ntmps40
  go_wp2
  obtain ⟨w1, hw1⟩ : ∃ w1, w1 = w.alloc (.cells #[.slice ad 4 cd, .slice ai ni ci] 39) := ⟨_, rfl⟩
  have k0 : w1.cell? ⟨w.heap.size, 0, none⟩ = some (.slice ad 4 cd) := by rw [hw1]; simp
  have k1 : w1.cell? ⟨w.heap.size, 1, none⟩ = some (.slice ai ni ci) := by rw [hw1]; simp
  rw [← hw1] at hgA ⊢
  clear hw1
  go_loopw [4, 8] (fun r i wr => ∃ k : Nat, k ≤ 9 ∧ i = .int .i64 k ∧ Hid (Rowing Bs w1.heap.size 23 wr r ((List.range k).map (fun n => rdX a (n : Nat)))) ∧ Hid (∀ j, j < k → rdE a (j : Nat) = 0) ∧ Grow w1 wr) (fun _ i _ => 9 - (intOf i).toNat)
  case atStart => exact ⟨0, by omega, rfl, Rowing.nil _ _ _ _, (fun j hj => by omega), Grow.refl _⟩
  case round =>
    obtain ⟨k, hk, rfl, HR, HE, hgr⟩ := hrel
    by_cases hlt : k < 9
    · have c0 := hgr.at k0
      have c1 := hgr.at k1
      have hgw := hgA.trans hgr
      clear k0 k1
      go_wp2_with fail
      refine (refRead6_off _ a k _ u4.ownBlock (ArrG.of harr hgw (fun j hj => by have := (HR.out.base j hj).1; have := hgA.size; omega)) (fun j hj => (HR.out.base j hj).2) ha).mono ?_
      rintro e w2 ⟨r, rfl, hr, hg2⟩
      obtain ⟨ar, nr, cr, rfl⟩ := hr.here.form
      have hgr2 := hgr.trans hg2
      by_cases he : rdE a (k : Nat) = 0
      · have HE' : Hid (∀ j, j < k + 1 → rdE a (j : Nat) = 0) := fun j hj => by
          by_cases hjk : j = k
          · rw [hjk]; exact he
          · exact HE.out j (by omega)
        have Hrow : Hid (Rowing Bs w1.heap.size 23 w2 u4 _) := HR.out.grow hg2
        have hT := HT.out k
        clear HR
        generalize rdE a (k : Nat) = E at *
        subst he
        go_wp2_with (first
          | (at_builtin; refine wpList_push rfl (.tmp 20) (.tmp 22) 22 rfl i0 (.slice none 0 0) 24 Try.underlying22 hi hz0 hz1 hz2 rfl w1 hgr2 rfl rfl Hrow.out rfl hr w2.heap.size rfl rfl (by simp; omega) (by simp; omega) ?_; rintro v1 w3 - hrow3 hg3))
        rw [hT] at hrow3
        go_wp2
        go_roundw
        case rel => first | exact ⟨k + 1, by omega, by go_num, hrow3, HE', hg3⟩ | ((repeat apply Exists.intro); exact ⟨⟨k + 1, by omega, by go_num, hrow3, HE', hg3⟩, rfl⟩)
        case measure => simp [intOf]; omega
      · have HF' : Hid (blkE a = rdE a (k : Nat) ∧ blkL a = []) := HF.out k hlt HE.out he
        generalize rdE a (k : Nat) = E at *
        have he' : (E != 0) = true := by simpa using he
        clear HF HO HT HR hr
        go_wp2
        go_ret2
        exact ⟨_, ret_bs2 HF'.out.1.symm, by rw [HF'.out.2]; exact Sl.nil _ _, hgA.trans hgr2⟩
    · obtain rfl : k = 9 := by omega
      have HO' := HO.out HE.out
      have Hfin : Hid (blkE a = 0 ∧ Bss wr u4 (blkL a)) := ⟨HO'.1, by rw [HO'.2]; exact HR.out.done⟩
      clear HO' HF HO HT HR
      go_wp2
      go_ret2
      exact ⟨_, ret_bs2 Hfin.out.1.symm, Hfin.out.2, hgA.trans hgr⟩

end Go.Proofs.Ytjggiameajndgab
