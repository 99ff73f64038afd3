/-
  What the reference's Xor returns, bit by bit; and what the statements of chapter 3 hold for blocks (right). Nothing old turns.
-/
import Derived.Test.YtjggiameajndgaaWalkXor
namespace Go.Proofs.Ytjggiameajndgaa
open Go.RowKit

/-- Blocks, and not too many. -/
def rightB (ls : List (List Int)) : Bool := ls.all (fun b => b.length == 4) && decide (ls.length ≤ 50)

theorem right_no {ls : List (List Int)} {k : Nat} (hk : k < ls.length) (h : (ls.getD k []).length ≠ 4) : rightB ls = false := by
  rw [rightB, Bool.and_eq_false_iff]
  left
  rw [List.all_eq_false]
  exact ⟨ls.getD k [], by simp [List.getD_eq_getElem?_getD, hk], by simpa using h⟩

theorem right_end {ls : List (List Int)} (h : ∀ k, k < ls.length → (ls.getD k []).length = 4) : rightB ls = decide (ls.length ≤ 50) := by
  have : ls.all (fun b => b.length == 4) = true := by
    rw [List.all_eq_true]
    intro b hb
    obtain ⟨i, hi, rfl⟩ := List.mem_iff_getElem.1 hb
    have := h i hi
    simpa [List.getD_eq_getElem?_getD, hi] using this
  rw [rightB, this, Bool.true_and]

theorem right_all {ls : List (List Int)} (h : rightB ls = true) : (∀ b ∈ ls, b.length = 4) ∧ ls.length ≤ 50 := by
  simp [rightB] at h
  exact h

set_option maxRecDepth 20000 in
set_option maxHeartbeats 400000 in
theorem right3_any (v : Value) (ls : List (List Int)) (w : World) (h : Bss w v ls) :
    Calls Try.prog 29 #[v] w fun e w' => e = .returned (.bool (rightB ls)) ∧ w' = w := by
  obtain ⟨ao, cap, rfl, h1, h2, h3, h4⟩ := h
  unfold maxLen at h2
  go_enter Try.func29, Try.ntmps29
  go_wp2
  go_loop [7] (fun i => ∃ k : Nat, k ≤ ls.length ∧ i = .int .i64 k ∧ Hid (∀ j, j < k → (ls.getD j []).length = 4)) (fun i => ls.length - (intOf i).toNat)
  case atStart => exact ⟨0, by omega, rfl, (fun j hj => by omega)⟩
  case round =>
    obtain ⟨k, hk, rfl, HK⟩ := hrel
    by_cases hlt : k < ls.length
    · obtain ⟨b, off, rfl, hc⟩ := h4 (by omega)
      obtain ⟨ak, ck, hck, hbk⟩ := Sl.bytesAt hc hlt
      have hn := hbk.len
      unfold maxLen at hn
      clear hc h4 hbk
      by_cases h0 : (ls.getD k []).length = 4
      · have HK' : Hid (∀ j, j < k + 1 → (ls.getD j []).length = 4) := fun j hj => by
          by_cases hjk : j = k
          · subst hjk; exact h0
          · exact HK.out j (by omega)
        rw [h0] at hck
        clear h0
        go_wp2
        go_round
        case rel => exact ⟨k + 1, by omega, by go_num, HK'⟩
        case measure => simp [intOf]; omega
      · have HE : Hid (rightB ls = false) := right_no hlt h0
        generalize (ls.getD k []).length = n at *
        have h0' : ¬ (n : Int) = 4 := by omega
        go_wp2
        go_ret
        exact ⟨ret_bool HE.out.symm, rfl⟩
    · have HE : Hid (rightB ls = decide (ls.length ≤ 50)) := right_end fun j hj => HK.out j (by omega)
      go_wp2
      go_ret
      exact ⟨ret_bool (by rw [HE.out]; exact decide_eq_decide.2 (by omega)), rfl⟩


/-- The row when place i has its first j bits. -/
def xp (ls : List (List Int)) (i j : Nat) : List Int := (List.range 4).map fun m => if m < i then (xC ls m : Int) else if m = i then ((xC ls i % 2 ^ j : Nat) : Int) else 0

theorem xp_start (ls : List (List Int)) : xp ls 0 0 = [0, 0, 0, 0] := by
  simp [xp, List.range_succ, Nat.mod_one]

theorem xp_next {ls : List (List Int)} (h : ∀ b ∈ ls, Octets b) {i : Nat} (hi : i < 4) : xp ls i 8 = xp ls (i + 1) 0 := by
  have hx := xC_lt h i
  have h8 : xC ls i % 2 ^ 8 = xC ls i := Nat.mod_eq_of_lt hx
  match i, hi with
  | 0, _ => simp [xp, List.range_succ, Nat.mod_one]; omega
  | 1, _ => simp [xp, List.range_succ, Nat.mod_one]; omega
  | 2, _ => simp [xp, List.range_succ, Nat.mod_one]; omega
  | 3, _ => simp [xp, List.range_succ, Nat.mod_one]; omega

theorem xp_end (ls : List (List Int)) : xp ls 4 0 = xorAll ls := by
  simp [xp, List.range_succ, xorAll]

theorem xp_getD (ls : List (List Int)) {i : Nat} (hi : i < 4) (j : Nat) : (xp ls i j)[i]? = some ((xC ls i % 2 ^ j : Nat) : Int) := by
  simp [xp, hi]

theorem xp_set (ls : List (List Int)) {i : Nat} (hi : i < 4) (j : Nat) : ((xp ls i j).map (Value.int .u8)).set i (.int .u8 ((xC ls i % 2 ^ (j + 1) : Nat) : Int)) = (xp ls i (j + 1)).map (Value.int .u8) := by
  match i, hi with
  | 0, _ => simp [xp, List.range_succ]
  | 1, _ => simp [xp, List.range_succ]
  | 2, _ => simp [xp, List.range_succ]
  | 3, _ => simp [xp, List.range_succ]

theorem pow_le_128 {j : Nat} (h : j < 8) : (2 : Int) ^ j ≤ 128 ∧ 1 ≤ (2 : Int) ^ j := by
  match j, h with
  | 0, _ | 1, _ | 2, _ | 3, _ | 4, _ | 5, _ | 6, _ | 7, _ => decide

theorem bit_int {x p : Int} {j : Nat} (hx : 0 ≤ x) (hp : p = 2 ^ j) : x / p % 2 = ((x.toNat / 2 ^ j % 2 : Nat) : Int) := by
  obtain ⟨n, rfl⟩ := Int.eq_ofNat_of_zero_le hx
  subst hp
  simp

theorem low_le {x j : Nat} (h : j < 8) : x % 2 ^ (j + 1) ≤ 255 := by
  have h1 := Nat.mod_lt x (show 0 < 2 ^ (j + 1) from Nat.pow_pos (by omega))
  have h2 : 2 ^ (j + 1) ≤ 2 ^ 8 := Nat.pow_le_pow_right (by omega) (by omega)
  omega

set_option maxRecDepth 20000 in
set_option maxHeartbeats 1600000 in
theorem refXor_new (v : Value) (ls : List (List Int)) (w : World) (h : Bss w v ls) (hl : ∀ b ∈ ls, b.length = 4) :
    Calls Try.prog 30 #[v] w fun e w' => e = .returned (.slice (some ⟨w.heap.size, 0, none⟩) 4 4) ∧ Hid (w'.heap[w.heap.size]? = some (.cells ((xorAll ls).map (Value.int .u8)).toArray 5 (0, 0))) ∧ Grow w w' := by
  have hoc := h.octets
  obtain ⟨ao, cap, rfl, h1, h2, h3, h4⟩ := h
  unfold maxLen at h2
  have hg0 : Grow w (w.alloc (.cells #[.int .u8 0, .int .u8 0, .int .u8 0, .int .u8 0] 5)) := Grow.alloc _ _
  have hr0 : (w.alloc (.cells #[.int .u8 0, .int .u8 0, .int .u8 0, .int .u8 0] 5)).heap[w.heap.size]? = some (.cells (([0, 0, 0, 0] : List Int).map (Value.int .u8)).toArray 5 (0, 0)) := heap_alloc_new _ _
  go_enter Try.func30, Try.ntmps30
  go_wp2
  go_loopw [12] (fun i wr => ∃ k : Nat, k ≤ 4 ∧ i = .int .i64 k ∧ Hid (wr.heap[w.heap.size]? = some (.cells ((xp ls k 0).map (Value.int .u8)).toArray 5 (0, 0))) ∧ Grow w wr) (fun i _ => 4 - (intOf i).toNat)
  case atStart => exact ⟨0, by omega, rfl, by rw [xp_start]; exact hr0, hg0⟩
  case round =>
    obtain ⟨i, hi, rfl, HR, hgr⟩ := hrel
    by_cases hlt : i < 4
    · obtain ⟨wo, hwo⟩ : ∃ wo : World, wo = wr := ⟨_, rfl⟩
      subst hwo
      have hd : decide ((i : Int) < 4) = true := by simp; omega
      go_wp2
      go_loopw [5] (fun q wr => ∃ (j : Nat) (p : Int), j ≤ 8 ∧ q = .int .i64 p ∧ 1 ≤ p ∧ p ≤ 256 ∧ Hid (p = 2 ^ j) ∧ Hid (wr.heap[w.heap.size]? = some (.cells ((xp ls i j).map (Value.int .u8)).toArray 5 (0, 0))) ∧ Grow w wr) (fun q _ => 256 - (intOf q).toNat)
      case atStart => exact ⟨0, 1, by omega, rfl, by omega, by omega, rfl, HR, hgr⟩
      case round =>
        obtain ⟨j, p, hj, rfl, hp1, hp2, HP, HR', hg'⟩ := hrel
        by_cases hj8 : j < 8
        · have hpw := pow_le_128 hj8
          rw [← HP.out] at hpw
          obtain ⟨hp3, -⟩ := hpw
          obtain ⟨wi, hwi⟩ : ∃ wi : World, wi = wr := ⟨_, rfl⟩
          subst hwi
          have hdp : decide (p < 256) = true := by simp; omega
          go_wp2
          go_loop [6, 21] (fun n q => ∃ (k c : Nat), k ≤ ls.length ∧ q = .int .i64 k ∧ n = .int .i64 c ∧ c ≤ k ∧ Hid (c = cnt (ls.take k) i j)) (fun _ q => ls.length - (intOf q).toNat)
          case atStart => exact ⟨0, 0, by omega, rfl, rfl, by omega, rfl⟩
          case round =>
            obtain ⟨k, c, hk, rfl, rfl, hck, HC⟩ := hrel
            by_cases hk2 : k < ls.length
            · obtain ⟨b, off, rfl, hc⟩ := h4 (by omega)
              obtain ⟨ak, cak, hce, hbk⟩ := Sl.bytesAt hc hk2
              have hlk : (ls.getD k []).length = 4 := hl _ (by simp [List.getD_eq_getElem?_getD, hk2])
              have hce' := (hg'.cell (p := ⟨b, off + k, none⟩) (cell_lt hce)).trans hce
              have hbk' := hbk.grow hg'
              rw [hlk] at hce' hbk'
              obtain ⟨a1, c1, e1, -, -, -, hok, hcs⟩ := hbk'
              injection e1 with e1 e2 e3
              subst e1 e3
              obtain ⟨bb, boff, rfl, hcb⟩ := hcs (by omega)
              have hcx := hcb i (by omega)
              have hx := getD_bd hok i
              have HN := cnt_take_succ ls hk2 i j
              clear hc h4 hce hbk hcs hcb e2
              generalize ls.getD k [] = bk at *
              generalize hxe : bk.getD i 0 = x at *
              have hq0 : 0 ≤ x / p := Int.ediv_nonneg hx.1 (by omega)
              have hq1 : x / p ≤ 255 := Int.le_trans (Int.ediv_le_self p hx.1) hx.2
              have hqt : x.tdiv p = x / p := Int.tdiv_eq_ediv_of_nonneg hx.1
              rw [← HC.out] at HN
              have hbi := bit_int (j := j) hx.1 HP.out
              by_cases hb1 : x / p % 2 = 1
              · rw [if_pos (by omega)] at HN
                have HN' : Hid (c + 1 = cnt (ls.take (k + 1)) i j) := HN.symm
                clear HN hbi hxe
                go_wp2
                go_round
                case rel => first | exact ⟨k + 1, c + 1, by omega, by go_num, by go_num, by omega, HN'⟩ | ((repeat apply Exists.intro); exact ⟨⟨k + 1, c + 1, by omega, by go_num, by go_num, by omega, HN'⟩, rfl⟩)
                case measure => simp [intOf]; omega
              · rw [if_neg (by omega)] at HN
                have HN' : Hid (c = cnt (ls.take (k + 1)) i j) := HN.symm
                clear HN hbi hxe
                go_wp2
                go_round
                case rel => first | exact ⟨k + 1, c, by omega, by go_num, rfl, by omega, HN'⟩ | ((repeat apply Exists.intro); exact ⟨⟨k + 1, c, by omega, by go_num, rfl, by omega, HN'⟩, rfl⟩)
                case measure => simp [intOf]; omega
            · obtain rfl : k = ls.length := by omega
              rw [List.take_of_length_le (Nat.le_refl _)] at HC
              have hlc := low_cnt ls i j
              rw [← HC.out] at hlc
              have hle := low_le (x := xC ls i) hj8
              have hco : wi.cell? ⟨w.heap.size, i, none⟩ = some (.int .u8 ((xC ls i % 2 ^ j : Nat) : Int)) := by
                simp only [World.cell?, HR'.out]
                simp [xp_getD ls hlt]
              have hfr : wi.frozen? ⟨w.heap.size, i, none⟩ = false := frozen_of_row wi _ i _ _ HR'.out
              have HS : Hid (∀ z : Int, z = ((xC ls i % 2 ^ (j + 1) : Nat) : Int) → (wi.setCell ⟨w.heap.size, i, none⟩ (.int .u8 z)).heap[w.heap.size]? = some (.cells ((xp ls i (j + 1)).map (Value.int .u8)).toArray 5 (0, 0))) := by
                rintro z rfl
                rw [heap_setCell_same wi _ i _ _ _ HR'.out, ← xp_set ls hlt]
                simp
              have HP' : Hid (2 * p = 2 ^ (j + 1)) := by rw [Hid, Int.pow_succ, ← HP.out, Int.mul_comm]
              have hpn : ((2 ^ j : Nat) : Int) = p := by rw [HP.out]; simp
              generalize xC ls i % 2 ^ j = y at *
              generalize xC ls i % 2 ^ (j + 1) = y' at *
              generalize 2 ^ j = pn at *
              subst hpn
              by_cases hpar : c % 2 = 0
              · rw [hpar, Nat.mul_zero, Nat.add_zero] at hlc
                have hpar' : (c : Int) % 2 = 0 := by omega
                subst hlc
                go_wp2
                go_roundw
                case rel => first | exact ⟨j + 1, 2 * pn, by omega, rfl, by omega, by omega, HP', HS.out _ (by omega), hg'.set (Nat.le_refl _) _⟩ | ((repeat apply Exists.intro); exact ⟨⟨j + 1, 2 * pn, by omega, rfl, by omega, by omega, HP', HS.out _ (by omega), hg'.set (Nat.le_refl _) _⟩, rfl⟩)
                case measure => simp [intOf]; omega
              · have hpar1 : c % 2 = 1 := by omega
                rw [hpar1, Nat.mul_one] at hlc
                have hpar' : (c : Int) % 2 = 1 := by omega
                go_wp2
                go_roundw
                case rel => first | exact ⟨j + 1, 2 * pn, by omega, rfl, by omega, by omega, HP', HS.out _ (by omega), hg'.set (Nat.le_refl _) _⟩ | ((repeat apply Exists.intro); exact ⟨⟨j + 1, 2 * pn, by omega, rfl, by omega, by omega, HP', HS.out _ (by omega), hg'.set (Nat.le_refl _) _⟩, rfl⟩)
                case measure => simp [intOf]; omega
        · obtain rfl : j = 8 := by omega
          have h256 : p = 256 := by rw [HP.out]; decide
          subst h256
          rw [xp_next hoc hlt] at HR'
          go_wp2
          go_roundw
          case rel => first | exact ⟨i + 1, by omega, by go_num, HR', hg'⟩ | ((repeat apply Exists.intro); exact ⟨⟨i + 1, by omega, by go_num, HR', hg'⟩, rfl⟩)
          case measure => simp [intOf]; omega
    · obtain rfl : i = 4 := by omega
      rw [xp_end] at HR
      go_wp2
      go_ret
      exact ⟨rfl, HR, hgr⟩

theorem refXor_any (v : Value) (ls : List (List Int)) (w : World) (h : Bss w v ls) (hl : ∀ b ∈ ls, b.length = 4) :
    Calls Try.prog 30 #[v] w fun e w' => ∃ r, e = .returned r ∧ NewBs (xorAll ls) r w' ∧ Grow w w' :=
  (refXor_new v ls w h hl).mono fun _ _ ⟨he, hn, hg⟩ => ⟨_, he, NewBs.row hn.out rfl (xorAll_octets h.octets), hg⟩

end Go.Proofs.Ytjggiameajndgaa
