/-
  Chapter 4's third statement, walked: no two blocks are at one place, none is where its stripe's xor is, and no disk has two xors. A map counts the xors, and is ranged over in whatever order.
-/
import Derived.Test.YtjggiameajndgaaWalkPlanTells
import Derived.Maps.RangeWalk
import Derived.Maps.OwnOps
namespace Go.Proofs.Ytjggiameajndgaa
open Go.RowKit Go.Maps

theorem lawInt : Keyed Try.prog 3 := int_keyed Try.underlying3
theorem zeroInt (w : World) : (zeroValue 3).run Try.prog w = .ok (.int .i64 0) w := by kernel_rfl

/-- What the map reads as when so many stripes have been counted. -/
def hadD {H : Type} : Nat → DataW H
  | 0 => .map []
  | k + 1 => (hadD k).put (.int .i64 (3 - (k : Int))) (.lit (.int .i64 1))

theorem had_at {H : Type} {k : Nat} {c : Int} (hk : k < 3) (h : (hadD (H := H) k).atKey (.int .i64 (3 - (k : Int))) (.lit (.int .i64 0)) = .lit (.int .i64 c)) : c = 0 := by
  obtain rfl | rfl | rfl : k = 0 ∨ k = 1 ∨ k = 2 := by omega
  all_goals
    simp [hadD, DataW.atKey, DataW.put, DataW.insert, Lit.sameKey, Lit.before] at h
    exact h.symm

theorem had_one {H : Type} {x c : Int} (h : ∀ zd : DataW H, (hadD (H := H) 3).atKey (.int .i64 x) zd = .lit (.int .i64 c)) : c = 1 := by
  have h1 := h (.lit (.int .i64 1))
  rw [show hadD (H := H) 3 = .map [(.int .i64 1, .lit (.int .i64 1)), (.int .i64 2, .lit (.int .i64 1)), (.int .i64 3, .lit (.int .i64 1))] from rfl, DataW.atKey] at h1
  split at h1
  · rename_i p hp
    have hm := List.mem_of_find?_eq_some hp
    simp only [List.mem_cons, List.not_mem_nil, or_false] at hm
    rcases hm with rfl | rfl | rfl <;> (simp at h1; exact h1.symm)
  · simp at h1; exact h1.symm

theorem had_step {H : Type} {k : Nat} (z : Int) (hz : z = 1) : (hadD (H := H) k).put (.int .i64 (3 - (k : Int))) (.lit (.int .i64 z)) = hadD (k + 1) := by
  subst hz; rfl

set_option maxRecDepth 20000 in
set_option maxHeartbeats 3200000 in
theorem planEach_in (a b d s x t : Int) (w : World) (ha0 : 0 ≤ a) (ha1 : a < 9) (hb0 : 0 ≤ b) (hb1 : b < 9) (hs0 : 0 ≤ s) (hs1 : s < 3) (hne : ¬ d = 3 - s) (hq : a / 3 = s)
    (hA : ∀ w1, Calls Try.prog 35 #[.int .i64 a] w1 fun e w' => e = .returned (.tuple #[.int .i64 d, .int .i64 s, .int .i64 0]) ∧ w' = w1)
    (hB : ∀ w1, Calls Try.prog 35 #[.int .i64 b] w1 fun e w' => e = .returned (.tuple #[.int .i64 x, .int .i64 t, .int .i64 0]) ∧ w' = w1)
    (hK : ∀ w1, Calls Try.prog 37 #[.int .i64 d, .int .i64 s] w1 fun e w' => e = .returned (.tuple #[.int .i64 a, .int .i64 0]) ∧ w' = w1)
    (hE : (d = x ∧ s = t) ↔ a = b) :
    Calls Try.prog 13 #[.int .i64 a, .int .i64 b] w fun e w' => e = .returned (.bool true) ∧ Grow w w' := by
  subst hq
  have HE : Hid ((d = x ∧ a / 3 = t) ↔ a = b) := hE
  have e1 : (d == 3 - a / 3) = false := by simpa using hne
  have hmm := @run_makeMap Try.prog
  clear hE
  go_enter Try.func13, Try.ntmps13
  go_wp2_with fail
  refine (alive4_any _).mono ?_
  rintro e w0 ⟨rfl, rfl⟩
  go_wp2_with fail
  refine (hA _).mono ?_
  rintro e w0 ⟨rfl, rfl⟩
  go_wp2_with fail
  refine (hB _).mono ?_
  rintro e w0 ⟨rfl, rfl⟩
  go_wp2_with fail
  refine (hK _).mono ?_
  rintro e w0 ⟨rfl, rfl⟩
  go_wp2_with fail
  refine (spare_low _ _ hs0 hs1).mono ?_
  rintro e w0 ⟨rfl, rfl⟩
  go_wp2_with fail
  go_loopw [79] (fun i wr => ∃ k : Nat, k ≤ 3 ∧ i = .int .i64 k ∧ wr.ownsMap Try.prog 3 (plainElem (H := Unit) Try.prog 3) w0.heap.size k (hadD k) ∧ Grow w0 wr) (fun i _ => 3 - (intOf i).toNat)
  case atStart => exact ⟨0, by omega, rfl, World.ownsMap_made _ _ _ _, Grow.alloc _ _⟩
  case round =>
    obtain ⟨k, hk, rfl, hown, hg⟩ := hrel
    by_cases hlt : k < 3
    · have hkey : keyOf Try.prog 3 (.int .i64 (3 - (k : Int))) = some (.int .i64 (3 - (k : Int))) := keyOf_int_mk Try.underlying3 (WalkArith.wf_i64 (by omega))
      go_wp2_with fail
      refine (spare_low _ _ (by omega) (by omega)).mono ?_
      rintro e w1 ⟨rfl, rfl⟩
      go_wp2_with (first
        | (at_lookup; refine wpList_lookup_own_int _ rfl _ _ 48 rfl 3 3 .i64 lawInt Try.underlying48 Try.underlying3 (zeroInt _) w0.heap.size k _ rfl hown _ _ rfl hkey ?_; intro c hat hwc; obtain rfl := had_at hlt hat)
        | (at_mapUpdate; refine wpList_mapUpdate_own _ rfl _ _ _ 48 rfl 3 3 lawInt Try.underlying48 _ w0.heap.size k _ rfl hown (by unfold maxLen; omega) _ _ _ rfl rfl hkey _ [] (plainElem_int Try.underlying3 (WalkArith.wf_i64 (by omega))) ?_; intro w1 hown1 hgrow1))
      go_roundw
      case rel => first | exact ⟨k + 1, by omega, by go_num, (had_step _ (by rfl)) ▸ hown1, hg.grown hgrow1 (fun j hj => by cases hj; exact Nat.le_refl _)⟩ | ((repeat apply Exists.intro); exact ⟨⟨k + 1, by omega, by go_num, (had_step _ (by rfl)) ▸ hown1, hg.grown hgrow1 (fun j hj => by cases hj; exact Nat.le_refl _)⟩, rfl⟩)
      case measure => simp [intOf]; omega
    · have HK : Hid (k = 3) := by rw [Hid]; omega
      go_wp2_with (first | (at_range; refine wpList_range_own _ rfl _ 48 rfl 3 3 lawInt Try.underlying48 _ w0.heap.size k _ rfl hown ?_; intro wi hrg0 hg0 hs0))
      go_frame
      obtain ⟨r, hr⟩ : ∃ r, r = wr.heap.size := ⟨_, rfl⟩
      rw [← hr] at hrg0 ⊢
      have hrw : w0.heap.size ≤ r := by rw [hr]; exact hg.size
      have hgi : Grow w0 wi := hg.grown hg0 (fun j hj => by cases hj)
      clear hown hr hs0 hg0
      go_loopw [90] (fun _ wr => ∃ (left : Lit → Bool) (cnt : Nat), wr.ranges Try.prog 3 (plainElem (H := Unit) Try.prog 3) w0.heap.size r k (hadD k) left cnt ∧ Grow w0 wr) (fun _ wr => wr.rangeLeft w0.heap.size r)
      case atStart => exact ⟨_, _, hrg0, hgi⟩
      case round =>
        obtain ⟨left, cnt, hrg, hgw⟩ := hrel
        go_wp2_with (first
          | (at_next; refine wpList_next_ranges_ii _ rfl _ rfl 3 3 .i64 .i64 lawInt Try.underlying3 Try.underlying3 w0.heap.size r k _ _ _ rfl hrg ?_ ?_))
        · intro _ hl0
          go_wp2
          all_goals
            go_ret
            exact ⟨ret_bool (by have := HE.out; simp_all; try (rw [Bool.eq_iff_iff]; simpa using this)), hgw⟩
        · intro x c w1 cnt1 hwx hwc hlx hat hrg1 hlt hg1 hs1 hen
          obtain rfl := had_one (by have := HK.out; subst this; exact hat)
          go_wp2
          go_roundw
          case rel => first | exact ⟨_, cnt1, hrg1, hgw.grown hg1 (fun j hj => by cases hj; exact hrw)⟩ | ((repeat apply Exists.intro); exact ⟨⟨_, cnt1, hrg1, hgw.grown hg1 (fun j hj => by cases hj; exact hrw)⟩, rfl⟩)
          case measure => rw [hrg1.left_eq, hrg.left_eq]; exact hlt

set_option maxRecDepth 20000 in
set_option maxHeartbeats 3200000 in
theorem planEach_walk (a b : Int) (w : World) :
    Calls Try.prog 13 #[.int .i64 a, .int .i64 b] w fun e w' => e = .returned (.bool true) ∧ Grow w w' := by
  by_cases hp : (0 ≤ a ∧ a < 9) ∧ (0 ≤ b ∧ b < 9)
  · obtain ⟨ha, hb⟩ := hp
    have hA := where_any a
    have hB := where_any b
    have key : ∀ n : Int, 0 ≤ n ∧ n < 9 → whereE n = 0 ∧ whereS n = n / 3 ∧ (whereD n = diskOf (n / 3) (n % 3)) := fun n h => by simp only [whereE, whereS, whereD, if_pos h]; exact ⟨trivial, trivial, trivial⟩
    obtain ⟨ea, sa, da⟩ := key a ha
    obtain ⟨eb, sb, db⟩ := key b hb
    have hh := block_hit (n := a) ha rfl rfl
    have hK := block_any (whereD a) (whereS a)
    rw [hh.1, hh.2] at hK
    simp only [ea, eb] at hA hB
    refine planEach_in a b (whereD a) (whereS a) (whereD b) (whereS b) w ha.1 ha.2 hb.1 hb.2 (by omega) (by omega) ?_ sa.symm hA hB hK ?_
    · rw [da, sa, diskOf]; split <;> omega
    · rw [da, sa, db, sb, diskOf, diskOf]
      constructor
      · rintro ⟨h1, h2⟩
        split at h1 <;> (split at h1 <;> omega)
      · rintro rfl
        exact ⟨rfl, rfl⟩
  · have hout : a < 0 ∨ (0 ≤ a ∧ 9 ≤ a) ∨ (0 ≤ a ∧ a < 9 ∧ b < 0) ∨ (0 ≤ a ∧ a < 9 ∧ 0 ≤ b ∧ 9 ≤ b) := by omega
    clear hp
    rcases hout with h | ⟨h, g⟩ | ⟨h, g, g2⟩ | ⟨h, g, g2, g3⟩
    all_goals
      go_enter Try.func13, Try.ntmps13
      go_wp2_with fail
      refine (alive4_any _).mono ?_
      rintro e w0 ⟨rfl, rfl⟩
      go_wp2_with fail
      go_ret
      exact ⟨rfl, Grow.refl _⟩

end Go.Proofs.Ytjggiameajndgaa
