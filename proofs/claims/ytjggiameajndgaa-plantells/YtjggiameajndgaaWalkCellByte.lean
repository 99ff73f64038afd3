/-
  The two outright statements of chapter 2, walked: unlike cells look unlike; rot is found, and a wrong place. They return true, and nothing old turns.
-/
import Derived.Test.YtjggiameajndgaaWalkCell2
namespace Go.Proofs.Ytjggiameajndgaa
open Go.RowKit

theorem read_yes (v : Value) (l : List Int) (d s : Int) (w : World) (hl : l.length = 4) (h : Bs w v (cellOf d s l)) :
    Calls Try.prog 24 #[v, .int .i64 d, .int .i64 s] w fun e w' => ∃ r, e = .returned (.tuple #[r, .int .i64 0]) ∧ Bs w' r l ∧ Grow w w' :=
  (read_any v _ d s w h).mono fun e w' ⟨r, he, hb, hg⟩ => by
    have := read_cell (d := d) (s := s) hl d s
    simp only [and_self, if_true] at this
    rw [this.1] at hb
    rw [this.2] at he
    exact ⟨r, he, hb, hg⟩

theorem read_no (v : Value) (l : List Int) (d s d' s' : Int) (w : World) (hl : l.length = 4) (hne : ¬ (d = d' ∧ s = s')) (h : Bs w v (cellOf d s l)) :
    Calls Try.prog 24 #[v, .int .i64 d', .int .i64 s'] w fun e w' => ∃ r, e = .returned (.tuple #[r, .int .i64 8]) ∧ Grow w w' :=
  (read_any v _ d' s' w h).mono fun e w' ⟨r, he, hb, hg⟩ => by
    have := read_cell (d := d) (s := s) hl d' s'
    rw [if_neg hne, if_neg hne] at this
    rw [this.2] at he
    exact ⟨r, he, hg⟩

theorem there_yes (d s : Int) (w : World) (h : 0 ≤ d ∧ d < 4 ∧ 0 ≤ s ∧ s < 3) : Calls Try.prog 23 #[.int .i64 d, .int .i64 s] w fun e w' => e = .returned (.bool true) ∧ w' = w := by
  rw [← show thereB d s = true from decide_eq_true h]; exact there_any d s w

theorem there_no (d s : Int) (w : World) (h : ¬ (0 ≤ d ∧ d < 4 ∧ 0 ≤ s ∧ s < 3)) : Calls Try.prog 23 #[.int .i64 d, .int .i64 s] w fun e w' => e = .returned (.bool false) ∧ w' = w := by
  rw [← show thereB d s = false from decide_eq_false h]; exact there_any d s w

theorem octets_abcd : Octets [97, 98, 99, 100] := by intro x hx; simp at hx; omega

theorem str_abcd : strOfNums [97, 98, 99, 100] = { data := #[97, 98, 99, 100] } := rfl

set_option maxRecDepth 20000 in
set_option maxHeartbeats 1600000 in
theorem alive2_any (w : World) : Calls Try.prog 28 #[] w fun e w' => e = .returned (.bool true) ∧ Grow w w' := by
  have hab : Bs (w.alloc (.cells #[.int .u8 97, .int .u8 98, .int .u8 99, .int .u8 100] 5 (4, 5))) (.slice (some ⟨w.heap.size, 0, none⟩) 4 4) [97, 98, 99, 100] := Bs.lit (by unfold maxLen; simp) octets_abcd _
  have hcv := Lib.run_convert_bytes_const (P := Try.prog) w 22 5 #[.int .u8 97, .int .u8 98, .int .u8 99, .int .u8 100] 4 4 Try.underlying22 Try.underlying5
  go_enter Try.func28, Try.ntmps28
  go_wp2_with fail
  refine (bytes_new _ _ 2 1 _ (by simp) (by omega) (by omega) hab).mono ?_
  rintro e w1 ⟨r, rfl, ⟨g1, c1, rfl, hr⟩, hg1⟩
  rw [show (cellOf 2 1 [97, 98, 99, 100]).length = 8 from rfl] at hr ⊢
  go_wp2_with fail
  refine (read_yes _ _ 2 1 _ rfl hr).mono ?_
  rintro e w2 ⟨x, rfl, hx, hg2⟩
  go_wp2_with fail
  refine (read_no _ _ 2 1 1 2 _ rfl (by omega) (hr.grow hg2)).mono ?_
  rintro e w3 ⟨y, rfl, hg3⟩
  have hcv1 := run_convert_bs (P := Try.prog) 22 5 9 Try.underlying22 Try.underlying5 Try.underlying9 (hx.grow hg3)
  rw [str_abcd] at hcv1
  go_wp2_with fail
  refine (there_yes _ _ _ (by omega)).mono ?_
  rintro e w4 ⟨rfl, rfl⟩
  go_wp2_with fail
  refine (there_no _ _ _ (by omega)).mono ?_
  rintro e w4 ⟨rfl, rfl⟩
  go_wp2_with fail
  go_ret
  exact ⟨rfl, (((Grow.alloc _ _).trans hg1).trans hg2).trans hg3⟩

theorem read_rot (v : Value) (l : List Int) (d s : Int) (k : Nat) (c : Int) (w : World) (hd : 0 ≤ d ∧ d ≤ 255) (hs : 0 ≤ s ∧ s ≤ 255) (ho : Octets l) (hk : k < (cellOf d s l).length) (hc : 0 ≤ c ∧ c ≤ 255) (hne : (cellOf d s l).getD k 0 ≠ c) (h : Bs w v ((cellOf d s l).set k c)) :
    Calls Try.prog 24 #[v, .int .i64 d, .int .i64 s] w fun e w' => ∃ r, e = .returned (.tuple #[r, .int .i64 7]) ∧ Grow w w' :=
  (read_any v _ d s w h).mono fun e w' ⟨r, he, hb, hg⟩ => by
    rw [(read_turned hd hs ho hk hc hne d s).2] at he
    exact ⟨r, he, hg⟩

set_option maxRecDepth 20000 in
set_option maxHeartbeats 3200000 in
theorem cellByte_in (v : Value) (l : List Int) (d s o k c : Int) (w : World) (h : Bs w v l) (hp : 0 ≤ d ∧ d < 4 ∧ 0 ≤ s ∧ s < 3) (hl : l.length = 4) (hc : 0 ≤ c ∧ c ≤ 255) :
    Calls Try.prog 7 #[.int .i64 d, .int .i64 s, v, .int .i64 o, .int .i64 k, .int .u8 c] w fun e w' => e = .returned (.bool true) ∧ Grow w w' := by
  have hbs := h
  obtain ⟨ao, cap, rfl, -⟩ := h
  have hd : 0 ≤ d ∧ d ≤ 255 := by omega
  have hs : 0 ≤ s ∧ s ≤ 255 := by omega
  have hoct := hbs.octets
  have hso := cellOf_octets hd hs hoct
  have hlen : (cellOf d s l).length = 8 := by rw [cellOf_length, hl]
  have hT := fun w1 => there_yes d s w1 hp
  have hY := fun v1 w1 => read_yes v1 l d s w1 hl
  have hO : ∀ v1 w1, Bs w1 v1 (cellOf d s l) → Calls Try.prog 24 #[v1, .int .i64 o, .int .i64 s] w1 fun e w' => ∃ r f, e = .returned (.tuple #[r, .int .i64 f]) ∧ (o = d ∨ o ≠ d ∧ f = 8) ∧ Grow w1 w' := by
    intro v1 w1 hb
    by_cases hdo : o = d
    · exact (read_any v1 _ o s w1 hb).mono fun e w' ⟨r, he, _, hg⟩ => ⟨r, _, he, .inl hdo, hg⟩
    · exact (read_no v1 l d s o s w1 hl (fun h => hdo h.1.symm) hb).mono fun e w' ⟨r, he, hg⟩ => ⟨r, _, he, .inr ⟨hdo, rfl⟩, hg⟩
  have hV := fun w1 hb => bytes_any (.slice ao 4 cap) l d s w1 (by omega) hd hs hb
  rw [hl] at hbs hV ⊢
  clear hp
  go_enter Try.func7, Try.ntmps7
  go_wp2_with fail
  refine (alive2_any _).mono ?_
  rintro e w0 ⟨rfl, hg0⟩
  go_wp2_with fail
  refine (hT _).mono ?_
  rintro e w0' ⟨rfl, rfl⟩
  go_wp2_with fail
  refine (hV _ (hbs.grow hg0)).mono ?_
  rintro e w1 ⟨r, rfl, hown, hg1⟩
  obtain ⟨g, cap1, rfl, hgb, hgl⟩ := hown.form (by omega)
  have hcb : Bs w1 (.slice (some ⟨g, 0, none⟩) 8 cap1) (cellOf d s l) := Bs.of_own hown hso
  go_wp2_with fail
  refine (hY _ _ hcb).mono ?_
  rintro e w2 ⟨x, rfl, hx, hg2⟩
  have hcv1 := run_convert_bs (P := Try.prog) 22 5 9 Try.underlying22 Try.underlying5 Try.underlying9 hx
  have hcv2 := run_convert_bs (P := Try.prog) 22 5 9 Try.underlying22 Try.underlying5 Try.underlying9 (hbs.grow ((hg0.trans hg1).trans hg2))
  clear hV hY hT
  go_wp2_with fail
  refine (hO _ _ (hcb.grow hg2)).mono ?_
  rintro e w3 ⟨y, f, rfl, hf, hg3⟩
  have hg23 := hg2.trans hg3
  have hg03 := (hg0.trans hg1).trans hg23
  have hown3 := grow_own hown hg23
  have hgs : w.heap.size ≤ g := Nat.le_trans hg0.size hgb
  clear hO hcv1 hcv2
  by_cases hin : 0 ≤ k ∧ k < 8
  · obtain ⟨hk0, hk1⟩ := hin
    have hj : k.toNat < (cellOf d s l).length := by omega
    have hcell : w3.cell? ⟨g, k.toNat, none⟩ = some (.int .u8 ((cellOf d s l).getD k.toNat 0)) := by
      rw [hown3.cellAt k.toNat (by omega)]
      simp [hj, List.getD_eq_getElem?_getD]
    have hfr := hown3.frozenAt k.toNat
    have hstored := Bs.stored (w := w3) (k := k.toNat) (n := 8) hown3 hso hc
    by_cases hx : (cellOf d s l).getD k.toNat 0 = c
    · rw [hx] at hcell
      rcases hf with rfl | ⟨hdo, rfl⟩
      all_goals
        go_wp2_with fail
        go_ret
        exact ⟨rfl, hg03⟩
    · have hxb : ((cellOf d s l).getD k.toNat 0 == c) = false := by simpa using hx
      have hrot := fun v1 w1 hb => read_rot v1 l d s k.toNat c w1 hd hs hoct hj hc hx hb
      clear hx
      generalize (cellOf d s l).getD k.toNat 0 = z at *
      rcases hf with rfl | ⟨hdo, rfl⟩
      all_goals
        go_wp2_with fail
        refine (hrot _ _ hstored).mono ?_
        rintro e w4 ⟨y', rfl, hg4⟩
        go_wp2_with fail
        go_ret
        exact ⟨rfl, Grow.trans (Below.setCell hg03 (p := ⟨g, k.toNat, none⟩) hgs _) hg4⟩
  · have hout : k < 0 ∨ 8 ≤ k := by omega
    clear hin
    rcases hout with hout | hout <;> rcases hf with rfl | ⟨hdo, rfl⟩
    all_goals
      go_wp2_with fail
      go_ret
      exact ⟨rfl, hg03⟩

set_option maxRecDepth 20000 in
set_option maxHeartbeats 3200000 in
theorem cellByte_walk (v : Value) (l : List Int) (d s o k c : Int) (w : World) (h : Bs w v l) (hc : 0 ≤ c ∧ c ≤ 255) :
    Calls Try.prog 7 #[.int .i64 d, .int .i64 s, v, .int .i64 o, .int .i64 k, .int .u8 c] w fun e w' => e = .returned (.bool true) ∧ Grow w w' := by
  by_cases hp : 0 ≤ d ∧ d < 4 ∧ 0 ≤ s ∧ s < 3
  · have hT := fun w1 => there_yes d s w1 hp
    by_cases hl : l.length = 4
    · exact cellByte_in v l d s o k c w h hp hl hc
    · obtain ⟨ao, cap, rfl, k1, k2, -⟩ := h
      unfold maxLen at k2
      have hl' : ¬ (l.length : Int) = 4 := by omega
      clear hp
      go_enter Try.func7, Try.ntmps7
      go_wp2_with fail
      refine (alive2_any _).mono ?_
      rintro e w0 ⟨rfl, hg0⟩
      go_wp2_with fail
      refine (hT _).mono ?_
      rintro e w0' ⟨rfl, rfl⟩
      go_wp2_with fail
      go_ret
      exact ⟨rfl, hg0⟩
  · have hT := fun w1 => there_no d s w1 hp
    clear hp
    go_enter Try.func7, Try.ntmps7
    go_wp2_with fail
    refine (alive2_any _).mono ?_
    rintro e w0 ⟨rfl, hg0⟩
    go_wp2_with fail
    refine (hT _).mono ?_
    rintro e w0' ⟨rfl, rfl⟩
    go_wp2_with fail
    go_ret
    exact ⟨rfl, hg0⟩

end Go.Proofs.Ytjggiameajndgaa
