/-
  What the program's model.Wrong returns, by its parts. Nothing old turns.
-/
import Derived.Test.YtjggiameajndgabModelFacts
import Derived.Test.YtjggiameajndgabWalkPlan
import Derived.Test.YtjggiameajndgabHeaps
namespace Go.Proofs.Ytjggiameajndgab
open Go.RowKit

set_option maxRecDepth 20000 in
set_option maxHeartbeats 800000 in
theorem inOne_yes (n m : Int) (w : World) (h1 : whereE n = 0) (h2 : whereE m = 0) (h3 : whereS n = whereS m) :
    Calls Try.prog 80 #[.int .i64 n, .int .i64 m] w fun e w' => e = .returned (.bool true) ∧ w' = w := by
  have hN := fun w1 => where_any n w1
  have hM := fun w1 => where_any m w1
  rw [h1, h3] at hN
  rw [h2] at hM
  clear h1 h2 h3
  generalize whereS m = s at *
  generalize whereD m = d at *
  generalize whereD n = d' at *
  go_enter Try.func80, Try.ntmps80
  go_wp2_with fail
  refine (hN _).mono ?_
  rintro e w1 ⟨rfl, rfl⟩
  go_wp2_with fail
  refine (hM _).mono ?_
  rintro e w1 ⟨rfl, rfl⟩
  go_wp2
  go_ret
  exact ⟨rfl, rfl⟩

set_option maxRecDepth 20000 in
set_option maxHeartbeats 1600000 in
theorem inOne_no (n m : Int) (w : World) (h : ¬ (whereE n = 0 ∧ whereE m = 0 ∧ whereS n = whereS m)) :
    Calls Try.prog 80 #[.int .i64 n, .int .i64 m] w fun e w' => e = .returned (.bool false) ∧ w' = w := by
  have hN := fun w1 => where_any n w1
  have hM := fun w1 => where_any m w1
  generalize whereE n = en at *
  generalize whereE m = em at *
  generalize whereS n = s' at *
  generalize whereS m = s at *
  generalize whereD m = d at *
  generalize whereD n = d' at *
  by_cases h1 : en = 0
  · by_cases h2 : em = 0
    · have h3 : (s' == s) = false := by rw [beq_eq_false_iff_ne]; exact fun h3 => h ⟨h1, h2, h3⟩
      subst h1 h2
      clear h
      go_enter Try.func80, Try.ntmps80
      go_wp2_with fail
      refine (hN _).mono ?_
      rintro e w1 ⟨rfl, rfl⟩
      go_wp2_with fail
      refine (hM _).mono ?_
      rintro e w1 ⟨rfl, rfl⟩
      go_wp2
      go_ret
      exact ⟨rfl, rfl⟩
    · have h2' : (em == 0) = false := by simpa using h2
      subst h1
      clear h h2
      go_enter Try.func80, Try.ntmps80
      go_wp2_with fail
      refine (hN _).mono ?_
      rintro e w1 ⟨rfl, rfl⟩
      go_wp2_with fail
      refine (hM _).mono ?_
      rintro e w1 ⟨rfl, rfl⟩
      go_wp2
      go_ret
      exact ⟨rfl, rfl⟩
  · have h1' : (en == 0) = false := by simpa using h1
    clear h h1
    go_enter Try.func80, Try.ntmps80
    go_wp2_with fail
    refine (hN _).mono ?_
    rintro e w1 ⟨rfl, rfl⟩
    go_wp2_with fail
    refine (hM _).mono ?_
    rintro e w1 ⟨rfl, rfl⟩
    go_wp2
    go_ret
    exact ⟨rfl, rfl⟩

theorem whereE_in {n : Int} (h : 0 ≤ n ∧ n ≤ 8) : whereE n = 0 := by rw [whereE, if_pos (by omega)]
theorem whereE_out {n : Int} (h : n < 0 ∨ 8 < n) : whereE n = 3 := by rw [whereE, if_neg (by omega)]

set_option maxRecDepth 20000 in
set_option maxHeartbeats 1600000 in
theorem wrongWrite_any (v : Value) (x : DeedP) (w : World) (h : DeedV w v x) (hk : x.k = 1) :
    Calls Try.prog 55 #[v] w fun e w' => e = .returned (.int .i64 (wrongE x)) ∧ Grow w w' := by
  obtain ⟨dv, rfl, hb⟩ := h
  obtain ⟨ao, cap, rfl, h1, h2, -⟩ := hb
  unfold maxLen at h2
  have wn := w_n (x := x)
  have wm := w_m (x := x)
  have wl := w_len (x := x)
  have wo := w_ok (x := x)
  obtain ⟨k, n, m, d⟩ := x
  dsimp only at *
  subst hk
  generalize wrongE ⟨1, n, m, d⟩ = W at *
  generalize d.length = len at *
  have hgA : Grow w (w.alloc (.cells #[.int .i64 1, .int .i64 n, .int .i64 m, .slice ao len cap] 25)) := Grow.alloc _ _
  have hN := fun w1 => where_any n w1
  by_cases hn : 0 ≤ n ∧ n ≤ 8
  · rw [whereE_in hn] at hN
    by_cases hm : m = 0
    · subst hm
      by_cases hl : len = 4
      · have hW : W = 0 := wo rfl hn rfl hl
        subst hl hW
        clear wn wm wl wo hn
        go_enter Try.func55, Try.ntmps55
        go_wp2_with fail
        refine (hN _).mono ?_
        rintro e w1 ⟨rfl, rfl⟩
        go_wp2
        go_ret
        exact ⟨rfl, hgA⟩
      · have hW : W = 4 := wl rfl hn rfl hl
        have hl' : ¬ (len : Int) = 4 := by omega
        subst hW
        clear wn wm wl wo hn hl
        go_enter Try.func55, Try.ntmps55
        go_wp2_with fail
        refine (hN _).mono ?_
        rintro e w1 ⟨rfl, rfl⟩
        go_wp2
        go_ret
        exact ⟨rfl, hgA⟩
    · have hW : W = 3 := wm rfl hn hm
      subst hW
      clear wn wm wl wo hn
      go_enter Try.func55, Try.ntmps55
      go_wp2_with fail
      refine (hN _).mono ?_
      rintro e w1 ⟨rfl, rfl⟩
      go_wp2
      go_ret
      exact ⟨rfl, hgA⟩
  · rw [whereE_out (by omega)] at hN
    have hW : W = 3 := wn (.inl rfl) (by omega)
    subst hW
    clear wn wm wl wo hn
    go_enter Try.func55, Try.ntmps55
    go_wp2_with fail
    refine (hN _).mono ?_
    rintro e w1 ⟨rfl, rfl⟩
    go_wp2
    go_ret
    exact ⟨rfl, hgA⟩

set_option maxRecDepth 20000 in
set_option maxHeartbeats 1600000 in
theorem wrongSwap_any (v : Value) (x : DeedP) (w : World) (h : DeedV w v x) (hk : x.k = 2) :
    Calls Try.prog 56 #[v] w fun e w' => e = .returned (.int .i64 (wrongE x)) ∧ Grow w w' := by
  obtain ⟨dv, rfl, hb⟩ := h
  obtain ⟨ao, cap, rfl, h1, h2, -⟩ := hb
  unfold maxLen at h2
  have wn := w_n (x := x)
  have wa := w_at (x := x)
  have wu := w_much (x := x)
  have wp := w_ok2 (x := x)
  obtain ⟨k, n, m, d⟩ := x
  dsimp only at *
  subst hk
  generalize wrongE ⟨2, n, m, d⟩ = W at *
  generalize d.length = len at *
  have hgA : Grow w (w.alloc (.cells #[.int .i64 2, .int .i64 n, .int .i64 m, .slice ao len cap] 25)) := Grow.alloc _ _
  by_cases hn : whereE n = 0 ∧ whereE m = 0 ∧ whereS n = whereS m
  · have hI := fun w1 => inOne_yes n m w1 hn.1 hn.2.1 hn.2.2
    have hn8 : 0 ≤ n ∧ n ≤ 8 := by have := whereE_zero hn.1; omega
    have hnm : ¬ (whereE m ≠ 0 ∨ whereS n ≠ whereS m) := fun hc => by rcases hc with hc | hc; exact hc hn.2.1; exact hc hn.2.2
    by_cases hl : len = 0
    · have hW : W = 0 := wp rfl hn8 hnm hl
      subst hl hW
      clear wn wa wu wp hn hn8 hnm
      go_enter Try.func56, Try.ntmps56
      go_wp2_with fail
      refine (hI _).mono ?_
      rintro e w1 ⟨rfl, rfl⟩
      go_wp2
      go_ret
      exact ⟨rfl, hgA⟩
    · have hW : W = 4 := wu rfl hn8 hnm hl
      have hl' : ¬ (len : Int) = 0 := by omega
      subst hW
      clear wn wa wu wp hn hn8 hnm hl
      go_enter Try.func56, Try.ntmps56
      go_wp2_with fail
      refine (hI _).mono ?_
      rintro e w1 ⟨rfl, rfl⟩
      go_wp2
      go_ret
      exact ⟨rfl, hgA⟩
  · have hI := fun w1 => inOne_no n m w1 hn
    have hW : W = 3 := by
      by_cases h8 : 0 ≤ n ∧ n ≤ 8
      · refine wa rfl h8 ?_
        by_cases hm : whereE m = 0
        · exact .inr fun hs => hn ⟨whereE_in h8, hm, hs⟩
        · exact .inl hm
      · exact wn (.inr rfl) (by omega)
    subst hW
    clear wn wa wu wp hn
    go_enter Try.func56, Try.ntmps56
    go_wp2_with fail
    refine (hI _).mono ?_
    rintro e w1 ⟨rfl, rfl⟩
    go_wp2
    go_ret
    exact ⟨rfl, hgA⟩

set_option maxRecDepth 20000 in
set_option maxHeartbeats 1600000 in
theorem modelWrong_any (v : Value) (x : DeedP) (w : World) (h : DeedV w v x) : Calls Try.prog 15 #[v] w fun e w' => e = .returned (.int .i64 (wrongE x)) ∧ Grow w w' := by
  have hd := h
  obtain ⟨dv, rfl, hb⟩ := h
  obtain ⟨d1, d2, d3, rfl⟩ := hb.form
  have hg := Grow.alloc w (.cells #[.int .i64 x.k, .int .i64 x.n, .int .i64 x.m, .slice d1 d2 d3] 25)
  by_cases h1 : x.k = 1
  · have hW := wrongWrite_any _ x _ (hd.grow hg) h1
    clear hd hb
    generalize wrongE x = E at *
    rw [h1] at hW hg ⊢
    clear h1
    go_enter Try.func15, Try.ntmps15
    go_wp2_with fail
    refine hW.mono ?_
    rintro e w1 ⟨rfl, hg1⟩
    go_wp2
    go_ret
    exact ⟨rfl, hg.trans hg1⟩
  · by_cases h2 : x.k = 2
    · have hW := wrongSwap_any _ x _ (hd.grow hg) h2
      clear hd hb h1
      generalize wrongE x = E at *
      rw [h2] at hW hg ⊢
      clear h2
      go_enter Try.func15, Try.ntmps15
      go_wp2_with fail
      refine hW.mono ?_
      rintro e w1 ⟨rfl, hg1⟩
      go_wp2
      go_ret
      exact ⟨rfl, hg.trans hg1⟩
    · have hW : Hid (wrongE x = 1) := w_kind h1 h2
      go_enter Try.func15, Try.ntmps15
      go_wp2
      go_ret
      exact ⟨ret_int hW.out.symm, hg⟩

end Go.Proofs.Ytjggiameajndgab
