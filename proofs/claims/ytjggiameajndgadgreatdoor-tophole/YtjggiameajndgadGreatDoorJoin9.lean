import Derived.Lib.SliceRun
import Derived.Lib.AppendZeros
import Derived.Test.YtjggiameajndgadGreatDoorJoin8
/-
  What the program's model.Wrong returns, by its parts. Nothing old turns.
-/
namespace Go.Proofs.YtjggiameajndgadGreatDoor
open Go.RowKit

set_option maxRecDepth 20000 in
set_option maxHeartbeats 800000 in
theorem inOne_yes (n m : Int) (w : World) (h1 : whereE n = 0) (h2 : whereE m = 0) (h3 : whereS n = whereS m) :
    Calls Tryz.prog 49 #[.int .i64 n, .int .i64 m] w fun e w' => e = .returned (.bool true) ∧ w' = w := by
  have hN := fun w1 => where_any n w1
  have hM := fun w1 => where_any m w1
  rw [h1, h3] at hN
  rw [h2] at hM
  clear h1 h2 h3
  generalize whereS m = s at *
  generalize whereD m = d at *
  generalize whereD n = d' at *
  go_enter Tryz.func49, Tryz.ntmps49
  go_wp2_with fail
  refine (hN _).mono ?_
  rintro e w1 ⟨rfl, rfl⟩
  go_wp2_with fail
  refine (hM _).mono ?_
  rintro e w1 ⟨rfl, rfl⟩
  go_wp2
  go_ret
  exact ⟨rfl, rfl⟩

set_option maxRecDepth 20000 in
set_option maxHeartbeats 1600000 in
theorem inOne_no (n m : Int) (w : World) (h : ¬ (whereE n = 0 ∧ whereE m = 0 ∧ whereS n = whereS m)) :
    Calls Tryz.prog 49 #[.int .i64 n, .int .i64 m] w fun e w' => e = .returned (.bool false) ∧ w' = w := by
  have hN := fun w1 => where_any n w1
  have hM := fun w1 => where_any m w1
  generalize whereE n = en at *
  generalize whereE m = em at *
  generalize whereS n = s' at *
  generalize whereS m = s at *
  generalize whereD m = d at *
  generalize whereD n = d' at *
  by_cases h1 : en = 0
  · by_cases h2 : em = 0
    · have h3 : (s' == s) = false := by rw [beq_eq_false_iff_ne]; exact fun h3 => h ⟨h1, h2, h3⟩
      subst h1 h2
      clear h
      go_enter Tryz.func49, Tryz.ntmps49
      go_wp2_with fail
      refine (hN _).mono ?_
      rintro e w1 ⟨rfl, rfl⟩
      go_wp2_with fail
      refine (hM _).mono ?_
      rintro e w1 ⟨rfl, rfl⟩
      go_wp2
      go_ret
      exact ⟨rfl, rfl⟩
    · have h2' : (em == 0) = false := by simpa using h2
      subst h1
      clear h h2
      go_enter Tryz.func49, Tryz.ntmps49
      go_wp2_with fail
      refine (hN _).mono ?_
      rintro e w1 ⟨rfl, rfl⟩
      go_wp2_with fail
      refine (hM _).mono ?_
      rintro e w1 ⟨rfl, rfl⟩
      go_wp2
      go_ret
      exact ⟨rfl, rfl⟩
  · have h1' : (en == 0) = false := by simpa using h1
    clear h h1
    go_enter Tryz.func49, Tryz.ntmps49
    go_wp2_with fail
    refine (hN _).mono ?_
    rintro e w1 ⟨rfl, rfl⟩
    go_wp2_with fail
    refine (hM _).mono ?_
    rintro e w1 ⟨rfl, rfl⟩
    go_wp2
    go_ret
    exact ⟨rfl, rfl⟩

theorem whereE_in {n : Int} (h : 0 ≤ n ∧ n ≤ 8) : whereE n = 0 := by rw [whereE, if_pos (by omega)]
theorem whereE_out {n : Int} (h : n < 0 ∨ 8 < n) : whereE n = 3 := by rw [whereE, if_neg (by omega)]

set_option maxRecDepth 20000 in
set_option maxHeartbeats 1600000 in
theorem wrongWrite_any (v : Value) (x : DeedP) (w : World) (h : DeedV w v x) (hk : x.k = 1) :
    Calls Tryz.prog 28 #[v] w fun e w' => e = .returned (.int .i64 (wrongE x)) ∧ Grow w w' := by
  obtain ⟨dv, rfl, hb⟩ := h
  obtain ⟨ao, cap, rfl, h1, h2, -⟩ := hb
  unfold maxLen at h2
  have wn := w_n (x := x)
  have wm := w_m (x := x)
  have wl := w_len (x := x)
  have wo := w_ok (x := x)
  obtain ⟨k, n, m, d⟩ := x
  dsimp only at *
  subst hk
  generalize wrongE ⟨1, n, m, d⟩ = W at *
  generalize d.length = len at *
  have hgA : Grow w (w.alloc (.cells #[.int .i64 1, .int .i64 n, .int .i64 m, .slice ao len cap] 36)) := Grow.alloc _ _
  have hN := fun w1 => where_any n w1
  by_cases hn : 0 ≤ n ∧ n ≤ 8
  · rw [whereE_in hn] at hN
    by_cases hm : m = 0
    · subst hm
      by_cases hl : len = 4
      · have hW : W = 0 := wo rfl hn rfl hl
        subst hl hW
        clear wn wm wl wo hn
        go_enter Tryz.func28, Tryz.ntmps28
        go_wp2_with fail
        refine (hN _).mono ?_
        rintro e w1 ⟨rfl, rfl⟩
        go_wp2
        go_ret
        exact ⟨rfl, hgA⟩
      · have hW : W = 4 := wl rfl hn rfl hl
        have hl' : ¬ (len : Int) = 4 := by omega
        subst hW
        clear wn wm wl wo hn hl
        go_enter Tryz.func28, Tryz.ntmps28
        go_wp2_with fail
        refine (hN _).mono ?_
        rintro e w1 ⟨rfl, rfl⟩
        go_wp2
        go_ret
        exact ⟨rfl, hgA⟩
    · have hW : W = 3 := wm rfl hn hm
      subst hW
      clear wn wm wl wo hn
      go_enter Tryz.func28, Tryz.ntmps28
      go_wp2_with fail
      refine (hN _).mono ?_
      rintro e w1 ⟨rfl, rfl⟩
      go_wp2
      go_ret
      exact ⟨rfl, hgA⟩
  · rw [whereE_out (by omega)] at hN
    have hW : W = 3 := wn (.inl rfl) (by omega)
    subst hW
    clear wn wm wl wo hn
    go_enter Tryz.func28, Tryz.ntmps28
    go_wp2_with fail
    refine (hN _).mono ?_
    rintro e w1 ⟨rfl, rfl⟩
    go_wp2
    go_ret
    exact ⟨rfl, hgA⟩

set_option maxRecDepth 20000 in
set_option maxHeartbeats 1600000 in
theorem wrongSwap_any (v : Value) (x : DeedP) (w : World) (h : DeedV w v x) (hk : x.k = 2) :
    Calls Tryz.prog 29 #[v] w fun e w' => e = .returned (.int .i64 (wrongE x)) ∧ Grow w w' := by
  obtain ⟨dv, rfl, hb⟩ := h
  obtain ⟨ao, cap, rfl, h1, h2, -⟩ := hb
  unfold maxLen at h2
  have wn := w_n (x := x)
  have wa := w_at (x := x)
  have wu := w_much (x := x)
  have wp := w_ok2 (x := x)
  obtain ⟨k, n, m, d⟩ := x
  dsimp only at *
  subst hk
  generalize wrongE ⟨2, n, m, d⟩ = W at *
  generalize d.length = len at *
  have hgA : Grow w (w.alloc (.cells #[.int .i64 2, .int .i64 n, .int .i64 m, .slice ao len cap] 36)) := Grow.alloc _ _
  by_cases hn : whereE n = 0 ∧ whereE m = 0 ∧ whereS n = whereS m
  · have hI := fun w1 => inOne_yes n m w1 hn.1 hn.2.1 hn.2.2
    have hn8 : 0 ≤ n ∧ n ≤ 8 := by have := whereE_zero hn.1; omega
    have hnm : ¬ (whereE m ≠ 0 ∨ whereS n ≠ whereS m) := fun hc => by rcases hc with hc | hc; exact hc hn.2.1; exact hc hn.2.2
    by_cases hl : len = 0
    · have hW : W = 0 := wp rfl hn8 hnm hl
      subst hl hW
      clear wn wa wu wp hn hn8 hnm
      go_enter Tryz.func29, Tryz.ntmps29
      go_wp2_with fail
      refine (hI _).mono ?_
      rintro e w1 ⟨rfl, rfl⟩
      go_wp2
      go_ret
      exact ⟨rfl, hgA⟩
    · have hW : W = 4 := wu rfl hn8 hnm hl
      have hl' : ¬ (len : Int) = 0 := by omega
      subst hW
      clear wn wa wu wp hn hn8 hnm hl
      go_enter Tryz.func29, Tryz.ntmps29
      go_wp2_with fail
      refine (hI _).mono ?_
      rintro e w1 ⟨rfl, rfl⟩
      go_wp2
      go_ret
      exact ⟨rfl, hgA⟩
  · have hI := fun w1 => inOne_no n m w1 hn
    have hW : W = 3 := by
      by_cases h8 : 0 ≤ n ∧ n ≤ 8
      · refine wa rfl h8 ?_
        by_cases hm : whereE m = 0
        · exact .inr fun hs => hn ⟨whereE_in h8, hm, hs⟩
        · exact .inl hm
      · exact wn (.inr rfl) (by omega)
    subst hW
    clear wn wa wu wp hn
    go_enter Tryz.func29, Tryz.ntmps29
    go_wp2_with fail
    refine (hI _).mono ?_
    rintro e w1 ⟨rfl, rfl⟩
    go_wp2
    go_ret
    exact ⟨rfl, hgA⟩

set_option maxRecDepth 20000 in
set_option maxHeartbeats 1600000 in
theorem modelWrong_any (v : Value) (x : DeedP) (w : World) (h : DeedV w v x) : Calls Tryz.prog 14 #[v] w fun e w' => e = .returned (.int .i64 (wrongE x)) ∧ Grow w w' := by
  have hd := h
  obtain ⟨dv, rfl, hb⟩ := h
  obtain ⟨d1, d2, d3, rfl⟩ := hb.form
  have hg := Grow.alloc w (.cells #[.int .i64 x.k, .int .i64 x.n, .int .i64 x.m, .slice d1 d2 d3] 36)
  by_cases h1 : x.k = 1
  · have hW := wrongWrite_any _ x _ (hd.grow hg) h1
    clear hd hb
    generalize wrongE x = E at *
    rw [h1] at hW hg ⊢
    clear h1
    go_enter Tryz.func14, Tryz.ntmps14
    go_wp2_with fail
    refine hW.mono ?_
    rintro e w1 ⟨rfl, hg1⟩
    go_wp2
    go_ret
    exact ⟨rfl, hg.trans hg1⟩
  · by_cases h2 : x.k = 2
    · have hW := wrongSwap_any _ x _ (hd.grow hg) h2
      clear hd hb h1
      generalize wrongE x = E at *
      rw [h2] at hW hg ⊢
      clear h2
      go_enter Tryz.func14, Tryz.ntmps14
      go_wp2_with fail
      refine hW.mono ?_
      rintro e w1 ⟨rfl, hg1⟩
      go_wp2
      go_ret
      exact ⟨rfl, hg.trans hg1⟩
    · have hW : Hid (wrongE x = 1) := w_kind h1 h2
      go_enter Tryz.func14, Tryz.ntmps14
      go_wp2
      go_ret
      exact ⟨ret_int hW.out.symm, hg⟩

end Go.Proofs.YtjggiameajndgadGreatDoor

/-
  What text.Parse returns, of any text.
-/
namespace Go.Proofs.YtjggiameajndgadGreatDoor
open Go.RowKit

set_option maxRecDepth 20000 in
set_option maxHeartbeats 800000 in
theorem parse_any (s : List UInt8) (w : World) (hs : s.length ≤ 140737488355328) (hlaid : Laid w) :
    Calls Tryz.prog 36 #[.string (str s)] w fun e w' => ∃ v, e = .returned (.tuple #[v, .int .i64 (parseP s).2]) ∧ DeedV w' v (parseP s).1 ∧ Grow w w' := by
  have hgA : Grow w (w.alloc (.cells #[.int .i64 0, .int .i64 0, .int .i64 0, .slice none 0 0] 36)) := Grow.alloc _ _
  have HR : Hid (Box4 (w.alloc (.cells #[.int .i64 0, .int .i64 0, .int .i64 0, .slice none 0 0] 36)) w.heap.size (.int .i64 0) (.int .i64 0) (.int .i64 0) (.slice none 0 0)) := Box4.new (heap_alloc_new _ _)
  have HP : Hid _ := parse_spl s
  go_enter Tryz.func36, Tryz.ntmps36
  go_wp2_with fail
  generalize w.alloc (.cells #[.int .i64 0, .int .i64 0, .int .i64 0, .slice none 0 0] 36) = wA at *
  obtain ⟨R, hR⟩ : ∃ R, R = w.heap.size := ⟨_, rfl⟩
  rw [← hR] at HR ⊢
  have hRw : w.heap.size ≤ R := by omega
  clear hR
  refine (splitN_any s _ (by omega)).mono ?_
  rintro e w1 ⟨v, rfl, hsl, hg1⟩
  have HSL : Hid (Sl StrV w1 v (spl 3 s)) := hsl
  have hpos := spl_pos 3 s
  have hlen : ∀ i, ((spl 3 s).getD i []).length ≤ 140737488355328 := fun i => by
    by_cases hi : i < (spl 3 s).length
    · have := spl_word_len 3 s ((spl 3 s).getD i []) (by simp [List.getD_eq_getElem?_getD, hi])
      omega
    · simp [List.getD_eq_getElem?_getD, Nat.le_of_not_lt hi]
  generalize hws : spl 3 s = ws at *
  clear hws
  obtain ⟨ao, cap, rfl, h1, h2, h3, h4⟩ := hsl
  obtain ⟨b, off, rfl, hc⟩ := h4 hpos
  have c0 := Sl.textAt hc 0 hpos
  rw [Nat.add_zero] at c0
  have ha0 := hlen 0
  have HLen : Hid _ := hlen
  have hcap : ¬ cap = 0 := by omega
  unfold maxLen at h2
  clear h4 hc hlen h3
  generalize hnl : ws.length = nl at *
  clear hnl
  obtain ⟨a0, e0⟩ : ∃ a, a = ws.getD 0 [] := ⟨_, rfl⟩
  rw [← e0] at c0 ha0
  have HA : Hid (a0 = ws.getD 0 []) := e0
  clear e0
  obtain ⟨q, hq⟩ : ∃ q, q = kindN a0 := ⟨_, rfl⟩
  obtain ⟨r, hr⟩ : ∃ r, r = decide (a0 = wrW ∨ a0 = swW) := ⟨_, rfl⟩
  have hlk : ∀ v w, OwnM 9 3 2 kindsD v w → (Instr.lookup 98 v (.string (str a0)) true).run Tryz.prog w = .ok (.tuple #[.int .i64 q, .bool r]) w := fun v w h => by
    rw [hq, hr]; exact kinds_look h a0 (by unfold maxLen; omega)
  have HQ : Hid (q = kindN a0) := hq
  have HB : Hid (r = decide (a0 = wrW ∨ a0 = swW)) := hr
  clear hq hr
  go_wp2_with fail
  refine wp_region_stable Grow [OwnM 9 3 2 kindsD, IsV (.slice (some ⟨b, off, none⟩) nl cap), IsV (.pointer (some ⟨b, off, none⟩)), IsV (.string (str a0)), IsV (.tuple #[.int .i64 q, .bool r]), IsV (.tuple #[.int .i64 q, .bool r]), IsV (.int .i64 q), IsV (.bool r), IsV (.int .i64 q), IsV (.bool r)] (by kernel_rfl) (by kernel_rfl) rfl Grow.refl (fun _ _ _ => Grow.trans) ?_ ?_ ?_
  · repeat (refine List.forall_mem_cons.2 ⟨by first | exact IsV.stable _ | exact OwnM.stable _, ?_⟩)
    exact fun R hR => nomatch hR
  · skip
    refine StepsS.cons ?_ fun v0 => ⟨_, _, by simp only [Act.put, List.setIfInBounds_toArray, List.set_cons_succ, List.set_cons_zero]; first | done | rfl, by simp only [List.nil_append]; first | done | rfl, ?_⟩
    · intro w1 hE hd
      clear hd
      go_wp2_with fail
      refine (kinds_any _).mono ?_
      rintro e w4 ⟨r', rfl, hr', hg4⟩
      go_wp2_with fail
      exact ⟨_, rfl, hg4, hr'⟩
    refine StepsS.cons ?_ fun v1 => ⟨_, _, by simp only [Act.put, List.setIfInBounds_toArray, List.set_cons_succ, List.set_cons_zero]; first | done | rfl, by simp only [List.nil_append, List.cons_append]; first | done | rfl, ?_⟩
    · intro w1 hE hd
      clear hd
      go_wp2
      exact ⟨_, rfl, Grow.refl _, rfl⟩
    refine StepsS.cons ?_ fun v2 => ⟨_, _, by simp only [Act.put, List.setIfInBounds_toArray, List.set_cons_succ, List.set_cons_zero]; first | done | rfl, by simp only [List.nil_append, List.cons_append]; first | done | rfl, ?_⟩
    · intro w1 hE hd
      obtain rfl := IsV.eq (dep_at hd 0 rfl rfl rfl)
      clear hd
      go_wp2
      exact ⟨_, rfl, Grow.refl _, rfl⟩
    refine StepsS.cons ?_ fun v3 => ⟨_, _, by simp only [Act.put, List.setIfInBounds_toArray, List.set_cons_succ, List.set_cons_zero]; first | done | rfl, by simp only [List.nil_append, List.cons_append]; first | done | rfl, ?_⟩
    · intro w1 hE hd
      obtain rfl := IsV.eq (dep_at hd 0 rfl rfl rfl)
      clear hd
      have hcq := hE.drew.at c0
      go_wp2
      exact ⟨_, rfl, Grow.refl _, rfl⟩
    refine StepsS.cons ?_ fun v4 => ⟨_, _, by simp only [Act.put, List.setIfInBounds_toArray, List.set_cons_succ, List.set_cons_zero]; first | done | rfl, by simp only [List.nil_append, List.cons_append]; first | done | rfl, ?_⟩
    · intro w1 hE hd
      have d0 := dep_at hd 0 rfl rfl rfl
      obtain rfl := IsV.eq (dep_at hd 1 rfl rfl rfl)
      clear hd
      have hlq := hlk _ _ d0
      go_wp2
      exact ⟨_, rfl, Grow.refl _, rfl⟩
    refine StepsS.cons ?_ fun v5 => ⟨_, _, by simp only [Act.put, List.setIfInBounds_toArray, List.set_cons_succ, List.set_cons_zero]; first | done | rfl, by simp only [List.nil_append, List.cons_append]; first | done | rfl, ?_⟩
    · intro w1 hE hd
      obtain rfl := IsV.eq (dep_at hd 0 rfl rfl rfl)
      clear hd
      go_wp2
      exact ⟨_, rfl, Grow.refl _, rfl⟩
    refine StepsS.cons ?_ fun v6 => ⟨_, _, by simp only [Act.put, List.setIfInBounds_toArray, List.set_cons_succ, List.set_cons_zero]; first | done | rfl, by simp only [List.nil_append, List.cons_append]; first | done | rfl, ?_⟩
    · intro w1 hE hd
      obtain rfl := IsV.eq (dep_at hd 0 rfl rfl rfl)
      clear hd
      go_wp2
      exact ⟨_, rfl, Grow.refl _, rfl⟩
    refine StepsS.cons ?_ fun v7 => ⟨_, _, by simp only [Act.put, List.setIfInBounds_toArray, List.set_cons_succ, List.set_cons_zero]; first | done | rfl, by simp only [List.nil_append, List.cons_append]; first | done | rfl, ?_⟩
    · intro w1 hE hd
      obtain rfl := IsV.eq (dep_at hd 0 rfl rfl rfl)
      clear hd
      go_wp2
      exact ⟨_, rfl, Grow.refl _, rfl⟩
    refine StepsS.cons ?_ fun v8 => ⟨_, _, by simp only [Act.put, List.setIfInBounds_toArray, List.set_cons_succ, List.set_cons_zero]; first | done | rfl, by simp only [List.nil_append, List.cons_append]; first | done | rfl, ?_⟩
    · intro w1 hE hd
      obtain rfl := IsV.eq (dep_at hd 0 rfl rfl rfl)
      clear hd
      go_wp2
      exact ⟨_, rfl, Grow.refl _, rfl⟩
    refine StepsS.cons ?_ fun v9 => ⟨_, _, by simp only [Act.put, List.setIfInBounds_toArray, List.set_cons_succ, List.set_cons_zero]; first | done | rfl, by simp only [List.nil_append, List.cons_append]; first | done | rfl, ?_⟩
    · intro w1 hE hd
      obtain rfl := IsV.eq (dep_at hd 0 rfl rfl rfl)
      clear hd
      go_wp2
      exact ⟨_, rfl, Grow.refl _, rfl⟩
    trivial
  intro wR hwR
  refine FinS.cons fun v0 h0 => ⟨_, by simp only [Act.put, List.setIfInBounds_toArray, List.set_cons_succ, List.set_cons_zero]; first | done | rfl, ?_⟩
  refine FinS.cons ?_; rintro _ rfl; refine ⟨_, by simp only [Act.put, List.setIfInBounds_toArray, List.set_cons_succ, List.set_cons_zero]; first | done | rfl, ?_⟩
  refine FinS.cons ?_; rintro _ rfl; refine ⟨_, by simp only [Act.put, List.setIfInBounds_toArray, List.set_cons_succ, List.set_cons_zero]; first | done | rfl, ?_⟩
  refine FinS.cons ?_; rintro _ rfl; refine ⟨_, by simp only [Act.put, List.setIfInBounds_toArray, List.set_cons_succ, List.set_cons_zero]; first | done | rfl, ?_⟩
  refine FinS.cons ?_; rintro _ rfl; refine ⟨_, by simp only [Act.put, List.setIfInBounds_toArray, List.set_cons_succ, List.set_cons_zero]; first | done | rfl, ?_⟩
  refine FinS.cons ?_; rintro _ rfl; refine ⟨_, by simp only [Act.put, List.setIfInBounds_toArray, List.set_cons_succ, List.set_cons_zero]; first | done | rfl, ?_⟩
  refine FinS.cons ?_; rintro _ rfl; refine ⟨_, by simp only [Act.put, List.setIfInBounds_toArray, List.set_cons_succ, List.set_cons_zero]; first | done | rfl, ?_⟩
  refine FinS.cons ?_; rintro _ rfl; refine ⟨_, by simp only [Act.put, List.setIfInBounds_toArray, List.set_cons_succ, List.set_cons_zero]; first | done | rfl, ?_⟩
  refine FinS.cons ?_; rintro _ rfl; refine ⟨_, by simp only [Act.put, List.setIfInBounds_toArray, List.set_cons_succ, List.set_cons_zero]; first | done | rfl, ?_⟩
  refine FinS.cons ?_; rintro _ rfl; refine ⟨_, by simp only [Act.put, List.setIfInBounds_toArray, List.set_cons_succ, List.set_cons_zero]; first | done | rfl, ?_⟩
  first | show Exit.then _ _ _ _ _ | show Exit.inBlock _ _ _ _ _
  have hg2 := (hgA.trans hg1).trans hwR.drew
  have HR2 : Hid (Box4 wR R _ _ _ _) := (HR.out.grow hg1).grow hwR.drew
  have HSL2 : Hid (Sl StrV wR (.slice (some ⟨b, off, none⟩) nl cap) ws) := Sl.stays (fun _ _ _ _ h _ => h) _ _ _ _ HSL.out hwR.drew
  clear HR HSL hgA hg1 hwR c0 hlk
  cases r
  · have hp : parseP s = noP 1 := by
      have h := HB.out
      rw [HA.out] at h
      have h' := of_decide_eq_false h.symm
      rw [HP.out, if_neg (fun e => h' (.inl e)), if_neg (fun e => h' (.inr e))]
    have HPP : Hid (parseP s = noP 1) := hp
    have HE : Hid (_ ∧ _) := Box4.put HR2.out hg2 hRw (.int .i64 0) (.int .i64 0) (.int .i64 0) (.slice none 0 0)
    obtain ⟨e0, e1, e2, e3, ef⟩ := HR2.out
    clear hp
    go_wp2_with fail
    obtain ⟨⟨z0, z1, z2, z3, -⟩, hgE⟩ := HE.out
    refine bodyPost_ret (results_four1 Tryz.results36 _ _ R _ rfl Tryz.underlying36 rfl Tryz.sizeD z0 z1 z2 z3) rfl ?_
    rw [HPP.out]
    exact ⟨_, rfl, ⟨_, rfl, Bs.nil _⟩, hgE⟩
  · have hp : (q = 1 ∨ q = 2) ∧ parseP s = wordsP q ws := by
      have h := of_decide_eq_true HB.out.symm
      have hq := HQ.out
      have hA := HA.out
      rcases h with h | h
      · subst h
        refine ⟨.inl (by rw [hq]; rfl), ?_⟩
        rw [HP.out, ← hA, if_pos rfl, hq]; rfl
      · subst h
        refine ⟨.inr (by rw [hq]; rfl), ?_⟩
        rw [HP.out, ← hA, if_neg (by decide), if_pos rfl, hq]; rfl
    obtain ⟨hk, hPQ⟩ := hp
    have HPQ : Hid (parseP s = wordsP q ws) := hPQ
    clear hPQ HQ HB HA HP
    go_wp2_with fail
    refine (parseDeed_any q hk _ ws _ HSL2.out HLen.out (hlaid.grow hg2)).mono ?_
    rintro e w3 ⟨u, ⟨yk, yn, ym, yd⟩, ok, rfl, ⟨dv, rfl, hown, hoct⟩, hg3, hT, hF⟩
    dsimp only at hown hoct
    have HT : Hid _ := hT
    have HF : Hid _ := hF
    clear hT hF hk
    obtain ⟨ao, cp, rfl⟩ := own_form hown
    have hs3 : R < wR.heap.size := HR2.out.lt
    have hnR : (Value.slice ao yd.length cp).ownBlock ≠ some R := fun e => by have := (hown.lt _ e).1; omega
    have HO : Hid (w3.ownsRow wR.heap.size 5 1 (.slice ao yd.length cp) yd.length (yd.map (Value.int .u8))) := hown
    have hg4 : Grow w3 (w3.alloc (.cells #[.int .i64 yk, .int .i64 yn, .int .i64 ym, .slice ao yd.length cp] 36)) := Grow.alloc _ _
    have hbD : Box4 (w3.alloc (.cells #[.int .i64 yk, .int .i64 yn, .int .i64 ym, .slice ao yd.length cp] 36)) w3.heap.size (.int .i64 yk) (.int .i64 yn) (.int .i64 ym) (.slice ao yd.length cp) := Box4.new (heap_alloc_new _ _)
    have HD : Hid (Box4 _ w3.heap.size _ _ _ _) := hbD
    have HR4 : Hid (Box4 _ R _ _ _ _) := (HR2.out.grow hg3).grow hg4
    have HO4 : Hid (World.ownsRow _ wR.heap.size 5 1 (.slice ao yd.length cp) yd.length (yd.map (Value.int .u8))) := grow_own HO.out hg4
    have hgW := (hg2.trans hg3).trans hg4
    clear hown HR2 HSL2 HLen hg2 hg3 hg4 HO hbD
    cases ok
    · have HPP : Hid (parseP s = noP 2) := HPQ.out.trans (HF.out rfl)
      have HE : Hid (_ ∧ _) := Box4.put HR4.out hgW hRw (.int .i64 0) (.int .i64 0) (.int .i64 0) (.slice none 0 0)
      obtain ⟨e0, e1, e2, e3, ef⟩ := HR4.out
      obtain ⟨f0, f1, f2, f3, ff⟩ := HD.out
      clear HT HF HPQ
      go_wp2_with fail
      obtain ⟨⟨z0, z1, z2, z3, -⟩, hgE⟩ := HE.out
      refine bodyPost_ret (results_four1 Tryz.results36 _ _ R _ rfl Tryz.underlying36 rfl Tryz.sizeD z0 z1 z2 z3) rfl ?_
      rw [HPP.out]
      exact ⟨_, rfl, ⟨_, rfl, Bs.nil _⟩, hgE⟩
    · have HPP : Hid (parseP s = chkP ⟨yk, yn, ym, yd⟩) := HPQ.out.trans (HT.out rfl)
      obtain ⟨f0, f1, f2, f3, ff⟩ := HD.out
      clear HT HF HPQ
      go_wp2_with fail
      generalize w3.alloc (.cells #[.int .i64 yk, .int .i64 yn, .int .i64 ym, .slice ao yd.length cp] 36) = W4 at *
      generalize w3.heap.size = D at *
      refine (modelWrong_any _ ⟨yk, yn, ym, yd⟩ _ ⟨_, rfl, Bs.of_own HO4.out hoct⟩).mono ?_
      rintro e w5 ⟨rfl, hg5⟩
      obtain ⟨E, hE⟩ : ∃ E, E = wrongE ⟨yk, yn, ym, yd⟩ := ⟨_, rfl⟩
      rw [← hE]
      have HEE : Hid (E = wrongE ⟨yk, yn, ym, yd⟩) := hE
      clear hE f0 f1 f2 f3 ff
      have hgT := hgW.trans hg5
      obtain ⟨j0, j1, j2, j3, jf⟩ := HD.out.grow hg5
      have hR9 := HR4.out.grow hg5
      by_cases hw : E = 0
      · subst hw
        have HP4 : Hid (parseP s = (⟨yk, yn, ym, yd⟩, 0)) := HPP.out.trans (if_pos HEE.out.symm)
        have HE : Hid (_ ∧ _) := Box4.put hR9 hgT hRw (.int .i64 yk) (.int .i64 yn) (.int .i64 ym) (.slice ao yd.length cp)
        have HO9 : Hid _ := own_set' (own_set' (own_set' (own_set' (grow_own HO4.out hg5) (p := ⟨R, 0, none⟩) hnR (.int .i64 yk)) (p := ⟨R, 1, none⟩) hnR (.int .i64 yn)) (p := ⟨R, 2, none⟩) hnR (.int .i64 ym)) (p := ⟨R, 3, none⟩) hnR (.slice ao yd.length cp)
        obtain ⟨e0, e1, e2, e3, ef⟩ := hR9
        clear HPP HEE HD HR4 HO4
        go_wp2_with fail
        obtain ⟨⟨z0, z1, z2, z3, -⟩, hgE⟩ := HE.out
        refine bodyPost_ret (results_four1 Tryz.results36 _ _ R _ rfl Tryz.underlying36 rfl Tryz.sizeD z0 z1 z2 z3) rfl ?_
        rw [HP4.out]
        exact ⟨_, rfl, ⟨_, rfl, Bs.of_own HO9.out hoct⟩, hgE⟩
      · have hw' : (E != 0) = true := by simpa using hw
        have HP4 : Hid (parseP s = noP E) := HPP.out.trans (by have h := HEE.out; rw [h] at hw ⊢; exact if_neg hw)
        have HE : Hid (_ ∧ _) := Box4.put hR9 hgT hRw (.int .i64 0) (.int .i64 0) (.int .i64 0) (.slice none 0 0)
        obtain ⟨e0, e1, e2, e3, ef⟩ := hR9
        clear HPP HEE HD HR4 HO4
        go_wp2_with fail
        obtain ⟨⟨z0, z1, z2, z3, -⟩, hgE⟩ := HE.out
        refine bodyPost_ret (results_four1 Tryz.results36 _ _ R _ rfl Tryz.underlying36 rfl Tryz.sizeD z0 z1 z2 z3) rfl ?_
        rw [HP4.out]
        exact ⟨_, rfl, ⟨_, rfl, Bs.nil _⟩, hgE⟩

end Go.Proofs.YtjggiameajndgadGreatDoor

/-
  Stores into rows of the call's own.
-/
namespace Go.Proofs.YtjggiameajndgadGreatDoor
open Go.RowKit

section
variable {α : Type} {R : World → Value → α → Prop} {w w0 w1 : World} {u v : Value} {x : α} {xs : List α} {B : Nat} {e : TypeId}

theorem grown_set (w : World) (g k : Nat) (u : Value) : w.grownBy (w.setCell ⟨g, k, none⟩ u) (some g) := ⟨rfl, rfl, rfl, by simp, fun j _ hj => Below.heap_setCell w _ _ j (fun e => hj (by rw [e]))⟩

/-- The form of a row that has an element. -/
theorem Rowing.form (h : Rowing R B e w v xs) (hp : 0 < xs.length) : ∃ g cap, v = .slice (some ⟨g, 0, none⟩) xs.length cap ∧ B ≤ g ∧ g < w.heap.size := by
  obtain ⟨us, h1, _, _⟩ := h
  exact h1.form hp

theorem Rowing.cap {g n cap : Nat} (h : Rowing R B e w (.slice (some ⟨g, 0, none⟩) n cap) xs) : xs.length = n ∧ n ≤ cap ∧ cap ≤ 9223372036854775807 := by
  obtain ⟨ao, c, e1, h1, h2⟩ := h.done.form'
  injection e1 with _ e2 e3
  omega

/-- Its cells may be written. -/
theorem Rowing.at {g n cap : Nat} (h : Rowing R B e w (.slice (some ⟨g, 0, none⟩) n cap) xs) {k : Nat} (hk : k < xs.length) : (∃ u, w.cell? ⟨g, k, none⟩ = some u) ∧ w.frozen? ⟨g, k, none⟩ = false := by
  obtain ⟨rfl, -⟩ := h.cap
  obtain ⟨us, h1, h2, _⟩ := h
  refine ⟨⟨us[k]'(by omega), ?_⟩, h1.frozenAt k⟩
  rw [h1.cellAt k (by omega)]
  simp [show k < us.length by omega]

theorem Rowing.stored {g n cap : Nat} (h : Rowing R B e w (.slice (some ⟨g, 0, none⟩) n cap) xs) (k : Nat) (hoff : Off R (some g) w u x) : Rowing R B e (w.setCell ⟨g, k, none⟩ u) (.slice (some ⟨g, 0, none⟩) n cap) (xs.set k x) := by
  obtain ⟨rfl, -⟩ := h.cap
  obtain ⟨us, h1, h2, h3⟩ := h
  have hg := grown_set w g k u
  refine ⟨us.set k u, by rw [List.length_set]; exact (h1.stored k u).1, by simp [h2], fun i q y hq hy => ?_⟩
  by_cases hik : i = k
  · subst hik
    have hlt : i < us.length := by
      by_cases hlt : i < us.length
      · exact hlt
      · rw [List.getElem?_eq_none (by simp; omega)] at hq; cases hq
    rw [List.getElem?_set_self hlt] at hq
    rw [List.getElem?_set_self (by omega)] at hy
    cases hq
    cases hy
    exact hoff.step hg
  · rw [List.getElem?_set_ne (fun e => hik e.symm)] at hq hy
    exact (h3 i q y hq hy).step hg

end

end Go.Proofs.YtjggiameajndgadGreatDoor

/-
  Stores into rows of the call's own; rows beside one another; a block that holds an intent.
-/
namespace Go.Proofs.YtjggiameajndgadGreatDoor
open Go.RowKit

section
variable {α : Type} {R : World → Value → α → Prop} {F G : Nat → Prop} {w w0 w1 : World} {u v : Value} {x : α} {xs : List α} {B : Nat} {e : TypeId}

theorem GrownIn.mono (h : GrownIn w w1 F) (hG : ∀ k, F k → G k) : GrownIn w w1 G := ⟨h.os, h.tape, h.output, h.size, fun k hk hn => h.block k hk (fun hf => hn (hG k hf))⟩
theorem grownIn_set (w : World) (g k : Nat) (u : Value) (hG : G g) : GrownIn w (w.setCell ⟨g, k, none⟩ u) G := GrownIn.of_by (grown_set w g k u) (fun j hj => by cases hj; exact hG)

theorem RowingF.plain (h : RowingF F R B e w v xs) : Rowing R B e w v xs := by
  obtain ⟨us, h1, h2, h3⟩ := h
  exact ⟨us, h1, h2, fun i u x hu hx w' hw' => h3 i u x hu hx w' (GrownIn.of_by hw' (fun k hk => .inr hk))⟩

theorem RowingF.kept (h : RowingF F R B e w v xs) (hg : GrownIn w w1 F) (hn : ∀ k, v.ownBlock = some k → ¬ F k) : RowingF F R B e w1 v xs := by
  obtain ⟨us, h1, h2, h3⟩ := h
  exact ⟨us, own_kept h1 hg hn, h2, fun i u x hu hx => (h3 i u x hu hx).step (hg.mono (fun k hk => .inl hk))⟩

theorem RowingF.stored {g n cap : Nat} (h : RowingF F R B e w (.slice (some ⟨g, 0, none⟩) n cap) xs) (k : Nat) (hoff : OffG R (fun j => F j ∨ some g = some j) w u x) : RowingF F R B e (w.setCell ⟨g, k, none⟩ u) (.slice (some ⟨g, 0, none⟩) n cap) (xs.set k x) := by
  obtain ⟨rfl, -⟩ := h.plain.cap
  obtain ⟨us, h1, h2, h3⟩ := h
  have hg : GrownIn w (w.setCell ⟨g, k, none⟩ u) (fun j => F j ∨ some g = some j) := grownIn_set w g k u (.inr rfl)
  refine ⟨us.set k u, by rw [List.length_set]; exact (h1.stored k u).1, by simp [h2], fun i q y hq hy => ?_⟩
  by_cases hik : i = k
  · subst hik
    have hlt : i < us.length := by
      by_cases hlt : i < us.length
      · exact hlt
      · rw [List.getElem?_eq_none (by simp; omega)] at hq; cases hq
    rw [List.getElem?_set_self hlt] at hq
    rw [List.getElem?_set_self (by omega)] at hy
    cases hq
    cases hy
    exact hoff.step hg
  · rw [List.getElem?_set_ne (fun e => hik e.symm)] at hq hy
    exact (h3 i q y hq hy).step hg

end

/-- A block that holds an intent: nothing of rows of two cells lies there, nor bytes. -/
def Itn (R : Nat) (w : World) : Prop := ∃ n a b c t, w.heap[R]? = some (.cells #[.int .i64 n, .slice a b c] t (0, 0))

theorem Itn.cell {R : Nat} {w : World} (h : Itn R w) {off : Nat} {u : Value} (hu : w.cell? ⟨R, off, none⟩ = some u) : (off = 0 ∧ ∃ n, u = .int .i64 n) ∨ (off = 1 ∧ ∃ a b c, u = .slice a b c) := by
  obtain ⟨n, a, b, c, t, h⟩ := h
  rw [cell_of_row w R off _ _ _ h] at hu
  match off, hu with
  | 0, hu => simp at hu; exact .inl ⟨rfl, _, hu.symm⟩
  | 1, hu => simp at hu; exact .inr ⟨rfl, _, _, _, hu.symm⟩
  | n + 2, hu => simp at hu

theorem Itn.bytes {R : Nat} {w : World} (h : Itn R w) {u : Value} {l : List Int} (hb : Bs w u l) : Off Bs (some R) w u l := fun w' hg => by
  obtain ⟨ao, cap, hv, h1, h2, h3, h4, h5⟩ := hb
  refine ⟨ao, cap, hv, h1, h2, h3, h4, fun hp => ?_⟩
  obtain ⟨b, off, e, hc⟩ := h5 hp
  refine ⟨b, off, e, fun i hi => hg.cell (hc i hi) (fun e => ?_)⟩
  simp only [Option.some.injEq] at e
  subst e
  rcases h.cell (hc i hi) with ⟨_, n, this⟩ | ⟨_, _, _, _, this⟩
  · cases this
  · cases this

theorem Itn.bss {R : Nat} {w : World} (h : Itn R w) {v : Value} {ls : List (List Int)} (hs : Bss w v ls) (hl : 2 ≤ ls.length) : BssX (some R) w v ls := ⟨Sl.lift (fun _ _ hb => h.bytes hb) hs (Grow.refl _), fun hp b hb e => by
  obtain ⟨ao, cap, rfl, h1, h2, h3, h4⟩ := hs
  obtain ⟨b', off, rfl, hc⟩ := h4 hp
  simp only [Value.ownBlock, Option.some.injEq] at hb e
  subst hb e
  obtain ⟨u, hu, hr⟩ := hc 0 (ls[0]) (by simp [show 0 < ls.length by omega])
  obtain ⟨u', hu', _⟩ := hc 1 (ls[1]) (by simp [show 1 < ls.length by omega])
  obtain ⟨x1, x2, x3, rfl⟩ := hr.form
  rcases h.cell hu with ⟨_, n, this⟩ | ⟨h0, _⟩
  · cases this
  · rcases h.cell hu' with ⟨h1, _⟩ | ⟨h1, _⟩ <;> omega⟩

end Go.Proofs.YtjggiameajndgadGreatDoor

/-
  A row of numbers of the call's own, whose whole block holds numbers: nothing of an array lies there. Append of one number.
-/
namespace Go.Proofs.YtjggiameajndgadGreatDoor
open Go.RowKit

/-- A block of numbers. -/
def Nums (g : Nat) (w : World) : Prop := ∃ cs t mk, w.heap[g]? = some (.cells cs t mk) ∧ ∀ u ∈ cs.toList, ∃ n, u = Value.int .i64 n

theorem Nums.cell {g : Nat} {w : World} (h : Nums g w) {off : Nat} {u : Value} (hu : w.cell? ⟨g, off, none⟩ = some u) : ∃ n, u = .int .i64 n := by
  obtain ⟨cs, t, mk, h1, h2⟩ := h
  rw [cell_of_row w g off _ _ _ h1] at hu
  exact h2 u (by simpa using Array.mem_of_getElem? hu)

theorem Nums.bytes {g : Nat} {w : World} (h : Nums g w) {u : Value} {l : List Int} (hb : Bs w u l) : Off Bs (some g) w u l := fun w' hg => by
  obtain ⟨ao, cap, hv, h1, h2, h3, h4, h5⟩ := hb
  refine ⟨ao, cap, hv, h1, h2, h3, h4, fun hp => ?_⟩
  obtain ⟨b, off, e, hc⟩ := h5 hp
  refine ⟨b, off, e, fun i hi => hg.cell (hc i hi) (fun e => ?_)⟩
  simp only [Option.some.injEq] at e
  subst e
  obtain ⟨n, this⟩ := h.cell (hc i hi)
  cases this

theorem Nums.row {α : Type} {g : Nat} {Q : World → Value → α → Prop} {w : World} (h : Nums g w) {v : Value} {xs : List α} (hs : Sl Q w v xs) (hQ : ∀ u x, Q w u x → ∃ a b c, u = .slice a b c) : RowOff (some g) v xs.length := fun hp b hb e => by
  obtain ⟨ao, cap, rfl, h1, h2, h3, h4⟩ := hs
  obtain ⟨b', off, rfl, hc⟩ := h4 hp
  simp only [Value.ownBlock, Option.some.injEq] at hb e
  subst hb e
  obtain ⟨u, hu, hr⟩ := hc 0 (xs[0]) (by simp [show 0 < xs.length by omega])
  obtain ⟨n, rfl⟩ := h.cell hu
  obtain ⟨_, _, _, this⟩ := hQ _ _ hr
  cases this

theorem Nums.bss {g : Nat} {w : World} (h : Nums g w) {v : Value} {ls : List (List Int)} (hs : Bss w v ls) : BssX (some g) w v ls :=
  ⟨Sl.lift (fun _ _ hb => h.bytes hb) hs (Grow.refl _), h.row hs (fun _ _ hb => by obtain ⟨a, b, c, e⟩ := hb.form; exact ⟨a, b, c, e⟩)⟩

theorem Nums.dks {g : Nat} {w : World} (h : Nums g w) {v : Value} {ds : List (List (List Int))} (hs : Dks w v ds) : DksX (some g) w v ds :=
  ⟨Sl.lift (fun _ _ hb => h.bss hb) hs (Grow.refl _), h.row hs (fun _ _ hb => by obtain ⟨a, c, e⟩ := Sl.form hb; exact ⟨a, _, c, e⟩)⟩

theorem Nums.arr {g : Nat} {w : World} (h : Nums g w) {v : Value} {b : ArrP} (hv : ArrV w v b) (hi : b.is = []) : ArrX (some g) w v b := by
  obtain ⟨dv, iv, e, h1, h2⟩ := hv
  refine ⟨dv, iv, e, h.dks h1, ?_⟩
  obtain ⟨ao, cap, hv, k1, k2, k3, k4⟩ := h2
  refine ⟨⟨ao, cap, hv, k1, k2, k3, fun hp => ?_⟩, fun hp => ?_⟩
  · rw [hi] at hp; simp at hp
  · rw [hi] at hp; simp at hp

/-- The slice v of the call's own holds the numbers ns, and its block numbers alone. -/
def NumRow (B : Nat) (e : TypeId) (w : World) (v : Value) (ns : List Int) : Prop := w.ownsRow B e 1 v ns.length (ns.map (Value.int .i64)) ∧ ∀ g, v.ownBlock = some g → Nums g w

theorem NumRow.nil (B : Nat) (e : TypeId) (w : World) : NumRow B e w (.slice none 0 0) [] := ⟨World.ownsRow_nil _ _ _ _, fun g h => by cases h⟩

theorem NumRow.kept {B : Nat} {e : TypeId} {w w' : World} {v : Value} {ns : List Int} {G : Nat → Prop} (h : NumRow B e w v ns) (hg : GrownIn w w' G) (hn : ∀ k, v.ownBlock = some k → ¬ G k) : NumRow B e w' v ns := by
  refine ⟨own_kept h.1 hg hn, fun g hv => ?_⟩
  obtain ⟨cs, t, mk, h1, h2⟩ := h.2 g hv
  refine ⟨cs, t, mk, (hg.block g ?_ (hn g hv)).trans h1, h2⟩
  by_cases hlt : g < w.heap.size
  · exact hlt
  · rw [Array.getElem?_eq_none (Nat.le_of_not_lt hlt)] at h1; cases h1

theorem NumRow.grow {B : Nat} {e : TypeId} {w w' : World} {v : Value} {ns : List Int} (h : NumRow B e w v ns) (hg : Grow w w') : NumRow B e w' v ns := h.kept (hg.inn (fun _ => False)) (fun _ _ h => h)

theorem NumRow.base {B : Nat} {e : TypeId} {w : World} {v : Value} {ns : List Int} (h : NumRow B e w v ns) : ∀ k, v.ownBlock = some k → B ≤ k ∧ k < w.heap.size := h.1.lt

theorem NumRow.done {B : Nat} {e : TypeId} {w : World} {v : Value} {ns : List Int} (h : NumRow B e w v ns) : Sl IntV w v ns :=
  Sl.of_own h.1 rfl (fun i u x hu hx => by
    rw [List.getElem?_map] at hu
    rw [hx] at hu
    simp at hu
    exact hu.symm)

theorem zeroNums (k : Nat) : ∀ u ∈ (Builtin.zeroCells (Value.cells (.int .i64 0)) k).toList, ∃ n, u = Value.int .i64 n := by
  intro u hu
  simp only [Builtin.zeroCells, Array.toList_map, List.mem_map] at hu
  obtain ⟨j, _, rfl⟩ := hu
  exact ⟨0, by simp [Value.cells, Nat.mod_one]⟩

/-- An append of one number. -/
theorem run_append_num {P : Program} (w : World) (t ty e : TypeId) (i : TypeInfo) (ht : P.underlying t = some (.slice e)) (hi : P.info? e = some i) (hz : i.zero = some (.int .i64 0)) (hsize : i.size = 1) (hby : i.bytes = 8)
    (B : Nat) (v : Value) (ns : List Int) (h : NumRow B e w v ns) (x : Int) (hbase : B ≤ w.heap.size) (hl : ns.length + 1 ≤ 1000000) (a : Addr) (hx : w.cell? a = some (.int .i64 x)) :
    ∃ g cap w', (Builtin.append_ #[t, t] ty #[v, .slice (some a) 1 1]).run P w = .ok (.slice (some ⟨g, 0, none⟩) (ns.length + 1) cap) w' ∧ NumRow B e w' (.slice (some ⟨g, 0, none⟩) (ns.length + 1) cap) (ns ++ [x]) ∧ w.grownBy w' v.ownBlock := by
  have hnews : ∀ (j : Nat) u, [Value.int .i64 x][j]? = some u → w.cell? (a.add j) = some u := by
    intro j u hj
    match j, hj with
    | 0, hj =>
      simp at hj
      subst hj
      simpa [Addr.add] using hx
  have h1 : ∀ u ∈ [Value.int .i64 x], u.oneCell' = true := by intro u hu; simp at hu; subst hu; rfl
  obtain ⟨g, cap, w', hr, h2, h3, h4, h5⟩ := run_append_lies (P := P) w t ty B e i (.int .i64 0) 1 8 ht hi hz hsize hby rfl (by decide) v ns.length _ h.1 a 1 1 [.int .i64 x] rfl hnews h1 (by decide) (by unfold maxLen; omega) (by omega) hbase _ rfl
  refine ⟨g, cap, w', hr, ⟨by simpa using h2, fun g' hg' => ?_⟩, h3⟩
  cases hg'
  have hmem : ∀ u ∈ ns.map (Value.int .i64), ∃ n, u = Value.int .i64 n := fun u hu => by
    obtain ⟨n, _, rfl⟩ := List.mem_map.1 hu
    exact ⟨n, rfl⟩
  have hone : ∀ u ∈ [Value.int .i64 x], ∃ n, u = Value.int .i64 n := fun u hu => ⟨x, by simpa using hu⟩
  rcases h.1.2 with ⟨hv, h0⟩ | ⟨g0, cap0, cur, hv, hb, hg0, hnc, hcm, hcs, htk⟩
  · subst hv
    have hrn := run_append_nil (P := P) w t ty e i (.int .i64 0) ht hi hz a 1 1 [.int .i64 x] (by rw [hsize]; rfl) hnews (by decide) (by decide) (by rw [hby]; decide)
    rw [hrn] at hr
    injection hr with e1 e2
    injection e1 with e3 _ _
    injection e3 with e3
    injection e3 with e3 _ _
    subst e2 e3
    refine ⟨_, _, _, heap_alloc_new w.drew _, fun u hu => ?_⟩
    rw [Array.toList_append, List.mem_append] at hu
    rcases hu with hu | hu
    · exact hone u hu
    · exact zeroNums _ u hu
  · subst hv
    by_cases hroom : ns.length + 1 ≤ cap0
    · have hrr := run_append_room (P := P) w t ty e i ht hi g0 ns.length cap0 cur hg0 a 1 1 [.int .i64 x] (by rw [hsize]; rfl) hnews h1 hroom (by rw [hsize]; simp; omega)
      rw [hrr] at hr
      injection hr with e1 e2
      injection e1 with e3 _ _
      injection e3 with e3
      injection e3 with e3 _ _
      subst e2 e3
      refine ⟨_, _, _, setRow_heap w g0 cur _ e _ hg0, fun u hu => ?_⟩
      obtain ⟨cs, t', mk, hg1, hall⟩ := h.2 g0 rfl
      rw [hg0] at hg1
      injection hg1 with hg1
      injection hg1 with hg1 _ _
      subst hg1
      simp only [List.mem_append] at hu
      rcases hu with (hu | hu) | hu
      · exact hall u (List.mem_of_mem_take hu)
      · exact hone u hu
      · exact hall u (List.mem_of_mem_drop hu)
    · have holds : ∀ (j : Nat) u, (ns.map (Value.int .i64))[j]? = some u → w.cell? ((⟨g0, 0, none⟩ : Addr).add j) = some u := h.1.cells (g := g0) rfl
      have hrg := run_append_grow (P := P) w t ty e i (.int .i64 0) ht hi hz ⟨g0, 0, none⟩ ns.length cap0 _ (by rw [hsize]; simp) holds a 1 1 [.int .i64 x] (by rw [hsize]; rfl) hnews (by omega) (by omega) (growslice_fits (by omega) (by rw [hby]; omega))
      rw [hrg] at hr
      injection hr with e1 e2
      injection e1 with e3 _ _
      injection e3 with e3
      injection e3 with e3 _ _
      subst e2 e3
      refine ⟨_, _, _, heap_alloc_new w.drew _, fun u hu => ?_⟩
      rw [Array.toList_append, Array.toList_append, List.mem_append, List.mem_append] at hu
      rcases hu with (hu | hu) | hu
      · exact hmem u hu
      · exact hone u hu
      · exact zeroNums _ u hu

/-- The same, for the walk. -/
theorem wpList_push_num {P : Program} {w : World} {ops : Array Oper} {rest : List Oper} {o : Oper} {a : Act} {Q : Exit → Act → World → Prop} (hgd : o.guard = none) (s y : Operand) (t : TypeId)
    (ho : o.op = .call { callee := .builtin .append, args := #[s, y], argTypes := #[t, t] })
    (e : TypeId) (i : TypeInfo) (ht : P.underlying t = some (.slice e)) (hi : P.info? e = some i) (hz : i.zero = some (.int .i64 0)) (hsize : i.size = 1) (hby : i.bytes = 8)
    (B : Nat) {v : Value} {ns : List Int} (hs : a.eval s = v) (h : NumRow B e w v ns) (x : Int) (hB : B ≤ w.heap.size) (hl : ns.length + 1 ≤ 1000000)
    (H : Nat) (hH : w.heap.size = H) (hy : a.eval y = .slice (some ⟨H, 0, none⟩) 1 1)
    (hK : ∀ g cap w', NumRow B e w' (.slice (some ⟨g, 0, none⟩) (ns.length + 1) cap) (ns ++ [x]) → GrownIn w w' (fun k => v.ownBlock = some k) → wpList P ops Q rest (a.put o.dst (.slice (some ⟨g, 0, none⟩) (ns.length + 1) cap)) w') :
    wpList P ops Q (o :: rest) a (w.alloc (.cells #[.int .i64 x] e)) := by
  subst hH
  have hgA : Grow w (w.alloc (.cells #[.int .i64 x] e)) := Grow.alloc _ _
  refine wpList_plain hgd fun _ hK' => ?_
  obtain ⟨g, cap, w', hr, h2, h3⟩ := run_append_num (P := P) (w.alloc (.cells #[.int .i64 x] e)) t o.type e i ht hi hz hsize hby B v ns (h.grow hgA) x (by simp; omega) hl ⟨w.heap.size, 0, none⟩ (row_at (heap_alloc_new w _) 0 rfl)
  unfold Oper.wp execOp
  simp only [ho, resolve, invoke, builtin, Sem.run_bind, Sem.run_pure, Result.andThen_ok, List.map_toArray, List.map_cons, List.map_nil, hs, hy, hr]
  exact hK' _ _ (hK g cap w' h2 ((hgA.inn _).trans (GrownIn.of_by h3 (fun k hk => hk))))

end Go.Proofs.YtjggiameajndgadGreatDoor

/-
  What the program's stripe stands on: an item of a list, bytes.Clone, slices.Grow and slices.Concat; rows of four, made. Nothing old turns.
-/
namespace Go.Proofs.YtjggiameajndgadGreatDoor
open Go.RowKit

set_option maxRecDepth 20000 in
theorem atB_any (b off k n cap : Nat) (x : Option Addr) (y z : Nat) (w : World) (hk : k < n) (hu : w.cell? ⟨b, off + k, none⟩ = some (.slice x y z)) :
    Calls Tryz.prog 47 #[.slice (some ⟨b, off, none⟩) n cap, .int .i64 k] w fun e w' => e = .returned (.slice x y z) ∧ w' = w := by
  have h1 : ¬ ((k : Int) < 0) := by omega
  have h2 : ¬ ((k : Int) ≥ (n : Int)) := by omega
  go_enter Tryz.func47, Tryz.ntmps47
  go_wp2
  go_ret
  exact ⟨rfl, rfl⟩

set_option maxRecDepth 20000 in
theorem atD_any (b off k n cap : Nat) (x : Option Addr) (y z : Nat) (w : World) (hk : k < n) (hu : w.cell? ⟨b, off + k, none⟩ = some (.slice x y z)) :
    Calls Tryz.prog 48 #[.slice (some ⟨b, off, none⟩) n cap, .int .i64 k] w fun e w' => e = .returned (.slice x y z) ∧ w' = w := by
  have h1 : ¬ ((k : Int) < 0) := by omega
  have h2 : ¬ ((k : Int) ≥ (n : Int)) := by omega
  go_enter Tryz.func48, Tryz.ntmps48
  go_wp2
  go_ret
  exact ⟨rfl, rfl⟩

set_option maxRecDepth 20000 in
set_option maxHeartbeats 800000 in
theorem bytesClone_any (v : Value) (l : List Int) (w : World) (h : Bs w v l) (hm : l.length ≤ 1000) :
    Calls Tryz.prog 31 #[v] w fun e w' => ∃ r, e = .returned r ∧ w'.ownsRow w.heap.size 5 1 r l.length (l.map (Value.int .u8)) ∧ Grow w w' := by
  obtain ⟨i0, hi, hz0, hz1, hz2⟩ := info_parts Tryz.infoB
  obtain ⟨ao, cap, rfl, h1, h2, h3, h4, h5⟩ := h
  have qT : ∀ (w : World) (a : Option Addr) (n c n' c' : Nat), (binOp .eql 34 (.slice a n c) (.slice none n' c')).run Tryz.prog w = .ok (.bool a.isNone) w := fun w a n c n' c' => Lib.run_eql_slice_nil w _ _ a n c n' c' Tryz.underlying34
  unfold maxLen at h2
  cases ao with
  | none =>
    have hl : l = [] := List.eq_nil_of_length_eq_zero (by have := h3 rfl; omega)
    subst hl
    obtain rfl : cap = 0 := h3 rfl
    go_enter Tryz.func31, Tryz.ntmps31
    go_wp2
    go_ret
    exact ⟨_, rfl, World.ownsRow_nil _ _ _ _, Grow.refl _⟩
  | some ad =>
    have hgA : Grow w (w.alloc (.cells #[] 5)) := Grow.alloc _ _
    have hsrc := (h5.below hgA).src
    have hlm : (l.map (Value.int .u8)).length = l.length := by simp
    have hone := u8_oneCell l
    have hown0 : (w.alloc (.cells #[] 5)).ownsRow w.heap.size 5 1 (.slice (some ⟨w.heap.size, 0, none⟩) 0 0) 0 [] := World.ownsRow_lit w #[] 0 (Nat.le_refl _) (Nat.zero_le _) rfl
    clear h5
    generalize l.map (Value.int .u8) = news at *
    have HLM : Hid (news.length = l.length) := hlm
    generalize l.length = n at *
    clear hlm
    have Hown0 : Hid ((w.alloc (.cells #[] 5)).ownsRow w.heap.size 5 1 (.slice (some ⟨w.heap.size, 0, none⟩) 0 0) 0 []) := hown0
    clear hown0
    go_enter Tryz.func31, Tryz.ntmps31
    go_wp2_with (first
      | (at_builtin; refine wpList_append_own_any _ rfl (.tmp 5) (.tmp 6) 34 rfl w.heap.size 5 i0 (.int .u8 0) 1 Tryz.underlying34 hi hz0 hz1 hz2 rfl _ 0 [] rfl Hown0.out (some ad) n cap news rfl HLM.out (fun h => nomatch h) hsrc hone (by unfold maxLen; omega) (by omega) hgA.size ?_; rintro v1 w1 hown1 hgr1))
    have hg1 := hgA.grown hgr1 (fun k hk => by cases hk; exact Nat.le_refl _)
    simp only [Nat.zero_add, List.nil_append] at hown1
    have Hown1 : Hid (w1.ownsRow w.heap.size 5 1 v1 n news) := hown1
    clear hown1 hgr1
    go_wp2
    go_ret
    exact ⟨_, rfl, Hown1.out, hg1⟩

/-- An append whose run is known. -/
theorem wpList_append_run {P : Program} {w w' : World} {ops : Array Oper} {rest : List Oper} {o : Oper} {a : Act} {Q : Exit → Act → World → Prop} (hgd : o.guard = none) (s y : Operand) (ts : Array TypeId)
    (ho : o.op = .call { callee := .builtin .append, args := #[s, y], argTypes := ts }) {v u r : Value} (hs : a.eval s = v) (hy : a.eval y = u) (hr : (Builtin.append_ ts o.type #[v, u]).run P w = .ok r w')
    (h : wpList P ops Q rest (a.put o.dst r) w') : wpList P ops Q (o :: rest) a w := by
  refine wpList_plain hgd fun _ hK => ?_
  unfold Oper.wp execOp
  simp only [ho, resolve, invoke, builtin, Sem.run_bind, Sem.run_pure, Result.andThen_ok, List.map_toArray, List.map_cons, List.map_nil, hs, hy, hr]
  exact hK _ _ h

set_option maxRecDepth 20000 in
set_option maxHeartbeats 800000 in
theorem growNil_any (n : Nat) (w : World) (hp : 0 < n) (hn : n ≤ 1000) :
    Calls Tryz.prog 66 #[.slice none 0 0, .int .i64 n] w fun e w' => ∃ r, e = .returned r ∧ w'.ownsRow w.heap.size 34 1 r 0 [] ∧ Grow w w' := by
  obtain ⟨i0, hi, hz0, hz1, hz2⟩ := info_parts Tryz.infoS
  have hrz := fun ty => Lib.run_append_nil_zeros (P := Tryz.prog) w 28 3 ty 34 i0 (.slice none 0 0) .i64 .i64 Tryz.underlying28 Tryz.underlying3 hi hz0 n hp (by omega) (by omega) (by rw [hz2]; omega)
  have hcap := grownCap_ge w n 0 34
  have hcm := grownCap_le_maxLen w n 0 34 (by unfold maxLen; omega)
  have hsz : (Builtin.zeroCells (Value.cells (.slice none 0 0)) n ++ Builtin.zeroCells (Value.cells (.slice none 0 0)) (grownCap w n 0 34 - n)).size = grownCap w n 0 34 * 1 := by
    rw [Array.size_append, size_zeroCells, size_zeroCells]
    show n * 1 + _ * 1 = _
    omega
  have hg0 : Grow w w.drew := Grow.drew1 (Grow.refl w)
  generalize grownCap w n 0 34 = cp at *
  generalize Builtin.zeroCells (Value.cells (.slice none 0 0)) n ++ Builtin.zeroCells (Value.cells (.slice none 0 0)) (cp - n) = cur at *
  have hgA := hg0.trans (Grow.alloc w.drew (.cells cur 34))
  have hown : (w.drew.alloc (.cells cur 34)).ownsRow w.heap.size 34 1 (.slice (some ⟨w.heap.size, 0, none⟩) 0 cp) 0 [] := ⟨rfl, .inr ⟨w.heap.size, cp, cur, rfl, Nat.le_refl _, heap_alloc_new w.drew _, Nat.zero_le _, hcm, hsz, by simp⟩⟩
  have Hown : Hid ((w.drew.alloc (.cells cur 34)).ownsRow w.heap.size 34 1 (.slice (some ⟨w.heap.size, 0, none⟩) 0 cp) 0 [] ∧ Grow w (w.drew.alloc (.cells cur 34))) := ⟨hown, hgA⟩
  clear hown hgA hg0 hsz
  unfold maxLen at hcm
  have h1 : ¬ ((n : Int) < 0) := by omega
  have h4 : (n : Int) > 0 := by omega
  go_enter Tryz.func66, Tryz.ntmps66
  go_wp2_with (first
    | (at_builtin; refine wpList_append_run rfl (.tmp 20) (.tmp 21) #[28, 3] rfl rfl rfl (hrz _) ?_))
  go_ret
  exact ⟨_, rfl, Hown.out.1, Hown.out.2⟩

theorem flat_succ {α : Type} (lss : List (List α)) {k : Nat} (h : k < lss.length) : (lss.take (k + 1)).flatten = (lss.take k).flatten ++ lss.getD k [] := by
  have e : lss[k]? = some (lss.getD k []) := by simp [h, List.getD_eq_getElem?_getD]
  rw [List.take_add_one, e]
  simp only [Option.toList_some, List.flatten_append, List.flatten_cons, List.flatten_nil, List.append_nil]

theorem flat_le {α : Type} (lss : List (List α)) (k : Nat) : (lss.take k).flatten.length ≤ lss.flatten.length := by
  have := congrArg (fun l => (List.flatten l).length) (List.take_append_drop k lss)
  simp only [List.flatten_append, List.length_append] at this
  omega

set_option maxRecDepth 20000 in
set_option maxHeartbeats 1600000 in
theorem concat_any (v : Value) (lss : List (List (List Int))) (w : World) (h : Dks w v lss) (hp : 0 < lss.flatten.length) (hm : lss.flatten.length ≤ 1000) :
    Calls Tryz.prog 56 #[v] w fun e w' => ∃ r, e = .returned r ∧ Bss w' r lss.flatten ∧ Grow w w' := by
  obtain ⟨i0, hi, hz0, hz1, hz2⟩ := info_parts Tryz.infoS
  obtain ⟨ao, cap, rfl, h1, h2, h3, h4⟩ := h
  have HC : Hid (0 < lss.length → ∃ b off, ao = some ⟨b, off, none⟩ ∧ ∀ k, k < lss.length → ∃ ak ck, w.cell? ⟨b, off + k, none⟩ = some (.slice ak (lss.getD k []).length ck) ∧ (lss.getD k []).length ≤ ck ∧ ck ≤ maxLen ∧ Bss w (.slice ak (lss.getD k []).length ck) (lss.getD k [])) := fun hp => by
    obtain ⟨b, off, e, hc⟩ := h4 hp
    refine ⟨b, off, e, fun k hk => ?_⟩
    obtain ⟨u, hu, hr⟩ := hc k (lss.getD k []) (by simp [List.getD_eq_getElem?_getD, hk])
    have hr' := hr
    obtain ⟨a', c', rfl, q1, q2, -⟩ := hr'
    exact ⟨a', c', hu, q1, q2, hr⟩
  have HS : Hid (∀ k, k < lss.length → (lss.take (k + 1)).flatten = (lss.take k).flatten ++ lss.getD k []) := fun k hk => flat_succ lss hk
  have HL : Hid (∀ k, (lss.take k).flatten.length ≤ lss.flatten.length) := flat_le lss
  unfold maxLen at h2
  clear h4
  go_enter Tryz.func56, Tryz.ntmps56
  go_wp2
  go_loop [3, 11] (fun z i => ∃ k : Nat, k ≤ lss.length ∧ i = .int .i64 k ∧ z = .int .i64 (lss.take k).flatten.length) (fun _ i => lss.length - (intOf i).toNat)
  case atStart => exact ⟨0, by omega, rfl, rfl⟩
  case round =>
    obtain ⟨k, hk, rfl, rfl⟩ := hrel
    by_cases hlt : k < lss.length
    · obtain ⟨b, off, rfl, hc⟩ := HC.out (by omega)
      obtain ⟨ak, ck, hck, q1, q2, -⟩ := hc k hlt
      have e1 := congrArg List.length (HS.out k hlt)
      have e2 := HL.out (k + 1)
      rw [List.length_append] at e1
      unfold maxLen at q2
      have HE : Hid ((lss.take (k + 1)).flatten.length = (lss.take k).flatten.length + (lss.getD k []).length) := e1
      clear hc e1
      rw [HE.out] at e2
      generalize (lss.getD k []).length = nk at *
      generalize (lss.take k).flatten.length = sk at *
      generalize lss.flatten.length = tot at *
      have h0 : ¬ ((sk : Int) + (nk : Int) < 0) := by omega
      go_wp2
      go_round
      case rel => exact ⟨k + 1, by omega, by go_num, by rw [HE.out]; go_num⟩
      case measure => simp [intOf]; omega
    · obtain rfl : k = lss.length := by omega
      have hf : (lss.take lss.length).flatten.length = lss.flatten.length := by rw [List.take_length]
      have hG := growNil_any lss.flatten.length w hp hm
      have hdk : decide ((lss.length : Int) < (lss.length : Int)) = false := by simp
      rw [hf]
      clear hf
      obtain ⟨tot, htot⟩ : ∃ t, lss.flatten.length = t := ⟨_, rfl⟩
      rw [htot] at hG hm hp ⊢
      have Htot : Hid (lss.flatten.length = tot) := htot
      clear htot
      go_wp2_with fail
      refine hG.mono ?_
      rintro e w1 ⟨r1, rfl, hown1, hg1⟩
      have HW : Hid (∃ us, w1.ownsRow w.heap.size 34 1 r1 (lss.take 0).flatten.length us ∧ BsL w us (lss.take 0).flatten) := ⟨[], hown1, BsL.nil _⟩
      clear hown1 hG
      go_wp2
      go_loopw [6, 27] (fun r i wr => ∃ k : Nat, k ≤ lss.length ∧ i = .int .i64 k ∧ Hid (∃ us, wr.ownsRow w.heap.size 34 1 r (lss.take k).flatten.length us ∧ BsL w us (lss.take k).flatten) ∧ Grow w wr) (fun _ i _ => lss.length - (intOf i).toNat)
      case atStart => exact ⟨0, by omega, rfl, HW, hg1⟩
      case round =>
        obtain ⟨k, hk, rfl, HR, hgr⟩ := hrel
        clear HW
        by_cases hlt : k < lss.length
        · obtain ⟨b, off, rfl, hc⟩ := HC.out (by omega)
          obtain ⟨ak, ck, hck, q1, q2, hbk⟩ := hc k hlt
          obtain ⟨us, hown, hus⟩ := HR.out
          obtain ⟨vs, hvl, -, hcs, hvs, hnone⟩ := hbk.values
          have hck' := hgr.at hck
          have hcs' : ∀ ad, ak = some ad → ∀ (j : Nat) u, vs[j]? = some u → wr.cell? (ad.add j) = some u := fun ad e j u hu => hgr.at (hcs ad e j u hu)
          have e1 := congrArg List.length (HS.out k hlt)
          have e2 := HL.out (k + 1)
          rw [Htot.out] at e2
          rw [List.length_append] at e1
          have HB : Hid (BsL w (us ++ vs) (lss.take (k + 1)).flatten) := by rw [Hid, HS.out k hlt]; exact hus.append hvs
          have HE : Hid ((lss.take (k + 1)).flatten.length = (lss.take k).flatten.length + (lss.getD k []).length) := e1
          rw [HE.out] at e2
          have hone := hvs.oneCell
          clear hc e1 HR hbk hck hcs hvs hus
          generalize (lss.getD k []).length = nk at *
          generalize (lss.take k).flatten.length = sk at *
          have Hown : Hid (wr.ownsRow w.heap.size 34 1 u6 sk us) := hown
          have Hvl : Hid (vs.length = nk) := hvl
          clear hown hvl
          go_wp2_with (first
            | (at_builtin; refine wpList_append_own_any _ rfl (.tmp 31) (.tmp 32) 28 rfl w.heap.size 34 i0 (.slice none 0 0) 24 Tryz.underlying28 hi hz0 hz1 hz2 rfl _ sk us rfl Hown.out ak nk ck vs rfl Hvl.out hnone hcs' hone (by unfold maxLen; omega) (by omega) hgr.size ?_; rintro v2 w2 hown2 hgr2))
          have hg2 := hgr.grown hgr2 (fun j hj => own_base Hown.out j hj)
          have HW2 : Hid (∃ us, w2.ownsRow w.heap.size 34 1 v2 (lss.take (k + 1)).flatten.length us ∧ BsL w us (lss.take (k + 1)).flatten) := ⟨_, by rw [HE.out]; exact hown2, HB.out⟩
          clear hown2 hgr2 Hown HB
          go_wp2
          go_roundw
          case rel => first | exact ⟨k + 1, by omega, by go_num, HW2, hg2⟩ | ((repeat apply Exists.intro); exact ⟨⟨k + 1, by omega, by go_num, HW2, hg2⟩, rfl⟩)
          case measure => simp [intOf]; omega
        · obtain rfl : k = lss.length := by omega
          obtain ⟨us, hown, hus⟩ := HR.out
          rw [List.take_length] at hown hus
          have hdone := (hus.grow hgr).own hown rfl
          clear hown hus HR
          go_wp2
          go_ret
          exact ⟨_, rfl, hdone, hgr⟩

end Go.Proofs.YtjggiameajndgadGreatDoor
