/-
  The statement that any one is what the others are, walked: whatever blocks: it returns true, and nothing old turns.
-/
import Derived.Test.YtjggiameajndgaaWalkXorSame
namespace Go.Proofs.Ytjggiameajndgaa
open Go.RowKit

theorem others_skip {ls : List (List Int)} {k n : Nat} (h : n = k) : others ls k (n + 1) = others ls k n := by rw [others, if_pos h]
theorem others_take {ls : List (List Int)} {k n : Nat} (h : n ≠ k) : others ls k (n + 1) = ls.getD n [] :: others ls k n := by rw [others, if_neg h]

set_option maxRecDepth 20000 in
set_option maxHeartbeats 3200000 in
theorem xorBack_in (v : Value) (ls : List (List Int)) (q : Nat) (w : World) (h : Bss w v ls) (hl4 : ∀ x ∈ ls, x.length = 4) (hl50 : ls.length ≤ 50) (hr : rightB ls = true) (hq : q < ls.length) :
    Calls Try.prog 10 #[v, .int .i64 q] w fun e w' => e = .returned (.bool true) ∧ Grow w w' := by
  obtain ⟨i0, hi, hz0, hz1, hz2⟩ := info_parts Try.infoS
  obtain ⟨av, cv, rfl⟩ := h.form
  have hoc := h.octets
  have hlq : (ls.getD q []).length = 4 := hl4 _ (by simp [List.getD_eq_getElem?_getD, hq])
  have hoq : Octets (ls.getD q []) := hoc _ (by simp [List.getD_eq_getElem?_getD, hq])
  have HO : Hid (xorAll (others (ls ++ [xorAll ls]) q (ls.length + 1)) = ls.getD q []) := xorAll_others hq hlq hoq
  have HE : Hid (evenB (xorAll (ls ++ [xorAll ls])) = true) := by rw [Hid, xorAll_even]; rfl
  obtain ⟨n, hn⟩ : ∃ n, n = ls.length := ⟨_, rfl⟩
  have HN : Hid (ls.length = n) := hn.symm
  rw [← hn] at hq hl50 ⊢
  clear hn
  have hq0 : decide ((q : Int) < 0) = false := by simp
  go_enter Try.func10, Try.ntmps10
  go_wp2_with fail
  refine (alive3_any _).mono ?_
  rintro e w9 ⟨rfl, hg0⟩
  have h0 := h.grow hg0
  rw [HN.out] at h0
  go_wp2_with fail
  refine (hr ▸ right3_any _ ls _ h0).mono ?_
  rintro e w0 ⟨rfl, rfl⟩
  have hgA : Grow w0 (w0.alloc (.cells #[] 22)) := Grow.alloc _ _
  obtain ⟨us, hul, -, hcs1, hus, hnone⟩ := Bss.values h0
  have hcs : ∀ ad, av = some ad → ∀ (j : Nat) u, us[j]? = some u → (w0.alloc (.cells #[] 22)).cell? (ad.add j) = some u := fun ad had j u hj => hgA.at (hcs1 ad had j u hj)
  have hown0 : (w0.alloc (.cells #[] 22)).ownsRow w0.heap.size 22 1 (.slice (some ⟨w0.heap.size, 0, none⟩) 0 0) 0 [] := World.ownsRow_lit w0 #[] 0 (Nat.le_refl _) (by unfold maxLen; omega) rfl
  go_wp2_with (first
    | (at_builtin; refine wpList_append_own_any _ rfl (.tmp 24) (.tmp 25) 38 rfl w0.heap.size 22 i0 (.slice none 0 0) 24 Try.underlying38 hi hz0 hz1 hz2 rfl _ 0 [] rfl hown0 av n cv us rfl hul hnone hcs hus.oneCell (by unfold maxLen; omega) (by omega) (by simp) ?_; intro v1 w2 hown1 hgr1))
  have hg2 : Grow w0 w2 := hgA.grown hgr1 (fun k hk => by cases hk; exact Nat.le_refl _)
  refine (all_new _ ls _ (h0.grow hg2) hl4).mono ?_
  rintro e w3 ⟨rfl, ⟨-, -, -, hx⟩, hg3⟩
  have hown3 := grow_own hown1 hg3
  have hgB : Grow w3 (w3.alloc (.cells #[.slice (some ⟨w2.heap.size, 0, none⟩) 4 4] 22)) := Grow.alloc _ _
  have hlt := fun k hk => (hown1.lt k hk).2
  clear hown1 hgr1 hown0 hgA hcs hcs1
  rw [Nat.zero_add, List.nil_append] at hown3
  go_wp2_with (first
    | (at_builtin; refine wpList_append_own_any _ rfl (.tmp 26) (.tmp 29) 38 rfl w0.heap.size 22 i0 (.slice none 0 0) 24 Try.underlying38 hi hz0 hz1 hz2 rfl _ n us rfl (hown3.alloc _) (some ⟨w3.heap.size, 0, none⟩) 1 1 [.slice (some ⟨w2.heap.size, 0, none⟩) 4 4] rfl rfl (fun h => nomatch h) (by intro ad had j u hj; cases had; match j, hj with | 0, hj => simp at hj; subst hj; simp [Addr.add]) (by intro u hu; simp at hu; subst hu; rfl) (by unfold maxLen; omega) (by omega) (by have := hg2.size; have := hg3.size; simp; omega) ?_; intro v2 w4 hown2 hgr2; have hg4 : Grow w0 w4 := Grow.grown ((hg2.trans hg3).trans hgB) hgr2 (fun k hk => (hown3.lt k hk).1); have hx4 := Bs.grownBy (hx.grow hgB) hgr2 (fun h => absurd (hlt _ h.symm) (Nat.lt_irrefl _)); have hall : Bss w4 v2 (ls ++ [xorAll ls]) := BsL.own ((hus.grow hg4).append (BsL.one hx4)) hown2 (by have := HN.out; simp; omega); obtain ⟨ga, ca, rfl, -, -⟩ := hown2.form (by omega))
    )
  have hca := hall.cells
  have hl5 : ∀ x ∈ ls ++ [xorAll ls], x.length = 4 := by
    intro x hx
    rcases List.mem_append.1 hx with hx | hx
    · exact hl4 x hx
    · simp at hx
      rw [hx]
      rfl
  have hlall : (ls ++ [xorAll ls]).length = n + 1 := by have := HN.out; simp; omega
  rw [HN.out] at HO
  clear hown2 hgr2 hx4 hx hown3 hgB hlt hg3 hg2 hus hul hnone
  have h4 := h0.grow hg4
  clear h h0
  have hgw := hg0.trans hg4
  clear hg4 hg0
  obtain ⟨al, hal⟩ : ∃ al, al = ls ++ [xorAll ls] := ⟨_, rfl⟩
  rw [← hal] at hca hall hl5 hlall HO HE
  clear hal
  go_wp2
  go_loopw [6, 33] (fun vo i wr => ∃ m : Nat, m ≤ n + 1 ∧ i = .int .i64 m ∧ Hid (Bss wr vo (others al q m)) ∧ Grow w4 wr) (fun _ i _ => n + 1 - (intOf i).toNat)
  case atStart => exact ⟨0, by omega, rfl, Sl.nil _ _, Grow.refl _⟩
  case round =>
    obtain ⟨m, hm, rfl, HB, hgr⟩ := hrel
    by_cases hmn : m < n + 1
    · obtain ⟨ak, ck, hck, hbk⟩ := Sl.bytesAt hca (k := m) (by omega)
      have hlk : (al.getD m []).length = 4 := hl5 _ (by simp [List.getD_eq_getElem?_getD, hlall, hmn])
      have hck' := hgr.at hck
      have hbk' := hbk.grow hgr
      rw [hlk, Nat.zero_add] at hck'
      rw [hlk] at hbk'
      clear hck hbk hlk
      by_cases hmq : m = q
      · have HB' : Hid (Bss wr u6 (others al q (m + 1))) := by rw [Hid, others_skip hmq]; exact HB.out
        subst hmq
        go_wp2
        go_roundw
        case rel => first | exact ⟨m + 1, by omega, by go_num, HB', hgr⟩ | ((repeat apply Exists.intro); exact ⟨⟨m + 1, by omega, by go_num, HB', hgr⟩, rfl⟩)
        case measure => simp [intOf]; omega
      · have hmq' : ¬ (m : Int) = q := by omega
        obtain ⟨ao, co, rfl⟩ := HB.out.form
        have hlo := others_length al q m
        obtain ⟨us, hul, -, hcs1, hus, hnone⟩ := Bss.values HB.out
        have hgA : Grow wr (wr.alloc (.cells #[.slice ak 4 ck] 22)) := Grow.alloc _ _
        have hcs : ∀ ad, ao = some ad → ∀ (j : Nat) u, us[j]? = some u → (wr.alloc (.cells #[.slice ak 4 ck] 22)).cell? (ad.add j) = some u := fun ad had j u hj => hgA.at (hcs1 ad had j u hj)
        have hown0 : (wr.alloc (.cells #[.slice ak 4 ck] 22)).ownsRow wr.heap.size 22 1 (.slice (some ⟨wr.heap.size, 0, none⟩) 1 1) 1 [.slice ak 4 ck] := World.ownsRow_lit wr #[.slice ak 4 ck] 1 (Nat.le_refl _) (by unfold maxLen; omega) rfl
        have HT : Hid (others al q (m + 1) = al.getD m [] :: others al q m) := others_take hmq
        clear hcs1
        generalize hlo' : (others al q m).length = lo at *
        have Hlo : Hid ((others al q m).length = lo) := hlo'
        clear hlo'
        go_wp2_with (first
          | (at_builtin; refine wpList_append_own_any _ rfl (.tmp 42) (.tmp 43) 38 rfl wr.heap.size 22 i0 (.slice none 0 0) 24 Try.underlying38 hi hz0 hz1 hz2 rfl _ 1 [.slice ak 4 ck] rfl hown0 ao lo co us rfl hul hnone hcs hus.oneCell (by unfold maxLen; omega) (by omega) (by simp) ?_; intro v1 w5 hown1 hgr1))
        have hg5 : Grow wr w5 := hgA.grown hgr1 (fun k hk => by cases hk; exact Nat.le_refl _)
        have HB5 : Hid (Bss w5 v1 (others al q (m + 1))) := by
          rw [Hid, HT.out]
          exact BsL.own (((BsL.one hbk').append hus).grow hg5) hown1 (by have := Hlo.out; simp; omega)
        clear hown1 hgr1 hown0 hgA hcs hus hnone HB
        go_wp2
        go_roundw
        case rel => first | exact ⟨m + 1, by omega, by go_num, HB5, hgr.trans hg5⟩ | ((repeat apply Exists.intro); exact ⟨⟨m + 1, by omega, by go_num, HB5, hgr.trans hg5⟩, rfl⟩)
        case measure => simp [intOf]; omega
    · obtain rfl : m = n + 1 := by omega
      obtain ⟨b, off, rfl, hc⟩ := (show ∃ b off, av = some ⟨b, off, none⟩ ∧ ∀ (i : Nat) x, ls[i]? = some x → ∃ u, wr.cell? ⟨b, off + i, none⟩ = some u ∧ Bs wr u x by
        obtain ⟨a1, c1, e1, -, -, -, h5⟩ := h4.grow hgr
        injection e1 with e1 _ _
        subst e1
        have := HN.out
        exact h5 (by omega))
      obtain ⟨aq, cq, hcq, hbq⟩ := Sl.bytesAt hc (k := q) (by have := HN.out; omega)
      rw [hlq] at hcq hbq
      have hgall := hgw.trans hgr
      have hall5 := hall.grow hgr
      have hmem : ∀ x ∈ others al q (n + 1), x.length = 4 := fun x hx => hl5 x (others_mem (by omega) x hx)
      clear hl4 hc hoq hlq
      generalize ls.getD q [] = lq at *
      go_wp2_with fail
      refine wp_region_stable Grow [IsV (.slice (some ⟨ga, 0, none⟩) (n + 1) ca), IsV (.bool true), IsV (.bool true), IsV (u6), NewBs lq, IsV (.string (strOfNums (lq))), IsV (.slice (some ⟨b, off, none⟩) n cv), IsV (.int .i64 q), IsV (.pointer (some ⟨b, off + q, none⟩)), IsV (.slice aq 4 cq), IsV (.string (strOfNums (lq))), IsV (.bool true), IsV (.bool true), IsV (.bool true)] (by kernel_rfl) (by kernel_rfl) rfl Grow.refl (fun _ _ _ => Grow.trans) ?_ ?_ ?_
      · repeat (refine List.forall_mem_cons.2 ⟨by first | exact IsV.stable _ | exact NewBs.stable _, ?_⟩)
        exact fun R hR => nomatch hR
      · skip
        refine StepsS.cons ?_ fun v0 => ⟨_, _, by simp only [Act.put, List.setIfInBounds_toArray, List.set_cons_succ, List.set_cons_zero]; first | done | rfl, by simp only [List.nil_append]; first | done | rfl, ?_⟩
        · intro w1 hE hd
          clear hd
          go_wp2
          exact ⟨_, rfl, Grow.refl _, rfl⟩
        refine StepsS.cons ?_ fun v1 => ⟨_, _, by simp only [Act.put, List.setIfInBounds_toArray, List.set_cons_succ, List.set_cons_zero]; first | done | rfl, by simp only [List.nil_append, List.cons_append]; first | done | rfl, ?_⟩
        · intro w1 hE hd
          obtain rfl := IsV.eq (dep_at hd 0 rfl rfl rfl)
          clear hd
          go_wp2_with fail
          refine (HE.out ▸ even_any _ al _ (hall5.grow hE.drew) hl5).mono ?_
          rintro e w4 ⟨rfl, hg4⟩
          go_wp2_with fail
          exact ⟨_, rfl, hg4, rfl⟩
        refine StepsS.cons ?_ fun v2 => ⟨_, _, by simp only [Act.put, List.setIfInBounds_toArray, List.set_cons_succ, List.set_cons_zero]; first | done | rfl, by simp only [List.nil_append, List.cons_append]; first | done | rfl, ?_⟩
        · intro w1 hE hd
          obtain rfl := IsV.eq (dep_at hd 0 rfl rfl rfl)
          clear hd
          go_wp2
          exact ⟨_, rfl, Grow.refl _, rfl⟩
        refine StepsS.cons ?_ fun v3 => ⟨_, _, by simp only [Act.put, List.setIfInBounds_toArray, List.set_cons_succ, List.set_cons_zero]; first | done | rfl, by simp only [List.nil_append, List.cons_append]; first | done | rfl, ?_⟩
        · intro w1 hE hd
          obtain rfl := IsV.eq (dep_at hd 0 rfl rfl rfl)
          clear hd
          go_wp2
          exact ⟨_, rfl, Grow.refl _, rfl⟩
        refine StepsS.cons ?_ fun v4 => ⟨_, _, by simp only [Act.put, List.setIfInBounds_toArray, List.set_cons_succ, List.set_cons_zero]; first | done | rfl, by simp only [List.nil_append, List.cons_append]; first | done | rfl, ?_⟩
        · intro w1 hE hd
          obtain rfl := IsV.eq (dep_at hd 0 rfl rfl rfl)
          obtain rfl := IsV.eq (dep_at hd 1 rfl rfl rfl)
          clear hd
          go_wp2_with fail
          refine (HO.out ▸ all_any _ _ _ (HB.out.grow hE.drew) hmem).mono ?_
          rintro e w4 ⟨r', rfl, hr', hg4⟩
          go_wp2_with fail
          exact ⟨_, rfl, hg4, hr'⟩
        refine StepsS.cons ?_ fun v5 => ⟨_, _, by simp only [Act.put, List.setIfInBounds_toArray, List.set_cons_succ, List.set_cons_zero]; first | done | rfl, by simp only [List.nil_append, List.cons_append]; first | done | rfl, ?_⟩
        · intro w1 hE hd
          have d4 := dep_at hd 0 rfl rfl rfl
          obtain rfl := IsV.eq (dep_at hd 1 rfl rfl rfl)
          clear hd
          obtain ⟨g', c', rfl, hb'⟩ := d4
          have hcv := run_convert_bs (P := Try.prog) 22 5 9 Try.underlying22 Try.underlying5 Try.underlying9 hb'
          go_wp2
          exact ⟨_, rfl, Grow.refl _, rfl⟩
        refine StepsS.cons ?_ fun v6 => ⟨_, _, by simp only [Act.put, List.setIfInBounds_toArray, List.set_cons_succ, List.set_cons_zero]; first | done | rfl, by simp only [List.nil_append, List.cons_append]; first | done | rfl, ?_⟩
        · intro w1 hE hd
          obtain rfl := IsV.eq (dep_at hd 0 rfl rfl rfl)
          clear hd
          go_wp2
          exact ⟨_, rfl, Grow.refl _, rfl⟩
        refine StepsS.cons ?_ fun v7 => ⟨_, _, by simp only [Act.put, List.setIfInBounds_toArray, List.set_cons_succ, List.set_cons_zero]; first | done | rfl, by simp only [List.nil_append, List.cons_append]; first | done | rfl, ?_⟩
        · intro w1 hE hd
          obtain rfl := IsV.eq (dep_at hd 0 rfl rfl rfl)
          clear hd
          go_wp2
          exact ⟨_, rfl, Grow.refl _, rfl⟩
        refine StepsS.cons ?_ fun v8 => ⟨_, _, by simp only [Act.put, List.setIfInBounds_toArray, List.set_cons_succ, List.set_cons_zero]; first | done | rfl, by simp only [List.nil_append, List.cons_append]; first | done | rfl, ?_⟩
        · intro w1 hE hd
          obtain rfl := IsV.eq (dep_at hd 0 rfl rfl rfl)
          obtain rfl := IsV.eq (dep_at hd 1 rfl rfl rfl)
          obtain rfl := IsV.eq (dep_at hd 2 rfl rfl rfl)
          clear hd
          go_wp2
          exact ⟨_, rfl, Grow.refl _, rfl⟩
        refine StepsS.cons ?_ fun v9 => ⟨_, _, by simp only [Act.put, List.setIfInBounds_toArray, List.set_cons_succ, List.set_cons_zero]; first | done | rfl, by simp only [List.nil_append, List.cons_append]; first | done | rfl, ?_⟩
        · intro w1 hE hd
          obtain rfl := IsV.eq (dep_at hd 0 rfl rfl rfl)
          obtain rfl := IsV.eq (dep_at hd 1 rfl rfl rfl)
          clear hd
          have hcq1 := hE.drew.at hcq
          go_wp2
          exact ⟨_, rfl, Grow.refl _, rfl⟩
        refine StepsS.cons ?_ fun v10 => ⟨_, _, by simp only [Act.put, List.setIfInBounds_toArray, List.set_cons_succ, List.set_cons_zero]; first | done | rfl, by simp only [List.nil_append, List.cons_append]; first | done | rfl, ?_⟩
        · intro w1 hE hd
          obtain rfl := IsV.eq (dep_at hd 0 rfl rfl rfl)
          obtain rfl := IsV.eq (dep_at hd 1 rfl rfl rfl)
          clear hd
          have hcv := run_convert_bs (P := Try.prog) 22 5 9 Try.underlying22 Try.underlying5 Try.underlying9 (hbq.grow hE.drew)
          go_wp2
          exact ⟨_, rfl, Grow.refl _, rfl⟩
        refine StepsS.cons ?_ fun v11 => ⟨_, _, by simp only [Act.put, List.setIfInBounds_toArray, List.set_cons_succ, List.set_cons_zero]; first | done | rfl, by simp only [List.nil_append, List.cons_append]; first | done | rfl, ?_⟩
        · intro w1 hE hd
          obtain rfl := IsV.eq (dep_at hd 0 rfl rfl rfl)
          obtain rfl := IsV.eq (dep_at hd 1 rfl rfl rfl)
          obtain rfl := IsV.eq (dep_at hd 2 rfl rfl rfl)
          clear hd
          go_wp2
          exact ⟨_, rfl, Grow.refl _, rfl⟩
        refine StepsS.cons ?_ fun v12 => ⟨_, _, by simp only [Act.put, List.setIfInBounds_toArray, List.set_cons_succ, List.set_cons_zero]; first | done | rfl, by simp only [List.nil_append, List.cons_append]; first | done | rfl, ?_⟩
        · intro w1 hE hd
          obtain rfl := IsV.eq (dep_at hd 0 rfl rfl rfl)
          obtain rfl := IsV.eq (dep_at hd 1 rfl rfl rfl)
          clear hd
          go_wp2
          exact ⟨_, rfl, Grow.refl _, rfl⟩
        refine StepsS.cons ?_ fun v13 => ⟨_, _, by simp only [Act.put, List.setIfInBounds_toArray, List.set_cons_succ, List.set_cons_zero]; first | done | rfl, by simp only [List.nil_append, List.cons_append]; first | done | rfl, ?_⟩
        · intro w1 hE hd
          obtain rfl := IsV.eq (dep_at hd 0 rfl rfl rfl)
          clear hd
          go_wp2
          exact ⟨_, rfl, Grow.refl _, rfl⟩
        trivial
      intro wR hwR
      refine FinS.cons ?_; rintro _ rfl; refine ⟨_, by simp only [Act.put, List.setIfInBounds_toArray, List.set_cons_succ, List.set_cons_zero]; first | done | rfl, ?_⟩
      refine FinS.cons ?_; rintro _ rfl; refine ⟨_, by simp only [Act.put, List.setIfInBounds_toArray, List.set_cons_succ, List.set_cons_zero]; first | done | rfl, ?_⟩
      refine FinS.cons ?_; rintro _ rfl; refine ⟨_, by simp only [Act.put, List.setIfInBounds_toArray, List.set_cons_succ, List.set_cons_zero]; first | done | rfl, ?_⟩
      refine FinS.cons ?_; rintro _ rfl; refine ⟨_, by simp only [Act.put, List.setIfInBounds_toArray, List.set_cons_succ, List.set_cons_zero]; first | done | rfl, ?_⟩
      refine FinS.cons fun v4 h4 => ⟨_, by simp only [Act.put, List.setIfInBounds_toArray, List.set_cons_succ, List.set_cons_zero]; first | done | rfl, ?_⟩
      refine FinS.cons ?_; rintro _ rfl; refine ⟨_, by simp only [Act.put, List.setIfInBounds_toArray, List.set_cons_succ, List.set_cons_zero]; first | done | rfl, ?_⟩
      refine FinS.cons ?_; rintro _ rfl; refine ⟨_, by simp only [Act.put, List.setIfInBounds_toArray, List.set_cons_succ, List.set_cons_zero]; first | done | rfl, ?_⟩
      refine FinS.cons ?_; rintro _ rfl; refine ⟨_, by simp only [Act.put, List.setIfInBounds_toArray, List.set_cons_succ, List.set_cons_zero]; first | done | rfl, ?_⟩
      refine FinS.cons ?_; rintro _ rfl; refine ⟨_, by simp only [Act.put, List.setIfInBounds_toArray, List.set_cons_succ, List.set_cons_zero]; first | done | rfl, ?_⟩
      refine FinS.cons ?_; rintro _ rfl; refine ⟨_, by simp only [Act.put, List.setIfInBounds_toArray, List.set_cons_succ, List.set_cons_zero]; first | done | rfl, ?_⟩
      refine FinS.cons ?_; rintro _ rfl; refine ⟨_, by simp only [Act.put, List.setIfInBounds_toArray, List.set_cons_succ, List.set_cons_zero]; first | done | rfl, ?_⟩
      refine FinS.cons ?_; rintro _ rfl; refine ⟨_, by simp only [Act.put, List.setIfInBounds_toArray, List.set_cons_succ, List.set_cons_zero]; first | done | rfl, ?_⟩
      refine FinS.cons ?_; rintro _ rfl; refine ⟨_, by simp only [Act.put, List.setIfInBounds_toArray, List.set_cons_succ, List.set_cons_zero]; first | done | rfl, ?_⟩
      refine FinS.cons ?_; rintro _ rfl; refine ⟨_, by simp only [Act.put, List.setIfInBounds_toArray, List.set_cons_succ, List.set_cons_zero]; first | done | rfl, ?_⟩
      first | show Exit.then _ _ _ _ _ | show Exit.inBlock _ _ _ _ _
      go_wp2
      go_ret
      exact ⟨rfl, hgall.trans hwR.drew⟩

set_option maxRecDepth 20000 in
set_option maxHeartbeats 3200000 in
theorem xorBack_walk (v : Value) (ls : List (List Int)) (k : Int) (w : World) (h : Bss w v ls) :
    Calls Try.prog 10 #[v, .int .i64 k] w fun e w' => e = .returned (.bool true) ∧ Grow w w' := by
  by_cases hr : rightB ls = true
  · by_cases hk : 0 ≤ k ∧ k < ls.length
    · obtain ⟨q, rfl⟩ := Int.eq_ofNat_of_zero_le hk.1
      exact xorBack_in v ls q w h (right_all hr).1 (right_all hr).2 hr (by omega)
    · have hl50 := (right_all hr).2
      obtain ⟨av, cv, rfl⟩ := h.form
      have hk' : k < 0 ∨ (0 ≤ k ∧ (ls.length : Int) ≤ k) := by omega
      clear hk
      generalize hn : ls.length = n at *
      clear hn
      rcases hk' with hk | ⟨hk, hk2⟩
      all_goals
        go_enter Try.func10, Try.ntmps10
        go_wp2_with fail
        refine (alive3_any _).mono ?_
        rintro e w9 ⟨rfl, hg0⟩
        go_wp2_with fail
        refine (hr ▸ right3_any _ ls _ (h.grow hg0)).mono ?_
        rintro e w0 ⟨rfl, rfl⟩
        go_wp2_with fail
        go_ret
        exact ⟨rfl, hg0⟩
  · rw [Bool.not_eq_true] at hr
    go_enter Try.func10, Try.ntmps10
    go_wp2_with fail
    refine (alive3_any _).mono ?_
    rintro e w9 ⟨rfl, hg0⟩
    go_wp2_with fail
    refine (hr ▸ right3_any _ ls _ (h.grow hg0)).mono ?_
    rintro e w0 ⟨rfl, rfl⟩
    go_wp2_with fail
    go_ret
    exact ⟨rfl, hg0⟩

end Go.Proofs.Ytjggiameajndgaa
