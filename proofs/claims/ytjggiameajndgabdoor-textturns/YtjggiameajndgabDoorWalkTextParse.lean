/-
  What text.Parse returns, of any text.
-/
import Derived.Test.YtjggiameajndgabDoorWalkTextDeed
import Derived.Test.YtjggiameajndgabDoorWalkModelW
namespace Go.Proofs.YtjggiameajndgabDoor
open Go.RowKit

set_option maxRecDepth 20000 in
set_option maxHeartbeats 800000 in
theorem parse_any (s : List UInt8) (w : World) (hs : s.length ≤ 140737488355328) (hlaid : Laid w) :
    Calls Tryd.prog 5 #[.string (str s)] w fun e w' => ∃ v, e = .returned (.tuple #[v, .int .i64 (parseP s).2]) ∧ DeedV w' v (parseP s).1 ∧ Grow w w' := by
  have hgA : Grow w (w.alloc (.cells #[.int .i64 0, .int .i64 0, .int .i64 0, .slice none 0 0] 24)) := Grow.alloc _ _
  have HR : Hid (Box4 (w.alloc (.cells #[.int .i64 0, .int .i64 0, .int .i64 0, .slice none 0 0] 24)) w.heap.size (.int .i64 0) (.int .i64 0) (.int .i64 0) (.slice none 0 0)) := Box4.new (heap_alloc_new _ _)
  have HP : Hid _ := parse_spl s
  go_enter Tryd.func5, Tryd.ntmps5
  go_wp2_with fail
  generalize w.alloc (.cells #[.int .i64 0, .int .i64 0, .int .i64 0, .slice none 0 0] 24) = wA at *
  obtain ⟨R, hR⟩ : ∃ R, R = w.heap.size := ⟨_, rfl⟩
  rw [← hR] at HR ⊢
  have hRw : w.heap.size ≤ R := by omega
  clear hR
  refine (splitN_any s _ (by omega)).mono ?_
  rintro e w1 ⟨v, rfl, hsl, hg1⟩
  have HSL : Hid (Sl StrV w1 v (spl 3 s)) := hsl
  have hpos := spl_pos 3 s
  have hlen : ∀ i, ((spl 3 s).getD i []).length ≤ 140737488355328 := fun i => by
    by_cases hi : i < (spl 3 s).length
    · have := spl_word_len 3 s ((spl 3 s).getD i []) (by simp [List.getD_eq_getElem?_getD, hi])
      omega
    · simp [List.getD_eq_getElem?_getD, Nat.le_of_not_lt hi]
  generalize hws : spl 3 s = ws at *
  clear hws
  obtain ⟨ao, cap, rfl, h1, h2, h3, h4⟩ := hsl
  obtain ⟨b, off, rfl, hc⟩ := h4 hpos
  have c0 := Sl.textAt hc 0 hpos
  rw [Nat.add_zero] at c0
  have ha0 := hlen 0
  have HLen : Hid _ := hlen
  have hcap : ¬ cap = 0 := by omega
  unfold maxLen at h2
  clear h4 hc hlen h3
  generalize hnl : ws.length = nl at *
  clear hnl
  obtain ⟨a0, e0⟩ : ∃ a, a = ws.getD 0 [] := ⟨_, rfl⟩
  rw [← e0] at c0 ha0
  have HA : Hid (a0 = ws.getD 0 []) := e0
  clear e0
  obtain ⟨q, hq⟩ : ∃ q, q = kindN a0 := ⟨_, rfl⟩
  obtain ⟨r, hr⟩ : ∃ r, r = decide (a0 = wrW ∨ a0 = swW) := ⟨_, rfl⟩
  have hlk : ∀ v w, OwnM 9 3 2 kindsD v w → (Instr.lookup 37 v (.string (str a0)) true).run Tryd.prog w = .ok (.tuple #[.int .i64 q, .bool r]) w := fun v w h => by
    rw [hq, hr]; exact kinds_look h a0 (by unfold maxLen; omega)
  have HQ : Hid (q = kindN a0) := hq
  have HB : Hid (r = decide (a0 = wrW ∨ a0 = swW)) := hr
  clear hq hr
  go_wp2_with fail
  refine wp_region_stable Grow [OwnM 9 3 2 kindsD, IsV (.slice (some ⟨b, off, none⟩) nl cap), IsV (.pointer (some ⟨b, off, none⟩)), IsV (.string (str a0)), IsV (.tuple #[.int .i64 q, .bool r]), IsV (.tuple #[.int .i64 q, .bool r]), IsV (.int .i64 q), IsV (.bool r), IsV (.int .i64 q), IsV (.bool r)] (by kernel_rfl) (by kernel_rfl) rfl Grow.refl (fun _ _ _ => Grow.trans) ?_ ?_ ?_
  · repeat (refine List.forall_mem_cons.2 ⟨by first | exact IsV.stable _ | exact OwnM.stable _, ?_⟩)
    exact fun R hR => nomatch hR
  · skip
    refine StepsS.cons ?_ fun v0 => ⟨_, _, by simp only [Act.put, List.setIfInBounds_toArray, List.set_cons_succ, List.set_cons_zero]; first | done | rfl, by simp only [List.nil_append]; first | done | rfl, ?_⟩
    · intro w1 hE hd
      clear hd
      go_wp2_with fail
      refine (kinds_any _).mono ?_
      rintro e w4 ⟨r', rfl, hr', hg4⟩
      go_wp2_with fail
      exact ⟨_, rfl, hg4, hr'⟩
    refine StepsS.cons ?_ fun v1 => ⟨_, _, by simp only [Act.put, List.setIfInBounds_toArray, List.set_cons_succ, List.set_cons_zero]; first | done | rfl, by simp only [List.nil_append, List.cons_append]; first | done | rfl, ?_⟩
    · intro w1 hE hd
      clear hd
      go_wp2
      exact ⟨_, rfl, Grow.refl _, rfl⟩
    refine StepsS.cons ?_ fun v2 => ⟨_, _, by simp only [Act.put, List.setIfInBounds_toArray, List.set_cons_succ, List.set_cons_zero]; first | done | rfl, by simp only [List.nil_append, List.cons_append]; first | done | rfl, ?_⟩
    · intro w1 hE hd
      obtain rfl := IsV.eq (dep_at hd 0 rfl rfl rfl)
      clear hd
      go_wp2
      exact ⟨_, rfl, Grow.refl _, rfl⟩
    refine StepsS.cons ?_ fun v3 => ⟨_, _, by simp only [Act.put, List.setIfInBounds_toArray, List.set_cons_succ, List.set_cons_zero]; first | done | rfl, by simp only [List.nil_append, List.cons_append]; first | done | rfl, ?_⟩
    · intro w1 hE hd
      obtain rfl := IsV.eq (dep_at hd 0 rfl rfl rfl)
      clear hd
      have hcq := hE.drew.at c0
      go_wp2
      exact ⟨_, rfl, Grow.refl _, rfl⟩
    refine StepsS.cons ?_ fun v4 => ⟨_, _, by simp only [Act.put, List.setIfInBounds_toArray, List.set_cons_succ, List.set_cons_zero]; first | done | rfl, by simp only [List.nil_append, List.cons_append]; first | done | rfl, ?_⟩
    · intro w1 hE hd
      have d0 := dep_at hd 0 rfl rfl rfl
      obtain rfl := IsV.eq (dep_at hd 1 rfl rfl rfl)
      clear hd
      have hlq := hlk _ _ d0
      go_wp2
      exact ⟨_, rfl, Grow.refl _, rfl⟩
    refine StepsS.cons ?_ fun v5 => ⟨_, _, by simp only [Act.put, List.setIfInBounds_toArray, List.set_cons_succ, List.set_cons_zero]; first | done | rfl, by simp only [List.nil_append, List.cons_append]; first | done | rfl, ?_⟩
    · intro w1 hE hd
      obtain rfl := IsV.eq (dep_at hd 0 rfl rfl rfl)
      clear hd
      go_wp2
      exact ⟨_, rfl, Grow.refl _, rfl⟩
    refine StepsS.cons ?_ fun v6 => ⟨_, _, by simp only [Act.put, List.setIfInBounds_toArray, List.set_cons_succ, List.set_cons_zero]; first | done | rfl, by simp only [List.nil_append, List.cons_append]; first | done | rfl, ?_⟩
    · intro w1 hE hd
      obtain rfl := IsV.eq (dep_at hd 0 rfl rfl rfl)
      clear hd
      go_wp2
      exact ⟨_, rfl, Grow.refl _, rfl⟩
    refine StepsS.cons ?_ fun v7 => ⟨_, _, by simp only [Act.put, List.setIfInBounds_toArray, List.set_cons_succ, List.set_cons_zero]; first | done | rfl, by simp only [List.nil_append, List.cons_append]; first | done | rfl, ?_⟩
    · intro w1 hE hd
      obtain rfl := IsV.eq (dep_at hd 0 rfl rfl rfl)
      clear hd
      go_wp2
      exact ⟨_, rfl, Grow.refl _, rfl⟩
    refine StepsS.cons ?_ fun v8 => ⟨_, _, by simp only [Act.put, List.setIfInBounds_toArray, List.set_cons_succ, List.set_cons_zero]; first | done | rfl, by simp only [List.nil_append, List.cons_append]; first | done | rfl, ?_⟩
    · intro w1 hE hd
      obtain rfl := IsV.eq (dep_at hd 0 rfl rfl rfl)
      clear hd
      go_wp2
      exact ⟨_, rfl, Grow.refl _, rfl⟩
    refine StepsS.cons ?_ fun v9 => ⟨_, _, by simp only [Act.put, List.setIfInBounds_toArray, List.set_cons_succ, List.set_cons_zero]; first | done | rfl, by simp only [List.nil_append, List.cons_append]; first | done | rfl, ?_⟩
    · intro w1 hE hd
      obtain rfl := IsV.eq (dep_at hd 0 rfl rfl rfl)
      clear hd
      go_wp2
      exact ⟨_, rfl, Grow.refl _, rfl⟩
    trivial
  intro wR hwR
  refine FinS.cons fun v0 h0 => ⟨_, by simp only [Act.put, List.setIfInBounds_toArray, List.set_cons_succ, List.set_cons_zero]; first | done | rfl, ?_⟩
  refine FinS.cons ?_; rintro _ rfl; refine ⟨_, by simp only [Act.put, List.setIfInBounds_toArray, List.set_cons_succ, List.set_cons_zero]; first | done | rfl, ?_⟩
  refine FinS.cons ?_; rintro _ rfl; refine ⟨_, by simp only [Act.put, List.setIfInBounds_toArray, List.set_cons_succ, List.set_cons_zero]; first | done | rfl, ?_⟩
  refine FinS.cons ?_; rintro _ rfl; refine ⟨_, by simp only [Act.put, List.setIfInBounds_toArray, List.set_cons_succ, List.set_cons_zero]; first | done | rfl, ?_⟩
  refine FinS.cons ?_; rintro _ rfl; refine ⟨_, by simp only [Act.put, List.setIfInBounds_toArray, List.set_cons_succ, List.set_cons_zero]; first | done | rfl, ?_⟩
  refine FinS.cons ?_; rintro _ rfl; refine ⟨_, by simp only [Act.put, List.setIfInBounds_toArray, List.set_cons_succ, List.set_cons_zero]; first | done | rfl, ?_⟩
  refine FinS.cons ?_; rintro _ rfl; refine ⟨_, by simp only [Act.put, List.setIfInBounds_toArray, List.set_cons_succ, List.set_cons_zero]; first | done | rfl, ?_⟩
  refine FinS.cons ?_; rintro _ rfl; refine ⟨_, by simp only [Act.put, List.setIfInBounds_toArray, List.set_cons_succ, List.set_cons_zero]; first | done | rfl, ?_⟩
  refine FinS.cons ?_; rintro _ rfl; refine ⟨_, by simp only [Act.put, List.setIfInBounds_toArray, List.set_cons_succ, List.set_cons_zero]; first | done | rfl, ?_⟩
  refine FinS.cons ?_; rintro _ rfl; refine ⟨_, by simp only [Act.put, List.setIfInBounds_toArray, List.set_cons_succ, List.set_cons_zero]; first | done | rfl, ?_⟩
  first | show Exit.then _ _ _ _ _ | show Exit.inBlock _ _ _ _ _
  have hg2 := (hgA.trans hg1).trans hwR.drew
  have HR2 : Hid (Box4 wR R _ _ _ _) := (HR.out.grow hg1).grow hwR.drew
  have HSL2 : Hid (Sl StrV wR (.slice (some ⟨b, off, none⟩) nl cap) ws) := Sl.stays (fun _ _ _ _ h _ => h) _ _ _ _ HSL.out hwR.drew
  clear HR HSL hgA hg1 hwR c0 hlk
  cases r
  · have hp : parseP s = noP 1 := by
      have h := HB.out
      rw [HA.out] at h
      have h' := of_decide_eq_false h.symm
      rw [HP.out, if_neg (fun e => h' (.inl e)), if_neg (fun e => h' (.inr e))]
    have HPP : Hid (parseP s = noP 1) := hp
    have HE : Hid (_ ∧ _) := Box4.put HR2.out hg2 hRw (.int .i64 0) (.int .i64 0) (.int .i64 0) (.slice none 0 0)
    obtain ⟨e0, e1, e2, e3, ef⟩ := HR2.out
    clear hp
    go_wp2_with fail
    obtain ⟨⟨z0, z1, z2, z3, -⟩, hgE⟩ := HE.out
    refine bodyPost_ret (results_four1 Tryd.results5 _ _ R _ rfl Tryd.underlying24 rfl Tryd.sizeD z0 z1 z2 z3) rfl ?_
    rw [HPP.out]
    exact ⟨_, rfl, ⟨_, rfl, Bs.nil _⟩, hgE⟩
  · have hp : (q = 1 ∨ q = 2) ∧ parseP s = wordsP q ws := by
      have h := of_decide_eq_true HB.out.symm
      have hq := HQ.out
      have hA := HA.out
      rcases h with h | h
      · subst h
        refine ⟨.inl (by rw [hq]; rfl), ?_⟩
        rw [HP.out, ← hA, if_pos rfl, hq]; rfl
      · subst h
        refine ⟨.inr (by rw [hq]; rfl), ?_⟩
        rw [HP.out, ← hA, if_neg (by decide), if_pos rfl, hq]; rfl
    obtain ⟨hk, hPQ⟩ := hp
    have HPQ : Hid (parseP s = wordsP q ws) := hPQ
    clear hPQ HQ HB HA HP
    go_wp2_with fail
    refine (parseDeed_any q hk _ ws _ HSL2.out HLen.out (hlaid.grow hg2)).mono ?_
    rintro e w3 ⟨u, ⟨yk, yn, ym, yd⟩, ok, rfl, ⟨dv, rfl, hown, hoct⟩, hg3, hT, hF⟩
    dsimp only at hown hoct
    have HT : Hid _ := hT
    have HF : Hid _ := hF
    clear hT hF hk
    obtain ⟨ao, cp, rfl⟩ := own_form hown
    have hs3 : R < wR.heap.size := HR2.out.lt
    have hnR : (Value.slice ao yd.length cp).ownBlock ≠ some R := fun e => by have := (hown.lt _ e).1; omega
    have HO : Hid (w3.ownsRow wR.heap.size 5 1 (.slice ao yd.length cp) yd.length (yd.map (Value.int .u8))) := hown
    have hg4 : Grow w3 (w3.alloc (.cells #[.int .i64 yk, .int .i64 yn, .int .i64 ym, .slice ao yd.length cp] 24)) := Grow.alloc _ _
    have hbD : Box4 (w3.alloc (.cells #[.int .i64 yk, .int .i64 yn, .int .i64 ym, .slice ao yd.length cp] 24)) w3.heap.size (.int .i64 yk) (.int .i64 yn) (.int .i64 ym) (.slice ao yd.length cp) := Box4.new (heap_alloc_new _ _)
    have HD : Hid (Box4 _ w3.heap.size _ _ _ _) := hbD
    have HR4 : Hid (Box4 _ R _ _ _ _) := (HR2.out.grow hg3).grow hg4
    have HO4 : Hid (World.ownsRow _ wR.heap.size 5 1 (.slice ao yd.length cp) yd.length (yd.map (Value.int .u8))) := grow_own HO.out hg4
    have hgW := (hg2.trans hg3).trans hg4
    clear hown HR2 HSL2 HLen hg2 hg3 hg4 HO hbD
    cases ok
    · have HPP : Hid (parseP s = noP 2) := HPQ.out.trans (HF.out rfl)
      have HE : Hid (_ ∧ _) := Box4.put HR4.out hgW hRw (.int .i64 0) (.int .i64 0) (.int .i64 0) (.slice none 0 0)
      obtain ⟨e0, e1, e2, e3, ef⟩ := HR4.out
      obtain ⟨f0, f1, f2, f3, ff⟩ := HD.out
      clear HT HF HPQ
      go_wp2_with fail
      obtain ⟨⟨z0, z1, z2, z3, -⟩, hgE⟩ := HE.out
      refine bodyPost_ret (results_four1 Tryd.results5 _ _ R _ rfl Tryd.underlying24 rfl Tryd.sizeD z0 z1 z2 z3) rfl ?_
      rw [HPP.out]
      exact ⟨_, rfl, ⟨_, rfl, Bs.nil _⟩, hgE⟩
    · have HPP : Hid (parseP s = chkP ⟨yk, yn, ym, yd⟩) := HPQ.out.trans (HT.out rfl)
      obtain ⟨f0, f1, f2, f3, ff⟩ := HD.out
      clear HT HF HPQ
      go_wp2_with fail
      generalize w3.alloc (.cells #[.int .i64 yk, .int .i64 yn, .int .i64 ym, .slice ao yd.length cp] 24) = W4 at *
      generalize w3.heap.size = D at *
      refine (modelWrong_any _ ⟨yk, yn, ym, yd⟩ _ ⟨_, rfl, Bs.of_own HO4.out hoct⟩).mono ?_
      rintro e w5 ⟨rfl, hg5⟩
      obtain ⟨E, hE⟩ : ∃ E, E = wrongE ⟨yk, yn, ym, yd⟩ := ⟨_, rfl⟩
      rw [← hE]
      have HEE : Hid (E = wrongE ⟨yk, yn, ym, yd⟩) := hE
      clear hE f0 f1 f2 f3 ff
      have hgT := hgW.trans hg5
      obtain ⟨j0, j1, j2, j3, jf⟩ := HD.out.grow hg5
      have hR9 := HR4.out.grow hg5
      by_cases hw : E = 0
      · subst hw
        have HP4 : Hid (parseP s = (⟨yk, yn, ym, yd⟩, 0)) := HPP.out.trans (if_pos HEE.out.symm)
        have HE : Hid (_ ∧ _) := Box4.put hR9 hgT hRw (.int .i64 yk) (.int .i64 yn) (.int .i64 ym) (.slice ao yd.length cp)
        have HO9 : Hid _ := own_set' (own_set' (own_set' (own_set' (grow_own HO4.out hg5) (p := ⟨R, 0, none⟩) hnR (.int .i64 yk)) (p := ⟨R, 1, none⟩) hnR (.int .i64 yn)) (p := ⟨R, 2, none⟩) hnR (.int .i64 ym)) (p := ⟨R, 3, none⟩) hnR (.slice ao yd.length cp)
        obtain ⟨e0, e1, e2, e3, ef⟩ := hR9
        clear HPP HEE HD HR4 HO4
        go_wp2_with fail
        obtain ⟨⟨z0, z1, z2, z3, -⟩, hgE⟩ := HE.out
        refine bodyPost_ret (results_four1 Tryd.results5 _ _ R _ rfl Tryd.underlying24 rfl Tryd.sizeD z0 z1 z2 z3) rfl ?_
        rw [HP4.out]
        exact ⟨_, rfl, ⟨_, rfl, Bs.of_own HO9.out hoct⟩, hgE⟩
      · have hw' : (E != 0) = true := by simpa using hw
        have HP4 : Hid (parseP s = noP E) := HPP.out.trans (by have h := HEE.out; rw [h] at hw ⊢; exact if_neg hw)
        have HE : Hid (_ ∧ _) := Box4.put hR9 hgT hRw (.int .i64 0) (.int .i64 0) (.int .i64 0) (.slice none 0 0)
        obtain ⟨e0, e1, e2, e3, ef⟩ := hR9
        clear HPP HEE HD HR4 HO4
        go_wp2_with fail
        obtain ⟨⟨z0, z1, z2, z3, -⟩, hgE⟩ := HE.out
        refine bodyPost_ret (results_four1 Tryd.results5 _ _ R _ rfl Tryd.underlying24 rfl Tryd.sizeD z0 z1 z2 z3) rfl ?_
        rw [HP4.out]
        exact ⟨_, rfl, ⟨_, rfl, Bs.nil _⟩, hgE⟩

end Go.Proofs.YtjggiameajndgabDoor
