import Derived.Test.YtjggiameajndgadGreatDoorJoin16
/-
  What the program's mend.Stripe returns: an array of the call's own. Nothing old turns.
-/
namespace Go.Proofs.YtjggiameajndgadGreatDoor
open Go.RowKit

/-- A row of four, behind n, of the call's own. -/
def New4 (n : Nat) (cs : List (List Int)) (v : Value) (w : World) : Prop := ∃ r, n ≤ r ∧ v = .slice (some ⟨r, 0, none⟩) 4 4 ∧ DRow r cs w
theorem New4.stable {n : Nat} (cs : List (List Int)) : ∀ (v : Value) (x y : World), New4 n cs v x → Grow x y → New4 n cs v y := fun _ _ _ ⟨r, h1, h2, h3⟩ hg => ⟨r, h1, h2, h3.grow hg⟩

/-- The result's two cells, set. -/
theorem mend_end {w wr : World} {q : Nat} {dv iv u0 u1 : Value} {bs : List Nat} {a : ArrP} {B : Nat} (hB : wr.heap[q]? = some (.cells #[u0, u1] 27 (0, 0))) (hO : OwnA B bs wr dv iv a) (hg : Grow w wr) (hq : w.heap.size ≤ q) (hb : w.heap.size ≤ B) :
    Hid (OwnA w.heap.size bs ((wr.setCell ⟨q, 0, none⟩ dv).setCell ⟨q, 1, none⟩ iv) dv iv a ∧ Grow w ((wr.setCell ⟨q, 0, none⟩ dv).setCell ⟨q, 1, none⟩ iv)) ∧
    ((wr.setCell ⟨q, 0, none⟩ dv).setCell ⟨q, 1, none⟩ iv).cell? ⟨q, 0, none⟩ = some dv ∧ ((wr.setCell ⟨q, 0, none⟩ dv).setCell ⟨q, 1, none⟩ iv).cell? ⟨q, 1, none⟩ = some iv := by
  have h1 := two_set0 (z := dv) hB
  have h2 := two_set1 (z := iv) h1
  exact ⟨⟨((hO.k4 (K4.set hB)).k4 (K4.set h1)).low hb, (hg.set hq _).set hq _⟩, two_at0 h2, two_at1 h2⟩

set_option maxRecDepth 20000 in
set_option maxHeartbeats 6400000 in
theorem mendStripe_any (v : Value) (a : ArrP) (s : Int) (w : World) (h : ArrV w v a) (ha : Whole a) (h8 : ∀ d s, (cellAt a d s).length ≤ 8) (hI : Few a) :
    Calls Tryz.prog 22 #[v, .int .i64 s] w fun e w' => ∃ bs dv iv, e = .returned (.tuple #[.agg #[dv, iv], .int .i64 (mendN a s), .int .i64 (mendE a s)]) ∧ OwnA w.heap.size bs w' dv iv (mendL a s) ∧ Grow w w' := by
  have harr := h
  obtain ⟨a1, n1, c1, a2, n2, c2, rfl⟩ := h.form
  clear h
  obtain ⟨W, hW⟩ : ∃ W, W = (w.alloc (.cells #[.slice a1 n1 c1, .slice a2 n2 c2] 27)).alloc (.cells #[.slice none 0 0, .slice none 0 0] 27) := ⟨_, rfl⟩
  have hgW : Grow w W := by rw [hW]; exact (Grow.alloc _ _).trans (Grow.alloc _ _)
  have H1 : W.heap[w.heap.size]? = some (.cells #[.slice a1 n1 c1, .slice a2 n2 c2] 27 (0, 0)) := by rw [hW]; exact (heap_alloc_old _ _ (by simp)).trans (heap_alloc_new w _)
  have HR : Hid (W.heap[w.heap.size + 1]? = some (.cells #[.slice none 0 0, .slice none 0 0] 27 (0, 0))) := by rw [Hid, hW]; exact heap_alloc2_new w _ _
  have k0 := two_at0 H1
  have k1 := two_at1 H1
  have HA : Hid (ArrV w (.agg #[.slice a1 n1 c1, .slice a2 n2 c2]) a ∧ Whole a ∧ (∀ d s, (cellAt a d s).length ≤ 8)) := ⟨harr, ha, h8⟩
  have hOw := own_any (.agg #[.slice a1 n1 c1, .slice a2 n2 c2]) a W (harr.grow hgW) ha h8 hI
  clear harr ha h8 hI H1
  go_enter Tryz.func22, Tryz.ntmps22
  go_wp2_with fail
  rw [← hW]
  clear hW
  refine hOw.mono ?_
  rintro e w1 ⟨bs, dv, iv, rfl, hO, hg1⟩
  clear hOw
  obtain ⟨⟨x1, x2, x3, rfl⟩, y1, y2, y3, rfl⟩ := hO.forms
  obtain ⟨q, hq⟩ : ∃ q, q = w1.heap.size := ⟨_, rfl⟩
  obtain ⟨W2, hW2⟩ : ∃ W2, W2 = w1.alloc (.cells #[.slice x1 x2 x3, .slice y1 y2 y3] 27) := ⟨_, rfl⟩
  have hg2 : Grow w1 W2 := by rw [hW2]; exact Grow.alloc _ _
  have HQ : Hid (W2.heap[q]? = some (.cells #[.slice x1 x2 x3, .slice y1 y2 y3] 27 (0, 0)) ∧ w.heap.size + 1 < q) := ⟨by rw [hW2, hq]; exact heap_alloc_new w1 _, by have := heap_lt HR.out; have := hg1.size; omega⟩
  have HO : Hid (OwnA W.heap.size bs W2 (.slice x1 x2 x3) (.slice y1 y2 y3) a) := hO.k4 hg2.k4
  have hg02 := hg1.trans hg2
  have hgw := hgW.trans hg02
  have HR2 : Hid (W2.heap[w.heap.size + 1]? = some (.cells #[.slice none 0 0, .slice none 0 0] 27 (0, 0))) := hg02.block' HR.out
  have HB : Hid (w.heap.size ≤ W.heap.size) := hgW.size
  have hTh := there_any 0 s W2
  have j0 := hg02.at k0
  have j1 := hg02.at k1
  clear hO hg1 hg2 k0 k1 HR hg02 hgW
  by_cases hs : s < 0 ∨ 2 < s
  · have HE : Hid ((mendN a s : Int) = 0 ∧ mendE a s = 3 ∧ mendL a s = a) := ⟨by rw [mendN, if_pos hs]; rfl, if_pos hs, if_pos (.inl hs)⟩
    rw [show thereB 0 s = false from by simp [thereB]; omega] at hTh
    clear hs
    go_wp2_with fail
    rw [← hW2, ← hq]
    clear hW2 hq
    refine hTh.mono ?_
    rintro e w3 ⟨rfl, rfl⟩
    obtain ⟨HF, z0, z1⟩ := mend_end HR2.out HO.out hgw (by omega) HB.out
    have b0 := two_at0 HQ.out.1
    have b1 := two_at1 HQ.out.1
    have r0 := two_at0 HR2.out
    have r1 := two_at1 HR2.out
    have f0 : w3.frozen? ⟨w.heap.size + 1, 0, none⟩ = false := frozen_of_row w3 _ 0 _ _ HR2.out
    have f1 : w3.frozen? ⟨w.heap.size + 1, 1, none⟩ = false := frozen_of_row w3 _ 1 _ _ HR2.out
    go_wp2
    refine bodyPost_ret (results_two2 Tryz.results22 _ _ (w.heap.size + 1) _ rfl Tryz.underlying27 rfl Tryz.sizeA z0 z1) rfl ?_
    exact ⟨_, _, _, ret_arr3 HE.out.1.symm HE.out.2.1.symm, by rw [HE.out.2.2]; exact HF.out.1, HF.out.2⟩
  · obtain ⟨s, rfl⟩ := Int.eq_ofNat_of_zero_le (show 0 ≤ s by omega)
    have hs3 : s < 3 := by omega
    have HE : Hid (mendN a (s : Int) = badN a s ∧ mendE a (s : Int) = dataE (cellsL a s) s ∧ (dataE (cellsL a s) s ≠ 0 → mendL a (s : Int) = a) ∧ (dataE (cellsL a s) s = 0 → mendL a (s : Int) = putTo a (makeL (dataL (cellsL a s) s) s) s 4)) :=
      ⟨(if_neg hs).trans (by simp), (if_neg hs).trans (by simp), fun h => if_pos (.inr (by simpa using h)), fun h => (if_neg (by simp only [Int.toNat_natCast]; exact fun h' => h'.elim hs (fun h' => h' h))).trans (by simp)⟩
    rw [show thereB 0 (s : Int) = true from by simp [thereB]; omega] at hTh
    have hl4 : (cellsL a s).length = 4 := by rw [cellsL_length, HA.out.2.1.1]
    have HL : Hid ((cellsL a s).length = 4) := hl4
    have hCl := stripeCells_row (.agg #[.slice a1 n1 c1, .slice a2 n2 c2]) a s W2 (HA.out.1.grow hgw) HA.out.2.1 HA.out.2.2 hs3
    clear hs
    go_wp2_with fail
    rw [← hW2, ← hq]
    clear hW2 hq
    refine hTh.mono ?_
    rintro e w3 ⟨rfl, rfl⟩
    clear hTh
    go_wp2_with fail
    refine hCl.mono ?_
    rintro e w4 ⟨rc, rfl, hrc, hg4⟩
    have hcB : Bss w4 rc (cellsL a s) := hrc.done
    obtain ⟨ac, cc, rfl⟩ := Sl.form hcB
    rw [hl4] at hcB ⊢
    clear hCl hrc j0 j1 hl4
    go_wp2_with fail
    refine (stripeBad_any _ _ s _ hcB HL.out hs3).mono ?_
    rintro e w5 ⟨rb, rfl, hrb, hg5⟩
    obtain ⟨ab, cb, rfl, hb1, hb2⟩ := hrb.form'
    have hlen : (ints (badL (cellsL a s) s)).length = badN a s := by simp [ints, badN]
    rw [hlen] at hb1 ⊢
    clear hrb hlen
    go_wp2_with fail
    refine (stripeData_bss _ _ s _ none (Bss.grow hcB hg5) (fun _ h => nomatch h) HL.out hs3).mono ?_
    rintro e w6 ⟨rd, rfl, hrd, hg6⟩
    have hdB : Bss w6 rd (dataL (cellsL a s) s) := Sl.off hrd.done
    have hg36 := (hg4.trans hg5).trans hg6
    have hgw6 := hgw.trans hg36
    have HQ6 : Hid (w6.heap[q]? = some (.cells #[.slice x1 x2 x3, .slice y1 y2 y3] 27 (0, 0)) ∧ w.heap.size + 1 < q) := ⟨hg36.block' HQ.out.1, HQ.out.2⟩
    have HR6 : Hid (w6.heap[w.heap.size + 1]? = some (.cells #[.slice none 0 0, .slice none 0 0] 27 (0, 0))) := hg36.block' HR2.out
    have HO6 : Hid (OwnA W.heap.size bs w6 (.slice x1 x2 x3) (.slice y1 y2 y3) a) := HO.out.k4 hg36.k4
    clear hcB hrd hg4 hg5 hg6 HQ HR2 HO hg36
    have b0 := two_at0 HQ6.out.1
    have b1 := two_at1 HQ6.out.1
    by_cases hde : dataE (cellsL a s) s = 0
    · have hdb := dataL_blocks hde
      have hdl := dataL_length hde
      rw [HL.out] at hdl
      have Hf : Hid (mendN a (s : Int) = badN a s ∧ mendE a (s : Int) = 0 ∧ mendL a (s : Int) = putTo a (makeL (dataL (cellsL a s) s) s) s 4) := ⟨HE.out.1, HE.out.2.1.trans hde, HE.out.2.2.2 hde⟩
      have HCL : Hid ((makeL (dataL (cellsL a s) s) (s : Int)).length = 4) := by rw [Hid, makeL_length, hdl]
      obtain ⟨d1, d2, rfl⟩ := Sl.form hdB
      have HMk : Hid (∀ w', Grow w6 w' → Calls Tryz.prog 43 #[.slice d1 (dataL (cellsL a s) s).length d2, .int .i64 s] w' fun e w'' => e = .returned (.slice (some ⟨w'.heap.size, 0, none⟩) 4 4) ∧ DRow w'.heap.size (makeL (dataL (cellsL a s) s) s) w'' ∧ Grow w' w'') := fun w' hg => stripeMake_own _ _ s w' (hdB.grow hg) hdl hs3 hdb
      clear HE hdB hdb
      rw [hdl] at HMk ⊢
      clear hdl
      generalize makeL (dataL (cellsL a s) s) (s : Int) = cs at *
      generalize dataE (cellsL a s) s = E at *
      subst hde
      generalize badN a s = bn at *
      go_wp2
      refine wp_region_wait [_, _, _, _, _, _] _ rfl Grow [IsV (.pointer (some ⟨q, 0, none⟩)), IsV (.slice x1 x2 x3), IsV (.int .i64 s), IsV (.slice d1 4 d2), IsV (.int .i64 s), New4 w6.heap.size cs] (by kernel_rfl) (by kernel_rfl) (by kernel_rfl) rfl Grow.refl (fun _ _ _ => Grow.trans) ?_ ?_ ?_
      · repeat (refine List.forall_mem_cons.2 ⟨by first | exact IsV.stable _ | exact New4.stable _, ?_⟩)
        exact fun R hR => nomatch hR
      · skip
        refine StepsS.cons ?_ fun v0 => ⟨_, _, by simp only [Act.put, List.setIfInBounds_toArray, List.set_cons_succ, List.set_cons_zero]; first | done | rfl, by simp only [List.nil_append]; first | done | rfl, ?_⟩
        · intro w1 hE hd
          clear hd
          go_wp2
          exact ⟨_, rfl, Grow.refl _, rfl⟩
        refine StepsS.cons ?_ fun v1 => ⟨_, _, by simp only [Act.put, List.setIfInBounds_toArray, List.set_cons_succ, List.set_cons_zero]; first | done | rfl, by simp only [List.nil_append, List.cons_append]; first | done | rfl, ?_⟩
        · intro w1 hE hd
          obtain rfl := IsV.eq (dep_at hd 0 rfl rfl rfl)
          clear hd
          have q0 := hE.drew.at b0
          go_wp2
          exact ⟨_, rfl, Grow.refl _, rfl⟩
        refine StepsS.cons ?_ fun v2 => ⟨_, _, by simp only [Act.put, List.setIfInBounds_toArray, List.set_cons_succ, List.set_cons_zero]; first | done | rfl, by simp only [List.nil_append, List.cons_append]; first | done | rfl, ?_⟩
        · intro w1 hE hd
          clear hd
          go_wp2
          exact ⟨_, rfl, Grow.refl _, rfl⟩
        refine StepsS.cons ?_ fun v3 => ⟨_, _, by simp only [Act.put, List.setIfInBounds_toArray, List.set_cons_succ, List.set_cons_zero]; first | done | rfl, by simp only [List.nil_append, List.cons_append]; first | done | rfl, ?_⟩
        · intro w1 hE hd
          clear hd
          go_wp2
          exact ⟨_, rfl, Grow.refl _, rfl⟩
        refine StepsS.cons ?_ fun v4 => ⟨_, _, by simp only [Act.put, List.setIfInBounds_toArray, List.set_cons_succ, List.set_cons_zero]; first | done | rfl, by simp only [List.nil_append, List.cons_append]; first | done | rfl, ?_⟩
        · intro w1 hE hd
          clear hd
          go_wp2
          exact ⟨_, rfl, Grow.refl _, rfl⟩
        refine StepsS.cons ?_ fun v5 => ⟨_, _, by simp only [Act.put, List.setIfInBounds_toArray, List.set_cons_succ, List.set_cons_zero]; first | done | rfl, by simp only [List.nil_append, List.cons_append]; first | done | rfl, ?_⟩
        · intro w1 hE hd
          obtain rfl := IsV.eq (dep_at hd 0 rfl rfl rfl)
          obtain rfl := IsV.eq (dep_at hd 1 rfl rfl rfl)
          clear hd
          go_wp2_with fail
          refine (HMk.out _ hE.drew).mono ?_
          rintro e w5 ⟨rfl, hr, hg5⟩
          go_wp2_with fail
          exact ⟨_, rfl, hg5, _, hE.drew.size, rfl, hr⟩
        trivial
      intro wR hwR
      refine FinS.cons ?_; rintro _ rfl; refine ⟨_, by simp only [Act.put, List.setIfInBounds_toArray, List.set_cons_succ, List.set_cons_zero]; first | done | rfl, ?_⟩
      refine FinS.cons ?_; rintro _ rfl; refine ⟨_, by simp only [Act.put, List.setIfInBounds_toArray, List.set_cons_succ, List.set_cons_zero]; first | done | rfl, ?_⟩
      refine FinS.cons ?_; rintro _ rfl; refine ⟨_, by simp only [Act.put, List.setIfInBounds_toArray, List.set_cons_succ, List.set_cons_zero]; first | done | rfl, ?_⟩
      refine FinS.cons ?_; rintro _ rfl; refine ⟨_, by simp only [Act.put, List.setIfInBounds_toArray, List.set_cons_succ, List.set_cons_zero]; first | done | rfl, ?_⟩
      refine FinS.cons ?_; rintro _ rfl; refine ⟨_, by simp only [Act.put, List.setIfInBounds_toArray, List.set_cons_succ, List.set_cons_zero]; first | done | rfl, ?_⟩
      refine FinS.cons fun v5 h5 => ⟨_, by simp only [Act.put, List.setIfInBounds_toArray, List.set_cons_succ, List.set_cons_zero]; first | done | rfl, ?_⟩
      show wpList _ _ _ _ _ _
      obtain ⟨r, hrn, rfl, hrow⟩ := h5
      have hgR : Grow w6 wR := hwR.drew
      have HOR : Hid (OwnA W.heap.size bs wR (.slice x1 x2 x3) (.slice y1 y2 y3) a) := HO6.out.k4 hgR.k4
      have hPut := mendPut_any _ bs _ _ a s r cs wR HOR.out hrow (fun hm => by have := HO6.out.disks.lt r hm; omega) HCL.out hs3
      have hbq := hgR.block' HQ6.out.1
      have hbr := hgR.block' HR6.out
      have hgwR := hgw6.trans hgR
      clear HMk hwR hrow hrn b0 b1
      go_wp2_with fail
      refine hPut.mono ?_
      rintro e w8 ⟨⟨r8, rfl⟩, hO8, hG8⟩
      have HQ8 : w8.heap[q]? = some (.cells #[.slice x1 x2 x3, .slice y1 y2 y3] 27 (0, 0)) := (hG8.block _ (heap_lt hbq) (HOR.out.other hbq (by decide))).trans hbq
      have HR8 : w8.heap[w.heap.size + 1]? = some (.cells #[.slice none 0 0, .slice none 0 0] 27 (0, 0)) := (hG8.block _ (heap_lt hbr) (HOR.out.other hbr (by decide))).trans hbr
      have hgw8 : Grow w w8 := hgwR.thenIn hG8 (fun b hb => by have := HOR.out.disks.base b hb; have := HB.out; omega)
      have b0 := two_at0 HQ8
      have b1 := two_at1 HQ8
      obtain ⟨HF, z0, z1⟩ := mend_end HR8 hO8 hgw8 (by omega) HB.out
      have r0 := two_at0 HR8
      have r1 := two_at1 HR8
      have f0 : w8.frozen? ⟨w.heap.size + 1, 0, none⟩ = false := frozen_of_row w8 _ 0 _ _ HR8
      have f1 : w8.frozen? ⟨w.heap.size + 1, 1, none⟩ = false := frozen_of_row w8 _ 1 _ _ HR8
      clear hPut hO8 hG8 HQ8 HR8 hbq hbr HOR HQ6 HR6 HO6
      go_wp2
      refine bodyPost_ret (results_two2 Tryz.results22 _ _ (w.heap.size + 1) _ rfl Tryz.underlying27 rfl Tryz.sizeA z0 z1) rfl ?_
      exact ⟨_, _, _, ret_arr3 (by rw [Hf.out.1]) Hf.out.2.1.symm, by rw [Hf.out.2.2]; exact HF.out.1, HF.out.2⟩
    · obtain ⟨HF, z0, z1⟩ := mend_end HR6.out HO6.out hgw6 (by omega) HB.out
      have hfin : Hid (mendN a (s : Int) = badN a s ∧ mendE a (s : Int) = dataE (cellsL a s) s ∧ mendL a (s : Int) = a) := ⟨HE.out.1, HE.out.2.1, HE.out.2.2.1 hde⟩
      have r0 := two_at0 HR6.out
      have r1 := two_at1 HR6.out
      have f0 : w6.frozen? ⟨w.heap.size + 1, 0, none⟩ = false := frozen_of_row w6 _ 0 _ _ HR6.out
      have f1 : w6.frozen? ⟨w.heap.size + 1, 1, none⟩ = false := frozen_of_row w6 _ 1 _ _ HR6.out
      clear HE hdB HO6
      generalize dataE (cellsL a s) s = E at *
      generalize badN a s = bn at *
      have he' : (E != 0) = true := by simpa using hde
      go_wp2
      refine bodyPost_ret (results_two2 Tryz.results22 _ _ (w.heap.size + 1) _ rfl Tryz.underlying27 rfl Tryz.sizeA z0 z1) rfl ?_
      exact ⟨_, _, _, ret_arr3 (by rw [hfin.out.1]) hfin.out.2.1.symm, by rw [hfin.out.2.2]; exact HF.out.1, HF.out.2⟩

end Go.Proofs.YtjggiameajndgadGreatDoor

/-
  What the program's harm.Rot and harm.Gone return: an array of the call's own. Nothing old turns.
-/
namespace Go.Proofs.YtjggiameajndgadGreatDoor
open Go.RowKit

set_option maxRecDepth 20000 in
theorem xor_one {x : Int} (h : 0 ≤ x ∧ x ≤ 255) : bits .xor .u8 x 1 = rotI x := by
  rw [u8_xor x 1 (by omega) (by omega) (by omega) (by omega)]
  obtain ⟨n, rfl⟩ := Int.eq_ofNat_of_zero_le h.1
  have h256 : ∀ m : Nat, m < 256 → m ^^^ 1 = if m % 2 = 0 then m + 1 else m - 1 := by decide
  simp only [Int.toNat_natCast, show (1 : Int).toNat = 1 from rfl]
  rw [h256 n (by omega)]
  unfold rotI
  split <;> split <;> omega

set_option maxRecDepth 20000 in
set_option maxHeartbeats 1600000 in
theorem bytesOf_no (x1 : Option Addr) (x2 x3 : Nat) (y1 : Option Addr) (y2 y3 : Nat) (d s : Int) (w : World) (h : thereB d s = false) :
    Calls Tryz.prog 63 #[.agg #[.slice x1 x2 x3, .slice y1 y2 y3], .int .i64 d, .int .i64 s] w fun e w' => e = .returned (.slice none 0 0) ∧ Grow w w' := by
  have hg : Grow w (w.alloc (.cells #[.slice x1 x2 x3, .slice y1 y2 y3] 27)) := Grow.alloc _ _
  have hTh := there_any d s (w.alloc (.cells #[.slice x1 x2 x3, .slice y1 y2 y3] 27))
  rw [h] at hTh
  clear h
  go_enter Tryz.func63, Tryz.ntmps63
  go_wp2_with fail
  refine hTh.mono ?_
  rintro e w3 ⟨rfl, rfl⟩
  clear hTh
  go_wp2
  go_ret
  exact ⟨rfl, hg⟩

set_option maxRecDepth 20000 in
set_option maxHeartbeats 1600000 in
theorem bytesOf_yes (g cap bk : Nat) (y1 : Option Addr) (y2 y3 : Nat) (u : Value) (d s : Nat) (w : World) (hd : d < 4) (hs : s < 3) (h1 : w.cell? ⟨g, d, none⟩ = some (.slice (some ⟨bk, 0, none⟩) 3 3)) (h2 : w.cell? ⟨bk, s, none⟩ = some u) :
    Calls Tryz.prog 63 #[.agg #[.slice (some ⟨g, 0, none⟩) 4 cap, .slice y1 y2 y3], .int .i64 d, .int .i64 s] w fun e w' => e = .returned u ∧ Grow w w' := by
  obtain ⟨W, hW⟩ : ∃ W, W = w.alloc (.cells #[.slice (some ⟨g, 0, none⟩) 4 cap, .slice y1 y2 y3] 27) := ⟨_, rfl⟩
  have hg : Grow w W := by rw [hW]; exact Grow.alloc _ _
  have hb : W.heap[w.heap.size]? = some (.cells #[.slice (some ⟨g, 0, none⟩) 4 cap, .slice y1 y2 y3] 27 (0, 0)) := by rw [hW]; exact heap_alloc_new w _
  have b0 := two_at0 hb
  have k1 := hg.at h1
  have k2 := hg.at h2
  have hTh := there_any d s W
  rw [show thereB d s = true from by simp [thereB]; omega] at hTh
  have hdi : (d : Int) < 4 := by omega
  have hsi : (s : Int) < 3 := by omega
  clear h1 h2 hb
  go_enter Tryz.func63, Tryz.ntmps63
  go_wp2_with fail
  rw [← hW]
  clear hW
  refine hTh.mono ?_
  rintro e w3 ⟨rfl, rfl⟩
  clear hTh
  go_wp2
  go_ret
  exact ⟨rfl, hg⟩

/-- Beside an error, or where no byte is another one: the answer's two cells. -/
theorem harm_start {w : World} {a1 : Option Addr} {n1 c1 : Nat} {a2 : Option Addr} {n2 c2 : Nat} {a : ArrP} {W : World} (hW : W = (w.alloc (.cells #[.slice a1 n1 c1, .slice a2 n2 c2] 27)).alloc (.cells #[.slice none 0 0, .slice none 0 0] 27)) (h : ArrV w (.agg #[.slice a1 n1 c1, .slice a2 n2 c2]) a) (ha : Arr a) :
    Grow w W ∧ W.cell? ⟨w.heap.size, 0, none⟩ = some (.slice a1 n1 c1) ∧ W.cell? ⟨w.heap.size, 1, none⟩ = some (.slice a2 n2 c2) ∧ Hid (W.heap[w.heap.size + 1]? = some (.cells #[.slice none 0 0, .slice none 0 0] 27 (0, 0))) ∧ Hid (w.heap.size ≤ W.heap.size) ∧
      Calls Tryz.prog 23 #[.agg #[.slice a1 n1 c1, .slice a2 n2 c2]] W fun e w' => ∃ bs U dv iv, e = .returned (.agg #[dv, iv]) ∧ OwnA W.heap.size bs w' dv iv a ∧ SDs W.heap.size bs a.ds U w' ∧ Grow W w' := by
  have hgW : Grow w W := by rw [hW]; exact (Grow.alloc _ _).trans (Grow.alloc _ _)
  have H1 : W.heap[w.heap.size]? = some (.cells #[.slice a1 n1 c1, .slice a2 n2 c2] 27 (0, 0)) := by rw [hW]; exact (heap_alloc_old _ _ (by simp)).trans (heap_alloc_new w _)
  exact ⟨hgW, two_at0 H1, two_at1 H1, by rw [Hid, hW]; exact heap_alloc2_new w _ _, hgW.size, own_sep _ a W (h.grow hgW) ha.whole ha.short ha.none⟩

/-- What there is behind array.Own: the array in a box q of its own. -/
theorem harm_own {w W w1 W2 : World} {bs : List Nat} {U : Nat → List Value} {dv iv : Value} {a : ArrP} {q : Nat} (ha : Arr a) (hO : OwnA W.heap.size bs w1 dv iv a) (hS : SDs W.heap.size bs a.ds U w1) (hg1 : Grow W w1) (hgW : Grow w W) (HR : Hid (W.heap[w.heap.size + 1]? = some (.cells #[.slice none 0 0, .slice none 0 0] 27 (0, 0)))) (hq : q = w1.heap.size) (hW2 : W2 = w1.alloc (.cells #[dv, iv] 27)) :
    Grow w W2 ∧ Hid (W2.heap[q]? = some (.cells #[dv, iv] 27 (0, 0)) ∧ w.heap.size + 1 < q) ∧ Hid (OwnA W.heap.size bs W2 dv iv a ∧ SDs W.heap.size bs a.ds U W2) ∧ Hid (W2.heap[w.heap.size + 1]? = some (.cells #[.slice none 0 0, .slice none 0 0] 27 (0, 0))) ∧ (∃ g cap, dv = .slice (some ⟨g, 0, none⟩) 4 cap) ∧ iv = .slice none 0 0 := by
  have hg2 : Grow w1 W2 := by rw [hW2]; exact Grow.alloc _ _
  refine ⟨(hgW.trans hg1).trans hg2, ⟨by rw [hW2, hq]; exact heap_alloc_new w1 _, by have := heap_lt HR.out; have := hg1.size; omega⟩, ⟨hO.k4 hg2.k4, hS.grow hg2⟩, (hg1.trans hg2).block' HR.out, ?_, ?_⟩
  · obtain ⟨g, cap, e, -, -⟩ := hO.disks.own.form (by have := ha.whole.1; omega)
    exact ⟨g, cap, by rw [e, ha.whole.1]⟩
  · rcases hO.its with ⟨-, h⟩ | ⟨_, _, _, _, _, _, h, _⟩
    · exact h
    · rw [ha.none] at h; cases h

set_option maxRecDepth 20000 in
set_option maxHeartbeats 6400000 in
theorem harmRot_any (v : Value) (a : ArrP) (d s k : Int) (w : World) (h : ArrV w v a) (ha : Arr a) :
    Calls Tryz.prog 40 #[v, .int .i64 d, .int .i64 s, .int .i64 k] w fun e w' => ∃ r, e = .returned (.tuple #[r, .int .i64 (rotE a d s k)]) ∧ ArrV w' r (rotL a d s k) ∧ Grow w w' := by
  obtain ⟨a1, n1, c1, a2, n2, c2, rfl⟩ := h.form
  obtain ⟨W, hW⟩ : ∃ W, W = (w.alloc (.cells #[.slice a1 n1 c1, .slice a2 n2 c2] 27)).alloc (.cells #[.slice none 0 0, .slice none 0 0] 27) := ⟨_, rfl⟩
  obtain ⟨hgW, k0, k1, HR, HB, hOw⟩ := harm_start hW h ha
  have HA : Hid (Arr a) := ha
  clear h ha
  go_enter Tryz.func40, Tryz.ntmps40
  go_wp2_with fail
  rw [← hW]
  clear hW
  refine hOw.mono ?_
  rintro e w1 ⟨bs, U, dv, iv, rfl, hO, hS, hg1⟩
  clear hOw
  obtain ⟨q, hq⟩ : ∃ q, q = w1.heap.size := ⟨_, rfl⟩
  obtain ⟨W2, hW2⟩ : ∃ W2, W2 = w1.alloc (.cells #[dv, iv] 27) := ⟨_, rfl⟩
  obtain ⟨hgw, HQ, HO, HR2, ⟨g, cap, rfl⟩, rfl⟩ := harm_own HA.out hO hS hg1 hgW HR hq hW2
  have b0 := two_at0 HQ.out.1
  have b1 := two_at1 HQ.out.1
  clear hO hS hg1 hgW k0 k1 HR
  by_cases hT : 0 ≤ d ∧ d ≤ 3 ∧ 0 ≤ s ∧ s ≤ 2
  · obtain ⟨d, rfl⟩ := Int.eq_ofNat_of_zero_le hT.1
    obtain ⟨s, rfl⟩ := Int.eq_ofNat_of_zero_le hT.2.2.1
    have hd4 : d < 4 := by omega
    have hs3 : s < 3 := by omega
    have hd' : d < a.ds.length := by have := HA.out.whole.1; omega
    obtain ⟨bk, hbk, hcd, -, hl3⟩ := HO.out.1.disk hd4
    have hs' : s < (a.ds.getD d []).length := by omega
    obtain ⟨bk', u, hbk', hu, hcs, hown, hoc⟩ := HO.out.2.cell HO.out.1.disks.len hd' hs'
    rw [hbk] at hbk'
    cases hbk'
    replace hown : W2.ownsRow W.heap.size 5 1 u (cellAt a d s).length ((cellAt a d s).map (Value.int .u8)) := hown
    replace hoc : Octets (cellAt a d s) := hoc
    have hBs : Bs W2 u (cellAt a d s) := Bs.of_own hown hoc
    obtain ⟨u1, u2, u3, rfl⟩ := hBs.form
    have hC := bytesOf_yes g cap bk none 0 0 (.slice u1 u2 u3) d s W2 hd4 hs3 hcd hcs
    have hu2 : u2 = (cellAt a d s).length := by
      obtain ⟨_, _, e, -⟩ := hBs
      injection e
    clear hcd hcs hbk hl3 hs' hd' hT
    by_cases hk : 0 ≤ k ∧ k < u2
    · obtain ⟨k, rfl⟩ := Int.eq_ofNat_of_zero_le hk.1
      have hkn : k < u2 := by omega
      have hE : rotOk a (d : Int) (s : Int) (k : Int) := ⟨by omega, by omega, by omega, by omega, by omega, by simp only [Int.toNat_natCast]; omega⟩
      have HE : Hid (rotE a (d : Int) (s : Int) (k : Int) = 0 ∧ rotL a (d : Int) (s : Int) (k : Int) = withL a d s (rotB (cellAt a d s) k)) := ⟨if_pos hE, (if_pos hE).trans (by simp)⟩
      have hx := getD_bd hoc k
      obtain ⟨gb, cb, e, hgb, -⟩ := hown.form (by rw [hu2] at hkn; exact Nat.lt_of_le_of_lt (Nat.zero_le _) hkn)
      injection e with e1 e2 e3
      subst e1 e3
      have hn : (cellAt a d s).length = u2 := e2.symm
      rw [hn] at hown
      have hkl : k < (cellAt a d s).length := by omega
      have hmap : ((cellAt a d s).map (Value.int .u8))[k]? = some (.int .u8 ((cellAt a d s).getD k 0)) := by
        rw [List.getElem?_map]
        simp [List.getD_eq_getElem?_getD, hkl]
      have hro := fun (w3 : World) (hg3 : Grow W2 w3) => rot_own (k := k) (HO.out.1.k4 hg3.k4) (HO.out.2.grow hg3) HA.out.none hd4 hs3 hu
      have hXn := xor_one hx
      obtain ⟨x, hxe⟩ : ∃ x, x = (cellAt a d s).getD k 0 := ⟨_, rfl⟩
      rw [← hxe] at hx hXn hmap hro
      clear hxe
      obtain ⟨z, hz⟩ : ∃ z, z = rotI x := ⟨_, rfl⟩
      rw [← hz] at hXn hro
      clear hz
      have HRo : Hid (_ ∧ _ ∧ _) := ⟨hro, hown, hmap⟩
      have hki : (k : Int) < (u2 : Int) := by omega
      have hgbW : w.heap.size ≤ gb := Nat.le_trans HB.out hgb
      have Hgb : Hid (∃ cur, W2.heap[gb]? = some (.cells cur 5 (0, 0))) := own_typed hown rfl
      clear hro hown hmap hE hk hBs hoc hu hgb hu2 hkl hn e2
      go_wp2_with fail
      rw [← hW2, ← hq]
      clear hW2 hq
      refine hC.mono ?_
      rintro e w3 ⟨rfl, hg3⟩
      clear hC b0 b1
      have hown3 := grow_own HRo.out.2.1 hg3
      have kx : w3.cell? ⟨gb, k, none⟩ = some (.int .u8 x) := (hown3.cellAt k (by omega)).trans HRo.out.2.2
      have fx : w3.frozen? ⟨gb, k, none⟩ = false := hown3.frozenAt k
      have hOz := HRo.out.1 w3 hg3
      have hgz := (hgw.trans hg3).set (k := k) hgbW (.int .u8 z)
      have hne : ∀ (b : Nat) cs, W2.heap[b]? = some (.cells cs 27 (0, 0)) → b ≠ gb := fun b cs hb e => by
        obtain ⟨cur, hc⟩ := Hgb.out
        subst e
        rw [hb] at hc
        injection hc with hc
        injection hc with _ hc _
        exact absurd hc (by decide)
      have hbq : (w3.setCell ⟨gb, k, none⟩ (.int .u8 z)).heap[q]? = some (.cells #[.slice (some ⟨g, 0, none⟩) 4 cap, .slice none 0 0] 27 (0, 0)) := set_other (hg3.block' HQ.out.1) (hne q _ HQ.out.1)
      have hbr : (w3.setCell ⟨gb, k, none⟩ (.int .u8 z)).heap[w.heap.size + 1]? = some (.cells #[.slice none 0 0, .slice none 0 0] 27 (0, 0)) := set_other (hg3.block' HR2.out) (hne _ _ HR2.out)
      obtain ⟨HF, z0, z1⟩ := mend_end hbr hOz hgz (by omega) HB.out
      have b0 := two_at0 hbq
      have b1 := two_at1 hbq
      have r0 := two_at0 hbr
      have r1 := two_at1 hbr
      have f0 : (w3.setCell ⟨gb, k, none⟩ (.int .u8 z)).frozen? ⟨w.heap.size + 1, 0, none⟩ = false := frozen_of_row _ _ 0 _ _ hbr
      have f1 : (w3.setCell ⟨gb, k, none⟩ (.int .u8 z)).frozen? ⟨w.heap.size + 1, 1, none⟩ = false := frozen_of_row _ _ 1 _ _ hbr
      clear hbq hbr hne hOz hgz hown3 HRo HO HQ HR2 hgw hg3
      go_wp2
      refine bodyPost_ret (results_two1 Tryz.results40 _ _ (w.heap.size + 1) _ rfl Tryz.underlying27 rfl Tryz.sizeA z0 z1) rfl ?_
      exact ⟨_, ret_bs2 HE.out.1.symm, by rw [HE.out.2]; exact HF.out.1.arr, HF.out.2⟩
    · have HE : Hid (rotE a (d : Int) (s : Int) k = 6 ∧ rotL a (d : Int) (s : Int) k = a) := by
        have hE : ¬ rotOk a (d : Int) (s : Int) k := fun h => hk ⟨h.2.2.2.2.1, by have := h.2.2.2.2.2; simp only [Int.toNat_natCast] at this; omega⟩
        exact ⟨if_neg hE, if_neg hE⟩
      have hk' : k < 0 ∨ (0 ≤ k ∧ (u2 : Int) ≤ k) := by omega
      clear hown hoc hBs hu hu2 hk
      go_wp2_with fail
      rw [← hW2, ← hq]
      clear hW2 hq
      refine hC.mono ?_
      rintro e w3 ⟨rfl, hg3⟩
      clear hC b0 b1
      have hbq := hg3.block' HQ.out.1
      have hbr := hg3.block' HR2.out
      obtain ⟨HF, z0, z1⟩ := mend_end hbr (HO.out.1.k4 hg3.k4) (hgw.trans hg3) (by omega) HB.out
      have b0 := two_at0 hbq
      have b1 := two_at1 hbq
      have r0 := two_at0 hbr
      have r1 := two_at1 hbr
      have f0 : w3.frozen? ⟨w.heap.size + 1, 0, none⟩ = false := frozen_of_row _ _ 0 _ _ hbr
      have f1 : w3.frozen? ⟨w.heap.size + 1, 1, none⟩ = false := frozen_of_row _ _ 1 _ _ hbr
      clear hbq hbr HO HQ HR2 hgw hg3
      rcases hk' with hk1 | ⟨hk1, hk2⟩
      all_goals
        go_wp2
        refine bodyPost_ret (results_two1 Tryz.results40 _ _ (w.heap.size + 1) _ rfl Tryz.underlying27 rfl Tryz.sizeA z0 z1) rfl ?_
        exact ⟨_, ret_bs2 HE.out.1.symm, by rw [HE.out.2]; exact HF.out.1.arr, HF.out.2⟩
  · have HE : Hid (rotE a d s k = 6 ∧ rotL a d s k = a) := by
      have hE : ¬ rotOk a d s k := fun h => hT ⟨h.1, h.2.1, h.2.2.1, h.2.2.2.1⟩
      exact ⟨if_neg hE, if_neg hE⟩
    have hC := bytesOf_no (some ⟨g, 0, none⟩) 4 cap none 0 0 d s W2 (by simp only [thereB, decide_eq_false_iff_not]; omega)
    have hk' : k < 0 ∨ 0 ≤ k := by omega
    clear hT
    go_wp2_with fail
    rw [← hW2, ← hq]
    clear hW2 hq
    refine hC.mono ?_
    rintro e w3 ⟨rfl, hg3⟩
    clear hC b0 b1
    have hbq := hg3.block' HQ.out.1
    have hbr := hg3.block' HR2.out
    obtain ⟨HF, z0, z1⟩ := mend_end hbr (HO.out.1.k4 hg3.k4) (hgw.trans hg3) (by omega) HB.out
    have b0 := two_at0 hbq
    have b1 := two_at1 hbq
    have r0 := two_at0 hbr
    have r1 := two_at1 hbr
    have f0 : w3.frozen? ⟨w.heap.size + 1, 0, none⟩ = false := frozen_of_row _ _ 0 _ _ hbr
    have f1 : w3.frozen? ⟨w.heap.size + 1, 1, none⟩ = false := frozen_of_row _ _ 1 _ _ hbr
    clear hbq hbr HO HQ HR2 hgw hg3
    rcases hk' with hk1 | hk1
    all_goals
      go_wp2
      refine bodyPost_ret (results_two1 Tryz.results40 _ _ (w.heap.size + 1) _ rfl Tryz.underlying27 rfl Tryz.sizeA z0 z1) rfl ?_
      exact ⟨_, ret_bs2 HE.out.1.symm, by rw [HE.out.2]; exact HF.out.1.arr, HF.out.2⟩

theorem Tryz.zeroS (w : World) : (zeroValue 34).run Tryz.prog w = .ok (.slice none 0 0) w := by kernel_rfl

set_option maxRecDepth 20000 in
set_option maxHeartbeats 6400000 in
theorem harmGone_any (v : Value) (a : ArrP) (d : Int) (w : World) (h : ArrV w v a) (ha : Arr a) :
    Calls Tryz.prog 21 #[v, .int .i64 d] w fun e w' => ∃ r, e = .returned (.tuple #[r, .int .i64 (goneE d)]) ∧ ArrV w' r (goneL a d) ∧ Grow w w' := by
  obtain ⟨a1, n1, c1, a2, n2, c2, rfl⟩ := h.form
  obtain ⟨W, hW⟩ : ∃ W, W = (w.alloc (.cells #[.slice a1 n1 c1, .slice a2 n2 c2] 27)).alloc (.cells #[.slice none 0 0, .slice none 0 0] 27) := ⟨_, rfl⟩
  obtain ⟨hgW, k0, k1, HR, HB, hOw⟩ := harm_start hW h ha
  have HA : Hid (Arr a) := ha
  clear h ha
  go_enter Tryz.func21, Tryz.ntmps21
  go_wp2_with fail
  rw [← hW]
  clear hW
  refine hOw.mono ?_
  rintro e w1 ⟨bs, U, dv, iv, rfl, hO, hS, hg1⟩
  clear hOw
  obtain ⟨q, hq⟩ : ∃ q, q = w1.heap.size := ⟨_, rfl⟩
  obtain ⟨W2, hW2⟩ : ∃ W2, W2 = w1.alloc (.cells #[dv, iv] 27) := ⟨_, rfl⟩
  obtain ⟨hgw, HQ, HO, HR2, ⟨g, cap, rfl⟩, rfl⟩ := harm_own HA.out hO hS hg1 hgW HR hq hW2
  have b0 := two_at0 HQ.out.1
  have b1 := two_at1 HQ.out.1
  have hTh := there_any d 0 W2
  clear hO hS hg1 hgW k0 k1 HR
  by_cases hT : d < 0 ∨ 3 < d
  · have HE : Hid (goneE d = 6 ∧ goneL a d = a) := ⟨if_pos hT, if_pos hT⟩
    rw [show thereB d 0 = false from by simp only [thereB, decide_eq_false_iff_not]; omega] at hTh
    obtain ⟨HF, z0, z1⟩ := mend_end HR2.out HO.out.1 hgw (by omega) HB.out
    have r0 := two_at0 HR2.out
    have r1 := two_at1 HR2.out
    have f0 : W2.frozen? ⟨w.heap.size + 1, 0, none⟩ = false := frozen_of_row _ _ 0 _ _ HR2.out
    have f1 : W2.frozen? ⟨w.heap.size + 1, 1, none⟩ = false := frozen_of_row _ _ 1 _ _ HR2.out
    clear hT HO HQ HR2 hgw
    go_wp2_with fail
    rw [← hW2, ← hq]
    clear hW2 hq
    refine hTh.mono ?_
    rintro e w3 ⟨rfl, rfl⟩
    clear hTh
    go_wp2
    refine bodyPost_ret (results_two1 Tryz.results21 _ _ (w.heap.size + 1) _ rfl Tryz.underlying27 rfl Tryz.sizeA z0 z1) rfl ?_
    exact ⟨_, ret_bs2 HE.out.1.symm, by rw [HE.out.2]; exact HF.out.1.arr, HF.out.2⟩
  · obtain ⟨d, rfl⟩ := Int.eq_ofNat_of_zero_le (show 0 ≤ d by omega)
    have hd4 : d < 4 := by omega
    have HE : Hid (goneE (d : Int) = 0 ∧ goneL a (d : Int) = goneTo a d 3) := ⟨if_neg hT, (if_neg hT).trans (by simp)⟩
    rw [show thereB (d : Int) 0 = true from by simp [thereB]; omega] at hTh
    obtain ⟨bk, hbk, hcd, hrow, hl3⟩ := HO.out.1.disk hd4
    have hcl : ∀ ty, (Builtin.clear_ #[28] ty #[.slice (some ⟨bk, 0, none⟩) 3 3]).run Tryz.prog W2 = .ok (.tuple #[]) (W2.setCells bk 0 (List.replicate 3 (.slice none 0 0))) :=
      fun ty => Lib.run_clear_slice W2 28 34 ty (.slice none 0 0) Tryz.underlying28 Tryz.zeroS rfl rfl bk 0 3 3 (by omega) (fun j hj => by obtain ⟨⟨u, hu⟩, -⟩ := hrow.at (k := j) (by omega); rw [Nat.zero_add, hu]; rfl) (fun j hj => by rw [Nat.zero_add]; exact (hrow.at (k := j) (by omega)).2)
    have hne : ∀ (b : Nat) cs, W2.heap[b]? = some (.cells cs 27 (0, 0)) → b ≠ bk := fun b cs hb e => by
      obtain ⟨us, _, hc, _⟩ := hrow
      subst e
      rw [hb] at hc
      injection hc with hc
      injection hc with _ hc _
      exact absurd hc (by decide)
    have hset : ∀ (b : Nat) o, W2.heap[b]? = some o → b ≠ bk → (W2.setCells bk 0 (List.replicate 3 (.slice none 0 0))).heap[b]? = some o := fun b o hb hn => set_other (set_other (set_other hb hn) hn) hn
    have hbq := hset q _ HQ.out.1 (hne q _ HQ.out.1)
    have hbr := hset _ _ HR2.out (hne _ _ HR2.out)
    have hOz := gone_own HO.out.1 hd4 hbk
    have hgz := gone_grow hgw (Nat.le_trans HB.out (HO.out.1.disks.base bk (List.mem_of_getElem? hbk)))
    obtain ⟨Wz, hWz⟩ : ∃ Wz, Wz = W2.setCells bk 0 (List.replicate 3 (.slice none 0 0)) := ⟨_, rfl⟩
    rw [← hWz] at hbq hbr hOz hgz
    simp only [← hWz] at hcl
    clear hWz
    obtain ⟨HF, z0, z1⟩ := mend_end hbr hOz hgz (by omega) HB.out
    have b0' := two_at0 hbq
    have b1' := two_at1 hbq
    have r0 := two_at0 hbr
    have r1 := two_at1 hbr
    have f0 : Wz.frozen? ⟨w.heap.size + 1, 0, none⟩ = false := frozen_of_row _ _ 0 _ _ hbr
    have f1 : Wz.frozen? ⟨w.heap.size + 1, 1, none⟩ = false := frozen_of_row _ _ 1 _ _ hbr
    have hdi : (d : Int) < 4 := by omega
    clear hbq hbr hne hset hOz hgz HO HQ HR2 hgw hrow hl3 hbk hT
    go_wp2_with fail
    rw [← hW2, ← hq]
    clear hW2 hq
    refine hTh.mono ?_
    rintro e w3 ⟨rfl, rfl⟩
    clear hTh
    go_wp2
    refine bodyPost_ret (results_two1 Tryz.results21 _ _ (w.heap.size + 1) _ rfl Tryz.underlying27 rfl Tryz.sizeA z0 z1) rfl ?_
    exact ⟨_, ret_bs2 HE.out.1.symm, by rw [HE.out.2]; exact HF.out.1.arr, HF.out.2⟩

end Go.Proofs.YtjggiameajndgadGreatDoor

/-
  What the program's play.Do and play.Play return. Nothing old turns.
-/
namespace Go.Proofs.YtjggiameajndgadGreatDoor
open Go.RowKit

set_option maxRecDepth 20000 in
set_option maxHeartbeats 6400000 in
theorem playFall_any (v dv : Value) (a : ArrP) (x : DeedP) (n : Int) (w : World) (h : ArrV w v a) (hA : Arr a) (hd : DeedV w dv x) :
    Calls Tryz.prog 19 #[v, dv, .int .i64 n] w fun e w' => ∃ r, e = .returned (.tuple #[r, .int .i64 (planE a x)]) ∧ ArrV w' r (fallA a x n) ∧ Grow w w' := by
  have harr := h
  have hdeed := hd
  obtain ⟨a1, n1, c1, a2, n2, c2, rfl⟩ := h.form
  obtain ⟨sv, rfl, hbd⟩ := hd
  obtain ⟨d1, d2, d3, rfl⟩ := hbd.form
  clear h hbd
  obtain ⟨W, hW⟩ : ∃ W, W = ((w.alloc (.cells #[.slice a1 n1 c1, .slice a2 n2 c2] 27)).alloc (.cells #[.int .i64 x.k, .int .i64 x.n, .int .i64 x.m, .slice d1 d2 d3] 36)).alloc (.cells #[.slice none 0 0, .slice none 0 0] 27) := ⟨_, rfl⟩
  have hgW : Grow w W := by rw [hW]; exact ((Grow.alloc _ _).trans (Grow.alloc _ _)).trans (Grow.alloc _ _)
  obtain ⟨H1, H2, H3⟩ := heap3 w (.cells #[.slice a1 n1 c1, .slice a2 n2 c2] 27) (.cells #[.int .i64 x.k, .int .i64 x.n, .int .i64 x.m, .slice d1 d2 d3] 36) (.cells #[.slice none 0 0, .slice none 0 0] 27)
  rw [← hW] at H1 H2 H3
  have k0 : W.cell? ⟨w.heap.size, 0, none⟩ = some (.slice a1 n1 c1) := row_at H1 0 rfl
  have k1 : W.cell? ⟨w.heap.size, 1, none⟩ = some (.slice a2 n2 c2) := row_at H1 1 rfl
  have d0' : W.cell? ⟨w.heap.size + 1, 0, none⟩ = some (.int .i64 x.k) := row_at H2 0 rfl
  have d1' : W.cell? ⟨w.heap.size + 1, 1, none⟩ = some (.int .i64 x.n) := row_at H2 1 rfl
  have d2' : W.cell? ⟨w.heap.size + 1, 2, none⟩ = some (.int .i64 x.m) := row_at H2 2 rfl
  have d3' : W.cell? ⟨w.heap.size + 1, 3, none⟩ = some (.slice d1 d2 d3) := row_at H2 3 rfl
  have HR : Hid (W.heap[w.heap.size + 1 + 1]? = some (.cells #[.slice none 0 0, .slice none 0 0] 27 (0, 0))) := H3
  clear H1 H2 H3
  have hP := arrPlan_any (.agg #[.slice a1 n1 c1, .slice a2 n2 c2]) (.agg #[.int .i64 x.k, .int .i64 x.n, .int .i64 x.m, .slice d1 d2 d3]) a x W (harr.grow hgW) hA.whole hA.short (hdeed.grow hgW)
  have HA : Hid (ArrV w (.agg #[.slice a1 n1 c1, .slice a2 n2 c2]) a ∧ Arr a) := ⟨harr, hA⟩
  clear harr hA hdeed
  go_enter Tryz.func19, Tryz.ntmps19
  go_wp2_with fail
  rw [← hW]
  clear hW
  refine hP.mono ?_
  rintro e w1 ⟨r, rfl, hr, hg1⟩
  clear hP d0' d1' d2' d3'
  obtain ⟨cv, rfl, hcv⟩ := hr
  obtain ⟨ac, nc, cc, rfl⟩ : ∃ a n c, cv = .slice a n c := by
    obtain ⟨a, c, e⟩ := hcv.form
    exact ⟨_, _, _, e⟩
  have hcv : Bss w1 (.slice ac nc cc) (planI a x).2 := hcv
  generalize hix : (planI a x).1 = ix at *
  have HIX : Hid ((planI a x).1 = ix) := hix
  have gA : Grow w1 (w1.alloc (.cells #[.int .i64 ix, .slice ac nc cc] 78)) := Grow.alloc _ _
  have hg02 := hg1.trans gA
  have hgw := hgW.trans hg02
  have q0 := hg02.at k0
  have q1 := hg02.at k1
  have hR := hg02.block' HR.out
  have hbI : (w1.alloc (.cells #[.int .i64 ix, .slice ac nc cc] 78)).heap[w1.heap.size]? = some (.cells #[.int .i64 ix, .slice ac nc cc] 78 (0, 0)) := heap_alloc_new w1 _
  have i0 := two_at0 hbI
  have i1 := two_at1 hbI
  have HCV : Hid (Bss (w1.alloc (.cells #[.int .i64 ix, .slice ac nc cc] 78)) (.slice ac nc cc) (planI a x).2) := hcv.grow gA
  by_cases he : planE a x = 0
  · obtain ⟨s, cs, hi, hs3, hc4, hc8⟩ := planI_yes HA.out.2.whole he
    have HDo : Hid (fallA a x n = mountL (writeL a ((s : Int), cs) n)) := by rw [Hid, fallA, if_pos he, hi]
    have HE : Hid (planE a x = 0) := he
    obtain rfl : ix = (s : Int) := by rw [← HIX.out, hi]
    have hwc := write_any (.agg #[.slice a1 n1 c1, .slice a2 n2 c2]) (.agg #[.int .i64 s, .slice ac nc cc]) a s cs n (w1.alloc (.cells #[.int .i64 s, .slice ac nc cc] 78)) (HA.out.1.grow hgw) HA.out.2.whole HA.out.2.short (.inl HA.out.2.none) ⟨_, rfl, by have := HCV.out; rw [hi] at this; exact this⟩ hs3 hc4 hc8
    obtain ⟨hwl, hw8, hwf⟩ := writeL_few HA.out.2 s cs hs3 hc4 hc8 n
    have hMt := fun v w' hv => mount_any v (writeL a ((s : Int), cs) n) w' hv hwl hw8 hwf
    rw [he]
    clear hcv hbI hi hc4 hc8 hix he k0 k1 HIX HCV hwl hw8 hwf
    generalize mountL (writeL a ((s : Int), cs) n) = mt at *
    generalize writeL a ((s : Int), cs) n = wl at *
    go_wp2_with fail
    refine hwc.mono ?_
    rintro e w3 ⟨bs3, dv3, iv3, rfl, hO3, hg3⟩
    clear hwc
    have hMt' := hMt _ w3 hO3.arr
    clear hMt hO3
    go_wp2_with fail
    refine hMt'.mono ?_
    rintro e w4 ⟨bs, dv, iv, rfl, hO, hg4⟩
    clear hMt'
    obtain ⟨⟨x1, x2, x3, rfl⟩, y1, y2, y3, rfl⟩ := hO.forms
    have hg34 := hg3.trans hg4
    have hR3 := hg34.block' hR
    have r0 := two_at0 hR3
    have r1 := two_at1 hR3
    have f0 : w4.frozen? ⟨w.heap.size + 1 + 1, 0, none⟩ = false := frozen_of_row w4 _ 0 _ _ hR3
    have f1 : w4.frozen? ⟨w.heap.size + 1 + 1, 1, none⟩ = false := frozen_of_row w4 _ 1 _ _ hR3
    obtain ⟨HF, z0, z1⟩ := do_end hR3 hO (hgw.trans hg34) (by omega) (hgw.trans hg3).size
    clear hO hR3 hR i0 i1 q0 q1 hg3 hg4 hg34
    go_wp2
    refine bodyPost_ret (results_two1 Tryz.results19 _ _ (w.heap.size + 1 + 1) _ rfl Tryz.underlying27 rfl Tryz.sizeA z0 z1) rfl ?_
    rw [HE.out]
    exact ⟨_, rfl, by rw [HDo.out]; exact HF.out.1.arr, HF.out.2⟩
  · have HDo : Hid (fallA a x n = a) := if_neg he
    have hoc := own_any (.agg #[.slice a1 n1 c1, .slice a2 n2 c2]) a (w1.alloc (.cells #[.int .i64 ix, .slice ac nc cc] 78)) (HA.out.1.grow hgw) HA.out.2.whole HA.out.2.short (.inl HA.out.2.none)
    clear hcv hbI hix k0 k1 HIX HCV
    generalize hE0 : planE a x = E at *
    have he' : (E != 0) = true := by simpa using he
    have HE : Hid (planE a x = E) := hE0
    clear hE0
    go_wp2_with fail
    refine hoc.mono ?_
    rintro e w3 ⟨bs, dv, iv, rfl, hO, hg3⟩
    clear hoc
    obtain ⟨⟨x1, x2, x3, rfl⟩, y1, y2, y3, rfl⟩ := hO.forms
    have hR3 := hg3.block' hR
    have r0 := two_at0 hR3
    have r1 := two_at1 hR3
    have f0 : w3.frozen? ⟨w.heap.size + 1 + 1, 0, none⟩ = false := frozen_of_row w3 _ 0 _ _ hR3
    have f1 : w3.frozen? ⟨w.heap.size + 1 + 1, 1, none⟩ = false := frozen_of_row w3 _ 1 _ _ hR3
    obtain ⟨HF, z0, z1⟩ := do_end hR3 hO (hgw.trans hg3) (by omega) hgw.size
    clear hO hR3 hR i0 i1 q0 q1
    go_wp2
    refine bodyPost_ret (results_two1 Tryz.results19 _ _ (w.heap.size + 1 + 1) _ rfl Tryz.underlying27 rfl Tryz.sizeA z0 z1) rfl ?_
    rw [HE.out]
    exact ⟨_, rfl, by rw [HDo.out]; exact HF.out.1.arr, HF.out.2⟩

set_option maxRecDepth 20000 in
set_option maxHeartbeats 6400000 in
theorem playRot_any (v : Value) (a : ArrP) (p k : Int) (w : World) (h : ArrV w v a) (ha : Arr a) (hp : p ≤ 9223372036854775807) :
    Calls Tryz.prog 20 #[v, .int .i64 p, .int .i64 k] w fun e w' => ∃ r, e = .returned (.tuple #[r, .int .i64 (if p < 0 then 6 else rotE a (p / 3) (p % 3) k)]) ∧ ArrV w' r (if p < 0 then a else rotL a (p / 3) (p % 3) k) ∧ Grow w w' := by
  obtain ⟨a1, n1, c1, a2, n2, c2, rfl⟩ := h.form
  obtain ⟨W, hW⟩ : ∃ W, W = (w.alloc (.cells #[.slice a1 n1 c1, .slice a2 n2 c2] 27)).alloc (.cells #[.slice none 0 0, .slice none 0 0] 27) := ⟨_, rfl⟩
  have hgW : Grow w W := by rw [hW]; exact (Grow.alloc _ _).trans (Grow.alloc _ _)
  have H1 : W.heap[w.heap.size]? = some (.cells #[.slice a1 n1 c1, .slice a2 n2 c2] 27 (0, 0)) := by rw [hW]; exact (heap_alloc_old _ _ (by simp)).trans (heap_alloc_new w _)
  have hR : W.heap[w.heap.size + 1]? = some (.cells #[.slice none 0 0, .slice none 0 0] 27 (0, 0)) := by rw [hW]; exact heap_alloc2_new w _ _
  have k0 := two_at0 H1
  have k1 := two_at1 H1
  have harrW := h.grow hgW
  clear h H1
  by_cases hn : p < 0
  · have hcall := own_any _ a W harrW ha.whole ha.short (.inl ha.none)
    clear harrW
    go_enter Tryz.func20, Tryz.ntmps20
    go_wp2_with fail
    rw [← hW]
    clear hW
    refine hcall.mono ?_
    rintro e w1 ⟨bs, dv, iv, rfl, hO, hg1⟩
    obtain ⟨⟨x1, x2, x3, rfl⟩, y1, y2, y3, rfl⟩ := hO.forms
    have hR1 := hg1.block' hR
    obtain ⟨t0, t1, f0, f1⟩ := two_open hR1
    obtain ⟨HF, z0, z1⟩ := do_end hR1 hO (hgW.trans hg1) (by omega) hgW.size
    clear hO hR hR1 k0 k1 hcall ha
    go_wp2
    refine bodyPost_ret (results_two1 Tryz.results20 _ _ (w.heap.size + 1) _ rfl Tryz.underlying27 rfl Tryz.sizeA z0 z1) rfl ?_
    exact ⟨_, rfl, HF.out.1.arr, HF.out.2⟩
  · have hcall := harmRot_any _ a (p / 3) (p % 3) k W harrW ha
    have hA := rotL_arr ha (p / 3) (p % 3) k
    have hn' : 0 ≤ p := by omega
    clear hn harrW
    go_enter Tryz.func20, Tryz.ntmps20
    go_wp2_with fail
    rw [← hW]
    clear hW
    refine hcall.mono ?_
    rintro e w1 ⟨r, rfl, hr, hg1⟩
    obtain ⟨p1, p2, p3, r1, r2, r3, rfl⟩ := hr.form
    have hR1 := hg1.block' hR
    obtain ⟨t0, t1, f0, f1⟩ := two_open hR1
    obtain ⟨hv, z0, z1, hg⟩ := two_fin hR1 (by omega) (hgW.trans hg1) hr hA.whole hA.fours
    have hfin : Hid (_ ∧ _) := ⟨hv, hg⟩
    clear hv hg hr hR hR1 k0 k1 hcall hA ha
    go_wp2
    refine bodyPost_ret (results_two1 Tryz.results20 _ _ (w.heap.size + 1) _ rfl Tryz.underlying27 rfl Tryz.sizeA z0 z1) rfl ?_
    exact ⟨_, rfl, hfin.out.1, hfin.out.2⟩

theorem playDeed_any (v dv : Value) (a : ArrP) (x : DeedP) (w : World) (h : ArrV w v a) (ha : Arr a) (hd : DeedV w dv x) :
    Calls Tryz.prog 18 #[v, dv] w fun e w' => ∃ r, e = .returned (.tuple #[r, .int .i64 (planE a x)]) ∧ ArrV w' r (doA a x) ∧ Grow w w' :=
  (arrDo_any v dv a x w h ha.whole ha.short (.inl ha.none) hd).mono fun _ _ ⟨_, _, _, he, hO, hg⟩ => ⟨_, he, hO.arr, hg⟩

theorem playMend_any (v : Value) (a : ArrP) (s : Int) (w : World) (h : ArrV w v a) (ha : Arr a) :
    Calls Tryz.prog 22 #[v, .int .i64 s] w fun e w' => ∃ r, e = .returned (.tuple #[r, .int .i64 (mendN a s), .int .i64 (mendE a s)]) ∧ ArrV w' r (mendL a s) ∧ Grow w w' :=
  (mendStripe_any v a s w h ha.whole ha.short (.inl ha.none)).mono fun _ _ ⟨_, _, _, he, hO, hg⟩ => ⟨_, he, hO.arr, hg⟩

set_option maxRecDepth 20000 in
set_option maxHeartbeats 6400000 in
theorem playDo_any (v sv : Value) (a : ArrP) (x : StepP) (w : World) (h : ArrV w v a) (ha : Arr a) (hs : StepV w sv x) :
    Calls Tryz.prog 9 #[v, sv] w fun e w' => ∃ r, e = .returned (.tuple #[r, .int .i64 (stepE a x)]) ∧ ArrV w' r (stepA a x) ∧ Grow w w' := by
  have harr := h
  obtain ⟨a1, n1, c1, a2, n2, c2, rfl⟩ := h.form
  obtain ⟨dv, rfl, hbd, hmax⟩ := hs
  obtain ⟨d1, d2, d3, rfl⟩ := hbd.form
  clear h
  obtain ⟨W, hW⟩ : ∃ W, W = ((w.alloc (.cells #[.slice a1 n1 c1, .slice a2 n2 c2] 27)).alloc (.cells #[.int .i64 x.k, .int .i64 x.n, .int .i64 x.m, .int .i64 x.d.k, .int .i64 x.d.n, .int .i64 x.d.m, .slice d1 d2 d3] 38)).alloc (.cells #[.slice none 0 0, .slice none 0 0] 27) := ⟨_, rfl⟩
  have HB : Boxes w W a1 n1 c1 a2 n2 c2 x (.slice d1 d2 d3) := by rw [hW]; exact Boxes.mk' ..
  obtain ⟨hgW, k0, k1, s0, s1, s2, s3, s4, s5, s6, hR⟩ := HB
  have hdeed : DeedV W (.agg #[.int .i64 x.d.k, .int .i64 x.d.n, .int .i64 x.d.m, .slice d1 d2 d3]) x.d := ⟨_, rfl, hbd.grow hgW⟩
  have harrW := harr.grow hgW
  clear hbd
  have hlW : w.heap.size ≤ w.heap.size + 1 + 1 := by omega
  by_cases x1 : x.k = 1
  · have HE : Hid (stepE a x = planE a x.d ∧ stepA a x = doA a x.d) := ⟨if_pos x1, if_pos x1⟩
    have hcall := playDeed_any _ _ a x.d W harrW ha hdeed
    have hA := doA_arr ha x.d
    rw [x1] at s0 hW ⊢
    clear x1
    go_enter Tryz.func9, Tryz.ntmps9
    go_wp2_with fail
    rw [← hW]
    refine hcall.mono ?_
    rintro e w1 ⟨r, rfl, hr, hg1⟩
    obtain ⟨p1, p2, p3, r1, r2, r3, rfl⟩ := hr.form
    have hR1 := hg1.block' hR
    obtain ⟨t0, t1, f0, f1⟩ := two_open hR1
    obtain ⟨hv, z0, z1, hg⟩ := two_fin hR1 hlW (hgW.trans hg1) hr hA.whole hA.fours
    have hfin : Hid (_ ∧ _) := ⟨hv, hg⟩
    clear hv hg hr hR hR1 hW k0 k1 s0 s1 s2 s3 s4 s5 s6 hcall
    go_wp2
    refine bodyPost_ret (results_two1 Tryz.results9 _ _ (w.heap.size + 1 + 1) _ rfl Tryz.underlying27 rfl Tryz.sizeA z0 z1) rfl ?_
    exact ⟨_, ret_v2 HE.out.1.symm, by rw [HE.out.2]; exact hfin.out.1, hfin.out.2⟩
  by_cases x2 : x.k = 2
  · have HE : Hid (stepE a x = planE a x.d ∧ stepA a x = fallA a x.d x.n) := ⟨(if_neg x1).trans (if_pos x2), (if_neg x1).trans (if_pos x2)⟩
    have hcall := playFall_any _ _ a x.d x.n W harrW ha hdeed
    have hA := fallA_arr ha x.d x.n
    rw [x2] at s0 hW ⊢
    clear x1 x2
    go_enter Tryz.func9, Tryz.ntmps9
    go_wp2_with fail
    rw [← hW]
    refine hcall.mono ?_
    rintro e w1 ⟨r, rfl, hr, hg1⟩
    obtain ⟨p1, p2, p3, r1, r2, r3, rfl⟩ := hr.form
    have hR1 := hg1.block' hR
    obtain ⟨t0, t1, f0, f1⟩ := two_open hR1
    obtain ⟨hv, z0, z1, hg⟩ := two_fin hR1 hlW (hgW.trans hg1) hr hA.whole hA.fours
    have hfin : Hid (_ ∧ _) := ⟨hv, hg⟩
    clear hv hg hr hR hR1 hW k0 k1 s0 s1 s2 s3 s4 s5 s6 hcall
    go_wp2
    refine bodyPost_ret (results_two1 Tryz.results9 _ _ (w.heap.size + 1 + 1) _ rfl Tryz.underlying27 rfl Tryz.sizeA z0 z1) rfl ?_
    exact ⟨_, ret_v2 HE.out.1.symm, by rw [HE.out.2]; exact hfin.out.1, hfin.out.2⟩
  by_cases x3 : x.k = 3
  · have HE : Hid (stepE a x = (if x.n < 0 then 6 else rotE a (x.n / 3) (x.n % 3) x.m) ∧ stepA a x = (if x.n < 0 then a else rotL a (x.n / 3) (x.n % 3) x.m)) := ⟨(if_neg x1).trans ((if_neg x2).trans (if_pos x3)), (if_neg x1).trans ((if_neg x2).trans (if_pos x3))⟩
    have hcall := playRot_any _ a x.n x.m W harrW ha hmax
    have hA : Arr (if x.n < 0 then a else rotL a (x.n / 3) (x.n % 3) x.m) := by
      split
      · exact ha
      · exact rotL_arr ha _ _ _
    rw [x3] at s0 hW ⊢
    clear x1 x2 x3 hdeed
    generalize (if x.n < 0 then a else rotL a (x.n / 3) (x.n % 3) x.m) = A at *
    generalize (if x.n < 0 then 6 else rotE a (x.n / 3) (x.n % 3) x.m) = E at *
    go_enter Tryz.func9, Tryz.ntmps9
    go_wp2_with fail
    rw [← hW]
    refine hcall.mono ?_
    rintro e w1 ⟨r, rfl, hr, hg1⟩
    obtain ⟨p1, p2, p3, r1, r2, r3, rfl⟩ := hr.form
    have hR1 := hg1.block' hR
    obtain ⟨t0, t1, f0, f1⟩ := two_open hR1
    obtain ⟨hv, z0, z1, hg⟩ := two_fin hR1 hlW (hgW.trans hg1) hr hA.whole hA.fours
    have hfin : Hid (_ ∧ _) := ⟨hv, hg⟩
    clear hv hg hr hR hR1 hW k0 k1 s0 s1 s2 s3 s4 s5 s6 hcall
    go_wp2
    refine bodyPost_ret (results_two1 Tryz.results9 _ _ (w.heap.size + 1 + 1) _ rfl Tryz.underlying27 rfl Tryz.sizeA z0 z1) rfl ?_
    exact ⟨_, ret_v2 HE.out.1.symm, by rw [HE.out.2]; exact hfin.out.1, hfin.out.2⟩
  by_cases x4 : x.k = 4
  · have HE : Hid (stepE a x = goneE x.n ∧ stepA a x = goneL a x.n) := ⟨(if_neg x1).trans ((if_neg x2).trans ((if_neg x3).trans (if_pos x4))), (if_neg x1).trans ((if_neg x2).trans ((if_neg x3).trans (if_pos x4)))⟩
    have hcall := harmGone_any _ a x.n W harrW ha
    have hA := goneL_arr ha x.n
    rw [x4] at s0 hW ⊢
    clear x1 x2 x3 x4 hdeed
    go_enter Tryz.func9, Tryz.ntmps9
    go_wp2_with fail
    rw [← hW]
    refine hcall.mono ?_
    rintro e w1 ⟨r, rfl, hr, hg1⟩
    obtain ⟨p1, p2, p3, r1, r2, r3, rfl⟩ := hr.form
    have hR1 := hg1.block' hR
    obtain ⟨t0, t1, f0, f1⟩ := two_open hR1
    obtain ⟨hv, z0, z1, hg⟩ := two_fin hR1 hlW (hgW.trans hg1) hr hA.whole hA.fours
    have hfin : Hid (_ ∧ _) := ⟨hv, hg⟩
    clear hv hg hr hR hR1 hW k0 k1 s0 s1 s2 s3 s4 s5 s6 hcall
    go_wp2
    refine bodyPost_ret (results_two1 Tryz.results9 _ _ (w.heap.size + 1 + 1) _ rfl Tryz.underlying27 rfl Tryz.sizeA z0 z1) rfl ?_
    exact ⟨_, ret_v2 HE.out.1.symm, by rw [HE.out.2]; exact hfin.out.1, hfin.out.2⟩
  by_cases x5 : x.k = 5
  · have HE : Hid (stepE a x = mendE a x.n ∧ stepA a x = mendL a x.n) := ⟨(if_neg x1).trans ((if_neg x2).trans ((if_neg x3).trans ((if_neg x4).trans (if_pos x5)))), (if_neg x1).trans ((if_neg x2).trans ((if_neg x3).trans ((if_neg x4).trans (if_pos x5))))⟩
    have hcall := playMend_any _ a x.n W harrW ha
    have hA := mendL_arr ha x.n
    rw [x5] at s0 hW ⊢
    clear x1 x2 x3 x4 x5 hdeed
    go_enter Tryz.func9, Tryz.ntmps9
    go_wp2_with fail
    rw [← hW]
    refine hcall.mono ?_
    rintro e w1 ⟨r, rfl, hr, hg1⟩
    obtain ⟨p1, p2, p3, r1, r2, r3, rfl⟩ := hr.form
    have hg2 : Grow w1 (w1.alloc (.cells #[.slice p1 p2 p3, .slice r1 r2 r3] 27)) := Grow.alloc _ _
    have hg12 := hg1.trans hg2
    have hR1 := hg12.block' hR
    obtain ⟨t0, t1, f0, f1⟩ := two_open hR1
    obtain ⟨hv, z0, z1, hg⟩ := two_fin hR1 hlW (hgW.trans hg12) (hr.grow hg2) hA.whole hA.fours
    have hfin : Hid (_ ∧ _) := ⟨hv, hg⟩
    clear hv hg hr hR hR1 hW k0 k1 s0 s1 s2 s3 s4 s5 s6 hcall
    go_wp2
    refine bodyPost_ret (results_two1 Tryz.results9 _ _ (w.heap.size + 1 + 1) _ rfl Tryz.underlying27 rfl Tryz.sizeA z0 z1) rfl ?_
    exact ⟨_, ret_v2 HE.out.1.symm, by rw [HE.out.2]; exact hfin.out.1, hfin.out.2⟩
  · have HE : Hid (stepE a x = 1 ∧ stepA a x = a) := ⟨(if_neg x1).trans ((if_neg x2).trans ((if_neg x3).trans ((if_neg x4).trans (if_neg x5)))), (if_neg x1).trans ((if_neg x2).trans ((if_neg x3).trans ((if_neg x4).trans (if_neg x5))))⟩
    have y1 : (x.k == 1) = false := by simpa using x1
    have y2 : (x.k == 2) = false := by simpa using x2
    have y3 : (x.k == 3) = false := by simpa using x3
    have y4 : (x.k == 4) = false := by simpa using x4
    have y5 : (x.k == 5) = false := by simpa using x5
    have hcall := own_any _ a W harrW ha.whole ha.short (.inl ha.none)
    clear x1 x2 x3 x4 x5 hdeed harrW harr
    go_enter Tryz.func9, Tryz.ntmps9
    go_wp2_with fail
    rw [← hW]
    refine hcall.mono ?_
    rintro e w1 ⟨bs, dv, iv, rfl, hO, hg1⟩
    obtain ⟨⟨p1, p2, p3, rfl⟩, r1, r2, r3, rfl⟩ := hO.forms
    have hR1 := hg1.block' hR
    obtain ⟨t0, t1, f0, f1⟩ := two_open hR1
    obtain ⟨HF, z0, z1⟩ := do_end hR1 hO (hgW.trans hg1) hlW hgW.size
    clear hO hR hR1 hW k0 k1 s0 s1 s2 s3 s4 s5 s6 hcall ha
    go_wp2
    refine bodyPost_ret (results_two1 Tryz.results9 _ _ (w.heap.size + 1 + 1) _ rfl Tryz.underlying27 rfl Tryz.sizeA z0 z1) rfl ?_
    exact ⟨_, ret_v2 HE.out.1.symm, by rw [HE.out.2]; exact HF.out.1.arr, HF.out.2⟩

/-- What the first k have told, in a row as long as all. -/
def toldPs (l : List StepP) (k : Nat) : List Int := playEs l k ++ List.replicate (l.length - k) 0

theorem toldPs_length {l : List StepP} {k : Nat} (h : k ≤ l.length) : (toldPs l k).length = l.length := by
  rw [toldPs, List.length_append, playEs_length, List.length_replicate]; omega

theorem toldPs_set {l : List StepP} {k : Nat} {s : StepP} (h : l[k]? = some s) : (toldPs l k).set k (stepE (playTo l k) s) = toldPs l (k + 1) := by
  have hk : k < l.length := by
    by_cases hk : k < l.length
    · exact hk
    · rw [List.getElem?_eq_none (by omega)] at h; cases h
  rw [toldPs, toldPs, ← playEs_succ h, show l.length - k = (l.length - (k + 1)) + 1 by omega, List.replicate_succ, List.set_append, if_neg (by rw [playEs_length]; omega), playEs_length, Nat.sub_self, List.set_cons_zero, List.append_assoc]
  rfl

theorem toldPs_all {l : List StepP} {k : Nat} (h : k = l.length) : toldPs l k = playEs l l.length := by
  rw [toldPs, h, Nat.sub_self, List.replicate_zero, List.append_nil]

theorem NumRow.put {B : Nat} {e : TypeId} {w : World} {g n : Nat} {ns : List Int} (h : NumRow B e w (.slice (some ⟨g, 0, none⟩) n n) ns) (hn : ns.length = n) (j : Nat) (x : Int) : NumRow B e (w.setCell ⟨g, j, none⟩ (.int .i64 x)) (.slice (some ⟨g, 0, none⟩) n n) (ns.set j x) := by
  subst hn
  refine ⟨?_, fun g' hg' => ?_⟩
  · have := (h.1.stored j (.int .i64 x)).1
    rw [List.length_set, List.map_set]
    exact this
  · cases hg'
    obtain ⟨cs, t, mk, h1, h2⟩ := h.2 g rfl
    rcases h.1.2 with ⟨h', _⟩ | ⟨g', cap', cur, h', _, hg, _⟩
    · cases h'
    · injection h' with h'
      injection h' with h'
      injection h' with h'
      subst h'
      rw [hg] at h1
      injection h1 with h1
      injection h1 with h1 _ _
      subst h1
      refine ⟨_, _, _, heap_setCell_same w g j cur e (.int .i64 x) hg, fun u hu => ?_⟩
      rw [Array.toList_setIfInBounds] at hu
      rcases List.mem_or_eq_of_mem_set hu with hu | rfl
      · exact h2 u hu
      · exact ⟨x, rfl⟩

theorem NumRow.made (w : World) (e : TypeId) {n : Nat} (hn : n ≤ maxLen) : NumRow w.heap.size e (w.alloc (.cells (madeCells #[.int .i64 0] n) e)) (.slice (some ⟨w.heap.size, 0, none⟩) n n) (List.replicate n 0) := by
  refine ⟨?_, fun g hg => ?_⟩
  · have := World.ownsRow_lit (base := w.heap.size) (e := e) (size := 1) w (madeCells #[.int .i64 0] n) n (Nat.le_refl _) hn (by rw [size_madeCells, Nat.mul_one])
    rw [toList_madeCells_one] at this
    rw [List.length_replicate, List.map_replicate]
    exact this
  · cases hg
    refine ⟨_, _, _, heap_alloc_new w _, fun u hu => ?_⟩
    rw [toList_madeCells_one] at hu
    exact ⟨0, (List.mem_replicate.1 hu).2⟩

end Go.Proofs.YtjggiameajndgadGreatDoor

/-
  Same of an array and itself; same of blocks and themselves.
-/
namespace Go.Proofs.YtjggiameajndgadGreatDoor
open Go.RowKit

end Go.Proofs.YtjggiameajndgadGreatDoor
