import Derived.Test.YtjggiameajndgacJoin11
/-
  A region that draws its order, whose last operation waits for all others, for some of them by way of others.
-/
namespace Go.Proofs.Ytjggiameajndgac
open Go.RowKit

section
variable {E : World → World → Prop} {P : Program} {Q : Exit → Act → World → Prop} {l : List Oper} {Rs : List (Value → World → Prop)} {a0 : Act} {w0 : World} {z : Oper}

/-- It waits for j at once. -/
def afterB (o : Oper) (j : Nat) : Bool := o.after.any fun e => Region.binds .any e && e.on == j

/-- The last one waits for j, by way of at most n others. -/
def waitsB (l : List Oper) (z : Oper) : Nat → Nat → Bool
  | 0, j => afterB z j
  | n + 1, j => afterB z j || (List.range l.length).any fun k => (match l[k]? with | some o => afterB o j | none => false) && waitsB l z n k

/-- The last one waits for all others. -/
def waitB (l : List Oper) (z : Oper) : Bool := (List.range l.length).all fun j => waitsB l z 5 j

theorem afterB_spec {o : Oper} {j : Nat} (h : afterB o j = true) : ∃ e ∈ o.after, Region.binds .any e = true ∧ e.on = j := by
  unfold afterB at h
  rw [Array.any_eq_true] at h
  obtain ⟨i, hi, hb⟩ := h
  simp at hb
  exact ⟨o.after[i], by simp, hb.1, hb.2⟩

theorem waitsB_spec {listed : Array Bool} (hall : ∀ e ∈ z.after, Region.binds .any e = true → listed.getD e.on false = true) (hcl : ∀ (k : Nat) (p : Oper), l[k]? = some p → listed.getD k false = true → ∀ e ∈ p.after, Region.binds .any e = true → listed.getD e.on false = true) : ∀ (n j : Nat), waitsB l z n j = true → listed.getD j false = true := by
  intro n
  induction n with
  | zero =>
    intro j h
    obtain ⟨e, he, hb, rfl⟩ := afterB_spec h
    exact hall e he hb
  | succ n ih =>
    intro j h
    unfold waitsB at h
    rcases Bool.or_eq_true_iff.1 h with h | h
    · obtain ⟨e, he, hb, rfl⟩ := afterB_spec h
      exact hall e he hb
    · obtain ⟨k, -, hk⟩ := List.any_eq_true.1 h
      obtain ⟨h1, h2⟩ := Bool.and_eq_true_iff.1 hk
      cases hl : l[k]? with
      | none => rw [hl] at h1; cases h1
      | some o =>
        rw [hl] at h1
        obtain ⟨e, he, hb, rfl⟩ := afterB_spec h1
        exact hcl k o hl (ih k h2) e he hb

theorem waitB_spec {listed : Array Bool} (h : waitB l z = true) {j : Nat} (hj : j < l.length) (hall : ∀ e ∈ z.after, Region.binds .any e = true → listed.getD e.on false = true) (hcl : ∀ (k : Nat) (p : Oper), l[k]? = some p → listed.getD k false = true → ∀ e ∈ p.after, Region.binds .any e = true → listed.getD e.on false = true) : listed.getD j false = true := by
  unfold waitB at h
  exact waitsB_spec hall hcl 5 j (List.all_eq_true.1 h j (by simpa using hj))

theorem wpAny_wait (hB : stableB (l ++ [z]) = true) (hlen : Rs.length = l.length) (hlast : waitB l z = true) (htr : ∀ x y z, E x y → E y z → E x z) (hst : ∀ R ∈ Rs, ∀ v x y, R v x → E x y → R v y)
    (hsteps : StepsS E P (l ++ [z]).toArray w0 l Rs [] a0) (hfin : ∀ w', E w0 w' → FinS (fun _ a w => wpList P (l ++ [z]).toArray Q [z] a w) w' l Rs a0) :
    ∀ (fuel : Nat) (listed : Array Bool) (a : Act) (w : World) (vs : Nat → Value), listed.toList.count false = fuel + 1 → listed.getD l.length true = false → InvS E (l ++ [z]) Rs a0 w0 listed a w vs → wpAny P .any (l ++ [z]).toArray Q (fuel + 1) listed a w := by
  intro fuel
  induction fuel with
  | zero =>
    intro listed a w vs hc hz h
    have hzl : l.length < listed.size := by rw [h.size]; simp
    have hone : ∀ i, i < l.length → listed.getD i false = true := by
      intro i hi
      have hi' : i < listed.size := by omega
      refine getD_true_of hi' fun hu => ?_
      have h1 : listed[i] = false := by simpa [hi'] using hu
      have h2 : listed[l.length] = false := by simpa [hzl] using hz
      have hset := List.count_set (a := true) (b := false) (i := i) (l := listed.toList) (by simpa using hi')
      have hm : false ∈ listed.toList.set i true := by
        refine List.mem_iff_getElem.2 ⟨l.length, by simpa using hzl, ?_⟩
        rw [List.getElem_set_ne (by omega)]
        simpa using h2
      have hpos := List.count_pos_iff.2 hm
      rw [hset, hc] at hpos
      simp [h1] at hpos
    refine ⟨fun hr => ?_, fun i hi => ?_⟩
    · exfalso
      have := h.ready_nil hB hr l.length (by simp)
      rw [getD_false_true hz] at this
      cases this
    · obtain ⟨hu, o, ho', hall⟩ := mem_ready.1 hi
      have ho : (l ++ [z])[i]? = some o := by simpa using ho'
      have hil : i < (l ++ [z]).length := (List.getElem?_eq_some_iff.1 ho).1
      have hiL : i = l.length := by
        by_cases hiL : i < l.length
        · have := hone i hiL
          rw [getD_false_true hu] at this
          cases this
        · simp at hil
          omega
      subst hiL
      obtain rfl : z = o := by simpa using ho
      have h1 := fin_at l Rs a0 vs (hfin w h.moved) hlen (fun i R hi => h.holds i R (hone i (by rw [← hlen]; exact (List.getElem?_eq_some_iff.1 hi).1)) hi)
      have h2 : a = lexP (l ++ [z]) vs l.length a0 := h.shape.eq (lexP_sh (l ++ [z]) (apart_of hB) vs a0 l.length (by simp)) (fun j t hd => by
        have hj : j < (l ++ [z]).length := by
          unfold dstAt at hd
          cases ho : (l ++ [z])[j]? with
          | none => simp [ho] at hd
          | some o => exact (List.getElem?_eq_some_iff.1 ho).1
        constructor
        · intro hj'
          by_cases hjl : j < l.length
          · exact hjl
          · simp at hj
            have : j = l.length := by omega
            rw [this, getD_false_true hz] at hj'
            cases hj'
        · exact fun hj' => hone j hj')
      rw [lexP_prefix l z vs l.length a0 (Nat.le_refl _)] at h2
      rw [h2]
      refine wpOp_of_last ho' h1 fun a' w' hQ => ⟨?_, hQ⟩
      apply List.eq_nil_iff_forall_not_mem.2
      intro j hj
      obtain ⟨hu', o', ho'', _⟩ := mem_ready.1 hj
      have hjl : j < (l ++ [z]).length := by
        have := (Array.getElem?_eq_some_iff.1 ho'').1
        simpa using this
      by_cases hjL : j = l.length
      · subst hjL
        have := getD_false_true hu'
        simp [hzl] at this
      · simp at hjl
        rw [getD_set_ne true (fun e => hjL e.symm)] at hu'
        have := hone j (by omega)
        rw [getD_false_true hu'] at this
        cases this
  | succ fuel ih =>
    intro listed a w vs hc hz h
    refine ⟨fun hr => ?_, fun i hi => ?_⟩
    · exfalso
      have := h.ready_nil hB hr l.length (by simp)
      rw [getD_false_true hz] at this
      cases this
    obtain ⟨hu, o, ho', hall⟩ := mem_ready.1 hi
    have ho : (l ++ [z])[i]? = some o := by simpa using ho'
    have hil' : i < (l ++ [z]).length := (List.getElem?_eq_some_iff.1 ho).1
    have hil : i < l.length := by
      by_cases hil : i < l.length
      · exact hil
      · exfalso
        have hiL : i = l.length := by simp at hil'; omega
        subst hiL
        obtain rfl : z = o := by simpa using ho
        have hone : ∀ j, j < l.length → listed.getD j false = true := fun j hj => waitB_spec hlast hj hall fun k p hp hk e he hb => h.closed k p (by rw [List.getElem?_append_left (List.getElem?_eq_some_iff.1 hp).1]; exact hp) hk e he hb
        have hzl : l.length < listed.size := by rw [h.size]; simp
        have hls : listed.toList = List.replicate l.length true ++ [false] := by
          refine List.ext_getElem (by simp [h.size]) fun j h1 h2 => ?_
          have h1' : j < listed.size := by simpa using h1
          by_cases hj : j < l.length
          · have := hone j hj
            rw [List.getElem_append_left (by simpa using hj)]
            simpa [h1'] using this
          · have hjl : j = l.length := by rw [h.size] at h1'; simp at h1'; omega
            subst hjl
            rw [List.getElem_append_right (by simp)]
            simpa [hzl] using hz
        rw [hls] at hc
        simp [List.count_replicate] at hc
    have hol : l[i]? = some o := by rw [List.getElem?_append_left hil] at ho; exact ho
    obtain ⟨R, hR⟩ : ∃ R, Rs[i]? = some R := ⟨Rs[i]'(by omega), by simp [show i < Rs.length by omega]⟩
    have hsp := stableB_spec hB ho
    have hd : depFacts ([] ++ zipDone Rs vs i) w o.after.toList := depFacts_of _ fun e he hb x hx => by
      have hz := zipDone_get Rs vs i e.on x (by simpa using hx)
      rw [hz.2]
      exact h.holds e.on x.1 (hall e (by simpa using he) hb) hz.1
    have hw := steps_at i l Rs [] a0 vs o R w hsteps hol hR h.moved hd
    have hag := h.agree hB ho hu hall
    rw [lexP_prefix l z vs i a0 (by omega)] at hag
    have hdst : dstAt (l ++ [z]) i = o.dst := by simp [dstAt, ho]
    refine wpOp_of_SQ ho' ?_ (execOp_agree o hsp.1 _ _ hag) (wanted_agree o _ _ hag) hw ?_
    · rw [h.shape.size, ← lexP_prefix l z vs i a0 (by omega), (lexP_sh (l ++ [z]) (apart_of hB) vs a0 i (by simp; omega)).size]
    · intro v w' hE hRv
      have hui := getD_false_true hu
      have hsz : i < listed.size := by rw [h.size]; exact hil'
      have hset : ∀ j, (listed.setIfInBounds i true).getD j false = true ↔ listed.getD j false = true ∨ j = i := by
        intro j
        by_cases hij : i = j
        · subst hij; simp [hsz]
        · rw [getD_set_ne false hij]
          constructor
          · exact .inl
          · rintro (h1 | h1)
            · exact h1
            · exact absurd h1.symm hij
      refine ih _ _ _ (fun j => if j = i then v else vs j) ?_ ?_ ⟨by simp [h.size], htr _ _ _ h.moved hE, ?_, ?_, ?_⟩
      · have hli : listed.toList[i]'(by simpa using hsz) = false := by
          have : listed[i] = false := by simpa [hsz] using hu
          simpa using this
        rw [Array.toList_setIfInBounds, List.count, List.countP_set (by simpa using hsz)]
        rw [List.count] at hc
        rw [hc, hli, if_pos (by rfl), if_neg (by decide)]
        omega
      · rw [getD_set_ne true (by omega)]
        exact hz
      · rw [← hdst]
        refine h.shape.put (apart_of hB) i (by rw [hui]; simp) hset v (fun j hj => ?_) (by simp)
        have hji : j ≠ i := fun e => by rw [e, hui] at hj; cases hj
        simp [hji]
      · intro j R' hj hR'
        rcases (hset j).1 hj with hj' | rfl
        · have hji : j ≠ i := fun e => by rw [e, hui] at hj'; cases hj'
          simp only [hji, if_false]
          exact hst R' (List.mem_of_getElem? hR') _ _ _ (h.holds j R' hj' hR') hE
        · rw [hR] at hR'
          obtain rfl := Option.some.inj hR'
          simpa using hRv
      · intro j p hp hj e he hb
        rcases (hset j).1 hj with hj' | rfl
        · exact (hset e.on).2 (.inl (h.closed j p hp hj' e he hb))
        · rw [ho] at hp
          obtain rfl := Option.some.inj hp
          exact (hset e.on).2 (.inl (hall e he hb))

/-- The law: a region that draws its order, and ends with one operation that waits for all others. -/
theorem wp_region_wait {id : Nat} {w : World} (l : List Oper) (z : Oper) {ops : Array Oper} (hops : ops = (l ++ [z]).toArray) (E : World → World → Prop) (Rs : List (Value → World → Prop)) (hm : P.follows .mixedOrders = true) (hB : stableB (l ++ [z]) = true) (hlast : waitB l z = true) (hlen : Rs.length = l.length)
    (hrefl : ∀ x, E x x) (htr : ∀ x y z, E x y → E y z → E x z) (hst : ∀ R ∈ Rs, ∀ v x y, R v x → E x y → R v y)
    (hsteps : StepsS E P (l ++ [z]).toArray { w with drawn := w.drawn + 1 } l Rs [] a0) (hfin : ∀ w', E { w with drawn := w.drawn + 1 } w' → FinS (fun _ a w => wpList P (l ++ [z]).toArray Q [z] a w) w' l Rs a0) : (Code.region id ops true).wp P Q a0 w := by
  subst hops
  refine wp_region_any hm ?_
  have hsz : (l ++ [z]).toArray.size = l.length + 1 := by simp
  rw [hsz]
  refine wpAny_wait hB hlen hlast htr hst hsteps hfin _ _ _ _ (fun _ => undef) (by simp) (by simp) ⟨by simp, hrefl _, ⟨rfl, rfl, fun _ _ => rfl, fun j t hj => ?_⟩, fun i R hi => ?_, fun j o _ hj => ?_⟩
  · rw [replicate_getD] at hj; cases hj
  · rw [replicate_getD] at hi; cases hi
  · rw [replicate_getD] at hj; cases hj

end

end Go.Proofs.Ytjggiameajndgac

/-
  What the program's mend.Stripe returns: an array of the call's own. Nothing old turns.
-/
namespace Go.Proofs.Ytjggiameajndgac
open Go.RowKit

/-- A row of four, behind n, of the call's own. -/
def New4 (n : Nat) (cs : List (List Int)) (v : Value) (w : World) : Prop := ∃ r, n ≤ r ∧ v = .slice (some ⟨r, 0, none⟩) 4 4 ∧ DRow r cs w
theorem New4.stable {n : Nat} (cs : List (List Int)) : ∀ (v : Value) (x y : World), New4 n cs v x → Grow x y → New4 n cs v y := fun _ _ _ ⟨r, h1, h2, h3⟩ hg => ⟨r, h1, h2, h3.grow hg⟩

/-- The result's two cells, set. -/
theorem mend_end {w wr : World} {q : Nat} {dv iv u0 u1 : Value} {bs : List Nat} {a : ArrP} {B : Nat} (hB : wr.heap[q]? = some (.cells #[u0, u1] 26 (0, 0))) (hO : OwnA B bs wr dv iv a) (hg : Grow w wr) (hq : w.heap.size ≤ q) (hb : w.heap.size ≤ B) :
    Hid (OwnA w.heap.size bs ((wr.setCell ⟨q, 0, none⟩ dv).setCell ⟨q, 1, none⟩ iv) dv iv a ∧ Grow w ((wr.setCell ⟨q, 0, none⟩ dv).setCell ⟨q, 1, none⟩ iv)) ∧
    ((wr.setCell ⟨q, 0, none⟩ dv).setCell ⟨q, 1, none⟩ iv).cell? ⟨q, 0, none⟩ = some dv ∧ ((wr.setCell ⟨q, 0, none⟩ dv).setCell ⟨q, 1, none⟩ iv).cell? ⟨q, 1, none⟩ = some iv := by
  have h1 := two_set0 (z := dv) hB
  have h2 := two_set1 (z := iv) h1
  exact ⟨⟨((hO.k4 (K4.set hB)).k4 (K4.set h1)).low hb, (hg.set hq _).set hq _⟩, two_at0 h2, two_at1 h2⟩

set_option maxRecDepth 20000 in
set_option maxHeartbeats 6400000 in
theorem mendStripe_any (v : Value) (a : ArrP) (s : Int) (w : World) (h : ArrV w v a) (ha : Whole a) (h8 : ∀ d s, (cellAt a d s).length ≤ 8) (hI : Few a) :
    Calls Try.prog 16 #[v, .int .i64 s] w fun e w' => ∃ bs dv iv, e = .returned (.tuple #[.agg #[dv, iv], .int .i64 (mendN a s), .int .i64 (mendE a s)]) ∧ OwnA w.heap.size bs w' dv iv (mendL a s) ∧ Grow w w' := by
  have harr := h
  obtain ⟨a1, n1, c1, a2, n2, c2, rfl⟩ := h.form
  clear h
  obtain ⟨W, hW⟩ : ∃ W, W = (w.alloc (.cells #[.slice a1 n1 c1, .slice a2 n2 c2] 26)).alloc (.cells #[.slice none 0 0, .slice none 0 0] 26) := ⟨_, rfl⟩
  have hgW : Grow w W := by rw [hW]; exact (Grow.alloc _ _).trans (Grow.alloc _ _)
  have H1 : W.heap[w.heap.size]? = some (.cells #[.slice a1 n1 c1, .slice a2 n2 c2] 26 (0, 0)) := by rw [hW]; exact (heap_alloc_old _ _ (by simp)).trans (heap_alloc_new w _)
  have HR : Hid (W.heap[w.heap.size + 1]? = some (.cells #[.slice none 0 0, .slice none 0 0] 26 (0, 0))) := by rw [Hid, hW]; exact heap_alloc2_new w _ _
  have k0 := two_at0 H1
  have k1 := two_at1 H1
  have HA : Hid (ArrV w (.agg #[.slice a1 n1 c1, .slice a2 n2 c2]) a ∧ Whole a ∧ (∀ d s, (cellAt a d s).length ≤ 8)) := ⟨harr, ha, h8⟩
  have hOw := own_any (.agg #[.slice a1 n1 c1, .slice a2 n2 c2]) a W (harr.grow hgW) ha h8 hI
  clear harr ha h8 hI H1
  go_enter Try.func16, Try.ntmps16
  go_wp2_with fail
  rw [← hW]
  clear hW
  refine hOw.mono ?_
  rintro e w1 ⟨bs, dv, iv, rfl, hO, hg1⟩
  clear hOw
  obtain ⟨⟨x1, x2, x3, rfl⟩, y1, y2, y3, rfl⟩ := hO.forms
  obtain ⟨q, hq⟩ : ∃ q, q = w1.heap.size := ⟨_, rfl⟩
  obtain ⟨W2, hW2⟩ : ∃ W2, W2 = w1.alloc (.cells #[.slice x1 x2 x3, .slice y1 y2 y3] 26) := ⟨_, rfl⟩
  have hg2 : Grow w1 W2 := by rw [hW2]; exact Grow.alloc _ _
  have HQ : Hid (W2.heap[q]? = some (.cells #[.slice x1 x2 x3, .slice y1 y2 y3] 26 (0, 0)) ∧ w.heap.size + 1 < q) := ⟨by rw [hW2, hq]; exact heap_alloc_new w1 _, by have := heap_lt HR.out; have := hg1.size; omega⟩
  have HO : Hid (OwnA W.heap.size bs W2 (.slice x1 x2 x3) (.slice y1 y2 y3) a) := hO.k4 hg2.k4
  have hg02 := hg1.trans hg2
  have hgw := hgW.trans hg02
  have HR2 : Hid (W2.heap[w.heap.size + 1]? = some (.cells #[.slice none 0 0, .slice none 0 0] 26 (0, 0))) := hg02.block' HR.out
  have HB : Hid (w.heap.size ≤ W.heap.size) := hgW.size
  have hTh := there_any 0 s W2
  have j0 := hg02.at k0
  have j1 := hg02.at k1
  clear hO hg1 hg2 k0 k1 HR hg02 hgW
  by_cases hs : s < 0 ∨ 2 < s
  · have HE : Hid ((mendN a s : Int) = 0 ∧ mendE a s = 3 ∧ mendL a s = a) := ⟨by rw [mendN, if_pos hs]; rfl, if_pos hs, if_pos (.inl hs)⟩
    rw [show thereB 0 s = false from by simp [thereB]; omega] at hTh
    clear hs
    go_wp2_with fail
    rw [← hW2, ← hq]
    clear hW2 hq
    refine hTh.mono ?_
    rintro e w3 ⟨rfl, rfl⟩
    obtain ⟨HF, z0, z1⟩ := mend_end HR2.out HO.out hgw (by omega) HB.out
    have b0 := two_at0 HQ.out.1
    have b1 := two_at1 HQ.out.1
    have r0 := two_at0 HR2.out
    have r1 := two_at1 HR2.out
    have f0 : w3.frozen? ⟨w.heap.size + 1, 0, none⟩ = false := frozen_of_row w3 _ 0 _ _ HR2.out
    have f1 : w3.frozen? ⟨w.heap.size + 1, 1, none⟩ = false := frozen_of_row w3 _ 1 _ _ HR2.out
    go_wp2
    refine bodyPost_ret (results_two2 Try.results16 _ _ (w.heap.size + 1) _ rfl Try.underlying26 rfl Try.sizeA z0 z1) rfl ?_
    exact ⟨_, _, _, ret_arr3 HE.out.1.symm HE.out.2.1.symm, by rw [HE.out.2.2]; exact HF.out.1, HF.out.2⟩
  · obtain ⟨s, rfl⟩ := Int.eq_ofNat_of_zero_le (show 0 ≤ s by omega)
    have hs3 : s < 3 := by omega
    have HE : Hid (mendN a (s : Int) = badN a s ∧ mendE a (s : Int) = dataE (cellsL a s) s ∧ (dataE (cellsL a s) s ≠ 0 → mendL a (s : Int) = a) ∧ (dataE (cellsL a s) s = 0 → mendL a (s : Int) = putTo a (makeL (dataL (cellsL a s) s) s) s 4)) :=
      ⟨(if_neg hs).trans (by simp), (if_neg hs).trans (by simp), fun h => if_pos (.inr (by simpa using h)), fun h => (if_neg (by simp only [Int.toNat_natCast]; exact fun h' => h'.elim hs (fun h' => h' h))).trans (by simp)⟩
    rw [show thereB 0 (s : Int) = true from by simp [thereB]; omega] at hTh
    have hl4 : (cellsL a s).length = 4 := by rw [cellsL_length, HA.out.2.1.1]
    have HL : Hid ((cellsL a s).length = 4) := hl4
    have hCl := stripeCells_row (.agg #[.slice a1 n1 c1, .slice a2 n2 c2]) a s W2 (HA.out.1.grow hgw) HA.out.2.1 HA.out.2.2 hs3
    clear hs
    go_wp2_with fail
    rw [← hW2, ← hq]
    clear hW2 hq
    refine hTh.mono ?_
    rintro e w3 ⟨rfl, rfl⟩
    clear hTh
    go_wp2_with fail
    refine hCl.mono ?_
    rintro e w4 ⟨rc, rfl, hrc, hg4⟩
    have hcB : Bss w4 rc (cellsL a s) := hrc.done
    obtain ⟨ac, cc, rfl⟩ := Sl.form hcB
    rw [hl4] at hcB ⊢
    clear hCl hrc j0 j1 hl4
    go_wp2_with fail
    refine (stripeBad_any _ _ s _ hcB HL.out hs3).mono ?_
    rintro e w5 ⟨rb, rfl, hrb, hg5⟩
    obtain ⟨ab, cb, rfl, hb1, hb2⟩ := hrb.form'
    have hlen : (ints (badL (cellsL a s) s)).length = badN a s := by simp [ints, badN]
    rw [hlen] at hb1 ⊢
    clear hrb hlen
    go_wp2_with fail
    refine (stripeData_bss _ _ s _ none (Bss.grow hcB hg5) (fun _ h => nomatch h) HL.out hs3).mono ?_
    rintro e w6 ⟨rd, rfl, hrd, hg6⟩
    have hdB : Bss w6 rd (dataL (cellsL a s) s) := Sl.off hrd.done
    have hg36 := (hg4.trans hg5).trans hg6
    have hgw6 := hgw.trans hg36
    have HQ6 : Hid (w6.heap[q]? = some (.cells #[.slice x1 x2 x3, .slice y1 y2 y3] 26 (0, 0)) ∧ w.heap.size + 1 < q) := ⟨hg36.block' HQ.out.1, HQ.out.2⟩
    have HR6 : Hid (w6.heap[w.heap.size + 1]? = some (.cells #[.slice none 0 0, .slice none 0 0] 26 (0, 0))) := hg36.block' HR2.out
    have HO6 : Hid (OwnA W.heap.size bs w6 (.slice x1 x2 x3) (.slice y1 y2 y3) a) := HO.out.k4 hg36.k4
    clear hcB hrd hg4 hg5 hg6 HQ HR2 HO hg36
    have b0 := two_at0 HQ6.out.1
    have b1 := two_at1 HQ6.out.1
    by_cases hde : dataE (cellsL a s) s = 0
    · have hdb := dataL_blocks hde
      have hdl := dataL_length hde
      rw [HL.out] at hdl
      have Hf : Hid (mendN a (s : Int) = badN a s ∧ mendE a (s : Int) = 0 ∧ mendL a (s : Int) = putTo a (makeL (dataL (cellsL a s) s) s) s 4) := ⟨HE.out.1, HE.out.2.1.trans hde, HE.out.2.2.2 hde⟩
      have HCL : Hid ((makeL (dataL (cellsL a s) s) (s : Int)).length = 4) := by rw [Hid, makeL_length, hdl]
      obtain ⟨d1, d2, rfl⟩ := Sl.form hdB
      have HMk : Hid (∀ w', Grow w6 w' → Calls Try.prog 50 #[.slice d1 (dataL (cellsL a s) s).length d2, .int .i64 s] w' fun e w'' => e = .returned (.slice (some ⟨w'.heap.size, 0, none⟩) 4 4) ∧ DRow w'.heap.size (makeL (dataL (cellsL a s) s) s) w'' ∧ Grow w' w'') := fun w' hg => stripeMake_own _ _ s w' (hdB.grow hg) hdl hs3 hdb
      clear HE hdB hdb
      rw [hdl] at HMk ⊢
      clear hdl
      generalize makeL (dataL (cellsL a s) s) (s : Int) = cs at *
      generalize dataE (cellsL a s) s = E at *
      subst hde
      generalize badN a s = bn at *
      go_wp2
      refine wp_region_wait [_, _, _, _, _, _] _ rfl Grow [IsV (.pointer (some ⟨q, 0, none⟩)), IsV (.slice x1 x2 x3), IsV (.int .i64 s), IsV (.slice d1 4 d2), IsV (.int .i64 s), New4 w6.heap.size cs] (by kernel_rfl) (by kernel_rfl) (by kernel_rfl) rfl Grow.refl (fun _ _ _ => Grow.trans) ?_ ?_ ?_
      · repeat (refine List.forall_mem_cons.2 ⟨by first | exact IsV.stable _ | exact New4.stable _, ?_⟩)
        exact fun R hR => nomatch hR
      · skip
        refine StepsS.cons ?_ fun v0 => ⟨_, _, by simp only [Act.put, List.setIfInBounds_toArray, List.set_cons_succ, List.set_cons_zero]; first | done | rfl, by simp only [List.nil_append]; first | done | rfl, ?_⟩
        · intro w1 hE hd
          clear hd
          go_wp2
          exact ⟨_, rfl, Grow.refl _, rfl⟩
        refine StepsS.cons ?_ fun v1 => ⟨_, _, by simp only [Act.put, List.setIfInBounds_toArray, List.set_cons_succ, List.set_cons_zero]; first | done | rfl, by simp only [List.nil_append, List.cons_append]; first | done | rfl, ?_⟩
        · intro w1 hE hd
          obtain rfl := IsV.eq (dep_at hd 0 rfl rfl rfl)
          clear hd
          have q0 := hE.drew.at b0
          go_wp2
          exact ⟨_, rfl, Grow.refl _, rfl⟩
        refine StepsS.cons ?_ fun v2 => ⟨_, _, by simp only [Act.put, List.setIfInBounds_toArray, List.set_cons_succ, List.set_cons_zero]; first | done | rfl, by simp only [List.nil_append, List.cons_append]; first | done | rfl, ?_⟩
        · intro w1 hE hd
          clear hd
          go_wp2
          exact ⟨_, rfl, Grow.refl _, rfl⟩
        refine StepsS.cons ?_ fun v3 => ⟨_, _, by simp only [Act.put, List.setIfInBounds_toArray, List.set_cons_succ, List.set_cons_zero]; first | done | rfl, by simp only [List.nil_append, List.cons_append]; first | done | rfl, ?_⟩
        · intro w1 hE hd
          clear hd
          go_wp2
          exact ⟨_, rfl, Grow.refl _, rfl⟩
        refine StepsS.cons ?_ fun v4 => ⟨_, _, by simp only [Act.put, List.setIfInBounds_toArray, List.set_cons_succ, List.set_cons_zero]; first | done | rfl, by simp only [List.nil_append, List.cons_append]; first | done | rfl, ?_⟩
        · intro w1 hE hd
          clear hd
          go_wp2
          exact ⟨_, rfl, Grow.refl _, rfl⟩
        refine StepsS.cons ?_ fun v5 => ⟨_, _, by simp only [Act.put, List.setIfInBounds_toArray, List.set_cons_succ, List.set_cons_zero]; first | done | rfl, by simp only [List.nil_append, List.cons_append]; first | done | rfl, ?_⟩
        · intro w1 hE hd
          obtain rfl := IsV.eq (dep_at hd 0 rfl rfl rfl)
          obtain rfl := IsV.eq (dep_at hd 1 rfl rfl rfl)
          clear hd
          go_wp2_with fail
          refine (HMk.out _ hE.drew).mono ?_
          rintro e w5 ⟨rfl, hr, hg5⟩
          go_wp2_with fail
          exact ⟨_, rfl, hg5, _, hE.drew.size, rfl, hr⟩
        trivial
      intro wR hwR
      refine FinS.cons ?_; rintro _ rfl; refine ⟨_, by simp only [Act.put, List.setIfInBounds_toArray, List.set_cons_succ, List.set_cons_zero]; first | done | rfl, ?_⟩
      refine FinS.cons ?_; rintro _ rfl; refine ⟨_, by simp only [Act.put, List.setIfInBounds_toArray, List.set_cons_succ, List.set_cons_zero]; first | done | rfl, ?_⟩
      refine FinS.cons ?_; rintro _ rfl; refine ⟨_, by simp only [Act.put, List.setIfInBounds_toArray, List.set_cons_succ, List.set_cons_zero]; first | done | rfl, ?_⟩
      refine FinS.cons ?_; rintro _ rfl; refine ⟨_, by simp only [Act.put, List.setIfInBounds_toArray, List.set_cons_succ, List.set_cons_zero]; first | done | rfl, ?_⟩
      refine FinS.cons ?_; rintro _ rfl; refine ⟨_, by simp only [Act.put, List.setIfInBounds_toArray, List.set_cons_succ, List.set_cons_zero]; first | done | rfl, ?_⟩
      refine FinS.cons fun v5 h5 => ⟨_, by simp only [Act.put, List.setIfInBounds_toArray, List.set_cons_succ, List.set_cons_zero]; first | done | rfl, ?_⟩
      show wpList _ _ _ _ _ _
      obtain ⟨r, hrn, rfl, hrow⟩ := h5
      have hgR : Grow w6 wR := hwR.drew
      have HOR : Hid (OwnA W.heap.size bs wR (.slice x1 x2 x3) (.slice y1 y2 y3) a) := HO6.out.k4 hgR.k4
      have hPut := mendPut_any _ bs _ _ a s r cs wR HOR.out hrow (fun hm => by have := HO6.out.disks.lt r hm; omega) HCL.out hs3
      have hbq := hgR.block' HQ6.out.1
      have hbr := hgR.block' HR6.out
      have hgwR := hgw6.trans hgR
      clear HMk hwR hrow hrn b0 b1
      go_wp2_with fail
      refine hPut.mono ?_
      rintro e w8 ⟨⟨r8, rfl⟩, hO8, hG8⟩
      have HQ8 : w8.heap[q]? = some (.cells #[.slice x1 x2 x3, .slice y1 y2 y3] 26 (0, 0)) := (hG8.block _ (heap_lt hbq) (HOR.out.other hbq (by decide))).trans hbq
      have HR8 : w8.heap[w.heap.size + 1]? = some (.cells #[.slice none 0 0, .slice none 0 0] 26 (0, 0)) := (hG8.block _ (heap_lt hbr) (HOR.out.other hbr (by decide))).trans hbr
      have hgw8 : Grow w w8 := hgwR.thenIn hG8 (fun b hb => by have := HOR.out.disks.base b hb; have := HB.out; omega)
      have b0 := two_at0 HQ8
      have b1 := two_at1 HQ8
      obtain ⟨HF, z0, z1⟩ := mend_end HR8 hO8 hgw8 (by omega) HB.out
      have r0 := two_at0 HR8
      have r1 := two_at1 HR8
      have f0 : w8.frozen? ⟨w.heap.size + 1, 0, none⟩ = false := frozen_of_row w8 _ 0 _ _ HR8
      have f1 : w8.frozen? ⟨w.heap.size + 1, 1, none⟩ = false := frozen_of_row w8 _ 1 _ _ HR8
      clear hPut hO8 hG8 HQ8 HR8 hbq hbr HOR HQ6 HR6 HO6
      go_wp2
      refine bodyPost_ret (results_two2 Try.results16 _ _ (w.heap.size + 1) _ rfl Try.underlying26 rfl Try.sizeA z0 z1) rfl ?_
      exact ⟨_, _, _, ret_arr3 (by rw [Hf.out.1]) Hf.out.2.1.symm, by rw [Hf.out.2.2]; exact HF.out.1, HF.out.2⟩
    · obtain ⟨HF, z0, z1⟩ := mend_end HR6.out HO6.out hgw6 (by omega) HB.out
      have hfin : Hid (mendN a (s : Int) = badN a s ∧ mendE a (s : Int) = dataE (cellsL a s) s ∧ mendL a (s : Int) = a) := ⟨HE.out.1, HE.out.2.1, HE.out.2.2.1 hde⟩
      have r0 := two_at0 HR6.out
      have r1 := two_at1 HR6.out
      have f0 : w6.frozen? ⟨w.heap.size + 1, 0, none⟩ = false := frozen_of_row w6 _ 0 _ _ HR6.out
      have f1 : w6.frozen? ⟨w.heap.size + 1, 1, none⟩ = false := frozen_of_row w6 _ 1 _ _ HR6.out
      clear HE hdB HO6
      generalize dataE (cellsL a s) s = E at *
      generalize badN a s = bn at *
      have he' : (E != 0) = true := by simpa using hde
      go_wp2
      refine bodyPost_ret (results_two2 Try.results16 _ _ (w.heap.size + 1) _ rfl Try.underlying26 rfl Try.sizeA z0 z1) rfl ?_
      exact ⟨_, _, _, ret_arr3 (by rw [hfin.out.1]) hfin.out.2.1.symm, by rw [hfin.out.2.2]; exact HF.out.1, HF.out.2⟩

end Go.Proofs.Ytjggiameajndgac

/-
  What the reference's Do returns. Nothing old turns.
-/
namespace Go.Proofs.Ytjggiameajndgac
open Go.RowKit

theorem do_take_succ (ls : List (List Int)) (x : DeedP) (k : Nat) : (List.range k).map (doAt ls x) ++ [doAt ls x k] = (List.range (k + 1)).map (doAt ls x) := by simp [List.range_succ]

theorem doAt_data {ls : List (List Int)} {x : DeedP} {i : Nat} (h : x.k = 1) (hi : (i : Int) = x.n) : doAt ls x i = x.d := by rw [doAt, if_pos ⟨h, hi⟩]
theorem doAt_old {ls : List (List Int)} {x : DeedP} {i : Nat} (h : x.k = 1) (hi : (i : Int) ≠ x.n) : doAt ls x i = ls.getD i [] := by rw [doAt, if_neg (fun h => hi h.2), if_neg (by omega), if_neg (by omega)]
theorem doAt_n {ls : List (List Int)} {x : DeedP} {i : Nat} (h : x.k = 2) (hi : (i : Int) = x.n) : doAt ls x i = ls.getD x.m.toNat [] := by rw [doAt, if_neg (by omega), if_pos ⟨h, hi⟩]
theorem doAt_m {ls : List (List Int)} {x : DeedP} {i : Nat} (h : x.k = 2) (hi : (i : Int) ≠ x.n) (hj : (i : Int) = x.m) : doAt ls x i = ls.getD x.n.toNat [] := by rw [doAt, if_neg (by omega), if_neg (by omega), if_pos ⟨h, hj⟩]
theorem doAt_out {ls : List (List Int)} {x : DeedP} {i : Nat} (h : x.k = 2) (hi : (i : Int) ≠ x.n) (hj : (i : Int) ≠ x.m) : doAt ls x i = ls.getD i [] := by rw [doAt, if_neg (by omega), if_neg (by omega), if_neg (by omega)]

theorem whereE_zero {m : Int} (h : whereE m = 0) : 0 ≤ m ∧ m < 9 := by
  unfold whereE at h
  split at h
  · assumption
  · cases h

set_option maxRecDepth 20000 in
set_option maxHeartbeats 3200000 in
theorem refDo_write (v dv : Value) (ls : List (List Int)) (x : DeedP) (w : World) (h : Bss w v ls) (hd : DeedV w dv x) (hl : ls.length = 9) (hk1 : x.k = 1) :
    Calls Try.prog 72 #[v, dv] w fun e w' => ∃ r, e = .returned r ∧ Bss w' r (doL ls x) ∧ Grow w w' := by
  obtain ⟨i0, hi, hz0, hz1, hz2⟩ := info_parts Try.infoS
  obtain ⟨sv, rfl, hbd⟩ := hd
  obtain ⟨ad, nd, cd, rfl⟩ := hbd.form
  have hd1 := fun i => doAt_data (ls := ls) (x := x) (i := i) hk1
  have hd2 := fun i => doAt_old (ls := ls) (x := x) (i := i) hk1
  have HDL : Hid (doL ls x = (List.range 9).map (doAt ls x)) := by rw [Hid, doL, hl]
  have HT : Hid (∀ k, (List.range k).map (doAt ls x) ++ [doAt ls x k] = (List.range (k + 1)).map (doAt ls x)) := do_take_succ ls x
  generalize doL ls x = dl at *
  generalize doAt ls x = da at *
  obtain ⟨k, n, m, d⟩ := x
  dsimp only at *
  subst hk1
  obtain ⟨ao, cap, rfl, h1, h2, h3, h4⟩ := h
  obtain ⟨b, off, rfl, hc⟩ := h4 (by omega)
  have Hc : Hid (∀ k, k < 9 → ∃ ak n ck, w.cell? ⟨b, off + k, none⟩ = some (.slice ak n ck) ∧ Bs w (.slice ak n ck) (ls.getD k [])) := fun k hk => by
    obtain ⟨ak, ck, e1, e2⟩ := Sl.bytesAt hc (k := k) (by omega)
    exact ⟨_, _, _, e1, e2⟩
  have Hd : Hid ((∀ i : Nat, (i : Int) = n → da i = d) ∧ (∀ i : Nat, (i : Int) ≠ n → da i = ls.getD i [])) := ⟨hd1, hd2⟩
  unfold maxLen at h2
  rw [hl] at h1 ⊢
  clear hc h4 h3 hl hd1 hd2
  have hgA : Grow w (w.alloc (.cells #[.int .i64 1, .int .i64 n, .int .i64 m, .slice ad nd cd] 54)) := Grow.alloc _ _
  go_enter Try.func72, Try.ntmps72
  go_wp2
  obtain ⟨w1, hw1⟩ : ∃ w1, w1 = w.alloc (.cells #[.int .i64 1, .int .i64 n, .int .i64 m, .slice ad nd cd] 54) := ⟨_, rfl⟩
  have hc0 : w1.cell? ⟨w.heap.size, 0, none⟩ = some (.int .i64 1) := by rw [hw1]; simp
  have hc1 : w1.cell? ⟨w.heap.size, 1, none⟩ = some (.int .i64 n) := by rw [hw1]; simp
  have hc3 : w1.cell? ⟨w.heap.size, 3, none⟩ = some (.slice ad nd cd) := by rw [hw1]; simp
  rw [← hw1] at hgA ⊢
  clear hw1
  go_loopw [5, 10] (fun r i wr => ∃ k : Nat, k ≤ 9 ∧ i = .int .i64 k ∧ Hid (Rowing Bs w1.heap.size 52 wr r ((List.range k).map da)) ∧ Grow w1 wr) (fun _ i _ => 9 - (intOf i).toNat)
  case atStart => exact ⟨0, by omega, rfl, Rowing.nil _ _ _ _, Grow.refl _⟩
  case round =>
    obtain ⟨k, hk, rfl, HR, hgr⟩ := hrel
    by_cases hlt : k < 9
    · have c0 := hgr.at hc0
      have c1 := hgr.at hc1
      have c3 := hgr.at hc3
      obtain ⟨ak, nk, ck, hck, hbk⟩ := Hc.out k hlt
      have hck' := (hgA.trans hgr).at hck
      clear hc0 hc1 hc3 hck
      by_cases hkn : (k : Int) = n
      · have HD : Hid (da k = d) := Hd.out.1 k hkn
        have hoff : Off Bs u5.ownBlock wr (.slice ad nd cd) (da k) := by rw [HD.out]; exact Off.old Bs.stays (hbd.grow hgA) hgr (fun j hj => (HR.out.base j hj).1)
        have hT := HT.out k
        subst hkn
        go_wp2_with (first
          | (at_builtin; refine wpList_push rfl (.tmp 57) (.tmp 59) 41 rfl i0 (.slice none 0 0) 24 Try.underlying41 hi hz0 hz1 hz2 rfl w1 hgr rfl rfl HR.out rfl hoff wr.heap.size rfl rfl (by simp; omega) (by simp; omega) ?_; rintro v1 w2 - hrow1 hg2))
        rw [hT] at hrow1
        go_wp2
        go_roundw
        case rel => first | exact ⟨k + 1, by omega, by go_num, hrow1, hg2⟩ | ((repeat apply Exists.intro); exact ⟨⟨k + 1, by omega, by go_num, hrow1, hg2⟩, rfl⟩)
        case measure => simp [intOf]; omega
      · have HD : Hid (da k = ls.getD k []) := Hd.out.2 k hkn
        have hoff : Off Bs u5.ownBlock wr (.slice ak nk ck) (da k) := by rw [HD.out]; exact Off.old Bs.stays (hbk.grow hgA) hgr (fun j hj => (HR.out.base j hj).1)
        have hT := HT.out k
        go_wp2_with (first
          | (at_builtin; refine wpList_push rfl (.tmp 57) (.tmp 59) 41 rfl i0 (.slice none 0 0) 24 Try.underlying41 hi hz0 hz1 hz2 rfl w1 hgr rfl rfl HR.out rfl hoff wr.heap.size rfl rfl (by simp; omega) (by simp; omega) ?_; rintro v1 w2 - hrow1 hg2))
        rw [hT] at hrow1
        go_wp2
        go_roundw
        case rel => first | exact ⟨k + 1, by omega, by go_num, hrow1, hg2⟩ | ((repeat apply Exists.intro); exact ⟨⟨k + 1, by omega, by go_num, hrow1, hg2⟩, rfl⟩)
        case measure => simp [intOf]; omega
    · obtain rfl : k = 9 := by omega
      go_wp2
      go_ret
      exact ⟨_, rfl, by rw [HDL.out]; exact HR.out.done, hgA.trans hgr⟩

set_option maxRecDepth 20000 in
set_option maxHeartbeats 3200000 in
theorem refDo_swap (v dv : Value) (ls : List (List Int)) (x : DeedP) (w : World) (h : Bss w v ls) (hd : DeedV w dv x) (hl : ls.length = 9) (hk1 : x.k = 2) (hn : 0 ≤ x.n ∧ x.n < 9) (hm : 0 ≤ x.m ∧ x.m < 9) :
    Calls Try.prog 72 #[v, dv] w fun e w' => ∃ r, e = .returned r ∧ Bss w' r (doL ls x) ∧ Grow w w' := by
  obtain ⟨i0, hi, hz0, hz1, hz2⟩ := info_parts Try.infoS
  obtain ⟨sv, rfl, hbd⟩ := hd
  obtain ⟨ad, nd, cd, rfl⟩ := hbd.form
  have hd1 := fun i => doAt_n (ls := ls) (x := x) (i := i) hk1
  have hd2 := fun i => doAt_m (ls := ls) (x := x) (i := i) hk1
  have hd3 := fun i => doAt_out (ls := ls) (x := x) (i := i) hk1
  have HDL : Hid (doL ls x = (List.range 9).map (doAt ls x)) := by rw [Hid, doL, hl]
  have HT : Hid (∀ k, (List.range k).map (doAt ls x) ++ [doAt ls x k] = (List.range (k + 1)).map (doAt ls x)) := do_take_succ ls x
  generalize doL ls x = dl at *
  generalize doAt ls x = da at *
  obtain ⟨k, n, m, d⟩ := x
  dsimp only at *
  subst hk1
  obtain ⟨n, rfl⟩ := Int.eq_ofNat_of_zero_le hn.1
  obtain ⟨m, rfl⟩ := Int.eq_ofNat_of_zero_le hm.1
  have hn9 : n < 9 := by omega
  have hm9 : m < 9 := by omega
  clear hn hm
  simp only [Int.toNat_natCast] at hd1 hd2 hd3
  obtain ⟨ao, cap, rfl, h1, h2, h3, h4⟩ := h
  obtain ⟨b, off, rfl, hc⟩ := h4 (by omega)
  have Hc : Hid (∀ k, k < 9 → ∃ ak n ck, w.cell? ⟨b, off + k, none⟩ = some (.slice ak n ck) ∧ Bs w (.slice ak n ck) (ls.getD k [])) := fun k hk => by
    obtain ⟨ak, ck, e1, e2⟩ := Sl.bytesAt hc (k := k) (by omega)
    exact ⟨_, _, _, e1, e2⟩
  have Hd : Hid ((∀ i : Nat, i = n → da i = ls.getD m []) ∧ (∀ i : Nat, i ≠ n → i = m → da i = ls.getD n []) ∧ (∀ i : Nat, i ≠ n → i ≠ m → da i = ls.getD i [])) := ⟨fun i h => hd1 i (by omega), fun i h h' => hd2 i (by omega) (by omega), fun i h h' => hd3 i (by omega) (by omega)⟩
  unfold maxLen at h2
  rw [hl] at h1 ⊢
  clear hc h4 h3 hl hd1 hd2 hd3
  have hgA : Grow w (w.alloc (.cells #[.int .i64 2, .int .i64 n, .int .i64 m, .slice ad nd cd] 54)) := Grow.alloc _ _
  go_enter Try.func72, Try.ntmps72
  go_wp2
  obtain ⟨w1, hw1⟩ : ∃ w1, w1 = w.alloc (.cells #[.int .i64 2, .int .i64 n, .int .i64 m, .slice ad nd cd] 54) := ⟨_, rfl⟩
  have hc0 : w1.cell? ⟨w.heap.size, 0, none⟩ = some (.int .i64 2) := by rw [hw1]; simp
  have hc1 : w1.cell? ⟨w.heap.size, 1, none⟩ = some (.int .i64 n) := by rw [hw1]; simp
  have hc2 : w1.cell? ⟨w.heap.size, 2, none⟩ = some (.int .i64 m) := by rw [hw1]; simp
  rw [← hw1] at hgA ⊢
  clear hw1
  go_loopw [5, 10] (fun r i wr => ∃ k : Nat, k ≤ 9 ∧ i = .int .i64 k ∧ Hid (Rowing Bs w1.heap.size 52 wr r ((List.range k).map da)) ∧ Grow w1 wr) (fun _ i _ => 9 - (intOf i).toNat)
  case atStart => exact ⟨0, by omega, rfl, Rowing.nil _ _ _ _, Grow.refl _⟩
  case round =>
    obtain ⟨k, hk, rfl, HR, hgr⟩ := hrel
    by_cases hlt : k < 9
    · have c0 := hgr.at hc0
      have c1 := hgr.at hc1
      have c2 := hgr.at hc2
      obtain ⟨ak, nk, ck, hck, hbk⟩ := Hc.out k hlt
      obtain ⟨an, nn, cn, hcn, hbn⟩ := Hc.out n hn9
      obtain ⟨am, nm, cm, hcm, hbm⟩ := Hc.out m hm9
      have hck' := (hgA.trans hgr).at hck
      have hcn' := (hgA.trans hgr).at hcn
      have hcm' := (hgA.trans hgr).at hcm
      clear hc0 hc1 hc2 hck hcn hcm
      by_cases hkn : k = n
      · have HD : Hid (da k = ls.getD m []) := Hd.out.1 k hkn
        have hoff : Off Bs u5.ownBlock wr (.slice am nm cm) (da k) := by rw [HD.out]; exact Off.old Bs.stays (hbm.grow hgA) hgr (fun j hj => (HR.out.base j hj).1)
        have hT := HT.out k
        subst hkn
        go_wp2_with (first
          | (at_builtin; refine wpList_push rfl (.tmp 57) (.tmp 59) 41 rfl i0 (.slice none 0 0) 24 Try.underlying41 hi hz0 hz1 hz2 rfl w1 hgr rfl rfl HR.out rfl hoff wr.heap.size rfl rfl (by simp; omega) (by simp; omega) ?_; rintro v1 w2 - hrow1 hg2))
        rw [hT] at hrow1
        go_wp2
        go_roundw
        case rel => first | exact ⟨k + 1, by omega, by go_num, hrow1, hg2⟩ | ((repeat apply Exists.intro); exact ⟨⟨k + 1, by omega, by go_num, hrow1, hg2⟩, rfl⟩)
        case measure => simp [intOf]; omega
      · have hkn' : ¬ (k : Int) = n := by omega
        by_cases hkm : k = m
        · have HD : Hid (da k = ls.getD n []) := Hd.out.2.1 k hkn hkm
          have hoff : Off Bs u5.ownBlock wr (.slice an nn cn) (da k) := by rw [HD.out]; exact Off.old Bs.stays (hbn.grow hgA) hgr (fun j hj => (HR.out.base j hj).1)
          have hT := HT.out k
          subst hkm
          go_wp2_with (first
            | (at_builtin; refine wpList_push rfl (.tmp 57) (.tmp 59) 41 rfl i0 (.slice none 0 0) 24 Try.underlying41 hi hz0 hz1 hz2 rfl w1 hgr rfl rfl HR.out rfl hoff wr.heap.size rfl rfl (by simp; omega) (by simp; omega) ?_; rintro v1 w2 - hrow1 hg2))
          rw [hT] at hrow1
          go_wp2
          go_roundw
          case rel => first | exact ⟨k + 1, by omega, by go_num, hrow1, hg2⟩ | ((repeat apply Exists.intro); exact ⟨⟨k + 1, by omega, by go_num, hrow1, hg2⟩, rfl⟩)
          case measure => simp [intOf]; omega
        · have hkm' : ¬ (k : Int) = m := by omega
          have HD : Hid (da k = ls.getD k []) := Hd.out.2.2 k hkn hkm
          have hoff : Off Bs u5.ownBlock wr (.slice ak nk ck) (da k) := by rw [HD.out]; exact Off.old Bs.stays (hbk.grow hgA) hgr (fun j hj => (HR.out.base j hj).1)
          have hT := HT.out k
          go_wp2_with (first
            | (at_builtin; refine wpList_push rfl (.tmp 57) (.tmp 59) 41 rfl i0 (.slice none 0 0) 24 Try.underlying41 hi hz0 hz1 hz2 rfl w1 hgr rfl rfl HR.out rfl hoff wr.heap.size rfl rfl (by simp; omega) (by simp; omega) ?_; rintro v1 w2 - hrow1 hg2))
          rw [hT] at hrow1
          go_wp2
          go_roundw
          case rel => first | exact ⟨k + 1, by omega, by go_num, hrow1, hg2⟩ | ((repeat apply Exists.intro); exact ⟨⟨k + 1, by omega, by go_num, hrow1, hg2⟩, rfl⟩)
          case measure => simp [intOf]; omega
    · obtain rfl : k = 9 := by omega
      go_wp2
      go_ret
      exact ⟨_, rfl, by rw [HDL.out]; exact HR.out.done, hgA.trans hgr⟩

theorem refDo_any (v dv : Value) (ls : List (List Int)) (x : DeedP) (w : World) (h : Bss w v ls) (hd : DeedV w dv x) (hl : ls.length = 9) (hr : wrongE x = 0) :
    Calls Try.prog 72 #[v, dv] w fun e w' => ∃ r, e = .returned r ∧ Bss w' r (doL ls x) ∧ Grow w w' := by
  obtain ⟨hk, hn0, hn8, -, h2⟩ := right_deed hr
  rcases hk with hk | hk
  · exact refDo_write v dv ls x w h hd hl hk
  · exact refDo_swap v dv ls x w h hd hl hk (by omega) (whereE_zero (h2 hk).1)

end Go.Proofs.Ytjggiameajndgac

/-
  Plain: what a deed's intent is: a stripe's data spread over blocks, the deed done, gathered again, and the xor of it.
-/
namespace Go.Proofs.Ytjggiameajndgac

/-- Blocks of which the first k that are of stripe s are what that has. -/
def spreadTo (ds : List (List Int)) (s : Nat) (k : Nat) : List (List Int) := (List.range 9).map fun n => if n < k ∧ sOf (n : Nat) = s then ds.getD (dOf (n : Nat)) [] else nought

theorem spreadTo_length (ds : List (List Int)) (s k : Nat) : (spreadTo ds s k).length = 9 := by simp [spreadTo]
theorem spreadTo_zero (ds : List (List Int)) (s : Nat) : spreadTo ds s 0 = List.replicate 9 nought := by simp [spreadTo]; rfl

theorem spreadTo_in {ds : List (List Int)} {s k : Nat} (h : sOf (k : Nat) = s) : (spreadTo ds s k).set k (ds.getD (dOf (k : Nat)) []) = spreadTo ds s (k + 1) := by
  refine List.ext_getElem (by simp [spreadTo]) fun i h1 h2 => ?_
  rw [List.getElem_set]
  simp only [spreadTo, List.getElem_map, List.getElem_range]
  split
  · rename_i e; subst e; rw [if_pos ⟨by omega, h⟩]
  · by_cases hi : i < k ∧ sOf (i : Nat) = s
    · rw [if_pos hi, if_pos ⟨by omega, hi.2⟩]
    · rw [if_neg hi, if_neg (fun hc => hi ⟨by omega, hc.2⟩)]

theorem spreadTo_out {ds : List (List Int)} {s k : Nat} (h : sOf (k : Nat) ≠ s) : spreadTo ds s k = spreadTo ds s (k + 1) := by
  refine List.map_congr_left fun i _ => ?_
  by_cases hi : i < k ∧ sOf (i : Nat) = s
  · rw [if_pos hi, if_pos ⟨by omega, hi.2⟩]
  · rw [if_neg hi, if_neg (fun hc => hi ⟨by
      by_cases e : i = k
      · subst e; exact absurd hc.2 h
      · omega, hc.2⟩)]

/-- Of the first k blocks those of stripe s, by disks. -/
def outTo (bl : List (List Int)) (s : Nat) : Nat → List (List Int)
  | 0 => List.replicate 4 []
  | k + 1 => if sOf (k : Nat) = s then (outTo bl s k).set (dOf (k : Nat)) (bl.getD k []) else outTo bl s k

/-- The same, in a row. -/
def rowTo (bl : List (List Int)) (s : Nat) : Nat → List (List Int)
  | 0 => []
  | k + 1 => if sOf (k : Nat) = s then rowTo bl s k ++ [bl.getD k []] else rowTo bl s k

theorem outTo_length (bl : List (List Int)) (s : Nat) : ∀ k, (outTo bl s k).length = 4
  | 0 => rfl
  | k + 1 => by
    rw [outTo]
    split
    · rw [List.length_set]; exact outTo_length bl s k
    · exact outTo_length bl s k

theorem rowTo_length (bl : List (List Int)) (s : Nat) : ∀ k, (rowTo bl s k).length ≤ k
  | 0 => Nat.le_refl _
  | k + 1 => by
    have := rowTo_length bl s k
    rw [rowTo]
    split
    · simp; omega
    · omega

theorem outTo_in {bl : List (List Int)} {s k : Nat} (h : sOf (k : Nat) = s) : (outTo bl s k).set (dOf (k : Nat)) (bl.getD k []) = outTo bl s (k + 1) := by rw [outTo, if_pos h]
theorem outTo_out {bl : List (List Int)} {s k : Nat} (h : sOf (k : Nat) ≠ s) : outTo bl s k = outTo bl s (k + 1) := by rw [outTo, if_neg h]
theorem rowTo_in {bl : List (List Int)} {s k : Nat} (h : sOf (k : Nat) = s) : rowTo bl s k ++ [bl.getD k []] = rowTo bl s (k + 1) := by rw [rowTo, if_pos h]
theorem rowTo_out {bl : List (List Int)} {s k : Nat} (h : sOf (k : Nat) ≠ s) : rowTo bl s k = rowTo bl s (k + 1) := by rw [rowTo, if_neg h]

/-- What the disks of stripe s are to have. -/
def planOut (bl : List (List Int)) (s : Nat) : List (List Int) := (outTo bl s 9).set (3 - s) (xorAll (rowTo bl s 9))

/-- Blocks behind a deed, of stripe s those that it has. -/
def planBl (a : ArrP) (x : DeedP) : List (List Int) := doL (spreadTo (dataL (cellsL a (sOf x.n)) (sOf x.n)) (sOf x.n) 9) x

def planE (a : ArrP) (x : DeedP) : Int := if wrongE x ≠ 0 then wrongE x else dataE (cellsL a (sOf x.n)) (sOf x.n)
def planI (a : ArrP) (x : DeedP) : Int × List (List Int) := if planE a x ≠ 0 then (0, []) else ((sOf x.n : Int), makeL (planOut (planBl a x) (sOf x.n)) (sOf x.n))

theorem rowTo_blocks {bl : List (List Int)} (h4 : ∀ b ∈ bl, b.length = 4) (hl : bl.length = 9) (s : Nat) : ∀ k, k ≤ 9 → ∀ b ∈ rowTo bl s k, b.length = 4
  | 0, _ => by simp [rowTo]
  | k + 1, hk => by
    rw [rowTo]
    split
    · intro b hb
      rcases List.mem_append.1 hb with hb | hb
      · exact rowTo_blocks h4 hl s k (by omega) b hb
      · simp only [List.mem_singleton] at hb
        rw [hb]
        exact h4 _ (getD_mem (by omega))
    · exact rowTo_blocks h4 hl s k (by omega)

/-- What the disks are to have, written out. -/
theorem planOut_eq (bl : List (List Int)) (s : Nat) (hs : s < 3) : planOut bl s =
    if s = 0 then [bl.getD 0 [], bl.getD 1 [], bl.getD 2 [], xorAll [bl.getD 0 [], bl.getD 1 [], bl.getD 2 []]]
    else if s = 1 then [bl.getD 3 [], bl.getD 4 [], xorAll [bl.getD 3 [], bl.getD 4 [], bl.getD 5 []], bl.getD 5 []]
    else [bl.getD 6 [], xorAll [bl.getD 6 [], bl.getD 7 [], bl.getD 8 []], bl.getD 7 [], bl.getD 8 []] := by
  have h := fun n : Nat => show n < 9 → sOf (n : Nat) = n / 3 from fun hn => by
    simp only [sOf, whereS]
    rw [if_pos (by omega)]
    omega
  have h0 := h 0 (by omega)
  have h1 := h 1 (by omega)
  have h2 := h 2 (by omega)
  have h3 := h 3 (by omega)
  have h4 := h 4 (by omega)
  have h5 := h 5 (by omega)
  have h6 := h 6 (by omega)
  have h7 := h 7 (by omega)
  have h8 := h 8 (by omega)
  obtain rfl | rfl | rfl : s = 0 ∨ s = 1 ∨ s = 2 := by omega
  all_goals
    simp only [planOut, outTo, rowTo, h0, h1, h2, h3, h4, h5, h6, h7, h8]
    rfl

theorem planOut_length (bl : List (List Int)) (s : Nat) : (planOut bl s).length = 4 := by rw [planOut, List.length_set, outTo_length]

theorem planOut_blocks {bl : List (List Int)} (h4 : ∀ b ∈ bl, b.length = 4) (hl : bl.length = 9) {s : Nat} (hs : s < 3) : ∀ b ∈ planOut bl s, b.length = 4 := by
  have hg : ∀ k, k < 9 → (bl.getD k []).length = 4 := fun k hk => h4 _ (getD_mem (by omega))
  have hx : ∀ l, (xorAll l).length = 4 := fun l => by simp [xorAll]
  rw [planOut_eq bl s hs]
  intro b hb
  split at hb
  · simp only [List.mem_cons, List.not_mem_nil, or_false] at hb
    rcases hb with rfl | rfl | rfl | rfl
    · exact hg 0 (by omega)
    · exact hg 1 (by omega)
    · exact hg 2 (by omega)
    · exact hx _
  split at hb
  · simp only [List.mem_cons, List.not_mem_nil, or_false] at hb
    rcases hb with rfl | rfl | rfl | rfl
    · exact hg 3 (by omega)
    · exact hg 4 (by omega)
    · exact hx _
    · exact hg 5 (by omega)
  · simp only [List.mem_cons, List.not_mem_nil, or_false] at hb
    rcases hb with rfl | rfl | rfl | rfl
    · exact hg 6 (by omega)
    · exact hx _
    · exact hg 7 (by omega)
    · exact hg 8 (by omega)

theorem spread_blocks {ds : List (List Int)} (hd : ∀ b ∈ ds, b.length = 4) (hl : ds.length = 4) (s k : Nat) : ∀ b ∈ spreadTo ds s k, b.length = 4 := by
  intro b hb
  simp only [spreadTo, List.mem_map, List.mem_range] at hb
  obtain ⟨n, hn, rfl⟩ := hb
  split
  · have := (where_bd (n := (n : Int)) (by omega)).2.2.2.1
    exact hd _ (getD_mem (by omega))
  · rfl

theorem doL_blocks {ls : List (List Int)} {x : DeedP} (h4 : ∀ b ∈ ls, b.length = 4) (hl : ls.length = 9) (hr : wrongE x = 0) : ∀ b ∈ doL ls x, b.length = 4 := by
  obtain ⟨hk, hn0, hn8, h1, h2⟩ := right_deed hr
  intro b hb
  simp only [doL, List.mem_map, List.mem_range] at hb
  obtain ⟨i, hi, rfl⟩ := hb
  unfold doAt
  split
  · rename_i h; exact (h1 h.1).2
  split
  · rename_i h
    have := whereE_zero (h2 h.1).1
    exact h4 _ (getD_mem (by omega))
  split
  · exact h4 _ (getD_mem (by omega))
  · exact h4 _ (getD_mem (by omega))

end Go.Proofs.Ytjggiameajndgac

/-
  What the reference's Mount returns, of an array with no intent, or one. Nothing old turns.
-/
namespace Go.Proofs.Ytjggiameajndgac
open Go.RowKit

set_option maxRecDepth 20000 in
set_option maxHeartbeats 3200000 in
theorem refMount_none (v : Value) (a : ArrP) (w : World) (h : ArrV w v a) (hi : a.is = []) :
    Calls Try.prog 62 #[v] w fun e w' => ∃ r, e = .returned r ∧ ArrV w' r a ∧ Grow w w' := by
  obtain ⟨dv, iv, e, hd, hit⟩ := id h
  obtain ⟨a1, n1, c1, a2, n2, c2, rfl⟩ := h.form
  simp only [Value.agg.injEq] at e
  have e := congrArg Array.toList e
  simp at e
  obtain ⟨rfl, rfl⟩ := e
  have hn : n2 = 0 := by
    obtain ⟨q1, q2, q3, -⟩ := hit.form
    injection q3 with _ q4 _
    rw [q4, hi]
    rfl
  subst hn
  have hgF : Grow w ((w.alloc (.cells #[.slice a1 n1 c1, .slice a2 0 c2] 26)).alloc (.cells #[.slice a1 n1 c1, .slice a2 0 c2] 26)) := (Grow.alloc _ _).trans (Grow.alloc _ _)
  have hfin : Hid (_ ∧ _) := ⟨h.grow hgF, hgF⟩
  clear hd hit h hgF
  go_enter Try.func62, Try.ntmps62
  go_wp2
  go_loop [8] (fun i => i = .int .i64 0) (fun _ => 0)
  case atStart => rfl
  case round =>
    subst hrel
    go_wp2
    refine bodyPost_ret (results_two Try.results62 _ _ (w.heap.size + 1) _ rfl Try.underlying26 rfl Try.sizeA (x := .slice a1 n1 c1) (y := .slice a2 0 c2) (by simp) (by simp)) rfl ?_
    exact ⟨_, rfl, hfin.out.1, hfin.out.2⟩

theorem writeTo_six (a : ArrP) (i : Int × List (List Int)) : writeL a i 6 = writeTo a i 6 := rfl

set_option maxRecDepth 20000 in
set_option maxHeartbeats 6400000 in
theorem refMount_one (v : Value) (a : ArrP) (s : Nat) (cs : List (List Int)) (w : World) (h : ArrV w v a) (ha : Whole a) (hi : a.is = [((s : Int), cs)]) (hs3 : s < 3) (hc4 : cs.length = 4) :
    Calls Try.prog 62 #[v] w fun e w' => ∃ r, e = .returned r ∧ ArrV w' r (writeTo a ((s : Int), cs) 6) ∧ Grow w w' := by
  have hf : Fours a := fun p hp => by rw [hi] at hp; simp at hp; rw [hp]; exact hc4
  obtain ⟨dv, iv, e, hd, hit⟩ := id h
  obtain ⟨a1, n1, c1, a2, n2, c2, rfl⟩ := h.form
  simp only [Value.agg.injEq] at e
  have e := congrArg Array.toList e
  simp at e
  obtain ⟨rfl, rfl⟩ := e
  rw [hi] at hit
  obtain ⟨ao, cap, e1, k1, k2, k3, k4⟩ := hit
  injection e1 with e2 e3 e4
  subst e2 e3 e4
  obtain ⟨bi, oi, rfl, hci⟩ := k4 (by simp)
  obtain ⟨hci0, cv, hci1, hcv⟩ := hci 0 _ rfl
  simp only [Nat.zero_mul, Nat.add_zero] at hci0 hci1
  obtain ⟨vc, cc, rfl⟩ := hcv.form
  have HCL : Hid (cs.length = 4) := hc4
  obtain ⟨W, hW⟩ : ∃ W, W = (w.alloc (.cells #[.slice a1 n1 c1, .slice (some ⟨bi, oi, none⟩) 1 c2] 26)).alloc (.cells #[.slice none 0 0, .slice none 0 0] 26) := ⟨_, rfl⟩
  have hgW : Grow w W := by rw [hW]; exact (Grow.alloc _ _).trans (Grow.alloc _ _)
  have hI : BInv w w.heap.size (w.heap.size + 1) (.slice a1 n1 c1) (.slice (some ⟨bi, oi, none⟩) 1 c2) a W := ⟨by rw [hW]; exact ⟨(heap_alloc_old _ _ (by simp)).trans (heap_alloc_new w _), heap_alloc2_new w _ _⟩, h.grow hgW, hgW⟩
  have hw6 := writeTo_whole ha ((s : Int), cs) 6
  have hf6 : Fours (writeTo a ((s : Int), cs) 6) := writeTo_is hf hc4 6
  clear h hd k4 hci k3 hc4
  simp only [List.length_cons, List.length_nil, Nat.zero_add] at k1 ⊢
  go_enter Try.func62, Try.ntmps62
  go_wp2
  rw [← hW]
  clear hW
  go_loopw [8] (fun q wr => ∃ (k : Nat) (x y : Value), k ≤ 1 ∧ q = .int .i64 k ∧ BInv w w.heap.size (w.heap.size + 1) x y (if k = 0 then a else writeTo a ((s : Int), cs) 6) wr) (fun q _ => 1 - (intOf q).toNat)
  case atStart => exact ⟨0, _, _, by omega, rfl, hI⟩
  case round =>
    obtain ⟨k, x, y, hk, rfl, hB⟩ := hrel
    have HB : Hid (BInv w w.heap.size (w.heap.size + 1) x y (if k = 0 then a else writeTo a ((s : Int), cs) 6) wr) := hB
    obtain ⟨⟨h1, h2⟩, HV, hgr⟩ := hB
    obtain ⟨⟨x1, x2, x3, rfl⟩, y1, y2, y3, rfl⟩ := HV.out.form2
    have b0 := two_at0 h1
    have b1 := two_at1 h1
    have r0 := two_at0 h2
    have r1 := two_at1 h2
    have fA0 : wr.frozen? ⟨w.heap.size, 0, none⟩ = false := frozen_of_row wr _ 0 _ _ h1
    have fA1 : wr.frozen? ⟨w.heap.size, 1, none⟩ = false := frozen_of_row wr _ 1 _ _ h1
    have f0 : wr.frozen? ⟨w.heap.size + 1, 0, none⟩ = false := frozen_of_row wr _ 0 _ _ h2
    have f1 : wr.frozen? ⟨w.heap.size + 1, 1, none⟩ = false := frozen_of_row wr _ 1 _ _ h2
    clear h1 h2
    obtain rfl | rfl : k = 0 ∨ k = 1 := by omega
    · rw [if_pos rfl] at HV HB
      have g0 := hgr.at hci0
      have g1 := hgr.at hci1
      have gE := Grow.alloc wr (.cells #[.int .i64 s, .slice vc cs.length cc] 80)
      have b0' := gE.at b0
      have b1' := gE.at b1
      have hgE := hgr.trans gE
      have HcE : Hid (Bss (wr.alloc (.cells #[.int .i64 s, .slice vc cs.length cc] 80)) (.slice vc cs.length cc) cs) := hcv.grow hgE
      have HvE : Hid (ArrV (wr.alloc (.cells #[.int .i64 s, .slice vc cs.length cc] 80)) (.agg #[.slice x1 x2 x3, .slice y1 y2 y3]) a) := HV.out.grow gE
      clear hcv hci0 hci1
      generalize hLn : cs.length = Ln at *
      go_wp2_with fail
      refine (refWrite_any _ _ a s cs 6 _ HvE.out ha ⟨_, rfl, HcE.out⟩ hs3 (by rw [hLn]; exact HCL.out) hf).mono ?_
      rintro e w5 ⟨r, rfl, hr, hg5⟩
      rw [writeTo_six] at hr
      obtain ⟨p1, p2, p3, q1, q2, q3, rfl⟩ := hr.form
      have hg15 := gE.trans hg5
      have HN : Hid (BInv w w.heap.size (w.heap.size + 1) _ _ (if 1 = 0 then a else writeTo a ((s : Int), cs) 6) _) := BInv.put HB.out hg15 hr hw6 hf6 (Nat.le_refl _) (by omega)
      have b05 := hg15.at b0
      have b15 := hg15.at b1
      have f05 := (hg15.frozen (a := ⟨w.heap.size, 0, none⟩) (cell_lt b0)).trans fA0
      have f15 := (hg15.frozen (a := ⟨w.heap.size, 1, none⟩) (cell_lt b0)).trans fA1
      clear HB HV hr HcE HvE b0' b1' gE hgE g0 g1
      go_wp2
      go_roundw
      case rel => first | exact ⟨1, _, _, by omega, rfl, HN.out⟩ | ((repeat apply Exists.intro); exact ⟨⟨1, _, _, by omega, rfl, HN.out⟩, rfl⟩)
      case measure => simp [intOf]
    · rw [if_neg (by omega)] at HV HB
      obtain ⟨hv, hg, z0, z1⟩ := HB.out.done hw6 hf6 (by omega)
      have hfin : Hid (_ ∧ _) := ⟨hv, hg⟩
      clear hv hg HB HV
      go_wp2
      refine bodyPost_ret (results_two Try.results62 _ _ (w.heap.size + 1) _ rfl Try.underlying26 rfl Try.sizeA z0 z1) rfl ?_
      exact ⟨_, rfl, hfin.out.1, hfin.out.2⟩

end Go.Proofs.Ytjggiameajndgac
