import Derived.Test.YtjggiameajndgacJoin19
/-
  A region that draws its order, whose last operation waits for all others, for some of them by way of others.
-/
namespace Go.Proofs.Ytjggiameajndgac
open Go.RowKit

section
variable {E : World → World → Prop} {P : Program} {Q : Exit → Act → World → Prop} {l : List Oper} {Rs : List (Value → World → Prop)} {a0 : Act} {w0 : World} {z : Oper}

/-- It waits for j at once. -/
def afterB (o : Oper) (j : Nat) : Bool := o.after.any fun e => Region.binds .any e && e.on == j

/-- The last one waits for j, by way of at most n others. -/
def waitsB (l : List Oper) (z : Oper) : Nat → Nat → Bool
  | 0, j => afterB z j
  | n + 1, j => afterB z j || (List.range l.length).any fun k => (match l[k]? with | some o => afterB o j | none => false) && waitsB l z n k

/-- The last one waits for all others. -/
def waitB (l : List Oper) (z : Oper) : Bool := (List.range l.length).all fun j => waitsB l z 5 j

theorem afterB_spec {o : Oper} {j : Nat} (h : afterB o j = true) : ∃ e ∈ o.after, Region.binds .any e = true ∧ e.on = j := by
  unfold afterB at h
  rw [Array.any_eq_true] at h
  obtain ⟨i, hi, hb⟩ := h
  simp at hb
  exact ⟨o.after[i], by simp, hb.1, hb.2⟩

theorem waitsB_spec {listed : Array Bool} (hall : ∀ e ∈ z.after, Region.binds .any e = true → listed.getD e.on false = true) (hcl : ∀ (k : Nat) (p : Oper), l[k]? = some p → listed.getD k false = true → ∀ e ∈ p.after, Region.binds .any e = true → listed.getD e.on false = true) : ∀ (n j : Nat), waitsB l z n j = true → listed.getD j false = true := by
  intro n
  induction n with
  | zero =>
    intro j h
    obtain ⟨e, he, hb, rfl⟩ := afterB_spec h
    exact hall e he hb
  | succ n ih =>
    intro j h
    unfold waitsB at h
    rcases Bool.or_eq_true_iff.1 h with h | h
    · obtain ⟨e, he, hb, rfl⟩ := afterB_spec h
      exact hall e he hb
    · obtain ⟨k, -, hk⟩ := List.any_eq_true.1 h
      obtain ⟨h1, h2⟩ := Bool.and_eq_true_iff.1 hk
      cases hl : l[k]? with
      | none => rw [hl] at h1; cases h1
      | some o =>
        rw [hl] at h1
        obtain ⟨e, he, hb, rfl⟩ := afterB_spec h1
        exact hcl k o hl (ih k h2) e he hb

theorem waitB_spec {listed : Array Bool} (h : waitB l z = true) {j : Nat} (hj : j < l.length) (hall : ∀ e ∈ z.after, Region.binds .any e = true → listed.getD e.on false = true) (hcl : ∀ (k : Nat) (p : Oper), l[k]? = some p → listed.getD k false = true → ∀ e ∈ p.after, Region.binds .any e = true → listed.getD e.on false = true) : listed.getD j false = true := by
  unfold waitB at h
  exact waitsB_spec hall hcl 5 j (List.all_eq_true.1 h j (by simpa using hj))

theorem wpAny_wait (hB : stableB (l ++ [z]) = true) (hlen : Rs.length = l.length) (hlast : waitB l z = true) (htr : ∀ x y z, E x y → E y z → E x z) (hst : ∀ R ∈ Rs, ∀ v x y, R v x → E x y → R v y)
    (hsteps : StepsS E P (l ++ [z]).toArray w0 l Rs [] a0) (hfin : ∀ w', E w0 w' → FinS (fun _ a w => wpList P (l ++ [z]).toArray Q [z] a w) w' l Rs a0) :
    ∀ (fuel : Nat) (listed : Array Bool) (a : Act) (w : World) (vs : Nat → Value), listed.toList.count false = fuel + 1 → listed.getD l.length true = false → InvS E (l ++ [z]) Rs a0 w0 listed a w vs → wpAny P .any (l ++ [z]).toArray Q (fuel + 1) listed a w := by
  intro fuel
  induction fuel with
  | zero =>
    intro listed a w vs hc hz h
    have hzl : l.length < listed.size := by rw [h.size]; simp
    have hone : ∀ i, i < l.length → listed.getD i false = true := by
      intro i hi
      have hi' : i < listed.size := by omega
      refine getD_true_of hi' fun hu => ?_
      have h1 : listed[i] = false := by simpa [hi'] using hu
      have h2 : listed[l.length] = false := by simpa [hzl] using hz
      have hset := List.count_set (a := true) (b := false) (i := i) (l := listed.toList) (by simpa using hi')
      have hm : false ∈ listed.toList.set i true := by
        refine List.mem_iff_getElem.2 ⟨l.length, by simpa using hzl, ?_⟩
        rw [List.getElem_set_ne (by omega)]
        simpa using h2
      have hpos := List.count_pos_iff.2 hm
      rw [hset, hc] at hpos
      simp [h1] at hpos
    refine ⟨fun hr => ?_, fun i hi => ?_⟩
    · exfalso
      have := h.ready_nil hB hr l.length (by simp)
      rw [getD_false_true hz] at this
      cases this
    · obtain ⟨hu, o, ho', hall⟩ := mem_ready.1 hi
      have ho : (l ++ [z])[i]? = some o := by simpa using ho'
      have hil : i < (l ++ [z]).length := (List.getElem?_eq_some_iff.1 ho).1
      have hiL : i = l.length := by
        by_cases hiL : i < l.length
        · have := hone i hiL
          rw [getD_false_true hu] at this
          cases this
        · simp at hil
          omega
      subst hiL
      obtain rfl : z = o := by simpa using ho
      have h1 := fin_at l Rs a0 vs (hfin w h.moved) hlen (fun i R hi => h.holds i R (hone i (by rw [← hlen]; exact (List.getElem?_eq_some_iff.1 hi).1)) hi)
      have h2 : a = lexP (l ++ [z]) vs l.length a0 := h.shape.eq (lexP_sh (l ++ [z]) (apart_of hB) vs a0 l.length (by simp)) (fun j t hd => by
        have hj : j < (l ++ [z]).length := by
          unfold dstAt at hd
          cases ho : (l ++ [z])[j]? with
          | none => simp [ho] at hd
          | some o => exact (List.getElem?_eq_some_iff.1 ho).1
        constructor
        · intro hj'
          by_cases hjl : j < l.length
          · exact hjl
          · simp at hj
            have : j = l.length := by omega
            rw [this, getD_false_true hz] at hj'
            cases hj'
        · exact fun hj' => hone j hj')
      rw [lexP_prefix l z vs l.length a0 (Nat.le_refl _)] at h2
      rw [h2]
      refine wpOp_of_last ho' h1 fun a' w' hQ => ⟨?_, hQ⟩
      apply List.eq_nil_iff_forall_not_mem.2
      intro j hj
      obtain ⟨hu', o', ho'', _⟩ := mem_ready.1 hj
      have hjl : j < (l ++ [z]).length := by
        have := (Array.getElem?_eq_some_iff.1 ho'').1
        simpa using this
      by_cases hjL : j = l.length
      · subst hjL
        have := getD_false_true hu'
        simp [hzl] at this
      · simp at hjl
        rw [getD_set_ne true (fun e => hjL e.symm)] at hu'
        have := hone j (by omega)
        rw [getD_false_true hu'] at this
        cases this
  | succ fuel ih =>
    intro listed a w vs hc hz h
    refine ⟨fun hr => ?_, fun i hi => ?_⟩
    · exfalso
      have := h.ready_nil hB hr l.length (by simp)
      rw [getD_false_true hz] at this
      cases this
    obtain ⟨hu, o, ho', hall⟩ := mem_ready.1 hi
    have ho : (l ++ [z])[i]? = some o := by simpa using ho'
    have hil' : i < (l ++ [z]).length := (List.getElem?_eq_some_iff.1 ho).1
    have hil : i < l.length := by
      by_cases hil : i < l.length
      · exact hil
      · exfalso
        have hiL : i = l.length := by simp at hil'; omega
        subst hiL
        obtain rfl : z = o := by simpa using ho
        have hone : ∀ j, j < l.length → listed.getD j false = true := fun j hj => waitB_spec hlast hj hall fun k p hp hk e he hb => h.closed k p (by rw [List.getElem?_append_left (List.getElem?_eq_some_iff.1 hp).1]; exact hp) hk e he hb
        have hzl : l.length < listed.size := by rw [h.size]; simp
        have hls : listed.toList = List.replicate l.length true ++ [false] := by
          refine List.ext_getElem (by simp [h.size]) fun j h1 h2 => ?_
          have h1' : j < listed.size := by simpa using h1
          by_cases hj : j < l.length
          · have := hone j hj
            rw [List.getElem_append_left (by simpa using hj)]
            simpa [h1'] using this
          · have hjl : j = l.length := by rw [h.size] at h1'; simp at h1'; omega
            subst hjl
            rw [List.getElem_append_right (by simp)]
            simpa [hzl] using hz
        rw [hls] at hc
        simp [List.count_replicate] at hc
    have hol : l[i]? = some o := by rw [List.getElem?_append_left hil] at ho; exact ho
    obtain ⟨R, hR⟩ : ∃ R, Rs[i]? = some R := ⟨Rs[i]'(by omega), by simp [show i < Rs.length by omega]⟩
    have hsp := stableB_spec hB ho
    have hd : depFacts ([] ++ zipDone Rs vs i) w o.after.toList := depFacts_of _ fun e he hb x hx => by
      have hz := zipDone_get Rs vs i e.on x (by simpa using hx)
      rw [hz.2]
      exact h.holds e.on x.1 (hall e (by simpa using he) hb) hz.1
    have hw := steps_at i l Rs [] a0 vs o R w hsteps hol hR h.moved hd
    have hag := h.agree hB ho hu hall
    rw [lexP_prefix l z vs i a0 (by omega)] at hag
    have hdst : dstAt (l ++ [z]) i = o.dst := by simp [dstAt, ho]
    refine wpOp_of_SQ ho' ?_ (execOp_agree o hsp.1 _ _ hag) (wanted_agree o _ _ hag) hw ?_
    · rw [h.shape.size, ← lexP_prefix l z vs i a0 (by omega), (lexP_sh (l ++ [z]) (apart_of hB) vs a0 i (by simp; omega)).size]
    · intro v w' hE hRv
      have hui := getD_false_true hu
      have hsz : i < listed.size := by rw [h.size]; exact hil'
      have hset : ∀ j, (listed.setIfInBounds i true).getD j false = true ↔ listed.getD j false = true ∨ j = i := by
        intro j
        by_cases hij : i = j
        · subst hij; simp [hsz]
        · rw [getD_set_ne false hij]
          constructor
          · exact .inl
          · rintro (h1 | h1)
            · exact h1
            · exact absurd h1.symm hij
      refine ih _ _ _ (fun j => if j = i then v else vs j) ?_ ?_ ⟨by simp [h.size], htr _ _ _ h.moved hE, ?_, ?_, ?_⟩
      · have hli : listed.toList[i]'(by simpa using hsz) = false := by
          have : listed[i] = false := by simpa [hsz] using hu
          simpa using this
        rw [Array.toList_setIfInBounds, List.count, List.countP_set (by simpa using hsz)]
        rw [List.count] at hc
        rw [hc, hli, if_pos (by rfl), if_neg (by decide)]
        omega
      · rw [getD_set_ne true (by omega)]
        exact hz
      · rw [← hdst]
        refine h.shape.put (apart_of hB) i (by rw [hui]; simp) hset v (fun j hj => ?_) (by simp)
        have hji : j ≠ i := fun e => by rw [e, hui] at hj; cases hj
        simp [hji]
      · intro j R' hj hR'
        rcases (hset j).1 hj with hj' | rfl
        · have hji : j ≠ i := fun e => by rw [e, hui] at hj'; cases hj'
          simp only [hji, if_false]
          exact hst R' (List.mem_of_getElem? hR') _ _ _ (h.holds j R' hj' hR') hE
        · rw [hR] at hR'
          obtain rfl := Option.some.inj hR'
          simpa using hRv
      · intro j p hp hj e he hb
        rcases (hset j).1 hj with hj' | rfl
        · exact (hset e.on).2 (.inl (h.closed j p hp hj' e he hb))
        · rw [ho] at hp
          obtain rfl := Option.some.inj hp
          exact (hset e.on).2 (.inl (hall e he hb))

/-- The law: a region that draws its order, and ends with one operation that waits for all others. -/
theorem wp_region_wait {id : Nat} {w : World} (l : List Oper) (z : Oper) {ops : Array Oper} (hops : ops = (l ++ [z]).toArray) (E : World → World → Prop) (Rs : List (Value → World → Prop)) (hm : P.follows .mixedOrders = true) (hB : stableB (l ++ [z]) = true) (hlast : waitB l z = true) (hlen : Rs.length = l.length)
    (hrefl : ∀ x, E x x) (htr : ∀ x y z, E x y → E y z → E x z) (hst : ∀ R ∈ Rs, ∀ v x y, R v x → E x y → R v y)
    (hsteps : StepsS E P (l ++ [z]).toArray { w with drawn := w.drawn + 1 } l Rs [] a0) (hfin : ∀ w', E { w with drawn := w.drawn + 1 } w' → FinS (fun _ a w => wpList P (l ++ [z]).toArray Q [z] a w) w' l Rs a0) : (Code.region id ops true).wp P Q a0 w := by
  subst hops
  refine wp_region_any hm ?_
  have hsz : (l ++ [z]).toArray.size = l.length + 1 := by simp
  rw [hsz]
  refine wpAny_wait hB hlen hlast htr hst hsteps hfin _ _ _ _ (fun _ => undef) (by simp) (by simp) ⟨by simp, hrefl _, ⟨rfl, rfl, fun _ _ => rfl, fun j t hj => ?_⟩, fun i R hi => ?_, fun j o _ hj => ?_⟩
  · rw [replicate_getD] at hj; cases hj
  · rw [replicate_getD] at hi; cases hi
  · rw [replicate_getD] at hj; cases hj

end

end Go.Proofs.Ytjggiameajndgac

/-
  What the program's mend.Stripe returns: an array of the call's own. Nothing old turns.
-/
namespace Go.Proofs.Ytjggiameajndgac
open Go.RowKit

/-- A row of four, behind n, of the call's own. -/
def New4 (n : Nat) (cs : List (List Int)) (v : Value) (w : World) : Prop := ∃ r, n ≤ r ∧ v = .slice (some ⟨r, 0, none⟩) 4 4 ∧ DRow r cs w
theorem New4.stable {n : Nat} (cs : List (List Int)) : ∀ (v : Value) (x y : World), New4 n cs v x → Grow x y → New4 n cs v y := fun _ _ _ ⟨r, h1, h2, h3⟩ hg => ⟨r, h1, h2, h3.grow hg⟩

/-- The result's two cells, set. -/
theorem mend_end {w wr : World} {q : Nat} {dv iv u0 u1 : Value} {bs : List Nat} {a : ArrP} {B : Nat} (hB : wr.heap[q]? = some (.cells #[u0, u1] 26 (0, 0))) (hO : OwnA B bs wr dv iv a) (hg : Grow w wr) (hq : w.heap.size ≤ q) (hb : w.heap.size ≤ B) :
    Hid (OwnA w.heap.size bs ((wr.setCell ⟨q, 0, none⟩ dv).setCell ⟨q, 1, none⟩ iv) dv iv a ∧ Grow w ((wr.setCell ⟨q, 0, none⟩ dv).setCell ⟨q, 1, none⟩ iv)) ∧
    ((wr.setCell ⟨q, 0, none⟩ dv).setCell ⟨q, 1, none⟩ iv).cell? ⟨q, 0, none⟩ = some dv ∧ ((wr.setCell ⟨q, 0, none⟩ dv).setCell ⟨q, 1, none⟩ iv).cell? ⟨q, 1, none⟩ = some iv := by
  have h1 := two_set0 (z := dv) hB
  have h2 := two_set1 (z := iv) h1
  exact ⟨⟨((hO.k4 (K4.set hB)).k4 (K4.set h1)).low hb, (hg.set hq _).set hq _⟩, two_at0 h2, two_at1 h2⟩

set_option maxRecDepth 20000 in
set_option maxHeartbeats 6400000 in
theorem mendStripe_any (v : Value) (a : ArrP) (s : Int) (w : World) (h : ArrV w v a) (ha : Whole a) (h8 : ∀ d s, (cellAt a d s).length ≤ 8) (hI : Few a) :
    Calls Try.prog 16 #[v, .int .i64 s] w fun e w' => ∃ bs dv iv, e = .returned (.tuple #[.agg #[dv, iv], .int .i64 (mendN a s), .int .i64 (mendE a s)]) ∧ OwnA w.heap.size bs w' dv iv (mendL a s) ∧ Grow w w' := by
  have harr := h
  obtain ⟨a1, n1, c1, a2, n2, c2, rfl⟩ := h.form
  clear h
  obtain ⟨W, hW⟩ : ∃ W, W = (w.alloc (.cells #[.slice a1 n1 c1, .slice a2 n2 c2] 26)).alloc (.cells #[.slice none 0 0, .slice none 0 0] 26) := ⟨_, rfl⟩
  have hgW : Grow w W := by rw [hW]; exact (Grow.alloc _ _).trans (Grow.alloc _ _)
  have H1 : W.heap[w.heap.size]? = some (.cells #[.slice a1 n1 c1, .slice a2 n2 c2] 26 (0, 0)) := by rw [hW]; exact (heap_alloc_old _ _ (by simp)).trans (heap_alloc_new w _)
  have HR : Hid (W.heap[w.heap.size + 1]? = some (.cells #[.slice none 0 0, .slice none 0 0] 26 (0, 0))) := by rw [Hid, hW]; exact heap_alloc2_new w _ _
  have k0 := two_at0 H1
  have k1 := two_at1 H1
  have HA : Hid (ArrV w (.agg #[.slice a1 n1 c1, .slice a2 n2 c2]) a ∧ Whole a ∧ (∀ d s, (cellAt a d s).length ≤ 8)) := ⟨harr, ha, h8⟩
  have hOw := own_any (.agg #[.slice a1 n1 c1, .slice a2 n2 c2]) a W (harr.grow hgW) ha h8 hI
  clear harr ha h8 hI H1
  go_enter Try.func16, Try.ntmps16
  go_wp2_with fail
  rw [← hW]
  clear hW
  refine hOw.mono ?_
  rintro e w1 ⟨bs, dv, iv, rfl, hO, hg1⟩
  clear hOw
  obtain ⟨⟨x1, x2, x3, rfl⟩, y1, y2, y3, rfl⟩ := hO.forms
  obtain ⟨q, hq⟩ : ∃ q, q = w1.heap.size := ⟨_, rfl⟩
  obtain ⟨W2, hW2⟩ : ∃ W2, W2 = w1.alloc (.cells #[.slice x1 x2 x3, .slice y1 y2 y3] 26) := ⟨_, rfl⟩
  have hg2 : Grow w1 W2 := by rw [hW2]; exact Grow.alloc _ _
  have HQ : Hid (W2.heap[q]? = some (.cells #[.slice x1 x2 x3, .slice y1 y2 y3] 26 (0, 0)) ∧ w.heap.size + 1 < q) := ⟨by rw [hW2, hq]; exact heap_alloc_new w1 _, by have := heap_lt HR.out; have := hg1.size; omega⟩
  have HO : Hid (OwnA W.heap.size bs W2 (.slice x1 x2 x3) (.slice y1 y2 y3) a) := hO.k4 hg2.k4
  have hg02 := hg1.trans hg2
  have hgw := hgW.trans hg02
  have HR2 : Hid (W2.heap[w.heap.size + 1]? = some (.cells #[.slice none 0 0, .slice none 0 0] 26 (0, 0))) := hg02.block' HR.out
  have HB : Hid (w.heap.size ≤ W.heap.size) := hgW.size
  have hTh := there_any 0 s W2
  have j0 := hg02.at k0
  have j1 := hg02.at k1
  clear hO hg1 hg2 k0 k1 HR hg02 hgW
  by_cases hs : s < 0 ∨ 2 < s
  · have HE : Hid ((mendN a s : Int) = 0 ∧ mendE a s = 3 ∧ mendL a s = a) := ⟨by rw [mendN, if_pos hs]; rfl, if_pos hs, if_pos (.inl hs)⟩
    rw [show thereB 0 s = false from by simp [thereB]; omega] at hTh
    clear hs
    go_wp2_with fail
    rw [← hW2, ← hq]
    clear hW2 hq
    refine hTh.mono ?_
    rintro e w3 ⟨rfl, rfl⟩
    obtain ⟨HF, z0, z1⟩ := mend_end HR2.out HO.out hgw (by omega) HB.out
    have b0 := two_at0 HQ.out.1
    have b1 := two_at1 HQ.out.1
    have r0 := two_at0 HR2.out
    have r1 := two_at1 HR2.out
    have f0 : w3.frozen? ⟨w.heap.size + 1, 0, none⟩ = false := frozen_of_row w3 _ 0 _ _ HR2.out
    have f1 : w3.frozen? ⟨w.heap.size + 1, 1, none⟩ = false := frozen_of_row w3 _ 1 _ _ HR2.out
    go_wp2
    refine bodyPost_ret (results_two2 Try.results16 _ _ (w.heap.size + 1) _ rfl Try.underlying26 rfl Try.sizeA z0 z1) rfl ?_
    exact ⟨_, _, _, ret_arr3 HE.out.1.symm HE.out.2.1.symm, by rw [HE.out.2.2]; exact HF.out.1, HF.out.2⟩
  · obtain ⟨s, rfl⟩ := Int.eq_ofNat_of_zero_le (show 0 ≤ s by omega)
    have hs3 : s < 3 := by omega
    have HE : Hid (mendN a (s : Int) = badN a s ∧ mendE a (s : Int) = dataE (cellsL a s) s ∧ (dataE (cellsL a s) s ≠ 0 → mendL a (s : Int) = a) ∧ (dataE (cellsL a s) s = 0 → mendL a (s : Int) = putTo a (makeL (dataL (cellsL a s) s) s) s 4)) :=
      ⟨(if_neg hs).trans (by simp), (if_neg hs).trans (by simp), fun h => if_pos (.inr (by simpa using h)), fun h => (if_neg (by simp only [Int.toNat_natCast]; exact fun h' => h'.elim hs (fun h' => h' h))).trans (by simp)⟩
    rw [show thereB 0 (s : Int) = true from by simp [thereB]; omega] at hTh
    have hl4 : (cellsL a s).length = 4 := by rw [cellsL_length, HA.out.2.1.1]
    have HL : Hid ((cellsL a s).length = 4) := hl4
    have hCl := stripeCells_row (.agg #[.slice a1 n1 c1, .slice a2 n2 c2]) a s W2 (HA.out.1.grow hgw) HA.out.2.1 HA.out.2.2 hs3
    clear hs
    go_wp2_with fail
    rw [← hW2, ← hq]
    clear hW2 hq
    refine hTh.mono ?_
    rintro e w3 ⟨rfl, rfl⟩
    clear hTh
    go_wp2_with fail
    refine hCl.mono ?_
    rintro e w4 ⟨rc, rfl, hrc, hg4⟩
    have hcB : Bss w4 rc (cellsL a s) := hrc.done
    obtain ⟨ac, cc, rfl⟩ := Sl.form hcB
    rw [hl4] at hcB ⊢
    clear hCl hrc j0 j1 hl4
    go_wp2_with fail
    refine (stripeBad_any _ _ s _ hcB HL.out hs3).mono ?_
    rintro e w5 ⟨rb, rfl, hrb, hg5⟩
    obtain ⟨ab, cb, rfl, hb1, hb2⟩ := hrb.form'
    have hlen : (ints (badL (cellsL a s) s)).length = badN a s := by simp [ints, badN]
    rw [hlen] at hb1 ⊢
    clear hrb hlen
    go_wp2_with fail
    refine (stripeData_bss _ _ s _ none (Bss.grow hcB hg5) (fun _ h => nomatch h) HL.out hs3).mono ?_
    rintro e w6 ⟨rd, rfl, hrd, hg6⟩
    have hdB : Bss w6 rd (dataL (cellsL a s) s) := Sl.off hrd.done
    have hg36 := (hg4.trans hg5).trans hg6
    have hgw6 := hgw.trans hg36
    have HQ6 : Hid (w6.heap[q]? = some (.cells #[.slice x1 x2 x3, .slice y1 y2 y3] 26 (0, 0)) ∧ w.heap.size + 1 < q) := ⟨hg36.block' HQ.out.1, HQ.out.2⟩
    have HR6 : Hid (w6.heap[w.heap.size + 1]? = some (.cells #[.slice none 0 0, .slice none 0 0] 26 (0, 0))) := hg36.block' HR2.out
    have HO6 : Hid (OwnA W.heap.size bs w6 (.slice x1 x2 x3) (.slice y1 y2 y3) a) := HO.out.k4 hg36.k4
    clear hcB hrd hg4 hg5 hg6 HQ HR2 HO hg36
    have b0 := two_at0 HQ6.out.1
    have b1 := two_at1 HQ6.out.1
    by_cases hde : dataE (cellsL a s) s = 0
    · have hdb := dataL_blocks hde
      have hdl := dataL_length hde
      rw [HL.out] at hdl
      have Hf : Hid (mendN a (s : Int) = badN a s ∧ mendE a (s : Int) = 0 ∧ mendL a (s : Int) = putTo a (makeL (dataL (cellsL a s) s) s) s 4) := ⟨HE.out.1, HE.out.2.1.trans hde, HE.out.2.2.2 hde⟩
      have HCL : Hid ((makeL (dataL (cellsL a s) s) (s : Int)).length = 4) := by rw [Hid, makeL_length, hdl]
      obtain ⟨d1, d2, rfl⟩ := Sl.form hdB
      have HMk : Hid (∀ w', Grow w6 w' → Calls Try.prog 50 #[.slice d1 (dataL (cellsL a s) s).length d2, .int .i64 s] w' fun e w'' => e = .returned (.slice (some ⟨w'.heap.size, 0, none⟩) 4 4) ∧ DRow w'.heap.size (makeL (dataL (cellsL a s) s) s) w'' ∧ Grow w' w'') := fun w' hg => stripeMake_own _ _ s w' (hdB.grow hg) hdl hs3 hdb
      clear HE hdB hdb
      rw [hdl] at HMk ⊢
      clear hdl
      generalize makeL (dataL (cellsL a s) s) (s : Int) = cs at *
      generalize dataE (cellsL a s) s = E at *
      subst hde
      generalize badN a s = bn at *
      go_wp2
      refine wp_region_wait [_, _, _, _, _, _] _ rfl Grow [IsV (.pointer (some ⟨q, 0, none⟩)), IsV (.slice x1 x2 x3), IsV (.int .i64 s), IsV (.slice d1 4 d2), IsV (.int .i64 s), New4 w6.heap.size cs] (by kernel_rfl) (by kernel_rfl) (by kernel_rfl) rfl Grow.refl (fun _ _ _ => Grow.trans) ?_ ?_ ?_
      · repeat (refine List.forall_mem_cons.2 ⟨by first | exact IsV.stable _ | exact New4.stable _, ?_⟩)
        exact fun R hR => nomatch hR
      · skip
        refine StepsS.cons ?_ fun v0 => ⟨_, _, by simp only [Act.put, List.setIfInBounds_toArray, List.set_cons_succ, List.set_cons_zero]; first | done | rfl, by simp only [List.nil_append]; first | done | rfl, ?_⟩
        · intro w1 hE hd
          clear hd
          go_wp2
          exact ⟨_, rfl, Grow.refl _, rfl⟩
        refine StepsS.cons ?_ fun v1 => ⟨_, _, by simp only [Act.put, List.setIfInBounds_toArray, List.set_cons_succ, List.set_cons_zero]; first | done | rfl, by simp only [List.nil_append, List.cons_append]; first | done | rfl, ?_⟩
        · intro w1 hE hd
          obtain rfl := IsV.eq (dep_at hd 0 rfl rfl rfl)
          clear hd
          have q0 := hE.drew.at b0
          go_wp2
          exact ⟨_, rfl, Grow.refl _, rfl⟩
        refine StepsS.cons ?_ fun v2 => ⟨_, _, by simp only [Act.put, List.setIfInBounds_toArray, List.set_cons_succ, List.set_cons_zero]; first | done | rfl, by simp only [List.nil_append, List.cons_append]; first | done | rfl, ?_⟩
        · intro w1 hE hd
          clear hd
          go_wp2
          exact ⟨_, rfl, Grow.refl _, rfl⟩
        refine StepsS.cons ?_ fun v3 => ⟨_, _, by simp only [Act.put, List.setIfInBounds_toArray, List.set_cons_succ, List.set_cons_zero]; first | done | rfl, by simp only [List.nil_append, List.cons_append]; first | done | rfl, ?_⟩
        · intro w1 hE hd
          clear hd
          go_wp2
          exact ⟨_, rfl, Grow.refl _, rfl⟩
        refine StepsS.cons ?_ fun v4 => ⟨_, _, by simp only [Act.put, List.setIfInBounds_toArray, List.set_cons_succ, List.set_cons_zero]; first | done | rfl, by simp only [List.nil_append, List.cons_append]; first | done | rfl, ?_⟩
        · intro w1 hE hd
          clear hd
          go_wp2
          exact ⟨_, rfl, Grow.refl _, rfl⟩
        refine StepsS.cons ?_ fun v5 => ⟨_, _, by simp only [Act.put, List.setIfInBounds_toArray, List.set_cons_succ, List.set_cons_zero]; first | done | rfl, by simp only [List.nil_append, List.cons_append]; first | done | rfl, ?_⟩
        · intro w1 hE hd
          obtain rfl := IsV.eq (dep_at hd 0 rfl rfl rfl)
          obtain rfl := IsV.eq (dep_at hd 1 rfl rfl rfl)
          clear hd
          go_wp2_with fail
          refine (HMk.out _ hE.drew).mono ?_
          rintro e w5 ⟨rfl, hr, hg5⟩
          go_wp2_with fail
          exact ⟨_, rfl, hg5, _, hE.drew.size, rfl, hr⟩
        trivial
      intro wR hwR
      refine FinS.cons ?_; rintro _ rfl; refine ⟨_, by simp only [Act.put, List.setIfInBounds_toArray, List.set_cons_succ, List.set_cons_zero]; first | done | rfl, ?_⟩
      refine FinS.cons ?_; rintro _ rfl; refine ⟨_, by simp only [Act.put, List.setIfInBounds_toArray, List.set_cons_succ, List.set_cons_zero]; first | done | rfl, ?_⟩
      refine FinS.cons ?_; rintro _ rfl; refine ⟨_, by simp only [Act.put, List.setIfInBounds_toArray, List.set_cons_succ, List.set_cons_zero]; first | done | rfl, ?_⟩
      refine FinS.cons ?_; rintro _ rfl; refine ⟨_, by simp only [Act.put, List.setIfInBounds_toArray, List.set_cons_succ, List.set_cons_zero]; first | done | rfl, ?_⟩
      refine FinS.cons ?_; rintro _ rfl; refine ⟨_, by simp only [Act.put, List.setIfInBounds_toArray, List.set_cons_succ, List.set_cons_zero]; first | done | rfl, ?_⟩
      refine FinS.cons fun v5 h5 => ⟨_, by simp only [Act.put, List.setIfInBounds_toArray, List.set_cons_succ, List.set_cons_zero]; first | done | rfl, ?_⟩
      show wpList _ _ _ _ _ _
      obtain ⟨r, hrn, rfl, hrow⟩ := h5
      have hgR : Grow w6 wR := hwR.drew
      have HOR : Hid (OwnA W.heap.size bs wR (.slice x1 x2 x3) (.slice y1 y2 y3) a) := HO6.out.k4 hgR.k4
      have hPut := mendPut_any _ bs _ _ a s r cs wR HOR.out hrow (fun hm => by have := HO6.out.disks.lt r hm; omega) HCL.out hs3
      have hbq := hgR.block' HQ6.out.1
      have hbr := hgR.block' HR6.out
      have hgwR := hgw6.trans hgR
      clear HMk hwR hrow hrn b0 b1
      go_wp2_with fail
      refine hPut.mono ?_
      rintro e w8 ⟨⟨r8, rfl⟩, hO8, hG8⟩
      have HQ8 : w8.heap[q]? = some (.cells #[.slice x1 x2 x3, .slice y1 y2 y3] 26 (0, 0)) := (hG8.block _ (heap_lt hbq) (HOR.out.other hbq (by decide))).trans hbq
      have HR8 : w8.heap[w.heap.size + 1]? = some (.cells #[.slice none 0 0, .slice none 0 0] 26 (0, 0)) := (hG8.block _ (heap_lt hbr) (HOR.out.other hbr (by decide))).trans hbr
      have hgw8 : Grow w w8 := hgwR.thenIn hG8 (fun b hb => by have := HOR.out.disks.base b hb; have := HB.out; omega)
      have b0 := two_at0 HQ8
      have b1 := two_at1 HQ8
      obtain ⟨HF, z0, z1⟩ := mend_end HR8 hO8 hgw8 (by omega) HB.out
      have r0 := two_at0 HR8
      have r1 := two_at1 HR8
      have f0 : w8.frozen? ⟨w.heap.size + 1, 0, none⟩ = false := frozen_of_row w8 _ 0 _ _ HR8
      have f1 : w8.frozen? ⟨w.heap.size + 1, 1, none⟩ = false := frozen_of_row w8 _ 1 _ _ HR8
      clear hPut hO8 hG8 HQ8 HR8 hbq hbr HOR HQ6 HR6 HO6
      go_wp2
      refine bodyPost_ret (results_two2 Try.results16 _ _ (w.heap.size + 1) _ rfl Try.underlying26 rfl Try.sizeA z0 z1) rfl ?_
      exact ⟨_, _, _, ret_arr3 (by rw [Hf.out.1]) Hf.out.2.1.symm, by rw [Hf.out.2.2]; exact HF.out.1, HF.out.2⟩
    · obtain ⟨HF, z0, z1⟩ := mend_end HR6.out HO6.out hgw6 (by omega) HB.out
      have hfin : Hid (mendN a (s : Int) = badN a s ∧ mendE a (s : Int) = dataE (cellsL a s) s ∧ mendL a (s : Int) = a) := ⟨HE.out.1, HE.out.2.1, HE.out.2.2.1 hde⟩
      have r0 := two_at0 HR6.out
      have r1 := two_at1 HR6.out
      have f0 : w6.frozen? ⟨w.heap.size + 1, 0, none⟩ = false := frozen_of_row w6 _ 0 _ _ HR6.out
      have f1 : w6.frozen? ⟨w.heap.size + 1, 1, none⟩ = false := frozen_of_row w6 _ 1 _ _ HR6.out
      clear HE hdB HO6
      generalize dataE (cellsL a s) s = E at *
      generalize badN a s = bn at *
      have he' : (E != 0) = true := by simpa using hde
      go_wp2
      refine bodyPost_ret (results_two2 Try.results16 _ _ (w.heap.size + 1) _ rfl Try.underlying26 rfl Try.sizeA z0 z1) rfl ?_
      exact ⟨_, _, _, ret_arr3 (by rw [hfin.out.1]) hfin.out.2.1.symm, by rw [hfin.out.2.2]; exact HF.out.1, HF.out.2⟩

end Go.Proofs.Ytjggiameajndgac

/-
  What the program's harm.Rot and harm.Gone return: an array of the call's own. Nothing old turns.
-/
namespace Go.Proofs.Ytjggiameajndgac
open Go.RowKit

set_option maxRecDepth 20000 in
theorem xor_one {x : Int} (h : 0 ≤ x ∧ x ≤ 255) : bits .xor .u8 x 1 = rotI x := by
  rw [u8_xor x 1 (by omega) (by omega) (by omega) (by omega)]
  obtain ⟨n, rfl⟩ := Int.eq_ofNat_of_zero_le h.1
  have h256 : ∀ m : Nat, m < 256 → m ^^^ 1 = if m % 2 = 0 then m + 1 else m - 1 := by decide
  simp only [Int.toNat_natCast, show (1 : Int).toNat = 1 from rfl]
  rw [h256 n (by omega)]
  unfold rotI
  split <;> split <;> omega

set_option maxRecDepth 20000 in
set_option maxHeartbeats 1600000 in
theorem bytesOf_no (x1 : Option Addr) (x2 x3 : Nat) (y1 : Option Addr) (y2 y3 : Nat) (d s : Int) (w : World) (h : thereB d s = false) :
    Calls Try.prog 55 #[.agg #[.slice x1 x2 x3, .slice y1 y2 y3], .int .i64 d, .int .i64 s] w fun e w' => e = .returned (.slice none 0 0) ∧ Grow w w' := by
  have hg : Grow w (w.alloc (.cells #[.slice x1 x2 x3, .slice y1 y2 y3] 26)) := Grow.alloc _ _
  have hTh := there_any d s (w.alloc (.cells #[.slice x1 x2 x3, .slice y1 y2 y3] 26))
  rw [h] at hTh
  clear h
  go_enter Try.func55, Try.ntmps55
  go_wp2_with fail
  refine hTh.mono ?_
  rintro e w3 ⟨rfl, rfl⟩
  clear hTh
  go_wp2
  go_ret
  exact ⟨rfl, hg⟩

set_option maxRecDepth 20000 in
set_option maxHeartbeats 1600000 in
theorem bytesOf_yes (g cap bk : Nat) (y1 : Option Addr) (y2 y3 : Nat) (u : Value) (d s : Nat) (w : World) (hd : d < 4) (hs : s < 3) (h1 : w.cell? ⟨g, d, none⟩ = some (.slice (some ⟨bk, 0, none⟩) 3 3)) (h2 : w.cell? ⟨bk, s, none⟩ = some u) :
    Calls Try.prog 55 #[.agg #[.slice (some ⟨g, 0, none⟩) 4 cap, .slice y1 y2 y3], .int .i64 d, .int .i64 s] w fun e w' => e = .returned u ∧ Grow w w' := by
  obtain ⟨W, hW⟩ : ∃ W, W = w.alloc (.cells #[.slice (some ⟨g, 0, none⟩) 4 cap, .slice y1 y2 y3] 26) := ⟨_, rfl⟩
  have hg : Grow w W := by rw [hW]; exact Grow.alloc _ _
  have hb : W.heap[w.heap.size]? = some (.cells #[.slice (some ⟨g, 0, none⟩) 4 cap, .slice y1 y2 y3] 26 (0, 0)) := by rw [hW]; exact heap_alloc_new w _
  have b0 := two_at0 hb
  have k1 := hg.at h1
  have k2 := hg.at h2
  have hTh := there_any d s W
  rw [show thereB d s = true from by simp [thereB]; omega] at hTh
  have hdi : (d : Int) < 4 := by omega
  have hsi : (s : Int) < 3 := by omega
  clear h1 h2 hb
  go_enter Try.func55, Try.ntmps55
  go_wp2_with fail
  rw [← hW]
  clear hW
  refine hTh.mono ?_
  rintro e w3 ⟨rfl, rfl⟩
  clear hTh
  go_wp2
  go_ret
  exact ⟨rfl, hg⟩

/-- Beside an error, or where no byte is another one: the answer's two cells. -/
theorem harm_start {w : World} {a1 : Option Addr} {n1 c1 : Nat} {a2 : Option Addr} {n2 c2 : Nat} {a : ArrP} {W : World} (hW : W = (w.alloc (.cells #[.slice a1 n1 c1, .slice a2 n2 c2] 26)).alloc (.cells #[.slice none 0 0, .slice none 0 0] 26)) (h : ArrV w (.agg #[.slice a1 n1 c1, .slice a2 n2 c2]) a) (ha : Arr a) :
    Grow w W ∧ W.cell? ⟨w.heap.size, 0, none⟩ = some (.slice a1 n1 c1) ∧ W.cell? ⟨w.heap.size, 1, none⟩ = some (.slice a2 n2 c2) ∧ Hid (W.heap[w.heap.size + 1]? = some (.cells #[.slice none 0 0, .slice none 0 0] 26 (0, 0))) ∧ Hid (w.heap.size ≤ W.heap.size) ∧
      Calls Try.prog 44 #[.agg #[.slice a1 n1 c1, .slice a2 n2 c2]] W fun e w' => ∃ bs U dv iv, e = .returned (.agg #[dv, iv]) ∧ OwnA W.heap.size bs w' dv iv a ∧ SDs W.heap.size bs a.ds U w' ∧ Grow W w' := by
  have hgW : Grow w W := by rw [hW]; exact (Grow.alloc _ _).trans (Grow.alloc _ _)
  have H1 : W.heap[w.heap.size]? = some (.cells #[.slice a1 n1 c1, .slice a2 n2 c2] 26 (0, 0)) := by rw [hW]; exact (heap_alloc_old _ _ (by simp)).trans (heap_alloc_new w _)
  exact ⟨hgW, two_at0 H1, two_at1 H1, by rw [Hid, hW]; exact heap_alloc2_new w _ _, hgW.size, own_sep _ a W (h.grow hgW) ha.whole ha.short ha.none⟩

/-- What there is behind array.Own: the array in a box q of its own. -/
theorem harm_own {w W w1 W2 : World} {bs : List Nat} {U : Nat → List Value} {dv iv : Value} {a : ArrP} {q : Nat} (ha : Arr a) (hO : OwnA W.heap.size bs w1 dv iv a) (hS : SDs W.heap.size bs a.ds U w1) (hg1 : Grow W w1) (hgW : Grow w W) (HR : Hid (W.heap[w.heap.size + 1]? = some (.cells #[.slice none 0 0, .slice none 0 0] 26 (0, 0)))) (hq : q = w1.heap.size) (hW2 : W2 = w1.alloc (.cells #[dv, iv] 26)) :
    Grow w W2 ∧ Hid (W2.heap[q]? = some (.cells #[dv, iv] 26 (0, 0)) ∧ w.heap.size + 1 < q) ∧ Hid (OwnA W.heap.size bs W2 dv iv a ∧ SDs W.heap.size bs a.ds U W2) ∧ Hid (W2.heap[w.heap.size + 1]? = some (.cells #[.slice none 0 0, .slice none 0 0] 26 (0, 0))) ∧ (∃ g cap, dv = .slice (some ⟨g, 0, none⟩) 4 cap) ∧ iv = .slice none 0 0 := by
  have hg2 : Grow w1 W2 := by rw [hW2]; exact Grow.alloc _ _
  refine ⟨(hgW.trans hg1).trans hg2, ⟨by rw [hW2, hq]; exact heap_alloc_new w1 _, by have := heap_lt HR.out; have := hg1.size; omega⟩, ⟨hO.k4 hg2.k4, hS.grow hg2⟩, (hg1.trans hg2).block' HR.out, ?_, ?_⟩
  · obtain ⟨g, cap, e, -, -⟩ := hO.disks.own.form (by have := ha.whole.1; omega)
    exact ⟨g, cap, by rw [e, ha.whole.1]⟩
  · rcases hO.its with ⟨-, h⟩ | ⟨_, _, _, _, _, _, h, _⟩
    · exact h
    · rw [ha.none] at h; cases h

set_option maxRecDepth 20000 in
set_option maxHeartbeats 6400000 in
theorem harmRot_any (v : Value) (a : ArrP) (d s k : Int) (w : World) (h : ArrV w v a) (ha : Arr a) :
    Calls Try.prog 27 #[v, .int .i64 d, .int .i64 s, .int .i64 k] w fun e w' => ∃ r, e = .returned (.tuple #[r, .int .i64 (rotE a d s k)]) ∧ ArrV w' r (rotL a d s k) ∧ Grow w w' := by
  obtain ⟨a1, n1, c1, a2, n2, c2, rfl⟩ := h.form
  obtain ⟨W, hW⟩ : ∃ W, W = (w.alloc (.cells #[.slice a1 n1 c1, .slice a2 n2 c2] 26)).alloc (.cells #[.slice none 0 0, .slice none 0 0] 26) := ⟨_, rfl⟩
  obtain ⟨hgW, k0, k1, HR, HB, hOw⟩ := harm_start hW h ha
  have HA : Hid (Arr a) := ha
  clear h ha
  go_enter Try.func27, Try.ntmps27
  go_wp2_with fail
  rw [← hW]
  clear hW
  refine hOw.mono ?_
  rintro e w1 ⟨bs, U, dv, iv, rfl, hO, hS, hg1⟩
  clear hOw
  obtain ⟨q, hq⟩ : ∃ q, q = w1.heap.size := ⟨_, rfl⟩
  obtain ⟨W2, hW2⟩ : ∃ W2, W2 = w1.alloc (.cells #[dv, iv] 26) := ⟨_, rfl⟩
  obtain ⟨hgw, HQ, HO, HR2, ⟨g, cap, rfl⟩, rfl⟩ := harm_own HA.out hO hS hg1 hgW HR hq hW2
  have b0 := two_at0 HQ.out.1
  have b1 := two_at1 HQ.out.1
  clear hO hS hg1 hgW k0 k1 HR
  by_cases hT : 0 ≤ d ∧ d ≤ 3 ∧ 0 ≤ s ∧ s ≤ 2
  · obtain ⟨d, rfl⟩ := Int.eq_ofNat_of_zero_le hT.1
    obtain ⟨s, rfl⟩ := Int.eq_ofNat_of_zero_le hT.2.2.1
    have hd4 : d < 4 := by omega
    have hs3 : s < 3 := by omega
    have hd' : d < a.ds.length := by have := HA.out.whole.1; omega
    obtain ⟨bk, hbk, hcd, -, hl3⟩ := HO.out.1.disk hd4
    have hs' : s < (a.ds.getD d []).length := by omega
    obtain ⟨bk', u, hbk', hu, hcs, hown, hoc⟩ := HO.out.2.cell HO.out.1.disks.len hd' hs'
    rw [hbk] at hbk'
    cases hbk'
    replace hown : W2.ownsRow W.heap.size 5 1 u (cellAt a d s).length ((cellAt a d s).map (Value.int .u8)) := hown
    replace hoc : Octets (cellAt a d s) := hoc
    have hBs : Bs W2 u (cellAt a d s) := Bs.of_own hown hoc
    obtain ⟨u1, u2, u3, rfl⟩ := hBs.form
    have hC := bytesOf_yes g cap bk none 0 0 (.slice u1 u2 u3) d s W2 hd4 hs3 hcd hcs
    have hu2 : u2 = (cellAt a d s).length := by
      obtain ⟨_, _, e, -⟩ := hBs
      injection e
    clear hcd hcs hbk hl3 hs' hd' hT
    by_cases hk : 0 ≤ k ∧ k < u2
    · obtain ⟨k, rfl⟩ := Int.eq_ofNat_of_zero_le hk.1
      have hkn : k < u2 := by omega
      have hE : rotOk a (d : Int) (s : Int) (k : Int) := ⟨by omega, by omega, by omega, by omega, by omega, by simp only [Int.toNat_natCast]; omega⟩
      have HE : Hid (rotE a (d : Int) (s : Int) (k : Int) = 0 ∧ rotL a (d : Int) (s : Int) (k : Int) = withL a d s (rotB (cellAt a d s) k)) := ⟨if_pos hE, (if_pos hE).trans (by simp)⟩
      have hx := getD_bd hoc k
      obtain ⟨gb, cb, e, hgb, -⟩ := hown.form (by rw [hu2] at hkn; exact Nat.lt_of_le_of_lt (Nat.zero_le _) hkn)
      injection e with e1 e2 e3
      subst e1 e3
      have hn : (cellAt a d s).length = u2 := e2.symm
      rw [hn] at hown
      have hkl : k < (cellAt a d s).length := by omega
      have hmap : ((cellAt a d s).map (Value.int .u8))[k]? = some (.int .u8 ((cellAt a d s).getD k 0)) := by
        rw [List.getElem?_map]
        simp [List.getD_eq_getElem?_getD, hkl]
      have hro := fun (w3 : World) (hg3 : Grow W2 w3) => rot_own (k := k) (HO.out.1.k4 hg3.k4) (HO.out.2.grow hg3) HA.out.none hd4 hs3 hu
      have hXn := xor_one hx
      obtain ⟨x, hxe⟩ : ∃ x, x = (cellAt a d s).getD k 0 := ⟨_, rfl⟩
      rw [← hxe] at hx hXn hmap hro
      clear hxe
      obtain ⟨z, hz⟩ : ∃ z, z = rotI x := ⟨_, rfl⟩
      rw [← hz] at hXn hro
      clear hz
      have HRo : Hid (_ ∧ _ ∧ _) := ⟨hro, hown, hmap⟩
      have hki : (k : Int) < (u2 : Int) := by omega
      have hgbW : w.heap.size ≤ gb := Nat.le_trans HB.out hgb
      have Hgb : Hid (∃ cur, W2.heap[gb]? = some (.cells cur 5 (0, 0))) := own_typed hown rfl
      clear hro hown hmap hE hk hBs hoc hu hgb hu2 hkl hn e2
      go_wp2_with fail
      rw [← hW2, ← hq]
      clear hW2 hq
      refine hC.mono ?_
      rintro e w3 ⟨rfl, hg3⟩
      clear hC b0 b1
      have hown3 := grow_own HRo.out.2.1 hg3
      have kx : w3.cell? ⟨gb, k, none⟩ = some (.int .u8 x) := (hown3.cellAt k (by omega)).trans HRo.out.2.2
      have fx : w3.frozen? ⟨gb, k, none⟩ = false := hown3.frozenAt k
      have hOz := HRo.out.1 w3 hg3
      have hgz := (hgw.trans hg3).set (k := k) hgbW (.int .u8 z)
      have hne : ∀ (b : Nat) cs, W2.heap[b]? = some (.cells cs 26 (0, 0)) → b ≠ gb := fun b cs hb e => by
        obtain ⟨cur, hc⟩ := Hgb.out
        subst e
        rw [hb] at hc
        injection hc with hc
        injection hc with _ hc _
        exact absurd hc (by decide)
      have hbq : (w3.setCell ⟨gb, k, none⟩ (.int .u8 z)).heap[q]? = some (.cells #[.slice (some ⟨g, 0, none⟩) 4 cap, .slice none 0 0] 26 (0, 0)) := set_other (hg3.block' HQ.out.1) (hne q _ HQ.out.1)
      have hbr : (w3.setCell ⟨gb, k, none⟩ (.int .u8 z)).heap[w.heap.size + 1]? = some (.cells #[.slice none 0 0, .slice none 0 0] 26 (0, 0)) := set_other (hg3.block' HR2.out) (hne _ _ HR2.out)
      obtain ⟨HF, z0, z1⟩ := mend_end hbr hOz hgz (by omega) HB.out
      have b0 := two_at0 hbq
      have b1 := two_at1 hbq
      have r0 := two_at0 hbr
      have r1 := two_at1 hbr
      have f0 : (w3.setCell ⟨gb, k, none⟩ (.int .u8 z)).frozen? ⟨w.heap.size + 1, 0, none⟩ = false := frozen_of_row _ _ 0 _ _ hbr
      have f1 : (w3.setCell ⟨gb, k, none⟩ (.int .u8 z)).frozen? ⟨w.heap.size + 1, 1, none⟩ = false := frozen_of_row _ _ 1 _ _ hbr
      clear hbq hbr hne hOz hgz hown3 HRo HO HQ HR2 hgw hg3
      go_wp2
      refine bodyPost_ret (results_two1 Try.results27 _ _ (w.heap.size + 1) _ rfl Try.underlying26 rfl Try.sizeA z0 z1) rfl ?_
      exact ⟨_, ret_bs2 HE.out.1.symm, by rw [HE.out.2]; exact HF.out.1.arr, HF.out.2⟩
    · have HE : Hid (rotE a (d : Int) (s : Int) k = 6 ∧ rotL a (d : Int) (s : Int) k = a) := by
        have hE : ¬ rotOk a (d : Int) (s : Int) k := fun h => hk ⟨h.2.2.2.2.1, by have := h.2.2.2.2.2; simp only [Int.toNat_natCast] at this; omega⟩
        exact ⟨if_neg hE, if_neg hE⟩
      have hk' : k < 0 ∨ (0 ≤ k ∧ (u2 : Int) ≤ k) := by omega
      clear hown hoc hBs hu hu2 hk
      go_wp2_with fail
      rw [← hW2, ← hq]
      clear hW2 hq
      refine hC.mono ?_
      rintro e w3 ⟨rfl, hg3⟩
      clear hC b0 b1
      have hbq := hg3.block' HQ.out.1
      have hbr := hg3.block' HR2.out
      obtain ⟨HF, z0, z1⟩ := mend_end hbr (HO.out.1.k4 hg3.k4) (hgw.trans hg3) (by omega) HB.out
      have b0 := two_at0 hbq
      have b1 := two_at1 hbq
      have r0 := two_at0 hbr
      have r1 := two_at1 hbr
      have f0 : w3.frozen? ⟨w.heap.size + 1, 0, none⟩ = false := frozen_of_row _ _ 0 _ _ hbr
      have f1 : w3.frozen? ⟨w.heap.size + 1, 1, none⟩ = false := frozen_of_row _ _ 1 _ _ hbr
      clear hbq hbr HO HQ HR2 hgw hg3
      rcases hk' with hk1 | ⟨hk1, hk2⟩
      all_goals
        go_wp2
        refine bodyPost_ret (results_two1 Try.results27 _ _ (w.heap.size + 1) _ rfl Try.underlying26 rfl Try.sizeA z0 z1) rfl ?_
        exact ⟨_, ret_bs2 HE.out.1.symm, by rw [HE.out.2]; exact HF.out.1.arr, HF.out.2⟩
  · have HE : Hid (rotE a d s k = 6 ∧ rotL a d s k = a) := by
      have hE : ¬ rotOk a d s k := fun h => hT ⟨h.1, h.2.1, h.2.2.1, h.2.2.2.1⟩
      exact ⟨if_neg hE, if_neg hE⟩
    have hC := bytesOf_no (some ⟨g, 0, none⟩) 4 cap none 0 0 d s W2 (by simp only [thereB, decide_eq_false_iff_not]; omega)
    have hk' : k < 0 ∨ 0 ≤ k := by omega
    clear hT
    go_wp2_with fail
    rw [← hW2, ← hq]
    clear hW2 hq
    refine hC.mono ?_
    rintro e w3 ⟨rfl, hg3⟩
    clear hC b0 b1
    have hbq := hg3.block' HQ.out.1
    have hbr := hg3.block' HR2.out
    obtain ⟨HF, z0, z1⟩ := mend_end hbr (HO.out.1.k4 hg3.k4) (hgw.trans hg3) (by omega) HB.out
    have b0 := two_at0 hbq
    have b1 := two_at1 hbq
    have r0 := two_at0 hbr
    have r1 := two_at1 hbr
    have f0 : w3.frozen? ⟨w.heap.size + 1, 0, none⟩ = false := frozen_of_row _ _ 0 _ _ hbr
    have f1 : w3.frozen? ⟨w.heap.size + 1, 1, none⟩ = false := frozen_of_row _ _ 1 _ _ hbr
    clear hbq hbr HO HQ HR2 hgw hg3
    rcases hk' with hk1 | hk1
    all_goals
      go_wp2
      refine bodyPost_ret (results_two1 Try.results27 _ _ (w.heap.size + 1) _ rfl Try.underlying26 rfl Try.sizeA z0 z1) rfl ?_
      exact ⟨_, ret_bs2 HE.out.1.symm, by rw [HE.out.2]; exact HF.out.1.arr, HF.out.2⟩

theorem Try.zeroS (w : World) : (zeroValue 52).run Try.prog w = .ok (.slice none 0 0) w := by kernel_rfl

set_option maxRecDepth 20000 in
set_option maxHeartbeats 6400000 in
theorem harmGone_any (v : Value) (a : ArrP) (d : Int) (w : World) (h : ArrV w v a) (ha : Arr a) :
    Calls Try.prog 29 #[v, .int .i64 d] w fun e w' => ∃ r, e = .returned (.tuple #[r, .int .i64 (goneE d)]) ∧ ArrV w' r (goneL a d) ∧ Grow w w' := by
  obtain ⟨a1, n1, c1, a2, n2, c2, rfl⟩ := h.form
  obtain ⟨W, hW⟩ : ∃ W, W = (w.alloc (.cells #[.slice a1 n1 c1, .slice a2 n2 c2] 26)).alloc (.cells #[.slice none 0 0, .slice none 0 0] 26) := ⟨_, rfl⟩
  obtain ⟨hgW, k0, k1, HR, HB, hOw⟩ := harm_start hW h ha
  have HA : Hid (Arr a) := ha
  clear h ha
  go_enter Try.func29, Try.ntmps29
  go_wp2_with fail
  rw [← hW]
  clear hW
  refine hOw.mono ?_
  rintro e w1 ⟨bs, U, dv, iv, rfl, hO, hS, hg1⟩
  clear hOw
  obtain ⟨q, hq⟩ : ∃ q, q = w1.heap.size := ⟨_, rfl⟩
  obtain ⟨W2, hW2⟩ : ∃ W2, W2 = w1.alloc (.cells #[dv, iv] 26) := ⟨_, rfl⟩
  obtain ⟨hgw, HQ, HO, HR2, ⟨g, cap, rfl⟩, rfl⟩ := harm_own HA.out hO hS hg1 hgW HR hq hW2
  have b0 := two_at0 HQ.out.1
  have b1 := two_at1 HQ.out.1
  have hTh := there_any d 0 W2
  clear hO hS hg1 hgW k0 k1 HR
  by_cases hT : d < 0 ∨ 3 < d
  · have HE : Hid (goneE d = 6 ∧ goneL a d = a) := ⟨if_pos hT, if_pos hT⟩
    rw [show thereB d 0 = false from by simp only [thereB, decide_eq_false_iff_not]; omega] at hTh
    obtain ⟨HF, z0, z1⟩ := mend_end HR2.out HO.out.1 hgw (by omega) HB.out
    have r0 := two_at0 HR2.out
    have r1 := two_at1 HR2.out
    have f0 : W2.frozen? ⟨w.heap.size + 1, 0, none⟩ = false := frozen_of_row _ _ 0 _ _ HR2.out
    have f1 : W2.frozen? ⟨w.heap.size + 1, 1, none⟩ = false := frozen_of_row _ _ 1 _ _ HR2.out
    clear hT HO HQ HR2 hgw
    go_wp2_with fail
    rw [← hW2, ← hq]
    clear hW2 hq
    refine hTh.mono ?_
    rintro e w3 ⟨rfl, rfl⟩
    clear hTh
    go_wp2
    refine bodyPost_ret (results_two1 Try.results29 _ _ (w.heap.size + 1) _ rfl Try.underlying26 rfl Try.sizeA z0 z1) rfl ?_
    exact ⟨_, ret_bs2 HE.out.1.symm, by rw [HE.out.2]; exact HF.out.1.arr, HF.out.2⟩
  · obtain ⟨d, rfl⟩ := Int.eq_ofNat_of_zero_le (show 0 ≤ d by omega)
    have hd4 : d < 4 := by omega
    have HE : Hid (goneE (d : Int) = 0 ∧ goneL a (d : Int) = goneTo a d 3) := ⟨if_neg hT, (if_neg hT).trans (by simp)⟩
    rw [show thereB (d : Int) 0 = true from by simp [thereB]; omega] at hTh
    obtain ⟨bk, hbk, hcd, hrow, hl3⟩ := HO.out.1.disk hd4
    have hcl : ∀ ty, (Builtin.clear_ #[41] ty #[.slice (some ⟨bk, 0, none⟩) 3 3]).run Try.prog W2 = .ok (.tuple #[]) (W2.setCells bk 0 (List.replicate 3 (.slice none 0 0))) :=
      fun ty => Lib.run_clear_slice W2 41 52 ty (.slice none 0 0) Try.underlying41 Try.zeroS rfl rfl bk 0 3 3 (by omega) (fun j hj => by obtain ⟨⟨u, hu⟩, -⟩ := hrow.at (k := j) (by omega); rw [Nat.zero_add, hu]; rfl) (fun j hj => by rw [Nat.zero_add]; exact (hrow.at (k := j) (by omega)).2)
    have hne : ∀ (b : Nat) cs, W2.heap[b]? = some (.cells cs 26 (0, 0)) → b ≠ bk := fun b cs hb e => by
      obtain ⟨us, _, hc, _⟩ := hrow
      subst e
      rw [hb] at hc
      injection hc with hc
      injection hc with _ hc _
      exact absurd hc (by decide)
    have hset : ∀ (b : Nat) o, W2.heap[b]? = some o → b ≠ bk → (W2.setCells bk 0 (List.replicate 3 (.slice none 0 0))).heap[b]? = some o := fun b o hb hn => set_other (set_other (set_other hb hn) hn) hn
    have hbq := hset q _ HQ.out.1 (hne q _ HQ.out.1)
    have hbr := hset _ _ HR2.out (hne _ _ HR2.out)
    have hOz := gone_own HO.out.1 hd4 hbk
    have hgz := gone_grow hgw (Nat.le_trans HB.out (HO.out.1.disks.base bk (List.mem_of_getElem? hbk)))
    obtain ⟨Wz, hWz⟩ : ∃ Wz, Wz = W2.setCells bk 0 (List.replicate 3 (.slice none 0 0)) := ⟨_, rfl⟩
    rw [← hWz] at hbq hbr hOz hgz
    simp only [← hWz] at hcl
    clear hWz
    obtain ⟨HF, z0, z1⟩ := mend_end hbr hOz hgz (by omega) HB.out
    have b0' := two_at0 hbq
    have b1' := two_at1 hbq
    have r0 := two_at0 hbr
    have r1 := two_at1 hbr
    have f0 : Wz.frozen? ⟨w.heap.size + 1, 0, none⟩ = false := frozen_of_row _ _ 0 _ _ hbr
    have f1 : Wz.frozen? ⟨w.heap.size + 1, 1, none⟩ = false := frozen_of_row _ _ 1 _ _ hbr
    have hdi : (d : Int) < 4 := by omega
    clear hbq hbr hne hset hOz hgz HO HQ HR2 hgw hrow hl3 hbk hT
    go_wp2_with fail
    rw [← hW2, ← hq]
    clear hW2 hq
    refine hTh.mono ?_
    rintro e w3 ⟨rfl, rfl⟩
    clear hTh
    go_wp2
    refine bodyPost_ret (results_two1 Try.results29 _ _ (w.heap.size + 1) _ rfl Try.underlying26 rfl Try.sizeA z0 z1) rfl ?_
    exact ⟨_, ret_bs2 HE.out.1.symm, by rw [HE.out.2]; exact HF.out.1.arr, HF.out.2⟩

end Go.Proofs.Ytjggiameajndgac
