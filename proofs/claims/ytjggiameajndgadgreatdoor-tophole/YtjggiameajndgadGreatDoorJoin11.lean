import Derived.Test.YtjggiameajndgadGreatDoorJoin10
/-
  As Stable and StableLast, with one operation (number s) that may move the world on in a way of its own (T), under which what is asked of all others stays true; F is how the world may have moved on since the region's beginning.
-/
namespace Go.Proofs.YtjggiameajndgadGreatDoor
open Go.RowKit

/-- Each operation, in the order of the text, with the way in which it moves the world on. -/
def StepsT (P : Program) (ops : Array Oper) (w0 : World) : List Oper → List ((World → World → Prop) × (World → World → Prop)) → List (Value → World → Prop) → List ((Value → World → Prop) × Value) → Act → Prop
  | o :: rest, (G, E) :: Es, R :: Rs, done, a => (∀ w, G w0 w → depFacts done w o.after.toList → wpList P ops (SQ E a o.dst w R) [o] a w) ∧ ∀ v, StepsT P ops w0 rest Es Rs (done ++ [(R, v)]) (a.put o.dst v)
  | _, _, _, _, _ => True

theorem StepsT.cons {G E : World → World → Prop} {P : Program} {ops : Array Oper} {w0 : World} {o : Oper} {rest : List Oper} {Es : List ((World → World → Prop) × (World → World → Prop))} {R : Value → World → Prop} {Rs : List (Value → World → Prop)} {done : List ((Value → World → Prop) × Value)} {a : Act}
    (h1 : ∀ w, G w0 w → depFacts done w o.after.toList → wpList P ops (SQ E a o.dst w R) [o] a w) (h2 : ∀ v, ∃ a' d', a.put o.dst v = a' ∧ done ++ [(R, v)] = d' ∧ StepsT P ops w0 rest Es Rs d' a') : StepsT P ops w0 (o :: rest) ((G, E) :: Es) (R :: Rs) done a :=
  ⟨h1, fun v => by obtain ⟨a', d', rfl, rfl, h⟩ := h2 v; exact h⟩

theorem stepsT_at {P : Program} {ops : Array Oper} {w0 : World} : ∀ (i : Nat) (l : List Oper) (Es : List ((World → World → Prop) × (World → World → Prop))) (Rs : List (Value → World → Prop)) (done : List ((Value → World → Prop) × Value)) (a : Act) (vs : Nat → Value) (o : Oper) (E : (World → World → Prop) × (World → World → Prop)) (R : Value → World → Prop) (w : World),
    StepsT P ops w0 l Es Rs done a → l[i]? = some o → Es[i]? = some E → Rs[i]? = some R → E.1 w0 w → depFacts (done ++ zipDone Rs vs i) w o.after.toList → wpList P ops (SQ E.2 (lexP l vs i a) o.dst w R) [o] (lexP l vs i a) w
  | _, [], _, _, _, _, _, _, _, _, _, _, h, _, _, _, _ => by simp at h
  | _, _ :: _, [], _, _, _, _, _, _, _, _, _, _, h, _, _, _ => by simp at h
  | _, _ :: _, _ :: _, [], _, _, _, _, _, _, _, _, _, _, h, _, _ => by simp at h
  | 0, o :: l, E :: Es, R :: Rs, done, a, vs, o', E', R', w, hs, h1, he, h2, hE, hd => by
    simp at h1 h2 he
    subst h1 h2 he
    simp [zipDone] at hd
    exact hs.1 w hE hd
  | i + 1, o :: l, E :: Es, R :: Rs, done, a, vs, o', E', R', w, hs, h1, he, h2, hE, hd =>
    stepsT_at i l Es Rs (done ++ [(R, vs 0)]) (a.put o.dst (vs 0)) (fun j => vs (j + 1)) o' E' R' w (hs.2 (vs 0)) (by simpa using h1) (by simpa using he) (by simpa using h2) hE (by simpa [zipDone] using hd)

/-- All but number s. -/
def allBut (S : (Value → World → Prop) → Prop) : Nat → List (Value → World → Prop) → Prop
  | _, [] => True
  | 0, _ :: Rs => ∀ R ∈ Rs, S R
  | s + 1, R :: Rs => S R ∧ allBut S s Rs

theorem allBut_at {S : (Value → World → Prop) → Prop} : ∀ (s : Nat) (Rs : List (Value → World → Prop)), allBut S s Rs → ∀ (j : Nat) R, j ≠ s → Rs[j]? = some R → S R
  | _, [], _, j, R, _, h => by simp at h
  | 0, _ :: Rs, h, 0, R, hj, _ => absurd rfl hj
  | 0, _ :: Rs, h, j + 1, R, _, hR => h R (List.mem_of_getElem? (by simpa using hR))
  | s + 1, R :: Rs, h, 0, R', _, hR => by simp at hR; subst hR; exact h.1
  | s + 1, R :: Rs, h, j + 1, R', hj, hR => allBut_at s Rs h.2 j R' (fun e => hj (by rw [e])) (by simpa using hR)

section
variable {E T F : World → World → Prop} {P : Program} {Q : Exit → Act → World → Prop} {l : List Oper} {Rs : List (Value → World → Prop)} {a0 : Act} {w0 : World} {z : Oper} {s : Nat}

/-- How the world has moved on ahead of each operation, and how each moves it on. -/
def onePairs (E T F : World → World → Prop) (s n : Nat) : List ((World → World → Prop) × (World → World → Prop)) := (List.replicate n (F, E)).set s (E, T)

theorem oneE {n i : Nat} {E' : (World → World → Prop) × (World → World → Prop)} (h : (onePairs E T F s n)[i]? = some E') : (i = s ∧ E' = (E, T)) ∨ (i ≠ s ∧ E' = (F, E)) := by
  unfold onePairs at h
  by_cases his : i = s
  · subst his
    by_cases hn : i < n
    · rw [List.getElem?_set_self (by simpa using hn)] at h
      exact .inl ⟨rfl, (Option.some.inj h).symm⟩
    · rw [List.getElem?_eq_none (by simp; omega)] at h
      cases h
  · rw [List.getElem?_set_ne (fun e => his e.symm)] at h
    by_cases hn : i < n
    · rw [List.getElem?_replicate_of_lt hn] at h
      exact .inr ⟨his, (Option.some.inj h).symm⟩
    · rw [List.getElem?_eq_none (by simp; omega)] at h
      cases h

theorem one_st (hst : ∀ R ∈ Rs, ∀ v x y, R v x → E x y → R v y) (hst2 : allBut (fun R => ∀ v x y, R v x → T x y → R v y) s Rs) {n i j : Nat} {E' : (World → World → Prop) × (World → World → Prop)} {R : Value → World → Prop} (hij : j ≠ i) (hE : (onePairs E T F s n)[i]? = some E') (hR : Rs[j]? = some R) : ∀ v x y, R v x → E'.2 x y → R v y := by
  rcases oneE hE with ⟨rfl, rfl⟩ | ⟨_, rfl⟩
  · exact allBut_at _ Rs hst2 j R hij hR
  · exact hst R (List.mem_of_getElem? hR)

/-- How far the world has moved on. -/
def Mv (E F : World → World → Prop) (s : Nat) (listed : Array Bool) (x y : World) : Prop := F x y ∧ (listed.getD s false = false → E x y)

theorem one_pre {listed : Array Bool} {w : World} {n i : Nat} {E' : (World → World → Prop) × (World → World → Prop)} (hE : (onePairs E T F s n)[i]? = some E') (hu : listed.getD i false = false) (h : Mv E F s listed w0 w) : E'.1 w0 w := by
  rcases oneE hE with ⟨rfl, rfl⟩ | ⟨_, rfl⟩
  · exact h.2 hu
  · exact h.1

theorem one_tr (htr : ∀ x y z, E x y → E y z → E x z) (htr1 : ∀ x y, F w0 x → E x y → F w0 y) (htr2 : ∀ x y, F w0 x → T x y → F w0 y) {n i : Nat} {E' : (World → World → Prop) × (World → World → Prop)} (hE : (onePairs E T F s n)[i]? = some E') {listed : Array Bool} (hsz : i < listed.size) {x y : World} (h : Mv E F s listed w0 x) (h' : E'.2 x y) : Mv E F s (listed.setIfInBounds i true) w0 y := by
  rcases oneE hE with ⟨rfl, rfl⟩ | ⟨hne, rfl⟩
  · exact ⟨htr2 _ _ h.1 h', fun hs => by simp [hsz] at hs⟩
  · exact ⟨htr1 _ _ h.1 h', fun hs => by rw [getD_set_ne false hne] at hs; exact htr _ _ _ (h.2 hs) h'⟩

theorem wpAny_one (hB : stableB l = true) (hlen : Rs.length = l.length) (htr : ∀ x y z, E x y → E y z → E x z) (htr1 : ∀ x y, F w0 x → E x y → F w0 y) (htr2 : ∀ x y, F w0 x → T x y → F w0 y) (hst : ∀ R ∈ Rs, ∀ v x y, R v x → E x y → R v y) (hst2 : allBut (fun R => ∀ v x y, R v x → T x y → R v y) s Rs)
    (hsteps : StepsT P l.toArray w0 l (onePairs E T F s l.length) Rs [] a0) (hfin : ∀ w', F w0 w' → FinS Q w' l Rs a0) :
    ∀ (fuel : Nat) (listed : Array Bool) (a : Act) (w : World) (vs : Nat → Value), listed.toList.count false = fuel → InvS (Mv E F s listed) l Rs a0 w0 listed a w vs → wpAny P .any l.toArray Q fuel listed a w := by
  intro fuel
  induction fuel with
  | zero =>
    intro listed a w vs hc h
    have hall : ∀ i, i < l.length → listed.getD i false = true := by
      intro i hi
      have hi' : i < listed.size := by rw [h.size]; exact hi
      have hnm := List.count_eq_zero.1 hc
      refine getD_true_of hi' fun hu => hnm ?_
      have : listed[i] = false := by simpa [hi'] using hu
      rw [← this]
      simp
    refine ⟨?_, h.all_done hB hlen (fun w' h => hfin w' h.1) hall⟩
    apply List.eq_nil_iff_forall_not_mem.2
    intro j hj
    obtain ⟨hu, o, ho, _⟩ := mem_ready.1 hj
    have hjl : j < l.length := by
      have := (Array.getElem?_eq_some_iff.1 ho).1
      simpa using this
    have := hall j hjl
    rw [getD_false_true hu] at this
    cases this
  | succ fuel ih =>
    intro listed a w vs hc h
    refine ⟨fun hr => h.all_done hB hlen (fun w' h => hfin w' h.1) (h.ready_nil hB hr), fun i hi => ?_⟩
    obtain ⟨hu, o, ho', hall⟩ := mem_ready.1 hi
    have ho : l[i]? = some o := by simpa using ho'
    have hil : i < l.length := (List.getElem?_eq_some_iff.1 ho).1
    obtain ⟨E1, hE1⟩ : ∃ E1, (onePairs E T F s l.length)[i]? = some E1 := ⟨(onePairs E T F s l.length)[i]'(by simp [onePairs]; omega), by simp [onePairs, hil]⟩
    obtain ⟨R, hR⟩ : ∃ R, Rs[i]? = some R := ⟨Rs[i]'(by omega), by simp [show i < Rs.length by omega]⟩
    have hsp := stableB_spec hB ho
    have hd : depFacts ([] ++ zipDone Rs vs i) w o.after.toList := depFacts_of _ fun e he hb x hx => by
      have hz := zipDone_get Rs vs i e.on x (by simpa using hx)
      rw [hz.2]
      exact h.holds e.on x.1 (hall e (by simpa using he) hb) hz.1
    have hw := stepsT_at i l _ Rs [] a0 vs o E1 R w hsteps ho hE1 hR (one_pre hE1 (getD_false_true hu) h.moved) hd
    have hag := h.agree hB ho hu hall
    have hdst : dstAt l i = o.dst := by simp [dstAt, ho]
    refine wpOp_of_SQ ho' ?_ (execOp_agree o hsp.1 _ _ hag) (wanted_agree o _ _ hag) hw ?_
    · rw [h.shape.size, (lexP_sh l (apart_of hB) vs a0 i (by omega)).size]
    · intro v w' hE hRv
      have hui := getD_false_true hu
      have hsz : i < listed.size := by rw [h.size]; exact hil
      have hset : ∀ j, (listed.setIfInBounds i true).getD j false = true ↔ listed.getD j false = true ∨ j = i := by
        intro j
        by_cases hij : i = j
        · subst hij; simp [hsz]
        · rw [getD_set_ne false hij]
          constructor
          · exact .inl
          · rintro (h1 | h1)
            · exact h1
            · exact absurd h1.symm hij
      refine ih _ _ _ (fun j => if j = i then v else vs j) ?_ ⟨by simp [h.size], one_tr htr htr1 htr2 hE1 hsz h.moved hE, ?_, ?_, ?_⟩
      · have hli : listed.toList[i]'(by simpa using hsz) = false := by
          have : listed[i] = false := by simpa [hsz] using hu
          simpa using this
        rw [Array.toList_setIfInBounds, List.count, List.countP_set (by simpa using hsz)]
        rw [List.count] at hc
        rw [hc, hli, if_pos (by rfl), if_neg (by decide)]
        omega
      · rw [← hdst]
        refine h.shape.put (apart_of hB) i (by rw [hui]; simp) hset v (fun j hj => ?_) (by simp)
        have hji : j ≠ i := fun e => by rw [e, hui] at hj; cases hj
        simp [hji]
      · intro j R' hj hR'
        rcases (hset j).1 hj with hj' | rfl
        · have hji : j ≠ i := fun e => by rw [e, hui] at hj'; cases hj'
          simp only [hji, if_false]
          exact one_st hst hst2 hji hE1 hR' _ _ _ (h.holds j R' hj' hR') hE
        · rw [hR] at hR'
          obtain rfl := Option.some.inj hR'
          simpa using hRv
      · intro j p hp hj e he hb
        rcases (hset j).1 hj with hj' | rfl
        · exact (hset e.on).2 (.inl (h.closed j p hp hj' e he hb))
        · rw [ho] at hp
          obtain rfl := Option.some.inj hp
          exact (hset e.on).2 (.inl (hall e he hb))

theorem wpAny_onelast (hB : stableB (l ++ [z]) = true) (hlen : Rs.length = l.length) (hlast : lastB l z = true) (htr : ∀ x y z, E x y → E y z → E x z) (htr1 : ∀ x y, F w0 x → E x y → F w0 y) (htr2 : ∀ x y, F w0 x → T x y → F w0 y) (hst : ∀ R ∈ Rs, ∀ v x y, R v x → E x y → R v y) (hst2 : allBut (fun R => ∀ v x y, R v x → T x y → R v y) s Rs)
    (hsteps : StepsT P (l ++ [z]).toArray w0 l (onePairs E T F s l.length) Rs [] a0) (hfin : ∀ w', F w0 w' → FinS (fun _ a w => wpList P (l ++ [z]).toArray Q [z] a w) w' l Rs a0) :
    ∀ (fuel : Nat) (listed : Array Bool) (a : Act) (w : World) (vs : Nat → Value), listed.toList.count false = fuel + 1 → listed.getD l.length true = false → InvS (Mv E F s listed) (l ++ [z]) Rs a0 w0 listed a w vs → wpAny P .any (l ++ [z]).toArray Q (fuel + 1) listed a w := by
  intro fuel
  induction fuel with
  | zero =>
    intro listed a w vs hc hz h
    have hzl : l.length < listed.size := by rw [h.size]; simp
    have hone : ∀ i, i < l.length → listed.getD i false = true := by
      intro i hi
      have hi' : i < listed.size := by omega
      refine getD_true_of hi' fun hu => ?_
      have h1 : listed[i] = false := by simpa [hi'] using hu
      have h2 : listed[l.length] = false := by simpa [hzl] using hz
      have hset := List.count_set (a := true) (b := false) (i := i) (l := listed.toList) (by simpa using hi')
      have hm : false ∈ listed.toList.set i true := by
        refine List.mem_iff_getElem.2 ⟨l.length, by simpa using hzl, ?_⟩
        rw [List.getElem_set_ne (by omega)]
        simpa using h2
      have hpos := List.count_pos_iff.2 hm
      rw [hset, hc] at hpos
      simp [h1] at hpos
    refine ⟨fun hr => ?_, fun i hi => ?_⟩
    · exfalso
      have := h.ready_nil hB hr l.length (by simp)
      rw [getD_false_true hz] at this
      cases this
    · obtain ⟨hu, o, ho', hall⟩ := mem_ready.1 hi
      have ho : (l ++ [z])[i]? = some o := by simpa using ho'
      have hil : i < (l ++ [z]).length := (List.getElem?_eq_some_iff.1 ho).1
      have hiL : i = l.length := by
        by_cases hiL : i < l.length
        · have := hone i hiL
          rw [getD_false_true hu] at this
          cases this
        · simp at hil
          omega
      subst hiL
      obtain rfl : z = o := by simpa using ho
      have h1 := fin_at l Rs a0 vs (hfin w h.moved.1) hlen (fun i R hi => h.holds i R (hone i (by rw [← hlen]; exact (List.getElem?_eq_some_iff.1 hi).1)) hi)
      have h2 : a = lexP (l ++ [z]) vs l.length a0 := h.shape.eq (lexP_sh (l ++ [z]) (apart_of hB) vs a0 l.length (by simp)) (fun j t hd => by
        have hj : j < (l ++ [z]).length := by
          unfold dstAt at hd
          cases ho : (l ++ [z])[j]? with
          | none => simp [ho] at hd
          | some o => exact (List.getElem?_eq_some_iff.1 ho).1
        constructor
        · intro hj'
          by_cases hjl : j < l.length
          · exact hjl
          · simp at hj
            have : j = l.length := by omega
            rw [this, getD_false_true hz] at hj'
            cases hj'
        · exact fun hj' => hone j hj')
      rw [lexP_prefix l z vs l.length a0 (Nat.le_refl _)] at h2
      rw [h2]
      refine wpOp_of_last ho' h1 fun a' w' hQ => ⟨?_, hQ⟩
      apply List.eq_nil_iff_forall_not_mem.2
      intro j hj
      obtain ⟨hu', o', ho'', _⟩ := mem_ready.1 hj
      have hjl : j < (l ++ [z]).length := by
        have := (Array.getElem?_eq_some_iff.1 ho'').1
        simpa using this
      by_cases hjL : j = l.length
      · subst hjL
        have := getD_false_true hu'
        simp [hzl] at this
      · simp at hjl
        rw [getD_set_ne true (fun e => hjL e.symm)] at hu'
        have := hone j (by omega)
        rw [getD_false_true hu'] at this
        cases this
  | succ fuel ih =>
    intro listed a w vs hc hz h
    refine ⟨fun hr => ?_, fun i hi => ?_⟩
    · exfalso
      have := h.ready_nil hB hr l.length (by simp)
      rw [getD_false_true hz] at this
      cases this
    obtain ⟨hu, o, ho', hall⟩ := mem_ready.1 hi
    have ho : (l ++ [z])[i]? = some o := by simpa using ho'
    have hil' : i < (l ++ [z]).length := (List.getElem?_eq_some_iff.1 ho).1
    have hil : i < l.length := by
      by_cases hil : i < l.length
      · exact hil
      · exfalso
        have hiL : i = l.length := by simp at hil'; omega
        subst hiL
        obtain rfl : z = o := by simpa using ho
        have hone : ∀ j, j < l.length → listed.getD j false = true := fun j hj => by
          obtain ⟨e, he, hb, rfl⟩ := lastB_spec hlast hj
          exact hall e he hb
        have hzl : l.length < listed.size := by rw [h.size]; simp
        have hls : listed.toList = List.replicate l.length true ++ [false] := by
          refine List.ext_getElem (by simp [h.size]) fun j h1 h2 => ?_
          have h1' : j < listed.size := by simpa using h1
          by_cases hj : j < l.length
          · have := hone j hj
            rw [List.getElem_append_left (by simpa using hj)]
            simpa [h1'] using this
          · have hjl : j = l.length := by rw [h.size] at h1'; simp at h1'; omega
            subst hjl
            rw [List.getElem_append_right (by simp)]
            simpa [hzl] using hz
        rw [hls] at hc
        simp [List.count_replicate] at hc
    have hol : l[i]? = some o := by rw [List.getElem?_append_left hil] at ho; exact ho
    obtain ⟨E1, hE1⟩ : ∃ E1, (onePairs E T F s l.length)[i]? = some E1 := ⟨(onePairs E T F s l.length)[i]'(by simp [onePairs]; omega), by simp [onePairs, hil]⟩
    obtain ⟨R, hR⟩ : ∃ R, Rs[i]? = some R := ⟨Rs[i]'(by omega), by simp [show i < Rs.length by omega]⟩
    have hsp := stableB_spec hB ho
    have hd : depFacts ([] ++ zipDone Rs vs i) w o.after.toList := depFacts_of _ fun e he hb x hx => by
      have hz := zipDone_get Rs vs i e.on x (by simpa using hx)
      rw [hz.2]
      exact h.holds e.on x.1 (hall e (by simpa using he) hb) hz.1
    have hw := stepsT_at i l _ Rs [] a0 vs o E1 R w hsteps hol hE1 hR (one_pre hE1 (getD_false_true hu) h.moved) hd
    have hag := h.agree hB ho hu hall
    rw [lexP_prefix l z vs i a0 (by omega)] at hag
    have hdst : dstAt (l ++ [z]) i = o.dst := by simp [dstAt, ho]
    refine wpOp_of_SQ ho' ?_ (execOp_agree o hsp.1 _ _ hag) (wanted_agree o _ _ hag) hw ?_
    · rw [h.shape.size, ← lexP_prefix l z vs i a0 (by omega), (lexP_sh (l ++ [z]) (apart_of hB) vs a0 i (by simp; omega)).size]
    · intro v w' hE hRv
      have hui := getD_false_true hu
      have hsz : i < listed.size := by rw [h.size]; exact hil'
      have hset : ∀ j, (listed.setIfInBounds i true).getD j false = true ↔ listed.getD j false = true ∨ j = i := by
        intro j
        by_cases hij : i = j
        · subst hij; simp [hsz]
        · rw [getD_set_ne false hij]
          constructor
          · exact .inl
          · rintro (h1 | h1)
            · exact h1
            · exact absurd h1.symm hij
      refine ih _ _ _ (fun j => if j = i then v else vs j) ?_ ?_ ⟨by simp [h.size], one_tr htr htr1 htr2 hE1 hsz h.moved hE, ?_, ?_, ?_⟩
      · have hli : listed.toList[i]'(by simpa using hsz) = false := by
          have : listed[i] = false := by simpa [hsz] using hu
          simpa using this
        rw [Array.toList_setIfInBounds, List.count, List.countP_set (by simpa using hsz)]
        rw [List.count] at hc
        rw [hc, hli, if_pos (by rfl), if_neg (by decide)]
        omega
      · rw [getD_set_ne true (by omega)]
        exact hz
      · rw [← hdst]
        refine h.shape.put (apart_of hB) i (by rw [hui]; simp) hset v (fun j hj => ?_) (by simp)
        have hji : j ≠ i := fun e => by rw [e, hui] at hj; cases hj
        simp [hji]
      · intro j R' hj hR'
        rcases (hset j).1 hj with hj' | rfl
        · have hji : j ≠ i := fun e => by rw [e, hui] at hj'; cases hj'
          simp only [hji, if_false]
          exact one_st hst hst2 hji hE1 hR' _ _ _ (h.holds j R' hj' hR') hE
        · rw [hR] at hR'
          obtain rfl := Option.some.inj hR'
          simpa using hRv
      · intro j p hp hj e he hb
        rcases (hset j).1 hj with hj' | rfl
        · exact (hset e.on).2 (.inl (h.closed j p hp hj' e he hb))
        · rw [ho] at hp
          obtain rfl := Option.some.inj hp
          exact (hset e.on).2 (.inl (hall e he hb))

/-- The law: a region that draws its order. -/
theorem wp_region_one {id : Nat} {w : World} (s : Nat) (E T F : World → World → Prop) (Es : List ((World → World → Prop) × (World → World → Prop))) (Rs : List (Value → World → Prop)) (hEs : onePairs E T F s l.length = Es) (hm : P.follows .mixedOrders = true) (hB : stableB l = true) (hlen : Rs.length = l.length)
    (hrefl0 : ∀ x, E x x) (htr : ∀ x y z, E x y → E y z → E x z) (hrefl : F { w with drawn := w.drawn + 1 } { w with drawn := w.drawn + 1 }) (htr1 : ∀ x y, F { w with drawn := w.drawn + 1 } x → E x y → F { w with drawn := w.drawn + 1 } y) (htr2 : ∀ x y, F { w with drawn := w.drawn + 1 } x → T x y → F { w with drawn := w.drawn + 1 } y)
    (hst : ∀ R ∈ Rs, ∀ v x y, R v x → E x y → R v y) (hst2 : allBut (fun R => ∀ v x y, R v x → T x y → R v y) s Rs)
    (hsteps : StepsT P l.toArray { w with drawn := w.drawn + 1 } l Es Rs [] a0) (hfin : ∀ w', F { w with drawn := w.drawn + 1 } w' → FinS Q w' l Rs a0) : (Code.region id l.toArray true).wp P Q a0 w := by
  subst hEs
  refine wp_region_any hm ?_
  refine wpAny_one hB hlen htr htr1 htr2 hst hst2 hsteps hfin _ _ _ _ (fun _ => undef) (by simp) ⟨by simp, ⟨hrefl, fun _ => hrefl0 _⟩, ⟨rfl, rfl, fun _ _ => rfl, fun j t hj => ?_⟩, fun i R hi => ?_, fun j o _ hj => ?_⟩
  · rw [replicate_getD] at hj; cases hj
  · rw [replicate_getD] at hi; cases hi
  · rw [replicate_getD] at hj; cases hj

/-- The law: a region that draws its order, and ends with one operation that waits for all others. -/
theorem wp_region_onelast {id : Nat} {w : World} (s : Nat) (l : List Oper) (z : Oper) {ops : Array Oper} (hops : ops = (l ++ [z]).toArray) (E T F : World → World → Prop) (Es : List ((World → World → Prop) × (World → World → Prop))) (Rs : List (Value → World → Prop)) (hEs : onePairs E T F s l.length = Es) (hm : P.follows .mixedOrders = true) (hB : stableB (l ++ [z]) = true) (hlast : lastB l z = true) (hlen : Rs.length = l.length)
    (hrefl0 : ∀ x, E x x) (htr : ∀ x y z, E x y → E y z → E x z) (hrefl : F { w with drawn := w.drawn + 1 } { w with drawn := w.drawn + 1 }) (htr1 : ∀ x y, F { w with drawn := w.drawn + 1 } x → E x y → F { w with drawn := w.drawn + 1 } y) (htr2 : ∀ x y, F { w with drawn := w.drawn + 1 } x → T x y → F { w with drawn := w.drawn + 1 } y)
    (hst : ∀ R ∈ Rs, ∀ v x y, R v x → E x y → R v y) (hst2 : allBut (fun R => ∀ v x y, R v x → T x y → R v y) s Rs)
    (hsteps : StepsT P (l ++ [z]).toArray { w with drawn := w.drawn + 1 } l Es Rs [] a0) (hfin : ∀ w', F { w with drawn := w.drawn + 1 } w' → FinS (fun _ a w => wpList P (l ++ [z]).toArray Q [z] a w) w' l Rs a0) : (Code.region id ops true).wp P Q a0 w := by
  subst hops
  subst hEs
  refine wp_region_any hm ?_
  have hsz : (l ++ [z]).toArray.size = l.length + 1 := by simp
  rw [hsz]
  refine wpAny_onelast hB hlen hlast htr htr1 htr2 hst hst2 hsteps hfin _ _ _ _ (fun _ => undef) (by simp) (by simp) ⟨by simp, ⟨hrefl, fun _ => hrefl0 _⟩, ⟨rfl, rfl, fun _ _ => rfl, fun j t hj => ?_⟩, fun i R hi => ?_, fun j o _ hj => ?_⟩
  · rw [replicate_getD] at hj; cases hj
  · rw [replicate_getD] at hi; cases hi
  · rw [replicate_getD] at hj; cases hj

end

end Go.Proofs.YtjggiameajndgadGreatDoor

/-
  Rows of bytes' slices of the call's own, whose bytes lie in blocks of bytes that nothing else is written to. What the program's array.ownCells returns.
-/
namespace Go.Proofs.YtjggiameajndgadGreatDoor
open Go.RowKit

/-- Blocks of bytes are what they were. -/
def Kb (w w' : World) : Prop := ∀ (k : Nat) cs, w.heap[k]? = some (.cells cs 5 (0, 0)) → w'.heap[k]? = some (.cells cs 5 (0, 0))

theorem Kb.refl (w : World) : Kb w w := fun _ _ h => h
theorem Kb.trans {x y z : World} (h : Kb x y) (g : Kb y z) : Kb x z := fun k cs hk => g k cs (h k cs hk)
theorem Grow.kb {w w' : World} (h : Grow w w') : Kb w w' := fun _ _ hk => h.block' hk
theorem Kb.set {w : World} {b k : Nat} {u : Value} {cs : Array Value} {t : TypeId} {mk : Nat × Nat} (hb : w.heap[b]? = some (.cells cs t mk)) (ht : t ≠ 5) : Kb w (w.setCell ⟨b, k, none⟩ u) := fun j cs' hj => by
  refine set_other hj fun e => ?_
  subst e
  rw [hb] at hj
  injection hj with hj
  injection hj with _ hj _
  exact ht hj
theorem Kb.inn {w w' : World} {G : Nat → Prop} (h : GrownIn w w' G) (hn : ∀ k cs, G k → w.heap[k]? ≠ some (.cells cs 5 (0, 0))) : Kb w w' := fun k cs hk => (h.block k (heap_lt hk) (fun hG => hn k cs hG hk)).trans hk

/-- Bytes that read so as long as blocks of bytes are what they are. -/
def Tb (w : World) (u : Value) (l : List Int) : Prop := ∀ w', Kb w w' → Bs w' u l

theorem Tb.here {w : World} {u : Value} {l : List Int} (h : Tb w u l) : Bs w u l := h w (Kb.refl w)
theorem Tb.step {w w' : World} {u : Value} {l : List Int} (h : Tb w u l) (hk : Kb w w') : Tb w' u l := fun w'' h' => h w'' (hk.trans h')
theorem Tb.nil (w : World) : Tb w (.slice none 0 0) [] := fun w' _ => Bs.nil w'
theorem Tb.own {w : World} {B n : Nat} {u : Value} {l : List Int} (h : w.ownsRow B 5 1 u n (l.map (Value.int .u8))) (ho : Octets l) : Tb w u l := fun w' hk => by
  refine Bs.of_own (w := w') (base := B) (e := 5) (n := n) ⟨h.1, ?_⟩ ho
  rcases h.2 with h2 | ⟨g, cap, cur, hv, hb, hh, hr⟩
  · exact .inl h2
  · exact .inr ⟨g, cap, cur, hv, hb, hk g cur hh, hr⟩

/-- A row in block b of slices of bytes that read as these. -/
def DRow (b : Nat) (ls : List (List Int)) (w : World) : Prop :=
  ∃ us : List Value, us.length = ls.length ∧ w.heap[b]? = some (.cells us.toArray 34 (0, 0)) ∧ ∀ (i : Nat) u x, us[i]? = some u → ls[i]? = some x → Tb w u x

theorem DRow.kept {b : Nat} {ls : List (List Int)} {w w' : World} (h : DRow b ls w) (hk : Kb w w') (hb : w'.heap[b]? = w.heap[b]?) : DRow b ls w' := by
  obtain ⟨us, h1, h2, h3⟩ := h
  exact ⟨us, h1, hb.trans h2, fun i u x hu hx => (h3 i u x hu hx).step hk⟩

theorem DRow.lt {b : Nat} {ls : List (List Int)} {w : World} (h : DRow b ls w) : b < w.heap.size := by
  obtain ⟨us, h1, h2, h3⟩ := h
  exact heap_lt h2

theorem DRow.grow {b : Nat} {ls : List (List Int)} {w w' : World} (h : DRow b ls w) (hg : Grow w w') : DRow b ls w' := h.kept hg.kb (hg.block b h.lt)

theorem DRow.notB {b : Nat} {ls : List (List Int)} {w : World} (h : DRow b ls w) (cs : Array Value) : w.heap[b]? ≠ some (.cells cs 5 (0, 0)) := by
  obtain ⟨us, h1, h2, h3⟩ := h
  intro e
  rw [h2] at e
  injection e with e
  injection e with _ e _
  exact absurd e (by decide)

theorem DRow.at {b : Nat} {ls : List (List Int)} {w : World} (h : DRow b ls w) {k : Nat} (hk : k < ls.length) : (∃ u, w.cell? ⟨b, k, none⟩ = some u) ∧ w.frozen? ⟨b, k, none⟩ = false := by
  obtain ⟨us, h1, h2, h3⟩ := h
  exact ⟨⟨us[k]'(by omega), row_at h2 k (by simp [h1, hk])⟩, frozen_of_row w b k _ _ h2⟩

theorem DRow.kbset {b : Nat} {ls : List (List Int)} {w : World} (h : DRow b ls w) (k : Nat) (u : Value) : Kb w (w.setCell ⟨b, k, none⟩ u) := by
  obtain ⟨us, h1, h2, h3⟩ := h
  exact Kb.set h2 (by decide)

theorem DRow.put {b : Nat} {ls : List (List Int)} {w : World} (h : DRow b ls w) (k : Nat) {x : List Int} {u : Value} (hx : Tb w u x) : DRow b (ls.set k x) (w.setCell ⟨b, k, none⟩ u) := by
  have hkb := h.kbset k u
  obtain ⟨us, h1, h2, h3⟩ := h
  refine ⟨us.set k u, by simp [h1], ?_, fun i q y hq hy => ?_⟩
  · rw [heap_setCell_same w b k _ _ _ h2]
    simp
  · by_cases hik : i = k
    · subst hik
      have hlt : i < us.length := by
        by_cases hlt : i < us.length
        · exact hlt
        · rw [List.getElem?_eq_none (by simp; omega)] at hq; cases hq
      rw [List.getElem?_set_self hlt] at hq
      rw [List.getElem?_set_self (by omega)] at hy
      cases hq
      cases hy
      exact hx.step hkb
    · rw [List.getElem?_set_ne (fun e => hik e.symm)] at hq hy
      exact (h3 i q y hq hy).step hkb

theorem DRow.bss {b : Nat} {ls : List (List Int)} {w : World} (h : DRow b ls w) (hm : ls.length ≤ 4) : Bss w (.slice (some ⟨b, 0, none⟩) ls.length ls.length) ls := by
  obtain ⟨us, h1, h2, h3⟩ := h
  exact Sl.row h2 rfl h1 (by unfold maxLen; omega) (fun i u x hu hx => (h3 i u x hu hx).here)

/-- A row of n, made. -/
def nilsN (n : Nat) : Array Value := (List.replicate n (.slice none 0 0)).toArray

theorem Tryz.madeN (w : World) (n : Nat) (hn : n ≤ 100) : (Instr.makeSlice 28 (.int .i64 (n : Int)) (.int .i64 (n : Int))).run Tryz.prog w = .ok (.slice (some ⟨w.heap.size, 0, none⟩) n n) (w.alloc (.cells (nilsN n) 34)) :=
  (run_make_row' (P := Tryz.prog) 28 34 (.slice none 0 0) 24 Tryz.underlying28 Tryz.infoS rfl .i64 .i64 n (by omega) (by omega) w).trans (by rw [show madeCells #[.slice none 0 0] n = nilsN n from Array.toList_inj.1 (by rw [toList_madeCells_one]; simp [nilsN])])

theorem DRow.made (w : World) (n : Nat) : DRow w.heap.size (List.replicate n []) (w.alloc (.cells (nilsN n) 34)) := by
  refine ⟨List.replicate n (.slice none 0 0), by simp, heap_alloc_new w _, fun i u x hu hx => ?_⟩
  have h1 := List.mem_of_getElem? hu
  have h2 := List.mem_of_getElem? hx
  simp only [List.mem_replicate] at h1 h2
  rw [h1.2, h2.2]
  exact Tb.nil _

/-- The first k are filled. -/
def fillTo (ls : List (List Int)) (k : Nat) : List (List Int) := ls.take k ++ List.replicate (ls.length - k) []

theorem fillTo_zero (ls : List (List Int)) : fillTo ls 0 = List.replicate ls.length [] := by simp [fillTo]
theorem fillTo_all (ls : List (List Int)) : fillTo ls ls.length = ls := by simp [fillTo]
theorem fillTo_length (ls : List (List Int)) {k : Nat} (h : k ≤ ls.length) : (fillTo ls k).length = ls.length := by simp [fillTo]; omega
theorem fillTo_set (ls : List (List Int)) {k : Nat} (h : k < ls.length) : (fillTo ls k).set k (ls.getD k []) = fillTo ls (k + 1) := by
  refine List.ext_getElem (by simp [fillTo]; omega) fun i h1 h2 => ?_
  rw [List.getElem_set]
  by_cases hik : k = i
  · subst hik
    rw [if_pos rfl]
    simp only [fillTo]
    rw [List.getElem_append_left (by simp; omega), List.getElem_take, List.getD_eq_getElem?_getD]
    simp [h]
  · rw [if_neg hik]
    simp only [fillTo]
    by_cases hlt : i < k
    · rw [List.getElem_append_left (by simp; omega), List.getElem_append_left (by simp; omega), List.getElem_take, List.getElem_take]
    · rw [List.getElem_append_right (by simp; omega), List.getElem_append_right (by simp; omega)]
      simp

set_option maxRecDepth 20000 in
set_option maxHeartbeats 1600000 in
theorem ownCells_row (v : Value) (ls : List (List Int)) (w : World) (h : Bss w v ls) (hn1 : 3 ≤ ls.length) (hn2 : ls.length ≤ 4) (h8 : ∀ b ∈ ls, b.length ≤ 8) :
    Calls Tryz.prog 44 #[v] w fun e w' => e = .returned (.slice (some ⟨w.heap.size, 0, none⟩) ls.length ls.length) ∧ DRow w.heap.size ls w' ∧ Grow w w' := by
  obtain ⟨ao, cap, rfl, h1, h2, h3, h4⟩ := h
  unfold maxLen at h2
  obtain ⟨b, off, rfl, hc⟩ := h4 (by omega)
  have HK : Hid (∀ k, k < ls.length → ∃ ak nk ck, w.cell? ⟨b, off + k, none⟩ = some (.slice ak nk ck) ∧ Bs w (.slice ak nk ck) (ls.getD k [])) := fun k hk => by
    obtain ⟨ak, ck, hck, hbk⟩ := Sl.bytesAt hc (k := k) hk
    exact ⟨ak, _, ck, hck, hbk⟩
  have H8 : Hid (∀ k, (ls.getD k []).length ≤ 8) := fun k => by
    by_cases hk : k < ls.length
    · exact h8 _ (getD_mem hk)
    · rw [List.getD_eq_getElem?_getD, List.getElem?_eq_none (by omega)]; simp
  have hmk := Tryz.madeN w ls.length (by omega)
  have HF : Hid (DRow w.heap.size (fillTo ls 0) (w.alloc (.cells (nilsN ls.length) 34))) := by rw [fillTo_zero]; exact DRow.made w _
  have HS : Hid (∀ k, k < ls.length → (fillTo ls k).set k (ls.getD k []) = fillTo ls (k + 1)) := fun k hk => fillTo_set ls hk
  have HL : Hid (∀ k, k ≤ ls.length → (fillTo ls k).length = ls.length) := fun k hk => fillTo_length ls hk
  have HE : Hid (fillTo ls ls.length = ls) := fillTo_all ls
  have hgA : Grow w (w.alloc (.cells (nilsN ls.length) 34)) := Grow.alloc _ _
  clear hc h4 h3 h8
  generalize ls.length = n at *
  go_enter Tryz.func44, Tryz.ntmps44
  go_wp2
  go_loopw [10] (fun i wr => ∃ k : Nat, k ≤ n ∧ i = .int .i64 k ∧ Hid (DRow w.heap.size (fillTo ls k) wr) ∧ Grow w wr) (fun i _ => n - (intOf i).toNat)
  case atStart => exact ⟨0, by omega, rfl, HF, hgA⟩
  case round =>
    obtain ⟨k, hk, rfl, HR, hgr⟩ := hrel
    clear HF hmk hgA
    by_cases hlt : k < n
    · obtain ⟨ak, nk, ck, hck, hbk⟩ := HK.out k hlt
      have hoc := hbk.octets
      have hC := bytesClone_any (.slice ak nk ck) (ls.getD k []) wr (hbk.grow hgr) (by have := H8.out k; omega)
      have hck' := hgr.at hck
      clear hck hbk
      go_wp2_with fail
      refine hC.mono ?_
      rintro e w1 ⟨r, rfl, hr, hg1⟩
      have hTb := Tb.own hr hoc
      obtain ⟨ar, nr, cr, rfl⟩ := hTb.here.form
      have hR1 := HR.out.grow hg1
      have hgr1 := hgr.trans hg1
      have hlen := HL.out k hk
      obtain ⟨⟨u0, hu0⟩, hf0⟩ := hR1.at (k := k) (by omega)
      have hR2 := hR1.put k hTb
      rw [HS.out k hlt] at hR2
      have HR2 : Hid (DRow _ _ _) := hR2
      have hg2 := hgr1.set (k := k) (Nat.le_refl w.heap.size) (.slice ar nr cr)
      clear hC hr hTb HR hR1 hR2 hlen hoc
      go_wp2
      go_roundw
      case rel => first | exact ⟨k + 1, by omega, by go_num, HR2, hg2⟩ | ((repeat apply Exists.intro); exact ⟨⟨k + 1, by omega, by go_num, HR2, hg2⟩, rfl⟩)
      case measure => simp [intOf]; omega
    · have HN : Hid (k = n) := by rw [Hid]; omega
      have hno : ¬ ((k : Int) < (n : Int)) := by omega
      go_wp2
      go_ret
      refine ⟨rfl, ?_, hgr⟩
      have := HR.out
      rw [HN.out, HE.out] at this
      exact this

end Go.Proofs.YtjggiameajndgadGreatDoor

/-
  What the program's array.ownIntent returns.
-/
namespace Go.Proofs.YtjggiameajndgadGreatDoor
open Go.RowKit

/-- A new row, behind n, that reads as these. -/
def NewRow (n : Nat) (cs : List (List Int)) (v : Value) (w : World) : Prop := ∃ r, n ≤ r ∧ v = .slice (some ⟨r, 0, none⟩) cs.length cs.length ∧ DRow r cs w
theorem NewRow.stable {n : Nat} (cs : List (List Int)) : ∀ (v : Value) (x y : World), NewRow n cs v x → Grow x y → NewRow n cs v y := fun _ _ _ ⟨r, h1, h2, h3⟩ hg => ⟨r, h1, h2, h3.grow hg⟩

/-- An intent of such a row. -/
def NewInt (n : Nat) (i : Int × List (List Int)) (v : Value) (w : World) : Prop := ∃ r, n ≤ r ∧ v = .agg #[.int .i64 i.1, .slice (some ⟨r, 0, none⟩) i.2.length i.2.length] ∧ DRow r i.2 w
theorem NewInt.stable {n : Nat} (i : Int × List (List Int)) : ∀ (v : Value) (x y : World), NewInt n i v x → Grow x y → NewInt n i v y := fun _ _ _ ⟨r, h1, h2, h3⟩ hg => ⟨r, h1, h2, h3.grow hg⟩

/-- Blocks of bytes, of slices of bytes and of disks are what they were. -/
def K3 (w w' : World) : Prop := ∀ (k : Nat) cs t, (t = 5 ∨ t = 34 ∨ t = 28) → w.heap[k]? = some (.cells cs t (0, 0)) → w'.heap[k]? = some (.cells cs t (0, 0))

theorem K3.kb {w w' : World} (h : K3 w w') : Kb w w' := fun k cs hk => h k cs _ (.inl rfl) hk
theorem K3.refl (w : World) : K3 w w := fun _ _ _ _ h => h
theorem K3.trans {x y z : World} (h : K3 x y) (g : K3 y z) : K3 x z := fun k cs t ht hk => g k cs t ht (h k cs t ht hk)
theorem Grow.k3 {w w' : World} (h : Grow w w') : K3 w w' := fun _ _ _ _ hk => h.block' hk
theorem K3.set {w : World} {b k : Nat} {u : Value} {cs : Array Value} {t : TypeId} {mk : Nat × Nat} (hb : w.heap[b]? = some (.cells cs t mk)) (ht : t ≠ 5 ∧ t ≠ 34 ∧ t ≠ 28) : K3 w (w.setCell ⟨b, k, none⟩ u) := fun j cs' t' ht' hj => by
  refine set_other hj fun e => ?_
  subst e
  rw [hb] at hj
  injection hj with hj
  injection hj with _ hj _
  subst hj
  obtain ⟨h1, h2, h3⟩ := ht
  rcases ht' with e | e | e
  · exact h1 e
  · exact h2 e
  · exact h3 e

theorem DRow.k3 {b : Nat} {ls : List (List Int)} {w w' : World} (h : DRow b ls w) (hk : K3 w w') : DRow b ls w' := by
  obtain ⟨us, h1, h2, h3⟩ := h
  exact ⟨us, h1, hk b _ _ (.inr (.inl rfl)) h2, fun i u x hu hx => (h3 i u x hu hx).step hk.kb⟩

set_option maxRecDepth 20000 in
set_option maxHeartbeats 1600000 in
theorem ownIntent_row (v : Value) (s : Int) (cs : List (List Int)) (w : World) (h : IntentV w v (s, cs)) (hn : cs.length = 4) (h8 : ∀ b ∈ cs, b.length ≤ 8) :
    Calls Tryz.prog 45 #[v] w fun e w' => ∃ r, e = .returned (.agg #[.int .i64 s, .slice (some ⟨r, 0, none⟩) 4 4]) ∧ w.heap.size ≤ r ∧ DRow r cs w' ∧ Grow w w' := by
  obtain ⟨cv, rfl, hb⟩ := h
  simp only at hb ⊢
  obtain ⟨ac, nc, cc, rfl⟩ : ∃ a n c, cv = .slice a n c := by
    obtain ⟨a, c, e⟩ := hb.form
    exact ⟨_, _, _, e⟩
  obtain ⟨W, hW⟩ : ∃ W, W = (w.alloc (.cells #[.int .i64 s, .slice ac nc cc] 78)).alloc (.cells #[.int .i64 0, .slice none 0 0] 78) := ⟨_, rfl⟩
  have hgW : Grow w W := by rw [hW]; exact (Grow.alloc _ _).trans (Grow.alloc _ _)
  have hbA : W.heap[w.heap.size]? = some (.cells #[.int .i64 s, .slice ac nc cc] 78 (0, 0)) := by rw [hW]; exact (heap_alloc_old _ _ (by simp)).trans (heap_alloc_new w _)
  have hbR : W.heap[w.heap.size + 1]? = some (.cells #[.int .i64 0, .slice none 0 0] 78 (0, 0)) := by rw [hW]; exact heap_alloc2_new w _ _
  have HbR : Hid (W.heap[w.heap.size + 1]? = some (.cells #[.int .i64 0, .slice none 0 0] 78 (0, 0))) := hbR
  have i0 := two_at0 hbA
  have i1 := two_at1 hbA
  have hcall := fun (w1 : World) (hg : Grow W w1) => ownCells_row (.slice ac nc cc) cs w1 (hb.grow (hgW.trans hg)) (by omega) (by omega) h8
  have Hcall : Hid (∀ (w1 : World) (hg : Grow W w1), Calls Tryz.prog 44 #[.slice ac nc cc] w1 fun e w' => e = .returned (.slice (some ⟨w1.heap.size, 0, none⟩) cs.length cs.length) ∧ DRow w1.heap.size cs w' ∧ Grow w1 w') := hcall
  have hn0 := hn
  clear hcall hb hbA hbR h8
  go_enter Tryz.func45, Tryz.ntmps45
  go_wp2
  rw [← hW]
  clear hW
  refine wp_region_last [_, _, _, _, _, _] _ rfl Grow [IsV (.pointer (some ⟨w.heap.size, 0, none⟩)), IsV (.int .i64 s), IsV (.pointer (some ⟨w.heap.size, 1, none⟩)), IsV (.slice ac nc cc), NewRow w.heap.size cs, NewInt w.heap.size (s, cs)] (by kernel_rfl) (by kernel_rfl) (by kernel_rfl) rfl Grow.refl (fun _ _ _ => Grow.trans) ?_ ?_ ?_
  · repeat (refine List.forall_mem_cons.2 ⟨by first | exact IsV.stable _ | exact NewInt.stable _ | exact NewRow.stable _, ?_⟩)
    exact fun R hR => nomatch hR
  · skip
    refine StepsS.cons ?_ fun v0 => ⟨_, _, by simp only [Act.put, List.setIfInBounds_toArray, List.set_cons_succ, List.set_cons_zero]; first | done | rfl, by simp only [List.nil_append]; first | done | rfl, ?_⟩
    · intro w1 hE hd
      clear hd
      go_wp2
      exact ⟨_, rfl, Grow.refl _, rfl⟩
    refine StepsS.cons ?_ fun v1 => ⟨_, _, by simp only [Act.put, List.setIfInBounds_toArray, List.set_cons_succ, List.set_cons_zero]; first | done | rfl, by simp only [List.nil_append, List.cons_append]; first | done | rfl, ?_⟩
    · intro w1 hE hd
      obtain rfl := IsV.eq (dep_at hd 0 rfl rfl rfl)
      clear hd
      have q0 := hE.drew.at i0
      go_wp2
      exact ⟨_, rfl, Grow.refl _, rfl⟩
    refine StepsS.cons ?_ fun v2 => ⟨_, _, by simp only [Act.put, List.setIfInBounds_toArray, List.set_cons_succ, List.set_cons_zero]; first | done | rfl, by simp only [List.nil_append, List.cons_append]; first | done | rfl, ?_⟩
    · intro w1 hE hd
      clear hd
      go_wp2
      exact ⟨_, rfl, Grow.refl _, rfl⟩
    refine StepsS.cons ?_ fun v3 => ⟨_, _, by simp only [Act.put, List.setIfInBounds_toArray, List.set_cons_succ, List.set_cons_zero]; first | done | rfl, by simp only [List.nil_append, List.cons_append]; first | done | rfl, ?_⟩
    · intro w1 hE hd
      obtain rfl := IsV.eq (dep_at hd 0 rfl rfl rfl)
      clear hd
      have q0 := hE.drew.at i1
      go_wp2
      exact ⟨_, rfl, Grow.refl _, rfl⟩
    refine StepsS.cons ?_ fun v4 => ⟨_, _, by simp only [Act.put, List.setIfInBounds_toArray, List.set_cons_succ, List.set_cons_zero]; first | done | rfl, by simp only [List.nil_append, List.cons_append]; first | done | rfl, ?_⟩
    · intro w1 hE hd
      obtain rfl := IsV.eq (dep_at hd 0 rfl rfl rfl)
      clear hd
      go_wp2_with fail
      refine (Hcall.out _ hE.drew).mono ?_
      rintro e w5 ⟨rfl, hr, hg5⟩
      go_wp2_with fail
      exact ⟨_, rfl, hg5, _, Nat.le_trans hgW.size hE.drew.size, by rw [hn], hr⟩
    refine StepsS.cons ?_ fun v5 => ⟨_, _, by simp only [Act.put, List.setIfInBounds_toArray, List.set_cons_succ, List.set_cons_zero]; first | done | rfl, by simp only [List.nil_append, List.cons_append]; first | done | rfl, ?_⟩
    · intro w1 hE hd
      obtain rfl := IsV.eq (dep_at hd 0 rfl rfl rfl)
      have d4 := dep_at hd 1 rfl rfl rfl
      clear hd
      obtain ⟨r, h1, rfl, h3⟩ := d4
      go_wp2
      exact ⟨_, rfl, Grow.refl _, r, h1, by rw [hn], h3⟩
    trivial
  intro wR hwR
  refine FinS.cons ?_; rintro _ rfl; refine ⟨_, by simp only [Act.put, List.setIfInBounds_toArray, List.set_cons_succ, List.set_cons_zero]; first | done | rfl, ?_⟩
  refine FinS.cons ?_; rintro _ rfl; refine ⟨_, by simp only [Act.put, List.setIfInBounds_toArray, List.set_cons_succ, List.set_cons_zero]; first | done | rfl, ?_⟩
  refine FinS.cons ?_; rintro _ rfl; refine ⟨_, by simp only [Act.put, List.setIfInBounds_toArray, List.set_cons_succ, List.set_cons_zero]; first | done | rfl, ?_⟩
  refine FinS.cons ?_; rintro _ rfl; refine ⟨_, by simp only [Act.put, List.setIfInBounds_toArray, List.set_cons_succ, List.set_cons_zero]; first | done | rfl, ?_⟩
  refine FinS.cons fun v4 h4 => ⟨_, by simp only [Act.put, List.setIfInBounds_toArray, List.set_cons_succ, List.set_cons_zero]; first | done | rfl, ?_⟩
  refine FinS.cons fun v5 h5 => ⟨_, by simp only [Act.put, List.setIfInBounds_toArray, List.set_cons_succ, List.set_cons_zero]; first | done | rfl, ?_⟩
  show wpList _ _ _ _ _ _
  obtain ⟨r, hr, rfl, hrow⟩ := h5
  have hgR : Grow W wR := hwR.drew
  have hb := hgR.block' HbR.out
  have r0 := two_at0 hb
  have r1 := two_at1 hb
  have f0 : wR.frozen? ⟨w.heap.size + 1, 0, none⟩ = false := frozen_of_row wR _ 0 _ _ hb
  have f1 : wR.frozen? ⟨w.heap.size + 1, 1, none⟩ = false := frozen_of_row wR _ 1 _ _ hb
  have hb1 := two_set0 (z := .int .i64 s) hb
  have hb2 := two_set1 (z := .slice (some ⟨r, 0, none⟩) 4 4) hb1
  have z0 := two_at0 hb2
  have z1 := two_at1 hb2
  simp only [hn] at hrow ⊢
  have HD : Hid (DRow r cs ((wR.setCell ⟨w.heap.size + 1, 0, none⟩ (.int .i64 s)).setCell ⟨w.heap.size + 1, 1, none⟩ (.slice (some ⟨r, 0, none⟩) 4 4))) := (hrow.k3 (K3.set hb (by decide))).k3 (K3.set hb1 (by decide))
  have HG : Hid (Grow w ((wR.setCell ⟨w.heap.size + 1, 0, none⟩ (.int .i64 s)).setCell ⟨w.heap.size + 1, 1, none⟩ (.slice (some ⟨r, 0, none⟩) 4 4))) := ((hgW.trans hgR).set (Nat.le_succ _) _).set (Nat.le_succ _) _
  clear hb hb1 hb2 HbR hrow
  go_wp2
  refine bodyPost_ret (results_two Tryz.results45 _ _ (w.heap.size + 1) _ rfl Tryz.underlying78 rfl (by kernel_rfl) z0 z1) rfl ?_
  exact ⟨r, rfl, hr, HD.out, HG.out⟩

end Go.Proofs.YtjggiameajndgadGreatDoor

/-
  An array of the call's own: its disks' rows apart, its bytes in blocks of bytes; its intents, none or one.
-/
namespace Go.Proofs.YtjggiameajndgadGreatDoor
open Go.RowKit

/-- The values of rows in these blocks. -/
def rowVals (bs : List Nat) (ds : List (List (List Int))) : List Value := (bs.zip ds).map fun p => .slice (some ⟨p.1, 0, none⟩) p.2.length p.2.length

theorem rowVals_push {bs : List Nat} {ds : List (List (List Int))} (h : bs.length = ds.length) (b : Nat) (l : List (List Int)) : rowVals (bs ++ [b]) (ds ++ [l]) = rowVals bs ds ++ [.slice (some ⟨b, 0, none⟩) l.length l.length] := by
  simp [rowVals, List.zip_append h]

theorem rowVals_at {bs : List Nat} {ds : List (List (List Int))} (h : bs.length = ds.length) {i : Nat} (hi : i < ds.length) : (rowVals bs ds)[i]? = some (.slice (some ⟨bs[i]'(by omega), 0, none⟩) ds[i].length ds[i].length) := by
  rw [List.getElem?_eq_getElem (by simp [rowVals]; omega)]
  simp [rowVals]

/-- Disks of the call's own, in blocks of rows bs. -/
structure DRows (B : Nat) (bs : List Nat) (ds : List (List (List Int))) (w : World) (dv : Value) : Prop where
  len : bs.length = ds.length
  up : bs.Pairwise (· < ·)
  base : ∀ b ∈ bs, B ≤ b
  own : w.ownsRow B 28 1 dv ds.length (rowVals bs ds)
  rows : ∀ (i : Nat) b l, bs[i]? = some b → ds[i]? = some l → DRow b l w

theorem DRows.nil (B : Nat) (w : World) : DRows B [] [] w (.slice none 0 0) := ⟨rfl, List.Pairwise.nil, fun b hb => by simp at hb, World.ownsRow_nil _ _ _ _, fun i b l hb => by simp at hb⟩

theorem own_typed {w : World} {B n : Nat} {e : TypeId} {v : Value} {us : List Value} (h : w.ownsRow B e 1 v n us) {k : Nat} (hk : v.ownBlock = some k) : ∃ cur, w.heap[k]? = some (.cells cur e (0, 0)) := by
  rcases h.2 with ⟨rfl, -⟩ | ⟨g, cap, cur, rfl, -, hh, -⟩
  · cases hk
  · cases hk
    exact ⟨cur, hh⟩

theorem own_k3 {w w' : World} {B n : Nat} {v : Value} {us : List Value} (h : w.ownsRow B 28 1 v n us) (hk : K3 w w') : w'.ownsRow B 28 1 v n us := by
  refine ⟨h.1, ?_⟩
  rcases h.2 with h2 | ⟨g, cap, cur, hv, hb, hh, hr⟩
  · exact .inl h2
  · exact .inr ⟨g, cap, cur, hv, hb, hk g _ _ (.inr (.inr rfl)) hh, hr⟩

theorem DRows.k3 {B : Nat} {bs : List Nat} {ds : List (List (List Int))} {w w' : World} {dv : Value} (h : DRows B bs ds w dv) (hk : K3 w w') : DRows B bs ds w' dv :=
  ⟨h.len, h.up, h.base, own_k3 h.own hk, fun i b l hb hl => (h.rows i b l hb hl).k3 hk⟩

theorem DRows.grow {B : Nat} {bs : List Nat} {ds : List (List (List Int))} {w w' : World} {dv : Value} (h : DRows B bs ds w dv) (hg : Grow w w') : DRows B bs ds w' dv := h.k3 hg.k3

theorem DRows.lt {B : Nat} {bs : List Nat} {ds : List (List (List Int))} {w : World} {dv : Value} (h : DRows B bs ds w dv) : ∀ b ∈ bs, b < w.heap.size := by
  intro b hb
  obtain ⟨i, hi, rfl⟩ := List.mem_iff_getElem.1 hb
  exact (h.rows i bs[i] (ds[i]'(by have := h.len; omega)) (by simp [hi]) (by simp [show i < ds.length by have := h.len; omega])).lt

/-- The block g is of disks. -/
def Tyd (g : Option Nat) (w : World) : Prop := ∀ k, g = some k → ∃ cur, w.heap[k]? = some (.cells cur 28 (0, 0))

/-- A write into a block g of disks. -/
def ByT (g : Option Nat) (x y : World) : Prop := x.grownBy y g ∧ Tyd g x

theorem DRow.by {b : Nat} {l : List (List Int)} {w w' : World} {g : Option Nat} (h : DRow b l w) (hg : ByT g w w') : DRow b l w' := by
  have hin : ∀ (k : Nat) cs t, t ≠ 28 → w.heap[k]? = some (.cells cs t (0, 0)) → w'.heap[k]? = some (.cells cs t (0, 0)) := fun k cs t ht hk => by
    refine (hg.1.block k (heap_lt hk) (fun e => ?_)).trans hk
    obtain ⟨cur, hc⟩ := hg.2 k e.symm
    rw [hk] at hc
    injection hc with hc
    injection hc with _ hc _
    exact ht hc
  obtain ⟨us, h1, h2, h3⟩ := h
  exact ⟨us, h1, hin b _ _ (by decide) h2, fun i u x hu hx => (h3 i u x hu hx).step fun k cs hk => hin k cs _ (by decide) hk⟩

theorem DRows.push {B : Nat} {bs : List Nat} {ds : List (List (List Int))} {w w' : World} {dv v' : Value} {r : Nat} {l : List (List Int)} (h : DRows B bs ds w dv) (hr : DRow r l w) (hlt : ∀ b ∈ bs, b < r) (hB : B ≤ r)
    (hown : w'.ownsRow B 28 1 v' (ds.length + 1) (rowVals bs ds ++ [.slice (some ⟨r, 0, none⟩) l.length l.length])) (hg : w.grownBy w' dv.ownBlock) : DRows B (bs ++ [r]) (ds ++ [l]) w' v' := by
  have hby : ByT dv.ownBlock w w' := ⟨hg, fun k hk => own_typed h.own hk⟩
  refine ⟨by simp [h.len], List.pairwise_append.2 ⟨h.up, by simp, fun x hx y hy => by simp at hy; subst hy; exact hlt x hx⟩, fun b hb => ?_, ?_, fun i b m hb hm => ?_⟩
  · rcases List.mem_append.1 hb with hb | hb
    · exact h.base b hb
    · simp at hb; omega
  · rw [rowVals_push h.len]
    simpa using hown
  · by_cases hi : i < bs.length
    · rw [List.getElem?_append_left hi] at hb
      rw [List.getElem?_append_left (by have := h.len; omega)] at hm
      exact (h.rows i b m hb hm).by hby
    · rw [List.getElem?_append_right (by omega)] at hb
      rw [List.getElem?_append_right (by have := h.len; omega)] at hm
      obtain h0 : i - bs.length = 0 := by
        by_cases h0 : i - bs.length = 0
        · exact h0
        · rw [List.getElem?_eq_none (by simp; omega)] at hb; cases hb
      rw [h0] at hb
      rw [← h.len, h0] at hm
      simp at hb hm
      subst hb hm
      exact hr.by hby

theorem DRows.dks {B : Nat} {bs : List Nat} {ds : List (List (List Int))} {w : World} {dv : Value} (h : DRows B bs ds w dv) (h3 : ∀ d ∈ ds, d.length = 3) : Dks w dv ds := by
  refine Sl.of_own h.own rfl fun i u x hu hx => ?_
  have hi : i < ds.length := by
    by_cases hi : i < ds.length
    · exact hi
    · rw [List.getElem?_eq_none (by omega)] at hx; cases hx
  have hib : i < bs.length := by have := h.len; omega
  have hx' : x = ds[i] := by simpa [hi] using hx.symm
  have hu' : u = .slice (some ⟨bs[i], 0, none⟩) ds[i].length ds[i].length := by
    rw [rowVals_at h.len hi] at hu
    exact (Option.some.inj hu).symm
  subst hx' hu'
  exact (h.rows i bs[i] ds[i] (by simp [hib]) (by simp [hi])).bss (by rw [h3 _ (List.getElem_mem hi)]; omega)

/-- Intents of the call's own: none, or one whose row is none of bs. -/
def OIts (bs : List Nat) (w : World) (iv : Value) (is : List (Int × List (List Int))) : Prop :=
  (is = [] ∧ iv = .slice none 0 0) ∨ ∃ q r cap cur s cs, is = [(s, cs)] ∧ cs.length = 4 ∧ iv = .slice (some ⟨q, 0, none⟩) 1 cap ∧ 1 ≤ cap ∧ cap ≤ maxLen ∧ w.heap[q]? = some (.cells cur 78 (0, 0)) ∧ cur[0]? = some (.int .i64 s) ∧ cur[1]? = some (.slice (some ⟨r, 0, none⟩) 4 4) ∧ DRow r cs w ∧ r ∉ bs

/-- Blocks of intents are what they were, too. -/
def K4 (w w' : World) : Prop := K3 w w' ∧ ∀ (k : Nat) cs, w.heap[k]? = some (.cells cs 78 (0, 0)) → w'.heap[k]? = some (.cells cs 78 (0, 0))
theorem Grow.k4 {w w' : World} (h : Grow w w') : K4 w w' := ⟨h.k3, fun _ _ hk => h.block' hk⟩
theorem K4.set {w : World} {b k : Nat} {u : Value} {cs : Array Value} {mk : Nat × Nat} (hb : w.heap[b]? = some (.cells cs 27 mk)) : K4 w (w.setCell ⟨b, k, none⟩ u) := ⟨K3.set hb (by decide), fun j cs' hj => by
  refine set_other hj fun e => ?_
  subst e
  rw [hb] at hj
  injection hj with hj
  injection hj with _ hj _
  exact absurd hj (by decide)⟩

theorem OIts.k4 {bs : List Nat} {w w' : World} {iv : Value} {is : List (Int × List (List Int))} (h : OIts bs w iv is) (hk : K4 w w') : OIts bs w' iv is := by
  rcases h with h | ⟨q, r, cap, cur, s, cs, h1, h2, h3, h4, h5, h6, h7, h8, h9, h10⟩
  · exact .inl h
  · exact .inr ⟨q, r, cap, cur, s, cs, h1, h2, h3, h4, h5, hk.2 q cur h6, h7, h8, h9.k3 hk.1, h10⟩

theorem OIts.its {bs : List Nat} {w : World} {iv : Value} {is : List (Int × List (List Int))} (h : OIts bs w iv is) : Its w iv is := by
  rcases h with ⟨rfl, rfl⟩ | ⟨q, r, cap, cur, s, cs, rfl, h2, rfl, h4, h5, h6, h7, h8, h9, h10⟩
  · exact Its.nil w
  · refine ⟨some ⟨q, 0, none⟩, cap, rfl, h4, h5, (fun h => nomatch h), fun _ => ⟨q, 0, rfl, fun i p hi => ?_⟩⟩
    match i, hi with
    | 0, hi =>
      simp at hi
      subst hi
      have := h9.bss (by omega)
      rw [h2] at this
      exact ⟨row_at h6 0 h7, _, row_at h6 1 h8, this⟩

/-- An array of the call's own. -/
structure OwnA (B : Nat) (bs : List Nat) (w : World) (dv iv : Value) (a : ArrP) : Prop where
  whole : Whole a
  disks : DRows B bs a.ds w dv
  its : OIts bs w iv a.is

theorem OwnA.k4 {B : Nat} {bs : List Nat} {w w' : World} {dv iv : Value} {a : ArrP} (h : OwnA B bs w dv iv a) (hk : K4 w w') : OwnA B bs w' dv iv a := ⟨h.whole, h.disks.k3 hk.1, h.its.k4 hk⟩
theorem OwnA.arr {B : Nat} {bs : List Nat} {w : World} {dv iv : Value} {a : ArrP} (h : OwnA B bs w dv iv a) : ArrV w (.agg #[dv, iv]) a := ⟨dv, iv, rfl, h.disks.dks h.whole.2, h.its.its⟩

end Go.Proofs.YtjggiameajndgadGreatDoor
