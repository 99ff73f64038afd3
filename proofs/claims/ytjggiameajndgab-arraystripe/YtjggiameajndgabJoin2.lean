import Derived.WalkKit
import Derived.Deep.Draws
import Derived.Laws.AppendOwnNone
import Derived.Laws.BytesArg
import Derived.Test.YtjggiameajndgabJoin1
/-
  As Stable and StableLast, with one operation (number s) that may move the world on in a way of its own (T), under which what is asked of all others stays true; F is how the world may have moved on since the region's beginning.
-/
namespace Go.Proofs.Ytjggiameajndgab
open Go.RowKit

/-- Each operation, in the order of the text, with the way in which it moves the world on. -/
def StepsT (P : Program) (ops : Array Oper) (w0 : World) : List Oper → List ((World → World → Prop) × (World → World → Prop)) → List (Value → World → Prop) → List ((Value → World → Prop) × Value) → Act → Prop
  | o :: rest, (G, E) :: Es, R :: Rs, done, a => (∀ w, G w0 w → depFacts done w o.after.toList → wpList P ops (SQ E a o.dst w R) [o] a w) ∧ ∀ v, StepsT P ops w0 rest Es Rs (done ++ [(R, v)]) (a.put o.dst v)
  | _, _, _, _, _ => True

theorem StepsT.cons {G E : World → World → Prop} {P : Program} {ops : Array Oper} {w0 : World} {o : Oper} {rest : List Oper} {Es : List ((World → World → Prop) × (World → World → Prop))} {R : Value → World → Prop} {Rs : List (Value → World → Prop)} {done : List ((Value → World → Prop) × Value)} {a : Act}
    (h1 : ∀ w, G w0 w → depFacts done w o.after.toList → wpList P ops (SQ E a o.dst w R) [o] a w) (h2 : ∀ v, ∃ a' d', a.put o.dst v = a' ∧ done ++ [(R, v)] = d' ∧ StepsT P ops w0 rest Es Rs d' a') : StepsT P ops w0 (o :: rest) ((G, E) :: Es) (R :: Rs) done a :=
  ⟨h1, fun v => by obtain ⟨a', d', rfl, rfl, h⟩ := h2 v; exact h⟩

theorem stepsT_at {P : Program} {ops : Array Oper} {w0 : World} : ∀ (i : Nat) (l : List Oper) (Es : List ((World → World → Prop) × (World → World → Prop))) (Rs : List (Value → World → Prop)) (done : List ((Value → World → Prop) × Value)) (a : Act) (vs : Nat → Value) (o : Oper) (E : (World → World → Prop) × (World → World → Prop)) (R : Value → World → Prop) (w : World),
    StepsT P ops w0 l Es Rs done a → l[i]? = some o → Es[i]? = some E → Rs[i]? = some R → E.1 w0 w → depFacts (done ++ zipDone Rs vs i) w o.after.toList → wpList P ops (SQ E.2 (lexP l vs i a) o.dst w R) [o] (lexP l vs i a) w
  | _, [], _, _, _, _, _, _, _, _, _, _, h, _, _, _, _ => by simp at h
  | _, _ :: _, [], _, _, _, _, _, _, _, _, _, _, h, _, _, _ => by simp at h
  | _, _ :: _, _ :: _, [], _, _, _, _, _, _, _, _, _, _, h, _, _ => by simp at h
  | 0, o :: l, E :: Es, R :: Rs, done, a, vs, o', E', R', w, hs, h1, he, h2, hE, hd => by
    simp at h1 h2 he
    subst h1 h2 he
    simp [zipDone] at hd
    exact hs.1 w hE hd
  | i + 1, o :: l, E :: Es, R :: Rs, done, a, vs, o', E', R', w, hs, h1, he, h2, hE, hd =>
    stepsT_at i l Es Rs (done ++ [(R, vs 0)]) (a.put o.dst (vs 0)) (fun j => vs (j + 1)) o' E' R' w (hs.2 (vs 0)) (by simpa using h1) (by simpa using he) (by simpa using h2) hE (by simpa [zipDone] using hd)

/-- All but number s. -/
def allBut (S : (Value → World → Prop) → Prop) : Nat → List (Value → World → Prop) → Prop
  | _, [] => True
  | 0, _ :: Rs => ∀ R ∈ Rs, S R
  | s + 1, R :: Rs => S R ∧ allBut S s Rs

theorem allBut_at {S : (Value → World → Prop) → Prop} : ∀ (s : Nat) (Rs : List (Value → World → Prop)), allBut S s Rs → ∀ (j : Nat) R, j ≠ s → Rs[j]? = some R → S R
  | _, [], _, j, R, _, h => by simp at h
  | 0, _ :: Rs, h, 0, R, hj, _ => absurd rfl hj
  | 0, _ :: Rs, h, j + 1, R, _, hR => h R (List.mem_of_getElem? (by simpa using hR))
  | s + 1, R :: Rs, h, 0, R', _, hR => by simp at hR; subst hR; exact h.1
  | s + 1, R :: Rs, h, j + 1, R', hj, hR => allBut_at s Rs h.2 j R' (fun e => hj (by rw [e])) (by simpa using hR)

section
variable {E T F : World → World → Prop} {P : Program} {Q : Exit → Act → World → Prop} {l : List Oper} {Rs : List (Value → World → Prop)} {a0 : Act} {w0 : World} {z : Oper} {s : Nat}

/-- How the world has moved on ahead of each operation, and how each moves it on. -/
def onePairs (E T F : World → World → Prop) (s n : Nat) : List ((World → World → Prop) × (World → World → Prop)) := (List.replicate n (F, E)).set s (E, T)

theorem oneE {n i : Nat} {E' : (World → World → Prop) × (World → World → Prop)} (h : (onePairs E T F s n)[i]? = some E') : (i = s ∧ E' = (E, T)) ∨ (i ≠ s ∧ E' = (F, E)) := by
  unfold onePairs at h
  by_cases his : i = s
  · subst his
    by_cases hn : i < n
    · rw [List.getElem?_set_self (by simpa using hn)] at h
      exact .inl ⟨rfl, (Option.some.inj h).symm⟩
    · rw [List.getElem?_eq_none (by simp; omega)] at h
      cases h
  · rw [List.getElem?_set_ne (fun e => his e.symm)] at h
    by_cases hn : i < n
    · rw [List.getElem?_replicate_of_lt hn] at h
      exact .inr ⟨his, (Option.some.inj h).symm⟩
    · rw [List.getElem?_eq_none (by simp; omega)] at h
      cases h

theorem one_st (hst : ∀ R ∈ Rs, ∀ v x y, R v x → E x y → R v y) (hst2 : allBut (fun R => ∀ v x y, R v x → T x y → R v y) s Rs) {n i j : Nat} {E' : (World → World → Prop) × (World → World → Prop)} {R : Value → World → Prop} (hij : j ≠ i) (hE : (onePairs E T F s n)[i]? = some E') (hR : Rs[j]? = some R) : ∀ v x y, R v x → E'.2 x y → R v y := by
  rcases oneE hE with ⟨rfl, rfl⟩ | ⟨_, rfl⟩
  · exact allBut_at _ Rs hst2 j R hij hR
  · exact hst R (List.mem_of_getElem? hR)

/-- How far the world has moved on. -/
def Mv (E F : World → World → Prop) (s : Nat) (listed : Array Bool) (x y : World) : Prop := F x y ∧ (listed.getD s false = false → E x y)

theorem one_pre {listed : Array Bool} {w : World} {n i : Nat} {E' : (World → World → Prop) × (World → World → Prop)} (hE : (onePairs E T F s n)[i]? = some E') (hu : listed.getD i false = false) (h : Mv E F s listed w0 w) : E'.1 w0 w := by
  rcases oneE hE with ⟨rfl, rfl⟩ | ⟨_, rfl⟩
  · exact h.2 hu
  · exact h.1

theorem one_tr (htr : ∀ x y z, E x y → E y z → E x z) (htr1 : ∀ x y, F w0 x → E x y → F w0 y) (htr2 : ∀ x y, F w0 x → T x y → F w0 y) {n i : Nat} {E' : (World → World → Prop) × (World → World → Prop)} (hE : (onePairs E T F s n)[i]? = some E') {listed : Array Bool} (hsz : i < listed.size) {x y : World} (h : Mv E F s listed w0 x) (h' : E'.2 x y) : Mv E F s (listed.setIfInBounds i true) w0 y := by
  rcases oneE hE with ⟨rfl, rfl⟩ | ⟨hne, rfl⟩
  · exact ⟨htr2 _ _ h.1 h', fun hs => by simp [hsz] at hs⟩
  · exact ⟨htr1 _ _ h.1 h', fun hs => by rw [getD_set_ne false hne] at hs; exact htr _ _ _ (h.2 hs) h'⟩

theorem wpAny_one (hB : stableB l = true) (hlen : Rs.length = l.length) (htr : ∀ x y z, E x y → E y z → E x z) (htr1 : ∀ x y, F w0 x → E x y → F w0 y) (htr2 : ∀ x y, F w0 x → T x y → F w0 y) (hst : ∀ R ∈ Rs, ∀ v x y, R v x → E x y → R v y) (hst2 : allBut (fun R => ∀ v x y, R v x → T x y → R v y) s Rs)
    (hsteps : StepsT P l.toArray w0 l (onePairs E T F s l.length) Rs [] a0) (hfin : ∀ w', F w0 w' → FinS Q w' l Rs a0) :
    ∀ (fuel : Nat) (listed : Array Bool) (a : Act) (w : World) (vs : Nat → Value), listed.toList.count false = fuel → InvS (Mv E F s listed) l Rs a0 w0 listed a w vs → wpAny P .any l.toArray Q fuel listed a w := by
  intro fuel
  induction fuel with
  | zero =>
    intro listed a w vs hc h
    have hall : ∀ i, i < l.length → listed.getD i false = true := by
      intro i hi
      have hi' : i < listed.size := by rw [h.size]; exact hi
      have hnm := List.count_eq_zero.1 hc
      refine getD_true_of hi' fun hu => hnm ?_
      have : listed[i] = false := by simpa [hi'] using hu
      rw [← this]
      simp
    refine ⟨?_, h.all_done hB hlen (fun w' h => hfin w' h.1) hall⟩
    apply List.eq_nil_iff_forall_not_mem.2
    intro j hj
    obtain ⟨hu, o, ho, _⟩ := mem_ready.1 hj
    have hjl : j < l.length := by
      have := (Array.getElem?_eq_some_iff.1 ho).1
      simpa using this
    have := hall j hjl
    rw [getD_false_true hu] at this
    cases this
  | succ fuel ih =>
    intro listed a w vs hc h
    refine ⟨fun hr => h.all_done hB hlen (fun w' h => hfin w' h.1) (h.ready_nil hB hr), fun i hi => ?_⟩
    obtain ⟨hu, o, ho', hall⟩ := mem_ready.1 hi
    have ho : l[i]? = some o := by simpa using ho'
    have hil : i < l.length := (List.getElem?_eq_some_iff.1 ho).1
    obtain ⟨E1, hE1⟩ : ∃ E1, (onePairs E T F s l.length)[i]? = some E1 := ⟨(onePairs E T F s l.length)[i]'(by simp [onePairs]; omega), by simp [onePairs, hil]⟩
    obtain ⟨R, hR⟩ : ∃ R, Rs[i]? = some R := ⟨Rs[i]'(by omega), by simp [show i < Rs.length by omega]⟩
    have hsp := stableB_spec hB ho
    have hd : depFacts ([] ++ zipDone Rs vs i) w o.after.toList := depFacts_of _ fun e he hb x hx => by
      have hz := zipDone_get Rs vs i e.on x (by simpa using hx)
      rw [hz.2]
      exact h.holds e.on x.1 (hall e (by simpa using he) hb) hz.1
    have hw := stepsT_at i l _ Rs [] a0 vs o E1 R w hsteps ho hE1 hR (one_pre hE1 (getD_false_true hu) h.moved) hd
    have hag := h.agree hB ho hu hall
    have hdst : dstAt l i = o.dst := by simp [dstAt, ho]
    refine wpOp_of_SQ ho' ?_ (execOp_agree o hsp.1 _ _ hag) (wanted_agree o _ _ hag) hw ?_
    · rw [h.shape.size, (lexP_sh l (apart_of hB) vs a0 i (by omega)).size]
    · intro v w' hE hRv
      have hui := getD_false_true hu
      have hsz : i < listed.size := by rw [h.size]; exact hil
      have hset : ∀ j, (listed.setIfInBounds i true).getD j false = true ↔ listed.getD j false = true ∨ j = i := by
        intro j
        by_cases hij : i = j
        · subst hij; simp [hsz]
        · rw [getD_set_ne false hij]
          constructor
          · exact .inl
          · rintro (h1 | h1)
            · exact h1
            · exact absurd h1.symm hij
      refine ih _ _ _ (fun j => if j = i then v else vs j) ?_ ⟨by simp [h.size], one_tr htr htr1 htr2 hE1 hsz h.moved hE, ?_, ?_, ?_⟩
      · have hli : listed.toList[i]'(by simpa using hsz) = false := by
          have : listed[i] = false := by simpa [hsz] using hu
          simpa using this
        rw [Array.toList_setIfInBounds, List.count, List.countP_set (by simpa using hsz)]
        rw [List.count] at hc
        rw [hc, hli, if_pos (by rfl), if_neg (by decide)]
        omega
      · rw [← hdst]
        refine h.shape.put (apart_of hB) i (by rw [hui]; simp) hset v (fun j hj => ?_) (by simp)
        have hji : j ≠ i := fun e => by rw [e, hui] at hj; cases hj
        simp [hji]
      · intro j R' hj hR'
        rcases (hset j).1 hj with hj' | rfl
        · have hji : j ≠ i := fun e => by rw [e, hui] at hj'; cases hj'
          simp only [hji, if_false]
          exact one_st hst hst2 hji hE1 hR' _ _ _ (h.holds j R' hj' hR') hE
        · rw [hR] at hR'
          obtain rfl := Option.some.inj hR'
          simpa using hRv
      · intro j p hp hj e he hb
        rcases (hset j).1 hj with hj' | rfl
        · exact (hset e.on).2 (.inl (h.closed j p hp hj' e he hb))
        · rw [ho] at hp
          obtain rfl := Option.some.inj hp
          exact (hset e.on).2 (.inl (hall e he hb))

theorem wpAny_onelast (hB : stableB (l ++ [z]) = true) (hlen : Rs.length = l.length) (hlast : lastB l z = true) (htr : ∀ x y z, E x y → E y z → E x z) (htr1 : ∀ x y, F w0 x → E x y → F w0 y) (htr2 : ∀ x y, F w0 x → T x y → F w0 y) (hst : ∀ R ∈ Rs, ∀ v x y, R v x → E x y → R v y) (hst2 : allBut (fun R => ∀ v x y, R v x → T x y → R v y) s Rs)
    (hsteps : StepsT P (l ++ [z]).toArray w0 l (onePairs E T F s l.length) Rs [] a0) (hfin : ∀ w', F w0 w' → FinS (fun _ a w => wpList P (l ++ [z]).toArray Q [z] a w) w' l Rs a0) :
    ∀ (fuel : Nat) (listed : Array Bool) (a : Act) (w : World) (vs : Nat → Value), listed.toList.count false = fuel + 1 → listed.getD l.length true = false → InvS (Mv E F s listed) (l ++ [z]) Rs a0 w0 listed a w vs → wpAny P .any (l ++ [z]).toArray Q (fuel + 1) listed a w := by
  intro fuel
  induction fuel with
  | zero =>
    intro listed a w vs hc hz h
    have hzl : l.length < listed.size := by rw [h.size]; simp
    have hone : ∀ i, i < l.length → listed.getD i false = true := by
      intro i hi
      have hi' : i < listed.size := by omega
      refine getD_true_of hi' fun hu => ?_
      have h1 : listed[i] = false := by simpa [hi'] using hu
      have h2 : listed[l.length] = false := by simpa [hzl] using hz
      have hset := List.count_set (a := true) (b := false) (i := i) (l := listed.toList) (by simpa using hi')
      have hm : false ∈ listed.toList.set i true := by
        refine List.mem_iff_getElem.2 ⟨l.length, by simpa using hzl, ?_⟩
        rw [List.getElem_set_ne (by omega)]
        simpa using h2
      have hpos := List.count_pos_iff.2 hm
      rw [hset, hc] at hpos
      simp [h1] at hpos
    refine ⟨fun hr => ?_, fun i hi => ?_⟩
    · exfalso
      have := h.ready_nil hB hr l.length (by simp)
      rw [getD_false_true hz] at this
      cases this
    · obtain ⟨hu, o, ho', hall⟩ := mem_ready.1 hi
      have ho : (l ++ [z])[i]? = some o := by simpa using ho'
      have hil : i < (l ++ [z]).length := (List.getElem?_eq_some_iff.1 ho).1
      have hiL : i = l.length := by
        by_cases hiL : i < l.length
        · have := hone i hiL
          rw [getD_false_true hu] at this
          cases this
        · simp at hil
          omega
      subst hiL
      obtain rfl : z = o := by simpa using ho
      have h1 := fin_at l Rs a0 vs (hfin w h.moved.1) hlen (fun i R hi => h.holds i R (hone i (by rw [← hlen]; exact (List.getElem?_eq_some_iff.1 hi).1)) hi)
      have h2 : a = lexP (l ++ [z]) vs l.length a0 := h.shape.eq (lexP_sh (l ++ [z]) (apart_of hB) vs a0 l.length (by simp)) (fun j t hd => by
        have hj : j < (l ++ [z]).length := by
          unfold dstAt at hd
          cases ho : (l ++ [z])[j]? with
          | none => simp [ho] at hd
          | some o => exact (List.getElem?_eq_some_iff.1 ho).1
        constructor
        · intro hj'
          by_cases hjl : j < l.length
          · exact hjl
          · simp at hj
            have : j = l.length := by omega
            rw [this, getD_false_true hz] at hj'
            cases hj'
        · exact fun hj' => hone j hj')
      rw [lexP_prefix l z vs l.length a0 (Nat.le_refl _)] at h2
      rw [h2]
      refine wpOp_of_last ho' h1 fun a' w' hQ => ⟨?_, hQ⟩
      apply List.eq_nil_iff_forall_not_mem.2
      intro j hj
      obtain ⟨hu', o', ho'', _⟩ := mem_ready.1 hj
      have hjl : j < (l ++ [z]).length := by
        have := (Array.getElem?_eq_some_iff.1 ho'').1
        simpa using this
      by_cases hjL : j = l.length
      · subst hjL
        have := getD_false_true hu'
        simp [hzl] at this
      · simp at hjl
        rw [getD_set_ne true (fun e => hjL e.symm)] at hu'
        have := hone j (by omega)
        rw [getD_false_true hu'] at this
        cases this
  | succ fuel ih =>
    intro listed a w vs hc hz h
    refine ⟨fun hr => ?_, fun i hi => ?_⟩
    · exfalso
      have := h.ready_nil hB hr l.length (by simp)
      rw [getD_false_true hz] at this
      cases this
    obtain ⟨hu, o, ho', hall⟩ := mem_ready.1 hi
    have ho : (l ++ [z])[i]? = some o := by simpa using ho'
    have hil' : i < (l ++ [z]).length := (List.getElem?_eq_some_iff.1 ho).1
    have hil : i < l.length := by
      by_cases hil : i < l.length
      · exact hil
      · exfalso
        have hiL : i = l.length := by simp at hil'; omega
        subst hiL
        obtain rfl : z = o := by simpa using ho
        have hone : ∀ j, j < l.length → listed.getD j false = true := fun j hj => by
          obtain ⟨e, he, hb, rfl⟩ := lastB_spec hlast hj
          exact hall e he hb
        have hzl : l.length < listed.size := by rw [h.size]; simp
        have hls : listed.toList = List.replicate l.length true ++ [false] := by
          refine List.ext_getElem (by simp [h.size]) fun j h1 h2 => ?_
          have h1' : j < listed.size := by simpa using h1
          by_cases hj : j < l.length
          · have := hone j hj
            rw [List.getElem_append_left (by simpa using hj)]
            simpa [h1'] using this
          · have hjl : j = l.length := by rw [h.size] at h1'; simp at h1'; omega
            subst hjl
            rw [List.getElem_append_right (by simp)]
            simpa [hzl] using hz
        rw [hls] at hc
        simp [List.count_replicate] at hc
    have hol : l[i]? = some o := by rw [List.getElem?_append_left hil] at ho; exact ho
    obtain ⟨E1, hE1⟩ : ∃ E1, (onePairs E T F s l.length)[i]? = some E1 := ⟨(onePairs E T F s l.length)[i]'(by simp [onePairs]; omega), by simp [onePairs, hil]⟩
    obtain ⟨R, hR⟩ : ∃ R, Rs[i]? = some R := ⟨Rs[i]'(by omega), by simp [show i < Rs.length by omega]⟩
    have hsp := stableB_spec hB ho
    have hd : depFacts ([] ++ zipDone Rs vs i) w o.after.toList := depFacts_of _ fun e he hb x hx => by
      have hz := zipDone_get Rs vs i e.on x (by simpa using hx)
      rw [hz.2]
      exact h.holds e.on x.1 (hall e (by simpa using he) hb) hz.1
    have hw := stepsT_at i l _ Rs [] a0 vs o E1 R w hsteps hol hE1 hR (one_pre hE1 (getD_false_true hu) h.moved) hd
    have hag := h.agree hB ho hu hall
    rw [lexP_prefix l z vs i a0 (by omega)] at hag
    have hdst : dstAt (l ++ [z]) i = o.dst := by simp [dstAt, ho]
    refine wpOp_of_SQ ho' ?_ (execOp_agree o hsp.1 _ _ hag) (wanted_agree o _ _ hag) hw ?_
    · rw [h.shape.size, ← lexP_prefix l z vs i a0 (by omega), (lexP_sh (l ++ [z]) (apart_of hB) vs a0 i (by simp; omega)).size]
    · intro v w' hE hRv
      have hui := getD_false_true hu
      have hsz : i < listed.size := by rw [h.size]; exact hil'
      have hset : ∀ j, (listed.setIfInBounds i true).getD j false = true ↔ listed.getD j false = true ∨ j = i := by
        intro j
        by_cases hij : i = j
        · subst hij; simp [hsz]
        · rw [getD_set_ne false hij]
          constructor
          · exact .inl
          · rintro (h1 | h1)
            · exact h1
            · exact absurd h1.symm hij
      refine ih _ _ _ (fun j => if j = i then v else vs j) ?_ ?_ ⟨by simp [h.size], one_tr htr htr1 htr2 hE1 hsz h.moved hE, ?_, ?_, ?_⟩
      · have hli : listed.toList[i]'(by simpa using hsz) = false := by
          have : listed[i] = false := by simpa [hsz] using hu
          simpa using this
        rw [Array.toList_setIfInBounds, List.count, List.countP_set (by simpa using hsz)]
        rw [List.count] at hc
        rw [hc, hli, if_pos (by rfl), if_neg (by decide)]
        omega
      · rw [getD_set_ne true (by omega)]
        exact hz
      · rw [← hdst]
        refine h.shape.put (apart_of hB) i (by rw [hui]; simp) hset v (fun j hj => ?_) (by simp)
        have hji : j ≠ i := fun e => by rw [e, hui] at hj; cases hj
        simp [hji]
      · intro j R' hj hR'
        rcases (hset j).1 hj with hj' | rfl
        · have hji : j ≠ i := fun e => by rw [e, hui] at hj'; cases hj'
          simp only [hji, if_false]
          exact one_st hst hst2 hji hE1 hR' _ _ _ (h.holds j R' hj' hR') hE
        · rw [hR] at hR'
          obtain rfl := Option.some.inj hR'
          simpa using hRv
      · intro j p hp hj e he hb
        rcases (hset j).1 hj with hj' | rfl
        · exact (hset e.on).2 (.inl (h.closed j p hp hj' e he hb))
        · rw [ho] at hp
          obtain rfl := Option.some.inj hp
          exact (hset e.on).2 (.inl (hall e he hb))

/-- The law: a region that draws its order. -/
theorem wp_region_one {id : Nat} {w : World} (s : Nat) (E T F : World → World → Prop) (Es : List ((World → World → Prop) × (World → World → Prop))) (Rs : List (Value → World → Prop)) (hEs : onePairs E T F s l.length = Es) (hm : P.follows .mixedOrders = true) (hB : stableB l = true) (hlen : Rs.length = l.length)
    (hrefl0 : ∀ x, E x x) (htr : ∀ x y z, E x y → E y z → E x z) (hrefl : F { w with drawn := w.drawn + 1 } { w with drawn := w.drawn + 1 }) (htr1 : ∀ x y, F { w with drawn := w.drawn + 1 } x → E x y → F { w with drawn := w.drawn + 1 } y) (htr2 : ∀ x y, F { w with drawn := w.drawn + 1 } x → T x y → F { w with drawn := w.drawn + 1 } y)
    (hst : ∀ R ∈ Rs, ∀ v x y, R v x → E x y → R v y) (hst2 : allBut (fun R => ∀ v x y, R v x → T x y → R v y) s Rs)
    (hsteps : StepsT P l.toArray { w with drawn := w.drawn + 1 } l Es Rs [] a0) (hfin : ∀ w', F { w with drawn := w.drawn + 1 } w' → FinS Q w' l Rs a0) : (Code.region id l.toArray true).wp P Q a0 w := by
  subst hEs
  refine wp_region_any hm ?_
  refine wpAny_one hB hlen htr htr1 htr2 hst hst2 hsteps hfin _ _ _ _ (fun _ => undef) (by simp) ⟨by simp, ⟨hrefl, fun _ => hrefl0 _⟩, ⟨rfl, rfl, fun _ _ => rfl, fun j t hj => ?_⟩, fun i R hi => ?_, fun j o _ hj => ?_⟩
  · rw [replicate_getD] at hj; cases hj
  · rw [replicate_getD] at hi; cases hi
  · rw [replicate_getD] at hj; cases hj

/-- The law: a region that draws its order, and ends with one operation that waits for all others. -/
theorem wp_region_onelast {id : Nat} {w : World} (s : Nat) (l : List Oper) (z : Oper) {ops : Array Oper} (hops : ops = (l ++ [z]).toArray) (E T F : World → World → Prop) (Es : List ((World → World → Prop) × (World → World → Prop))) (Rs : List (Value → World → Prop)) (hEs : onePairs E T F s l.length = Es) (hm : P.follows .mixedOrders = true) (hB : stableB (l ++ [z]) = true) (hlast : lastB l z = true) (hlen : Rs.length = l.length)
    (hrefl0 : ∀ x, E x x) (htr : ∀ x y z, E x y → E y z → E x z) (hrefl : F { w with drawn := w.drawn + 1 } { w with drawn := w.drawn + 1 }) (htr1 : ∀ x y, F { w with drawn := w.drawn + 1 } x → E x y → F { w with drawn := w.drawn + 1 } y) (htr2 : ∀ x y, F { w with drawn := w.drawn + 1 } x → T x y → F { w with drawn := w.drawn + 1 } y)
    (hst : ∀ R ∈ Rs, ∀ v x y, R v x → E x y → R v y) (hst2 : allBut (fun R => ∀ v x y, R v x → T x y → R v y) s Rs)
    (hsteps : StepsT P (l ++ [z]).toArray { w with drawn := w.drawn + 1 } l Es Rs [] a0) (hfin : ∀ w', F { w with drawn := w.drawn + 1 } w' → FinS (fun _ a w => wpList P (l ++ [z]).toArray Q [z] a w) w' l Rs a0) : (Code.region id ops true).wp P Q a0 w := by
  subst hops
  subst hEs
  refine wp_region_any hm ?_
  have hsz : (l ++ [z]).toArray.size = l.length + 1 := by simp
  rw [hsz]
  refine wpAny_onelast hB hlen hlast htr htr1 htr2 hst hst2 hsteps hfin _ _ _ _ (fun _ => undef) (by simp) (by simp) ⟨by simp, ⟨hrefl, fun _ => hrefl0 _⟩, ⟨rfl, rfl, fun _ _ => rfl, fun j t hj => ?_⟩, fun i R hi => ?_, fun j o _ hj => ?_⟩
  · rw [replicate_getD] at hj; cases hj
  · rw [replicate_getD] at hi; cases hi
  · rw [replicate_getD] at hj; cases hj

end

end Go.Proofs.Ytjggiameajndgab

/-
  As StableOne, with a tie: what the special operation (number s) leaves is said of the yield of an operation that it waits for (number p).
-/
namespace Go.Proofs.Ytjggiameajndgab
open Go.RowKit

/-- Each operation, in the order of the text; number k says Z, of the yield of number p, too. -/
def StepsZ (Z : Value → World → Prop) (p : Nat) (P : Program) (ops : Array Oper) (w0 : World) : Nat → List Oper → List ((World → World → Prop) × (World → World → Prop)) → List (Value → World → Prop) → List ((Value → World → Prop) × Value) → Act → Prop
  | 0, o :: rest, (G, E) :: Es, R :: Rs, done, a => (∀ w, G w0 w → depFacts done w o.after.toList → ∀ vp, done[p]?.map (·.2) = some vp → wpList P ops (SQ E a o.dst w (fun v w' => R v w' ∧ Z vp w')) [o] a w) ∧ ∀ v, StepsT P ops w0 rest Es Rs (done ++ [(R, v)]) (a.put o.dst v)
  | k + 1, o :: rest, (G, E) :: Es, R :: Rs, done, a => (∀ w, G w0 w → depFacts done w o.after.toList → wpList P ops (SQ E a o.dst w R) [o] a w) ∧ ∀ v, StepsZ Z p P ops w0 k rest Es Rs (done ++ [(R, v)]) (a.put o.dst v)
  | _, _, _, _, _, _ => True

theorem StepsZ.cons {Z : Value → World → Prop} {p k : Nat} {G E : World → World → Prop} {P : Program} {ops : Array Oper} {w0 : World} {o : Oper} {rest : List Oper} {Es : List ((World → World → Prop) × (World → World → Prop))} {R : Value → World → Prop} {Rs : List (Value → World → Prop)} {done : List ((Value → World → Prop) × Value)} {a : Act}
    (h1 : ∀ w, G w0 w → depFacts done w o.after.toList → wpList P ops (SQ E a o.dst w R) [o] a w) (h2 : ∀ v, ∃ a' d', a.put o.dst v = a' ∧ done ++ [(R, v)] = d' ∧ StepsZ Z p P ops w0 k rest Es Rs d' a') : StepsZ Z p P ops w0 (k + 1) (o :: rest) ((G, E) :: Es) (R :: Rs) done a :=
  ⟨h1, fun v => by obtain ⟨a', d', rfl, rfl, h⟩ := h2 v; exact h⟩
theorem StepsZ.here {Z : Value → World → Prop} {p : Nat} {G E : World → World → Prop} {P : Program} {ops : Array Oper} {w0 : World} {o : Oper} {rest : List Oper} {Es : List ((World → World → Prop) × (World → World → Prop))} {R : Value → World → Prop} {Rs : List (Value → World → Prop)} {done : List ((Value → World → Prop) × Value)} {a : Act} (vp : Value) (hvp : done[p]?.map (·.2) = some vp)
    (h1 : ∀ w, G w0 w → depFacts done w o.after.toList → wpList P ops (SQ E a o.dst w (fun v w' => R v w' ∧ Z vp w')) [o] a w) (h2 : ∀ v, ∃ a' d', a.put o.dst v = a' ∧ done ++ [(R, v)] = d' ∧ StepsT P ops w0 rest Es Rs d' a') : StepsZ Z p P ops w0 0 (o :: rest) ((G, E) :: Es) (R :: Rs) done a :=
  ⟨fun w hG hd vp' hv => by rw [hvp] at hv; obtain rfl := Option.some.inj hv; exact h1 w hG hd, fun v => by obtain ⟨a', d', rfl, rfl, h⟩ := h2 v; exact h⟩

theorem wpList_one_mono {P : Program} {ops : Array Oper} {o : Oper} {a : Act} {w : World} {Q Q' : Exit → Act → World → Prop} (hK : ∀ x a' w', Q x a' w' → Q' x a' w') (h : wpList P ops Q [o] a w) : wpList P ops Q' [o] a w := by
  unfold wpList at *
  split
  · rename_i hwt
    rw [if_pos hwt] at h
    rcases h with h | h
    · refine .inl ?_
      unfold Oper.wp at *
      generalize (execOp a.eval o).run P w = r at *
      cases r with
      | ok n w' =>
        cases n <;> simp only [Oper.upon] at h ⊢
        case value u => exact hK _ _ _ h
        case skip => exact hK _ _ _ h
        case defer d => exact hK _ _ _ h
        case enter f args =>
          refine Calls.mono h fun e w'' hh => ?_
          cases e with
          | returned u => exact hK _ _ _ hh
          | panicked c => exact hK _ _ _ hh
          | outgrown => obtain ⟨a', w', hf⟩ := (show LetsOut _ from hh); exact (show LetsOut _ from ⟨a', w', hK _ _ _ hf⟩)
        case row row args => exact Rows.mono h fun u w'' hh => hK _ _ _ hh
      | halt x w' =>
        cases x <;> simp only [Oper.upon] at h ⊢
        case panic u => exact hK _ _ _ h
    · obtain ⟨h1, a', w', hf⟩ := h
      exact .inr ⟨h1, a', w', hK _ _ _ hf⟩
  · rename_i hwt
    rw [if_neg hwt] at h
    exact hK _ _ _ h

/-- A post that is sharper. -/
theorem SQ.mono {E : World → World → Prop} {P : Program} {ops : Array Oper} {o : Oper} {a a0 : Act} {w : World} {R R' : Value → World → Prop} (h : ∀ v w', R v w' → R' v w') (hw : wpList P ops (SQ E a0 o.dst w R) [o] a w) : wpList P ops (SQ E a0 o.dst w R') [o] a w := by
  refine wpList_one_mono ?_ hw
  intro x a' w' hq
  cases x <;> first | exact hq | (obtain ⟨v, h1, h2, h3⟩ := hq; exact ⟨v, h1, h2, h _ _ h3⟩)

theorem stepsZ_at {Z : Value → World → Prop} {p : Nat} {P : Program} {ops : Array Oper} {w0 : World} : ∀ (s i : Nat) (l : List Oper) (Es : List ((World → World → Prop) × (World → World → Prop))) (Rs : List (Value → World → Prop)) (done : List ((Value → World → Prop) × Value)) (a : Act) (vs : Nat → Value) (o : Oper) (E : (World → World → Prop) × (World → World → Prop)) (R : Value → World → Prop) (w : World),
    StepsZ Z p P ops w0 s l Es Rs done a → l[i]? = some o → Es[i]? = some E → Rs[i]? = some R → E.1 w0 w → depFacts (done ++ zipDone Rs vs i) w o.after.toList → (∀ vp, i = s → (done ++ zipDone Rs vs i)[p]?.map (·.2) = some vp → wpList P ops (SQ E.2 (lexP l vs i a) o.dst w (fun v w' => R v w' ∧ Z vp w')) [o] (lexP l vs i a) w) ∧ (i ≠ s → wpList P ops (SQ E.2 (lexP l vs i a) o.dst w R) [o] (lexP l vs i a) w)
  | _, _, [], _, _, _, _, _, _, _, _, _, _, h, _, _, _, _ => by simp at h
  | _, _, _ :: _, [], _, _, _, _, _, _, _, _, _, _, h, _, _, _ => by simp at h
  | _, _, _ :: _, _ :: _, [], _, _, _, _, _, _, _, _, _, _, h, _, _ => by simp at h
  | 0, 0, o :: l, E :: Es, R :: Rs, done, a, vs, o', E', R', w, hs, h1, he, h2, hE, hd => by
    simp at h1 h2 he
    subst h1 h2 he
    simp [zipDone] at hd
    exact ⟨fun vp _ hp => hs.1 w hE hd vp (by simpa [zipDone] using hp), fun h => absurd rfl h⟩
  | 0, i + 1, o :: l, E :: Es, R :: Rs, done, a, vs, o', E', R', w, hs, h1, he, h2, hE, hd =>
    ⟨fun vp h => by omega, fun _ => stepsT_at i l Es Rs (done ++ [(R, vs 0)]) (a.put o.dst (vs 0)) (fun j => vs (j + 1)) o' E' R' w (hs.2 (vs 0)) (by simpa using h1) (by simpa using he) (by simpa using h2) hE (by simpa [zipDone] using hd)⟩
  | s + 1, 0, o :: l, E :: Es, R :: Rs, done, a, vs, o', E', R', w, hs, h1, he, h2, hE, hd => by
    simp at h1 h2 he
    subst h1 h2 he
    simp [zipDone] at hd
    exact ⟨fun vp h => by omega, fun _ => hs.1 w hE hd⟩
  | s + 1, i + 1, o :: l, E :: Es, R :: Rs, done, a, vs, o', E', R', w, hs, h1, he, h2, hE, hd => by
    have := stepsZ_at s i l Es Rs (done ++ [(R, vs 0)]) (a.put o.dst (vs 0)) (fun j => vs (j + 1)) o' E' R' w (hs.2 (vs 0)) (by simpa using h1) (by simpa using he) (by simpa using h2) hE (by simpa [zipDone] using hd)
    exact ⟨fun vp h hp => this.1 vp (by omega) (by simpa [zipDone] using hp), fun h => this.2 (by omega)⟩

theorem zipDone_some : ∀ (Rs : List (Value → World → Prop)) (vs : Nat → Value) (i j : Nat), j < i → i ≤ Rs.length → (zipDone Rs vs i)[j]?.map (·.2) = some (vs j)
  | [], _, i, _, h, h' => by simp at h'; omega
  | _ :: _, _, 0, _, h, _ => by omega
  | _ :: _, _, i + 1, 0, _, _ => by simp [zipDone]
  | _ :: Rs, vs, i + 1, j + 1, h, h' => by
    have := zipDone_some Rs (fun k => vs (k + 1)) i j (by omega) (by simpa using h')
    simpa [zipDone] using this

/-- Number s waits for number p. -/
def depB (l : List Oper) (s p : Nat) : Bool := match l[s]? with | some o => o.after.any fun e => Region.binds .any e && e.on == p | none => false

/-- Number p yields just zp. -/
def linked (Rs : List (Value → World → Prop)) (p : Nat) (zp : Value) : List (Value → World → Prop) := Rs.modify p (fun R v w => R v w ∧ v = zp)

section
variable {E T F : World → World → Prop} {P : Program} {Q : Exit → Act → World → Prop} {l : List Oper} {Rs : List (Value → World → Prop)} {a0 : Act} {w0 : World} {z : Oper} {s p : Nat} {Z : Value → World → Prop}

theorem stepsZ_all {ops : Array Oper} (i : Nat) (l : List Oper) (Es : List ((World → World → Prop) × (World → World → Prop))) (Rs : List (Value → World → Prop)) (a : Act) (vs : Nat → Value) (o : Oper) (E : (World → World → Prop) × (World → World → Prop)) (R : Value → World → Prop) (w : World) (hps : p < s) (hsl : s ≤ Rs.length)
    (h : StepsZ Z p P ops w0 s l Es Rs [] a) (h1 : l[i]? = some o) (h2 : Es[i]? = some E) (h3 : Rs[i]? = some R) (h4 : E.1 w0 w) (h5 : depFacts ([] ++ zipDone Rs vs i) w o.after.toList) : wpList P ops (SQ E.2 (lexP l vs i a) o.dst w (fun v w' => R v w' ∧ (i = s → Z (vs p) w'))) [o] (lexP l vs i a) w := by
  have := stepsZ_at s i l Es Rs [] a vs o E R w h h1 h2 h3 h4 h5
  by_cases his : i = s
  · subst his
    refine SQ.mono (fun v w' hv => ⟨hv.1, fun _ => hv.2⟩) (this.1 (vs p) rfl ?_)
    rw [List.nil_append]
    exact zipDone_some Rs vs i p hps hsl
  · exact SQ.mono (fun v w' hv => ⟨hv, fun e => absurd e his⟩) (this.2 his)

theorem InvS.dep {M : World → World → Prop} {listed : Array Bool} {a : Act} {w : World} {vs : Nat → Value} (h : InvS M l Rs a0 w0 listed a w vs) (hd : depB l s p = true) (hsl : s < l.length) (hs : listed.getD s false = true) : listed.getD p false = true := by
  unfold depB at hd
  rw [List.getElem?_eq_getElem hsl] at hd
  simp only at hd
  rw [Array.any_eq_true] at hd
  obtain ⟨i, hi, hb⟩ := hd
  simp at hb
  have := h.closed s _ (List.getElem?_eq_getElem hsl) hs l[s].after[i] (by simp) hb.1
  rwa [hb.2] at this

theorem all_doneZ {listed : Array Bool} {a : Act} {w : World} {vs : Nat → Value} (hB : stableB l = true) (hlen : Rs.length = l.length) (h : InvS (Mv E F s listed) l Rs a0 w0 listed a w vs) (_hsl : s < l.length) (hall : ∀ i, i < l.length → listed.getD i false = true) (hz : Z (vs p) w)
    (hfin : ∀ zp w', F w0 w' → Z zp w' → FinS Q w' l (linked Rs p zp) a0) : Q .normal a w := by
  have h' : InvS (fun x y => x = w0 ∧ y = w) l (linked Rs p (vs p)) a0 w0 listed a w vs := ⟨h.size, ⟨rfl, rfl⟩, h.shape, fun i R hi hR => by
    unfold linked at hR
    by_cases hip : p = i
    · subst hip
      rw [List.getElem?_modify_eq] at hR
      cases hr : Rs[p]? with
      | none => rw [hr] at hR; cases hR
      | some R0 =>
        rw [hr] at hR
        obtain rfl := Option.some.inj hR
        exact ⟨h.holds p R0 hi hr, rfl⟩
    · rw [List.getElem?_modify] at hR
      simp only [hip, if_false, id_map'] at hR
      exact h.holds i R hi hR, h.closed⟩
  exact h'.all_done hB (by simp [linked, hlen]) (fun w' hw' => by rw [hw'.2]; exact hfin _ _ h.moved.1 hz) hall

theorem wpAny_oneZ (hps : p < s) (hsl : s < l.length) (hdep : depB l s p = true) (hstZ : ∀ v x y, Z v x → E x y → Z v y) (hB : stableB l = true) (hlen : Rs.length = l.length) (htr : ∀ x y z, E x y → E y z → E x z) (htr1 : ∀ x y, F w0 x → E x y → F w0 y) (htr2 : ∀ x y, F w0 x → T x y → F w0 y) (hst : ∀ R ∈ Rs, ∀ v x y, R v x → E x y → R v y) (hst2 : allBut (fun R => ∀ v x y, R v x → T x y → R v y) s Rs)
    (hsteps : StepsZ Z p P l.toArray w0 s l (onePairs E T F s l.length) Rs [] a0) (hfin : ∀ zp w', F w0 w' → Z zp w' → FinS Q w' l (linked Rs p zp) a0) :
    ∀ (fuel : Nat) (listed : Array Bool) (a : Act) (w : World) (vs : Nat → Value), listed.toList.count false = fuel → (listed.getD s false = true → Z (vs p) w) → InvS (Mv E F s listed) l Rs a0 w0 listed a w vs → wpAny P .any l.toArray Q fuel listed a w := by
  intro fuel
  induction fuel with
  | zero =>
    intro listed a w vs hc hzz h
    have hall : ∀ i, i < l.length → listed.getD i false = true := by
      intro i hi
      have hi' : i < listed.size := by rw [h.size]; exact hi
      have hnm := List.count_eq_zero.1 hc
      refine getD_true_of hi' fun hu => hnm ?_
      have : listed[i] = false := by simpa [hi'] using hu
      rw [← this]
      simp
    refine ⟨?_, all_doneZ hB hlen h hsl hall (hzz (hall s hsl)) hfin⟩
    apply List.eq_nil_iff_forall_not_mem.2
    intro j hj
    obtain ⟨hu, o, ho, _⟩ := mem_ready.1 hj
    have hjl : j < l.length := by
      have := (Array.getElem?_eq_some_iff.1 ho).1
      simpa using this
    have := hall j hjl
    rw [getD_false_true hu] at this
    cases this
  | succ fuel ih =>
    intro listed a w vs hc hzz h
    refine ⟨fun hr => all_doneZ hB hlen h hsl (h.ready_nil hB hr) (hzz (h.ready_nil hB hr s hsl)) hfin, fun i hi => ?_⟩
    obtain ⟨hu, o, ho', hall⟩ := mem_ready.1 hi
    have ho : l[i]? = some o := by simpa using ho'
    have hil : i < l.length := (List.getElem?_eq_some_iff.1 ho).1
    obtain ⟨E1, hE1⟩ : ∃ E1, (onePairs E T F s l.length)[i]? = some E1 := ⟨(onePairs E T F s l.length)[i]'(by simp [onePairs]; omega), by simp [onePairs, hil]⟩
    obtain ⟨R, hR⟩ : ∃ R, Rs[i]? = some R := ⟨Rs[i]'(by omega), by simp [show i < Rs.length by omega]⟩
    have hsp := stableB_spec hB ho
    have hd : depFacts ([] ++ zipDone Rs vs i) w o.after.toList := depFacts_of _ fun e he hb x hx => by
      have hz := zipDone_get Rs vs i e.on x (by simpa using hx)
      rw [hz.2]
      exact h.holds e.on x.1 (hall e (by simpa using he) hb) hz.1
    have hw : wpList P l.toArray (SQ E1.2 (lexP l vs i a0) o.dst w (fun v w' => R v w' ∧ (i = s → Z (vs p) w'))) [o] (lexP l vs i a0) w := stepsZ_all i l _ Rs a0 vs o E1 R w hps (by omega) hsteps ho hE1 hR (one_pre hE1 (getD_false_true hu) h.moved) hd
    have hag := h.agree hB ho hu hall
    have hdst : dstAt l i = o.dst := by simp [dstAt, ho]
    refine wpOp_of_SQ ho' ?_ (execOp_agree o hsp.1 _ _ hag) (wanted_agree o _ _ hag) hw ?_
    · rw [h.shape.size, (lexP_sh l (apart_of hB) vs a0 i (by omega)).size]
    · rintro v w' hE ⟨hRv, hZv⟩
      have hui := getD_false_true hu
      have hsz : i < listed.size := by rw [h.size]; exact hil
      have hset : ∀ j, (listed.setIfInBounds i true).getD j false = true ↔ listed.getD j false = true ∨ j = i := by
        intro j
        by_cases hij : i = j
        · subst hij; simp [hsz]
        · rw [getD_set_ne false hij]
          constructor
          · exact .inl
          · rintro (h1 | h1)
            · exact h1
            · exact absurd h1.symm hij
      refine ih _ _ _ (fun j => if j = i then v else vs j) ?_ ?_ ⟨by simp [h.size], one_tr htr htr1 htr2 hE1 hsz h.moved hE, ?_, ?_, ?_⟩
      · have hli : listed.toList[i]'(by simpa using hsz) = false := by
          have : listed[i] = false := by simpa [hsz] using hu
          simpa using this
        rw [Array.toList_setIfInBounds, List.count, List.countP_set (by simpa using hsz)]
        rw [List.count] at hc
        rw [hc, hli, if_pos (by rfl), if_neg (by decide)]
        omega
      · intro hls
        rcases (hset s).1 hls with hls' | his
        · have hsi : s ≠ i := fun e => by rw [e, hui] at hls'; cases hls'
          have hpl := h.dep hdep hsl hls'
          have hpi : p ≠ i := fun e => by rw [e, hui] at hpl; cases hpl
          simp only [hpi, if_false]
          rcases oneE hE1 with ⟨e, -⟩ | ⟨_, rfl⟩
          · exact absurd e.symm hsi
          · exact hstZ _ _ _ (hzz hls') hE
        · have hpi : p ≠ i := by omega
          simp only [hpi, if_false]
          exact hZv his.symm
      · rw [← hdst]
        refine h.shape.put (apart_of hB) i (by rw [hui]; simp) hset v (fun j hj => ?_) (by simp)
        have hji : j ≠ i := fun e => by rw [e, hui] at hj; cases hj
        simp [hji]
      · intro j R' hj hR'
        rcases (hset j).1 hj with hj' | rfl
        · have hji : j ≠ i := fun e => by rw [e, hui] at hj'; cases hj'
          simp only [hji, if_false]
          exact one_st hst hst2 hji hE1 hR' _ _ _ (h.holds j R' hj' hR') hE
        · rw [hR] at hR'
          obtain rfl := Option.some.inj hR'
          simpa using hRv
      · intro j p hp hj e he hb
        rcases (hset j).1 hj with hj' | rfl
        · exact (hset e.on).2 (.inl (h.closed j p hp hj' e he hb))
        · rw [ho] at hp
          obtain rfl := Option.some.inj hp
          exact (hset e.on).2 (.inl (hall e he hb))

/-- The law: a region that draws its order. -/
theorem wp_region_oneZ {id : Nat} {w : World} (s p : Nat) (Z : Value → World → Prop) (hps : p < s) (hsl : s < l.length) (hdep : depB l s p = true) (E T F : World → World → Prop) (Es : List ((World → World → Prop) × (World → World → Prop))) (Rs : List (Value → World → Prop)) (hEs : onePairs E T F s l.length = Es) (hm : P.follows .mixedOrders = true) (hB : stableB l = true) (hlen : Rs.length = l.length)
    (hrefl0 : ∀ x, E x x) (htr : ∀ x y z, E x y → E y z → E x z) (hrefl : F { w with drawn := w.drawn + 1 } { w with drawn := w.drawn + 1 }) (htr1 : ∀ x y, F { w with drawn := w.drawn + 1 } x → E x y → F { w with drawn := w.drawn + 1 } y) (htr2 : ∀ x y, F { w with drawn := w.drawn + 1 } x → T x y → F { w with drawn := w.drawn + 1 } y)
    (hst : ∀ R ∈ Rs, ∀ v x y, R v x → E x y → R v y) (hst2 : allBut (fun R => ∀ v x y, R v x → T x y → R v y) s Rs)
    (hstZ : ∀ v x y, Z v x → E x y → Z v y) (hsteps : StepsZ Z p P l.toArray { w with drawn := w.drawn + 1 } s l Es Rs [] a0) (hfin : ∀ zp w', F { w with drawn := w.drawn + 1 } w' → Z zp w' → FinS Q w' l (linked Rs p zp) a0) : (Code.region id l.toArray true).wp P Q a0 w := by
  subst hEs
  refine wp_region_any hm ?_
  refine wpAny_oneZ hps hsl hdep hstZ hB hlen htr htr1 htr2 hst hst2 hsteps hfin _ _ _ _ (fun _ => undef) (by simp) (fun hs => by rw [replicate_getD] at hs; cases hs) ⟨by simp, ⟨hrefl, fun _ => hrefl0 _⟩, ⟨rfl, rfl, fun _ _ => rfl, fun j t hj => ?_⟩, fun i R hi => ?_, fun j o _ hj => ?_⟩
  · rw [replicate_getD] at hj; cases hj
  · rw [replicate_getD] at hi; cases hi
  · rw [replicate_getD] at hj; cases hj

end

end Go.Proofs.Ytjggiameajndgab

/-
  Plain mathematics of the sum: no program text is named here. What the sum of a list of bytes is, that two states of the sum never meet behind the same bytes, and that a sealed list with one byte turned is sealed no more.
-/
namespace Go.Proofs.Ytjggiameajndgab

/-- One byte more. -/
def sumStep (s x : Int) : Int := (s * 151 + x + 1) % 65521

/-- The sum that began at s, behind the bytes l. -/
def sumFrom (s : Int) : List Int → Int
  | [] => s
  | x :: r => sumFrom (sumStep s x) r

/-- The sum of bytes. -/
def sumOf (l : List Int) : Int := sumFrom 13 l

/-- Bytes with their sum behind. -/
def sealOf (l : List Int) : List Int := l ++ [sumOf l / 256, sumOf l % 256]

/-- Do these bytes end with the sum of what is ahead? -/
def sealedB (l : List Int) : Bool := decide (2 ≤ l.length) && (sealOf (l.take (l.length - 2)) == l)

/-- All of them are bytes. -/
def Octets (l : List Int) : Prop := ∀ x ∈ l, 0 ≤ x ∧ x ≤ 255

theorem sumFrom_snoc (s : Int) (l : List Int) (x : Int) : sumFrom s (l ++ [x]) = sumStep (sumFrom s l) x := by
  induction l generalizing s with
  | nil => rfl
  | cons y r ih => exact ih _

theorem sumOf_snoc (l : List Int) (x : Int) : sumOf (l ++ [x]) = (sumOf l * 151 + x + 1) % 65521 := sumFrom_snoc _ _ _

theorem sumStep_bd (s x : Int) : 0 ≤ sumStep s x ∧ sumStep s x < 65521 := by unfold sumStep; omega

theorem sumFrom_bd (s : Int) (l : List Int) (h0 : 0 ≤ s) (h1 : s < 65521) : 0 ≤ sumFrom s l ∧ sumFrom s l < 65521 := by
  induction l generalizing s with
  | nil => exact ⟨h0, h1⟩
  | cons y r ih => exact ih _ (sumStep_bd s y).1 (sumStep_bd s y).2

theorem sumOf_bd (l : List Int) : 0 ≤ sumOf l ∧ sumOf l < 65521 := sumFrom_bd 13 l (by omega) (by omega)

theorem sumOf_take_succ (l : List Int) (k : Nat) (h : k < l.length) : sumOf (l.take (k + 1)) = (sumOf (l.take k) * 151 + l.getD k 0 + 1) % 65521 := by
  rw [List.take_succ_eq_append_getElem h, sumOf_snoc]
  simp [List.getD_eq_getElem?_getD, h]

theorem sumStep_inj (s t x : Int) (hs : 0 ≤ s) (hs' : s < 65521) (ht : 0 ≤ t) (ht' : t < 65521) (h : sumStep s x = sumStep t x) : s = t := by
  unfold sumStep at h
  omega

theorem sumStep_byte (s x y : Int) (hx : 0 ≤ x ∧ x ≤ 255) (hy : 0 ≤ y ∧ y ≤ 255) (h : sumStep s x = sumStep s y) : x = y := by
  unfold sumStep at h
  omega

theorem sumFrom_inj (s t : Int) (l : List Int) (hs : 0 ≤ s) (hs' : s < 65521) (ht : 0 ≤ t) (ht' : t < 65521) (h : sumFrom s l = sumFrom t l) : s = t := by
  induction l generalizing s t with
  | nil => exact h
  | cons y r ih => exact sumStep_inj s t y hs hs' ht ht' (ih _ _ (sumStep_bd s y).1 (sumStep_bd s y).2 (sumStep_bd t y).1 (sumStep_bd t y).2 h)

/-- One byte turned: another sum. -/
theorem sumFrom_set (s : Int) (l : List Int) (k : Nat) (c : Int) (hk : k < l.length) (hl : Octets l) (hc : 0 ≤ c ∧ c ≤ 255) (h : sumFrom s (l.set k c) = sumFrom s l) : l[k] = c := by
  induction l generalizing s k with
  | nil => simp at hk
  | cons y r ih =>
    cases k with
    | zero =>
      have e := sumFrom_inj _ _ r (sumStep_bd s c).1 (sumStep_bd s c).2 (sumStep_bd s y).1 (sumStep_bd s y).2 h
      exact (sumStep_byte s c y hc (hl y (by simp)) e).symm
    | succ k => exact ih _ k (by simpa using hk) (fun x hx => hl x (by simp [hx])) h

theorem sealOf_length (l : List Int) : (sealOf l).length = l.length + 2 := by simp [sealOf]

theorem sealOf_octets (l : List Int) (h : Octets l) : Octets (sealOf l) := by
  intro x hx
  have := sumOf_bd l
  simp [sealOf] at hx
  rcases hx with hx | rfl | rfl
  · exact h x hx
  · omega
  · omega

theorem sealedB_seal (l : List Int) : sealedB (sealOf l) = true := by
  have h : (sealOf l).take ((sealOf l).length - 2) = l := by simp [sealOf]
  rw [sealedB, h]
  simp [sealOf_length]

/-- What is sealed is so no more if one of its bytes is another one. -/
theorem sealedB_turned (l : List Int) (k : Nat) (c : Int) (hk : k < (sealOf l).length) (hl : Octets l) (hc : 0 ≤ c ∧ c ≤ 255) (hne : (sealOf l).getD k 0 ≠ c) : sealedB ((sealOf l).set k c) = false := by
  have hlen := sealOf_length l
  by_cases hs : sealedB ((sealOf l).set k c) = true
  · exfalso
    apply hne
    rw [sealedB, Bool.and_eq_true] at hs
    have e := eq_of_beq hs.2
    have hlen' : ((sealOf l).set k c).length = l.length + 2 := by simp [hlen]
    rw [hlen'] at e
    have ht : ((sealOf l).set k c).take (l.length + 2 - 2) = l.set k c := by
      rw [show l.length + 2 - 2 = l.length from by omega, List.take_set]
      simp [sealOf]
    rw [ht] at e
    by_cases hkl : k < l.length
    · have e2 : (sealOf l).set k c = l.set k c ++ [sumOf l / 256, sumOf l % 256] := by
        rw [sealOf, List.set_append_left _ _ hkl]
      rw [e2, sealOf] at e
      have e3 := List.append_cancel_left e
      simp at e3
      have b1 := sumOf_bd l
      have b2 := sumOf_bd (l.set k c)
      have e4 : sumOf (l.set k c) = sumOf l := by omega
      have := sumFrom_set 13 l k c hkl hl hc e4
      rw [List.getD_eq_getElem?_getD, sealOf, List.getElem?_append_left hkl]
      simp [hkl, this]
    · have e2 : l.set k c = l := by rw [List.set_eq_of_length_le (by omega)]
      rw [e2] at e
      have e3 : (sealOf l).getD k 0 = ((sealOf l).set k c).getD k 0 := by rw [← e]
      rw [e3]
      simp [List.getD_eq_getElem?_getD, hk]
  · simpa using hs

/-- The program's own test of the two last bytes. -/
theorem sealedB_eq (l : List Int) (hl : Octets l) (n : Nat) (hn : l.length = n + 2) : sealedB l = (l.getD n 0 * 256 + l.getD (n + 1) 0 == sumOf (l.take n)) := by
  have h0 : n < l.length := by omega
  have h1 : n + 1 < l.length := by omega
  have hsp : l = l.take n ++ [l.getD n 0, l.getD (n + 1) 0] := by
    conv => lhs; rw [← List.take_append_drop n l]
    congr 1
    rw [List.drop_eq_getElem_cons h0, List.drop_eq_getElem_cons h1, List.drop_of_length_le (by omega)]
    simp [List.getD_eq_getElem?_getD, h0, h1]
  have b := sumOf_bd (l.take n)
  have c0 := hl (l.getD n 0) (by simp [List.getD_eq_getElem?_getD, h0])
  have c1 := hl (l.getD (n + 1) 0) (by simp [List.getD_eq_getElem?_getD, h1])
  rw [sealedB, hn, show n + 2 - 2 = n from by omega, sealOf]
  conv => lhs; rhs; rhs; rw [hsp]
  rw [Bool.eq_iff_iff]
  simp only [Bool.and_eq_true, decide_eq_true_eq, beq_iff_eq]
  constructor
  · rintro ⟨_, h⟩
    have := List.append_cancel_left h
    simp only [List.cons.injEq, and_true] at this
    omega
  · intro h
    refine ⟨by omega, ?_⟩
    congr 1
    simp only [List.cons.injEq, and_true]
    omega

theorem sealedB_of (l : List Int) (n : Nat) (hn : l.length = n + 2) : sealedB l = (sealOf (l.take n) == l) := by
  rw [sealedB, hn, show n + 2 - 2 = n from by omega]
  simp

theorem sealedB_short (l : List Int) (h : l.length < 2) : sealedB l = false := by
  simp [sealedB]
  omega

end Go.Proofs.Ytjggiameajndgab

/-
  What a value that is a slice of bytes reads as, in a world; and that it reads so still in every world in which nothing old has turned.
-/
namespace Go.Proofs.Ytjggiameajndgab
open Go.RowKit

/-- Where there is a byte at all, the address leads to a row of cells that hold the bytes l. -/
def Cs (w : World) (ao : Option Addr) (l : List Int) : Prop :=
  0 < l.length → ∃ b off, ao = some ⟨b, off, none⟩ ∧ ∀ i, i < l.length → w.cell? ⟨b, off + i, none⟩ = some (.int .u8 (l.getD i 0))

/-- The value v is a slice of bytes that reads as l. -/
def Bs (w : World) (v : Value) (l : List Int) : Prop :=
  ∃ ao cap, v = .slice ao l.length cap ∧ l.length ≤ cap ∧ cap ≤ maxLen ∧ (ao = none → cap = 0) ∧ Octets l ∧ Cs w ao l

theorem Bs.octets {w : World} {v : Value} {l : List Int} (h : Bs w v l) : Octets l := by
  obtain ⟨_, _, _, _, _, _, h, _⟩ := h; exact h

theorem Bs.len {w : World} {v : Value} {l : List Int} (h : Bs w v l) : l.length ≤ maxLen := by
  obtain ⟨_, _, _, h1, h2, _⟩ := h; omega

theorem Bs.nil (w : World) : Bs w (.slice none 0 0) [] :=
  ⟨none, 0, rfl, Nat.le_refl _, Nat.zero_le _, fun _ => rfl, fun x hx => by simp at hx, fun h => by simp at h⟩

theorem cell_lt {w : World} {b o : Nat} {v : Value} (h : w.cell? ⟨b, o, none⟩ = some v) : b < w.heap.size := by
  by_cases hb : b < w.heap.size
  · exact hb
  · exfalso
    simp [World.cell?, Array.getElem?_eq_none (Nat.le_of_not_lt hb)] at h

theorem Cs.below {w w' : World} {ao : Option Addr} {l : List Int} (h : Cs w ao l) (hb : Below w.heap.size w w') : Cs w' ao l := by
  intro hp
  obtain ⟨b, off, e, hc⟩ := h hp
  refine ⟨b, off, e, fun i hi => ?_⟩
  have := hc i hi
  rw [hb.cell (p := ⟨b, off + i, none⟩) (cell_lt this)]
  exact this

/-- It reads so still where nothing old has turned. -/
theorem Bs.below {w w' : World} {v : Value} {l : List Int} (h : Bs w v l) (hb : Below w.heap.size w w') : Bs w' v l := by
  obtain ⟨ao, cap, hv, h1, h2, h3, h4, h5⟩ := h
  exact ⟨ao, cap, hv, h1, h2, h3, h4, h5.below hb⟩

theorem Cs.src {w : World} {ao : Option Addr} {l : List Int} (h : Cs w ao l) : ∀ ad, ao = some ad → ∀ j u, (l.map (Value.int .u8))[j]? = some u → w.cell? (ad.add j) = some u := by
  intro ad had j u hu
  have hj : j < l.length := by
    by_cases hj : j < l.length
    · exact hj
    · simp [List.getElem?_eq_none (Nat.le_of_not_lt hj)] at hu
  obtain ⟨b, off, e, hc⟩ := h (by omega)
  rw [had] at e
  obtain rfl := Option.some.inj e
  have := hc j hj
  have hplain : (⟨b, off, none⟩ : Addr).add j = ⟨b, off + j, none⟩ := by unfold Addr.add; split <;> simp_all
  rw [hplain, this]
  simp [hj, List.getD_eq_getElem?_getD] at hu ⊢
  exact hu

theorem u8_oneCell (l : List Int) : ∀ u ∈ l.map (Value.int .u8), u.oneCell' = true := by
  intro u hu
  simp at hu
  obtain ⟨x, _, rfl⟩ := hu
  rfl

/-- A row of the call's own that holds bytes is a slice that reads as them. -/
theorem Bs.of_own {w : World} {base : Nat} {e : TypeId} {v : Value} {n : Nat} {l : List Int} (h : w.ownsRow base e 1 v n (l.map (Value.int .u8))) (ho : Octets l) : Bs w v l := by
  obtain ⟨hl, h⟩ := h
  have hn : l.length = n := by simpa using hl
  subst hn
  rcases h with ⟨rfl, h0⟩ | ⟨g, cap, cur, rfl, hg, hh, hc, hm, hs, ht⟩
  · have : l = [] := List.eq_nil_of_length_eq_zero h0
    subst this
    exact Bs.nil w
  · refine ⟨some ⟨g, 0, none⟩, cap, rfl, hc, hm, (fun h => nomatch h), ho, fun _ => ⟨g, 0, rfl, fun i hi => ?_⟩⟩
    have h1 : cur.toList[i]? = some (Value.int .u8 (l.getD i 0)) := by
      have h2 : (cur.toList.take (l.length * 1))[i]? = some (Value.int .u8 (l.getD i 0)) := by
        rw [ht]; simp [hi, List.getD_eq_getElem?_getD]
      rw [List.getElem?_take] at h2
      split at h2
      · exact h2
      · cases h2
    simp [World.cell?, hh]
    simpa using h1

theorem Bs.drewN {w : World} {v : Value} {l : List Int} (h : Bs w v l) (n : Nat) : Bs (w.drewN n) v l := by
  obtain ⟨ao, cap, hv, h1, h2, h3, h4, h5⟩ := h
  exact ⟨ao, cap, hv, h1, h2, h3, h4, h5⟩

/-- An append to a row of the call's own, of whatever slice of one-cell elements: nil or not. -/
theorem wpList_append_own_any {P : Program} (w : World) {ops : Array Oper} {rest : List Oper} {o : Oper} {a : Act} {Q : Exit → Act → World → Prop} (hgd : o.guard = none) (s x : Operand) (t : TypeId)
    (ho : o.op = .call { callee := .builtin .append, args := #[s, x], argTypes := #[t, t] })
    (base : Nat) (e : TypeId) (i : TypeInfo) (z : Value) (bytes : Nat) (ht : P.underlying t = some (.slice e)) (hi : P.info? e = some i) (hz : i.zero = some z)
    (hsize : i.size = 1) (hby : i.bytes = bytes) (hzs : z.cells.size = 1)
    (v : Value) (n : Nat) (xs : List Value) (hs : a.eval s = v) (hown : w.ownsRow base e 1 v n xs)
    (ao : Option Addr) (m c : Nat) (news : List Value) (hx : a.eval x = .slice ao m c) (hl : news.length = m) (hnone : ao = none → m = 0 ∧ c = 0)
    (hnews : ∀ ad, ao = some ad → ∀ j u, news[j]? = some u → w.cell? (ad.add j) = some u) (h1 : ∀ u ∈ news, u.oneCell' = true)
    (h63 : n + m ≤ maxLen) (hbytes : (n + m) * bytes ≤ 140737488355328) (hbase : base ≤ w.heap.size)
    (h : ∀ v' w', w'.ownsRow base e 1 v' (n + m) (xs ++ news) → w.grownBy w' v.ownBlock → wpList P ops Q rest (a.put o.dst v') w') : wpList P ops Q (o :: rest) a w := by
  cases ao with
  | some ad => exact wpList_append_own w hgd s x t ho base e i z 1 bytes ht hi hz hsize hby hzs (by decide) v n xs hs hown ad m c news hx (by simpa using hl) (hnews ad rfl) h1 h63 hbytes hbase (fun v' w' a b _ => h v' w' a b)
  | none =>
    obtain ⟨rfl, rfl⟩ := hnone rfl
    obtain rfl : news = [] := List.eq_nil_of_length_eq_zero hl
    exact wpList_append_own_none hgd s x t ho base e i 1 ht hi v n xs hs hown hx (h v w (by simpa using hown) (World.grownBy.refl _ _))

/-- A row of the call's own lies at its base or above. -/
theorem own_base {w : World} {base : Nat} {e : TypeId} {v : Value} {n : Nat} {xs : List Value} (h : w.ownsRow base e 1 v n xs) : ∀ k, v.ownBlock = some k → base ≤ k := fun k hk => (h.lt k hk).1

theorem getD_bd {l : List Int} (h : Octets l) (i : Nat) : 0 ≤ l.getD i 0 ∧ l.getD i 0 ≤ 255 := by
  by_cases hi : i < l.length
  · exact h _ (by simp [List.getD_eq_getElem?_getD, hi])
  · simp [List.getD_eq_getElem?_getD, hi]

theorem ret_int {k : IntKind} {a b : Int} (h : a = b) : Ending.returned (.int k a) = .returned (.int k b) := by rw [h]
theorem ret_bool {a b : Bool} (h : a = b) : Ending.returned (.bool a) = .returned (.bool b) := by rw [h]

end Go.Proofs.Ytjggiameajndgab

/-
  The world moves on: nothing that was there has turned. What a slice of bytes converts to; strings of bytes that are alike.
-/
namespace Go.Proofs.Ytjggiameajndgab
open Go.RowKit

/-- Nothing that was there has turned. -/
def Grow (w w' : World) : Prop := Below w.heap.size w w'
theorem Grow.refl (w : World) : Grow w w := Below.refl _ _
theorem Grow.trans {x y z : World} (h : Grow x y) (k : Grow y z) : Grow x z := Below.trans h (Below.mono k h.size)
theorem Grow.drewN (w : World) (n : Nat) : Grow w (w.drewN n) := ⟨rfl, rfl, rfl, Nat.le_refl _, fun _ _ => rfl⟩
theorem Grow.drew {w w' : World} (h : Grow { w with drawn := w.drawn + 1 } w') : Grow w w' := ⟨h.os, h.tape, h.output, h.size, h.block⟩

theorem Grow.alloc (w : World) (b : Obj) : Grow w (w.alloc b) := (Below.refl _ _).alloc (Nat.le_refl _) _

/-- It is this value. -/
def IsV (c v : Value) (_ : World) : Prop := v = c

theorem IsV.eq {c v : Value} {w : World} (h : IsV c v w) : v = c := h
theorem IsV.stable (c : Value) : ∀ (v : Value) (x y : World), IsV c v x → Grow x y → IsV c v y := fun _ _ _ h _ => h

theorem Bs.grow {w w' : World} {v : Value} {l : List Int} (h : Bs w v l) (hb : Grow w w') : Bs w' v l := h.below hb

theorem grow_own {w1 w2 : World} {base : Nat} {e : TypeId} {v : Value} {n : Nat} {xs : List Value} (h : w1.ownsRow base e 1 v n xs) (hg : Grow w1 w2) : w2.ownsRow base e 1 v n xs := by
  obtain ⟨h1, h2⟩ := h
  refine ⟨h1, ?_⟩
  rcases h2 with h2 | ⟨g, cap, cur, hv, hb, hh, hr⟩
  · exact .inl h2
  · have hlt : g < w1.heap.size := by
      by_cases hlt : g < w1.heap.size
      · exact hlt
      · rw [Array.getElem?_eq_none (Nat.le_of_not_lt hlt)] at hh; cases hh
    exact .inr ⟨g, cap, cur, hv, hb, (hg.block g hlt).trans hh, hr⟩

/-- A slice of bytes as a string. -/
theorem run_convert_bs {P : Program} {w : World} {v : Value} {l : List Int} (src e dst : TypeId) (hs : P.underlying src = some (.slice e)) (he : P.underlying e = some (.int .u8)) (hd : P.underlying dst = some .string) (h : Bs w v l) :
    (convert src dst v).run P w = .ok (.string (strOfNums l)) w := by
  obtain ⟨ao, cap, rfl, h1, h2, h3, h4, h5⟩ := h
  cases ao with
  | none =>
    have : l = [] := List.eq_nil_of_length_eq_zero (by have := h3 rfl; omega)
    subst this
    exact run_convert_bytes_nil w src e hs he _ _ dst hd
  | some ad =>
    by_cases hl : 0 < l.length
    · obtain ⟨b, off, e1, hc⟩ := h5 hl
      obtain rfl := Option.some.inj e1
      exact run_convert_bytes_arg w src e hs he b off l.length cap l rfl hc dst hd
    · have : l = [] := List.eq_nil_of_length_eq_zero (by omega)
      subst this
      have hl : (loadCells ad 0).run P w = .ok (([] : List Int).map (Value.int .u8)).toArray w := by
        have := run_loadCells_list (P := P) w ad [] (fun j v hj => by simp at hj)
        simpa using this
      rw [run_convert_bytes_string w src dst e _ _ cap hs he hd]
      show (Conv.bytesToString (.slice (some ad) 0 cap)).run P w = _
      rw [run_bytesToString w ad 0 cap [] hl]
      rfl

theorem ofNat_inj {x y : Int} (hx : 0 ≤ x ∧ x ≤ 255) (hy : 0 ≤ y ∧ y ≤ 255) (h : UInt8.ofNat x.toNat = UInt8.ofNat y.toNat) : x = y := by
  have := congrArg UInt8.toNat h
  simp only [UInt8.toNat_ofNat'] at this
  omega

theorem strOfNums_inj {a b : List Int} (ha : Octets a) (hb : Octets b) (h : strOfNums a = strOfNums b) : a = b := by
  have h1 : a.map (fun n => UInt8.ofNat n.toNat) = b.map (fun n => UInt8.ofNat n.toNat) := by
    rw [← strOfNums_data, ← strOfNums_data, h]
  clear h
  induction a generalizing b with
  | nil => cases b with
    | nil => rfl
    | cons y r => simp at h1
  | cons x s ih =>
    cases b with
    | nil => simp at h1
    | cons y r =>
      simp only [List.map_cons, List.cons.injEq] at h1
      rw [ofNat_inj (ha x (by simp)) (hb y (by simp)) h1.1, ih (fun z hz => ha z (by simp [hz])) (fun z hz => hb z (by simp [hz])) h1.2]

/-- Strings of bytes are alike where the bytes are. -/
theorem str_beq {a b : List Int} (ha : Octets a) (hb : Octets b) : ((strOfNums a).toList == (strOfNums b).toList) = (a == b) := by
  rw [Bool.eq_iff_iff, beq_iff_eq, beq_iff_eq, ByteArray.toList_eq, ByteArray.toList_eq]
  constructor
  · intro h
    refine strOfNums_inj ha hb ?_
    have h1 : (strOfNums a).data = (strOfNums b).data := Array.toList_inj.1 h
    cases hx : strOfNums a
    cases hy : strOfNums b
    rw [hx, hy] at h1
    simpa using h1
  · intro h
    rw [h]

end Go.Proofs.Ytjggiameajndgab
