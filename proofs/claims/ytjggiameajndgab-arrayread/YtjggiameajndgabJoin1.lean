import Derived.WalkKit
import Derived.Orders
/-
  A region that draws its order, each of whose operations is shown once, in whatever world may have come of the others: E is how the world may move on, each operation has a condition on what it yields that stays true as the world moves on, and may lean on the conditions of those alone that it waits for.
-/
namespace Go.Proofs.Ytjggiameajndgab
open Go.RowKit

/-- What is asked behind one operation. -/
def SQ (E : World → World → Prop) (a : Act) (dst : Option Tmp) (w : World) (R : Value → World → Prop) : Exit → Act → World → Prop
  | .normal, a', w' => ∃ v, a' = a.put dst v ∧ E w w' ∧ R v w'
  | _, _, _ => False

/-- What is known of those that an operation waits for. -/
def depFacts (done : List ((Value → World → Prop) × Value)) (w : World) : List Edge → Prop
  | [] => True
  | e :: r => (if Region.binds .any e = true then (match done[e.on]? with | some x => x.1 x.2 w | none => True) else True) ∧ depFacts done w r

/-- Each operation, in the order of the text. -/
def StepsS (E : World → World → Prop) (P : Program) (ops : Array Oper) (w0 : World) : List Oper → List (Value → World → Prop) → List ((Value → World → Prop) × Value) → Act → Prop
  | o :: rest, R :: Rs, done, a => (∀ w, E w0 w → depFacts done w o.after.toList → wpList P ops (SQ E a o.dst w R) [o] a w) ∧ ∀ v, StepsS E P ops w0 rest Rs (done ++ [(R, v)]) (a.put o.dst v)
  | _, _, _, _ => True

/-- One operation at a time, the frame behind it written out. -/
theorem StepsS.cons {E : World → World → Prop} {P : Program} {ops : Array Oper} {w0 : World} {o : Oper} {rest : List Oper} {R : Value → World → Prop} {Rs : List (Value → World → Prop)} {done : List ((Value → World → Prop) × Value)} {a : Act}
    (h1 : ∀ w, E w0 w → depFacts done w o.after.toList → wpList P ops (SQ E a o.dst w R) [o] a w) (h2 : ∀ v, ∃ a' d', a.put o.dst v = a' ∧ done ++ [(R, v)] = d' ∧ StepsS E P ops w0 rest Rs d' a') : StepsS E P ops w0 (o :: rest) (R :: Rs) done a :=
  ⟨h1, fun v => by obtain ⟨a', d', rfl, rfl, h⟩ := h2 v; exact h⟩

/-- What is asked behind the region. -/
def FinS (Q : Exit → Act → World → Prop) (w : World) : List Oper → List (Value → World → Prop) → Act → Prop
  | o :: rest, R :: Rs, a => ∀ v, R v w → FinS Q w rest Rs (a.put o.dst v)
  | _, _, a => Q .normal a w

/-- One yield at a time, the frame behind it written out. -/
theorem FinS.cons {Q : Exit → Act → World → Prop} {w : World} {o : Oper} {rest : List Oper} {R : Value → World → Prop} {Rs : List (Value → World → Prop)} {a : Act} (h : ∀ v, R v w → ∃ a', a.put o.dst v = a' ∧ FinS Q w rest Rs a') : FinS Q w (o :: rest) (R :: Rs) a :=
  fun v hv => by obtain ⟨a', rfl, h⟩ := h v hv; exact h

/-- The frame behind the first i operations of the text. -/
def lexP : List Oper → (Nat → Value) → Nat → Act → Act
  | o :: l, vs, i + 1, a => lexP l (fun j => vs (j + 1)) i (a.put o.dst (vs 0))
  | _, _, _, a => a

def zipDone : List (Value → World → Prop) → (Nat → Value) → Nat → List ((Value → World → Prop) × Value)
  | R :: Rs, vs, i + 1 => (R, vs 0) :: zipDone Rs (fun j => vs (j + 1)) i
  | _, _, _ => []

theorem zipDone_get : ∀ (Rs : List (Value → World → Prop)) (vs : Nat → Value) (i j : Nat) (x : (Value → World → Prop) × Value), (zipDone Rs vs i)[j]? = some x → Rs[j]? = some x.1 ∧ x.2 = vs j
  | [], _, _, _, _, h => by simp [zipDone] at h
  | _ :: _, _, 0, _, _, h => by simp [zipDone] at h
  | R :: Rs, vs, i + 1, 0, x, h => by simp [zipDone] at h; subst h; simp
  | R :: Rs, vs, i + 1, j + 1, x, h => by
    simp [zipDone] at h
    have := zipDone_get Rs (fun j => vs (j + 1)) i j x h
    simpa using this

/-- The destination of operation number j. -/
def dstAt (l : List Oper) (j : Nat) : Option Tmp := (l[j]?).bind (·.dst)

theorem lexP_succ : ∀ (l : List Oper) (vs : Nat → Value) (i : Nat) (a : Act), i < l.length → lexP l vs (i + 1) a = (lexP l vs i a).put (dstAt l i) (vs i)
  | [], _, _, _, h => by simp at h
  | o :: l, vs, 0, a, _ => by cases l <;> simp [lexP, dstAt]
  | o :: l, vs, i + 1, a, h => by
    have := lexP_succ l (fun j => vs (j + 1)) i (a.put o.dst (vs 0)) (by simpa using h)
    simpa [lexP, dstAt] using this

theorem steps_at {E : World → World → Prop} {P : Program} {ops : Array Oper} {w0 : World} : ∀ (i : Nat) (l : List Oper) (Rs : List (Value → World → Prop)) (done : List ((Value → World → Prop) × Value)) (a : Act) (vs : Nat → Value) (o : Oper) (R : Value → World → Prop) (w : World),
    StepsS E P ops w0 l Rs done a → l[i]? = some o → Rs[i]? = some R → E w0 w → depFacts (done ++ zipDone Rs vs i) w o.after.toList → wpList P ops (SQ E (lexP l vs i a) o.dst w R) [o] (lexP l vs i a) w
  | _, [], _, _, _, _, _, _, _, _, h, _, _, _ => by simp at h
  | _, _ :: _, [], _, _, _, _, _, _, _, _, h, _, _ => by simp at h
  | 0, o :: l, R :: Rs, done, a, vs, o', R', w, hs, h1, h2, hE, hd => by
    simp at h1 h2
    subst h1 h2
    simp [zipDone] at hd
    exact hs.1 w hE hd
  | i + 1, o :: l, R :: Rs, done, a, vs, o', R', w, hs, h1, h2, hE, hd =>
    steps_at i l Rs (done ++ [(R, vs 0)]) (a.put o.dst (vs 0)) (fun j => vs (j + 1)) o' R' w (hs.2 (vs 0)) (by simpa using h1) (by simpa using h2) hE (by simpa [zipDone] using hd)

theorem fin_at {Q : Exit → Act → World → Prop} {w : World} : ∀ (l : List Oper) (Rs : List (Value → World → Prop)) (a : Act) (vs : Nat → Value), FinS Q w l Rs a → Rs.length = l.length → (∀ (i : Nat) (R : Value → World → Prop), Rs[i]? = some R → R (vs i) w) → Q .normal (lexP l vs l.length a) w
  | [], _, _, _, h, _, _ => by simpa [FinS, lexP] using h
  | _ :: _, [], _, _, _, h, _ => by simp at h
  | o :: l, R :: Rs, a, vs, h, hl, hR => by
    have h1 := h (vs 0) (hR 0 R (by simp))
    exact fin_at l Rs (a.put o.dst (vs 0)) (fun j => vs (j + 1)) h1 (by simpa using hl) (fun i R' hi => hR (i + 1) R' (by simpa using hi))

/-- The frame a is a0 but for the yields of the operations in L. -/
structure Sh (l : List Oper) (L : Nat → Prop) (vs : Nat → Value) (a0 a : Act) : Prop where
  defers : a.defers = a0.defers
  size : a.tmps.size = a0.tmps.size
  old : ∀ t, (∀ j, L j → dstAt l j ≠ some t) → a.tmps[t]? = a0.tmps[t]?
  new : ∀ j t, L j → dstAt l j = some t → t < a0.tmps.size → a.tmps[t]? = some (vs j)

theorem Act.put_size (a : Act) (d : Option Tmp) (v : Value) : (a.put d v).tmps.size = a.tmps.size := by cases d <;> simp [Act.put]
theorem Act.put_defers' (a : Act) (d : Option Tmp) (v : Value) : (a.put d v).defers = a.defers := by cases d <;> simp [Act.put]

theorem Act.put_get_ne (a : Act) (d : Option Tmp) (v : Value) (t : Tmp) (h : d ≠ some t) : (a.put d v).tmps[t]? = a.tmps[t]? := by
  cases d with
  | none => rfl
  | some d => simp [Act.put, Array.getElem?_setIfInBounds_ne (show d ≠ t from fun e => h (by rw [e]))]

theorem Act.put_get (a : Act) (v : Value) (t : Tmp) (h : t < a.tmps.size) : (a.put (some t) v).tmps[t]? = some v := by
  simp [Act.put, h]

/-- No two operations have one destination. -/
def Apart (l : List Oper) : Prop := ∀ i j t, dstAt l i = some t → dstAt l j = some t → i = j

theorem Sh.put {l : List Oper} {L L' : Nat → Prop} {vs vs' : Nat → Value} {a0 a : Act} (hap : Apart l) (h : Sh l L vs a0 a) (i : Nat) (hi : ¬ L i) (hL : ∀ j, L' j ↔ L j ∨ j = i) (v : Value) (hv : ∀ j, L j → vs' j = vs j) (hvi : vs' i = v) :
    Sh l L' vs' a0 (a.put (dstAt l i) v) := by
  refine ⟨by rw [Act.put_defers', h.defers], by rw [Act.put_size, h.size], fun t ht => ?_, fun j t hj hd hlt => ?_⟩
  · rw [Act.put_get_ne _ _ _ _ (ht i ((hL i).2 (.inr rfl)))]
    exact h.old t fun j hj => ht j ((hL j).2 (.inl hj))
  · rcases (hL j).1 hj with hj | rfl
    · rw [Act.put_get_ne _ _ _ _ (fun e => hi (by rw [hap i j t e hd]; exact hj)), hv j hj]
      exact h.new j t hj hd hlt
    · rw [hd, Act.put_get _ _ _ (by rw [h.size]; exact hlt), hvi]

theorem lexP_sh (l : List Oper) (hap : Apart l) (vs : Nat → Value) (a0 : Act) : ∀ i, i ≤ l.length → Sh l (fun j => j < i) vs a0 (lexP l vs i a0)
  | 0, _ => ⟨by cases l <;> simp [lexP], by cases l <;> simp [lexP], fun t _ => by cases l <;> simp [lexP], fun j t h => by simp at h⟩
  | i + 1, h => by
    rw [lexP_succ l vs i a0 (by omega)]
    exact (lexP_sh l hap vs a0 i (by omega)).put hap i (by simp) (fun j => by omega) _ (fun _ _ => rfl) rfl

theorem Sh.eq {l : List Oper} {L L' : Nat → Prop} {vs : Nat → Value} {a0 a b : Act} (h : Sh l L vs a0 a) (h' : Sh l L' vs a0 b) (hL : ∀ j t, dstAt l j = some t → (L j ↔ L' j)) : a = b := by
  have ht : a.tmps = b.tmps := by
    apply Array.ext_getElem?
    intro t
    by_cases hlt : t < a0.tmps.size
    · by_cases hex : ∃ j, L j ∧ dstAt l j = some t
      · obtain ⟨j, hj, hd⟩ := hex
        rw [h.new j t hj hd hlt, h'.new j t ((hL j t hd).1 hj) hd hlt]
      · rw [h.old t (fun j hj hd => hex ⟨j, hj, hd⟩), h'.old t (fun j hj hd => hex ⟨j, (hL j t hd).2 hj, hd⟩)]
    · rw [Array.getElem?_eq_none (by rw [h.size]; omega), Array.getElem?_eq_none (by rw [h'.size]; omega)]
  have hd : a.defers = b.defers := h.defers.trans h'.defers.symm
  cases a; cases b; simp_all

theorem put_eq_of {a b : Act} (hs : a.tmps.size = b.tmps.size) (d : Option Tmp) (u v : Value) (h : b.put d u = b.put d v) : a.put d u = a.put d v := by
  cases d with
  | none => rfl
  | some d =>
    by_cases hd : d < b.tmps.size
    · have h1 := congrArg (fun x : Act => x.tmps[d]?) h
      simp only [Act.put_get _ _ _ hd, Option.some.injEq] at h1
      rw [h1]
    · simp [Act.put, Array.setIfInBounds, show ¬ d < a.tmps.size from by rw [hs]; exact hd]

/-- From the frame of the text's order to the frame at hand. -/
theorem wpOp_of_SQ {E : World → World → Prop} {P : Program} {ops : Array Oper} {Q : Exit → Act → World → Prop} {i : Nat} {o : Oper} {a b : Act} {w : World} {R : Value → World → Prop} {K : Act → World → Prop} (ho : ops[i]? = some o)
    (hs : a.tmps.size = b.tmps.size) (he : execOp a.eval o = execOp b.eval o) (hw : Region.wanted o (yielded ops a.tmps) = Region.wanted o (yielded ops b.tmps))
    (h : wpList P ops (SQ E b o.dst w R) [o] b w) (hK : ∀ v w', E w w' → R v w' → K (a.put o.dst v) w') : wpOp P ops Q i K a w := by
  have fin : ∀ u w', SQ E b o.dst w R .normal (b.put o.dst u) w' → K (a.put o.dst u) w' := by
    rintro u w' ⟨v, hv, hE, hR⟩
    rw [put_eq_of hs _ _ _ hv]
    exact hK v w' hE hR
  unfold wpOp
  simp only [ho]
  unfold wpList at h
  rw [hw]
  split
  · rename_i hwt
    rw [if_pos hwt] at h
    rcases h with h | ⟨_, a', w', hf⟩
    case inr => exact hf.elim
    refine .inl ?_
    unfold Oper.wp at *
    rw [he]
    generalize (execOp b.eval o).run P w = r at *
    cases r with
    | ok n w' =>
      cases n <;> simp only [Oper.upon] at h ⊢
      case value u => exact fin _ _ h
      case skip => exact fin _ _ h
      case defer d =>
        obtain ⟨v, hv, _⟩ := (show SQ E b o.dst w R .normal _ _ from h)
        have h1 := congrArg (fun x : Act => x.defers.length) hv
        simp [Act.put_defers'] at h1
      case enter f args =>
        refine Calls.mono h fun e w'' hh => ?_
        cases e with
        | returned u => exact fin _ _ hh
        | panicked c => exact (show False from hh).elim
        | outgrown => obtain ⟨_, _, hf⟩ := (show LetsOut _ from hh); exact (show False from hf).elim
      case row row args => exact Rows.mono h fun u w'' hh => fin _ _ hh
    | halt x w' =>
      cases x <;> simp only [Oper.upon] at h ⊢
      case panic u => exact (show False from h).elim
  · rename_i hwt
    rw [if_neg hwt] at h
    exact fin _ _ h

theorem execOp_agree {ops : Array Oper} (o : Oper) (hs : ∀ cs b, o.op ≠ .select cs b) (a b : Act) (h : ∀ t, t ∈ o.looksAt ops → a.tmps[t]? = b.tmps[t]?) : execOp a.eval o = execOp b.eval o :=
  execOp_congr o hs fun x hx => by
    cases x with
    | tmp t =>
      have := h t (List.mem_append_left _ (List.mem_filterMap.2 ⟨.tmp t, by simpa using hx, rfl⟩))
      simp only [Act.eval, Array.getD_eq_getD_getElem?, this]
    | _ => rfl

theorem wanted_agree {ops : Array Oper} (o : Oper) (a b : Act) (h : ∀ t, t ∈ o.looksAt ops → a.tmps[t]? = b.tmps[t]?) : Region.wanted o (yielded ops a.tmps) = Region.wanted o (yielded ops b.tmps) := by
  unfold Region.wanted
  cases hg : o.guard with
  | none => rfl
  | some gw =>
    obtain ⟨g, want⟩ := gw
    have hy : yielded ops a.tmps g = yielded ops b.tmps g := by
      unfold yielded
      cases ht : (ops[g]?).bind (·.dst) with
      | none => rfl
      | some t =>
        have := h t (by simp [Oper.looksAt, hg, ht])
        simp [this]
    simp only [hy]

/-- What is asked of a region's own shape: destinations apart; whoever looks at another's yield waits for it, or is waited for by it; nobody waits for a later one; no select. -/
def stableB (l : List Oper) : Bool :=
  let n := l.length
  (List.range n).all fun i => (match l[i]? with
    | none => true
    | some o => (match o.op with | .select _ _ => false | _ => true) && o.after.all (fun e => !Region.binds .any e || decide (e.on < i)) &&
      (List.range n).all fun j => j == i || (match l[j]? with
        | none => true
        | some p => (match p.dst with
          | none => true
          | some d => o.dst != some d && (!(o.looksAt l.toArray).contains d || (if j < i then o.after.any (fun e => Region.binds .any e && e.on == j) else p.after.any (fun e => Region.binds .any e && e.on == i))))))

theorem stableB_spec {l : List Oper} (h : stableB l = true) {i : Nat} {o : Oper} (ho : l[i]? = some o) :
    (∀ cs b, o.op ≠ .select cs b) ∧ (∀ e ∈ o.after, Region.binds .any e = true → e.on < i) ∧
    ∀ j p d, l[j]? = some p → j ≠ i → p.dst = some d → o.dst ≠ some d ∧ (d ∈ o.looksAt l.toArray → (j < i → ∃ e ∈ o.after, Region.binds .any e = true ∧ e.on = j) ∧ (¬ j < i → ∃ e ∈ p.after, Region.binds .any e = true ∧ e.on = i)) := by
  have hi : i < l.length := (List.getElem?_eq_some_iff.1 ho).1
  have h1 := List.all_eq_true.1 h i (List.mem_range.2 hi)
  simp only [ho, Bool.and_eq_true] at h1
  obtain ⟨⟨h1, h2⟩, h3⟩ := h1
  refine ⟨fun cs b e => by rw [e] at h1; simp at h1, fun e he hb => ?_, fun j p d hp hj hd => ?_⟩
  · have := Array.all_eq_true_iff_forall_mem.1 h2 e he
    simpa [hb] using this
  · have hjl : j < l.length := (List.getElem?_eq_some_iff.1 hp).1
    have h4 := List.all_eq_true.1 h3 j (List.mem_range.2 hjl)
    simp only [hp, hd, Bool.or_eq_true, beq_iff_eq, hj, false_or, Bool.and_eq_true, bne_iff_ne, Bool.not_eq_true'] at h4
    refine ⟨h4.1, fun hl => ?_⟩
    rcases h4.2 with h5 | h5
    · rw [List.contains_iff_mem.2 hl] at h5; cases h5
    · constructor
      · intro hlt
        rw [if_pos hlt] at h5
        rw [← Array.any_toList] at h5
        obtain ⟨e, he, hb⟩ := List.any_eq_true.1 h5
        simp only [Bool.and_eq_true, beq_iff_eq] at hb
        exact ⟨e, by simpa using he, hb.1, hb.2⟩
      · intro hlt
        rw [if_neg hlt] at h5
        rw [← Array.any_toList] at h5
        obtain ⟨e, he, hb⟩ := List.any_eq_true.1 h5
        simp only [Bool.and_eq_true, beq_iff_eq] at hb
        exact ⟨e, by simpa using he, hb.1, hb.2⟩

theorem depFacts_of {done : List ((Value → World → Prop) × Value)} {w : World} : ∀ (es : List Edge), (∀ e ∈ es, Region.binds .any e = true → ∀ x, done[e.on]? = some x → x.1 x.2 w) → depFacts done w es
  | [], _ => trivial
  | e :: r, h => by
    refine ⟨?_, depFacts_of r fun e' he' => h e' (by simp [he'])⟩
    split
    · rename_i hb
      split
      · rename_i x hx; exact h e (by simp) hb x hx
      · trivial
    · trivial

theorem replicate_getD (n j : Nat) : (Array.replicate n false).getD j false = false := by
  by_cases h : j < n <;> simp [h]

theorem getD_false_true {listed : Array Bool} {j : Nat} (h : listed.getD j true = false) : listed.getD j false = false := by
  rcases Nat.lt_or_ge j listed.size with h' | h'
  · simpa [h'] using h
  · simp [Array.getElem?_eq_none h']

theorem getD_true_of {listed : Array Bool} {j : Nat} (hlt : j < listed.size) (h : ¬ listed.getD j true = false) : listed.getD j false = true := by
  simpa [hlt] using h

/-- What is known of the one that is waited for by edge number k. -/
theorem dep_at {done : List ((Value → World → Prop) × Value)} {w : World} : ∀ {es : List Edge}, depFacts done w es → ∀ (k : Nat) {e : Edge}, es[k]? = some e → ∀ {R : Value → World → Prop} {v : Value}, Region.binds .any e = true → done[e.on]? = some (R, v) → R v w
  | [], _, _, _, h, _, _, _, _ => by simp at h
  | e :: r, hd, 0, e', h, R, v, hb, hx => by
    simp at h
    subst h
    have h1 := hd.1
    rw [if_pos hb, hx] at h1
    exact h1
  | e :: r, hd, k + 1, e', h, R, v, hb, hx => dep_at hd.2 k (by simpa using h) hb hx

section
variable {E : World → World → Prop} {P : Program} {Q : Exit → Act → World → Prop} {l : List Oper} {Rs : List (Value → World → Prop)} {a0 : Act} {w0 : World}

/-- Where the walk stands, whatever order was taken. -/
structure InvS (E : World → World → Prop) (l : List Oper) (Rs : List (Value → World → Prop)) (a0 : Act) (w0 : World) (listed : Array Bool) (a : Act) (w : World) (vs : Nat → Value) : Prop where
  size : listed.size = l.length
  moved : E w0 w
  shape : Sh l (fun j => listed.getD j false = true) vs a0 a
  holds : ∀ (i : Nat) (R : Value → World → Prop), listed.getD i false = true → Rs[i]? = some R → R (vs i) w
  closed : ∀ (j : Nat) (o : Oper), l[j]? = some o → listed.getD j false = true → ∀ e ∈ o.after, Region.binds .any e = true → listed.getD e.on false = true

theorem apart_of (hB : stableB l = true) : Apart l := by
  intro i j t hi hj
  by_cases hij : i = j
  · exact hij
  · exfalso
    unfold dstAt at hi hj
    cases hoi : l[i]? with
    | none => simp [hoi] at hi
    | some oi =>
      cases hoj : l[j]? with
      | none => simp [hoj] at hj
      | some oj =>
        simp only [hoi, Option.bind_some] at hi
        simp only [hoj, Option.bind_some] at hj
        exact ((stableB_spec hB hoj).2.2 i oi t hoi hij hi).1 hj

theorem InvS.all_done {listed : Array Bool} {a : Act} {w : World} {vs : Nat → Value} (hB : stableB l = true) (hlen : Rs.length = l.length) (hfin : ∀ w', E w0 w' → FinS Q w' l Rs a0) (h : InvS E l Rs a0 w0 listed a w vs)
    (hall : ∀ i, i < l.length → listed.getD i false = true) : Q .normal a w := by
  have h1 := fin_at l Rs a0 vs (hfin w h.moved) hlen (fun i R hi => h.holds i R (hall i (by rw [← hlen]; exact (List.getElem?_eq_some_iff.1 hi).1)) hi)
  have h2 : a = lexP l vs l.length a0 := h.shape.eq (lexP_sh l (apart_of hB) vs a0 l.length (Nat.le_refl _)) (fun j t hd => by
    have hj : j < l.length := by
      unfold dstAt at hd
      cases ho : l[j]? with
      | none => simp [ho] at hd
      | some o => exact (List.getElem?_eq_some_iff.1 ho).1
    exact ⟨fun _ => hj, fun _ => hall j hj⟩)
  rw [h2]
  exact h1

theorem InvS.ready_nil {listed : Array Bool} {a : Act} {w : World} {vs : Nat → Value} (hB : stableB l = true) (h : InvS E l Rs a0 w0 listed a w vs) (hr : Region.ready .any l.toArray listed = []) : ∀ i, i < l.length → listed.getD i false = true := by
  intro i
  induction i using Nat.strongRecOn with
  | _ i ih =>
    intro hi
    by_cases hu : listed.getD i true = false
    · exfalso
      have hm : i ∈ Region.ready .any l.toArray listed := mem_ready.2 ⟨hu, l[i], by simp [hi], fun e he hb => by
        have := (stableB_spec hB (i := i) (o := l[i]) (by simp [hi])).2.1 e he hb
        exact ih e.on this (by omega)⟩
      rw [hr] at hm
      cases hm
    · exact getD_true_of (by rw [h.size]; exact hi) hu

theorem InvS.agree {listed : Array Bool} {a : Act} {w : World} {vs : Nat → Value} (hB : stableB l = true) (h : InvS E l Rs a0 w0 listed a w vs) {i : Nat} {o : Oper} (ho : l[i]? = some o) (hu : listed.getD i true = false)
    (hall : ∀ e ∈ o.after, Region.binds .any e = true → listed.getD e.on false = true) (t : Tmp) (ht : t ∈ o.looksAt l.toArray) : a.tmps[t]? = (lexP l vs i a0).tmps[t]? := by
  have hi : i < l.length := (List.getElem?_eq_some_iff.1 ho).1
  have hsh := lexP_sh l (apart_of hB) vs a0 i (by omega)
  have hui := getD_false_true hu
  have hspec := (stableB_spec hB ho).2.2
  have key : ∀ j, dstAt l j = some t → (listed.getD j false = true ↔ j < i) := by
    intro j hd
    unfold dstAt at hd
    cases hp : l[j]? with
    | none => simp [hp] at hd
    | some p =>
      simp only [hp, Option.bind_some] at hd
      by_cases hji : j = i
      · subst hji; rw [hui]; simp
      · have h1 := (hspec j p t hp hji hd).2 ht
        by_cases hlt : j < i
        · obtain ⟨e, he, hb, rfl⟩ := h1.1 hlt
          simp [hall e he hb, hlt]
        · obtain ⟨e, he, hb, hon⟩ := h1.2 hlt
          constructor
          · intro hlj
            have := h.closed j p hp hlj e he hb
            rw [hon, hui] at this
            cases this
          · intro hc; exact absurd hc hlt
  by_cases hex : ∃ j, dstAt l j = some t ∧ j < i
  · obtain ⟨j, hd, hlt⟩ := hex
    by_cases hsz : t < a0.tmps.size
    · rw [h.shape.new j t ((key j hd).2 hlt) hd hsz, hsh.new j t hlt hd hsz]
    · rw [Array.getElem?_eq_none (by rw [h.shape.size]; exact Nat.le_of_not_lt hsz), Array.getElem?_eq_none (by rw [hsh.size]; exact Nat.le_of_not_lt hsz)]
  · rw [h.shape.old t (fun j hj hd => hex ⟨j, hd, (key j hd).1 hj⟩), hsh.old t (fun j hj hd => hex ⟨j, hd, hj⟩)]

theorem wpAny_stable (hB : stableB l = true) (hlen : Rs.length = l.length) (htr : ∀ x y z, E x y → E y z → E x z) (hst : ∀ R ∈ Rs, ∀ v x y, R v x → E x y → R v y)
    (hsteps : StepsS E P l.toArray w0 l Rs [] a0) (hfin : ∀ w', E w0 w' → FinS Q w' l Rs a0) :
    ∀ (fuel : Nat) (listed : Array Bool) (a : Act) (w : World) (vs : Nat → Value), listed.toList.count false = fuel → InvS E l Rs a0 w0 listed a w vs → wpAny P .any l.toArray Q fuel listed a w := by
  intro fuel
  induction fuel with
  | zero =>
    intro listed a w vs hc h
    have hall : ∀ i, i < l.length → listed.getD i false = true := by
      intro i hi
      have hi' : i < listed.size := by rw [h.size]; exact hi
      have hnm := List.count_eq_zero.1 hc
      refine getD_true_of hi' fun hu => hnm ?_
      have : listed[i] = false := by simpa [hi'] using hu
      rw [← this]
      simp
    refine ⟨?_, h.all_done hB hlen hfin hall⟩
    apply List.eq_nil_iff_forall_not_mem.2
    intro j hj
    obtain ⟨hu, o, ho, _⟩ := mem_ready.1 hj
    have hjl : j < l.length := by
      have := (Array.getElem?_eq_some_iff.1 ho).1
      simpa using this
    have := hall j hjl
    rw [getD_false_true hu] at this
    cases this
  | succ fuel ih =>
    intro listed a w vs hc h
    refine ⟨fun hr => h.all_done hB hlen hfin (h.ready_nil hB hr), fun i hi => ?_⟩
    obtain ⟨hu, o, ho', hall⟩ := mem_ready.1 hi
    have ho : l[i]? = some o := by simpa using ho'
    have hil : i < l.length := (List.getElem?_eq_some_iff.1 ho).1
    obtain ⟨R, hR⟩ : ∃ R, Rs[i]? = some R := ⟨Rs[i]'(by omega), by simp [show i < Rs.length by omega]⟩
    have hsp := stableB_spec hB ho
    have hd : depFacts ([] ++ zipDone Rs vs i) w o.after.toList := depFacts_of _ fun e he hb x hx => by
      have hz := zipDone_get Rs vs i e.on x (by simpa using hx)
      rw [hz.2]
      exact h.holds e.on x.1 (hall e (by simpa using he) hb) hz.1
    have hw := steps_at i l Rs [] a0 vs o R w hsteps ho hR h.moved hd
    have hag := h.agree hB ho hu hall
    have hdst : dstAt l i = o.dst := by simp [dstAt, ho]
    refine wpOp_of_SQ ho' ?_ (execOp_agree o hsp.1 _ _ hag) (wanted_agree o _ _ hag) hw ?_
    · rw [h.shape.size, (lexP_sh l (apart_of hB) vs a0 i (by omega)).size]
    · intro v w' hE hRv
      have hui := getD_false_true hu
      have hsz : i < listed.size := by rw [h.size]; exact hil
      have hset : ∀ j, (listed.setIfInBounds i true).getD j false = true ↔ listed.getD j false = true ∨ j = i := by
        intro j
        by_cases hij : i = j
        · subst hij; simp [hsz]
        · rw [getD_set_ne false hij]
          constructor
          · exact .inl
          · rintro (h1 | h1)
            · exact h1
            · exact absurd h1.symm hij
      refine ih _ _ _ (fun j => if j = i then v else vs j) ?_ ⟨by simp [h.size], htr _ _ _ h.moved hE, ?_, ?_, ?_⟩
      · have hli : listed.toList[i]'(by simpa using hsz) = false := by
          have : listed[i] = false := by simpa [hsz] using hu
          simpa using this
        rw [Array.toList_setIfInBounds, List.count, List.countP_set (by simpa using hsz)]
        rw [List.count] at hc
        rw [hc, hli, if_pos (by rfl), if_neg (by decide)]
        omega
      · rw [← hdst]
        refine h.shape.put (apart_of hB) i (by rw [hui]; simp) hset v (fun j hj => ?_) (by simp)
        have hji : j ≠ i := fun e => by rw [e, hui] at hj; cases hj
        simp [hji]
      · intro j R' hj hR'
        rcases (hset j).1 hj with hj' | rfl
        · have hji : j ≠ i := fun e => by rw [e, hui] at hj'; cases hj'
          simp only [hji, if_false]
          exact hst R' (List.mem_of_getElem? hR') _ _ _ (h.holds j R' hj' hR') hE
        · rw [hR] at hR'
          obtain rfl := Option.some.inj hR'
          simpa using hRv
      · intro j p hp hj e he hb
        rcases (hset j).1 hj with hj' | rfl
        · exact (hset e.on).2 (.inl (h.closed j p hp hj' e he hb))
        · rw [ho] at hp
          obtain rfl := Option.some.inj hp
          exact (hset e.on).2 (.inl (hall e he hb))

/-- The law: a region that draws its order. -/
theorem wp_region_stable {id : Nat} {w : World} (E : World → World → Prop) (Rs : List (Value → World → Prop)) (hm : P.follows .mixedOrders = true) (hB : stableB l = true) (hlen : Rs.length = l.length)
    (hrefl : ∀ x, E x x) (htr : ∀ x y z, E x y → E y z → E x z) (hst : ∀ R ∈ Rs, ∀ v x y, R v x → E x y → R v y)
    (hsteps : StepsS E P l.toArray { w with drawn := w.drawn + 1 } l Rs [] a0) (hfin : ∀ w', E { w with drawn := w.drawn + 1 } w' → FinS Q w' l Rs a0) : (Code.region id l.toArray true).wp P Q a0 w := by
  refine wp_region_any hm ?_
  refine wpAny_stable hB hlen htr hst hsteps hfin _ _ _ _ (fun _ => undef) (by simp) ⟨by simp, hrefl _, ⟨rfl, rfl, fun _ _ => rfl, fun j t hj => ?_⟩, fun i R hi => ?_, fun j o _ hj => ?_⟩
  · rw [replicate_getD] at hj; cases hj
  · rw [replicate_getD] at hi; cases hi
  · rw [replicate_getD] at hj; cases hj

end

end Go.Proofs.Ytjggiameajndgab

/-
  A region that draws its order, whose last operation waits for all others: these by their posts, the last one by the walk.
-/
namespace Go.Proofs.Ytjggiameajndgab
open Go.RowKit

section
variable {E : World → World → Prop} {P : Program} {Q : Exit → Act → World → Prop} {l : List Oper} {Rs : List (Value → World → Prop)} {a0 : Act} {w0 : World} {z : Oper}

theorem lexP_prefix : ∀ (l : List Oper) (z : Oper) (vs : Nat → Value) (i : Nat) (a : Act), i ≤ l.length → lexP (l ++ [z]) vs i a = lexP l vs i a
  | _, _, _, 0, _, _ => by unfold lexP; split <;> split <;> first | rfl | simp_all
  | [], _, _, i + 1, _, h => by simp at h
  | o :: l, z, vs, i + 1, a, h => by
    show lexP (l ++ [z]) _ i _ = lexP l _ i _
    exact lexP_prefix l z _ i _ (by simpa using h)

/-- The last one waits for all others. -/
def lastB (l : List Oper) (z : Oper) : Bool := (List.range l.length).all fun j => z.after.any fun e => Region.binds .any e && e.on == j

theorem lastB_spec (h : lastB l z = true) {j : Nat} (hj : j < l.length) : ∃ e ∈ z.after, Region.binds .any e = true ∧ e.on = j := by
  unfold lastB at h
  rw [List.all_eq_true] at h
  have := h j (by simpa using hj)
  rw [Array.any_eq_true] at this
  obtain ⟨i, hi, hb⟩ := this
  simp at hb
  exact ⟨z.after[i], by simp, hb.1, hb.2⟩

theorem wpOp_of_last {ops : Array Oper} {i : Nat} {o : Oper} {a : Act} {w : World} {K : Act → World → Prop} (ho : ops[i]? = some o) (h : wpList P ops Q [o] a w) (hK : ∀ a' w', Q .normal a' w' → K a' w') : wpOp P ops Q i K a w := by
  unfold wpOp
  simp only [ho]
  unfold wpList at h
  split
  · rename_i hwt
    rw [if_pos hwt] at h
    rcases h with h | h
    · refine .inl ?_
      unfold Oper.wp at *
      generalize (execOp a.eval o).run P w = r at *
      cases r with
      | ok n w' =>
        cases n <;> simp only [Oper.upon] at h ⊢
        case value u => exact hK _ _ h
        case skip => exact hK _ _ h
        case defer d => exact hK _ _ h
        case enter f args =>
          refine Calls.mono h fun e w'' hh => ?_
          cases e with
          | returned u => exact hK _ _ hh
          | panicked c => exact hh
          | outgrown => exact hh
        case row row args => exact Rows.mono h fun u w'' hh => hK _ _ hh
      | halt x w' =>
        cases x <;> simp only [Oper.upon] at h ⊢
        case panic u => exact h
    · exact .inr h
  · rename_i hwt
    rw [if_neg hwt] at h
    exact hK _ _ h

theorem wpAny_last (hB : stableB (l ++ [z]) = true) (hlen : Rs.length = l.length) (hlast : lastB l z = true) (htr : ∀ x y z, E x y → E y z → E x z) (hst : ∀ R ∈ Rs, ∀ v x y, R v x → E x y → R v y)
    (hsteps : StepsS E P (l ++ [z]).toArray w0 l Rs [] a0) (hfin : ∀ w', E w0 w' → FinS (fun _ a w => wpList P (l ++ [z]).toArray Q [z] a w) w' l Rs a0) :
    ∀ (fuel : Nat) (listed : Array Bool) (a : Act) (w : World) (vs : Nat → Value), listed.toList.count false = fuel + 1 → listed.getD l.length true = false → InvS E (l ++ [z]) Rs a0 w0 listed a w vs → wpAny P .any (l ++ [z]).toArray Q (fuel + 1) listed a w := by
  intro fuel
  induction fuel with
  | zero =>
    intro listed a w vs hc hz h
    have hzl : l.length < listed.size := by rw [h.size]; simp
    have hone : ∀ i, i < l.length → listed.getD i false = true := by
      intro i hi
      have hi' : i < listed.size := by omega
      refine getD_true_of hi' fun hu => ?_
      have h1 : listed[i] = false := by simpa [hi'] using hu
      have h2 : listed[l.length] = false := by simpa [hzl] using hz
      have hset := List.count_set (a := true) (b := false) (i := i) (l := listed.toList) (by simpa using hi')
      have hm : false ∈ listed.toList.set i true := by
        refine List.mem_iff_getElem.2 ⟨l.length, by simpa using hzl, ?_⟩
        rw [List.getElem_set_ne (by omega)]
        simpa using h2
      have hpos := List.count_pos_iff.2 hm
      rw [hset, hc] at hpos
      simp [h1] at hpos
    refine ⟨fun hr => ?_, fun i hi => ?_⟩
    · exfalso
      have := h.ready_nil hB hr l.length (by simp)
      rw [getD_false_true hz] at this
      cases this
    · obtain ⟨hu, o, ho', hall⟩ := mem_ready.1 hi
      have ho : (l ++ [z])[i]? = some o := by simpa using ho'
      have hil : i < (l ++ [z]).length := (List.getElem?_eq_some_iff.1 ho).1
      have hiL : i = l.length := by
        by_cases hiL : i < l.length
        · have := hone i hiL
          rw [getD_false_true hu] at this
          cases this
        · simp at hil
          omega
      subst hiL
      obtain rfl : z = o := by simpa using ho
      have h1 := fin_at l Rs a0 vs (hfin w h.moved) hlen (fun i R hi => h.holds i R (hone i (by rw [← hlen]; exact (List.getElem?_eq_some_iff.1 hi).1)) hi)
      have h2 : a = lexP (l ++ [z]) vs l.length a0 := h.shape.eq (lexP_sh (l ++ [z]) (apart_of hB) vs a0 l.length (by simp)) (fun j t hd => by
        have hj : j < (l ++ [z]).length := by
          unfold dstAt at hd
          cases ho : (l ++ [z])[j]? with
          | none => simp [ho] at hd
          | some o => exact (List.getElem?_eq_some_iff.1 ho).1
        constructor
        · intro hj'
          by_cases hjl : j < l.length
          · exact hjl
          · simp at hj
            have : j = l.length := by omega
            rw [this, getD_false_true hz] at hj'
            cases hj'
        · exact fun hj' => hone j hj')
      rw [lexP_prefix l z vs l.length a0 (Nat.le_refl _)] at h2
      rw [h2]
      refine wpOp_of_last ho' h1 fun a' w' hQ => ⟨?_, hQ⟩
      apply List.eq_nil_iff_forall_not_mem.2
      intro j hj
      obtain ⟨hu', o', ho'', _⟩ := mem_ready.1 hj
      have hjl : j < (l ++ [z]).length := by
        have := (Array.getElem?_eq_some_iff.1 ho'').1
        simpa using this
      by_cases hjL : j = l.length
      · subst hjL
        have := getD_false_true hu'
        simp [hzl] at this
      · simp at hjl
        rw [getD_set_ne true (fun e => hjL e.symm)] at hu'
        have := hone j (by omega)
        rw [getD_false_true hu'] at this
        cases this
  | succ fuel ih =>
    intro listed a w vs hc hz h
    refine ⟨fun hr => ?_, fun i hi => ?_⟩
    · exfalso
      have := h.ready_nil hB hr l.length (by simp)
      rw [getD_false_true hz] at this
      cases this
    obtain ⟨hu, o, ho', hall⟩ := mem_ready.1 hi
    have ho : (l ++ [z])[i]? = some o := by simpa using ho'
    have hil' : i < (l ++ [z]).length := (List.getElem?_eq_some_iff.1 ho).1
    have hil : i < l.length := by
      by_cases hil : i < l.length
      · exact hil
      · exfalso
        have hiL : i = l.length := by simp at hil'; omega
        subst hiL
        obtain rfl : z = o := by simpa using ho
        have hone : ∀ j, j < l.length → listed.getD j false = true := fun j hj => by
          obtain ⟨e, he, hb, rfl⟩ := lastB_spec hlast hj
          exact hall e he hb
        have hzl : l.length < listed.size := by rw [h.size]; simp
        have hls : listed.toList = List.replicate l.length true ++ [false] := by
          refine List.ext_getElem (by simp [h.size]) fun j h1 h2 => ?_
          have h1' : j < listed.size := by simpa using h1
          by_cases hj : j < l.length
          · have := hone j hj
            rw [List.getElem_append_left (by simpa using hj)]
            simpa [h1'] using this
          · have hjl : j = l.length := by rw [h.size] at h1'; simp at h1'; omega
            subst hjl
            rw [List.getElem_append_right (by simp)]
            simpa [hzl] using hz
        rw [hls] at hc
        simp [List.count_replicate] at hc
    have hol : l[i]? = some o := by rw [List.getElem?_append_left hil] at ho; exact ho
    obtain ⟨R, hR⟩ : ∃ R, Rs[i]? = some R := ⟨Rs[i]'(by omega), by simp [show i < Rs.length by omega]⟩
    have hsp := stableB_spec hB ho
    have hd : depFacts ([] ++ zipDone Rs vs i) w o.after.toList := depFacts_of _ fun e he hb x hx => by
      have hz := zipDone_get Rs vs i e.on x (by simpa using hx)
      rw [hz.2]
      exact h.holds e.on x.1 (hall e (by simpa using he) hb) hz.1
    have hw := steps_at i l Rs [] a0 vs o R w hsteps hol hR h.moved hd
    have hag := h.agree hB ho hu hall
    rw [lexP_prefix l z vs i a0 (by omega)] at hag
    have hdst : dstAt (l ++ [z]) i = o.dst := by simp [dstAt, ho]
    refine wpOp_of_SQ ho' ?_ (execOp_agree o hsp.1 _ _ hag) (wanted_agree o _ _ hag) hw ?_
    · rw [h.shape.size, ← lexP_prefix l z vs i a0 (by omega), (lexP_sh (l ++ [z]) (apart_of hB) vs a0 i (by simp; omega)).size]
    · intro v w' hE hRv
      have hui := getD_false_true hu
      have hsz : i < listed.size := by rw [h.size]; exact hil'
      have hset : ∀ j, (listed.setIfInBounds i true).getD j false = true ↔ listed.getD j false = true ∨ j = i := by
        intro j
        by_cases hij : i = j
        · subst hij; simp [hsz]
        · rw [getD_set_ne false hij]
          constructor
          · exact .inl
          · rintro (h1 | h1)
            · exact h1
            · exact absurd h1.symm hij
      refine ih _ _ _ (fun j => if j = i then v else vs j) ?_ ?_ ⟨by simp [h.size], htr _ _ _ h.moved hE, ?_, ?_, ?_⟩
      · have hli : listed.toList[i]'(by simpa using hsz) = false := by
          have : listed[i] = false := by simpa [hsz] using hu
          simpa using this
        rw [Array.toList_setIfInBounds, List.count, List.countP_set (by simpa using hsz)]
        rw [List.count] at hc
        rw [hc, hli, if_pos (by rfl), if_neg (by decide)]
        omega
      · rw [getD_set_ne true (by omega)]
        exact hz
      · rw [← hdst]
        refine h.shape.put (apart_of hB) i (by rw [hui]; simp) hset v (fun j hj => ?_) (by simp)
        have hji : j ≠ i := fun e => by rw [e, hui] at hj; cases hj
        simp [hji]
      · intro j R' hj hR'
        rcases (hset j).1 hj with hj' | rfl
        · have hji : j ≠ i := fun e => by rw [e, hui] at hj'; cases hj'
          simp only [hji, if_false]
          exact hst R' (List.mem_of_getElem? hR') _ _ _ (h.holds j R' hj' hR') hE
        · rw [hR] at hR'
          obtain rfl := Option.some.inj hR'
          simpa using hRv
      · intro j p hp hj e he hb
        rcases (hset j).1 hj with hj' | rfl
        · exact (hset e.on).2 (.inl (h.closed j p hp hj' e he hb))
        · rw [ho] at hp
          obtain rfl := Option.some.inj hp
          exact (hset e.on).2 (.inl (hall e he hb))

/-- The law: a region that draws its order, and ends with one operation that waits for all others. -/
theorem wp_region_last {id : Nat} {w : World} (l : List Oper) (z : Oper) {ops : Array Oper} (hops : ops = (l ++ [z]).toArray) (E : World → World → Prop) (Rs : List (Value → World → Prop)) (hm : P.follows .mixedOrders = true) (hB : stableB (l ++ [z]) = true) (hlast : lastB l z = true) (hlen : Rs.length = l.length)
    (hrefl : ∀ x, E x x) (htr : ∀ x y z, E x y → E y z → E x z) (hst : ∀ R ∈ Rs, ∀ v x y, R v x → E x y → R v y)
    (hsteps : StepsS E P (l ++ [z]).toArray { w with drawn := w.drawn + 1 } l Rs [] a0) (hfin : ∀ w', E { w with drawn := w.drawn + 1 } w' → FinS (fun _ a w => wpList P (l ++ [z]).toArray Q [z] a w) w' l Rs a0) : (Code.region id ops true).wp P Q a0 w := by
  subst hops
  refine wp_region_any hm ?_
  have hsz : (l ++ [z]).toArray.size = l.length + 1 := by simp
  rw [hsz]
  refine wpAny_last hB hlen hlast htr hst hsteps hfin _ _ _ _ (fun _ => undef) (by simp) (by simp) ⟨by simp, hrefl _, ⟨rfl, rfl, fun _ _ => rfl, fun j t hj => ?_⟩, fun i R hi => ?_, fun j o _ hj => ?_⟩
  · rw [replicate_getD] at hj; cases hj
  · rw [replicate_getD] at hi; cases hi
  · rw [replicate_getD] at hj; cases hj

end

end Go.Proofs.Ytjggiameajndgab
