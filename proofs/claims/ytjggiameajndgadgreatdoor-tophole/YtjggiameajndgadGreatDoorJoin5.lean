import Derived.Deep.RegionLaw
import Derived.Test.YtjggiameajndgadGreatDoorJoin4
/-
  What the reference's Bad, Make and Data return. Nothing old turns.
-/
namespace Go.Proofs.YtjggiameajndgadGreatDoor
open Go.RowKit

/-- A number, as it lies. -/
def IntV (_ : World) (v : Value) (x : Int) : Prop := v = .int .i64 x
theorem IntV.stays : Stays IntV := fun _ _ _ _ h _ => h
theorem IntV.off (g : Option Nat) (w : World) (x : Int) : Off IntV g w (.int .i64 x) x := fun _ _ => rfl

theorem Tryz.infoI : (Tryz.prog.info? 3).map (fun i => (i.zero, i.size, i.bytes)) = some (some (.int .i64 0), 1, 8) := by kernel_rfl

/-- Numbers of disks. -/
def ints (l : List Nat) : List Int := l.map fun (n : Nat) => (n : Int)

/-- Bytes in memory of the call's own: readable whatever is written into what was there before. -/
def FreshBs (w : World) (l : List Int) (r : Value) (w' : World) : Prop := NewBs l r w' ∧ ∀ g, (∀ k, g = some k → k < w.heap.size) → Off Bs g w' r l

theorem FreshBs.of_own {w w' : World} {B : Nat} {e : TypeId} {v : Value} {n : Nat} {l : List Int} (h : w'.ownsRow B e 1 v n (l.map (Value.int .u8))) (ho : Octets l) (hn : 0 < n) (hl : l.length = n) (hB : w.heap.size ≤ B) : FreshBs w l v w' := by
  obtain ⟨g, cap, rfl, -, -⟩ := h.form hn
  exact ⟨⟨g, cap, by rw [hl], Bs.of_own h ho⟩, fun g' hg' => Off.own h ho (fun k hk => by have := hg' k hk; omega)⟩

theorem FreshBs.of_row {w w' : World} {e : TypeId} {mk : Nat × Nat} {b : Nat} {l : List Int} (hb : w'.heap[b]? = some (.cells (l.map (Value.int .u8)).toArray e mk)) (hl : l.length = 4) (ho : Octets l) (hB : w.heap.size ≤ b) : FreshBs w l (.slice (some ⟨b, 0, none⟩) 4 4) w' :=
  ⟨⟨b, 4, by rw [hl], (Off.row (g := none) hb hl (by unfold maxLen; omega) ho (by simp)).here⟩, fun g hg => Off.row hb hl (by unfold maxLen; omega) ho (fun e => by have := hg b e; omega)⟩

theorem make_succ (ds : List (List Int)) (s : Int) (k : Nat) : (List.range k).map (fun (d : Nat) => cellOf d s (ds.getD d [])) ++ [cellOf k s (ds.getD k [])] = (List.range (k + 1)).map (fun (d : Nat) => cellOf d s (ds.getD d [])) := by simp [List.range_succ]

end Go.Proofs.YtjggiameajndgadGreatDoor

/-
  What the reference's Data returns. Nothing old turns.
-/
namespace Go.Proofs.YtjggiameajndgadGreatDoor
open Go.RowKit

theorem dat_succ (ls : List (List Int)) (s : Int) (k : Nat) : (List.range k).map (datAt ls s) ++ [datAt ls s k] = (List.range (k + 1)).map (datAt ls s) := by simp [List.range_succ]

end Go.Proofs.YtjggiameajndgadGreatDoor

/-
  What the reference's Read and Blocks return. Nothing old turns.
-/
namespace Go.Proofs.YtjggiameajndgadGreatDoor
open Go.RowKit

/-- A cell of an array, as it lies. -/
theorem ArrG.cell {g : Option Nat} {w : World} {ad : Option Addr} {cd : Nat} {a : ArrP} (hd : Sl (Sl (Off Bs g)) w (.slice ad 4 cd) a.ds) (ha : Whole a) {k s : Nat} (hk : k < 4) (hs : s < 3) :
    ∃ b off c' b' off' u' n' cc', ad = some ⟨b, off, none⟩ ∧ w.cell? ⟨b, off + k, none⟩ = some (.slice (some ⟨b', off', none⟩) 3 c') ∧ w.cell? ⟨b', off' + s, none⟩ = some (.slice u' n' cc') ∧ Off Bs g w (.slice u' n' cc') (cellAt a k s) ∧ 3 ≤ c' := by
  have hk' : k < a.ds.length := by have := ha.1; omega
  obtain ⟨b, off, a', c', e1, e2, e3⟩ := hd.elems hk'
  have h3 : (a.ds.getD k []).length = 3 := ha.2 _ (by simp [List.getD_eq_getElem?_getD, hk'])
  obtain ⟨b', off', u', e4, e5, e6⟩ := e3.elem (k := s) (by omega) []
  obtain ⟨x1, x2, x3, rfl⟩ := e6.here.form
  have h4 : 3 ≤ c' := by
    obtain ⟨_, _, e7, h7, _⟩ := e3
    injection e7 with _ _ e7
    omega
  rw [h3, e4] at e2
  exact ⟨b, off, c', b', off', x1, x2, x3, e1, e2, e5, e6, h4⟩

end Go.Proofs.YtjggiameajndgadGreatDoor

/-
  What the reference's with returns: an array with one cell another one. Nothing old turns.
-/
namespace Go.Proofs.YtjggiameajndgadGreatDoor
open Go.RowKit

theorem Tryz.infoD : (Tryz.prog.info? 28).map (fun i => (i.zero, i.size, i.bytes)) = some (some (.slice none 0 0), 1, 24) := by kernel_rfl

theorem Tryz.sizeA : (Tryz.prog.info? 27).map (·.size) = some 2 := by kernel_rfl

/-- With a cell that is another one. -/
def withL (a : ArrP) (d s : Nat) (l : List Int) : ArrP := { a with ds := a.ds.set d ((a.ds.getD d []).set s l) }

/-- A row keeps what it holds where another block is written. -/
theorem own_set {w : World} {B : Nat} {e : TypeId} {v : Value} {n : Nat} {us : List Value} (h : w.ownsRow B e 1 v n us) {p : Addr} (hp : v.ownBlock ≠ some p.block) (u : Value) : (w.setCell p u).ownsRow B e 1 v n us :=
  h.kept (row := some p.block) ⟨rfl, rfl, rfl, by simp, fun k _ hk => Below.heap_setCell w p u k (fun e => hk (by rw [e]))⟩ (.inr hp)

theorem cell_set_ne {w : World} {p a : Addr} {v : Value} (h : p.block ≠ a.block ∨ p.off ≠ a.off) : (w.setCell p v).cell? a = w.cell? a :=
  World.cell?_setCell_other w p a v (fun e => by rw [e] at h; simp at h)

/-- What is there behind the two writes. -/
theorem with_facts {A g1 g2 d s B1 : Nat} {c1 c3 : Nat} {us us2 : List Value} {W3 w4 : World} {e1 e2 : TypeId} {iv bv : Value}
    (hown3 : W3.ownsRow B1 e1 1 (.slice (some ⟨g1, 0, none⟩) 4 c1) 4 us) (hown4 : w4.ownsRow W3.heap.size e2 1 (.slice (some ⟨g2, 0, none⟩) 3 c3) 3 us2) (hg4 : Grow W3 w4) (hle4 : W3.heap.size ≤ g2)
    (hd : d < 4) (hs : s < 3) (hA : A + 1 < W3.heap.size) (n1 : g1 ≠ A) (n2 : g1 ≠ A + 1)
    (k0 : W3.cell? ⟨A, 0, none⟩ = some (.slice (some ⟨g1, 0, none⟩) 4 c1)) (k1 : W3.cell? ⟨A, 1, none⟩ = some iv) (r0 : W3.cell? ⟨A + 1, 0, none⟩ = some (.slice none 0 0)) (r1 : W3.cell? ⟨A + 1, 1, none⟩ = some (.slice none 0 0)) (fr : ∀ j, W3.frozen? ⟨A + 1, j, none⟩ = false) :
    let w5 := w4.setCell ⟨g1, d, none⟩ (.slice (some ⟨g2, 0, none⟩) 3 c3)
    let w6 := w5.setCell ⟨g2, s, none⟩ bv
    w5.cell? ⟨A, 0, none⟩ = some (.slice (some ⟨g1, 0, none⟩) 4 c1) ∧ w5.cell? ⟨g1, d, none⟩ = some (.slice (some ⟨g2, 0, none⟩) 3 c3) ∧ (∃ x, w5.cell? ⟨g2, s, none⟩ = some x) ∧ w5.frozen? ⟨g2, s, none⟩ = false ∧
      w6.cell? ⟨A, 0, none⟩ = some (.slice (some ⟨g1, 0, none⟩) 4 c1) ∧ w6.cell? ⟨A, 1, none⟩ = some iv ∧ w6.cell? ⟨A + 1, 0, none⟩ = some (.slice none 0 0) ∧ w6.cell? ⟨A + 1, 1, none⟩ = some (.slice none 0 0) ∧ (∀ j, w6.frozen? ⟨A + 1, j, none⟩ = false) ∧
      w6.ownsRow B1 e1 1 (.slice (some ⟨g1, 0, none⟩) 4 c1) 4 (us.set d (.slice (some ⟨g2, 0, none⟩) 3 c3)) ∧ w6.ownsRow W3.heap.size e2 1 (.slice (some ⟨g2, 0, none⟩) 3 c3) 3 (us2.set s bv) := by
  intro w5 w6
  have hg1lt : g1 < W3.heap.size := (hown3.lt g1 rfl).2
  have n3 : g2 ≠ g1 := by omega
  have hw5 := (hown4.kept (w' := w5) (row := some g1) (hown3.stored d (.slice (some ⟨g2, 0, none⟩) 3 c3) |>.2 |> fun _ => ⟨rfl, rfl, rfl, by simp [w5], fun k _ hk => Below.heap_setCell w4 _ _ k (fun e => hk (by rw [e]))⟩) (.inr (by simp [Value.ownBlock]; exact n3)))
  have ho1 := (grow_own hown3 hg4).stored d (.slice (some ⟨g2, 0, none⟩) 3 c3)
  have ho2 := hw5.stored s bv
  have f5 : ∀ {p : Addr} {x : Value}, p.block ≠ g1 → W3.cell? p = some x → w5.cell? p = some x := fun hp hx => by
    show (w4.setCell _ _).cell? _ = _
    rw [cell_set_ne (.inl (fun e => hp e.symm))]; exact hg4.at hx
  have f6 : ∀ {p : Addr} {x : Value}, p.block ≠ g2 → w5.cell? p = some x → w6.cell? p = some x := fun hp hx => by
    show (w5.setCell _ _).cell? _ = _
    rw [cell_set_ne (.inl (fun e => hp e.symm))]; exact hx
  have a0 := f5 (p := ⟨A, 0, none⟩) (fun e => n1 e.symm) k0
  have a1 := f5 (p := ⟨A, 1, none⟩) (fun e => n1 e.symm) k1
  have b0 := f5 (p := ⟨A + 1, 0, none⟩) (fun e => n2 e.symm) r0
  have b1 := f5 (p := ⟨A + 1, 1, none⟩) (fun e => n2 e.symm) r1
  have hl2 : us2.length = 3 := by have := hown4.1; omega
  refine ⟨a0, ?_, ⟨us2[s]'(by omega), ?_⟩, hw5.frozenAt s, f6 (by show A ≠ g2; omega) a0, f6 (by show A ≠ g2; omega) a1, f6 (by show A + 1 ≠ g2; omega) b0, f6 (by show A + 1 ≠ g2; omega) b1, fun j => ?_, ?_, ho2.1⟩
  · have := ho1.1.cellAt d (by omega)
    rw [this]
    have hl1 : us.length = 4 := by have := hown3.1; omega
    simp [show d < us.length by omega]
  · rw [hw5.cellAt s (by omega)]
    simp [show s < us2.length by omega]
  · show (World.setCell _ _ _).frozen? _ = _
    rw [World.frozen?_setCell]
    show (World.setCell _ _ _).frozen? _ = _
    rw [World.frozen?_setCell, hg4.frozen (by show A + 1 < _; omega), fr j]
  · exact own_set ho1.1 (p := ⟨g2, s, none⟩) (by simp [Value.ownBlock]; exact fun e => n3 e.symm) bv

/-- The array that comes of it. -/
theorem with_done {g : Option Nat} {w w7 : World} {a : ArrP} {ni : Nat} {ai : Option Addr} {ci d s g1 g2 c1 c3 B1 B2 : Nat} {e1 e2 : TypeId} {us us2 : List Value} {bv : Value} {l : List Int} (ha : Whole a) (hd4 : d < 4) (hs3 : s < 3)
    (hit : ItsX g w (.slice ai ni ci) a.is) (hb : Off Bs g w bv l) (hg1 : g ≠ some g1) (hg2 : g ≠ some g2) (hG : Grow w w7) (hul : us.length = 4) (hul2 : us2.length = 3)
    (hus : ∀ (i : Nat) u x, us[i]? = some u → a.ds[i]? = some x → BssX g w u x) (hus2 : ∀ (i : Nat) u x, us2[i]? = some u → (a.ds.getD d [])[i]? = some x → Off Bs g w u x)
    (h1 : w7.ownsRow B1 e1 1 (.slice (some ⟨g1, 0, none⟩) 4 c1) 4 (us.set d (.slice (some ⟨g2, 0, none⟩) 3 c3))) (h2 : w7.ownsRow B2 e2 1 (.slice (some ⟨g2, 0, none⟩) 3 c3) 3 (us2.set s bv)) :
    ArrX g w7 (.agg #[.slice (some ⟨g1, 0, none⟩) 4 c1, .slice ai ni ci]) (withL a d s l) := by
  have hdl : d < a.ds.length := by have := ha.1; omega
  have h3 : (a.ds.getD d []).length = 3 := ha.2 _ (by simp [List.getD_eq_getElem?_getD, hdl])
  refine ⟨_, _, rfl, ⟨Sl.of_own h1 (by simp [withL, ha.1]) (fun i u x hu hx => ?_), fun _ b hb => by cases hb; exact hg1⟩, hit.step (hG.by g)⟩
  simp only [withL] at hx
  by_cases hid : i = d
  · subst hid
    simp [show i < us.length by omega] at hu
    rw [List.getElem?_set_self hdl] at hx
    injection hx with hx
    subst hu hx
    refine ⟨Sl.of_own h2 (by rw [List.length_set]; exact h3) (fun j u x hu hx => ?_), fun _ b hb => by cases hb; exact hg2⟩
    by_cases hjs : j = s
    · subst hjs
      simp [show j < us2.length by omega] at hu
      rw [List.getElem?_set_self (by omega)] at hx
      injection hx with hx
      subst hu hx
      exact hb.grow hG
    · rw [List.getElem?_set_ne (fun e => hjs e.symm)] at hu hx
      exact (hus2 j u x hu hx).grow hG
  · rw [List.getElem?_set_ne (fun e => hid e.symm)] at hu hx
    exact BssX.step (hus i u x hu hx) (hG.by g)

theorem withL_whole {a : ArrP} (ha : Whole a) {d s : Nat} (hd : d < 4) (l : List Int) : Whole (withL a d s l) := by
  refine ⟨by simp [withL, ha.1], fun x hx => ?_⟩
  simp only [withL] at hx
  rcases List.mem_or_eq_of_mem_set hx with hx | rfl
  · exact ha.2 x hx
  · rw [List.length_set]
    exact ha.2 _ (by simp [List.getD_eq_getElem?_getD, show d < a.ds.length by have := ha.1; omega])

end Go.Proofs.YtjggiameajndgadGreatDoor

/-
  A region that draws its order, whose last operation waits for all others: these by their posts, the last one by the walk.
-/
namespace Go.Proofs.YtjggiameajndgadGreatDoor
open Go.RowKit

section
variable {E : World → World → Prop} {P : Program} {Q : Exit → Act → World → Prop} {l : List Oper} {Rs : List (Value → World → Prop)} {a0 : Act} {w0 : World} {z : Oper}

theorem lexP_prefix : ∀ (l : List Oper) (z : Oper) (vs : Nat → Value) (i : Nat) (a : Act), i ≤ l.length → lexP (l ++ [z]) vs i a = lexP l vs i a
  | _, _, _, 0, _, _ => by unfold lexP; split <;> split <;> first | rfl | simp_all
  | [], _, _, i + 1, _, h => by simp at h
  | o :: l, z, vs, i + 1, a, h => by
    show lexP (l ++ [z]) _ i _ = lexP l _ i _
    exact lexP_prefix l z _ i _ (by simpa using h)

/-- The last one waits for all others. -/
def lastB (l : List Oper) (z : Oper) : Bool := (List.range l.length).all fun j => z.after.any fun e => Region.binds .any e && e.on == j

theorem lastB_spec (h : lastB l z = true) {j : Nat} (hj : j < l.length) : ∃ e ∈ z.after, Region.binds .any e = true ∧ e.on = j := by
  unfold lastB at h
  rw [List.all_eq_true] at h
  have := h j (by simpa using hj)
  rw [Array.any_eq_true] at this
  obtain ⟨i, hi, hb⟩ := this
  simp at hb
  exact ⟨z.after[i], by simp, hb.1, hb.2⟩

theorem wpOp_of_last {ops : Array Oper} {i : Nat} {o : Oper} {a : Act} {w : World} {K : Act → World → Prop} (ho : ops[i]? = some o) (h : wpList P ops Q [o] a w) (hK : ∀ a' w', Q .normal a' w' → K a' w') : wpOp P ops Q i K a w := by
  unfold wpOp
  simp only [ho]
  unfold wpList at h
  split
  · rename_i hwt
    rw [if_pos hwt] at h
    rcases h with h | h
    · refine .inl ?_
      unfold Oper.wp at *
      generalize (execOp a.eval o).run P w = r at *
      cases r with
      | ok n w' =>
        cases n <;> simp only [Oper.upon] at h ⊢
        case value u => exact hK _ _ h
        case skip => exact hK _ _ h
        case defer d => exact hK _ _ h
        case enter f args =>
          refine Calls.mono h fun e w'' hh => ?_
          cases e with
          | returned u => exact hK _ _ hh
          | panicked c => exact hh
          | outgrown => exact hh
        case row row args => exact Rows.mono h fun u w'' hh => hK _ _ hh
      | halt x w' =>
        cases x <;> simp only [Oper.upon] at h ⊢
        case panic u => exact h
    · exact .inr h
  · rename_i hwt
    rw [if_neg hwt] at h
    exact hK _ _ h

theorem wpAny_last (hB : stableB (l ++ [z]) = true) (hlen : Rs.length = l.length) (hlast : lastB l z = true) (htr : ∀ x y z, E x y → E y z → E x z) (hst : ∀ R ∈ Rs, ∀ v x y, R v x → E x y → R v y)
    (hsteps : StepsS E P (l ++ [z]).toArray w0 l Rs [] a0) (hfin : ∀ w', E w0 w' → FinS (fun _ a w => wpList P (l ++ [z]).toArray Q [z] a w) w' l Rs a0) :
    ∀ (fuel : Nat) (listed : Array Bool) (a : Act) (w : World) (vs : Nat → Value), listed.toList.count false = fuel + 1 → listed.getD l.length true = false → InvS E (l ++ [z]) Rs a0 w0 listed a w vs → wpAny P .any (l ++ [z]).toArray Q (fuel + 1) listed a w := by
  intro fuel
  induction fuel with
  | zero =>
    intro listed a w vs hc hz h
    have hzl : l.length < listed.size := by rw [h.size]; simp
    have hone : ∀ i, i < l.length → listed.getD i false = true := by
      intro i hi
      have hi' : i < listed.size := by omega
      refine getD_true_of hi' fun hu => ?_
      have h1 : listed[i] = false := by simpa [hi'] using hu
      have h2 : listed[l.length] = false := by simpa [hzl] using hz
      have hset := List.count_set (a := true) (b := false) (i := i) (l := listed.toList) (by simpa using hi')
      have hm : false ∈ listed.toList.set i true := by
        refine List.mem_iff_getElem.2 ⟨l.length, by simpa using hzl, ?_⟩
        rw [List.getElem_set_ne (by omega)]
        simpa using h2
      have hpos := List.count_pos_iff.2 hm
      rw [hset, hc] at hpos
      simp [h1] at hpos
    refine ⟨fun hr => ?_, fun i hi => ?_⟩
    · exfalso
      have := h.ready_nil hB hr l.length (by simp)
      rw [getD_false_true hz] at this
      cases this
    · obtain ⟨hu, o, ho', hall⟩ := mem_ready.1 hi
      have ho : (l ++ [z])[i]? = some o := by simpa using ho'
      have hil : i < (l ++ [z]).length := (List.getElem?_eq_some_iff.1 ho).1
      have hiL : i = l.length := by
        by_cases hiL : i < l.length
        · have := hone i hiL
          rw [getD_false_true hu] at this
          cases this
        · simp at hil
          omega
      subst hiL
      obtain rfl : z = o := by simpa using ho
      have h1 := fin_at l Rs a0 vs (hfin w h.moved) hlen (fun i R hi => h.holds i R (hone i (by rw [← hlen]; exact (List.getElem?_eq_some_iff.1 hi).1)) hi)
      have h2 : a = lexP (l ++ [z]) vs l.length a0 := h.shape.eq (lexP_sh (l ++ [z]) (apart_of hB) vs a0 l.length (by simp)) (fun j t hd => by
        have hj : j < (l ++ [z]).length := by
          unfold dstAt at hd
          cases ho : (l ++ [z])[j]? with
          | none => simp [ho] at hd
          | some o => exact (List.getElem?_eq_some_iff.1 ho).1
        constructor
        · intro hj'
          by_cases hjl : j < l.length
          · exact hjl
          · simp at hj
            have : j = l.length := by omega
            rw [this, getD_false_true hz] at hj'
            cases hj'
        · exact fun hj' => hone j hj')
      rw [lexP_prefix l z vs l.length a0 (Nat.le_refl _)] at h2
      rw [h2]
      refine wpOp_of_last ho' h1 fun a' w' hQ => ⟨?_, hQ⟩
      apply List.eq_nil_iff_forall_not_mem.2
      intro j hj
      obtain ⟨hu', o', ho'', _⟩ := mem_ready.1 hj
      have hjl : j < (l ++ [z]).length := by
        have := (Array.getElem?_eq_some_iff.1 ho'').1
        simpa using this
      by_cases hjL : j = l.length
      · subst hjL
        have := getD_false_true hu'
        simp [hzl] at this
      · simp at hjl
        rw [getD_set_ne true (fun e => hjL e.symm)] at hu'
        have := hone j (by omega)
        rw [getD_false_true hu'] at this
        cases this
  | succ fuel ih =>
    intro listed a w vs hc hz h
    refine ⟨fun hr => ?_, fun i hi => ?_⟩
    · exfalso
      have := h.ready_nil hB hr l.length (by simp)
      rw [getD_false_true hz] at this
      cases this
    obtain ⟨hu, o, ho', hall⟩ := mem_ready.1 hi
    have ho : (l ++ [z])[i]? = some o := by simpa using ho'
    have hil' : i < (l ++ [z]).length := (List.getElem?_eq_some_iff.1 ho).1
    have hil : i < l.length := by
      by_cases hil : i < l.length
      · exact hil
      · exfalso
        have hiL : i = l.length := by simp at hil'; omega
        subst hiL
        obtain rfl : z = o := by simpa using ho
        have hone : ∀ j, j < l.length → listed.getD j false = true := fun j hj => by
          obtain ⟨e, he, hb, rfl⟩ := lastB_spec hlast hj
          exact hall e he hb
        have hzl : l.length < listed.size := by rw [h.size]; simp
        have hls : listed.toList = List.replicate l.length true ++ [false] := by
          refine List.ext_getElem (by simp [h.size]) fun j h1 h2 => ?_
          have h1' : j < listed.size := by simpa using h1
          by_cases hj : j < l.length
          · have := hone j hj
            rw [List.getElem_append_left (by simpa using hj)]
            simpa [h1'] using this
          · have hjl : j = l.length := by rw [h.size] at h1'; simp at h1'; omega
            subst hjl
            rw [List.getElem_append_right (by simp)]
            simpa [hzl] using hz
        rw [hls] at hc
        simp [List.count_replicate] at hc
    have hol : l[i]? = some o := by rw [List.getElem?_append_left hil] at ho; exact ho
    obtain ⟨R, hR⟩ : ∃ R, Rs[i]? = some R := ⟨Rs[i]'(by omega), by simp [show i < Rs.length by omega]⟩
    have hsp := stableB_spec hB ho
    have hd : depFacts ([] ++ zipDone Rs vs i) w o.after.toList := depFacts_of _ fun e he hb x hx => by
      have hz := zipDone_get Rs vs i e.on x (by simpa using hx)
      rw [hz.2]
      exact h.holds e.on x.1 (hall e (by simpa using he) hb) hz.1
    have hw := steps_at i l Rs [] a0 vs o R w hsteps hol hR h.moved hd
    have hag := h.agree hB ho hu hall
    rw [lexP_prefix l z vs i a0 (by omega)] at hag
    have hdst : dstAt (l ++ [z]) i = o.dst := by simp [dstAt, ho]
    refine wpOp_of_SQ ho' ?_ (execOp_agree o hsp.1 _ _ hag) (wanted_agree o _ _ hag) hw ?_
    · rw [h.shape.size, ← lexP_prefix l z vs i a0 (by omega), (lexP_sh (l ++ [z]) (apart_of hB) vs a0 i (by simp; omega)).size]
    · intro v w' hE hRv
      have hui := getD_false_true hu
      have hsz : i < listed.size := by rw [h.size]; exact hil'
      have hset : ∀ j, (listed.setIfInBounds i true).getD j false = true ↔ listed.getD j false = true ∨ j = i := by
        intro j
        by_cases hij : i = j
        · subst hij; simp [hsz]
        · rw [getD_set_ne false hij]
          constructor
          · exact .inl
          · rintro (h1 | h1)
            · exact h1
            · exact absurd h1.symm hij
      refine ih _ _ _ (fun j => if j = i then v else vs j) ?_ ?_ ⟨by simp [h.size], htr _ _ _ h.moved hE, ?_, ?_, ?_⟩
      · have hli : listed.toList[i]'(by simpa using hsz) = false := by
          have : listed[i] = false := by simpa [hsz] using hu
          simpa using this
        rw [Array.toList_setIfInBounds, List.count, List.countP_set (by simpa using hsz)]
        rw [List.count] at hc
        rw [hc, hli, if_pos (by rfl), if_neg (by decide)]
        omega
      · rw [getD_set_ne true (by omega)]
        exact hz
      · rw [← hdst]
        refine h.shape.put (apart_of hB) i (by rw [hui]; simp) hset v (fun j hj => ?_) (by simp)
        have hji : j ≠ i := fun e => by rw [e, hui] at hj; cases hj
        simp [hji]
      · intro j R' hj hR'
        rcases (hset j).1 hj with hj' | rfl
        · have hji : j ≠ i := fun e => by rw [e, hui] at hj'; cases hj'
          simp only [hji, if_false]
          exact hst R' (List.mem_of_getElem? hR') _ _ _ (h.holds j R' hj' hR') hE
        · rw [hR] at hR'
          obtain rfl := Option.some.inj hR'
          simpa using hRv
      · intro j p hp hj e he hb
        rcases (hset j).1 hj with hj' | rfl
        · exact (hset e.on).2 (.inl (h.closed j p hp hj' e he hb))
        · rw [ho] at hp
          obtain rfl := Option.some.inj hp
          exact (hset e.on).2 (.inl (hall e he hb))

/-- The law: a region that draws its order, and ends with one operation that waits for all others. -/
theorem wp_region_last {id : Nat} {w : World} (l : List Oper) (z : Oper) {ops : Array Oper} (hops : ops = (l ++ [z]).toArray) (E : World → World → Prop) (Rs : List (Value → World → Prop)) (hm : P.follows .mixedOrders = true) (hB : stableB (l ++ [z]) = true) (hlast : lastB l z = true) (hlen : Rs.length = l.length)
    (hrefl : ∀ x, E x x) (htr : ∀ x y z, E x y → E y z → E x z) (hst : ∀ R ∈ Rs, ∀ v x y, R v x → E x y → R v y)
    (hsteps : StepsS E P (l ++ [z]).toArray { w with drawn := w.drawn + 1 } l Rs [] a0) (hfin : ∀ w', E { w with drawn := w.drawn + 1 } w' → FinS (fun _ a w => wpList P (l ++ [z]).toArray Q [z] a w) w' l Rs a0) : (Code.region id ops true).wp P Q a0 w := by
  subst hops
  refine wp_region_any hm ?_
  have hsz : (l ++ [z]).toArray.size = l.length + 1 := by simp
  rw [hsz]
  refine wpAny_last hB hlen hlast htr hst hsteps hfin _ _ _ _ (fun _ => undef) (by simp) (by simp) ⟨by simp, hrefl _, ⟨rfl, rfl, fun _ _ => rfl, fun j t hj => ?_⟩, fun i R hi => ?_, fun j o _ hj => ?_⟩
  · rw [replicate_getD] at hj; cases hj
  · rw [replicate_getD] at hi; cases hi
  · rw [replicate_getD] at hj; cases hj

end

end Go.Proofs.YtjggiameajndgadGreatDoor

/-
  What the reference's Write returns: an array behind so many writes. Nothing old turns.
-/
namespace Go.Proofs.YtjggiameajndgadGreatDoor
open Go.RowKit

/-- One write. -/
def wstep (a : ArrP) (i : Int × List (List Int)) (k : Nat) : ArrP :=
  if k = 1 then { a with is := [i] } else if k < 6 then withL a (k - 2) i.1.toNat (i.2.getD (k - 2) []) else { a with is := [] }

/-- The first n writes. -/
def writeTo (a : ArrP) (i : Int × List (List Int)) : Nat → ArrP
  | 0 => a
  | n + 1 => wstep (writeTo a i n) i (n + 1)

/-- How many they are. -/
def many6 (n : Int) : Nat := (min n 6).toNat

def writeL (a : ArrP) (i : Int × List (List Int)) (n : Int) : ArrP := writeTo a i (many6 n)

theorem wstep_whole {a : ArrP} (ha : Whole a) (i : Int × List (List Int)) (k : Nat) : Whole (wstep a i k) := by
  unfold wstep
  split
  · exact ha
  · split
    · exact withL_whole ha (by omega) _
    · exact ha

theorem writeTo_whole {a : ArrP} (ha : Whole a) (i : Int × List (List Int)) : ∀ n, Whole (writeTo a i n)
  | 0 => ha
  | n + 1 => wstep_whole (writeTo_whole ha i n) i (n + 1)

theorem many6_le (n : Int) : many6 n ≤ 6 := by unfold many6; omega
theorem many6_iff {n : Int} {k : Nat} (hk : 1 ≤ k) : k ≤ many6 n ↔ (k : Int) ≤ n ∧ k ≤ 6 := by unfold many6; omega

/-- An intent, as it lies. -/
def IntentV (w : World) (v : Value) (i : Int × List (List Int)) : Prop := ∃ cv, v = .agg #[.int .i64 i.1, cv] ∧ Bss w cv i.2
theorem IntentV.grow {w w' : World} {v : Value} {i : Int × List (List Int)} (h : IntentV w v i) (hg : Grow w w') : IntentV w' v i := by
  obtain ⟨cv, hv, hb⟩ := h
  exact ⟨cv, hv, hb.grow hg⟩

theorem ItsX.one {g : Option Nat} {w : World} {b s : Nat} {cv : Value} {ls : List (List Int)} (h0 : w.cell? ⟨b, 0, none⟩ = some (.int .i64 s)) (h1 : w.cell? ⟨b, 1, none⟩ = some cv) (h : BssX g w cv ls) (hg : g ≠ some b) : ItsX g w (.slice (some ⟨b, 0, none⟩) 1 1) [((s : Int), ls)] := by
  refine ⟨⟨some ⟨b, 0, none⟩, 1, rfl, Nat.le_refl _, by unfold maxLen; omega, (fun h => nomatch h), fun _ => ⟨b, 0, rfl, fun i p hi => ?_⟩⟩, fun _ b' hb' => by cases hb'; exact hg⟩
  match i, hi with
  | 0, hi =>
    simp at hi
    subst hi
    exact ⟨h0, cv, h1, h⟩

theorem two_set0 {w : World} {A : Nat} {x y z : Value} {t : TypeId} (h : w.heap[A]? = some (.cells #[x, y] t (0, 0))) : (w.setCell ⟨A, 0, none⟩ z).heap[A]? = some (.cells #[z, y] t (0, 0)) := by
  rw [heap_setCell_same w A 0 _ _ _ h]; rfl
theorem two_set1 {w : World} {A : Nat} {x y z : Value} {t : TypeId} (h : w.heap[A]? = some (.cells #[x, y] t (0, 0))) : (w.setCell ⟨A, 1, none⟩ z).heap[A]? = some (.cells #[x, z] t (0, 0)) := by
  rw [heap_setCell_same w A 1 _ _ _ h]; rfl
theorem two_at0 {w : World} {A : Nat} {x y : Value} {t : TypeId} (h : w.heap[A]? = some (.cells #[x, y] t (0, 0))) : w.cell? ⟨A, 0, none⟩ = some x := by rw [cell_of_row w A 0 _ _ _ h]; rfl
theorem two_at1 {w : World} {A : Nat} {x y : Value} {t : TypeId} (h : w.heap[A]? = some (.cells #[x, y] t (0, 0))) : w.cell? ⟨A, 1, none⟩ = some y := by rw [cell_of_row w A 1 _ _ _ h]; rfl

theorem Grow.block' {w w' : World} (hg : Grow w w') {A : Nat} {o : Obj} (h : w.heap[A]? = some o) : w'.heap[A]? = some o := by
  have hlt : A < w.heap.size := by
    by_cases hlt : A < w.heap.size
    · exact hlt
    · rw [Array.getElem?_eq_none (Nat.le_of_not_lt hlt)] at h; cases h
  exact (hg.block A hlt).trans h

theorem by_set (w : World) (A k : Nat) (u : Value) : w.grownBy (w.setCell ⟨A, k, none⟩ u) (some A) := ⟨rfl, rfl, rfl, by simp, fun j _ hj => Below.heap_setCell w _ _ j (fun e => hj (by rw [e]))⟩

/-- An array in whatever memory but g. -/
def NewArr (g : Option Nat) (a : ArrP) (v : Value) (w : World) : Prop := ArrX g w v a
theorem NewArr.stable {g : Option Nat} (a : ArrP) : ∀ (v : Value) (x y : World), NewArr g a v x → Grow x y → NewArr g a v y := fun _ _ _ h hg => ArrX.grow h hg

/-- Nothing of an array lies in two cells that hold no slice: its rows have more cells than two, or numbers in them. -/
def Small (R : Nat) (w : World) : Prop := ∃ t fr, w.heap[R]? = some (.cells #[.slice none 0 0, .slice none 0 0] t fr)

theorem Small.cell {R : Nat} {w : World} (h : Small R w) {off : Nat} {u : Value} (hu : w.cell? ⟨R, off, none⟩ = some u) : off < 2 ∧ u = .slice none 0 0 := by
  obtain ⟨t, fr, h⟩ := h
  rw [cell_of_row w R off _ _ _ h] at hu
  match off, hu with
  | 0, hu => simp at hu; exact ⟨by omega, hu.symm⟩
  | 1, hu => simp at hu; exact ⟨by omega, hu.symm⟩
  | n + 2, hu => simp at hu

theorem Small.bytes {R : Nat} {w : World} (h : Small R w) {u : Value} {l : List Int} (hb : Bs w u l) : Off Bs (some R) w u l := fun w' hg => by
  obtain ⟨ao, cap, hv, h1, h2, h3, h4, h5⟩ := hb
  refine ⟨ao, cap, hv, h1, h2, h3, h4, fun hp => ?_⟩
  obtain ⟨b, off, e, hc⟩ := h5 hp
  refine ⟨b, off, e, fun i hi => hg.cell (hc i hi) (fun e => ?_)⟩
  simp only [Option.some.injEq] at e
  subst e
  have := (h.cell (hc i hi)).2
  cases this

theorem Small.row {α : Type} {R : Nat} {Q : World → Value → α → Prop} {w : World} (h : Small R w) {v : Value} {xs : List α} (hs : Sl Q w v xs) (hl : 3 ≤ xs.length) : RowOff (some R) v xs.length := fun hp b hb e => by
  obtain ⟨ao, cap, rfl, h1, h2, h3, h4⟩ := hs
  obtain ⟨b', off, rfl, hc⟩ := h4 hp
  simp only [Value.ownBlock, Option.some.injEq] at hb e
  subst hb e
  obtain ⟨u, hu, _⟩ := hc 2 (xs[2]) (by simp [show 2 < xs.length by omega])
  have := (h.cell hu).1
  omega

theorem Small.bss {R : Nat} {w : World} (h : Small R w) {v : Value} {ls : List (List Int)} (hs : Bss w v ls) (hl : 3 ≤ ls.length) : BssX (some R) w v ls := ⟨Sl.lift (fun _ _ hb => h.bytes hb) hs (Grow.refl _), h.row hs hl⟩

theorem Small.arr {R : Nat} {w : World} (h : Small R w) {v : Value} {b : ArrP} (hv : ArrV w v b) (hw : Whole b) (hi : ∀ p ∈ b.is, p.2.length = 4) : ArrX (some R) w v b := by
  obtain ⟨dv, iv, e, h1, h2⟩ := hv
  refine ⟨dv, iv, e, ⟨?_, h.row h1 (by have := hw.1; omega)⟩, ?_, ?_⟩
  · obtain ⟨ao, cap, hv, k1, k2, k3, k4⟩ := h1
    refine ⟨ao, cap, hv, k1, k2, k3, fun hp => ?_⟩
    obtain ⟨b', off, e, hc⟩ := k4 hp
    refine ⟨b', off, e, fun i x hx => ?_⟩
    obtain ⟨u, hu, hr⟩ := hc i x hx
    exact ⟨u, hu, h.bss hr (by rw [hw.2 x (List.mem_of_getElem? hx)]; omega)⟩
  · obtain ⟨ao, cap, hv, k1, k2, k3, k4⟩ := h2
    refine ⟨ao, cap, hv, k1, k2, k3, fun hp => ?_⟩
    obtain ⟨b', off, e, hc⟩ := k4 hp
    refine ⟨b', off, e, fun i p hx => ?_⟩
    obtain ⟨h6, cv, h7, h8⟩ := hc i p hx
    exact ⟨h6, cv, h7, h.bss h8 (by rw [hi p (List.mem_of_getElem? hx)]; omega)⟩
  · intro hp b' hb e9
    obtain ⟨ao, cap, rfl, k1, k2, k3, k4⟩ := h2
    obtain ⟨b'', off, rfl, hc⟩ := k4 hp
    simp only [Value.ownBlock, Option.some.injEq] at hb
    injection e9 with e9
    subst hb e9
    have := (h.cell (hc 0 (b.is[0]) (by simp [hp])).1).2
    cases this

theorem wstep_is {a : ArrP} {i : Int × List (List Int)} {k : Nat} (h : ∀ p ∈ a.is, p.2.length = 4) (hi : i.2.length = 4) : ∀ p ∈ (wstep a i k).is, p.2.length = 4 := by
  unfold wstep
  split
  · intro p hp; simp at hp; rw [hp]; exact hi
  · split
    · exact h
    · intro p hp; simp at hp

theorem writeTo_is {a : ArrP} {i : Int × List (List Int)} (h : ∀ p ∈ a.is, p.2.length = 4) (hi : i.2.length = 4) : ∀ n, ∀ p ∈ (writeTo a i n).is, p.2.length = 4
  | 0 => h
  | n + 1 => wstep_is (writeTo_is h hi n) hi

/-- What the loop keeps. -/
def WInv (w : World) (s : Nat) (cv x y : Value) (b : ArrP) (wr : World) : Prop :=
  Hid (wr.heap[w.heap.size]? = some (.cells #[x, y] 27 (0, 0)) ∧ wr.heap[w.heap.size + 1]? = some (.cells #[.int .i64 s, cv] 78 (0, 0)) ∧ wr.heap[w.heap.size + 1 + 1]? = some (.cells #[.slice none 0 0, .slice none 0 0] 27 (0, 0))) ∧
    Hid (ArrX (some w.heap.size) wr (.agg #[x, y]) b) ∧ Grow w wr

theorem set_other {w : World} {A k j : Nat} {u : Value} {o : Option Obj} (h : w.heap[j]? = o) (hne : j ≠ A) : (w.setCell ⟨A, k, none⟩ u).heap[j]? = o := by
  rw [Below.heap_setCell w _ _ j (show j ≠ A from hne), h]

theorem w_first {w wr : World} {s : Nat} {cv x y : Value} {a : ArrP} {cs : List (List Int)} (hcv : Bss w cv cs)
    (hR : wr.heap[w.heap.size]? = some (.cells #[x, y] 27 (0, 0)) ∧ wr.heap[w.heap.size + 1]? = some (.cells #[.int .i64 s, cv] 78 (0, 0)) ∧ wr.heap[w.heap.size + 1 + 1]? = some (.cells #[.slice none 0 0, .slice none 0 0] 27 (0, 0)))
    (hX : ArrX (some w.heap.size) wr (.agg #[x, y]) (writeTo a ((s : Int), cs) 0)) (hgr : Grow w wr) (hlt : w.heap.size < wr.heap.size) :
    WInv w s cv x (.slice (some ⟨wr.heap.size, 0, none⟩) 1 1) (writeTo a ((s : Int), cs) 1) ((wr.alloc (.cells #[.int .i64 s, cv] 78)).setCell ⟨w.heap.size, 1, none⟩ (.slice (some ⟨wr.heap.size, 0, none⟩) 1 1)) := by
  have gE : Grow wr (wr.alloc (.cells #[.int .i64 s, cv] 78)) := Grow.alloc _ _
  have hb := heap_alloc_new wr (.cells #[.int .i64 s, cv] 78)
  have hset := by_set (wr.alloc (.cells #[.int .i64 s, cv] 78)) w.heap.size 1 (.slice (some ⟨wr.heap.size, 0, none⟩) 1 1)
  have hb' := set_other (A := w.heap.size) (k := 1) (u := .slice (some ⟨wr.heap.size, 0, none⟩) 1 1) hb (by omega)
  refine ⟨⟨two_set1 (gE.block' hR.1), set_other (gE.block' hR.2.1) (by omega), set_other (gE.block' hR.2.2) (by omega)⟩, ?_, (hgr.trans gE).set (Nat.le_refl _) _⟩
  obtain ⟨dv, iv, e, h1, h2⟩ := hX
  simp only [Value.agg.injEq] at e
  have e := congrArg Array.toList e
  simp at e
  refine ⟨x, _, rfl, ?_, ItsX.one (two_at0 hb') (two_at1 hb') (BssX.step (BssX.old hcv (hgr.trans gE) (fun k hk => by cases hk; exact Nat.le_refl _)) hset) (fun e => by injection e; omega)⟩
  rw [e.1]
  exact DksX.step (DksX.step h1 (gE.by _)) hset

theorem w_last {w wr : World} {s : Nat} {cv x y : Value} {a : ArrP} {cs : List (List Int)}
    (hR : wr.heap[w.heap.size]? = some (.cells #[x, y] 27 (0, 0)) ∧ wr.heap[w.heap.size + 1]? = some (.cells #[.int .i64 s, cv] 78 (0, 0)) ∧ wr.heap[w.heap.size + 1 + 1]? = some (.cells #[.slice none 0 0, .slice none 0 0] 27 (0, 0)))
    (hX : ArrX (some w.heap.size) wr (.agg #[x, y]) (writeTo a ((s : Int), cs) 5)) (hgr : Grow w wr) :
    WInv w s cv x (.slice none 0 0) (writeTo a ((s : Int), cs) 6) (wr.setCell ⟨w.heap.size, 1, none⟩ (.slice none 0 0)) := by
  have hset := by_set wr w.heap.size 1 (.slice none 0 0)
  refine ⟨⟨two_set1 hR.1, set_other hR.2.1 (by omega), set_other hR.2.2 (by omega)⟩, ?_, hgr.set (Nat.le_refl _) _⟩
  obtain ⟨dv, iv, e, h1, h2⟩ := hX
  simp only [Value.agg.injEq] at e
  have e := congrArg Array.toList e
  simp at e
  refine ⟨x, _, rfl, ?_, ItsX.nil _ _⟩
  rw [e.1]
  exact DksX.step h1 hset

theorem w_mid {w wr wR : World} {s : Nat} {cv x y x' y' : Value} {b : ArrP}
    (hR : wr.heap[w.heap.size]? = some (.cells #[x, y] 27 (0, 0)) ∧ wr.heap[w.heap.size + 1]? = some (.cells #[.int .i64 s, cv] 78 (0, 0)) ∧ wr.heap[w.heap.size + 1 + 1]? = some (.cells #[.slice none 0 0, .slice none 0 0] 27 (0, 0)))
    (hX : ArrX (some w.heap.size) wR (.agg #[x', y']) b) (hgr : Grow w wr) (hg : Grow wr wR) :
    WInv w s cv x' y' b ((wR.setCell ⟨w.heap.size, 0, none⟩ x').setCell ⟨w.heap.size, 1, none⟩ y') :=
  ⟨⟨two_set1 (two_set0 (hg.block' hR.1)), set_other (set_other (hg.block' hR.2.1) (by omega)) (by omega), set_other (set_other (hg.block' hR.2.2) (by omega)) (by omega)⟩,
    (hX.step (by_set wR _ 0 x')).step (by_set _ _ 1 y'), ((hgr.trans hg).set (Nat.le_refl _) _).set (Nat.le_refl _) _⟩

theorem w_end {w wr : World} {s : Nat} {cv x y : Value} {b : ArrP}
    (hR : wr.heap[w.heap.size]? = some (.cells #[x, y] 27 (0, 0)) ∧ wr.heap[w.heap.size + 1]? = some (.cells #[.int .i64 s, cv] 78 (0, 0)) ∧ wr.heap[w.heap.size + 1 + 1]? = some (.cells #[.slice none 0 0, .slice none 0 0] 27 (0, 0)))
    (hX : ArrX (some (w.heap.size + 1 + 1)) wr (.agg #[x, y]) b) (hgr : Grow w wr) :
    ArrV ((wr.setCell ⟨w.heap.size + 1 + 1, 0, none⟩ x).setCell ⟨w.heap.size + 1 + 1, 1, none⟩ y) (.agg #[x, y]) b ∧ Grow w ((wr.setCell ⟨w.heap.size + 1 + 1, 0, none⟩ x).setCell ⟨w.heap.size + 1 + 1, 1, none⟩ y) ∧
      ((wr.setCell ⟨w.heap.size + 1 + 1, 0, none⟩ x).setCell ⟨w.heap.size + 1 + 1, 1, none⟩ y).cell? ⟨w.heap.size + 1 + 1, 0, none⟩ = some x ∧ ((wr.setCell ⟨w.heap.size + 1 + 1, 0, none⟩ x).setCell ⟨w.heap.size + 1 + 1, 1, none⟩ y).cell? ⟨w.heap.size + 1 + 1, 1, none⟩ = some y := by
  have hb := two_set1 (z := y) (two_set0 (z := x) hR.2.2)
  exact ⟨((hX.step (by_set wr _ 0 x)).step (by_set _ _ 1 y)).plain, (hgr.set (by omega) _).set (by omega) _, two_at0 hb, two_at1 hb⟩

end Go.Proofs.YtjggiameajndgadGreatDoor

/-
  What the reference's Gone returns: an array with a disk that has nothing. Nothing old turns.
-/
namespace Go.Proofs.YtjggiameajndgadGreatDoor
open Go.RowKit

/-- Two cells that are slices: nothing of an array lies there. -/
def Two (R : Nat) (w : World) : Prop := ∃ a b c a' b' c' t, w.heap[R]? = some (.cells #[.slice a b c, .slice a' b' c'] t (0, 0))

theorem Two.cell {R : Nat} {w : World} (h : Two R w) {off : Nat} {u : Value} (hu : w.cell? ⟨R, off, none⟩ = some u) : off < 2 ∧ ∃ a b c, u = .slice a b c := by
  obtain ⟨a, b, c, a', b', c', t, h⟩ := h
  rw [cell_of_row w R off _ _ _ h] at hu
  match off, hu with
  | 0, hu => simp at hu; exact ⟨by omega, _, _, _, hu.symm⟩
  | 1, hu => simp at hu; exact ⟨by omega, _, _, _, hu.symm⟩
  | n + 2, hu => simp at hu

theorem Two.bytes {R : Nat} {w : World} (h : Two R w) {u : Value} {l : List Int} (hb : Bs w u l) : Off Bs (some R) w u l := fun w' hg => by
  obtain ⟨ao, cap, hv, h1, h2, h3, h4, h5⟩ := hb
  refine ⟨ao, cap, hv, h1, h2, h3, h4, fun hp => ?_⟩
  obtain ⟨b, off, e, hc⟩ := h5 hp
  refine ⟨b, off, e, fun i hi => hg.cell (hc i hi) (fun e => ?_)⟩
  simp only [Option.some.injEq] at e
  subst e
  obtain ⟨_, _, _, this⟩ := (h.cell (hc i hi)).2
  cases this

theorem Two.row {α : Type} {R : Nat} {Q : World → Value → α → Prop} {w : World} (h : Two R w) {v : Value} {xs : List α} (hs : Sl Q w v xs) (hl : 3 ≤ xs.length) : RowOff (some R) v xs.length := fun hp b hb e => by
  obtain ⟨ao, cap, rfl, h1, h2, h3, h4⟩ := hs
  obtain ⟨b', off, rfl, hc⟩ := h4 hp
  simp only [Value.ownBlock, Option.some.injEq] at hb e
  subst hb e
  obtain ⟨u, hu, _⟩ := hc 2 (xs[2]) (by simp [show 2 < xs.length by omega])
  have := (h.cell hu).1
  omega

theorem Two.bss {R : Nat} {w : World} (h : Two R w) {v : Value} {ls : List (List Int)} (hs : Bss w v ls) (hl : 3 ≤ ls.length) : BssX (some R) w v ls := ⟨Sl.lift (fun _ _ hb => h.bytes hb) hs (Grow.refl _), h.row hs hl⟩

/-- Intents of four cells each. -/
def Fours (a : ArrP) : Prop := ∀ p ∈ a.is, p.2.length = 4

theorem Two.arr {R : Nat} {w : World} (h : Two R w) {v : Value} {b : ArrP} (hv : ArrV w v b) (hw : Whole b) (hi : Fours b) : ArrX (some R) w v b := by
  obtain ⟨dv, iv, e, h1, h2⟩ := hv
  refine ⟨dv, iv, e, ⟨?_, h.row h1 (by have := hw.1; omega)⟩, ?_, ?_⟩
  · obtain ⟨ao, cap, hv, k1, k2, k3, k4⟩ := h1
    refine ⟨ao, cap, hv, k1, k2, k3, fun hp => ?_⟩
    obtain ⟨b', off, e, hc⟩ := k4 hp
    refine ⟨b', off, e, fun i x hx => ?_⟩
    obtain ⟨u, hu, hr⟩ := hc i x hx
    exact ⟨u, hu, h.bss hr (by rw [hw.2 x (List.mem_of_getElem? hx)]; omega)⟩
  · obtain ⟨ao, cap, hv, k1, k2, k3, k4⟩ := h2
    refine ⟨ao, cap, hv, k1, k2, k3, fun hp => ?_⟩
    obtain ⟨b', off, e, hc⟩ := k4 hp
    refine ⟨b', off, e, fun i p hx => ?_⟩
    obtain ⟨h6, cv, h7, h8⟩ := hc i p hx
    exact ⟨h6, cv, h7, h.bss h8 (by rw [hi p (List.mem_of_getElem? hx)]; omega)⟩
  · intro hp b' hb e9
    obtain ⟨ao, cap, rfl, k1, k2, k3, k4⟩ := h2
    obtain ⟨b'', off, rfl, hc⟩ := k4 hp
    simp only [Value.ownBlock, Option.some.injEq] at hb
    injection e9 with e9
    subst hb e9
    obtain ⟨_, _, _, this⟩ := (h.cell (hc 0 (b.is[0]) (by simp [hp])).1).2
    cases this

/-- An array, stored into such two cells, or while they are written: it is what it was. -/
theorem Two.store {R : Nat} {w : World} (h : Two R w) {v : Value} {b : ArrP} (hv : ArrV w v b) (hw : Whole b) (hi : Fours b) (x y : Value) : ArrV ((w.setCell ⟨R, 0, none⟩ x).setCell ⟨R, 1, none⟩ y) v b :=
  (((h.arr hv hw hi).step (by_set w R 0 x)).step (by_set _ R 1 y)).plain

/-- What an array's value looks like. -/
theorem ArrV.form {w : World} {v : Value} {a : ArrP} (h : ArrV w v a) : ∃ a1 n1 c1 a2 n2 c2, v = .agg #[.slice a1 n1 c1, .slice a2 n2 c2] := by
  obtain ⟨dv, iv, rfl, h1, h2⟩ := h
  obtain ⟨p1, p2, rfl⟩ := h1.form
  obtain ⟨p3, p4, rfl, -⟩ := h2.form
  exact ⟨_, _, _, _, _, _, rfl⟩

/-- A disk that has nothing: its first k cells. -/
def goneTo (a : ArrP) (d : Nat) : Nat → ArrP
  | 0 => a
  | k + 1 => withL (goneTo a d k) d k []

def goneE (d : Int) : Int := if d < 0 ∨ 3 < d then 6 else 0
def goneL (a : ArrP) (d : Int) : ArrP := if d < 0 ∨ 3 < d then a else goneTo a d.toNat 3

theorem goneTo_whole {a : ArrP} (ha : Whole a) {d : Nat} (hd : d < 4) : ∀ k, Whole (goneTo a d k)
  | 0 => ha
  | k + 1 => withL_whole (goneTo_whole ha hd k) hd _

theorem goneTo_fours {a : ArrP} (ha : Fours a) (d : Nat) : ∀ k, Fours (goneTo a d k)
  | 0 => ha
  | k + 1 => by
    have := goneTo_fours ha d k
    exact this

/-- What a call keeps that has an array in a box A and a result in R. -/
def BInv (w : World) (A R : Nat) (x y : Value) (b : ArrP) (wr : World) : Prop :=
  Hid (wr.heap[A]? = some (.cells #[x, y] 27 (0, 0)) ∧ wr.heap[R]? = some (.cells #[.slice none 0 0, .slice none 0 0] 27 (0, 0))) ∧ Hid (ArrV wr (.agg #[x, y]) b) ∧ Grow w wr

theorem ArrV.form2 {w : World} {x y : Value} {a : ArrP} (h : ArrV w (.agg #[x, y]) a) : (∃ a1 n1 c1, x = .slice a1 n1 c1) ∧ ∃ a2 n2 c2, y = .slice a2 n2 c2 := by
  obtain ⟨a1, n1, c1, a2, n2, c2, e⟩ := h.form
  simp only [Value.agg.injEq] at e
  have e := congrArg Array.toList e
  simp at e
  exact ⟨⟨_, _, _, e.1⟩, ⟨_, _, _, e.2⟩⟩

/-- The box gets another array. -/
theorem BInv.put {w wr w5 : World} {A R : Nat} {x y x' y' : Value} {b b' : ArrP} (h : BInv w A R x y b wr) (hg : Grow wr w5) (hv : ArrV w5 (.agg #[x', y']) b') (hw : Whole b') (hi : Fours b') (hA : w.heap.size ≤ A) (hAR : R ≠ A) :
    BInv w A R x' y' b' ((w5.setCell ⟨A, 0, none⟩ x').setCell ⟨A, 1, none⟩ y') := by
  obtain ⟨⟨h1, h2⟩, h3, h4⟩ := h
  obtain ⟨⟨a1, n1, c1, rfl⟩, a2, n2, c2, rfl⟩ := h3.out.form2
  refine ⟨⟨two_set1 (two_set0 (hg.block' h1)), set_other (set_other (hg.block' h2) hAR) hAR⟩, ?_, ((h4.trans hg).set hA _).set hA _⟩
  exact Two.store ⟨_, _, _, _, _, _, _, hg.block' h1⟩ hv hw hi x' y'

/-- The result is the box's array. -/
theorem BInv.done {w wr : World} {A R : Nat} {x y : Value} {b : ArrP} (h : BInv w A R x y b wr) (hw : Whole b) (hi : Fours b) (hR : w.heap.size ≤ R) :
    ArrV ((wr.setCell ⟨R, 0, none⟩ x).setCell ⟨R, 1, none⟩ y) (.agg #[x, y]) b ∧ Grow w ((wr.setCell ⟨R, 0, none⟩ x).setCell ⟨R, 1, none⟩ y) ∧
      ((wr.setCell ⟨R, 0, none⟩ x).setCell ⟨R, 1, none⟩ y).cell? ⟨R, 0, none⟩ = some x ∧ ((wr.setCell ⟨R, 0, none⟩ x).setCell ⟨R, 1, none⟩ y).cell? ⟨R, 1, none⟩ = some y := by
  obtain ⟨⟨h1, h2⟩, h3, h4⟩ := h
  have hb := two_set1 (z := y) (two_set0 (z := x) h2)
  exact ⟨Two.store ⟨_, _, _, _, _, _, _, h2⟩ h3.out hw hi x y, (h4.set hR _).set hR _, two_at0 hb, two_at1 hb⟩

end Go.Proofs.YtjggiameajndgadGreatDoor

/-
  What the reference's Worst and Mend return. Nothing old turns.
-/
namespace Go.Proofs.YtjggiameajndgadGreatDoor
open Go.RowKit

/-- How many cells of stripe s are none. -/
def badN (a : ArrP) (s : Nat) : Nat := (badL (cellsL a s) s).length

/-- Of one of the first k stripes, at most. -/
def worstTo (a : ArrP) : Nat → Nat
  | 0 => 0
  | k + 1 => if worstTo a k < badN a k then badN a k else worstTo a k

def worstN (a : ArrP) : Nat := worstTo a 3

theorem badN_le {a : ArrP} (ha : Whole a) (s : Nat) : badN a s ≤ 4 := by
  have := badTo_length (cellsL a s) s (cellsL a s).length
  rw [cellsL_length, ha.1] at this
  unfold badN badL
  rw [cellsL_length, ha.1]
  exact this

theorem worstTo_le {a : ArrP} (ha : Whole a) : ∀ k, worstTo a k ≤ 4
  | 0 => by simp [worstTo]
  | k + 1 => by
    have := badN_le ha k
    have := worstTo_le ha k
    rw [worstTo]
    split <;> omega

theorem ret_arr3 {v : Value} {k2 k3 : IntKind} {a2 b2 a3 b3 : Int} (h2 : a2 = b2) (h3 : a3 = b3) : Ending.returned (.tuple #[v, .int k2 a2, .int k3 a3]) = .returned (.tuple #[v, .int k2 b2, .int k3 b3]) := by rw [h2, h3]

/-- Cells of stripe s, the first k of them. -/
def putTo (a : ArrP) (cs : List (List Int)) (s : Nat) : Nat → ArrP
  | 0 => a
  | k + 1 => withL (putTo a cs s k) k s (cs.getD k [])

def mendE (a : ArrP) (s : Int) : Int := if s < 0 ∨ 2 < s then 3 else dataE (cellsL a s.toNat) s
def mendN (a : ArrP) (s : Int) : Nat := if s < 0 ∨ 2 < s then 0 else badN a s.toNat
def mendL (a : ArrP) (s : Int) : ArrP := if (s < 0 ∨ 2 < s) ∨ dataE (cellsL a s.toNat) s ≠ 0 then a else putTo a (makeL (dataL (cellsL a s.toNat) s) s) s.toNat 4

theorem putTo_whole {a : ArrP} (ha : Whole a) (cs : List (List Int)) (s : Nat) : ∀ k, k ≤ 4 → Whole (putTo a cs s k)
  | 0, _ => ha
  | k + 1, h => withL_whole (putTo_whole ha cs s k (by omega)) (by omega) _

theorem putTo_fours {a : ArrP} (ha : Fours a) (cs : List (List Int)) (s : Nat) : ∀ k, Fours (putTo a cs s k)
  | 0 => ha
  | k + 1 => by
    have := putTo_fours ha cs s k
    exact this

theorem dataL_blocks {ls : List (List Int)} {s : Int} (h : dataE ls s = 0) : ∀ b ∈ dataL ls s, b.length = 4 := by
  unfold dataE at h
  split at h
  · cases h
  rename_i h1
  intro b hb
  rw [dataL, if_neg h1] at hb
  obtain ⟨d, hd, rfl⟩ := List.mem_map.1 hb
  unfold datAt
  split
  · rfl
  · rename_i h2
    exact readX_length (by simpa [isBad] using h2)

theorem makeL_length (ds : List (List Int)) (s : Int) : (makeL ds s).length = ds.length := by simp [makeL]

end Go.Proofs.YtjggiameajndgadGreatDoor

/-
  What the reference's Do returns. Nothing old turns.
-/
namespace Go.Proofs.YtjggiameajndgadGreatDoor
open Go.RowKit

theorem do_take_succ (ls : List (List Int)) (x : DeedP) (k : Nat) : (List.range k).map (doAt ls x) ++ [doAt ls x k] = (List.range (k + 1)).map (doAt ls x) := by simp [List.range_succ]

theorem doAt_data {ls : List (List Int)} {x : DeedP} {i : Nat} (h : x.k = 1) (hi : (i : Int) = x.n) : doAt ls x i = x.d := by rw [doAt, if_pos ⟨h, hi⟩]
theorem doAt_old {ls : List (List Int)} {x : DeedP} {i : Nat} (h : x.k = 1) (hi : (i : Int) ≠ x.n) : doAt ls x i = ls.getD i [] := by rw [doAt, if_neg (fun h => hi h.2), if_neg (by omega), if_neg (by omega)]
theorem doAt_n {ls : List (List Int)} {x : DeedP} {i : Nat} (h : x.k = 2) (hi : (i : Int) = x.n) : doAt ls x i = ls.getD x.m.toNat [] := by rw [doAt, if_neg (by omega), if_pos ⟨h, hi⟩]
theorem doAt_m {ls : List (List Int)} {x : DeedP} {i : Nat} (h : x.k = 2) (hi : (i : Int) ≠ x.n) (hj : (i : Int) = x.m) : doAt ls x i = ls.getD x.n.toNat [] := by rw [doAt, if_neg (by omega), if_neg (by omega), if_pos ⟨h, hj⟩]
theorem doAt_out {ls : List (List Int)} {x : DeedP} {i : Nat} (h : x.k = 2) (hi : (i : Int) ≠ x.n) (hj : (i : Int) ≠ x.m) : doAt ls x i = ls.getD i [] := by rw [doAt, if_neg (by omega), if_neg (by omega), if_neg (by omega)]

theorem whereE_zero {m : Int} (h : whereE m = 0) : 0 ≤ m ∧ m < 9 := by
  unfold whereE at h
  split at h
  · assumption
  · cases h

end Go.Proofs.YtjggiameajndgadGreatDoor

/-
  Plain: what a deed's intent is: a stripe's data spread over blocks, the deed done, gathered again, and the xor of it.
-/
namespace Go.Proofs.YtjggiameajndgadGreatDoor

/-- Blocks of which the first k that are of stripe s are what that has. -/
def spreadTo (ds : List (List Int)) (s : Nat) (k : Nat) : List (List Int) := (List.range 9).map fun n => if n < k ∧ sOf (n : Nat) = s then ds.getD (dOf (n : Nat)) [] else nought

theorem spreadTo_length (ds : List (List Int)) (s k : Nat) : (spreadTo ds s k).length = 9 := by simp [spreadTo]
theorem spreadTo_zero (ds : List (List Int)) (s : Nat) : spreadTo ds s 0 = List.replicate 9 nought := by simp [spreadTo]; rfl

theorem spreadTo_in {ds : List (List Int)} {s k : Nat} (h : sOf (k : Nat) = s) : (spreadTo ds s k).set k (ds.getD (dOf (k : Nat)) []) = spreadTo ds s (k + 1) := by
  refine List.ext_getElem (by simp [spreadTo]) fun i h1 h2 => ?_
  rw [List.getElem_set]
  simp only [spreadTo, List.getElem_map, List.getElem_range]
  split
  · rename_i e; subst e; rw [if_pos ⟨by omega, h⟩]
  · by_cases hi : i < k ∧ sOf (i : Nat) = s
    · rw [if_pos hi, if_pos ⟨by omega, hi.2⟩]
    · rw [if_neg hi, if_neg (fun hc => hi ⟨by omega, hc.2⟩)]

theorem spreadTo_out {ds : List (List Int)} {s k : Nat} (h : sOf (k : Nat) ≠ s) : spreadTo ds s k = spreadTo ds s (k + 1) := by
  refine List.map_congr_left fun i _ => ?_
  by_cases hi : i < k ∧ sOf (i : Nat) = s
  · rw [if_pos hi, if_pos ⟨by omega, hi.2⟩]
  · rw [if_neg hi, if_neg (fun hc => hi ⟨by
      by_cases e : i = k
      · subst e; exact absurd hc.2 h
      · omega, hc.2⟩)]

/-- Of the first k blocks those of stripe s, by disks. -/
def outTo (bl : List (List Int)) (s : Nat) : Nat → List (List Int)
  | 0 => List.replicate 4 []
  | k + 1 => if sOf (k : Nat) = s then (outTo bl s k).set (dOf (k : Nat)) (bl.getD k []) else outTo bl s k

/-- The same, in a row. -/
def rowTo (bl : List (List Int)) (s : Nat) : Nat → List (List Int)
  | 0 => []
  | k + 1 => if sOf (k : Nat) = s then rowTo bl s k ++ [bl.getD k []] else rowTo bl s k

theorem outTo_length (bl : List (List Int)) (s : Nat) : ∀ k, (outTo bl s k).length = 4
  | 0 => rfl
  | k + 1 => by
    rw [outTo]
    split
    · rw [List.length_set]; exact outTo_length bl s k
    · exact outTo_length bl s k

theorem rowTo_length (bl : List (List Int)) (s : Nat) : ∀ k, (rowTo bl s k).length ≤ k
  | 0 => Nat.le_refl _
  | k + 1 => by
    have := rowTo_length bl s k
    rw [rowTo]
    split
    · simp; omega
    · omega

theorem outTo_in {bl : List (List Int)} {s k : Nat} (h : sOf (k : Nat) = s) : (outTo bl s k).set (dOf (k : Nat)) (bl.getD k []) = outTo bl s (k + 1) := by rw [outTo, if_pos h]
theorem outTo_out {bl : List (List Int)} {s k : Nat} (h : sOf (k : Nat) ≠ s) : outTo bl s k = outTo bl s (k + 1) := by rw [outTo, if_neg h]
theorem rowTo_in {bl : List (List Int)} {s k : Nat} (h : sOf (k : Nat) = s) : rowTo bl s k ++ [bl.getD k []] = rowTo bl s (k + 1) := by rw [rowTo, if_pos h]
theorem rowTo_out {bl : List (List Int)} {s k : Nat} (h : sOf (k : Nat) ≠ s) : rowTo bl s k = rowTo bl s (k + 1) := by rw [rowTo, if_neg h]

/-- What the disks of stripe s are to have. -/
def planOut (bl : List (List Int)) (s : Nat) : List (List Int) := (outTo bl s 9).set (3 - s) (xorAll (rowTo bl s 9))

/-- Blocks behind a deed, of stripe s those that it has. -/
def planBl (a : ArrP) (x : DeedP) : List (List Int) := doL (spreadTo (dataL (cellsL a (sOf x.n)) (sOf x.n)) (sOf x.n) 9) x

def planE (a : ArrP) (x : DeedP) : Int := if wrongE x ≠ 0 then wrongE x else dataE (cellsL a (sOf x.n)) (sOf x.n)
def planI (a : ArrP) (x : DeedP) : Int × List (List Int) := if planE a x ≠ 0 then (0, []) else ((sOf x.n : Int), makeL (planOut (planBl a x) (sOf x.n)) (sOf x.n))

theorem rowTo_blocks {bl : List (List Int)} (h4 : ∀ b ∈ bl, b.length = 4) (hl : bl.length = 9) (s : Nat) : ∀ k, k ≤ 9 → ∀ b ∈ rowTo bl s k, b.length = 4
  | 0, _ => by simp [rowTo]
  | k + 1, hk => by
    rw [rowTo]
    split
    · intro b hb
      rcases List.mem_append.1 hb with hb | hb
      · exact rowTo_blocks h4 hl s k (by omega) b hb
      · simp only [List.mem_singleton] at hb
        rw [hb]
        exact h4 _ (getD_mem (by omega))
    · exact rowTo_blocks h4 hl s k (by omega)

/-- What the disks are to have, written out. -/
theorem planOut_eq (bl : List (List Int)) (s : Nat) (hs : s < 3) : planOut bl s =
    if s = 0 then [bl.getD 0 [], bl.getD 1 [], bl.getD 2 [], xorAll [bl.getD 0 [], bl.getD 1 [], bl.getD 2 []]]
    else if s = 1 then [bl.getD 3 [], bl.getD 4 [], xorAll [bl.getD 3 [], bl.getD 4 [], bl.getD 5 []], bl.getD 5 []]
    else [bl.getD 6 [], xorAll [bl.getD 6 [], bl.getD 7 [], bl.getD 8 []], bl.getD 7 [], bl.getD 8 []] := by
  have h := fun n : Nat => show n < 9 → sOf (n : Nat) = n / 3 from fun hn => by
    simp only [sOf, whereS]
    rw [if_pos (by omega)]
    omega
  have h0 := h 0 (by omega)
  have h1 := h 1 (by omega)
  have h2 := h 2 (by omega)
  have h3 := h 3 (by omega)
  have h4 := h 4 (by omega)
  have h5 := h 5 (by omega)
  have h6 := h 6 (by omega)
  have h7 := h 7 (by omega)
  have h8 := h 8 (by omega)
  obtain rfl | rfl | rfl : s = 0 ∨ s = 1 ∨ s = 2 := by omega
  all_goals
    simp only [planOut, outTo, rowTo, h0, h1, h2, h3, h4, h5, h6, h7, h8]
    rfl

theorem planOut_length (bl : List (List Int)) (s : Nat) : (planOut bl s).length = 4 := by rw [planOut, List.length_set, outTo_length]

theorem planOut_blocks {bl : List (List Int)} (h4 : ∀ b ∈ bl, b.length = 4) (hl : bl.length = 9) {s : Nat} (hs : s < 3) : ∀ b ∈ planOut bl s, b.length = 4 := by
  have hg : ∀ k, k < 9 → (bl.getD k []).length = 4 := fun k hk => h4 _ (getD_mem (by omega))
  have hx : ∀ l, (xorAll l).length = 4 := fun l => by simp [xorAll]
  rw [planOut_eq bl s hs]
  intro b hb
  split at hb
  · simp only [List.mem_cons, List.not_mem_nil, or_false] at hb
    rcases hb with rfl | rfl | rfl | rfl
    · exact hg 0 (by omega)
    · exact hg 1 (by omega)
    · exact hg 2 (by omega)
    · exact hx _
  split at hb
  · simp only [List.mem_cons, List.not_mem_nil, or_false] at hb
    rcases hb with rfl | rfl | rfl | rfl
    · exact hg 3 (by omega)
    · exact hg 4 (by omega)
    · exact hx _
    · exact hg 5 (by omega)
  · simp only [List.mem_cons, List.not_mem_nil, or_false] at hb
    rcases hb with rfl | rfl | rfl | rfl
    · exact hg 6 (by omega)
    · exact hx _
    · exact hg 7 (by omega)
    · exact hg 8 (by omega)

theorem spread_blocks {ds : List (List Int)} (hd : ∀ b ∈ ds, b.length = 4) (hl : ds.length = 4) (s k : Nat) : ∀ b ∈ spreadTo ds s k, b.length = 4 := by
  intro b hb
  simp only [spreadTo, List.mem_map, List.mem_range] at hb
  obtain ⟨n, hn, rfl⟩ := hb
  split
  · have := (where_bd (n := (n : Int)) (by omega)).2.2.2.1
    exact hd _ (getD_mem (by omega))
  · rfl

theorem doL_blocks {ls : List (List Int)} {x : DeedP} (h4 : ∀ b ∈ ls, b.length = 4) (hl : ls.length = 9) (hr : wrongE x = 0) : ∀ b ∈ doL ls x, b.length = 4 := by
  obtain ⟨hk, hn0, hn8, h1, h2⟩ := right_deed hr
  intro b hb
  simp only [doL, List.mem_map, List.mem_range] at hb
  obtain ⟨i, hi, rfl⟩ := hb
  unfold doAt
  split
  · rename_i h; exact (h1 h.1).2
  split
  · rename_i h
    have := whereE_zero (h2 h.1).1
    exact h4 _ (getD_mem (by omega))
  split
  · exact h4 _ (getD_mem (by omega))
  · exact h4 _ (getD_mem (by omega))

end Go.Proofs.YtjggiameajndgadGreatDoor

/-
  What the reference's Mount returns, of an array with no intent, or one. Nothing old turns.
-/
namespace Go.Proofs.YtjggiameajndgadGreatDoor
open Go.RowKit

theorem writeTo_six (a : ArrP) (i : Int × List (List Int)) : writeL a i 6 = writeTo a i 6 := rfl

end Go.Proofs.YtjggiameajndgadGreatDoor

/-
  What the reference's Rot returns: an array with a byte that has turned. Nothing old turns.
-/
namespace Go.Proofs.YtjggiameajndgadGreatDoor
open Go.RowKit

/-- A byte, its lowest bit turned. -/
def rotI (x : Int) : Int := if x % 2 = 0 then x + 1 else x - 1
def rotB (l : List Int) (k : Nat) : List Int := l.set k (rotI (l.getD k 0))

def rotOk (a : ArrP) (d s k : Int) : Prop := 0 ≤ d ∧ d ≤ 3 ∧ 0 ≤ s ∧ s ≤ 2 ∧ 0 ≤ k ∧ k < (cellAt a d.toNat s.toNat).length
instance (a : ArrP) (d s k : Int) : Decidable (rotOk a d s k) := by unfold rotOk; infer_instance
def rotE (a : ArrP) (d s k : Int) : Int := if rotOk a d s k then 0 else 6
def rotL (a : ArrP) (d s k : Int) : ArrP := if rotOk a d s k then withL a d.toNat s.toNat (rotB (cellAt a d.toNat s.toNat) k.toNat) else a

theorem rotI_bd {x : Int} (h : 0 ≤ x ∧ x ≤ 255) : 0 ≤ rotI x ∧ rotI x ≤ 255 := by unfold rotI; split <;> omega
theorem rotB_octets {l : List Int} (h : Octets l) (k : Nat) : Octets (rotB l k) := fun x hx => by
  rcases List.mem_or_eq_of_mem_set hx with hx | rfl
  · exact h x hx
  · exact rotI_bd (getD_bd h k)

theorem rotB_map (l : List Int) (k : Nat) (z : Int) (h : z = rotI (l.getD k 0)) : (l.map (Value.int .u8)).set k (.int .u8 z) = (rotB l k).map (Value.int .u8) := by rw [rotB, List.map_set, h]

end Go.Proofs.YtjggiameajndgadGreatDoor
