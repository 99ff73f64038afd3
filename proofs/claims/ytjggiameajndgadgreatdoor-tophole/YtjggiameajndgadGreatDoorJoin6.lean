import Derived.Test.YtjggiameajndgadGreatDoorJoin5
/-
  As Rowing, with a set of other blocks that may be written too.
-/
namespace Go.Proofs.YtjggiameajndgadGreatDoor
open Go.RowKit

/-- New blocks, and writes to blocks of G alone. -/
structure GrownIn (w w' : World) (G : Nat → Prop) : Prop where
  os : w'.os = w.os
  tape : w'.tape = w.tape
  output : w'.output = w.output
  size : w.heap.size ≤ w'.heap.size
  block : ∀ k, k < w.heap.size → ¬ G k → w'.heap[k]? = w.heap[k]?

theorem GrownIn.refl (w : World) (G : Nat → Prop) : GrownIn w w G := ⟨rfl, rfl, rfl, Nat.le_refl _, fun _ _ _ => rfl⟩
theorem GrownIn.trans {x y z : World} {G : Nat → Prop} (h : GrownIn x y G) (k : GrownIn y z G) : GrownIn x z G :=
  ⟨k.os.trans h.os, k.tape.trans h.tape, k.output.trans h.output, Nat.le_trans h.size k.size, fun j hj hn => (k.block j (Nat.lt_of_lt_of_le hj h.size) hn).trans (h.block j hj hn)⟩
theorem Grow.inn {w w' : World} (h : Grow w w') (G : Nat → Prop) : GrownIn w w' G := ⟨h.os, h.tape, h.output, h.size, fun k hk _ => h.block k hk⟩
theorem GrownIn.of_by {w w' : World} {g : Option Nat} {G : Nat → Prop} (h : w.grownBy w' g) (hg : ∀ k, g = some k → G k) : GrownIn w w' G := ⟨h.os, h.tape, h.output, h.size, fun k hk hn => h.block k hk (fun e => hn (hg k e.symm))⟩
theorem GrownIn.cell {w w' : World} {G : Nat → Prop} (h : GrownIn w w' G) {a : Addr} {v : Value} (hv : w.cell? a = some v) (hn : ¬ G a.block) : w'.cell? a = some v := (World.cell?_of_block (h.block a.block (cell_lt' hv) hn)).trans hv

/-- It reads so in every world that agrees with w off the blocks of G. -/
def OffG {α : Type} (R : World → Value → α → Prop) (G : Nat → Prop) (w : World) (u : Value) (x : α) : Prop := ∀ w', GrownIn w w' G → R w' u x

section
variable {α : Type} {R : World → Value → α → Prop} {F G : Nat → Prop} {w w0 w1 : World} {u v : Value} {x : α} {xs : List α} {B : Nat} {e : TypeId}

theorem OffG.here (h : OffG R G w u x) : R w u x := h w (GrownIn.refl _ _)
theorem OffG.step (h : OffG R G w u x) (hg : GrownIn w w1 G) : OffG R G w1 u x := fun w' h' => h w' (hg.trans h')
theorem OffG.grow (h : OffG R G w u x) (hg : Grow w w1) : OffG R G w1 u x := h.step (hg.inn G)
theorem OffG.mono (h : OffG R G w u x) (hF : ∀ k, F k → G k) : OffG R F w u x := fun w' h' => h w' ⟨h'.os, h'.tape, h'.output, h'.size, fun k hk hn => h'.block k hk (fun hf => hn (hF k hf))⟩
theorem OffG.old (hR : Stays R) (h : R w0 u x) (hg : Grow w0 w) (hk : ∀ k, G k → w0.heap.size ≤ k) : OffG R G w u x := fun w' h' =>
  hR w0 w' u x h ⟨h'.os.trans hg.os, h'.tape.trans hg.tape, h'.output.trans hg.output, Nat.le_trans hg.size h'.size, fun j hj => (h'.block j (Nat.lt_of_lt_of_le hj hg.size) (fun e => by have := hk j e; omega)).trans (hg.block j hj)⟩

theorem own_kept {n : Nat} {us : List Value} (h : w.ownsRow B e 1 v n us) (hg : GrownIn w w1 G) (hn : ∀ k, v.ownBlock = some k → ¬ G k) : w1.ownsRow B e 1 v n us := by
  obtain ⟨h1, h2⟩ := h
  refine ⟨h1, ?_⟩
  rcases h2 with h2 | ⟨g, cap, cur, hv, hb, hh, hr⟩
  · exact .inl h2
  · have hlt : g < w.heap.size := by
      by_cases hlt : g < w.heap.size
      · exact hlt
      · rw [Array.getElem?_eq_none (Nat.le_of_not_lt hlt)] at hh; cases hh
    exact .inr ⟨g, cap, cur, hv, hb, (hg.block g hlt (hn g (by rw [hv]; rfl))).trans hh, hr⟩

/-- The slice v of the call's own reads as xs; it, and blocks of F, may be written on. -/
def RowingF (F : Nat → Prop) (R : World → Value → α → Prop) (B : Nat) (e : TypeId) (w : World) (v : Value) (xs : List α) : Prop :=
  ∃ us, w.ownsRow B e 1 v xs.length us ∧ us.length = xs.length ∧ ∀ (i : Nat) u x, us[i]? = some u → xs[i]? = some x → OffG R (fun k => F k ∨ v.ownBlock = some k) w u x

theorem RowingF.nil (F : Nat → Prop) (R : World → Value → α → Prop) (B : Nat) (e : TypeId) (w : World) : RowingF F R B e w (.slice none 0 0) [] :=
  ⟨[], World.ownsRow_nil _ _ _ _, rfl, fun i u x hu => by simp at hu⟩

theorem RowingF.grow (h : RowingF F R B e w v xs) (hg : Grow w w1) : RowingF F R B e w1 v xs := by
  obtain ⟨us, h1, h2, h3⟩ := h
  exact ⟨us, grow_own h1 hg, h2, fun i u x hu hx => (h3 i u x hu hx).grow hg⟩

theorem RowingF.done (h : RowingF F R B e w v xs) : Sl R w v xs := by
  obtain ⟨us, h1, _, h3⟩ := h
  exact Sl.of_own h1 rfl (fun i u x hu hx => (h3 i u x hu hx).here)

theorem RowingF.base (h : RowingF F R B e w v xs) : ∀ k, v.ownBlock = some k → B ≤ k ∧ k < w.heap.size := by
  obtain ⟨us, h1, _, _⟩ := h
  exact h1.lt

/-- A write to a block of F. -/
theorem RowingF.set (h : RowingF F R B e w v xs) {A : Nat} (hA : F A) (hn : v.ownBlock ≠ some A) (k : Nat) (u : Value) : RowingF F R B e (w.setCell ⟨A, k, none⟩ u) v xs := by
  obtain ⟨us, h1, h2, h3⟩ := h
  have hg : ∀ G : Nat → Prop, G A → GrownIn w (w.setCell ⟨A, k, none⟩ u) G := fun G hG => ⟨rfl, rfl, rfl, by simp, fun j _ hj => Below.heap_setCell w _ _ j (fun e => hj (by rw [e]; exact hG))⟩
  exact ⟨us, own_kept h1 (hg (fun k => k = A) rfl) (fun j hj e => hn (by rw [hj, e])), h2, fun i q x hu hx => (h3 i q x hu hx).step (hg _ (.inl hA))⟩

/-- The whole slice is readable off F. -/
theorem RowingF.off (h : RowingF F R B e w v xs) (hG : ∀ k, G k → F k) (hn : ∀ k, v.ownBlock = some k → ¬ G k) : OffG (Sl R) G w v xs := fun w' h' => by
  obtain ⟨us, h1, h2, h3⟩ := h
  exact Sl.of_own (own_kept h1 h' hn) rfl (fun i u x hu hx => (h3 i u x hu hx).mono (F := G) (fun k hk => .inl (hG k hk)) w' h')

/-- An append of one element to such a row. -/
theorem wpList_pushF {P : Program} {ops : Array Oper} {rest : List Oper} {o : Oper} {a : Act} {Q : Exit → Act → World → Prop} (hgd : o.guard = none) (s y : Operand) (t : TypeId)
    (ho : o.op = .call { callee := .builtin .append, args := #[s, y], argTypes := #[t, t] })
    (i : TypeInfo) (z : Value) (bytes : Nat) (ht : P.underlying t = some (.slice e)) (hi : P.info? e = some i) (hz : i.zero = some z)
    (hsize : i.size = 1) (hby : i.bytes = bytes) (hzs : z.cells.size = 1)
    (w0 : World) (hG : Grow w0 w) (hB : w0.heap.size ≤ B) (hBw : B ≤ w.heap.size)
    (hs : a.eval s = v) (hrow : RowingF F R B e w v xs) (hu1 : u.oneCell' = true) (hoff : OffG R (fun k => F k ∨ v.ownBlock = some k) w u x)
    (H : Nat) (hH : w.heap.size = H) (hy : a.eval y = .slice (some ⟨H, 0, none⟩) 1 1)
    (h63 : xs.length + 1 ≤ 4611686018427387904) (hbytes : (xs.length + 1) * bytes ≤ 140737488355328)
    (h : ∀ v' w', (∃ g cap, v' = .slice (some ⟨g, 0, none⟩) (xs.length + 1) cap) → RowingF F R B e w' v' (xs ++ [x]) → Grow w0 w' → GrownIn w w' (fun k => v.ownBlock = some k) → wpList P ops Q rest (a.put o.dst v') w') :
    wpList P ops Q (o :: rest) a (w.alloc (.cells #[u] e)) := by
  subst hH
  obtain ⟨us, h1, h2, h3⟩ := hrow
  have hsz : w.heap.size < (w.alloc (.cells #[u] e)).heap.size := by simp
  have hgA : Grow w (w.alloc (.cells #[u] e)) := (Below.refl _ _).alloc (Nat.le_refl _) _
  refine wpList_append_lies _ hgd s y t ho B e i z 1 bytes ht hi hz hsize hby hzs (by decide) v xs.length us hs (h1.alloc _) ⟨w.heap.size, 0, none⟩ 1 1 [u] hy rfl ?_ ?_ (by decide) (by unfold maxLen; omega) hbytes (by omega) _ rfl ?_
  · exact fun j q hj => World.news_of_block (heap_alloc_new w _) j q (by simpa using hj)
  · intro q hq
    simp at hq
    subst hq
    exact hu1
  · intro g' cap w' hown hgr hat _
    refine h _ _ ⟨g', cap, rfl⟩ ⟨us ++ [u], by simpa using hown, by simp [h2], fun j q y' hq hy' => ?_⟩ (Below.grown (hG.trans hgA) hgr (Nat.le_trans hG.size (Nat.le_of_lt hsz)) (fun k hk => by have := (h1.lt k hk).1; omega)) ((hgA.inn _).trans (GrownIn.of_by hgr (fun k hk => hk)))
    have key : ∀ q y', OffG R (fun k => F k ∨ v.ownBlock = some k) w q y' → OffG R (fun k => F k ∨ some g' = some k) w' q y' := by
      intro q y' hq w2 h2'
      have hq' := (hq.grow hgA).step (GrownIn.of_by hgr (fun k hk => .inr hk))
      refine hq.grow hgA w2 ⟨h2'.os.trans hgr.os, h2'.tape.trans hgr.tape, h2'.output.trans hgr.output, Nat.le_trans hgr.size h2'.size, fun j hj hn => ?_⟩
      have hn' : ¬ (F j ∨ v.ownBlock = some j) := hn
      have e1 := hgr.block j hj (fun e => hn' (.inr e.symm))
      refine (h2'.block j (Nat.lt_of_lt_of_le hj hgr.size) (fun hc => ?_)).trans e1
      rcases hc with hc | hc
      · exact hn' (.inl hc)
      · injection hc with hc
        rcases hat with hat | hat
        · exact hn' (.inr (by rw [hat, hc]))
        · omega
    show OffG R (fun k => F k ∨ some g' = some k) w' q y'
    by_cases hj : j < us.length
    · rw [List.getElem?_append_left hj] at hq
      rw [List.getElem?_append_left (by omega)] at hy'
      exact key q y' (h3 j q y' hq hy')
    · rw [List.getElem?_append_right (by omega)] at hq
      rw [List.getElem?_append_right (by omega)] at hy'
      obtain hj0 : j - us.length = 0 := by
        by_cases h0 : j - us.length = 0
        · exact h0
        · rw [List.getElem?_eq_none (by simp; omega)] at hq; cases hq
      rw [hj0] at hq
      rw [← h2, hj0] at hy'
      simp at hq hy'
      subst hq hy'
      exact key _ _ hoff

end

/-- Bytes of a row of the call's own. -/
theorem OffG.own {G : Nat → Prop} {w : World} {B : Nat} {e : TypeId} {v : Value} {n : Nat} {l : List Int} (h : w.ownsRow B e 1 v n (l.map (Value.int .u8))) (ho : Octets l) (hg : ∀ k, G k → k < B) : OffG Bs G w v l := fun _ h' =>
  Bs.of_own (own_kept h h' (fun k hk hGk => by have := hg k hGk; have := (h.lt k hk).1; omega)) ho

end Go.Proofs.YtjggiameajndgadGreatDoor

/-
  What the reference's New returns: an array of noughts. Nothing old turns.
-/
namespace Go.Proofs.YtjggiameajndgadGreatDoor
open Go.RowKit

/-- The first m cells of disk d, of noughts. -/
def newRow (d m : Nat) : List (List Int) := (List.range m).map fun (s : Nat) => cellOf d s nought
/-- The first k disks. -/
def newDs (k : Nat) : List (List (List Int)) := (List.range k).map fun d => newRow d 3
def newP : ArrP := ⟨newDs 4, []⟩

theorem newRow_succ (d m : Nat) : newRow d m ++ [cellOf d m nought] = newRow d (m + 1) := by simp [newRow, List.range_succ]
theorem newDs_succ (k : Nat) : newDs k ++ [newRow k 3] = newDs (k + 1) := by simp [newDs, List.range_succ]
theorem newP_whole : Whole newP := by
  refine ⟨by simp [newP, newDs], fun x hx => ?_⟩
  simp only [newP, newDs, List.mem_map] at hx
  obtain ⟨d, _, rfl⟩ := hx
  simp [newRow]
theorem newP_fours : Fours newP := fun p hp => by simp [newP] at hp

end Go.Proofs.YtjggiameajndgadGreatDoor

/-
  Plain: what arrays are that come of steps; what a step makes of one.
-/
namespace Go.Proofs.YtjggiameajndgadGreatDoor

/-- An array that came of steps. -/
structure Arr (a : ArrP) : Prop where
  whole : Whole a
  none : a.is = []
  short : ∀ d s, (cellAt a d s).length ≤ 8

theorem Arr.fours {a : ArrP} (h : Arr a) : Fours a := fun p hp => by rw [h.none] at hp; simp at hp

theorem cellAt_with {a : ArrP} {d s : Nat} {l : List Int} (hd : d < a.ds.length) (hs : s < (a.ds.getD d []).length) (d' s' : Nat) : cellAt (withL a d s l) d' s' = if d' = d ∧ s' = s then l else cellAt a d' s' := by
  simp only [cellAt, withL]
  by_cases h1 : d' = d
  · subst h1
    have e1 : (a.ds.set d' ((a.ds.getD d' []).set s l)).getD d' [] = (a.ds.getD d' []).set s l := by simp [List.getD_eq_getElem?_getD, hd]
    rw [e1]
    by_cases h2 : s' = s
    · subst h2
      rw [if_pos ⟨rfl, rfl⟩]
      rw [List.getD_eq_getElem?_getD, List.getElem?_set_self hs]
      rfl
    · rw [if_neg (fun h => h2 h.2), List.getD_eq_getElem?_getD, List.getElem?_set_ne (fun e => h2 e.symm), ← List.getD_eq_getElem?_getD]
  · rw [if_neg (fun h => h1 h.1)]
    rw [List.getD_eq_getElem?_getD (l := a.ds.set _ _), List.getElem?_set_ne (fun e => h1 e.symm), ← List.getD_eq_getElem?_getD]

theorem Whole.cellAt_with {a : ArrP} (ha : Whole a) {d s : Nat} (hd : d < 4) (hs : s < 3) (l : List Int) (d' s' : Nat) : cellAt (withL a d s l) d' s' = if d' = d ∧ s' = s then l else cellAt a d' s' := by
  have hdl : d < a.ds.length := by have := ha.1; omega
  refine Go.Proofs.YtjggiameajndgadGreatDoor.cellAt_with hdl ?_ d' s'
  rw [ha.2 _ (by simp [List.getD_eq_getElem?_getD, hdl])]
  exact hs

theorem Arr.with {a : ArrP} (h : Arr a) {d s : Nat} (hd : d < 4) (hs : s < 3) {l : List Int} (hl : l.length ≤ 8) : Arr (withL a d s l) :=
  ⟨withL_whole h.whole hd l, h.none, fun d' s' => by rw [h.whole.cellAt_with hd hs]; split; exact hl; exact h.short d' s'⟩

theorem newP_arr : Arr newP := ⟨newP_whole, rfl, fun d s => by
  simp only [cellAt, newP, newDs, newRow, List.getD_eq_getElem?_getD]
  by_cases hd : d < 4
  · rw [List.getElem?_map, List.getElem?_range hd]
    simp only [Option.map_some, Option.getD_some]
    by_cases hs : s < 3
    · rw [List.getElem?_map, List.getElem?_range hs]
      simp only [Option.map_some, Option.getD_some]
      rw [cellOf_length]
      simp [nought]
    · rw [List.getElem?_eq_none (by simp; omega)]
      simp
  · rw [List.getElem?_eq_none (l := List.map _ (List.range 4)) (by simp; omega)]
    simp⟩

/-- All of an intent's writes: its cells, and no intents. -/
theorem writeTo_six_eq (a : ArrP) (i : Int × List (List Int)) : writeTo a i 6 = { putTo { a with is := [i] } i.2 i.1.toNat 4 with is := [] } := rfl

theorem putTo_arr {a : ArrP} (h : Arr a) {cs : List (List Int)} (hc : ∀ b ∈ cs, b.length ≤ 8) {s : Nat} (hs : s < 3) : ∀ k, k ≤ 4 → Arr (putTo a cs s k)
  | 0, _ => h
  | k + 1, hk => (putTo_arr h hc hs k (by omega)).with (by omega) hs (by
    by_cases hkl : k < cs.length
    · exact hc _ (getD_mem hkl)
    · rw [List.getD_eq_getElem?_getD, List.getElem?_eq_none (by omega)]; simp)

theorem putTo_ds (a b : ArrP) (h : a.ds = b.ds) (cs : List (List Int)) (s : Nat) : ∀ k, (putTo a cs s k).ds = (putTo b cs s k).ds
  | 0 => h
  | k + 1 => by simp only [putTo, withL]; rw [putTo_ds a b h cs s k]

theorem putTo_is (a : ArrP) (cs : List (List Int)) (s : Nat) : ∀ k, (putTo a cs s k).is = a.is
  | 0 => rfl
  | k + 1 => by simp only [putTo, withL]; exact putTo_is a cs s k

/-- Whatever its intents were, all six of an intent come to this. -/
theorem six_eq {a : ArrP} {i : Int × List (List Int)} : writeTo a i 6 = { putTo a i.2 i.1.toNat 4 with is := [] } := by
  rw [writeTo_six_eq]
  have := putTo_ds { a with is := [i] } a rfl i.2 i.1.toNat 4
  cases h1 : putTo { a with is := [i] } i.2 i.1.toNat 4
  cases h2 : putTo a i.2 i.1.toNat 4
  rw [h1, h2] at this
  simp only at this ⊢
  rw [this]

theorem putTo_none {a : ArrP} (h : a.is = []) (cs : List (List Int)) (s k : Nat) : { putTo a cs s k with is := [] } = putTo a cs s k := by
  have := putTo_is a cs s k
  rw [h] at this
  cases h1 : putTo a cs s k
  rw [h1] at this
  simp only at this ⊢
  rw [this]

theorem writeTo_is_mid (a : ArrP) (i : Int × List (List Int)) : ∀ k, 1 ≤ k → k ≤ 5 → (writeTo a i k).is = [i]
  | 1, _, _ => rfl
  | 2, _, _ => rfl
  | 3, _, _ => rfl
  | 4, _, _ => rfl
  | 5, _, _ => rfl

/-- Starting anew. -/
def mountL (a : ArrP) : ArrP := match a.is with | [] => a | i :: _ => writeTo a i 6

/-- A deed done. -/
def doA (a : ArrP) (x : DeedP) : ArrP := if planE a x = 0 then writeTo a (planI a x) 6 else a

/-- A deed that falls behind n of its writes. -/
def fallA (a : ArrP) (x : DeedP) (n : Int) : ArrP := if planE a x = 0 then mountL (writeL a (planI a x) n) else a

/-- A step. -/
structure StepP where
  k : Int
  n : Int
  m : Int
  d : DeedP

def stepE (a : ArrP) (s : StepP) : Int :=
  if s.k = 1 then planE a s.d else if s.k = 2 then planE a s.d else if s.k = 3 then (if s.n < 0 then 6 else rotE a (s.n / 3) (s.n % 3) s.m) else if s.k = 4 then goneE s.n else if s.k = 5 then mendE a s.n else 1
def stepA (a : ArrP) (s : StepP) : ArrP :=
  if s.k = 1 then doA a s.d else if s.k = 2 then fallA a s.d s.n else if s.k = 3 then (if s.n < 0 then a else rotL a (s.n / 3) (s.n % 3) s.m) else if s.k = 4 then goneL a s.n else if s.k = 5 then mendL a s.n else a

theorem planI_ok {a : ArrP} {x : DeedP} (h : planE a x = 0) : ∃ s : Nat, s < 3 ∧ s = sOf x.n ∧ wrongE x = 0 ∧ dataE (cellsL a s) s = 0 ∧ planI a x = ((s : Int), makeL (planOut (planBl a x) s) s) := by
  have hw0 : wrongE x = 0 := by
    unfold planE at h
    split at h
    · exact h
    · rename_i h'; exact Decidable.not_not.1 h'
  have hde : dataE (cellsL a (sOf x.n)) (sOf x.n) = 0 := by
    unfold planE at h
    rwa [if_neg (by simp [hw0])] at h
  obtain ⟨-, hn0, hn8, -, -⟩ := right_deed hw0
  obtain ⟨-, -, -, -, hs3⟩ := where_bd (n := x.n) (by omega)
  exact ⟨sOf x.n, hs3, rfl, hw0, hde, if_neg (by simp [h])⟩

theorem planBl_blocks {a : ArrP} (ha : Whole a) {x : DeedP} (h : planE a x = 0) : (∀ b ∈ planBl a x, b.length = 4) ∧ (planBl a x).length = 9 := by
  obtain ⟨s, hs3, rfl, hw0, hde, -⟩ := planI_ok h
  have hdl := dataL_length hde
  rw [cellsL_length, ha.1] at hdl
  exact ⟨doL_blocks (spread_blocks (dataL_blocks hde) hdl _ 9) (spreadTo_length _ _ _) hw0, by rw [planBl, doL_length, spreadTo_length]⟩

theorem makeL_mem {ds : List (List Int)} {s : Int} (h4 : ∀ b ∈ ds, b.length = 4) : ∀ b ∈ makeL ds s, b.length = 8 := by
  intro b hb
  simp only [makeL, List.mem_map, List.mem_range] at hb
  obtain ⟨d, hd, rfl⟩ := hb
  rw [cellOf_length, h4 _ (getD_mem hd)]

theorem planI_cells {a : ArrP} (ha : Whole a) {x : DeedP} (h : planE a x = 0) : (planI a x).2.length = 4 ∧ ∀ b ∈ (planI a x).2, b.length = 8 := by
  obtain ⟨s, hs3, -, -, -, he⟩ := planI_ok h
  obtain ⟨h4, h9⟩ := planBl_blocks ha h
  rw [he]
  exact ⟨by rw [makeL_length, planOut_length], makeL_mem (planOut_blocks h4 h9 hs3)⟩

theorem doA_eq {a : ArrP} (h : Arr a) {x : DeedP} (he : planE a x = 0) : doA a x = putTo a (planI a x).2 (planI a x).1.toNat 4 := by
  rw [doA, if_pos he, six_eq, putTo_none h.none]

theorem doA_arr {a : ArrP} (h : Arr a) (x : DeedP) : Arr (doA a x) := by
  by_cases he : planE a x = 0
  · obtain ⟨s, hs3, -, -, -, hi⟩ := planI_ok he
    rw [doA_eq h he]
    refine putTo_arr h (fun b hb => by rw [(planI_cells h.whole he).2 b hb]; omega) ?_ 4 (Nat.le_refl _)
    rw [hi]
    simpa using hs3
  · rw [doA, if_neg he]; exact h

/-- Behind a fall it is as it was, or as if the deed had been done. -/
theorem putTo_twice_at {a : ArrP} (ha : Whole a) (cs : List (List Int)) {s : Nat} (hs : s < 3) (d' s' : Nat) : ∀ k, k ≤ 4 → cellAt (putTo a cs s k) d' s' = if d' < k ∧ s' = s then cs.getD d' [] else cellAt a d' s'
  | 0, _ => by simp [putTo]
  | k + 1, hk => by
    rw [putTo, (putTo_whole ha cs s k (by omega)).cellAt_with (by omega) hs, putTo_twice_at ha cs hs d' s' k (by omega)]
    by_cases h1 : d' = k ∧ s' = s
    · rw [if_pos h1, if_pos ⟨by omega, h1.2⟩, h1.1]
    · rw [if_neg h1]
      by_cases h2 : d' < k ∧ s' = s
      · rw [if_pos h2, if_pos ⟨by omega, h2.2⟩]
      · rw [if_neg h2, if_neg (fun h => by
          by_cases h3 : d' = k
          · exact h1 ⟨h3, h.2⟩
          · exact h2 ⟨by omega, h.2⟩)]

/-- Arrays of the same cells are the same. -/
theorem arr_ext {a b : ArrP} (ha : Whole a) (hb : Whole b) (hi : a.is = b.is) (h : ∀ d s, d < 4 → s < 3 → cellAt a d s = cellAt b d s) : a = b := by
  obtain ⟨ads, ais⟩ := a
  obtain ⟨bds, bis⟩ := b
  obtain ⟨ha1, ha2⟩ := ha
  obtain ⟨hb1, hb2⟩ := hb
  simp only at ha1 ha2 hb1 hb2 hi
  simp only [ArrP.mk.injEq]
  refine ⟨List.ext_getElem (by omega) fun i h1 h2 => List.ext_getElem (by rw [ha2 _ (List.getElem_mem h1), hb2 _ (List.getElem_mem h2)]) fun j g1 g2 => ?_, hi⟩
  have h3 : ads[i].length = 3 := ha2 _ (List.getElem_mem h1)
  have := h i j (by omega) (by omega)
  simpa [cellAt, List.getD_eq_getElem?_getD, h1, h2, g1, g2] using this

theorem writeTo_mid_ds (a : ArrP) (i : Int × List (List Int)) : ∀ k, k ≤ 4 → (writeTo a i (k + 1)).ds = (putTo a i.2 i.1.toNat k).ds
  | 0, _ => rfl
  | 1, _ => rfl
  | 2, _ => rfl
  | 3, _ => rfl
  | 4, _ => rfl

theorem cellAt_ds {a b : ArrP} (h : a.ds = b.ds) (d s : Nat) : cellAt a d s = cellAt b d s := by rw [cellAt, cellAt, h]

theorem fallA_eq {a : ArrP} (h : Arr a) {x : DeedP} (he : planE a x = 0) (n : Int) : fallA a x n = if n ≤ 0 then a else doA a x := by
  obtain ⟨s, hs3, -, -, -, hi⟩ := planI_ok he
  rw [fallA, if_pos he]
  split
  · rename_i hn
    rw [show writeL a (planI a x) n = a from by rw [writeL, show many6 n = 0 from by unfold many6; omega]; rfl, mountL, h.none]
  · rename_i hn
    rw [doA, if_pos he]
    by_cases h6 : 6 ≤ n
    · rw [writeL, show many6 n = 6 from by unfold many6; omega]
      rw [mountL]
      rfl
    · obtain ⟨k, hk, hk4⟩ : ∃ k, many6 n = k + 1 ∧ k ≤ 4 := ⟨(n - 1).toNat, by unfold many6; omega, by omega⟩
      rw [writeL, hk, mountL, writeTo_is_mid a _ (k + 1) (by omega) (by omega)]
      simp only
      rw [six_eq, six_eq]
      have hs : (planI a x).1.toNat = s := by rw [hi]; simp
      rw [hs]
      have hw1 : Whole (writeTo a (planI a x) (k + 1)) := writeTo_whole h.whole _ _
      refine arr_ext (a := { putTo _ _ _ _ with is := [] }) (b := { putTo _ _ _ _ with is := [] }) (putTo_whole hw1 _ _ 4 (Nat.le_refl _)) (putTo_whole h.whole _ _ 4 (Nat.le_refl _)) rfl fun d' s' hd' hs' => ?_
      show cellAt (putTo _ _ _ _) d' s' = cellAt (putTo _ _ _ _) d' s'
      rw [putTo_twice_at hw1 _ hs3 d' s' 4 (Nat.le_refl _), putTo_twice_at h.whole _ hs3 d' s' 4 (Nat.le_refl _)]
      split
      · rfl
      · rename_i hns
        rw [cellAt_ds (writeTo_mid_ds a (planI a x) k hk4), hs, putTo_twice_at h.whole _ hs3 d' s' k hk4, if_neg (fun hc => hns ⟨hd', hc.2⟩)]

theorem fallA_arr {a : ArrP} (h : Arr a) (x : DeedP) (n : Int) : Arr (fallA a x n) := by
  by_cases he : planE a x = 0
  · rw [fallA_eq h he]
    split
    · exact h
    · exact doA_arr h x
  · rw [fallA, if_neg he]; exact h

theorem rotL_arr {a : ArrP} (h : Arr a) (d s k : Int) : Arr (rotL a d s k) := by
  unfold rotL
  split
  · rename_i hk
    obtain ⟨h1, h2, h3, h4, h5, h6⟩ := hk
    exact h.with (by omega) (by omega) (by rw [rotB, List.length_set]; exact h.short _ _)
  · exact h

theorem goneTo_arr {a : ArrP} (h : Arr a) {d : Nat} (hd : d < 4) : ∀ k, k ≤ 3 → Arr (goneTo a d k)
  | 0, _ => h
  | k + 1, hk => (goneTo_arr h hd k (by omega)).with hd (by omega) (by simp)

theorem goneL_arr {a : ArrP} (h : Arr a) (d : Int) : Arr (goneL a d) := by
  unfold goneL
  split
  · exact h
  · exact goneTo_arr h (by omega) 3 (Nat.le_refl _)

theorem mendL_arr {a : ArrP} (h : Arr a) (s : Int) : Arr (mendL a s) := by
  unfold mendL
  split
  · exact h
  · rename_i hn
    have hde : dataE (cellsL a s.toNat) s = 0 := Decidable.byContradiction fun hc => hn (.inr hc)
    have hs : ¬ (s < 0 ∨ 2 < s) := fun hc => hn (.inl hc)
    exact putTo_arr h (fun b hb => by rw [makeL_mem (dataL_blocks hde) b hb]; omega) (by omega) 4 (Nat.le_refl _)

theorem stepA_arr {a : ArrP} (h : Arr a) (s : StepP) : Arr (stepA a s) := by
  unfold stepA
  split
  · exact doA_arr h _
  split
  · exact fallA_arr h _ _
  split
  · split
    · exact h
    · exact rotL_arr h _ _ _
  split
  · exact goneL_arr h _
  split
  · exact mendL_arr h _
  · exact h

/-- What steps come to: at most a hundred. -/
def playTo (l : List StepP) : Nat → ArrP
  | 0 => newP
  | k + 1 => match l[k]? with | some s => stepA (playTo l k) s | none => playTo l k
def playL (l : List StepP) : ArrP := playTo l (min l.length 100)
def playEs (l : List StepP) (k : Nat) : List Int := (List.range k).map fun i => match l[i]? with | some s => stepE (playTo l i) s | none => 0

theorem playTo_arr (l : List StepP) : ∀ k, Arr (playTo l k)
  | 0 => newP_arr
  | k + 1 => by
    rw [playTo]
    split
    · exact stepA_arr (playTo_arr l k) _
    · exact playTo_arr l k

/-- Does a cell rot that is none? -/
def againB (a : ArrP) (s : StepP) : Bool := decide (s.k = 3 ∧ 0 ≤ s.n ∧ s.n ≤ 11 ∧ readE (cellAt a (s.n / 3).toNat (s.n % 3).toNat) (s.n / 3) (s.n % 3) ≠ 0)

/-- May this step be taken? -/
def gentleB (a : ArrP) (s : StepP) : Bool := !againB a s && decide (worstN (stepA a s) ≤ 1)

/-- How far steps are gentle, from k on, of at most so many. -/
def gentlyFrom (l : List StepP) (a : ArrP) : Nat → ArrP
  | 0 => a
  | n + 1 => match l with | [] => a | s :: r => if gentleB a s then gentlyFrom r (stepA a s) n else a
def gentlyL (l : List StepP) : ArrP := gentlyFrom l newP 100

theorem gentlyFrom_arr : ∀ (n : Nat) (l : List StepP) (a : ArrP), Arr a → Arr (gentlyFrom l a n)
  | 0, l, a, h => by rw [gentlyFrom]; exact h
  | n + 1, [], a, h => by rw [gentlyFrom]; exact h
  | n + 1, s :: r, a, h => by
    rw [gentlyFrom]
    split
    · exact gentlyFrom_arr n r _ (stepA_arr h s)
    · exact h

end Go.Proofs.YtjggiameajndgadGreatDoor

/-
  Plain: what of each stripe one cell at most is none of, has all its data; what steps make of them.
-/
namespace Go.Proofs.YtjggiameajndgadGreatDoor

theorem cellsL_getD (a : ArrP) (s d : Nat) : (cellsL a s).getD d [] = cellAt a d s := by
  simp only [cellsL, cellAt, List.getD_eq_getElem?_getD, List.getElem?_map]
  cases a.ds[d]? <;> simp

/-- Whether a cell is none. -/
def badB (a : ArrP) (d s : Nat) : Bool := readE (cellAt a d s) d s != 0

theorem isBad_eq (a : ArrP) (s d : Nat) : isBad (cellsL a s) s d = badB a d s := by rw [isBad, cellsL_getD, badB]

theorem badL_eq {a : ArrP} (ha : Whole a) (s : Nat) : badL (cellsL a s) s = (List.range 4).filter (fun d => badB a d s) := by
  rw [badL, badTo, cellsL_length, ha.1]
  exact List.filter_congr fun d _ => isBad_eq a s d

theorem badN_eq {a : ArrP} (ha : Whole a) (s : Nat) : badN a s = (badB a 0 s).toNat + (badB a 1 s).toNat + (badB a 2 s).toNat + (badB a 3 s).toNat := by
  rw [badN, badL_eq ha, show List.range 4 = [0, 1, 2, 3] from rfl]
  simp only [List.filter_cons, List.filter_nil]
  cases badB a 0 s <;> cases badB a 1 s <;> cases badB a 2 s <;> cases badB a 3 s <;> rfl

theorem worstTo_le_iff (a : ArrP) (n : Nat) : ∀ k, worstTo a k ≤ n ↔ ∀ s, s < k → badN a s ≤ n
  | 0 => by simp [worstTo]
  | k + 1 => by
    rw [worstTo]
    have ih := worstTo_le_iff a n k
    constructor
    · intro h s hs
      by_cases hsk : s = k
      · subst hsk; split at h <;> omega
      · exact ih.1 (by split at h <;> omega) s (by omega)
    · intro h
      have h1 := h k (by omega)
      have h2 := ih.2 (fun s hs => h s (by omega))
      split <;> omega

theorem worstN_le {a : ArrP} {n : Nat} : worstN a ≤ n ↔ ∀ s, s < 3 → badN a s ≤ n := worstTo_le_iff a n 3

/-- Blocks that are noughts together. -/
def EvenB (ds : List (List Int)) : Prop := ∀ i, i < 4 → xC ds i = 0

/-- Stripe s has ds, as far as its cells are not none. -/
structure Holds (a : ArrP) (s : Nat) (ds : List (List Int)) : Prop where
  len : ds.length = 4
  blocks : Blocks ds
  even : EvenB ds
  reads : ∀ d, d < 4 → badB a d s = false → readX (cellAt a d s) d s = ds.getD d []

theorem four {ds : List (List Int)} (h : ds.length = 4) : ds = [ds.getD 0 [], ds.getD 1 [], ds.getD 2 [], ds.getD 3 []] := by
  match ds, h with
  | [a, b, c, d], _ => rfl

theorem xC_four (a b c d : List Int) (i : Nat) : xC [a, b, c, d] i = (a.getD i 0).toNat ^^^ ((b.getD i 0).toNat ^^^ ((c.getD i 0).toNat ^^^ (d.getD i 0).toNat)) := by
  rw [xC_cons, xC_cons, xC_cons, xC_one]
theorem xC_three (a b c : List Int) (i : Nat) : xC [a, b, c] i = (a.getD i 0).toNat ^^^ ((b.getD i 0).toNat ^^^ (c.getD i 0).toNat) := by
  rw [xC_cons, xC_cons, xC_one]

theorem xor_eq_of {a b : Nat} (h : a ^^^ b = 0) : a = b := by
  have h2 : a ^^^ b ^^^ b = b := by rw [h, Nat.zero_xor]
  rwa [Nat.xor_assoc, Nat.xor_self, Nat.xor_zero] at h2

theorem xor_left (a b c : Nat) : a ^^^ (b ^^^ c) = b ^^^ (a ^^^ c) := by rw [← Nat.xor_assoc, Nat.xor_comm a b, Nat.xor_assoc]

/-- Of four that are noughts together each is what the others are. -/
theorem even_others {a b c d : List Int} (h : EvenB [a, b, c, d]) (i : Nat) (hi : i < 4) :
    xC [b, c, d] i = (a.getD i 0).toNat ∧ xC [a, c, d] i = (b.getD i 0).toNat ∧ xC [a, b, d] i = (c.getD i 0).toNat ∧ xC [a, b, c] i = (d.getD i 0).toNat := by
  have h1 := h i hi
  rw [xC_four] at h1
  simp only [xC_three]
  generalize (a.getD i 0).toNat = x at *
  generalize (b.getD i 0).toNat = y at *
  generalize (c.getD i 0).toNat = z at *
  generalize (d.getD i 0).toNat = t at *
  have e1 := xor_eq_of h1
  refine ⟨e1.symm, ?_, ?_, ?_⟩
  · rw [e1, Nat.xor_assoc, Nat.xor_self, Nat.xor_zero]
  · rw [e1, Nat.xor_assoc, xor_left (z ^^^ t) y t, ← Nat.xor_assoc y y, Nat.xor_self, Nat.zero_xor, Nat.xor_assoc, Nat.xor_self, Nat.xor_zero]
  · rw [e1, Nat.xor_assoc, xor_left (z ^^^ t) y z, ← Nat.xor_assoc y y, Nat.xor_self, Nat.zero_xor, Nat.xor_comm z t, Nat.xor_assoc, Nat.xor_self, Nat.xor_zero]

theorem rest_eq (ls : List (List Int)) (s : Int) :
    restTo ls s 0 4 = [readX (ls.getD 1 []) (1 : Nat) s, readX (ls.getD 2 []) (2 : Nat) s, readX (ls.getD 3 []) (3 : Nat) s] ∧ restTo ls s 1 4 = [readX (ls.getD 0 []) (0 : Nat) s, readX (ls.getD 2 []) (2 : Nat) s, readX (ls.getD 3 []) (3 : Nat) s] ∧
    restTo ls s 2 4 = [readX (ls.getD 0 []) (0 : Nat) s, readX (ls.getD 1 []) (1 : Nat) s, readX (ls.getD 3 []) (3 : Nat) s] ∧ restTo ls s 3 4 = [readX (ls.getD 0 []) (0 : Nat) s, readX (ls.getD 1 []) (1 : Nat) s, readX (ls.getD 2 []) (2 : Nat) s] := ⟨rfl, rfl, rfl, rfl⟩

theorem one_bad {a : ArrP} (ha : Whole a) {s d k : Nat} (hb : badN a s ≤ 1) (hd : badB a d s = true) (h1 : d < 4) (h2 : k < 4) (hne : d ≠ k) : badB a k s = false := by
  rw [badN_eq ha] at hb
  cases hk : badB a k s with
  | false => rfl
  | true =>
    exfalso
    have t : ∀ x : Bool, x = true → x.toNat = 1 := fun x hx => by rw [hx]; rfl
    have hd' := t _ hd
    have hk' := t _ hk
    obtain rfl | rfl | rfl | rfl : d = 0 ∨ d = 1 ∨ d = 2 ∨ d = 3 := by omega
    all_goals obtain rfl | rfl | rfl | rfl : k = 0 ∨ k = 1 ∨ k = 2 ∨ k = 3 := by omega
    all_goals omega

/-- Where one at most is none, the data are all there. -/
theorem Holds.data {a : ArrP} (ha : Whole a) {s : Nat} {ds : List (List Int)} (h : Holds a s ds) (hb : badN a s ≤ 1) : dataE (cellsL a s) s = 0 ∧ dataL (cellsL a s) s = ds := by
  have hn : ¬ 1 < (badL (cellsL a s) s).length := by have : badN a s = (badL (cellsL a s) s).length := rfl; omega
  refine ⟨if_neg hn, ?_⟩
  rw [dataL, if_neg hn, cellsL_length, ha.1, show List.range 4 = [0, 1, 2, 3] from rfl]
  have hgood : ∀ d k, badB a d s = true → d < 4 → k < 4 → d ≠ k → badB a k s = false := fun d k hd h1 h2 hne => one_bad ha hb hd h1 h2 hne
  have hdat : ∀ d, datAt (cellsL a s) s d = if badB a d s then xorAll (restTo (cellsL a s) s d 4) else readX (cellAt a d s) d s := fun d => by
    rw [datAt, isBad_eq, cellsL_length, ha.1, cellsL_getD]
  obtain ⟨r0, r1, r2, r3⟩ := rest_eq (cellsL a s) s
  simp only [cellsL_getD] at r0 r1 r2 r3
  have g := h.reads
  have g0 := g 0 (by omega)
  have g1 := g 1 (by omega)
  have g2 := g 2 (by omega)
  have g3 := g 3 (by omega)
  have h4 := four h.len
  have he := h.even
  have hbl : ∀ d, d < 4 → (ds.getD d []).length = 4 ∧ Octets (ds.getD d []) := fun d hd => h.blocks _ (getD_mem (by rw [h.len]; exact hd))
  have b0 := hbl 0 (by omega)
  have b1 := hbl 1 (by omega)
  have b2 := hbl 2 (by omega)
  have b3 := hbl 3 (by omega)
  rw [h4] at he ⊢
  simp only [List.map_cons, List.map_nil, hdat, r0, r1, r2, r3]
  generalize ds.getD 0 [] = x0 at *
  generalize ds.getD 1 [] = x1 at *
  generalize ds.getD 2 [] = x2 at *
  generalize ds.getD 3 [] = x3 at *
  have e0 := fun i hi => (even_others he i hi).1
  have e1 := fun i hi => (even_others he i hi).2.1
  have e2 := fun i hi => (even_others he i hi).2.2.1
  have e3 := fun i hi => (even_others he i hi).2.2.2
  have k0 : (if badB a 0 s = true then xorAll [readX (cellAt a 1 s) (1 : Nat) s, readX (cellAt a 2 s) (2 : Nat) s, readX (cellAt a 3 s) (3 : Nat) s] else readX (cellAt a 0 s) (0 : Nat) s) = x0 := by
    by_cases hh : badB a 0 s = true
    · rw [if_pos hh, g1 (hgood 0 1 hh (by omega) (by omega) (by omega)), g2 (hgood 0 2 hh (by omega) (by omega) (by omega)), g3 (hgood 0 3 hh (by omega) (by omega) (by omega))]
      exact xorAll_block b0.1 b0.2 e0
    · rw [if_neg hh]; exact g0 (by simpa using hh)
  have k1 : (if badB a 1 s = true then xorAll [readX (cellAt a 0 s) (0 : Nat) s, readX (cellAt a 2 s) (2 : Nat) s, readX (cellAt a 3 s) (3 : Nat) s] else readX (cellAt a 1 s) (1 : Nat) s) = x1 := by
    by_cases hh : badB a 1 s = true
    · rw [if_pos hh, g0 (hgood 1 0 hh (by omega) (by omega) (by omega)), g2 (hgood 1 2 hh (by omega) (by omega) (by omega)), g3 (hgood 1 3 hh (by omega) (by omega) (by omega))]
      exact xorAll_block b1.1 b1.2 e1
    · rw [if_neg hh]; exact g1 (by simpa using hh)
  have k2 : (if badB a 2 s = true then xorAll [readX (cellAt a 0 s) (0 : Nat) s, readX (cellAt a 1 s) (1 : Nat) s, readX (cellAt a 3 s) (3 : Nat) s] else readX (cellAt a 2 s) (2 : Nat) s) = x2 := by
    by_cases hh : badB a 2 s = true
    · rw [if_pos hh, g0 (hgood 2 0 hh (by omega) (by omega) (by omega)), g1 (hgood 2 1 hh (by omega) (by omega) (by omega)), g3 (hgood 2 3 hh (by omega) (by omega) (by omega))]
      exact xorAll_block b2.1 b2.2 e2
    · rw [if_neg hh]; exact g2 (by simpa using hh)
  have k3 : (if badB a 3 s = true then xorAll [readX (cellAt a 0 s) (0 : Nat) s, readX (cellAt a 1 s) (1 : Nat) s, readX (cellAt a 2 s) (2 : Nat) s] else readX (cellAt a 3 s) (3 : Nat) s) = x3 := by
    by_cases hh : badB a 3 s = true
    · rw [if_pos hh, g0 (hgood 3 0 hh (by omega) (by omega) (by omega)), g1 (hgood 3 1 hh (by omega) (by omega) (by omega)), g2 (hgood 3 2 hh (by omega) (by omega) (by omega))]
      exact xorAll_block b3.1 b3.2 e3
    · rw [if_neg hh]; exact g3 (by simpa using hh)
  rw [k0, k1, k2, k3]

/-- An array all of whose stripes have what D says, and of each of which one cell at most is none. -/
structure Inv (a : ArrP) (D : Nat → List (List Int)) : Prop where
  arr : Arr a
  holds : ∀ s, s < 3 → Holds a s (D s)
  few : ∀ s, s < 3 → badN a s ≤ 1

/-- What its blocks are. -/
def Bk (D : Nat → List (List Int)) : List (List Int) := (List.range 9).map fun n => (D (sOf (n : Nat))).getD (dOf (n : Nat)) []

theorem Bk_getD (D : Nat → List (List Int)) {n : Nat} (h : n < 9) : (Bk D).getD n [] = (D (sOf (n : Nat))).getD (dOf (n : Nat)) [] := by
  simp [Bk, List.getD_eq_getElem?_getD, h]
theorem Bk_length (D : Nat → List (List Int)) : (Bk D).length = 9 := by simp [Bk]

theorem badB_false {a : ArrP} {d s : Nat} : badB a d s = false ↔ readE (cellAt a d s) d s = 0 := by simp [badB]

/-- A block is told, and it is what D says. -/
theorem Inv.read {a : ArrP} {D : Nat → List (List Int)} (h : Inv a D) {n : Nat} (hn : n < 9) : rdE a (n : Nat) = 0 ∧ rdX a (n : Nat) = (D (sOf (n : Nat))).getD (dOf (n : Nat)) [] := by
  obtain ⟨-, -, -, hd4, hs3⟩ := where_bd (n := (n : Int)) (by omega)
  have hh := h.holds _ hs3
  obtain ⟨e1, e2⟩ := hh.data h.arr.whole (h.few _ hs3)
  have hc : 0 ≤ (n : Int) ∧ (n : Int) < 9 := by omega
  rw [rdE, rdX, if_pos hc, if_pos hc, e1, e2]
  by_cases hr : readE (cellAt a (dOf (n : Nat)) (sOf (n : Nat))) (dOf (n : Nat)) (sOf (n : Nat)) = 0
  · rw [if_pos hr, if_pos hr]
    exact ⟨rfl, hh.reads _ hd4 (badB_false.2 hr)⟩
  · rw [if_neg hr, if_neg hr]
    exact ⟨rfl, rfl⟩

theorem Inv.blocks {a : ArrP} {D : Nat → List (List Int)} (h : Inv a D) : blkE a = 0 ∧ blkL a = Bk D := by
  have h1 : blkE a = 0 := blkE_ok fun j hj => (h.read hj).1
  refine ⟨h1, ?_⟩
  rw [blkL, if_pos h1]
  exact List.map_congr_left fun n hn => (h.read (List.mem_range.1 hn)).2

/-- A cell that is none, or has what it should. -/
theorem Holds.with {a : ArrP} (ha : Whole a) {s : Nat} {ds : List (List Int)} (h : Holds a s ds) {d0 s0 : Nat} (hd : d0 < 4) (hs : s0 < 3) {l : List Int} (hl : s0 = s → readE l d0 s0 = 0 → readX l d0 s0 = ds.getD d0 []) : Holds (withL a d0 s0 l) s ds := by
  refine ⟨h.len, h.blocks, h.even, fun d hd4 hb => ?_⟩
  have hc := ha.cellAt_with hd hs l d s
  by_cases hds : d = d0 ∧ s = s0
  · rw [if_pos hds] at hc
    obtain ⟨rfl, rfl⟩ := hds
    rw [hc]
    rw [badB_false, hc] at hb
    exact hl rfl hb
  · rw [if_neg hds] at hc
    rw [hc]
    rw [badB_false, hc] at hb
    exact h.reads d hd4 (badB_false.2 hb)

theorem readE_nil (d s : Int) : readE [] d s = 7 := by simp [readE]

theorem read_is_cell {l : List Int} {d s : Nat} (h : readE l d s = 0) : l = cellOf d s (readX l d s) ∧ l.length = 8 := by
  unfold readE at h
  split at h
  · rename_i h1
    split at h
    · rename_i h2
      rw [readX, if_pos h1, if_pos h2]
      obtain ⟨hl, hsl⟩ := h1
      refine ⟨?_, hl⟩
      rw [sealedB_of l 6 hl, beq_iff_eq] at hsl
      rw [cellOf]
      rw [show (d : Int) :: (s : Int) :: (l.drop 2).take 4 = l.take 6 from ?_]
      · exact hsl.symm
      · rw [← h2.1, ← h2.2]
        match l, hl with
        | [a0, a1, a2, a3, a4, a5, a6, a7], _ => rfl
    · cases h
  · cases h

theorem rotI_ne (x : Int) : rotI x ≠ x := by unfold rotI; split <;> omega
theorem rotI_back (x : Int) : rotI (rotI x) = x := by unfold rotI; split <;> (split <;> omega)

/-- A cell that is not none, one byte of which rots, is none. -/
theorem rot_bad {l : List Int} {d s k : Nat} (hd : d < 4) (hs : s < 3) (h : readE l d s = 0) (ho : Octets (readX l d s)) (hk : k < l.length) : readE (rotB l k) d s = 7 := by
  obtain ⟨e, hl⟩ := read_is_cell h
  have hoc : Octets l := by rw [e]; exact cellOf_octets (by omega) (by omega) ho
  have hb := hoc (l.getD k 0) (by simp [List.getD_eq_getElem?_getD, hk])
  have := (read_turned (d := (d : Int)) (s := (s : Int)) (l := readX l d s) (by omega) (by omega) ho (k := k) (c := rotI (l.getD k 0)) (by rw [← e]; exact hk) (rotI_bd hb) (by rw [← e]; exact fun h => rotI_ne _ h.symm) d s).2
  rw [← e] at this
  exact this

theorem new_cell {d s : Nat} (hd : d < 4) (hs : s < 3) : cellAt newP d s = cellOf d s nought := by
  simp [cellAt, newP, newDs, newRow, List.getD_eq_getElem?_getD, hd, hs]

theorem nought_even : EvenB [nought, nought, nought, nought] := by
  intro i hi
  rw [xC_four]
  match i, hi with
  | 0, _ => rfl
  | 1, _ => rfl
  | 2, _ => rfl
  | 3, _ => rfl

theorem newP_inv : Inv newP (fun _ => [nought, nought, nought, nought]) := by
  have hb : ∀ d s, d < 4 → s < 3 → badB newP d s = false := fun d s hd hs => by
    rw [badB_false, new_cell hd hs, (read_cell (d := d) (s := s) (l := nought) rfl d s).2, if_pos ⟨rfl, rfl⟩]
  refine ⟨newP_arr, fun s hs => ⟨rfl, fun b hb => ?_, nought_even, fun d hd _ => ?_⟩, fun s hs => ?_⟩
  · simp at hb; subst hb; exact ⟨rfl, nought_oct⟩
  · rw [new_cell hd hs, (read_cell (d := d) (s := s) (l := nought) rfl d s).1, if_pos ⟨rfl, rfl⟩]
    match d, hd with
    | 0, _ => rfl
    | 1, _ => rfl
    | 2, _ => rfl
    | 3, _ => rfl
  · rw [badN_eq newP_whole, hb 0 s (by omega) hs, hb 1 s (by omega) hs, hb 2 s (by omega) hs, hb 3 s (by omega) hs]
    simp

end Go.Proofs.YtjggiameajndgadGreatDoor

/-
  Plain: what gentle steps make of what stripes hold, and of blocks.
-/
namespace Go.Proofs.YtjggiameajndgadGreatDoor

theorem sOf_eq {n : Nat} (h : n < 9) : sOf (n : Nat) = n / 3 := by
  simp only [sOf, whereS]
  rw [if_pos (by omega)]
  omega

/-- Where the disks of what is planned are, blocks are what they were to be. -/
theorem planOut_at (bl : List (List Int)) {n : Nat} (hn : n < 9) : (planOut bl (sOf (n : Nat))).getD (dOf (n : Nat)) [] = bl.getD n [] := by
  obtain ⟨-, -, -, -, hs3⟩ := where_bd (n := (n : Int)) (by omega)
  rw [planOut_eq _ _ hs3]
  obtain rfl | rfl | rfl | rfl | rfl | rfl | rfl | rfl | rfl : n = 0 ∨ n = 1 ∨ n = 2 ∨ n = 3 ∨ n = 4 ∨ n = 5 ∨ n = 6 ∨ n = 7 ∨ n = 8 := by omega
  all_goals rfl

theorem xor_self3 (x y z : Nat) : x ^^^ (y ^^^ (z ^^^ (x ^^^ (y ^^^ z)))) = 0 := by
  rw [xor_left z x, xor_left y x, ← Nat.xor_assoc x x, Nat.xor_self, Nat.zero_xor, xor_left z y, ← Nat.xor_assoc y y, Nat.xor_self, Nat.zero_xor, Nat.xor_self]

theorem planOut_even (bl : List (List Int)) {s : Nat} (hs : s < 3) : EvenB (planOut bl s) := by
  intro i hi
  rw [planOut_eq _ _ hs]
  split
  · rw [xC_four, xorAll_toNat _ hi, xC_three, xor_self3]
  split
  · rw [xC_four, xorAll_toNat _ hi, xC_three]
    generalize ((bl.getD 3 []).getD i 0).toNat = x
    generalize ((bl.getD 4 []).getD i 0).toNat = y
    generalize ((bl.getD 5 []).getD i 0).toNat = z
    rw [Nat.xor_comm (x ^^^ (y ^^^ z)) z, xor_self3]
  · rw [xC_four, xorAll_toNat _ hi, xC_three]
    generalize ((bl.getD 6 []).getD i 0).toNat = x
    generalize ((bl.getD 7 []).getD i 0).toNat = y
    generalize ((bl.getD 8 []).getD i 0).toNat = z
    rw [xor_left (x ^^^ (y ^^^ z)) y z, Nat.xor_comm (x ^^^ (y ^^^ z)) z, xor_self3]

theorem planOut_octets {bl : List (List Int)} (h : ∀ b ∈ bl, Octets b) (hl : bl.length = 9) {s : Nat} (hs : s < 3) : ∀ b ∈ planOut bl s, Octets b := by
  have hg : ∀ k, k < 9 → Octets (bl.getD k []) := fun k hk => h _ (getD_mem (by omega))
  have hx : ∀ i j k, i < 9 → j < 9 → k < 9 → Octets (xorAll [bl.getD i [], bl.getD j [], bl.getD k []]) := fun i j k hi hj hk => xorAll_octets fun b hb => by
    simp only [List.mem_cons, List.not_mem_nil, or_false] at hb
    rcases hb with rfl | rfl | rfl
    · exact hg i hi
    · exact hg j hj
    · exact hg k hk
  rw [planOut_eq bl s hs]
  intro b hb
  split at hb
  · simp only [List.mem_cons, List.not_mem_nil, or_false] at hb
    rcases hb with rfl | rfl | rfl | rfl
    · exact hg 0 (by omega)
    · exact hg 1 (by omega)
    · exact hg 2 (by omega)
    · exact hx 0 1 2 (by omega) (by omega) (by omega)
  split at hb
  · simp only [List.mem_cons, List.not_mem_nil, or_false] at hb
    rcases hb with rfl | rfl | rfl | rfl
    · exact hg 3 (by omega)
    · exact hg 4 (by omega)
    · exact hx 3 4 5 (by omega) (by omega) (by omega)
    · exact hg 5 (by omega)
  · simp only [List.mem_cons, List.not_mem_nil, or_false] at hb
    rcases hb with rfl | rfl | rfl | rfl
    · exact hg 6 (by omega)
    · exact hx 6 7 8 (by omega) (by omega) (by omega)
    · exact hg 7 (by omega)
    · exact hg 8 (by omega)

theorem doAt_octets {ls : List (List Int)} {x : DeedP} (h : ∀ b ∈ ls, Octets b) (hx : Octets x.d) (i : Nat) : Octets (doAt ls x i) := by
  have hg : ∀ k, Octets (ls.getD k []) := fun k => by
    by_cases hk : k < ls.length
    · exact h _ (getD_mem hk)
    · rw [List.getD_eq_getElem?_getD, List.getElem?_eq_none (by omega)]; intro y hy; simp at hy
  unfold doAt
  split
  · exact hx
  split
  · exact hg _
  split
  · exact hg _
  · exact hg _

/-- What an intent's cells are: each reads as what is planned. -/
theorem make_cell {ds : List (List Int)} (h4 : ∀ b ∈ ds, b.length = 4) (hl : ds.length = 4) {d s : Nat} (hd : d < 4) : (makeL ds s).getD d [] = cellOf d s (ds.getD d []) ∧ readE ((makeL ds s).getD d []) d s = 0 ∧ readX ((makeL ds s).getD d []) d s = ds.getD d [] := by
  have e : (makeL ds s).getD d [] = cellOf d s (ds.getD d []) := by
    simp [makeL, List.getD_eq_getElem?_getD, hl, hd]
  have hlen : (ds.getD d []).length = 4 := h4 _ (getD_mem (by omega))
  have := read_cell (d := (d : Int)) (s := (s : Int)) hlen d s
  rw [e, this.1, this.2]
  simp

/-- All cells of a stripe are put. -/
theorem put_holds {a : ArrP} (ha : Whole a) {s : Nat} (hs : s < 3) {ds : List (List Int)} (hl : ds.length = 4) (hb : Blocks ds) (he : EvenB ds) :
    Holds (putTo a (makeL ds s) s 4) s ds ∧ (∀ d, d < 4 → badB (putTo a (makeL ds s) s 4) d s = false) ∧ badN (putTo a (makeL ds s) s 4) s = 0 := by
  have h4 : ∀ b ∈ ds, b.length = 4 := fun b hbm => (hb b hbm).1
  have hc : ∀ d, d < 4 → cellAt (putTo a (makeL ds s) s 4) d s = (makeL ds s).getD d [] := fun d hd => by rw [putTo_twice_at ha _ hs d s 4 (Nat.le_refl _), if_pos ⟨hd, rfl⟩]
  have hbad : ∀ d, d < 4 → badB (putTo a (makeL ds s) s 4) d s = false := fun d hd => by rw [badB_false, hc d hd, (make_cell h4 hl hd).2.1]
  refine ⟨⟨hl, hb, he, fun d hd _ => by rw [hc d hd, (make_cell h4 hl hd).2.2]⟩, hbad, ?_⟩
  rw [badN_eq (putTo_whole ha _ _ 4 (Nat.le_refl _)), hbad 0 (by omega), hbad 1 (by omega), hbad 2 (by omega), hbad 3 (by omega)]
  rfl

theorem cell_other {a b : ArrP} {s : Nat} (h : ∀ d, d < 4 → cellAt a d s = cellAt b d s) {ds : List (List Int)} (hh : Holds a s ds) : Holds b s ds := by
  refine ⟨hh.len, hh.blocks, hh.even, fun d hd hb => ?_⟩
  rw [badB_false, ← h d hd] at hb
  rw [← h d hd]
  exact hh.reads d hd (badB_false.2 hb)

theorem badN_other {a b : ArrP} (ha : Whole a) (hb : Whole b) {s : Nat} (h : ∀ d, d < 4 → cellAt a d s = cellAt b d s) : badN a s = badN b s := by
  rw [badN_eq ha, badN_eq hb]
  simp only [badB]
  rw [h 0 (by omega), h 1 (by omega), h 2 (by omega), h 3 (by omega)]

/-- A stripe's cells are put; the others are as they were. -/
theorem Inv.put {a : ArrP} {D : Nat → List (List Int)} (h : Inv a D) {s : Nat} (hs : s < 3) {ds : List (List Int)} (hl : ds.length = 4) (hb : Blocks ds) (he : EvenB ds) :
    Inv (putTo a (makeL ds s) s 4) (fun t => if t = s then ds else D t) := by
  have hA : Arr (putTo a (makeL ds s) s 4) := putTo_arr h.arr (fun b hb' => by rw [makeL_mem (fun b h => (hb b h).1) b hb']; omega) hs 4 (Nat.le_refl _)
  obtain ⟨h1, -, h3⟩ := put_holds h.arr.whole hs hl hb he
  have hc : ∀ t, t ≠ s → ∀ d, d < 4 → cellAt a d t = cellAt (putTo a (makeL ds s) s 4) d t := fun t ht d hd => by rw [putTo_twice_at h.arr.whole _ hs d t 4 (Nat.le_refl _), if_neg (fun hc => ht hc.2)]
  refine ⟨hA, fun t ht => ?_, fun t ht => ?_⟩
  · by_cases hts : t = s
    · subst hts; simp only [if_true]; exact h1
    · simp only [if_neg hts]; exact cell_other (hc t hts) (h.holds t ht)
  · by_cases hts : t = s
    · subst hts; omega
    · rw [← badN_other h.arr.whole hA.whole (hc t hts)]; exact h.few t ht

theorem Inv.planE {a : ArrP} {D : Nat → List (List Int)} (h : Inv a D) (x : DeedP) : planE a x = wrongE x := by
  unfold Go.Proofs.YtjggiameajndgadGreatDoor.planE
  split
  · rfl
  · rename_i hw
    have hw0 : wrongE x = 0 := Decidable.not_not.1 hw
    obtain ⟨-, hn0, hn8, -, -⟩ := right_deed hw0
    obtain ⟨-, -, -, -, hs3⟩ := where_bd (n := x.n) (by omega)
    rw [((h.holds _ hs3).data h.arr.whole (h.few _ hs3)).1, hw0]

/-- What stripes hold behind a deed. -/
def doD (D : Nat → List (List Int)) (x : DeedP) : Nat → List (List Int) := fun t => if t = sOf x.n then planOut (doL (spreadTo (D (sOf x.n)) (sOf x.n) 9) x) (sOf x.n) else D t

theorem Inv.doA {a : ArrP} {D : Nat → List (List Int)} (h : Inv a D) {x : DeedP} (hw : wrongE x = 0) (hx : Octets x.d) : Inv (doA a x) (doD D x) := by
  have he : Go.Proofs.YtjggiameajndgadGreatDoor.planE a x = 0 := (h.planE x).trans hw
  obtain ⟨s, hs3, hsx, -, -, hi⟩ := planI_ok he
  obtain ⟨e1, e2⟩ := (h.holds s hs3).data h.arr.whole (h.few s hs3)
  have hbl : planBl a x = doL (spreadTo (D s) s 9) x := by rw [planBl, ← hsx, e2]
  have hbs := planBl_blocks h.arr.whole he
  rw [doA_eq h.arr he, hi]
  simp only [Int.toNat_natCast]
  have hoct : ∀ b ∈ planBl a x, Octets b := fun b hb => by
    rw [hbl, doL] at hb
    obtain ⟨i, -, rfl⟩ := List.mem_map.1 hb
    refine doAt_octets (fun c hc => ?_) hx i
    simp only [spreadTo, List.mem_map, List.mem_range] at hc
    obtain ⟨n, hn, rfl⟩ := hc
    split
    · obtain ⟨-, -, -, hd4, -⟩ := where_bd (n := (n : Int)) (by omega)
      exact ((h.holds s hs3).blocks _ (getD_mem (by rw [(h.holds s hs3).len]; exact hd4))).2
    · exact nought_oct
  have hI := h.put hs3 (planOut_length (planBl a x) s) (fun b hb => ⟨planOut_blocks hbs.1 hbs.2 hs3 b hb, planOut_octets hoct hbs.2 hs3 b hb⟩) (planOut_even (planBl a x) hs3)
  rw [hbl] at hI ⊢
  rw [show doD D x = fun t => if t = s then planOut (doL (spreadTo (D s) s 9) x) s else D t from by funext t; rw [doD, ← hsx]]
  exact hI

theorem ext_getD {a b : List (List Int)} (hl : a.length = b.length) (h : ∀ i, i < a.length → a.getD i [] = b.getD i []) : a = b := by
  refine List.ext_getElem hl fun i g1 g2 => ?_
  have := h i g1
  rw [List.getD_eq_getElem?_getD, List.getD_eq_getElem?_getD, List.getElem?_eq_getElem g1, List.getElem?_eq_getElem g2] at this
  exact this

theorem doL_getD {ls : List (List Int)} {x : DeedP} {i : Nat} (h : i < ls.length) : (doL ls x).getD i [] = doAt ls x i := by
  simp [doL, List.getD_eq_getElem?_getD, h]

/-- Blocks behind a deed are what is meant. -/
theorem Bk_doD (D : Nat → List (List Int)) {x : DeedP} (hw : wrongE x = 0) : Bk (doD D x) = doL (Bk D) x := by
  obtain ⟨hk, hn0, hn8, h1, h2⟩ := right_deed hw
  obtain ⟨n, hn⟩ := Int.eq_ofNat_of_zero_le hn0
  have hn9 : n < 9 := by omega
  refine ext_getD (by rw [Bk_length, doL_length, Bk_length]) fun i g1 => ?_
  have hi9 : i < 9 := by rw [Bk_length] at g1; exact g1
  have hsp : ∀ k : Nat, k < 9 → sOf (k : Nat) = sOf x.n → (spreadTo (D (sOf x.n)) (sOf x.n) 9).getD k [] = (Bk D).getD k [] := fun k hk9 hks => by
    rw [Bk_getD D hk9, hks]
    simp [spreadTo, List.getD_eq_getElem?_getD, hk9, hks]
  have hm : x.k = 2 → ∃ m : Nat, x.m = (m : Int) ∧ m < 9 ∧ sOf (m : Nat) = sOf x.n := fun hk2 => by
    obtain ⟨e1, e2, -⟩ := h2 hk2
    have := whereE_zero e1
    obtain ⟨m, hm⟩ := Int.eq_ofNat_of_zero_le this.1
    exact ⟨m, hm, by omega, by rw [hm] at e2; simp only [sOf, e2]⟩
  rw [doL_getD (by rw [Bk_length]; exact hi9), Bk_getD _ hi9]
  by_cases hs : sOf (i : Nat) = sOf x.n
  · rw [doD, if_pos hs, ← hs, planOut_at _ hi9, hs]
    rw [doL_getD (by rw [spreadTo_length]; exact hi9)]
    unfold doAt
    split
    · rfl
    split
    · rename_i hc
      obtain ⟨m, e1, e2, e3⟩ := hm hc.1
      rw [e1, Int.toNat_natCast]
      exact hsp m e2 e3
    split
    · have e : x.n.toNat = n := by omega
      rw [e]
      exact hsp n hn9 (by rw [hn])
    · exact hsp i hi9 hs
  · rw [doD, if_neg hs, ← Bk_getD D hi9]
    unfold doAt
    rw [if_neg (fun hc => hs (by rw [hc.2])), if_neg (fun hc => hs (by rw [hc.2])), if_neg (fun hc => by
      obtain ⟨m, e1, e2, e3⟩ := hm hc.1
      exact hs (by rw [hc.2, e1, e3]))]

/-- One cell is another one, that is none. -/
theorem Inv.spoil {a : ArrP} {D : Nat → List (List Int)} (h : Inv a D) {d s : Nat} (hd : d < 4) (hs : s < 3) {l : List Int} (hl : l.length ≤ 8) (hr : readE l d s ≠ 0) (hf : ∀ t, t < 3 → badN (withL a d s l) t ≤ 1) : Inv (withL a d s l) D :=
  ⟨h.arr.with hd hs hl, fun t ht => (h.holds t ht).with h.arr.whole hd hs (fun _ he => absurd he hr), hf⟩

theorem holds_gone {a : ArrP} (ha : Arr a) {D : Nat → List (List Int)} (h : ∀ s, s < 3 → Holds a s (D s)) {d : Nat} (hd : d < 4) : ∀ k, k ≤ 3 → ∀ s, s < 3 → Holds (goneTo a d k) s (D s)
  | 0, _ => h
  | k + 1, hk => fun s hs => (holds_gone ha h hd k (by omega) s hs).with (goneTo_arr ha hd k (by omega)).whole hd (by omega) (fun _ he => by rw [readE_nil] at he; cases he)

/-- A disk that has nothing. -/
theorem Inv.gone {a : ArrP} {D : Nat → List (List Int)} (h : Inv a D) (d : Int) (hf : worstN (goneL a d) ≤ 1) : Inv (goneL a d) D := by
  refine ⟨goneL_arr h.arr d, fun s hs => ?_, worstN_le.1 hf⟩
  unfold goneL
  split
  · exact h.holds s hs
  · exact holds_gone h.arr h.holds (by omega) 3 (Nat.le_refl _) s hs

/-- A byte rots, of a cell that is not none. -/
theorem Inv.rot {a : ArrP} {D : Nat → List (List Int)} (h : Inv a D) {d s k : Int} (hr : rotOk a d s k → readE (cellAt a d.toNat s.toNat) d s = 0) (hf : worstN (rotL a d s k) ≤ 1) : Inv (rotL a d s k) D := by
  refine ⟨rotL_arr h.arr d s k, fun t ht => ?_, worstN_le.1 hf⟩
  unfold rotL
  split
  · rename_i hk
    have hr' := hr hk
    obtain ⟨h1, h2, h3, h4, h5, h6⟩ := hk
    obtain ⟨d, rfl⟩ := Int.eq_ofNat_of_zero_le h1
    obtain ⟨s, rfl⟩ := Int.eq_ofNat_of_zero_le h3
    simp only [Int.toNat_natCast] at *
    have hd4 : d < 4 := by omega
    have hs3 : s < 3 := by omega
    have hread := (h.holds s hs3).reads d hd4 (badB_false.2 hr')
    have hoct : Octets (readX (cellAt a d s) d s) := by rw [hread]; exact ((h.holds s hs3).blocks _ (getD_mem (by rw [(h.holds s hs3).len]; exact hd4))).2
    refine (h.holds t ht).with h.arr.whole hd4 hs3 (fun _ he => ?_)
    rw [rot_bad hd4 hs3 hr' hoct (by omega)] at he
    cases he
  · exact h.holds t ht

/-- A stripe is mended. -/
theorem Inv.mend {a : ArrP} {D : Nat → List (List Int)} (h : Inv a D) (s : Int) : Inv (mendL a s) D := by
  unfold mendL
  split
  · exact h
  · rename_i hn
    have hs : ¬ (s < 0 ∨ 2 < s) := fun hc => hn (.inl hc)
    obtain ⟨s, rfl⟩ := Int.eq_ofNat_of_zero_le (show 0 ≤ s by omega)
    simp only [Int.toNat_natCast]
    have hs3 : s < 3 := by omega
    have hh := h.holds s hs3
    rw [(hh.data h.arr.whole (h.few s hs3)).2]
    have := h.put hs3 hh.len hh.blocks hh.even
    rwa [show (fun t => if t = s then D s else D t) = D from by funext t; split; subst_vars; rfl; rfl] at this

/-- What stripes hold behind a step. -/
def stepD (D : Nat → List (List Int)) (x : StepP) : Nat → List (List Int) := if wrongE x.d = 0 ∧ (x.k = 1 ∨ (x.k = 2 ∧ 0 < x.n)) then doD D x.d else D

theorem doA_wrong {a : ArrP} {D : Nat → List (List Int)} (h : Inv a D) {x : DeedP} (hw : wrongE x ≠ 0) : doA a x = a := by
  rw [doA, h.planE x, if_neg hw]
theorem fallA_wrong {a : ArrP} {D : Nat → List (List Int)} (h : Inv a D) {x : DeedP} (hw : wrongE x ≠ 0) (n : Int) : fallA a x n = a := by
  rw [fallA, h.planE x, if_neg hw]

/-- A gentle step. -/
theorem Inv.step {a : ArrP} {D : Nat → List (List Int)} (h : Inv a D) {x : StepP} (hx : Octets x.d.d) (hg : gentleB a x = true) : Inv (stepA a x) (stepD D x) := by
  rw [gentleB, Bool.and_eq_true] at hg
  obtain ⟨hag, hw1⟩ := hg
  have hf : worstN (stepA a x) ≤ 1 := of_decide_eq_true hw1
  have hag' : againB a x = false := by simpa using hag
  clear hag hw1
  unfold stepA at hf ⊢
  by_cases k1 : x.k = 1
  · simp only [if_pos k1] at hf ⊢
    by_cases hw : wrongE x.d = 0
    · rw [stepD, if_pos ⟨hw, .inl k1⟩]; exact h.doA hw hx
    · rw [stepD, if_neg (fun hc => hw hc.1), doA_wrong h hw]; exact h
  by_cases k2 : x.k = 2
  · simp only [if_neg k1, if_pos k2] at hf ⊢
    by_cases hw : wrongE x.d = 0
    · rw [fallA_eq h.arr ((h.planE x.d).trans hw)]
      split
      · rename_i hn
        rw [stepD, if_neg (fun hc => by rcases hc.2 with hc | hc <;> omega)]; exact h
      · rename_i hn
        rw [stepD, if_pos ⟨hw, .inr ⟨k2, by omega⟩⟩]; exact h.doA hw hx
    · rw [stepD, if_neg (fun hc => hw hc.1), fallA_wrong h hw]; exact h
  have hD : stepD D x = D := if_neg (fun hc => by rcases hc.2 with hc | hc <;> omega)
  rw [hD]
  simp only [if_neg k1, if_neg k2] at hf ⊢
  by_cases k3 : x.k = 3
  · simp only [if_pos k3] at hf ⊢
    split at hf
    · rename_i hn; rw [if_pos hn]; exact h
    · rename_i hn
      rw [if_neg hn]
      refine h.rot (fun hk => ?_) hf
      have hcond := hk
      obtain ⟨g1, g2, g3, g4, -, -⟩ := hcond
      rw [againB, decide_eq_false_iff_not] at hag'
      exact Decidable.byContradiction fun hc => hag' ⟨k3, by omega, by omega, hc⟩
  simp only [if_neg k3] at hf ⊢
  by_cases k4 : x.k = 4
  · simp only [if_pos k4] at hf ⊢
    exact h.gone _ hf
  simp only [if_neg k4] at hf ⊢
  split
  · exact h.mend _
  · exact h

theorem Bk_stepD (D : Nat → List (List Int)) (x : StepP) : Bk (stepD D x) = if wrongE x.d = 0 ∧ (x.k = 1 ∨ (x.k = 2 ∧ 0 < x.n)) then doL (Bk D) x.d else Bk D := by
  unfold stepD
  split
  · rename_i h; exact Bk_doD D h.1
  · rfl

theorem Inv.gently : ∀ (n : Nat) (l : List StepP) {a : ArrP} {D : Nat → List (List Int)}, (∀ s ∈ l, Octets s.d.d) → Inv a D → ∃ D', Inv (gentlyFrom l a n) D'
  | 0, l, a, D, _, h => ⟨D, by rw [gentlyFrom]; exact h⟩
  | n + 1, [], a, D, _, h => ⟨D, by rw [gentlyFrom]; exact h⟩
  | n + 1, s :: r, a, D, ho, h => by
    rw [gentlyFrom]
    split
    · rename_i hg
      exact Inv.gently n r (fun t ht => ho t (by simp [ht])) (h.step (ho s (by simp)) hg)
    · exact ⟨D, h⟩

/-- Gentle play. -/
theorem gently_inv {l : List StepP} (ho : ∀ s ∈ l, Octets s.d.d) : ∃ D, Inv (gentlyL l) D := Inv.gently 100 l ho newP_inv

end Go.Proofs.YtjggiameajndgadGreatDoor
