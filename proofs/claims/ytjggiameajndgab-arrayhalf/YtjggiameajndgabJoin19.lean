import Derived.Test.YtjggiameajndgabJoin18
/-
  Chapter 5's statements, walked over what the program's model returns.
-/
namespace Go.Proofs.Ytjggiameajndgab
open Go.RowKit

/-- A slice of slices of bytes. -/
def AnBss (ls : List (List Int)) (v : Value) (w : World) : Prop := Bss w v ls
theorem AnBss.stable (ls : List (List Int)) : ∀ (v : Value) (x y : World), AnBss ls v x → Grow x y → AnBss ls v y := fun _ _ _ h hg => Bss.grow h hg

theorem refSame_eq (v u : Value) (a : List (List Int)) (w : World) (h : Bss w v a) (g : Bss w u a) : Calls Try.prog 20 #[v, u] w fun e w' => e = .returned (.bool true) ∧ Grow w w' := by
  have := refSame_any v u a a w h g
  rwa [show (a == a) = true from by simp] at this

end Go.Proofs.Ytjggiameajndgab

/-
  mhlaw8.ArrayTells returns true, whatever it is handed; nothing old turns.
-/
namespace Go.Proofs.Ytjggiameajndgab
open Go.RowKit

/-- An array. -/
def AnArr (a : ArrP) (v : Value) (w : World) : Prop := ArrV w v a
theorem AnArr.stable (a : ArrP) : ∀ (v : Value) (x y : World), AnArr a v x → Grow x y → AnArr a v y := fun _ _ _ h hg => ArrV.grow h hg

theorem same6_yes (va vb : Value) (a : ArrP) (w : World) (ha : ArrV w va a) (hb : ArrV w vb a) : Calls Try.prog 31 #[va, vb] w fun e w' => e = .returned (.bool true) ∧ Grow w w' := by
  have := refSame6_any va vb a a w ha hb
  rwa [sameB_iff.2 rfl] at this

theorem own_arr (v : Value) (a : ArrP) (w : World) (h : ArrV w v a) (ha : Whole a) (h8 : ∀ d s, (cellAt a d s).length ≤ 8) (hI : Few a) :
    Calls Try.prog 36 #[v] w fun e w' => ∃ r, e = .returned r ∧ AnArr a r w' ∧ Grow w w' :=
  (own_any v a w h ha h8 hI).mono fun _ _ ⟨_, _, _, he, hO, hg⟩ => ⟨_, he, hO.arr, hg⟩
theorem write_arr (v nv : Value) (a : ArrP) (s : Nat) (cs : List (List Int)) (n : Int) (w : World) (h : ArrV w v a) (ha : Whole a) (h8 : ∀ d s, (cellAt a d s).length ≤ 8) (hI : Few a) (hi : IntentV w nv ((s : Int), cs)) (hs3 : s < 3) (hc4 : cs.length = 4) (hc8 : ∀ b ∈ cs, b.length ≤ 8) :
    Calls Try.prog 44 #[v, nv, .int .i64 n] w fun e w' => ∃ r, e = .returned r ∧ AnArr (writeL a ((s : Int), cs) n) r w' ∧ Grow w w' :=
  (write_any v nv a s cs n w h ha h8 hI hi hs3 hc4 hc8).mono fun _ _ ⟨_, _, _, he, hO, hg⟩ => ⟨_, he, hO.arr, hg⟩
theorem mount_arr (v : Value) (a : ArrP) (w : World) (h : ArrV w v a) (ha : Whole a) (h8 : ∀ d s, (cellAt a d s).length ≤ 8) (hI : Fewer a) :
    Calls Try.prog 45 #[v] w fun e w' => ∃ r, e = .returned r ∧ AnArr (mountL a) r w' ∧ Grow w w' :=
  (mount_any v a w h ha h8 hI).mono fun _ _ ⟨_, _, _, he, hO, hg⟩ => ⟨_, he, hO.arr, hg⟩

/-- What an array that came of the first writes of an intent is. -/
theorem writeL_few {a : ArrP} (ha : Arr a) (s : Nat) (cs : List (List Int)) (hs : s < 3) (hc4 : cs.length = 4) (hc8 : ∀ b ∈ cs, b.length ≤ 8) (n : Int) :
    Whole (writeL a ((s : Int), cs) n) ∧ (∀ d s', (cellAt (writeL a ((s : Int), cs) n) d s').length ≤ 8) ∧ Fewer (writeL a ((s : Int), cs) n) := by
  have hw := writeTo_whole ha.whole ((s : Int), cs)
  have hp : ∀ k, k ≤ 4 → Arr (putTo a cs s k) := fun k hk => putTo_arr ha hc8 hs k hk
  have hcell : ∀ k, k ≤ 6 → ∀ d s', (cellAt (writeTo a ((s : Int), cs) k) d s').length ≤ 8 := fun k hk d s' => by
    by_cases h0 : k = 0
    · subst h0; exact ha.short d s'
    by_cases h6 : k = 6
    · subst h6
      have : (writeTo a ((s : Int), cs) 6).ds = (putTo a cs s 4).ds := by rw [six_eq]; rfl
      rw [cellAt, this]
      exact (hp 4 (by omega)).short d s'
    · obtain ⟨j, rfl⟩ : ∃ j, k = j + 1 := ⟨k - 1, by omega⟩
      have : (writeTo a ((s : Int), cs) (j + 1)).ds = (putTo a cs s j).ds := writeTo_mid_ds a ((s : Int), cs) j (by omega)
      rw [cellAt, this]
      exact (hp j (by omega)).short d s'
  have h6 := many6_le n
  refine ⟨hw _, hcell _ h6, ?_⟩
  show Fewer (writeTo a ((s : Int), cs) (many6 n))
  by_cases h0 : many6 n = 0
  · rw [h0]; exact .inl ha.none
  by_cases h6' : many6 n = 6
  · rw [h6']; exact .inl rfl
  · exact .inr ⟨s, cs, writeTo_is_mid a _ _ (by omega) (by omega), hs, hc4, hc8⟩

end Go.Proofs.Ytjggiameajndgab

/-
  A box of an array, a box of an intent, written while other operations of the same region go on.
-/
namespace Go.Proofs.Ytjggiameajndgab
open Go.RowKit

/-- An array without intents, of the call's own. -/
def ArrN (n : Nat) (a : ArrP) (v : Value) (w : World) : Prop := ∃ bs dv, v = .agg #[dv, .slice none 0 0] ∧ DRows n bs a.ds w dv
theorem ArrN.k3 {n : Nat} {a : ArrP} {v : Value} {x y : World} (h : ArrN n a v x) (hk : K3 x y) : ArrN n a v y := h.imp fun _ h => h.imp fun _ h => ⟨h.1, h.2.k3 hk⟩
theorem ArrN.stable {n : Nat} (a : ArrP) : ∀ (v : Value) (x y : World), ArrN n a v x → Grow x y → ArrN n a v y := fun _ _ _ h hg => h.k3 hg.k3
theorem ArrN.arr {n : Nat} {a : ArrP} {v : Value} {w : World} (h : ArrN n a v w) (ha : Arr a) : ArrV w v a := by
  obtain ⟨bs, dv, rfl, hD⟩ := h
  exact OwnA.arr ⟨ha.whole, hD, .inl ⟨ha.none, rfl⟩⟩
theorem OwnA.arrN {B n : Nat} {bs : List Nat} {w : World} {dv iv : Value} {a : ArrP} (h : OwnA B bs w dv iv a) (hn : a.is = []) (hb : n ≤ B) : ArrN n a (.agg #[dv, iv]) w := by
  have h' := h.low hb
  rcases h'.its with ⟨-, rfl⟩ | ⟨q, r, cap, cur, s, cs, e, -⟩
  · exact ⟨bs, dv, rfl, h'.disks⟩
  · rw [hn] at e; cases e

/-- A box of an array is written. -/
def T2 (n : Nat) (x y : World) : Prop := ∃ b c0 c1 d0 d1, n ≤ b ∧ x.heap[b]? = some (.cells #[c0, c1] 39 (0, 0)) ∧ y.heap[b]? = some (.cells #[d0, d1] 39 (0, 0)) ∧ x.grownBy y (some b)
/-- A box of an intent is written. -/
def T3 (n : Nat) (x y : World) : Prop := ∃ b m a1 a2 a3 m' e1 e2 e3, n ≤ b ∧ x.heap[b]? = some (.cells #[.int .i64 m, .slice a1 a2 a3] 62 (0, 0)) ∧ y.heap[b]? = some (.cells #[.int .i64 m', .slice e1 e2 e3] 62 (0, 0)) ∧ x.grownBy y (some b)

theorem k3_of {x y : World} {b : Nat} {cs : Array Value} {t : TypeId} (hb : x.heap[b]? = some (.cells cs t (0, 0))) (ht : t ≠ 5 ∧ t ≠ 23 ∧ t ≠ 22) (hg : x.grownBy y (some b)) : K3 x y := fun k cs' t' ht' hk => (hg.block k (heap_lt hk) (fun e => by
  injection e with e
  subst e
  rw [hb] at hk
  injection hk with hk
  injection hk with _ hk _
  subst hk
  rcases ht' with h | h | h
  · exact ht.1 h
  · exact ht.2.1 h
  · exact ht.2.2 h)).trans hk
theorem T2.k3 {n : Nat} {x y : World} (h : T2 n x y) : K3 x y := by
  obtain ⟨b, c0, c1, d0, d1, -, h1, -, h2⟩ := h
  exact k3_of h1 (by decide) h2
theorem T3.k3 {n : Nat} {x y : World} (h : T3 n x y) : K3 x y := by
  obtain ⟨b, m, a1, a2, a3, m', e1, e2, e3, -, h1, -, h2⟩ := h
  exact k3_of h1 (by decide) h2
theorem T2.inn {n : Nat} {x y : World} (h : T2 n x y) : GrownIn x y (fun j => n ≤ j) := by
  obtain ⟨b, c0, c1, d0, d1, h0, h1, -, h2⟩ := h
  exact GrownIn.of_by h2 (fun k hk => by cases hk; exact h0)
theorem T3.inn {n : Nat} {x y : World} (h : T3 n x y) : GrownIn x y (fun j => n ≤ j) := by
  obtain ⟨b, m, a1, a2, a3, m', e1, e2, e3, h0, h1, -, h2⟩ := h
  exact GrownIn.of_by h2 (fun k hk => by cases hk; exact h0)
theorem T3.bss {n : Nat} {x y : World} {v : Value} {ls : List (List Int)} (h : T3 n x y) (hl : 2 ≤ ls.length) (hv : Bss x v ls) : Bss y v ls := by
  obtain ⟨b, m, a1, a2, a3, m', e1, e2, e3, h0, h1, -, h2⟩ := h
  exact ((Itn.bss ⟨_, _, _, _, _, h1⟩ hv hl).step h2).plain

/-- Boxes. -/
def Box2 (n : Nat) (v : Value) (w : World) : Prop := ∃ b c0 c1, v = .pointer (some ⟨b, 0, none⟩) ∧ n ≤ b ∧ w.heap[b]? = some (.cells #[c0, c1] 39 (0, 0))
theorem Box2.stable (n : Nat) : ∀ (v : Value) (x y : World), Box2 n v x → Grow x y → Box2 n v y := fun _ _ _ ⟨b, c0, c1, h1, h2, h3⟩ hg => ⟨b, c0, c1, h1, h2, hg.block' h3⟩
theorem Box2.t2 {n : Nat} {v : Value} {x y : World} (h : Box2 n v x) (ht : T2 n x y) : Box2 n v y := by
  obtain ⟨b, c0, c1, h1, h2, h3⟩ := h
  obtain ⟨b', k0, k1, d0, d1, e0, e1, e2, e3⟩ := ht
  by_cases hb : b = b'
  · subst hb; exact ⟨b, d0, d1, h1, h2, e2⟩
  · exact ⟨b, c0, c1, h1, h2, (e3.block b (heap_lt h3) (fun e => hb (by injection e))).trans h3⟩
def Box3 (n : Nat) (v : Value) (w : World) : Prop := ∃ b m a1 a2 a3, v = .pointer (some ⟨b, 0, none⟩) ∧ n ≤ b ∧ w.heap[b]? = some (.cells #[.int .i64 m, .slice a1 a2 a3] 62 (0, 0))
theorem Box3.stable (n : Nat) : ∀ (v : Value) (x y : World), Box3 n v x → Grow x y → Box3 n v y := fun _ _ _ ⟨b, m, a1, a2, a3, h1, h2, h3⟩ hg => ⟨b, m, a1, a2, a3, h1, h2, hg.block' h3⟩
theorem Box3.t3 {n : Nat} {v : Value} {x y : World} (h : Box3 n v x) (ht : T3 n x y) : Box3 n v y := by
  obtain ⟨b, m, a1, a2, a3, h1, h2, h3⟩ := h
  obtain ⟨b', k, k1, k2, k3, m', d1, d2, d3, e0, e1, e2, e3⟩ := ht
  by_cases hb : b = b'
  · subst hb; exact ⟨b, m', d1, d2, d3, h1, h2, e2⟩
  · exact ⟨b, m, a1, a2, a3, h1, h2, (e3.block b (heap_lt h3) (fun e => hb (by injection e))).trans h3⟩

/-- Nothing is asked. -/
def Triv (_ : Nat) (_ : Value) (_ : World) : Prop := True
theorem Triv.stable (n : Nat) : ∀ (v : Value) (x y : World), Triv n v x → Grow x y → Triv n v y := fun _ _ _ _ _ => trivial

/-- An array and an error. -/
def DoN (n : Nat) (a : ArrP) (v : Value) (w : World) : Prop := ∃ u, v = .tuple #[u, .int .i64 0] ∧ ArrN n a u w
theorem DoN.stable {n : Nat} (a : ArrP) : ∀ (v : Value) (x y : World), DoN n a v x → Grow x y → DoN n a v y := fun _ _ _ ⟨u, h1, h2⟩ hg => ⟨u, h1, h2.k3 hg.k3⟩
/-- An intent. -/
def IntN (s : Nat) (cs : List (List Int)) (v : Value) (w : World) : Prop := ∃ c1 c2 c3, v = .agg #[.int .i64 s, .slice c1 c2 c3] ∧ Bss w (.slice c1 c2 c3) cs
theorem IntN.stable {s : Nat} (cs : List (List Int)) : ∀ (v : Value) (x y : World), IntN s cs v x → Grow x y → IntN s cs v y := fun _ _ _ ⟨c1, c2, c3, h1, h2⟩ hg => ⟨c1, c2, c3, h1, h2.grow hg⟩
def PlN (s : Nat) (cs : List (List Int)) (v : Value) (w : World) : Prop := ∃ u, v = .tuple #[u, .int .i64 0] ∧ IntN s cs u w
theorem PlN.stable {s : Nat} (cs : List (List Int)) : ∀ (v : Value) (x y : World), PlN s cs v x → Grow x y → PlN s cs v y := fun _ _ _ ⟨u, h1, h2⟩ hg => ⟨u, h1, h2.stable _ _ _ _ hg⟩
theorem IntN.t3 {n s : Nat} {cs : List (List Int)} (hl : 2 ≤ cs.length) {v : Value} {x y : World} (h : IntN s cs v x) (ht : T3 n x y) : IntN s cs v y := by
  obtain ⟨c1, c2, c3, h1, h2⟩ := h
  exact ⟨c1, c2, c3, h1, ht.bss hl h2⟩

/-- A box that has an array, an intent. -/
def Has2 (n : Nat) (a : ArrP) (v : Value) (w : World) : Prop := ∃ b x1 x2 x3, v = .pointer (some ⟨b, 0, none⟩) ∧ n ≤ b ∧ w.heap[b]? = some (.cells #[.slice x1 x2 x3, .slice none 0 0] 39 (0, 0)) ∧ ArrN n a (.agg #[.slice x1 x2 x3, .slice none 0 0]) w
theorem Has2.stable {n : Nat} (a : ArrP) : ∀ (v : Value) (x y : World), Has2 n a v x → Grow x y → Has2 n a v y := fun _ _ _ ⟨b, x1, x2, x3, h1, h2, h3, h4⟩ hg => ⟨b, x1, x2, x3, h1, h2, hg.block' h3, h4.k3 hg.k3⟩
def Has3 (n s : Nat) (cs : List (List Int)) (v : Value) (w : World) : Prop := ∃ b c1 c2 c3, v = .pointer (some ⟨b, 0, none⟩) ∧ n ≤ b ∧ w.heap[b]? = some (.cells #[.int .i64 s, .slice c1 c2 c3] 62 (0, 0)) ∧ Bss w (.slice c1 c2 c3) cs
theorem Has3.stable {n s : Nat} (cs : List (List Int)) : ∀ (v : Value) (x y : World), Has3 n s cs v x → Grow x y → Has3 n s cs v y := fun _ _ _ ⟨b, c1, c2, c3, h1, h2, h3, h4⟩ hg => ⟨b, c1, c2, c3, h1, h2, hg.block' h3, h4.grow hg⟩

/-- What the closed fact is about. -/
def xA : DeedP := ⟨1, 4, 0, [97, 98, 99, 100]⟩
def aA : ArrP := doA newP xA
def sA : Nat := 1
def cA : List (List Int) := (planI newP xA).2
def mA (n : Int) : ArrP := mountL (writeL newP ((1 : Int), cA) n)

theorem planA : planE newP xA = 0 := by kernel_rfl
theorem planIA : planI newP xA = (((1 : Nat) : Int), cA) := by
  obtain ⟨s, -, hs, -, -, hi⟩ := planI_ok planA
  rw [Prod.ext_iff]
  exact ⟨by rw [hi, hs]; rfl, rfl⟩
theorem cA_len : cA.length = 4 ∧ ∀ b ∈ cA, b.length ≤ 8 := by
  have := planI_cells newP_whole planA
  exact ⟨this.1, fun b hb => by rw [this.2 b hb]; omega⟩
theorem readA : rdE aA 4 = 0 ∧ rdX aA 4 = [97, 98, 99, 100] := by constructor <;> kernel_rfl
theorem blockA : blkE aA = 0 ∧ (blkL aA).length = 9 := by constructor <;> kernel_rfl
theorem readM : rdX (mA 2) 4 = [97, 98, 99, 100] ∧ rdX (mA 0) 4 = [0, 0, 0, 0] := by constructor <;> kernel_rfl

end Go.Proofs.Ytjggiameajndgab

/-
  mhlaw8.alive returns true; nothing old turns.
-/
namespace Go.Proofs.Ytjggiameajndgab
open Go.RowKit

theorem new_n (n : Nat) (w : World) (hn : n ≤ w.heap.size) : Calls Try.prog 32 #[] w fun e w' => ∃ r, e = .returned r ∧ ArrN n newP r w' ∧ Grow w w' :=
  (arrNew_own w).mono fun _ _ ⟨_, _, _, he, hO, hg⟩ => ⟨_, he, hO.arrN rfl hn, hg⟩
theorem do_n (n : Nat) (v dv : Value) (w : World) (h : ArrN n newP v w) (hd : DeedV w dv xA) (hn : n ≤ w.heap.size) : Calls Try.prog 34 #[v, dv] w fun e w' => ∃ r, e = .returned r ∧ DoN n aA r w' ∧ Grow w w' :=
  (arrDo_any v dv newP xA w (h.arr newP_arr) newP_whole newP_arr.short (.inl rfl) hd).mono fun _ _ ⟨_, _, _, he, hO, hg⟩ => ⟨_, he, ⟨_, by rw [planA], hO.arrN (doA_arr newP_arr xA).none hn⟩, hg⟩
theorem plan_n (n : Nat) (v dv : Value) (w : World) (h : ArrN n newP v w) (hd : DeedV w dv xA) : Calls Try.prog 41 #[v, dv] w fun e w' => ∃ r, e = .returned r ∧ PlN 1 cA r w' ∧ Grow w w' :=
  (arrPlan_any v dv newP xA w (h.arr newP_arr) newP_whole newP_arr.short hd).mono fun _ _ ⟨_, he, hI, hg⟩ => by
    rw [planIA] at hI
    obtain ⟨cv, rfl, hb⟩ := hI
    obtain ⟨a, c, e⟩ := Sl.form hb
    refine ⟨_, he, ⟨_, by rw [planA], a, _, c, by rw [← e], ?_⟩, hg⟩
    rw [← e]
    exact hb
theorem write_n (n : Nat) (v nv : Value) (m : Int) (w : World) (h : ArrN n newP v w) (hi : IntN 1 cA nv w) : Calls Try.prog 44 #[v, nv, .int .i64 m] w fun e w' => ∃ r, e = .returned r ∧ AnArr (writeL newP ((1 : Int), cA) m) r w' ∧ Grow w w' := by
  obtain ⟨c1, c2, c3, rfl, hb⟩ := hi
  exact write_arr v _ newP 1 cA m w (h.arr newP_arr) newP_whole newP_arr.short (.inl rfl) ⟨_, rfl, hb⟩ (by omega) cA_len.1 cA_len.2
theorem mA_few (m : Int) : Whole (writeL newP ((1 : Int), cA) m) ∧ (∀ d s', (cellAt (writeL newP ((1 : Int), cA) m) d s').length ≤ 8) ∧ Fewer (writeL newP ((1 : Int), cA) m) := writeL_few newP_arr 1 cA (by omega) cA_len.1 cA_len.2 m

/-- An array that has been mounted, of the call's own. -/
def MtN (n : Nat) (a : ArrP) (v : Value) (w : World) : Prop := ∃ bs dv iv, v = .agg #[dv, iv] ∧ OwnA n bs w dv iv a
theorem MtN.stable {n : Nat} (a : ArrP) : ∀ (v : Value) (x y : World), MtN n a v x → Grow x y → MtN n a v y := fun _ _ _ ⟨bs, dv, iv, h1, h2⟩ hg => ⟨bs, dv, iv, h1, h2.k4 hg.k4⟩
theorem mount_n (n : Nat) (v : Value) (m : Int) (w : World) (h : AnArr (writeL newP ((1 : Int), cA) m) v w) (hn : n ≤ w.heap.size) : Calls Try.prog 45 #[v] w fun e w' => ∃ r, e = .returned r ∧ MtN n (mA m) r w' ∧ Grow w w' :=
  (mount_any v _ w h (mA_few m).1 (mA_few m).2.1 (mA_few m).2.2).mono fun _ _ ⟨_, _, _, he, hO, hg⟩ => ⟨_, he, ⟨_, _, _, rfl, hO.low hn⟩, hg⟩

theorem mA_arr (m : Int) : Arr (mA m) := by
  have := fallA_arr newP_arr xA m
  rw [fallA, if_pos planA, planIA] at this
  exact this

set_option maxRecDepth 20000 in
set_option maxHeartbeats 12800000 in
theorem alive8_any (w : World) : Calls Try.prog 47 #[] w fun e w' => e = .returned (.bool true) ∧ Grow w w' := by
  have hcv := Lib.run_convert_bytes_const (P := Try.prog) w 23 5 #[.int .u8 97, .int .u8 98, .int .u8 99, .int .u8 100] 4 4 Try.underlying23 Try.underlying5
  obtain ⟨W, hW⟩ : ∃ W, W = (w.alloc (.cells #[.int .u8 97, .int .u8 98, .int .u8 99, .int .u8 100] 5 (4, 5))).alloc (.cells #[.int .i64 1, .int .i64 4, .int .i64 0, .slice (some ⟨w.heap.size, 0, none⟩) 4 4] 25) := ⟨_, rfl⟩
  have hgW : Grow w W := by rw [hW]; exact (Grow.alloc _ _).trans (Grow.alloc _ _)
  have HD : Hid (DeedV W (.agg #[.int .i64 1, .int .i64 4, .int .i64 0, .slice (some ⟨w.heap.size, 0, none⟩) 4 4]) xA) := by
    have hab : Bs (w.alloc (.cells #[.int .u8 97, .int .u8 98, .int .u8 99, .int .u8 100] 5 (4, 5))) (.slice (some ⟨w.heap.size, 0, none⟩) 4 4) [97, 98, 99, 100] := Bs.lit (by unfold maxLen; simp) octets_abcd _
    rw [Hid, hW]
    exact ⟨_, rfl, hab.grow (Grow.alloc _ _)⟩
  have hB : W.heap[w.heap.size + 1]? = some (.cells #[.int .i64 1, .int .i64 4, .int .i64 0, .slice (some ⟨w.heap.size, 0, none⟩) 4 4] 25 (0, 0)) := by rw [hW]; exact heap_alloc2_new w _ _
  have q0 : W.cell? ⟨w.heap.size + 1, 0, none⟩ = some (.int .i64 1) := row_at hB 0 rfl
  have q1 : W.cell? ⟨w.heap.size + 1, 1, none⟩ = some (.int .i64 4) := row_at hB 1 rfl
  have q2 : W.cell? ⟨w.heap.size + 1, 2, none⟩ = some (.int .i64 0) := row_at hB 2 rfl
  have q3 : W.cell? ⟨w.heap.size + 1, 3, none⟩ = some (.slice (some ⟨w.heap.size, 0, none⟩) 4 4) := row_at hB 3 rfl
  obtain ⟨n, hn, hlt⟩ : ∃ n, n ≤ W.heap.size ∧ W.heap.size ≤ n := ⟨_, Nat.le_refl _, Nat.le_refl _⟩
  have HN : Hid (n ≤ W.heap.size ∧ W.heap.size ≤ n) := ⟨hn, hlt⟩
  have hF0 : ∀ x : World, GrownIn x x (fun j => n ≤ j) := fun x => GrownIn.refl x _
  have hF1 : ∀ x y z : World, GrownIn x y (fun j => n ≤ j) → Grow y z → GrownIn x z (fun j => n ≤ j) := fun x y z h1 h2 => h1.trans (h2.inn _)
  have hF2 : ∀ x y z : World, GrownIn x y (fun j => n ≤ j) → T2 n y z → GrownIn x z (fun j => n ≤ j) := fun x y z h1 h2 => h1.trans h2.inn
  have stabT : ∀ (a : ArrP) (v : Value) (x y : World), ArrN n a v x → T2 n x y → ArrN n a v y := fun a v x y h ht => h.k3 ht.k3
  have stabT2 : ∀ (a : ArrP) (v : Value) (x y : World), DoN n a v x → T2 n x y → DoN n a v y := fun a v x y ⟨u, h1, h2⟩ ht => ⟨u, h1, h2.k3 ht.k3⟩
  have stabT3 : ∀ (v : Value) (x y : World), Box2 n v x → T2 n x y → Box2 n v y := fun v x y h ht => h.t2 ht
  have stabZ : ∀ (v : Value) (x y : World), Has2 n aA v x → Grow x y → Has2 n aA v y := fun v x y h hg => h.stable _ _ _ _ hg
  have HG : Hid (∀ x : World, GrownIn { W with drawn := W.drawn + 1 } x (fun j => n ≤ j) → Grow W x) := fun x hx => (Grow.drewN W 1).thenIn hx (fun k hk => by omega)
  have HS : Hid (∀ x : World, GrownIn { W with drawn := W.drawn + 1 } x (fun j => n ≤ j) → n ≤ x.heap.size) := fun x hx => Nat.le_trans hn (HG.out x hx).size
  clear hB hn hlt HN
  go_enter Try.func47, Try.ntmps47
  go_wp2
  rw [← hW]
  clear hW hcv
  refine wp_region_oneZ 7 6 (Has2 n aA) (by decide) (by decide) (by kernel_rfl) Grow (T2 n) (fun x y => GrownIn x y (fun j => n ≤ j)) [(fun x y => GrownIn x y (fun j => n ≤ j), Grow), (fun x y => GrownIn x y (fun j => n ≤ j), Grow), (fun x y => GrownIn x y (fun j => n ≤ j), Grow), (fun x y => GrownIn x y (fun j => n ≤ j), Grow), (fun x y => GrownIn x y (fun j => n ≤ j), Grow), (fun x y => GrownIn x y (fun j => n ≤ j), Grow), (fun x y => GrownIn x y (fun j => n ≤ j), Grow), (Grow, T2 n), (fun x y => GrownIn x y (fun j => n ≤ j), Grow)] [ArrN n newP, IsV (.agg #[.int .i64 1, .int .i64 4, .int .i64 0, .slice (some ⟨w.heap.size, 0, none⟩) 4 4]), DoN n aA, DoN n aA, ArrN n aA, IsV (.int .i64 0), Box2 n, Triv 0, IsV (.int .i64 0)] rfl (by kernel_rfl) (by kernel_rfl) rfl Grow.refl (fun _ _ _ => Grow.trans) (hF0 _) (hF1 _) (hF2 _) ?_ ?_ stabZ ?_ ?_
  · repeat (refine List.forall_mem_cons.2 ⟨by first | exact IsV.stable _ | exact ArrN.stable _ | exact Box2.stable _ | exact DoN.stable _ | exact Triv.stable _, ?_⟩)
    exact fun R hR => nomatch hR
  · skip
    refine ⟨by first | exact fun _ _ _ h _ => h | exact stabT | exact stabT _ | exact stabT2 | exact stabT2 _ | exact stabT3 | exact stabT4 | exact fun _ _ _ _ _ => trivial, ?_⟩
    refine ⟨by first | exact fun _ _ _ h _ => h | exact stabT | exact stabT _ | exact stabT2 | exact stabT2 _ | exact stabT3 | exact stabT4 | exact fun _ _ _ _ _ => trivial, ?_⟩
    refine ⟨by first | exact fun _ _ _ h _ => h | exact stabT | exact stabT _ | exact stabT2 | exact stabT2 _ | exact stabT3 | exact stabT4 | exact fun _ _ _ _ _ => trivial, ?_⟩
    refine ⟨by first | exact fun _ _ _ h _ => h | exact stabT | exact stabT _ | exact stabT2 | exact stabT2 _ | exact stabT3 | exact stabT4 | exact fun _ _ _ _ _ => trivial, ?_⟩
    refine ⟨by first | exact fun _ _ _ h _ => h | exact stabT | exact stabT _ | exact stabT2 | exact stabT2 _ | exact stabT3 | exact stabT4 | exact fun _ _ _ _ _ => trivial, ?_⟩
    refine ⟨by first | exact fun _ _ _ h _ => h | exact stabT | exact stabT _ | exact stabT2 | exact stabT2 _ | exact stabT3 | exact stabT4 | exact fun _ _ _ _ _ => trivial, ?_⟩
    refine ⟨by first | exact fun _ _ _ h _ => h | exact stabT | exact stabT _ | exact stabT2 | exact stabT2 _ | exact stabT3 | exact stabT4 | exact fun _ _ _ _ _ => trivial, ?_⟩
    repeat (refine List.forall_mem_cons.2 ⟨by first | exact fun _ _ _ h _ => h | exact stabT | exact stabT _ | exact stabT2 | exact stabT2 _ | exact stabT3 | exact stabT4 | exact fun _ _ _ _ _ => trivial, ?_⟩)
    exact fun R hR => nomatch hR
  · skip
    refine StepsZ.cons ?_ fun v0 => ⟨_, _, by simp only [Act.put, List.setIfInBounds_toArray, List.set_cons_succ, List.set_cons_zero]; first | done | rfl, by simp only [List.nil_append]; first | done | rfl, ?_⟩
    · intro w1 hE hd
      clear hd
      go_wp2_with fail
      refine (new_n n _ (HS.out _ hE)).mono ?_
      rintro e w4 ⟨r', rfl, hr', hg4⟩
      go_wp2_with fail
      exact ⟨_, rfl, hg4, hr'⟩
    refine StepsZ.cons ?_ fun v1 => ⟨_, _, by simp only [Act.put, List.setIfInBounds_toArray, List.set_cons_succ, List.set_cons_zero]; first | done | rfl, by simp only [List.nil_append, List.cons_append]; first | done | rfl, ?_⟩
    · intro w1 hE hd
      clear hd
      have hgx := HG.out _ hE
      have p0 := hgx.at q0
      have p1 := hgx.at q1
      have p2 := hgx.at q2
      have p3 := hgx.at q3
      go_wp2
      exact ⟨_, rfl, Grow.refl _, rfl⟩
    refine StepsZ.cons ?_ fun v2 => ⟨_, _, by simp only [Act.put, List.setIfInBounds_toArray, List.set_cons_succ, List.set_cons_zero]; first | done | rfl, by simp only [List.nil_append, List.cons_append]; first | done | rfl, ?_⟩
    · intro w1 hE hd
      have d0 := dep_at hd 0 rfl rfl rfl
      obtain rfl := IsV.eq (dep_at hd 1 rfl rfl rfl)
      clear hd
      go_wp2_with fail
      refine (do_n n _ _ _ d0 (HD.out.grow (HG.out _ hE)) (HS.out _ hE)).mono ?_
      rintro e w4 ⟨r', rfl, hr', hg4⟩
      go_wp2_with fail
      exact ⟨_, rfl, hg4, hr'⟩
    refine StepsZ.cons ?_ fun v3 => ⟨_, _, by simp only [Act.put, List.setIfInBounds_toArray, List.set_cons_succ, List.set_cons_zero]; first | done | rfl, by simp only [List.nil_append, List.cons_append]; first | done | rfl, ?_⟩
    · intro w1 hE hd
      have d2 := dep_at hd 0 rfl rfl rfl
      clear hd
      go_wp2
      exact ⟨_, rfl, Grow.refl _, d2⟩
    refine StepsZ.cons ?_ fun v4 => ⟨_, _, by simp only [Act.put, List.setIfInBounds_toArray, List.set_cons_succ, List.set_cons_zero]; first | done | rfl, by simp only [List.nil_append, List.cons_append]; first | done | rfl, ?_⟩
    · intro w1 hE hd
      have d3 := dep_at hd 0 rfl rfl rfl
      clear hd
      obtain ⟨u, rfl, hu⟩ := d3
      go_wp2
      exact ⟨_, rfl, Grow.refl _, hu⟩
    refine StepsZ.cons ?_ fun v5 => ⟨_, _, by simp only [Act.put, List.setIfInBounds_toArray, List.set_cons_succ, List.set_cons_zero]; first | done | rfl, by simp only [List.nil_append, List.cons_append]; first | done | rfl, ?_⟩
    · intro w1 hE hd
      have d3 := dep_at hd 0 rfl rfl rfl
      clear hd
      obtain ⟨u, rfl, hu⟩ := d3
      go_wp2
      exact ⟨_, rfl, Grow.refl _, rfl⟩
    refine StepsZ.cons ?_ fun v6 => ⟨_, _, by simp only [Act.put, List.setIfInBounds_toArray, List.set_cons_succ, List.set_cons_zero]; first | done | rfl, by simp only [List.nil_append, List.cons_append]; first | done | rfl, ?_⟩
    · intro w1 hE hd
      clear hd
      have hgx := HS.out _ hE
      go_wp2
      exact ⟨_, rfl, Grow.alloc _ _, _, _, _, rfl, hgx, heap_alloc_new _ _⟩
    refine StepsZ.here v6 rfl ?_ fun v7 => ⟨_, _, by rfl, by simp only [List.nil_append, List.cons_append]; first | done | rfl, ?_⟩
    · intro w1 hE hd
      have d6 := dep_at hd 0 rfl rfl rfl
      have d4 := dep_at hd 1 rfl rfl rfl
      clear hd
      obtain ⟨b, c0, c1, rfl, hb, hbb⟩ := d6
      obtain ⟨bs, dv, rfl, hD⟩ := d4
      obtain ⟨g, cap, rfl, -, -⟩ := hD.own.form (by decide)
      have k0 := two_at0 hbb
      have k1 := two_at1 hbb
      have f0 : w1.frozen? ⟨b, 0, none⟩ = false := frozen_of_row w1 _ 0 _ _ hbb
      have f1 : w1.frozen? ⟨b, 1, none⟩ = false := frozen_of_row w1 _ 1 _ _ hbb
      have h1 := two_set0 (z := .slice (some ⟨g, 0, none⟩) aA.ds.length cap) hbb
      have h2 := two_set1 (z := .slice none 0 0) h1
      have hby : w1.grownBy ((w1.setCell ⟨b, 0, none⟩ (.slice (some ⟨g, 0, none⟩) aA.ds.length cap)).setCell ⟨b, 1, none⟩ (.slice none 0 0)) (some b) := (grown_set _ _ _ _).trans (grown_set _ _ _ _)
      have hT : T2 n w1 ((w1.setCell ⟨b, 0, none⟩ (.slice (some ⟨g, 0, none⟩) aA.ds.length cap)).setCell ⟨b, 1, none⟩ (.slice none 0 0)) := ⟨b, _, _, _, _, hb, hbb, h2, hby⟩
      have HA : Hid (T2 n w1 ((w1.setCell ⟨b, 0, none⟩ (.slice (some ⟨g, 0, none⟩) aA.ds.length cap)).setCell ⟨b, 1, none⟩ (.slice none 0 0)) ∧ True ∧ Has2 n aA (.pointer (some ⟨b, 0, none⟩)) ((w1.setCell ⟨b, 0, none⟩ (.slice (some ⟨g, 0, none⟩) aA.ds.length cap)).setCell ⟨b, 1, none⟩ (.slice none 0 0))) := ⟨hT, trivial, b, _, _, _, rfl, hb, h2, bs, _, rfl, hD.k3 hT.k3⟩
      clear hD h1 h2 hby hT
      go_wp2
      exact ⟨.bool true, rfl, HA.out.1, trivial, HA.out.2.2⟩
    refine StepsT.cons ?_ fun v8 => ⟨_, _, by simp only [Act.put, List.setIfInBounds_toArray, List.set_cons_succ, List.set_cons_zero]; first | done | rfl, by simp only [List.nil_append, List.cons_append]; first | done | rfl, ?_⟩
    · intro w1 hE hd
      obtain rfl := IsV.eq (dep_at hd 0 rfl rfl rfl)
      clear hd
      go_wp2
      exact ⟨_, rfl, Grow.refl _, rfl⟩
    trivial
  intro zp w2 hw2 hZw2
  show FinS _ _ _ [ArrN n newP, IsV (.agg #[.int .i64 1, .int .i64 4, .int .i64 0, .slice (some ⟨w.heap.size, 0, none⟩) 4 4]), DoN n aA, DoN n aA, ArrN n aA, IsV (.int .i64 0), fun v w => (Box2 n) v w ∧ v = zp, Triv 0, IsV (.int .i64 0)] _
  refine FinS.cons fun v0 h0 => ⟨_, by simp only [Act.put, List.setIfInBounds_toArray, List.set_cons_succ, List.set_cons_zero]; first | done | rfl, ?_⟩
  refine FinS.cons ?_; rintro _ rfl; refine ⟨_, by simp only [Act.put, List.setIfInBounds_toArray, List.set_cons_succ, List.set_cons_zero]; first | done | rfl, ?_⟩
  refine FinS.cons fun v2 h2 => ⟨_, by simp only [Act.put, List.setIfInBounds_toArray, List.set_cons_succ, List.set_cons_zero]; first | done | rfl, ?_⟩
  refine FinS.cons fun v3 h3 => ⟨_, by simp only [Act.put, List.setIfInBounds_toArray, List.set_cons_succ, List.set_cons_zero]; first | done | rfl, ?_⟩
  refine FinS.cons fun v4 h4 => ⟨_, by simp only [Act.put, List.setIfInBounds_toArray, List.set_cons_succ, List.set_cons_zero]; first | done | rfl, ?_⟩
  refine FinS.cons ?_; rintro _ rfl; refine ⟨_, by simp only [Act.put, List.setIfInBounds_toArray, List.set_cons_succ, List.set_cons_zero]; first | done | rfl, ?_⟩
  refine FinS.cons fun v6 h6 => ⟨_, by simp only [Act.put, List.setIfInBounds_toArray, List.set_cons_succ, List.set_cons_zero]; first | done | rfl, ?_⟩
  refine FinS.cons fun v7 h7 => ⟨_, by rfl, ?_⟩
  refine FinS.cons ?_; rintro _ rfl; refine ⟨_, by simp only [Act.put, List.setIfInBounds_toArray, List.set_cons_succ, List.set_cons_zero]; first | done | rfl, ?_⟩
  first | show Exit.then _ _ _ _ _ | show Exit.inBlock _ _ _ _ _
  obtain ⟨-, rfl⟩ := h6
  obtain ⟨b2, x1, x2, x3, rfl, hbn, hb2, hA2⟩ := hZw2
  have hg2 := HG.out _ hw2
  have r0 := hg2.at q0
  have r1 := hg2.at q1
  have r2 := hg2.at q2
  have r3 := hg2.at q3
  have HD2 : Hid (DeedV w2 (.agg #[.int .i64 1, .int .i64 4, .int .i64 0, .slice (some ⟨w.heap.size, 0, none⟩) 4 4]) xA) := HD.out.grow hg2
  have HB2 : Hid (w2.heap[b2]? = some (.cells #[.slice x1 x2 x3, .slice none 0 0] 39 (0, 0)) ∧ ArrV w2 (.agg #[.slice x1 x2 x3, .slice none 0 0]) aA) := ⟨hb2, hA2.arr (doA_arr newP_arr xA)⟩
  have hgw2 := hgW.trans hg2
  clear h0 h2 h3 h4 h7 hb2 hA2 hbn hw2 q0 q1 q2 q3 HD HG HS hF0 hF1 hF2 stabT stabT2 stabT3 stabZ
  clear n
  obtain ⟨n, hn, hlt⟩ : ∃ n, n ≤ w2.heap.size ∧ w2.heap.size ≤ n := ⟨_, Nat.le_refl _, Nat.le_refl _⟩
  have hF0 : ∀ x : World, GrownIn x x (fun j => n ≤ j) := fun x => GrownIn.refl x _
  have hF1 : ∀ x y z : World, GrownIn x y (fun j => n ≤ j) → Grow y z → GrownIn x z (fun j => n ≤ j) := fun x y z h1 h2 => h1.trans (h2.inn _)
  have hF2 : ∀ x y z : World, GrownIn x y (fun j => n ≤ j) → T3 n y z → GrownIn x z (fun j => n ≤ j) := fun x y z h1 h2 => h1.trans h2.inn
  have stabT : ∀ (a : ArrP) (v : Value) (x y : World), ArrN n a v x → T3 n x y → ArrN n a v y := fun a v x y h ht => h.k3 ht.k3
  have stabT2 : ∀ (v : Value) (x y : World), PlN 1 cA v x → T3 n x y → PlN 1 cA v y := fun v x y ⟨u, h1, h2⟩ ht => ⟨u, h1, h2.t3 (by rw [cA_len.1]; omega) ht⟩
  have stabT3 : ∀ (v : Value) (x y : World), Box3 n v x → T3 n x y → Box3 n v y := fun v x y h ht => h.t3 ht
  have stabT4 : ∀ (v : Value) (x y : World), IntN 1 cA v x → T3 n x y → IntN 1 cA v y := fun v x y h ht => h.t3 (by rw [cA_len.1]; omega) ht
  have stabZ : ∀ (v : Value) (x y : World), Has3 n 1 cA v x → Grow x y → Has3 n 1 cA v y := fun v x y h hg => h.stable _ _ _ _ hg
  have HG : Hid (∀ x : World, GrownIn { w2 with drawn := w2.drawn + 1 } x (fun j => n ≤ j) → Grow w2 x) := fun x hx => (Grow.drewN w2 1).thenIn hx (fun k hk => by omega)
  have HS : Hid (∀ x : World, GrownIn { w2 with drawn := w2.drawn + 1 } x (fun j => n ≤ j) → n ≤ x.heap.size) := fun x hx => Nat.le_trans hn (HG.out x hx).size
  clear hn hlt
  go_wp2
  refine wp_region_oneZ 7 6 (Has3 n 1 cA) (by decide) (by decide) (by kernel_rfl) Grow (T3 n) (fun x y => GrownIn x y (fun j => n ≤ j)) [(fun x y => GrownIn x y (fun j => n ≤ j), Grow), (fun x y => GrownIn x y (fun j => n ≤ j), Grow), (fun x y => GrownIn x y (fun j => n ≤ j), Grow), (fun x y => GrownIn x y (fun j => n ≤ j), Grow), (fun x y => GrownIn x y (fun j => n ≤ j), Grow), (fun x y => GrownIn x y (fun j => n ≤ j), Grow), (fun x y => GrownIn x y (fun j => n ≤ j), Grow), (Grow, T3 n), (fun x y => GrownIn x y (fun j => n ≤ j), Grow)] [ArrN n newP, IsV (.agg #[.int .i64 1, .int .i64 4, .int .i64 0, .slice (some ⟨w.heap.size, 0, none⟩) 4 4]), PlN 1 cA, PlN 1 cA, IntN 1 cA, IsV (.int .i64 0), Box3 n, Triv 0, IsV (.int .i64 0)] rfl (by kernel_rfl) (by kernel_rfl) rfl Grow.refl (fun _ _ _ => Grow.trans) (hF0 _) (hF1 _) (hF2 _) ?_ ?_ stabZ ?_ ?_
  · repeat (refine List.forall_mem_cons.2 ⟨by first | exact IsV.stable _ | exact ArrN.stable _ | exact Box3.stable _ | exact IntN.stable _ | exact PlN.stable _ | exact Triv.stable _, ?_⟩)
    exact fun R hR => nomatch hR
  · skip
    refine ⟨by first | exact fun _ _ _ h _ => h | exact stabT | exact stabT _ | exact stabT2 | exact stabT2 _ | exact stabT3 | exact stabT4 | exact fun _ _ _ _ _ => trivial, ?_⟩
    refine ⟨by first | exact fun _ _ _ h _ => h | exact stabT | exact stabT _ | exact stabT2 | exact stabT2 _ | exact stabT3 | exact stabT4 | exact fun _ _ _ _ _ => trivial, ?_⟩
    refine ⟨by first | exact fun _ _ _ h _ => h | exact stabT | exact stabT _ | exact stabT2 | exact stabT2 _ | exact stabT3 | exact stabT4 | exact fun _ _ _ _ _ => trivial, ?_⟩
    refine ⟨by first | exact fun _ _ _ h _ => h | exact stabT | exact stabT _ | exact stabT2 | exact stabT2 _ | exact stabT3 | exact stabT4 | exact fun _ _ _ _ _ => trivial, ?_⟩
    refine ⟨by first | exact fun _ _ _ h _ => h | exact stabT | exact stabT _ | exact stabT2 | exact stabT2 _ | exact stabT3 | exact stabT4 | exact fun _ _ _ _ _ => trivial, ?_⟩
    refine ⟨by first | exact fun _ _ _ h _ => h | exact stabT | exact stabT _ | exact stabT2 | exact stabT2 _ | exact stabT3 | exact stabT4 | exact fun _ _ _ _ _ => trivial, ?_⟩
    refine ⟨by first | exact fun _ _ _ h _ => h | exact stabT | exact stabT _ | exact stabT2 | exact stabT2 _ | exact stabT3 | exact stabT4 | exact fun _ _ _ _ _ => trivial, ?_⟩
    repeat (refine List.forall_mem_cons.2 ⟨by first | exact fun _ _ _ h _ => h | exact stabT | exact stabT _ | exact stabT2 | exact stabT2 _ | exact stabT3 | exact stabT4 | exact fun _ _ _ _ _ => trivial, ?_⟩)
    exact fun R hR => nomatch hR
  · skip
    refine StepsZ.cons ?_ fun v0 => ⟨_, _, by simp only [Act.put, List.setIfInBounds_toArray, List.set_cons_succ, List.set_cons_zero]; first | done | rfl, by simp only [List.nil_append]; first | done | rfl, ?_⟩
    · intro w1 hE hd
      clear hd
      go_wp2_with fail
      refine (new_n n _ (HS.out _ hE)).mono ?_
      rintro e w4 ⟨r', rfl, hr', hg4⟩
      go_wp2_with fail
      exact ⟨_, rfl, hg4, hr'⟩
    refine StepsZ.cons ?_ fun v1 => ⟨_, _, by simp only [Act.put, List.setIfInBounds_toArray, List.set_cons_succ, List.set_cons_zero]; first | done | rfl, by simp only [List.nil_append, List.cons_append]; first | done | rfl, ?_⟩
    · intro w1 hE hd
      clear hd
      have hgx := HG.out _ hE
      have p0 := hgx.at r0
      have p1 := hgx.at r1
      have p2 := hgx.at r2
      have p3 := hgx.at r3
      go_wp2
      exact ⟨_, rfl, Grow.refl _, rfl⟩
    refine StepsZ.cons ?_ fun v2 => ⟨_, _, by simp only [Act.put, List.setIfInBounds_toArray, List.set_cons_succ, List.set_cons_zero]; first | done | rfl, by simp only [List.nil_append, List.cons_append]; first | done | rfl, ?_⟩
    · intro w1 hE hd
      have d0 := dep_at hd 0 rfl rfl rfl
      obtain rfl := IsV.eq (dep_at hd 1 rfl rfl rfl)
      clear hd
      go_wp2_with fail
      refine (plan_n n _ _ _ d0 (HD2.out.grow (HG.out _ hE))).mono ?_
      rintro e w4 ⟨r', rfl, hr', hg4⟩
      go_wp2_with fail
      exact ⟨_, rfl, hg4, hr'⟩
    refine StepsZ.cons ?_ fun v3 => ⟨_, _, by simp only [Act.put, List.setIfInBounds_toArray, List.set_cons_succ, List.set_cons_zero]; first | done | rfl, by simp only [List.nil_append, List.cons_append]; first | done | rfl, ?_⟩
    · intro w1 hE hd
      have d2 := dep_at hd 0 rfl rfl rfl
      clear hd
      go_wp2
      exact ⟨_, rfl, Grow.refl _, d2⟩
    refine StepsZ.cons ?_ fun v4 => ⟨_, _, by simp only [Act.put, List.setIfInBounds_toArray, List.set_cons_succ, List.set_cons_zero]; first | done | rfl, by simp only [List.nil_append, List.cons_append]; first | done | rfl, ?_⟩
    · intro w1 hE hd
      have d3 := dep_at hd 0 rfl rfl rfl
      clear hd
      obtain ⟨u, rfl, hu⟩ := d3
      go_wp2
      exact ⟨_, rfl, Grow.refl _, hu⟩
    refine StepsZ.cons ?_ fun v5 => ⟨_, _, by simp only [Act.put, List.setIfInBounds_toArray, List.set_cons_succ, List.set_cons_zero]; first | done | rfl, by simp only [List.nil_append, List.cons_append]; first | done | rfl, ?_⟩
    · intro w1 hE hd
      have d3 := dep_at hd 0 rfl rfl rfl
      clear hd
      obtain ⟨u, rfl, hu⟩ := d3
      go_wp2
      exact ⟨_, rfl, Grow.refl _, rfl⟩
    refine StepsZ.cons ?_ fun v6 => ⟨_, _, by simp only [Act.put, List.setIfInBounds_toArray, List.set_cons_succ, List.set_cons_zero]; first | done | rfl, by simp only [List.nil_append, List.cons_append]; first | done | rfl, ?_⟩
    · intro w1 hE hd
      clear hd
      have hgx := HS.out _ hE
      go_wp2
      exact ⟨_, rfl, Grow.alloc _ _, _, _, _, _, _, rfl, hgx, heap_alloc_new _ _⟩
    refine StepsZ.here v6 rfl ?_ fun v7 => ⟨_, _, by rfl, by simp only [List.nil_append, List.cons_append]; first | done | rfl, ?_⟩
    · intro w1 hE hd
      have d6 := dep_at hd 0 rfl rfl rfl
      have d4 := dep_at hd 1 rfl rfl rfl
      clear hd
      obtain ⟨b, m, a1, a2, a3, rfl, hb, hbb⟩ := d6
      obtain ⟨c1, c2, c3, rfl, hD⟩ := d4
      have k0 := two_at0 hbb
      have k1 := two_at1 hbb
      have f0 : w1.frozen? ⟨b, 0, none⟩ = false := frozen_of_row w1 _ 0 _ _ hbb
      have f1 : w1.frozen? ⟨b, 1, none⟩ = false := frozen_of_row w1 _ 1 _ _ hbb
      have h1 := two_set0 (z := .int .i64 1) hbb
      have h2 := two_set1 (z := .slice c1 c2 c3) h1
      have hT : T3 n w1 ((w1.setCell ⟨b, 0, none⟩ (.int .i64 1)).setCell ⟨b, 1, none⟩ (.slice c1 c2 c3)) := ⟨b, _, _, _, _, _, _, _, _, hb, hbb, h2, (grown_set _ _ _ _).trans (grown_set _ _ _ _)⟩
      have HA : Hid (T3 n w1 ((w1.setCell ⟨b, 0, none⟩ (.int .i64 1)).setCell ⟨b, 1, none⟩ (.slice c1 c2 c3)) ∧ Has3 n 1 cA (.pointer (some ⟨b, 0, none⟩)) ((w1.setCell ⟨b, 0, none⟩ (.int .i64 1)).setCell ⟨b, 1, none⟩ (.slice c1 c2 c3))) := ⟨hT, b, _, _, _, rfl, hb, h2, hT.bss (by rw [cA_len.1]; omega) hD⟩
      clear hD h1 h2 hT
      go_wp2
      exact ⟨.bool true, rfl, HA.out.1, trivial, HA.out.2⟩
    refine StepsT.cons ?_ fun v8 => ⟨_, _, by simp only [Act.put, List.setIfInBounds_toArray, List.set_cons_succ, List.set_cons_zero]; first | done | rfl, by simp only [List.nil_append, List.cons_append]; first | done | rfl, ?_⟩
    · intro w1 hE hd
      obtain rfl := IsV.eq (dep_at hd 0 rfl rfl rfl)
      clear hd
      go_wp2
      exact ⟨_, rfl, Grow.refl _, rfl⟩
    trivial
  intro zp w3 hw3 hZw3
  show FinS _ _ _ [ArrN n newP, IsV (.agg #[.int .i64 1, .int .i64 4, .int .i64 0, .slice (some ⟨w.heap.size, 0, none⟩) 4 4]), PlN 1 cA, PlN 1 cA, IntN 1 cA, IsV (.int .i64 0), fun v w => (Box3 n) v w ∧ v = zp, Triv 0, IsV (.int .i64 0)] _
  refine FinS.cons fun v0 h0 => ⟨_, by simp only [Act.put, List.setIfInBounds_toArray, List.set_cons_succ, List.set_cons_zero]; first | done | rfl, ?_⟩
  refine FinS.cons ?_; rintro _ rfl; refine ⟨_, by simp only [Act.put, List.setIfInBounds_toArray, List.set_cons_succ, List.set_cons_zero]; first | done | rfl, ?_⟩
  refine FinS.cons fun v2 h2 => ⟨_, by simp only [Act.put, List.setIfInBounds_toArray, List.set_cons_succ, List.set_cons_zero]; first | done | rfl, ?_⟩
  refine FinS.cons fun v3 h3 => ⟨_, by simp only [Act.put, List.setIfInBounds_toArray, List.set_cons_succ, List.set_cons_zero]; first | done | rfl, ?_⟩
  refine FinS.cons fun v4 h4 => ⟨_, by simp only [Act.put, List.setIfInBounds_toArray, List.set_cons_succ, List.set_cons_zero]; first | done | rfl, ?_⟩
  refine FinS.cons ?_; rintro _ rfl; refine ⟨_, by simp only [Act.put, List.setIfInBounds_toArray, List.set_cons_succ, List.set_cons_zero]; first | done | rfl, ?_⟩
  refine FinS.cons fun v6 h6 => ⟨_, by simp only [Act.put, List.setIfInBounds_toArray, List.set_cons_succ, List.set_cons_zero]; first | done | rfl, ?_⟩
  refine FinS.cons fun v7 h7 => ⟨_, by rfl, ?_⟩
  refine FinS.cons ?_; rintro _ rfl; refine ⟨_, by simp only [Act.put, List.setIfInBounds_toArray, List.set_cons_succ, List.set_cons_zero]; first | done | rfl, ?_⟩
  first | show Exit.then _ _ _ _ _ | show Exit.inBlock _ _ _ _ _
  obtain ⟨-, rfl⟩ := h6
  obtain ⟨b3, c1, c2, c3, rfl, hbn, hb3, hC3⟩ := hZw3
  have hg3 := HG.out _ hw3
  have HC3 : Hid (w3.heap[b3]? = some (.cells #[.int .i64 1, .slice c1 c2 c3] 62 (0, 0)) ∧ Bss w3 (.slice c1 c2 c3) cA) := ⟨hb3, hC3⟩
  have HB3 : Hid (w3.heap[b2]? = some (.cells #[.slice x1 x2 x3, .slice none 0 0] 39 (0, 0)) ∧ ArrV w3 (.agg #[.slice x1 x2 x3, .slice none 0 0]) aA) := ⟨hg3.block' HB2.out.1, HB2.out.2.grow hg3⟩
  have hgw3 := hgw2.trans hg3
  clear h0 h2 h3 h4 h7 hb3 hC3 hbn hw3 r0 r1 r2 r3 HD2 HG HS hF0 hF1 hF2 stabT stabT2 stabT3 stabT4 stabZ HB2
  clear n
  have HAA : Hid (Arr aA) := doA_arr newP_arr xA
  have k0 := two_at0 HB3.out.1
  have k1 := two_at1 HB3.out.1
  have hRd := arrRead_any (.agg #[.slice x1 x2 x3, .slice none 0 0]) aA 4 w3 HB3.out.2 HAA.out.whole HAA.out.short
  rw [readA.1, readA.2] at hRd
  go_wp2_with fail
  refine hRd.mono ?_
  rintro e w4 ⟨r4, rfl, hr4, hg4⟩
  clear hRd
  have j0 := hg4.at k0
  have j1 := hg4.at k1
  have hBl := arrBlocks_any (.agg #[.slice x1 x2 x3, .slice none 0 0]) aA w4 (HB3.out.2.grow hg4) HAA.out.whole HAA.out.short
  rw [blockA.1] at hBl
  go_wp2_with fail
  refine hBl.mono ?_
  rintro e w5 ⟨r5, rfl, hr5, hg5⟩
  clear hBl j0 j1 k0 k1
  obtain ⟨a5, c5, rfl, h51, h52⟩ := hr5.form'
  rw [blockA.2] at h51 ⊢
  have hg35 := hg4.trans hg5
  have HB5 : Hid (w5.heap[b2]? = some (.cells #[.slice x1 x2 x3, .slice none 0 0] 39 (0, 0)) ∧ ArrV w5 (.agg #[.slice x1 x2 x3, .slice none 0 0]) aA) := ⟨hg35.block' HB3.out.1, HB3.out.2.grow hg35⟩
  have HC5 : Hid (w5.heap[b3]? = some (.cells #[.int .i64 1, .slice c1 c2 c3] 62 (0, 0)) ∧ Bss w5 (.slice c1 c2 c3) cA) := ⟨hg35.block' HC3.out.1, HC3.out.2.grow hg35⟩
  have HR5 : Hid (Bs w5 r4 [97, 98, 99, 100]) := hr4.grow hg5
  have hgw5 := hgw3.trans hg35
  clear hr4 hr5 HB3 HC3
  have i0 := two_at0 HC5.out.1
  have i1 := two_at1 HC5.out.1
  go_wp2
  refine wp_region_last [_, _, _, _, _] _ rfl Grow [ArrN w5.heap.size newP, IsV (.agg #[.int .i64 1, .slice c1 c2 c3]), AnArr (writeL newP ((1 : Int), cA) 2), MtN w5.heap.size (mA 2), Box2 w5.heap.size] (by kernel_rfl) (by kernel_rfl) (by kernel_rfl) rfl Grow.refl (fun _ _ _ => Grow.trans) ?_ ?_ ?_
  · repeat (refine List.forall_mem_cons.2 ⟨by first | exact IsV.stable _ | exact AnArr.stable _ | exact ArrN.stable _ | exact Box2.stable _ | exact MtN.stable _, ?_⟩)
    exact fun R hR => nomatch hR
  · skip
    refine StepsS.cons ?_ fun v0 => ⟨_, _, by simp only [Act.put, List.setIfInBounds_toArray, List.set_cons_succ, List.set_cons_zero]; first | done | rfl, by simp only [List.nil_append]; first | done | rfl, ?_⟩
    · intro w1 hE hd
      clear hd
      go_wp2_with fail
      refine (new_n w5.heap.size _ hE.drew.size).mono ?_
      rintro e w4 ⟨r', rfl, hr', hg4⟩
      go_wp2_with fail
      exact ⟨_, rfl, hg4, hr'⟩
    refine StepsS.cons ?_ fun v1 => ⟨_, _, by simp only [Act.put, List.setIfInBounds_toArray, List.set_cons_succ, List.set_cons_zero]; first | done | rfl, by simp only [List.nil_append, List.cons_append]; first | done | rfl, ?_⟩
    · intro w1 hE hd
      clear hd
      have p0 := hE.drew.at i0
      have p1 := hE.drew.at i1
      go_wp2
      exact ⟨_, rfl, Grow.refl _, rfl⟩
    refine StepsS.cons ?_ fun v2 => ⟨_, _, by simp only [Act.put, List.setIfInBounds_toArray, List.set_cons_succ, List.set_cons_zero]; first | done | rfl, by simp only [List.nil_append, List.cons_append]; first | done | rfl, ?_⟩
    · intro w1 hE hd
      have d0 := dep_at hd 0 rfl rfl rfl
      obtain rfl := IsV.eq (dep_at hd 1 rfl rfl rfl)
      clear hd
      go_wp2_with fail
      refine (write_n w5.heap.size _ _ 2 _ d0 ⟨_, _, _, rfl, HC5.out.2.grow hE.drew⟩).mono ?_
      rintro e w4 ⟨r', rfl, hr', hg4⟩
      go_wp2_with fail
      exact ⟨_, rfl, hg4, hr'⟩
    refine StepsS.cons ?_ fun v3 => ⟨_, _, by simp only [Act.put, List.setIfInBounds_toArray, List.set_cons_succ, List.set_cons_zero]; first | done | rfl, by simp only [List.nil_append, List.cons_append]; first | done | rfl, ?_⟩
    · intro w1 hE hd
      have d2 := dep_at hd 0 rfl rfl rfl
      clear hd
      go_wp2_with fail
      refine (mount_n w5.heap.size _ 2 _ d2 hE.drew.size).mono ?_
      rintro e w4 ⟨r', rfl, hr', hg4⟩
      go_wp2_with fail
      exact ⟨_, rfl, hg4, hr'⟩
    refine StepsS.cons ?_ fun v4 => ⟨_, _, by simp only [Act.put, List.setIfInBounds_toArray, List.set_cons_succ, List.set_cons_zero]; first | done | rfl, by simp only [List.nil_append, List.cons_append]; first | done | rfl, ?_⟩
    · intro w1 hE hd
      clear hd
      have hgx := hE.drew.size
      go_wp2
      exact ⟨_, rfl, Grow.alloc _ _, _, _, _, rfl, hgx, heap_alloc_new _ _⟩
    trivial
  intro w6 hw6
  refine FinS.cons fun v0 h0 => ⟨_, by simp only [Act.put, List.setIfInBounds_toArray, List.set_cons_succ, List.set_cons_zero]; first | done | rfl, ?_⟩
  refine FinS.cons ?_; rintro _ rfl; refine ⟨_, by simp only [Act.put, List.setIfInBounds_toArray, List.set_cons_succ, List.set_cons_zero]; first | done | rfl, ?_⟩
  refine FinS.cons fun v2 h2 => ⟨_, by simp only [Act.put, List.setIfInBounds_toArray, List.set_cons_succ, List.set_cons_zero]; first | done | rfl, ?_⟩
  refine FinS.cons fun v3 h3 => ⟨_, by simp only [Act.put, List.setIfInBounds_toArray, List.set_cons_succ, List.set_cons_zero]; first | done | rfl, ?_⟩
  refine FinS.cons fun v4 h4 => ⟨_, by simp only [Act.put, List.setIfInBounds_toArray, List.set_cons_succ, List.set_cons_zero]; first | done | rfl, ?_⟩
  show wpList _ _ _ _ _ _
  obtain ⟨b6, z0, z1, rfl, hb6n, hb6⟩ := h4
  obtain ⟨bs6, dv6, iv6, rfl, hO6⟩ := h3
  obtain ⟨⟨e1, e2, e3, rfl⟩, f1, f2, f3, rfl⟩ := hO6.forms
  have s0 := two_at0 hb6
  have s1 := two_at1 hb6
  have g0 : w6.frozen? ⟨b6, 0, none⟩ = false := frozen_of_row w6 _ 0 _ _ hb6
  have g1 : w6.frozen? ⟨b6, 1, none⟩ = false := frozen_of_row w6 _ 1 _ _ hb6
  have hg56 : Grow w5 w6 := hw6.drew
  have hs6 := two_set0 (z := .slice e1 e2 e3) hb6
  have hs6' := two_set1 (z := .slice f1 f2 f3) hs6
  have hO6' := (hO6.k4 (K4.set (k := 0) (u := .slice e1 e2 e3) hb6)).k4 (K4.set (k := 1) (u := .slice f1 f2 f3) hs6)
  have hg57 : Grow w5 ((w6.setCell ⟨b6, 0, none⟩ (.slice e1 e2 e3)).setCell ⟨b6, 1, none⟩ (.slice f1 f2 f3)) := (hg56.set hb6n _).set hb6n _
  obtain ⟨w7, hw7⟩ : ∃ w7, w7 = (w6.setCell ⟨b6, 0, none⟩ (.slice e1 e2 e3)).setCell ⟨b6, 1, none⟩ (.slice f1 f2 f3) := ⟨_, rfl⟩
  rw [← hw7] at hg57 hs6' hO6'
  have HM7 : Hid (w7.heap[b6]? = some (.cells #[.slice e1 e2 e3, .slice f1 f2 f3] 39 (0, 0)) ∧ ArrV w7 (.agg #[.slice e1 e2 e3, .slice f1 f2 f3]) (mA 2)) := ⟨hs6', hO6'.arr⟩
  have HB7 : Hid (w7.heap[b2]? = some (.cells #[.slice x1 x2 x3, .slice none 0 0] 39 (0, 0)) ∧ ArrV w7 (.agg #[.slice x1 x2 x3, .slice none 0 0]) aA) := ⟨hg57.block' HB5.out.1, HB5.out.2.grow hg57⟩
  have HC7 : Hid (w7.heap[b3]? = some (.cells #[.int .i64 1, .slice c1 c2 c3] 62 (0, 0)) ∧ Bss w7 (.slice c1 c2 c3) cA) := ⟨hg57.block' HC5.out.1, HC5.out.2.grow hg57⟩
  have HR7 : Hid (Bs w7 r4 [97, 98, 99, 100]) := HR5.out.grow hg57
  have hgw7 := hgw5.trans hg57
  clear h0 h2 hb6 hO6 hs6 hs6' hO6' HB5 HC5 HR5 i0 i1 hw6
  go_wp2
  rw [← hw7]
  clear hw7 s0 s1 g0 g1 hg56 hb6n
  have i0 := two_at0 HC7.out.1
  have i1 := two_at1 HC7.out.1
  refine wp_region_last [_, _, _, _, _] _ rfl Grow [ArrN w7.heap.size newP, IsV (.agg #[.int .i64 1, .slice c1 c2 c3]), AnArr (writeL newP ((1 : Int), cA) 0), MtN w7.heap.size (mA 0), Box2 w7.heap.size] (by kernel_rfl) (by kernel_rfl) (by kernel_rfl) rfl Grow.refl (fun _ _ _ => Grow.trans) ?_ ?_ ?_
  · repeat (refine List.forall_mem_cons.2 ⟨by first | exact IsV.stable _ | exact AnArr.stable _ | exact ArrN.stable _ | exact Box2.stable _ | exact MtN.stable _, ?_⟩)
    exact fun R hR => nomatch hR
  · skip
    refine StepsS.cons ?_ fun v0 => ⟨_, _, by simp only [Act.put, List.setIfInBounds_toArray, List.set_cons_succ, List.set_cons_zero]; first | done | rfl, by simp only [List.nil_append]; first | done | rfl, ?_⟩
    · intro w1 hE hd
      clear hd
      go_wp2_with fail
      refine (new_n w7.heap.size _ hE.drew.size).mono ?_
      rintro e w4 ⟨r', rfl, hr', hg4⟩
      go_wp2_with fail
      exact ⟨_, rfl, hg4, hr'⟩
    refine StepsS.cons ?_ fun v1 => ⟨_, _, by simp only [Act.put, List.setIfInBounds_toArray, List.set_cons_succ, List.set_cons_zero]; first | done | rfl, by simp only [List.nil_append, List.cons_append]; first | done | rfl, ?_⟩
    · intro w1 hE hd
      clear hd
      have p0 := hE.drew.at i0
      have p1 := hE.drew.at i1
      go_wp2
      exact ⟨_, rfl, Grow.refl _, rfl⟩
    refine StepsS.cons ?_ fun v2 => ⟨_, _, by simp only [Act.put, List.setIfInBounds_toArray, List.set_cons_succ, List.set_cons_zero]; first | done | rfl, by simp only [List.nil_append, List.cons_append]; first | done | rfl, ?_⟩
    · intro w1 hE hd
      have d0 := dep_at hd 0 rfl rfl rfl
      obtain rfl := IsV.eq (dep_at hd 1 rfl rfl rfl)
      clear hd
      go_wp2_with fail
      refine (write_n w7.heap.size _ _ 0 _ d0 ⟨_, _, _, rfl, HC7.out.2.grow hE.drew⟩).mono ?_
      rintro e w4 ⟨r', rfl, hr', hg4⟩
      go_wp2_with fail
      exact ⟨_, rfl, hg4, hr'⟩
    refine StepsS.cons ?_ fun v3 => ⟨_, _, by simp only [Act.put, List.setIfInBounds_toArray, List.set_cons_succ, List.set_cons_zero]; first | done | rfl, by simp only [List.nil_append, List.cons_append]; first | done | rfl, ?_⟩
    · intro w1 hE hd
      have d2 := dep_at hd 0 rfl rfl rfl
      clear hd
      go_wp2_with fail
      refine (mount_n w7.heap.size _ 0 _ d2 hE.drew.size).mono ?_
      rintro e w4 ⟨r', rfl, hr', hg4⟩
      go_wp2_with fail
      exact ⟨_, rfl, hg4, hr'⟩
    refine StepsS.cons ?_ fun v4 => ⟨_, _, by simp only [Act.put, List.setIfInBounds_toArray, List.set_cons_succ, List.set_cons_zero]; first | done | rfl, by simp only [List.nil_append, List.cons_append]; first | done | rfl, ?_⟩
    · intro w1 hE hd
      clear hd
      have hgx := hE.drew.size
      go_wp2
      exact ⟨_, rfl, Grow.alloc _ _, _, _, _, rfl, hgx, heap_alloc_new _ _⟩
    trivial
  intro w8 hw8
  refine FinS.cons fun v0 h0 => ⟨_, by simp only [Act.put, List.setIfInBounds_toArray, List.set_cons_succ, List.set_cons_zero]; first | done | rfl, ?_⟩
  refine FinS.cons ?_; rintro _ rfl; refine ⟨_, by simp only [Act.put, List.setIfInBounds_toArray, List.set_cons_succ, List.set_cons_zero]; first | done | rfl, ?_⟩
  refine FinS.cons fun v2 h2 => ⟨_, by simp only [Act.put, List.setIfInBounds_toArray, List.set_cons_succ, List.set_cons_zero]; first | done | rfl, ?_⟩
  refine FinS.cons fun v3 h3 => ⟨_, by simp only [Act.put, List.setIfInBounds_toArray, List.set_cons_succ, List.set_cons_zero]; first | done | rfl, ?_⟩
  refine FinS.cons fun v4 h4 => ⟨_, by simp only [Act.put, List.setIfInBounds_toArray, List.set_cons_succ, List.set_cons_zero]; first | done | rfl, ?_⟩
  show wpList _ _ _ _ _ _
  obtain ⟨b7, z0, z1, rfl, hb7n, hb7⟩ := h4
  obtain ⟨bs7, dv7, iv7, rfl, hO7⟩ := h3
  obtain ⟨⟨m1, m2, m3, rfl⟩, y1, y2, y3, rfl⟩ := hO7.forms
  have s0 := two_at0 hb7
  have s1 := two_at1 hb7
  have g0 : w8.frozen? ⟨b7, 0, none⟩ = false := frozen_of_row w8 _ 0 _ _ hb7
  have g1 : w8.frozen? ⟨b7, 1, none⟩ = false := frozen_of_row w8 _ 1 _ _ hb7
  have hs7 := two_set0 (z := .slice m1 m2 m3) hb7
  have hs7' := two_set1 (z := .slice y1 y2 y3) hs7
  have hO7' := (hO7.k4 (K4.set (k := 0) (u := .slice m1 m2 m3) hb7)).k4 (K4.set (k := 1) (u := .slice y1 y2 y3) hs7)
  have hg79 : Grow w7 ((w8.setCell ⟨b7, 0, none⟩ (.slice m1 m2 m3)).setCell ⟨b7, 1, none⟩ (.slice y1 y2 y3)) := (hw8.drew.set hb7n _).set hb7n _
  obtain ⟨w9, hw9⟩ : ∃ w9, w9 = (w8.setCell ⟨b7, 0, none⟩ (.slice m1 m2 m3)).setCell ⟨b7, 1, none⟩ (.slice y1 y2 y3) := ⟨_, rfl⟩
  rw [← hw9] at hg79 hs7' hO7'
  have HN9 : Hid (w9.heap[b7]? = some (.cells #[.slice m1 m2 m3, .slice y1 y2 y3] 39 (0, 0)) ∧ ArrV w9 (.agg #[.slice m1 m2 m3, .slice y1 y2 y3]) (mA 0)) := ⟨hs7', hO7'.arr⟩
  have l0 := hg79.at (two_at0 HM7.out.1)
  have l1 := hg79.at (two_at1 HM7.out.1)
  have hRx := arrRead_any (.agg #[.slice e1 e2 e3, .slice f1 f2 f3]) (mA 2) 4 w9 (HM7.out.2.grow hg79) (mA_arr 2).whole (mA_arr 2).short
  rw [readM.1] at hRx
  have hne : b6 ≠ b7 := by have := heap_lt HM7.out.1; omega
  have hne' : b7 ≠ b6 := fun e => hne e.symm
  have t0 := hw8.drew.at (two_at0 HM7.out.1)
  have t1 := hw8.drew.at (two_at1 HM7.out.1)
  clear h0 h2 hb7 hO7 hs7 hs7' hO7' i0 i1 hw8
  go_wp2_with fail
  rw [← hw9]
  clear hw9 s0 s1 g0 g1 hb7n t0 t1
  refine hRx.mono ?_
  rintro e wA ⟨rA, rfl, hrA, hgA⟩
  clear hRx l0 l1
  have l0 := hgA.at (two_at0 HN9.out.1)
  have l1 := hgA.at (two_at1 HN9.out.1)
  have hRy := arrRead_any (.agg #[.slice m1 m2 m3, .slice y1 y2 y3]) (mA 0) 4 wA (HN9.out.2.grow hgA) (mA_arr 0).whole (mA_arr 0).short
  rw [readM.2] at hRy
  generalize rdE (mA 2) 4 = Ex at *
  generalize rdE (mA 0) 4 = Ey at *
  go_wp2_with fail
  refine hRy.mono ?_
  rintro e wB ⟨rB, rfl, hrB, hgB⟩
  clear hRy l0 l1
  have hg7B := (hg79.trans hgA).trans hgB
  have u0 := hg7B.at (two_at0 HB7.out.1)
  have u1 := hg7B.at (two_at1 HB7.out.1)
  have i1 := hg7B.at (two_at1 HC7.out.1)
  have hlc := (HC7.out.2.form')
  obtain ⟨o1, o2, o3, rfl⟩ := HR7.out.form
  obtain ⟨n1, n2, n3, rfl⟩ := hrA.form
  have cv4 := run_convert_bs (P := Try.prog) 23 5 9 Try.underlying23 Try.underlying5 Try.underlying9 (HR7.out.grow hg7B)
  have cvA := run_convert_bs (P := Try.prog) 23 5 9 Try.underlying23 Try.underlying5 Try.underlying9 (hrA.grow hgB)
  rw [show strOfNums [97, 98, 99, 100] = ⟨#[97, 98, 99, 100]⟩ from rfl] at cv4 cvA
  obtain ⟨ao, co, e, p1, p2, p3, p4, p5⟩ := hrB
  subst e
  obtain ⟨bo, off, rfl, hbo⟩ := p5 (by decide)
  have hz : wB.cell? ⟨bo, off, none⟩ = some (.int .u8 0) := by simpa using hbo 0 (by decide)
  have hz' : wB.cell? ⟨bo, off + 0, none⟩ = some (.int .u8 0) := hz
  have hOw := own_any (.agg #[.slice x1 x2 x3, .slice none 0 0]) aA wB (HB7.out.2.grow hg7B) HAA.out.whole HAA.out.short (.inl HAA.out.none)
  have hl4 : cA.length = 4 := cA_len.1
  obtain ⟨ac, cc, ec, -, -⟩ := hlc
  rw [hl4] at ec
  injection ec with ec1 ec2 ec3
  subst ec1 ec2 ec3
  clear hl4
  go_wp2_with fail
  refine hOw.mono ?_
  rintro e wC ⟨bsC, dvC, ivC, rfl, hOC, hgC⟩
  clear hOw
  obtain ⟨-, jC1, jC2, jC3, rfl⟩ := hOC.forms
  obtain ⟨gC, capC, rfl, -, -⟩ := hOC.disks.own.form (by decide)
  have hd4 : aA.ds.length = 4 := HAA.out.whole.1
  rw [hd4]
  have hfd : ∀ (x : World), (Instr.field 39 (.agg #[.slice (some ⟨gC, 0, none⟩) 4 capC, .slice jC1 jC2 jC3]) 0).run Try.prog x = .ok (.slice (some ⟨gC, 0, none⟩) 4 capC) x := fun _ => by kernel_rfl
  go_wp2
  go_ret
  exact ⟨rfl, (hgw7.trans hg7B).trans hgC⟩

end Go.Proofs.Ytjggiameajndgab
