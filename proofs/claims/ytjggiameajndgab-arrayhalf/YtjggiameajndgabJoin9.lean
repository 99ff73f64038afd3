import Derived.Lib.SliceRun
import Derived.Laws.EntriesVeiled
import Derived.Test.YtjggiameajndgabJoin8
/-
  What the program's model.Same returns, by slices.EqualFunc and bytes.Equal. Nothing old turns.
-/
namespace Go.Proofs.Ytjggiameajndgab
open Go.RowKit

set_option maxRecDepth 20000 in
set_option maxHeartbeats 800000 in
theorem bytesEqual_any (v u : Value) (a b : List Int) (w : World) (h : Bs w v a) (g : Bs w u b) :
    Calls Try.prog 60 #[v, u] w fun e w' => e = .returned (.bool (a == b)) ∧ Grow w w' := by
  have hc1 := run_convert_bs (P := Try.prog) 23 5 9 Try.underlying23 Try.underlying5 Try.underlying9 h
  have hc2 := run_convert_bs (P := Try.prog) 23 5 9 Try.underlying23 Try.underlying5 Try.underlying9 g
  have HB : Hid (((strOfNums a).toList == (strOfNums b).toList) = (a == b)) := str_beq h.octets g.octets
  clear h g
  go_enter Try.func60, Try.ntmps60
  go_wp2
  go_ret
  exact ⟨ret_bool HB.out, Grow.refl _⟩

set_option maxRecDepth 20000 in
set_option maxHeartbeats 1600000 in
theorem equalFunc_any (va vb : Value) (a b : List (List Int)) (w : World) (ha : Bss w va a) (hb : Bss w vb b) :
    Calls Try.prog 59 #[va, vb, .func (.func 60) #[] #[]] w fun e w' => e = .returned (.bool (a == b)) ∧ Grow w w' := by
  obtain ⟨aa, ca, rfl, h1, h2, h3, h4⟩ := ha
  obtain ⟨ab, cb, rfl, g1, g2, g3, g4⟩ := hb
  unfold maxLen at h2 g2
  by_cases hl : a.length = b.length
  · have HL : Hid (a.length = b.length) := hl
    rw [← hl] at g1 ⊢
    clear hl
    go_enter Try.func59, Try.ntmps59
    go_wp2
    go_loopw [17] (fun i wr => ∃ k : Nat, k ≤ a.length ∧ i = .int .i64 k ∧ Hid (∀ j, j < k → a.getD j [] = b.getD j []) ∧ Grow w wr) (fun i _ => a.length - (intOf i).toNat)
    case atStart => exact ⟨0, by omega, rfl, (fun j hj => by omega), Grow.refl _⟩
    case round =>
      obtain ⟨k, hk, rfl, HK, hgr⟩ := hrel
      by_cases hlt : k < a.length
      · obtain ⟨ba, offa, rfl, hca⟩ := h4 (by omega)
        obtain ⟨bb, offb, rfl, hcb⟩ := g4 (by have := HL.out; omega)
        obtain ⟨xa, cxa, hxa, hba⟩ := Sl.bytesAt hca hlt
        obtain ⟨xb, cxb, hxb, hbb⟩ := Sl.bytesAt hcb (k := k) (by have := HL.out; omega)
        have hxa' := hgr.at hxa
        have hxb' := hgr.at hxb
        have hE := bytesEqual_any _ _ _ _ _ (hba.grow hgr) (hbb.grow hgr)
        clear hca hcb h4 g4 hxa hxb hba hbb
        by_cases he : a.getD k [] = b.getD k []
        · have HK' : Hid (∀ j, j < k + 1 → a.getD j [] = b.getD j []) := fun j hj => by
            by_cases hjk : j = k
            · subst hjk; exact he
            · exact HK.out j (by omega)
          rw [show (a.getD k [] == b.getD k []) = true from by rw [he]; simp] at hE
          clear he
          generalize (a.getD k []).length = n at *
          generalize (b.getD k []).length = m at *
          go_wp2_with fail
          refine hE.mono ?_
          rintro e w1 ⟨rfl, hg1⟩
          go_wp2
          go_roundw
          case rel => first | exact ⟨k + 1, by omega, by go_num, HK', hgr.trans hg1⟩ | ((repeat apply Exists.intro); exact ⟨⟨k + 1, by omega, by go_num, HK', hgr.trans hg1⟩, rfl⟩)
          case measure => simp [intOf]; omega
        · have HE : Hid ((a == b) = false) := same_no he
          rw [show (a.getD k [] == b.getD k []) = false from by rw [beq_eq_false_iff_ne]; exact he] at hE
          clear he
          generalize (a.getD k []).length = n at *
          generalize (b.getD k []).length = m at *
          go_wp2_with fail
          refine hE.mono ?_
          rintro e w1 ⟨rfl, hg1⟩
          go_wp2
          go_ret
          exact ⟨ret_bool HE.out.symm, hgr.trans hg1⟩
      · have HE : Hid ((a == b) = true) := same_yes HL.out (fun j hj => HK.out j (by omega))
        go_wp2
        go_ret
        exact ⟨ret_bool HE.out.symm, hgr⟩
  · have HE : Hid ((a == b) = false) := same_len hl
    have hl' : ¬ (a.length : Int) = (b.length : Int) := by omega
    clear hl
    go_enter Try.func59, Try.ntmps59
    go_wp2
    go_ret
    exact ⟨ret_bool HE.out.symm, Grow.refl _⟩

set_option maxRecDepth 20000 in
theorem modelSame_any (v u : Value) (a b : List (List Int)) (w : World) (h : Bss w v a) (g : Bss w u b) (_ha : a.length = 9) (_hb : b.length = 9) :
    Calls Try.prog 18 #[v, u] w fun e w' => e = .returned (.bool (a == b)) ∧ Grow w w' := by
  obtain ⟨av, cv, rfl⟩ := Sl.form h
  obtain ⟨au, cu, rfl⟩ := Sl.form g
  have hcall := equalFunc_any _ _ _ _ w h g
  clear _ha _hb
  generalize a.length = n at *
  generalize b.length = m at *
  go_enter Try.func18, Try.ntmps18
  go_wp2_with fail
  refine hcall.mono ?_
  rintro e w1 ⟨rfl, hg1⟩
  go_wp2
  go_ret
  exact ⟨rfl, hg1⟩

end Go.Proofs.Ytjggiameajndgab

/-
  Stores into rows of the call's own.
-/
namespace Go.Proofs.Ytjggiameajndgab
open Go.RowKit

section
variable {α : Type} {R : World → Value → α → Prop} {w w0 w1 : World} {u v : Value} {x : α} {xs : List α} {B : Nat} {e : TypeId}

theorem grown_set (w : World) (g k : Nat) (u : Value) : w.grownBy (w.setCell ⟨g, k, none⟩ u) (some g) := ⟨rfl, rfl, rfl, by simp, fun j _ hj => Below.heap_setCell w _ _ j (fun e => hj (by rw [e]))⟩

/-- The form of a row that has an element. -/
theorem Rowing.form (h : Rowing R B e w v xs) (hp : 0 < xs.length) : ∃ g cap, v = .slice (some ⟨g, 0, none⟩) xs.length cap ∧ B ≤ g ∧ g < w.heap.size := by
  obtain ⟨us, h1, _, _⟩ := h
  exact h1.form hp

theorem Rowing.cap {g n cap : Nat} (h : Rowing R B e w (.slice (some ⟨g, 0, none⟩) n cap) xs) : xs.length = n ∧ n ≤ cap ∧ cap ≤ 9223372036854775807 := by
  obtain ⟨ao, c, e1, h1, h2⟩ := h.done.form'
  injection e1 with _ e2 e3
  omega

/-- Its cells may be written. -/
theorem Rowing.at {g n cap : Nat} (h : Rowing R B e w (.slice (some ⟨g, 0, none⟩) n cap) xs) {k : Nat} (hk : k < xs.length) : (∃ u, w.cell? ⟨g, k, none⟩ = some u) ∧ w.frozen? ⟨g, k, none⟩ = false := by
  obtain ⟨rfl, -⟩ := h.cap
  obtain ⟨us, h1, h2, _⟩ := h
  refine ⟨⟨us[k]'(by omega), ?_⟩, h1.frozenAt k⟩
  rw [h1.cellAt k (by omega)]
  simp [show k < us.length by omega]

theorem Rowing.stored {g n cap : Nat} (h : Rowing R B e w (.slice (some ⟨g, 0, none⟩) n cap) xs) (k : Nat) (hoff : Off R (some g) w u x) : Rowing R B e (w.setCell ⟨g, k, none⟩ u) (.slice (some ⟨g, 0, none⟩) n cap) (xs.set k x) := by
  obtain ⟨rfl, -⟩ := h.cap
  obtain ⟨us, h1, h2, h3⟩ := h
  have hg := grown_set w g k u
  refine ⟨us.set k u, by rw [List.length_set]; exact (h1.stored k u).1, by simp [h2], fun i q y hq hy => ?_⟩
  by_cases hik : i = k
  · subst hik
    have hlt : i < us.length := by
      by_cases hlt : i < us.length
      · exact hlt
      · rw [List.getElem?_eq_none (by simp; omega)] at hq; cases hq
    rw [List.getElem?_set_self hlt] at hq
    rw [List.getElem?_set_self (by omega)] at hy
    cases hq
    cases hy
    exact hoff.step hg
  · rw [List.getElem?_set_ne (fun e => hik e.symm)] at hq hy
    exact (h3 i q y hq hy).step hg

end

end Go.Proofs.Ytjggiameajndgab

/-
  What the program's model.New and bytes.Clone return. Nothing old turns.
-/
namespace Go.Proofs.Ytjggiameajndgab
open Go.RowKit

/-- A row of nine, made. -/
def nines : Array Value := #[.slice none 0 0, .slice none 0 0, .slice none 0 0, .slice none 0 0, .slice none 0 0, .slice none 0 0, .slice none 0 0, .slice none 0 0, .slice none 0 0]

theorem Try.made9 (w : World) : (Instr.makeSlice 22 (.int .i64 9) (.int .i64 9)).run Try.prog w = .ok (.slice (some ⟨w.heap.size, 0, none⟩) 9 9) (w.alloc (.cells nines 23)) :=
  (run_make_row' (P := Try.prog) 22 23 (.slice none 0 0) 24 Try.underlying22 Try.infoS rfl .i64 .i64 9 (by decide) (by decide) w).trans (by rw [show madeCells #[.slice none 0 0] 9 = nines from Array.toList_inj.1 (toList_madeCells_one _ _)])

theorem Rowing.made9 (w : World) : Rowing Bs w.heap.size 23 (w.alloc (.cells nines 23)) (.slice (some ⟨w.heap.size, 0, none⟩) 9 9) (List.replicate 9 []) := by
  refine ⟨nines.toList, ⟨rfl, .inr ⟨w.heap.size, 9, nines, rfl, Nat.le_refl _, heap_alloc_new w _, Nat.le_refl _, by unfold maxLen; omega, rfl, rfl⟩⟩, rfl, fun i u x hu hx w' _ => ?_⟩
  have hu' : u = .slice none 0 0 := by
    have := List.mem_of_getElem? hu
    simpa [nines] using this
  have hx' : x = [] := by
    have := List.mem_of_getElem? hx
    simpa using this
  subst hu' hx'
  exact Bs.nil _

/-- The first k are filled. -/
def upTo (f : Nat → List Int) (k : Nat) : List (List Int) := (List.range 9).map fun i => if i < k then f i else []

theorem upTo_zero (f : Nat → List Int) : upTo f 0 = List.replicate 9 [] := by simp [upTo]; decide
theorem upTo_all (f : Nat → List Int) : upTo f 9 = (List.range 9).map f := List.map_congr_left fun _ hi => if_pos (List.mem_range.1 hi)
theorem upTo_length (f : Nat → List Int) (k : Nat) : (upTo f k).length = 9 := by simp [upTo]
theorem upTo_set (f : Nat → List Int) {k : Nat} (_h : k < 9) : (upTo f k).set k (f k) = upTo f (k + 1) := by
  refine List.ext_getElem (by simp [upTo]) fun i h1 h2 => ?_
  rw [List.getElem_set]
  simp only [upTo, List.getElem_map, List.getElem_range]
  by_cases hik : k = i
  · subst hik; rw [if_pos rfl, if_pos (by omega)]
  · rw [if_neg hik]
    by_cases hlt : i < k
    · rw [if_pos hlt, if_pos (by omega)]
    · rw [if_neg hlt, if_neg (by omega)]

set_option maxRecDepth 20000 in
set_option maxHeartbeats 800000 in
theorem modelNew_any (w : World) : Calls Try.prog 54 #[] w fun e w' => ∃ r, e = .returned r ∧ Bss w' r (List.replicate 9 nought) ∧ Grow w w' := by
  have hmk := Try.made9 w
  have hst : Hid (Rowing Bs w.heap.size 23 (w.alloc (.cells nines 23)) (.slice (some ⟨w.heap.size, 0, none⟩) 9 9) (upTo (fun _ => nought) 0)) := by rw [upTo_zero]; exact Rowing.made9 w
  have hend : Hid (upTo (fun _ => nought) 9 = List.replicate 9 nought) := by rw [Hid, upTo_all]; rfl
  go_enter Try.func54, Try.ntmps54
  go_wp2
  go_loopw [6] (fun i wr => ∃ k : Nat, k ≤ 9 ∧ i = .int .i64 k ∧ Hid (Rowing Bs w.heap.size 23 wr (.slice (some ⟨w.heap.size, 0, none⟩) 9 9) (upTo (fun _ => nought) k)) ∧ Grow w wr) (fun i _ => 9 - (intOf i).toNat)
  case atStart => exact ⟨0, by omega, rfl, hst, Grow.alloc _ _⟩
  case round =>
    obtain ⟨k, hk, rfl, HR, hgr⟩ := hrel
    clear hst hmk
    by_cases hlt : k < 9
    · have hmk := Try.made4 wr
      have hgA : Grow wr (wr.alloc (.cells #[.int .u8 0, .int .u8 0, .int .u8 0, .int .u8 0] 5)) := Grow.alloc _ _
      have hrow := HR.out.grow hgA
      have hb : w.heap.size < wr.heap.size := (HR.out.base _ rfl).2
      have hoff : Off Bs (some w.heap.size) (wr.alloc (.cells #[.int .u8 0, .int .u8 0, .int .u8 0, .int .u8 0] 5)) (.slice (some ⟨wr.heap.size, 0, none⟩) 4 4) nought := Off.row (l := nought) (heap_alloc_new wr _) rfl (by unfold maxLen; omega) nought_oct (fun e => by injection e with e; omega)
      obtain ⟨⟨u0, hu0⟩, hf0⟩ := hrow.at (k := k) (by rw [upTo_length]; exact hlt)
      have hpast := World.setCell_alloc_past (w := wr) (.cells #[.int .u8 0, .int .u8 0, .int .u8 0, .int .u8 0] 5) w.heap.size k (.slice (some ⟨wr.heap.size, 0, none⟩) 4 4) hb
      have hrow1 := hrow.stored k hoff
      have hg1 := (hgr.trans hgA).grown (grown_set (wr.alloc (.cells #[.int .u8 0, .int .u8 0, .int .u8 0, .int .u8 0] 5)) w.heap.size k (.slice (some ⟨wr.heap.size, 0, none⟩) 4 4)) (fun j hj => by cases hj; exact Nat.le_refl _)
      rw [upTo_set (fun _ => nought) hlt, hpast] at hrow1
      rw [hpast] at hg1
      have HR1 : Hid (Rowing Bs _ _ _ _ _) := hrow1
      clear hrow1 hpast
      clear HR hgA hrow hoff
      go_wp2
      go_roundw
      case rel => first | exact ⟨k + 1, by omega, by go_num, HR1, hg1⟩ | ((repeat apply Exists.intro); exact ⟨⟨k + 1, by omega, by go_num, HR1, hg1⟩, rfl⟩)
      case measure => simp [intOf]; omega
    · obtain rfl : k = 9 := by omega
      go_wp2
      go_ret
      exact ⟨_, rfl, by rw [← hend.out]; exact HR.out.done, hgr⟩

set_option maxRecDepth 20000 in
set_option maxHeartbeats 800000 in
theorem bytesClone_some (v : Value) (l : List Int) (w : World) (h : Bs w v l) (hp : 0 < l.length) (hm : l.length ≤ 1000) :
    Calls Try.prog 58 #[v] w fun e w' => ∃ r, e = .returned r ∧ (∀ g, (∀ k, g = some k → k < w.heap.size) → Off Bs g w' r l) ∧ Grow w w' := by
  obtain ⟨i0, hi, hz0, hz1, hz2⟩ := info_parts Try.infoB
  have hoc := h.octets
  obtain ⟨ao, cap, rfl, h1, h2, h3, h4, h5⟩ := h
  have hsrc := h5.src
  obtain ⟨b, off, rfl, hc⟩ := h5 hp
  have hsrc' := hsrc _ rfl
  unfold maxLen at h2
  have HO : Hid (∀ (v' : Value) w', w'.ownsRow w.heap.size 5 1 v' l.length (l.map (Value.int .u8)) → ∀ g : Option Nat, (∀ k, g = some k → k < w.heap.size) → Off Bs g w' v' l) := fun v' w' ho g hg => Off.own ho hoc hg
  have qT : ∀ (w : World) (a : Option Addr) (n c n' c' : Nat), (binOp .eql 23 (.slice a n c) (.slice none n' c')).run Try.prog w = .ok (.bool a.isNone) w := fun w a n c n' c' => Lib.run_eql_slice_nil w _ _ a n c n' c' Try.underlying23
  have hlm : (l.map (Value.int .u8)).length = l.length := by simp
  have hone := u8_oneCell l
  clear h5 hc hsrc hoc
  generalize l.map (Value.int .u8) = news at *
  have HLM : Hid (news.length = l.length) := hlm
  generalize l.length = n at *
  clear hlm
  go_enter Try.func58, Try.ntmps58
  go_wp2_with (first
    | (at_builtin; refine wpList_append_copy rfl (.tmp 5) (.tmp 6) 23 rfl 5 i0 (.int .u8 0) 1 Try.underlying23 hi hz0 hz1 hz2 rfl w.heap.size (heap_alloc_new w _) w (Grow.alloc _ _) (Nat.le_refl _) rfl ⟨b, off, none⟩ n cap news rfl HLM.out hsrc' hone hp (by omega) (by omega) ?_; rintro g1 cg w1 hown hg1 - - - -; have HX := HO.out _ _ hown; have HX' : Hid (_ ∧ _) := And.intro HX hg1; clear HX hown))
  go_wp2
  go_ret
  exact ⟨_, rfl, HX'.out.1, hg1⟩

end Go.Proofs.Ytjggiameajndgab

/-
  What the program's model.Do returns, by the closures that tell what each block is behind a deed. Nothing old turns.
-/
namespace Go.Proofs.Ytjggiameajndgab
open Go.RowKit

set_option maxRecDepth 20000 in
set_option maxHeartbeats 800000 in
theorem asItWas_any (n : Int) (L : Nat) (v : Value) (ls : List (List Int)) (w : World) (h : Bss w v ls) (hl : ls.length = 9) (h0 : 0 ≤ n) (h9 : n < 9) (hL : w.cell? ⟨L, 0, none⟩ = some v) :
    Calls Try.prog 81 #[.int .i64 n, .pointer (some ⟨L, 0, none⟩)] w fun e w' => ∃ r, e = .returned r ∧ Bs w r (ls.getD n.toNat []) ∧ w' = w := by
  obtain ⟨k, rfl⟩ := Int.eq_ofNat_of_zero_le h0
  obtain ⟨ao, cap, rfl, hc1, hc2⟩ := h.form'
  obtain ⟨b, off, u, rfl, hu, hr⟩ := h.elem (k := k) (by omega) []
  obtain ⟨x1, x2, x3, rfl⟩ := hr.form
  rw [hl] at hL hc1
  simp only [Int.toNat_natCast]
  clear h hl h0
  go_enter Try.func81, Try.ntmps81
  go_wp2
  go_ret
  exact ⟨_, rfl, hr, rfl⟩

/-- What a closure of the deed's has at hand: the deed in D, the blocks in L, the closure that tells them in A. -/
def Hand (D L A : Nat) (v d1 : Value) (x : DeedP) (w : World) : Prop :=
  w.cell? ⟨D, 1, none⟩ = some (.int .i64 x.n) ∧ w.cell? ⟨D, 2, none⟩ = some (.int .i64 x.m) ∧ w.cell? ⟨D, 3, none⟩ = some d1 ∧ w.cell? ⟨L, 0, none⟩ = some v ∧ w.cell? ⟨A, 0, none⟩ = some (.func (.func 81) #[] #[.pointer (some ⟨L, 0, none⟩)])

theorem Hand.grow {D L A : Nat} {v d1 : Value} {x : DeedP} {w w' : World} (h : Hand D L A v d1 x w) (hg : Grow w w') : Hand D L A v d1 x w' := ⟨hg.at h.1, hg.at h.2.1, hg.at h.2.2.1, hg.at h.2.2.2.1, hg.at h.2.2.2.2⟩

set_option maxRecDepth 20000 in
set_option maxHeartbeats 800000 in
theorem written_any (k : Nat) (D L A : Nat) (v d1 : Value) (x : DeedP) (ls : List (List Int)) (w : World) (hH : Hand D L A v d1 x w) (h : Bss w v ls) (hb : Bs w d1 x.d) (hl : ls.length = 9) (h9 : k < 9) (hk1 : x.k = 1) :
    Calls Try.prog 82 #[.int .i64 k, .pointer (some ⟨D, 0, none⟩), .pointer (some ⟨A, 0, none⟩)] w fun e w' => ∃ r, e = .returned r ∧ Bs w r (doAt ls x k) ∧ w' = w := by
  obtain ⟨c1, -, c3, c4, c5⟩ := hH
  by_cases hn : (k : Int) = x.n
  · rw [doAt_data hk1 hn]
    rw [← hn] at c1
    clear hn
    go_enter Try.func82, Try.ntmps82
    go_wp2
    go_ret
    exact ⟨_, rfl, hb, rfl⟩
  · rw [doAt_old hk1 hn]
    have hW := asItWas_any k L v ls w h hl (by omega) (by omega) c4
    simp only [Int.toNat_natCast] at hW
    have hn' : ((k : Int) == x.n) = false := by rw [beq_eq_false_iff_ne]; exact hn
    clear h hb
    go_enter Try.func82, Try.ntmps82
    go_wp2_with fail
    refine hW.mono ?_
    rintro e w1 ⟨r, rfl, hr, rfl⟩
    go_wp2
    go_ret
    exact ⟨_, rfl, hr, rfl⟩

set_option maxRecDepth 20000 in
set_option maxHeartbeats 1600000 in
theorem swapped_any (k : Nat) (D L A : Nat) (v d1 : Value) (x : DeedP) (ls : List (List Int)) (w : World) (hH : Hand D L A v d1 x w) (h : Bss w v ls) (hl : ls.length = 9) (h9 : k < 9) (hk2 : x.k = 2) (hr : wrongE x = 0) :
    Calls Try.prog 83 #[.int .i64 k, .pointer (some ⟨D, 0, none⟩), .pointer (some ⟨A, 0, none⟩)] w fun e w' => ∃ r, e = .returned r ∧ Bs w r (doAt ls x k) ∧ w' = w := by
  obtain ⟨c1, c2, -, c4, c5⟩ := hH
  obtain ⟨-, hn0, hn8, -, h2⟩ := right_deed hr
  have hm := whereE_zero (h2 hk2).1
  by_cases hn : (k : Int) = x.n
  · rw [doAt_n hk2 hn]
    have hW := asItWas_any x.m L v ls w h hl hm.1 hm.2 c4
    rw [← hn] at c1
    clear h hn h2
    go_enter Try.func83, Try.ntmps83
    go_wp2_with fail
    refine hW.mono ?_
    rintro e w1 ⟨r, rfl, hr, rfl⟩
    go_wp2
    go_ret
    exact ⟨_, rfl, hr, rfl⟩
  · have hn' : ((k : Int) == x.n) = false := by rw [beq_eq_false_iff_ne]; exact hn
    by_cases hkm : (k : Int) = x.m
    · rw [doAt_m hk2 hn hkm]
      have hW := asItWas_any x.n L v ls w h hl hn0 (by omega) c4
      rw [← hkm] at c2
      clear h hn h2 hkm hm
      go_enter Try.func83, Try.ntmps83
      go_wp2_with fail
      refine hW.mono ?_
      rintro e w1 ⟨r, rfl, hr, rfl⟩
      go_wp2
      go_ret
      exact ⟨_, rfl, hr, rfl⟩
    · rw [doAt_out hk2 hn hkm]
      have hm' : ((k : Int) == x.m) = false := by rw [beq_eq_false_iff_ne]; exact hkm
      have hW := asItWas_any k L v ls w h hl (by omega) (by omega) c4
      simp only [Int.toNat_natCast] at hW
      clear h hn h2 hkm hm
      go_enter Try.func83, Try.ntmps83
      go_wp2_with fail
      refine hW.mono ?_
      rintro e w1 ⟨r, rfl, hr, rfl⟩
      go_wp2
      go_ret
      exact ⟨_, rfl, hr, rfl⟩

/-- The closure that tells what a block is behind a right deed. -/
def afterV (x : DeedP) (D A : Nat) : Value := .func (.func (if x.k = 1 then 82 else 83)) #[] #[.pointer (some ⟨D, 0, none⟩), .pointer (some ⟨A, 0, none⟩)]

set_option maxRecDepth 20000 in
set_option maxHeartbeats 1600000 in
theorem behind_any (v dv : Value) (ls : List (List Int)) (x : DeedP) (w : World) (h : Bss w v ls) (hd : DeedV w dv x) (hl : ls.length = 9) (hr : wrongE x = 0) :
    Calls Try.prog 57 #[v, dv] w fun e w' => ∃ D L A d1, e = .returned (afterV x D A) ∧ Hand D L A v d1 x w' ∧ Bs w' d1 x.d ∧ Grow w w' := by
  have hd' := hd
  obtain ⟨dv, rfl, hb⟩ := hd
  obtain ⟨d1, d2, d3, rfl⟩ := hb.form
  obtain ⟨av, cv, rfl⟩ := Sl.form h
  obtain ⟨o1, ho1⟩ : ∃ o : Obj, o = .cells #[.slice av ls.length cv] 22 := ⟨_, rfl⟩
  obtain ⟨o2, ho2⟩ : ∃ o : Obj, o = .cells #[.int .i64 x.k, .int .i64 x.n, .int .i64 x.m, .slice d1 d2 d3] 25 := ⟨_, rfl⟩
  obtain ⟨o3, ho3⟩ : ∃ o : Obj, o = .cells #[.func (.func 81) #[] #[.pointer (some ⟨w.heap.size, 0, none⟩)]] 76 := ⟨_, rfl⟩
  obtain ⟨W, hW⟩ : ∃ W, W = ((w.alloc o1).alloc o2).alloc o3 := ⟨_, rfl⟩
  obtain ⟨H1, H2, H3⟩ := heap3 w o1 o2 o3
  rw [← hW] at H1 H2 H3
  have hgW : Grow w W := by rw [hW]; exact ((Grow.alloc _ _).trans (Grow.alloc _ _)).trans (Grow.alloc _ _)
  rw [ho1] at H1
  rw [ho2] at H2
  rw [ho3] at H3
  have k0 : W.cell? ⟨w.heap.size + 1, 0, none⟩ = some (.int .i64 x.k) := row_at H2 0 rfl
  have k1 : W.cell? ⟨w.heap.size + 1, 1, none⟩ = some (.int .i64 x.n) := row_at H2 1 rfl
  have k2 : W.cell? ⟨w.heap.size + 1, 2, none⟩ = some (.int .i64 x.m) := row_at H2 2 rfl
  have k3 : W.cell? ⟨w.heap.size + 1, 3, none⟩ = some (.slice d1 d2 d3) := row_at H2 3 rfl
  have kl : W.cell? ⟨w.heap.size, 0, none⟩ = some (.slice av ls.length cv) := row_at H1 0 rfl
  have HA : Hid (Hand (w.heap.size + 1) w.heap.size (w.heap.size + 1 + 1) (.slice av ls.length cv) (.slice d1 d2 d3) x W) := ⟨k1, k2, k3, kl, row_at H3 0 rfl⟩
  have hmw := fun w1 hg => modelWrong_any _ x w1 (hd'.grow (w' := w1) hg)
  rw [hr] at hmw
  rw [hl] at kl ho1 HA ⊢
  have HB : Hid (Bs W (.slice d1 d2 d3) x.d) := hb.grow hgW
  obtain ⟨hk, -⟩ := right_deed hr
  clear H1 H2 H3 h hd' hb hr k1 k2 k3
  have hmf : ∀ (fn : Fn) (first cap : Array Value) (w : World), (Instr.makeFunc fn first cap).run Try.prog w = .ok (.func fn first cap) w := fun _ _ _ _ => rfl
  subst ho1 ho2 ho3
  rcases hk with hk | hk
  · have HV : Hid (∀ D A, afterV x D A = .func (.func 82) #[] #[.pointer (some ⟨D, 0, none⟩), .pointer (some ⟨A, 0, none⟩)]) := fun D A => by rw [afterV, if_pos hk]
    rw [hk] at k0 hW hmw ⊢
    go_enter Try.func57, Try.ntmps57
    go_wp2_with fail
    rw [← hW]
    refine (hmw _ hgW).mono ?_
    rintro e w1 ⟨rfl, hg1⟩
    have c0 := hg1.at k0
    clear k0 kl hW
    go_wp2
    go_ret
    exact ⟨_, _, _, _, congrArg Ending.returned (HV.out _ _).symm, HA.out.grow hg1, HB.out.grow hg1, hgW.trans hg1⟩
  · have HV : Hid (∀ D A, afterV x D A = .func (.func 83) #[] #[.pointer (some ⟨D, 0, none⟩), .pointer (some ⟨A, 0, none⟩)]) := fun D A => by rw [afterV, if_neg (by omega)]
    rw [hk] at k0 hW hmw ⊢
    go_enter Try.func57, Try.ntmps57
    go_wp2_with fail
    rw [← hW]
    refine (hmw _ hgW).mono ?_
    rintro e w1 ⟨rfl, hg1⟩
    have c0 := hg1.at k0
    clear k0 kl hW
    go_wp2
    go_ret
    exact ⟨_, _, _, _, congrArg Ending.returned (HV.out _ _).symm, HA.out.grow hg1, HB.out.grow hg1, hgW.trans hg1⟩

set_option maxRecDepth 20000 in
set_option maxHeartbeats 3200000 in
theorem modelDo_any (v dv : Value) (ls : List (List Int)) (x : DeedP) (w : World) (h : Bss w v ls) (hd : DeedV w dv x) (hl : ls.length = 9) (h4 : ∀ b ∈ ls, b.length = 4) (hr : wrongE x = 0) :
    Calls Try.prog 17 #[v, dv] w fun e w' => ∃ r, e = .returned r ∧ Bss w' r (doL ls x) ∧ Grow w w' := by
  have hv := h
  have hd' := hd
  obtain ⟨dv, rfl, hb⟩ := hd
  obtain ⟨d1, d2, d3, rfl⟩ := hb.form
  obtain ⟨av, cv, rfl⟩ := Sl.form h
  have hg := Grow.alloc w (.cells #[.int .i64 x.k, .int .i64 x.n, .int .i64 x.m, .slice d1 d2 d3] 25)
  have hcall := behind_any _ _ ls x _ (h.grow hg) (hd'.grow hg) hl hr
  have hlen : ∀ k : Nat, k < 9 → (doAt ls x k).length = 4 := fun k hk => by
    rw [← doL_at (by omega)]
    exact doL_four h4 hl hr _ (getD_mem (by rw [doL_length]; omega))
  have hend : Hid (upTo (doAt ls x) 9 = doL ls x) := by rw [Hid, upTo_all, doL, hl]
  have hafter : ∀ (k D L A : Nat) (q : Value) (w1 : World), k < 9 → Grow w w1 → Hand D L A (.slice av ls.length cv) q x w1 → Bs w1 q x.d → (x.k = 1 → Calls Try.prog 82 #[.int .i64 k, .pointer (some ⟨D, 0, none⟩), .pointer (some ⟨A, 0, none⟩)] w1 fun e w' => ∃ r, e = .returned r ∧ Bs w1 r (doAt ls x k) ∧ w' = w1) ∧ (x.k = 2 → Calls Try.prog 83 #[.int .i64 k, .pointer (some ⟨D, 0, none⟩), .pointer (some ⟨A, 0, none⟩)] w1 fun e w' => ∃ r, e = .returned r ∧ Bs w1 r (doAt ls x k) ∧ w' = w1) := fun k D L A q w1 hk hg1 hH hq =>
    ⟨fun h1 => written_any k D L A _ q x ls w1 hH (hv.grow hg1) hq hl hk h1, fun h2 => swapped_any k D L A _ q x ls w1 hH (hv.grow hg1) hl hk h2 hr⟩
  obtain ⟨hk, -⟩ := right_deed hr
  rw [hl] at hcall hafter ⊢
  clear hl h hd' hb h4 hr hv
  have HF : Hid (_ ∧ _) := And.intro hafter hlen
  clear hafter hlen
  rcases hk with hk | hk
  all_goals
    generalize doAt ls x = da at *
    generalize doL ls x = dl at *
    rw [hk] at hcall hg ⊢
    have HK : Hid (x.k = _) := hk
    clear hk
    go_enter Try.func17, Try.ntmps17
    go_wp2_with fail
    refine hcall.mono ?_
    rintro e w1 ⟨D, L, A, q, rfl, hH, hq, hg1⟩
    clear hcall
    have hmk := Try.made9 w1
    have hst : Hid (Rowing Bs w1.heap.size 23 (w1.alloc (.cells nines 23)) (.slice (some ⟨w1.heap.size, 0, none⟩) 9 9) (upTo da 0)) := by rw [upTo_zero]; exact Rowing.made9 w1
    have hgw1 := hg.trans hg1
    first | rw [afterV, if_pos HK.out] | rw [afterV, if_neg (by rw [HK.out]; decide)]
    have HHD : Hid (Hand D L A (.slice av 9 cv) q x w1 ∧ Bs w1 q x.d) := ⟨hH, hq⟩
    clear hH hq
    go_wp2
    go_loopw [16] (fun i wr => ∃ k : Nat, k ≤ 9 ∧ i = .int .i64 k ∧ Hid (Rowing Bs w1.heap.size 23 wr (.slice (some ⟨w1.heap.size, 0, none⟩) 9 9) (upTo da k)) ∧ Grow w1 wr) (fun i _ => 9 - (intOf i).toNat)
    case atStart => exact ⟨0, by omega, rfl, hst, Grow.alloc _ _⟩
    case round =>
      obtain ⟨k, hk9, rfl, HR, hgr⟩ := hrel
      clear hst hmk
      by_cases hlt : k < 9
      · have hA := HF.out.1 k D L A q wr hlt (hgw1.trans hgr) (HHD.out.1.grow hgr) (HHD.out.2.grow hgr)
        first | have hA' := hA.1 HK.out | have hA' := hA.2 HK.out
        have hdk : Hid ((da k).length = 4) := HF.out.2 k hlt
        have hb : w1.heap.size < wr.heap.size := (HR.out.base _ rfl).2
        go_wp2_with fail
        refine hA'.mono ?_
        rintro e w2 ⟨r, rfl, hr, hw2⟩
        subst hw2
        go_wp2_with fail
        refine (bytesClone_some _ _ _ hr (by rw [hdk.out]; omega) (by rw [hdk.out]; omega)).mono ?_
        rintro e w3 ⟨r3, rfl, hoff3, hg3⟩
        have hrow := HR.out.grow hg3
        obtain ⟨⟨u0, hu0⟩, hf0⟩ := hrow.at (k := k) (by rw [upTo_length]; exact hlt)
        have hoff := hoff3 (some w1.heap.size) (fun j hj => by cases hj; exact hb)
        obtain ⟨y1, y2, y3, rfl⟩ := hoff.here.form
        have hrow1 := hrow.stored k hoff
        rw [upTo_set da hlt] at hrow1
        have hg4 := (hgr.trans hg3).grown (grown_set w3 w1.heap.size k (.slice y1 y2 y3)) (fun j hj => by cases hj; exact Nat.le_refl _)
        have HR1 : Hid (Rowing Bs _ _ _ _ _) := hrow1
        clear HR hrow hoff hoff3 hrow1 hA hA' hr
        go_wp2
        go_roundw
        case rel => first | exact ⟨k + 1, by omega, by go_num, HR1, hg4⟩ | ((repeat apply Exists.intro); exact ⟨⟨k + 1, by omega, by go_num, HR1, hg4⟩, rfl⟩)
        case measure => simp [intOf]; omega
      · obtain rfl : k = 9 := by omega
        go_wp2
        go_ret
        exact ⟨_, rfl, by rw [← hend.out]; exact HR.out.done, hgw1.trans hgr⟩

end Go.Proofs.Ytjggiameajndgab

/-
  As Rowing, with a set of other blocks that may be written too.
-/
namespace Go.Proofs.Ytjggiameajndgab
open Go.RowKit

/-- New blocks, and writes to blocks of G alone. -/
structure GrownIn (w w' : World) (G : Nat → Prop) : Prop where
  os : w'.os = w.os
  tape : w'.tape = w.tape
  output : w'.output = w.output
  size : w.heap.size ≤ w'.heap.size
  block : ∀ k, k < w.heap.size → ¬ G k → w'.heap[k]? = w.heap[k]?

theorem GrownIn.refl (w : World) (G : Nat → Prop) : GrownIn w w G := ⟨rfl, rfl, rfl, Nat.le_refl _, fun _ _ _ => rfl⟩
theorem GrownIn.trans {x y z : World} {G : Nat → Prop} (h : GrownIn x y G) (k : GrownIn y z G) : GrownIn x z G :=
  ⟨k.os.trans h.os, k.tape.trans h.tape, k.output.trans h.output, Nat.le_trans h.size k.size, fun j hj hn => (k.block j (Nat.lt_of_lt_of_le hj h.size) hn).trans (h.block j hj hn)⟩
theorem Grow.inn {w w' : World} (h : Grow w w') (G : Nat → Prop) : GrownIn w w' G := ⟨h.os, h.tape, h.output, h.size, fun k hk _ => h.block k hk⟩
theorem GrownIn.of_by {w w' : World} {g : Option Nat} {G : Nat → Prop} (h : w.grownBy w' g) (hg : ∀ k, g = some k → G k) : GrownIn w w' G := ⟨h.os, h.tape, h.output, h.size, fun k hk hn => h.block k hk (fun e => hn (hg k e.symm))⟩
theorem GrownIn.cell {w w' : World} {G : Nat → Prop} (h : GrownIn w w' G) {a : Addr} {v : Value} (hv : w.cell? a = some v) (hn : ¬ G a.block) : w'.cell? a = some v := (World.cell?_of_block (h.block a.block (cell_lt' hv) hn)).trans hv

/-- It reads so in every world that agrees with w off the blocks of G. -/
def OffG {α : Type} (R : World → Value → α → Prop) (G : Nat → Prop) (w : World) (u : Value) (x : α) : Prop := ∀ w', GrownIn w w' G → R w' u x

section
variable {α : Type} {R : World → Value → α → Prop} {F G : Nat → Prop} {w w0 w1 : World} {u v : Value} {x : α} {xs : List α} {B : Nat} {e : TypeId}

theorem OffG.here (h : OffG R G w u x) : R w u x := h w (GrownIn.refl _ _)
theorem OffG.step (h : OffG R G w u x) (hg : GrownIn w w1 G) : OffG R G w1 u x := fun w' h' => h w' (hg.trans h')
theorem OffG.grow (h : OffG R G w u x) (hg : Grow w w1) : OffG R G w1 u x := h.step (hg.inn G)
theorem OffG.mono (h : OffG R G w u x) (hF : ∀ k, F k → G k) : OffG R F w u x := fun w' h' => h w' ⟨h'.os, h'.tape, h'.output, h'.size, fun k hk hn => h'.block k hk (fun hf => hn (hF k hf))⟩
theorem OffG.old (hR : Stays R) (h : R w0 u x) (hg : Grow w0 w) (hk : ∀ k, G k → w0.heap.size ≤ k) : OffG R G w u x := fun w' h' =>
  hR w0 w' u x h ⟨h'.os.trans hg.os, h'.tape.trans hg.tape, h'.output.trans hg.output, Nat.le_trans hg.size h'.size, fun j hj => (h'.block j (Nat.lt_of_lt_of_le hj hg.size) (fun e => by have := hk j e; omega)).trans (hg.block j hj)⟩

theorem own_kept {n : Nat} {us : List Value} (h : w.ownsRow B e 1 v n us) (hg : GrownIn w w1 G) (hn : ∀ k, v.ownBlock = some k → ¬ G k) : w1.ownsRow B e 1 v n us := by
  obtain ⟨h1, h2⟩ := h
  refine ⟨h1, ?_⟩
  rcases h2 with h2 | ⟨g, cap, cur, hv, hb, hh, hr⟩
  · exact .inl h2
  · have hlt : g < w.heap.size := by
      by_cases hlt : g < w.heap.size
      · exact hlt
      · rw [Array.getElem?_eq_none (Nat.le_of_not_lt hlt)] at hh; cases hh
    exact .inr ⟨g, cap, cur, hv, hb, (hg.block g hlt (hn g (by rw [hv]; rfl))).trans hh, hr⟩

/-- The slice v of the call's own reads as xs; it, and blocks of F, may be written on. -/
def RowingF (F : Nat → Prop) (R : World → Value → α → Prop) (B : Nat) (e : TypeId) (w : World) (v : Value) (xs : List α) : Prop :=
  ∃ us, w.ownsRow B e 1 v xs.length us ∧ us.length = xs.length ∧ ∀ (i : Nat) u x, us[i]? = some u → xs[i]? = some x → OffG R (fun k => F k ∨ v.ownBlock = some k) w u x

theorem RowingF.nil (F : Nat → Prop) (R : World → Value → α → Prop) (B : Nat) (e : TypeId) (w : World) : RowingF F R B e w (.slice none 0 0) [] :=
  ⟨[], World.ownsRow_nil _ _ _ _, rfl, fun i u x hu => by simp at hu⟩

theorem RowingF.grow (h : RowingF F R B e w v xs) (hg : Grow w w1) : RowingF F R B e w1 v xs := by
  obtain ⟨us, h1, h2, h3⟩ := h
  exact ⟨us, grow_own h1 hg, h2, fun i u x hu hx => (h3 i u x hu hx).grow hg⟩

theorem RowingF.done (h : RowingF F R B e w v xs) : Sl R w v xs := by
  obtain ⟨us, h1, _, h3⟩ := h
  exact Sl.of_own h1 rfl (fun i u x hu hx => (h3 i u x hu hx).here)

theorem RowingF.base (h : RowingF F R B e w v xs) : ∀ k, v.ownBlock = some k → B ≤ k ∧ k < w.heap.size := by
  obtain ⟨us, h1, _, _⟩ := h
  exact h1.lt

/-- A write to a block of F. -/
theorem RowingF.set (h : RowingF F R B e w v xs) {A : Nat} (hA : F A) (hn : v.ownBlock ≠ some A) (k : Nat) (u : Value) : RowingF F R B e (w.setCell ⟨A, k, none⟩ u) v xs := by
  obtain ⟨us, h1, h2, h3⟩ := h
  have hg : ∀ G : Nat → Prop, G A → GrownIn w (w.setCell ⟨A, k, none⟩ u) G := fun G hG => ⟨rfl, rfl, rfl, by simp, fun j _ hj => Below.heap_setCell w _ _ j (fun e => hj (by rw [e]; exact hG))⟩
  exact ⟨us, own_kept h1 (hg (fun k => k = A) rfl) (fun j hj e => hn (by rw [hj, e])), h2, fun i q x hu hx => (h3 i q x hu hx).step (hg _ (.inl hA))⟩

/-- The whole slice is readable off F. -/
theorem RowingF.off (h : RowingF F R B e w v xs) (hG : ∀ k, G k → F k) (hn : ∀ k, v.ownBlock = some k → ¬ G k) : OffG (Sl R) G w v xs := fun w' h' => by
  obtain ⟨us, h1, h2, h3⟩ := h
  exact Sl.of_own (own_kept h1 h' hn) rfl (fun i u x hu hx => (h3 i u x hu hx).mono (F := G) (fun k hk => .inl (hG k hk)) w' h')

/-- An append of one element to such a row. -/
theorem wpList_pushF {P : Program} {ops : Array Oper} {rest : List Oper} {o : Oper} {a : Act} {Q : Exit → Act → World → Prop} (hgd : o.guard = none) (s y : Operand) (t : TypeId)
    (ho : o.op = .call { callee := .builtin .append, args := #[s, y], argTypes := #[t, t] })
    (i : TypeInfo) (z : Value) (bytes : Nat) (ht : P.underlying t = some (.slice e)) (hi : P.info? e = some i) (hz : i.zero = some z)
    (hsize : i.size = 1) (hby : i.bytes = bytes) (hzs : z.cells.size = 1)
    (w0 : World) (hG : Grow w0 w) (hB : w0.heap.size ≤ B) (hBw : B ≤ w.heap.size)
    (hs : a.eval s = v) (hrow : RowingF F R B e w v xs) (hu1 : u.oneCell' = true) (hoff : OffG R (fun k => F k ∨ v.ownBlock = some k) w u x)
    (H : Nat) (hH : w.heap.size = H) (hy : a.eval y = .slice (some ⟨H, 0, none⟩) 1 1)
    (h63 : xs.length + 1 ≤ 4611686018427387904) (hbytes : (xs.length + 1) * bytes ≤ 140737488355328)
    (h : ∀ v' w', (∃ g cap, v' = .slice (some ⟨g, 0, none⟩) (xs.length + 1) cap) → RowingF F R B e w' v' (xs ++ [x]) → Grow w0 w' → GrownIn w w' (fun k => v.ownBlock = some k) → wpList P ops Q rest (a.put o.dst v') w') :
    wpList P ops Q (o :: rest) a (w.alloc (.cells #[u] e)) := by
  subst hH
  obtain ⟨us, h1, h2, h3⟩ := hrow
  have hsz : w.heap.size < (w.alloc (.cells #[u] e)).heap.size := by simp
  have hgA : Grow w (w.alloc (.cells #[u] e)) := (Below.refl _ _).alloc (Nat.le_refl _) _
  refine wpList_append_lies _ hgd s y t ho B e i z 1 bytes ht hi hz hsize hby hzs (by decide) v xs.length us hs (h1.alloc _) ⟨w.heap.size, 0, none⟩ 1 1 [u] hy rfl ?_ ?_ (by decide) (by unfold maxLen; omega) hbytes (by omega) _ rfl ?_
  · exact fun j q hj => World.news_of_block (heap_alloc_new w _) j q (by simpa using hj)
  · intro q hq
    simp at hq
    subst hq
    exact hu1
  · intro g' cap w' hown hgr hat _
    refine h _ _ ⟨g', cap, rfl⟩ ⟨us ++ [u], by simpa using hown, by simp [h2], fun j q y' hq hy' => ?_⟩ (Below.grown (hG.trans hgA) hgr (Nat.le_trans hG.size (Nat.le_of_lt hsz)) (fun k hk => by have := (h1.lt k hk).1; omega)) ((hgA.inn _).trans (GrownIn.of_by hgr (fun k hk => hk)))
    have key : ∀ q y', OffG R (fun k => F k ∨ v.ownBlock = some k) w q y' → OffG R (fun k => F k ∨ some g' = some k) w' q y' := by
      intro q y' hq w2 h2'
      have hq' := (hq.grow hgA).step (GrownIn.of_by hgr (fun k hk => .inr hk))
      refine hq.grow hgA w2 ⟨h2'.os.trans hgr.os, h2'.tape.trans hgr.tape, h2'.output.trans hgr.output, Nat.le_trans hgr.size h2'.size, fun j hj hn => ?_⟩
      have hn' : ¬ (F j ∨ v.ownBlock = some j) := hn
      have e1 := hgr.block j hj (fun e => hn' (.inr e.symm))
      refine (h2'.block j (Nat.lt_of_lt_of_le hj hgr.size) (fun hc => ?_)).trans e1
      rcases hc with hc | hc
      · exact hn' (.inl hc)
      · injection hc with hc
        rcases hat with hat | hat
        · exact hn' (.inr (by rw [hat, hc]))
        · omega
    show OffG R (fun k => F k ∨ some g' = some k) w' q y'
    by_cases hj : j < us.length
    · rw [List.getElem?_append_left hj] at hq
      rw [List.getElem?_append_left (by omega)] at hy'
      exact key q y' (h3 j q y' hq hy')
    · rw [List.getElem?_append_right (by omega)] at hq
      rw [List.getElem?_append_right (by omega)] at hy'
      obtain hj0 : j - us.length = 0 := by
        by_cases h0 : j - us.length = 0
        · exact h0
        · rw [List.getElem?_eq_none (by simp; omega)] at hq; cases hq
      rw [hj0] at hq
      rw [← h2, hj0] at hy'
      simp at hq hy'
      subst hq hy'
      exact key _ _ hoff

end

/-- Bytes of a row of the call's own. -/
theorem OffG.own {G : Nat → Prop} {w : World} {B : Nat} {e : TypeId} {v : Value} {n : Nat} {l : List Int} (h : w.ownsRow B e 1 v n (l.map (Value.int .u8))) (ho : Octets l) (hg : ∀ k, G k → k < B) : OffG Bs G w v l := fun _ h' =>
  Bs.of_own (own_kept h h' (fun k hk hGk => by have := hg k hGk; have := (h.lt k hk).1; omega)) ho

end Go.Proofs.Ytjggiameajndgab

/-
  Stores into rows of the call's own; rows beside one another; a block that holds an intent.
-/
namespace Go.Proofs.Ytjggiameajndgab
open Go.RowKit

section
variable {α : Type} {R : World → Value → α → Prop} {F G : Nat → Prop} {w w0 w1 : World} {u v : Value} {x : α} {xs : List α} {B : Nat} {e : TypeId}

theorem GrownIn.mono (h : GrownIn w w1 F) (hG : ∀ k, F k → G k) : GrownIn w w1 G := ⟨h.os, h.tape, h.output, h.size, fun k hk hn => h.block k hk (fun hf => hn (hG k hf))⟩
theorem grownIn_set (w : World) (g k : Nat) (u : Value) (hG : G g) : GrownIn w (w.setCell ⟨g, k, none⟩ u) G := GrownIn.of_by (grown_set w g k u) (fun j hj => by cases hj; exact hG)

theorem RowingF.plain (h : RowingF F R B e w v xs) : Rowing R B e w v xs := by
  obtain ⟨us, h1, h2, h3⟩ := h
  exact ⟨us, h1, h2, fun i u x hu hx w' hw' => h3 i u x hu hx w' (GrownIn.of_by hw' (fun k hk => .inr hk))⟩

theorem RowingF.kept (h : RowingF F R B e w v xs) (hg : GrownIn w w1 F) (hn : ∀ k, v.ownBlock = some k → ¬ F k) : RowingF F R B e w1 v xs := by
  obtain ⟨us, h1, h2, h3⟩ := h
  exact ⟨us, own_kept h1 hg hn, h2, fun i u x hu hx => (h3 i u x hu hx).step (hg.mono (fun k hk => .inl hk))⟩

theorem RowingF.stored {g n cap : Nat} (h : RowingF F R B e w (.slice (some ⟨g, 0, none⟩) n cap) xs) (k : Nat) (hoff : OffG R (fun j => F j ∨ some g = some j) w u x) : RowingF F R B e (w.setCell ⟨g, k, none⟩ u) (.slice (some ⟨g, 0, none⟩) n cap) (xs.set k x) := by
  obtain ⟨rfl, -⟩ := h.plain.cap
  obtain ⟨us, h1, h2, h3⟩ := h
  have hg : GrownIn w (w.setCell ⟨g, k, none⟩ u) (fun j => F j ∨ some g = some j) := grownIn_set w g k u (.inr rfl)
  refine ⟨us.set k u, by rw [List.length_set]; exact (h1.stored k u).1, by simp [h2], fun i q y hq hy => ?_⟩
  by_cases hik : i = k
  · subst hik
    have hlt : i < us.length := by
      by_cases hlt : i < us.length
      · exact hlt
      · rw [List.getElem?_eq_none (by simp; omega)] at hq; cases hq
    rw [List.getElem?_set_self hlt] at hq
    rw [List.getElem?_set_self (by omega)] at hy
    cases hq
    cases hy
    exact hoff.step hg
  · rw [List.getElem?_set_ne (fun e => hik e.symm)] at hq hy
    exact (h3 i q y hq hy).step hg

end

/-- A block that holds an intent: nothing of rows of two cells lies there, nor bytes. -/
def Itn (R : Nat) (w : World) : Prop := ∃ n a b c t, w.heap[R]? = some (.cells #[.int .i64 n, .slice a b c] t (0, 0))

theorem Itn.cell {R : Nat} {w : World} (h : Itn R w) {off : Nat} {u : Value} (hu : w.cell? ⟨R, off, none⟩ = some u) : (off = 0 ∧ ∃ n, u = .int .i64 n) ∨ (off = 1 ∧ ∃ a b c, u = .slice a b c) := by
  obtain ⟨n, a, b, c, t, h⟩ := h
  rw [cell_of_row w R off _ _ _ h] at hu
  match off, hu with
  | 0, hu => simp at hu; exact .inl ⟨rfl, _, hu.symm⟩
  | 1, hu => simp at hu; exact .inr ⟨rfl, _, _, _, hu.symm⟩
  | n + 2, hu => simp at hu

theorem Itn.bytes {R : Nat} {w : World} (h : Itn R w) {u : Value} {l : List Int} (hb : Bs w u l) : Off Bs (some R) w u l := fun w' hg => by
  obtain ⟨ao, cap, hv, h1, h2, h3, h4, h5⟩ := hb
  refine ⟨ao, cap, hv, h1, h2, h3, h4, fun hp => ?_⟩
  obtain ⟨b, off, e, hc⟩ := h5 hp
  refine ⟨b, off, e, fun i hi => hg.cell (hc i hi) (fun e => ?_)⟩
  simp only [Option.some.injEq] at e
  subst e
  rcases h.cell (hc i hi) with ⟨_, n, this⟩ | ⟨_, _, _, _, this⟩
  · cases this
  · cases this

theorem Itn.bss {R : Nat} {w : World} (h : Itn R w) {v : Value} {ls : List (List Int)} (hs : Bss w v ls) (hl : 2 ≤ ls.length) : BssX (some R) w v ls := ⟨Sl.lift (fun _ _ hb => h.bytes hb) hs (Grow.refl _), fun hp b hb e => by
  obtain ⟨ao, cap, rfl, h1, h2, h3, h4⟩ := hs
  obtain ⟨b', off, rfl, hc⟩ := h4 hp
  simp only [Value.ownBlock, Option.some.injEq] at hb e
  subst hb e
  obtain ⟨u, hu, hr⟩ := hc 0 (ls[0]) (by simp [show 0 < ls.length by omega])
  obtain ⟨u', hu', _⟩ := hc 1 (ls[1]) (by simp [show 1 < ls.length by omega])
  obtain ⟨x1, x2, x3, rfl⟩ := hr.form
  rcases h.cell hu with ⟨_, n, this⟩ | ⟨h0, _⟩
  · cases this
  · rcases h.cell hu' with ⟨h1, _⟩ | ⟨h1, _⟩ <;> omega⟩

end Go.Proofs.Ytjggiameajndgab
