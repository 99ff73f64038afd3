import Derived.Lib.IndexLaws
import Derived.Laws.DeepStrings4
import Derived.Lib.Split
import Derived.Deep.OwnRows
import Derived.Test.YtjggiameajndgadGreatDoorJoin7
/-
  Plain: the words of a text, cut at its first blanks alone.
-/
namespace Go.Proofs.YtjggiameajndgadGreatDoor

/-- Words, cut at the first k blanks. -/
def spl : Nat → List UInt8 → List (List UInt8)
  | 0, s => [s]
  | k + 1, s => if Lib.indexByte s 32 = -1 then [s] else s.take (Lib.indexByte s 32).toNat :: spl k (s.drop ((Lib.indexByte s 32).toNat + 1))

theorem no_blank {s : List UInt8} (h : Lib.indexByte s 32 = -1) : 32 ∉ s := by
  intro hm
  obtain ⟨k, hk, e⟩ := List.mem_iff_getElem.1 hm
  exact Lib.indexByte_none h k (by rw [List.getElem?_eq_getElem hk, e])

theorem split_miss {s : List UInt8} (h : Lib.indexByte s 32 = -1) : split s = [s] := split_word s (no_blank h)

theorem first_blank {s : List UInt8} {i : Nat} (h : Lib.indexByte s 32 = i) : i < s.length ∧ s = s.take i ++ 32 :: s.drop (i + 1) ∧ 32 ∉ s.take i := by
  obtain ⟨h1, h2⟩ := Lib.indexByte_some h
  have hi : i < s.length := by
    by_cases hi : i < s.length
    · exact hi
    · rw [List.getElem?_eq_none (Nat.le_of_not_lt hi)] at h1; cases h1
  refine ⟨hi, ?_, ?_⟩
  · rw [List.getElem?_eq_getElem hi] at h1
    have e := Option.some.inj h1
    conv => lhs; rw [← List.take_append_drop i s, List.drop_eq_getElem_cons hi, e]
  · intro hm
    obtain ⟨k, hk, e⟩ := List.mem_iff_getElem.1 hm
    have hki : k < i := by simp at hk; omega
    refine h2 k hki ?_
    rw [List.getElem_take] at e
    rw [List.getElem?_eq_getElem (by omega), e]

theorem split_hit {s : List UInt8} {i : Nat} (h : Lib.indexByte s 32 = i) : split s = s.take i :: split (s.drop (i + 1)) := by
  obtain ⟨-, e, hn⟩ := first_blank h
  conv => lhs; rw [e]
  exact split_append _ _ hn

theorem blank_cases (s : List UInt8) : Lib.indexByte s 32 = -1 ∨ ∃ i : Nat, Lib.indexByte s 32 = i := by
  have := Lib.indexByte_ge s 32
  by_cases h : Lib.indexByte s 32 = -1
  · exact .inl h
  · exact .inr ⟨(Lib.indexByte s 32).toNat, by omega⟩

theorem spl_miss {s : List UInt8} (h : Lib.indexByte s 32 = -1) (k : Nat) : spl k s = [s] := by
  cases k with
  | zero => rfl
  | succ k => unfold spl; rw [if_pos h]

theorem spl_hit {s : List UInt8} {i : Nat} (h : Lib.indexByte s 32 = i) (k : Nat) : spl (k + 1) s = s.take i :: spl k (s.drop (i + 1)) := by
  rw [spl, if_neg (by omega), h, Int.toNat_natCast]

theorem spl_few : ∀ (k : Nat) (s : List UInt8), (spl k s).length ≤ k → spl k s = split s
  | 0, s, h => by simp [spl] at h
  | k + 1, s, h => by
    rcases blank_cases s with hb | ⟨i, hb⟩
    · rw [spl_miss hb, split_miss hb]
    · rw [spl_hit hb] at h ⊢
      rw [split_hit hb, spl_few k _ (by simpa using h)]

theorem spl_all : ∀ (k : Nat) (s : List UInt8), (split s).length ≤ k + 1 → spl k s = split s
  | 0, s, h => by
    rcases blank_cases s with hb | ⟨i, hb⟩
    · rw [spl_miss hb, split_miss hb]
    · rw [split_hit hb] at h
      have := List.length_pos_iff.2 (split_ne (s.drop (i + 1)))
      simp only [List.length_cons] at h
      omega
  | k + 1, s, h => by
    rcases blank_cases s with hb | ⟨i, hb⟩
    · rw [spl_miss hb, split_miss hb]
    · rw [split_hit hb] at h
      rw [spl_hit hb, split_hit hb, spl_all k _ (by simpa using h)]

theorem spl_head (k : Nat) (s : List UInt8) : (spl (k + 1) s).getD 0 [] = (split s).getD 0 [] := by
  rcases blank_cases s with hb | ⟨i, hb⟩
  · rw [spl_miss hb, split_miss hb]
  · rw [spl_hit hb, split_hit hb]; rfl

theorem spl_min (s : List UInt8) : spl (min 4 (s.length + 1) - 1) s = spl 3 s := by
  by_cases h : s.length < 3
  · rw [show min 4 (s.length + 1) - 1 = s.length by omega, spl_all _ s (split_length s), spl_all 3 s (by have := split_length s; omega)]
  · rw [show min 4 (s.length + 1) - 1 = 3 by omega]

theorem spl_three (s : List UInt8) : (spl 3 s).length = 3 ↔ (split s).length = 3 := by
  constructor
  · intro h
    rw [← spl_few 3 s (by omega)]; exact h
  · intro h
    rw [spl_all 3 s (by omega)]; exact h

theorem spl_pos : ∀ (k : Nat) (s : List UInt8), 0 < (spl k s).length
  | 0, s => by simp [spl]
  | k + 1, s => by
    rcases blank_cases s with hb | ⟨i, hb⟩
    · rw [spl_miss hb]; simp
    · rw [spl_hit hb]; simp

theorem spl_word_len : ∀ (k : Nat) (s w : List UInt8), w ∈ spl k s → w.length ≤ s.length
  | 0, s, w, h => by simp [spl] at h; subst h; exact Nat.le_refl _
  | k + 1, s, w, h => by
    rcases blank_cases s with hb | ⟨i, hb⟩
    · rw [spl_miss hb] at h; simp at h; subst h; exact Nat.le_refl _
    · rw [spl_hit hb] at h
      rcases List.mem_cons.1 h with rfl | h
      · simp; omega
      · have := spl_word_len k _ w h
        simp at this; omega

/-- A text's deed, by the words at its first three blanks. -/
theorem parse_spl (s : List UInt8) : parseP s = if (spl 3 s).getD 0 [] = wrW then wordsP 1 (spl 3 s) else if (spl 3 s).getD 0 [] = swW then wordsP 2 (spl 3 s) else noP 1 := by
  have hw : ∀ k, wordsP k (split s) = wordsP k (spl 3 s) := fun k => by
    by_cases h : (split s).length = 3
    · rw [spl_all 3 s (by omega)]
    · have h' : ¬ (spl 3 s).length = 3 := fun e => h ((spl_three s).1 e)
      have key : ∀ ws : List (List UInt8), ws.length ≠ 3 → wordsP k ws = noP 2 := fun ws hn => by
        unfold wordsP
        split
        · simp at hn
        · rfl
      rw [key _ h, key _ h']
  have hh : (split s).headD [] = (spl 3 s).getD 0 [] := by rw [spl_head 2 s]; cases split s <;> rfl
  unfold parseP
  rw [hh, hw, hw]

end Go.Proofs.YtjggiameajndgadGreatDoor

/-
  A deed that lies in a block: read whole, answered.
-/
namespace Go.Proofs.YtjggiameajndgadGreatDoor
open Go.RowKit

theorem Tryz.sizeD : (Tryz.prog.info? 36).map (·.size) = some 4 := by kernel_rfl

/-- A struct that lies in four cells, read whole. -/
theorem run_loadVar_four {P : Program} {ty : TypeId} (w : World) (g : Nat) (d : TypeDesc) {x y z u : Value} (hu : P.underlying ty = some d) (hd : (match d with | .struct _ | .array _ _ => true | _ => false) = true) (hi : (P.info? ty).map (·.size) = some 4)
    (h0 : w.cell? ⟨g, 0, none⟩ = some x) (h1 : w.cell? ⟨g, 1, none⟩ = some y) (h2 : w.cell? ⟨g, 2, none⟩ = some z) (h3 : w.cell? ⟨g, 3, none⟩ = some u) : (loadVar ty ⟨g, 0, none⟩).run P w = .ok (.agg #[x, y, z, u]) w := by
  have hl := run_loadCells_list (P := P) w ⟨g, 0, none⟩ [x, y, z, u] (fun j v hj => by
    match j, hj with
    | 0, hj => simp at hj; subst hj; simpa [Addr.add] using h0
    | 1, hj => simp at hj; subst hj; simpa [Addr.add] using h1
    | 2, hj => simp at hj; subst hj; simpa [Addr.add] using h2
    | 3, hj => simp at hj; subst hj; simpa [Addr.add] using h3)
  simp only [List.length_cons, List.length_nil] at hl
  cases hq : P.info? ty with
  | none => simp [hq] at hi
  | some i =>
    have hs : i.size = 4 := by simpa [hq] using hi
    have hagg : (isAgg ty).run P w = .ok true w := by
      unfold isAgg
      rw [Sem.run_bind, run_underlying hu w]
      cases d <;> simp_all
    simp [loadVar, Sem.run_bind, hagg, sizeOf, typeInfo, hq, hs, hl]

/-- Results the first of which lies in four cells. -/
theorem results_four1 {P : Program} {fn : Func} {p u : Tmp} {ty : TypeId} (h : fn.results = #[.cell p ty, .tmp u]) (tmps : Array Value) (w : World) (g : Nat) (d : TypeDesc) {x y z q : Value}
    (hp : tmps.getD p undef = .pointer (some ⟨g, 0, none⟩)) (hu : P.underlying ty = some d) (hd : (match d with | .struct _ | .array _ _ => true | _ => false) = true) (hi : (P.info? ty).map (·.size) = some 4)
    (h0 : w.cell? ⟨g, 0, none⟩ = some x) (h1 : w.cell? ⟨g, 1, none⟩ = some y) (h2 : w.cell? ⟨g, 2, none⟩ = some z) (h3 : w.cell? ⟨g, 3, none⟩ = some q) : (results fn tmps).run P w = .ok (.tuple #[.agg #[x, y, z, q], tmps.getD u undef]) w := by
  have hp' : tmps[p]?.getD undef = .pointer (some ⟨g, 0, none⟩) := by simpa using hp
  simp [results, h, hp', asAddr, run_loadVar_four w g d hu hd hi h0 h1 h2 h3, Result.andThen]

theorem cset_ne {w : World} {p a : Addr} {v : Value} (h : p.block ≠ a.block ∨ p.off ≠ a.off) : (w.setCell p v).cell? a = w.cell? a :=
  World.cell?_setCell_other w p a v (fun e => by rw [e] at h; simp at h)

/-- A deed's block. -/
def Box4 (w : World) (g : Nat) (a b c d : Value) : Prop :=
  w.cell? ⟨g, 0, none⟩ = some a ∧ w.cell? ⟨g, 1, none⟩ = some b ∧ w.cell? ⟨g, 2, none⟩ = some c ∧ w.cell? ⟨g, 3, none⟩ = some d ∧ ∀ i, w.frozen? ⟨g, i, none⟩ = false

theorem Box4.new {w : World} {g : Nat} {a b c d : Value} {t : TypeId} (h : w.heap[g]? = some (.cells #[a, b, c, d] t)) : Box4 w g a b c d :=
  ⟨by simp [World.cell?, h], by simp [World.cell?, h], by simp [World.cell?, h], by simp [World.cell?, h], fun i => by simp [World.frozen?, h]⟩

theorem Box4.lt {w : World} {g : Nat} {a b c d : Value} (h : Box4 w g a b c d) : g < w.heap.size := cell_lt h.1

theorem Box4.grow {w w' : World} {g : Nat} {a b c d : Value} (h : Box4 w g a b c d) (hg : Grow w w') : Box4 w' g a b c d :=
  ⟨hg.at h.1, hg.at h.2.1, hg.at h.2.2.1, hg.at h.2.2.2.1, fun i => (hg.frozen (a := ⟨g, i, none⟩) h.lt).trans (h.2.2.2.2 i)⟩

theorem fset {w : World} {p a : Addr} {v : Value} : (w.setCell p v).frozen? a = w.frozen? a := by simp

/-- Another block is written. -/
theorem Box4.other {w : World} {g k : Nat} {a b c d : Value} (h : Box4 w g a b c d) (hk : k ≠ g) (i : Nat) (u : Value) : Box4 (w.setCell ⟨k, i, none⟩ u) g a b c d :=
  ⟨(cset_ne (.inl hk)).trans h.1, (cset_ne (.inl hk)).trans h.2.1, (cset_ne (.inl hk)).trans h.2.2.1, (cset_ne (.inl hk)).trans h.2.2.2.1, fun i => fset.trans (h.2.2.2.2 i)⟩

theorem Box4.kept {w w' : World} {g : Nat} {a b c d : Value} {row : Option Nat} (h : Box4 w g a b c d) (hg : w.grownBy w' row) (hne : row ≠ some g) : Box4 w' g a b c d := by
  have hb := hg.block g h.lt (fun e => hne e.symm)
  refine ⟨?_, ?_, ?_, ?_, fun i => (World.frozen?_of_block (a := ⟨g, i, none⟩) hb).trans (h.2.2.2.2 i)⟩
  all_goals simp only [World.cell?, hb]
  · exact h.1
  · exact h.2.1
  · exact h.2.2.1
  · exact h.2.2.2.1

theorem Box4.set0 {w : World} {g : Nat} {a b c d : Value} (h : Box4 w g a b c d) (u : Value) : Box4 (w.setCell ⟨g, 0, none⟩ u) g u b c d :=
  ⟨World.cell?_setCell_same _ _ _ h.1, (cset_ne (.inr (by simp))).trans h.2.1, (cset_ne (.inr (by simp))).trans h.2.2.1, (cset_ne (.inr (by simp))).trans h.2.2.2.1, fun i => fset.trans (h.2.2.2.2 i)⟩

theorem Box4.set1 {w : World} {g : Nat} {a b c d : Value} (h : Box4 w g a b c d) (u : Value) : Box4 (w.setCell ⟨g, 1, none⟩ u) g a u c d :=
  ⟨(cset_ne (.inr (by simp))).trans h.1, World.cell?_setCell_same _ _ _ h.2.1, (cset_ne (.inr (by simp))).trans h.2.2.1, (cset_ne (.inr (by simp))).trans h.2.2.2.1, fun i => fset.trans (h.2.2.2.2 i)⟩

theorem Box4.set2 {w : World} {g : Nat} {a b c d : Value} (h : Box4 w g a b c d) (u : Value) : Box4 (w.setCell ⟨g, 2, none⟩ u) g a b u d :=
  ⟨(cset_ne (.inr (by simp))).trans h.1, (cset_ne (.inr (by simp))).trans h.2.1, World.cell?_setCell_same _ _ _ h.2.2.1, (cset_ne (.inr (by simp))).trans h.2.2.2.1, fun i => fset.trans (h.2.2.2.2 i)⟩

theorem Box4.set3 {w : World} {g : Nat} {a b c d : Value} (h : Box4 w g a b c d) (u : Value) : Box4 (w.setCell ⟨g, 3, none⟩ u) g a b c u :=
  ⟨(cset_ne (.inr (by simp))).trans h.1, (cset_ne (.inr (by simp))).trans h.2.1, (cset_ne (.inr (by simp))).trans h.2.2.1, World.cell?_setCell_same _ _ _ h.2.2.2.1, fun i => fset.trans (h.2.2.2.2 i)⟩

theorem Grow.set' {w0 w : World} (h : Grow w0 w) {g k : Nat} (hg : w0.heap.size ≤ g) (u : Value) : Grow w0 (w.setCell ⟨g, k, none⟩ u) := Below.setCell h (p := ⟨g, k, none⟩) hg u

/-- Its four cells are written anew. -/
theorem Box4.put {w0 w : World} {g : Nat} {a b c d : Value} (h : Box4 w g a b c d) (hg : Grow w0 w) (hw : w0.heap.size ≤ g) (x y z u : Value) :
    Box4 ((((w.setCell ⟨g, 0, none⟩ x).setCell ⟨g, 1, none⟩ y).setCell ⟨g, 2, none⟩ z).setCell ⟨g, 3, none⟩ u) g x y z u ∧
    Grow w0 ((((w.setCell ⟨g, 0, none⟩ x).setCell ⟨g, 1, none⟩ y).setCell ⟨g, 2, none⟩ z).setCell ⟨g, 3, none⟩ u) :=
  ⟨(((h.set0 x).set1 y).set2 z).set3 u, (((hg.set' hw x).set' hw y).set' hw z).set' hw u⟩

end Go.Proofs.YtjggiameajndgadGreatDoor

/-
  What the reference's Parse returns, where the first word is not 'write'.
-/
namespace Go.Proofs.YtjggiameajndgadGreatDoor
open Go.RowKit

theorem Tryz.infoT : (Tryz.prog.info? 9).map (fun i => (i.zero, i.size, i.bytes)) = some (some (.string { data := #[] }), 1, 16) := by kernel_rfl

/-- A value that is a text. -/
def StrV (_ : World) (v : Value) (l : List UInt8) : Prop := v = .string (str l)

theorem StrV.off {w : World} {g : Option Nat} {l : List UInt8} : Off StrV g w (.string (str l)) l := fun _ _ => rfl

theorem str_cut (l : List UInt8) (a b : Nat) : (str l).extract a b = str ((l.drop a).take (b - a)) := by
  apply ByteArray.ext
  simp [str, List.extract_eq_take_drop]

theorem str_index {w : World} (l : List UInt8) (i : Nat) (hi : i < l.length) :
    (Instr.index 9 (.string (str l)) (.int .i64 i)).run Tryz.prog w = .ok (.int .u8 ((l.getD i 0).toNat : Int)) w := by
  rw [run_index_string _ _ _ _ _ Tryz.underlying9, dif_pos ⟨by omega, by rw [str_size]; omega⟩]
  congr 3
  simp only [Int.toNat_natCast]
  simp [List.getD_eq_getElem?_getD, ByteArray.getElem_eq_getElem_data, str, hi]

theorem u8_lit {c : UInt8} {k : Nat} (hk : k < 256) : ((c.toNat : Int) = (k : Int)) ↔ c = UInt8.ofNat k := by
  constructor
  · intro h
    apply UInt8.toNat_inj.1
    rw [UInt8.toNat_ofNat']
    omega
  · rintro rfl
    rw [UInt8.toNat_ofNat']
    omega

theorem Sl.textAt {w : World} {b off : Nat} {ls : List (List UInt8)} (hc : ∀ (i : Nat) x, ls[i]? = some x → ∃ u, w.cell? ⟨b, off + i, none⟩ = some u ∧ StrV w u x) (k : Nat) (hk : k < ls.length) :
    w.cell? ⟨b, off + k, none⟩ = some (.string (str (ls.getD k []))) := by
  obtain ⟨u, hu, rfl⟩ := hc k (ls.getD k []) (by simp [List.getD_eq_getElem?_getD, hk])
  exact hu

theorem words_len {k : Int} {ws : List (List UInt8)} (h : ws.length ≠ 3) : wordsP k ws = noP 2 := by
  unfold wordsP
  split
  · simp at h
  · rfl

theorem three {ws : List (List UInt8)} (h : ws.length = 3) : ws = [ws.getD 0 [], ws.getD 1 [], ws.getD 2 []] := by
  match ws, h with
  | [a, b, c], _ => rfl

theorem split_word_len : ∀ (s : List UInt8) (w : List UInt8), w ∈ split s → w.length ≤ s.length
  | [], w, h => by simp [split] at h; subst h; simp
  | c :: r, w, h => by
    have ih := split_word_len r
    have hne := split_ne r
    simp only [split] at h
    split at h
    · rcases List.mem_cons.1 h with rfl | h
      · simp
      · have := ih w h; simp; omega
    · revert h ih hne
      cases split r with
      | nil => intro _ hne _; exact absurd rfl hne
      | cons v vs =>
        intro ih _ h
        rcases List.mem_cons.1 h with rfl | h
        · have := ih v (by simp); simp; omega
        · have := ih w (List.mem_cons_of_mem _ h); simp; omega

theorem word_len (s : List UInt8) (k : Nat) : ((split s).getD k []).length ≤ s.length := by
  by_cases hk : k < (split s).length
  · exact split_word_len s _ (by simp [List.getD_eq_getElem?_getD, hk])
  · simp [List.getD_eq_getElem?_getD, Nat.le_of_not_lt hk]

theorem num_yes {l : List UInt8} {v : Int} (h : Lib.atoiAll l = .ok v) (he : Lib.itoa v = l) : numL l = some v := by
  unfold numL; rw [h]; exact if_pos he

theorem num_other {l : List UInt8} {v : Int} (h : Lib.atoiAll l = .ok v) (he : ¬ Lib.itoa v = l) : numL l = none := by
  unfold numL; rw [h]; exact if_neg he

theorem num_no {l : List UInt8} (h : ∀ v, Lib.atoiAll l ≠ .ok v) : numL l = none := by
  unfold numL
  split
  · rename_i v hv; exact absurd hv (h v)
  · rfl

theorem form_none1 {k : Int} {a b : List UInt8} (h : numL a = none) : form k a b = none := by
  unfold form; rw [h]

theorem form_two {a b : List UInt8} {n m : Int} (h : numL a = some n) (h2 : numL b = some m) : form 2 a b = some ⟨2, n, m, []⟩ := by
  unfold form; rw [h, h2]; simp

theorem form_none2 {a b : List UInt8} (h : numL b = none) : form 2 a b = none := by
  unfold form; rw [h]
  cases numL a with
  | none => rfl
  | some n => simp

theorem lt_heap {w : World} {g : Nat} {o : Obj} (h : w.heap[g]? = some o) : g < w.heap.size := by
  by_cases hg : g < w.heap.size
  · exact hg
  · rw [Array.getElem?_eq_none (Nat.le_of_not_lt hg)] at h; cases h

theorem str_list (a : List UInt8) : (str a).toList = a := by
  rw [ByteArray.toList_eq]; simp [str]

theorem test_no {a b : List UInt8} (h : ¬ a = b) : ((str a).toList == b) = false := by
  rw [str_list]; simpa using h

theorem test_yes {a b : List UInt8} (h : a = b) : ((str a).toList == b) = true := by
  rw [str_list]; simpa using h

end Go.Proofs.YtjggiameajndgadGreatDoor

/-
  What strings.SplitN returns at a blank, and four: the words at the first three blanks; for a text of whatever length.
-/
namespace Go.Proofs.YtjggiameajndgadGreatDoor
open Go.RowKit

theorem sl_words (w : World) (ws : List (List UInt8)) (N : Nat) (hN : ws.length ≤ N) (hM : N ≤ maxLen) (t : TypeId) :
    Sl StrV (w.alloc (.cells (Lib.cellsOf (ws.map str) N) t)) (.slice (some ⟨w.heap.size, 0, none⟩) ws.length N) ws := by
  refine ⟨some ⟨w.heap.size, 0, none⟩, N, rfl, hN, hM, (fun h => nomatch h), fun _ => ⟨w.heap.size, 0, rfl, fun i x hx => ⟨.string (str x), ?_, rfl⟩⟩⟩
  have hi : i < ws.length := (List.getElem?_eq_some_iff.1 hx).1
  have h := heap_alloc_new w (.cells (Lib.cellsOf (ws.map str) N) t)
  simp only [World.cell?, h]
  have hx' : ws[i] = x := by rw [List.getElem?_eq_getElem hi] at hx; exact Option.some.inj hx
  simp [Lib.cellsOf, List.getElem?_append, hi, hx']

set_option maxRecDepth 20000 in
set_option maxHeartbeats 3200000 in
theorem genSplit_any (s : List UInt8) (w : World) (hs : s.length ≤ 281474976710656) :
    Calls Tryz.prog 68 #[.string (str s), .string { data := #[32] }, .int .i64 0, .int .i64 4] w fun e w' => ∃ v, e = .returned v ∧ Sl StrV w' v (spl 3 s) ∧ Grow w w' := by
  have hsz := str_size s
  obtain ⟨N, hN⟩ : ∃ N, N = min 4 (s.length + 1) := ⟨_, rfl⟩
  have eN : min (4 : Int) ((s.length : Int) + 1) = (N : Int) := by omega
  have HSP : Hid (spl (N - 1) s = spl 3 s) := by rw [hN]; exact spl_min s
  have hN4 : N ≤ 4 := by omega
  have hN1 : 1 ≤ N := by omega
  clear hN
  have hmk := run_make_row' (P := Tryz.prog) 73 9 (.string ByteArray.empty) 16 Tryz.underlying73 (by kernel_rfl) rfl .i64 .i64 N (by omega) (by omega)
  have he : ({ data := #[32] } : ByteArray).toList.isEmpty = false := by rw [ByteArray.toList_eq]; rfl
  go_enter Tryz.func68, Tryz.ntmps68
  go_wp2_with fail
  clear hmk eN
  go_loopw [0, 10] (fun r i wr => ∃ (done : List (List UInt8)) (rest : List UInt8), r = .string (str rest) ∧ i = .int .i64 done.length ∧ done.length ≤ N - 1 ∧ rest.length ≤ s.length ∧ wr = w.alloc (.cells (Lib.cellsOf (done.map str) N) 9) ∧ Hid (done ++ spl (N - 1 - done.length) rest = spl 3 s)) (fun _ i _ => N - 1 - (intOf i).toNat)
  case atStart => exact ⟨[], s, rfl, rfl, Nat.zero_le _, Nat.le_refl _, by rw [List.map_nil, Lib.cellsOf_nil], HSP⟩
  case round =>
    obtain ⟨done, rest, rfl, rfl, hd, hrs, rfl, HS⟩ := hrel
    have hnext : (Lib.cellsOf (done.map str) N)[done.length]? = some (.string ByteArray.empty) := by
      have := Lib.cellsOf_next (done := done.map str) (N := N) (by simp; omega)
      simpa using this
    have hset : ∀ x : List UInt8, (Lib.cellsOf (done.map str) N).setIfInBounds done.length (.string (str x)) = Lib.cellsOf (done.map str ++ [str x]) N := fun x => by
      have := Lib.cellsOf_set (done := done.map str) (N := N) (by simp; omega) (str x)
      simpa using this
    have hss : (Lib.cellsOf (done.map str) N).size = N := Lib.cellsOf_size (by simp; omega)
    have hrz := str_size rest
    have fin : spl (N - 1 - done.length) rest = [rest] → ∃ v, Value.slice (some ⟨w.heap.size, 0, none⟩) (done.length + 1) N = v ∧ Sl StrV (w.alloc (.cells (Lib.cellsOf (done.map str ++ [str rest]) N) 9)) v (spl 3 s) ∧ Grow w (w.alloc (.cells (Lib.cellsOf (done.map str ++ [str rest]) N) 9)) := fun h => by
      refine ⟨_, rfl, ?_, Grow.alloc _ _⟩
      have e := HS.out
      rw [h] at e
      rw [← e]
      have := sl_words w (done ++ [rest]) N (by simp; omega) (by unfold maxLen; omega) 9
      simpa using this
    have Fin : Hid _ := fin
    clear fin
    by_cases hlt : done.length < N - 1
    · have hltz : ((done.length : Nat) : Int) < (N : Int) - 1 := by omega
      rcases blank_cases rest with hix | ⟨i, hix⟩
      · go_wp2_with fail
        refine (Tryz.strings_Index_one (str rest) 32 _).mono ?_
        rintro e w' ⟨rfl, rfl⟩
        rw [show (str rest).data.toList = rest from by simp [str], hix]
        go_wp2_with fail
        go_ret
        obtain ⟨v, hv, h1, h2⟩ := Fin.out (spl_miss hix _)
        exact ⟨v, by rw [← hv]; first | rfl | (congr 2 <;> omega), h1, h2⟩
      · obtain ⟨hil, -, -⟩ := first_blank hix
        have hc1 := str_cut rest 0 i
        have hc2 := str_cut rest (i + 1) rest.length
        rw [List.drop_zero, Nat.sub_zero] at hc1
        rw [List.take_of_length_le (by simp)] at hc2
        have HS' : Hid ((done ++ [rest.take i]) ++ spl (N - 1 - (done.length + 1)) (rest.drop (i + 1)) = spl 3 s) := by
          have e := HS.out
          rw [show N - 1 - done.length = (N - 1 - (done.length + 1)) + 1 by omega, spl_hit hix] at e
          rw [Hid, ← e]; simp
        clear HS Fin
        go_wp2_with fail
        refine (Tryz.strings_Index_one (str rest) 32 _).mono ?_
        rintro e w' ⟨rfl, rfl⟩
        rw [show (str rest).data.toList = rest from by simp [str], hix]
        go_wp2_with fail
        go_roundw
        case rel => first | exact ⟨done ++ [rest.take i], rest.drop (i + 1), rfl, by simp, by simp; omega, by simp; omega, by simp, by simpa using HS'⟩ | ((repeat apply Exists.intro); exact ⟨⟨done ++ [rest.take i], rest.drop (i + 1), rfl, by simp, by simp; omega, by simp; omega, by simp, by simpa using HS'⟩, rfl⟩)
        case measure => simp [intOf]; omega
    · have hltz : ¬ (((done.length : Nat) : Int) < (N : Int) - 1) := by omega
      go_wp2_with fail
      go_ret
      obtain ⟨v, hv, h1, h2⟩ := Fin.out (by rw [show N - 1 - done.length = 0 by omega]; rfl)
      exact ⟨v, by rw [← hv]; first | rfl | (congr 2 <;> omega), h1, h2⟩

set_option maxRecDepth 20000 in
theorem splitN_any (s : List UInt8) (w : World) (hs : s.length ≤ 281474976710656) :
    Calls Tryz.prog 58 #[.string (str s), .string { data := #[32] }, .int .i64 4] w fun e w' => ∃ v, e = .returned v ∧ Sl StrV w' v (spl 3 s) ∧ Grow w w' := by
  go_enter Tryz.func58, Tryz.ntmps58
  go_wp2_with fail
  refine (genSplit_any s _ hs).mono ?_
  rintro e w' ⟨v, rfl, h1, h2⟩
  go_wp2_with fail
  go_ret
  exact ⟨v, rfl, h1, h2⟩

end Go.Proofs.YtjggiameajndgadGreatDoor

/-
  What the reference's Parse returns, where the first word is 'write'.
-/
namespace Go.Proofs.YtjggiameajndgadGreatDoor
open Go.RowKit

theorem form_odd {a b : List UInt8} (h : unhex b = none) : form 1 a b = none := by
  unfold form; rw [h]
  cases numL a with
  | none => rfl
  | some n => simp

theorem form_one {a b : List UInt8} {n : Int} {d : List Int} (h : numL a = some n) (h2 : unhex b = some d) : form 1 a b = some ⟨1, n, 0, d⟩ := by
  unfold form; rw [h, h2]; simp

theorem own_set' {w : World} {B : Nat} {e : TypeId} {v : Value} {n : Nat} {us : List Value} (h : w.ownsRow B e 1 v n us) {p : Addr} (hp : v.ownBlock ≠ some p.block) (u : Value) : (w.setCell p u).ownsRow B e 1 v n us :=
  h.kept (row := some p.block) ⟨rfl, rfl, rfl, by simp, fun k _ hk => Below.heap_setCell w p u k (fun e => hk (by rw [e]))⟩ (.inr hp)

theorem cell_kept {w w' : World} {b o : Nat} {v : Value} {row : Option Nat} (h : w.cell? ⟨b, o, none⟩ = some v) (hg : w.grownBy w' row) (hne : row ≠ some b) : w'.cell? ⟨b, o, none⟩ = some v := by
  have hb := hg.block b (cell_lt h) (fun e => hne e.symm)
  simp only [World.cell?, hb]
  exact h

theorem own_form {w : World} {B : Nat} {e : TypeId} {v : Value} {n : Nat} {us : List Value} (h : w.ownsRow B e 1 v n us) : ∃ ao c, v = .slice ao n c := by
  obtain ⟨hl, h⟩ := h
  rcases h with ⟨rfl, h0⟩ | ⟨g, cap, cur, rfl, -⟩
  · exact ⟨none, 0, by rw [h0]⟩
  · exact ⟨_, _, rfl⟩

theorem size_of {w w' : World} (_ : Grow w w') : ∃ B, B = w'.heap.size := ⟨_, rfl⟩

theorem Tryz.infoBP : (Tryz.prog.info? 5).map (fun i => (i.zero, i.size, i.bytes)) = some (some (.int .u8 0), 1, 1) := by kernel_rfl

end Go.Proofs.YtjggiameajndgadGreatDoor

/-
  What text.parseNumber and text.parseData return: a number that is written as it must be; the bytes that digits stand for.
-/
namespace Go.Proofs.YtjggiameajndgadGreatDoor
open Go.RowKit

set_option maxRecDepth 20000 in
set_option maxHeartbeats 800000 in
theorem parseNumber_any (l : List UInt8) (hl : l.length ≤ 281474976710656) (w : World) (hlaid : Laid w) :
    Calls Tryz.prog 69 #[.string (str l)] w fun e w' => ∃ n, e = .returned (.tuple #[.int .i64 n, .bool (numL l).isSome]) ∧ (∀ v, numL l = some v → n = v) ∧ Grow w w' := by
  go_enter Tryz.func69, Tryz.ntmps69
  go_wp2_with fail
  refine (atoi_full l hl _ hlaid).mono ?_
  rintro e w5 ⟨hg5, (⟨v, hv, v0, v1, rfl⟩ | ⟨hno, v, p, rfl⟩)⟩
  · by_cases heq : Lib.itoa v = l
    · have HNu : Hid (numL l = some v) := num_yes hv heq
      have htest : ((str (Lib.itoa v)).toList == (str l).toList) = true := by rw [str_list, str_list]; simpa using heq
      clear heq hv
      go_wp2_with fail
      refine (itoa_full v v0 v1 _ (hlaid.grow hg5)).mono ?_
      rintro e w6 ⟨rfl, hg6⟩
      go_wp2_with fail
      go_ret2
      exact ⟨v, by rw [HNu.out]; rfl, (fun u hu => by rw [HNu.out] at hu; exact Option.some.inj hu), hg5.trans hg6⟩
    · have HNu : Hid (numL l = none) := num_other hv heq
      have htest : ((str (Lib.itoa v)).toList == (str l).toList) = false := by rw [str_list, str_list]; simpa using heq
      clear heq hv
      go_wp2_with fail
      refine (itoa_full v v0 v1 _ (hlaid.grow hg5)).mono ?_
      rintro e w6 ⟨rfl, hg6⟩
      go_wp2_with fail
      go_ret2
      exact ⟨v, by rw [HNu.out]; rfl, (fun u hu => by rw [HNu.out] at hu; cases hu), hg5.trans hg6⟩
  · have HNu : Hid (numL l = none) := num_no hno
    clear hno
    go_wp2_with fail
    go_ret2
    exact ⟨v, by rw [HNu.out]; rfl, (fun u hu => by rw [HNu.out] at hu; cases hu), hg5⟩

theorem own_lowT {w : World} {B B' : Nat} {e : TypeId} {v : Value} {n : Nat} {us : List Value} (h : w.ownsRow B e 1 v n us) (hB : B' ≤ B) : w.ownsRow B' e 1 v n us := by
  obtain ⟨hl, h⟩ := h
  refine ⟨hl, ?_⟩
  rcases h with h | ⟨g, cap, cur, hv, hg, h⟩
  · exact .inl h
  · exact .inr ⟨g, cap, cur, hv, Nat.le_trans hB hg, h⟩

theorem or_half (u v : Nat) (hu : u < 16) (hv : v < 16) : bits .or .u8 ((u : Int) * 16) (v : Int) = 16 * (u : Int) + v := by
  have e : ((u : Int) * 16) = ((2 ^ 4 * u : Nat) : Int) := by omega
  rw [e, u8_or_nat _ _ (by omega) (by omega), ← Nat.two_pow_add_eq_or_of_lt (by omega)]
  omega

set_option maxRecDepth 20000 in
set_option maxHeartbeats 3200000 in
theorem parseData_any (l : List UInt8) (hl : l.length ≤ 140737488355328) (w : World) :
    Calls Tryz.prog 70 #[.string (str l)] w fun e w' => ∃ v d, e = .returned (.tuple #[v, .bool (unhex l).isSome]) ∧ (w'.ownsRow w.heap.size 5 1 v d.length (d.map (Value.int .u8)) ∧ Octets d) ∧ (∀ d', unhex l = some d' → d = d') ∧ Grow w w' := by
  obtain ⟨i1, hi1, hzb0, hzb1, hzb2⟩ := info_parts Tryz.infoBP
  have hsz := str_size l
  by_cases hev : l.length % 2 = 0
  · have he : ((l.length : Int) % 2 != 0) = false := by simp; omega
    go_enter Tryz.func70, Tryz.ntmps70
    go_wp2_with fail
    refine (halves_any _).mono ?_
    rintro e w1 ⟨v, rfl, ⟨b, rfl, hM⟩, hg1, hb⟩
    obtain ⟨w2, hmk, hown, hgm⟩ := run_make_own (P := Tryz.prog) w1 w1.heap.size 34 5 i1 (.int .u8 0) 1 Tryz.underlying34 hi1 hzb0 hzb1 .i64 .i64 (l.length / 2) (by rw [hzb2]; omega) (by unfold maxLen; omega) (Nat.le_refl _)
    rw [show ((l.length / 2 : Nat) : Int) = (l.length : Int) / 2 by omega] at hmk
    have hgA : Grow w1 w2 := Grow.grown (Grow.refl _) hgm (fun j hj => by cases hj)
    have HM2 : Hid (OwnM 5 5 16 (halvesD 16) (.map (some b)) w2) := OwnM.grow ⟨b, rfl, hM⟩ hgA
    have hbl : b < w1.heap.size := hM.lt
    have hB : w1.heap.size ≤ w2.heap.size := hgA.size
    have hgw := hg1.trans hgA
    have HOW : Hid (w2.ownsRow w1.heap.size 5 1 (.slice (some ⟨w1.heap.size, 0, none⟩) 0 (l.length / 2)) 0 []) := hown
    have HEv : Hid (l.length % 2 = 0) := hev
    clear hown hgm hM hgA hev
    go_wp2_with fail
    generalize hcp : l.length / 2 = cp at *
    clear hmk hcp
    go_loopw [5, 6] (fun dv i wr => ∃ (k : Nat) (d : List Int), k ≤ l.length ∧ i = .int .i64 k ∧ Hid (Hx l k d 0) ∧ Hid (k % 2 = 0) ∧ Hid (wr.ownsRow w1.heap.size 5 1 dv d.length (d.map (Value.int .u8))) ∧ Hid (OwnM 5 5 16 (halvesD 16) (.map (some b)) wr) ∧ Grow w wr ∧ w1.heap.size ≤ wr.heap.size) (fun _ i _ => l.length - (intOf i).toNat)
    case atStart => exact ⟨0, [], by omega, rfl, Hx.start l, rfl, HOW, HM2, hgw, hB⟩
    case round =>
      obtain ⟨k, d, hk, rfl, HH, HK, HO, HM, hgr, hB1⟩ := hrel
      clear HOW HM2 hgw hB
      by_cases hlt : k < l.length
      · have hk1 : k + 1 < l.length := by have := HEv.out; have := HK.out; omega
        have hdl : decide ((k : Int) < (l.length : Int)) = true := by simp; omega
        have hix0 := fun w => str_index (w := w) l k hlt
        have hix1 : ∀ w, (Instr.index 9 (.string (str l)) (.int .i64 ((k : Int) + 1))).run Tryz.prog w = .ok (.int .u8 ((l.getD (k + 1) 0).toNat : Int)) w := fun w => str_index (w := w) l (k + 1) hk1
        obtain ⟨x, hx⟩ : ∃ x, x = l.getD k 0 := ⟨_, rfl⟩
        obtain ⟨y, hy⟩ : ∃ y, y = l.getD (k + 1) 0 := ⟨_, rfl⟩
        rw [← hx] at hix0
        rw [← hy] at hix1
        have HX : Hid (x = l.getD k 0) := hx
        have HY : Hid (y = l.getD (k + 1) 0) := hy
        clear hx hy
        have hlk0 := halves_look HM.out x
        have hlk1 := halves_look HM.out y
        cases hVx : hexV x with
        | none =>
          have HU : Hid (unhex l = none) := unhex_bad hlt (by rw [← HX.out]; exact hVx)
          rw [hVx] at hlk0
          simp only [Option.getD_none, Option.isSome_none] at hlk0
          clear hVx
          generalize hexV y = oy at *
          go_wp2_with fail
          go_ret2
          exact ⟨_, [], by rw [HU.out]; rfl, ⟨World.ownsRow_nil _ _ _ _, (fun x hx => by cases hx)⟩, (fun d h => by rw [HU.out] at h; cases h), hgr⟩
        | some u =>
          cases hVy : hexV y with
          | none =>
            have HU : Hid (unhex l = none) := unhex_bad hk1 (by rw [← HY.out]; exact hVy)
            rw [hVx] at hlk0
            rw [hVy] at hlk1
            simp only [Option.getD_none, Option.isSome_none, Option.getD_some, Option.isSome_some] at hlk0 hlk1
            clear hVx hVy
            go_wp2_with fail
            go_ret2
            exact ⟨_, [], by rw [HU.out]; rfl, ⟨World.ownsRow_nil _ _ _ _, (fun x hx => by cases hx)⟩, (fun d h => by rw [HU.out] at h; cases h), hgr⟩
          | some v =>
            have hu16 := (hexV_lt hVx).1
            have hv16 := (hexV_lt hVy).1
            have h1 := HH.out.first HK.out (by rw [← HX.out]; exact hVx)
            obtain ⟨-, -, h2⟩ := Hx.second (i := k + 1) h1.2 (by have := HK.out; omega) hk1 (by rw [← HY.out]; exact hVy)
            have HH2 : Hid (Hx l (k + 2) (d ++ [16 * (u : Int) + v]) 0) := by
              rw [show 16 * (16 * (0 : Int) + (u : Int)) + (v : Int) = 16 * (u : Int) + v by omega] at h2
              exact h2
            rw [hVx] at hlk0
            rw [hVy] at hlk1
            simp only [Option.getD_some, Option.isSome_some] at hlk0 hlk1
            have hor := or_half u v hu16 hv16
            have hdl2 : 2 * d.length ≤ k := by have := HH.out.1; omega
            have hneb : u5.ownBlock ≠ some b := fun e => by have := (HO.out.lt b e).1; omega
            clear hVx hVy h1 h2 HH
            go_wp2_with (first
              | (at_builtin; refine wpList_append_own_any _ rfl (.tmp 49) (.tmp 54) 34 rfl w1.heap.size 5 i1 (.int .u8 0) 1 Tryz.underlying34 hi1 hzb0 hzb1 hzb2 rfl u5 d.length (d.map (Value.int .u8)) rfl (HO.out.alloc _) (some ⟨_, 0, none⟩) 1 1 [.int .u8 (16 * (u : Int) + v)] rfl rfl (fun h => nomatch h) (by intro ad had j u hj; cases had; exact World.news_of_block (heap_alloc_new _ _) j u (by simpa using hj)) (by intro u hu; simp at hu; subst hu; rfl) (by unfold maxLen; omega) (by omega) (by simp; omega) ?_; intro v1 w7 hown1 hgr1; refine Hid.out ?_))
            unfold Hid
            have hM7 := OwnM.kept (OwnM.grow HM.out (Grow.alloc _ (.cells #[.int .u8 (16 * (u : Int) + v)] 5))) hgr1 (fun e => hneb e.symm)
            have hg7 := Grow.grown (hgr.trans (Grow.alloc _ (.cells #[.int .u8 (16 * (u : Int) + v)] 5))) hgr1 (fun k hk => by have := (HO.out.lt k hk).1; have := hg1.size; omega)
            have hB7s : w1.heap.size ≤ w7.heap.size := by have := hgr1.size; simp at this; omega
            have HO7 : Hid (w7.ownsRow w1.heap.size 5 1 v1 (d ++ [16 * (u : Int) + v]).length ((d ++ [16 * (u : Int) + v]).map (Value.int .u8))) := by
              rw [Hid]; simpa using hown1
            have HM7 : Hid _ := hM7
            have HK2 : Hid ((k + 2) % 2 = 0) := by have := HK.out; rw [Hid]; omega
            clear hown1 hM7 hgr1 HO HM hgr hB1 HX HY hlk0 hlk1
            go_wp2_with fail
            go_roundw
            case rel => first | exact ⟨k + 2, _, by omega, by go_num, HH2, HK2, HO7, HM7, hg7, hB7s⟩ | ((repeat apply Exists.intro); exact ⟨⟨k + 2, _, by omega, by go_num, HH2, HK2, HO7, HM7, hg7, hB7s⟩, rfl⟩)
            case measure => simp [intOf]; omega
      · obtain rfl : k = l.length := by omega
        have HU : Hid (unhex l = some d) := HH.out.done HEv.out
        have hoct : Octets d := HH.out.2.1
        go_wp2_with fail
        go_ret2
        exact ⟨_, d, by rw [HU.out]; rfl, ⟨own_lowT HO.out hg1.size, hoct⟩, (fun d' h => by rw [HU.out] at h; exact Option.some.inj h), hgr⟩
  · have he : ((l.length : Int) % 2 != 0) = true := by simp; omega
    have HU : Hid (unhex l = none) := unhex_odd (by omega)
    go_enter Tryz.func70, Tryz.ntmps70
    go_wp2_with fail
    go_ret2
    exact ⟨_, [], by rw [HU.out]; rfl, ⟨World.ownsRow_nil _ _ _ _, (fun x hx => by cases hx)⟩, (fun d h => by rw [HU.out] at h; cases h), Grow.refl _⟩

end Go.Proofs.YtjggiameajndgadGreatDoor

/-
  What text.parseDeed returns: a deed of that kind, right or not, and whether its words are so written.
-/
namespace Go.Proofs.YtjggiameajndgadGreatDoor
open Go.RowKit

theorem words_three {k : Int} {ws : List (List UInt8)} (h : ws.length = 3) : wordsP k ws = match form k (ws.getD 1 []) (ws.getD 2 []) with | none => noP 2 | some x => chkP x := by
  rw [three h]; rfl

/-- A deed whose bytes lie at B or above. -/
def DeedO (B : Nat) (w : World) (v : Value) (x : DeedP) : Prop :=
  ∃ dv, v = .agg #[.int .i64 x.k, .int .i64 x.n, .int .i64 x.m, dv] ∧ w.ownsRow B 5 1 dv x.d.length (x.d.map (Value.int .u8)) ∧ Octets x.d

theorem DeedO.plain {B : Nat} {w : World} {v : Value} {x : DeedP} (h : DeedO B w v x) : DeedV w v x := by
  obtain ⟨dv, hv, ho, hoct⟩ := h
  exact ⟨dv, hv, Bs.of_own ho hoct⟩

set_option maxRecDepth 20000 in
set_option maxHeartbeats 800000 in
theorem parseDeed_any (k : Int) (hk : k = 1 ∨ k = 2) (v : Value) (ws : List (List UInt8)) (w : World) (h : Sl StrV w v ws) (hw : ∀ i, (ws.getD i []).length ≤ 140737488355328) (hlaid : Laid w) :
    Calls Tryz.prog 60 #[.int .i64 k, v] w fun e w' => ∃ u y ok, e = .returned (.tuple #[u, .bool ok]) ∧ DeedO w.heap.size w' u y ∧ Grow w w' ∧ (ok = true → wordsP k ws = chkP y) ∧ (ok = false → wordsP k ws = noP 2) := by
  obtain ⟨ao, cap, rfl, h1, h2, h3, h4⟩ := h
  unfold maxLen at h2
  have hgA : Grow w (w.alloc (.cells #[.int .i64 0, .int .i64 0, .int .i64 0, .slice none 0 0] 36)) := Grow.alloc _ _
  have hbx : (w.alloc (.cells #[.int .i64 0, .int .i64 0, .int .i64 0, .slice none 0 0] 36)).heap[w.heap.size]? = some (.cells #[.int .i64 0, .int .i64 0, .int .i64 0, .slice none 0 0] 36) := heap_alloc_new _ _
  have HR : Hid (Box4 (w.alloc (.cells #[.int .i64 0, .int .i64 0, .int .i64 0, .slice none 0 0] 36)) w.heap.size (.int .i64 0) (.int .i64 0) (.int .i64 0) (.slice none 0 0)) := Box4.new hbx

  clear hbx
  by_cases hn3 : ws.length = 3
  · have HQ : Hid _ := words_three (k := k) hn3
    obtain ⟨b, off, rfl, hc⟩ := h4 (by omega)
    have hcell := Sl.textAt hc
    have c1 := hgA.at (hcell 1 (by omega))
    have c2 := hgA.at (hcell 2 (by omega))
    have hbD : b < w.heap.size := cell_lt (hcell 1 (by omega))
    have l1 := hw 1
    have l2 := hw 2
    have hcap : ¬ cap = 1 := by omega
    have hcap2 : 3 ≤ cap := by omega
    clear h4 hc hcell hw h3 h1
    rw [hn3]
    have Hn3 : Hid (ws.length = 3) := hn3
    clear hn3
    generalize ws.getD 1 [] = A1 at *
    generalize ws.getD 2 [] = A2 at *
    have hgB : Grow (w.alloc (.cells #[.int .i64 0, .int .i64 0, .int .i64 0, .slice none 0 0] 36)) ((w.alloc (.cells #[.int .i64 0, .int .i64 0, .int .i64 0, .slice none 0 0] 36)).alloc (.cells #[.int .i64 k, .int .i64 0, .int .i64 0, .slice none 0 0] 36)) := Grow.alloc _ _
    have HD : Hid (Box4 ((w.alloc (.cells #[.int .i64 0, .int .i64 0, .int .i64 0, .slice none 0 0] 36)).alloc (.cells #[.int .i64 k, .int .i64 0, .int .i64 0, .slice none 0 0] 36)) (w.heap.size + 1) (.int .i64 k) (.int .i64 0) (.int .i64 0) (.slice none 0 0)) := by
      have h := Box4.new (heap_alloc_new (w.alloc (.cells #[.int .i64 0, .int .i64 0, .int .i64 0, .slice none 0 0] 36)) (.cells #[.int .i64 k, .int .i64 0, .int .i64 0, .slice none 0 0] 36))
      rw [Hid]; simpa using h
    have HR2 : Hid (Box4 _ w.heap.size _ _ _ _) := HR.out.grow hgB
    have k1 := hgB.at c1
    have k2 := hgB.at c2
    have hgW := hgA.trans hgB
    have hlB := hlaid.grow hgW
    clear hgA hgB HR c1 c2
    go_enter Tryz.func60, Tryz.ntmps60
    go_wp2_with fail
    generalize (w.alloc (.cells #[.int .i64 0, .int .i64 0, .int .i64 0, .slice none 0 0] 36)).alloc (.cells #[.int .i64 k, .int .i64 0, .int .i64 0, .slice none 0 0] 36) = W2 at *
    obtain ⟨R, hR⟩ : ∃ R, R = w.heap.size := ⟨_, rfl⟩
    rw [← hR] at HD HR2 hbD ⊢
    have hwR : w.heap.size ≤ R := by omega
    clear hR
    refine (parseNumber_any A1 (by omega) _ hlB).mono ?_
    rintro e w5 ⟨n, rfl, hn1, hg5⟩
    have HN1 : Hid _ := hn1
    clear hn1
    obtain ⟨o1, ho1⟩ : ∃ o, o = (numL A1).isSome := ⟨_, rfl⟩
    rw [← ho1]
    have HO1 : Hid (o1 = (numL A1).isSome) := ho1
    clear ho1
    have hB7 := HD.out.grow hg5
    have hR7 := HR2.out.grow hg5
    have HB8 : Hid (Box4 _ (R + 1) _ _ _ _) := hB7.set1 (.int .i64 n)
    have HR8 : Hid (Box4 _ R _ _ _ _) := hR7.other (k := R + 1) (by omega) 1 (.int .i64 n)
    have j2 := hg5.at k2
    have hg8 := Grow.set' (hgW.trans hg5) (g := R + 1) (k := 1) (by omega) (.int .i64 n)
    have hl8 := hlaid.grow hg8
    clear k1 k2 HD HR2 hgW hlB hR7
    obtain ⟨e0, e1, e2, e3, ef⟩ := hB7
    rcases hk with rfl | rfl
    · go_wp2_with fail
      clear e0 e1 e2 e3 ef j2
      generalize w5.setCell ⟨R + 1, 1, none⟩ (.int .i64 n) = W6 at *
      refine (parseData_any A2 l2 _).mono ?_
      rintro e w7 ⟨dv, d, rfl, ⟨hbs, hoct⟩, hd, hg7⟩
      have HD2 : Hid _ := hd
      clear hd
      obtain ⟨o2, ho2⟩ : ∃ o, o = (unhex A2).isSome := ⟨_, rfl⟩
      rw [← ho2]
      have HO2 : Hid (o2 = (unhex A2).isSome) := ho2
      clear ho2
      have hB9 := HB8.out.grow hg7
      have hR9 := HR8.out.grow hg7
      have hs6 : R + 1 < W6.heap.size := HB8.out.lt
      obtain ⟨ao, cp, rfl⟩ := own_form hbs
      have hnD : (Value.slice ao d.length cp).ownBlock ≠ some (R + 1) := fun e => by have := (hbs.lt _ e).1; omega
      have hnR : (Value.slice ao d.length cp).ownBlock ≠ some R := fun e => by have := (hbs.lt _ e).1; omega
      have HBs : Hid (w7.ownsRow w.heap.size 5 1 (.slice ao d.length cp) d.length (d.map (Value.int .u8))) := own_lowT hbs hg8.size
      have HBX : Hid (Box4 _ (R + 1) _ _ _ _) := hB9.set3 (.slice ao d.length cp)
      have HRX : Hid (Box4 _ R _ _ _ _) := hR9.other (k := R + 1) (by omega) 3 (.slice ao d.length cp)
      have hgX := Grow.set' (hg8.trans hg7) (g := R + 1) (k := 3) (by omega) (.slice ao d.length cp)
      have HOx : Hid _ := own_set' HBs.out (p := ⟨R + 1, 3, none⟩) hnD (.slice ao d.length cp)
      have HGX : Hid _ := hgX
      have HQ2 : Hid ((o1 && o2) = true → wordsP 1 ws = chkP ⟨1, n, 0, d⟩) := fun h => by
        have a1 := HO1.out; have a2 := HO2.out
        have h1 : numL A1 = some n := by
          cases hA : numL A1 with
          | none => rw [hA] at a1; subst a1; simp at h
          | some v => rw [HN1.out v hA]
        have h2 : unhex A2 = some d := by
          cases hA : unhex A2 with
          | none => rw [hA] at a2; subst a2; simp at h
          | some v => rw [HD2.out v hA]
        rw [HQ.out, form_one h1 h2]
      have HQ3 : Hid ((o1 && o2) = false → wordsP 1 ws = noP 2) := fun h => by
        have a1 := HO1.out; have a2 := HO2.out
        rw [HQ.out]
        cases hA : numL A1 with
        | none => rw [form_none1 hA]
        | some v =>
          cases hB : unhex A2 with
          | none => rw [form_odd hB]
          | some u => rw [hA] at a1; rw [hB] at a2; subst a1; subst a2; simp at h
      have HY : Hid (_ ∧ _) := Box4.put HRX.out hgX hwR (.int .i64 1) (.int .i64 n) (.int .i64 0) (.slice ao d.length cp)
      have HO9 : Hid _ := own_set' (own_set' (own_set' (own_set' HOx.out (p := ⟨R, 0, none⟩) hnR (.int .i64 1)) (p := ⟨R, 1, none⟩) hnR (.int .i64 n)) (p := ⟨R, 2, none⟩) hnR (.int .i64 0)) (p := ⟨R, 3, none⟩) hnR (.slice ao d.length cp)
      clear hbs hgX HD2 HO2 HO1 HN1 HQ HB8 HR8 hg7 hg8 hl8 HRX HGX HOx
      obtain ⟨e0, e1, e2, e3, ef⟩ := hB9
      obtain ⟨r0, r1, r2, r3, rf⟩ := hR9
      cases o1
      all_goals
        go_wp2_with fail
        obtain ⟨⟨z0, z1, z2, z3, -⟩, hgE⟩ := HY.out
        refine bodyPost_ret (results_four1 Tryz.results60 _ _ R _ rfl Tryz.underlying36 rfl Tryz.sizeD z0 z1 z2 z3) rfl ?_
        exact ⟨_, ⟨1, n, 0, d⟩, _, rfl, ⟨_, rfl, HO9.out, hoct⟩, hgE, (fun h => HQ2.out h), fun h => HQ3.out h⟩
    · go_wp2_with fail
      clear e0 e1 e2 e3 ef j2
      generalize w5.setCell ⟨R + 1, 1, none⟩ (.int .i64 n) = W6 at *
      refine (parseNumber_any A2 (by omega) _ hl8).mono ?_
      rintro e w7 ⟨m, rfl, hm, hg7⟩
      have HM2 : Hid _ := hm
      clear hm
      obtain ⟨o2, ho2⟩ : ∃ o, o = (numL A2).isSome := ⟨_, rfl⟩
      rw [← ho2]
      have HO2 : Hid (o2 = (numL A2).isSome) := ho2
      clear ho2
      have hB9 := HB8.out.grow hg7
      have hR9 := HR8.out.grow hg7
      have HRX : Hid (Box4 _ R _ _ _ _) := hR9.other (k := R + 1) (by omega) 2 (.int .i64 m)
      have hgX := Grow.set' (hg8.trans hg7) (g := R + 1) (k := 2) (by omega) (.int .i64 m)
      have HY : Hid (_ ∧ _) := Box4.put HRX.out hgX hwR (.int .i64 2) (.int .i64 n) (.int .i64 m) (.slice none 0 0)
      have HQ2 : Hid ((o1 && o2) = true → wordsP 2 ws = chkP ⟨2, n, m, []⟩) := fun h => by
        have a1 := HO1.out; have a2 := HO2.out
        have h1 : numL A1 = some n := by
          cases hA : numL A1 with
          | none => rw [hA] at a1; subst a1; simp at h
          | some v => rw [HN1.out v hA]
        have h2 : numL A2 = some m := by
          cases hA : numL A2 with
          | none => rw [hA] at a2; subst a2; simp at h
          | some v => rw [HM2.out v hA]
        rw [HQ.out, form_two h1 h2]
      have HQ3 : Hid ((o1 && o2) = false → wordsP 2 ws = noP 2) := fun h => by
        have a1 := HO1.out; have a2 := HO2.out
        rw [HQ.out]
        cases hA : numL A1 with
        | none => rw [form_none1 hA]
        | some v =>
          cases hB : numL A2 with
          | none => rw [form_none2 hB]
          | some u => rw [hA] at a1; rw [hB] at a2; subst a1; subst a2; simp at h
      clear hgX HM2 HO2 HO1 HN1 HQ HB8 HR8 hg7 hg8 hl8 HRX
      obtain ⟨e0, e1, e2, e3, ef⟩ := hB9
      obtain ⟨r0, r1, r2, r3, rf⟩ := hR9
      cases o1
      all_goals
        go_wp2_with fail
        obtain ⟨⟨z0, z1, z2, z3, -⟩, hgE⟩ := HY.out
        refine bodyPost_ret (results_four1 Tryz.results60 _ _ R _ rfl Tryz.underlying36 rfl Tryz.sizeD z0 z1 z2 z3) rfl ?_
        exact ⟨_, ⟨2, n, m, []⟩, _, rfl, ⟨_, rfl, World.ownsRow_nil _ _ _ _, (fun x hx => by cases hx)⟩, hgE, (fun h => HQ2.out h), fun h => HQ3.out h⟩
  · have HQ : Hid (wordsP k ws = noP 2) := words_len hn3
    have hn3' : ((ws.length : Int) != 3) = true := by simp; omega
    clear h4 hn3
    generalize ws.length = nl at *
    go_enter Tryz.func60, Tryz.ntmps60
    go_wp2_with fail
    obtain ⟨z0, z1, z2, z3, -⟩ := HR.out
    refine bodyPost_ret (results_four1 Tryz.results60 _ _ w.heap.size _ rfl Tryz.underlying36 rfl Tryz.sizeD z0 z1 z2 z3) rfl ?_
    exact ⟨_, ⟨0, 0, 0, []⟩, false, rfl, ⟨_, rfl, World.ownsRow_nil _ _ _ _, (fun x hx => by cases hx)⟩, hgA, (fun h => by cases h), fun _ => HQ.out⟩

end Go.Proofs.YtjggiameajndgadGreatDoor

/-
  The two outright statements of chapter 2, walked: unlike cells look unlike; rot is found, and a wrong place. They return true, and nothing old turns.
-/
namespace Go.Proofs.YtjggiameajndgadGreatDoor
open Go.RowKit

theorem read_yes (v : Value) (l : List Int) (d s : Int) (w : World) (hl : l.length = 4) (h : Bs w v (cellOf d s l)) :
    Calls Tryz.prog 33 #[v, .int .i64 d, .int .i64 s] w fun e w' => ∃ r, e = .returned (.tuple #[r, .int .i64 0]) ∧ Bs w' r l ∧ Grow w w' :=
  (read_any v _ d s w h).mono fun e w' ⟨r, he, hb, hg⟩ => by
    have := read_cell (d := d) (s := s) hl d s
    simp only [and_self, if_true] at this
    rw [this.1] at hb
    rw [this.2] at he
    exact ⟨r, he, hb, hg⟩

theorem read_no (v : Value) (l : List Int) (d s d' s' : Int) (w : World) (hl : l.length = 4) (hne : ¬ (d = d' ∧ s = s')) (h : Bs w v (cellOf d s l)) :
    Calls Tryz.prog 33 #[v, .int .i64 d', .int .i64 s'] w fun e w' => ∃ r, e = .returned (.tuple #[r, .int .i64 8]) ∧ Grow w w' :=
  (read_any v _ d' s' w h).mono fun e w' ⟨r, he, hb, hg⟩ => by
    have := read_cell (d := d) (s := s) hl d' s'
    rw [if_neg hne, if_neg hne] at this
    rw [this.2] at he
    exact ⟨r, he, hg⟩

theorem there_yes (d s : Int) (w : World) (h : 0 ≤ d ∧ d < 4 ∧ 0 ≤ s ∧ s < 3) : Calls Tryz.prog 41 #[.int .i64 d, .int .i64 s] w fun e w' => e = .returned (.bool true) ∧ w' = w := by
  rw [← show thereB d s = true from decide_eq_true h]; exact there_any d s w

theorem there_no (d s : Int) (w : World) (h : ¬ (0 ≤ d ∧ d < 4 ∧ 0 ≤ s ∧ s < 3)) : Calls Tryz.prog 41 #[.int .i64 d, .int .i64 s] w fun e w' => e = .returned (.bool false) ∧ w' = w := by
  rw [← show thereB d s = false from decide_eq_false h]; exact there_any d s w

theorem octets_abcd : Octets [97, 98, 99, 100] := by intro x hx; simp at hx; omega

theorem str_abcd : strOfNums [97, 98, 99, 100] = { data := #[97, 98, 99, 100] } := rfl

theorem read_rot (v : Value) (l : List Int) (d s : Int) (k : Nat) (c : Int) (w : World) (hd : 0 ≤ d ∧ d ≤ 255) (hs : 0 ≤ s ∧ s ≤ 255) (ho : Octets l) (hk : k < (cellOf d s l).length) (hc : 0 ≤ c ∧ c ≤ 255) (hne : (cellOf d s l).getD k 0 ≠ c) (h : Bs w v ((cellOf d s l).set k c)) :
    Calls Tryz.prog 33 #[v, .int .i64 d, .int .i64 s] w fun e w' => ∃ r, e = .returned (.tuple #[r, .int .i64 7]) ∧ Grow w w' :=
  (read_any v _ d s w h).mono fun e w' ⟨r, he, hb, hg⟩ => by
    rw [(read_turned hd hs ho hk hc hne d s).2] at he
    exact ⟨r, he, hg⟩

end Go.Proofs.YtjggiameajndgadGreatDoor

/-
  What the program's Spare, Where and Block return; the reference's Spare on from 0. The program's make nothing.
-/
namespace Go.Proofs.YtjggiameajndgadGreatDoor
open Go.RowKit

set_option maxRecDepth 20000 in
set_option maxHeartbeats 400000 in
theorem spare_any (s : Int) (w : World) (h0 : 0 ≤ s) (h1 : s ≤ 9223372036854775807) :
    Calls Tryz.prog 53 #[.int .i64 s] w fun e w' => e = .returned (.int .i64 (3 - s % 4)) ∧ w' = w := by
  go_enter Tryz.func53, Tryz.ntmps53
  go_wp2
  go_ret
  exact ⟨rfl, rfl⟩

set_option maxRecDepth 20000 in
set_option maxHeartbeats 400000 in
theorem spare_low (s : Int) (w : World) (h0 : 0 ≤ s) (h1 : s < 3) :
    Calls Tryz.prog 53 #[.int .i64 s] w fun e w' => e = .returned (.int .i64 (3 - s)) ∧ w' = w :=
  (spare_any s w h0 (by omega)).mono fun e w' ⟨he, hw⟩ => ⟨he.trans (ret_int (by omega)), hw⟩

set_option maxRecDepth 20000 in
set_option maxHeartbeats 1600000 in
theorem where_any (b : Int) (w : World) :
    Calls Tryz.prog 32 #[.int .i64 b] w fun e w' => e = .returned (.tuple #[.int .i64 (whereD b), .int .i64 (whereS b), .int .i64 (whereE b)]) ∧ w' = w := by
  by_cases hp : 0 ≤ b ∧ b < 9
  · obtain rfl | rfl | rfl | rfl | rfl | rfl | rfl | rfl | rfl : b = 0 ∨ b = 1 ∨ b = 2 ∨ b = 3 ∨ b = 4 ∨ b = 5 ∨ b = 6 ∨ b = 7 ∨ b = 8 := by omega
    all_goals
      go_enter Tryz.func32, Tryz.ntmps32
      go_wp2_with fail
      refine (spare_any _ _ (by omega) (by omega)).mono ?_
      rintro e w1 ⟨rfl, rfl⟩
      go_wp2_with fail
      go_ret3
      exact ⟨rfl, rfl⟩
  · have hw := where_out hp
    obtain ⟨h1, h2, h3⟩ := hw
    have hout : b < 0 ∨ (0 ≤ b ∧ 9 ≤ b) := by omega
    clear hp
    rcases hout with h | ⟨h, g⟩
    all_goals
      go_enter Tryz.func32, Tryz.ntmps32
      go_wp2
      go_ret3
      exact ⟨ret_int3 h1.symm h2.symm h3.symm, rfl⟩

set_option maxRecDepth 20000 in
set_option maxHeartbeats 1600000 in
theorem block_any (d s : Int) (w : World) :
    Calls Tryz.prog 79 #[.int .i64 d, .int .i64 s] w fun e w' => e = .returned (.tuple #[.int .i64 (blockN d s), .int .i64 (blockE d s)]) ∧ w' = w := by
  by_cases hp : 0 ≤ d ∧ d < 4 ∧ 0 ≤ s ∧ s < 3
  · have hT := fun w1 => there_yes d s w1 hp
    obtain ⟨hd0, hd1, hs0, hs1⟩ := hp
    obtain rfl | rfl | rfl | rfl : d = 0 ∨ d = 1 ∨ d = 2 ∨ d = 3 := by omega
    all_goals
      obtain rfl | rfl | rfl : s = 0 ∨ s = 1 ∨ s = 2 := by omega
      all_goals
        go_enter Tryz.func79, Tryz.ntmps79
        go_wp2_with fail
        refine (hT _).mono ?_
        rintro e w1 ⟨rfl, rfl⟩
        go_wp2_with fail
        refine (spare_any _ _ (by omega) (by omega)).mono ?_
        rintro e w1 ⟨rfl, rfl⟩
        go_wp2_with fail
        go_ret2
        exact ⟨rfl, rfl⟩
  · have HB : Hid (blockN d s = 0 ∧ blockE d s = 3) := by rw [Hid, blockN, blockE, if_neg hp, if_neg hp]; exact ⟨rfl, rfl⟩
    have hT := fun w1 => there_no d s w1 hp
    clear hp
    go_enter Tryz.func79, Tryz.ntmps79
    go_wp2_with fail
    refine (hT _).mono ?_
    rintro e w1 ⟨rfl, rfl⟩
    go_wp2_with fail
    go_ret2
    exact ⟨ret_int2 HB.out.1.symm HB.out.2.symm, rfl⟩

end Go.Proofs.YtjggiameajndgadGreatDoor

/-
  New blocks, and their cells.
-/
namespace Go.Proofs.YtjggiameajndgadGreatDoor
open Go.RowKit

/-- Three new blocks. -/
theorem heap3 (w : World) (o1 o2 o3 : Obj) : (((w.alloc o1).alloc o2).alloc o3).heap[w.heap.size]? = some o1 ∧ (((w.alloc o1).alloc o2).alloc o3).heap[w.heap.size + 1]? = some o2 ∧ (((w.alloc o1).alloc o2).alloc o3).heap[w.heap.size + 1 + 1]? = some o3 :=
  ⟨(heap_alloc_old _ _ (by simp; omega)).trans ((heap_alloc_old _ _ (by simp)).trans (heap_alloc_new w o1)), (heap_alloc_old _ _ (by simp)).trans (heap_alloc2_new w o1 o2), by
    have := heap_alloc2_new (w.alloc o1) o2 o3
    simpa using this⟩

theorem row_at {w : World} {A : Nat} {cs : Array Value} {t : TypeId} {mk : Nat × Nat} (h : w.heap[A]? = some (.cells cs t mk)) (k : Nat) {v : Value} (hk : cs[k]? = some v) : w.cell? ⟨A, k, none⟩ = some v := by rw [cell_of_row w A k _ _ _ h]; exact hk

end Go.Proofs.YtjggiameajndgadGreatDoor
