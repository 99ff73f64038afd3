/-
  What the program's model.New and bytes.Clone return. Nothing old turns.
-/
import Derived.Test.YtjggiameajndgabWalkModelS
import Derived.Test.YtjggiameajndgabRowStore
import Derived.Lib.SliceRun
namespace Go.Proofs.Ytjggiameajndgab
open Go.RowKit

/-- A row of nine, made. -/
def nines : Array Value := #[.slice none 0 0, .slice none 0 0, .slice none 0 0, .slice none 0 0, .slice none 0 0, .slice none 0 0, .slice none 0 0, .slice none 0 0, .slice none 0 0]

theorem Try.made9 (w : World) : (Instr.makeSlice 22 (.int .i64 9) (.int .i64 9)).run Try.prog w = .ok (.slice (some ⟨w.heap.size, 0, none⟩) 9 9) (w.alloc (.cells nines 23)) :=
  (run_make_row' (P := Try.prog) 22 23 (.slice none 0 0) 24 Try.underlying22 Try.infoS rfl .i64 .i64 9 (by decide) (by decide) w).trans (by rw [show madeCells #[.slice none 0 0] 9 = nines from Array.toList_inj.1 (toList_madeCells_one _ _)])

theorem Rowing.made9 (w : World) : Rowing Bs w.heap.size 23 (w.alloc (.cells nines 23)) (.slice (some ⟨w.heap.size, 0, none⟩) 9 9) (List.replicate 9 []) := by
  refine ⟨nines.toList, ⟨rfl, .inr ⟨w.heap.size, 9, nines, rfl, Nat.le_refl _, heap_alloc_new w _, Nat.le_refl _, by unfold maxLen; omega, rfl, rfl⟩⟩, rfl, fun i u x hu hx w' _ => ?_⟩
  have hu' : u = .slice none 0 0 := by
    have := List.mem_of_getElem? hu
    simpa [nines] using this
  have hx' : x = [] := by
    have := List.mem_of_getElem? hx
    simpa using this
  subst hu' hx'
  exact Bs.nil _

/-- The first k are filled. -/
def upTo (f : Nat → List Int) (k : Nat) : List (List Int) := (List.range 9).map fun i => if i < k then f i else []

theorem upTo_zero (f : Nat → List Int) : upTo f 0 = List.replicate 9 [] := by simp [upTo]; decide
theorem upTo_all (f : Nat → List Int) : upTo f 9 = (List.range 9).map f := List.map_congr_left fun _ hi => if_pos (List.mem_range.1 hi)
theorem upTo_length (f : Nat → List Int) (k : Nat) : (upTo f k).length = 9 := by simp [upTo]
theorem upTo_set (f : Nat → List Int) {k : Nat} (_h : k < 9) : (upTo f k).set k (f k) = upTo f (k + 1) := by
  refine List.ext_getElem (by simp [upTo]) fun i h1 h2 => ?_
  rw [List.getElem_set]
  simp only [upTo, List.getElem_map, List.getElem_range]
  by_cases hik : k = i
  · subst hik; rw [if_pos rfl, if_pos (by omega)]
  · rw [if_neg hik]
    by_cases hlt : i < k
    · rw [if_pos hlt, if_pos (by omega)]
    · rw [if_neg hlt, if_neg (by omega)]

set_option maxRecDepth 20000 in
set_option maxHeartbeats 800000 in
theorem modelNew_any (w : World) : Calls Try.prog 54 #[] w fun e w' => ∃ r, e = .returned r ∧ Bss w' r (List.replicate 9 nought) ∧ Grow w w' := by
  have hmk := Try.made9 w
  have hst : Hid (Rowing Bs w.heap.size 23 (w.alloc (.cells nines 23)) (.slice (some ⟨w.heap.size, 0, none⟩) 9 9) (upTo (fun _ => nought) 0)) := by rw [upTo_zero]; exact Rowing.made9 w
  have hend : Hid (upTo (fun _ => nought) 9 = List.replicate 9 nought) := by rw [Hid, upTo_all]; rfl
  go_enter Try.func54, Try.ntmps54
  go_wp2
  go_loopw [6] (fun i wr => ∃ k : Nat, k ≤ 9 ∧ i = .int .i64 k ∧ Hid (Rowing Bs w.heap.size 23 wr (.slice (some ⟨w.heap.size, 0, none⟩) 9 9) (upTo (fun _ => nought) k)) ∧ Grow w wr) (fun i _ => 9 - (intOf i).toNat)
  case atStart => exact ⟨0, by omega, rfl, hst, Grow.alloc _ _⟩
  case round =>
    obtain ⟨k, hk, rfl, HR, hgr⟩ := hrel
    clear hst hmk
    by_cases hlt : k < 9
    · have hmk := Try.made4 wr
      have hgA : Grow wr (wr.alloc (.cells #[.int .u8 0, .int .u8 0, .int .u8 0, .int .u8 0] 5)) := Grow.alloc _ _
      have hrow := HR.out.grow hgA
      have hb : w.heap.size < wr.heap.size := (HR.out.base _ rfl).2
      have hoff : Off Bs (some w.heap.size) (wr.alloc (.cells #[.int .u8 0, .int .u8 0, .int .u8 0, .int .u8 0] 5)) (.slice (some ⟨wr.heap.size, 0, none⟩) 4 4) nought := Off.row (l := nought) (heap_alloc_new wr _) rfl (by unfold maxLen; omega) nought_oct (fun e => by injection e with e; omega)
      obtain ⟨⟨u0, hu0⟩, hf0⟩ := hrow.at (k := k) (by rw [upTo_length]; exact hlt)
      have hpast := World.setCell_alloc_past (w := wr) (.cells #[.int .u8 0, .int .u8 0, .int .u8 0, .int .u8 0] 5) w.heap.size k (.slice (some ⟨wr.heap.size, 0, none⟩) 4 4) hb
      have hrow1 := hrow.stored k hoff
      have hg1 := (hgr.trans hgA).grown (grown_set (wr.alloc (.cells #[.int .u8 0, .int .u8 0, .int .u8 0, .int .u8 0] 5)) w.heap.size k (.slice (some ⟨wr.heap.size, 0, none⟩) 4 4)) (fun j hj => by cases hj; exact Nat.le_refl _)
      rw [upTo_set (fun _ => nought) hlt, hpast] at hrow1
      rw [hpast] at hg1
      have HR1 : Hid (Rowing Bs _ _ _ _ _) := hrow1
      clear hrow1 hpast
      clear HR hgA hrow hoff
      go_wp2
      go_roundw
      case rel => first | exact ⟨k + 1, by omega, by go_num, HR1, hg1⟩ | ((repeat apply Exists.intro); exact ⟨⟨k + 1, by omega, by go_num, HR1, hg1⟩, rfl⟩)
      case measure => simp [intOf]; omega
    · obtain rfl : k = 9 := by omega
      go_wp2
      go_ret
      exact ⟨_, rfl, by rw [← hend.out]; exact HR.out.done, hgr⟩

set_option maxRecDepth 20000 in
set_option maxHeartbeats 800000 in
theorem bytesClone_some (v : Value) (l : List Int) (w : World) (h : Bs w v l) (hp : 0 < l.length) (hm : l.length ≤ 1000) :
    Calls Try.prog 58 #[v] w fun e w' => ∃ r, e = .returned r ∧ (∀ g, (∀ k, g = some k → k < w.heap.size) → Off Bs g w' r l) ∧ Grow w w' := by
  obtain ⟨i0, hi, hz0, hz1, hz2⟩ := info_parts Try.infoB
  have hoc := h.octets
  obtain ⟨ao, cap, rfl, h1, h2, h3, h4, h5⟩ := h
  have hsrc := h5.src
  obtain ⟨b, off, rfl, hc⟩ := h5 hp
  have hsrc' := hsrc _ rfl
  unfold maxLen at h2
  have HO : Hid (∀ (v' : Value) w', w'.ownsRow w.heap.size 5 1 v' l.length (l.map (Value.int .u8)) → ∀ g : Option Nat, (∀ k, g = some k → k < w.heap.size) → Off Bs g w' v' l) := fun v' w' ho g hg => Off.own ho hoc hg
  have qT : ∀ (w : World) (a : Option Addr) (n c n' c' : Nat), (binOp .eql 23 (.slice a n c) (.slice none n' c')).run Try.prog w = .ok (.bool a.isNone) w := fun w a n c n' c' => Lib.run_eql_slice_nil w _ _ a n c n' c' Try.underlying23
  have hlm : (l.map (Value.int .u8)).length = l.length := by simp
  have hone := u8_oneCell l
  clear h5 hc hsrc hoc
  generalize l.map (Value.int .u8) = news at *
  have HLM : Hid (news.length = l.length) := hlm
  generalize l.length = n at *
  clear hlm
  go_enter Try.func58, Try.ntmps58
  go_wp2_with (first
    | (at_builtin; refine wpList_append_copy rfl (.tmp 5) (.tmp 6) 23 rfl 5 i0 (.int .u8 0) 1 Try.underlying23 hi hz0 hz1 hz2 rfl w.heap.size (heap_alloc_new w _) w (Grow.alloc _ _) (Nat.le_refl _) rfl ⟨b, off, none⟩ n cap news rfl HLM.out hsrc' hone hp (by omega) (by omega) ?_; rintro g1 cg w1 hown hg1 - - - -; have HX := HO.out _ _ hown; have HX' : Hid (_ ∧ _) := And.intro HX hg1; clear HX hown))
  go_wp2
  go_ret
  exact ⟨_, rfl, HX'.out.1, hg1⟩

end Go.Proofs.Ytjggiameajndgab
