/-
  What strings.SplitN returns at a blank, and four: the words at the first three blanks; for a text of whatever length.
-/
import Derived.Test.YtjggiameajndgabDoorTextMath3
import Derived.Test.YtjggiameajndgabDoorWalkRefParse
import Derived.Lib.Split
import Derived.Deep.OwnRows
namespace Go.Proofs.YtjggiameajndgabDoor
open Go.RowKit

theorem sl_words (w : World) (ws : List (List UInt8)) (N : Nat) (hN : ws.length ≤ N) (hM : N ≤ maxLen) (t : TypeId) :
    Sl StrV (w.alloc (.cells (Lib.cellsOf (ws.map str) N) t)) (.slice (some ⟨w.heap.size, 0, none⟩) ws.length N) ws := by
  refine ⟨some ⟨w.heap.size, 0, none⟩, N, rfl, hN, hM, (fun h => nomatch h), fun _ => ⟨w.heap.size, 0, rfl, fun i x hx => ⟨.string (str x), ?_, rfl⟩⟩⟩
  have hi : i < ws.length := (List.getElem?_eq_some_iff.1 hx).1
  have h := heap_alloc_new w (.cells (Lib.cellsOf (ws.map str) N) t)
  simp only [World.cell?, h]
  have hx' : ws[i] = x := by rw [List.getElem?_eq_getElem hi] at hx; exact Option.some.inj hx
  simp [Lib.cellsOf, List.getElem?_append, hi, hx']

set_option maxRecDepth 20000 in
set_option maxHeartbeats 3200000 in
theorem genSplit_any (s : List UInt8) (w : World) (hs : s.length ≤ 281474976710656) :
    Calls Tryd.prog 22 #[.string (str s), .string { data := #[32] }, .int .i64 0, .int .i64 4] w fun e w' => ∃ v, e = .returned v ∧ Sl StrV w' v (spl 3 s) ∧ Grow w w' := by
  have hsz := str_size s
  obtain ⟨N, hN⟩ : ∃ N, N = min 4 (s.length + 1) := ⟨_, rfl⟩
  have eN : min (4 : Int) ((s.length : Int) + 1) = (N : Int) := by omega
  have HSP : Hid (spl (N - 1) s = spl 3 s) := by rw [hN]; exact spl_min s
  have hN4 : N ≤ 4 := by omega
  have hN1 : 1 ≤ N := by omega
  clear hN
  have hmk := run_make_row' (P := Tryd.prog) 34 9 (.string ByteArray.empty) 16 Tryd.underlying34 (by kernel_rfl) rfl .i64 .i64 N (by omega) (by omega)
  have he : ({ data := #[32] } : ByteArray).toList.isEmpty = false := by rw [ByteArray.toList_eq]; rfl
  go_enter Tryd.func22, Tryd.ntmps22
  go_wp2_with fail
  clear hmk eN
  go_loopw [0, 10] (fun r i wr => ∃ (done : List (List UInt8)) (rest : List UInt8), r = .string (str rest) ∧ i = .int .i64 done.length ∧ done.length ≤ N - 1 ∧ rest.length ≤ s.length ∧ wr = w.alloc (.cells (Lib.cellsOf (done.map str) N) 9) ∧ Hid (done ++ spl (N - 1 - done.length) rest = spl 3 s)) (fun _ i _ => N - 1 - (intOf i).toNat)
  case atStart => exact ⟨[], s, rfl, rfl, Nat.zero_le _, Nat.le_refl _, by rw [List.map_nil, Lib.cellsOf_nil], HSP⟩
  case round =>
    obtain ⟨done, rest, rfl, rfl, hd, hrs, rfl, HS⟩ := hrel
    have hnext : (Lib.cellsOf (done.map str) N)[done.length]? = some (.string ByteArray.empty) := by
      have := Lib.cellsOf_next (done := done.map str) (N := N) (by simp; omega)
      simpa using this
    have hset : ∀ x : List UInt8, (Lib.cellsOf (done.map str) N).setIfInBounds done.length (.string (str x)) = Lib.cellsOf (done.map str ++ [str x]) N := fun x => by
      have := Lib.cellsOf_set (done := done.map str) (N := N) (by simp; omega) (str x)
      simpa using this
    have hss : (Lib.cellsOf (done.map str) N).size = N := Lib.cellsOf_size (by simp; omega)
    have hrz := str_size rest
    have fin : spl (N - 1 - done.length) rest = [rest] → ∃ v, Value.slice (some ⟨w.heap.size, 0, none⟩) (done.length + 1) N = v ∧ Sl StrV (w.alloc (.cells (Lib.cellsOf (done.map str ++ [str rest]) N) 9)) v (spl 3 s) ∧ Grow w (w.alloc (.cells (Lib.cellsOf (done.map str ++ [str rest]) N) 9)) := fun h => by
      refine ⟨_, rfl, ?_, Grow.alloc _ _⟩
      have e := HS.out
      rw [h] at e
      rw [← e]
      have := sl_words w (done ++ [rest]) N (by simp; omega) (by unfold maxLen; omega) 9
      simpa using this
    have Fin : Hid _ := fin
    clear fin
    by_cases hlt : done.length < N - 1
    · have hltz : ((done.length : Nat) : Int) < (N : Int) - 1 := by omega
      rcases blank_cases rest with hix | ⟨i, hix⟩
      · go_wp2_with fail
        refine (Tryd.strings_Index_one (str rest) 32 _).mono ?_
        rintro e w' ⟨rfl, rfl⟩
        rw [show (str rest).data.toList = rest from by simp [str], hix]
        go_wp2_with fail
        go_ret
        obtain ⟨v, hv, h1, h2⟩ := Fin.out (spl_miss hix _)
        exact ⟨v, by rw [← hv]; first | rfl | (congr 2 <;> omega), h1, h2⟩
      · obtain ⟨hil, -, -⟩ := first_blank hix
        have hc1 := str_cut rest 0 i
        have hc2 := str_cut rest (i + 1) rest.length
        rw [List.drop_zero, Nat.sub_zero] at hc1
        rw [List.take_of_length_le (by simp)] at hc2
        have HS' : Hid ((done ++ [rest.take i]) ++ spl (N - 1 - (done.length + 1)) (rest.drop (i + 1)) = spl 3 s) := by
          have e := HS.out
          rw [show N - 1 - done.length = (N - 1 - (done.length + 1)) + 1 by omega, spl_hit hix] at e
          rw [Hid, ← e]; simp
        clear HS Fin
        go_wp2_with fail
        refine (Tryd.strings_Index_one (str rest) 32 _).mono ?_
        rintro e w' ⟨rfl, rfl⟩
        rw [show (str rest).data.toList = rest from by simp [str], hix]
        go_wp2_with fail
        go_roundw
        case rel => first | exact ⟨done ++ [rest.take i], rest.drop (i + 1), rfl, by simp, by simp; omega, by simp; omega, by simp, by simpa using HS'⟩ | ((repeat apply Exists.intro); exact ⟨⟨done ++ [rest.take i], rest.drop (i + 1), rfl, by simp, by simp; omega, by simp; omega, by simp, by simpa using HS'⟩, rfl⟩)
        case measure => simp [intOf]; omega
    · have hltz : ¬ (((done.length : Nat) : Int) < (N : Int) - 1) := by omega
      go_wp2_with fail
      go_ret
      obtain ⟨v, hv, h1, h2⟩ := Fin.out (by rw [show N - 1 - done.length = 0 by omega]; rfl)
      exact ⟨v, by rw [← hv]; first | rfl | (congr 2 <;> omega), h1, h2⟩

set_option maxRecDepth 20000 in
theorem splitN_any (s : List UInt8) (w : World) (hs : s.length ≤ 281474976710656) :
    Calls Tryd.prog 12 #[.string (str s), .string { data := #[32] }, .int .i64 4] w fun e w' => ∃ v, e = .returned v ∧ Sl StrV w' v (spl 3 s) ∧ Grow w w' := by
  go_enter Tryd.func12, Tryd.ntmps12
  go_wp2_with fail
  refine (genSplit_any s _ hs).mono ?_
  rintro e w' ⟨v, rfl, h1, h2⟩
  go_wp2_with fail
  go_ret
  exact ⟨v, rfl, h1, h2⟩

end Go.Proofs.YtjggiameajndgabDoor
