/-
  What the reference's CellRead and CellBytes return, and the program's Bytes. Nothing old turns.
-/
import Derived.Test.YtjggiameajndgabDoorWalkCell
import Derived.Test.YtjggiameajndgabDoorSlices
import Derived.Laws.IdiomStrings
namespace Go.Proofs.YtjggiameajndgabDoor
open Go.RowKit

theorem ownsRow_mono {w : World} {base base' : Nat} {e : TypeId} {size : Nat} {v : Value} {n : Nat} {xs : List Value} (h : w.ownsRow base e size v n xs) (hb : base' ≤ base) : w.ownsRow base' e size v n xs :=
  ⟨h.1, h.2.imp id fun ⟨g, cap, cur, h1, h2, h3⟩ => ⟨g, cap, cur, h1, Nat.le_trans hb h2, h3⟩⟩

/-- What a read returns that makes nothing new: it reads so wherever the bytes do. -/
def ReadSub (v : Value) (l : List Int) (d s : Int) (w : World) (e : Ending) (w' : World) : Prop := ∃ r, e = .returned (.tuple #[r, .int .i64 (readE l d s)]) ∧ (∀ w2, Bs w2 v l → Bs w2 r (readX l d s)) ∧ Grow w w'

theorem ReadSub.none {v : Value} {l : List Int} {d s k : Int} {w w' : World} (h : readX l d s = [] ∧ readE l d s = k) (hg : Grow w w') : ReadSub v l d s w (.returned (.tuple #[.slice none 0 0, .int .i64 k])) w' :=
  ⟨_, by rw [h.2], fun w2 _ => by rw [h.1]; exact Bs.nil _, hg⟩

theorem strOfNums_append (a b : List Int) : strOfNums a ++ strOfNums b = strOfNums (a ++ b) := by
  apply ByteArray.ext
  apply Array.toList_inj.1
  simp [strOfNums]

theorem bytesRow_nums {l : List Int} (h : Octets l) (c : Nat) : (bytesRow (strOfNums l) c).toList = l.map (Value.int .u8) ++ List.replicate (c - l.length) (.int .u8 0) := by
  simp only [bytesRow, Array.toList_append, Array.toList_map, strOfNums_data, List.map_map, strOfNums_size, Array.toList_replicate]
  congr 1
  apply List.map_congr_left
  intro x hx
  have := h x hx
  simp only [Function.comp, UInt8.toNat_ofNat']
  congr 1
  omega

/-- A string's bytes as a slice. -/
theorem run_convert_sb {P : Program} (w : World) (src dst e : TypeId) (hs : P.underlying src = some .string) (hd : P.underlying dst = some (.slice e)) (he : P.underlying e = some (.int .u8)) {l : List Int} (ho : Octets l) (hl : l.length ≤ maxLen) :
    ∃ v w', (convert src dst (.string (strOfNums l))).run P w = .ok v w' ∧ Bs w' v l ∧ Grow w w' := by
  refine ⟨_, _, run_bytes_of_string w src dst e _ hs hd he, ?_, Grow.trans (y := w.drew) ⟨rfl, rfl, rfl, Nat.le_refl _, fun _ _ => rfl⟩ (Grow.alloc _ _)⟩
  have hge := grownCap_ge w (strOfNums l).size 0 e
  have hle := grownCap_le_maxLen w (strOfNums l).size 0 e (by rw [strOfNums_size]; exact hl)
  rw [strOfNums_size] at hge hle
  generalize hc : grownCap w (strOfNums l).size 0 e = c at *
  rw [strOfNums_size] at hc ⊢
  refine ⟨some ⟨w.heap.size, 0, none⟩, c, rfl, by rw [← hc]; exact hge, by rw [← hc]; exact hle, (fun h => nomatch h), ho, fun _ => ⟨w.heap.size, 0, rfl, fun i hi => ?_⟩⟩
  have hh : ((w.drew).alloc (.cells (bytesRow (strOfNums l) c) e ((bytesRow (strOfNums l) c).size, (bytesRow (strOfNums l) c).size + 1))).heap[w.heap.size]? = _ := heap_alloc_new w.drew _
  simp only [World.cell?, hh]
  rw [← Array.getElem?_toList, bytesRow_nums ho, List.getElem?_append_left (by simpa using hi)]
  simp [hi, List.getD_eq_getElem?_getD]

theorem pair_map (d s : Int) (l : List Int) : [Value.int .u8 d, Value.int .u8 s] ++ l.map (Value.int .u8) = (d :: s :: l).map (Value.int .u8) := rfl

end Go.Proofs.YtjggiameajndgabDoor
