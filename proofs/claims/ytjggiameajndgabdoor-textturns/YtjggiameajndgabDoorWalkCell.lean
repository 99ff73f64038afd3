/-
  What the program's cells return: There, Bytes, Read; and the reference's CellBytes and CellRead. Nothing old turns.
-/
import Derived.Test.YtjggiameajndgabDoorCellMath
import Derived.Test.YtjggiameajndgabDoorWalkRefPlan
import Derived.Test.YtjggiameajndgabDoorWalkSumTells
import Derived.Test.YtjggiameajndgabDoorWalkSumByte
import Derived.Laws.CopyOwn
import Derived.Deep.OwnRows
namespace Go.Proofs.YtjggiameajndgabDoor
open Go.RowKit

theorem Bs.cut {w : World} {cap n m : Nat} {l : List Int} {b off : Nat} (hm : n + m ≤ l.length) (h1 : l.length ≤ cap) (h2 : cap ≤ maxLen) (h4 : Octets l) (hc : ∀ i, i < l.length → w.cell? ⟨b, off + i, none⟩ = some (.int .u8 (l.getD i 0))) :
    Bs w (.slice (some ⟨b, off + n, none⟩) m (cap - n)) ((l.drop n).take m) := by
  have hlen : ((l.drop n).take m).length = m := by simp; omega
  refine ⟨some ⟨b, off + n, none⟩, cap - n, by rw [hlen], by omega, by omega, (fun h => nomatch h), fun x hx => h4 x (List.mem_of_mem_drop (List.mem_of_mem_take hx)), fun _ => ⟨b, off + n, rfl, fun i hi => ?_⟩⟩
  rw [hlen] at hi
  rw [Nat.add_assoc, hc (n + i) (by omega)]
  simp [List.getD_eq_getElem?_getD, hi]

theorem Bs.lit {w : World} {e : TypeId} {l : List Int} (h : l.length ≤ maxLen) (ho : Octets l) (mk : Nat × Nat) : Bs (w.alloc (.cells (l.map (Value.int .u8)).toArray e mk)) (.slice (some ⟨w.heap.size, 0, none⟩) l.length l.length) l := by
  refine ⟨some ⟨w.heap.size, 0, none⟩, l.length, rfl, Nat.le_refl _, h, (fun h => nomatch h), ho, fun _ => ⟨w.heap.size, 0, rfl, fun i hi => ?_⟩⟩
  simp only [World.cell?, heap_alloc_new w]
  simp [hi, List.getD_eq_getElem?_getD]

theorem ret_bs2 {v : Value} {k2 : IntKind} {a2 b2 : Int} (h2 : a2 = b2) : Ending.returned (.tuple #[v, .int k2 a2]) = .returned (.tuple #[v, .int k2 b2]) := by rw [h2]

/-- A row of one-cell bytes that is known whole. -/
theorem Bs.row {w : World} {e : TypeId} {mk : Nat × Nat} {g n : Nat} {l : List Int} (hg : w.heap[g]? = some (.cells (l.map (Value.int .u8)).toArray e mk)) (hn : l.length = n) (h : n ≤ maxLen) (ho : Octets l) : Bs w (.slice (some ⟨g, 0, none⟩) n n) l := by
  subst hn
  refine ⟨some ⟨g, 0, none⟩, l.length, rfl, Nat.le_refl _, h, (fun h => nomatch h), ho, fun _ => ⟨g, 0, rfl, fun i hi => ?_⟩⟩
  simp only [World.cell?, hg]
  simp [hi, List.getD_eq_getElem?_getD]

theorem Tryd.made4 (w : World) : (Instr.makeSlice 22 (.int .i64 4) (.int .i64 4)).run Tryd.prog w = .ok (.slice (some ⟨w.heap.size, 0, none⟩) 4 4) (w.alloc (.cells #[.int .u8 0, .int .u8 0, .int .u8 0, .int .u8 0] 5)) :=
  (run_make_row' (P := Tryd.prog) 22 5 (.int .u8 0) 1 Tryd.underlying22 Tryd.infoB rfl .i64 .i64 4 (by decide) (by decide) w).trans (by rw [show madeCells #[.int .u8 0] 4 = #[Value.int .u8 0, .int .u8 0, .int .u8 0, .int .u8 0] from Array.toList_inj.1 (toList_madeCells_one _ _)])

theorem Tryd.sizeB : (Tryd.prog.info? 5).map (·.size) = some 1 := by kernel_rfl

/-- A copy that fills a row of the call's own. -/
theorem run_copy_fill {P : Program} {w0 w : World} (dT sT ty elem : TypeId) (hu : P.underlying dT = some (.slice elem)) (hsz : (P.info? elem).map (·.size) = some 1) {g n m c cap : Nat} {cur : Array Value} {t : TypeId} {ad : Addr} {zs : List Int}
    (hg : w.heap[g]? = some (.cells cur t (0, 0))) (hcur : cur.size = n) (hz : zs.length = n) (hm : n ≤ m) (hsrc : Bs w (.slice (some ad) n cap) zs) (hG : Grow w0 w) (hB : w0.heap.size ≤ g) :
    ∃ w', (Builtin.copy_ #[dT, sT] ty #[.slice (some ⟨g, 0, none⟩) n n, .slice (some ad) m c]).run P w = .ok (goInt n) w' ∧ Hid (w'.heap[g]? = some (.cells (zs.map (Value.int .u8)).toArray t (0, 0))) ∧ Grow w0 w' := by
  have hcs : Cs w (some ad) zs := by
    obtain ⟨a1, c1, e1, -, -, -, -, h⟩ := hsrc
    injection e1 with e1 _ _
    rw [e1]
    exact h
  have hrun := run_copy_row (P := P) w dT sT ty elem g 0 n n ad m c cur t (zs.map (Value.int .u8)) hu hsz hg (by simp [hz, Nat.min_eq_right hm]) (hcs.src _ rfl) (by simp [hz, hcur]) (u8_oneCell _)
  rw [show (zs.map (Value.int .u8)).length = n from by simp [hz]] at hrun
  refine ⟨_, hrun, ?_, below_setRow hG hB _⟩
  have h2 := setRow_heap w g cur (cur.toList.take 0 ++ zs.map (Value.int .u8) ++ cur.toList.drop (0 + n)).toArray t (0, 0) hg
  rw [Hid, h2]
  simp [List.drop_eq_nil_of_le, hcur]

/-- What a read returns. -/
def ReadPost (l : List Int) (d s : Int) (w : World) (e : Ending) (w' : World) : Prop := ∃ r, e = .returned (.tuple #[r, .int .i64 (readE l d s)]) ∧ Bs w' r (readX l d s) ∧ Grow w w'

/-- Four bytes in new memory, or none. -/
def FreshX (w : World) (x : List Int) (r : Value) (w' : World) : Prop := (r = .slice none 0 0 ∧ x = []) ∨ ∃ b, r = .slice (some ⟨b, 0, none⟩) 4 4 ∧ w.heap.size ≤ b ∧ w'.heap[b]? = some (.cells (x.map (Value.int .u8)).toArray 5 (0, 0)) ∧ x.length = 4 ∧ Octets x

theorem FreshX.bs {w w' : World} {x : List Int} {r : Value} (h : FreshX w x r w') : Bs w' r x := by
  rcases h with ⟨rfl, rfl⟩ | ⟨b, rfl, -, hb, hl, ho⟩
  · exact Bs.nil _
  · exact Bs.row hb hl (by unfold maxLen; omega) ho

/-- What a read returns, and where. -/
def ReadFresh (l : List Int) (d s : Int) (w : World) (e : Ending) (w' : World) : Prop := ∃ r, e = .returned (.tuple #[r, .int .i64 (readE l d s)]) ∧ FreshX w (readX l d s) r w' ∧ Grow w w'

theorem ReadPost.none {l : List Int} {d s k : Int} {w w' : World} (h : readX l d s = [] ∧ readE l d s = k) (hg : Grow w w') : ReadFresh l d s w (.returned (.tuple #[.slice none 0 0, .int .i64 k])) w' :=
  ⟨_, by rw [h.2], .inl ⟨rfl, h.1⟩, hg⟩

end Go.Proofs.YtjggiameajndgabDoor
