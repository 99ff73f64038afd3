/-
  What the program's cells return: There, Bytes, Read; and the reference's CellBytes and CellRead. Nothing old turns.
-/
import Derived.Test.YtjggiameajndgabCellMath
import Derived.Test.YtjggiameajndgabWalkRefPlan
import Derived.Test.YtjggiameajndgabWalkSumTells
import Derived.Test.YtjggiameajndgabWalkSumByte
import Derived.Laws.CopyOwn
import Derived.Deep.OwnRows
namespace Go.Proofs.Ytjggiameajndgab
open Go.RowKit

set_option maxRecDepth 20000 in
set_option maxHeartbeats 400000 in
theorem there_any (d s : Int) (w : World) :
    Calls Try.prog 97 #[.int .i64 d, .int .i64 s] w fun e w' => e = .returned (.bool (thereB d s)) ∧ w' = w := by
  have hc : d < 0 ∨ (0 ≤ d ∧ 4 ≤ d) ∨ (0 ≤ d ∧ d < 4 ∧ s < 0) ∨ (0 ≤ d ∧ d < 4 ∧ 0 ≤ s ∧ 3 ≤ s) ∨ (0 ≤ d ∧ d < 4 ∧ 0 ≤ s ∧ s < 3) := by omega
  have HT : Hid (thereB d s = decide (0 ≤ d ∧ d < 4 ∧ 0 ≤ s ∧ s < 3)) := rfl
  rcases hc with h | ⟨h, h'⟩ | ⟨h, h', h''⟩ | ⟨h, h', h'', h'''⟩ | ⟨h, h', h'', h'''⟩
  all_goals
    go_enter Try.func97, Try.ntmps97
    go_wp2
    go_ret
    exact ⟨ret_bool (by rw [HT.out]; first | exact (decide_eq_true (by omega)).symm | exact (decide_eq_false (by omega)).symm | exact decide_eq_decide.2 (by omega)), rfl⟩

theorem Bs.cut {w : World} {cap n m : Nat} {l : List Int} {b off : Nat} (hm : n + m ≤ l.length) (h1 : l.length ≤ cap) (h2 : cap ≤ maxLen) (h4 : Octets l) (hc : ∀ i, i < l.length → w.cell? ⟨b, off + i, none⟩ = some (.int .u8 (l.getD i 0))) :
    Bs w (.slice (some ⟨b, off + n, none⟩) m (cap - n)) ((l.drop n).take m) := by
  have hlen : ((l.drop n).take m).length = m := by simp; omega
  refine ⟨some ⟨b, off + n, none⟩, cap - n, by rw [hlen], by omega, by omega, (fun h => nomatch h), fun x hx => h4 x (List.mem_of_mem_drop (List.mem_of_mem_take hx)), fun _ => ⟨b, off + n, rfl, fun i hi => ?_⟩⟩
  rw [hlen] at hi
  rw [Nat.add_assoc, hc (n + i) (by omega)]
  simp [List.getD_eq_getElem?_getD, hi]

theorem Bs.lit {w : World} {e : TypeId} {l : List Int} (h : l.length ≤ maxLen) (ho : Octets l) (mk : Nat × Nat) : Bs (w.alloc (.cells (l.map (Value.int .u8)).toArray e mk)) (.slice (some ⟨w.heap.size, 0, none⟩) l.length l.length) l := by
  refine ⟨some ⟨w.heap.size, 0, none⟩, l.length, rfl, Nat.le_refl _, h, (fun h => nomatch h), ho, fun _ => ⟨w.heap.size, 0, rfl, fun i hi => ?_⟩⟩
  simp only [World.cell?, heap_alloc_new w]
  simp [hi, List.getD_eq_getElem?_getD]

theorem ret_bs2 {v : Value} {k2 : IntKind} {a2 b2 : Int} (h2 : a2 = b2) : Ending.returned (.tuple #[v, .int k2 a2]) = .returned (.tuple #[v, .int k2 b2]) := by rw [h2]

/-- A row of one-cell bytes that is known whole. -/
theorem Bs.row {w : World} {e : TypeId} {mk : Nat × Nat} {g n : Nat} {l : List Int} (hg : w.heap[g]? = some (.cells (l.map (Value.int .u8)).toArray e mk)) (hn : l.length = n) (h : n ≤ maxLen) (ho : Octets l) : Bs w (.slice (some ⟨g, 0, none⟩) n n) l := by
  subst hn
  refine ⟨some ⟨g, 0, none⟩, l.length, rfl, Nat.le_refl _, h, (fun h => nomatch h), ho, fun _ => ⟨g, 0, rfl, fun i hi => ?_⟩⟩
  simp only [World.cell?, hg]
  simp [hi, List.getD_eq_getElem?_getD]

theorem Try.made4 (w : World) : (Instr.makeSlice 23 (.int .i64 4) (.int .i64 4)).run Try.prog w = .ok (.slice (some ⟨w.heap.size, 0, none⟩) 4 4) (w.alloc (.cells #[.int .u8 0, .int .u8 0, .int .u8 0, .int .u8 0] 5)) :=
  (run_make_row' (P := Try.prog) 23 5 (.int .u8 0) 1 Try.underlying23 Try.infoB rfl .i64 .i64 4 (by decide) (by decide) w).trans (by rw [show madeCells #[.int .u8 0] 4 = #[Value.int .u8 0, .int .u8 0, .int .u8 0, .int .u8 0] from Array.toList_inj.1 (toList_madeCells_one _ _)])

theorem Try.sizeB : (Try.prog.info? 5).map (·.size) = some 1 := by kernel_rfl

/-- A copy that fills a row of the call's own. -/
theorem run_copy_fill {P : Program} {w0 w : World} (dT sT ty elem : TypeId) (hu : P.underlying dT = some (.slice elem)) (hsz : (P.info? elem).map (·.size) = some 1) {g n m c cap : Nat} {cur : Array Value} {t : TypeId} {ad : Addr} {zs : List Int}
    (hg : w.heap[g]? = some (.cells cur t (0, 0))) (hcur : cur.size = n) (hz : zs.length = n) (hm : n ≤ m) (hsrc : Bs w (.slice (some ad) n cap) zs) (hG : Grow w0 w) (hB : w0.heap.size ≤ g) :
    ∃ w', (Builtin.copy_ #[dT, sT] ty #[.slice (some ⟨g, 0, none⟩) n n, .slice (some ad) m c]).run P w = .ok (goInt n) w' ∧ Hid (w'.heap[g]? = some (.cells (zs.map (Value.int .u8)).toArray t (0, 0))) ∧ Grow w0 w' := by
  have hcs : Cs w (some ad) zs := by
    obtain ⟨a1, c1, e1, -, -, -, -, h⟩ := hsrc
    injection e1 with e1 _ _
    rw [e1]
    exact h
  have hrun := run_copy_row (P := P) w dT sT ty elem g 0 n n ad m c cur t (zs.map (Value.int .u8)) hu hsz hg (by simp [hz, Nat.min_eq_right hm]) (hcs.src _ rfl) (by simp [hz, hcur]) (u8_oneCell _)
  rw [show (zs.map (Value.int .u8)).length = n from by simp [hz]] at hrun
  refine ⟨_, hrun, ?_, below_setRow hG hB _⟩
  have h2 := setRow_heap w g cur (cur.toList.take 0 ++ zs.map (Value.int .u8) ++ cur.toList.drop (0 + n)).toArray t (0, 0) hg
  rw [Hid, h2]
  simp [List.drop_eq_nil_of_le, hcur]

/-- What a read returns. -/
def ReadPost (l : List Int) (d s : Int) (w : World) (e : Ending) (w' : World) : Prop := ∃ r, e = .returned (.tuple #[r, .int .i64 (readE l d s)]) ∧ Bs w' r (readX l d s) ∧ Grow w w'

/-- Four bytes in new memory, or none. -/
def FreshX (w : World) (x : List Int) (r : Value) (w' : World) : Prop := (r = .slice none 0 0 ∧ x = []) ∨ ∃ b, r = .slice (some ⟨b, 0, none⟩) 4 4 ∧ w.heap.size ≤ b ∧ w'.heap[b]? = some (.cells (x.map (Value.int .u8)).toArray 5 (0, 0)) ∧ x.length = 4 ∧ Octets x

theorem FreshX.bs {w w' : World} {x : List Int} {r : Value} (h : FreshX w x r w') : Bs w' r x := by
  rcases h with ⟨rfl, rfl⟩ | ⟨b, rfl, -, hb, hl, ho⟩
  · exact Bs.nil _
  · exact Bs.row hb hl (by unfold maxLen; omega) ho

/-- What a read returns, and where. -/
def ReadFresh (l : List Int) (d s : Int) (w : World) (e : Ending) (w' : World) : Prop := ∃ r, e = .returned (.tuple #[r, .int .i64 (readE l d s)]) ∧ FreshX w (readX l d s) r w' ∧ Grow w w'

theorem ReadPost.none {l : List Int} {d s k : Int} {w w' : World} (h : readX l d s = [] ∧ readE l d s = k) (hg : Grow w w') : ReadFresh l d s w (.returned (.tuple #[.slice none 0 0, .int .i64 k])) w' :=
  ⟨_, by rw [h.2], .inl ⟨rfl, h.1⟩, hg⟩

set_option maxRecDepth 20000 in
set_option maxHeartbeats 1600000 in
theorem read_fresh (v : Value) (l : List Int) (d s : Int) (w : World) (h : Bs w v l) :
    Calls Try.prog 73 #[v, .int .i64 d, .int .i64 s] w (ReadFresh l d s w) := by
  have hbs := h
  obtain ⟨ao, cap, rfl, h1, h2, h3, h4, h5⟩ := h
  by_cases hl : l.length = 8
  · cases hs : sealedB l with
    | false =>
      have HR : Hid (readX l d s = [] ∧ readE l d s = 7) := read_sum d s (by rw [hs]; simp)
      rw [hl] at hbs
      rw [hl]
      clear h5 h1 h2 h3
      go_enter Try.func73, Try.ntmps73
      go_wp2_with fail
      refine (sealed_no _ _ _ hbs hs).mono ?_
      rintro e w1 ⟨rfl, n, rfl⟩
      go_wp2_with fail
      go_ret2
      exact ReadPost.none HR.out (Grow.drewN _ _)
    | true =>
      obtain ⟨b, off, rfl, hc⟩ := h5 (by omega)
      have c0 := hc 0 (by omega)
      rw [Nat.add_zero] at c0
      have c1 := hc 1 (by omega)
      have c2 := hc 2 (by omega)
      have c3 := hc 3 (by omega)
      have c4 := hc 4 (by omega)
      have c5 := hc 5 (by omega)
      have x0 := getD_bd h4 0
      have x1 := getD_bd h4 1
      have hx : Hid ((l.drop 2).take 4 = [l.getD 2 0, l.getD 3 0, l.getD 4 0, l.getD 5 0]) := by
        match l, hl with
        | [a0, a1, a2, a3, a4, a5, a6, a7], _ => rfl
      have hcap : (8 : Int) ≤ (cap : Int) := by omega
      have hsub : Bs w (.slice (some ⟨b, off + 2, none⟩) 4 (cap - 2)) ((l.drop 2).take 4) := Bs.cut (by omega) h1 h2 h4 hc
      clear hc
      unfold maxLen at h2
      rw [hl] at hbs
      rw [hl]
      by_cases hp : l.getD 0 0 = d
      · by_cases hq : l.getD 1 0 = s
        · have HR : Hid (readX l d s = (l.drop 2).take 4 ∧ readE l d s = 0) := read_ok ⟨hl, hs⟩ ⟨hp, hq⟩
          generalize l.getD 0 0 = y0 at *
          generalize l.getD 1 0 = y1 at *
          go_enter Try.func73, Try.ntmps73
          go_wp2_with fail
          refine (sealed_yes _ _ _ hbs hs).mono ?_
          rintro e w1 ⟨rfl, n, rfl⟩
          have hlen : ((l.drop 2).take 4).length = 4 := by simp [hl]
          have hso : Octets ((l.drop 2).take 4) := fun x hx => h4 x (List.mem_of_mem_drop (List.mem_of_mem_take hx))
          have hgr : Grow w ((w.drewN n).alloc (.cells #[.int .u8 0, .int .u8 0, .int .u8 0, .int .u8 0] 5)) := (Grow.drewN w n).trans (Grow.alloc _ _)
          obtain ⟨w2, hcp, HG2, hB2⟩ := run_copy_fill (P := Try.prog) 23 23 3 5 Try.underlying23 Try.sizeB (g := w.heap.size) (n := 4) (m := 6) (c := cap - 2) (heap_alloc_new (w.drewN n) _) rfl hlen (by omega) (hsub.grow hgr) hgr (Nat.le_refl _)
          have hmk := Try.made4 (w.drewN n)
          go_wp2_with fail
          go_ret2
          exact ⟨_, ret_bs2 HR.out.2.symm, by rw [HR.out.1]; exact .inr ⟨_, rfl, Nat.le_refl _, HG2.out, hlen, hso⟩, hB2⟩
        · have HR : Hid (readX l d s = [] ∧ readE l d s = 8) := read_place ⟨hl, hs⟩ (fun h => hq h.2)
          generalize l.getD 0 0 = y0 at *
          generalize l.getD 1 0 = y1 at *
          go_enter Try.func73, Try.ntmps73
          go_wp2_with fail
          refine (sealed_yes _ _ _ hbs hs).mono ?_
          rintro e w1 ⟨rfl, n, rfl⟩
          go_wp2_with fail
          go_ret2
          exact ReadPost.none HR.out (Grow.drewN _ _)
      · have HR : Hid (readX l d s = [] ∧ readE l d s = 8) := read_place ⟨hl, hs⟩ (fun h => hp h.1)
        generalize l.getD 0 0 = y0 at *
        generalize l.getD 1 0 = y1 at *
        go_enter Try.func73, Try.ntmps73
        go_wp2_with fail
        refine (sealed_yes _ _ _ hbs hs).mono ?_
        rintro e w1 ⟨rfl, n, rfl⟩
        go_wp2_with fail
        go_ret2
        exact ReadPost.none HR.out (Grow.drewN _ _)
  · have HR : Hid (readX l d s = [] ∧ readE l d s = 7) := read_sum d s (by simp [hl])
    have hl' : ¬ (l.length : Int) = 8 := by omega
    unfold maxLen at h2
    go_enter Try.func73, Try.ntmps73
    go_wp2_with fail
    go_ret2
    exact ReadPost.none HR.out (Grow.refl _)

theorem read_any (v : Value) (l : List Int) (d s : Int) (w : World) (h : Bs w v l) :
    Calls Try.prog 73 #[v, .int .i64 d, .int .i64 s] w (ReadPost l d s w) :=
  (read_fresh v l d s w h).mono fun _ _ ⟨r, he, hf, hg⟩ => ⟨r, he, hf.bs, hg⟩

end Go.Proofs.Ytjggiameajndgab
