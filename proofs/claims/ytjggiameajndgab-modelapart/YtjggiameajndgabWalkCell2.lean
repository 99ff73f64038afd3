/-
  What the reference's CellRead and CellBytes return, and the program's Bytes. Nothing old turns.
-/
import Derived.Test.YtjggiameajndgabWalkCell
import Derived.Test.YtjggiameajndgabSlices
import Derived.Laws.IdiomStrings
namespace Go.Proofs.Ytjggiameajndgab
open Go.RowKit

theorem ownsRow_mono {w : World} {base base' : Nat} {e : TypeId} {size : Nat} {v : Value} {n : Nat} {xs : List Value} (h : w.ownsRow base e size v n xs) (hb : base' ≤ base) : w.ownsRow base' e size v n xs :=
  ⟨h.1, h.2.imp id fun ⟨g, cap, cur, h1, h2, h3⟩ => ⟨g, cap, cur, h1, Nat.le_trans hb h2, h3⟩⟩

/-- What a read returns that makes nothing new: it reads so wherever the bytes do. -/
def ReadSub (v : Value) (l : List Int) (d s : Int) (w : World) (e : Ending) (w' : World) : Prop := ∃ r, e = .returned (.tuple #[r, .int .i64 (readE l d s)]) ∧ (∀ w2, Bs w2 v l → Bs w2 r (readX l d s)) ∧ Grow w w'

theorem ReadSub.none {v : Value} {l : List Int} {d s k : Int} {w w' : World} (h : readX l d s = [] ∧ readE l d s = k) (hg : Grow w w') : ReadSub v l d s w (.returned (.tuple #[.slice none 0 0, .int .i64 k])) w' :=
  ⟨_, by rw [h.2], fun w2 _ => by rw [h.1]; exact Bs.nil _, hg⟩

set_option maxRecDepth 20000 in
set_option maxHeartbeats 1600000 in
theorem refRead_sub (v : Value) (l : List Int) (d s : Int) (w : World) (h : Bs w v l) :
    Calls Try.prog 67 #[v, .int .i64 d, .int .i64 s] w (ReadSub v l d s w) := by
  have hbs := h
  obtain ⟨ao, cap, rfl, h1, h2, h3, h4, h5⟩ := h
  by_cases hl : l.length = 8
  · have hcall := fun w1 hb => refSealed_any (.slice ao 8 cap) l w1 (by omega) hb
    rw [hl] at hbs
    cases hs : sealedB l with
    | false =>
      have HR : Hid (readX l d s = [] ∧ readE l d s = 7) := read_sum d s (by rw [hs]; simp)
      rw [hs] at hcall
      rw [hl]
      clear h5 h1 h2 h3
      go_enter Try.func67, Try.ntmps67
      go_wp2_with fail
      refine (hcall _ hbs).mono ?_
      rintro e w1 ⟨rfl, hg⟩
      go_wp2_with fail
      go_ret2
      exact ReadSub.none HR.out hg
    | true =>
      obtain ⟨b, off, rfl, -⟩ := h5 (by omega)
      rw [hs] at hcall
      have x0 := getD_bd h4 0
      have x1 := getD_bd h4 1
      have hcap : (8 : Int) ≤ (cap : Int) := by omega
      have h1' := h1
      have h2' := h2
      rw [hl]
      clear h5
      unfold maxLen at h2
      go_enter Try.func67, Try.ntmps67
      go_wp2_with fail
      refine (hcall _ hbs).mono ?_
      rintro e w1 ⟨rfl, hg⟩
      have hc := (hbs.grow hg).cells
      have c0 := hc 0 (by omega)
      rw [Nat.add_zero] at c0
      have c1 := hc 1 (by omega)
      clear hc hcall
      by_cases hp : l.getD 0 0 = d
      · by_cases hq : l.getD 1 0 = s
        · have HR : Hid (readX l d s = (l.drop 2).take 4 ∧ readE l d s = 0) := read_ok ⟨hl, hs⟩ ⟨hp, hq⟩
          generalize l.getD 0 0 = y0 at *
          generalize l.getD 1 0 = y1 at *
          go_wp2_with fail
          go_ret2
          exact ⟨_, ret_bs2 HR.out.2.symm, fun w2 hw2 => by rw [HR.out.1]; exact Bs.cut (by omega) h1' h2' h4 hw2.cells, hg⟩
        · have HR : Hid (readX l d s = [] ∧ readE l d s = 8) := read_place ⟨hl, hs⟩ (fun h => hq h.2)
          generalize l.getD 0 0 = y0 at *
          generalize l.getD 1 0 = y1 at *
          go_wp2_with fail
          go_ret2
          exact ReadSub.none HR.out hg
      · have HR : Hid (readX l d s = [] ∧ readE l d s = 8) := read_place ⟨hl, hs⟩ (fun h => hp h.1)
        generalize l.getD 0 0 = y0 at *
        generalize l.getD 1 0 = y1 at *
        go_wp2_with fail
        go_ret2
        exact ReadSub.none HR.out hg
  · have HR : Hid (readX l d s = [] ∧ readE l d s = 7) := read_sum d s (by simp [hl])
    have hl' : ¬ (l.length : Int) = 8 := by omega
    unfold maxLen at h2
    go_enter Try.func67, Try.ntmps67
    go_wp2_with fail
    go_ret2
    exact ReadSub.none HR.out (Grow.refl _)

theorem refRead_any (v : Value) (l : List Int) (d s : Int) (w : World) (h : Bs w v l) :
    Calls Try.prog 67 #[v, .int .i64 d, .int .i64 s] w (ReadPost l d s w) :=
  (refRead_sub v l d s w h).mono fun _ _ ⟨r, he, hr, hg⟩ => ⟨r, he, hr _ (h.grow hg), hg⟩

theorem strOfNums_append (a b : List Int) : strOfNums a ++ strOfNums b = strOfNums (a ++ b) := by
  apply ByteArray.ext
  apply Array.toList_inj.1
  simp [strOfNums]

theorem bytesRow_nums {l : List Int} (h : Octets l) (c : Nat) : (bytesRow (strOfNums l) c).toList = l.map (Value.int .u8) ++ List.replicate (c - l.length) (.int .u8 0) := by
  simp only [bytesRow, Array.toList_append, Array.toList_map, strOfNums_data, List.map_map, strOfNums_size, Array.toList_replicate]
  congr 1
  apply List.map_congr_left
  intro x hx
  have := h x hx
  simp only [Function.comp, UInt8.toNat_ofNat']
  congr 1
  omega

/-- A string's bytes as a slice. -/
theorem run_convert_sb {P : Program} (w : World) (src dst e : TypeId) (hs : P.underlying src = some .string) (hd : P.underlying dst = some (.slice e)) (he : P.underlying e = some (.int .u8)) {l : List Int} (ho : Octets l) (hl : l.length ≤ maxLen) :
    ∃ v w', (convert src dst (.string (strOfNums l))).run P w = .ok v w' ∧ Bs w' v l ∧ Grow w w' := by
  refine ⟨_, _, run_bytes_of_string w src dst e _ hs hd he, ?_, Grow.trans (y := w.drew) ⟨rfl, rfl, rfl, Nat.le_refl _, fun _ _ => rfl⟩ (Grow.alloc _ _)⟩
  have hge := grownCap_ge w (strOfNums l).size 0 e
  have hle := grownCap_le_maxLen w (strOfNums l).size 0 e (by rw [strOfNums_size]; exact hl)
  rw [strOfNums_size] at hge hle
  generalize hc : grownCap w (strOfNums l).size 0 e = c at *
  rw [strOfNums_size] at hc ⊢
  refine ⟨some ⟨w.heap.size, 0, none⟩, c, rfl, by rw [← hc]; exact hge, by rw [← hc]; exact hle, (fun h => nomatch h), ho, fun _ => ⟨w.heap.size, 0, rfl, fun i hi => ?_⟩⟩
  have hh : ((w.drew).alloc (.cells (bytesRow (strOfNums l) c) e ((bytesRow (strOfNums l) c).size, (bytesRow (strOfNums l) c).size + 1))).heap[w.heap.size]? = _ := heap_alloc_new w.drew _
  simp only [World.cell?, hh]
  rw [← Array.getElem?_toList, bytesRow_nums ho, List.getElem?_append_left (by simpa using hi)]
  simp [hi, List.getD_eq_getElem?_getD]

theorem pair_map (d s : Int) (l : List Int) : [Value.int .u8 d, Value.int .u8 s] ++ l.map (Value.int .u8) = (d :: s :: l).map (Value.int .u8) := rfl

set_option maxRecDepth 20000 in
set_option maxHeartbeats 1600000 in
theorem bytes_any (v : Value) (l : List Int) (d s : Int) (w : World) (hlen : l.length ≤ 140737488351000) (hd : 0 ≤ d ∧ d ≤ 255) (hs : 0 ≤ s ∧ s ≤ 255) (h : Bs w v l) :
    Calls Try.prog 68 #[.int .i64 d, .int .i64 s, v] w fun e w' => ∃ r, e = .returned r ∧ w'.ownsRow w.heap.size 5 1 r (l.length + 4) ((cellOf d s l).map (Value.int .u8)) ∧ Grow w w' := by
  have hbs := h
  obtain ⟨ao, cap, rfl, h1, h2, h3, h4, h5⟩ := h
  unfold maxLen at h2
  obtain ⟨hd0, hd1⟩ := hd
  obtain ⟨hs0, hs1⟩ := hs
  have HP : Hid ([Value.int .u8 d, Value.int .u8 s] ++ l.map (Value.int .u8) = (d :: s :: l).map (Value.int .u8)) := rfl
  obtain ⟨i0, hi, hz0, hz1, hz2⟩ := info_parts Try.infoB
  go_enter Try.func68, Try.ntmps68
  go_wp2_with (first
    | (at_make; refine wpList_make_own _ rfl _ _ 23 rfl w.heap.size 5 i0 (.int .u8 0) 1 Try.underlying23 hi hz0 hz1 _ _ _ (l.length + 2) rfl rfl (by omega) (by rw [hz2]; omega) (by unfold maxLen; omega) (Nat.le_refl _) ?_; intro w0 hown0 hgrow0; have hb0 := (Below.refl w.heap.size w).grown hgrow0 (Nat.le_refl _) (fun k h => by cases h))
    | (at_builtin; refine wpList_append_fits _ rfl (.tmp 12) (.tmp 17) 23 rfl w.heap.size 5 i0 1 Try.underlying23 hi hz1 w.heap.size 0 (l.length + 2) _ rfl (hown0.alloc _) ⟨w0.heap.size, 0, none⟩ 2 2 [.int .u8 d, .int .u8 s] rfl rfl (by intro t u ht; match t, ht with | 0, ht => simp at ht; subst ht; simp [Addr.add] | 1, ht => simp at ht; subst ht; simp [Addr.add]) (by intro u hu; simp at hu; rcases hu with rfl | rfl <;> rfl) (by omega) ?_; intro w1 hown1 hgrow1; have hb1 := (hb0.alloc hb0.size _).grown hgrow1 (by have := hb0.size; simp; omega) (fun k h => by cases h; exact Nat.le_refl _))
    | (at_builtin; refine wpList_append_fits_any _ rfl (.tmp 19) (.tmp 20) 23 rfl w.heap.size 5 i0 1 Try.underlying23 hi hz1 w.heap.size 2 (l.length + 2) _ rfl hown1 _ l.length _ (l.map (Value.int .u8)) rfl (by simp) (fun h => by have := h3 h; omega) (h5.below hb1).src (u8_oneCell _) (by omega) ?_; intro w2 hown2 hgrow2; have hb2 := hb1.grown hgrow2 hb1.size (fun k h => by cases h; exact Nat.le_refl _)))
  have hown3 : w2.ownsRow w.heap.size 5 1 (.slice (some ⟨w.heap.size, 0, none⟩) (2 + l.length) (l.length + 2)) (2 + l.length) ((d :: s :: l).map (Value.int .u8)) := hown2
  have hbs2 : Bs w2 _ (d :: s :: l) := Bs.of_own hown3 (octets_cons ⟨hd0, hd1⟩ ⟨hs0, hs1⟩ h4)
  refine (seal_any _ (d :: s :: l) _ (by simp; omega) hbs2).mono ?_
  rintro e w3 ⟨r, rfl, hown4, hb3⟩
  go_wp2_with fail
  go_ret
  exact ⟨r, rfl, ownsRow_mono hown4 hb2.size, Grow.trans hb2 hb3⟩

theorem bytes_new (v : Value) (l : List Int) (d s : Int) (w : World) (hlen : l.length ≤ 140737488351000) (hd : 0 ≤ d ∧ d ≤ 255) (hs : 0 ≤ s ∧ s ≤ 255) (h : Bs w v l) :
    Calls Try.prog 68 #[.int .i64 d, .int .i64 s, v] w fun e w' => ∃ r, e = .returned r ∧ NewBs (cellOf d s l) r w' ∧ Grow w w' :=
  (bytes_any v l d s w hlen hd hs h).mono fun e w' ⟨r, he, hown, hb⟩ => by
    obtain ⟨g, cap, rfl, -, -⟩ := hown.form (by omega)
    exact ⟨_, he, ⟨g, cap, by rw [cellOf_length], Bs.of_own hown (cellOf_octets hd hs h.octets)⟩, hb⟩

set_option maxRecDepth 20000 in
set_option maxHeartbeats 1600000 in
theorem refBytes_new (v : Value) (l : List Int) (d s : Int) (w : World) (hlen : l.length ≤ 140737488351000) (hd : 0 ≤ d ∧ d ≤ 255) (hs : 0 ≤ s ∧ s ≤ 255) (h : Bs w v l) :
    Calls Try.prog 69 #[.int .i64 d, .int .i64 s, v] w fun e w' => ∃ r, e = .returned r ∧ NewBs (cellOf d s l) r w' ∧ Grow w w' := by
  have hbs := h
  obtain ⟨ao, cap, rfl, h1, h2, h3, h4, h5⟩ := h
  unfold maxLen at h2
  have hp : Octets [d, s] := by intro x hx; simp at hx; rcases hx with rfl | rfl <;> assumption
  obtain ⟨hd0, hd1⟩ := hd
  obtain ⟨hs0, hs1⟩ := hs
  have hlit : Bs (w.alloc (.cells #[.int .u8 d, .int .u8 s] 5)) (.slice (some ⟨w.heap.size, 0, none⟩) 2 2) [d, s] := Bs.lit (by unfold maxLen; simp) hp _
  have hg1 : Grow w (w.alloc (.cells #[.int .u8 d, .int .u8 s] 5)) := Grow.alloc _ _
  have hcv1 := run_convert_bs (P := Try.prog) 23 5 9 Try.underlying23 Try.underlying5 Try.underlying9 hlit
  have hcv2 := run_convert_bs (P := Try.prog) 23 5 9 Try.underlying23 Try.underlying5 Try.underlying9 (hbs.grow hg1)
  have hap := strOfNums_append [d, s] l
  have hz1 : (strOfNums [d, s]).size = 2 := strOfNums_size _
  have hz2 : (strOfNums l).size = l.length := strOfNums_size _
  obtain ⟨v3, w3, hcv3, hbs3, hg3⟩ := run_convert_sb (P := Try.prog) (w.alloc (.cells #[.int .u8 d, .int .u8 s] 5)) 9 23 5 Try.underlying9 Try.underlying23 Try.underlying5 (l := d :: s :: l) (octets_cons ⟨hd0, hd1⟩ ⟨hs0, hs1⟩ h4) (by unfold maxLen; simp; omega)
  go_enter Try.func69, Try.ntmps69
  go_wp2_with fail
  refine (refSeal_new _ (d :: s :: l) _ (by simp; omega) hbs3).mono ?_
  rintro e w4 ⟨r, rfl, hr, hg4⟩
  go_wp2_with fail
  go_ret
  exact ⟨r, rfl, hr, (hg1.trans hg3).trans hg4⟩

end Go.Proofs.Ytjggiameajndgab
