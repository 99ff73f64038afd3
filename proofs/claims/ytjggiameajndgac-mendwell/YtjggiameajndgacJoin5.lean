import Derived.Laws.IdiomStrings
import Derived.Laws.BitsAllLaws
import Derived.Test.YtjggiameajndgacJoin4
/-
  What the reference's CellRead and CellBytes return, and the program's Bytes. Nothing old turns.
-/
namespace Go.Proofs.Ytjggiameajndgac
open Go.RowKit

theorem ownsRow_mono {w : World} {base base' : Nat} {e : TypeId} {size : Nat} {v : Value} {n : Nat} {xs : List Value} (h : w.ownsRow base e size v n xs) (hb : base' ≤ base) : w.ownsRow base' e size v n xs :=
  ⟨h.1, h.2.imp id fun ⟨g, cap, cur, h1, h2, h3⟩ => ⟨g, cap, cur, h1, Nat.le_trans hb h2, h3⟩⟩

/-- What a read returns that makes nothing new: it reads so wherever the bytes do. -/
def ReadSub (v : Value) (l : List Int) (d s : Int) (w : World) (e : Ending) (w' : World) : Prop := ∃ r, e = .returned (.tuple #[r, .int .i64 (readE l d s)]) ∧ (∀ w2, Bs w2 v l → Bs w2 r (readX l d s)) ∧ Grow w w'

theorem ReadSub.none {v : Value} {l : List Int} {d s k : Int} {w w' : World} (h : readX l d s = [] ∧ readE l d s = k) (hg : Grow w w') : ReadSub v l d s w (.returned (.tuple #[.slice none 0 0, .int .i64 k])) w' :=
  ⟨_, by rw [h.2], fun w2 _ => by rw [h.1]; exact Bs.nil _, hg⟩

set_option maxRecDepth 20000 in
set_option maxHeartbeats 1600000 in
theorem refRead_sub (v : Value) (l : List Int) (d s : Int) (w : World) (h : Bs w v l) :
    Calls Try.prog 64 #[v, .int .i64 d, .int .i64 s] w (ReadSub v l d s w) := by
  have hbs := h
  obtain ⟨ao, cap, rfl, h1, h2, h3, h4, h5⟩ := h
  by_cases hl : l.length = 8
  · have hcall := fun w1 hb => refSealed_any (.slice ao 8 cap) l w1 (by omega) hb
    rw [hl] at hbs
    cases hs : sealedB l with
    | false =>
      have HR : Hid (readX l d s = [] ∧ readE l d s = 7) := read_sum d s (by rw [hs]; simp)
      rw [hs] at hcall
      rw [hl]
      clear h5 h1 h2 h3
      go_enter Try.func64, Try.ntmps64
      go_wp2_with fail
      refine (hcall _ hbs).mono ?_
      rintro e w1 ⟨rfl, hg⟩
      go_wp2_with fail
      go_ret2
      exact ReadSub.none HR.out hg
    | true =>
      obtain ⟨b, off, rfl, -⟩ := h5 (by omega)
      rw [hs] at hcall
      have x0 := getD_bd h4 0
      have x1 := getD_bd h4 1
      have hcap : (8 : Int) ≤ (cap : Int) := by omega
      have h1' := h1
      have h2' := h2
      rw [hl]
      clear h5
      unfold maxLen at h2
      go_enter Try.func64, Try.ntmps64
      go_wp2_with fail
      refine (hcall _ hbs).mono ?_
      rintro e w1 ⟨rfl, hg⟩
      have hc := (hbs.grow hg).cells
      have c0 := hc 0 (by omega)
      rw [Nat.add_zero] at c0
      have c1 := hc 1 (by omega)
      clear hc hcall
      by_cases hp : l.getD 0 0 = d
      · by_cases hq : l.getD 1 0 = s
        · have HR : Hid (readX l d s = (l.drop 2).take 4 ∧ readE l d s = 0) := read_ok ⟨hl, hs⟩ ⟨hp, hq⟩
          generalize l.getD 0 0 = y0 at *
          generalize l.getD 1 0 = y1 at *
          go_wp2_with fail
          go_ret2
          exact ⟨_, ret_bs2 HR.out.2.symm, fun w2 hw2 => by rw [HR.out.1]; exact Bs.cut (by omega) h1' h2' h4 hw2.cells, hg⟩
        · have HR : Hid (readX l d s = [] ∧ readE l d s = 8) := read_place ⟨hl, hs⟩ (fun h => hq h.2)
          generalize l.getD 0 0 = y0 at *
          generalize l.getD 1 0 = y1 at *
          go_wp2_with fail
          go_ret2
          exact ReadSub.none HR.out hg
      · have HR : Hid (readX l d s = [] ∧ readE l d s = 8) := read_place ⟨hl, hs⟩ (fun h => hp h.1)
        generalize l.getD 0 0 = y0 at *
        generalize l.getD 1 0 = y1 at *
        go_wp2_with fail
        go_ret2
        exact ReadSub.none HR.out hg
  · have HR : Hid (readX l d s = [] ∧ readE l d s = 7) := read_sum d s (by simp [hl])
    have hl' : ¬ (l.length : Int) = 8 := by omega
    unfold maxLen at h2
    go_enter Try.func64, Try.ntmps64
    go_wp2_with fail
    go_ret2
    exact ReadSub.none HR.out (Grow.refl _)

theorem refRead_any (v : Value) (l : List Int) (d s : Int) (w : World) (h : Bs w v l) :
    Calls Try.prog 64 #[v, .int .i64 d, .int .i64 s] w (ReadPost l d s w) :=
  (refRead_sub v l d s w h).mono fun _ _ ⟨r, he, hr, hg⟩ => ⟨r, he, hr _ (h.grow hg), hg⟩

theorem strOfNums_append (a b : List Int) : strOfNums a ++ strOfNums b = strOfNums (a ++ b) := by
  apply ByteArray.ext
  apply Array.toList_inj.1
  simp [strOfNums]

theorem bytesRow_nums {l : List Int} (h : Octets l) (c : Nat) : (bytesRow (strOfNums l) c).toList = l.map (Value.int .u8) ++ List.replicate (c - l.length) (.int .u8 0) := by
  simp only [bytesRow, Array.toList_append, Array.toList_map, strOfNums_data, List.map_map, strOfNums_size, Array.toList_replicate]
  congr 1
  apply List.map_congr_left
  intro x hx
  have := h x hx
  simp only [Function.comp, UInt8.toNat_ofNat']
  congr 1
  omega

/-- A string's bytes as a slice. -/
theorem run_convert_sb {P : Program} (w : World) (src dst e : TypeId) (hs : P.underlying src = some .string) (hd : P.underlying dst = some (.slice e)) (he : P.underlying e = some (.int .u8)) {l : List Int} (ho : Octets l) (hl : l.length ≤ maxLen) :
    ∃ v w', (convert src dst (.string (strOfNums l))).run P w = .ok v w' ∧ Bs w' v l ∧ Grow w w' := by
  refine ⟨_, _, run_bytes_of_string w src dst e _ hs hd he, ?_, Grow.trans (y := w.drew) ⟨rfl, rfl, rfl, Nat.le_refl _, fun _ _ => rfl⟩ (Grow.alloc _ _)⟩
  have hge := grownCap_ge w (strOfNums l).size 0 e
  have hle := grownCap_le_maxLen w (strOfNums l).size 0 e (by rw [strOfNums_size]; exact hl)
  rw [strOfNums_size] at hge hle
  generalize hc : grownCap w (strOfNums l).size 0 e = c at *
  rw [strOfNums_size] at hc ⊢
  refine ⟨some ⟨w.heap.size, 0, none⟩, c, rfl, by rw [← hc]; exact hge, by rw [← hc]; exact hle, (fun h => nomatch h), ho, fun _ => ⟨w.heap.size, 0, rfl, fun i hi => ?_⟩⟩
  have hh : ((w.drew).alloc (.cells (bytesRow (strOfNums l) c) e ((bytesRow (strOfNums l) c).size, (bytesRow (strOfNums l) c).size + 1))).heap[w.heap.size]? = _ := heap_alloc_new w.drew _
  simp only [World.cell?, hh]
  rw [← Array.getElem?_toList, bytesRow_nums ho, List.getElem?_append_left (by simpa using hi)]
  simp [hi, List.getD_eq_getElem?_getD]

theorem pair_map (d s : Int) (l : List Int) : [Value.int .u8 d, Value.int .u8 s] ++ l.map (Value.int .u8) = (d :: s :: l).map (Value.int .u8) := rfl

set_option maxRecDepth 20000 in
set_option maxHeartbeats 1600000 in
theorem bytes_any (v : Value) (l : List Int) (d s : Int) (w : World) (hlen : l.length ≤ 140737488351000) (hd : 0 ≤ d ∧ d ≤ 255) (hs : 0 ≤ s ∧ s ≤ 255) (h : Bs w v l) :
    Calls Try.prog 82 #[.int .i64 d, .int .i64 s, v] w fun e w' => ∃ r, e = .returned r ∧ w'.ownsRow w.heap.size 5 1 r (l.length + 4) ((cellOf d s l).map (Value.int .u8)) ∧ Grow w w' := by
  have hbs := h
  obtain ⟨ao, cap, rfl, h1, h2, h3, h4, h5⟩ := h
  unfold maxLen at h2
  obtain ⟨hd0, hd1⟩ := hd
  obtain ⟨hs0, hs1⟩ := hs
  have HP : Hid ([Value.int .u8 d, Value.int .u8 s] ++ l.map (Value.int .u8) = (d :: s :: l).map (Value.int .u8)) := rfl
  obtain ⟨i0, hi, hz0, hz1, hz2⟩ := info_parts Try.infoB
  go_enter Try.func82, Try.ntmps82
  go_wp2_with (first
    | (at_make; refine wpList_make_own _ rfl _ _ 52 rfl w.heap.size 5 i0 (.int .u8 0) 1 Try.underlying52 hi hz0 hz1 _ _ _ (l.length + 2) rfl rfl (by omega) (by rw [hz2]; omega) (by unfold maxLen; omega) (Nat.le_refl _) ?_; intro w0 hown0 hgrow0; have hb0 := (Below.refl w.heap.size w).grown hgrow0 (Nat.le_refl _) (fun k h => by cases h))
    | (at_builtin; refine wpList_append_fits _ rfl (.tmp 12) (.tmp 17) 52 rfl w.heap.size 5 i0 1 Try.underlying52 hi hz1 w.heap.size 0 (l.length + 2) _ rfl (hown0.alloc _) ⟨w0.heap.size, 0, none⟩ 2 2 [.int .u8 d, .int .u8 s] rfl rfl (by intro t u ht; match t, ht with | 0, ht => simp at ht; subst ht; simp [Addr.add] | 1, ht => simp at ht; subst ht; simp [Addr.add]) (by intro u hu; simp at hu; rcases hu with rfl | rfl <;> rfl) (by omega) ?_; intro w1 hown1 hgrow1; have hb1 := (hb0.alloc hb0.size _).grown hgrow1 (by have := hb0.size; simp; omega) (fun k h => by cases h; exact Nat.le_refl _))
    | (at_builtin; refine wpList_append_fits_any _ rfl (.tmp 19) (.tmp 20) 52 rfl w.heap.size 5 i0 1 Try.underlying52 hi hz1 w.heap.size 2 (l.length + 2) _ rfl hown1 _ l.length _ (l.map (Value.int .u8)) rfl (by simp) (fun h => by have := h3 h; omega) (h5.below hb1).src (u8_oneCell _) (by omega) ?_; intro w2 hown2 hgrow2; have hb2 := hb1.grown hgrow2 hb1.size (fun k h => by cases h; exact Nat.le_refl _)))
  have hown3 : w2.ownsRow w.heap.size 5 1 (.slice (some ⟨w.heap.size, 0, none⟩) (2 + l.length) (l.length + 2)) (2 + l.length) ((d :: s :: l).map (Value.int .u8)) := hown2
  have hbs2 : Bs w2 _ (d :: s :: l) := Bs.of_own hown3 (octets_cons ⟨hd0, hd1⟩ ⟨hs0, hs1⟩ h4)
  refine (seal_any _ (d :: s :: l) _ (by simp; omega) hbs2).mono ?_
  rintro e w3 ⟨r, rfl, hown4, hb3⟩
  go_wp2_with fail
  go_ret
  exact ⟨r, rfl, ownsRow_mono hown4 hb2.size, Grow.trans hb2 hb3⟩

theorem bytes_new (v : Value) (l : List Int) (d s : Int) (w : World) (hlen : l.length ≤ 140737488351000) (hd : 0 ≤ d ∧ d ≤ 255) (hs : 0 ≤ s ∧ s ≤ 255) (h : Bs w v l) :
    Calls Try.prog 82 #[.int .i64 d, .int .i64 s, v] w fun e w' => ∃ r, e = .returned r ∧ NewBs (cellOf d s l) r w' ∧ Grow w w' :=
  (bytes_any v l d s w hlen hd hs h).mono fun e w' ⟨r, he, hown, hb⟩ => by
    obtain ⟨g, cap, rfl, -, -⟩ := hown.form (by omega)
    exact ⟨_, he, ⟨g, cap, by rw [cellOf_length], Bs.of_own hown (cellOf_octets hd hs h.octets)⟩, hb⟩

set_option maxRecDepth 20000 in
set_option maxHeartbeats 1600000 in
theorem refBytes_new (v : Value) (l : List Int) (d s : Int) (w : World) (hlen : l.length ≤ 140737488351000) (hd : 0 ≤ d ∧ d ≤ 255) (hs : 0 ≤ s ∧ s ≤ 255) (h : Bs w v l) :
    Calls Try.prog 66 #[.int .i64 d, .int .i64 s, v] w fun e w' => ∃ r, e = .returned r ∧ NewBs (cellOf d s l) r w' ∧ Grow w w' := by
  have hbs := h
  obtain ⟨ao, cap, rfl, h1, h2, h3, h4, h5⟩ := h
  unfold maxLen at h2
  have hp : Octets [d, s] := by intro x hx; simp at hx; rcases hx with rfl | rfl <;> assumption
  obtain ⟨hd0, hd1⟩ := hd
  obtain ⟨hs0, hs1⟩ := hs
  have hlit : Bs (w.alloc (.cells #[.int .u8 d, .int .u8 s] 5)) (.slice (some ⟨w.heap.size, 0, none⟩) 2 2) [d, s] := Bs.lit (by unfold maxLen; simp) hp _
  have hg1 : Grow w (w.alloc (.cells #[.int .u8 d, .int .u8 s] 5)) := Grow.alloc _ _
  have hcv1 := run_convert_bs (P := Try.prog) 52 5 9 Try.underlying52 Try.underlying5 Try.underlying9 hlit
  have hcv2 := run_convert_bs (P := Try.prog) 52 5 9 Try.underlying52 Try.underlying5 Try.underlying9 (hbs.grow hg1)
  have hap := strOfNums_append [d, s] l
  have hz1 : (strOfNums [d, s]).size = 2 := strOfNums_size _
  have hz2 : (strOfNums l).size = l.length := strOfNums_size _
  obtain ⟨v3, w3, hcv3, hbs3, hg3⟩ := run_convert_sb (P := Try.prog) (w.alloc (.cells #[.int .u8 d, .int .u8 s] 5)) 9 52 5 Try.underlying9 Try.underlying52 Try.underlying5 (l := d :: s :: l) (octets_cons ⟨hd0, hd1⟩ ⟨hs0, hs1⟩ h4) (by unfold maxLen; simp; omega)
  go_enter Try.func66, Try.ntmps66
  go_wp2_with fail
  refine (refSeal_new _ (d :: s :: l) _ (by simp; omega) hbs3).mono ?_
  rintro e w4 ⟨r, rfl, hr, hg4⟩
  go_wp2_with fail
  go_ret
  exact ⟨r, rfl, hr, (hg1.trans hg3).trans hg4⟩

end Go.Proofs.Ytjggiameajndgac

/-
  What the program's xor returns: turn, Two, All, Even. Nothing old turns.
-/
namespace Go.Proofs.Ytjggiameajndgac
open Go.RowKit

/-- A row, its first k bytes taken together with those of b. -/
def turned (o b : List Int) (k : Nat) : List Int := (List.range 4).map fun i => if i < k then (((o.getD i 0).toNat ^^^ (b.getD i 0).toNat : Nat) : Int) else o.getD i 0

theorem turned_zero {o : List Int} (b : List Int) (h : o.length = 4) : turned o b 0 = o := by
  match o, h with
  | [o0, o1, o2, o3], _ => rfl

theorem turned_all (ls : List (List Int)) (b : List Int) : turned (xorAll ls) b 4 = xorAll (ls ++ [b]) := by
  simp only [turned, xorAll, xC_append, xC_one]
  rfl

theorem turned_getD {o b : List Int} {k : Nat} (hk : k < 4) : (turned o b k).getD k 0 = o.getD k 0 := by
  simp [turned, List.getD_eq_getElem?_getD, hk]

theorem turned_set {o b : List Int} {k : Nat} (hk : k < 4) : ((turned o b k).map (Value.int .u8)).set k (.int .u8 (((o.getD k 0).toNat ^^^ (b.getD k 0).toNat : Nat) : Int)) = (turned o b (k + 1)).map (Value.int .u8) := by
  match k, hk with
  | 0, _ => rfl
  | 1, _ => rfl
  | 2, _ => rfl
  | 3, _ => rfl

theorem Grow.set {w0 w : World} (h : Grow w0 w) {g k : Nat} (hg : w0.heap.size ≤ g) (u : Value) : Grow w0 (w.setCell ⟨g, k, none⟩ u) := Below.setCell h (p := ⟨g, k, none⟩) hg u
theorem Grow.drew1 {w0 w : World} (h : Grow w0 w) : Grow w0 w.drew := h.trans ⟨rfl, rfl, rfl, Nat.le_refl _, fun _ _ => rfl⟩

set_option maxRecDepth 20000 in
set_option maxHeartbeats 400000 in
theorem turn_any (g : Nat) (o : List Int) (v : Value) (b : List Int) (w0 w : World) (hG : Grow w0 w) (hg : w0.heap.size ≤ g) (ho : o.length = 4) (hoo : Octets o) (hb : Bs w0 v b) (hl : b.length = 4)
    (hr : w.heap[g]? = some (.cells (o.map (Value.int .u8)).toArray 5 (0, 0))) :
    Calls Try.prog 95 #[.slice (some ⟨g, 0, none⟩) 4 4, v] w fun e w' => e = .returned (.tuple #[]) ∧ Hid (w'.heap[g]? = some (.cells ((turned o b 4).map (Value.int .u8)).toArray 5 (0, 0))) ∧ Grow w0 w' := by
  obtain ⟨ao, cap, rfl, h1, h2, h3, h4, h5⟩ := hb
  unfold maxLen at h2
  obtain ⟨bb, off, rfl, hc⟩ := h5 (by omega)
  rw [hl] at hc h1 ⊢
  clear h5
  go_enter Try.func95, Try.ntmps95
  go_wp2
  go_loopw [10] (fun i wr => ∃ k : Nat, k ≤ 4 ∧ i = .int .i64 k ∧ Hid (wr.heap[g]? = some (.cells ((turned o b k).map (Value.int .u8)).toArray 5 (0, 0))) ∧ Grow w0 wr) (fun i _ => 4 - (intOf i).toNat)
  case atStart => exact ⟨0, by omega, rfl, by rw [turned_zero b ho]; exact hr, hG⟩
  case round =>
    obtain ⟨k, hk, rfl, HR, hgr⟩ := hrel
    by_cases hlt : k < 4
    · have hx := getD_bd hoo k
      have hy := getD_bd h4 k
      have hcb : wr.cell? ⟨bb, off + k, none⟩ = some (.int .u8 (b.getD k 0)) := (hgr.cell (p := ⟨bb, off + k, none⟩) (cell_lt (hc k hlt))).trans (hc k hlt)
      have hco : wr.cell? ⟨g, k, none⟩ = some (.int .u8 (o.getD k 0)) := by
        simp only [World.cell?, HR.out]
        rw [← turned_getD (b := b) hlt]
        simp [turned, List.getD_eq_getElem?_getD, hlt]
      have hfr : wr.frozen? ⟨g, k, none⟩ = false := frozen_of_row wr g k _ _ HR.out
      have HX := u8_xor (o.getD k 0) (b.getD k 0) (by omega) (by omega) (by omega) (by omega)
      have HS : Hid (∀ z : Int, z = (((o.getD k 0).toNat ^^^ (b.getD k 0).toNat : Nat) : Int) → (wr.setCell ⟨g, k, none⟩ (.int .u8 z)).heap[g]? = some (.cells ((turned o b (k + 1)).map (Value.int .u8)).toArray 5 (0, 0))) := by
        rintro z rfl
        rw [heap_setCell_same wr g k _ _ _ HR.out, ← turned_set hlt]
        simp
      generalize o.getD k 0 = x at *
      generalize b.getD k 0 = y at *
      go_wp2
      go_region
      go_wp2
      go_roundw
      case rel => exact ⟨k + 1, by omega, by go_num, HS.out _ rfl, (hgr.set hg _).drew1⟩
      case measure => simp [intOf]; omega
    · obtain rfl : k = 4 := by omega
      go_wp2
      go_end0
      exact ⟨rfl, HR, hgr⟩


theorem nought_octets : Octets [0, 0, 0, 0] := by intro x hx; simp at hx; omega

/-- A new slice that reads as l. -/
theorem NewBs.row {w : World} {e : TypeId} {g : Nat} {l : List Int} (hg : w.heap[g]? = some (.cells (l.map (Value.int .u8)).toArray e (0, 0))) (hl : l.length = 4) (ho : Octets l) : NewBs l (.slice (some ⟨g, 0, none⟩) 4 4) w :=
  ⟨g, 4, by rw [hl], Bs.row hg hl (by unfold maxLen; omega) ho⟩

theorem take_blocks {ls : List (List Int)} (h : ∀ b ∈ ls, Octets b) (k : Nat) : ∀ b ∈ ls.take k, Octets b := fun b hb => h b (List.mem_of_mem_take hb)

theorem xorAll_take_succ (ls : List (List Int)) {k : Nat} (h : k < ls.length) : xorAll (ls.take k ++ [ls.getD k []]) = xorAll (ls.take (k + 1)) := by
  rw [List.take_add_one]
  simp [h, List.getD_eq_getElem?_getD]

set_option maxRecDepth 20000 in
set_option maxHeartbeats 400000 in
theorem all_row (v : Value) (ls : List (List Int)) (w : World) (h : Bss w v ls) (hl : ∀ b ∈ ls, b.length = 4) :
    Calls Try.prog 80 #[v] w fun e w' => e = .returned (.slice (some ⟨w.heap.size, 0, none⟩) 4 4) ∧ Hid (w'.heap[w.heap.size]? = some (.cells ((xorAll ls).map (Value.int .u8)).toArray 5 (0, 0))) ∧ Grow w w' := by
  have hoc := h.octets
  obtain ⟨ao, cap, rfl, h1, h2, h3, h4⟩ := h
  unfold maxLen at h2
  have hmk := Try.made4 w
  have hg0 : Grow w (w.alloc (.cells #[.int .u8 0, .int .u8 0, .int .u8 0, .int .u8 0] 5)) := Grow.alloc _ _
  have hr0 : (w.alloc (.cells #[.int .u8 0, .int .u8 0, .int .u8 0, .int .u8 0] 5)).heap[w.heap.size]? = some (.cells (([0, 0, 0, 0] : List Int).map (Value.int .u8)).toArray 5 (0, 0)) := heap_alloc_new _ _
  go_enter Try.func80, Try.ntmps80
  go_wp2
  go_loopw [9] (fun i wr => ∃ k : Nat, k ≤ ls.length ∧ i = .int .i64 k ∧ Hid (wr.heap[w.heap.size]? = some (.cells ((xorAll (ls.take k)).map (Value.int .u8)).toArray 5 (0, 0))) ∧ Grow w wr) (fun i _ => ls.length - (intOf i).toNat)
  case atStart => exact ⟨0, by omega, rfl, hr0, hg0⟩
  case round =>
    obtain ⟨k, hk, rfl, HR, hgr⟩ := hrel
    by_cases hlt : k < ls.length
    · obtain ⟨b, off, rfl, hc⟩ := h4 (by omega)
      obtain ⟨ak, ck, hck, hbk⟩ := Sl.bytesAt hc hlt
      have hlk : (ls.getD k []).length = 4 := hl _ (by simp [List.getD_eq_getElem?_getD, hlt])
      have hck' := (hgr.cell (p := ⟨b, off + k, none⟩) (cell_lt hck)).trans hck
      have e1 : Hid (turned (xorAll (ls.take k)) (ls.getD k []) 4 = xorAll (ls.take (k + 1))) := by rw [Hid, turned_all, xorAll_take_succ ls hlt]
      have ho1 := xorAll_octets (take_blocks hoc k)
      clear hc h4 hck
      generalize ls.getD k [] = bk at *
      rw [hlk] at hbk hck'
      go_wp2_with fail
      refine (turn_any w.heap.size (xorAll (ls.take k)) _ bk w _ hgr (Nat.le_refl _) rfl ho1 hbk hlk HR.out).mono ?_
      rintro e w1 ⟨rfl, HR1, hg1⟩
      rw [e1.out] at HR1
      go_wp2_with fail
      go_roundw
      case rel => exact ⟨k + 1, by omega, by go_num, HR1, hg1⟩
      case measure => simp [intOf]; omega
    · obtain rfl : k = ls.length := by omega
      rw [List.take_of_length_le (Nat.le_refl _)] at HR
      go_wp2
      go_ret
      exact ⟨rfl, HR, hgr⟩

theorem all_new (v : Value) (ls : List (List Int)) (w : World) (h : Bss w v ls) (hl : ∀ b ∈ ls, b.length = 4) :
    Calls Try.prog 80 #[v] w fun e w' => e = .returned (.slice (some ⟨w.heap.size, 0, none⟩) 4 4) ∧ NewBs (xorAll ls) (.slice (some ⟨w.heap.size, 0, none⟩) 4 4) w' ∧ Grow w w' :=
  (all_row v ls w h hl).mono fun _ _ ⟨he, HR, hg⟩ => ⟨he, NewBs.row HR.out rfl (xorAll_octets h.octets), hg⟩

theorem all_any (v : Value) (ls : List (List Int)) (w : World) (h : Bss w v ls) (hl : ∀ b ∈ ls, b.length = 4) :
    Calls Try.prog 80 #[v] w fun e w' => ∃ r, e = .returned r ∧ NewBs (xorAll ls) r w' ∧ Grow w w' :=
  (all_new v ls w h hl).mono fun _ _ ⟨he, hn, hg⟩ => ⟨_, he, hn, hg⟩

/-- Noughts. -/
def evenB (l : List Int) : Bool := l == [0, 0, 0, 0]

theorem even_no {ls : List (List Int)} {k : Nat} (hk : k < 4) (h : (xorAll ls).getD k 0 ≠ 0) : evenB (xorAll ls) = false := by
  rw [evenB, beq_eq_false_iff_ne]
  intro h0
  rw [h0] at h
  match k, hk with
  | 0, _ => exact h rfl
  | 1, _ => exact h rfl
  | 2, _ => exact h rfl
  | 3, _ => exact h rfl

theorem even_yes {ls : List (List Int)} (h : ∀ k, k < 4 → (xorAll ls).getD k 0 = 0) : evenB (xorAll ls) = true := by
  rw [evenB, beq_iff_eq]
  have h0 := h 0 (by omega)
  have h1 := h 1 (by omega)
  have h2 := h 2 (by omega)
  have h3 := h 3 (by omega)
  rw [xorAll_getD _ (by omega)] at h0 h1 h2 h3
  rw [xorAll, h0, h1, h2, h3]

end Go.Proofs.Ytjggiameajndgac

/-
  What the reference's Xor returns, bit by bit; and what the statements of chapter 3 hold for blocks (right). Nothing old turns.
-/
namespace Go.Proofs.Ytjggiameajndgac
open Go.RowKit

/-- Blocks, and not too many. -/
def rightB (ls : List (List Int)) : Bool := ls.all (fun b => b.length == 4) && decide (ls.length ≤ 50)

theorem right_no {ls : List (List Int)} {k : Nat} (hk : k < ls.length) (h : (ls.getD k []).length ≠ 4) : rightB ls = false := by
  rw [rightB, Bool.and_eq_false_iff]
  left
  rw [List.all_eq_false]
  exact ⟨ls.getD k [], by simp [List.getD_eq_getElem?_getD, hk], by simpa using h⟩

theorem right_end {ls : List (List Int)} (h : ∀ k, k < ls.length → (ls.getD k []).length = 4) : rightB ls = decide (ls.length ≤ 50) := by
  have : ls.all (fun b => b.length == 4) = true := by
    rw [List.all_eq_true]
    intro b hb
    obtain ⟨i, hi, rfl⟩ := List.mem_iff_getElem.1 hb
    have := h i hi
    simpa [List.getD_eq_getElem?_getD, hi] using this
  rw [rightB, this, Bool.true_and]

theorem right_all {ls : List (List Int)} (h : rightB ls = true) : (∀ b ∈ ls, b.length = 4) ∧ ls.length ≤ 50 := by
  simp [rightB] at h
  exact h


/-- The row when place i has its first j bits. -/
def xp (ls : List (List Int)) (i j : Nat) : List Int := (List.range 4).map fun m => if m < i then (xC ls m : Int) else if m = i then ((xC ls i % 2 ^ j : Nat) : Int) else 0

theorem xp_start (ls : List (List Int)) : xp ls 0 0 = [0, 0, 0, 0] := by
  simp [xp, List.range_succ, Nat.mod_one]

theorem xp_next {ls : List (List Int)} (h : ∀ b ∈ ls, Octets b) {i : Nat} (hi : i < 4) : xp ls i 8 = xp ls (i + 1) 0 := by
  have hx := xC_lt h i
  have h8 : xC ls i % 2 ^ 8 = xC ls i := Nat.mod_eq_of_lt hx
  match i, hi with
  | 0, _ => simp [xp, List.range_succ, Nat.mod_one]; omega
  | 1, _ => simp [xp, List.range_succ, Nat.mod_one]; omega
  | 2, _ => simp [xp, List.range_succ, Nat.mod_one]; omega
  | 3, _ => simp [xp, List.range_succ, Nat.mod_one]; omega

theorem xp_end (ls : List (List Int)) : xp ls 4 0 = xorAll ls := by
  simp [xp, List.range_succ, xorAll]

theorem xp_getD (ls : List (List Int)) {i : Nat} (hi : i < 4) (j : Nat) : (xp ls i j)[i]? = some ((xC ls i % 2 ^ j : Nat) : Int) := by
  simp [xp, hi]

theorem xp_set (ls : List (List Int)) {i : Nat} (hi : i < 4) (j : Nat) : ((xp ls i j).map (Value.int .u8)).set i (.int .u8 ((xC ls i % 2 ^ (j + 1) : Nat) : Int)) = (xp ls i (j + 1)).map (Value.int .u8) := by
  match i, hi with
  | 0, _ => simp [xp, List.range_succ]
  | 1, _ => simp [xp, List.range_succ]
  | 2, _ => simp [xp, List.range_succ]
  | 3, _ => simp [xp, List.range_succ]

theorem pow_le_128 {j : Nat} (h : j < 8) : (2 : Int) ^ j ≤ 128 ∧ 1 ≤ (2 : Int) ^ j := by
  match j, h with
  | 0, _ | 1, _ | 2, _ | 3, _ | 4, _ | 5, _ | 6, _ | 7, _ => decide

theorem bit_int {x p : Int} {j : Nat} (hx : 0 ≤ x) (hp : p = 2 ^ j) : x / p % 2 = ((x.toNat / 2 ^ j % 2 : Nat) : Int) := by
  obtain ⟨n, rfl⟩ := Int.eq_ofNat_of_zero_le hx
  subst hp
  simp

theorem low_le {x j : Nat} (h : j < 8) : x % 2 ^ (j + 1) ≤ 255 := by
  have h1 := Nat.mod_lt x (show 0 < 2 ^ (j + 1) from Nat.pow_pos (by omega))
  have h2 : 2 ^ (j + 1) ≤ 2 ^ 8 := Nat.pow_le_pow_right (by omega) (by omega)
  omega

set_option maxRecDepth 20000 in
set_option maxHeartbeats 1600000 in
theorem refXor_new (v : Value) (ls : List (List Int)) (w : World) (h : Bss w v ls) (hl : ∀ b ∈ ls, b.length = 4) :
    Calls Try.prog 83 #[v] w fun e w' => e = .returned (.slice (some ⟨w.heap.size, 0, none⟩) 4 4) ∧ Hid (w'.heap[w.heap.size]? = some (.cells ((xorAll ls).map (Value.int .u8)).toArray 5 (0, 0))) ∧ Grow w w' := by
  have hoc := h.octets
  obtain ⟨ao, cap, rfl, h1, h2, h3, h4⟩ := h
  unfold maxLen at h2
  have hg0 : Grow w (w.alloc (.cells #[.int .u8 0, .int .u8 0, .int .u8 0, .int .u8 0] 5)) := Grow.alloc _ _
  have hr0 : (w.alloc (.cells #[.int .u8 0, .int .u8 0, .int .u8 0, .int .u8 0] 5)).heap[w.heap.size]? = some (.cells (([0, 0, 0, 0] : List Int).map (Value.int .u8)).toArray 5 (0, 0)) := heap_alloc_new _ _
  go_enter Try.func83, Try.ntmps83
  go_wp2
  go_loopw [12] (fun i wr => ∃ k : Nat, k ≤ 4 ∧ i = .int .i64 k ∧ Hid (wr.heap[w.heap.size]? = some (.cells ((xp ls k 0).map (Value.int .u8)).toArray 5 (0, 0))) ∧ Grow w wr) (fun i _ => 4 - (intOf i).toNat)
  case atStart => exact ⟨0, by omega, rfl, by rw [xp_start]; exact hr0, hg0⟩
  case round =>
    obtain ⟨i, hi, rfl, HR, hgr⟩ := hrel
    by_cases hlt : i < 4
    · obtain ⟨wo, hwo⟩ : ∃ wo : World, wo = wr := ⟨_, rfl⟩
      subst hwo
      have hd : decide ((i : Int) < 4) = true := by simp; omega
      go_wp2
      go_loopw [5] (fun q wr => ∃ (j : Nat) (p : Int), j ≤ 8 ∧ q = .int .i64 p ∧ 1 ≤ p ∧ p ≤ 256 ∧ Hid (p = 2 ^ j) ∧ Hid (wr.heap[w.heap.size]? = some (.cells ((xp ls i j).map (Value.int .u8)).toArray 5 (0, 0))) ∧ Grow w wr) (fun q _ => 256 - (intOf q).toNat)
      case atStart => exact ⟨0, 1, by omega, rfl, by omega, by omega, rfl, HR, hgr⟩
      case round =>
        obtain ⟨j, p, hj, rfl, hp1, hp2, HP, HR', hg'⟩ := hrel
        by_cases hj8 : j < 8
        · have hpw := pow_le_128 hj8
          rw [← HP.out] at hpw
          obtain ⟨hp3, -⟩ := hpw
          obtain ⟨wi, hwi⟩ : ∃ wi : World, wi = wr := ⟨_, rfl⟩
          subst hwi
          have hdp : decide (p < 256) = true := by simp; omega
          go_wp2
          go_loop [6, 21] (fun n q => ∃ (k c : Nat), k ≤ ls.length ∧ q = .int .i64 k ∧ n = .int .i64 c ∧ c ≤ k ∧ Hid (c = cnt (ls.take k) i j)) (fun _ q => ls.length - (intOf q).toNat)
          case atStart => exact ⟨0, 0, by omega, rfl, rfl, by omega, rfl⟩
          case round =>
            obtain ⟨k, c, hk, rfl, rfl, hck, HC⟩ := hrel
            by_cases hk2 : k < ls.length
            · obtain ⟨b, off, rfl, hc⟩ := h4 (by omega)
              obtain ⟨ak, cak, hce, hbk⟩ := Sl.bytesAt hc hk2
              have hlk : (ls.getD k []).length = 4 := hl _ (by simp [List.getD_eq_getElem?_getD, hk2])
              have hce' := (hg'.cell (p := ⟨b, off + k, none⟩) (cell_lt hce)).trans hce
              have hbk' := hbk.grow hg'
              rw [hlk] at hce' hbk'
              obtain ⟨a1, c1, e1, -, -, -, hok, hcs⟩ := hbk'
              injection e1 with e1 e2 e3
              subst e1 e3
              obtain ⟨bb, boff, rfl, hcb⟩ := hcs (by omega)
              have hcx := hcb i (by omega)
              have hx := getD_bd hok i
              have HN := cnt_take_succ ls hk2 i j
              clear hc h4 hce hbk hcs hcb e2
              generalize ls.getD k [] = bk at *
              generalize hxe : bk.getD i 0 = x at *
              have hq0 : 0 ≤ x / p := Int.ediv_nonneg hx.1 (by omega)
              have hq1 : x / p ≤ 255 := Int.le_trans (Int.ediv_le_self p hx.1) hx.2
              have hqt : x.tdiv p = x / p := Int.tdiv_eq_ediv_of_nonneg hx.1
              rw [← HC.out] at HN
              have hbi := bit_int (j := j) hx.1 HP.out
              by_cases hb1 : x / p % 2 = 1
              · rw [if_pos (by omega)] at HN
                have HN' : Hid (c + 1 = cnt (ls.take (k + 1)) i j) := HN.symm
                clear HN hbi hxe
                go_wp2
                go_round
                case rel => first | exact ⟨k + 1, c + 1, by omega, by go_num, by go_num, by omega, HN'⟩ | ((repeat apply Exists.intro); exact ⟨⟨k + 1, c + 1, by omega, by go_num, by go_num, by omega, HN'⟩, rfl⟩)
                case measure => simp [intOf]; omega
              · rw [if_neg (by omega)] at HN
                have HN' : Hid (c = cnt (ls.take (k + 1)) i j) := HN.symm
                clear HN hbi hxe
                go_wp2
                go_round
                case rel => first | exact ⟨k + 1, c, by omega, by go_num, rfl, by omega, HN'⟩ | ((repeat apply Exists.intro); exact ⟨⟨k + 1, c, by omega, by go_num, rfl, by omega, HN'⟩, rfl⟩)
                case measure => simp [intOf]; omega
            · obtain rfl : k = ls.length := by omega
              rw [List.take_of_length_le (Nat.le_refl _)] at HC
              have hlc := low_cnt ls i j
              rw [← HC.out] at hlc
              have hle := low_le (x := xC ls i) hj8
              have hco : wi.cell? ⟨w.heap.size, i, none⟩ = some (.int .u8 ((xC ls i % 2 ^ j : Nat) : Int)) := by
                simp only [World.cell?, HR'.out]
                simp [xp_getD ls hlt]
              have hfr : wi.frozen? ⟨w.heap.size, i, none⟩ = false := frozen_of_row wi _ i _ _ HR'.out
              have HS : Hid (∀ z : Int, z = ((xC ls i % 2 ^ (j + 1) : Nat) : Int) → (wi.setCell ⟨w.heap.size, i, none⟩ (.int .u8 z)).heap[w.heap.size]? = some (.cells ((xp ls i (j + 1)).map (Value.int .u8)).toArray 5 (0, 0))) := by
                rintro z rfl
                rw [heap_setCell_same wi _ i _ _ _ HR'.out, ← xp_set ls hlt]
                simp
              have HP' : Hid (2 * p = 2 ^ (j + 1)) := by rw [Hid, Int.pow_succ, ← HP.out, Int.mul_comm]
              have hpn : ((2 ^ j : Nat) : Int) = p := by rw [HP.out]; simp
              generalize xC ls i % 2 ^ j = y at *
              generalize xC ls i % 2 ^ (j + 1) = y' at *
              generalize 2 ^ j = pn at *
              subst hpn
              by_cases hpar : c % 2 = 0
              · rw [hpar, Nat.mul_zero, Nat.add_zero] at hlc
                have hpar' : (c : Int) % 2 = 0 := by omega
                subst hlc
                go_wp2
                go_roundw
                case rel => first | exact ⟨j + 1, 2 * pn, by omega, rfl, by omega, by omega, HP', HS.out _ (by omega), hg'.set (Nat.le_refl _) _⟩ | ((repeat apply Exists.intro); exact ⟨⟨j + 1, 2 * pn, by omega, rfl, by omega, by omega, HP', HS.out _ (by omega), hg'.set (Nat.le_refl _) _⟩, rfl⟩)
                case measure => simp [intOf]; omega
              · have hpar1 : c % 2 = 1 := by omega
                rw [hpar1, Nat.mul_one] at hlc
                have hpar' : (c : Int) % 2 = 1 := by omega
                go_wp2
                go_roundw
                case rel => first | exact ⟨j + 1, 2 * pn, by omega, rfl, by omega, by omega, HP', HS.out _ (by omega), hg'.set (Nat.le_refl _) _⟩ | ((repeat apply Exists.intro); exact ⟨⟨j + 1, 2 * pn, by omega, rfl, by omega, by omega, HP', HS.out _ (by omega), hg'.set (Nat.le_refl _) _⟩, rfl⟩)
                case measure => simp [intOf]; omega
        · obtain rfl : j = 8 := by omega
          have h256 : p = 256 := by rw [HP.out]; decide
          subst h256
          rw [xp_next hoc hlt] at HR'
          go_wp2
          go_roundw
          case rel => first | exact ⟨i + 1, by omega, by go_num, HR', hg'⟩ | ((repeat apply Exists.intro); exact ⟨⟨i + 1, by omega, by go_num, HR', hg'⟩, rfl⟩)
          case measure => simp [intOf]; omega
    · obtain rfl : i = 4 := by omega
      rw [xp_end] at HR
      go_wp2
      go_ret
      exact ⟨rfl, HR, hgr⟩

theorem refXor_any (v : Value) (ls : List (List Int)) (w : World) (h : Bss w v ls) (hl : ∀ b ∈ ls, b.length = 4) :
    Calls Try.prog 83 #[v] w fun e w' => ∃ r, e = .returned r ∧ NewBs (xorAll ls) r w' ∧ Grow w w' :=
  (refXor_new v ls w h hl).mono fun _ _ ⟨he, hn, hg⟩ => ⟨_, he, NewBs.row hn.out rfl (xorAll_octets h.octets), hg⟩

end Go.Proofs.Ytjggiameajndgac

/-
  What the reference's Bad, Make and Data return. Nothing old turns.
-/
namespace Go.Proofs.Ytjggiameajndgac
open Go.RowKit

/-- A number, as it lies. -/
def IntV (_ : World) (v : Value) (x : Int) : Prop := v = .int .i64 x
theorem IntV.stays : Stays IntV := fun _ _ _ _ h _ => h
theorem IntV.off (g : Option Nat) (w : World) (x : Int) : Off IntV g w (.int .i64 x) x := fun _ _ => rfl

theorem Try.infoI : (Try.prog.info? 3).map (fun i => (i.zero, i.size, i.bytes)) = some (some (.int .i64 0), 1, 8) := by kernel_rfl

/-- Numbers of disks. -/
def ints (l : List Nat) : List Int := l.map fun (n : Nat) => (n : Int)

set_option maxRecDepth 20000 in
set_option maxHeartbeats 1600000 in
theorem refBad_any (v : Value) (ls : List (List Int)) (s : Int) (w : World) (h : Bss w v ls) (hl : ls.length ≤ 100) :
    Calls Try.prog 51 #[v, .int .i64 s] w fun e w' => ∃ r, e = .returned r ∧ Sl IntV w' r (ints (badL ls s)) ∧ Grow w w' := by
  obtain ⟨i0, hi, hz0, hz1, hz2⟩ := info_parts Try.infoI
  have hbs := h
  obtain ⟨ao, cap, rfl, h1, h2, h3, h4⟩ := h
  unfold maxLen at h2
  go_enter Try.func51, Try.ntmps51
  go_wp2
  go_loopw [5, 11] (fun r i wr => ∃ k : Nat, k ≤ ls.length ∧ i = .int .i64 k ∧ Hid (Rowing IntV w.heap.size 3 wr r (ints (badTo ls s k))) ∧ Grow w wr) (fun _ i _ => ls.length - (intOf i).toNat)
  case atStart => exact ⟨0, by omega, rfl, Rowing.nil _ _ _ _, Grow.refl _⟩
  case round =>
    obtain ⟨k, hk, rfl, HR, hgr⟩ := hrel
    by_cases hlt : k < ls.length
    · obtain ⟨b, off, rfl, hc⟩ := h4 (by omega)
      obtain ⟨ak, ck, hck, hbk⟩ := Sl.bytesAt hc hlt
      have hck' := hgr.at hck
      have hbk' := hbk.grow hgr
      have HB := badTo_succ ls s k
      have hbl := badTo_length ls s k
      have hE : isBad ls s k = (readE (ls.getD k []) k s != 0) := rfl
      clear hc h4 hck hbk
      generalize hlk : ls.getD k [] = lk at *
      generalize hnk : lk.length = nk at *
      have hlb : (ints (badTo ls s k)).length ≤ k := by simpa [ints] using hbl
      clear hbs hlk hnk
      go_wp2_with fail
      refine (refRead_any _ lk k s _ hbk').mono ?_
      rintro e w1 ⟨r, rfl, hr, hg1⟩
      by_cases he : readE lk k s = 0
      · have HB' : Hid (badTo ls s (k + 1) = badTo ls s k) := by rw [Hid, HB, hE, he]; simp
        have hrow := HR.out.grow hg1
        rw [← HB'.out] at hrow
        clear HB hE
        go_wp2
        go_roundw
        case rel => first | exact ⟨k + 1, by omega, by go_num, hrow, hgr.trans hg1⟩ | ((repeat apply Exists.intro); exact ⟨⟨k + 1, by omega, by go_num, hrow, hgr.trans hg1⟩, rfl⟩)
        case measure => simp [intOf]; omega
      · have HB' : Hid (ints (badTo ls s k) ++ [(k : Int)] = ints (badTo ls s (k + 1))) := by rw [Hid, HB, hE]; simp [ints, he]
        have hrow := HR.out.grow hg1
        have hg2 := hgr.trans hg1
        generalize readE lk k s = E at *
        clear HB hE HR
        go_wp2_with (first
          | (at_builtin; refine wpList_push rfl (.tmp 26) (.tmp 28) 35 rfl i0 (.int .i64 0) 8 Try.underlying35 hi hz0 hz1 hz2 rfl w hg2 rfl rfl hrow rfl (IntV.off _ _ k) w1.heap.size rfl rfl (by omega) (by omega) ?_; rintro v1 w2 - hrow1 hg3))
        rw [HB'.out] at hrow1
        go_wp2
        go_roundw
        case rel => first | exact ⟨k + 1, by omega, by go_num, hrow1, hg3⟩ | ((repeat apply Exists.intro); exact ⟨⟨k + 1, by omega, by go_num, hrow1, hg3⟩, rfl⟩)
        case measure => simp [intOf]; omega
    · obtain rfl : k = ls.length := by omega
      go_wp2
      go_ret
      exact ⟨_, rfl, HR.out.done, hgr⟩

/-- Bytes in memory of the call's own: readable whatever is written into what was there before. -/
def FreshBs (w : World) (l : List Int) (r : Value) (w' : World) : Prop := NewBs l r w' ∧ ∀ g, (∀ k, g = some k → k < w.heap.size) → Off Bs g w' r l

theorem FreshBs.of_own {w w' : World} {B : Nat} {e : TypeId} {v : Value} {n : Nat} {l : List Int} (h : w'.ownsRow B e 1 v n (l.map (Value.int .u8))) (ho : Octets l) (hn : 0 < n) (hl : l.length = n) (hB : w.heap.size ≤ B) : FreshBs w l v w' := by
  obtain ⟨g, cap, rfl, -, -⟩ := h.form hn
  exact ⟨⟨g, cap, by rw [hl], Bs.of_own h ho⟩, fun g' hg' => Off.own h ho (fun k hk => by have := hg' k hk; omega)⟩

theorem FreshBs.of_row {w w' : World} {e : TypeId} {mk : Nat × Nat} {b : Nat} {l : List Int} (hb : w'.heap[b]? = some (.cells (l.map (Value.int .u8)).toArray e mk)) (hl : l.length = 4) (ho : Octets l) (hB : w.heap.size ≤ b) : FreshBs w l (.slice (some ⟨b, 0, none⟩) 4 4) w' :=
  ⟨⟨b, 4, by rw [hl], (Off.row (g := none) hb hl (by unfold maxLen; omega) ho (by simp)).here⟩, fun g hg => Off.row hb hl (by unfold maxLen; omega) ho (fun e => by have := hg b e; omega)⟩

set_option maxRecDepth 20000 in
set_option maxHeartbeats 1600000 in
theorem refBytes_own (v : Value) (l : List Int) (d s : Int) (w : World) (hlen : l.length ≤ 140737488351000) (hd : 0 ≤ d ∧ d ≤ 255) (hs : 0 ≤ s ∧ s ≤ 255) (h : Bs w v l) :
    Calls Try.prog 66 #[.int .i64 d, .int .i64 s, v] w fun e w' => ∃ r, e = .returned r ∧ w'.ownsRow w.heap.size 5 1 r (l.length + 4) ((cellOf d s l).map (Value.int .u8)) ∧ Grow w w' := by
  have hbs := h
  obtain ⟨ao, cap, rfl, h1, h2, h3, h4, h5⟩ := h
  unfold maxLen at h2
  have hp : Octets [d, s] := by intro x hx; simp at hx; rcases hx with rfl | rfl <;> assumption
  obtain ⟨hd0, hd1⟩ := hd
  obtain ⟨hs0, hs1⟩ := hs
  have hlit : Bs (w.alloc (.cells #[.int .u8 d, .int .u8 s] 5)) (.slice (some ⟨w.heap.size, 0, none⟩) 2 2) [d, s] := Bs.lit (by unfold maxLen; simp) hp _
  have hg1 : Grow w (w.alloc (.cells #[.int .u8 d, .int .u8 s] 5)) := Grow.alloc _ _
  have hcv1 := run_convert_bs (P := Try.prog) 52 5 9 Try.underlying52 Try.underlying5 Try.underlying9 hlit
  have hcv2 := run_convert_bs (P := Try.prog) 52 5 9 Try.underlying52 Try.underlying5 Try.underlying9 (hbs.grow hg1)
  have hap := strOfNums_append [d, s] l
  have hz1 : (strOfNums [d, s]).size = 2 := strOfNums_size _
  have hz2 : (strOfNums l).size = l.length := strOfNums_size _
  obtain ⟨v3, w3, hcv3, hbs3, hg3⟩ := run_convert_sb (P := Try.prog) (w.alloc (.cells #[.int .u8 d, .int .u8 s] 5)) 9 52 5 Try.underlying9 Try.underlying52 Try.underlying5 (l := d :: s :: l) (octets_cons ⟨hd0, hd1⟩ ⟨hs0, hs1⟩ h4) (by unfold maxLen; simp; omega)
  go_enter Try.func66, Try.ntmps66
  go_wp2_with fail
  refine (refSeal_any _ (d :: s :: l) _ (by simp; omega) hbs3).mono ?_
  rintro e w4 ⟨r, rfl, hown, hg4⟩
  go_wp2_with fail
  go_ret
  exact ⟨r, rfl, ownsRow_mono hown (hg1.trans hg3).size, (hg1.trans hg3).trans hg4⟩

theorem refBytes_fresh (v : Value) (l : List Int) (d s : Int) (w : World) (hlen : l.length ≤ 140737488351000) (hd : 0 ≤ d ∧ d ≤ 255) (hs : 0 ≤ s ∧ s ≤ 255) (h : Bs w v l) :
    Calls Try.prog 66 #[.int .i64 d, .int .i64 s, v] w fun e w' => ∃ r, e = .returned r ∧ FreshBs w (cellOf d s l) r w' ∧ Grow w w' :=
  (refBytes_own v l d s w hlen hd hs h).mono fun _ _ ⟨r, he, hown, hg⟩ => ⟨r, he, FreshBs.of_own hown (cellOf_octets hd hs h.octets) (by omega) (by rw [cellOf_length]) (Nat.le_refl _), hg⟩

theorem make_succ (ds : List (List Int)) (s : Int) (k : Nat) : (List.range k).map (fun (d : Nat) => cellOf d s (ds.getD d [])) ++ [cellOf k s (ds.getD k [])] = (List.range (k + 1)).map (fun (d : Nat) => cellOf d s (ds.getD d [])) := by simp [List.range_succ]

set_option maxRecDepth 20000 in
set_option maxHeartbeats 1600000 in
theorem refMake_any (v : Value) (ds : List (List Int)) (s : Int) (w : World) (h : Bss w v ds) (hl : ds.length ≤ 100) (hs : 0 ≤ s ∧ s ≤ 255) (h4 : ∀ b ∈ ds, b.length = 4) :
    Calls Try.prog 53 #[v, .int .i64 s] w fun e w' => ∃ r, e = .returned r ∧ Rowing Bs w.heap.size 52 w' r (makeL ds s) ∧ Grow w w' := by
  obtain ⟨i0, hi, hz0, hz1, hz2⟩ := info_parts Try.infoS
  obtain ⟨ao, cap, rfl, h1, h2, h3, h4'⟩ := h
  unfold maxLen at h2
  have HM : Hid (makeL ds s = (List.range ds.length).map (fun (d : Nat) => cellOf d s (ds.getD d []))) := rfl
  have HT : Hid (∀ k, (List.range k).map (fun (d : Nat) => cellOf d s (ds.getD d [])) ++ [cellOf k s (ds.getD k [])] = (List.range (k + 1)).map (fun (d : Nat) => cellOf d s (ds.getD d []))) := make_succ ds s
  go_enter Try.func53, Try.ntmps53
  go_wp2
  go_loopw [5, 9] (fun r i wr => ∃ k : Nat, k ≤ ds.length ∧ i = .int .i64 k ∧ Hid (Rowing Bs w.heap.size 52 wr r ((List.range k).map (fun (d : Nat) => cellOf d s (ds.getD d [])))) ∧ Grow w wr) (fun _ i _ => ds.length - (intOf i).toNat)
  case atStart => exact ⟨0, by omega, rfl, Rowing.nil _ _ _ _, Grow.refl _⟩
  case round =>
    obtain ⟨k, hk, rfl, HR, hgr⟩ := hrel
    by_cases hlt : k < ds.length
    · obtain ⟨b, off, rfl, hc⟩ := h4' (by omega)
      obtain ⟨ak, ck, hck, hbk⟩ := Sl.bytesAt hc hlt
      have hck' := hgr.at hck
      have hbk' := hbk.grow hgr
      have hlk : (ds.getD k []).length = 4 := h4 _ (by simp [List.getD_eq_getElem?_getD, hlt])
      have hT := HT.out k
      rw [hlk] at hck' hbk'
      clear hc h4' hck hbk
      generalize ds.getD k [] = dk at *
      have Hlk : Hid (dk.length = 4) := hlk
      clear hlk
      go_wp2_with fail
      refine (refBytes_fresh _ dk k s _ (by have := Hlk.out; omega) (by omega) hs hbk').mono ?_
      rintro e w1 ⟨r, rfl, ⟨⟨gr, cr, rfl, hr⟩, hoff⟩, hg1⟩
      have Hrow : Hid (Rowing Bs w.heap.size 52 w1 u5 _) := HR.out.grow hg1
      have Hoff : Hid (Off Bs u5.ownBlock w1 (.slice (some ⟨gr, 0, none⟩) (cellOf k s dk).length cr) (cellOf k s dk)) := hoff u5.ownBlock (fun j hj => (HR.out.base j hj).2)
      have hg2 := hgr.trans hg1
      have hlc : (cellOf (k : Int) s dk).length = 8 := by rw [cellOf_length, Hlk.out]
      rw [hlc] at Hoff ⊢
      clear HR hoff hr
      go_wp2_with (first
        | (at_builtin; refine wpList_push rfl (.tmp 12) (.tmp 20) 41 rfl i0 (.slice none 0 0) 24 Try.underlying41 hi hz0 hz1 hz2 rfl w hg2 rfl rfl Hrow.out rfl Hoff.out w1.heap.size rfl rfl (by simp; omega) (by simp; omega) ?_; rintro v1 w2 - hrow1 hg3))
      rw [hT] at hrow1
      go_wp2
      go_roundw
      case rel => first | exact ⟨k + 1, by omega, by go_num, hrow1, hg3⟩ | ((repeat apply Exists.intro); exact ⟨⟨k + 1, by omega, by go_num, hrow1, hg3⟩, rfl⟩)
      case measure => simp [intOf]; omega
    · obtain rfl : k = ds.length := by omega
      go_wp2
      go_ret
      exact ⟨_, rfl, by rw [HM.out]; exact HR.out, hgr⟩

end Go.Proofs.Ytjggiameajndgac

/-
  What the reference's Data returns. Nothing old turns.
-/
namespace Go.Proofs.Ytjggiameajndgac
open Go.RowKit

theorem dat_succ (ls : List (List Int)) (s : Int) (k : Nat) : (List.range k).map (datAt ls s) ++ [datAt ls s k] = (List.range (k + 1)).map (datAt ls s) := by simp [List.range_succ]

set_option maxRecDepth 20000 in
set_option maxHeartbeats 3200000 in
theorem refData_row (v : Value) (ls : List (List Int)) (s : Int) (w : World) (g : Option Nat) (h00 : Sl (Off Bs g) w v ls) (hg : ∀ k, g = some k → k < w.heap.size) (hl : ls.length ≤ 100) :
    Calls Try.prog 52 #[v, .int .i64 s] w fun e w' => ∃ r, e = .returned (.tuple #[r, .int .i64 (dataE ls s)]) ∧ Rowing (Off Bs g) w.heap.size 52 w' r (dataL ls s) ∧ Grow w w' := by
  have h : Bss w v ls := h00.off
  obtain ⟨i0, hi, hz0, hz1, hz2⟩ := info_parts Try.infoS
  have hbs := h
  have hoc := h.octets
  obtain ⟨ao, cap, rfl, h1, h2, h3, -⟩ := h
  have h4 := (show 0 < ls.length → ∃ b off, ao = some ⟨b, off, none⟩ ∧ ∀ (i : Nat) x, ls[i]? = some x → ∃ u, w.cell? ⟨b, off + i, none⟩ = some u ∧ Off Bs g w u x by
    obtain ⟨a1, c1, e1, -, -, -, k4⟩ := h00
    injection e1 with e1 _ _
    subst e1
    exact k4)
  unfold maxLen at h2
  have hbl := badTo_length ls s ls.length
  by_cases hbad : 1 < (badL ls s).length
  · have HE : Hid (dataE ls s = 9) := if_pos hbad
    have HL : Hid (dataL ls s = []) := if_pos hbad
    go_enter Try.func52, Try.ntmps52
    go_wp2_with fail
    refine (refBad_any _ ls s _ hbs hl).mono ?_
    rintro e w1 ⟨r, rfl, hr, hg1⟩
    obtain ⟨ar, cr, rfl, hr1, hr2⟩ := hr.form'
    have hlen : (ints (badL ls s)).length = (badL ls s).length := by simp [ints]
    rw [hlen] at hr1 ⊢
    clear hbs hr hlen h00
    generalize (badL ls s).length = nb at *
    go_wp2
    go_ret2
    exact ⟨_, ret_bs2 HE.out.symm, by rw [HL.out]; exact Rowing.nil _ _ _ _, hg1⟩
  · have HE : Hid (dataE ls s = 0) := if_neg hbad
    have HL : Hid (dataL ls s = (List.range ls.length).map (datAt ls s)) := if_neg hbad
    have HT : Hid (∀ k, (List.range k).map (datAt ls s) ++ [datAt ls s k] = (List.range (k + 1)).map (datAt ls s)) := dat_succ ls s
    have HG : Hid (∀ d, isBad ls s d = true → datAt ls s d = xorAll (restTo ls s d ls.length)) := fun d h => if_pos h
    have HN : Hid (∀ d, isBad ls s d = false → datAt ls s d = readX (ls.getD d []) d s) := fun d h => if_neg (by rw [h]; simp)
    have HF : Hid (∀ d, d < ls.length → isBad ls s d = true → ∀ b ∈ restTo ls s d ls.length, b.length = 4) := fun d hd hb => rest_blocks hd hb (by omega) (Nat.le_refl _)
    have HB : Hid (∀ d, isBad ls s d = (readE (ls.getD d []) d s != 0)) := fun _ => rfl
    have Hc : Hid (0 < ls.length → ∃ b off, ao = some ⟨b, off, none⟩ ∧ ∀ k, k < ls.length → ∃ ak n ck, w.cell? ⟨b, off + k, none⟩ = some (.slice ak n ck) ∧ Off Bs g w (.slice ak n ck) (ls.getD k [])) := fun hp => by
      obtain ⟨b, off, e, hc⟩ := h4 hp
      refine ⟨b, off, e, fun k hk => ?_⟩
      obtain ⟨u, e1, e2⟩ := hc k (ls.getD k []) (by simp [List.getD_eq_getElem?_getD, hk])
      obtain ⟨x1, x2, x3, rfl⟩ := e2.here.form
      exact ⟨_, _, _, e1, e2⟩
    have HO : Hid (∀ k, k < ls.length → Octets (ls.getD k [])) := fun k hk => hoc _ (by simp [List.getD_eq_getElem?_getD, hk])
    clear h4 hoc
    go_enter Try.func52, Try.ntmps52
    go_wp2_with fail
    refine (refBad_any _ ls s _ hbs hl).mono ?_
    rintro e w1 ⟨r, rfl, hr, hg1⟩
    obtain ⟨ar, cr, rfl, hr1, hr2⟩ := hr.form'
    have hlen : (ints (badL ls s)).length = (badL ls s).length := by simp [ints]
    rw [hlen] at hr1 ⊢
    clear hbs hr hlen hbl h00
    generalize (badL ls s).length = nb at *
    go_wp2
    go_loopw [7, 23] (fun r i wr => ∃ k : Nat, k ≤ ls.length ∧ i = .int .i64 k ∧ Hid (Rowing (Off Bs g) w1.heap.size 52 wr r ((List.range k).map (datAt ls s))) ∧ Grow w1 wr) (fun _ i _ => ls.length - (intOf i).toNat)
    case atStart => exact ⟨0, by omega, rfl, Rowing.nil _ _ _ _, Grow.refl _⟩
    case round =>
      obtain ⟨k, hk, rfl, HR, hgr⟩ := hrel
      by_cases hlt : k < ls.length
      · obtain ⟨b, off, rfl, hc⟩ := Hc.out (by omega)
        obtain ⟨ak, nk, ck, hck, hbk⟩ := hc k hlt
        have hgw := hg1.trans hgr
        have hck' := hgw.at hck
        have Hbk : Hid (Off Bs g w (.slice ak nk ck) (ls.getD k [])) := hbk
        have HC : Hid (∀ k, k < ls.length → ∃ ak n ck, w.cell? ⟨b, off + k, none⟩ = some (.slice ak n ck) ∧ Off Bs g w (.slice ak n ck) (ls.getD k [])) := hc
        clear hc hck hbk
        have hdk : decide ((k : Int) < ls.length) = true := by simp; omega
        go_wp2_with fail
        refine (refRead_sub _ (ls.getD k []) k s _ (Hbk.out.here.grow hgw)).mono ?_
        rintro e w2 ⟨r, rfl, hr, hg2⟩
        obtain ⟨arr, nr, crr, rfl⟩ := (hr _ Hbk.out.here).form
        have Hr : Hid (∀ w2, Bs w2 (.slice ak nk ck) (ls.getD k []) → Bs w2 (.slice arr nr crr) (readX (ls.getD k []) k s)) := hr
        clear hr
        have hB := HB.out k
        have hgr2 := hgr.trans hg2
        have Hrow : Hid (Rowing (Off Bs g) w1.heap.size 52 w2 u7 ((List.range k).map (datAt ls s))) := HR.out.grow hg2
        clear HR hck' hgr hgw
        have hT := HT.out k
        by_cases he : readE (ls.getD k []) k s = 0
        · have HD := HN.out k (by rw [hB, he]; rfl)
          have Hoff : Hid (Off (Off Bs g) u7.ownBlock w2 (.slice arr nr crr) (datAt ls s k)) := by
            rw [HD]
            exact Off.old (Off.stays Bs g) (w0 := w1) (fun w' h' => Hr.out w' ((Hbk.out.grow hg1) w' h')) hgr2 (fun j hj => (Hrow.out.base j hj).1)
          clear HD hB
          generalize readE (ls.getD k []) k s = E at *
          subst he
          go_wp2_with (first
            | (at_builtin; refine wpList_push rfl (.tmp 63) (.tmp 65) 41 rfl i0 (.slice none 0 0) 24 Try.underlying41 hi hz0 hz1 hz2 rfl w1 hgr2 rfl rfl Hrow.out rfl Hoff.out w2.heap.size rfl rfl (by simp; omega) (by simp; omega) ?_; rintro v1 w3 - hrow1 hg3))
          rw [hT] at hrow1
          go_wp2
          go_roundw
          case rel => first | exact ⟨k + 1, by omega, by go_num, hrow1, hg3⟩ | ((repeat apply Exists.intro); exact ⟨⟨k + 1, by omega, by go_num, hrow1, hg3⟩, rfl⟩)
          case measure => simp [intOf]; omega
        · have hbk : isBad ls s k = true := by rw [hB]; simpa using he
          have HD := HG.out k hbk
          have HQ : Hid (∀ b ∈ restTo ls s k ls.length, b.length = 4) := HF.out k hlt hbk
          clear hB hbk
          generalize readE (ls.getD k []) k s = E at *
          have hd1 : (E != 0) = true := by simpa using he
          go_wp2
          go_loopw [11, 40] (fun q i wr => ∃ m : Nat, m ≤ ls.length ∧ i = .int .i64 m ∧ Hid (Rowing Bs w2.heap.size 52 wr q (restTo ls s k m)) ∧ Grow w2 wr) (fun _ i _ => ls.length - (intOf i).toNat)
          case atStart => exact ⟨0, by omega, rfl, Rowing.nil _ _ _ _, Grow.refl _⟩
          case round =>
            obtain ⟨m, hm, rfl, HM, hgm⟩ := hrel
            by_cases hmlt : m < ls.length
            · by_cases hmk : m = k
              · have HM' : Hid (Rowing Bs w2.heap.size 52 wr u11 (restTo ls s k (m + 1))) := by rw [Hid, restTo_skip ls s hmk]; exact HM.out
                subst hmk
                go_wp2
                go_roundw
                case rel => first | exact ⟨m + 1, by omega, by go_num, HM', hgm⟩ | ((repeat apply Exists.intro); exact ⟨⟨m + 1, by omega, by go_num, HM', hgm⟩, rfl⟩)
                case measure => simp [intOf]; omega
              · have hmk' : ¬ (m : Int) = k := by omega
                have HS : Hid (restTo ls s k (m + 1) = restTo ls s k m ++ [readX (ls.getD m []) m s]) := restTo_take ls s hmk
                have hrl := restTo_length ls s k m
                obtain ⟨am, nm, cm, hcm, hbm⟩ := HC.out m hmlt
                have hgw2 := (hg1.trans hgr2).trans hgm
                have hcm' := hgw2.at hcm
                have Hbm : Hid (Off Bs g w (.slice am nm cm) (ls.getD m [])) := hbm
                clear hcm hbm
                go_wp2_with fail
                refine (refRead_sub _ (ls.getD m []) m s _ (Hbm.out.here.grow hgw2)).mono ?_
                rintro e w3 ⟨rm, rfl, hrm, hg3⟩
                obtain ⟨arm, nrm, crm, rfl⟩ := (hrm _ Hbm.out.here).form
                have hgm3 := hgm.trans hg3
                have Hrow3 : Hid (Rowing Bs w2.heap.size 52 w3 u11 (restTo ls s k m)) := HM.out.grow hg3
                have Hoff : Hid (Off Bs u11.ownBlock w3 (.slice arm nrm crm) (readX (ls.getD m []) m s)) := Off.old Bs.stays (hrm _ (Hbm.out.here.grow (hg1.trans hgr2))) hgm3 (fun j hj => (Hrow3.out.base j hj).1)
                clear hrm HM hcm'
                go_wp2_with (first
                  | (at_builtin; refine wpList_push rfl (.tmp 56) (.tmp 58) 41 rfl i0 (.slice none 0 0) 24 Try.underlying41 hi hz0 hz1 hz2 rfl w2 hgm3 rfl rfl Hrow3.out rfl Hoff.out w3.heap.size rfl rfl (by omega) (by omega) ?_; rintro v1 w4 - hrow4 hg4))
                rw [← HS.out] at hrow4
                go_wp2
                go_roundw
                case rel => first | exact ⟨m + 1, by omega, by go_num, hrow4, hg4⟩ | ((repeat apply Exists.intro); exact ⟨⟨m + 1, by omega, by go_num, hrow4, hg4⟩, rfl⟩)
                case measure => simp [intOf]; omega
            · obtain rfl : m = ls.length := by omega
              have Hxo := xorAll_octets (Bss.octets (HM.out.done))
              go_wp2_with fail
              refine (refXor_new _ _ _ HM.out.done HQ.out).mono ?_
              rintro e w5 ⟨rfl, HX, hg5⟩
              have hgr5 := (hgr2.trans hgm).trans hg5
              have Hrow5 : Hid (Rowing (Off Bs g) w1.heap.size 52 w5 u7 ((List.range k).map (datAt ls s))) := Hrow.out.grow (hgm.trans hg5)
              have Hoff : Hid (Off (Off Bs g) u7.ownBlock w5 (.slice (some ⟨wr.heap.size, 0, none⟩) 4 4) (datAt ls s k)) := by
                rw [HD]
                exact Off.row2 HX.out rfl (by unfold maxLen; omega) Hxo (fun e => by have := hg _ e; have := (hg1.trans hgr2).size; have := hgm.size; omega) (fun e => by have := (Hrow.out.base _ e).2; have := hgm.size; omega)
              clear HD HX HM
              go_wp2_with (first
                | (at_builtin; refine wpList_push rfl (.tmp 63) (.tmp 65) 41 rfl i0 (.slice none 0 0) 24 Try.underlying41 hi hz0 hz1 hz2 rfl w1 hgr5 rfl rfl Hrow5.out rfl Hoff.out w5.heap.size rfl rfl (by simp; omega) (by simp; omega) ?_; rintro v1 w6 - hrow6 hg6))
              rw [hT] at hrow6
              go_wp2
              go_roundw
              case rel => first | exact ⟨k + 1, by omega, by go_num, hrow6, hg6⟩ | ((repeat apply Exists.intro); exact ⟨⟨k + 1, by omega, by go_num, hrow6, hg6⟩, rfl⟩)
              case measure => simp [intOf]; omega
      · obtain rfl : k = ls.length := by omega
        go_wp2
        go_ret2
        exact ⟨_, ret_bs2 HE.out.symm, by rw [HL.out]; exact HR.out.low hg1.size, hg1.trans hgr⟩

theorem refData_off (v : Value) (ls : List (List Int)) (s : Int) (w : World) (g : Option Nat) (h00 : Sl (Off Bs g) w v ls) (hg : ∀ k, g = some k → k < w.heap.size) (hl : ls.length ≤ 100) :
    Calls Try.prog 52 #[v, .int .i64 s] w fun e w' => ∃ r, e = .returned (.tuple #[r, .int .i64 (dataE ls s)]) ∧ Sl (Off Bs g) w' r (dataL ls s) ∧ Grow w w' :=
  (refData_row v ls s w g h00 hg hl).mono fun _ _ ⟨r, he, hr, hg⟩ => ⟨r, he, hr.done, hg⟩

theorem refData_any (v : Value) (ls : List (List Int)) (s : Int) (w : World) (h : Bss w v ls) (hl : ls.length ≤ 100) :
    Calls Try.prog 52 #[v, .int .i64 s] w fun e w' => ∃ r, e = .returned (.tuple #[r, .int .i64 (dataE ls s)]) ∧ Bss w' r (dataL ls s) ∧ Grow w w' :=
  (refData_off v ls s w none (Sl.lift (fun _ _ h => Off.plain Bs.stays h) h (Grow.refl _)) (fun _ h => nomatch h) hl).mono fun _ _ ⟨r, he, hr, hg⟩ => ⟨r, he, hr.off, hg⟩

end Go.Proofs.Ytjggiameajndgac
