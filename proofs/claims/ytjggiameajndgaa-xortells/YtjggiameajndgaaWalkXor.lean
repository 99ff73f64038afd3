/-
  What the program's xor returns: turn, Two, All, Even. Nothing old turns.
-/
import Derived.Test.YtjggiameajndgaaXorMath
import Derived.Test.YtjggiameajndgaaSlices
import Derived.Test.YtjggiameajndgaaWalkCell2
import Derived.Laws.BitsAllLaws
namespace Go.Proofs.Ytjggiameajndgaa
open Go.RowKit

/-- A row, its first k bytes taken together with those of b. -/
def turned (o b : List Int) (k : Nat) : List Int := (List.range 4).map fun i => if i < k then (((o.getD i 0).toNat ^^^ (b.getD i 0).toNat : Nat) : Int) else o.getD i 0

theorem turned_zero {o : List Int} (b : List Int) (h : o.length = 4) : turned o b 0 = o := by
  match o, h with
  | [o0, o1, o2, o3], _ => rfl

theorem turned_all (ls : List (List Int)) (b : List Int) : turned (xorAll ls) b 4 = xorAll (ls ++ [b]) := by
  simp only [turned, xorAll, xC_append, xC_one]
  rfl

theorem turned_getD {o b : List Int} {k : Nat} (hk : k < 4) : (turned o b k).getD k 0 = o.getD k 0 := by
  simp [turned, List.getD_eq_getElem?_getD, hk]

theorem turned_set {o b : List Int} {k : Nat} (hk : k < 4) : ((turned o b k).map (Value.int .u8)).set k (.int .u8 (((o.getD k 0).toNat ^^^ (b.getD k 0).toNat : Nat) : Int)) = (turned o b (k + 1)).map (Value.int .u8) := by
  match k, hk with
  | 0, _ => rfl
  | 1, _ => rfl
  | 2, _ => rfl
  | 3, _ => rfl

theorem Grow.set {w0 w : World} (h : Grow w0 w) {g k : Nat} (hg : w0.heap.size ≤ g) (u : Value) : Grow w0 (w.setCell ⟨g, k, none⟩ u) := Below.setCell h (p := ⟨g, k, none⟩) hg u
theorem Grow.drew1 {w0 w : World} (h : Grow w0 w) : Grow w0 w.drew := h.trans ⟨rfl, rfl, rfl, Nat.le_refl _, fun _ _ => rfl⟩

set_option maxRecDepth 20000 in
set_option maxHeartbeats 400000 in
theorem turn_any (g : Nat) (o : List Int) (v : Value) (b : List Int) (w0 w : World) (hG : Grow w0 w) (hg : w0.heap.size ≤ g) (ho : o.length = 4) (hoo : Octets o) (hb : Bs w0 v b) (hl : b.length = 4)
    (hr : w.heap[g]? = some (.cells (o.map (Value.int .u8)).toArray 5 (0, 0))) :
    Calls Try.prog 50 #[.slice (some ⟨g, 0, none⟩) 4 4, v] w fun e w' => e = .returned (.tuple #[]) ∧ Hid (w'.heap[g]? = some (.cells ((turned o b 4).map (Value.int .u8)).toArray 5 (0, 0))) ∧ Grow w0 w' := by
  obtain ⟨ao, cap, rfl, h1, h2, h3, h4, h5⟩ := hb
  unfold maxLen at h2
  obtain ⟨bb, off, rfl, hc⟩ := h5 (by omega)
  rw [hl] at hc h1 ⊢
  clear h5
  go_enter Try.func50, Try.ntmps50
  go_wp2
  go_loopw [10] (fun i wr => ∃ k : Nat, k ≤ 4 ∧ i = .int .i64 k ∧ Hid (wr.heap[g]? = some (.cells ((turned o b k).map (Value.int .u8)).toArray 5 (0, 0))) ∧ Grow w0 wr) (fun i _ => 4 - (intOf i).toNat)
  case atStart => exact ⟨0, by omega, rfl, by rw [turned_zero b ho]; exact hr, hG⟩
  case round =>
    obtain ⟨k, hk, rfl, HR, hgr⟩ := hrel
    by_cases hlt : k < 4
    · have hx := getD_bd hoo k
      have hy := getD_bd h4 k
      have hcb : wr.cell? ⟨bb, off + k, none⟩ = some (.int .u8 (b.getD k 0)) := (hgr.cell (p := ⟨bb, off + k, none⟩) (cell_lt (hc k hlt))).trans (hc k hlt)
      have hco : wr.cell? ⟨g, k, none⟩ = some (.int .u8 (o.getD k 0)) := by
        simp only [World.cell?, HR.out]
        rw [← turned_getD (b := b) hlt]
        simp [turned, List.getD_eq_getElem?_getD, hlt]
      have hfr : wr.frozen? ⟨g, k, none⟩ = false := frozen_of_row wr g k _ _ HR.out
      have HX := u8_xor (o.getD k 0) (b.getD k 0) (by omega) (by omega) (by omega) (by omega)
      have HS : Hid (∀ z : Int, z = (((o.getD k 0).toNat ^^^ (b.getD k 0).toNat : Nat) : Int) → (wr.setCell ⟨g, k, none⟩ (.int .u8 z)).heap[g]? = some (.cells ((turned o b (k + 1)).map (Value.int .u8)).toArray 5 (0, 0))) := by
        rintro z rfl
        rw [heap_setCell_same wr g k _ _ _ HR.out, ← turned_set hlt]
        simp
      generalize o.getD k 0 = x at *
      generalize b.getD k 0 = y at *
      go_wp2
      go_region
      go_wp2
      go_roundw
      case rel => exact ⟨k + 1, by omega, by go_num, HS.out _ rfl, (hgr.set hg _).drew1⟩
      case measure => simp [intOf]; omega
    · obtain rfl : k = 4 := by omega
      go_wp2
      go_end0
      exact ⟨rfl, HR, hgr⟩


theorem nought_octets : Octets [0, 0, 0, 0] := by intro x hx; simp at hx; omega

/-- A new slice that reads as l. -/
theorem NewBs.row {w : World} {e : TypeId} {g : Nat} {l : List Int} (hg : w.heap[g]? = some (.cells (l.map (Value.int .u8)).toArray e (0, 0))) (hl : l.length = 4) (ho : Octets l) : NewBs l (.slice (some ⟨g, 0, none⟩) 4 4) w :=
  ⟨g, 4, by rw [hl], Bs.row hg hl (by unfold maxLen; omega) ho⟩

set_option maxRecDepth 20000 in
set_option maxHeartbeats 400000 in
theorem two_any (va vb : Value) (a b : List Int) (w : World) (ha : Bs w va a) (hb : Bs w vb b) (hla : a.length = 4) (hlb : b.length = 4) :
    Calls Try.prog 31 #[va, vb] w fun e w' => ∃ r, e = .returned r ∧ NewBs (xorAll [a, b]) r w' ∧ Grow w w' := by
  have hmk := Try.made4 w
  have hg0 : Grow w (w.alloc (.cells #[.int .u8 0, .int .u8 0, .int .u8 0, .int .u8 0] 5)) := Grow.alloc _ _
  have hr0 : (w.alloc (.cells #[.int .u8 0, .int .u8 0, .int .u8 0, .int .u8 0] 5)).heap[w.heap.size]? = some (.cells (([0, 0, 0, 0] : List Int).map (Value.int .u8)).toArray 5 (0, 0)) := heap_alloc_new _ _
  have hoa := ha.octets
  have hob := hb.octets
  have h1 : Octets (xorAll [a]) := xorAll_octets (by simpa using hoa)
  have h2 : Octets (xorAll [a, b]) := xorAll_octets (by intro x hx; simp at hx; rcases hx with rfl | rfl <;> assumption)
  have e1 : Hid (turned [0, 0, 0, 0] a 4 = xorAll [a]) := turned_all [] a
  have e2 : Hid (turned (xorAll [a]) b 4 = xorAll [a, b]) := turned_all [a] b
  go_enter Try.func31, Try.ntmps31
  go_wp2_with fail
  refine (turn_any w.heap.size [0, 0, 0, 0] va a w _ hg0 (Nat.le_refl _) rfl nought_octets ha hla hr0).mono ?_
  rintro e w1 ⟨rfl, HR1, hg1⟩
  rw [e1.out] at HR1
  go_wp2_with fail
  refine (turn_any w.heap.size (xorAll [a]) vb b w _ hg1 (Nat.le_refl _) rfl h1 hb hlb HR1.out).mono ?_
  rintro e w2 ⟨rfl, HR2, hg2⟩
  rw [e2.out] at HR2
  go_wp2_with fail
  go_ret
  exact ⟨_, rfl, NewBs.row HR2.out rfl h2, hg2⟩

theorem take_blocks {ls : List (List Int)} (h : ∀ b ∈ ls, Octets b) (k : Nat) : ∀ b ∈ ls.take k, Octets b := fun b hb => h b (List.mem_of_mem_take hb)

theorem xorAll_take_succ (ls : List (List Int)) {k : Nat} (h : k < ls.length) : xorAll (ls.take k ++ [ls.getD k []]) = xorAll (ls.take (k + 1)) := by
  rw [List.take_add_one]
  simp [h, List.getD_eq_getElem?_getD]

set_option maxRecDepth 20000 in
set_option maxHeartbeats 400000 in
theorem all_row (v : Value) (ls : List (List Int)) (w : World) (h : Bss w v ls) (hl : ∀ b ∈ ls, b.length = 4) :
    Calls Try.prog 32 #[v] w fun e w' => e = .returned (.slice (some ⟨w.heap.size, 0, none⟩) 4 4) ∧ Hid (w'.heap[w.heap.size]? = some (.cells ((xorAll ls).map (Value.int .u8)).toArray 5 (0, 0))) ∧ Grow w w' := by
  have hoc := h.octets
  obtain ⟨ao, cap, rfl, h1, h2, h3, h4⟩ := h
  unfold maxLen at h2
  have hmk := Try.made4 w
  have hg0 : Grow w (w.alloc (.cells #[.int .u8 0, .int .u8 0, .int .u8 0, .int .u8 0] 5)) := Grow.alloc _ _
  have hr0 : (w.alloc (.cells #[.int .u8 0, .int .u8 0, .int .u8 0, .int .u8 0] 5)).heap[w.heap.size]? = some (.cells (([0, 0, 0, 0] : List Int).map (Value.int .u8)).toArray 5 (0, 0)) := heap_alloc_new _ _
  go_enter Try.func32, Try.ntmps32
  go_wp2
  go_loopw [9] (fun i wr => ∃ k : Nat, k ≤ ls.length ∧ i = .int .i64 k ∧ Hid (wr.heap[w.heap.size]? = some (.cells ((xorAll (ls.take k)).map (Value.int .u8)).toArray 5 (0, 0))) ∧ Grow w wr) (fun i _ => ls.length - (intOf i).toNat)
  case atStart => exact ⟨0, by omega, rfl, hr0, hg0⟩
  case round =>
    obtain ⟨k, hk, rfl, HR, hgr⟩ := hrel
    by_cases hlt : k < ls.length
    · obtain ⟨b, off, rfl, hc⟩ := h4 (by omega)
      obtain ⟨ak, ck, hck, hbk⟩ := Sl.bytesAt hc hlt
      have hlk : (ls.getD k []).length = 4 := hl _ (by simp [List.getD_eq_getElem?_getD, hlt])
      have hck' := (hgr.cell (p := ⟨b, off + k, none⟩) (cell_lt hck)).trans hck
      have e1 : Hid (turned (xorAll (ls.take k)) (ls.getD k []) 4 = xorAll (ls.take (k + 1))) := by rw [Hid, turned_all, xorAll_take_succ ls hlt]
      have ho1 := xorAll_octets (take_blocks hoc k)
      clear hc h4 hck
      generalize ls.getD k [] = bk at *
      rw [hlk] at hbk hck'
      go_wp2_with fail
      refine (turn_any w.heap.size (xorAll (ls.take k)) _ bk w _ hgr (Nat.le_refl _) rfl ho1 hbk hlk HR.out).mono ?_
      rintro e w1 ⟨rfl, HR1, hg1⟩
      rw [e1.out] at HR1
      go_wp2_with fail
      go_roundw
      case rel => exact ⟨k + 1, by omega, by go_num, HR1, hg1⟩
      case measure => simp [intOf]; omega
    · obtain rfl : k = ls.length := by omega
      rw [List.take_of_length_le (Nat.le_refl _)] at HR
      go_wp2
      go_ret
      exact ⟨rfl, HR, hgr⟩

theorem all_new (v : Value) (ls : List (List Int)) (w : World) (h : Bss w v ls) (hl : ∀ b ∈ ls, b.length = 4) :
    Calls Try.prog 32 #[v] w fun e w' => e = .returned (.slice (some ⟨w.heap.size, 0, none⟩) 4 4) ∧ NewBs (xorAll ls) (.slice (some ⟨w.heap.size, 0, none⟩) 4 4) w' ∧ Grow w w' :=
  (all_row v ls w h hl).mono fun _ _ ⟨he, HR, hg⟩ => ⟨he, NewBs.row HR.out rfl (xorAll_octets h.octets), hg⟩

theorem all_any (v : Value) (ls : List (List Int)) (w : World) (h : Bss w v ls) (hl : ∀ b ∈ ls, b.length = 4) :
    Calls Try.prog 32 #[v] w fun e w' => ∃ r, e = .returned r ∧ NewBs (xorAll ls) r w' ∧ Grow w w' :=
  (all_new v ls w h hl).mono fun _ _ ⟨he, hn, hg⟩ => ⟨_, he, hn, hg⟩

/-- Noughts. -/
def evenB (l : List Int) : Bool := l == [0, 0, 0, 0]

theorem even_no {ls : List (List Int)} {k : Nat} (hk : k < 4) (h : (xorAll ls).getD k 0 ≠ 0) : evenB (xorAll ls) = false := by
  rw [evenB, beq_eq_false_iff_ne]
  intro h0
  rw [h0] at h
  match k, hk with
  | 0, _ => exact h rfl
  | 1, _ => exact h rfl
  | 2, _ => exact h rfl
  | 3, _ => exact h rfl

theorem even_yes {ls : List (List Int)} (h : ∀ k, k < 4 → (xorAll ls).getD k 0 = 0) : evenB (xorAll ls) = true := by
  rw [evenB, beq_iff_eq]
  have h0 := h 0 (by omega)
  have h1 := h 1 (by omega)
  have h2 := h 2 (by omega)
  have h3 := h 3 (by omega)
  rw [xorAll_getD _ (by omega)] at h0 h1 h2 h3
  rw [xorAll, h0, h1, h2, h3]

set_option maxRecDepth 20000 in
set_option maxHeartbeats 400000 in
theorem even_any (v : Value) (ls : List (List Int)) (w : World) (h : Bss w v ls) (hl : ∀ b ∈ ls, b.length = 4) :
    Calls Try.prog 33 #[v] w fun e w' => e = .returned (.bool (evenB (xorAll ls))) ∧ Grow w w' := by
  have hoc := xorAll_octets h.octets
  go_enter Try.func33, Try.ntmps33
  go_wp2_with fail
  refine (all_any v ls w h hl).mono ?_
  rintro e w1 ⟨r, rfl, ⟨g, cap, rfl, hbs⟩, hg1⟩
  have hc := hbs.cells
  rw [xorAll_length] at hc hbs ⊢
  go_wp2
  go_loopw [8] (fun i wr => ∃ k : Nat, k ≤ 4 ∧ i = .int .i64 k ∧ Hid (∀ j, j < k → (xorAll ls).getD j 0 = 0) ∧ wr = w1) (fun i _ => 4 - (intOf i).toNat)
  case atStart => exact ⟨0, by omega, rfl, (fun j hj => by omega), rfl⟩
  case round =>
    obtain ⟨k, hk, rfl, HK, rfl⟩ := hrel
    by_cases hlt : k < 4
    · have hck := hc k hlt
      rw [Nat.zero_add] at hck
      have hx := getD_bd hoc k
      by_cases h0 : (xorAll ls).getD k 0 = 0
      · have HK' : Hid (∀ j, j < k + 1 → (xorAll ls).getD j 0 = 0) := fun j hj => by
          by_cases hjk : j = k
          · subst hjk; exact h0
          · exact HK.out j (by omega)
        generalize (xorAll ls).getD k 0 = x at *
        go_wp2
        go_roundw
        case rel => exact ⟨k + 1, by omega, by go_num, HK', trivial⟩
        case measure => simp [intOf]; omega
      · have HE : Hid (evenB (xorAll ls) = false) := even_no hlt h0
        generalize (xorAll ls).getD k 0 = x at *
        go_wp2
        go_ret
        exact ⟨ret_bool HE.out.symm, hg1⟩
    · have HE : Hid (evenB (xorAll ls) = true) := even_yes fun j hj => HK.out j (by omega)
      go_wp2
      go_ret
      exact ⟨ret_bool HE.out.symm, hg1⟩

end Go.Proofs.Ytjggiameajndgaa
