import Derived.Lib.SliceRun
import Derived.Test.YtjggiameajndgacJoin18
/-
  Chapter 5's statements, walked over what the program's model returns.
-/
namespace Go.Proofs.Ytjggiameajndgac
open Go.RowKit

/-- A slice of slices of bytes. -/
def AnBss (ls : List (List Int)) (v : Value) (w : World) : Prop := Bss w v ls
theorem AnBss.stable (ls : List (List Int)) : ∀ (v : Value) (x y : World), AnBss ls v x → Grow x y → AnBss ls v y := fun _ _ _ h hg => Bss.grow h hg

theorem refSame_eq (v u : Value) (a : List (List Int)) (w : World) (h : Bss w v a) (g : Bss w u a) : Calls Try.prog 25 #[v, u] w fun e w' => e = .returned (.bool true) ∧ Grow w w' := by
  have := refSame_any v u a a w h g
  rwa [show (a == a) = true from by simp] at this

end Go.Proofs.Ytjggiameajndgac

/-
  mhlaw8.ArrayTells returns true, whatever it is handed; nothing old turns.
-/
namespace Go.Proofs.Ytjggiameajndgac
open Go.RowKit

/-- An array. -/
def AnArr (a : ArrP) (v : Value) (w : World) : Prop := ArrV w v a
theorem AnArr.stable (a : ArrP) : ∀ (v : Value) (x y : World), AnArr a v x → Grow x y → AnArr a v y := fun _ _ _ h hg => ArrV.grow h hg

theorem same6_yes (va vb : Value) (a : ArrP) (w : World) (ha : ArrV w va a) (hb : ArrV w vb a) : Calls Try.prog 18 #[va, vb] w fun e w' => e = .returned (.bool true) ∧ Grow w w' := by
  have := refSame6_any va vb a a w ha hb
  rwa [sameB_iff.2 rfl] at this

theorem own_arr (v : Value) (a : ArrP) (w : World) (h : ArrV w v a) (ha : Whole a) (h8 : ∀ d s, (cellAt a d s).length ≤ 8) (hI : Few a) :
    Calls Try.prog 44 #[v] w fun e w' => ∃ r, e = .returned r ∧ AnArr a r w' ∧ Grow w w' :=
  (own_any v a w h ha h8 hI).mono fun _ _ ⟨_, _, _, he, hO, hg⟩ => ⟨_, he, hO.arr, hg⟩
theorem write_arr (v nv : Value) (a : ArrP) (s : Nat) (cs : List (List Int)) (n : Int) (w : World) (h : ArrV w v a) (ha : Whole a) (h8 : ∀ d s, (cellAt a d s).length ≤ 8) (hI : Few a) (hi : IntentV w nv ((s : Int), cs)) (hs3 : s < 3) (hc4 : cs.length = 4) (hc8 : ∀ b ∈ cs, b.length ≤ 8) :
    Calls Try.prog 85 #[v, nv, .int .i64 n] w fun e w' => ∃ r, e = .returned r ∧ AnArr (writeL a ((s : Int), cs) n) r w' ∧ Grow w w' :=
  (write_any v nv a s cs n w h ha h8 hI hi hs3 hc4 hc8).mono fun _ _ ⟨_, _, _, he, hO, hg⟩ => ⟨_, he, hO.arr, hg⟩
theorem mount_arr (v : Value) (a : ArrP) (w : World) (h : ArrV w v a) (ha : Whole a) (h8 : ∀ d s, (cellAt a d s).length ≤ 8) (hI : Fewer a) :
    Calls Try.prog 86 #[v] w fun e w' => ∃ r, e = .returned r ∧ AnArr (mountL a) r w' ∧ Grow w w' :=
  (mount_any v a w h ha h8 hI).mono fun _ _ ⟨_, _, _, he, hO, hg⟩ => ⟨_, he, hO.arr, hg⟩

/-- What an array that came of the first writes of an intent is. -/
theorem writeL_few {a : ArrP} (ha : Arr a) (s : Nat) (cs : List (List Int)) (hs : s < 3) (hc4 : cs.length = 4) (hc8 : ∀ b ∈ cs, b.length ≤ 8) (n : Int) :
    Whole (writeL a ((s : Int), cs) n) ∧ (∀ d s', (cellAt (writeL a ((s : Int), cs) n) d s').length ≤ 8) ∧ Fewer (writeL a ((s : Int), cs) n) := by
  have hw := writeTo_whole ha.whole ((s : Int), cs)
  have hp : ∀ k, k ≤ 4 → Arr (putTo a cs s k) := fun k hk => putTo_arr ha hc8 hs k hk
  have hcell : ∀ k, k ≤ 6 → ∀ d s', (cellAt (writeTo a ((s : Int), cs) k) d s').length ≤ 8 := fun k hk d s' => by
    by_cases h0 : k = 0
    · subst h0; exact ha.short d s'
    by_cases h6 : k = 6
    · subst h6
      have : (writeTo a ((s : Int), cs) 6).ds = (putTo a cs s 4).ds := by rw [six_eq]; rfl
      rw [cellAt, this]
      exact (hp 4 (by omega)).short d s'
    · obtain ⟨j, rfl⟩ : ∃ j, k = j + 1 := ⟨k - 1, by omega⟩
      have : (writeTo a ((s : Int), cs) (j + 1)).ds = (putTo a cs s j).ds := writeTo_mid_ds a ((s : Int), cs) j (by omega)
      rw [cellAt, this]
      exact (hp j (by omega)).short d s'
  have h6 := many6_le n
  refine ⟨hw _, hcell _ h6, ?_⟩
  show Fewer (writeTo a ((s : Int), cs) (many6 n))
  by_cases h0 : many6 n = 0
  · rw [h0]; exact .inl ha.none
  by_cases h6' : many6 n = 6
  · rw [h6']; exact .inl rfl
  · exact .inr ⟨s, cs, writeTo_is_mid a _ _ (by omega) (by omega), hs, hc4, hc8⟩

end Go.Proofs.Ytjggiameajndgac

/-
  Rows of bytes' slices of the call's own, the bytes of each slice in a block of their own. What the program's array.ownCells returns, and what array.Own returns of an array without intents: no two cells share bytes.
-/
namespace Go.Proofs.Ytjggiameajndgac
open Go.RowKit

theorem own_kb {w w' : World} {lo n : Nat} {u : Value} {xs : List Value} (h : w.ownsRow lo 5 1 u n xs) (hk : Kb w w') : w'.ownsRow lo 5 1 u n xs := by
  refine ⟨h.1, ?_⟩
  rcases h.2 with h2 | ⟨g, cap, cur, hv, hb, hh, hr⟩
  · exact .inl h2
  · exact .inr ⟨g, cap, cur, hv, hb, hk g cur hh, hr⟩

theorem own_low {w : World} {lo lo' n : Nat} {e : TypeId} {u : Value} {xs : List Value} (h : w.ownsRow lo e 1 u n xs) (hl : lo' ≤ lo) : w.ownsRow lo' e 1 u n xs :=
  ⟨h.1, h.2.imp id fun ⟨g, cap, cur, k1, k2, k3⟩ => ⟨g, cap, cur, k1, Nat.le_trans hl k2, k3⟩⟩

/-- A row in block b of these slices of bytes, that read as these, each in a block of its own, behind lo. -/
structure SRow (lo b : Nat) (ls : List (List Int)) (us : List Value) (w : World) : Prop where
  len : us.length = ls.length
  row : w.heap[b]? = some (.cells us.toArray 52 (0, 0))
  own : ∀ (i : Nat) u x, us[i]? = some u → ls[i]? = some x → w.ownsRow lo 5 1 u x.length (x.map (Value.int .u8)) ∧ Octets x
  apart : ∀ (i j : Nat) u v g, us[i]? = some u → us[j]? = some v → u.ownBlock = some g → v.ownBlock = some g → i = j

theorem SRow.drow {lo b : Nat} {ls : List (List Int)} {us : List Value} {w : World} (h : SRow lo b ls us w) : DRow b ls w :=
  ⟨us, h.len, h.row, fun i u x hu hx => Tb.own (h.own i u x hu hx).1 (h.own i u x hu hx).2⟩

theorem SRow.kept {lo b : Nat} {ls : List (List Int)} {us : List Value} {w w' : World} (h : SRow lo b ls us w) (hk : Kb w w') (hb : w'.heap[b]? = w.heap[b]?) : SRow lo b ls us w' :=
  ⟨h.len, hb.trans h.row, fun i u x hu hx => ⟨own_kb (h.own i u x hu hx).1 hk, (h.own i u x hu hx).2⟩, h.apart⟩

theorem SRow.grow {lo b : Nat} {ls : List (List Int)} {us : List Value} {w w' : World} (h : SRow lo b ls us w) (hg : Grow w w') : SRow lo b ls us w' := h.kept hg.kb (hg.block b h.drow.lt)

theorem SRow.low {lo lo' b : Nat} {ls : List (List Int)} {us : List Value} {w : World} (h : SRow lo b ls us w) (hl : lo' ≤ lo) : SRow lo' b ls us w :=
  ⟨h.len, h.row, fun i u x hu hx => ⟨own_low (h.own i u x hu hx).1 hl, (h.own i u x hu hx).2⟩, h.apart⟩

/-- Where a slice of the row lies. -/
theorem SRow.at {lo b : Nat} {ls : List (List Int)} {us : List Value} {w : World} (h : SRow lo b ls us w) {u : Value} {g : Nat} (hu : u ∈ us) (hg : u.ownBlock = some g) : lo ≤ g ∧ g < w.heap.size := by
  obtain ⟨i, hi, rfl⟩ := List.mem_iff_getElem.1 hu
  exact (h.own i us[i] (ls[i]'(by have := h.len; omega)) (by simp [hi]) (by simp [show i < ls.length by have := h.len; omega])).1.lt g hg

theorem kb_by {w w' : World} {g : Option Nat} (hg : ByT g w w') : ∀ (k : Nat) cs t, t ≠ 41 → w.heap[k]? = some (.cells cs t (0, 0)) → w'.heap[k]? = some (.cells cs t (0, 0)) := fun k cs t ht hk => by
  refine (hg.1.block k (heap_lt hk) (fun e => ?_)).trans hk
  obtain ⟨cur, hc⟩ := hg.2 k e.symm
  rw [hk] at hc
  injection hc with hc
  injection hc with _ hc _
  exact ht hc

theorem SRow.by {lo b : Nat} {ls : List (List Int)} {us : List Value} {w w' : World} {g : Option Nat} (h : SRow lo b ls us w) (hg : ByT g w w') : SRow lo b ls us w' :=
  h.kept (fun k cs hk => kb_by hg k cs _ (by decide) hk) ((kb_by hg b _ _ (by decide) h.row).trans h.row.symm)

theorem SRow.fill {lo b : Nat} {ls : List (List Int)} {us : List Value} {w0 w : World} (h : SRow lo b ls us w0) (hg : Grow w0 w) (k : Nat) {u : Value} {x : List Int} (hu : w.ownsRow w0.heap.size 5 1 u x.length (x.map (Value.int .u8))) (ho : Octets x) (hlo : lo ≤ w0.heap.size) :
    SRow lo b (ls.set k x) (us.set k u) (w.setCell ⟨b, k, none⟩ u) := by
  have h1 := h.grow hg
  have hkb := h1.drow.kbset k u
  have hold : ∀ (i : Nat) v g, us[i]? = some v → v.ownBlock = some g → g < w0.heap.size := fun i v g hv hb => (h.at (List.mem_of_getElem? hv) hb).2
  have hnew : ∀ g, u.ownBlock = some g → w0.heap.size ≤ g := fun g hb => (hu.lt g hb).1
  refine ⟨by simp [h.len], ?_, fun i q y hq hy => ?_, fun i j q v g hq hv hqg hvg => ?_⟩
  · rw [heap_setCell_same w b k _ _ _ h1.row]
    simp
  · by_cases hik : i = k
    · subst hik
      have hlt : i < us.length := by
        by_cases hlt : i < us.length
        · exact hlt
        · rw [List.getElem?_eq_none (by simp; omega)] at hq; cases hq
      rw [List.getElem?_set_self hlt] at hq
      rw [List.getElem?_set_self (by have := h.len; omega)] at hy
      cases hq
      cases hy
      exact ⟨own_low (own_kb hu hkb) hlo, ho⟩
    · rw [List.getElem?_set_ne (fun e => hik e.symm)] at hq hy
      exact ⟨own_kb (h1.own i q y hq hy).1 hkb, (h1.own i q y hq hy).2⟩
  · have hset : ∀ (i : Nat) q, (us.set k u)[i]? = some q → (i = k ∧ q = u) ∨ (i ≠ k ∧ us[i]? = some q) := fun i q hq => by
      by_cases hik : i = k
      · subst hik
        have hlt : i < us.length := by
          by_cases hlt : i < us.length
          · exact hlt
          · rw [List.getElem?_eq_none (by simp; omega)] at hq; cases hq
        rw [List.getElem?_set_self hlt] at hq
        exact .inl ⟨rfl, (Option.some.inj hq).symm⟩
      · rw [List.getElem?_set_ne (fun e => hik e.symm)] at hq
        exact .inr ⟨hik, hq⟩
    rcases hset i q hq with ⟨e1, e2⟩ | ⟨hi, hq'⟩
    · rcases hset j v hv with ⟨e3, e4⟩ | ⟨hj, hv'⟩
      · rw [e1, e3]
      · have := hold j v g hv' hvg
        have := hnew g (by rw [← e2]; exact hqg)
        omega
    · rcases hset j v hv with ⟨e3, e4⟩ | ⟨hj, hv'⟩
      · have := hold i q g hq' hqg
        have := hnew g (by rw [← e4]; exact hvg)
        omega
      · exact h.apart i j q v g hq' hv' hqg hvg

theorem SRow.made (w : World) (n : Nat) : SRow w.heap.size w.heap.size (List.replicate n []) (List.replicate n (.slice none 0 0)) (w.alloc (.cells (nilsN n) 52)) := by
  refine ⟨by simp, heap_alloc_new w _, fun i u x hu hx => ?_, fun i j u v g hu hv hug => ?_⟩
  · have h1 := List.mem_of_getElem? hu
    have h2 := List.mem_of_getElem? hx
    simp only [List.mem_replicate] at h1 h2
    rw [h1.2, h2.2]
    exact ⟨World.ownsRow_nil _ _ _ _, fun x hx => by simp at hx⟩
  · have h1 := List.mem_of_getElem? hu
    simp only [List.mem_replicate] at h1
    rw [h1.2] at hug
    cases hug

set_option maxRecDepth 20000 in
set_option maxHeartbeats 1600000 in
theorem ownCells_sep (v : Value) (ls : List (List Int)) (w : World) (h : Bss w v ls) (hn1 : 3 ≤ ls.length) (hn2 : ls.length ≤ 4) (h8 : ∀ b ∈ ls, b.length ≤ 8) :
    Calls Try.prog 74 #[v] w fun e w' => e = .returned (.slice (some ⟨w.heap.size, 0, none⟩) ls.length ls.length) ∧ (∃ us, SRow w.heap.size w.heap.size ls us w') ∧ Grow w w' := by
  obtain ⟨ao, cap, rfl, h1, h2, h3, h4⟩ := h
  unfold maxLen at h2
  obtain ⟨b, off, rfl, hc⟩ := h4 (by omega)
  have HK : Hid (∀ k, k < ls.length → ∃ ak nk ck, w.cell? ⟨b, off + k, none⟩ = some (.slice ak nk ck) ∧ Bs w (.slice ak nk ck) (ls.getD k [])) := fun k hk => by
    obtain ⟨ak, ck, hck, hbk⟩ := Sl.bytesAt hc (k := k) hk
    exact ⟨ak, _, ck, hck, hbk⟩
  have H8 : Hid (∀ k, (ls.getD k []).length ≤ 8) := fun k => by
    by_cases hk : k < ls.length
    · exact h8 _ (getD_mem hk)
    · rw [List.getD_eq_getElem?_getD, List.getElem?_eq_none (by omega)]; simp
  have hmk := Try.madeN w ls.length (by omega)
  have HF : Hid (SRow w.heap.size w.heap.size (fillTo ls 0) (List.replicate ls.length (.slice none 0 0)) (w.alloc (.cells (nilsN ls.length) 52))) := by rw [fillTo_zero]; exact SRow.made w _
  have HS : Hid (∀ k, k < ls.length → (fillTo ls k).set k (ls.getD k []) = fillTo ls (k + 1)) := fun k hk => fillTo_set ls hk
  have HL : Hid (∀ k, k ≤ ls.length → (fillTo ls k).length = ls.length) := fun k hk => fillTo_length ls hk
  have HE : Hid (fillTo ls ls.length = ls) := fillTo_all ls
  have hgA : Grow w (w.alloc (.cells (nilsN ls.length) 52)) := Grow.alloc _ _
  clear hc h4 h3 h8
  generalize ls.length = n at *
  go_enter Try.func74, Try.ntmps74
  go_wp2
  go_loopw [10] (fun i wr => ∃ (k : Nat) (us : List Value), k ≤ n ∧ i = .int .i64 k ∧ Hid (SRow w.heap.size w.heap.size (fillTo ls k) us wr) ∧ Grow w wr) (fun i _ => n - (intOf i).toNat)
  case atStart => exact ⟨0, _, by omega, rfl, HF, hgA⟩
  case round =>
    obtain ⟨k, us, hk, rfl, HR, hgr⟩ := hrel
    clear HF hmk hgA
    by_cases hlt : k < n
    · obtain ⟨ak, nk, ck, hck, hbk⟩ := HK.out k hlt
      have hoc := hbk.octets
      have hC := bytesClone_any (.slice ak nk ck) (ls.getD k []) wr (hbk.grow hgr) (by have := H8.out k; omega)
      have hck' := hgr.at hck
      clear hck hbk
      go_wp2_with fail
      refine hC.mono ?_
      rintro e w1 ⟨r, rfl, hr, hg1⟩
      have hTb := Tb.own hr hoc
      obtain ⟨ar, nr, cr, rfl⟩ := hTb.here.form
      have hR1 := HR.out.drow.grow hg1
      have hgr1 := hgr.trans hg1
      have hlen := HL.out k hk
      obtain ⟨⟨u0, hu0⟩, hf0⟩ := hR1.at (k := k) (by omega)
      have hR2 := HR.out.fill hg1 k hr hoc hgr.size
      rw [HS.out k hlt] at hR2
      have HR2 : Hid (SRow _ _ _ _ _) := hR2
      have hg2 := hgr1.set (k := k) (Nat.le_refl w.heap.size) (.slice ar nr cr)
      clear hC hr hTb HR hR1 hR2 hlen hoc
      go_wp2
      go_roundw
      case rel => first | exact ⟨k + 1, _, by omega, by go_num, HR2, hg2⟩ | ((repeat apply Exists.intro); exact ⟨⟨k + 1, _, by omega, by go_num, HR2, hg2⟩, rfl⟩)
      case measure => simp [intOf]; omega
    · have HN : Hid (k = n) := by rw [Hid]; omega
      have hno : ¬ ((k : Int) < (n : Int)) := by omega
      go_wp2
      go_ret
      refine ⟨rfl, ?_, hgr⟩
      have := HR.out
      rw [HN.out, HE.out] at this
      exact ⟨_, this⟩

/-- Disks whose rows' slices of bytes lie in blocks of their own: in row i these. -/
structure SDs (B : Nat) (bs : List Nat) (ds : List (List (List Int))) (U : Nat → List Value) (w : World) : Prop where
  rows : ∀ (i : Nat) b l, bs[i]? = some b → ds[i]? = some l → SRow B b l (U i) w
  apart : ∀ (i j : Nat) u v g, i < bs.length → j < bs.length → u ∈ U i → v ∈ U j → u.ownBlock = some g → v.ownBlock = some g → i = j

theorem SDs.nil (B : Nat) (U : Nat → List Value) (w : World) : SDs B [] [] U w := ⟨fun i b l hb => by simp at hb, fun i j u v g hi => by simp at hi⟩
theorem SDs.grow {B : Nat} {bs : List Nat} {ds : List (List (List Int))} {U : Nat → List Value} {w w' : World} (h : SDs B bs ds U w) (hg : Grow w w') : SDs B bs ds U w' := ⟨fun i b l hb hl => (h.rows i b l hb hl).grow hg, h.apart⟩
theorem SDs.k3 {B : Nat} {bs : List Nat} {ds : List (List (List Int))} {U : Nat → List Value} {w w' : World} (h : SDs B bs ds U w) (hk : K3 w w') : SDs B bs ds U w' :=
  ⟨fun i b l hb hl => (h.rows i b l hb hl).kept hk.kb ((hk b _ _ (.inr (.inl rfl)) (h.rows i b l hb hl).row).trans (h.rows i b l hb hl).row.symm), h.apart⟩
theorem SDs.by {B : Nat} {bs : List Nat} {ds : List (List (List Int))} {U : Nat → List Value} {w w' : World} {g : Option Nat} (h : SDs B bs ds U w) (hg : ByT g w w') : SDs B bs ds U w' := ⟨fun i b l hb hl => (h.rows i b l hb hl).by hg, h.apart⟩
theorem SDs.low {B B' : Nat} {bs : List Nat} {ds : List (List (List Int))} {U : Nat → List Value} {w : World} (h : SDs B bs ds U w) (hb : B' ≤ B) : SDs B' bs ds U w := ⟨fun i b l h1 h2 => (h.rows i b l h1 h2).low hb, h.apart⟩

/-- A row more: all that was there lay ahead of n. -/
theorem SDs.push {B n : Nat} {bs : List Nat} {ds : List (List (List Int))} {U : Nat → List Value} {w : World} {r : Nat} {l : List (List Int)} {us : List Value} (hlen : bs.length = ds.length) (h : SDs B bs ds U w) (hold : ∀ (i : Nat) u g, i < bs.length → u ∈ U i → u.ownBlock = some g → g < n) (hr : SRow n r l us w) (hB : B ≤ n) :
    SDs B (bs ++ [r]) (ds ++ [l]) (fun i => if i = bs.length then us else U i) w := by
  refine ⟨fun i b m hb hm => ?_, fun i j u v g hi hj hu hv hug hvg => ?_⟩
  · by_cases hi : i < bs.length
    · rw [List.getElem?_append_left hi] at hb
      rw [List.getElem?_append_left (by omega)] at hm
      have := h.rows i b m hb hm
      simpa only [if_neg (show i ≠ bs.length by omega)] using this
    · rw [List.getElem?_append_right (by omega)] at hb
      rw [List.getElem?_append_right (by omega)] at hm
      have h0 : i - bs.length = 0 := by
        by_cases h0 : i - bs.length = 0
        · exact h0
        · rw [List.getElem?_eq_none (by simp; omega)] at hb; cases hb
      rw [h0] at hb
      rw [← hlen, h0] at hm
      simp at hb hm
      subst hb hm
      have hi' : i = bs.length := by omega
      simpa only [if_pos hi'] using hr.low hB
  · simp only [List.length_append, List.length_singleton] at hi hj
    have hnew : ∀ u g, u ∈ us → u.ownBlock = some g → n ≤ g := fun u g hu hg => (hr.at hu hg).1
    by_cases h1 : i = bs.length
    · rw [if_pos h1] at hu
      by_cases h2 : j = bs.length
      · omega
      · rw [if_neg h2] at hv
        have := hold j v g (by omega) hv hvg
        have := hnew u g hu hug
        omega
    · rw [if_neg h1] at hu
      by_cases h2 : j = bs.length
      · rw [if_pos h2] at hv
        have := hold i u g (by omega) hu hug
        have := hnew v g hv hvg
        omega
      · rw [if_neg h2] at hv
        exact h.apart i j u v g (by omega) (by omega) hu hv hug hvg

/-- Where a slice of the rows lies. -/
theorem SDs.at {B : Nat} {bs : List Nat} {ds : List (List (List Int))} {U : Nat → List Value} {w : World} (h : SDs B bs ds U w) (hlen : bs.length = ds.length) {i : Nat} {u : Value} {g : Nat} (hi : i < bs.length) (hu : u ∈ U i) (hg : u.ownBlock = some g) : B ≤ g ∧ g < w.heap.size :=
  (h.rows i bs[i] (ds[i]'(by omega)) (by simp [hi]) (by simp [show i < ds.length by omega])).at hu hg

end Go.Proofs.Ytjggiameajndgac

/-
  What the program's array.Own returns of an array without intents: an array of the call's own, no two cells of which share bytes. Nothing old turns.
-/
namespace Go.Proofs.Ytjggiameajndgac
open Go.RowKit

/-- A new row, behind n, that reads as these, its bytes apart. -/
def NewRowS (n : Nat) (cs : List (List Int)) (v : Value) (w : World) : Prop := ∃ r us, n ≤ r ∧ v = .slice (some ⟨r, 0, none⟩) cs.length cs.length ∧ SRow n r cs us w
theorem NewRowS.stable {n : Nat} (cs : List (List Int)) : ∀ (v : Value) (x y : World), NewRowS n cs v x → Grow x y → NewRowS n cs v y := fun _ _ _ ⟨r, us, h1, h2, h3⟩ hg => ⟨r, us, h1, h2, h3.grow hg⟩

/-- A slice of one row, behind n, that reads as these. -/
def OneRowS (n : Nat) (cs : List (List Int)) (v : Value) (w : World) : Prop := ∃ H r us, v = .slice (some ⟨H, 0, none⟩) 1 1 ∧ w.heap[H]? = some (.cells #[.slice (some ⟨r, 0, none⟩) cs.length cs.length] 41 (0, 0)) ∧ n ≤ H ∧ n ≤ r ∧ SRow n r cs us w
theorem OneRowS.stable {n : Nat} (cs : List (List Int)) : ∀ (v : Value) (x y : World), OneRowS n cs v x → Grow x y → OneRowS n cs v y := fun _ _ _ ⟨H, r, us, h1, h2, h3, h4, h5⟩ hg => ⟨H, r, us, h1, hg.block' h2, h3, h4, h5.grow hg⟩

/-- Disks that have one row more, behind n. -/
def MoreDS (B n : Nat) (bs : List Nat) (ds : List (List (List Int))) (v : Value) (w : World) : Prop := ∃ r g c U, v = .slice (some ⟨g, 0, none⟩) ds.length c ∧ n ≤ r ∧ DRows B (bs ++ [r]) ds w v ∧ SDs B (bs ++ [r]) ds U w
theorem MoreDS.stable {B n : Nat} {bs : List Nat} (ds : List (List (List Int))) : ∀ (v : Value) (x y : World), MoreDS B n bs ds v x → Grow x y → MoreDS B n bs ds v y := fun _ _ _ ⟨r, g, c, U, h1, h2, h3, h4⟩ hg => ⟨r, g, c, U, h1, h2, h3.grow hg, h4.grow hg⟩

set_option maxRecDepth 20000 in
set_option maxHeartbeats 6400000 in
theorem own_sep (v : Value) (a : ArrP) (w : World) (h : ArrV w v a) (ha : Whole a) (h8 : ∀ d s, (cellAt a d s).length ≤ 8) (hI : a.is = []) :
    Calls Try.prog 44 #[v] w fun e w' => ∃ bs U dv iv, e = .returned (.agg #[dv, iv]) ∧ OwnA w.heap.size bs w' dv iv a ∧ SDs w.heap.size bs a.ds U w' ∧ Grow w w' := by
  obtain ⟨i1, hj, hy0, hy1, hy2⟩ := info_parts Try.infoD
  obtain ⟨dv0, iv0, rfl, hd, hi⟩ := h
  obtain ⟨ad, cd, rfl, hd1, hd2⟩ := Sl.form' hd
  obtain ⟨ai, ci, rfl, hi1, hi2⟩ := hi.form
  have hl4 := ha.1
  have HK : Hid (∀ k, k < 4 → ∃ b off ak ck, ad = some ⟨b, off, none⟩ ∧ w.cell? ⟨b, off + k, none⟩ = some (.slice ak 3 ck) ∧ Bss w (.slice ak 3 ck) (a.ds.getD k []) ∧ (a.ds.getD k []).length = 3 ∧ ∀ b ∈ a.ds.getD k [], b.length ≤ 8) := fun k hk => by
    have hk' : k < a.ds.length := by omega
    have h3 : (a.ds.getD k []).length = 3 := ha.2 _ (by simp [List.getD_eq_getElem?_getD, hk'])
    obtain ⟨b, off, ak, ck, e1, e2, e3⟩ := Sl.elems hd (k := k) hk'
    rw [h3] at e2 e3
    refine ⟨b, off, ak, ck, e1, e2, e3, h3, fun c hc => ?_⟩
    obtain ⟨s, hs, rfl⟩ := List.mem_iff_getElem.1 hc
    have := h8 k s
    rw [cellAt, List.getD_eq_getElem?_getD, List.getElem?_eq_getElem hs] at this
    exact this
  obtain ⟨W, hW⟩ : ∃ W, W = ((w.alloc (.cells #[.slice ad a.ds.length cd, .slice ai a.is.length ci] 26)).alloc (.cells #[.slice none 0 0, .slice none 0 0] 26)).alloc (.cells #[.slice none 0 0, .slice none 0 0] 26) := ⟨_, rfl⟩
  have hgW : Grow w W := by rw [hW]; exact ((Grow.alloc _ _).trans (Grow.alloc _ _)).trans (Grow.alloc _ _)
  have HB0 : Hid (Boxes3 w.heap.size (.slice ad a.ds.length cd) (.slice ai a.is.length ci) (.slice none 0 0) (.slice none 0 0) (.slice none 0 0) (.slice none 0 0) W) := by rw [Hid, hW]; exact heap3 w _ _ _
  have HT : Hid (∀ k, k < 4 → a.ds.take k ++ [a.ds.getD k []] = a.ds.take (k + 1)) := fun k hk => take_push a.ds [] (by omega)
  have HTL : Hid (∀ k, k ≤ 4 → (a.ds.take k).length = k) := fun k hk => by rw [Hid, List.length_take] at *; omega
  have a00 := two_at0 HB0.out.1
  have Hi : Hid (Its w (.slice ai a.is.length ci) a.is) := hi
  have HA : Hid (Whole a) := ha
  have HI : Hid (a.is = []) := hI
  clear hi h8 hd hI ha
  rw [hl4] at hW a00 HB0 ⊢
  go_enter Try.func44, Try.ntmps44
  go_wp2
  rw [← hW]
  clear hW
  go_loopw [11] (fun q wr => ∃ (k : Nat) (dv : Value) (bs : List Nat) (U : Nat → List Value), k ≤ 4 ∧ q = .int .i64 k ∧ (∃ x1 x2 x3, dv = .slice x1 x2 x3) ∧ Hid (Boxes3 w.heap.size (.slice ad 4 cd) (.slice ai a.is.length ci) (.slice none 0 0) (.slice none 0 0) dv (.slice none 0 0) wr) ∧ Hid (DRows (w.heap.size + 3) bs (a.ds.take k) wr dv ∧ SDs (w.heap.size + 3) bs (a.ds.take k) U wr) ∧ Grow w wr) (fun q _ => 4 - (intOf q).toNat)
  case atStart => exact ⟨0, _, [], fun _ => [], by omega, rfl, ⟨_, _, _, rfl⟩, HB0, by rw [List.take_zero]; exact ⟨DRows.nil _ _, SDs.nil _ _ _⟩, hgW⟩
  case round =>
    obtain ⟨k, dv, bs, U, hk, rfl, ⟨x1, x2, x3, rfl⟩, HB, HR, hgr⟩ := hrel
    clear HB0 a00
    by_cases hlt : k < 4
    · obtain ⟨b, off, ak, ck, rfl, hck, hbk, hk3, hk8⟩ := HK.out k hlt
      have hck' := hgr.at hck
      have HT1 := HT.out k hlt
      obtain ⟨L, hLe⟩ : ∃ L, L = a.ds.getD k [] := ⟨_, rfl⟩
      rw [← hLe] at hbk hk3 hk8 HT1
      clear hLe
      have HL : Hid (Bss w (.slice ak 3 ck) L ∧ L.length = 3 ∧ ∀ b ∈ L, b.length ≤ 8) := ⟨hbk, hk3, hk8⟩
      have HT2 : Hid (a.ds.take k ++ [L] = a.ds.take (k + 1)) := HT1
      have HG : Hid (∀ j, (Value.slice x1 x2 x3).ownBlock = some j → w.heap.size + 3 ≤ j ∧ j < wr.heap.size) := fun j hj => HR.out.1.own.lt j hj
      have HDl := HTL.out k hk
      have o0 := two_at0 HB.out.2.2
      have hF0 : ∀ x : World, World.grownBy x x (Value.slice x1 x2 x3).ownBlock := fun x => (Grow.refl x).by _
      have hF1 : ∀ x y z : World, World.grownBy x y (Value.slice x1 x2 x3).ownBlock → Grow y z → World.grownBy x z (Value.slice x1 x2 x3).ownBlock := fun x y z h1 h2 => h1.trans (h2.by _)
      have hF2 : ∀ x y z : World, World.grownBy x y (Value.slice x1 x2 x3).ownBlock → ByT (Value.slice x1 x2 x3).ownBlock y z → World.grownBy x z (Value.slice x1 x2 x3).ownBlock := fun x y z h1 h2 => h1.trans h2.1
      have HGw : Hid (∀ x : World, World.grownBy { wr with drawn := wr.drawn + 1 } x (Value.slice x1 x2 x3).ownBlock → Grow w x) := fun x hx => (hgr.trans (Grow.drewN wr 1)).grown hx (fun j hj => by have := (HG.out j hj).1; omega)
      have stabT : ∀ (v : Value) (x y : World), NewRowS wr.heap.size L v x → ByT (Value.slice x1 x2 x3).ownBlock x y → NewRowS wr.heap.size L v y := fun v x y ⟨r, us, h1, h2, h3⟩ hg => ⟨r, us, h1, h2, h3.by hg⟩
      have stabT2 : ∀ (v : Value) (x y : World), OneRowS wr.heap.size L v x → ByT (Value.slice x1 x2 x3).ownBlock x y → OneRowS wr.heap.size L v y := fun v x y ⟨H, r, us, h1, h2, h3, h4, h5⟩ hg => ⟨H, r, us, h1, (hg.1.block H (heap_lt h2) (fun e => by have := (HG.out H e.symm).2; omega)).trans h2, h3, h4, h5.by hg⟩
      have hdk : decide ((k : Int) < 4) = true := by simp; omega
      clear hbk hk3 hk8 hck HT1
      go_wp2
      refine wp_region_onelast 5 [_, _, _, _, _, _, _] _ rfl Grow (ByT (Value.slice x1 x2 x3).ownBlock) (fun x y => World.grownBy x y (Value.slice x1 x2 x3).ownBlock) [(fun x y => World.grownBy x y (Value.slice x1 x2 x3).ownBlock, Grow), (fun x y => World.grownBy x y (Value.slice x1 x2 x3).ownBlock, Grow), (fun x y => World.grownBy x y (Value.slice x1 x2 x3).ownBlock, Grow), (fun x y => World.grownBy x y (Value.slice x1 x2 x3).ownBlock, Grow), (fun x y => World.grownBy x y (Value.slice x1 x2 x3).ownBlock, Grow), (Grow, ByT (Value.slice x1 x2 x3).ownBlock), (fun x y => World.grownBy x y (Value.slice x1 x2 x3).ownBlock, Grow)] [IsV (.pointer (some ⟨w.heap.size + 2, 0, none⟩)), IsV (.slice x1 x2 x3), IsV (.slice ak 3 ck), NewRowS wr.heap.size L, OneRowS wr.heap.size L, MoreDS (w.heap.size + 3) wr.heap.size bs (a.ds.take (k + 1)), IsV (.pointer (some ⟨w.heap.size + 2, 0, none⟩))] rfl (by kernel_rfl) (by kernel_rfl) (by kernel_rfl) rfl Grow.refl (fun _ _ _ => Grow.trans) (hF0 _) (hF1 _) (hF2 _) ?_ ?_ ?_ ?_
      · repeat (refine List.forall_mem_cons.2 ⟨by first | exact IsV.stable _ | exact MoreDS.stable _ | exact NewRowS.stable _ | exact OneRowS.stable _, ?_⟩)
        exact fun R hR => nomatch hR
      · skip
        refine ⟨by first | exact fun _ _ _ h _ => h | exact stabT | exact stabT _ | exact stabT2 | exact stabT2 _ | exact stabT3 | exact stabT4 | exact fun _ _ _ _ _ => trivial, ?_⟩
        refine ⟨by first | exact fun _ _ _ h _ => h | exact stabT | exact stabT _ | exact stabT2 | exact stabT2 _ | exact stabT3 | exact stabT4 | exact fun _ _ _ _ _ => trivial, ?_⟩
        refine ⟨by first | exact fun _ _ _ h _ => h | exact stabT | exact stabT _ | exact stabT2 | exact stabT2 _ | exact stabT3 | exact stabT4 | exact fun _ _ _ _ _ => trivial, ?_⟩
        refine ⟨by first | exact fun _ _ _ h _ => h | exact stabT | exact stabT _ | exact stabT2 | exact stabT2 _ | exact stabT3 | exact stabT4 | exact fun _ _ _ _ _ => trivial, ?_⟩
        refine ⟨by first | exact fun _ _ _ h _ => h | exact stabT | exact stabT _ | exact stabT2 | exact stabT2 _ | exact stabT3 | exact stabT4 | exact fun _ _ _ _ _ => trivial, ?_⟩
        repeat (refine List.forall_mem_cons.2 ⟨by first | exact fun _ _ _ h _ => h | exact stabT | exact stabT _ | exact stabT2 | exact stabT2 _ | exact stabT3 | exact stabT4 | exact fun _ _ _ _ _ => trivial, ?_⟩)
        exact fun R hR => nomatch hR
      · skip
        refine StepsT.cons ?_ fun v0 => ⟨_, _, by simp only [Act.put, List.setIfInBounds_toArray, List.set_cons_succ, List.set_cons_zero]; first | done | rfl, by simp only [List.nil_append]; first | done | rfl, ?_⟩
        · intro w1 hE hd
          clear hd
          go_wp2
          exact ⟨_, rfl, Grow.refl _, rfl⟩
        refine StepsT.cons ?_ fun v1 => ⟨_, _, by simp only [Act.put, List.setIfInBounds_toArray, List.set_cons_succ, List.set_cons_zero]; first | done | rfl, by simp only [List.nil_append, List.cons_append]; first | done | rfl, ?_⟩
        · intro w1 hE hd
          obtain rfl := IsV.eq (dep_at hd 0 rfl rfl rfl)
          clear hd
          have q0 : w1.cell? ⟨w.heap.size + 2, 0, none⟩ = some (.slice x1 x2 x3) := World.grownBy.cell (a := ⟨w.heap.size + 2, 0, none⟩) hE o0 (fun e => by have := (HG.out _ e.symm).1; simp only at this; omega)
          go_wp2
          exact ⟨_, rfl, Grow.refl _, rfl⟩
        refine StepsT.cons ?_ fun v2 => ⟨_, _, by simp only [Act.put, List.setIfInBounds_toArray, List.set_cons_succ, List.set_cons_zero]; first | done | rfl, by simp only [List.nil_append, List.cons_append]; first | done | rfl, ?_⟩
        · intro w1 hE hd
          clear hd
          go_wp2
          exact ⟨_, rfl, Grow.refl _, rfl⟩
        refine StepsT.cons ?_ fun v3 => ⟨_, _, by simp only [Act.put, List.setIfInBounds_toArray, List.set_cons_succ, List.set_cons_zero]; first | done | rfl, by simp only [List.nil_append, List.cons_append]; first | done | rfl, ?_⟩
        · intro w1 hE hd
          obtain rfl := IsV.eq (dep_at hd 0 rfl rfl rfl)
          clear hd
          have hgw1 := HGw.out _ hE
          have hcall := ownCells_sep (.slice ak 3 ck) L w1 (HL.out.1.grow hgw1) (by have := HL.out.2.1; omega) (by have := HL.out.2.1; omega) HL.out.2.2
          go_wp2_with fail
          refine hcall.mono ?_
          rintro e w5 ⟨rfl, ⟨us, hr⟩, hg5⟩
          go_wp2_with fail
          exact ⟨_, rfl, hg5, _, us, hE.size, rfl, hr.low hE.size⟩
        refine StepsT.cons ?_ fun v4 => ⟨_, _, by simp only [Act.put, List.setIfInBounds_toArray, List.set_cons_succ, List.set_cons_zero]; first | done | rfl, by simp only [List.nil_append, List.cons_append]; first | done | rfl, ?_⟩
        · intro w1 hE hd
          have d3 := dep_at hd 0 rfl rfl rfl
          clear hd
          obtain ⟨r, us, h1, rfl, h3⟩ := d3
          go_wp2
          exact ⟨_, rfl, Grow.alloc _ _, _, r, us, rfl, heap_alloc_new _ _, hE.size, h1, h3.grow (Grow.alloc _ _)⟩
        refine StepsT.cons ?_ fun v5 => ⟨_, _, by simp only [Act.put, List.setIfInBounds_toArray, List.set_cons_succ, List.set_cons_zero]; first | done | rfl, by simp only [List.nil_append, List.cons_append]; first | done | rfl, ?_⟩
        · intro w1 hE hd
          obtain rfl := IsV.eq (dep_at hd 0 rfl rfl rfl)
          have d4 := dep_at hd 1 rfl rfl rfl
          clear hd
          obtain ⟨H, r, us, rfl, hH, hHn, hrn, hrow⟩ := d4
          have hS1 := HR.out.2.grow hE.drew
          have HS1 : Hid (SDs (w.heap.size + 3) bs (a.ds.take k) U w1) := hS1
          have HRow : Hid (SRow wr.heap.size r L us w1) := hrow
          have hD1 := HR.out.1.grow hE.drew
          have HD1 : Hid (DRows (w.heap.size + 3) bs (a.ds.take k) w1 (.slice x1 x2 x3)) := hD1
          have Hown : Hid (w1.ownsRow (w.heap.size + 3) 41 1 (.slice x1 x2 x3) k (rowVals bs (a.ds.take k))) := by have := hD1.own; rw [HDl] at this; exact this
          have HH : Hid (w1.heap[H]? = some (.cells #[.slice (some ⟨r, 0, none⟩) L.length L.length] 41 (0, 0))) := hH
          have hsz1 : w.heap.size + 3 ≤ w1.heap.size := by have := heap_lt HB.out.2.2; have := hE.drew.size; omega
          clear hD1 hH hS1 hrow
          go_wp2_with (first
            | (at_builtin; refine wpList_append_lies _ rfl (.tmp 16) (.tmp 19) 23 rfl (w.heap.size + 3) 41 i1 (.slice none 0 0) 1 24 Try.underlying23 hj hy0 hy1 hy2 rfl (by decide) _ k _ rfl Hown.out ⟨H, 0, none⟩ 1 1 [.slice (some ⟨r, 0, none⟩) L.length L.length] rfl rfl (fun j q hq => World.news_of_block HH.out j q (by simpa using hq)) (fun q hq => by simp at hq; subst hq; rfl) (by decide) (by unfold maxLen; omega) (by omega) hsz1 _ rfl ?_; rintro g' cap w' hown hgr' hat hlt'))
          have hlen1 := HTL.out (k + 1) (by omega)
          have hby : ByT (Value.slice x1 x2 x3).ownBlock w1 w' := ⟨hgr', fun j hj' => own_typed Hown.out hj'⟩
          have hbl : bs.length = (a.ds.take k).length := HD1.out.len
          refine ⟨_, rfl, hby, r, g', cap, _, by rw [hlen1], hrn, ?_, by have hq := (HS1.out.by hby).push hbl (fun i u g hi hu hg => (HR.out.2.at hbl hi hu hg).2) (HRow.out.by hby) (by have := heap_lt HB.out.2.2; omega); rw [HT2.out] at hq; exact hq⟩
          have hp := HD1.out.push HRow.out.drow (fun b hb => by have := HR.out.1.lt b hb; omega) (by have := heap_lt HB.out.2.2; omega) (v' := .slice (some ⟨g', 0, none⟩) (k + 1) cap) (by rw [HDl]; exact hown) hgr'
          rw [HT2.out] at hp
          exact hp
        refine StepsT.cons ?_ fun v6 => ⟨_, _, by simp only [Act.put, List.setIfInBounds_toArray, List.set_cons_succ, List.set_cons_zero]; first | done | rfl, by simp only [List.nil_append, List.cons_append]; first | done | rfl, ?_⟩
        · intro w1 hE hd
          clear hd
          go_wp2
          exact ⟨_, rfl, Grow.refl _, rfl⟩
        trivial
      intro wR hwR
      refine FinS.cons ?_; rintro _ rfl; refine ⟨_, by simp only [Act.put, List.setIfInBounds_toArray, List.set_cons_succ, List.set_cons_zero]; first | done | rfl, ?_⟩
      refine FinS.cons ?_; rintro _ rfl; refine ⟨_, by simp only [Act.put, List.setIfInBounds_toArray, List.set_cons_succ, List.set_cons_zero]; first | done | rfl, ?_⟩
      refine FinS.cons ?_; rintro _ rfl; refine ⟨_, by simp only [Act.put, List.setIfInBounds_toArray, List.set_cons_succ, List.set_cons_zero]; first | done | rfl, ?_⟩
      refine FinS.cons fun v3 h3 => ⟨_, by simp only [Act.put, List.setIfInBounds_toArray, List.set_cons_succ, List.set_cons_zero]; first | done | rfl, ?_⟩
      refine FinS.cons fun v4 h4 => ⟨_, by simp only [Act.put, List.setIfInBounds_toArray, List.set_cons_succ, List.set_cons_zero]; first | done | rfl, ?_⟩
      refine FinS.cons fun v5 h5 => ⟨_, by simp only [Act.put, List.setIfInBounds_toArray, List.set_cons_succ, List.set_cons_zero]; first | done | rfl, ?_⟩
      refine FinS.cons ?_; rintro _ rfl; refine ⟨_, by simp only [Act.put, List.setIfInBounds_toArray, List.set_cons_succ, List.set_cons_zero]; first | done | rfl, ?_⟩
      show wpList _ _ _ _ _ _
      obtain ⟨r, g2, c2, U2, rfl, hrn, hD, hS⟩ := h5
      have hB2 := (HB.out.grow (Grow.drewN wr 1)).by hwR (fun j hj => (HG.out j hj).1)
      have hgR := HGw.out _ hwR
      have q0 := two_at0 hB2.2.2
      have fA0 : wR.frozen? ⟨w.heap.size + 2, 0, none⟩ = false := frozen_of_row wR _ 0 _ _ hB2.2.2
      have hlen1 := HTL.out (k + 1) (by omega)
      rw [hlen1] at hD ⊢
      have HB3 : Hid (Boxes3 _ _ _ _ _ _ _ _) := hB2.set0 (u := .slice (some ⟨g2, 0, none⟩) (k + 1) c2)
      have HD3 : Hid (DRows _ _ _ _ _ ∧ SDs _ _ _ _ _) := ⟨hD.k3 (K4.set (k := 0) (u := .slice (some ⟨g2, 0, none⟩) (k + 1) c2) hB2.2.2).1, hS.k3 (K4.set (k := 0) (u := .slice (some ⟨g2, 0, none⟩) (k + 1) c2) hB2.2.2).1⟩
      have hg3 := hgR.set (g := w.heap.size + 2) (k := 0) (by omega) (.slice (some ⟨g2, 0, none⟩) (k + 1) c2)
      clear hB2 hD hS HR HB HL HGw HG hF0 hF1 hF2 stabT stabT2 HT2
      go_wp2
      go_roundw
      case rel => first | exact ⟨k + 1, _, _, _, by omega, by go_num, ⟨_, _, _, rfl⟩, HB3, HD3, hg3⟩ | ((repeat apply Exists.intro); exact ⟨⟨k + 1, _, _, _, by omega, by go_num, ⟨_, _, _, rfl⟩, HB3, HD3, hg3⟩, rfl⟩)
      case measure => simp [intOf]; omega
    · obtain rfl : k = 4 := by omega
      have HA4 : Hid (a.ds.take 4 = a.ds) := by rw [Hid]; exact List.take_of_length_le (by omega)
      have hD := HR.out
      rw [HA4.out] at hD
      have HD : Hid (DRows (w.heap.size + 3) bs a.ds wr (.slice x1 x2 x3) ∧ SDs (w.heap.size + 3) bs a.ds U wr) := hD
      have i1' := two_at1 HB.out.1
      clear HK HT HTL HA4 HR hD hlt hk
      have hn0 : a.is.length = 0 := by rw [HI.out]; rfl
      rw [hn0] at HB i1' ⊢
      have hE1 := own_end HB.out ⟨HA.out, HD.out.1, by rw [HI.out]; exact .inl ⟨rfl, rfl⟩⟩ hgr
      obtain ⟨HO, z0, z1⟩ := hE1
      have d0 := two_at0 HB.out.2.2
      have d1 := two_at1 HB.out.2.2
      have r0 := two_at0 HB.out.2.1
      have r1 := two_at1 HB.out.2.1
      have f0 : wr.frozen? ⟨w.heap.size + 1, 0, none⟩ = false := frozen_of_row wr _ 0 _ _ HB.out.2.1
      have f1 : wr.frozen? ⟨w.heap.size + 1, 1, none⟩ = false := frozen_of_row wr _ 1 _ _ HB.out.2.1
      have h1 := two_set0 (z := .slice x1 x2 x3) HB.out.2.1
      have HSe : Hid (SDs w.heap.size bs a.ds U ((wr.setCell ⟨w.heap.size + 1, 0, none⟩ (.slice x1 x2 x3)).setCell ⟨w.heap.size + 1, 1, none⟩ (.slice none 0 0))) := ((HD.out.2.k3 (K4.set HB.out.2.1).1).k3 (K4.set h1).1).low (by omega)
      clear h1 hn0 Hi HI HB HD
      go_wp2
      go_loopw [26] (fun q wr' => q = .int .i64 0 ∧ wr' = wr) (fun _ _ => 0)
      case atStart => exact ⟨rfl, rfl⟩
      case round =>
        obtain ⟨rfl, rfl⟩ := hrel
        go_wp2
        refine bodyPost_ret (results_two Try.results44 _ _ (w.heap.size + 1) _ rfl Try.underlying26 rfl Try.sizeA z0 z1) rfl ?_
        exact ⟨_, U, _, _, rfl, HO.out.1, HSe.out, HO.out.2⟩

end Go.Proofs.Ytjggiameajndgac

/-
  A byte of an array of the call's own turns: no other cell's bytes do. A disk of one loses its bytes.
-/
namespace Go.Proofs.Ytjggiameajndgac
open Go.RowKit

theorem own_other {w : World} {lo n g k : Nat} {u z : Value} {xs : List Value} (h : w.ownsRow lo 5 1 u n xs) (hne : u.ownBlock ≠ some g) : (w.setCell ⟨g, k, none⟩ z).ownsRow lo 5 1 u n xs := by
  refine ⟨h.1, ?_⟩
  rcases h.2 with h2 | ⟨g', cap, cur, hv, hb, hh, hr⟩
  · exact .inl h2
  · subst hv
    exact .inr ⟨g', cap, cur, rfl, hb, set_other hh (fun e => hne (by simp only [Value.ownBlock]; rw [e])), hr⟩

theorem getD_at {α : Type} {l : List α} {i : Nat} (h : i < l.length) (d : α) : l[i]? = some (l.getD i d) := by simp [List.getD_eq_getElem?_getD, h]

/-- A cell of such disks. -/
theorem SDs.cell {B : Nat} {bs : List Nat} {ds : List (List (List Int))} {U : Nat → List Value} {w : World} (h : SDs B bs ds U w) (hlen : bs.length = ds.length) {d s : Nat} (hd : d < ds.length) (hs : s < (ds.getD d []).length) :
    ∃ b u, bs[d]? = some b ∧ (U d)[s]? = some u ∧ w.cell? ⟨b, s, none⟩ = some u ∧ w.ownsRow B 5 1 u ((ds.getD d []).getD s []).length (((ds.getD d []).getD s []).map (Value.int .u8)) ∧ Octets ((ds.getD d []).getD s []) := by
  have hbd : bs[d]? = some (bs[d]'(by omega)) := by simp [show d < bs.length by omega]
  have hr := h.rows d _ _ hbd (getD_at hd [])
  have hul : s < (U d).length := by rw [hr.len]; exact hs
  have hu : (U d)[s]? = some ((U d)[s]'hul) := by simp [hul]
  have ho := hr.own s _ _ hu (getD_at hs [])
  exact ⟨_, _, hbd, hu, row_at hr.row s (by simp), ho.1, ho.2⟩

theorem rot_rows {B : Nat} {bs : List Nat} {ds : List (List (List Int))} {U : Nat → List Value} {w : World} {dv : Value} (h : DRows B bs ds w dv) (hS : SDs B bs ds U w) {d s g n cap k : Nat} (hd : d < ds.length) (hs : s < (ds.getD d []).length) (hu : (U d)[s]? = some (.slice (some ⟨g, 0, none⟩) n cap)) {z : Int} (hz : 0 ≤ z ∧ z ≤ 255) :
    DRows B bs (ds.set d ((ds.getD d []).set s (((ds.getD d []).getD s []).set k z))) (w.setCell ⟨g, k, none⟩ (.int .u8 z)) dv := by
  obtain ⟨b, u, hbd, hu', hcell, hown, hoc⟩ := hS.cell h.len hd hs
  rw [hu] at hu'
  cases hu'
  have hgt : ∃ cur, w.heap[g]? = some (.cells cur 5 (0, 0)) := own_typed hown rfl
  have hty : ∀ (b : Nat) cs t, t ≠ 5 → w.heap[b]? = some (.cells cs t (0, 0)) → b ≠ g := fun b cs t ht hb e => by
    subst e
    obtain ⟨cur, hc⟩ := hgt
    rw [hb] at hc
    injection hc with hc
    injection hc with _ hc _
    exact ht hc
  have hdb : d < bs.length := by have := h.len; omega
  have hlen : ((ds.getD d []).set s (((ds.getD d []).getD s []).set k z)).length = ds[d].length := by simp [List.getD_eq_getElem?_getD, hd]
  have hother : ∀ (i j : Nat) b' l q x, bs[i]? = some b' → ds[i]? = some l → (U i)[j]? = some q → l[j]? = some x → (i ≠ d ∨ j ≠ s) → Tb (w.setCell ⟨g, k, none⟩ (.int .u8 z)) q x := fun i j b' l q x hb' hl hq hx hne => by
    have hr := hS.rows i b' l hb' hl
    have ho := hr.own j q x hq hx
    refine Tb.own (own_other ho.1 fun hg => ?_) ho.2
    have hib : i < bs.length := (List.getElem?_eq_some_iff.1 hb').1
    have hid := hS.apart i d q _ g hib hdb (List.mem_of_getElem? hq) (List.mem_of_getElem? hu) hg rfl
    subst hid
    have hjs := (hS.rows i b' l hb' hl).apart j s q _ g hq hu hg rfl
    subst hjs
    exact hne.elim (fun h => h rfl) (fun h => h rfl)
  refine ⟨by simpa using h.len, h.up, h.base, ?_, fun i b' l hb' hl => ?_⟩
  · rw [rowVals_set h.len hd hlen, List.length_set]
    refine ⟨h.own.1, ?_⟩
    rcases h.own.2 with h2 | ⟨g', cap, cur, hv, hbb, hh, hr'⟩
    · exact .inl h2
    · exact .inr ⟨g', cap, cur, hv, hbb, set_other hh (hty g' _ _ (by decide) hh), hr'⟩
  · by_cases hid : i = d
    · subst hid
      rw [List.getElem?_set_self hd] at hl
      cases hl
      have hr := hS.rows i b' _ hb' (getD_at hd [])
      refine ⟨U i, by rw [List.length_set]; exact hr.len, set_other hr.row (hty b' _ _ (by decide) hr.row), fun j q x hq hx => ?_⟩
      by_cases hjs : j = s
      · subst hjs
        rw [hu] at hq
        cases hq
        rw [List.getElem?_set_self hs] at hx
        cases hx
        refine Tb.own (B := B) (n := n) ?_ (fun y hy => ?_)
        · have hn : n = ((ds.getD i []).getD j []).length := by
            rcases hown.2 with ⟨h1, -⟩ | ⟨g', cap', cur, h1, -⟩
            · cases h1
            · injection h1
          rw [← hn] at hown
          have := (hown.stored k (.int .u8 z)).1
          rw [List.map_set]
          exact this
        · rcases List.mem_or_eq_of_mem_set hy with hy | rfl
          · exact hoc y hy
          · exact hz
      · rw [List.getElem?_set_ne (fun e => hjs e.symm)] at hx
        exact hother i j b' _ q x hb' (getD_at hd []) hq hx (.inr hjs)
    · rw [List.getElem?_set_ne (fun e => hid e.symm)] at hl
      have hr := hS.rows i b' l hb' hl
      exact ⟨U i, hr.len, set_other hr.row (hty b' _ _ (by decide) hr.row), fun j q x hq hx => hother i j b' l q x hb' hl hq hx (.inl hid)⟩

/-- A byte has turned. -/
theorem rot_own {B : Nat} {bs : List Nat} {U : Nat → List Value} {w : World} {dv iv : Value} {a : ArrP} (h : OwnA B bs w dv iv a) (hS : SDs B bs a.ds U w) (hi : a.is = []) {d s g n cap k : Nat} (hd : d < 4) (hs : s < 3) (hu : (U d)[s]? = some (.slice (some ⟨g, 0, none⟩) n cap)) :
    OwnA B bs (w.setCell ⟨g, k, none⟩ (.int .u8 (rotI ((cellAt a d s).getD k 0)))) dv iv (withL a d s (rotB (cellAt a d s) k)) := by
  have hd' : d < a.ds.length := by have := h.whole.1; omega
  have hs' : s < (a.ds.getD d []).length := by rw [h.whole.2 _ (by simp [List.getD_eq_getElem?_getD, hd'])]; exact hs
  obtain ⟨b, u, hbd, hu', hcell, hown, hoc⟩ := hS.cell h.disks.len hd' hs'
  refine ⟨withL_whole h.whole hd _, rot_rows h.disks hS hd' hs' hu (rotI_bd (getD_bd hoc k)), ?_⟩
  rcases h.its with ⟨h1, h2⟩ | ⟨q, r, cap, cur, s', cs, h1, _⟩
  · exact .inl ⟨h1, h2⟩
  · rw [hi] at h1; cases h1

/-- A disk has lost its bytes. -/
theorem gone_own {B : Nat} {bs : List Nat} {w : World} {dv iv : Value} {a : ArrP} (h : OwnA B bs w dv iv a) {d b : Nat} (hd : d < 4) (hb : bs[d]? = some b) : OwnA B bs (w.setCells b 0 (List.replicate 3 (.slice none 0 0))) dv iv (goneTo a d 3) := by
  have h1 := h.put (s := 0) hd hb (Tb.nil w)
  have h2 := h1.put (s := 1) hd hb (Tb.nil _)
  have h3 := h2.put (s := 2) hd hb (Tb.nil _)
  exact h3

theorem gone_grow {w wr : World} {b : Nat} (h : Grow w wr) (hb : w.heap.size ≤ b) : Grow w (wr.setCells b 0 (List.replicate 3 (.slice none 0 0))) :=
  ((h.set (k := 0) hb (.slice none 0 0)).set (k := 1) hb (.slice none 0 0)).set (k := 2) hb (.slice none 0 0)

end Go.Proofs.Ytjggiameajndgac

/-
  What the program's stripe.Make returns: a row of the call's own whose bytes lie in blocks of bytes.
-/
namespace Go.Proofs.Ytjggiameajndgac
open Go.RowKit

set_option maxRecDepth 20000 in
set_option maxHeartbeats 1600000 in
theorem stripeMake_own (v : Value) (ds : List (List Int)) (s : Nat) (w : World) (h : Bss w v ds) (hl : ds.length = 4) (hs : s < 3) (h4 : ∀ b ∈ ds, b.length = 4) :
    Calls Try.prog 50 #[v, .int .i64 s] w fun e w' => e = .returned (.slice (some ⟨w.heap.size, 0, none⟩) 4 4) ∧ DRow w.heap.size (makeL ds s) w' ∧ Grow w w' := by
  obtain ⟨ao, cap, rfl, h1, h2, h3, h4'⟩ := h
  unfold maxLen at h2
  obtain ⟨b, off, rfl, hc⟩ := h4' (by omega)
  have HK : Hid (∀ k, k < 4 → ∃ ak ck, w.cell? ⟨b, off + k, none⟩ = some (.slice ak 4 ck) ∧ Bs w (.slice ak 4 ck) (ds.getD k []) ∧ (ds.getD k []).length = 4) := fun k hk => by
    obtain ⟨ak, ck, hck, hbk⟩ := Sl.bytesAt hc (k := k) (by omega)
    have hlk : (ds.getD k []).length = 4 := h4 _ (by simp [List.getD_eq_getElem?_getD, show k < ds.length by omega])
    rw [hlk] at hck hbk
    exact ⟨ak, ck, hck, hbk, hlk⟩
  have hmk : (Instr.makeSlice 41 (.int .i64 4) (.int .i64 4)).run Try.prog w = .ok (.slice (some ⟨w.heap.size, 0, none⟩) 4 4) (w.alloc (.cells (nilsN 4) 52)) := Try.madeN w 4 (by omega)
  rw [makeL_up hl]
  have hst : Hid (DRow w.heap.size (up4 (fun (d : Nat) => cellOf d s (ds.getD d [])) 0) (w.alloc (.cells (nilsN 4) 52))) := by rw [Hid, up4_zero]; exact DRow.made w 4
  rw [hl]
  clear hc h4' hl h4 h3
  go_enter Try.func50, Try.ntmps50
  go_wp2
  go_loopw [10] (fun i wr => ∃ k : Nat, k ≤ 4 ∧ i = .int .i64 k ∧ Hid (DRow w.heap.size (up4 (fun (d : Nat) => cellOf d s (ds.getD d [])) k) wr) ∧ Grow w wr) (fun i _ => 4 - (intOf i).toNat)
  case atStart => exact ⟨0, by omega, rfl, hst, Grow.alloc _ _⟩
  case round =>
    obtain ⟨k, hk, rfl, HR, hgr⟩ := hrel
    clear hst hmk
    by_cases hlt : k < 4
    · obtain ⟨ak, ck, hck, hbk, hlk⟩ := HK.out k hlt
      have HL : Hid ((ds.getD k []).length = 4) := hlk
      clear hlk
      have hA := atB_any b off k 4 cap ak 4 ck wr hlt (hgr.at hck)
      have hC := bytes_any (.slice ak 4 ck) (ds.getD k []) k s wr (by rw [HL.out]; omega) (by omega) (by omega) (hbk.grow hgr)
      have hoc := cellOf_octets (d := k) (s := s) (by omega) (by omega) hbk.octets
      clear hck hbk
      go_wp2_with fail
      refine hA.mono ?_
      rintro e w0 ⟨rfl, rfl⟩
      go_wp2_with fail
      refine hC.mono ?_
      rintro e w1 ⟨r, rfl, hown, hg1⟩
      have hTb := Tb.own hown hoc
      obtain ⟨gr, cr, rfl, -, -⟩ := hown.form (by omega)
      have hrow := HR.out.grow hg1
      obtain ⟨⟨u0, hu0⟩, hf0⟩ := hrow.at (k := k) (by rw [up4_length]; exact hlt)
      have hrow1 := hrow.put k hTb
      rw [up4_set (fun (d : Nat) => cellOf d s (ds.getD d [])) hlt] at hrow1
      have HR1 : Hid (DRow _ _ _) := hrow1
      have hg2 := (hgr.trans hg1).set (k := k) (Nat.le_refl w.heap.size) (.slice (some ⟨gr, 0, none⟩) ((ds.getD k []).length + 4) cr)
      rw [HL.out] at HR1 hg2 ⊢
      clear hrow hrow1 hTb hown HR hA hC
      go_wp2
      go_roundw
      case rel => first | exact ⟨k + 1, by omega, by go_num, HR1, hg2⟩ | ((repeat apply Exists.intro); exact ⟨⟨k + 1, by omega, by go_num, HR1, hg2⟩, rfl⟩)
      case measure => simp [intOf]; omega
    · obtain rfl : k = 4 := by omega
      go_wp2
      go_ret
      exact ⟨rfl, HR.out, hgr⟩

end Go.Proofs.Ytjggiameajndgac

/-
  What the program's mend.put does: an array of the call's own has these cells of a stripe.
-/
namespace Go.Proofs.Ytjggiameajndgac
open Go.RowKit

/-- A cell of such a row, and what it reads as. -/
theorem DRow.elem {b : Nat} {ls : List (List Int)} {w : World} (h : DRow b ls w) {k : Nat} (hk : k < ls.length) : ∃ u, w.cell? ⟨b, k, none⟩ = some u ∧ Tb w u (ls.getD k []) := by
  obtain ⟨us, h1, h2, h3⟩ := h
  refine ⟨us[k]'(by omega), row_at h2 k (by simp [h1, hk]), h3 k _ _ (by simp [h1, hk]) (by simp [List.getD_eq_getElem?_getD, hk])⟩

/-- The disk's row of an array of the call's own. -/
theorem OwnA.disk {B : Nat} {bs : List Nat} {w : World} {iv : Value} {a : ArrP} {g cap : Nat} (h : OwnA B bs w (.slice (some ⟨g, 0, none⟩) 4 cap) iv a) {k : Nat} (hk : k < 4) :
    ∃ bk, bs[k]? = some bk ∧ w.cell? ⟨g, k, none⟩ = some (.slice (some ⟨bk, 0, none⟩) 3 3) ∧ DRow bk (a.ds.getD k []) w ∧ (a.ds.getD k []).length = 3 := by
  have hlen := h.disks.len
  have hl4 := h.whole.1
  have hk' : k < a.ds.length := by omega
  have hl3 : a.ds[k].length = 3 := h.whole.2 _ (List.getElem_mem hk')
  have ho := h.disks.own
  rw [hl4] at ho
  have hcell := ho.cellAt k (by omega)
  rw [rowVals_at hlen hk', hl3] at hcell
  have hgd : a.ds.getD k [] = a.ds[k] := by simp [List.getD_eq_getElem?_getD, hk']
  refine ⟨bs[k]'(by omega), by simp, hcell, ?_, by rw [hgd]; exact hl3⟩
  rw [hgd]
  exact h.disks.rows k _ _ (by simp) (by simp [hk'])

set_option maxRecDepth 20000 in
set_option maxHeartbeats 6400000 in
theorem mendPut_any (B : Nat) (bs : List Nat) (dv iv : Value) (a : ArrP) (s r : Nat) (cs : List (List Int)) (w : World) (h : OwnA B bs w dv iv a) (hr : DRow r cs w) (hn : r ∉ bs) (hc4 : cs.length = 4) (hs : s < 3) :
    Calls Try.prog 49 #[dv, .int .i64 s, .slice (some ⟨r, 0, none⟩) 4 4] w fun e w' => (∃ r, e = .returned r) ∧ OwnA B bs w' dv iv (putTo a cs s 4) ∧ GrownIn w w' (fun j => j ∈ bs) := by
  have hl4 := h.whole.1
  obtain ⟨g, cap, rfl, hg1, hg2⟩ := h.disks.own.form (by omega)
  rw [hl4] at h ⊢
  have HO0 : Hid (OwnA B bs w (.slice (some ⟨g, 0, none⟩) 4 cap) iv (putTo a cs s 0)) := h
  have HR0 : Hid (DRow r cs w) := hr
  have HC : Hid (cs.length = 4) := hc4
  clear h hr hc4 hl4 hg1
  go_enter Try.func49, Try.ntmps49
  go_wp2
  go_loopw [10] (fun i wr => ∃ k : Nat, k ≤ 4 ∧ i = .int .i64 k ∧ Hid (OwnA B bs wr (.slice (some ⟨g, 0, none⟩) 4 cap) iv (putTo a cs s k)) ∧ Hid (DRow r cs wr) ∧ GrownIn w wr (fun j => j ∈ bs)) (fun i _ => 4 - (intOf i).toNat)
  case atStart => exact ⟨0, by omega, rfl, HO0, HR0, GrownIn.refl w _⟩
  case round =>
    obtain ⟨k, hk, rfl, HO, HR, hG⟩ := hrel
    clear HO0 HR0
    by_cases hlt : k < 4
    · obtain ⟨u, hu, hT⟩ := HR.out.elem (k := k) (by have := HC.out; omega)
      obtain ⟨z1, z2, z3, rfl⟩ := hT.here.form
      obtain ⟨bk, hbk, hck, hrow, hl3⟩ := HO.out.disk hlt
      have Hb : Hid (bs[k]? = some bk) := hbk
      obtain ⟨⟨u0, hu0⟩, hf0⟩ := hrow.at (k := s) (by omega)
      have HO2 : Hid (OwnA B bs (wr.setCell ⟨bk, s, none⟩ (.slice z1 z2 z3)) (.slice (some ⟨g, 0, none⟩) 4 cap) iv (putTo a cs s (k + 1))) := HO.out.put (s := s) hlt Hb.out hT
      have HR2 : Hid (DRow r cs (wr.setCell ⟨bk, s, none⟩ (.slice z1 z2 z3))) := HR.out.kept (hrow.kbset s _) (set_other rfl (fun e => hn (by rw [e]; exact List.mem_of_getElem? Hb.out)))
      have hG2 : GrownIn w (wr.setCell ⟨bk, s, none⟩ (.slice z1 z2 z3)) (fun j => j ∈ bs) := hG.trans (grownIn_set wr bk s _ (List.mem_of_getElem? Hb.out))
      have hki : (k : Int) < 4 := by omega
      have hsi : (s : Int) < 3 := by omega
      clear hT hrow hl3 hbk HO HR
      go_wp2
      go_roundw
      case rel => first | exact ⟨k + 1, by omega, by go_num, HO2, HR2, hG2⟩ | ((repeat apply Exists.intro); exact ⟨⟨k + 1, by omega, by go_num, HO2, HR2, hG2⟩, rfl⟩)
      case measure => simp [intOf]; omega
    · obtain rfl : k = 4 := by omega
      go_wp2
      go_end0
      exact ⟨⟨_, rfl⟩, HO.out, hG⟩

end Go.Proofs.Ytjggiameajndgac
