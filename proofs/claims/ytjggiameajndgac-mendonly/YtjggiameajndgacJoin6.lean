import Derived.Deep.RegionLaw
import Derived.Test.YtjggiameajndgacJoin5
/-
  What the reference's Read and Blocks return. Nothing old turns.
-/
namespace Go.Proofs.Ytjggiameajndgac
open Go.RowKit

/-- A cell of an array, as it lies. -/
theorem ArrG.cell {g : Option Nat} {w : World} {ad : Option Addr} {cd : Nat} {a : ArrP} (hd : Sl (Sl (Off Bs g)) w (.slice ad 4 cd) a.ds) (ha : Whole a) {k s : Nat} (hk : k < 4) (hs : s < 3) :
    ∃ b off c' b' off' u' n' cc', ad = some ⟨b, off, none⟩ ∧ w.cell? ⟨b, off + k, none⟩ = some (.slice (some ⟨b', off', none⟩) 3 c') ∧ w.cell? ⟨b', off' + s, none⟩ = some (.slice u' n' cc') ∧ Off Bs g w (.slice u' n' cc') (cellAt a k s) ∧ 3 ≤ c' := by
  have hk' : k < a.ds.length := by have := ha.1; omega
  obtain ⟨b, off, a', c', e1, e2, e3⟩ := hd.elems hk'
  have h3 : (a.ds.getD k []).length = 3 := ha.2 _ (by simp [List.getD_eq_getElem?_getD, hk'])
  obtain ⟨b', off', u', e4, e5, e6⟩ := e3.elem (k := s) (by omega) []
  obtain ⟨x1, x2, x3, rfl⟩ := e6.here.form
  have h4 : 3 ≤ c' := by
    obtain ⟨_, _, e7, h7, _⟩ := e3
    injection e7 with _ _ e7
    omega
  rw [h3, e4] at e2
  exact ⟨b, off, c', b', off', x1, x2, x3, e1, e2, e5, e6, h4⟩

set_option maxRecDepth 20000 in
set_option maxHeartbeats 3200000 in
theorem refRead6_off (v : Value) (a : ArrP) (n : Int) (w : World) (g : Option Nat) (h : ArrG g w v a) (hg : ∀ k, g = some k → k < w.heap.size) (ha : Whole a) :
    Calls Try.prog 37 #[v, .int .i64 n] w fun e w' => ∃ r, e = .returned (.tuple #[r, .int .i64 (rdE a n)]) ∧ Off Bs g w' r (rdX a n) ∧ Grow w w' := by
  have harr := h
  obtain ⟨dv, iv, rfl, hd, hit⟩ := h
  obtain ⟨ad, cd, rfl, hd1, hd2⟩ := hd.form'
  obtain ⟨ai, ci, rfl, hi1, hi2⟩ := hit.form
  rw [ha.1] at hd hd1 harr ⊢
  have hgA : Grow w (w.alloc (.cells #[.slice ad 4 cd, .slice ai a.is.length ci] 26)) := Grow.alloc _ _
  by_cases hn : 0 ≤ n ∧ n < 9
  · obtain ⟨hD, hS, hE, hd4, hs3⟩ := where_bd hn
    obtain ⟨b, off, c', b', off', u', n', cc', rfl, hc1, hc2, hb, h3c⟩ := ArrG.cell hd ha hd4 hs3
    have HE : Hid (rdE a n = if readE (cellAt a (dOf n) (sOf n)) (dOf n) (sOf n) = 0 then 0 else dataE (cellsL a (sOf n)) (sOf n)) := if_pos hn
    have HX : Hid (rdX a n = if readE (cellAt a (dOf n) (sOf n)) (dOf n) (sOf n) = 0 then readX (cellAt a (dOf n) (sOf n)) (dOf n) (sOf n) else (dataL (cellsL a (sOf n)) (sOf n)).getD (dOf n) []) := if_pos hn
    have hW := fun w1 => refWhere_any n w1
    rw [hD, hS, hE] at hW
    clear hD hS hE hn hd hit
    generalize dOf n = d at *
    generalize sOf n = s at *
    generalize a.is.length = ni at *
    go_enter Try.func37, Try.ntmps37
    go_wp2_with fail
    refine (hW _).mono ?_
    rintro e w1 ⟨rfl, hg1⟩
    have hcell := fun i : Nat => hg1.cell (p := ⟨w.heap.size, i, none⟩) (by simp)
    have k0 := (hcell 0).trans (show _ = some (Value.slice (some ⟨b, off, none⟩) 4 cd) by simp)
    have k1 := (hcell 1).trans (show _ = some (Value.slice ai ni ci) by simp)
    have hgw := hgA.trans hg1
    have hc1' := hgw.at hc1
    have hc2' := hgw.at hc2
    clear hcell hg1 hW hgA
    go_wp2_with fail
    refine (refRead_sub _ _ d s _ (hb.here.grow hgw)).mono ?_
    rintro e w2 ⟨r, rfl, hr, hg2⟩
    by_cases he : readE (cellAt a d s) d s = 0
    · have HE' := HE.out
      have HX' := HX.out
      rw [if_pos he] at HE' HX'
      have Hfin : Hid (rdE a n = 0 ∧ Off Bs g w2 r (rdX a n)) := ⟨HE', by rw [HX']; exact fun w' h' => hr w' (((hb.grow hgw).grow hg2) w' h')⟩
      clear HE' HX' HE HX hr
      generalize readE (cellAt a d s) d s = E at *
      subst he
      go_wp2
      go_ret2
      exact ⟨_, ret_bs2 Hfin.out.1.symm, Hfin.out.2, hgw.trans hg2⟩
    · have HE' := HE.out
      have HX' := HX.out
      rw [if_neg he] at HE' HX'
      have Hfin : Hid (rdE a n = dataE (cellsL a s) s ∧ rdX a n = (dataL (cellsL a s) s).getD d []) := ⟨HE', HX'⟩
      have k0' := hg2.at k0
      have k1' := hg2.at k1
      have hgw2 := hgw.trans hg2
      clear HE' HX' HE HX hr hc1 hc2 hc1' hc2' k0 k1
      generalize readE (cellAt a d s) d s = E at *
      have he' : (E == 0) = false := by simpa using he
      go_wp2_with fail
      refine (refCells_off _ a s _ g (harr.grow hgw2) ha hs3).mono ?_
      rintro e w3 ⟨rc, rfl, hrc, hg3⟩
      go_wp2_with fail
      refine (refData_off _ _ s _ g hrc (fun j hj => by have := hg j hj; have := (hgw2.trans hg3).size; omega) (by rw [cellsL_length, ha.1]; omega)).mono ?_
      rintro e w4 ⟨rd, rfl, hrd, hg4⟩
      have hgw4 := (hgw2.trans hg3).trans hg4
      by_cases hde : dataE (cellsL a s) s = 0
      · have hlen := dataL_length hde
        rw [cellsL_length, ha.1] at hlen
        obtain ⟨ar, cr, rfl, hr1, hr2⟩ := hrd.form'
        obtain ⟨br, or, ud, e1, e2, e3⟩ := hrd.elem (k := d) (by omega) []
        obtain ⟨x1, x2, x3, rfl⟩ := e3.here.form
        subst e1
        have Hfin' : Hid (rdE a n = 0 ∧ Off Bs g w4 (.slice x1 x2 x3) (rdX a n)) := ⟨by rw [Hfin.out.1, hde], by rw [Hfin.out.2]; exact e3⟩
        rw [hlen] at hr1 ⊢
        clear Hfin hrd e3 hrc hlen
        generalize dataE (cellsL a s) s = E2 at *
        subst hde
        go_wp2
        go_ret2
        exact ⟨_, ret_bs2 Hfin'.out.1.symm, Hfin'.out.2, hgw4⟩
      · have hnil := dataL_nil hde
        have Hfin' : Hid (rdE a n = dataE (cellsL a s) s ∧ rdX a n = []) := ⟨Hfin.out.1, by rw [Hfin.out.2, hnil]; simp⟩
        clear Hfin hrd hrc hnil
        generalize dataE (cellsL a s) s = E2 at *
        have hde' : (E2 != 0) = true := by simpa using hde
        go_wp2
        go_ret2
        exact ⟨_, ret_bs2 Hfin'.out.1.symm, by rw [Hfin'.out.2]; exact fun _ _ => Bs.nil _, hgw4⟩
  · have HE : Hid (rdE a n = 3) := if_neg hn
    have HX : Hid (rdX a n = []) := if_neg hn
    have hW := fun w1 => refWhere_any n w1
    obtain ⟨hD, hS, hEw⟩ := where_out hn
    rw [hEw] at hW
    clear hd hit hn hD hS hEw
    generalize a.is.length = ni at *
    go_enter Try.func37, Try.ntmps37
    go_wp2_with fail
    refine (hW _).mono ?_
    rintro e w1 ⟨rfl, hg1⟩
    go_wp2
    go_ret2
    exact ⟨_, ret_bs2 HE.out.symm, by rw [HX.out]; exact fun _ _ => Bs.nil _, hgA.trans hg1⟩

theorem refRead6_any (v : Value) (a : ArrP) (n : Int) (w : World) (h : ArrV w v a) (ha : Whole a) :
    Calls Try.prog 37 #[v, .int .i64 n] w fun e w' => ∃ r, e = .returned (.tuple #[r, .int .i64 (rdE a n)]) ∧ Bs w' r (rdX a n) ∧ Grow w w' :=
  (refRead6_off v a n w none (ArrG.of h (Grow.refl _) (fun _ h => nomatch h)) (fun _ h => nomatch h) ha).mono fun _ _ ⟨r, he, hr, hg⟩ => ⟨r, he, hr.here, hg⟩

set_option maxRecDepth 20000 in
set_option maxHeartbeats 3200000 in
theorem refBlocks_any (v : Value) (a : ArrP) (w : World) (h : ArrV w v a) (ha : Whole a) :
    Calls Try.prog 24 #[v] w fun e w' => ∃ r, e = .returned (.tuple #[r, .int .i64 (blkE a)]) ∧ Bss w' r (blkL a) ∧ Grow w w' := by
  obtain ⟨i0, hi, hz0, hz1, hz2⟩ := info_parts Try.infoS
  have harr := h
  obtain ⟨dv, iv, rfl, hd, hit⟩ := h
  obtain ⟨ad, cd, rfl, hd1, hd2⟩ := hd.form'
  obtain ⟨ai, ci, rfl, hi1, hi2⟩ := hit.form
  rw [ha.1] at hd hd1 harr ⊢
  have hgA : Grow w (w.alloc (.cells #[.slice ad 4 cd, .slice ai a.is.length ci] 26)) := Grow.alloc _ _
  have HT : Hid (∀ k, (List.range k).map (fun n => rdX a (n : Nat)) ++ [rdX a (k : Nat)] = (List.range (k + 1)).map (fun n => rdX a (n : Nat))) := blk_succ a
  have HO : Hid ((∀ j, j < 9 → rdE a (j : Nat) = 0) → blkE a = 0 ∧ blkL a = (List.range 9).map (fun n => rdX a (n : Nat))) := fun h => by
    have := blkE_ok h
    exact ⟨this, if_pos this⟩
  have HF : Hid (∀ k, k < 9 → (∀ j, j < k → rdE a (j : Nat) = 0) → rdE a (k : Nat) ≠ 0 → blkE a = rdE a (k : Nat) ∧ blkL a = []) := fun k hk h1 h2 => by
    have := blkE_no hk h1 h2
    exact ⟨this, if_neg (by rw [this]; exact h2)⟩
  clear hd hit
  generalize a.is.length = ni at *
  go_enter Try.func24, Try.ntmps24
  go_wp2
  obtain ⟨w1, hw1⟩ : ∃ w1, w1 = w.alloc (.cells #[.slice ad 4 cd, .slice ai ni ci] 26) := ⟨_, rfl⟩
  have k0 : w1.cell? ⟨w.heap.size, 0, none⟩ = some (.slice ad 4 cd) := by rw [hw1]; simp
  have k1 : w1.cell? ⟨w.heap.size, 1, none⟩ = some (.slice ai ni ci) := by rw [hw1]; simp
  rw [← hw1] at hgA ⊢
  clear hw1
  go_loopw [4, 8] (fun r i wr => ∃ k : Nat, k ≤ 9 ∧ i = .int .i64 k ∧ Hid (Rowing Bs w1.heap.size 52 wr r ((List.range k).map (fun n => rdX a (n : Nat)))) ∧ Hid (∀ j, j < k → rdE a (j : Nat) = 0) ∧ Grow w1 wr) (fun _ i _ => 9 - (intOf i).toNat)
  case atStart => exact ⟨0, by omega, rfl, Rowing.nil _ _ _ _, (fun j hj => by omega), Grow.refl _⟩
  case round =>
    obtain ⟨k, hk, rfl, HR, HE, hgr⟩ := hrel
    by_cases hlt : k < 9
    · have c0 := hgr.at k0
      have c1 := hgr.at k1
      have hgw := hgA.trans hgr
      clear k0 k1
      go_wp2_with fail
      refine (refRead6_off _ a k _ u4.ownBlock (ArrG.of harr hgw (fun j hj => by have := (HR.out.base j hj).1; have := hgA.size; omega)) (fun j hj => (HR.out.base j hj).2) ha).mono ?_
      rintro e w2 ⟨r, rfl, hr, hg2⟩
      obtain ⟨ar, nr, cr, rfl⟩ := hr.here.form
      have hgr2 := hgr.trans hg2
      by_cases he : rdE a (k : Nat) = 0
      · have HE' : Hid (∀ j, j < k + 1 → rdE a (j : Nat) = 0) := fun j hj => by
          by_cases hjk : j = k
          · rw [hjk]; exact he
          · exact HE.out j (by omega)
        have Hrow : Hid (Rowing Bs w1.heap.size 52 w2 u4 _) := HR.out.grow hg2
        have hT := HT.out k
        clear HR
        generalize rdE a (k : Nat) = E at *
        subst he
        go_wp2_with (first
          | (at_builtin; refine wpList_push rfl (.tmp 20) (.tmp 22) 41 rfl i0 (.slice none 0 0) 24 Try.underlying41 hi hz0 hz1 hz2 rfl w1 hgr2 rfl rfl Hrow.out rfl hr w2.heap.size rfl rfl (by simp; omega) (by simp; omega) ?_; rintro v1 w3 - hrow3 hg3))
        rw [hT] at hrow3
        go_wp2
        go_roundw
        case rel => first | exact ⟨k + 1, by omega, by go_num, hrow3, HE', hg3⟩ | ((repeat apply Exists.intro); exact ⟨⟨k + 1, by omega, by go_num, hrow3, HE', hg3⟩, rfl⟩)
        case measure => simp [intOf]; omega
      · have HF' : Hid (blkE a = rdE a (k : Nat) ∧ blkL a = []) := HF.out k hlt HE.out he
        generalize rdE a (k : Nat) = E at *
        have he' : (E != 0) = true := by simpa using he
        clear HF HO HT HR hr
        go_wp2
        go_ret2
        exact ⟨_, ret_bs2 HF'.out.1.symm, by rw [HF'.out.2]; exact Sl.nil _ _, hgA.trans hgr2⟩
    · obtain rfl : k = 9 := by omega
      have HO' := HO.out HE.out
      have Hfin : Hid (blkE a = 0 ∧ Bss wr u4 (blkL a)) := ⟨HO'.1, by rw [HO'.2]; exact HR.out.done⟩
      clear HO' HF HO HT HR
      go_wp2
      go_ret2
      exact ⟨_, ret_bs2 Hfin.out.1.symm, Hfin.out.2, hgA.trans hgr⟩

end Go.Proofs.Ytjggiameajndgac

/-
  What the reference's with returns: an array with one cell another one. Nothing old turns.
-/
namespace Go.Proofs.Ytjggiameajndgac
open Go.RowKit

theorem Try.infoD : (Try.prog.info? 41).map (fun i => (i.zero, i.size, i.bytes)) = some (some (.slice none 0 0), 1, 24) := by kernel_rfl

theorem Try.sizeA : (Try.prog.info? 26).map (·.size) = some 2 := by kernel_rfl

/-- With a cell that is another one. -/
def withL (a : ArrP) (d s : Nat) (l : List Int) : ArrP := { a with ds := a.ds.set d ((a.ds.getD d []).set s l) }

/-- A row keeps what it holds where another block is written. -/
theorem own_set {w : World} {B : Nat} {e : TypeId} {v : Value} {n : Nat} {us : List Value} (h : w.ownsRow B e 1 v n us) {p : Addr} (hp : v.ownBlock ≠ some p.block) (u : Value) : (w.setCell p u).ownsRow B e 1 v n us :=
  h.kept (row := some p.block) ⟨rfl, rfl, rfl, by simp, fun k _ hk => Below.heap_setCell w p u k (fun e => hk (by rw [e]))⟩ (.inr hp)

theorem cell_set_ne {w : World} {p a : Addr} {v : Value} (h : p.block ≠ a.block ∨ p.off ≠ a.off) : (w.setCell p v).cell? a = w.cell? a :=
  World.cell?_setCell_other w p a v (fun e => by rw [e] at h; simp at h)

/-- What is there behind the two writes. -/
theorem with_facts {A g1 g2 d s B1 : Nat} {c1 c3 : Nat} {us us2 : List Value} {W3 w4 : World} {e1 e2 : TypeId} {iv bv : Value}
    (hown3 : W3.ownsRow B1 e1 1 (.slice (some ⟨g1, 0, none⟩) 4 c1) 4 us) (hown4 : w4.ownsRow W3.heap.size e2 1 (.slice (some ⟨g2, 0, none⟩) 3 c3) 3 us2) (hg4 : Grow W3 w4) (hle4 : W3.heap.size ≤ g2)
    (hd : d < 4) (hs : s < 3) (hA : A + 1 < W3.heap.size) (n1 : g1 ≠ A) (n2 : g1 ≠ A + 1)
    (k0 : W3.cell? ⟨A, 0, none⟩ = some (.slice (some ⟨g1, 0, none⟩) 4 c1)) (k1 : W3.cell? ⟨A, 1, none⟩ = some iv) (r0 : W3.cell? ⟨A + 1, 0, none⟩ = some (.slice none 0 0)) (r1 : W3.cell? ⟨A + 1, 1, none⟩ = some (.slice none 0 0)) (fr : ∀ j, W3.frozen? ⟨A + 1, j, none⟩ = false) :
    let w5 := w4.setCell ⟨g1, d, none⟩ (.slice (some ⟨g2, 0, none⟩) 3 c3)
    let w6 := w5.setCell ⟨g2, s, none⟩ bv
    w5.cell? ⟨A, 0, none⟩ = some (.slice (some ⟨g1, 0, none⟩) 4 c1) ∧ w5.cell? ⟨g1, d, none⟩ = some (.slice (some ⟨g2, 0, none⟩) 3 c3) ∧ (∃ x, w5.cell? ⟨g2, s, none⟩ = some x) ∧ w5.frozen? ⟨g2, s, none⟩ = false ∧
      w6.cell? ⟨A, 0, none⟩ = some (.slice (some ⟨g1, 0, none⟩) 4 c1) ∧ w6.cell? ⟨A, 1, none⟩ = some iv ∧ w6.cell? ⟨A + 1, 0, none⟩ = some (.slice none 0 0) ∧ w6.cell? ⟨A + 1, 1, none⟩ = some (.slice none 0 0) ∧ (∀ j, w6.frozen? ⟨A + 1, j, none⟩ = false) ∧
      w6.ownsRow B1 e1 1 (.slice (some ⟨g1, 0, none⟩) 4 c1) 4 (us.set d (.slice (some ⟨g2, 0, none⟩) 3 c3)) ∧ w6.ownsRow W3.heap.size e2 1 (.slice (some ⟨g2, 0, none⟩) 3 c3) 3 (us2.set s bv) := by
  intro w5 w6
  have hg1lt : g1 < W3.heap.size := (hown3.lt g1 rfl).2
  have n3 : g2 ≠ g1 := by omega
  have hw5 := (hown4.kept (w' := w5) (row := some g1) (hown3.stored d (.slice (some ⟨g2, 0, none⟩) 3 c3) |>.2 |> fun _ => ⟨rfl, rfl, rfl, by simp [w5], fun k _ hk => Below.heap_setCell w4 _ _ k (fun e => hk (by rw [e]))⟩) (.inr (by simp [Value.ownBlock]; exact n3)))
  have ho1 := (grow_own hown3 hg4).stored d (.slice (some ⟨g2, 0, none⟩) 3 c3)
  have ho2 := hw5.stored s bv
  have f5 : ∀ {p : Addr} {x : Value}, p.block ≠ g1 → W3.cell? p = some x → w5.cell? p = some x := fun hp hx => by
    show (w4.setCell _ _).cell? _ = _
    rw [cell_set_ne (.inl (fun e => hp e.symm))]; exact hg4.at hx
  have f6 : ∀ {p : Addr} {x : Value}, p.block ≠ g2 → w5.cell? p = some x → w6.cell? p = some x := fun hp hx => by
    show (w5.setCell _ _).cell? _ = _
    rw [cell_set_ne (.inl (fun e => hp e.symm))]; exact hx
  have a0 := f5 (p := ⟨A, 0, none⟩) (fun e => n1 e.symm) k0
  have a1 := f5 (p := ⟨A, 1, none⟩) (fun e => n1 e.symm) k1
  have b0 := f5 (p := ⟨A + 1, 0, none⟩) (fun e => n2 e.symm) r0
  have b1 := f5 (p := ⟨A + 1, 1, none⟩) (fun e => n2 e.symm) r1
  have hl2 : us2.length = 3 := by have := hown4.1; omega
  refine ⟨a0, ?_, ⟨us2[s]'(by omega), ?_⟩, hw5.frozenAt s, f6 (by show A ≠ g2; omega) a0, f6 (by show A ≠ g2; omega) a1, f6 (by show A + 1 ≠ g2; omega) b0, f6 (by show A + 1 ≠ g2; omega) b1, fun j => ?_, ?_, ho2.1⟩
  · have := ho1.1.cellAt d (by omega)
    rw [this]
    have hl1 : us.length = 4 := by have := hown3.1; omega
    simp [show d < us.length by omega]
  · rw [hw5.cellAt s (by omega)]
    simp [show s < us2.length by omega]
  · show (World.setCell _ _ _).frozen? _ = _
    rw [World.frozen?_setCell]
    show (World.setCell _ _ _).frozen? _ = _
    rw [World.frozen?_setCell, hg4.frozen (by show A + 1 < _; omega), fr j]
  · exact own_set ho1.1 (p := ⟨g2, s, none⟩) (by simp [Value.ownBlock]; exact fun e => n3 e.symm) bv

/-- The array that comes of it. -/
theorem with_done {g : Option Nat} {w w7 : World} {a : ArrP} {ni : Nat} {ai : Option Addr} {ci d s g1 g2 c1 c3 B1 B2 : Nat} {e1 e2 : TypeId} {us us2 : List Value} {bv : Value} {l : List Int} (ha : Whole a) (hd4 : d < 4) (hs3 : s < 3)
    (hit : ItsX g w (.slice ai ni ci) a.is) (hb : Off Bs g w bv l) (hg1 : g ≠ some g1) (hg2 : g ≠ some g2) (hG : Grow w w7) (hul : us.length = 4) (hul2 : us2.length = 3)
    (hus : ∀ (i : Nat) u x, us[i]? = some u → a.ds[i]? = some x → BssX g w u x) (hus2 : ∀ (i : Nat) u x, us2[i]? = some u → (a.ds.getD d [])[i]? = some x → Off Bs g w u x)
    (h1 : w7.ownsRow B1 e1 1 (.slice (some ⟨g1, 0, none⟩) 4 c1) 4 (us.set d (.slice (some ⟨g2, 0, none⟩) 3 c3))) (h2 : w7.ownsRow B2 e2 1 (.slice (some ⟨g2, 0, none⟩) 3 c3) 3 (us2.set s bv)) :
    ArrX g w7 (.agg #[.slice (some ⟨g1, 0, none⟩) 4 c1, .slice ai ni ci]) (withL a d s l) := by
  have hdl : d < a.ds.length := by have := ha.1; omega
  have h3 : (a.ds.getD d []).length = 3 := ha.2 _ (by simp [List.getD_eq_getElem?_getD, hdl])
  refine ⟨_, _, rfl, ⟨Sl.of_own h1 (by simp [withL, ha.1]) (fun i u x hu hx => ?_), fun _ b hb => by cases hb; exact hg1⟩, hit.step (hG.by g)⟩
  simp only [withL] at hx
  by_cases hid : i = d
  · subst hid
    simp [show i < us.length by omega] at hu
    rw [List.getElem?_set_self hdl] at hx
    injection hx with hx
    subst hu hx
    refine ⟨Sl.of_own h2 (by rw [List.length_set]; exact h3) (fun j u x hu hx => ?_), fun _ b hb => by cases hb; exact hg2⟩
    by_cases hjs : j = s
    · subst hjs
      simp [show j < us2.length by omega] at hu
      rw [List.getElem?_set_self (by omega)] at hx
      injection hx with hx
      subst hu hx
      exact hb.grow hG
    · rw [List.getElem?_set_ne (fun e => hjs e.symm)] at hu hx
      exact (hus2 j u x hu hx).grow hG
  · rw [List.getElem?_set_ne (fun e => hid e.symm)] at hu hx
    exact BssX.step (hus i u x hu hx) (hG.by g)

set_option maxRecDepth 20000 in
set_option maxHeartbeats 3200000 in
theorem refWith_off (g : Option Nat) (v bv : Value) (a : ArrP) (d s : Nat) (l : List Int) (w : World) (h : ArrX g w v a) (hgw : ∀ k, g = some k → k < w.heap.size) (ha : Whole a) (hd4 : d < 4) (hs3 : s < 3) (hb : Off Bs g w bv l) :
    Calls Try.prog 54 #[v, .int .i64 d, .int .i64 s, bv] w fun e w' => ∃ r, e = .returned r ∧ ArrX g w' r (withL a d s l) ∧ Grow w w' := by
  obtain ⟨i0, hi, hz0, hz1, hz2⟩ := info_parts Try.infoS
  obtain ⟨i1, hj, hy0, hy1, hy2⟩ := info_parts Try.infoD
  obtain ⟨dv, iv, rfl, hd, hit⟩ := h
  obtain ⟨hd, hdo⟩ := hd
  obtain ⟨ad, cd, rfl, hd1, hd2⟩ := hd.form'
  obtain ⟨ai, ci, rfl, hi1, hi2⟩ := hit.plain.form
  obtain ⟨ba, bn, bc, rfl⟩ := hb.here.form
  obtain ⟨us, hul, -, hcs, hus⟩ := Sl.values hd
  rw [ha.1] at hd hd1 hul ⊢
  clear hdo
  obtain ⟨b, off, u0, rfl, -, -⟩ := hd.elem (k := 0) (by have := ha.1; omega) []
  generalize hni : a.is.length = ni at *
  have hcs' := hcs _ rfl
  have hone : ∀ u ∈ us, u.oneCell' = true := by
    intro u hu
    obtain ⟨j, hj, rfl⟩ := List.mem_iff_getElem.1 hu
    obtain ⟨x1, x2, e1⟩ := (hus j us[j] (a.ds[j]'(by have := ha.1; omega)) (by simp [hj]) (by simp [show j < a.ds.length by have := ha.1; omega])).1.form
    rw [e1]
    rfl
  obtain ⟨W2, hW2⟩ : ∃ W2, W2 = (w.alloc (.cells #[.slice (some ⟨b, off, none⟩) 4 cd, .slice ai ni ci] 26)).alloc (.cells #[.slice none 0 0, .slice none 0 0] 26) := ⟨_, rfl⟩
  have hs2 : W2.heap.size = w.heap.size + 1 + 1 := by rw [hW2]; simp
  have hg2 : Grow w W2 := by rw [hW2]; exact (Grow.alloc _ _).trans (Grow.alloc _ _)
  have hA0 : W2.cell? ⟨w.heap.size, 0, none⟩ = some (.slice (some ⟨b, off, none⟩) 4 cd) := by rw [hW2]; simp
  have hA1 : W2.cell? ⟨w.heap.size, 1, none⟩ = some (.slice ai ni ci) := by rw [hW2]; simp
  have hR0 : W2.cell? ⟨w.heap.size + 1, 0, none⟩ = some (.slice none 0 0) := by rw [hW2]; simp
  have hR1 : W2.cell? ⟨w.heap.size + 1, 1, none⟩ = some (.slice none 0 0) := by rw [hW2]; simp
  have hF : ∀ (k j : Nat), k < 2 → W2.frozen? ⟨w.heap.size + k, j, none⟩ = false := by
    intro k j hk
    rw [hW2]
    match k, hk with
    | 0, _ => simp
    | 1, _ => simp
  have HE0 : Hid ((W2.alloc (.cells #[] 41)).heap[w.heap.size + 1 + 1]? = some (.cells #[] 41 (0, 0))) := by
    have := heap_alloc_new W2 (.cells #[] 41)
    rw [hs2] at this
    exact this
  have HN : Hid (∀ (j : Nat) u, us[j]? = some u → W2.cell? ((⟨b, off, none⟩ : Addr).add j) = some u) := fun j u hu => hg2.at (hcs' j u hu)
  have hgE : Grow W2 (W2.alloc (.cells #[] 41)) := Grow.alloc _ _
  have HW : Hid (W2.heap.size = w.heap.size + 1 + 1) := hs2
  have HA : Hid (W2.cell? ⟨w.heap.size, 0, none⟩ = some (.slice (some ⟨b, off, none⟩) 4 cd) ∧ W2.cell? ⟨w.heap.size, 1, none⟩ = some (.slice ai ni ci) ∧ W2.cell? ⟨w.heap.size + 1, 0, none⟩ = some (.slice none 0 0) ∧ W2.cell? ⟨w.heap.size + 1, 1, none⟩ = some (.slice none 0 0) ∧ ∀ (k j : Nat), k < 2 → W2.frozen? ⟨w.heap.size + k, j, none⟩ = false) := ⟨hA0, hA1, hR0, hR1, hF⟩
  clear hs2 hA0 hA1 hR0 hR1 hF hcs hcs'
  go_enter Try.func54, Try.ntmps54
  subst hW2
  go_wp2_with (first
    | (at_builtin; refine wpList_append_copy rfl (.tmp 9) (.tmp 11) 23 rfl 41 i1 (.slice none 0 0) 24 Try.underlying23 hj hy0 hy1 hy2 rfl (w.heap.size + 1 + 1) HE0.out _ hgE (Nat.le_of_eq HW.out) rfl ⟨b, off, none⟩ 4 cd us rfl hul HN.out hone (by decide) (by omega) (by omega) ?_; rintro g1 c1 w1 hown1 hg1 hle1 - - -; have hc0 := hg1.at HA.out.1; have hf0 := (hg1.frozen (a := ⟨w.heap.size, 0, none⟩) (by have := HW.out; show w.heap.size < _; omega)).trans (HA.out.2.2.2.2 0 0 (by omega))))
  have hne1 : g1 ≠ w.heap.size := by have := HW.out; omega
  have hne1' : g1 ≠ w.heap.size + 1 := by have := HW.out; omega
  have hgw1 := hg2.trans hg1
  obtain ⟨W3, hW3⟩ : ∃ W3, W3 = w1.setCell ⟨w.heap.size, 0, none⟩ (.slice (some ⟨g1, 0, none⟩) 4 c1) := ⟨_, rfl⟩
  have hg3 : Grow w W3 := by rw [hW3]; exact hgw1.set (Nat.le_refl _) _
  have hown3 := own_set hown1 (p := ⟨w.heap.size, 0, none⟩) (by simp [Value.ownBlock]; exact hne1) (.slice (some ⟨g1, 0, none⟩) 4 c1)
  have k0 : W3.cell? ⟨w.heap.size, 0, none⟩ = some (.slice (some ⟨g1, 0, none⟩) 4 c1) := by rw [hW3]; exact World.cell?_setCell_same _ _ _ hc0
  have k1 : W3.cell? ⟨w.heap.size, 1, none⟩ = some (.slice ai ni ci) := by rw [hW3, cell_set_ne (by simp)]; exact hg1.at HA.out.2.1
  have r0 : W3.cell? ⟨w.heap.size + 1, 0, none⟩ = some (.slice none 0 0) := by rw [hW3, cell_set_ne (by simp)]; exact hg1.at HA.out.2.2.1
  have r1 : W3.cell? ⟨w.heap.size + 1, 1, none⟩ = some (.slice none 0 0) := by rw [hW3, cell_set_ne (by simp)]; exact hg1.at HA.out.2.2.2.1
  have fr : ∀ j, W3.frozen? ⟨w.heap.size + 1, j, none⟩ = false := fun j => by rw [hW3, World.frozen?_setCell]; exact (hg1.frozen (by have := HW.out; show w.heap.size + 1 < _; omega)).trans (HA.out.2.2.2.2 1 j (by omega))
  have hsz3 : w.heap.size + 1 + 1 ≤ W3.heap.size := by rw [hW3]; have := HW.out; have := hg1.size; simp; omega
  rw [← hW3] at hown3 ⊢
  clear hW3 hc0 hf0 hg1 hgE HE0 HN HA hown1 hg2
  have hdl : d < a.ds.length := by have := ha.1; omega
  have hdu : d < us.length := by omega
  have hbd := hus d us[d] (a.ds.getD d []) (by simp [hdu]) (by simp [List.getD_eq_getElem?_getD, hdl])
  have h3 : (a.ds.getD d []).length = 3 := ha.2 _ (by simp [List.getD_eq_getElem?_getD, hdl])
  obtain ⟨hbd, -⟩ := hbd
  obtain ⟨a2, c2, e2⟩ := hbd.form
  have kd : W3.cell? ⟨g1, d, none⟩ = some us[d] := by rw [hown3.cellAt d (by omega)]; simp [hdu]
  have fd : W3.frozen? ⟨g1, d, none⟩ = false := hown3.frozenAt d
  rw [e2, h3] at kd
  rw [e2] at hbd
  obtain ⟨b', off', u0', rfl, -, -⟩ := hbd.elem (k := 0) (by omega) []
  obtain ⟨us2, hul2, -, hcs2, hus2⟩ := Sl.values hbd
  rw [h3] at hul2
  have hone2 : ∀ u ∈ us2, u.oneCell' = true := bs_oneCell (by omega) (fun i u x hu hx => (hus2 i u x hu hx).here)
  have HN2 : Hid (∀ (j : Nat) u, us2[j]? = some u → W3.cell? ((⟨b', off', none⟩ : Addr).add j) = some u) := fun j u hu => hg3.at (hcs2 _ rfl j u hu)
  clear hbd hcs2
  have hdi : (d : Int) < 4 := by omega
  have hsi : (s : Int) < 3 := by omega
  have k0' := (Grow.alloc W3 (.cells #[] 52)).at k0
  have kd' := (Grow.alloc W3 (.cells #[] 52)).at kd
  go_wp2_with fail
  go_region_law (refine step_append_copy rfl (.tmp 17) (.tmp 22) 41 rfl 52 i0 (.slice none 0 0) 24 Try.underlying41 hi hz0 hz1 hz2 rfl W3.heap.size (by first | exact heap_alloc_new W3 _) W3 (by first | exact Grow.alloc _ _ | exact (Grow.alloc _ _).drew1 | exact Grow.trans (Grow.drew1 (Grow.refl _)) (Grow.alloc _ _)) (Nat.le_refl _) (by simp [Act.eval]) ⟨b', off', none⟩ 3 c2 us2 (by simp [Act.eval]) hul2 HN2.out hone2 (by decide) (by omega) (by omega) ?_; rintro g2 c3 w4 hown4 hg4 hle4 - - -; have k04 := hg4.at k0; have kd4 := hg4.at kd; have fd4 := (hg4.frozen (a := ⟨g1, d, none⟩) (cell_lt kd)).trans fd)
  all_goals
    obtain ⟨p0, pd, ⟨x, ps⟩, fs, q0, q1, t0, t1, tf, ho1, ho2⟩ := with_facts (bv := .slice ba bn bc) hown3 hown4 hg4 hle4 hd4 hs3 (by omega) hne1 hne1' k0 k1 r0 r1 fr
    have tf0 := tf 0
    have tf1 := tf 1
    have Ho : Hid (_ ∧ _) := ⟨ho1, ho2⟩
    clear ho1 ho2 tf k0' kd' k04 kd4 fd4 kd fd k0 k1 r0 r1
    go_wp2
    refine bodyPost_ret (results_two Try.results54 _ _ (w.heap.size + 1) _ rfl Try.underlying26 rfl Try.sizeA (by rw [cell_set_ne (by simp)]; exact World.cell?_setCell_same _ _ _ t0) (World.cell?_setCell_same _ _ _ (by rw [cell_set_ne (by simp)]; exact t1))) rfl ?_
    refine ⟨_, rfl, with_done ha hd4 hs3 hit hb (fun e => by have := hgw _ e; have := HW.out; omega) (fun e => by have := hgw _ e; omega) ?_ hul hul2 hus hus2 (own_set (own_set Ho.out.1 (p := ⟨w.heap.size + 1, 0, none⟩) (by simp [Value.ownBlock]; exact hne1') _) (p := ⟨w.heap.size + 1, 1, none⟩) (by simp [Value.ownBlock]; exact hne1') _) (own_set (own_set Ho.out.2 (p := ⟨w.heap.size + 1, 0, none⟩) (by simp [Value.ownBlock]; omega) _) (p := ⟨w.heap.size + 1, 1, none⟩) (by simp [Value.ownBlock]; omega) _), ?_⟩
    all_goals exact ((((hg3.trans hg4).set (by have := HW.out; omega) _).set (by have := HW.out; omega) _).set (by omega) _).set (by omega) _

theorem refWith_any (v bv : Value) (a : ArrP) (d s : Nat) (l : List Int) (w : World) (h : ArrV w v a) (ha : Whole a) (hd4 : d < 4) (hs3 : s < 3) (hb : Bs w bv l) :
    Calls Try.prog 54 #[v, .int .i64 d, .int .i64 s, bv] w fun e w' => ∃ r, e = .returned r ∧ ArrV w' r (withL a d s l) ∧ Grow w w' :=
  (refWith_off none v bv a d s l w (ArrX.old h (Grow.refl _) (fun _ h => nomatch h)) (fun _ h => nomatch h) ha hd4 hs3 (Off.plain Bs.stays hb)).mono fun _ _ ⟨r, he, hr, hg⟩ => ⟨r, he, hr.plain, hg⟩

theorem withL_whole {a : ArrP} (ha : Whole a) {d s : Nat} (hd : d < 4) (l : List Int) : Whole (withL a d s l) := by
  refine ⟨by simp [withL, ha.1], fun x hx => ?_⟩
  simp only [withL] at hx
  rcases List.mem_or_eq_of_mem_set hx with hx | rfl
  · exact ha.2 x hx
  · rw [List.length_set]
    exact ha.2 _ (by simp [List.getD_eq_getElem?_getD, show d < a.ds.length by have := ha.1; omega])

end Go.Proofs.Ytjggiameajndgac

/-
  A region that draws its order, whose last operation waits for all others: these by their posts, the last one by the walk.
-/
namespace Go.Proofs.Ytjggiameajndgac
open Go.RowKit

section
variable {E : World → World → Prop} {P : Program} {Q : Exit → Act → World → Prop} {l : List Oper} {Rs : List (Value → World → Prop)} {a0 : Act} {w0 : World} {z : Oper}

theorem lexP_prefix : ∀ (l : List Oper) (z : Oper) (vs : Nat → Value) (i : Nat) (a : Act), i ≤ l.length → lexP (l ++ [z]) vs i a = lexP l vs i a
  | _, _, _, 0, _, _ => by unfold lexP; split <;> split <;> first | rfl | simp_all
  | [], _, _, i + 1, _, h => by simp at h
  | o :: l, z, vs, i + 1, a, h => by
    show lexP (l ++ [z]) _ i _ = lexP l _ i _
    exact lexP_prefix l z _ i _ (by simpa using h)

/-- The last one waits for all others. -/
def lastB (l : List Oper) (z : Oper) : Bool := (List.range l.length).all fun j => z.after.any fun e => Region.binds .any e && e.on == j

theorem lastB_spec (h : lastB l z = true) {j : Nat} (hj : j < l.length) : ∃ e ∈ z.after, Region.binds .any e = true ∧ e.on = j := by
  unfold lastB at h
  rw [List.all_eq_true] at h
  have := h j (by simpa using hj)
  rw [Array.any_eq_true] at this
  obtain ⟨i, hi, hb⟩ := this
  simp at hb
  exact ⟨z.after[i], by simp, hb.1, hb.2⟩

theorem wpOp_of_last {ops : Array Oper} {i : Nat} {o : Oper} {a : Act} {w : World} {K : Act → World → Prop} (ho : ops[i]? = some o) (h : wpList P ops Q [o] a w) (hK : ∀ a' w', Q .normal a' w' → K a' w') : wpOp P ops Q i K a w := by
  unfold wpOp
  simp only [ho]
  unfold wpList at h
  split
  · rename_i hwt
    rw [if_pos hwt] at h
    rcases h with h | h
    · refine .inl ?_
      unfold Oper.wp at *
      generalize (execOp a.eval o).run P w = r at *
      cases r with
      | ok n w' =>
        cases n <;> simp only [Oper.upon] at h ⊢
        case value u => exact hK _ _ h
        case skip => exact hK _ _ h
        case defer d => exact hK _ _ h
        case enter f args =>
          refine Calls.mono h fun e w'' hh => ?_
          cases e with
          | returned u => exact hK _ _ hh
          | panicked c => exact hh
          | outgrown => exact hh
        case row row args => exact Rows.mono h fun u w'' hh => hK _ _ hh
      | halt x w' =>
        cases x <;> simp only [Oper.upon] at h ⊢
        case panic u => exact h
    · exact .inr h
  · rename_i hwt
    rw [if_neg hwt] at h
    exact hK _ _ h

theorem wpAny_last (hB : stableB (l ++ [z]) = true) (hlen : Rs.length = l.length) (hlast : lastB l z = true) (htr : ∀ x y z, E x y → E y z → E x z) (hst : ∀ R ∈ Rs, ∀ v x y, R v x → E x y → R v y)
    (hsteps : StepsS E P (l ++ [z]).toArray w0 l Rs [] a0) (hfin : ∀ w', E w0 w' → FinS (fun _ a w => wpList P (l ++ [z]).toArray Q [z] a w) w' l Rs a0) :
    ∀ (fuel : Nat) (listed : Array Bool) (a : Act) (w : World) (vs : Nat → Value), listed.toList.count false = fuel + 1 → listed.getD l.length true = false → InvS E (l ++ [z]) Rs a0 w0 listed a w vs → wpAny P .any (l ++ [z]).toArray Q (fuel + 1) listed a w := by
  intro fuel
  induction fuel with
  | zero =>
    intro listed a w vs hc hz h
    have hzl : l.length < listed.size := by rw [h.size]; simp
    have hone : ∀ i, i < l.length → listed.getD i false = true := by
      intro i hi
      have hi' : i < listed.size := by omega
      refine getD_true_of hi' fun hu => ?_
      have h1 : listed[i] = false := by simpa [hi'] using hu
      have h2 : listed[l.length] = false := by simpa [hzl] using hz
      have hset := List.count_set (a := true) (b := false) (i := i) (l := listed.toList) (by simpa using hi')
      have hm : false ∈ listed.toList.set i true := by
        refine List.mem_iff_getElem.2 ⟨l.length, by simpa using hzl, ?_⟩
        rw [List.getElem_set_ne (by omega)]
        simpa using h2
      have hpos := List.count_pos_iff.2 hm
      rw [hset, hc] at hpos
      simp [h1] at hpos
    refine ⟨fun hr => ?_, fun i hi => ?_⟩
    · exfalso
      have := h.ready_nil hB hr l.length (by simp)
      rw [getD_false_true hz] at this
      cases this
    · obtain ⟨hu, o, ho', hall⟩ := mem_ready.1 hi
      have ho : (l ++ [z])[i]? = some o := by simpa using ho'
      have hil : i < (l ++ [z]).length := (List.getElem?_eq_some_iff.1 ho).1
      have hiL : i = l.length := by
        by_cases hiL : i < l.length
        · have := hone i hiL
          rw [getD_false_true hu] at this
          cases this
        · simp at hil
          omega
      subst hiL
      obtain rfl : z = o := by simpa using ho
      have h1 := fin_at l Rs a0 vs (hfin w h.moved) hlen (fun i R hi => h.holds i R (hone i (by rw [← hlen]; exact (List.getElem?_eq_some_iff.1 hi).1)) hi)
      have h2 : a = lexP (l ++ [z]) vs l.length a0 := h.shape.eq (lexP_sh (l ++ [z]) (apart_of hB) vs a0 l.length (by simp)) (fun j t hd => by
        have hj : j < (l ++ [z]).length := by
          unfold dstAt at hd
          cases ho : (l ++ [z])[j]? with
          | none => simp [ho] at hd
          | some o => exact (List.getElem?_eq_some_iff.1 ho).1
        constructor
        · intro hj'
          by_cases hjl : j < l.length
          · exact hjl
          · simp at hj
            have : j = l.length := by omega
            rw [this, getD_false_true hz] at hj'
            cases hj'
        · exact fun hj' => hone j hj')
      rw [lexP_prefix l z vs l.length a0 (Nat.le_refl _)] at h2
      rw [h2]
      refine wpOp_of_last ho' h1 fun a' w' hQ => ⟨?_, hQ⟩
      apply List.eq_nil_iff_forall_not_mem.2
      intro j hj
      obtain ⟨hu', o', ho'', _⟩ := mem_ready.1 hj
      have hjl : j < (l ++ [z]).length := by
        have := (Array.getElem?_eq_some_iff.1 ho'').1
        simpa using this
      by_cases hjL : j = l.length
      · subst hjL
        have := getD_false_true hu'
        simp [hzl] at this
      · simp at hjl
        rw [getD_set_ne true (fun e => hjL e.symm)] at hu'
        have := hone j (by omega)
        rw [getD_false_true hu'] at this
        cases this
  | succ fuel ih =>
    intro listed a w vs hc hz h
    refine ⟨fun hr => ?_, fun i hi => ?_⟩
    · exfalso
      have := h.ready_nil hB hr l.length (by simp)
      rw [getD_false_true hz] at this
      cases this
    obtain ⟨hu, o, ho', hall⟩ := mem_ready.1 hi
    have ho : (l ++ [z])[i]? = some o := by simpa using ho'
    have hil' : i < (l ++ [z]).length := (List.getElem?_eq_some_iff.1 ho).1
    have hil : i < l.length := by
      by_cases hil : i < l.length
      · exact hil
      · exfalso
        have hiL : i = l.length := by simp at hil'; omega
        subst hiL
        obtain rfl : z = o := by simpa using ho
        have hone : ∀ j, j < l.length → listed.getD j false = true := fun j hj => by
          obtain ⟨e, he, hb, rfl⟩ := lastB_spec hlast hj
          exact hall e he hb
        have hzl : l.length < listed.size := by rw [h.size]; simp
        have hls : listed.toList = List.replicate l.length true ++ [false] := by
          refine List.ext_getElem (by simp [h.size]) fun j h1 h2 => ?_
          have h1' : j < listed.size := by simpa using h1
          by_cases hj : j < l.length
          · have := hone j hj
            rw [List.getElem_append_left (by simpa using hj)]
            simpa [h1'] using this
          · have hjl : j = l.length := by rw [h.size] at h1'; simp at h1'; omega
            subst hjl
            rw [List.getElem_append_right (by simp)]
            simpa [hzl] using hz
        rw [hls] at hc
        simp [List.count_replicate] at hc
    have hol : l[i]? = some o := by rw [List.getElem?_append_left hil] at ho; exact ho
    obtain ⟨R, hR⟩ : ∃ R, Rs[i]? = some R := ⟨Rs[i]'(by omega), by simp [show i < Rs.length by omega]⟩
    have hsp := stableB_spec hB ho
    have hd : depFacts ([] ++ zipDone Rs vs i) w o.after.toList := depFacts_of _ fun e he hb x hx => by
      have hz := zipDone_get Rs vs i e.on x (by simpa using hx)
      rw [hz.2]
      exact h.holds e.on x.1 (hall e (by simpa using he) hb) hz.1
    have hw := steps_at i l Rs [] a0 vs o R w hsteps hol hR h.moved hd
    have hag := h.agree hB ho hu hall
    rw [lexP_prefix l z vs i a0 (by omega)] at hag
    have hdst : dstAt (l ++ [z]) i = o.dst := by simp [dstAt, ho]
    refine wpOp_of_SQ ho' ?_ (execOp_agree o hsp.1 _ _ hag) (wanted_agree o _ _ hag) hw ?_
    · rw [h.shape.size, ← lexP_prefix l z vs i a0 (by omega), (lexP_sh (l ++ [z]) (apart_of hB) vs a0 i (by simp; omega)).size]
    · intro v w' hE hRv
      have hui := getD_false_true hu
      have hsz : i < listed.size := by rw [h.size]; exact hil'
      have hset : ∀ j, (listed.setIfInBounds i true).getD j false = true ↔ listed.getD j false = true ∨ j = i := by
        intro j
        by_cases hij : i = j
        · subst hij; simp [hsz]
        · rw [getD_set_ne false hij]
          constructor
          · exact .inl
          · rintro (h1 | h1)
            · exact h1
            · exact absurd h1.symm hij
      refine ih _ _ _ (fun j => if j = i then v else vs j) ?_ ?_ ⟨by simp [h.size], htr _ _ _ h.moved hE, ?_, ?_, ?_⟩
      · have hli : listed.toList[i]'(by simpa using hsz) = false := by
          have : listed[i] = false := by simpa [hsz] using hu
          simpa using this
        rw [Array.toList_setIfInBounds, List.count, List.countP_set (by simpa using hsz)]
        rw [List.count] at hc
        rw [hc, hli, if_pos (by rfl), if_neg (by decide)]
        omega
      · rw [getD_set_ne true (by omega)]
        exact hz
      · rw [← hdst]
        refine h.shape.put (apart_of hB) i (by rw [hui]; simp) hset v (fun j hj => ?_) (by simp)
        have hji : j ≠ i := fun e => by rw [e, hui] at hj; cases hj
        simp [hji]
      · intro j R' hj hR'
        rcases (hset j).1 hj with hj' | rfl
        · have hji : j ≠ i := fun e => by rw [e, hui] at hj'; cases hj'
          simp only [hji, if_false]
          exact hst R' (List.mem_of_getElem? hR') _ _ _ (h.holds j R' hj' hR') hE
        · rw [hR] at hR'
          obtain rfl := Option.some.inj hR'
          simpa using hRv
      · intro j p hp hj e he hb
        rcases (hset j).1 hj with hj' | rfl
        · exact (hset e.on).2 (.inl (h.closed j p hp hj' e he hb))
        · rw [ho] at hp
          obtain rfl := Option.some.inj hp
          exact (hset e.on).2 (.inl (hall e he hb))

/-- The law: a region that draws its order, and ends with one operation that waits for all others. -/
theorem wp_region_last {id : Nat} {w : World} (l : List Oper) (z : Oper) {ops : Array Oper} (hops : ops = (l ++ [z]).toArray) (E : World → World → Prop) (Rs : List (Value → World → Prop)) (hm : P.follows .mixedOrders = true) (hB : stableB (l ++ [z]) = true) (hlast : lastB l z = true) (hlen : Rs.length = l.length)
    (hrefl : ∀ x, E x x) (htr : ∀ x y z, E x y → E y z → E x z) (hst : ∀ R ∈ Rs, ∀ v x y, R v x → E x y → R v y)
    (hsteps : StepsS E P (l ++ [z]).toArray { w with drawn := w.drawn + 1 } l Rs [] a0) (hfin : ∀ w', E { w with drawn := w.drawn + 1 } w' → FinS (fun _ a w => wpList P (l ++ [z]).toArray Q [z] a w) w' l Rs a0) : (Code.region id ops true).wp P Q a0 w := by
  subst hops
  refine wp_region_any hm ?_
  have hsz : (l ++ [z]).toArray.size = l.length + 1 := by simp
  rw [hsz]
  refine wpAny_last hB hlen hlast htr hst hsteps hfin _ _ _ _ (fun _ => undef) (by simp) (by simp) ⟨by simp, hrefl _, ⟨rfl, rfl, fun _ _ => rfl, fun j t hj => ?_⟩, fun i R hi => ?_, fun j o _ hj => ?_⟩
  · rw [replicate_getD] at hj; cases hj
  · rw [replicate_getD] at hi; cases hi
  · rw [replicate_getD] at hj; cases hj

end

end Go.Proofs.Ytjggiameajndgac
