/-
  What the reference's Parse returns, where the first word is 'write'.
-/
import Derived.Test.YtjggiameajndgabDoorWalkRefParse
namespace Go.Proofs.YtjggiameajndgabDoor
open Go.RowKit

theorem form_odd {a b : List UInt8} (h : unhex b = none) : form 1 a b = none := by
  unfold form; rw [h]
  cases numL a with
  | none => rfl
  | some n => simp

theorem form_one {a b : List UInt8} {n : Int} {d : List Int} (h : numL a = some n) (h2 : unhex b = some d) : form 1 a b = some ⟨1, n, 0, d⟩ := by
  unfold form; rw [h, h2]; simp

theorem own_set' {w : World} {B : Nat} {e : TypeId} {v : Value} {n : Nat} {us : List Value} (h : w.ownsRow B e 1 v n us) {p : Addr} (hp : v.ownBlock ≠ some p.block) (u : Value) : (w.setCell p u).ownsRow B e 1 v n us :=
  h.kept (row := some p.block) ⟨rfl, rfl, rfl, by simp, fun k _ hk => Below.heap_setCell w p u k (fun e => hk (by rw [e]))⟩ (.inr hp)

theorem cell_kept {w w' : World} {b o : Nat} {v : Value} {row : Option Nat} (h : w.cell? ⟨b, o, none⟩ = some v) (hg : w.grownBy w' row) (hne : row ≠ some b) : w'.cell? ⟨b, o, none⟩ = some v := by
  have hb := hg.block b (cell_lt h) (fun e => hne e.symm)
  simp only [World.cell?, hb]
  exact h

theorem own_form {w : World} {B : Nat} {e : TypeId} {v : Value} {n : Nat} {us : List Value} (h : w.ownsRow B e 1 v n us) : ∃ ao c, v = .slice ao n c := by
  obtain ⟨hl, h⟩ := h
  rcases h with ⟨rfl, h0⟩ | ⟨g, cap, cur, rfl, -⟩
  · exact ⟨none, 0, by rw [h0]⟩
  · exact ⟨_, _, rfl⟩

theorem size_of {w w' : World} (_ : Grow w w') : ∃ B, B = w'.heap.size := ⟨_, rfl⟩

theorem Tryd.infoBP : (Tryd.prog.info? 5).map (fun i => (i.zero, i.size, i.bytes)) = some (some (.int .u8 0), 1, 1) := by kernel_rfl

set_option maxRecDepth 20000 in
set_option maxHeartbeats 3200000 in
theorem refParse_write (s : List UInt8) (w : World) (hs : s.length ≤ 4398046511104) (hlaid : Laid w) (hya : Hid ((split s).getD 0 [] = wrW)) :
    Calls Tryd.prog 6 #[.string (str s)] w fun e w' => ∃ v, e = .returned (.tuple #[v, .int .i64 (parseP s).2]) ∧ DeedV w' v (parseP s).1 ∧ Grow w w' := by
  obtain ⟨i0, hi, hz0, hz1, hz2⟩ := info_parts Tryd.infoT
  have hsz := str_size s
  have hgA : Grow w (w.alloc (.cells #[.int .i64 0, .int .i64 0, .int .i64 0, .slice none 0 0] 24)) := Grow.alloc _ _
  have hbx : (w.alloc (.cells #[.int .i64 0, .int .i64 0, .int .i64 0, .slice none 0 0] 24)).heap[w.heap.size]? = some (.cells #[.int .i64 0, .int .i64 0, .int .i64 0, .slice none 0 0] 24) := heap_alloc_new _ _
  go_enter Tryd.func6, Tryd.ntmps6
  go_wp2_with fail
  generalize w.alloc (.cells #[.int .i64 0, .int .i64 0, .int .i64 0, .slice none 0 0] 24) = w1 at *
  go_loopw [5, 6, 21] (fun l f i wr => ∃ (k from' : Nat) (ws : List (List UInt8)), k ≤ s.length + 1 ∧ i = .int .i64 k ∧ f = .int .i64 from' ∧ Hid (Spl s k from' ws) ∧ Hid (Rowing StrV w1.heap.size 9 wr l ws) ∧ Grow w1 wr) (fun _ _ i _ => s.length + 1 - (intOf i).toNat)
  case atStart => exact ⟨0, 0, [], by omega, rfl, rfl, Spl.start s, Rowing.nil _ _ _ _, Grow.refl _⟩
  case round =>
    obtain ⟨k, fr, ws, hk, rfl, rfl, HS, HR, hgr⟩ := hrel
    by_cases hlt : k < s.length + 1
    · have hfr := HS.out.from_le
      have hwl : ws.length ≤ k := HS.out.1
      have hcut := str_cut s fr k
      have hgB : Grow wr (wr.alloc (.cells #[.string (str ((s.drop fr).take (k - fr)))] 9)) := Grow.alloc _ _
      have hrow := HR.out
      have hoff : Off StrV u5.ownBlock wr (.string (str ((s.drop fr).take (k - fr)))) ((s.drop fr).take (k - fr)) := StrV.off
      by_cases hkl : k = s.length
      · have HS' : Hid (Spl s (k + 1) (k + 1) (ws ++ [(s.drop fr).take (k - fr)])) := by
          have h := HS.out
          rw [hkl] at h ⊢
          exact h.last
        subst hkl
        generalize (s.drop fr).take (s.length - fr) = wd at *
        clear HR HS
        go_wp2_with (first
          | (at_builtin; refine wpList_push rfl (.tmp 34) (.tmp 39) 34 rfl i0 (.string { data := #[] }) 16 Tryd.underlying34 hi hz0 hz1 hz2 rfl w1 hgr rfl rfl hrow rfl hoff wr.heap.size rfl rfl (by omega) (by omega) ?_; rintro v1 w2 - hrow1 hg2))
        go_wp2
        go_roundw
        case rel => first | exact ⟨s.length + 1, s.length + 1, _, by omega, by go_num, by go_num, HS', hrow1, hg2⟩ | ((repeat apply Exists.intro); exact ⟨⟨s.length + 1, s.length + 1, _, by omega, by go_num, by go_num, HS', hrow1, hg2⟩, rfl⟩)
        case measure => simp [intOf]
      · have hlt' : k < s.length := by omega
        have hix := fun w => str_index (w := w) s k hlt'
        by_cases hbl : s.getD k 0 = 32
        · have HS' : Hid (Spl s (k + 1) (k + 1) (ws ++ [(s.drop fr).take (k - fr)])) := HS.out.blank hlt' hbl
          rw [hbl] at hix
          generalize (s.drop fr).take (k - fr) = wd at *
          clear HR HS hbl
          go_wp2_with (first
            | (at_builtin; refine wpList_push rfl (.tmp 34) (.tmp 39) 34 rfl i0 (.string { data := #[] }) 16 Tryd.underlying34 hi hz0 hz1 hz2 rfl w1 hgr rfl rfl hrow rfl hoff wr.heap.size rfl rfl (by omega) (by omega) ?_; rintro v1 w2 - hrow1 hg2))
          go_wp2
          go_roundw
          case rel => first | exact ⟨k + 1, k + 1, _, by omega, by go_num, by go_num, HS', hrow1, hg2⟩ | ((repeat apply Exists.intro); exact ⟨⟨k + 1, k + 1, _, by omega, by go_num, by go_num, HS', hrow1, hg2⟩, rfl⟩)
          case measure => simp [intOf]; omega
        · have HS' : Hid (Spl s (k + 1) fr ws) := HS.out.other hlt' hbl
          have hb2 : ¬ (((s.getD k 0).toNat : Int) = 32) := fun e => hbl ((u8_lit (k := 32) (by omega)).1 e)
          have hb3 : (((s.getD k 0).toNat : Int) == 32) = false := by simpa using hb2
          have hb4 : ((k : Int) == (s.length : Int)) = false := by simp; omega
          clear hbl HS hcut hoff
          generalize ((s.getD k 0).toNat : Int) = c at *
          go_wp2
          go_roundw
          case rel => first | exact ⟨k + 1, fr, ws, by omega, by go_num, rfl, HS', HR, hgr⟩ | ((repeat apply Exists.intro); exact ⟨⟨k + 1, fr, ws, by omega, by go_num, rfl, HS', HR, hgr⟩, rfl⟩)
          case measure => simp [intOf]; omega
    · obtain rfl : k = s.length + 1 := by omega
      have hws := HS.out.done
      subst hws
      have hsl := HR.out.done
      have hne : 0 < (split s).length := List.length_pos_iff.2 (split_ne s)
      have hwl := split_length s
      obtain ⟨ao, cap, rfl, h1, h2, h3, h4⟩ := hsl
      obtain ⟨b, off, rfl, hc⟩ := h4 hne
      have hcell := Sl.textAt hc
      clear h4 hc HS h3
      have c0 := hcell 0 hne
      have hhd : (split s).headD [] = (split s).getD 0 [] := by cases split s <;> rfl
      have hP : parseP s = if (split s).getD 0 [] = wrW then wordsP 1 (split s) else if (split s).getD 0 [] = swW then wordsP 2 (split s) else noP 1 := by unfold parseP; rw [hhd]
      have HP : Hid (parseP s = _) := hP
      clear hP hhd
      unfold maxLen at h2
      have hgD : Grow wr (wr.alloc (.cells #[.int .i64 0, .int .i64 0, .int .i64 0, .slice none 0 0] 24)) := Grow.alloc _ _
      have d0 := hgD.at c0
      have dD : (wr.alloc (.cells #[.int .i64 0, .int .i64 0, .int .i64 0, .slice none 0 0] 24)).heap[wr.heap.size]? = some (.cells #[.int .i64 0, .int .i64 0, .int .i64 0, .slice none 0 0] 24) := heap_alloc_new _ _
      have hbR := hgr.block w.heap.size (lt_heap hbx)
      rw [hbx] at hbR
      have HR4 : Hid (Box4 wr w.heap.size _ _ _ _) := Box4.new hbR
      have HD4 : Hid (Box4 _ wr.heap.size _ _ _ _) := Box4.new dD
      clear c0 hbR dD
      rw [Nat.add_zero] at d0
      generalize (split s).getD 0 [] = a0 at *
      generalize hnl : (split s).length = nl at *
      have HN : Hid ((split s).length = nl) := hnl
      clear hnl
      have ha := hya.out
      have hta : ((str a0).toList == [119, 114, 105, 116, 101]) = true := test_yes ha
      have HQ : Hid (parseP s = wordsP 1 (split s)) := HP.out.trans (if_pos ha)
      have hgD2 : Grow wr (wr.alloc (.cells #[.int .i64 1, .int .i64 0, .int .i64 0, .slice none 0 0] 24)) := Grow.alloc _ _
      have HDk : Hid (Box4 (wr.alloc (.cells #[.int .i64 1, .int .i64 0, .int .i64 0, .slice none 0 0] 24)) wr.heap.size (.int .i64 1) (.int .i64 0) (.int .i64 0) (.slice none 0 0)) := Box4.new (heap_alloc_new _ _)
      have hRD : w.heap.size ≠ wr.heap.size := by have := HR4.out.lt; omega
      have HRk : Hid (Box4 _ w.heap.size _ _ _ _) := HR4.out.grow hgD2
      have hgK := (hgA.trans hgr).trans hgD2
      have hgK' : w.heap.size ≤ wr.heap.size := (hgA.trans hgr).size
      have hbD : b < wr.heap.size := cell_lt (hcell 0 hne)
      have HCk : Hid (∀ k, k < nl → (wr.alloc (.cells #[.int .i64 1, .int .i64 0, .int .i64 0, .slice none 0 0] 24)).cell? ⟨b, off + k, none⟩ = some (.string (str ((split s).getD k [])))) := fun k hk => hgD2.at (hcell k hk)
      clear hgD2
      clear ha hya HP HD4 HR4 hcell HR
      by_cases hn3 : nl = 3
      · have Hn3 : Hid (nl = 3) := hn3
        subst hn3
        have hcap : ¬ cap = 1 := by omega
        have HT := three HN.out
        have HQ2 : Hid (parseP s = match form 1 ((split s).getD 1 []) ((split s).getD 2 []) with | none => noP 2 | some x => chkP x) := by
          refine HQ.out.trans ?_
          rw [HT]; rfl
        have k1 := HCk.out 1 (by omega)
        have k2 := HCk.out 2 (by omega)
        have l1 : ((split s).getD 1 []).length ≤ 281474976710656 := by have := word_len s 1; omega
        have l2 : ((split s).getD 2 []).length ≤ 4398046511104 := by have := word_len s 2; omega
        clear HQ HT HCk
        generalize (split s).getD 1 [] = A1 at *
        generalize (split s).getD 2 [] = A2 at *
        have hz2' := str_size A2
        go_wp2_with fail
        generalize wr.alloc (.cells #[.int .i64 1, .int .i64 0, .int .i64 0, .slice none 0 0] 24) = W2 at *
        generalize wr.heap.size = D at *
        generalize hR : w.heap.size = R at *
        go_loopw [68] (fun i wq => ∃ (k : Nat) (n : Int), k ≤ 1 ∧ i = .int .i64 k ∧ Hid (Box4 wq D (.int .i64 1) (.int .i64 n) (.int .i64 0) (.slice none 0 0)) ∧ Hid (Box4 wq R (.int .i64 0) (.int .i64 0) (.int .i64 0) (.slice none 0 0)) ∧ wq.cell? ⟨b, off + 1, none⟩ = some (.string (str A1)) ∧ wq.cell? ⟨b, off + 2, none⟩ = some (.string (str A2)) ∧ Grow w wq ∧ Hid ((k = 0 → n = 0) ∧ (1 ≤ k → numL A1 = some n))) (fun i _ => 2 - (intOf i).toNat)
        case atStart => exact ⟨0, 0, by omega, rfl, HDk, HRk, k1, k2, hgK, ⟨(fun _ => rfl), (fun h => by omega)⟩⟩
        case round =>
          obtain ⟨k, n, hk, rfl, HBD, HBR, c1, c2, hgq, HST⟩ := hrel
          clear k1 k2 HDk HRk hgK d0 hbx
          rcases (by omega : k = 0 ∨ k = 1) with rfl | rfl
          · have hBD0 := HBD.out
            obtain ⟨g0, g1, g2, g3, gf⟩ := hBD0
            go_wp2_with fail
            refine (atoi_full A1 l1 _ (hlaid.grow hgq)).mono ?_
            rintro e w5 ⟨hg5, (⟨v, hv, v0, v1, rfl⟩ | ⟨hno, v, p, rfl⟩)⟩
            · by_cases heq : Lib.itoa v = A1
              · have HNu : Hid (numL A1 = some v) := num_yes hv heq
                have htest : ((str (Lib.itoa v)).toList == (str A1).toList) = true := by rw [str_list, str_list]; simpa using heq
                clear heq hv
                go_wp2_with fail
                refine (itoa_full v v0 v1 _ (hlaid.grow (hgq.trans hg5))).mono ?_
                rintro e w6 ⟨rfl, hg6⟩
                have hB7 := HBD.out.grow (hg5.trans hg6)
                have hR7 := HBR.out.grow (hg5.trans hg6)
                have n1 := (hg5.trans hg6).at c1
                have n2 := (hg5.trans hg6).at c2
                have HB8 : Hid (Box4 _ D _ _ _ _) := hB7.set1 (.int .i64 v)
                have HR8 : Hid (Box4 _ R _ _ _ _) := hR7.other (fun e => hRD e.symm) 1 (.int .i64 v)
                have HC8 : Hid (_ ∧ _) := ⟨(cset_ne (p := ⟨D, 1, none⟩) (v := .int .i64 v) (.inl (by simp; omega))).trans n1, (cset_ne (p := ⟨D, 1, none⟩) (v := .int .i64 v) (.inl (by simp; omega))).trans n2⟩
                have hg8 := Grow.set' ((hgq.trans hg5).trans hg6) (g := D) (k := 1) (by omega) (.int .i64 v)
                obtain ⟨e0, e1, e2, e3, ef⟩ := hB7
                go_wp2_with fail
                go_roundw
                case rel => first | exact ⟨1, v, by omega, by go_num, HB8, HR8, HC8.out.1, HC8.out.2, hg8, ⟨(fun h => by omega), (fun _ => HNu.out)⟩⟩ | ((repeat apply Exists.intro); exact ⟨⟨1, v, by omega, by go_num, HB8, HR8, HC8.out.1, HC8.out.2, hg8, ⟨(fun h => by omega), (fun _ => HNu.out)⟩⟩, rfl⟩)
                case measure => simp [intOf]
              · have HNu : Hid (numL A1 = none) := num_other hv heq
                have htest : ((str (Lib.itoa v)).toList == (str A1).toList) = false := by rw [str_list, str_list]; simpa using heq
                clear heq hv
                go_wp2_with fail
                refine (itoa_full v v0 v1 _ (hlaid.grow (hgq.trans hg5))).mono ?_
                rintro e w6 ⟨rfl, hg6⟩
                go_wp2_with fail
                refine (refNo_any 2 _).mono ?_
                rintro e w9 ⟨rfl, hg9⟩
                have hB9 := (HBR.out.grow (hg5.trans hg6)).grow hg9
                have HE : Hid (_ ∧ _) := Box4.put hB9 (((hgq.trans hg5).trans hg6).trans hg9) (by omega) (.int .i64 0) (.int .i64 0) (.int .i64 0) (.slice none 0 0)
                obtain ⟨e0, e1, e2, e3, ef⟩ := hB9
                go_wp2_with fail
                obtain ⟨⟨z0, z1, z2, z3, -⟩, hgE⟩ := HE.out
                refine bodyPost_ret (results_four1 Tryd.results6 _ _ R _ rfl Tryd.underlying24 rfl Tryd.sizeD z0 z1 z2 z3) rfl ?_
                rw [show parseP s = noP 2 from HQ2.out.trans (by rw [form_none1 HNu.out])]
                exact ⟨_, rfl, ⟨_, rfl, Bs.nil _⟩, hgE⟩
            · have HNu : Hid (numL A1 = none) := num_no hno
              clear hno
              go_wp2_with fail
              refine (refNo_any 2 _).mono ?_
              rintro e w9 ⟨rfl, hg9⟩
              have hB9 := (HBR.out.grow hg5).grow hg9
              have HE : Hid (_ ∧ _) := Box4.put hB9 ((hgq.trans hg5).trans hg9) (by omega) (.int .i64 0) (.int .i64 0) (.int .i64 0) (.slice none 0 0)
              obtain ⟨e0, e1, e2, e3, ef⟩ := hB9
              go_wp2_with fail
              obtain ⟨⟨z0, z1, z2, z3, -⟩, hgE⟩ := HE.out
              refine bodyPost_ret (results_four1 Tryd.results6 _ _ R _ rfl Tryd.underlying24 rfl Tryd.sizeD z0 z1 z2 z3) rfl ?_
              rw [show parseP s = noP 2 from HQ2.out.trans (by rw [form_none1 HNu.out])]
              exact ⟨_, rfl, ⟨_, rfl, Bs.nil _⟩, hgE⟩
          · have hBD0 := HBD.out
            obtain ⟨g0, g1, g2, g3, gf⟩ := hBD0
            by_cases hodd : A2.length % 2 = 1
            · have hm : ((A2.length : Int) % 2 == 1) = true := by simp; omega
              have HU : Hid (unhex A2 = none) := unhex_odd hodd
              clear hodd
              go_wp2_with fail
              refine (refNo_any 2 _).mono ?_
              rintro e w9 ⟨rfl, hg9⟩
              have hB9 := HBR.out.grow hg9
              have HE : Hid (_ ∧ _) := Box4.put hB9 (hgq.trans hg9) (by omega) (.int .i64 0) (.int .i64 0) (.int .i64 0) (.slice none 0 0)
              obtain ⟨e0, e1, e2, e3, ef⟩ := hB9
              go_wp2_with fail
              obtain ⟨⟨z0, z1, z2, z3, -⟩, hgE⟩ := HE.out
              refine bodyPost_ret (results_four1 Tryd.results6 _ _ R _ rfl Tryd.underlying24 rfl Tryd.sizeD z0 z1 z2 z3) rfl ?_
              rw [show parseP s = noP 2 from HQ2.out.trans (by rw [form_odd HU.out])]
              exact ⟨_, rfl, ⟨_, rfl, Bs.nil _⟩, hgE⟩
            · have hm : ((A2.length : Int) % 2 == 1) = false := by simp; omega
              have HEv : Hid (A2.length % 2 = 0) := (by omega : A2.length % 2 = 0)
              clear hodd
              obtain ⟨i1, hi1, hzb0, hzb1, hzb2⟩ := info_parts Tryd.infoBP
              obtain ⟨B, hB⟩ := size_of hgq
              have hDB : D < B := by have := HBD.out.lt; omega
              have hRB : R < B := by have := HBR.out.lt; omega
              have hbB : b < B := by omega
              have HNu : Hid (numL A1 = some n) := HST.out.2 (by omega)
              go_wp2_with fail
              go_loopw [13, 121] (fun nn i wv => ∃ (k : Nat) (d : List Int) (q : Int) (dv : Value), k ≤ A2.length ∧ i = .int .i64 k ∧ nn = .int .i64 q ∧ Hid (Hx A2 k d q) ∧ Hid (Box4 wv D (.int .i64 1) (.int .i64 n) (.int .i64 0) dv) ∧ Hid (wv.ownsRow B 5 1 dv d.length (d.map (Value.int .u8))) ∧ Hid (Box4 wv R (.int .i64 0) (.int .i64 0) (.int .i64 0) (.slice none 0 0)) ∧ wv.cell? ⟨b, off + 2, none⟩ = some (.string (str A2)) ∧ Grow w wv ∧ B ≤ wv.heap.size) (fun _ i _ => A2.length - (intOf i).toNat)
              case atStart => exact ⟨0, [], 0, _, by omega, rfl, rfl, Hx.start _, HBD, World.ownsRow_nil _ _ _ _, HBR, c2, hgq, by omega⟩
              case round =>
                obtain ⟨k, d, q, dv, hk, rfl, rfl, HH, HBD3, HOW, HBR3, c3, hg3, hB3⟩ := hrel
                clear HBD HBR c1 c2 hgq g0 g1 g2 g3 gf HST hB
                by_cases hlt : k < A2.length
                · have hix := fun w => str_index (w := w) A2 k hlt
                  obtain ⟨x, hx⟩ : ∃ x, x = A2.getD k 0 := ⟨_, rfl⟩
                  rw [← hx] at hix
                  have HX : Hid (x = A2.getD k 0) := hx
                  clear hx
                  have hdl : decide ((k : Int) < (A2.length : Int)) = true := by simp; omega
                  go_wp2_with fail
                  go_loopw [15, 124] (fun c j wu => ∃ m : Nat, m ≤ 16 ∧ j = .int .i64 m ∧ c = .int .i64 (cvAt x m) ∧ Hid (Box4 wu D (.int .i64 1) (.int .i64 n) (.int .i64 0) dv) ∧ Hid (wu.ownsRow B 5 1 dv d.length (d.map (Value.int .u8))) ∧ Hid (Box4 wu R (.int .i64 0) (.int .i64 0) (.int .i64 0) (.slice none 0 0)) ∧ wu.cell? ⟨b, off + 2, none⟩ = some (.string (str A2)) ∧ Grow w wu ∧ B ≤ wu.heap.size) (fun _ j _ => 16 - (intOf j).toNat)
                  case atStart => exact ⟨0, by omega, rfl, by rw [cvAt_zero], HBD3, HOW, HBR3, c3, hg3, hB3⟩
                  case round =>
                    obtain ⟨m, hm16, rfl, rfl, HB4, HO4, HR4, c4, hg4, hB4⟩ := hrel
                    clear HBD3 HOW HBR3 c3 hg3 hB3
                    by_cases hml : m < 16
                    · have hxi := fun w => hex_index64 (w := w) m hml
                      by_cases hh : hexD m = x
                      · have HC : Hid (cvAt x (m + 1) = (m : Int)) := cvAt_hit hml hh
                        have ht : (((hexD m).toNat : Int) == (x.toNat : Int)) = true := by rw [hh]; simp
                        generalize cvAt x m = cm at *
                        clear hh
                        go_wp2_with fail
                        refine wp_region_stable Grow [IsV (.int .i64 m), IsV (.int .u8 ((hexD m).toNat : Int)), IsV (.slice (some ⟨b, off, none⟩) 3 cap), IsV (.pointer (some ⟨b, off + 2, none⟩)), IsV (.string (str A2)), IsV (.int .i64 k), IsV (.int .u8 (x.toNat : Int)), IsV (.bool true)] (by kernel_rfl) (by kernel_rfl) rfl Grow.refl (fun _ _ _ => Grow.trans) ?_ ?_ ?_
                        · repeat (refine List.forall_mem_cons.2 ⟨by first | exact IsV.stable _, ?_⟩)
                          exact fun R hR => nomatch hR
                        · skip
                          refine StepsS.cons ?_ fun v0 => ⟨_, _, by simp only [Act.put, List.setIfInBounds_toArray, List.set_cons_succ, List.set_cons_zero]; first | done | rfl, by simp only [List.nil_append]; first | done | rfl, ?_⟩
                          · intro w1 hE hd
                            clear hd
                            go_wp2
                            exact ⟨_, rfl, Grow.refl _, rfl⟩
                          refine StepsS.cons ?_ fun v1 => ⟨_, _, by simp only [Act.put, List.setIfInBounds_toArray, List.set_cons_succ, List.set_cons_zero]; first | done | rfl, by simp only [List.nil_append, List.cons_append]; first | done | rfl, ?_⟩
                          · intro w1 hE hd
                            obtain rfl := IsV.eq (dep_at hd 0 rfl rfl rfl)
                            clear hd
                            go_wp2
                            exact ⟨_, rfl, Grow.refl _, rfl⟩
                          refine StepsS.cons ?_ fun v2 => ⟨_, _, by simp only [Act.put, List.setIfInBounds_toArray, List.set_cons_succ, List.set_cons_zero]; first | done | rfl, by simp only [List.nil_append, List.cons_append]; first | done | rfl, ?_⟩
                          · intro w1 hE hd
                            clear hd
                            go_wp2
                            exact ⟨_, rfl, Grow.refl _, rfl⟩
                          refine StepsS.cons ?_ fun v3 => ⟨_, _, by simp only [Act.put, List.setIfInBounds_toArray, List.set_cons_succ, List.set_cons_zero]; first | done | rfl, by simp only [List.nil_append, List.cons_append]; first | done | rfl, ?_⟩
                          · intro w1 hE hd
                            obtain rfl := IsV.eq (dep_at hd 0 rfl rfl rfl)
                            clear hd
                            go_wp2
                            exact ⟨_, rfl, Grow.refl _, rfl⟩
                          refine StepsS.cons ?_ fun v4 => ⟨_, _, by simp only [Act.put, List.setIfInBounds_toArray, List.set_cons_succ, List.set_cons_zero]; first | done | rfl, by simp only [List.nil_append, List.cons_append]; first | done | rfl, ?_⟩
                          · intro w1 hE hd
                            obtain rfl := IsV.eq (dep_at hd 0 rfl rfl rfl)
                            clear hd
                            have hcq1 := hE.drew.at c4
                            go_wp2
                            exact ⟨_, rfl, Grow.refl _, rfl⟩
                          refine StepsS.cons ?_ fun v5 => ⟨_, _, by simp only [Act.put, List.setIfInBounds_toArray, List.set_cons_succ, List.set_cons_zero]; first | done | rfl, by simp only [List.nil_append, List.cons_append]; first | done | rfl, ?_⟩
                          · intro w1 hE hd
                            clear hd
                            go_wp2
                            exact ⟨_, rfl, Grow.refl _, rfl⟩
                          refine StepsS.cons ?_ fun v6 => ⟨_, _, by simp only [Act.put, List.setIfInBounds_toArray, List.set_cons_succ, List.set_cons_zero]; first | done | rfl, by simp only [List.nil_append, List.cons_append]; first | done | rfl, ?_⟩
                          · intro w1 hE hd
                            obtain rfl := IsV.eq (dep_at hd 0 rfl rfl rfl)
                            obtain rfl := IsV.eq (dep_at hd 1 rfl rfl rfl)
                            clear hd
                            go_wp2
                            exact ⟨_, rfl, Grow.refl _, rfl⟩
                          refine StepsS.cons ?_ fun v7 => ⟨_, _, by simp only [Act.put, List.setIfInBounds_toArray, List.set_cons_succ, List.set_cons_zero]; first | done | rfl, by simp only [List.nil_append, List.cons_append]; first | done | rfl, ?_⟩
                          · intro w1 hE hd
                            obtain rfl := IsV.eq (dep_at hd 0 rfl rfl rfl)
                            obtain rfl := IsV.eq (dep_at hd 1 rfl rfl rfl)
                            clear hd
                            go_wp2
                            exact ⟨_, rfl, Grow.refl _, rfl⟩
                          trivial
                        intro wR hwR
                        refine FinS.cons ?_; rintro _ rfl; refine ⟨_, by simp only [Act.put, List.setIfInBounds_toArray, List.set_cons_succ, List.set_cons_zero]; first | done | rfl, ?_⟩
                        refine FinS.cons ?_; rintro _ rfl; refine ⟨_, by simp only [Act.put, List.setIfInBounds_toArray, List.set_cons_succ, List.set_cons_zero]; first | done | rfl, ?_⟩
                        refine FinS.cons ?_; rintro _ rfl; refine ⟨_, by simp only [Act.put, List.setIfInBounds_toArray, List.set_cons_succ, List.set_cons_zero]; first | done | rfl, ?_⟩
                        refine FinS.cons ?_; rintro _ rfl; refine ⟨_, by simp only [Act.put, List.setIfInBounds_toArray, List.set_cons_succ, List.set_cons_zero]; first | done | rfl, ?_⟩
                        refine FinS.cons ?_; rintro _ rfl; refine ⟨_, by simp only [Act.put, List.setIfInBounds_toArray, List.set_cons_succ, List.set_cons_zero]; first | done | rfl, ?_⟩
                        refine FinS.cons ?_; rintro _ rfl; refine ⟨_, by simp only [Act.put, List.setIfInBounds_toArray, List.set_cons_succ, List.set_cons_zero]; first | done | rfl, ?_⟩
                        refine FinS.cons ?_; rintro _ rfl; refine ⟨_, by simp only [Act.put, List.setIfInBounds_toArray, List.set_cons_succ, List.set_cons_zero]; first | done | rfl, ?_⟩
                        refine FinS.cons ?_; rintro _ rfl; refine ⟨_, by simp only [Act.put, List.setIfInBounds_toArray, List.set_cons_succ, List.set_cons_zero]; first | done | rfl, ?_⟩
                        first | show Exit.then _ _ _ _ _ | show Exit.inBlock _ _ _ _ _
                        go_wp2
                        go_roundw
                        case rel => first | exact ⟨m + 1, by omega, by go_num, congrArg (Value.int .i64) HC.out.symm, HB4.out.grow hwR.drew, grow_own HO4.out hwR.drew, HR4.out.grow hwR.drew, hwR.drew.at c4, hg4.trans hwR.drew, Nat.le_trans hB4 hwR.drew.size⟩ | ((repeat apply Exists.intro); exact ⟨⟨m + 1, by omega, by go_num, congrArg (Value.int .i64) HC.out.symm, HB4.out.grow hwR.drew, grow_own HO4.out hwR.drew, HR4.out.grow hwR.drew, hwR.drew.at c4, hg4.trans hwR.drew, Nat.le_trans hB4 hwR.drew.size⟩, rfl⟩)
                        case measure => simp [intOf]; omega
                      · have HC : Hid (cvAt x (m + 1) = cvAt x m) := cvAt_miss hh
                        have ht : (((hexD m).toNat : Int) == (x.toNat : Int)) = false := by
                          simp only [beq_eq_false_iff_ne, ne_eq]
                          exact fun e => hh (UInt8.toNat_inj.1 (by omega))
                        obtain ⟨cm, hcm⟩ : ∃ cm, cm = cvAt x m := ⟨_, rfl⟩
                        rw [← hcm] at HC ⊢
                        clear hh hcm
                        go_wp2_with fail
                        refine wp_region_stable Grow [IsV (.int .i64 m), IsV (.int .u8 ((hexD m).toNat : Int)), IsV (.slice (some ⟨b, off, none⟩) 3 cap), IsV (.pointer (some ⟨b, off + 2, none⟩)), IsV (.string (str A2)), IsV (.int .i64 k), IsV (.int .u8 (x.toNat : Int)), IsV (.bool false)] (by kernel_rfl) (by kernel_rfl) rfl Grow.refl (fun _ _ _ => Grow.trans) ?_ ?_ ?_
                        · repeat (refine List.forall_mem_cons.2 ⟨by first | exact IsV.stable _, ?_⟩)
                          exact fun R hR => nomatch hR
                        · skip
                          refine StepsS.cons ?_ fun v0 => ⟨_, _, by simp only [Act.put, List.setIfInBounds_toArray, List.set_cons_succ, List.set_cons_zero]; first | done | rfl, by simp only [List.nil_append]; first | done | rfl, ?_⟩
                          · intro w1 hE hd
                            clear hd
                            go_wp2
                            exact ⟨_, rfl, Grow.refl _, rfl⟩
                          refine StepsS.cons ?_ fun v1 => ⟨_, _, by simp only [Act.put, List.setIfInBounds_toArray, List.set_cons_succ, List.set_cons_zero]; first | done | rfl, by simp only [List.nil_append, List.cons_append]; first | done | rfl, ?_⟩
                          · intro w1 hE hd
                            obtain rfl := IsV.eq (dep_at hd 0 rfl rfl rfl)
                            clear hd
                            go_wp2
                            exact ⟨_, rfl, Grow.refl _, rfl⟩
                          refine StepsS.cons ?_ fun v2 => ⟨_, _, by simp only [Act.put, List.setIfInBounds_toArray, List.set_cons_succ, List.set_cons_zero]; first | done | rfl, by simp only [List.nil_append, List.cons_append]; first | done | rfl, ?_⟩
                          · intro w1 hE hd
                            clear hd
                            go_wp2
                            exact ⟨_, rfl, Grow.refl _, rfl⟩
                          refine StepsS.cons ?_ fun v3 => ⟨_, _, by simp only [Act.put, List.setIfInBounds_toArray, List.set_cons_succ, List.set_cons_zero]; first | done | rfl, by simp only [List.nil_append, List.cons_append]; first | done | rfl, ?_⟩
                          · intro w1 hE hd
                            obtain rfl := IsV.eq (dep_at hd 0 rfl rfl rfl)
                            clear hd
                            go_wp2
                            exact ⟨_, rfl, Grow.refl _, rfl⟩
                          refine StepsS.cons ?_ fun v4 => ⟨_, _, by simp only [Act.put, List.setIfInBounds_toArray, List.set_cons_succ, List.set_cons_zero]; first | done | rfl, by simp only [List.nil_append, List.cons_append]; first | done | rfl, ?_⟩
                          · intro w1 hE hd
                            obtain rfl := IsV.eq (dep_at hd 0 rfl rfl rfl)
                            clear hd
                            have hcq1 := hE.drew.at c4
                            go_wp2
                            exact ⟨_, rfl, Grow.refl _, rfl⟩
                          refine StepsS.cons ?_ fun v5 => ⟨_, _, by simp only [Act.put, List.setIfInBounds_toArray, List.set_cons_succ, List.set_cons_zero]; first | done | rfl, by simp only [List.nil_append, List.cons_append]; first | done | rfl, ?_⟩
                          · intro w1 hE hd
                            clear hd
                            go_wp2
                            exact ⟨_, rfl, Grow.refl _, rfl⟩
                          refine StepsS.cons ?_ fun v6 => ⟨_, _, by simp only [Act.put, List.setIfInBounds_toArray, List.set_cons_succ, List.set_cons_zero]; first | done | rfl, by simp only [List.nil_append, List.cons_append]; first | done | rfl, ?_⟩
                          · intro w1 hE hd
                            obtain rfl := IsV.eq (dep_at hd 0 rfl rfl rfl)
                            obtain rfl := IsV.eq (dep_at hd 1 rfl rfl rfl)
                            clear hd
                            go_wp2
                            exact ⟨_, rfl, Grow.refl _, rfl⟩
                          refine StepsS.cons ?_ fun v7 => ⟨_, _, by simp only [Act.put, List.setIfInBounds_toArray, List.set_cons_succ, List.set_cons_zero]; first | done | rfl, by simp only [List.nil_append, List.cons_append]; first | done | rfl, ?_⟩
                          · intro w1 hE hd
                            obtain rfl := IsV.eq (dep_at hd 0 rfl rfl rfl)
                            obtain rfl := IsV.eq (dep_at hd 1 rfl rfl rfl)
                            clear hd
                            go_wp2
                            exact ⟨_, rfl, Grow.refl _, rfl⟩
                          trivial
                        intro wR hwR
                        refine FinS.cons ?_; rintro _ rfl; refine ⟨_, by simp only [Act.put, List.setIfInBounds_toArray, List.set_cons_succ, List.set_cons_zero]; first | done | rfl, ?_⟩
                        refine FinS.cons ?_; rintro _ rfl; refine ⟨_, by simp only [Act.put, List.setIfInBounds_toArray, List.set_cons_succ, List.set_cons_zero]; first | done | rfl, ?_⟩
                        refine FinS.cons ?_; rintro _ rfl; refine ⟨_, by simp only [Act.put, List.setIfInBounds_toArray, List.set_cons_succ, List.set_cons_zero]; first | done | rfl, ?_⟩
                        refine FinS.cons ?_; rintro _ rfl; refine ⟨_, by simp only [Act.put, List.setIfInBounds_toArray, List.set_cons_succ, List.set_cons_zero]; first | done | rfl, ?_⟩
                        refine FinS.cons ?_; rintro _ rfl; refine ⟨_, by simp only [Act.put, List.setIfInBounds_toArray, List.set_cons_succ, List.set_cons_zero]; first | done | rfl, ?_⟩
                        refine FinS.cons ?_; rintro _ rfl; refine ⟨_, by simp only [Act.put, List.setIfInBounds_toArray, List.set_cons_succ, List.set_cons_zero]; first | done | rfl, ?_⟩
                        refine FinS.cons ?_; rintro _ rfl; refine ⟨_, by simp only [Act.put, List.setIfInBounds_toArray, List.set_cons_succ, List.set_cons_zero]; first | done | rfl, ?_⟩
                        refine FinS.cons ?_; rintro _ rfl; refine ⟨_, by simp only [Act.put, List.setIfInBounds_toArray, List.set_cons_succ, List.set_cons_zero]; first | done | rfl, ?_⟩
                        first | show Exit.then _ _ _ _ _ | show Exit.inBlock _ _ _ _ _
                        go_wp2
                        go_roundw
                        case rel => first | exact ⟨m + 1, by omega, by go_num, congrArg (Value.int .i64) HC.out.symm, HB4.out.grow hwR.drew, grow_own HO4.out hwR.drew, HR4.out.grow hwR.drew, hwR.drew.at c4, hg4.trans hwR.drew, Nat.le_trans hB4 hwR.drew.size⟩ | ((repeat apply Exists.intro); exact ⟨⟨m + 1, by omega, by go_num, congrArg (Value.int .i64) HC.out.symm, HB4.out.grow hwR.drew, grow_own HO4.out hwR.drew, HR4.out.grow hwR.drew, hwR.drew.at c4, hg4.trans hwR.drew, Nat.le_trans hB4 hwR.drew.size⟩, rfl⟩)
                        case measure => simp [intOf]; omega
                    · obtain rfl : m = 16 := by omega
                      cases hV : hexV x with
                      | none =>
                        have hc : cvAt x 16 = -1 := by rw [cvAt_end, hV]
                        have HU : Hid (unhex A2 = none) := unhex_bad hlt (by rw [← HX.out]; exact hV)
                        rw [hc]
                        clear hV hc
                        go_wp2_with fail
                        refine (refNo_any 2 _).mono ?_
                        rintro e w9 ⟨rfl, hg9⟩
                        have hB9 := HR4.out.grow hg9
                        have HE : Hid (_ ∧ _) := Box4.put hB9 (hg4.trans hg9) (by omega) (.int .i64 0) (.int .i64 0) (.int .i64 0) (.slice none 0 0)
                        obtain ⟨e0, e1, e2, e3, ef⟩ := hB9
                        go_wp2_with fail
                        obtain ⟨⟨z0, z1, z2, z3, -⟩, hgE⟩ := HE.out
                        refine bodyPost_ret (results_four1 Tryd.results6 _ _ R _ rfl Tryd.underlying24 rfl Tryd.sizeD z0 z1 z2 z3) rfl ?_
                        rw [show parseP s = noP 2 from HQ2.out.trans (by rw [form_odd HU.out])]
                        exact ⟨_, rfl, ⟨_, rfl, Bs.nil _⟩, hgE⟩
                      | some v =>
                        have hc : cvAt x 16 = (v : Int) := by rw [cvAt_end, hV]
                        have hv16 := (hexV_lt hV).1
                        have hV' : hexV (A2.getD k 0) = some v := by rw [← HX.out]; exact hV
                        rw [hc]
                        clear hV hc
                        have hBB := HB4.out
                        obtain ⟨e0, e1, e2, e3, ef⟩ := hBB
                        by_cases hk2 : k % 2 = 0
                        · obtain ⟨rfl, hH1⟩ := HH.out.first hk2 hV'
                          have HH' : Hid (Hx A2 (k + 1) d (v : Int)) := by have h := hH1; rw [show 16 * (0 : Int) + (v : Int) = (v : Int) by omega] at h; exact h
                          have hm2 : ((k : Int) % 2 == 1) = false := by simp; omega
                          clear hV' HH hH1
                          go_wp2_with fail
                          go_roundw
                          case rel => first | exact ⟨k + 1, d, v, dv, by omega, by go_num, rfl, HH', HB4, HO4, HR4, c4, hg4, hB4⟩ | ((repeat apply Exists.intro); exact ⟨⟨k + 1, d, v, dv, by omega, by go_num, rfl, HH', HB4, HO4, HR4, c4, hg4, hB4⟩, rfl⟩)
                          case measure => simp [intOf]; omega
                        · have hk1 : k % 2 = 1 := by omega
                          obtain ⟨t0, t1, hH1⟩ := HH.out.second hk1 hlt hV'
                          have HH' : Hid (Hx A2 (k + 1) (d ++ [16 * q + v]) 0) := hH1
                          obtain ⟨hdl2, -, (⟨hbad, -⟩ | ⟨-, u, hqu, hu16, -⟩)⟩ := HH.out
                          · omega
                          have hq0 : 0 ≤ q := by omega
                          have hq1 : q ≤ 15 := by omega
                          have hm2 : ((k : Int) % 2 == 1) = true := by simp; omega
                          have hneD : dv.ownBlock ≠ some D := fun e => by have := (HO4.out.lt D e).1; omega
                          have hneR : dv.ownBlock ≠ some R := fun e => by have := (HO4.out.lt R e).1; omega
                          have hneb : dv.ownBlock ≠ some b := fun e => by have := (HO4.out.lt b e).1; omega
                          have hdl3 : d.length ≤ A2.length := by omega
                          clear hV' HH hH1 hqu hk1 hk2 hdl2
                          go_wp2_with (first
                            | (at_builtin; refine wpList_append_own_any _ rfl (.tmp 151) (.tmp 154) 22 rfl B 5 i1 (.int .u8 0) 1 Tryd.underlying22 hi1 hzb0 hzb1 hzb2 rfl dv d.length (d.map (Value.int .u8)) rfl (HO4.out.alloc _) (some ⟨_, 0, none⟩) 1 1 [.int .u8 (16 * q + v)] rfl rfl (fun h => nomatch h) (by intro ad had j u hj; cases had; exact World.news_of_block (heap_alloc_new _ _) j u (by simpa using hj)) (by intro u hu; simp at hu; subst hu; rfl) (by unfold maxLen; omega) (by omega) (by simp; omega) ?_; intro v1 w7 hown1 hgr1; refine Hid.out ?_))
                          unfold Hid
                          have hB7 := (HB4.out.grow (Grow.alloc _ (.cells #[.int .u8 (16 * q + v)] 5))).kept hgr1 hneD
                          have hR7 := (HR4.out.grow (Grow.alloc _ (.cells #[.int .u8 (16 * q + v)] 5))).kept hgr1 hneR
                          have c7 := cell_kept ((Grow.alloc _ (.cells #[.int .u8 (16 * q + v)] 5)).at c4) hgr1 hneb
                          have hg7 := Grow.grown (hg4.trans (Grow.alloc _ (.cells #[.int .u8 (16 * q + v)] 5))) hgr1 (fun k hk => by have := (HO4.out.lt k hk).1; omega)
                          have hB7s : B ≤ w7.heap.size := by have := hgr1.size; simp at this; omega
                          obtain ⟨ao1, cp1, rfl⟩ := own_form hown1
                          have hne1 : (Value.slice ao1 (d.length + 1) cp1).ownBlock ≠ some D := fun e => by have := (hown1.lt D e).1; omega
                          have HB8 : Hid (Box4 _ D _ _ _ _) := hB7.set3 (.slice ao1 (d.length + 1) cp1)
                          have HR8 : Hid (Box4 _ R _ _ _ _) := hR7.other (fun e => hRD e.symm) 3 (.slice ao1 (d.length + 1) cp1)
                          have c8 := (cset_ne (p := ⟨D, 3, none⟩) (v := .slice ao1 (d.length + 1) cp1) (.inl (by simp; omega))).trans c7
                          have HC8 : Hid _ := c8
                          have hg8 := Grow.set' hg7 (g := D) (k := 3) (by omega) (.slice ao1 (d.length + 1) cp1)
                          have hO8 : ((w7.setCell ⟨D, 3, none⟩ (.slice ao1 (d.length + 1) cp1)).ownsRow B 5 1 (.slice ao1 (d.length + 1) cp1) (d ++ [16 * q + v]).length ((d ++ [16 * q + v]).map (Value.int .u8))) := by
                            have h := own_set' (hown1) (p := ⟨D, 3, none⟩) hne1 (.slice ao1 (d.length + 1) cp1)
                            simpa using h
                          have HO8 : Hid _ := hO8
                          clear hO8
                          have hs8 : B ≤ (w7.setCell ⟨D, 3, none⟩ (.slice ao1 (d.length + 1) cp1)).heap.size := by simpa using hB7s
                          have Hs8 : Hid _ := hs8
                          clear HB4 HO4 HR4 c4 hg4 hB4 e0 e1 e2 e3 ef hown1 c7 c8 hR7 hg7 hgr1 hs8
                          obtain ⟨e0, e1, e2, e3, ef⟩ := hB7
                          go_wp2_with fail
                          go_roundw
                          case rel => first | exact ⟨k + 1, d ++ [16 * q + v], 0, _, by omega, by go_num, rfl, HH', HB8, HO8, HR8, HC8.out, hg8, Hs8.out⟩ | ((repeat apply Exists.intro); exact ⟨⟨k + 1, d ++ [16 * q + v], 0, _, by omega, by go_num, rfl, HH', HB8, HO8, HR8, HC8.out, hg8, Hs8.out⟩, rfl⟩)
                          case measure => simp [intOf]; omega
                · obtain rfl : k = A2.length := by omega
                  have hoct : Octets d := HH.out.2.1
                  have HQ3 : Hid (parseP s = chkP ⟨1, n, 0, d⟩) := HQ2.out.trans (by rw [form_one HNu.out (HH.out.done HEv.out)])
                  obtain ⟨aod, cpd, rfl⟩ := own_form HOW.out
                  have hne1 : (Value.slice aod d.length cpd).ownBlock ≠ some R := fun e => by have := (HOW.out.lt R e).1; omega
                  have hBs := Bs.of_own HOW.out hoct
                  have HBs : Hid _ := hBs
                  have hBB := HBD3.out
                  obtain ⟨e0, e1, e2, e3, ef⟩ := hBB
                  clear hBs HH HQ2 HEv HNu
                  go_wp2_with fail
                  refine (refWrong_any _ ⟨1, n, 0, d⟩ _ ⟨_, rfl, HBs.out⟩).mono ?_
                  rintro e w5 ⟨rfl, hg5⟩
                  have hgT := hg3.trans hg5
                  obtain ⟨E, hE⟩ : ∃ E, E = wrongE ⟨1, n, 0, d⟩ := ⟨_, rfl⟩
                  rw [← hE]
                  have HEE : Hid (E = wrongE ⟨1, n, 0, d⟩) := hE
                  clear hE e0 e1 e2 e3 ef
                  have hB6 := HBD3.out.grow hg5
                  obtain ⟨j0, j1, j2, j3, jf⟩ := hB6
                  by_cases hw : E = 0
                  · subst hw
                    have HQ4 : Hid (parseP s = (⟨1, n, 0, d⟩, 0)) := HQ3.out.trans (if_pos HEE.out.symm)
                    have hB9 := HBR3.out.grow hg5
                    have HE : Hid (_ ∧ _) := Box4.put hB9 hgT (by omega) (.int .i64 1) (.int .i64 n) (.int .i64 0) (.slice aod d.length cpd)
                    have HO9 : Hid _ := own_set' (own_set' (own_set' (own_set' (grow_own HOW.out hg5) (p := ⟨R, 0, none⟩) hne1 (.int .i64 1)) (p := ⟨R, 1, none⟩) hne1 (.int .i64 n)) (p := ⟨R, 2, none⟩) hne1 (.int .i64 0)) (p := ⟨R, 3, none⟩) hne1 (.slice aod d.length cpd)
                    obtain ⟨e0, e1, e2, e3, ef⟩ := hB9
                    go_wp2_with fail
                    obtain ⟨⟨z0, z1, z2, z3, -⟩, hgE⟩ := HE.out
                    refine bodyPost_ret (results_four1 Tryd.results6 _ _ R _ rfl Tryd.underlying24 rfl Tryd.sizeD z0 z1 z2 z3) rfl ?_
                    rw [HQ4.out]
                    exact ⟨_, rfl, ⟨_, rfl, Bs.of_own HO9.out hoct⟩, hgE⟩
                  · have hw' : (E != 0) = true := by simpa using hw
                    have HQ4 : Hid (parseP s = noP E) := HQ3.out.trans (by have h := HEE.out; rw [h] at hw ⊢; exact if_neg hw)
                    go_wp2_with fail
                    refine (refNo_any E _).mono ?_
                    rintro e w9 ⟨rfl, hg9⟩
                    have hB9 := (HBR3.out.grow hg5).grow hg9
                    have HE : Hid (_ ∧ _) := Box4.put hB9 (hgT.trans hg9) (by omega) (.int .i64 0) (.int .i64 0) (.int .i64 0) (.slice none 0 0)
                    obtain ⟨e0, e1, e2, e3, ef⟩ := hB9
                    go_wp2_with fail
                    obtain ⟨⟨z0, z1, z2, z3, -⟩, hgE⟩ := HE.out
                    refine bodyPost_ret (results_four1 Tryd.results6 _ _ R _ rfl Tryd.underlying24 rfl Tryd.sizeD z0 z1 z2 z3) rfl ?_
                    rw [show parseP s = noP E from HQ4.out]
                    exact ⟨_, rfl, ⟨_, rfl, Bs.nil _⟩, hgE⟩
      · have hn3' : ¬ ((nl : Int) = 3) := by omega
        have HQ2 : Hid (parseP s = noP 2) := HQ.out.trans (words_len (by rw [HN.out]; exact hn3))
        generalize hR : w.heap.size = R at *
        have hRR : w.heap.size ≤ R := by omega
        go_wp2_with fail
        refine (refNo_any 2 _).mono ?_
        rintro e w9 ⟨rfl, hg9⟩
        have hB9 := HRk.out.grow hg9
        have HE : Hid (_ ∧ _) := Box4.put hB9 (hgK.trans hg9) hRR (.int .i64 0) (.int .i64 0) (.int .i64 0) (.slice none 0 0)
        obtain ⟨e0, e1, e2, e3, ef⟩ := hB9
        go_wp2_with fail
        obtain ⟨⟨z0, z1, z2, z3, -⟩, hgE⟩ := HE.out
        refine bodyPost_ret (results_four1 Tryd.results6 _ _ R _ rfl Tryd.underlying24 rfl Tryd.sizeD z0 z1 z2 z3) rfl ?_
        rw [show parseP s = noP 2 from HQ2.out]
        exact ⟨_, rfl, ⟨_, rfl, Bs.nil _⟩, hgE⟩

end Go.Proofs.YtjggiameajndgabDoor
