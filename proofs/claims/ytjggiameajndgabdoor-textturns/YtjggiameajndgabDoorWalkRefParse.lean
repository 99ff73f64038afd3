/-
  What the reference's Parse returns, where the first word is not 'write'.
-/
import Derived.Test.YtjggiameajndgabDoorTextMath2
import Derived.Test.YtjggiameajndgabDoorWalkRefPrint
import Derived.Test.YtjggiameajndgabDoorLaidText
import Derived.Test.YtjggiameajndgabDoorDeedBox
import Derived.Laws.DeepStrings4
namespace Go.Proofs.YtjggiameajndgabDoor
open Go.RowKit

theorem Tryd.infoT : (Tryd.prog.info? 9).map (fun i => (i.zero, i.size, i.bytes)) = some (some (.string { data := #[] }), 1, 16) := by kernel_rfl

/-- A value that is a text. -/
def StrV (_ : World) (v : Value) (l : List UInt8) : Prop := v = .string (str l)

theorem StrV.off {w : World} {g : Option Nat} {l : List UInt8} : Off StrV g w (.string (str l)) l := fun _ _ => rfl

theorem str_cut (l : List UInt8) (a b : Nat) : (str l).extract a b = str ((l.drop a).take (b - a)) := by
  apply ByteArray.ext
  simp [str, List.extract_eq_take_drop]

theorem str_index {w : World} (l : List UInt8) (i : Nat) (hi : i < l.length) :
    (Instr.index 9 (.string (str l)) (.int .i64 i)).run Tryd.prog w = .ok (.int .u8 ((l.getD i 0).toNat : Int)) w := by
  rw [run_index_string _ _ _ _ _ Tryd.underlying9, dif_pos ⟨by omega, by rw [str_size]; omega⟩]
  congr 3
  simp only [Int.toNat_natCast]
  simp [List.getD_eq_getElem?_getD, ByteArray.getElem_eq_getElem_data, str, hi]

theorem u8_lit {c : UInt8} {k : Nat} (hk : k < 256) : ((c.toNat : Int) = (k : Int)) ↔ c = UInt8.ofNat k := by
  constructor
  · intro h
    apply UInt8.toNat_inj.1
    rw [UInt8.toNat_ofNat']
    omega
  · rintro rfl
    rw [UInt8.toNat_ofNat']
    omega

theorem Sl.textAt {w : World} {b off : Nat} {ls : List (List UInt8)} (hc : ∀ (i : Nat) x, ls[i]? = some x → ∃ u, w.cell? ⟨b, off + i, none⟩ = some u ∧ StrV w u x) (k : Nat) (hk : k < ls.length) :
    w.cell? ⟨b, off + k, none⟩ = some (.string (str (ls.getD k []))) := by
  obtain ⟨u, hu, rfl⟩ := hc k (ls.getD k []) (by simp [List.getD_eq_getElem?_getD, hk])
  exact hu

theorem words_len {k : Int} {ws : List (List UInt8)} (h : ws.length ≠ 3) : wordsP k ws = noP 2 := by
  unfold wordsP
  split
  · simp at h
  · rfl

theorem three {ws : List (List UInt8)} (h : ws.length = 3) : ws = [ws.getD 0 [], ws.getD 1 [], ws.getD 2 []] := by
  match ws, h with
  | [a, b, c], _ => rfl

theorem split_word_len : ∀ (s : List UInt8) (w : List UInt8), w ∈ split s → w.length ≤ s.length
  | [], w, h => by simp [split] at h; subst h; simp
  | c :: r, w, h => by
    have ih := split_word_len r
    have hne := split_ne r
    simp only [split] at h
    split at h
    · rcases List.mem_cons.1 h with rfl | h
      · simp
      · have := ih w h; simp; omega
    · revert h ih hne
      cases split r with
      | nil => intro _ hne _; exact absurd rfl hne
      | cons v vs =>
        intro ih _ h
        rcases List.mem_cons.1 h with rfl | h
        · have := ih v (by simp); simp; omega
        · have := ih w (List.mem_cons_of_mem _ h); simp; omega

theorem word_len (s : List UInt8) (k : Nat) : ((split s).getD k []).length ≤ s.length := by
  by_cases hk : k < (split s).length
  · exact split_word_len s _ (by simp [List.getD_eq_getElem?_getD, hk])
  · simp [List.getD_eq_getElem?_getD, Nat.le_of_not_lt hk]

theorem num_yes {l : List UInt8} {v : Int} (h : Lib.atoiAll l = .ok v) (he : Lib.itoa v = l) : numL l = some v := by
  unfold numL; rw [h]; exact if_pos he

theorem num_other {l : List UInt8} {v : Int} (h : Lib.atoiAll l = .ok v) (he : ¬ Lib.itoa v = l) : numL l = none := by
  unfold numL; rw [h]; exact if_neg he

theorem num_no {l : List UInt8} (h : ∀ v, Lib.atoiAll l ≠ .ok v) : numL l = none := by
  unfold numL
  split
  · rename_i v hv; exact absurd hv (h v)
  · rfl

theorem form_none1 {k : Int} {a b : List UInt8} (h : numL a = none) : form k a b = none := by
  unfold form; rw [h]

theorem form_two {a b : List UInt8} {n m : Int} (h : numL a = some n) (h2 : numL b = some m) : form 2 a b = some ⟨2, n, m, []⟩ := by
  unfold form; rw [h, h2]; simp

theorem form_none2 {a b : List UInt8} (h : numL b = none) : form 2 a b = none := by
  unfold form; rw [h]
  cases numL a with
  | none => rfl
  | some n => simp

theorem lt_heap {w : World} {g : Nat} {o : Obj} (h : w.heap[g]? = some o) : g < w.heap.size := by
  by_cases hg : g < w.heap.size
  · exact hg
  · rw [Array.getElem?_eq_none (Nat.le_of_not_lt hg)] at h; cases h

theorem str_list (a : List UInt8) : (str a).toList = a := by
  rw [ByteArray.toList_eq]; simp [str]

theorem test_no {a b : List UInt8} (h : ¬ a = b) : ((str a).toList == b) = false := by
  rw [str_list]; simpa using h

theorem test_yes {a b : List UInt8} (h : a = b) : ((str a).toList == b) = true := by
  rw [str_list]; simpa using h

set_option maxRecDepth 20000 in
theorem refNo_any (e : Int) (w : World) :
    Calls Tryd.prog 16 #[.int .i64 e] w fun r w' => r = .returned (.tuple #[.agg #[.int .i64 0, .int .i64 0, .int .i64 0, .slice none 0 0], .int .i64 e]) ∧ Grow w w' := by
  have hg : Grow w (w.alloc (.cells #[.int .i64 0, .int .i64 0, .int .i64 0, .slice none 0 0] 24)) := Grow.alloc _ _
  have hb : (w.alloc (.cells #[.int .i64 0, .int .i64 0, .int .i64 0, .slice none 0 0] 24)).heap[w.heap.size]? = some (.cells #[.int .i64 0, .int .i64 0, .int .i64 0, .slice none 0 0] 24) := heap_alloc_new _ _
  have HB : Hid (_ ∧ _ ∧ _ ∧ _) := ⟨row_cell hb 0 rfl, row_cell hb 1 rfl, row_cell hb 2 rfl, row_cell hb 3 rfl⟩
  clear hb
  go_enter Tryd.func16, Tryd.ntmps16
  go_wp2
  refine bodyPost_ret (results_four1 Tryd.results16 _ _ w.heap.size _ rfl Tryd.underlying24 rfl Tryd.sizeD HB.out.1 HB.out.2.1 HB.out.2.2.1 HB.out.2.2.2) rfl ?_
  exact ⟨rfl, hg⟩

set_option maxRecDepth 20000 in
set_option maxHeartbeats 800000 in
theorem refParse_rest (s : List UInt8) (w : World) (hs : s.length ≤ 4398046511104) (hlaid : Laid w) (hna : Hid (¬ (split s).getD 0 [] = wrW)) :
    Calls Tryd.prog 6 #[.string (str s)] w fun e w' => ∃ v, e = .returned (.tuple #[v, .int .i64 (parseP s).2]) ∧ DeedV w' v (parseP s).1 ∧ Grow w w' := by
  obtain ⟨i0, hi, hz0, hz1, hz2⟩ := info_parts Tryd.infoT
  have hsz := str_size s
  have hgA : Grow w (w.alloc (.cells #[.int .i64 0, .int .i64 0, .int .i64 0, .slice none 0 0] 24)) := Grow.alloc _ _
  have hbx : (w.alloc (.cells #[.int .i64 0, .int .i64 0, .int .i64 0, .slice none 0 0] 24)).heap[w.heap.size]? = some (.cells #[.int .i64 0, .int .i64 0, .int .i64 0, .slice none 0 0] 24) := heap_alloc_new _ _
  go_enter Tryd.func6, Tryd.ntmps6
  go_wp2_with fail
  generalize w.alloc (.cells #[.int .i64 0, .int .i64 0, .int .i64 0, .slice none 0 0] 24) = w1 at *
  go_loopw [5, 6, 21] (fun l f i wr => ∃ (k from' : Nat) (ws : List (List UInt8)), k ≤ s.length + 1 ∧ i = .int .i64 k ∧ f = .int .i64 from' ∧ Hid (Spl s k from' ws) ∧ Hid (Rowing StrV w1.heap.size 9 wr l ws) ∧ Grow w1 wr) (fun _ _ i _ => s.length + 1 - (intOf i).toNat)
  case atStart => exact ⟨0, 0, [], by omega, rfl, rfl, Spl.start s, Rowing.nil _ _ _ _, Grow.refl _⟩
  case round =>
    obtain ⟨k, fr, ws, hk, rfl, rfl, HS, HR, hgr⟩ := hrel
    by_cases hlt : k < s.length + 1
    · have hfr := HS.out.from_le
      have hwl : ws.length ≤ k := HS.out.1
      have hcut := str_cut s fr k
      have hgB : Grow wr (wr.alloc (.cells #[.string (str ((s.drop fr).take (k - fr)))] 9)) := Grow.alloc _ _
      have hrow := HR.out
      have hoff : Off StrV u5.ownBlock wr (.string (str ((s.drop fr).take (k - fr)))) ((s.drop fr).take (k - fr)) := StrV.off
      by_cases hkl : k = s.length
      · have HS' : Hid (Spl s (k + 1) (k + 1) (ws ++ [(s.drop fr).take (k - fr)])) := by
          have h := HS.out
          rw [hkl] at h ⊢
          exact h.last
        subst hkl
        generalize (s.drop fr).take (s.length - fr) = wd at *
        clear HR HS
        go_wp2_with (first
          | (at_builtin; refine wpList_push rfl (.tmp 34) (.tmp 39) 34 rfl i0 (.string { data := #[] }) 16 Tryd.underlying34 hi hz0 hz1 hz2 rfl w1 hgr rfl rfl hrow rfl hoff wr.heap.size rfl rfl (by omega) (by omega) ?_; rintro v1 w2 - hrow1 hg2))
        go_wp2
        go_roundw
        case rel => first | exact ⟨s.length + 1, s.length + 1, _, by omega, by go_num, by go_num, HS', hrow1, hg2⟩ | ((repeat apply Exists.intro); exact ⟨⟨s.length + 1, s.length + 1, _, by omega, by go_num, by go_num, HS', hrow1, hg2⟩, rfl⟩)
        case measure => simp [intOf]
      · have hlt' : k < s.length := by omega
        have hix := fun w => str_index (w := w) s k hlt'
        by_cases hbl : s.getD k 0 = 32
        · have HS' : Hid (Spl s (k + 1) (k + 1) (ws ++ [(s.drop fr).take (k - fr)])) := HS.out.blank hlt' hbl
          rw [hbl] at hix
          generalize (s.drop fr).take (k - fr) = wd at *
          clear HR HS hbl
          go_wp2_with (first
            | (at_builtin; refine wpList_push rfl (.tmp 34) (.tmp 39) 34 rfl i0 (.string { data := #[] }) 16 Tryd.underlying34 hi hz0 hz1 hz2 rfl w1 hgr rfl rfl hrow rfl hoff wr.heap.size rfl rfl (by omega) (by omega) ?_; rintro v1 w2 - hrow1 hg2))
          go_wp2
          go_roundw
          case rel => first | exact ⟨k + 1, k + 1, _, by omega, by go_num, by go_num, HS', hrow1, hg2⟩ | ((repeat apply Exists.intro); exact ⟨⟨k + 1, k + 1, _, by omega, by go_num, by go_num, HS', hrow1, hg2⟩, rfl⟩)
          case measure => simp [intOf]; omega
        · have HS' : Hid (Spl s (k + 1) fr ws) := HS.out.other hlt' hbl
          have hb2 : ¬ (((s.getD k 0).toNat : Int) = 32) := fun e => hbl ((u8_lit (k := 32) (by omega)).1 e)
          have hb3 : (((s.getD k 0).toNat : Int) == 32) = false := by simpa using hb2
          have hb4 : ((k : Int) == (s.length : Int)) = false := by simp; omega
          clear hbl HS hcut hoff
          generalize ((s.getD k 0).toNat : Int) = c at *
          go_wp2
          go_roundw
          case rel => first | exact ⟨k + 1, fr, ws, by omega, by go_num, rfl, HS', HR, hgr⟩ | ((repeat apply Exists.intro); exact ⟨⟨k + 1, fr, ws, by omega, by go_num, rfl, HS', HR, hgr⟩, rfl⟩)
          case measure => simp [intOf]; omega
    · obtain rfl : k = s.length + 1 := by omega
      have hws := HS.out.done
      subst hws
      have hsl := HR.out.done
      have hne : 0 < (split s).length := List.length_pos_iff.2 (split_ne s)
      have hwl := split_length s
      obtain ⟨ao, cap, rfl, h1, h2, h3, h4⟩ := hsl
      obtain ⟨b, off, rfl, hc⟩ := h4 hne
      have hcell := Sl.textAt hc
      clear h4 hc HS h3
      have c0 := hcell 0 hne
      have hhd : (split s).headD [] = (split s).getD 0 [] := by cases split s <;> rfl
      have hP : parseP s = if (split s).getD 0 [] = wrW then wordsP 1 (split s) else if (split s).getD 0 [] = swW then wordsP 2 (split s) else noP 1 := by unfold parseP; rw [hhd]
      have HP : Hid (parseP s = _) := hP
      clear hP hhd
      unfold maxLen at h2
      have hgD : Grow wr (wr.alloc (.cells #[.int .i64 0, .int .i64 0, .int .i64 0, .slice none 0 0] 24)) := Grow.alloc _ _
      have d0 := hgD.at c0
      have dD : (wr.alloc (.cells #[.int .i64 0, .int .i64 0, .int .i64 0, .slice none 0 0] 24)).heap[wr.heap.size]? = some (.cells #[.int .i64 0, .int .i64 0, .int .i64 0, .slice none 0 0] 24) := heap_alloc_new _ _
      have hbR := hgr.block w.heap.size (lt_heap hbx)
      rw [hbx] at hbR
      have HR4 : Hid (Box4 wr w.heap.size _ _ _ _) := Box4.new hbR
      have HD4 : Hid (Box4 _ wr.heap.size _ _ _ _) := Box4.new dD
      clear c0 hbR dD
      rw [Nat.add_zero] at d0
      generalize (split s).getD 0 [] = a0 at *
      generalize hnl : (split s).length = nl at *
      have HN : Hid ((split s).length = nl) := hnl
      clear hnl
      by_cases ha : a0 = wrW
      · exact absurd ha hna.out
      · by_cases hb : a0 = swW
        · have hta : ((str a0).toList == [119, 114, 105, 116, 101]) = false := test_no ha
          have htb : ((str a0).toList == [115, 119, 97, 112]) = true := test_yes hb
          have HQ : Hid (parseP s = wordsP 2 (split s)) := HP.out.trans ((if_neg ha).trans (if_pos hb))
          have hgD2 : Grow wr (wr.alloc (.cells #[.int .i64 2, .int .i64 0, .int .i64 0, .slice none 0 0] 24)) := Grow.alloc _ _
          have HDk : Hid (Box4 (wr.alloc (.cells #[.int .i64 2, .int .i64 0, .int .i64 0, .slice none 0 0] 24)) wr.heap.size (.int .i64 2) (.int .i64 0) (.int .i64 0) (.slice none 0 0)) := Box4.new (heap_alloc_new _ _)
          have hRD : w.heap.size ≠ wr.heap.size := by have := HR4.out.lt; omega
          have HRk : Hid (Box4 _ w.heap.size _ _ _ _) := HR4.out.grow hgD2
          have hgK := (hgA.trans hgr).trans hgD2
          have hgK' : w.heap.size ≤ wr.heap.size := (hgA.trans hgr).size
          have hbD : b < wr.heap.size := cell_lt (hcell 0 hne)
          have HCk : Hid (∀ k, k < nl → (wr.alloc (.cells #[.int .i64 2, .int .i64 0, .int .i64 0, .slice none 0 0] 24)).cell? ⟨b, off + k, none⟩ = some (.string (str ((split s).getD k [])))) := fun k hk => hgD2.at (hcell k hk)
          clear hgD2
          clear ha hb HP HD4 HR4 hcell HR
          by_cases hn3 : nl = 3
          · have Hn3 : Hid (nl = 3) := hn3
            subst hn3
            have hcap : ¬ cap = 1 := by omega
            have HT := three HN.out
            have HQ2 : Hid (parseP s = match form 2 ((split s).getD 1 []) ((split s).getD 2 []) with | none => noP 2 | some x => chkP x) := by
              refine HQ.out.trans ?_
              rw [HT]; rfl
            have k1 := HCk.out 1 (by omega)
            have k2 := HCk.out 2 (by omega)
            have l1 : ((split s).getD 1 []).length ≤ 281474976710656 := by have := word_len s 1; omega
            have l2 : ((split s).getD 2 []).length ≤ 281474976710656 := by have := word_len s 2; omega
            clear HQ HT HCk
            generalize (split s).getD 1 [] = A1 at *
            generalize (split s).getD 2 [] = A2 at *
            go_wp2_with fail
            generalize wr.alloc (.cells #[.int .i64 2, .int .i64 0, .int .i64 0, .slice none 0 0] 24) = W2 at *
            generalize wr.heap.size = D at *
            generalize hR : w.heap.size = R at *
            have c2' := k2
            go_loopw [68] (fun i wq => ∃ (k : Nat) (n m : Int), k ≤ 2 ∧ i = .int .i64 k ∧ Hid (Box4 wq D (.int .i64 2) (.int .i64 n) (.int .i64 m) (.slice none 0 0)) ∧ Hid (Box4 wq R (.int .i64 0) (.int .i64 0) (.int .i64 0) (.slice none 0 0)) ∧ wq.cell? ⟨b, off + 1, none⟩ = some (.string (str A1)) ∧ wq.cell? ⟨b, off + 2, none⟩ = some (.string (str A2)) ∧ Grow w wq ∧ Hid ((k = 0 → n = 0) ∧ (1 ≤ k → numL A1 = some n) ∧ (k ≤ 1 → m = 0) ∧ (k = 2 → numL A2 = some m))) (fun i _ => 2 - (intOf i).toNat)
            case atStart => exact ⟨0, 0, 0, by omega, rfl, HDk, HRk, k1, k2, hgK, ⟨(fun _ => rfl), (fun h => by omega), (fun _ => rfl), (fun h => by omega)⟩⟩
            case round =>
              obtain ⟨k, n, m, hk, rfl, HBD, HBR, c1, c2, hgq, HST⟩ := hrel
              clear k1 k2 c2' HDk HRk hgK d0 hbx
              rcases (by omega : k = 0 ∨ k = 1 ∨ k = 2) with rfl | rfl | rfl
              · have hBD0 := HBD.out
                obtain ⟨g0, g1, g2, g3, gf⟩ := hBD0
                go_wp2_with fail
                refine (atoi_full A1 l1 _ (hlaid.grow hgq)).mono ?_
                rintro e w5 ⟨hg5, (⟨v, hv, v0, v1, rfl⟩ | ⟨hno, v, p, rfl⟩)⟩
                · by_cases heq : Lib.itoa v = A1
                  · have HNu : Hid (numL A1 = some v) := num_yes hv heq
                    have htest : ((str (Lib.itoa v)).toList == (str A1).toList) = true := by rw [str_list, str_list]; simpa using heq
                    clear heq hv
                    go_wp2_with fail
                    refine (itoa_full v v0 v1 _ (hlaid.grow (hgq.trans hg5))).mono ?_
                    rintro e w6 ⟨rfl, hg6⟩
                    have hB7 := HBD.out.grow (hg5.trans hg6)
                    have hR7 := HBR.out.grow (hg5.trans hg6)
                    have n1 := (hg5.trans hg6).at c1
                    have n2 := (hg5.trans hg6).at c2
                    have HB8 : Hid (Box4 _ D _ _ _ _) := hB7.set1 (.int .i64 v)
                    have HR8 : Hid (Box4 _ R _ _ _ _) := hR7.other (fun e => hRD e.symm) 1 (.int .i64 v)
                    have HC8 : Hid (_ ∧ _) := ⟨(cset_ne (p := ⟨D, 1, none⟩) (v := .int .i64 v) (.inl (by simp; omega))).trans n1, (cset_ne (p := ⟨D, 1, none⟩) (v := .int .i64 v) (.inl (by simp; omega))).trans n2⟩
                    have hg8 := Grow.set' ((hgq.trans hg5).trans hg6) (g := D) (k := 1) (by omega) (.int .i64 v)
                    obtain ⟨e0, e1, e2, e3, ef⟩ := hB7
                    go_wp2_with fail
                    go_roundw
                    case rel => first | exact ⟨1, v, m, by omega, by go_num, HB8, HR8, HC8.out.1, HC8.out.2, hg8, ⟨(fun h => by omega), (fun _ => HNu.out), (fun _ => HST.out.2.2.1 (by omega)), (fun h => by omega)⟩⟩ | ((repeat apply Exists.intro); exact ⟨⟨1, v, m, by omega, by go_num, HB8, HR8, HC8.out.1, HC8.out.2, hg8, ⟨(fun h => by omega), (fun _ => HNu.out), (fun _ => HST.out.2.2.1 (by omega)), (fun h => by omega)⟩⟩, rfl⟩)
                    case measure => simp [intOf]
                  · have HNu : Hid (numL A1 = none) := num_other hv heq
                    have htest : ((str (Lib.itoa v)).toList == (str A1).toList) = false := by rw [str_list, str_list]; simpa using heq
                    clear heq hv
                    go_wp2_with fail
                    refine (itoa_full v v0 v1 _ (hlaid.grow (hgq.trans hg5))).mono ?_
                    rintro e w6 ⟨rfl, hg6⟩
                    go_wp2_with fail
                    refine (refNo_any 2 _).mono ?_
                    rintro e w9 ⟨rfl, hg9⟩
                    have hB9 := (HBR.out.grow (hg5.trans hg6)).grow hg9
                    have HE : Hid (_ ∧ _) := Box4.put hB9 (((hgq.trans hg5).trans hg6).trans hg9) (by omega) (.int .i64 0) (.int .i64 0) (.int .i64 0) (.slice none 0 0)
                    obtain ⟨e0, e1, e2, e3, ef⟩ := hB9
                    go_wp2_with fail
                    obtain ⟨⟨z0, z1, z2, z3, -⟩, hgE⟩ := HE.out
                    refine bodyPost_ret (results_four1 Tryd.results6 _ _ R _ rfl Tryd.underlying24 rfl Tryd.sizeD z0 z1 z2 z3) rfl ?_
                    rw [show parseP s = noP 2 from HQ2.out.trans (by rw [form_none1 HNu.out])]
                    exact ⟨_, rfl, ⟨_, rfl, Bs.nil _⟩, hgE⟩
                · have HNu : Hid (numL A1 = none) := num_no hno
                  clear hno
                  go_wp2_with fail
                  refine (refNo_any 2 _).mono ?_
                  rintro e w9 ⟨rfl, hg9⟩
                  have hB9 := (HBR.out.grow hg5).grow hg9
                  have HE : Hid (_ ∧ _) := Box4.put hB9 ((hgq.trans hg5).trans hg9) (by omega) (.int .i64 0) (.int .i64 0) (.int .i64 0) (.slice none 0 0)
                  obtain ⟨e0, e1, e2, e3, ef⟩ := hB9
                  go_wp2_with fail
                  obtain ⟨⟨z0, z1, z2, z3, -⟩, hgE⟩ := HE.out
                  refine bodyPost_ret (results_four1 Tryd.results6 _ _ R _ rfl Tryd.underlying24 rfl Tryd.sizeD z0 z1 z2 z3) rfl ?_
                  rw [show parseP s = noP 2 from HQ2.out.trans (by rw [form_none1 HNu.out])]
                  exact ⟨_, rfl, ⟨_, rfl, Bs.nil _⟩, hgE⟩
              · have hBD0 := HBD.out
                obtain ⟨g0, g1, g2, g3, gf⟩ := hBD0
                go_wp2_with fail
                refine (atoi_full A2 l2 _ (hlaid.grow hgq)).mono ?_
                rintro e w5 ⟨hg5, (⟨v, hv, v0, v1, rfl⟩ | ⟨hno, v, p, rfl⟩)⟩
                · by_cases heq : Lib.itoa v = A2
                  · have HNu : Hid (numL A2 = some v) := num_yes hv heq
                    have htest : ((str (Lib.itoa v)).toList == (str A2).toList) = true := by rw [str_list, str_list]; simpa using heq
                    clear heq hv
                    go_wp2_with fail
                    refine (itoa_full v v0 v1 _ (hlaid.grow (hgq.trans hg5))).mono ?_
                    rintro e w6 ⟨rfl, hg6⟩
                    have hB7 := HBD.out.grow (hg5.trans hg6)
                    have hR7 := HBR.out.grow (hg5.trans hg6)
                    have n1 := (hg5.trans hg6).at c1
                    have n2 := (hg5.trans hg6).at c2
                    have HB8 : Hid (Box4 _ D _ _ _ _) := hB7.set2 (.int .i64 v)
                    have HR8 : Hid (Box4 _ R _ _ _ _) := hR7.other (fun e => hRD e.symm) 2 (.int .i64 v)
                    have HC8 : Hid (_ ∧ _) := ⟨(cset_ne (p := ⟨D, 2, none⟩) (v := .int .i64 v) (.inl (by simp; omega))).trans n1, (cset_ne (p := ⟨D, 2, none⟩) (v := .int .i64 v) (.inl (by simp; omega))).trans n2⟩
                    have hg8 := Grow.set' ((hgq.trans hg5).trans hg6) (g := D) (k := 2) (by omega) (.int .i64 v)
                    obtain ⟨e0, e1, e2, e3, ef⟩ := hB7
                    go_wp2_with fail
                    go_roundw
                    case rel => first | exact ⟨2, n, v, by omega, by go_num, HB8, HR8, HC8.out.1, HC8.out.2, hg8, ⟨(fun h => by omega), (fun _ => HST.out.2.1 (by omega)), (fun h => by omega), (fun _ => HNu.out)⟩⟩ | ((repeat apply Exists.intro); exact ⟨⟨2, n, v, by omega, by go_num, HB8, HR8, HC8.out.1, HC8.out.2, hg8, ⟨(fun h => by omega), (fun _ => HST.out.2.1 (by omega)), (fun h => by omega), (fun _ => HNu.out)⟩⟩, rfl⟩)
                    case measure => simp [intOf]
                  · have HNu : Hid (numL A2 = none) := num_other hv heq
                    have htest : ((str (Lib.itoa v)).toList == (str A2).toList) = false := by rw [str_list, str_list]; simpa using heq
                    clear heq hv
                    go_wp2_with fail
                    refine (itoa_full v v0 v1 _ (hlaid.grow (hgq.trans hg5))).mono ?_
                    rintro e w6 ⟨rfl, hg6⟩
                    go_wp2_with fail
                    refine (refNo_any 2 _).mono ?_
                    rintro e w9 ⟨rfl, hg9⟩
                    have hB9 := (HBR.out.grow (hg5.trans hg6)).grow hg9
                    have HE : Hid (_ ∧ _) := Box4.put hB9 (((hgq.trans hg5).trans hg6).trans hg9) (by omega) (.int .i64 0) (.int .i64 0) (.int .i64 0) (.slice none 0 0)
                    obtain ⟨e0, e1, e2, e3, ef⟩ := hB9
                    go_wp2_with fail
                    obtain ⟨⟨z0, z1, z2, z3, -⟩, hgE⟩ := HE.out
                    refine bodyPost_ret (results_four1 Tryd.results6 _ _ R _ rfl Tryd.underlying24 rfl Tryd.sizeD z0 z1 z2 z3) rfl ?_
                    rw [show parseP s = noP 2 from HQ2.out.trans (by rw [form_none2 HNu.out])]
                    exact ⟨_, rfl, ⟨_, rfl, Bs.nil _⟩, hgE⟩
                · have HNu : Hid (numL A2 = none) := num_no hno
                  clear hno
                  go_wp2_with fail
                  refine (refNo_any 2 _).mono ?_
                  rintro e w9 ⟨rfl, hg9⟩
                  have hB9 := (HBR.out.grow hg5).grow hg9
                  have HE : Hid (_ ∧ _) := Box4.put hB9 ((hgq.trans hg5).trans hg9) (by omega) (.int .i64 0) (.int .i64 0) (.int .i64 0) (.slice none 0 0)
                  obtain ⟨e0, e1, e2, e3, ef⟩ := hB9
                  go_wp2_with fail
                  obtain ⟨⟨z0, z1, z2, z3, -⟩, hgE⟩ := HE.out
                  refine bodyPost_ret (results_four1 Tryd.results6 _ _ R _ rfl Tryd.underlying24 rfl Tryd.sizeD z0 z1 z2 z3) rfl ?_
                  rw [show parseP s = noP 2 from HQ2.out.trans (by rw [form_none2 HNu.out])]
                  exact ⟨_, rfl, ⟨_, rfl, Bs.nil _⟩, hgE⟩
              · have hBD0 := HBD.out
                obtain ⟨g0, g1, g2, g3, gf⟩ := hBD0
                have HQ3 : Hid (parseP s = chkP ⟨2, n, m, []⟩) := HQ2.out.trans (by rw [show form 2 A1 A2 = some ⟨2, n, m, []⟩ from form_two (HST.out.2.1 (by omega)) (HST.out.2.2.2 rfl)])
                go_wp2_with fail
                refine (refWrong_any _ ⟨2, n, m, []⟩ _ ⟨_, rfl, Bs.nil _⟩).mono ?_
                rintro e w5 ⟨rfl, hg5⟩
                have hgT := hgq.trans hg5
                obtain ⟨E, hE⟩ : ∃ E, E = wrongE ⟨2, n, m, []⟩ := ⟨_, rfl⟩
                rw [← hE]
                have HEE : Hid (E = wrongE ⟨2, n, m, []⟩) := hE
                clear hE
                have hB6 := HBD.out.grow hg5
                obtain ⟨j0, j1, j2, j3, jf⟩ := hB6
                by_cases hw : E = 0
                · subst hw
                  have HQ4 : Hid (parseP s = (⟨2, n, m, []⟩, 0)) := HQ3.out.trans (if_pos HEE.out.symm)
                  have hB9 := HBR.out.grow hg5
                  have HE : Hid (_ ∧ _) := Box4.put hB9 hgT (by omega) (.int .i64 2) (.int .i64 n) (.int .i64 m) (.slice none 0 0)
                  obtain ⟨e0, e1, e2, e3, ef⟩ := hB9
                  go_wp2_with fail
                  obtain ⟨⟨z0, z1, z2, z3, -⟩, hgE⟩ := HE.out
                  refine bodyPost_ret (results_four1 Tryd.results6 _ _ R _ rfl Tryd.underlying24 rfl Tryd.sizeD z0 z1 z2 z3) rfl ?_
                  rw [HQ4.out]
                  exact ⟨_, rfl, ⟨_, rfl, Bs.nil _⟩, hgE⟩
                · have hw' : (E != 0) = true := by simpa using hw
                  have HQ4 : Hid (parseP s = noP E) := HQ3.out.trans (by have h := HEE.out; rw [h] at hw ⊢; exact if_neg hw)
                  go_wp2_with fail
                  refine (refNo_any E _).mono ?_
                  rintro e w9 ⟨rfl, hg9⟩
                  have hB9 := (HBR.out.grow hg5).grow hg9
                  have HE : Hid (_ ∧ _) := Box4.put hB9 (hgT.trans hg9) (by omega) (.int .i64 0) (.int .i64 0) (.int .i64 0) (.slice none 0 0)
                  obtain ⟨e0, e1, e2, e3, ef⟩ := hB9
                  go_wp2_with fail
                  obtain ⟨⟨z0, z1, z2, z3, -⟩, hgE⟩ := HE.out
                  refine bodyPost_ret (results_four1 Tryd.results6 _ _ R _ rfl Tryd.underlying24 rfl Tryd.sizeD z0 z1 z2 z3) rfl ?_
                  rw [show parseP s = noP E from HQ4.out]
                  exact ⟨_, rfl, ⟨_, rfl, Bs.nil _⟩, hgE⟩
          · have hn3' : ¬ ((nl : Int) = 3) := by omega
            have HQ2 : Hid (parseP s = noP 2) := HQ.out.trans (words_len (by rw [HN.out]; exact hn3))
            generalize hR : w.heap.size = R at *
            have hRR : w.heap.size ≤ R := by omega
            go_wp2_with fail
            refine (refNo_any 2 _).mono ?_
            rintro e w9 ⟨rfl, hg9⟩
            have hB9 := HRk.out.grow hg9
            have HE : Hid (_ ∧ _) := Box4.put hB9 (hgK.trans hg9) hRR (.int .i64 0) (.int .i64 0) (.int .i64 0) (.slice none 0 0)
            obtain ⟨e0, e1, e2, e3, ef⟩ := hB9
            go_wp2_with fail
            obtain ⟨⟨z0, z1, z2, z3, -⟩, hgE⟩ := HE.out
            refine bodyPost_ret (results_four1 Tryd.results6 _ _ R _ rfl Tryd.underlying24 rfl Tryd.sizeD z0 z1 z2 z3) rfl ?_
            rw [show parseP s = noP 2 from HQ2.out]
            exact ⟨_, rfl, ⟨_, rfl, Bs.nil _⟩, hgE⟩
        · have hta : ((str a0).toList == [119, 114, 105, 116, 101]) = false := test_no ha
          have htb : ((str a0).toList == [115, 119, 97, 112]) = false := test_no hb
          have HQ : Hid (parseP s = noP 1) := HP.out.trans ((if_neg ha).trans (if_neg hb))
          clear ha hb HP
          go_wp2_with fail
          refine (refNo_any 1 _).mono ?_
          rintro e w2 ⟨rfl, hg2⟩
          have hB2 := HR4.out.grow (hgD.trans hg2)
          have HE : Hid (_ ∧ _) := Box4.put hB2 (((hgA.trans hgr).trans hgD).trans hg2) (Nat.le_refl _) (.int .i64 0) (.int .i64 0) (.int .i64 0) (.slice none 0 0)
          obtain ⟨e0, e1, e2, e3, ef⟩ := hB2
          go_wp2_with fail
          obtain ⟨⟨z0, z1, z2, z3, -⟩, hgE⟩ := HE.out
          refine bodyPost_ret (results_four1 Tryd.results6 _ _ w.heap.size _ rfl Tryd.underlying24 rfl Tryd.sizeD z0 z1 z2 z3) rfl ?_
          rw [HQ.out]
          exact ⟨_, rfl, ⟨_, rfl, Bs.nil _⟩, hgE⟩
end Go.Proofs.YtjggiameajndgabDoor
