/-
  What the reference's Print returns, of a right deed.
-/
import Derived.Test.YtjggiameajndgabDoorWalkRefText
namespace Go.Proofs.YtjggiameajndgabDoor
open Go.RowKit

/-- A digit as the walk reads it. -/
theorem hex_at (k : Nat) (hk : k < 16) : (({ data := #[48, 49, 50, 51, 52, 53, 54, 55, 56, 57, 97, 98, 99, 100, 101, 102] } : ByteArray).data.toList.getD k 0).toNat = (hexD k).toNat := by
  revert k; decide

/-- A cell of a block. -/
theorem row_cell {w : World} {b : Nat} {xs : Array Value} {t : TypeId} {q : Nat × Nat} (h : w.heap[b]? = some (.cells xs t q)) (i : Nat) {v : Value} (hv : xs[i]? = some v) : w.cell? ⟨b, i, none⟩ = some v := by
  simp [World.cell?, h, hv]

theorem hexD_lt : ∀ k : Nat, k < 16 → (hexD k).toNat < 128 := by decide

theorem hex_enc (k : Nat) (hk : k < 16) : Utf8.encode ((hexD k).toNat : Int) = str [hexD k] := by
  have h := hexD_lt k hk
  have hv : Utf8.valid ((hexD k).toNat : Int) = true := by
    simp [Utf8.valid]; omega
  unfold Utf8.encode
  simp only [hv, if_true, Int.toNat_natCast, h]
  simp [str]

theorem hexL_take {d : List Int} {k : Nat} (hk : k < d.length) : hexL (d.take (k + 1)) = hexL (d.take k) ++ [hexD (d.getD k 0 / 16).toNat, hexD (d.getD k 0 % 16).toNat] := by
  induction d generalizing k with
  | nil => simp at hk
  | cons c r ih =>
    cases k with
    | zero => simp [hexL]
    | succ k =>
      simp only [List.take_succ_cons, hexL, List.cons_append, List.getD_cons_succ]
      rw [ih (by simpa using hk)]

theorem hex_index {w : World} (c : Int) (h0 : 0 ≤ c) (h1 : c < 16) :
    (Instr.index 9 (.string { data := #[48, 49, 50, 51, 52, 53, 54, 55, 56, 57, 97, 98, 99, 100, 101, 102] }) (.int .u8 c)).run Tryd.prog w = .ok (.int .u8 ((hexD c.toNat).toNat : Int)) w := by
  obtain ⟨k, rfl⟩ : ∃ j : Nat, c = (j : Int) := ⟨c.toNat, by omega⟩
  have hk : k < 16 := by omega
  rw [run_index_string _ _ _ _ _ Tryd.underlying9, dif_pos ⟨by omega, by simp [ByteArray.size]; omega⟩]
  have h := hex_at k hk
  simp only [Int.toNat_natCast]
  congr 2
  rw [← h]
  simp [List.getD_eq_getElem?_getD, ByteArray.getElem_eq_getElem_data, hk]

theorem hex_index64 {w : World} (k : Nat) (hk : k < 16) :
    (Instr.index 9 (.string { data := #[48, 49, 50, 51, 52, 53, 54, 55, 56, 57, 97, 98, 99, 100, 101, 102] }) (.int .i64 k)).run Tryd.prog w = .ok (.int .u8 ((hexD k).toNat : Int)) w := by
  rw [run_index_string _ _ _ _ _ Tryd.underlying9, dif_pos ⟨by omega, by simp [ByteArray.size]; omega⟩]
  have h := hex_at k hk
  simp only [Int.toNat_natCast]
  congr 2
  rw [← h]
  simp [List.getD_eq_getElem?_getD, ByteArray.getElem_eq_getElem_data, hk]

theorem hex_conv {w : World} (k : Nat) (hk : k < 16) : (convert 5 9 (.int .u8 ((hexD k).toNat : Int))).run Tryd.prog w = .ok (.string (str [hexD k])) w := by
  rw [run_convert_int_string _ _ _ _ _ (by rw [Tryd.underlying5]; rfl) Tryd.underlying9, hex_enc k hk]

set_option maxRecDepth 20000 in
set_option maxHeartbeats 800000 in
theorem refPrint_any (v : Value) (x : DeedP) (w : World) (h : DeedV w v x) (hx : wrongE x = 0) :
    Calls Tryd.prog 10 #[v] w fun e w' => e = .returned (.string (str (printP x))) ∧ Grow w w' := by
  have hr := right_deed hx
  clear hx
  obtain ⟨dv, rfl, hb⟩ := h
  obtain ⟨k, n, m, d⟩ := x
  dsimp only at *
  obtain ⟨hk, n0, n1, r1, r2⟩ := hr
  obtain ⟨n, rfl⟩ : ∃ j : Nat, n = (j : Int) := ⟨n.toNat, by omega⟩
  have hn : n < 10 := by omega
  have hi1 := itoa_any n hn
  have hz1 : (str (Lib.itoa (n : Int))).size = 1 := by rw [str_size, itoa_small n hn]; rfl
  obtain ⟨P, hP⟩ : ∃ P, P = printP ⟨k, n, m, d⟩ := ⟨_, rfl⟩
  rw [← hP]
  have HP : Hid (P = printP ⟨k, n, m, d⟩) := hP
  clear hP
  have hg : Grow w (w.alloc (.cells #[.int .i64 k, .int .i64 n, .int .i64 m, dv] 24)) := Grow.alloc _ _
  have hbox : (w.alloc (.cells #[.int .i64 k, .int .i64 n, .int .i64 m, dv] 24)).heap[w.heap.size]? = some (.cells #[.int .i64 k, .int .i64 n, .int .i64 m, dv] 24) := heap_alloc_new _ _
  have hbx1 := row_cell hbox 1 rfl
  have hbx2 := row_cell hbox 2 rfl
  have hbx3 := row_cell hbox 3 rfl
  clear hbox
  obtain ⟨ao, cap, rfl, h1, h2, h3, h4, h5⟩ := hb
  unfold maxLen at h2
  rcases hk with rfl | rfl
  · obtain ⟨rfl, hd4⟩ := r1 rfl
    clear r1 r2
    have Hd4 : Hid (d.length = 4) := hd4
    clear hd4
    have hq0 : ({ data := #[119, 114, 105, 116, 101, 32] } : ByteArray).size = 6 := rfl
    have hq1 : ({ data := #[32] } : ByteArray).size = 1 := rfl
    have ha1 : ({ data := #[119, 114, 105, 116, 101, 32] } : ByteArray) ++ str (Lib.itoa (n : Int)) = str (wrW ++ 32 :: Lib.itoa n) := by
      rw [show ({ data := #[119, 114, 105, 116, 101, 32] } : ByteArray) = str (wrW ++ [32]) from rfl, str_append]; simp
    have ha2 : str (wrW ++ 32 :: Lib.itoa n) ++ ({ data := #[32] } : ByteArray) = str (wrW ++ 32 :: (Lib.itoa n ++ [32])) := by
      rw [show ({ data := #[32] } : ByteArray) = str [32] from rfl, str_append]; simp
    have hy1 : (str (wrW ++ 32 :: Lib.itoa n)).size = 7 := by rw [str_size, itoa_small n hn]; rfl
    have hy2 : (wrW ++ 32 :: (Lib.itoa (n : Int) ++ [32])).length = 8 := by rw [itoa_small n hn]; rfl
    have HQ : Hid (P = (wrW ++ 32 :: (Lib.itoa n ++ [32])) ++ hexL d) := HP.out.trans ((if_neg (by simp)).trans (by simp))
    generalize wrW ++ 32 :: (Lib.itoa n ++ [32]) = s2 at *
    generalize wrW ++ 32 :: Lib.itoa n = s1 at *
    generalize Lib.itoa n = sn at *
    have HY : Hid (s2.length = 8) := hy2
    clear hy2 HP
    generalize hlen : d.length = len at *
    have HL : Hid (d.length = len) := hlen
    clear hlen
    go_enter Tryd.func10, Tryd.ntmps10
    go_wp2_with fail
    refine (hi1 _).mono ?_
    rintro e w1 ⟨rfl, hg1⟩
    have j3 := hg1.at hbx3
    go_wp2_with fail
    go_loopw [3, 26] (fun v i wr => ∃ j : Nat, j ≤ len ∧ i = .int .i64 j ∧ v = .string (str (s2 ++ hexL (d.take j))) ∧ Grow w wr) (fun _ i _ => len - (intOf i).toNat)
    case atStart => exact ⟨0, by omega, rfl, by simp [hexL], hg.trans hg1⟩
    case round =>
      obtain ⟨j, hj, rfl, rfl, hgr⟩ := hrel
      by_cases hlt : j < len
      · obtain ⟨b, off, rfl, hc⟩ := h5 (by have := HL.out; omega)
        have hc' := hgr.at (hc j (by have := HL.out; omega))
        have hcd := getD_bd h4 j
        have HT := hexL_take (d := d) (k := j) (by have := HL.out; omega)
        have hzs : (str (s2 ++ hexL (d.take j))).size = 8 + 2 * j := by
          rw [str_size, List.length_append, hexL_length, HY.out, List.length_take, Nat.min_eq_left (by have := HL.out; omega)]
        have Hc : Hid (∀ i, i < d.length → w.cell? ⟨b, off + i, none⟩ = some (.int .u8 (d.getD i 0))) := hc
        clear hc
        generalize d.getD j 0 = c at *
        have hx1 := fun w => hex_index (w := w) (c / 16) (by omega) (by omega)
        have hx2 := fun w => hex_index (w := w) (c % 16) (by omega) (by omega)
        have hv1 := fun w => hex_conv (w := w) (c / 16).toNat (by omega)
        have hv2 := fun w => hex_conv (w := w) (c % 16).toNat (by omega)
        have e1 : str (s2 ++ hexL (d.take j)) ++ str [hexD (c / 16).toNat] = str (s2 ++ hexL (d.take j) ++ [hexD (c / 16).toNat]) := str_append _ _
        have e2 : str (s2 ++ hexL (d.take j) ++ [hexD (c / 16).toNat]) ++ str [hexD (c % 16).toNat] = str (s2 ++ hexL (d.take (j + 1))) := by
          rw [str_append, HT]; simp
        have hz3 : (str (s2 ++ hexL (d.take j) ++ [hexD (c / 16).toNat])).size = 9 + 2 * j := by
          have := hzs
          rw [str_size] at this ⊢
          rw [List.length_append, this]; simp; omega
        have hz4 : (str [hexD (c / 16).toNat]).size = 1 := str_size _
        have hz5 : (str [hexD (c % 16).toNat]).size = 1 := str_size _
        clear HT
        generalize s2 ++ hexL (d.take j) ++ [hexD (c / 16).toNat] = t2 at *
        generalize s2 ++ hexL (d.take j) = t1 at *
        have HE : Hid (s2 ++ hexL (d.take (j + 1)) = s2 ++ hexL (d.take (j + 1))) := rfl
        generalize ht3 : s2 ++ hexL (d.take (j + 1)) = t3 at e2
        have HE3 : Hid (s2 ++ hexL (d.take (j + 1)) = t3) := ht3
        clear ht3 HE
        have hl4 : len ≤ 4 := by have := HL.out; have := Hd4.out; omega
        go_wp2_with fail
        refine wp_region_stable Grow [IsV (.string (str t1)), IsV (.int .u8 c), IsV (.int .u8 (c / 16)), IsV (.int .u8 ((hexD (c / 16).toNat).toNat : Int)), IsV (.string (str [hexD (c / 16).toNat])), IsV (.string (str t2)), IsV (.int .u8 c), IsV (.int .u8 (c % 16)), IsV (.int .u8 ((hexD (c % 16).toNat).toNat : Int)), IsV (.string (str [hexD (c % 16).toNat])), IsV (.string (str t3)), IsV (.string (str t3))] (by kernel_rfl) (by kernel_rfl) rfl Grow.refl (fun _ _ _ => Grow.trans) ?_ ?_ ?_
        · repeat (refine List.forall_mem_cons.2 ⟨by first | exact IsV.stable _, ?_⟩)
          exact fun R hR => nomatch hR
        · skip
          refine StepsS.cons ?_ fun v0 => ⟨_, _, by simp only [Act.put, List.setIfInBounds_toArray, List.set_cons_succ, List.set_cons_zero]; first | done | rfl, by simp only [List.nil_append]; first | done | rfl, ?_⟩
          · intro w1 hE hd
            clear hd
            go_wp2
            exact ⟨_, rfl, Grow.refl _, rfl⟩
          refine StepsS.cons ?_ fun v1 => ⟨_, _, by simp only [Act.put, List.setIfInBounds_toArray, List.set_cons_succ, List.set_cons_zero]; first | done | rfl, by simp only [List.nil_append, List.cons_append]; first | done | rfl, ?_⟩
          · intro w1 hE hd
            clear hd
            go_wp2
            exact ⟨_, rfl, Grow.refl _, rfl⟩
          refine StepsS.cons ?_ fun v2 => ⟨_, _, by simp only [Act.put, List.setIfInBounds_toArray, List.set_cons_succ, List.set_cons_zero]; first | done | rfl, by simp only [List.nil_append, List.cons_append]; first | done | rfl, ?_⟩
          · intro w1 hE hd
            obtain rfl := IsV.eq (dep_at hd 0 rfl rfl rfl)
            clear hd
            go_wp2
            exact ⟨_, rfl, Grow.refl _, rfl⟩
          refine StepsS.cons ?_ fun v3 => ⟨_, _, by simp only [Act.put, List.setIfInBounds_toArray, List.set_cons_succ, List.set_cons_zero]; first | done | rfl, by simp only [List.nil_append, List.cons_append]; first | done | rfl, ?_⟩
          · intro w1 hE hd
            obtain rfl := IsV.eq (dep_at hd 0 rfl rfl rfl)
            clear hd
            go_wp2
            exact ⟨_, rfl, Grow.refl _, rfl⟩
          refine StepsS.cons ?_ fun v4 => ⟨_, _, by simp only [Act.put, List.setIfInBounds_toArray, List.set_cons_succ, List.set_cons_zero]; first | done | rfl, by simp only [List.nil_append, List.cons_append]; first | done | rfl, ?_⟩
          · intro w1 hE hd
            obtain rfl := IsV.eq (dep_at hd 0 rfl rfl rfl)
            clear hd
            go_wp2
            exact ⟨_, rfl, Grow.refl _, rfl⟩
          refine StepsS.cons ?_ fun v5 => ⟨_, _, by simp only [Act.put, List.setIfInBounds_toArray, List.set_cons_succ, List.set_cons_zero]; first | done | rfl, by simp only [List.nil_append, List.cons_append]; first | done | rfl, ?_⟩
          · intro w1 hE hd
            obtain rfl := IsV.eq (dep_at hd 0 rfl rfl rfl)
            obtain rfl := IsV.eq (dep_at hd 1 rfl rfl rfl)
            clear hd
            go_wp2
            exact ⟨_, rfl, Grow.refl _, rfl⟩
          refine StepsS.cons ?_ fun v6 => ⟨_, _, by simp only [Act.put, List.setIfInBounds_toArray, List.set_cons_succ, List.set_cons_zero]; first | done | rfl, by simp only [List.nil_append, List.cons_append]; first | done | rfl, ?_⟩
          · intro w1 hE hd
            clear hd
            go_wp2
            exact ⟨_, rfl, Grow.refl _, rfl⟩
          refine StepsS.cons ?_ fun v7 => ⟨_, _, by simp only [Act.put, List.setIfInBounds_toArray, List.set_cons_succ, List.set_cons_zero]; first | done | rfl, by simp only [List.nil_append, List.cons_append]; first | done | rfl, ?_⟩
          · intro w1 hE hd
            obtain rfl := IsV.eq (dep_at hd 0 rfl rfl rfl)
            clear hd
            go_wp2
            exact ⟨_, rfl, Grow.refl _, rfl⟩
          refine StepsS.cons ?_ fun v8 => ⟨_, _, by simp only [Act.put, List.setIfInBounds_toArray, List.set_cons_succ, List.set_cons_zero]; first | done | rfl, by simp only [List.nil_append, List.cons_append]; first | done | rfl, ?_⟩
          · intro w1 hE hd
            obtain rfl := IsV.eq (dep_at hd 0 rfl rfl rfl)
            clear hd
            go_wp2
            exact ⟨_, rfl, Grow.refl _, rfl⟩
          refine StepsS.cons ?_ fun v9 => ⟨_, _, by simp only [Act.put, List.setIfInBounds_toArray, List.set_cons_succ, List.set_cons_zero]; first | done | rfl, by simp only [List.nil_append, List.cons_append]; first | done | rfl, ?_⟩
          · intro w1 hE hd
            obtain rfl := IsV.eq (dep_at hd 0 rfl rfl rfl)
            clear hd
            go_wp2
            exact ⟨_, rfl, Grow.refl _, rfl⟩
          refine StepsS.cons ?_ fun v10 => ⟨_, _, by simp only [Act.put, List.setIfInBounds_toArray, List.set_cons_succ, List.set_cons_zero]; first | done | rfl, by simp only [List.nil_append, List.cons_append]; first | done | rfl, ?_⟩
          · intro w1 hE hd
            obtain rfl := IsV.eq (dep_at hd 0 rfl rfl rfl)
            obtain rfl := IsV.eq (dep_at hd 1 rfl rfl rfl)
            clear hd
            go_wp2
            exact ⟨_, rfl, Grow.refl _, rfl⟩
          refine StepsS.cons ?_ fun v11 => ⟨_, _, by simp only [Act.put, List.setIfInBounds_toArray, List.set_cons_succ, List.set_cons_zero]; first | done | rfl, by simp only [List.nil_append, List.cons_append]; first | done | rfl, ?_⟩
          · intro w1 hE hd
            obtain rfl := IsV.eq (dep_at hd 0 rfl rfl rfl)
            clear hd
            go_wp2
            exact ⟨_, rfl, Grow.refl _, rfl⟩
          trivial
        intro wR hwR
        refine FinS.cons ?_; rintro _ rfl; refine ⟨_, by simp only [Act.put, List.setIfInBounds_toArray, List.set_cons_succ, List.set_cons_zero]; first | done | rfl, ?_⟩
        refine FinS.cons ?_; rintro _ rfl; refine ⟨_, by simp only [Act.put, List.setIfInBounds_toArray, List.set_cons_succ, List.set_cons_zero]; first | done | rfl, ?_⟩
        refine FinS.cons ?_; rintro _ rfl; refine ⟨_, by simp only [Act.put, List.setIfInBounds_toArray, List.set_cons_succ, List.set_cons_zero]; first | done | rfl, ?_⟩
        refine FinS.cons ?_; rintro _ rfl; refine ⟨_, by simp only [Act.put, List.setIfInBounds_toArray, List.set_cons_succ, List.set_cons_zero]; first | done | rfl, ?_⟩
        refine FinS.cons ?_; rintro _ rfl; refine ⟨_, by simp only [Act.put, List.setIfInBounds_toArray, List.set_cons_succ, List.set_cons_zero]; first | done | rfl, ?_⟩
        refine FinS.cons ?_; rintro _ rfl; refine ⟨_, by simp only [Act.put, List.setIfInBounds_toArray, List.set_cons_succ, List.set_cons_zero]; first | done | rfl, ?_⟩
        refine FinS.cons ?_; rintro _ rfl; refine ⟨_, by simp only [Act.put, List.setIfInBounds_toArray, List.set_cons_succ, List.set_cons_zero]; first | done | rfl, ?_⟩
        refine FinS.cons ?_; rintro _ rfl; refine ⟨_, by simp only [Act.put, List.setIfInBounds_toArray, List.set_cons_succ, List.set_cons_zero]; first | done | rfl, ?_⟩
        refine FinS.cons ?_; rintro _ rfl; refine ⟨_, by simp only [Act.put, List.setIfInBounds_toArray, List.set_cons_succ, List.set_cons_zero]; first | done | rfl, ?_⟩
        refine FinS.cons ?_; rintro _ rfl; refine ⟨_, by simp only [Act.put, List.setIfInBounds_toArray, List.set_cons_succ, List.set_cons_zero]; first | done | rfl, ?_⟩
        refine FinS.cons ?_; rintro _ rfl; refine ⟨_, by simp only [Act.put, List.setIfInBounds_toArray, List.set_cons_succ, List.set_cons_zero]; first | done | rfl, ?_⟩
        refine FinS.cons ?_; rintro _ rfl; refine ⟨_, by simp only [Act.put, List.setIfInBounds_toArray, List.set_cons_succ, List.set_cons_zero]; first | done | rfl, ?_⟩
        first | show Exit.then _ _ _ _ _ | show Exit.inBlock _ _ _ _ _
        go_wp2
        go_roundw
        case rel =>
          have ht3 := HE3.out
          subst ht3
          first | exact ⟨j + 1, by omega, by go_num, rfl, hgr.trans hwR.drew⟩ | ((repeat apply Exists.intro); exact ⟨⟨j + 1, by omega, by go_num, rfl, hgr.trans hwR.drew⟩, rfl⟩)
        case measure => simp [intOf]; omega
      · obtain rfl : j = len := by omega
        have HP2 : P = s2 ++ hexL (d.take j) := by rw [HQ.out, List.take_of_length_le (by have := HL.out; omega)]
        rw [← HP2]
        clear HP2 HQ HL Hd4 HY
        go_wp2
        go_ret
        exact ⟨rfl, hgr⟩
  · obtain ⟨m1, m2, m3⟩ := r2 rfl
    have hm : 0 ≤ m ∧ m ≤ 8 := by
      unfold whereE at m1
      split at m1 <;> omega
    obtain ⟨m, rfl⟩ : ∃ j : Nat, m = (j : Int) := ⟨m.toNat, by omega⟩
    have hm : m < 10 := by omega
    have hi2 := itoa_any m hm
    have hz2 : (str (Lib.itoa (m : Int))).size = 1 := by rw [str_size, itoa_small m hm]; rfl
    have hq0 : ({ data := #[115, 119, 97, 112, 32] } : ByteArray).size = 5 := rfl
    have hq1 : ({ data := #[32] } : ByteArray).size = 1 := rfl
    have ha1 : ({ data := #[115, 119, 97, 112, 32] } : ByteArray) ++ str (Lib.itoa (n : Int)) = str (swW ++ 32 :: Lib.itoa n) := by
      rw [show ({ data := #[115, 119, 97, 112, 32] } : ByteArray) = str (swW ++ [32]) from rfl, str_append]; simp
    have ha2 : str (swW ++ 32 :: Lib.itoa n) ++ ({ data := #[32] } : ByteArray) = str (swW ++ 32 :: (Lib.itoa n ++ [32])) := by
      rw [show ({ data := #[32] } : ByteArray) = str [32] from rfl, str_append]; simp
    have ha3 : str (swW ++ 32 :: (Lib.itoa n ++ [32])) ++ str (Lib.itoa m) = str (swW ++ 32 :: (Lib.itoa n ++ 32 :: Lib.itoa m)) := by
      rw [str_append]; simp
    have hy1 : (str (swW ++ 32 :: Lib.itoa n)).size = 6 := by rw [str_size, itoa_small n hn]; rfl
    have hy2 : (str (swW ++ 32 :: (Lib.itoa n ++ [32]))).size = 7 := by rw [str_size, itoa_small n hn]; rfl
    have HQ : Hid (P = swW ++ 32 :: (Lib.itoa n ++ 32 :: Lib.itoa m)) := HP.out.trans (if_pos rfl)
    generalize swW ++ 32 :: (Lib.itoa n ++ 32 :: Lib.itoa m) = s3 at *
    generalize swW ++ 32 :: (Lib.itoa n ++ [32]) = s2 at *
    generalize swW ++ 32 :: Lib.itoa n = s1 at *
    generalize Lib.itoa n = sn at *
    generalize Lib.itoa m = sm at *
    clear m1 m2 m3 r1 r2 h5
    generalize d.length = len at *
    go_enter Tryd.func10, Tryd.ntmps10
    go_wp2_with fail
    refine wp_region_stable Grow [IsV (.pointer (some ⟨w.heap.size, 1, none⟩)), IsV (.int .i64 n), IsV (.string (str sn)), IsV (.string (str s1)), IsV (.string (str s2)), IsV (.pointer (some ⟨w.heap.size, 2, none⟩)), IsV (.int .i64 m), IsV (.string (str sm)), IsV (.string (str s3)), IsV (.string (str s3))] (by kernel_rfl) (by kernel_rfl) rfl Grow.refl (fun _ _ _ => Grow.trans) ?_ ?_ ?_
    · repeat (refine List.forall_mem_cons.2 ⟨by first | exact IsV.stable _, ?_⟩)
      exact fun R hR => nomatch hR
    · skip
      refine StepsS.cons ?_ fun v0 => ⟨_, _, by simp only [Act.put, List.setIfInBounds_toArray, List.set_cons_succ, List.set_cons_zero]; first | done | rfl, by simp only [List.nil_append]; first | done | rfl, ?_⟩
      · intro w1 hE hd
        clear hd
        go_wp2
        exact ⟨_, rfl, Grow.refl _, rfl⟩
      refine StepsS.cons ?_ fun v1 => ⟨_, _, by simp only [Act.put, List.setIfInBounds_toArray, List.set_cons_succ, List.set_cons_zero]; first | done | rfl, by simp only [List.nil_append, List.cons_append]; first | done | rfl, ?_⟩
      · intro w1 hE hd
        obtain rfl := IsV.eq (dep_at hd 0 rfl rfl rfl)
        clear hd
        have hcq := hE.drew.at hbx1
        go_wp2
        exact ⟨_, rfl, Grow.refl _, rfl⟩
      refine StepsS.cons ?_ fun v2 => ⟨_, _, by simp only [Act.put, List.setIfInBounds_toArray, List.set_cons_succ, List.set_cons_zero]; first | done | rfl, by simp only [List.nil_append, List.cons_append]; first | done | rfl, ?_⟩
      · intro w1 hE hd
        obtain rfl := IsV.eq (dep_at hd 0 rfl rfl rfl)
        clear hd
        go_wp2_with fail
        refine (hi1 _).mono ?_
        rintro e w4 ⟨rfl, hg4⟩
        go_wp2_with fail
        exact ⟨_, rfl, hg4, rfl⟩
      refine StepsS.cons ?_ fun v3 => ⟨_, _, by simp only [Act.put, List.setIfInBounds_toArray, List.set_cons_succ, List.set_cons_zero]; first | done | rfl, by simp only [List.nil_append, List.cons_append]; first | done | rfl, ?_⟩
      · intro w1 hE hd
        obtain rfl := IsV.eq (dep_at hd 0 rfl rfl rfl)
        clear hd
        go_wp2
        exact ⟨_, rfl, Grow.refl _, rfl⟩
      refine StepsS.cons ?_ fun v4 => ⟨_, _, by simp only [Act.put, List.setIfInBounds_toArray, List.set_cons_succ, List.set_cons_zero]; first | done | rfl, by simp only [List.nil_append, List.cons_append]; first | done | rfl, ?_⟩
      · intro w1 hE hd
        obtain rfl := IsV.eq (dep_at hd 0 rfl rfl rfl)
        clear hd
        go_wp2
        exact ⟨_, rfl, Grow.refl _, rfl⟩
      refine StepsS.cons ?_ fun v5 => ⟨_, _, by simp only [Act.put, List.setIfInBounds_toArray, List.set_cons_succ, List.set_cons_zero]; first | done | rfl, by simp only [List.nil_append, List.cons_append]; first | done | rfl, ?_⟩
      · intro w1 hE hd
        clear hd
        go_wp2
        exact ⟨_, rfl, Grow.refl _, rfl⟩
      refine StepsS.cons ?_ fun v6 => ⟨_, _, by simp only [Act.put, List.setIfInBounds_toArray, List.set_cons_succ, List.set_cons_zero]; first | done | rfl, by simp only [List.nil_append, List.cons_append]; first | done | rfl, ?_⟩
      · intro w1 hE hd
        obtain rfl := IsV.eq (dep_at hd 0 rfl rfl rfl)
        clear hd
        have hcq := hE.drew.at hbx2
        go_wp2
        exact ⟨_, rfl, Grow.refl _, rfl⟩
      refine StepsS.cons ?_ fun v7 => ⟨_, _, by simp only [Act.put, List.setIfInBounds_toArray, List.set_cons_succ, List.set_cons_zero]; first | done | rfl, by simp only [List.nil_append, List.cons_append]; first | done | rfl, ?_⟩
      · intro w1 hE hd
        obtain rfl := IsV.eq (dep_at hd 0 rfl rfl rfl)
        clear hd
        go_wp2_with fail
        refine (hi2 _).mono ?_
        rintro e w4 ⟨rfl, hg4⟩
        go_wp2_with fail
        exact ⟨_, rfl, hg4, rfl⟩
      refine StepsS.cons ?_ fun v8 => ⟨_, _, by simp only [Act.put, List.setIfInBounds_toArray, List.set_cons_succ, List.set_cons_zero]; first | done | rfl, by simp only [List.nil_append, List.cons_append]; first | done | rfl, ?_⟩
      · intro w1 hE hd
        obtain rfl := IsV.eq (dep_at hd 0 rfl rfl rfl)
        obtain rfl := IsV.eq (dep_at hd 1 rfl rfl rfl)
        clear hd
        go_wp2
        exact ⟨_, rfl, Grow.refl _, rfl⟩
      refine StepsS.cons ?_ fun v9 => ⟨_, _, by simp only [Act.put, List.setIfInBounds_toArray, List.set_cons_succ, List.set_cons_zero]; first | done | rfl, by simp only [List.nil_append, List.cons_append]; first | done | rfl, ?_⟩
      · intro w1 hE hd
        obtain rfl := IsV.eq (dep_at hd 0 rfl rfl rfl)
        clear hd
        go_wp2
        exact ⟨_, rfl, Grow.refl _, rfl⟩
      trivial
    intro wR hwR
    refine FinS.cons ?_; rintro _ rfl; refine ⟨_, by simp only [Act.put, List.setIfInBounds_toArray, List.set_cons_succ, List.set_cons_zero]; first | done | rfl, ?_⟩
    refine FinS.cons ?_; rintro _ rfl; refine ⟨_, by simp only [Act.put, List.setIfInBounds_toArray, List.set_cons_succ, List.set_cons_zero]; first | done | rfl, ?_⟩
    refine FinS.cons ?_; rintro _ rfl; refine ⟨_, by simp only [Act.put, List.setIfInBounds_toArray, List.set_cons_succ, List.set_cons_zero]; first | done | rfl, ?_⟩
    refine FinS.cons ?_; rintro _ rfl; refine ⟨_, by simp only [Act.put, List.setIfInBounds_toArray, List.set_cons_succ, List.set_cons_zero]; first | done | rfl, ?_⟩
    refine FinS.cons ?_; rintro _ rfl; refine ⟨_, by simp only [Act.put, List.setIfInBounds_toArray, List.set_cons_succ, List.set_cons_zero]; first | done | rfl, ?_⟩
    refine FinS.cons ?_; rintro _ rfl; refine ⟨_, by simp only [Act.put, List.setIfInBounds_toArray, List.set_cons_succ, List.set_cons_zero]; first | done | rfl, ?_⟩
    refine FinS.cons ?_; rintro _ rfl; refine ⟨_, by simp only [Act.put, List.setIfInBounds_toArray, List.set_cons_succ, List.set_cons_zero]; first | done | rfl, ?_⟩
    refine FinS.cons ?_; rintro _ rfl; refine ⟨_, by simp only [Act.put, List.setIfInBounds_toArray, List.set_cons_succ, List.set_cons_zero]; first | done | rfl, ?_⟩
    refine FinS.cons ?_; rintro _ rfl; refine ⟨_, by simp only [Act.put, List.setIfInBounds_toArray, List.set_cons_succ, List.set_cons_zero]; first | done | rfl, ?_⟩
    refine FinS.cons ?_; rintro _ rfl; refine ⟨_, by simp only [Act.put, List.setIfInBounds_toArray, List.set_cons_succ, List.set_cons_zero]; first | done | rfl, ?_⟩
    first | show Exit.then _ _ _ _ _ | show Exit.inBlock _ _ _ _ _
    go_wp2
    go_ret
    have hP := HQ.out
    subst hP
    exact ⟨rfl, hg.trans hwR.drew⟩

end Go.Proofs.YtjggiameajndgabDoor
