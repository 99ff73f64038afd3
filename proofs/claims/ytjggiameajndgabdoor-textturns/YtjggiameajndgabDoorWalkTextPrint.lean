/-
  What text.printWords, printData and Print return, of a right deed.
-/
import Derived.Test.YtjggiameajndgabDoorWalkTextParts
import Derived.Test.YtjggiameajndgabDoorWalkModelW
import Derived.Deep.RegionLaw
import Derived.Deep.AppendLies
namespace Go.Proofs.YtjggiameajndgabDoor
open Go.RowKit

set_option maxRecDepth 20000 in
set_option maxHeartbeats 800000 in
theorem printWords_any (a b c : List UInt8) (w : World) (h : a.length + b.length + c.length ≤ 1099511627776) :
    Calls Tryd.prog 20 #[.string (str a), .string (str b), .string (str c)] w fun e w' => e = .returned (.string (str (a ++ 32 :: (b ++ 32 :: c)))) ∧ Grow w w' := by
  have s1 := str_size a
  have s2 := str_size b
  have s3 := str_size c
  have s4 : ({ data := #[32] } : ByteArray).size = 1 := rfl
  have hb : ({ data := #[32] } : ByteArray) = str [32] := rfl
  have e1 : str a ++ ({ data := #[32] } : ByteArray) = str (a ++ [32]) := by rw [hb, str_append]
  have e2 : str (a ++ [32]) ++ str b = str (a ++ 32 :: b) := by rw [str_append]; simp
  have e3 : str (a ++ 32 :: b) ++ ({ data := #[32] } : ByteArray) = str (a ++ 32 :: (b ++ [32])) := by rw [hb, str_append]; simp
  have e4 : str (a ++ 32 :: (b ++ [32])) ++ str c = str (a ++ 32 :: (b ++ 32 :: c)) := by rw [str_append]; simp
  have s5 : (str (a ++ [32])).size = a.length + 1 := by rw [str_size]; simp
  have s6 : (str (a ++ 32 :: b)).size = a.length + b.length + 1 := by rw [str_size]; simp; omega
  have s7 : (str (a ++ 32 :: (b ++ [32]))).size = a.length + b.length + 2 := by rw [str_size]; simp; omega
  clear hb
  obtain ⟨o, ho⟩ : ∃ o, o = a ++ 32 :: (b ++ 32 :: c) := ⟨_, rfl⟩
  rw [← ho] at e4 ⊢
  clear ho
  generalize a ++ 32 :: (b ++ [32]) = t3 at *
  generalize a ++ 32 :: b = t2 at *
  generalize a ++ [32] = t1 at *
  go_enter Tryd.func20, Tryd.ntmps20
  go_wp2
  go_ret
  exact ⟨rfl, Grow.refl _⟩

theorem Grow.drew2 {w0 w : World} (h : Grow w0 w) : Grow w0 w.drew := h.trans ⟨rfl, rfl, rfl, Nat.le_refl _, fun _ _ => rfl⟩

/-- The digits, as numbers. -/
def hexI (d : List Int) : List Int := (hexL d).map fun c => (c.toNat : Int)

theorem hexI_oct (d : List Int) : Octets (hexI d) := by
  intro x hx
  simp only [hexI, List.mem_map] at hx
  obtain ⟨c, -, rfl⟩ := hx
  have := c.toNat_lt
  omega

theorem hexI_str (d : List Int) : strOfNums (hexI d) = str (hexL d) := by
  apply ByteArray.ext
  apply Array.toList_inj.1
  rw [strOfNums_data, hexI, List.map_map]
  have e : ((fun n : Int => UInt8.ofNat n.toNat) ∘ fun c : UInt8 => (c.toNat : Int)) = id := by
    funext c
    simp
  rw [e, List.map_id]
  simp [str]

theorem hexI_len (d : List Int) : (hexI d).length = 2 * d.length := by rw [hexI, List.length_map, hexL_length]

theorem hexI_take {d : List Int} {k : Nat} (hk : k < d.length) : hexI (d.take (k + 1)) = hexI (d.take k) ++ [((hexD (d.getD k 0 / 16).toNat).toNat : Int), ((hexD (d.getD k 0 % 16).toNat).toNat : Int)] := by
  rw [hexI, hexL_take hk, hexI]; simp

theorem and_low (c : Int) (h0 : 0 ≤ c) (h1 : c ≤ 255) : bits .and .u8 c 15 = c % 16 := by
  obtain ⟨n, rfl⟩ : ∃ n : Nat, c = n := ⟨c.toNat, by omega⟩
  have h := u8_and_nat n 15 (by omega) (by omega)
  have e : n &&& 15 = n % 16 := Nat.and_two_pow_sub_one_eq_mod n 4
  rw [e] at h
  exact h

set_option maxRecDepth 20000 in
set_option maxHeartbeats 800000 in
theorem printData_any (v : Value) (d : List Int) (w : World) (h : Bs w v d) (hl : d.length ≤ 1099511627776) :
    Calls Tryd.prog 21 #[v] w fun e w' => e = .returned (.string (str (hexL d))) ∧ Grow w w' := by
  obtain ⟨i1, hi1, hzb0, hzb1, hzb2⟩ := info_parts Tryd.infoBP
  obtain ⟨ao, cap, rfl, h1, h2, h3, h4, h5⟩ := h
  unfold maxLen at h2
  obtain ⟨o, ho⟩ : ∃ o, o = hexL d := ⟨_, rfl⟩
  rw [← ho]
  have HO0 : Hid (hexL d = o) := ho.symm
  clear ho
  obtain ⟨w2, hmk, hown, hgm⟩ := run_make_own (P := Tryd.prog) w w.heap.size 22 5 i1 (.int .u8 0) 1 Tryd.underlying22 hi1 hzb0 hzb1 .i64 .i64 (2 * d.length) (by rw [hzb2]; omega) (by unfold maxLen; omega) (Nat.le_refl _)
  rw [show ((2 * d.length : Nat) : Int) = 2 * (d.length : Int) by omega] at hmk
  have hgA : Grow w w2 := Grow.grown (Grow.refl _) hgm (fun j hj => by cases hj)
  have HOW : Hid (w2.ownsRow w.heap.size 5 1 (.slice (some ⟨w.heap.size, 0, none⟩) 0 (2 * d.length)) 0 []) := hown
  clear hown hgm
  generalize hlen : d.length = len at *
  have HL : Hid (d.length = len) := hlen
  clear hlen
  go_enter Tryd.func21, Tryd.ntmps21
  go_wp2_with fail
  clear hmk
  go_loopw [3, 12] (fun u i wr => ∃ j : Nat, j ≤ len ∧ i = .int .i64 j ∧ Hid (wr.ownsRow w.heap.size 5 1 u (2 * j) ((hexI (d.take j)).map (Value.int .u8))) ∧ Grow w wr ∧ w.heap.size ≤ wr.heap.size) (fun _ i _ => len - (intOf i).toNat)
  case atStart => exact ⟨0, by omega, rfl, HOW, hgA, hgA.size⟩
  case round =>
    obtain ⟨j, hj, rfl, HO, hgr, hB⟩ := hrel
    clear HOW hgA
    by_cases hlt : j < len
    · obtain ⟨b, off, rfl, hc⟩ := h5 (by have := HL.out; omega)
      have hc' := hgr.at (hc j (by have := HL.out; omega))
      have hcd := getD_bd h4 j
      have HT : Hid _ := hexI_take (d := d) (k := j) (by have := HL.out; omega)
      have Hc : Hid (∀ i, i < d.length → w.cell? ⟨b, off + i, none⟩ = some (.int .u8 (d.getD i 0))) := fun i hi => hc i (by have := HL.out; omega)
      clear hc
      generalize d.getD j 0 = c at *
      have hx1 := fun w => hex_index (w := w) (c / 16) (by omega) (by omega)
      have hx2 := fun w => hex_index (w := w) (c % 16) (by omega) (by omega)
      have hand := and_low c hcd.1 hcd.2
      generalize ((hexD (c / 16).toNat).toNat : Int) = p at *
      generalize ((hexD (c % 16).toNat).toNat : Int) = q at *
      have hdl : decide ((j : Int) < (len : Int)) = true := by simp; omega
      go_wp2_with fail
      go_region_law (refine step_append_lies _ rfl (.tmp 16) (.tmp 23) 22 rfl w.heap.size 5 i1 (.int .u8 0) 1 1 Tryd.underlying22 hi1 hzb0 hzb1 hzb2 rfl (by decide) u3 (2 * j) ((hexI (d.take j)).map (Value.int .u8)) (by simp [Act.eval]) (HO.out.alloc _) ⟨_, 0, none⟩ 2 2 [.int .u8 p, .int .u8 q] (by simp [Act.eval]) rfl (World.news_of_block (heap_alloc_new _ _)) (by intro u hu; simp at hu; rcases hu with rfl | rfl <;> rfl) (by decide) (by unfold maxLen; omega) (by omega) (by simp; omega) _ rfl ?_; intro g cp w7 hown7 hgr7 hat7 hlt7)
      all_goals
        have HO7 : Hid (w7.ownsRow w.heap.size 5 1 (.slice (some ⟨g, 0, none⟩) (2 * j + 2) cp) (2 * (j + 1)) ((hexI (d.take (j + 1))).map (Value.int .u8))) := by
          rw [Hid, HT.out, show 2 * (j + 1) = 2 * j + 2 by omega]
          simpa using hown7
        have hg7 : Grow w w7 := Grow.grown (by first | exact hgr.trans (Grow.alloc _ _) | exact hgr.trans (Grow.alloc _ _).drew2 | exact hgr.trans (Grow.trans (Grow.drew2 (Grow.refl _)) (Grow.alloc _ _))) hgr7 (fun k hk => (HO.out.lt k hk).1)
        have hs7 : w.heap.size ≤ w7.heap.size := hg7.size
        clear hown7 hgr7 hat7 HO hgr hB HT Hc hc'
        go_wp2_with fail
        go_roundw
        case rel => first | exact ⟨j + 1, by omega, by go_num, HO7, hg7, hs7⟩ | ((repeat apply Exists.intro); exact ⟨⟨j + 1, by omega, by go_num, HO7, hg7, hs7⟩, rfl⟩)
        case measure => simp [intOf]; omega
    · obtain rfl : j = len := by omega
      have hbs := Bs.of_own (l := hexI (d.take j)) HO.out (hexI_oct _)
      have hcv := run_convert_bs (P := Tryd.prog) 22 5 9 Tryd.underlying22 Tryd.underlying5 Tryd.underlying9 hbs
      rw [hexI_str, List.take_of_length_le (by have := HL.out; omega), HO0.out] at hcv
      clear hbs HO
      go_wp2_with fail
      go_ret
      exact ⟨rfl, hgr⟩

set_option maxRecDepth 20000 in
set_option maxHeartbeats 800000 in
theorem print_any (v : Value) (x : DeedP) (w : World) (h : DeedV w v x) (hx : wrongE x = 0) :
    Calls Tryd.prog 9 #[v] w fun e w' => e = .returned (.string (str (printP x))) ∧ Grow w w' := by
  have hr := right_deed hx
  have HW : Hid (wrongE x = 0) := hx
  clear hx
  obtain ⟨dv, rfl, hb⟩ := h
  obtain ⟨ao, cap, rfl, h1, h2, h3, h4, h5⟩ := hb
  have hB : Bs w (.slice ao x.d.length cap) x.d := ⟨ao, cap, rfl, h1, h2, h3, h4, h5⟩
  have HBs : Hid (Bs w (.slice ao x.d.length cap) x.d) := hB
  clear hB h5
  obtain ⟨k, n, m, d⟩ := x
  dsimp only at *
  obtain ⟨hk, n0, n1, r1, r2⟩ := hr
  obtain ⟨n, rfl⟩ : ∃ j : Nat, n = (j : Int) := ⟨n.toNat, by omega⟩
  have hn : n < 10 := by omega
  have hi1 := itoa_any n hn
  have HZ1 : Hid ((Lib.itoa (n : Int)).length = 1) := by rw [Hid, itoa_small n hn]; rfl
  obtain ⟨P, hP⟩ : ∃ P, P = printP ⟨k, n, m, d⟩ := ⟨_, rfl⟩
  rw [← hP]
  have HP : Hid (P = printP ⟨k, n, m, d⟩) := hP
  clear hP
  have hg : Grow w (w.alloc (.cells #[.int .i64 k, .int .i64 n, .int .i64 m, .slice ao d.length cap] 24)) := Grow.alloc _ _
  have HBx : Hid (Box4 (w.alloc (.cells #[.int .i64 k, .int .i64 n, .int .i64 m, .slice ao d.length cap] 24)) w.heap.size (.int .i64 k) (.int .i64 n) (.int .i64 m) (.slice ao d.length cap)) := Box4.new (heap_alloc_new _ _)
  obtain ⟨f0, f1, f2, f3, ff⟩ := HBx.out
  have HB2 : Hid (Bs _ (.slice ao d.length cap) d) := HBs.out.grow hg
  go_enter Tryd.func9, Tryd.ntmps9
  go_wp2_with fail
  refine (modelWrong_any _ ⟨k, n, m, d⟩ _ ⟨_, rfl, HB2.out⟩).mono ?_
  rintro e w5 ⟨rfl, hg5⟩
  rw [HW.out]
  obtain ⟨j0, j1, j2, j3, jf⟩ := HBx.out.grow hg5
  have HB5 : Hid (Bs w5 (.slice ao d.length cap) d) := HB2.out.grow hg5
  have hgw := hg.trans hg5
  clear f0 f1 f2 f3 ff HBx HB2 HBs hg hg5
  rcases hk with rfl | rfl
  · obtain ⟨rfl, hd4⟩ := r1 rfl
    clear r1 r2
    have HPQ : Hid (P = wrW ++ 32 :: (Lib.itoa (n : Int) ++ 32 :: hexL d)) := HP.out.trans (if_neg (by simp))
    have hpd := fun w1 (hq : Grow w5 w1) => printData_any _ d w1 (HB5.out.grow hq) (by omega)
    have hpw := fun w1 => printWords_any wrW (Lib.itoa (n : Int)) (hexL d) w1 (by rw [HZ1.out, hexL_length]; have : wrW.length = 5 := rfl; omega)
    rw [← HPQ.out] at hpw
    rw [show str wrW = ({ data := #[119, 114, 105, 116, 101] } : ByteArray) from rfl] at hpw
    clear HPQ HP hd4
    generalize Lib.itoa (n : Int) = sn at *
    generalize hexL d = sd at *
    generalize d.length = len at *
    go_wp2_with fail
    refine wp_region_stable Grow [IsV (.pointer (some ⟨w.heap.size, 1, none⟩)), IsV (.int .i64 n), IsV (.string (str sn)), IsV (.pointer (some ⟨w.heap.size, 3, none⟩)), IsV (.slice ao len cap), IsV (.string (str sd)), IsV (.string (str P)), IsV (.string (str P))] (by kernel_rfl) (by kernel_rfl) rfl Grow.refl (fun _ _ _ => Grow.trans) ?_ ?_ ?_
    · repeat (refine List.forall_mem_cons.2 ⟨by first | exact IsV.stable _, ?_⟩)
      exact fun R hR => nomatch hR
    · skip
      refine StepsS.cons ?_ fun v0 => ⟨_, _, by simp only [Act.put, List.setIfInBounds_toArray, List.set_cons_succ, List.set_cons_zero]; first | done | rfl, by simp only [List.nil_append]; first | done | rfl, ?_⟩
      · intro w1 hE hd
        clear hd
        go_wp2
        exact ⟨_, rfl, Grow.refl _, rfl⟩
      refine StepsS.cons ?_ fun v1 => ⟨_, _, by simp only [Act.put, List.setIfInBounds_toArray, List.set_cons_succ, List.set_cons_zero]; first | done | rfl, by simp only [List.nil_append, List.cons_append]; first | done | rfl, ?_⟩
      · intro w1 hE hd
        obtain rfl := IsV.eq (dep_at hd 0 rfl rfl rfl)
        clear hd
        have hcq := hE.drew.at j1
        go_wp2
        exact ⟨_, rfl, Grow.refl _, rfl⟩
      refine StepsS.cons ?_ fun v2 => ⟨_, _, by simp only [Act.put, List.setIfInBounds_toArray, List.set_cons_succ, List.set_cons_zero]; first | done | rfl, by simp only [List.nil_append, List.cons_append]; first | done | rfl, ?_⟩
      · intro w1 hE hd
        obtain rfl := IsV.eq (dep_at hd 0 rfl rfl rfl)
        clear hd
        go_wp2_with fail
        refine (hi1 _).mono ?_
        rintro e w4 ⟨rfl, hg4⟩
        go_wp2_with fail
        exact ⟨_, rfl, hg4, rfl⟩
      refine StepsS.cons ?_ fun v3 => ⟨_, _, by simp only [Act.put, List.setIfInBounds_toArray, List.set_cons_succ, List.set_cons_zero]; first | done | rfl, by simp only [List.nil_append, List.cons_append]; first | done | rfl, ?_⟩
      · intro w1 hE hd
        clear hd
        go_wp2
        exact ⟨_, rfl, Grow.refl _, rfl⟩
      refine StepsS.cons ?_ fun v4 => ⟨_, _, by simp only [Act.put, List.setIfInBounds_toArray, List.set_cons_succ, List.set_cons_zero]; first | done | rfl, by simp only [List.nil_append, List.cons_append]; first | done | rfl, ?_⟩
      · intro w1 hE hd
        obtain rfl := IsV.eq (dep_at hd 0 rfl rfl rfl)
        clear hd
        have hcq := hE.drew.at j3
        go_wp2
        exact ⟨_, rfl, Grow.refl _, rfl⟩
      refine StepsS.cons ?_ fun v5 => ⟨_, _, by simp only [Act.put, List.setIfInBounds_toArray, List.set_cons_succ, List.set_cons_zero]; first | done | rfl, by simp only [List.nil_append, List.cons_append]; first | done | rfl, ?_⟩
      · intro w1 hE hd
        obtain rfl := IsV.eq (dep_at hd 0 rfl rfl rfl)
        clear hd
        go_wp2_with fail
        refine (hpd _ hE.drew).mono ?_
        rintro e w4 ⟨rfl, hg4⟩
        go_wp2_with fail
        exact ⟨_, rfl, hg4, rfl⟩
      refine StepsS.cons ?_ fun v6 => ⟨_, _, by simp only [Act.put, List.setIfInBounds_toArray, List.set_cons_succ, List.set_cons_zero]; first | done | rfl, by simp only [List.nil_append, List.cons_append]; first | done | rfl, ?_⟩
      · intro w1 hE hd
        obtain rfl := IsV.eq (dep_at hd 0 rfl rfl rfl)
        obtain rfl := IsV.eq (dep_at hd 1 rfl rfl rfl)
        clear hd
        go_wp2_with fail
        refine (hpw _).mono ?_
        rintro e w4 ⟨rfl, hg4⟩
        go_wp2_with fail
        exact ⟨_, rfl, hg4, rfl⟩
      refine StepsS.cons ?_ fun v7 => ⟨_, _, by simp only [Act.put, List.setIfInBounds_toArray, List.set_cons_succ, List.set_cons_zero]; first | done | rfl, by simp only [List.nil_append, List.cons_append]; first | done | rfl, ?_⟩
      · intro w1 hE hd
        obtain rfl := IsV.eq (dep_at hd 0 rfl rfl rfl)
        clear hd
        go_wp2
        exact ⟨_, rfl, Grow.refl _, rfl⟩
      trivial
    intro wR hwR
    refine FinS.cons ?_; rintro _ rfl; refine ⟨_, by simp only [Act.put, List.setIfInBounds_toArray, List.set_cons_succ, List.set_cons_zero]; first | done | rfl, ?_⟩
    refine FinS.cons ?_; rintro _ rfl; refine ⟨_, by simp only [Act.put, List.setIfInBounds_toArray, List.set_cons_succ, List.set_cons_zero]; first | done | rfl, ?_⟩
    refine FinS.cons ?_; rintro _ rfl; refine ⟨_, by simp only [Act.put, List.setIfInBounds_toArray, List.set_cons_succ, List.set_cons_zero]; first | done | rfl, ?_⟩
    refine FinS.cons ?_; rintro _ rfl; refine ⟨_, by simp only [Act.put, List.setIfInBounds_toArray, List.set_cons_succ, List.set_cons_zero]; first | done | rfl, ?_⟩
    refine FinS.cons ?_; rintro _ rfl; refine ⟨_, by simp only [Act.put, List.setIfInBounds_toArray, List.set_cons_succ, List.set_cons_zero]; first | done | rfl, ?_⟩
    refine FinS.cons ?_; rintro _ rfl; refine ⟨_, by simp only [Act.put, List.setIfInBounds_toArray, List.set_cons_succ, List.set_cons_zero]; first | done | rfl, ?_⟩
    refine FinS.cons ?_; rintro _ rfl; refine ⟨_, by simp only [Act.put, List.setIfInBounds_toArray, List.set_cons_succ, List.set_cons_zero]; first | done | rfl, ?_⟩
    refine FinS.cons ?_; rintro _ rfl; refine ⟨_, by simp only [Act.put, List.setIfInBounds_toArray, List.set_cons_succ, List.set_cons_zero]; first | done | rfl, ?_⟩
    first | show Exit.then _ _ _ _ _ | show Exit.inBlock _ _ _ _ _
    go_wp2
    go_ret
    exact ⟨rfl, hgw.trans hwR.drew⟩
  · obtain ⟨m1, m2, m3⟩ := r2 rfl
    have hm : 0 ≤ m ∧ m ≤ 8 := by
      unfold whereE at m1
      split at m1 <;> omega
    obtain ⟨m, rfl⟩ : ∃ j : Nat, m = (j : Int) := ⟨m.toNat, by omega⟩
    have hm : m < 10 := by omega
    have hi2 := itoa_any m hm
    have HPQ : Hid (P = swW ++ 32 :: (Lib.itoa (n : Int) ++ 32 :: Lib.itoa (m : Int))) := HP.out.trans (if_pos rfl)
    have hpw := fun w1 => printWords_any swW (Lib.itoa (n : Int)) (Lib.itoa (m : Int)) w1 (by rw [HZ1.out, itoa_small m hm]; have : swW.length = 4 := rfl; simp only [List.length_cons, List.length_nil]; omega)
    rw [← HPQ.out] at hpw
    rw [show str swW = ({ data := #[115, 119, 97, 112] } : ByteArray) from rfl] at hpw
    clear HPQ HP m1 m2 m3 r1 r2 HB5
    generalize Lib.itoa (n : Int) = sn at *
    generalize Lib.itoa (m : Int) = sm at *
    generalize d.length = len at *
    go_wp2_with fail
    refine wp_region_stable Grow [IsV (.pointer (some ⟨w.heap.size, 1, none⟩)), IsV (.int .i64 n), IsV (.string (str sn)), IsV (.pointer (some ⟨w.heap.size, 2, none⟩)), IsV (.int .i64 m), IsV (.string (str sm)), IsV (.string (str P)), IsV (.string (str P))] (by kernel_rfl) (by kernel_rfl) rfl Grow.refl (fun _ _ _ => Grow.trans) ?_ ?_ ?_
    · repeat (refine List.forall_mem_cons.2 ⟨by first | exact IsV.stable _, ?_⟩)
      exact fun R hR => nomatch hR
    · skip
      refine StepsS.cons ?_ fun v0 => ⟨_, _, by simp only [Act.put, List.setIfInBounds_toArray, List.set_cons_succ, List.set_cons_zero]; first | done | rfl, by simp only [List.nil_append]; first | done | rfl, ?_⟩
      · intro w1 hE hd
        clear hd
        go_wp2
        exact ⟨_, rfl, Grow.refl _, rfl⟩
      refine StepsS.cons ?_ fun v1 => ⟨_, _, by simp only [Act.put, List.setIfInBounds_toArray, List.set_cons_succ, List.set_cons_zero]; first | done | rfl, by simp only [List.nil_append, List.cons_append]; first | done | rfl, ?_⟩
      · intro w1 hE hd
        obtain rfl := IsV.eq (dep_at hd 0 rfl rfl rfl)
        clear hd
        have hcq := hE.drew.at j1
        go_wp2
        exact ⟨_, rfl, Grow.refl _, rfl⟩
      refine StepsS.cons ?_ fun v2 => ⟨_, _, by simp only [Act.put, List.setIfInBounds_toArray, List.set_cons_succ, List.set_cons_zero]; first | done | rfl, by simp only [List.nil_append, List.cons_append]; first | done | rfl, ?_⟩
      · intro w1 hE hd
        obtain rfl := IsV.eq (dep_at hd 0 rfl rfl rfl)
        clear hd
        go_wp2_with fail
        refine (hi1 _).mono ?_
        rintro e w4 ⟨rfl, hg4⟩
        go_wp2_with fail
        exact ⟨_, rfl, hg4, rfl⟩
      refine StepsS.cons ?_ fun v3 => ⟨_, _, by simp only [Act.put, List.setIfInBounds_toArray, List.set_cons_succ, List.set_cons_zero]; first | done | rfl, by simp only [List.nil_append, List.cons_append]; first | done | rfl, ?_⟩
      · intro w1 hE hd
        clear hd
        go_wp2
        exact ⟨_, rfl, Grow.refl _, rfl⟩
      refine StepsS.cons ?_ fun v4 => ⟨_, _, by simp only [Act.put, List.setIfInBounds_toArray, List.set_cons_succ, List.set_cons_zero]; first | done | rfl, by simp only [List.nil_append, List.cons_append]; first | done | rfl, ?_⟩
      · intro w1 hE hd
        obtain rfl := IsV.eq (dep_at hd 0 rfl rfl rfl)
        clear hd
        have hcq := hE.drew.at j2
        go_wp2
        exact ⟨_, rfl, Grow.refl _, rfl⟩
      refine StepsS.cons ?_ fun v5 => ⟨_, _, by simp only [Act.put, List.setIfInBounds_toArray, List.set_cons_succ, List.set_cons_zero]; first | done | rfl, by simp only [List.nil_append, List.cons_append]; first | done | rfl, ?_⟩
      · intro w1 hE hd
        obtain rfl := IsV.eq (dep_at hd 0 rfl rfl rfl)
        clear hd
        go_wp2_with fail
        refine (hi2 _).mono ?_
        rintro e w4 ⟨rfl, hg4⟩
        go_wp2_with fail
        exact ⟨_, rfl, hg4, rfl⟩
      refine StepsS.cons ?_ fun v6 => ⟨_, _, by simp only [Act.put, List.setIfInBounds_toArray, List.set_cons_succ, List.set_cons_zero]; first | done | rfl, by simp only [List.nil_append, List.cons_append]; first | done | rfl, ?_⟩
      · intro w1 hE hd
        obtain rfl := IsV.eq (dep_at hd 0 rfl rfl rfl)
        obtain rfl := IsV.eq (dep_at hd 1 rfl rfl rfl)
        clear hd
        go_wp2_with fail
        refine (hpw _).mono ?_
        rintro e w4 ⟨rfl, hg4⟩
        go_wp2_with fail
        exact ⟨_, rfl, hg4, rfl⟩
      refine StepsS.cons ?_ fun v7 => ⟨_, _, by simp only [Act.put, List.setIfInBounds_toArray, List.set_cons_succ, List.set_cons_zero]; first | done | rfl, by simp only [List.nil_append, List.cons_append]; first | done | rfl, ?_⟩
      · intro w1 hE hd
        obtain rfl := IsV.eq (dep_at hd 0 rfl rfl rfl)
        clear hd
        go_wp2
        exact ⟨_, rfl, Grow.refl _, rfl⟩
      trivial
    intro wR hwR
    refine FinS.cons ?_; rintro _ rfl; refine ⟨_, by simp only [Act.put, List.setIfInBounds_toArray, List.set_cons_succ, List.set_cons_zero]; first | done | rfl, ?_⟩
    refine FinS.cons ?_; rintro _ rfl; refine ⟨_, by simp only [Act.put, List.setIfInBounds_toArray, List.set_cons_succ, List.set_cons_zero]; first | done | rfl, ?_⟩
    refine FinS.cons ?_; rintro _ rfl; refine ⟨_, by simp only [Act.put, List.setIfInBounds_toArray, List.set_cons_succ, List.set_cons_zero]; first | done | rfl, ?_⟩
    refine FinS.cons ?_; rintro _ rfl; refine ⟨_, by simp only [Act.put, List.setIfInBounds_toArray, List.set_cons_succ, List.set_cons_zero]; first | done | rfl, ?_⟩
    refine FinS.cons ?_; rintro _ rfl; refine ⟨_, by simp only [Act.put, List.setIfInBounds_toArray, List.set_cons_succ, List.set_cons_zero]; first | done | rfl, ?_⟩
    refine FinS.cons ?_; rintro _ rfl; refine ⟨_, by simp only [Act.put, List.setIfInBounds_toArray, List.set_cons_succ, List.set_cons_zero]; first | done | rfl, ?_⟩
    refine FinS.cons ?_; rintro _ rfl; refine ⟨_, by simp only [Act.put, List.setIfInBounds_toArray, List.set_cons_succ, List.set_cons_zero]; first | done | rfl, ?_⟩
    refine FinS.cons ?_; rintro _ rfl; refine ⟨_, by simp only [Act.put, List.setIfInBounds_toArray, List.set_cons_succ, List.set_cons_zero]; first | done | rfl, ?_⟩
    first | show Exit.then _ _ _ _ _ | show Exit.inBlock _ _ _ _ _
    go_wp2
    go_ret
    exact ⟨rfl, hgw.trans hwR.drew⟩

end Go.Proofs.YtjggiameajndgabDoor
