/-
  What text.parseNumber and text.parseData return: a number that is written as it must be; the bytes that digits stand for.
-/
import Derived.Test.YtjggiameajndgabDoorWalkTextMaps
import Derived.Test.YtjggiameajndgabDoorWalkTextSplit
import Derived.Test.YtjggiameajndgabDoorWalkRefParse2
namespace Go.Proofs.YtjggiameajndgabDoor
open Go.RowKit

set_option maxRecDepth 20000 in
set_option maxHeartbeats 800000 in
theorem parseNumber_any (l : List UInt8) (hl : l.length ≤ 281474976710656) (w : World) (hlaid : Laid w) :
    Calls Tryd.prog 23 #[.string (str l)] w fun e w' => ∃ n, e = .returned (.tuple #[.int .i64 n, .bool (numL l).isSome]) ∧ (∀ v, numL l = some v → n = v) ∧ Grow w w' := by
  go_enter Tryd.func23, Tryd.ntmps23
  go_wp2_with fail
  refine (atoi_full l hl _ hlaid).mono ?_
  rintro e w5 ⟨hg5, (⟨v, hv, v0, v1, rfl⟩ | ⟨hno, v, p, rfl⟩)⟩
  · by_cases heq : Lib.itoa v = l
    · have HNu : Hid (numL l = some v) := num_yes hv heq
      have htest : ((str (Lib.itoa v)).toList == (str l).toList) = true := by rw [str_list, str_list]; simpa using heq
      clear heq hv
      go_wp2_with fail
      refine (itoa_full v v0 v1 _ (hlaid.grow hg5)).mono ?_
      rintro e w6 ⟨rfl, hg6⟩
      go_wp2_with fail
      go_ret2
      exact ⟨v, by rw [HNu.out]; rfl, (fun u hu => by rw [HNu.out] at hu; exact Option.some.inj hu), hg5.trans hg6⟩
    · have HNu : Hid (numL l = none) := num_other hv heq
      have htest : ((str (Lib.itoa v)).toList == (str l).toList) = false := by rw [str_list, str_list]; simpa using heq
      clear heq hv
      go_wp2_with fail
      refine (itoa_full v v0 v1 _ (hlaid.grow hg5)).mono ?_
      rintro e w6 ⟨rfl, hg6⟩
      go_wp2_with fail
      go_ret2
      exact ⟨v, by rw [HNu.out]; rfl, (fun u hu => by rw [HNu.out] at hu; cases hu), hg5.trans hg6⟩
  · have HNu : Hid (numL l = none) := num_no hno
    clear hno
    go_wp2_with fail
    go_ret2
    exact ⟨v, by rw [HNu.out]; rfl, (fun u hu => by rw [HNu.out] at hu; cases hu), hg5⟩

theorem own_lowT {w : World} {B B' : Nat} {e : TypeId} {v : Value} {n : Nat} {us : List Value} (h : w.ownsRow B e 1 v n us) (hB : B' ≤ B) : w.ownsRow B' e 1 v n us := by
  obtain ⟨hl, h⟩ := h
  refine ⟨hl, ?_⟩
  rcases h with h | ⟨g, cap, cur, hv, hg, h⟩
  · exact .inl h
  · exact .inr ⟨g, cap, cur, hv, Nat.le_trans hB hg, h⟩

theorem or_half (u v : Nat) (hu : u < 16) (hv : v < 16) : bits .or .u8 ((u : Int) * 16) (v : Int) = 16 * (u : Int) + v := by
  have e : ((u : Int) * 16) = ((2 ^ 4 * u : Nat) : Int) := by omega
  rw [e, u8_or_nat _ _ (by omega) (by omega), ← Nat.two_pow_add_eq_or_of_lt (by omega)]
  omega

set_option maxRecDepth 20000 in
set_option maxHeartbeats 3200000 in
theorem parseData_any (l : List UInt8) (hl : l.length ≤ 140737488355328) (w : World) :
    Calls Tryd.prog 24 #[.string (str l)] w fun e w' => ∃ v d, e = .returned (.tuple #[v, .bool (unhex l).isSome]) ∧ (w'.ownsRow w.heap.size 5 1 v d.length (d.map (Value.int .u8)) ∧ Octets d) ∧ (∀ d', unhex l = some d' → d = d') ∧ Grow w w' := by
  obtain ⟨i1, hi1, hzb0, hzb1, hzb2⟩ := info_parts Tryd.infoBP
  have hsz := str_size l
  by_cases hev : l.length % 2 = 0
  · have he : ((l.length : Int) % 2 != 0) = false := by simp; omega
    go_enter Tryd.func24, Tryd.ntmps24
    go_wp2_with fail
    refine (halves_any _).mono ?_
    rintro e w1 ⟨v, rfl, ⟨b, rfl, hM⟩, hg1, hb⟩
    obtain ⟨w2, hmk, hown, hgm⟩ := run_make_own (P := Tryd.prog) w1 w1.heap.size 22 5 i1 (.int .u8 0) 1 Tryd.underlying22 hi1 hzb0 hzb1 .i64 .i64 (l.length / 2) (by rw [hzb2]; omega) (by unfold maxLen; omega) (Nat.le_refl _)
    rw [show ((l.length / 2 : Nat) : Int) = (l.length : Int) / 2 by omega] at hmk
    have hgA : Grow w1 w2 := Grow.grown (Grow.refl _) hgm (fun j hj => by cases hj)
    have HM2 : Hid (OwnM 5 5 16 (halvesD 16) (.map (some b)) w2) := OwnM.grow ⟨b, rfl, hM⟩ hgA
    have hbl : b < w1.heap.size := hM.lt
    have hB : w1.heap.size ≤ w2.heap.size := hgA.size
    have hgw := hg1.trans hgA
    have HOW : Hid (w2.ownsRow w1.heap.size 5 1 (.slice (some ⟨w1.heap.size, 0, none⟩) 0 (l.length / 2)) 0 []) := hown
    have HEv : Hid (l.length % 2 = 0) := hev
    clear hown hgm hM hgA hev
    go_wp2_with fail
    generalize hcp : l.length / 2 = cp at *
    clear hmk hcp
    go_loopw [5, 6] (fun dv i wr => ∃ (k : Nat) (d : List Int), k ≤ l.length ∧ i = .int .i64 k ∧ Hid (Hx l k d 0) ∧ Hid (k % 2 = 0) ∧ Hid (wr.ownsRow w1.heap.size 5 1 dv d.length (d.map (Value.int .u8))) ∧ Hid (OwnM 5 5 16 (halvesD 16) (.map (some b)) wr) ∧ Grow w wr ∧ w1.heap.size ≤ wr.heap.size) (fun _ i _ => l.length - (intOf i).toNat)
    case atStart => exact ⟨0, [], by omega, rfl, Hx.start l, rfl, HOW, HM2, hgw, hB⟩
    case round =>
      obtain ⟨k, d, hk, rfl, HH, HK, HO, HM, hgr, hB1⟩ := hrel
      clear HOW HM2 hgw hB
      by_cases hlt : k < l.length
      · have hk1 : k + 1 < l.length := by have := HEv.out; have := HK.out; omega
        have hdl : decide ((k : Int) < (l.length : Int)) = true := by simp; omega
        have hix0 := fun w => str_index (w := w) l k hlt
        have hix1 : ∀ w, (Instr.index 9 (.string (str l)) (.int .i64 ((k : Int) + 1))).run Tryd.prog w = .ok (.int .u8 ((l.getD (k + 1) 0).toNat : Int)) w := fun w => str_index (w := w) l (k + 1) hk1
        obtain ⟨x, hx⟩ : ∃ x, x = l.getD k 0 := ⟨_, rfl⟩
        obtain ⟨y, hy⟩ : ∃ y, y = l.getD (k + 1) 0 := ⟨_, rfl⟩
        rw [← hx] at hix0
        rw [← hy] at hix1
        have HX : Hid (x = l.getD k 0) := hx
        have HY : Hid (y = l.getD (k + 1) 0) := hy
        clear hx hy
        have hlk0 := halves_look HM.out x
        have hlk1 := halves_look HM.out y
        cases hVx : hexV x with
        | none =>
          have HU : Hid (unhex l = none) := unhex_bad hlt (by rw [← HX.out]; exact hVx)
          rw [hVx] at hlk0
          simp only [Option.getD_none, Option.isSome_none] at hlk0
          clear hVx
          generalize hexV y = oy at *
          go_wp2_with fail
          go_ret2
          exact ⟨_, [], by rw [HU.out]; rfl, ⟨World.ownsRow_nil _ _ _ _, (fun x hx => by cases hx)⟩, (fun d h => by rw [HU.out] at h; cases h), hgr⟩
        | some u =>
          cases hVy : hexV y with
          | none =>
            have HU : Hid (unhex l = none) := unhex_bad hk1 (by rw [← HY.out]; exact hVy)
            rw [hVx] at hlk0
            rw [hVy] at hlk1
            simp only [Option.getD_none, Option.isSome_none, Option.getD_some, Option.isSome_some] at hlk0 hlk1
            clear hVx hVy
            go_wp2_with fail
            go_ret2
            exact ⟨_, [], by rw [HU.out]; rfl, ⟨World.ownsRow_nil _ _ _ _, (fun x hx => by cases hx)⟩, (fun d h => by rw [HU.out] at h; cases h), hgr⟩
          | some v =>
            have hu16 := (hexV_lt hVx).1
            have hv16 := (hexV_lt hVy).1
            have h1 := HH.out.first HK.out (by rw [← HX.out]; exact hVx)
            obtain ⟨-, -, h2⟩ := Hx.second (i := k + 1) h1.2 (by have := HK.out; omega) hk1 (by rw [← HY.out]; exact hVy)
            have HH2 : Hid (Hx l (k + 2) (d ++ [16 * (u : Int) + v]) 0) := by
              rw [show 16 * (16 * (0 : Int) + (u : Int)) + (v : Int) = 16 * (u : Int) + v by omega] at h2
              exact h2
            rw [hVx] at hlk0
            rw [hVy] at hlk1
            simp only [Option.getD_some, Option.isSome_some] at hlk0 hlk1
            have hor := or_half u v hu16 hv16
            have hdl2 : 2 * d.length ≤ k := by have := HH.out.1; omega
            have hneb : u5.ownBlock ≠ some b := fun e => by have := (HO.out.lt b e).1; omega
            clear hVx hVy h1 h2 HH
            go_wp2_with (first
              | (at_builtin; refine wpList_append_own_any _ rfl (.tmp 49) (.tmp 54) 22 rfl w1.heap.size 5 i1 (.int .u8 0) 1 Tryd.underlying22 hi1 hzb0 hzb1 hzb2 rfl u5 d.length (d.map (Value.int .u8)) rfl (HO.out.alloc _) (some ⟨_, 0, none⟩) 1 1 [.int .u8 (16 * (u : Int) + v)] rfl rfl (fun h => nomatch h) (by intro ad had j u hj; cases had; exact World.news_of_block (heap_alloc_new _ _) j u (by simpa using hj)) (by intro u hu; simp at hu; subst hu; rfl) (by unfold maxLen; omega) (by omega) (by simp; omega) ?_; intro v1 w7 hown1 hgr1; refine Hid.out ?_))
            unfold Hid
            have hM7 := OwnM.kept (OwnM.grow HM.out (Grow.alloc _ (.cells #[.int .u8 (16 * (u : Int) + v)] 5))) hgr1 (fun e => hneb e.symm)
            have hg7 := Grow.grown (hgr.trans (Grow.alloc _ (.cells #[.int .u8 (16 * (u : Int) + v)] 5))) hgr1 (fun k hk => by have := (HO.out.lt k hk).1; have := hg1.size; omega)
            have hB7s : w1.heap.size ≤ w7.heap.size := by have := hgr1.size; simp at this; omega
            have HO7 : Hid (w7.ownsRow w1.heap.size 5 1 v1 (d ++ [16 * (u : Int) + v]).length ((d ++ [16 * (u : Int) + v]).map (Value.int .u8))) := by
              rw [Hid]; simpa using hown1
            have HM7 : Hid _ := hM7
            have HK2 : Hid ((k + 2) % 2 = 0) := by have := HK.out; rw [Hid]; omega
            clear hown1 hM7 hgr1 HO HM hgr hB1 HX HY hlk0 hlk1
            go_wp2_with fail
            go_roundw
            case rel => first | exact ⟨k + 2, _, by omega, by go_num, HH2, HK2, HO7, HM7, hg7, hB7s⟩ | ((repeat apply Exists.intro); exact ⟨⟨k + 2, _, by omega, by go_num, HH2, HK2, HO7, HM7, hg7, hB7s⟩, rfl⟩)
            case measure => simp [intOf]; omega
      · obtain rfl : k = l.length := by omega
        have HU : Hid (unhex l = some d) := HH.out.done HEv.out
        have hoct : Octets d := HH.out.2.1
        go_wp2_with fail
        go_ret2
        exact ⟨_, d, by rw [HU.out]; rfl, ⟨own_lowT HO.out hg1.size, hoct⟩, (fun d' h => by rw [HU.out] at h; exact Option.some.inj h), hgr⟩
  · have he : ((l.length : Int) % 2 != 0) = true := by simp; omega
    have HU : Hid (unhex l = none) := unhex_odd (by omega)
    go_enter Tryd.func24, Tryd.ntmps24
    go_wp2_with fail
    go_ret2
    exact ⟨_, [], by rw [HU.out]; rfl, ⟨World.ownsRow_nil _ _ _ _, (fun x hx => by cases hx)⟩, (fun d h => by rw [HU.out] at h; cases h), Grow.refl _⟩

end Go.Proofs.YtjggiameajndgabDoor
