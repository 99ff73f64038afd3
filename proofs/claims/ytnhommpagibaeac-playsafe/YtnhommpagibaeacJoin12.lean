import Derived.Test.YtnhommpagibaeacJoin11
/-
  What the program's stripe returns: Data, Cells. Nothing old turns.
-/
namespace Go.Proofs.Ytnhommpagibaeac
open Go.RowKit

theorem rest_split (ls : List (List Int)) (s : Int) {d : Nat} (hd : d < 4) : (readL ls s).take d ++ (readL ls s).drop (d + 1) = restTo ls s d 4 := by
  obtain rfl | rfl | rfl | rfl : d = 0 ∨ d = 1 ∨ d = 2 ∨ d = 3 := by omega
  all_goals rfl

theorem mem_bad {ls : List (List Int)} (hl : ls.length = 4) (s : Int) {k : Nat} (hk : k < 4) : isBad ls s k = decide (k ∈ badL ls s) := by
  rw [Bool.eq_iff_iff, decide_eq_true_iff]
  simp [badL, badTo, hl, hk]

theorem data_none {ls : List (List Int)} (hl : ls.length = 4) {s : Int} (h : badL ls s = []) : dataL ls s = readL ls s ∧ dataE ls s = 0 := by
  refine ⟨?_, by rw [dataE, h]; rfl⟩
  rw [dataL, h, if_neg (by simp), hl]
  refine List.map_congr_left fun k hk => ?_
  have := mem_bad hl s (List.mem_range.1 hk)
  rw [datAt, this, h]
  simp

theorem data_one {ls : List (List Int)} (hl : ls.length = 4) {s : Int} {d : Nat} (h : badL ls s = [d]) : dataL ls s = (readL ls s).set d (xorAll (restTo ls s d 4)) ∧ dataE ls s = 0 ∧ d < 4 ∧ (∀ b ∈ restTo ls s d 4, b.length = 4) := by
  have hm : d ∈ badL ls s := by rw [h]; simp
  have hd : d < 4 := by
    simp only [badL, badTo, hl, List.mem_filter, List.mem_range] at hm
    exact hm.1
  have hb : isBad ls s d = true := by rw [mem_bad hl s hd]; simpa using hm
  refine ⟨?_, by rw [dataE, h]; rfl, hd, by have := rest_blocks (ls := ls) (s := s) (d := d) (by omega) hb (by rw [h]; simp) (n := 4) (by omega); exact this⟩
  rw [dataL, h, if_neg (by simp), hl]
  refine List.ext_getElem (by simp [readL]) fun i h1 h2 => ?_
  have hi : i < 4 := by simpa using h1
  rw [List.getElem_map, List.getElem_range, List.getElem_set]
  have := mem_bad hl s hi
  rw [h] at this
  by_cases hid : d = i
  · subst hid
    rw [if_pos rfl, datAt, hb, if_pos rfl, hl]
  · have hni : ¬ i = d := fun e => hid e.symm
    rw [if_neg hid, datAt, this, if_neg (by simp [hni])]
    simp [readL]

theorem data_more {ls : List (List Int)} {s : Int} {d e : Nat} {r : List Nat} (h : badL ls s = d :: e :: r) : dataL ls s = [] ∧ dataE ls s = 9 := by
  constructor
  · rw [dataL, h, if_pos (by simp)]
  · rw [dataE, h, if_pos (by simp)]

/-- A part of a slice. -/
theorem Sl.sub {α : Type} {R : World → Value → α → Prop} {w : World} {b off n cap : Nat} {xs : List α} (h : Sl R w (.slice (some ⟨b, off, none⟩) n cap) xs) {j m : Nat} (hm : j + m ≤ n) : Sl R w (.slice (some ⟨b, off + j, none⟩) m (cap - j)) ((xs.drop j).take m) := by
  have hc := h.cells
  obtain ⟨ao, c1, e1, h1, h2, h3, -⟩ := h
  injection e1 with e1 e2 e3
  subst e1 e2 e3
  have hlen : ((xs.drop j).take m).length = m := by simp; omega
  refine ⟨some ⟨b, off + j, none⟩, cap - j, by rw [hlen], by omega, by omega, (fun h => nomatch h), fun _ => ⟨b, off + j, rfl, fun i x hx => ?_⟩⟩
  have hi : i < m := by
    by_cases hi : i < m
    · exact hi
    · rw [List.getElem?_eq_none (by omega)] at hx; cases hx
  rw [List.getElem?_take_of_lt hi, List.getElem?_drop] at hx
  rw [Nat.add_assoc]
  exact hc (j + i) x hx

theorem Sl.empty {α : Type} (R : World → Value → α → Prop) (w : World) (a : Addr) : Sl R w (.slice (some a) 0 0) [] :=
  ⟨some a, 0, rfl, Nat.le_refl _, Nat.zero_le _, (fun h => nomatch h), fun h => by simp at h⟩

/-- A slice of two that was made of them. -/
theorem dks_two {w : World} {t : TypeId} {u v : Value} {A B : List (List Int)} (hu : Bss w u A) (hv : Bss w v B) : Dks (w.alloc (.cells #[u, v] t)) (.slice (some ⟨w.heap.size, 0, none⟩) 2 2) [A, B] := by
  have hg : Grow w (w.alloc (.cells #[u, v] t)) := Grow.alloc _ _
  refine Sl.row (us := [u, v]) (heap_alloc_new w _) rfl rfl (by unfold maxLen; omega) fun i q x hq hx => ?_
  match i, hq, hx with
  | 0, hq, hx => simp at hq hx; subst hq hx; exact hu.grow hg
  | 1, hq, hx => simp at hq hx; subst hq hx; exact hv.grow hg
  | n + 2, hq, _ => simp at hq

/-- Slices that read as these. -/
def AnDks (lss : List (List (List Int))) (v : Value) (w : World) : Prop := Dks w v lss
theorem AnDks.stable (lss : List (List (List Int))) : ∀ (v : Value) (x y : World), AnDks lss v x → Grow x y → AnDks lss v y := fun _ _ _ h hg => Dks.stays _ _ _ _ h hg

/-- A slice of bytes' slices that reads as these. -/
def AnB (ls : List (List Int)) (v : Value) (w : World) : Prop := Bss w v ls
theorem AnB.stable (ls : List (List Int)) : ∀ (v : Value) (x y : World), AnB ls v x → Grow x y → AnB ls v y := fun _ _ _ h hg => Bss.grow h hg

/-- Four bytes of a block behind H. -/
def AnX (p : Nat × List Int) (v : Value) (w : World) : Prop := Fx p.1 p.2 v w
theorem AnX.stable (p : Nat × List Int) : ∀ (v : Value) (x y : World), AnX p v x → Grow x y → AnX p v y := fun _ _ _ h hg => Fx.kept h (hg.inn (fun _ => False)) (fun _ _ h => h.elim)

theorem cat2 {lss : List (List (List Int))} {ls : List (List Int)} (h1 : lss.flatten = ls) (h2 : ls.length = 3) {v : Value} {w : World} (h : Dks w v lss) :
    Calls Try.prog 66 #[v] w fun e w' => ∃ r, e = .returned r ∧ AnB ls r w' ∧ Grow w w' := by
  have := concat_any v lss w h (by rw [h1]; omega) (by rw [h1]; omega)
  rw [h1] at this
  exact this

theorem allX (H : Nat) (v : Value) (ls : List (List Int)) (w : World) (hH : H < w.heap.size) (h : Bss w v ls) (hl : ∀ b ∈ ls, b.length = 4) :
    Calls Try.prog 65 #[v] w fun e w' => ∃ r, e = .returned r ∧ AnX (H, xorAll ls) r w' ∧ Grow w w' :=
  (all_row v ls w h hl).mono fun _ _ ⟨he, HR, hg⟩ => ⟨_, he, .inr ⟨_, rfl, hH, HR.out, rfl, xorAll_octets h.octets⟩, hg⟩

set_option maxRecDepth 20000 in
set_option maxHeartbeats 3200000 in
theorem stripeData_bss (v : Value) (ls : List (List Int)) (s : Nat) (w : World) (g : Option Nat) (h : Bss w v ls) (hg : ∀ k, g = some k → k < w.heap.size) (hl : ls.length = 4) (_hs : s < 3) :
    Calls Try.prog 40 #[v, .int .i64 s] w fun e w' => ∃ r, e = .returned (.tuple #[r, .int .i64 (dataE ls s)]) ∧ Rowing (Off Bs g) w.heap.size 52 w' r (dataL ls s) ∧ Grow w w' := by
  have hcall := look_any v ls s w h hl
  obtain ⟨av, cv, rfl⟩ := Sl.form h
  clear h
  match hB : badL ls s with
  | [] =>
    obtain ⟨hL, hE⟩ := data_none hl hB
    rw [hL, hE]
    rw [hl] at hcall ⊢
    rw [hB] at hcall
    clear hL hE hB hl
    go_enter Try.func40, Try.ntmps40
    go_wp2_with fail
    refine hcall.mono ?_
    rintro e w1 ⟨bd, rfl, hF, hN, hg1⟩
    obtain ⟨ab, cb, eb⟩ := Sl.form hN.done
    simp only [ints, List.map_nil, List.length_nil] at eb
    subst eb
    have hR := hF.row g hg
    clear hN hF hcall
    go_wp2
    go_loop [21] (fun i => i = .int .i64 0) (fun _ => 0)
    case atStart => exact rfl
    case round =>
      subst hrel
      go_wp2
      go_ret2
      exact ⟨_, rfl, hR, hg1⟩
  | d :: e' :: r' =>
    obtain ⟨hL, hE⟩ := data_more hB
    rw [hL, hE]
    rw [hl] at hcall ⊢
    rw [hB] at hcall
    have hlb : (ints (d :: e' :: r')).length = r'.length + 2 := by simp [ints]
    clear hL hE hB hl
    generalize ints (d :: e' :: r') = ns at *
    generalize r'.length = nr at *
    go_enter Try.func40, Try.ntmps40
    go_wp2_with fail
    refine hcall.mono ?_
    rintro e w1 ⟨bd, rfl, hF, hN, hg1⟩
    obtain ⟨ab, cb, eb, hb1, hb2⟩ := hN.done.form'
    rw [hlb] at eb hb1
    subst eb
    have h1 : ((nr + 2 : Nat) : Int) > 1 := by omega
    clear hN hF hcall hlb
    go_wp2
    go_ret2
    exact ⟨_, rfl, Rowing.nil _ _ _ _, hg1⟩
  | [d] =>
    obtain ⟨hL, hE, hd, hQ⟩ := data_one hl hB
    rw [hL, hE]
    rw [hl] at hcall ⊢
    rw [hB] at hcall
    have hsp := rest_split ls s hd
    have hlL : (readL ls s).length = 4 := by simp [readL]
    clear hL hE hB hl
    go_enter Try.func40, Try.ntmps40
    go_wp2_with fail
    refine hcall.mono ?_
    rintro e w1 ⟨bd, rfl, hF, hN, hg1⟩
    have HF : Hid (Four w.heap.size (readL ls s) w1) := hF
    obtain ⟨ab, cb, eb, hb1, hb2⟩ := hN.done.form'
    simp only [ints, List.map_cons, List.map_nil, List.length_cons, List.length_nil, Nat.zero_add] at eb hb1
    subst eb
    obtain ⟨bb, ob, ub, ebb, hub, hbb⟩ := hN.done.elem (k := 0) (by simp [ints]) 0
    subst ebb
    obtain rfl : ub = .int .i64 d := hbb
    rw [Nat.add_zero] at hub
    have hA : ∀ w2, Grow w1 w2 → Bss w2 (.slice (some ⟨w.heap.size, 0 + 0, none⟩) d (4 - 0)) (((readL ls s).drop 0).take d) := fun w2 hg => (HF.out.grow hg).bss.sub (by omega)
    have hBB : ∀ w2, Grow w1 w2 → Bss w2 (.slice (some ⟨w.heap.size, 0 + (d + 1), none⟩) (4 - (d + 1)) (4 - (d + 1))) (((readL ls s).drop (d + 1)).take (4 - (d + 1))) := fun w2 hg => (HF.out.grow hg).bss.sub (by omega)
    rw [List.drop_zero] at hA
    rw [List.take_of_length_le (by rw [List.length_drop, hlL]; omega)] at hBB
    rw [Nat.zero_add, show 4 - (d + 1) = 3 - d by omega] at hBB
    have hB3 : d = 3 → (readL ls s).drop (d + 1) = [] := fun e => List.drop_eq_nil_of_le (by rw [hlL]; omega)
    have hH := HF.out.lt
    have Hflat : Hid ([(readL ls s).take d, (readL ls s).drop (d + 1)].flatten = restTo ls s d 4) := by rw [Hid, ← hsp]; simp
    have Hfl : Hid ((restTo ls s d 4).length = 3) := by rw [Hid, ← hsp, List.length_append, List.length_take, List.length_drop, hlL]; omega
    clear hF hN hcall hsp hlL
    go_wp2
    go_loopw [21] (fun i wr => (i = .int .i64 0 ∧ wr = w1) ∨ (i = .int .i64 1 ∧ Hid (Four w.heap.size ((readL ls s).set d (xorAll (restTo ls s d 4))) wr) ∧ Grow w wr)) (fun i _ => 1 - (intOf i).toNat)
    case atStart => exact .inl ⟨rfl, rfl⟩
    case round =>
      rcases hrel with ⟨rfl, rfl⟩ | ⟨rfl, HF1, hgr⟩
      · go_wp2_with fail
        refine wp_region_last [_, _, _, _, _, _, _, _, _, _, _, _, _] _ rfl Grow [IsV (.slice (some ⟨w.heap.size, 0, none⟩) 4 4), IsV (.int .i64 d), IsV (.slice (some ⟨w.heap.size, 0, none⟩) 4 4), IsV (.int .i64 d), IsV (.slice (some ⟨w.heap.size, 0, none⟩) d 4), IsV (.slice (some ⟨w.heap.size, 0, none⟩) 4 4), IsV (.int .i64 d), IsV (.int .i64 (d + 1)), AnB ((readL ls s).drop (d + 1)), AnDks [(readL ls s).take d, (readL ls s).drop (d + 1)], AnB (restTo ls s d 4), AnX (w.heap.size, xorAll (restTo ls s d 4)), IsV (.pointer (some ⟨w.heap.size, d, none⟩))] (by kernel_rfl) (by kernel_rfl) (by kernel_rfl) rfl Grow.refl (fun _ _ _ => Grow.trans) ?_ ?_ ?_
        · repeat (refine List.forall_mem_cons.2 ⟨by first | exact IsV.stable _ | exact AnB.stable _ | exact AnDks.stable _ | exact AnX.stable _, ?_⟩)
          exact fun R hR => nomatch hR
        · skip
          refine StepsS.cons ?_ fun v0 => ⟨_, _, by simp only [Act.put, List.setIfInBounds_toArray, List.set_cons_succ, List.set_cons_zero]; first | done | rfl, by simp only [List.nil_append]; first | done | rfl, ?_⟩
          · intro w1 hE hd
            clear hd
            go_wp2
            exact ⟨_, rfl, Grow.refl _, rfl⟩
          refine StepsS.cons ?_ fun v1 => ⟨_, _, by simp only [Act.put, List.setIfInBounds_toArray, List.set_cons_succ, List.set_cons_zero]; first | done | rfl, by simp only [List.nil_append, List.cons_append]; first | done | rfl, ?_⟩
          · intro w1 hE hd
            clear hd
            go_wp2
            exact ⟨_, rfl, Grow.refl _, rfl⟩
          refine StepsS.cons ?_ fun v2 => ⟨_, _, by simp only [Act.put, List.setIfInBounds_toArray, List.set_cons_succ, List.set_cons_zero]; first | done | rfl, by simp only [List.nil_append, List.cons_append]; first | done | rfl, ?_⟩
          · intro w1 hE hd
            clear hd
            go_wp2
            exact ⟨_, rfl, Grow.refl _, rfl⟩
          refine StepsS.cons ?_ fun v3 => ⟨_, _, by simp only [Act.put, List.setIfInBounds_toArray, List.set_cons_succ, List.set_cons_zero]; first | done | rfl, by simp only [List.nil_append, List.cons_append]; first | done | rfl, ?_⟩
          · intro w1 hE hd
            clear hd
            go_wp2
            exact ⟨_, rfl, Grow.refl _, rfl⟩
          refine StepsS.cons ?_ fun v4 => ⟨_, _, by simp only [Act.put, List.setIfInBounds_toArray, List.set_cons_succ, List.set_cons_zero]; first | done | rfl, by simp only [List.nil_append, List.cons_append]; first | done | rfl, ?_⟩
          · intro w1 hE hd
            obtain rfl := IsV.eq (dep_at hd 0 rfl rfl rfl)
            obtain rfl := IsV.eq (dep_at hd 1 rfl rfl rfl)
            clear hd
            go_wp2
            exact ⟨_, rfl, Grow.refl _, rfl⟩
          refine StepsS.cons ?_ fun v5 => ⟨_, _, by simp only [Act.put, List.setIfInBounds_toArray, List.set_cons_succ, List.set_cons_zero]; first | done | rfl, by simp only [List.nil_append, List.cons_append]; first | done | rfl, ?_⟩
          · intro w1 hE hd
            clear hd
            go_wp2
            exact ⟨_, rfl, Grow.refl _, rfl⟩
          refine StepsS.cons ?_ fun v6 => ⟨_, _, by simp only [Act.put, List.setIfInBounds_toArray, List.set_cons_succ, List.set_cons_zero]; first | done | rfl, by simp only [List.nil_append, List.cons_append]; first | done | rfl, ?_⟩
          · intro w1 hE hd
            clear hd
            go_wp2
            exact ⟨_, rfl, Grow.refl _, rfl⟩
          refine StepsS.cons ?_ fun v7 => ⟨_, _, by simp only [Act.put, List.setIfInBounds_toArray, List.set_cons_succ, List.set_cons_zero]; first | done | rfl, by simp only [List.nil_append, List.cons_append]; first | done | rfl, ?_⟩
          · intro w1 hE hd
            obtain rfl := IsV.eq (dep_at hd 0 rfl rfl rfl)
            clear hd
            go_wp2
            exact ⟨_, rfl, Grow.refl _, rfl⟩
          refine StepsS.cons ?_ fun v8 => ⟨_, _, by simp only [Act.put, List.setIfInBounds_toArray, List.set_cons_succ, List.set_cons_zero]; first | done | rfl, by simp only [List.nil_append, List.cons_append]; first | done | rfl, ?_⟩
          · intro w1 hE hd
            obtain rfl := IsV.eq (dep_at hd 0 rfl rfl rfl)
            obtain rfl := IsV.eq (dep_at hd 1 rfl rfl rfl)
            clear hd
            by_cases h3 : d = 3
            · have hnil := hB3 h3
              subst h3
              go_wp2
              exact ⟨_, rfl, Grow.refl _, by first | exact Sl.empty _ _ _ | (rw [AnB, hnil]; exact Sl.empty _ _ _)⟩
            · have hBw := hBB _ hE.drew
              go_wp2
              exact ⟨_, rfl, Grow.refl _, hBw⟩
          refine StepsS.cons ?_ fun v9 => ⟨_, _, by simp only [Act.put, List.setIfInBounds_toArray, List.set_cons_succ, List.set_cons_zero]; first | done | rfl, by simp only [List.nil_append, List.cons_append]; first | done | rfl, ?_⟩
          · intro w1 hE hd
            obtain rfl := IsV.eq (dep_at hd 0 rfl rfl rfl)
            have d8 := dep_at hd 1 rfl rfl rfl
            clear hd
            obtain ⟨a8, n8, c8, rfl⟩ : ∃ a n c, v8 = .slice a n c := by obtain ⟨a, c, e⟩ := Sl.form d8; exact ⟨a, _, c, e⟩
            go_wp2
            exact ⟨_, rfl, Grow.alloc _ _, dks_two (hA _ hE.drew) d8⟩
          refine StepsS.cons ?_ fun v10 => ⟨_, _, by simp only [Act.put, List.setIfInBounds_toArray, List.set_cons_succ, List.set_cons_zero]; first | done | rfl, by simp only [List.nil_append, List.cons_append]; first | done | rfl, ?_⟩
          · intro w1 hE hd
            have d9 := dep_at hd 0 rfl rfl rfl
            clear hd
            go_wp2_with fail
            refine (cat2 Hflat.out Hfl.out d9).mono ?_
            rintro e w4 ⟨r', rfl, hr', hg4⟩
            go_wp2_with fail
            exact ⟨_, rfl, hg4, hr'⟩
          refine StepsS.cons ?_ fun v11 => ⟨_, _, by simp only [Act.put, List.setIfInBounds_toArray, List.set_cons_succ, List.set_cons_zero]; first | done | rfl, by simp only [List.nil_append, List.cons_append]; first | done | rfl, ?_⟩
          · intro w1 hE hd
            have d10 := dep_at hd 0 rfl rfl rfl
            clear hd
            go_wp2_with fail
            refine (allX w.heap.size _ (restTo ls s d 4) _ (Nat.lt_of_lt_of_le hH hE.size) d10 hQ).mono ?_
            rintro e w4 ⟨r', rfl, hr', hg4⟩
            go_wp2_with fail
            exact ⟨_, rfl, hg4, hr'⟩
          refine StepsS.cons ?_ fun v12 => ⟨_, _, by simp only [Act.put, List.setIfInBounds_toArray, List.set_cons_succ, List.set_cons_zero]; first | done | rfl, by simp only [List.nil_append, List.cons_append]; first | done | rfl, ?_⟩
          · intro w1 hE hd
            obtain rfl := IsV.eq (dep_at hd 0 rfl rfl rfl)
            obtain rfl := IsV.eq (dep_at hd 1 rfl rfl rfl)
            clear hd
            go_wp2
            exact ⟨_, rfl, Grow.refl _, rfl⟩
          trivial
        intro wR hwR
        refine FinS.cons ?_; rintro _ rfl; refine ⟨_, by simp only [Act.put, List.setIfInBounds_toArray, List.set_cons_succ, List.set_cons_zero]; first | done | rfl, ?_⟩
        refine FinS.cons ?_; rintro _ rfl; refine ⟨_, by simp only [Act.put, List.setIfInBounds_toArray, List.set_cons_succ, List.set_cons_zero]; first | done | rfl, ?_⟩
        refine FinS.cons ?_; rintro _ rfl; refine ⟨_, by simp only [Act.put, List.setIfInBounds_toArray, List.set_cons_succ, List.set_cons_zero]; first | done | rfl, ?_⟩
        refine FinS.cons ?_; rintro _ rfl; refine ⟨_, by simp only [Act.put, List.setIfInBounds_toArray, List.set_cons_succ, List.set_cons_zero]; first | done | rfl, ?_⟩
        refine FinS.cons ?_; rintro _ rfl; refine ⟨_, by simp only [Act.put, List.setIfInBounds_toArray, List.set_cons_succ, List.set_cons_zero]; first | done | rfl, ?_⟩
        refine FinS.cons ?_; rintro _ rfl; refine ⟨_, by simp only [Act.put, List.setIfInBounds_toArray, List.set_cons_succ, List.set_cons_zero]; first | done | rfl, ?_⟩
        refine FinS.cons ?_; rintro _ rfl; refine ⟨_, by simp only [Act.put, List.setIfInBounds_toArray, List.set_cons_succ, List.set_cons_zero]; first | done | rfl, ?_⟩
        refine FinS.cons ?_; rintro _ rfl; refine ⟨_, by simp only [Act.put, List.setIfInBounds_toArray, List.set_cons_succ, List.set_cons_zero]; first | done | rfl, ?_⟩
        refine FinS.cons fun v8 h8 => ⟨_, by simp only [Act.put, List.setIfInBounds_toArray, List.set_cons_succ, List.set_cons_zero]; first | done | rfl, ?_⟩
        refine FinS.cons fun v9 h9 => ⟨_, by simp only [Act.put, List.setIfInBounds_toArray, List.set_cons_succ, List.set_cons_zero]; first | done | rfl, ?_⟩
        refine FinS.cons fun v10 h10 => ⟨_, by simp only [Act.put, List.setIfInBounds_toArray, List.set_cons_succ, List.set_cons_zero]; first | done | rfl, ?_⟩
        refine FinS.cons fun v11 h11 => ⟨_, by simp only [Act.put, List.setIfInBounds_toArray, List.set_cons_succ, List.set_cons_zero]; first | done | rfl, ?_⟩
        refine FinS.cons ?_; rintro _ rfl; refine ⟨_, by simp only [Act.put, List.setIfInBounds_toArray, List.set_cons_succ, List.set_cons_zero]; first | done | rfl, ?_⟩
        show wpList _ _ _ _ _ _
        have hFx : Fx w.heap.size (xorAll (restTo ls s d 4)) v11 wR := h11
        obtain ⟨a11, n11, c11, rfl⟩ := hFx.form
        have hFR := HF.out.grow hwR.drew
        obtain ⟨⟨u0, hu0⟩, hf0⟩ := hFR.at hd
        have HF2 : Hid (Four _ _ _) := hFR.put d hFx
        have hg2 := (hg1.trans hwR.drew).set (k := d) (Nat.le_refl w.heap.size) (.slice a11 n11 c11)
        clear hFx hFR h8 h9 h10 h11 HF hA hBB
        go_wp2
        go_roundw
        case rel => first | exact (.inr ⟨by go_num, HF2, hg2⟩) | ((repeat apply Exists.intro); exact ⟨(.inr ⟨by go_num, HF2, hg2⟩), rfl⟩)
        case measure => simp [intOf]
      · have hR := HF1.out.row g hg
        clear HF1
        go_wp2
        go_ret2
        exact ⟨_, rfl, hR, hgr⟩

theorem stripeData_row (v : Value) (ls : List (List Int)) (s : Nat) (w : World) (g : Option Nat) (h : Sl (Off Bs g) w v ls) (hg : ∀ k, g = some k → k < w.heap.size) (hl : ls.length = 4) (_hs : s < 3) :
    Calls Try.prog 40 #[v, .int .i64 s] w fun e w' => ∃ r, e = .returned (.tuple #[r, .int .i64 (dataE ls s)]) ∧ Rowing (Off Bs g) w.heap.size 52 w' r (dataL ls s) ∧ Grow w w' :=
  stripeData_bss v ls s w g h.off hg hl _hs

theorem cellsL_up {a : ArrP} (h : a.ds.length = 4) (s : Nat) : cellsL a s = up4 (fun (d : Nat) => (a.ds.getD d []).getD s []) 4 := by
  rw [up4_all, cellsL]
  refine List.ext_getElem (by simp [h]) fun i h1 h2 => ?_
  have hi : i < a.ds.length := by simpa using h1
  simp [List.getD_eq_getElem?_getD, hi]

set_option maxRecDepth 20000 in
set_option maxHeartbeats 3200000 in
theorem stripeCells_row (v : Value) (a : ArrP) (s : Nat) (w : World) (h : ArrV w v a) (ha : Whole a) (h8 : ∀ d s, ((a.ds.getD d []).getD s []).length ≤ 8) (hs : s < 3) :
    Calls Try.prog 38 #[v, .int .i64 s] w fun e w' => ∃ r, e = .returned r ∧ Rowing Bs w.heap.size 52 w' r (cellsL a s) ∧ Grow w w' := by
  obtain ⟨dv, iv, rfl, hd, hit⟩ := h
  obtain ⟨ad, cd, rfl, hd1, hd2⟩ := hd.form'
  obtain ⟨ai, ci, rfl, hi1, hi2⟩ := hit.form
  obtain ⟨ha4, ha3⟩ := ha
  rw [cellsL_up ha4]
  have HK : Hid (∀ k, k < 4 → ∃ b off a' c' b' off' u' n' cc', ad = some ⟨b, off, none⟩ ∧ w.cell? ⟨b, off + k, none⟩ = some (.slice a' 3 c') ∧ a' = some ⟨b', off', none⟩ ∧ w.cell? ⟨b', off' + s, none⟩ = some (.slice u' n' cc') ∧ Bs w (.slice u' n' cc') ((a.ds.getD k []).getD s [])) := fun k hk => by
    obtain ⟨b, off, a', c', e1, e2, e3⟩ := hd.elems (k := k) (by omega)
    have h3 : (a.ds.getD k []).length = 3 := ha3 _ (by simp [List.getD_eq_getElem?_getD, show k < a.ds.length by omega])
    obtain ⟨b', off', u', e4, e5, e6⟩ := e3.elem (k := s) (by omega) []
    obtain ⟨x1, x2, x3, rfl⟩ := e6.form
    rw [h3] at e2
    exact ⟨b, off, a', c', b', off', x1, x2, x3, e1, e2, e4, e5, e6⟩
  rw [ha4] at hd1 ⊢
  clear hd hit ha3 ha4
  generalize a.is.length = ni at *
  have hgA : Grow w (w.alloc (.cells #[.slice ad 4 cd, .slice ai ni ci] 26)) := Grow.alloc _ _
  obtain ⟨w1, hw1⟩ : ∃ w1, w1 = w.alloc (.cells #[.slice ad 4 cd, .slice ai ni ci] 26) := ⟨_, rfl⟩
  have hsz : w1.heap.size = w.heap.size + 1 := by rw [hw1]; simp
  have hA0 : w1.heap[w.heap.size]? = some (.cells #[.slice ad 4 cd, .slice ai ni ci] 26 (0, 0)) := by rw [hw1]; exact heap_alloc_new w _
  have c0 : w1.cell? ⟨w.heap.size, 0, none⟩ = some (.slice ad 4 cd) := row_at hA0 0 rfl
  have hmk := Try.madeS (w.alloc (.cells #[.slice ad 4 cd, .slice ai ni ci] 26))
  have hst : Hid (Rowing Bs w1.heap.size 52 (w1.alloc (.cells nils4 52)) (.slice (some ⟨w1.heap.size, 0, none⟩) 4 4) (up4 (fun (d : Nat) => (a.ds.getD d []).getD s []) 0)) := Rowing.madeS w1 _
  rw [← hw1] at hgA
  go_enter Try.func38, Try.ntmps38
  go_wp2
  rw [← hw1]
  rw [show w.heap.size + 1 = w1.heap.size from hsz.symm]
  clear hw1 hA0 hsz hmk
  go_loopw [10] (fun i wr => ∃ k : Nat, k ≤ 4 ∧ i = .int .i64 k ∧ Hid (Rowing Bs w1.heap.size 52 wr (.slice (some ⟨w1.heap.size, 0, none⟩) 4 4) (up4 (fun (d : Nat) => (a.ds.getD d []).getD s []) k)) ∧ Grow w1 wr) (fun i _ => 4 - (intOf i).toNat)
  case atStart => exact ⟨0, by omega, rfl, hst, Grow.alloc _ _⟩
  case round =>
    obtain ⟨k, hk, rfl, HR, hgr⟩ := hrel
    clear hst
    by_cases hlt : k < 4
    · obtain ⟨b, off, a', c', b', off', u', n', cc', rfl, hc1, rfl, hc2, hb⟩ := HK.out k hlt
      have hgw := hgA.trans hgr
      have hA := atD_any b off k 4 cd (some ⟨b', off', none⟩) 3 c' wr hlt (hgw.at hc1)
      have hB := atB_any b' off' s 3 c' u' n' cc' wr hs (hgw.at hc2)
      have hC := bytesClone_any (.slice u' n' cc') ((a.ds.getD k []).getD s []) wr (hb.grow hgw) (by have := h8 k s; omega)
      have hoc := hb.octets
      have c0' := hgr.at c0
      clear hc1 hc2 hb
      go_wp2_with fail
      refine hA.mono ?_
      rintro e w0 ⟨rfl, rfl⟩
      go_wp2_with fail
      refine hB.mono ?_
      rintro e w2 ⟨rfl, rfl⟩
      go_wp2_with fail
      refine hC.mono ?_
      rintro e w3 ⟨r, rfl, hown, hg3⟩
      have hlr : w1.heap.size < w2.heap.size := (HR.out.base _ rfl).2
      have hoff : Off Bs (some w1.heap.size) w3 r ((a.ds.getD k []).getD s []) := Off.own hown hoc (fun j hj => by cases hj; exact hlr)
      obtain ⟨gr, nr, cr, rfl⟩ := (Bs.of_own hown hoc).form
      have hrow := HR.out.grow hg3
      obtain ⟨⟨u0, hu0⟩, hf0⟩ := hrow.at (k := k) (by rw [up4_length]; exact hlt)
      have hrow1 := hrow.stored k hoff
      rw [up4_set (fun (d : Nat) => (a.ds.getD d []).getD s []) hlt] at hrow1
      have HR1 : Hid (Rowing Bs _ _ _ _ _) := hrow1
      have hg4 := (hgr.trans hg3).set (k := k) (Nat.le_refl w1.heap.size) (.slice gr nr cr)
      clear hrow hrow1 hoff hown HR hA hB hC
      go_wp2
      go_roundw
      case rel => first | exact ⟨k + 1, by omega, by go_num, HR1, hg4⟩ | ((repeat apply Exists.intro); exact ⟨⟨k + 1, by omega, by go_num, HR1, hg4⟩, rfl⟩)
      case measure => simp [intOf]; omega
    · obtain rfl : k = 4 := by omega
      go_wp2
      go_ret
      exact ⟨_, rfl, HR.out.low hgA.size, hgA.trans hgr⟩

end Go.Proofs.Ytnhommpagibaeac

/-
  What the program's array.Read returns. Nothing old turns.
-/
namespace Go.Proofs.Ytnhommpagibaeac
open Go.RowKit

theorem cellsL_at {a : ArrP} (ha : Whole a) (s : Nat) {d : Nat} (hd : d < 4) : (cellsL a s).getD d [] = cellAt a d s := by
  have h4 := ha.1
  rw [cellsL, cellAt]
  simp [List.getD_eq_getElem?_getD, show d < a.ds.length by omega]

theorem FreshX.off {w w' : World} {x : List Int} {r : Value} (h : FreshX w x r w') (g : Option Nat) (hg : ∀ k, g = some k → k < w.heap.size) : Off Bs g w' r x := by
  rcases h with ⟨rfl, rfl⟩ | ⟨b, rfl, hb0, hb, hl, ho⟩
  · exact fun _ _ => Bs.nil _
  · exact Off.row hb hl (by unfold maxLen; omega) ho (fun e => by have := hg b e; omega)

end Go.Proofs.Ytnhommpagibaeac

/-
  What the program's array.Plan returns. Nothing old turns.
-/
namespace Go.Proofs.Ytnhommpagibaeac
open Go.RowKit

set_option maxRecDepth 20000 in
set_option maxHeartbeats 6400000 in
theorem arrPlan_any (v dv : Value) (a : ArrP) (x : DeedP) (w : World) (h : ArrV w v a) (ha : Whole a) (h8 : ∀ d s, (cellAt a d s).length ≤ 8) (hd : DeedV w dv x) :
    Calls Try.prog 69 #[v, dv] w fun e w' => ∃ r, e = .returned (.tuple #[r, .int .i64 (planE a x)]) ∧ IntentV w' r (planI a x) ∧ Grow w w' := by
  have harr := h
  have hdeed := hd
  obtain ⟨a1, n1, c1, a2, n2, c2, rfl⟩ := h.form
  obtain ⟨sv, rfl, hbd⟩ := hd
  obtain ⟨d1, d2, d3, rfl⟩ := hbd.form
  clear h hbd
  obtain ⟨W, hW⟩ : ∃ W, W = ((w.alloc (.cells #[.slice a1 n1 c1, .slice a2 n2 c2] 26)).alloc (.cells #[.int .i64 x.k, .int .i64 x.n, .int .i64 x.m, .slice d1 d2 d3] 54)).alloc (.cells #[.int .i64 0, .slice none 0 0] 74) := ⟨_, rfl⟩
  have hgW : Grow w W := by rw [hW]; exact ((Grow.alloc _ _).trans (Grow.alloc _ _)).trans (Grow.alloc _ _)
  obtain ⟨H1, H2, H3⟩ := heap3 w (.cells #[.slice a1 n1 c1, .slice a2 n2 c2] 26) (.cells #[.int .i64 x.k, .int .i64 x.n, .int .i64 x.m, .slice d1 d2 d3] 54) (.cells #[.int .i64 0, .slice none 0 0] 74)
  rw [← hW] at H1 H2 H3
  have k0 : W.cell? ⟨w.heap.size, 0, none⟩ = some (.slice a1 n1 c1) := row_at H1 0 rfl
  have k1 : W.cell? ⟨w.heap.size, 1, none⟩ = some (.slice a2 n2 c2) := row_at H1 1 rfl
  have d0' : W.cell? ⟨w.heap.size + 1, 0, none⟩ = some (.int .i64 x.k) := row_at H2 0 rfl
  have d1' : W.cell? ⟨w.heap.size + 1, 1, none⟩ = some (.int .i64 x.n) := row_at H2 1 rfl
  have d2' : W.cell? ⟨w.heap.size + 1, 2, none⟩ = some (.int .i64 x.m) := row_at H2 2 rfl
  have d3' : W.cell? ⟨w.heap.size + 1, 3, none⟩ = some (.slice d1 d2 d3) := row_at H2 3 rfl
  have hRW := H3
  have hlW : w.heap.size + 1 + 1 < W.heap.size := heap_lt H3
  clear H1 H2 H3
  have hwr := modelWrong_any _ x W (hdeed.grow hgW)
  by_cases hw0 : wrongE x = 0
  · obtain ⟨-, hn0, hn8, -, -⟩ := right_deed hw0
    obtain ⟨hD, hS, hEw, hd4, hs3⟩ := where_bd (n := x.n) (by omega)
    have hWh := fun w1 => where_any x.n w1
    rw [hD, hS, hEw] at hWh
    have HPE : Hid (planE a x = dataE (cellsL a (sOf x.n)) (sOf x.n)) := if_neg (by simp [hw0])
    have HPI : Hid (planI a x = if dataE (cellsL a (sOf x.n)) (sOf x.n) ≠ 0 then (0, []) else ((sOf x.n : Int), makeL (planOut (doL (spreadTo (dataL (cellsL a (sOf x.n)) (sOf x.n)) (sOf x.n) 9) x) (sOf x.n)) (sOf x.n))) := by rw [Hid, planI, HPE.out]; rfl
    have Hw0 : Hid (wrongE x = 0) := hw0
    rw [hw0] at hwr
    clear hD hS hEw hw0 hn0 hn8
    generalize dOf x.n = dn at *
    generalize sOf x.n = s at *
    have hcl : (cellsL a s).length = 4 := by rw [cellsL_length, ha.1]
    go_enter Try.func69, Try.ntmps69
    go_wp2_with fail
    rw [← hW]
    clear hW
    refine hwr.mono ?_
    rintro e w1 ⟨rfl, hg1⟩
    have e1 := hg1.at d1'
    clear hwr
    go_wp2_with fail
    refine (hWh _).mono ?_
    rintro e w2 ⟨rfl, rfl⟩
    have q0 := hg1.at k0
    have q1 := hg1.at k1
    have hc1 := stripeCells_row (.agg #[.slice a1 n1 c1, .slice a2 n2 c2]) a s w2 (harr.grow (hgW.trans hg1)) ha h8 hs3
    go_wp2_with fail
    refine hc1.mono ?_
    rintro e w3 ⟨rc, rfl, hrc, hg3⟩
    have hDt := stripeData_bss rc (cellsL a s) s w3 none hrc.done (fun _ h => nomatch h) hcl hs3
    clear hc1 q0 q1 k0 k1 e1
    go_wp2_with fail
    refine hDt.mono ?_
    rintro e w4 ⟨rd, rfl, hrd, hg4⟩
    clear hDt
    have hg04 := (hg1.trans hg3).trans hg4
    have hR4 := hg04.block' hRW
    have t0 := two_at0 hR4
    have t1 := two_at1 hR4
    have z0 : w4.frozen? ⟨w.heap.size + 1 + 1, 0, none⟩ = false := frozen_of_row w4 _ 0 _ _ hR4
    have z1 : w4.frozen? ⟨w.heap.size + 1 + 1, 1, none⟩ = false := frozen_of_row w4 _ 1 _ _ hR4
    have hgF := hgW.trans hg04
    by_cases hde : dataE (cellsL a s) s = 0
    · have hdl := dataL_length hde
      rw [hcl] at hdl
      have hdb := dataL_blocks hde
      have HP : Hid (planI a x = ((s : Int), makeL (planOut (doL (spreadTo (dataL (cellsL a s) s) s 9) x) s) s)) := by rw [Hid, HPI.out, if_neg (by simp [hde])]
      have HE : Hid (planE a x = 0) := HPE.out.trans hde
      have hrb : Bss w4 rd (dataL (cellsL a s) s) := Sl.off hrd.done
      have f0 := hg04.at d0'
      have f1 := hg04.at d1'
      have f2 := hg04.at d2'
      have f3 := hg04.at d3'
      have hBh := arrBehind_any rd (.agg #[.int .i64 x.k, .int .i64 x.n, .int .i64 x.m, .slice d1 d2 d3]) (dataL (cellsL a s) s) s x w4 hrb hdl hdb hs3 (hdeed.grow hgF) Hw0.out
      have HPL : Hid ((planOut (doL (spreadTo (dataL (cellsL a s) s) s 9) x) s).length = 4) := planOut_length _ _
      have Hb4 : Hid (∀ b ∈ planOut (doL (spreadTo (dataL (cellsL a s) s) s 9) x) s, b.length = 4) := planOut_blocks (doL_blocks (spread_blocks hdb hdl s 9) (spreadTo_length _ _ _) Hw0.out) (by rw [doL_length, spreadTo_length]) hs3
      rw [hde]
      clear HPI HPE hde hdl hdb hrd hrb hrc hcl d0' d1' d2' d3' t0 t1 z0 z1 hg1 hg3 hg4
      generalize planOut (doL (spreadTo (dataL (cellsL a s) s) s 9) x) s = po at *
      go_wp2_with fail
      refine hBh.mono ?_
      rintro e w5 ⟨rb, rfl, hrb, hg5⟩
      clear hBh f0 f1 f2 f3
      have hMk := stripeMake_row rb po s w5 hrb HPL.out hs3 Hb4.out
      have hR5 := hg5.block' hR4
      clear hrb
      go_wp2_with fail
      refine hMk.mono ?_
      rintro e w9 ⟨rm, rfl, hrm, hg9⟩
      clear hMk
      have hml : (makeL po (s : Int)).length = 4 := by simp [makeL, HPL.out]
      obtain ⟨ga, ca, hrf, hga, hgal⟩ := hrm.form (by omega)
      rw [hml] at hrf
      subst hrf
      have hR10 := hg9.block' hR5
      have hlt5 := heap_lt hR5
      have hbx : BssX (some (w.heap.size + 1 + 1)) w9 (.slice (some ⟨ga, 0, none⟩) 4 ca) (makeL po (s : Int)) := Itn.bss ⟨_, _, _, _, _, hR10⟩ hrm.done (by omega)
      have t0 := two_at0 hR10
      have t1 := two_at1 hR10
      have z0 : w9.frozen? ⟨w.heap.size + 1 + 1, 0, none⟩ = false := frozen_of_row w9 _ 0 _ _ hR10
      have z1 : w9.frozen? ⟨w.heap.size + 1 + 1, 1, none⟩ = false := frozen_of_row w9 _ 1 _ _ hR10
      have hgG := (hgF.trans hg5).trans hg9
      have Hbx : Hid (BssX (some (w.heap.size + 1 + 1)) w9 (.slice (some ⟨ga, 0, none⟩) 4 ca) (makeL po (s : Int))) := hbx
      clear hbx hrm hR5 hR10 hR4 hRW hml
      go_wp2
      refine bodyPost_ret (results_two1 Try.results69 _ _ (w.heap.size + 1 + 1) _ rfl Try.underlying74 rfl Try.sizeI (x := .int .i64 (s : Int)) (y := .slice (some ⟨ga, 0, none⟩) 4 ca) (by rw [cell_set_ne (by simp)]; exact World.cell?_setCell_same _ _ _ t0) (World.cell?_setCell_same _ _ _ (by rw [cell_set_ne (by simp)]; exact t1))) rfl ?_
      exact ⟨_, ret_bs2 HE.out.symm, by rw [HP.out]; exact ⟨_, rfl, ((Hbx.out.step (grown_set _ _ _ _)).step (grown_set _ _ _ _)).plain⟩, (hgG.set (by omega) _).set (by omega) _⟩
    · have HP : Hid (planI a x = (0, [])) := by rw [Hid, HPI.out, if_pos hde]
      clear HPI hrd hrc hcl d0' d1' d2' d3' hg1 hg3 hg4 hR4 hRW
      have HE : Hid (planE a x = dataE (cellsL a s) s) := HPE.out
      clear HPE
      generalize dataE (cellsL a s) s = E at *
      have he' : (E != 0) = true := by simpa using hde
      go_wp2
      refine bodyPost_ret (results_two1 Try.results69 _ _ (w.heap.size + 1 + 1) _ rfl Try.underlying74 rfl Try.sizeI (x := .int .i64 0) (y := .slice none 0 0) (by rw [cell_set_ne (by simp)]; exact World.cell?_setCell_same _ _ _ t0) (World.cell?_setCell_same _ _ _ (by rw [cell_set_ne (by simp)]; exact t1))) rfl ?_
      exact ⟨_, ret_bs2 HE.out.symm, by rw [HP.out]; exact ⟨_, rfl, Sl.nil _ _⟩, (hgF.set (by omega) _).set (by omega) _⟩
  · have HE : Hid (planE a x = wrongE x) := if_pos hw0
    have HP : Hid (planI a x = (0, [])) := by rw [Hid, planI, HE.out, if_pos hw0]
    generalize wrongE x = E at *
    have he' : (E != 0) = true := by simpa using hw0
    go_enter Try.func69, Try.ntmps69
    go_wp2_with fail
    rw [← hW]
    clear hW
    refine hwr.mono ?_
    rintro e w1 ⟨rfl, hg1⟩
    have hR1 := hg1.block' hRW
    have t0 := two_at0 hR1
    have t1 := two_at1 hR1
    have z0 : w1.frozen? ⟨w.heap.size + 1 + 1, 0, none⟩ = false := frozen_of_row w1 _ 0 _ _ hR1
    have z1 : w1.frozen? ⟨w.heap.size + 1 + 1, 1, none⟩ = false := frozen_of_row w1 _ 1 _ _ hR1
    clear k0 k1 d0' d1' d2' d3' hwr hR1 hRW
    have hgF := hgW.trans hg1
    go_wp2
    refine bodyPost_ret (results_two1 Try.results69 _ _ (w.heap.size + 1 + 1) _ rfl Try.underlying74 rfl Try.sizeI (x := .int .i64 0) (y := .slice none 0 0) (by rw [cell_set_ne (by simp)]; exact World.cell?_setCell_same _ _ _ t0) (World.cell?_setCell_same _ _ _ (by rw [cell_set_ne (by simp)]; exact t1))) rfl ?_
    exact ⟨_, ret_bs2 HE.out.symm, by rw [HP.out]; exact ⟨_, rfl, Sl.nil _ _⟩, (hgF.set (by omega) _).set (by omega) _⟩

end Go.Proofs.Ytnhommpagibaeac

/-
  As Stable and StableLast, with one operation (number s) that may move the world on in a way of its own (T), under which what is asked of all others stays true; F is how the world may have moved on since the region's beginning.
-/
namespace Go.Proofs.Ytnhommpagibaeac
open Go.RowKit

/-- Each operation, in the order of the text, with the way in which it moves the world on. -/
def StepsT (P : Program) (ops : Array Oper) (w0 : World) : List Oper → List ((World → World → Prop) × (World → World → Prop)) → List (Value → World → Prop) → List ((Value → World → Prop) × Value) → Act → Prop
  | o :: rest, (G, E) :: Es, R :: Rs, done, a => (∀ w, G w0 w → depFacts done w o.after.toList → wpList P ops (SQ E a o.dst w R) [o] a w) ∧ ∀ v, StepsT P ops w0 rest Es Rs (done ++ [(R, v)]) (a.put o.dst v)
  | _, _, _, _, _ => True

theorem StepsT.cons {G E : World → World → Prop} {P : Program} {ops : Array Oper} {w0 : World} {o : Oper} {rest : List Oper} {Es : List ((World → World → Prop) × (World → World → Prop))} {R : Value → World → Prop} {Rs : List (Value → World → Prop)} {done : List ((Value → World → Prop) × Value)} {a : Act}
    (h1 : ∀ w, G w0 w → depFacts done w o.after.toList → wpList P ops (SQ E a o.dst w R) [o] a w) (h2 : ∀ v, ∃ a' d', a.put o.dst v = a' ∧ done ++ [(R, v)] = d' ∧ StepsT P ops w0 rest Es Rs d' a') : StepsT P ops w0 (o :: rest) ((G, E) :: Es) (R :: Rs) done a :=
  ⟨h1, fun v => by obtain ⟨a', d', rfl, rfl, h⟩ := h2 v; exact h⟩

theorem stepsT_at {P : Program} {ops : Array Oper} {w0 : World} : ∀ (i : Nat) (l : List Oper) (Es : List ((World → World → Prop) × (World → World → Prop))) (Rs : List (Value → World → Prop)) (done : List ((Value → World → Prop) × Value)) (a : Act) (vs : Nat → Value) (o : Oper) (E : (World → World → Prop) × (World → World → Prop)) (R : Value → World → Prop) (w : World),
    StepsT P ops w0 l Es Rs done a → l[i]? = some o → Es[i]? = some E → Rs[i]? = some R → E.1 w0 w → depFacts (done ++ zipDone Rs vs i) w o.after.toList → wpList P ops (SQ E.2 (lexP l vs i a) o.dst w R) [o] (lexP l vs i a) w
  | _, [], _, _, _, _, _, _, _, _, _, _, h, _, _, _, _ => by simp at h
  | _, _ :: _, [], _, _, _, _, _, _, _, _, _, _, h, _, _, _ => by simp at h
  | _, _ :: _, _ :: _, [], _, _, _, _, _, _, _, _, _, _, h, _, _ => by simp at h
  | 0, o :: l, E :: Es, R :: Rs, done, a, vs, o', E', R', w, hs, h1, he, h2, hE, hd => by
    simp at h1 h2 he
    subst h1 h2 he
    simp [zipDone] at hd
    exact hs.1 w hE hd
  | i + 1, o :: l, E :: Es, R :: Rs, done, a, vs, o', E', R', w, hs, h1, he, h2, hE, hd =>
    stepsT_at i l Es Rs (done ++ [(R, vs 0)]) (a.put o.dst (vs 0)) (fun j => vs (j + 1)) o' E' R' w (hs.2 (vs 0)) (by simpa using h1) (by simpa using he) (by simpa using h2) hE (by simpa [zipDone] using hd)

/-- All but number s. -/
def allBut (S : (Value → World → Prop) → Prop) : Nat → List (Value → World → Prop) → Prop
  | _, [] => True
  | 0, _ :: Rs => ∀ R ∈ Rs, S R
  | s + 1, R :: Rs => S R ∧ allBut S s Rs

theorem allBut_at {S : (Value → World → Prop) → Prop} : ∀ (s : Nat) (Rs : List (Value → World → Prop)), allBut S s Rs → ∀ (j : Nat) R, j ≠ s → Rs[j]? = some R → S R
  | _, [], _, j, R, _, h => by simp at h
  | 0, _ :: Rs, h, 0, R, hj, _ => absurd rfl hj
  | 0, _ :: Rs, h, j + 1, R, _, hR => h R (List.mem_of_getElem? (by simpa using hR))
  | s + 1, R :: Rs, h, 0, R', _, hR => by simp at hR; subst hR; exact h.1
  | s + 1, R :: Rs, h, j + 1, R', hj, hR => allBut_at s Rs h.2 j R' (fun e => hj (by rw [e])) (by simpa using hR)

section
variable {E T F : World → World → Prop} {P : Program} {Q : Exit → Act → World → Prop} {l : List Oper} {Rs : List (Value → World → Prop)} {a0 : Act} {w0 : World} {z : Oper} {s : Nat}

/-- How the world has moved on ahead of each operation, and how each moves it on. -/
def onePairs (E T F : World → World → Prop) (s n : Nat) : List ((World → World → Prop) × (World → World → Prop)) := (List.replicate n (F, E)).set s (E, T)

theorem oneE {n i : Nat} {E' : (World → World → Prop) × (World → World → Prop)} (h : (onePairs E T F s n)[i]? = some E') : (i = s ∧ E' = (E, T)) ∨ (i ≠ s ∧ E' = (F, E)) := by
  unfold onePairs at h
  by_cases his : i = s
  · subst his
    by_cases hn : i < n
    · rw [List.getElem?_set_self (by simpa using hn)] at h
      exact .inl ⟨rfl, (Option.some.inj h).symm⟩
    · rw [List.getElem?_eq_none (by simp; omega)] at h
      cases h
  · rw [List.getElem?_set_ne (fun e => his e.symm)] at h
    by_cases hn : i < n
    · rw [List.getElem?_replicate_of_lt hn] at h
      exact .inr ⟨his, (Option.some.inj h).symm⟩
    · rw [List.getElem?_eq_none (by simp; omega)] at h
      cases h

theorem one_st (hst : ∀ R ∈ Rs, ∀ v x y, R v x → E x y → R v y) (hst2 : allBut (fun R => ∀ v x y, R v x → T x y → R v y) s Rs) {n i j : Nat} {E' : (World → World → Prop) × (World → World → Prop)} {R : Value → World → Prop} (hij : j ≠ i) (hE : (onePairs E T F s n)[i]? = some E') (hR : Rs[j]? = some R) : ∀ v x y, R v x → E'.2 x y → R v y := by
  rcases oneE hE with ⟨rfl, rfl⟩ | ⟨_, rfl⟩
  · exact allBut_at _ Rs hst2 j R hij hR
  · exact hst R (List.mem_of_getElem? hR)

/-- How far the world has moved on. -/
def Mv (E F : World → World → Prop) (s : Nat) (listed : Array Bool) (x y : World) : Prop := F x y ∧ (listed.getD s false = false → E x y)

theorem one_pre {listed : Array Bool} {w : World} {n i : Nat} {E' : (World → World → Prop) × (World → World → Prop)} (hE : (onePairs E T F s n)[i]? = some E') (hu : listed.getD i false = false) (h : Mv E F s listed w0 w) : E'.1 w0 w := by
  rcases oneE hE with ⟨rfl, rfl⟩ | ⟨_, rfl⟩
  · exact h.2 hu
  · exact h.1

theorem one_tr (htr : ∀ x y z, E x y → E y z → E x z) (htr1 : ∀ x y, F w0 x → E x y → F w0 y) (htr2 : ∀ x y, F w0 x → T x y → F w0 y) {n i : Nat} {E' : (World → World → Prop) × (World → World → Prop)} (hE : (onePairs E T F s n)[i]? = some E') {listed : Array Bool} (hsz : i < listed.size) {x y : World} (h : Mv E F s listed w0 x) (h' : E'.2 x y) : Mv E F s (listed.setIfInBounds i true) w0 y := by
  rcases oneE hE with ⟨rfl, rfl⟩ | ⟨hne, rfl⟩
  · exact ⟨htr2 _ _ h.1 h', fun hs => by simp [hsz] at hs⟩
  · exact ⟨htr1 _ _ h.1 h', fun hs => by rw [getD_set_ne false hne] at hs; exact htr _ _ _ (h.2 hs) h'⟩

theorem wpAny_one (hB : stableB l = true) (hlen : Rs.length = l.length) (htr : ∀ x y z, E x y → E y z → E x z) (htr1 : ∀ x y, F w0 x → E x y → F w0 y) (htr2 : ∀ x y, F w0 x → T x y → F w0 y) (hst : ∀ R ∈ Rs, ∀ v x y, R v x → E x y → R v y) (hst2 : allBut (fun R => ∀ v x y, R v x → T x y → R v y) s Rs)
    (hsteps : StepsT P l.toArray w0 l (onePairs E T F s l.length) Rs [] a0) (hfin : ∀ w', F w0 w' → FinS Q w' l Rs a0) :
    ∀ (fuel : Nat) (listed : Array Bool) (a : Act) (w : World) (vs : Nat → Value), listed.toList.count false = fuel → InvS (Mv E F s listed) l Rs a0 w0 listed a w vs → wpAny P .any l.toArray Q fuel listed a w := by
  intro fuel
  induction fuel with
  | zero =>
    intro listed a w vs hc h
    have hall : ∀ i, i < l.length → listed.getD i false = true := by
      intro i hi
      have hi' : i < listed.size := by rw [h.size]; exact hi
      have hnm := List.count_eq_zero.1 hc
      refine getD_true_of hi' fun hu => hnm ?_
      have : listed[i] = false := by simpa [hi'] using hu
      rw [← this]
      simp
    refine ⟨?_, h.all_done hB hlen (fun w' h => hfin w' h.1) hall⟩
    apply List.eq_nil_iff_forall_not_mem.2
    intro j hj
    obtain ⟨hu, o, ho, _⟩ := mem_ready.1 hj
    have hjl : j < l.length := by
      have := (Array.getElem?_eq_some_iff.1 ho).1
      simpa using this
    have := hall j hjl
    rw [getD_false_true hu] at this
    cases this
  | succ fuel ih =>
    intro listed a w vs hc h
    refine ⟨fun hr => h.all_done hB hlen (fun w' h => hfin w' h.1) (h.ready_nil hB hr), fun i hi => ?_⟩
    obtain ⟨hu, o, ho', hall⟩ := mem_ready.1 hi
    have ho : l[i]? = some o := by simpa using ho'
    have hil : i < l.length := (List.getElem?_eq_some_iff.1 ho).1
    obtain ⟨E1, hE1⟩ : ∃ E1, (onePairs E T F s l.length)[i]? = some E1 := ⟨(onePairs E T F s l.length)[i]'(by simp [onePairs]; omega), by simp [onePairs, hil]⟩
    obtain ⟨R, hR⟩ : ∃ R, Rs[i]? = some R := ⟨Rs[i]'(by omega), by simp [show i < Rs.length by omega]⟩
    have hsp := stableB_spec hB ho
    have hd : depFacts ([] ++ zipDone Rs vs i) w o.after.toList := depFacts_of _ fun e he hb x hx => by
      have hz := zipDone_get Rs vs i e.on x (by simpa using hx)
      rw [hz.2]
      exact h.holds e.on x.1 (hall e (by simpa using he) hb) hz.1
    have hw := stepsT_at i l _ Rs [] a0 vs o E1 R w hsteps ho hE1 hR (one_pre hE1 (getD_false_true hu) h.moved) hd
    have hag := h.agree hB ho hu hall
    have hdst : dstAt l i = o.dst := by simp [dstAt, ho]
    refine wpOp_of_SQ ho' ?_ (execOp_agree o hsp.1 _ _ hag) (wanted_agree o _ _ hag) hw ?_
    · rw [h.shape.size, (lexP_sh l (apart_of hB) vs a0 i (by omega)).size]
    · intro v w' hE hRv
      have hui := getD_false_true hu
      have hsz : i < listed.size := by rw [h.size]; exact hil
      have hset : ∀ j, (listed.setIfInBounds i true).getD j false = true ↔ listed.getD j false = true ∨ j = i := by
        intro j
        by_cases hij : i = j
        · subst hij; simp [hsz]
        · rw [getD_set_ne false hij]
          constructor
          · exact .inl
          · rintro (h1 | h1)
            · exact h1
            · exact absurd h1.symm hij
      refine ih _ _ _ (fun j => if j = i then v else vs j) ?_ ⟨by simp [h.size], one_tr htr htr1 htr2 hE1 hsz h.moved hE, ?_, ?_, ?_⟩
      · have hli : listed.toList[i]'(by simpa using hsz) = false := by
          have : listed[i] = false := by simpa [hsz] using hu
          simpa using this
        rw [Array.toList_setIfInBounds, List.count, List.countP_set (by simpa using hsz)]
        rw [List.count] at hc
        rw [hc, hli, if_pos (by rfl), if_neg (by decide)]
        omega
      · rw [← hdst]
        refine h.shape.put (apart_of hB) i (by rw [hui]; simp) hset v (fun j hj => ?_) (by simp)
        have hji : j ≠ i := fun e => by rw [e, hui] at hj; cases hj
        simp [hji]
      · intro j R' hj hR'
        rcases (hset j).1 hj with hj' | rfl
        · have hji : j ≠ i := fun e => by rw [e, hui] at hj'; cases hj'
          simp only [hji, if_false]
          exact one_st hst hst2 hji hE1 hR' _ _ _ (h.holds j R' hj' hR') hE
        · rw [hR] at hR'
          obtain rfl := Option.some.inj hR'
          simpa using hRv
      · intro j p hp hj e he hb
        rcases (hset j).1 hj with hj' | rfl
        · exact (hset e.on).2 (.inl (h.closed j p hp hj' e he hb))
        · rw [ho] at hp
          obtain rfl := Option.some.inj hp
          exact (hset e.on).2 (.inl (hall e he hb))

theorem wpAny_onelast (hB : stableB (l ++ [z]) = true) (hlen : Rs.length = l.length) (hlast : lastB l z = true) (htr : ∀ x y z, E x y → E y z → E x z) (htr1 : ∀ x y, F w0 x → E x y → F w0 y) (htr2 : ∀ x y, F w0 x → T x y → F w0 y) (hst : ∀ R ∈ Rs, ∀ v x y, R v x → E x y → R v y) (hst2 : allBut (fun R => ∀ v x y, R v x → T x y → R v y) s Rs)
    (hsteps : StepsT P (l ++ [z]).toArray w0 l (onePairs E T F s l.length) Rs [] a0) (hfin : ∀ w', F w0 w' → FinS (fun _ a w => wpList P (l ++ [z]).toArray Q [z] a w) w' l Rs a0) :
    ∀ (fuel : Nat) (listed : Array Bool) (a : Act) (w : World) (vs : Nat → Value), listed.toList.count false = fuel + 1 → listed.getD l.length true = false → InvS (Mv E F s listed) (l ++ [z]) Rs a0 w0 listed a w vs → wpAny P .any (l ++ [z]).toArray Q (fuel + 1) listed a w := by
  intro fuel
  induction fuel with
  | zero =>
    intro listed a w vs hc hz h
    have hzl : l.length < listed.size := by rw [h.size]; simp
    have hone : ∀ i, i < l.length → listed.getD i false = true := by
      intro i hi
      have hi' : i < listed.size := by omega
      refine getD_true_of hi' fun hu => ?_
      have h1 : listed[i] = false := by simpa [hi'] using hu
      have h2 : listed[l.length] = false := by simpa [hzl] using hz
      have hset := List.count_set (a := true) (b := false) (i := i) (l := listed.toList) (by simpa using hi')
      have hm : false ∈ listed.toList.set i true := by
        refine List.mem_iff_getElem.2 ⟨l.length, by simpa using hzl, ?_⟩
        rw [List.getElem_set_ne (by omega)]
        simpa using h2
      have hpos := List.count_pos_iff.2 hm
      rw [hset, hc] at hpos
      simp [h1] at hpos
    refine ⟨fun hr => ?_, fun i hi => ?_⟩
    · exfalso
      have := h.ready_nil hB hr l.length (by simp)
      rw [getD_false_true hz] at this
      cases this
    · obtain ⟨hu, o, ho', hall⟩ := mem_ready.1 hi
      have ho : (l ++ [z])[i]? = some o := by simpa using ho'
      have hil : i < (l ++ [z]).length := (List.getElem?_eq_some_iff.1 ho).1
      have hiL : i = l.length := by
        by_cases hiL : i < l.length
        · have := hone i hiL
          rw [getD_false_true hu] at this
          cases this
        · simp at hil
          omega
      subst hiL
      obtain rfl : z = o := by simpa using ho
      have h1 := fin_at l Rs a0 vs (hfin w h.moved.1) hlen (fun i R hi => h.holds i R (hone i (by rw [← hlen]; exact (List.getElem?_eq_some_iff.1 hi).1)) hi)
      have h2 : a = lexP (l ++ [z]) vs l.length a0 := h.shape.eq (lexP_sh (l ++ [z]) (apart_of hB) vs a0 l.length (by simp)) (fun j t hd => by
        have hj : j < (l ++ [z]).length := by
          unfold dstAt at hd
          cases ho : (l ++ [z])[j]? with
          | none => simp [ho] at hd
          | some o => exact (List.getElem?_eq_some_iff.1 ho).1
        constructor
        · intro hj'
          by_cases hjl : j < l.length
          · exact hjl
          · simp at hj
            have : j = l.length := by omega
            rw [this, getD_false_true hz] at hj'
            cases hj'
        · exact fun hj' => hone j hj')
      rw [lexP_prefix l z vs l.length a0 (Nat.le_refl _)] at h2
      rw [h2]
      refine wpOp_of_last ho' h1 fun a' w' hQ => ⟨?_, hQ⟩
      apply List.eq_nil_iff_forall_not_mem.2
      intro j hj
      obtain ⟨hu', o', ho'', _⟩ := mem_ready.1 hj
      have hjl : j < (l ++ [z]).length := by
        have := (Array.getElem?_eq_some_iff.1 ho'').1
        simpa using this
      by_cases hjL : j = l.length
      · subst hjL
        have := getD_false_true hu'
        simp [hzl] at this
      · simp at hjl
        rw [getD_set_ne true (fun e => hjL e.symm)] at hu'
        have := hone j (by omega)
        rw [getD_false_true hu'] at this
        cases this
  | succ fuel ih =>
    intro listed a w vs hc hz h
    refine ⟨fun hr => ?_, fun i hi => ?_⟩
    · exfalso
      have := h.ready_nil hB hr l.length (by simp)
      rw [getD_false_true hz] at this
      cases this
    obtain ⟨hu, o, ho', hall⟩ := mem_ready.1 hi
    have ho : (l ++ [z])[i]? = some o := by simpa using ho'
    have hil' : i < (l ++ [z]).length := (List.getElem?_eq_some_iff.1 ho).1
    have hil : i < l.length := by
      by_cases hil : i < l.length
      · exact hil
      · exfalso
        have hiL : i = l.length := by simp at hil'; omega
        subst hiL
        obtain rfl : z = o := by simpa using ho
        have hone : ∀ j, j < l.length → listed.getD j false = true := fun j hj => by
          obtain ⟨e, he, hb, rfl⟩ := lastB_spec hlast hj
          exact hall e he hb
        have hzl : l.length < listed.size := by rw [h.size]; simp
        have hls : listed.toList = List.replicate l.length true ++ [false] := by
          refine List.ext_getElem (by simp [h.size]) fun j h1 h2 => ?_
          have h1' : j < listed.size := by simpa using h1
          by_cases hj : j < l.length
          · have := hone j hj
            rw [List.getElem_append_left (by simpa using hj)]
            simpa [h1'] using this
          · have hjl : j = l.length := by rw [h.size] at h1'; simp at h1'; omega
            subst hjl
            rw [List.getElem_append_right (by simp)]
            simpa [hzl] using hz
        rw [hls] at hc
        simp [List.count_replicate] at hc
    have hol : l[i]? = some o := by rw [List.getElem?_append_left hil] at ho; exact ho
    obtain ⟨E1, hE1⟩ : ∃ E1, (onePairs E T F s l.length)[i]? = some E1 := ⟨(onePairs E T F s l.length)[i]'(by simp [onePairs]; omega), by simp [onePairs, hil]⟩
    obtain ⟨R, hR⟩ : ∃ R, Rs[i]? = some R := ⟨Rs[i]'(by omega), by simp [show i < Rs.length by omega]⟩
    have hsp := stableB_spec hB ho
    have hd : depFacts ([] ++ zipDone Rs vs i) w o.after.toList := depFacts_of _ fun e he hb x hx => by
      have hz := zipDone_get Rs vs i e.on x (by simpa using hx)
      rw [hz.2]
      exact h.holds e.on x.1 (hall e (by simpa using he) hb) hz.1
    have hw := stepsT_at i l _ Rs [] a0 vs o E1 R w hsteps hol hE1 hR (one_pre hE1 (getD_false_true hu) h.moved) hd
    have hag := h.agree hB ho hu hall
    rw [lexP_prefix l z vs i a0 (by omega)] at hag
    have hdst : dstAt (l ++ [z]) i = o.dst := by simp [dstAt, ho]
    refine wpOp_of_SQ ho' ?_ (execOp_agree o hsp.1 _ _ hag) (wanted_agree o _ _ hag) hw ?_
    · rw [h.shape.size, ← lexP_prefix l z vs i a0 (by omega), (lexP_sh (l ++ [z]) (apart_of hB) vs a0 i (by simp; omega)).size]
    · intro v w' hE hRv
      have hui := getD_false_true hu
      have hsz : i < listed.size := by rw [h.size]; exact hil'
      have hset : ∀ j, (listed.setIfInBounds i true).getD j false = true ↔ listed.getD j false = true ∨ j = i := by
        intro j
        by_cases hij : i = j
        · subst hij; simp [hsz]
        · rw [getD_set_ne false hij]
          constructor
          · exact .inl
          · rintro (h1 | h1)
            · exact h1
            · exact absurd h1.symm hij
      refine ih _ _ _ (fun j => if j = i then v else vs j) ?_ ?_ ⟨by simp [h.size], one_tr htr htr1 htr2 hE1 hsz h.moved hE, ?_, ?_, ?_⟩
      · have hli : listed.toList[i]'(by simpa using hsz) = false := by
          have : listed[i] = false := by simpa [hsz] using hu
          simpa using this
        rw [Array.toList_setIfInBounds, List.count, List.countP_set (by simpa using hsz)]
        rw [List.count] at hc
        rw [hc, hli, if_pos (by rfl), if_neg (by decide)]
        omega
      · rw [getD_set_ne true (by omega)]
        exact hz
      · rw [← hdst]
        refine h.shape.put (apart_of hB) i (by rw [hui]; simp) hset v (fun j hj => ?_) (by simp)
        have hji : j ≠ i := fun e => by rw [e, hui] at hj; cases hj
        simp [hji]
      · intro j R' hj hR'
        rcases (hset j).1 hj with hj' | rfl
        · have hji : j ≠ i := fun e => by rw [e, hui] at hj'; cases hj'
          simp only [hji, if_false]
          exact one_st hst hst2 hji hE1 hR' _ _ _ (h.holds j R' hj' hR') hE
        · rw [hR] at hR'
          obtain rfl := Option.some.inj hR'
          simpa using hRv
      · intro j p hp hj e he hb
        rcases (hset j).1 hj with hj' | rfl
        · exact (hset e.on).2 (.inl (h.closed j p hp hj' e he hb))
        · rw [ho] at hp
          obtain rfl := Option.some.inj hp
          exact (hset e.on).2 (.inl (hall e he hb))

/-- The law: a region that draws its order. -/
theorem wp_region_one {id : Nat} {w : World} (s : Nat) (E T F : World → World → Prop) (Es : List ((World → World → Prop) × (World → World → Prop))) (Rs : List (Value → World → Prop)) (hEs : onePairs E T F s l.length = Es) (hm : P.follows .mixedOrders = true) (hB : stableB l = true) (hlen : Rs.length = l.length)
    (hrefl0 : ∀ x, E x x) (htr : ∀ x y z, E x y → E y z → E x z) (hrefl : F { w with drawn := w.drawn + 1 } { w with drawn := w.drawn + 1 }) (htr1 : ∀ x y, F { w with drawn := w.drawn + 1 } x → E x y → F { w with drawn := w.drawn + 1 } y) (htr2 : ∀ x y, F { w with drawn := w.drawn + 1 } x → T x y → F { w with drawn := w.drawn + 1 } y)
    (hst : ∀ R ∈ Rs, ∀ v x y, R v x → E x y → R v y) (hst2 : allBut (fun R => ∀ v x y, R v x → T x y → R v y) s Rs)
    (hsteps : StepsT P l.toArray { w with drawn := w.drawn + 1 } l Es Rs [] a0) (hfin : ∀ w', F { w with drawn := w.drawn + 1 } w' → FinS Q w' l Rs a0) : (Code.region id l.toArray true).wp P Q a0 w := by
  subst hEs
  refine wp_region_any hm ?_
  refine wpAny_one hB hlen htr htr1 htr2 hst hst2 hsteps hfin _ _ _ _ (fun _ => undef) (by simp) ⟨by simp, ⟨hrefl, fun _ => hrefl0 _⟩, ⟨rfl, rfl, fun _ _ => rfl, fun j t hj => ?_⟩, fun i R hi => ?_, fun j o _ hj => ?_⟩
  · rw [replicate_getD] at hj; cases hj
  · rw [replicate_getD] at hi; cases hi
  · rw [replicate_getD] at hj; cases hj

/-- The law: a region that draws its order, and ends with one operation that waits for all others. -/
theorem wp_region_onelast {id : Nat} {w : World} (s : Nat) (l : List Oper) (z : Oper) {ops : Array Oper} (hops : ops = (l ++ [z]).toArray) (E T F : World → World → Prop) (Es : List ((World → World → Prop) × (World → World → Prop))) (Rs : List (Value → World → Prop)) (hEs : onePairs E T F s l.length = Es) (hm : P.follows .mixedOrders = true) (hB : stableB (l ++ [z]) = true) (hlast : lastB l z = true) (hlen : Rs.length = l.length)
    (hrefl0 : ∀ x, E x x) (htr : ∀ x y z, E x y → E y z → E x z) (hrefl : F { w with drawn := w.drawn + 1 } { w with drawn := w.drawn + 1 }) (htr1 : ∀ x y, F { w with drawn := w.drawn + 1 } x → E x y → F { w with drawn := w.drawn + 1 } y) (htr2 : ∀ x y, F { w with drawn := w.drawn + 1 } x → T x y → F { w with drawn := w.drawn + 1 } y)
    (hst : ∀ R ∈ Rs, ∀ v x y, R v x → E x y → R v y) (hst2 : allBut (fun R => ∀ v x y, R v x → T x y → R v y) s Rs)
    (hsteps : StepsT P (l ++ [z]).toArray { w with drawn := w.drawn + 1 } l Es Rs [] a0) (hfin : ∀ w', F { w with drawn := w.drawn + 1 } w' → FinS (fun _ a w => wpList P (l ++ [z]).toArray Q [z] a w) w' l Rs a0) : (Code.region id ops true).wp P Q a0 w := by
  subst hops
  subst hEs
  refine wp_region_any hm ?_
  have hsz : (l ++ [z]).toArray.size = l.length + 1 := by simp
  rw [hsz]
  refine wpAny_onelast hB hlen hlast htr htr1 htr2 hst hst2 hsteps hfin _ _ _ _ (fun _ => undef) (by simp) (by simp) ⟨by simp, ⟨hrefl, fun _ => hrefl0 _⟩, ⟨rfl, rfl, fun _ _ => rfl, fun j t hj => ?_⟩, fun i R hi => ?_, fun j o _ hj => ?_⟩
  · rw [replicate_getD] at hj; cases hj
  · rw [replicate_getD] at hi; cases hi
  · rw [replicate_getD] at hj; cases hj

end

end Go.Proofs.Ytnhommpagibaeac
