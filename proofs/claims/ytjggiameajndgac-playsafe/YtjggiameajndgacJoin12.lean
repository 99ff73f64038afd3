import Derived.Test.YtjggiameajndgacJoin11
/-
  What the program's stripe returns: Data, Cells. Nothing old turns.
-/
namespace Go.Proofs.Ytjggiameajndgac
open Go.RowKit

theorem rest_split (ls : List (List Int)) (s : Int) {d : Nat} (hd : d < 4) : (readL ls s).take d ++ (readL ls s).drop (d + 1) = restTo ls s d 4 := by
  obtain rfl | rfl | rfl | rfl : d = 0 ∨ d = 1 ∨ d = 2 ∨ d = 3 := by omega
  all_goals rfl

theorem mem_bad {ls : List (List Int)} (hl : ls.length = 4) (s : Int) {k : Nat} (hk : k < 4) : isBad ls s k = decide (k ∈ badL ls s) := by
  rw [Bool.eq_iff_iff, decide_eq_true_iff]
  simp [badL, badTo, hl, hk]

theorem data_none {ls : List (List Int)} (hl : ls.length = 4) {s : Int} (h : badL ls s = []) : dataL ls s = readL ls s ∧ dataE ls s = 0 := by
  refine ⟨?_, by rw [dataE, h]; rfl⟩
  rw [dataL, h, if_neg (by simp), hl]
  refine List.map_congr_left fun k hk => ?_
  have := mem_bad hl s (List.mem_range.1 hk)
  rw [datAt, this, h]
  simp

theorem data_one {ls : List (List Int)} (hl : ls.length = 4) {s : Int} {d : Nat} (h : badL ls s = [d]) : dataL ls s = (readL ls s).set d (xorAll (restTo ls s d 4)) ∧ dataE ls s = 0 ∧ d < 4 ∧ (∀ b ∈ restTo ls s d 4, b.length = 4) := by
  have hm : d ∈ badL ls s := by rw [h]; simp
  have hd : d < 4 := by
    simp only [badL, badTo, hl, List.mem_filter, List.mem_range] at hm
    exact hm.1
  have hb : isBad ls s d = true := by rw [mem_bad hl s hd]; simpa using hm
  refine ⟨?_, by rw [dataE, h]; rfl, hd, by have := rest_blocks (ls := ls) (s := s) (d := d) (by omega) hb (by rw [h]; simp) (n := 4) (by omega); exact this⟩
  rw [dataL, h, if_neg (by simp), hl]
  refine List.ext_getElem (by simp [readL]) fun i h1 h2 => ?_
  have hi : i < 4 := by simpa using h1
  rw [List.getElem_map, List.getElem_range, List.getElem_set]
  have := mem_bad hl s hi
  rw [h] at this
  by_cases hid : d = i
  · subst hid
    rw [if_pos rfl, datAt, hb, if_pos rfl, hl]
  · have hni : ¬ i = d := fun e => hid e.symm
    rw [if_neg hid, datAt, this, if_neg (by simp [hni])]
    simp [readL]

theorem data_more {ls : List (List Int)} {s : Int} {d e : Nat} {r : List Nat} (h : badL ls s = d :: e :: r) : dataL ls s = [] ∧ dataE ls s = 9 := by
  constructor
  · rw [dataL, h, if_pos (by simp)]
  · rw [dataE, h, if_pos (by simp)]

/-- A part of a slice. -/
theorem Sl.sub {α : Type} {R : World → Value → α → Prop} {w : World} {b off n cap : Nat} {xs : List α} (h : Sl R w (.slice (some ⟨b, off, none⟩) n cap) xs) {j m : Nat} (hm : j + m ≤ n) : Sl R w (.slice (some ⟨b, off + j, none⟩) m (cap - j)) ((xs.drop j).take m) := by
  have hc := h.cells
  obtain ⟨ao, c1, e1, h1, h2, h3, -⟩ := h
  injection e1 with e1 e2 e3
  subst e1 e2 e3
  have hlen : ((xs.drop j).take m).length = m := by simp; omega
  refine ⟨some ⟨b, off + j, none⟩, cap - j, by rw [hlen], by omega, by omega, (fun h => nomatch h), fun _ => ⟨b, off + j, rfl, fun i x hx => ?_⟩⟩
  have hi : i < m := by
    by_cases hi : i < m
    · exact hi
    · rw [List.getElem?_eq_none (by omega)] at hx; cases hx
  rw [List.getElem?_take_of_lt hi, List.getElem?_drop] at hx
  rw [Nat.add_assoc]
  exact hc (j + i) x hx

theorem Sl.empty {α : Type} (R : World → Value → α → Prop) (w : World) (a : Addr) : Sl R w (.slice (some a) 0 0) [] :=
  ⟨some a, 0, rfl, Nat.le_refl _, Nat.zero_le _, (fun h => nomatch h), fun h => by simp at h⟩

/-- A slice of two that was made of them. -/
theorem dks_two {w : World} {t : TypeId} {u v : Value} {A B : List (List Int)} (hu : Bss w u A) (hv : Bss w v B) : Dks (w.alloc (.cells #[u, v] t)) (.slice (some ⟨w.heap.size, 0, none⟩) 2 2) [A, B] := by
  have hg : Grow w (w.alloc (.cells #[u, v] t)) := Grow.alloc _ _
  refine Sl.row (us := [u, v]) (heap_alloc_new w _) rfl rfl (by unfold maxLen; omega) fun i q x hq hx => ?_
  match i, hq, hx with
  | 0, hq, hx => simp at hq hx; subst hq hx; exact hu.grow hg
  | 1, hq, hx => simp at hq hx; subst hq hx; exact hv.grow hg
  | n + 2, hq, _ => simp at hq

/-- Slices that read as these. -/
def AnDks (lss : List (List (List Int))) (v : Value) (w : World) : Prop := Dks w v lss
theorem AnDks.stable (lss : List (List (List Int))) : ∀ (v : Value) (x y : World), AnDks lss v x → Grow x y → AnDks lss v y := fun _ _ _ h hg => Dks.stays _ _ _ _ h hg

/-- A slice of bytes' slices that reads as these. -/
def AnB (ls : List (List Int)) (v : Value) (w : World) : Prop := Bss w v ls
theorem AnB.stable (ls : List (List Int)) : ∀ (v : Value) (x y : World), AnB ls v x → Grow x y → AnB ls v y := fun _ _ _ h hg => Bss.grow h hg

/-- Four bytes of a block behind H. -/
def AnX (p : Nat × List Int) (v : Value) (w : World) : Prop := Fx p.1 p.2 v w
theorem AnX.stable (p : Nat × List Int) : ∀ (v : Value) (x y : World), AnX p v x → Grow x y → AnX p v y := fun _ _ _ h hg => Fx.kept h (hg.inn (fun _ => False)) (fun _ _ h => h.elim)

theorem cat2 {lss : List (List (List Int))} {ls : List (List Int)} (h1 : lss.flatten = ls) (h2 : ls.length = 3) {v : Value} {w : World} (h : Dks w v lss) :
    Calls Try.prog 81 #[v] w fun e w' => ∃ r, e = .returned r ∧ AnB ls r w' ∧ Grow w w' := by
  have := concat_any v lss w h (by rw [h1]; omega) (by rw [h1]; omega)
  rw [h1] at this
  exact this

theorem allX (H : Nat) (v : Value) (ls : List (List Int)) (w : World) (hH : H < w.heap.size) (h : Bss w v ls) (hl : ∀ b ∈ ls, b.length = 4) :
    Calls Try.prog 80 #[v] w fun e w' => ∃ r, e = .returned r ∧ AnX (H, xorAll ls) r w' ∧ Grow w w' :=
  (all_row v ls w h hl).mono fun _ _ ⟨he, HR, hg⟩ => ⟨_, he, .inr ⟨_, rfl, hH, HR.out, rfl, xorAll_octets h.octets⟩, hg⟩

set_option maxRecDepth 20000 in
set_option maxHeartbeats 3200000 in
theorem stripeData_bss (v : Value) (ls : List (List Int)) (s : Nat) (w : World) (g : Option Nat) (h : Bss w v ls) (hg : ∀ k, g = some k → k < w.heap.size) (hl : ls.length = 4) (_hs : s < 3) :
    Calls Try.prog 48 #[v, .int .i64 s] w fun e w' => ∃ r, e = .returned (.tuple #[r, .int .i64 (dataE ls s)]) ∧ Rowing (Off Bs g) w.heap.size 52 w' r (dataL ls s) ∧ Grow w w' := by
  have hcall := look_any v ls s w h hl
  obtain ⟨av, cv, rfl⟩ := Sl.form h
  clear h
  match hB : badL ls s with
  | [] =>
    obtain ⟨hL, hE⟩ := data_none hl hB
    rw [hL, hE]
    rw [hl] at hcall ⊢
    rw [hB] at hcall
    clear hL hE hB hl
    go_enter Try.func48, Try.ntmps48
    go_wp2_with fail
    refine hcall.mono ?_
    rintro e w1 ⟨bd, rfl, hF, hN, hg1⟩
    obtain ⟨ab, cb, eb⟩ := Sl.form hN.done
    simp only [ints, List.map_nil, List.length_nil] at eb
    subst eb
    have hR := hF.row g hg
    clear hN hF hcall
    go_wp2
    go_loop [21] (fun i => i = .int .i64 0) (fun _ => 0)
    case atStart => exact rfl
    case round =>
      subst hrel
      go_wp2
      go_ret2
      exact ⟨_, rfl, hR, hg1⟩
  | d :: e' :: r' =>
    obtain ⟨hL, hE⟩ := data_more hB
    rw [hL, hE]
    rw [hl] at hcall ⊢
    rw [hB] at hcall
    have hlb : (ints (d :: e' :: r')).length = r'.length + 2 := by simp [ints]
    clear hL hE hB hl
    generalize ints (d :: e' :: r') = ns at *
    generalize r'.length = nr at *
    go_enter Try.func48, Try.ntmps48
    go_wp2_with fail
    refine hcall.mono ?_
    rintro e w1 ⟨bd, rfl, hF, hN, hg1⟩
    obtain ⟨ab, cb, eb, hb1, hb2⟩ := hN.done.form'
    rw [hlb] at eb hb1
    subst eb
    have h1 : ((nr + 2 : Nat) : Int) > 1 := by omega
    clear hN hF hcall hlb
    go_wp2
    go_ret2
    exact ⟨_, rfl, Rowing.nil _ _ _ _, hg1⟩
  | [d] =>
    obtain ⟨hL, hE, hd, hQ⟩ := data_one hl hB
    rw [hL, hE]
    rw [hl] at hcall ⊢
    rw [hB] at hcall
    have hsp := rest_split ls s hd
    have hlL : (readL ls s).length = 4 := by simp [readL]
    clear hL hE hB hl
    go_enter Try.func48, Try.ntmps48
    go_wp2_with fail
    refine hcall.mono ?_
    rintro e w1 ⟨bd, rfl, hF, hN, hg1⟩
    have HF : Hid (Four w.heap.size (readL ls s) w1) := hF
    obtain ⟨ab, cb, eb, hb1, hb2⟩ := hN.done.form'
    simp only [ints, List.map_cons, List.map_nil, List.length_cons, List.length_nil, Nat.zero_add] at eb hb1
    subst eb
    obtain ⟨bb, ob, ub, ebb, hub, hbb⟩ := hN.done.elem (k := 0) (by simp [ints]) 0
    subst ebb
    obtain rfl : ub = .int .i64 d := hbb
    rw [Nat.add_zero] at hub
    have hA : ∀ w2, Grow w1 w2 → Bss w2 (.slice (some ⟨w.heap.size, 0 + 0, none⟩) d (4 - 0)) (((readL ls s).drop 0).take d) := fun w2 hg => (HF.out.grow hg).bss.sub (by omega)
    have hBB : ∀ w2, Grow w1 w2 → Bss w2 (.slice (some ⟨w.heap.size, 0 + (d + 1), none⟩) (4 - (d + 1)) (4 - (d + 1))) (((readL ls s).drop (d + 1)).take (4 - (d + 1))) := fun w2 hg => (HF.out.grow hg).bss.sub (by omega)
    rw [List.drop_zero] at hA
    rw [List.take_of_length_le (by rw [List.length_drop, hlL]; omega)] at hBB
    rw [Nat.zero_add, show 4 - (d + 1) = 3 - d by omega] at hBB
    have hB3 : d = 3 → (readL ls s).drop (d + 1) = [] := fun e => List.drop_eq_nil_of_le (by rw [hlL]; omega)
    have hH := HF.out.lt
    have Hflat : Hid ([(readL ls s).take d, (readL ls s).drop (d + 1)].flatten = restTo ls s d 4) := by rw [Hid, ← hsp]; simp
    have Hfl : Hid ((restTo ls s d 4).length = 3) := by rw [Hid, ← hsp, List.length_append, List.length_take, List.length_drop, hlL]; omega
    clear hF hN hcall hsp hlL
    go_wp2
    go_loopw [21] (fun i wr => (i = .int .i64 0 ∧ wr = w1) ∨ (i = .int .i64 1 ∧ Hid (Four w.heap.size ((readL ls s).set d (xorAll (restTo ls s d 4))) wr) ∧ Grow w wr)) (fun i _ => 1 - (intOf i).toNat)
    case atStart => exact .inl ⟨rfl, rfl⟩
    case round =>
      rcases hrel with ⟨rfl, rfl⟩ | ⟨rfl, HF1, hgr⟩
      · go_wp2_with fail
        refine wp_region_last [_, _, _, _, _, _, _, _, _, _, _, _, _] _ rfl Grow [IsV (.slice (some ⟨w.heap.size, 0, none⟩) 4 4), IsV (.int .i64 d), IsV (.slice (some ⟨w.heap.size, 0, none⟩) 4 4), IsV (.int .i64 d), IsV (.slice (some ⟨w.heap.size, 0, none⟩) d 4), IsV (.slice (some ⟨w.heap.size, 0, none⟩) 4 4), IsV (.int .i64 d), IsV (.int .i64 (d + 1)), AnB ((readL ls s).drop (d + 1)), AnDks [(readL ls s).take d, (readL ls s).drop (d + 1)], AnB (restTo ls s d 4), AnX (w.heap.size, xorAll (restTo ls s d 4)), IsV (.pointer (some ⟨w.heap.size, d, none⟩))] (by kernel_rfl) (by kernel_rfl) (by kernel_rfl) rfl Grow.refl (fun _ _ _ => Grow.trans) ?_ ?_ ?_
        · repeat (refine List.forall_mem_cons.2 ⟨by first | exact IsV.stable _ | exact AnB.stable _ | exact AnDks.stable _ | exact AnX.stable _, ?_⟩)
          exact fun R hR => nomatch hR
        · skip
          refine StepsS.cons ?_ fun v0 => ⟨_, _, by simp only [Act.put, List.setIfInBounds_toArray, List.set_cons_succ, List.set_cons_zero]; first | done | rfl, by simp only [List.nil_append]; first | done | rfl, ?_⟩
          · intro w1 hE hd
            clear hd
            go_wp2
            exact ⟨_, rfl, Grow.refl _, rfl⟩
          refine StepsS.cons ?_ fun v1 => ⟨_, _, by simp only [Act.put, List.setIfInBounds_toArray, List.set_cons_succ, List.set_cons_zero]; first | done | rfl, by simp only [List.nil_append, List.cons_append]; first | done | rfl, ?_⟩
          · intro w1 hE hd
            clear hd
            go_wp2
            exact ⟨_, rfl, Grow.refl _, rfl⟩
          refine StepsS.cons ?_ fun v2 => ⟨_, _, by simp only [Act.put, List.setIfInBounds_toArray, List.set_cons_succ, List.set_cons_zero]; first | done | rfl, by simp only [List.nil_append, List.cons_append]; first | done | rfl, ?_⟩
          · intro w1 hE hd
            clear hd
            go_wp2
            exact ⟨_, rfl, Grow.refl _, rfl⟩
          refine StepsS.cons ?_ fun v3 => ⟨_, _, by simp only [Act.put, List.setIfInBounds_toArray, List.set_cons_succ, List.set_cons_zero]; first | done | rfl, by simp only [List.nil_append, List.cons_append]; first | done | rfl, ?_⟩
          · intro w1 hE hd
            clear hd
            go_wp2
            exact ⟨_, rfl, Grow.refl _, rfl⟩
          refine StepsS.cons ?_ fun v4 => ⟨_, _, by simp only [Act.put, List.setIfInBounds_toArray, List.set_cons_succ, List.set_cons_zero]; first | done | rfl, by simp only [List.nil_append, List.cons_append]; first | done | rfl, ?_⟩
          · intro w1 hE hd
            obtain rfl := IsV.eq (dep_at hd 0 rfl rfl rfl)
            obtain rfl := IsV.eq (dep_at hd 1 rfl rfl rfl)
            clear hd
            go_wp2
            exact ⟨_, rfl, Grow.refl _, rfl⟩
          refine StepsS.cons ?_ fun v5 => ⟨_, _, by simp only [Act.put, List.setIfInBounds_toArray, List.set_cons_succ, List.set_cons_zero]; first | done | rfl, by simp only [List.nil_append, List.cons_append]; first | done | rfl, ?_⟩
          · intro w1 hE hd
            clear hd
            go_wp2
            exact ⟨_, rfl, Grow.refl _, rfl⟩
          refine StepsS.cons ?_ fun v6 => ⟨_, _, by simp only [Act.put, List.setIfInBounds_toArray, List.set_cons_succ, List.set_cons_zero]; first | done | rfl, by simp only [List.nil_append, List.cons_append]; first | done | rfl, ?_⟩
          · intro w1 hE hd
            clear hd
            go_wp2
            exact ⟨_, rfl, Grow.refl _, rfl⟩
          refine StepsS.cons ?_ fun v7 => ⟨_, _, by simp only [Act.put, List.setIfInBounds_toArray, List.set_cons_succ, List.set_cons_zero]; first | done | rfl, by simp only [List.nil_append, List.cons_append]; first | done | rfl, ?_⟩
          · intro w1 hE hd
            obtain rfl := IsV.eq (dep_at hd 0 rfl rfl rfl)
            clear hd
            go_wp2
            exact ⟨_, rfl, Grow.refl _, rfl⟩
          refine StepsS.cons ?_ fun v8 => ⟨_, _, by simp only [Act.put, List.setIfInBounds_toArray, List.set_cons_succ, List.set_cons_zero]; first | done | rfl, by simp only [List.nil_append, List.cons_append]; first | done | rfl, ?_⟩
          · intro w1 hE hd
            obtain rfl := IsV.eq (dep_at hd 0 rfl rfl rfl)
            obtain rfl := IsV.eq (dep_at hd 1 rfl rfl rfl)
            clear hd
            by_cases h3 : d = 3
            · have hnil := hB3 h3
              subst h3
              go_wp2
              exact ⟨_, rfl, Grow.refl _, by first | exact Sl.empty _ _ _ | (rw [AnB, hnil]; exact Sl.empty _ _ _)⟩
            · have hBw := hBB _ hE.drew
              go_wp2
              exact ⟨_, rfl, Grow.refl _, hBw⟩
          refine StepsS.cons ?_ fun v9 => ⟨_, _, by simp only [Act.put, List.setIfInBounds_toArray, List.set_cons_succ, List.set_cons_zero]; first | done | rfl, by simp only [List.nil_append, List.cons_append]; first | done | rfl, ?_⟩
          · intro w1 hE hd
            obtain rfl := IsV.eq (dep_at hd 0 rfl rfl rfl)
            have d8 := dep_at hd 1 rfl rfl rfl
            clear hd
            obtain ⟨a8, n8, c8, rfl⟩ : ∃ a n c, v8 = .slice a n c := by obtain ⟨a, c, e⟩ := Sl.form d8; exact ⟨a, _, c, e⟩
            go_wp2
            exact ⟨_, rfl, Grow.alloc _ _, dks_two (hA _ hE.drew) d8⟩
          refine StepsS.cons ?_ fun v10 => ⟨_, _, by simp only [Act.put, List.setIfInBounds_toArray, List.set_cons_succ, List.set_cons_zero]; first | done | rfl, by simp only [List.nil_append, List.cons_append]; first | done | rfl, ?_⟩
          · intro w1 hE hd
            have d9 := dep_at hd 0 rfl rfl rfl
            clear hd
            go_wp2_with fail
            refine (cat2 Hflat.out Hfl.out d9).mono ?_
            rintro e w4 ⟨r', rfl, hr', hg4⟩
            go_wp2_with fail
            exact ⟨_, rfl, hg4, hr'⟩
          refine StepsS.cons ?_ fun v11 => ⟨_, _, by simp only [Act.put, List.setIfInBounds_toArray, List.set_cons_succ, List.set_cons_zero]; first | done | rfl, by simp only [List.nil_append, List.cons_append]; first | done | rfl, ?_⟩
          · intro w1 hE hd
            have d10 := dep_at hd 0 rfl rfl rfl
            clear hd
            go_wp2_with fail
            refine (allX w.heap.size _ (restTo ls s d 4) _ (Nat.lt_of_lt_of_le hH hE.size) d10 hQ).mono ?_
            rintro e w4 ⟨r', rfl, hr', hg4⟩
            go_wp2_with fail
            exact ⟨_, rfl, hg4, hr'⟩
          refine StepsS.cons ?_ fun v12 => ⟨_, _, by simp only [Act.put, List.setIfInBounds_toArray, List.set_cons_succ, List.set_cons_zero]; first | done | rfl, by simp only [List.nil_append, List.cons_append]; first | done | rfl, ?_⟩
          · intro w1 hE hd
            obtain rfl := IsV.eq (dep_at hd 0 rfl rfl rfl)
            obtain rfl := IsV.eq (dep_at hd 1 rfl rfl rfl)
            clear hd
            go_wp2
            exact ⟨_, rfl, Grow.refl _, rfl⟩
          trivial
        intro wR hwR
        refine FinS.cons ?_; rintro _ rfl; refine ⟨_, by simp only [Act.put, List.setIfInBounds_toArray, List.set_cons_succ, List.set_cons_zero]; first | done | rfl, ?_⟩
        refine FinS.cons ?_; rintro _ rfl; refine ⟨_, by simp only [Act.put, List.setIfInBounds_toArray, List.set_cons_succ, List.set_cons_zero]; first | done | rfl, ?_⟩
        refine FinS.cons ?_; rintro _ rfl; refine ⟨_, by simp only [Act.put, List.setIfInBounds_toArray, List.set_cons_succ, List.set_cons_zero]; first | done | rfl, ?_⟩
        refine FinS.cons ?_; rintro _ rfl; refine ⟨_, by simp only [Act.put, List.setIfInBounds_toArray, List.set_cons_succ, List.set_cons_zero]; first | done | rfl, ?_⟩
        refine FinS.cons ?_; rintro _ rfl; refine ⟨_, by simp only [Act.put, List.setIfInBounds_toArray, List.set_cons_succ, List.set_cons_zero]; first | done | rfl, ?_⟩
        refine FinS.cons ?_; rintro _ rfl; refine ⟨_, by simp only [Act.put, List.setIfInBounds_toArray, List.set_cons_succ, List.set_cons_zero]; first | done | rfl, ?_⟩
        refine FinS.cons ?_; rintro _ rfl; refine ⟨_, by simp only [Act.put, List.setIfInBounds_toArray, List.set_cons_succ, List.set_cons_zero]; first | done | rfl, ?_⟩
        refine FinS.cons ?_; rintro _ rfl; refine ⟨_, by simp only [Act.put, List.setIfInBounds_toArray, List.set_cons_succ, List.set_cons_zero]; first | done | rfl, ?_⟩
        refine FinS.cons fun v8 h8 => ⟨_, by simp only [Act.put, List.setIfInBounds_toArray, List.set_cons_succ, List.set_cons_zero]; first | done | rfl, ?_⟩
        refine FinS.cons fun v9 h9 => ⟨_, by simp only [Act.put, List.setIfInBounds_toArray, List.set_cons_succ, List.set_cons_zero]; first | done | rfl, ?_⟩
        refine FinS.cons fun v10 h10 => ⟨_, by simp only [Act.put, List.setIfInBounds_toArray, List.set_cons_succ, List.set_cons_zero]; first | done | rfl, ?_⟩
        refine FinS.cons fun v11 h11 => ⟨_, by simp only [Act.put, List.setIfInBounds_toArray, List.set_cons_succ, List.set_cons_zero]; first | done | rfl, ?_⟩
        refine FinS.cons ?_; rintro _ rfl; refine ⟨_, by simp only [Act.put, List.setIfInBounds_toArray, List.set_cons_succ, List.set_cons_zero]; first | done | rfl, ?_⟩
        show wpList _ _ _ _ _ _
        have hFx : Fx w.heap.size (xorAll (restTo ls s d 4)) v11 wR := h11
        obtain ⟨a11, n11, c11, rfl⟩ := hFx.form
        have hFR := HF.out.grow hwR.drew
        obtain ⟨⟨u0, hu0⟩, hf0⟩ := hFR.at hd
        have HF2 : Hid (Four _ _ _) := hFR.put d hFx
        have hg2 := (hg1.trans hwR.drew).set (k := d) (Nat.le_refl w.heap.size) (.slice a11 n11 c11)
        clear hFx hFR h8 h9 h10 h11 HF hA hBB
        go_wp2
        go_roundw
        case rel => first | exact (.inr ⟨by go_num, HF2, hg2⟩) | ((repeat apply Exists.intro); exact ⟨(.inr ⟨by go_num, HF2, hg2⟩), rfl⟩)
        case measure => simp [intOf]
      · have hR := HF1.out.row g hg
        clear HF1
        go_wp2
        go_ret2
        exact ⟨_, rfl, hR, hgr⟩

theorem stripeData_row (v : Value) (ls : List (List Int)) (s : Nat) (w : World) (g : Option Nat) (h : Sl (Off Bs g) w v ls) (hg : ∀ k, g = some k → k < w.heap.size) (hl : ls.length = 4) (_hs : s < 3) :
    Calls Try.prog 48 #[v, .int .i64 s] w fun e w' => ∃ r, e = .returned (.tuple #[r, .int .i64 (dataE ls s)]) ∧ Rowing (Off Bs g) w.heap.size 52 w' r (dataL ls s) ∧ Grow w w' :=
  stripeData_bss v ls s w g h.off hg hl _hs

theorem cellsL_up {a : ArrP} (h : a.ds.length = 4) (s : Nat) : cellsL a s = up4 (fun (d : Nat) => (a.ds.getD d []).getD s []) 4 := by
  rw [up4_all, cellsL]
  refine List.ext_getElem (by simp [h]) fun i h1 h2 => ?_
  have hi : i < a.ds.length := by simpa using h1
  simp [List.getD_eq_getElem?_getD, hi]

set_option maxRecDepth 20000 in
set_option maxHeartbeats 3200000 in
theorem stripeCells_row (v : Value) (a : ArrP) (s : Nat) (w : World) (h : ArrV w v a) (ha : Whole a) (h8 : ∀ d s, ((a.ds.getD d []).getD s []).length ≤ 8) (hs : s < 3) :
    Calls Try.prog 46 #[v, .int .i64 s] w fun e w' => ∃ r, e = .returned r ∧ Rowing Bs w.heap.size 52 w' r (cellsL a s) ∧ Grow w w' := by
  obtain ⟨dv, iv, rfl, hd, hit⟩ := h
  obtain ⟨ad, cd, rfl, hd1, hd2⟩ := hd.form'
  obtain ⟨ai, ci, rfl, hi1, hi2⟩ := hit.form
  obtain ⟨ha4, ha3⟩ := ha
  rw [cellsL_up ha4]
  have HK : Hid (∀ k, k < 4 → ∃ b off a' c' b' off' u' n' cc', ad = some ⟨b, off, none⟩ ∧ w.cell? ⟨b, off + k, none⟩ = some (.slice a' 3 c') ∧ a' = some ⟨b', off', none⟩ ∧ w.cell? ⟨b', off' + s, none⟩ = some (.slice u' n' cc') ∧ Bs w (.slice u' n' cc') ((a.ds.getD k []).getD s [])) := fun k hk => by
    obtain ⟨b, off, a', c', e1, e2, e3⟩ := hd.elems (k := k) (by omega)
    have h3 : (a.ds.getD k []).length = 3 := ha3 _ (by simp [List.getD_eq_getElem?_getD, show k < a.ds.length by omega])
    obtain ⟨b', off', u', e4, e5, e6⟩ := e3.elem (k := s) (by omega) []
    obtain ⟨x1, x2, x3, rfl⟩ := e6.form
    rw [h3] at e2
    exact ⟨b, off, a', c', b', off', x1, x2, x3, e1, e2, e4, e5, e6⟩
  rw [ha4] at hd1 ⊢
  clear hd hit ha3 ha4
  generalize a.is.length = ni at *
  have hgA : Grow w (w.alloc (.cells #[.slice ad 4 cd, .slice ai ni ci] 26)) := Grow.alloc _ _
  obtain ⟨w1, hw1⟩ : ∃ w1, w1 = w.alloc (.cells #[.slice ad 4 cd, .slice ai ni ci] 26) := ⟨_, rfl⟩
  have hsz : w1.heap.size = w.heap.size + 1 := by rw [hw1]; simp
  have hA0 : w1.heap[w.heap.size]? = some (.cells #[.slice ad 4 cd, .slice ai ni ci] 26 (0, 0)) := by rw [hw1]; exact heap_alloc_new w _
  have c0 : w1.cell? ⟨w.heap.size, 0, none⟩ = some (.slice ad 4 cd) := row_at hA0 0 rfl
  have hmk := Try.madeS (w.alloc (.cells #[.slice ad 4 cd, .slice ai ni ci] 26))
  have hst : Hid (Rowing Bs w1.heap.size 52 (w1.alloc (.cells nils4 52)) (.slice (some ⟨w1.heap.size, 0, none⟩) 4 4) (up4 (fun (d : Nat) => (a.ds.getD d []).getD s []) 0)) := Rowing.madeS w1 _
  rw [← hw1] at hgA
  go_enter Try.func46, Try.ntmps46
  go_wp2
  rw [← hw1]
  rw [show w.heap.size + 1 = w1.heap.size from hsz.symm]
  clear hw1 hA0 hsz hmk
  go_loopw [10] (fun i wr => ∃ k : Nat, k ≤ 4 ∧ i = .int .i64 k ∧ Hid (Rowing Bs w1.heap.size 52 wr (.slice (some ⟨w1.heap.size, 0, none⟩) 4 4) (up4 (fun (d : Nat) => (a.ds.getD d []).getD s []) k)) ∧ Grow w1 wr) (fun i _ => 4 - (intOf i).toNat)
  case atStart => exact ⟨0, by omega, rfl, hst, Grow.alloc _ _⟩
  case round =>
    obtain ⟨k, hk, rfl, HR, hgr⟩ := hrel
    clear hst
    by_cases hlt : k < 4
    · obtain ⟨b, off, a', c', b', off', u', n', cc', rfl, hc1, rfl, hc2, hb⟩ := HK.out k hlt
      have hgw := hgA.trans hgr
      have hA := atD_any b off k 4 cd (some ⟨b', off', none⟩) 3 c' wr hlt (hgw.at hc1)
      have hB := atB_any b' off' s 3 c' u' n' cc' wr hs (hgw.at hc2)
      have hC := bytesClone_any (.slice u' n' cc') ((a.ds.getD k []).getD s []) wr (hb.grow hgw) (by have := h8 k s; omega)
      have hoc := hb.octets
      have c0' := hgr.at c0
      clear hc1 hc2 hb
      go_wp2_with fail
      refine hA.mono ?_
      rintro e w0 ⟨rfl, rfl⟩
      go_wp2_with fail
      refine hB.mono ?_
      rintro e w2 ⟨rfl, rfl⟩
      go_wp2_with fail
      refine hC.mono ?_
      rintro e w3 ⟨r, rfl, hown, hg3⟩
      have hlr : w1.heap.size < w2.heap.size := (HR.out.base _ rfl).2
      have hoff : Off Bs (some w1.heap.size) w3 r ((a.ds.getD k []).getD s []) := Off.own hown hoc (fun j hj => by cases hj; exact hlr)
      obtain ⟨gr, nr, cr, rfl⟩ := (Bs.of_own hown hoc).form
      have hrow := HR.out.grow hg3
      obtain ⟨⟨u0, hu0⟩, hf0⟩ := hrow.at (k := k) (by rw [up4_length]; exact hlt)
      have hrow1 := hrow.stored k hoff
      rw [up4_set (fun (d : Nat) => (a.ds.getD d []).getD s []) hlt] at hrow1
      have HR1 : Hid (Rowing Bs _ _ _ _ _) := hrow1
      have hg4 := (hgr.trans hg3).set (k := k) (Nat.le_refl w1.heap.size) (.slice gr nr cr)
      clear hrow hrow1 hoff hown HR hA hB hC
      go_wp2
      go_roundw
      case rel => first | exact ⟨k + 1, by omega, by go_num, HR1, hg4⟩ | ((repeat apply Exists.intro); exact ⟨⟨k + 1, by omega, by go_num, HR1, hg4⟩, rfl⟩)
      case measure => simp [intOf]; omega
    · obtain rfl : k = 4 := by omega
      go_wp2
      go_ret
      exact ⟨_, rfl, HR.out.low hgA.size, hgA.trans hgr⟩

end Go.Proofs.Ytjggiameajndgac

/-
  What the program's array.Read returns. Nothing old turns.
-/
namespace Go.Proofs.Ytjggiameajndgac
open Go.RowKit

theorem cellsL_at {a : ArrP} (ha : Whole a) (s : Nat) {d : Nat} (hd : d < 4) : (cellsL a s).getD d [] = cellAt a d s := by
  have h4 := ha.1
  rw [cellsL, cellAt]
  simp [List.getD_eq_getElem?_getD, show d < a.ds.length by omega]

theorem FreshX.off {w w' : World} {x : List Int} {r : Value} (h : FreshX w x r w') (g : Option Nat) (hg : ∀ k, g = some k → k < w.heap.size) : Off Bs g w' r x := by
  rcases h with ⟨rfl, rfl⟩ | ⟨b, rfl, hb0, hb, hl, ho⟩
  · exact fun _ _ => Bs.nil _
  · exact Off.row hb hl (by unfold maxLen; omega) ho (fun e => by have := hg b e; omega)

set_option maxRecDepth 20000 in
set_option maxHeartbeats 3200000 in
theorem arrRead_off (v : Value) (a : ArrP) (n : Int) (w : World) (g : Option Nat) (h : ArrV w v a) (hg : ∀ k, g = some k → k < w.heap.size) (ha : Whole a) (h8 : ∀ d s, (cellAt a d s).length ≤ 8) :
    Calls Try.prog 115 #[v, .int .i64 n] w fun e w' => ∃ r, e = .returned (.tuple #[r, .int .i64 (rdE a n)]) ∧ Off Bs g w' r (rdX a n) ∧ Grow w w' := by
  have harr := h
  obtain ⟨dv, iv, rfl, hd, hit⟩ := h
  obtain ⟨ad, cd, rfl, hd1, hd2⟩ := hd.form'
  obtain ⟨ai, ci, rfl, hi1, hi2⟩ := hit.form
  have hl4 := ha.1
  rw [hl4] at harr hd1 ⊢
  generalize a.is.length = ni at *
  have HA : Hid (ArrV w (.agg #[.slice ad 4 cd, .slice ai ni ci]) a ∧ Whole a ∧ ∀ d s, (cellAt a d s).length ≤ 8) := ⟨harr, ha, h8⟩
  have HG : Hid (∀ k, g = some k → k < w.heap.size) := hg
  obtain ⟨W, hW⟩ : ∃ W, W = w.alloc (.cells #[.slice ad 4 cd, .slice ai ni ci] 26) := ⟨_, rfl⟩
  have hgA : Grow w W := by rw [hW]; exact Grow.alloc _ _
  have hbA : W.heap[w.heap.size]? = some (.cells #[.slice ad 4 cd, .slice ai ni ci] 26 (0, 0)) := by rw [hW]; exact heap_alloc_new w _
  have k0 := two_at0 hbA
  have k1 := two_at1 hbA
  clear hd hit harr ha h8 hg hbA hl4
  by_cases hn : 0 ≤ n ∧ n < 9
  · obtain ⟨hD, hS, hE, hd4, hs3⟩ := where_bd hn
    have HE : Hid (rdE a n = if readE (cellAt a (dOf n) (sOf n)) (dOf n) (sOf n) = 0 then 0 else dataE (cellsL a (sOf n)) (sOf n)) := if_pos hn
    have HX : Hid (rdX a n = if readE (cellAt a (dOf n) (sOf n)) (dOf n) (sOf n) = 0 then readX (cellAt a (dOf n) (sOf n)) (dOf n) (sOf n) else (dataL (cellsL a (sOf n)) (sOf n)).getD (dOf n) []) := if_pos hn
    have hWh := where_any n W
    rw [hD, hS, hE] at hWh
    clear hD hS hE hn
    generalize dOf n = d at *
    generalize sOf n = s at *
    have hca := cellsL_at HA.out.2.1 s hd4
    have hcl : (cellsL a s).length = 4 := by rw [cellsL_length, HA.out.2.1.1]
    have HCL : Hid ((cellsL a s).length = 4) := hcl
    have hc1 := stripeCells_row (.agg #[.slice ad 4 cd, .slice ai ni ci]) a s W (HA.out.1.grow hgA) HA.out.2.1 HA.out.2.2 hs3
    go_enter Try.func115, Try.ntmps115
    go_wp2_with fail
    rw [← hW]
    refine hWh.mono ?_
    rintro e w1 ⟨rfl, rfl⟩
    clear hWh hW
    go_wp2_with fail
    refine hc1.mono ?_
    rintro e w2 ⟨rc, rfl, hrc, hg2⟩
    clear hc1 k0 k1
    obtain ⟨ar, cr, rfl, hr1, hr2⟩ := hrc.done.form'
    have hRC : Bss w2 (.slice ar (cellsL a s).length cr) (cellsL a s) := hrc.done
    rw [hcl] at hr1 hRC ⊢
    obtain ⟨br, or, ud, e1, e2, e3⟩ := hRC.elem (k := d) (by omega) []
    subst e1
    rw [hca] at e3
    obtain ⟨x1, x2, x3, rfl⟩ := e3.form
    have hRd := read_fresh (.slice x1 x2 x3) (cellAt a d s) d s w2 e3
    have HRC : Hid (Bss w2 (.slice (some ⟨br, or, none⟩) 4 cr) (cellsL a s)) := hRC
    have hgw := hgA.trans hg2
    clear hrc hRC hca hcl e3
    go_wp2_with fail
    refine hRd.mono ?_
    rintro e w3 ⟨r, rfl, hr, hg3⟩
    clear hRd
    by_cases he : readE (cellAt a d s) d s = 0
    · have HE' := HE.out
      have HX' := HX.out
      rw [if_pos he] at HE' HX'
      have Hfin : Hid (rdE a n = 0 ∧ Off Bs g w3 r (rdX a n)) := ⟨HE', by rw [HX']; exact hr.off g (fun k hk => by have := HG.out k hk; have := hgw.size; omega)⟩
      clear HE' HX' HE HX hr
      generalize readE (cellAt a d s) d s = E at *
      subst he
      go_wp2
      go_ret2
      exact ⟨_, ret_bs2 Hfin.out.1.symm, Hfin.out.2, hgw.trans hg3⟩
    · have HE' := HE.out
      have HX' := HX.out
      rw [if_neg he] at HE' HX'
      have Hfin : Hid (rdE a n = dataE (cellsL a s) s ∧ rdX a n = (dataL (cellsL a s) s).getD d []) := ⟨HE', HX'⟩
      have hgw3 := hgw.trans hg3
      clear HE' HX' HE HX hr
      generalize readE (cellAt a d s) d s = E at *
      have he' : (E == 0) = false := by simpa using he
      have hDt := stripeData_bss (.slice (some ⟨br, or, none⟩) 4 cr) (cellsL a s) s w3 g (HRC.out.grow hg3) (fun j hj => by have := HG.out j hj; have := hgw3.size; omega) HCL.out hs3
      go_wp2_with fail
      refine hDt.mono ?_
      rintro e w4 ⟨rd, rfl, hrd, hg4⟩
      clear hDt
      have hgw4 := hgw3.trans hg4
      by_cases hde : dataE (cellsL a s) s = 0
      · have hlen := dataL_length hde
        rw [HCL.out] at hlen
        have hrd := hrd.done
        obtain ⟨ar, cr, rfl, hr1, hr2⟩ := hrd.form'
        obtain ⟨bq, oq, ud, e1, e2, e3⟩ := hrd.elem (k := d) (by omega) []
        obtain ⟨x1, x2, x3, rfl⟩ := e3.here.form
        subst e1
        have Hfin' : Hid (rdE a n = 0 ∧ Off Bs g w4 (.slice x1 x2 x3) (rdX a n)) := ⟨by rw [Hfin.out.1, hde], by rw [Hfin.out.2]; exact e3⟩
        rw [hlen] at hr1 ⊢
        clear Hfin hrd e3 hlen
        generalize dataE (cellsL a s) s = E2 at *
        subst hde
        go_wp2
        go_ret2
        exact ⟨_, ret_bs2 Hfin'.out.1.symm, Hfin'.out.2, hgw4⟩
      · have hnil := dataL_nil hde
        have Hfin' : Hid (rdE a n = dataE (cellsL a s) s ∧ rdX a n = []) := ⟨Hfin.out.1, by rw [Hfin.out.2, hnil]; simp⟩
        clear Hfin hrd hnil
        generalize dataE (cellsL a s) s = E2 at *
        have hde' : (E2 != 0) = true := by simpa using hde
        go_wp2
        go_ret2
        exact ⟨_, ret_bs2 Hfin'.out.1.symm, by rw [Hfin'.out.2]; exact fun _ _ => Bs.nil _, hgw4⟩
  · have HE : Hid (rdE a n = 3) := if_neg hn
    have HX : Hid (rdX a n = []) := if_neg hn
    have hWh := where_any n W
    obtain ⟨hD, hS, hEw⟩ := where_out hn
    rw [hEw] at hWh
    clear hn hD hS hEw
    go_enter Try.func115, Try.ntmps115
    go_wp2_with fail
    rw [← hW]
    refine hWh.mono ?_
    rintro e w1 ⟨rfl, rfl⟩
    clear hW
    go_wp2
    go_ret2
    exact ⟨_, ret_bs2 HE.out.symm, by rw [HX.out]; exact fun _ _ => Bs.nil _, hgA⟩

theorem arrRead_any (v : Value) (a : ArrP) (n : Int) (w : World) (h : ArrV w v a) (ha : Whole a) (h8 : ∀ d s, (cellAt a d s).length ≤ 8) :
    Calls Try.prog 115 #[v, .int .i64 n] w fun e w' => ∃ r, e = .returned (.tuple #[r, .int .i64 (rdE a n)]) ∧ Bs w' r (rdX a n) ∧ Grow w w' :=
  (arrRead_off v a n w none h (fun _ h => nomatch h) ha h8).mono fun _ _ ⟨r, he, hr, hg⟩ => ⟨r, he, hr.here, hg⟩

end Go.Proofs.Ytjggiameajndgac

/-
  What the program's array.Plan returns. Nothing old turns.
-/
namespace Go.Proofs.Ytjggiameajndgac
open Go.RowKit

set_option maxRecDepth 20000 in
set_option maxHeartbeats 6400000 in
theorem arrPlan_any (v dv : Value) (a : ArrP) (x : DeedP) (w : World) (h : ArrV w v a) (ha : Whole a) (h8 : ∀ d s, (cellAt a d s).length ≤ 8) (hd : DeedV w dv x) :
    Calls Try.prog 84 #[v, dv] w fun e w' => ∃ r, e = .returned (.tuple #[r, .int .i64 (planE a x)]) ∧ IntentV w' r (planI a x) ∧ Grow w w' := by
  have harr := h
  have hdeed := hd
  obtain ⟨a1, n1, c1, a2, n2, c2, rfl⟩ := h.form
  obtain ⟨sv, rfl, hbd⟩ := hd
  obtain ⟨d1, d2, d3, rfl⟩ := hbd.form
  clear h hbd
  obtain ⟨W, hW⟩ : ∃ W, W = ((w.alloc (.cells #[.slice a1 n1 c1, .slice a2 n2 c2] 26)).alloc (.cells #[.int .i64 x.k, .int .i64 x.n, .int .i64 x.m, .slice d1 d2 d3] 54)).alloc (.cells #[.int .i64 0, .slice none 0 0] 80) := ⟨_, rfl⟩
  have hgW : Grow w W := by rw [hW]; exact ((Grow.alloc _ _).trans (Grow.alloc _ _)).trans (Grow.alloc _ _)
  obtain ⟨H1, H2, H3⟩ := heap3 w (.cells #[.slice a1 n1 c1, .slice a2 n2 c2] 26) (.cells #[.int .i64 x.k, .int .i64 x.n, .int .i64 x.m, .slice d1 d2 d3] 54) (.cells #[.int .i64 0, .slice none 0 0] 80)
  rw [← hW] at H1 H2 H3
  have k0 : W.cell? ⟨w.heap.size, 0, none⟩ = some (.slice a1 n1 c1) := row_at H1 0 rfl
  have k1 : W.cell? ⟨w.heap.size, 1, none⟩ = some (.slice a2 n2 c2) := row_at H1 1 rfl
  have d0' : W.cell? ⟨w.heap.size + 1, 0, none⟩ = some (.int .i64 x.k) := row_at H2 0 rfl
  have d1' : W.cell? ⟨w.heap.size + 1, 1, none⟩ = some (.int .i64 x.n) := row_at H2 1 rfl
  have d2' : W.cell? ⟨w.heap.size + 1, 2, none⟩ = some (.int .i64 x.m) := row_at H2 2 rfl
  have d3' : W.cell? ⟨w.heap.size + 1, 3, none⟩ = some (.slice d1 d2 d3) := row_at H2 3 rfl
  have hRW := H3
  have hlW : w.heap.size + 1 + 1 < W.heap.size := heap_lt H3
  clear H1 H2 H3
  have hwr := modelWrong_any _ x W (hdeed.grow hgW)
  by_cases hw0 : wrongE x = 0
  · obtain ⟨-, hn0, hn8, -, -⟩ := right_deed hw0
    obtain ⟨hD, hS, hEw, hd4, hs3⟩ := where_bd (n := x.n) (by omega)
    have hWh := fun w1 => where_any x.n w1
    rw [hD, hS, hEw] at hWh
    have HPE : Hid (planE a x = dataE (cellsL a (sOf x.n)) (sOf x.n)) := if_neg (by simp [hw0])
    have HPI : Hid (planI a x = if dataE (cellsL a (sOf x.n)) (sOf x.n) ≠ 0 then (0, []) else ((sOf x.n : Int), makeL (planOut (doL (spreadTo (dataL (cellsL a (sOf x.n)) (sOf x.n)) (sOf x.n) 9) x) (sOf x.n)) (sOf x.n))) := by rw [Hid, planI, HPE.out]; rfl
    have Hw0 : Hid (wrongE x = 0) := hw0
    rw [hw0] at hwr
    clear hD hS hEw hw0 hn0 hn8
    generalize dOf x.n = dn at *
    generalize sOf x.n = s at *
    have hcl : (cellsL a s).length = 4 := by rw [cellsL_length, ha.1]
    go_enter Try.func84, Try.ntmps84
    go_wp2_with fail
    rw [← hW]
    clear hW
    refine hwr.mono ?_
    rintro e w1 ⟨rfl, hg1⟩
    have e1 := hg1.at d1'
    clear hwr
    go_wp2_with fail
    refine (hWh _).mono ?_
    rintro e w2 ⟨rfl, rfl⟩
    have q0 := hg1.at k0
    have q1 := hg1.at k1
    have hc1 := stripeCells_row (.agg #[.slice a1 n1 c1, .slice a2 n2 c2]) a s w2 (harr.grow (hgW.trans hg1)) ha h8 hs3
    go_wp2_with fail
    refine hc1.mono ?_
    rintro e w3 ⟨rc, rfl, hrc, hg3⟩
    have hDt := stripeData_bss rc (cellsL a s) s w3 none hrc.done (fun _ h => nomatch h) hcl hs3
    clear hc1 q0 q1 k0 k1 e1
    go_wp2_with fail
    refine hDt.mono ?_
    rintro e w4 ⟨rd, rfl, hrd, hg4⟩
    clear hDt
    have hg04 := (hg1.trans hg3).trans hg4
    have hR4 := hg04.block' hRW
    have t0 := two_at0 hR4
    have t1 := two_at1 hR4
    have z0 : w4.frozen? ⟨w.heap.size + 1 + 1, 0, none⟩ = false := frozen_of_row w4 _ 0 _ _ hR4
    have z1 : w4.frozen? ⟨w.heap.size + 1 + 1, 1, none⟩ = false := frozen_of_row w4 _ 1 _ _ hR4
    have hgF := hgW.trans hg04
    by_cases hde : dataE (cellsL a s) s = 0
    · have hdl := dataL_length hde
      rw [hcl] at hdl
      have hdb := dataL_blocks hde
      have HP : Hid (planI a x = ((s : Int), makeL (planOut (doL (spreadTo (dataL (cellsL a s) s) s 9) x) s) s)) := by rw [Hid, HPI.out, if_neg (by simp [hde])]
      have HE : Hid (planE a x = 0) := HPE.out.trans hde
      have hrb : Bss w4 rd (dataL (cellsL a s) s) := Sl.off hrd.done
      have f0 := hg04.at d0'
      have f1 := hg04.at d1'
      have f2 := hg04.at d2'
      have f3 := hg04.at d3'
      have hBh := arrBehind_any rd (.agg #[.int .i64 x.k, .int .i64 x.n, .int .i64 x.m, .slice d1 d2 d3]) (dataL (cellsL a s) s) s x w4 hrb hdl hdb hs3 (hdeed.grow hgF) Hw0.out
      have HPL : Hid ((planOut (doL (spreadTo (dataL (cellsL a s) s) s 9) x) s).length = 4) := planOut_length _ _
      have Hb4 : Hid (∀ b ∈ planOut (doL (spreadTo (dataL (cellsL a s) s) s 9) x) s, b.length = 4) := planOut_blocks (doL_blocks (spread_blocks hdb hdl s 9) (spreadTo_length _ _ _) Hw0.out) (by rw [doL_length, spreadTo_length]) hs3
      rw [hde]
      clear HPI HPE hde hdl hdb hrd hrb hrc hcl d0' d1' d2' d3' t0 t1 z0 z1 hg1 hg3 hg4
      generalize planOut (doL (spreadTo (dataL (cellsL a s) s) s 9) x) s = po at *
      go_wp2_with fail
      refine hBh.mono ?_
      rintro e w5 ⟨rb, rfl, hrb, hg5⟩
      clear hBh f0 f1 f2 f3
      have hMk := stripeMake_row rb po s w5 hrb HPL.out hs3 Hb4.out
      have hR5 := hg5.block' hR4
      clear hrb
      go_wp2_with fail
      refine hMk.mono ?_
      rintro e w9 ⟨rm, rfl, hrm, hg9⟩
      clear hMk
      have hml : (makeL po (s : Int)).length = 4 := by simp [makeL, HPL.out]
      obtain ⟨ga, ca, hrf, hga, hgal⟩ := hrm.form (by omega)
      rw [hml] at hrf
      subst hrf
      have hR10 := hg9.block' hR5
      have hlt5 := heap_lt hR5
      have hbx : BssX (some (w.heap.size + 1 + 1)) w9 (.slice (some ⟨ga, 0, none⟩) 4 ca) (makeL po (s : Int)) := Itn.bss ⟨_, _, _, _, _, hR10⟩ hrm.done (by omega)
      have t0 := two_at0 hR10
      have t1 := two_at1 hR10
      have z0 : w9.frozen? ⟨w.heap.size + 1 + 1, 0, none⟩ = false := frozen_of_row w9 _ 0 _ _ hR10
      have z1 : w9.frozen? ⟨w.heap.size + 1 + 1, 1, none⟩ = false := frozen_of_row w9 _ 1 _ _ hR10
      have hgG := (hgF.trans hg5).trans hg9
      have Hbx : Hid (BssX (some (w.heap.size + 1 + 1)) w9 (.slice (some ⟨ga, 0, none⟩) 4 ca) (makeL po (s : Int))) := hbx
      clear hbx hrm hR5 hR10 hR4 hRW hml
      go_wp2
      refine bodyPost_ret (results_two1 Try.results84 _ _ (w.heap.size + 1 + 1) _ rfl Try.underlying80 rfl Try.sizeI (x := .int .i64 (s : Int)) (y := .slice (some ⟨ga, 0, none⟩) 4 ca) (by rw [cell_set_ne (by simp)]; exact World.cell?_setCell_same _ _ _ t0) (World.cell?_setCell_same _ _ _ (by rw [cell_set_ne (by simp)]; exact t1))) rfl ?_
      exact ⟨_, ret_bs2 HE.out.symm, by rw [HP.out]; exact ⟨_, rfl, ((Hbx.out.step (grown_set _ _ _ _)).step (grown_set _ _ _ _)).plain⟩, (hgG.set (by omega) _).set (by omega) _⟩
    · have HP : Hid (planI a x = (0, [])) := by rw [Hid, HPI.out, if_pos hde]
      clear HPI hrd hrc hcl d0' d1' d2' d3' hg1 hg3 hg4 hR4 hRW
      have HE : Hid (planE a x = dataE (cellsL a s) s) := HPE.out
      clear HPE
      generalize dataE (cellsL a s) s = E at *
      have he' : (E != 0) = true := by simpa using hde
      go_wp2
      refine bodyPost_ret (results_two1 Try.results84 _ _ (w.heap.size + 1 + 1) _ rfl Try.underlying80 rfl Try.sizeI (x := .int .i64 0) (y := .slice none 0 0) (by rw [cell_set_ne (by simp)]; exact World.cell?_setCell_same _ _ _ t0) (World.cell?_setCell_same _ _ _ (by rw [cell_set_ne (by simp)]; exact t1))) rfl ?_
      exact ⟨_, ret_bs2 HE.out.symm, by rw [HP.out]; exact ⟨_, rfl, Sl.nil _ _⟩, (hgF.set (by omega) _).set (by omega) _⟩
  · have HE : Hid (planE a x = wrongE x) := if_pos hw0
    have HP : Hid (planI a x = (0, [])) := by rw [Hid, planI, HE.out, if_pos hw0]
    generalize wrongE x = E at *
    have he' : (E != 0) = true := by simpa using hw0
    go_enter Try.func84, Try.ntmps84
    go_wp2_with fail
    rw [← hW]
    clear hW
    refine hwr.mono ?_
    rintro e w1 ⟨rfl, hg1⟩
    have hR1 := hg1.block' hRW
    have t0 := two_at0 hR1
    have t1 := two_at1 hR1
    have z0 : w1.frozen? ⟨w.heap.size + 1 + 1, 0, none⟩ = false := frozen_of_row w1 _ 0 _ _ hR1
    have z1 : w1.frozen? ⟨w.heap.size + 1 + 1, 1, none⟩ = false := frozen_of_row w1 _ 1 _ _ hR1
    clear k0 k1 d0' d1' d2' d3' hwr hR1 hRW
    have hgF := hgW.trans hg1
    go_wp2
    refine bodyPost_ret (results_two1 Try.results84 _ _ (w.heap.size + 1 + 1) _ rfl Try.underlying80 rfl Try.sizeI (x := .int .i64 0) (y := .slice none 0 0) (by rw [cell_set_ne (by simp)]; exact World.cell?_setCell_same _ _ _ t0) (World.cell?_setCell_same _ _ _ (by rw [cell_set_ne (by simp)]; exact t1))) rfl ?_
    exact ⟨_, ret_bs2 HE.out.symm, by rw [HP.out]; exact ⟨_, rfl, Sl.nil _ _⟩, (hgF.set (by omega) _).set (by omega) _⟩

end Go.Proofs.Ytjggiameajndgac
