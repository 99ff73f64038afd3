import Derived.Test.YtbpekcmlaagegabJoin7
/-
  What the program's stripe returns: Data, Cells. Nothing old turns.
-/
namespace Go.Proofs.Ytbpekcmlaagegab
open Go.RowKit

theorem rest_split (ls : List (List Int)) (s : Int) {d : Nat} (hd : d < 4) : (readL ls s).take d ++ (readL ls s).drop (d + 1) = restTo ls s d 4 := by
  obtain rfl | rfl | rfl | rfl : d = 0 ∨ d = 1 ∨ d = 2 ∨ d = 3 := by omega
  all_goals rfl

theorem mem_bad {ls : List (List Int)} (hl : ls.length = 4) (s : Int) {k : Nat} (hk : k < 4) : isBad ls s k = decide (k ∈ badL ls s) := by
  rw [Bool.eq_iff_iff, decide_eq_true_iff]
  simp [badL, badTo, hl, hk]

theorem data_none {ls : List (List Int)} (hl : ls.length = 4) {s : Int} (h : badL ls s = []) : dataL ls s = readL ls s ∧ dataE ls s = 0 := by
  refine ⟨?_, by rw [dataE, h]; rfl⟩
  rw [dataL, h, if_neg (by simp), hl]
  refine List.map_congr_left fun k hk => ?_
  have := mem_bad hl s (List.mem_range.1 hk)
  rw [datAt, this, h]
  simp

theorem data_one {ls : List (List Int)} (hl : ls.length = 4) {s : Int} {d : Nat} (h : badL ls s = [d]) : dataL ls s = (readL ls s).set d (xorAll (restTo ls s d 4)) ∧ dataE ls s = 0 ∧ d < 4 ∧ (∀ b ∈ restTo ls s d 4, b.length = 4) := by
  have hm : d ∈ badL ls s := by rw [h]; simp
  have hd : d < 4 := by
    simp only [badL, badTo, hl, List.mem_filter, List.mem_range] at hm
    exact hm.1
  have hb : isBad ls s d = true := by rw [mem_bad hl s hd]; simpa using hm
  refine ⟨?_, by rw [dataE, h]; rfl, hd, by have := rest_blocks (ls := ls) (s := s) (d := d) (by omega) hb (by rw [h]; simp) (n := 4) (by omega); exact this⟩
  rw [dataL, h, if_neg (by simp), hl]
  refine List.ext_getElem (by simp [readL]) fun i h1 h2 => ?_
  have hi : i < 4 := by simpa using h1
  rw [List.getElem_map, List.getElem_range, List.getElem_set]
  have := mem_bad hl s hi
  rw [h] at this
  by_cases hid : d = i
  · subst hid
    rw [if_pos rfl, datAt, hb, if_pos rfl, hl]
  · have hni : ¬ i = d := fun e => hid e.symm
    rw [if_neg hid, datAt, this, if_neg (by simp [hni])]
    simp [readL]

theorem data_more {ls : List (List Int)} {s : Int} {d e : Nat} {r : List Nat} (h : badL ls s = d :: e :: r) : dataL ls s = [] ∧ dataE ls s = 9 := by
  constructor
  · rw [dataL, h, if_pos (by simp)]
  · rw [dataE, h, if_pos (by simp)]

/-- A part of a slice. -/
theorem Sl.sub {α : Type} {R : World → Value → α → Prop} {w : World} {b off n cap : Nat} {xs : List α} (h : Sl R w (.slice (some ⟨b, off, none⟩) n cap) xs) {j m : Nat} (hm : j + m ≤ n) : Sl R w (.slice (some ⟨b, off + j, none⟩) m (cap - j)) ((xs.drop j).take m) := by
  have hc := h.cells
  obtain ⟨ao, c1, e1, h1, h2, h3, -⟩ := h
  injection e1 with e1 e2 e3
  subst e1 e2 e3
  have hlen : ((xs.drop j).take m).length = m := by simp; omega
  refine ⟨some ⟨b, off + j, none⟩, cap - j, by rw [hlen], by omega, by omega, (fun h => nomatch h), fun _ => ⟨b, off + j, rfl, fun i x hx => ?_⟩⟩
  have hi : i < m := by
    by_cases hi : i < m
    · exact hi
    · rw [List.getElem?_eq_none (by omega)] at hx; cases hx
  rw [List.getElem?_take_of_lt hi, List.getElem?_drop] at hx
  rw [Nat.add_assoc]
  exact hc (j + i) x hx

theorem Sl.empty {α : Type} (R : World → Value → α → Prop) (w : World) (a : Addr) : Sl R w (.slice (some a) 0 0) [] :=
  ⟨some a, 0, rfl, Nat.le_refl _, Nat.zero_le _, (fun h => nomatch h), fun h => by simp at h⟩

/-- A slice of two that was made of them. -/
theorem dks_two {w : World} {t : TypeId} {u v : Value} {A B : List (List Int)} (hu : Bss w u A) (hv : Bss w v B) : Dks (w.alloc (.cells #[u, v] t)) (.slice (some ⟨w.heap.size, 0, none⟩) 2 2) [A, B] := by
  have hg : Grow w (w.alloc (.cells #[u, v] t)) := Grow.alloc _ _
  refine Sl.row (us := [u, v]) (heap_alloc_new w _) rfl rfl (by unfold maxLen; omega) fun i q x hq hx => ?_
  match i, hq, hx with
  | 0, hq, hx => simp at hq hx; subst hq hx; exact hu.grow hg
  | 1, hq, hx => simp at hq hx; subst hq hx; exact hv.grow hg
  | n + 2, hq, _ => simp at hq

/-- Slices that read as these. -/
def AnDks (lss : List (List (List Int))) (v : Value) (w : World) : Prop := Dks w v lss
theorem AnDks.stable (lss : List (List (List Int))) : ∀ (v : Value) (x y : World), AnDks lss v x → Grow x y → AnDks lss v y := fun _ _ _ h hg => Dks.stays _ _ _ _ h hg

/-- A slice of bytes' slices that reads as these. -/
def AnB (ls : List (List Int)) (v : Value) (w : World) : Prop := Bss w v ls
theorem AnB.stable (ls : List (List Int)) : ∀ (v : Value) (x y : World), AnB ls v x → Grow x y → AnB ls v y := fun _ _ _ h hg => Bss.grow h hg

/-- Four bytes of a block behind H. -/
def AnX (p : Nat × List Int) (v : Value) (w : World) : Prop := Fx p.1 p.2 v w
theorem AnX.stable (p : Nat × List Int) : ∀ (v : Value) (x y : World), AnX p v x → Grow x y → AnX p v y := fun _ _ _ h hg => Fx.kept h (hg.inn (fun _ => False)) (fun _ _ h => h.elim)

theorem cat2 {lss : List (List (List Int))} {ls : List (List Int)} (h1 : lss.flatten = ls) (h2 : ls.length = 3) {v : Value} {w : World} (h : Dks w v lss) :
    Calls Try.prog 39 #[v] w fun e w' => ∃ r, e = .returned r ∧ AnB ls r w' ∧ Grow w w' := by
  have := concat_any v lss w h (by rw [h1]; omega) (by rw [h1]; omega)
  rw [h1] at this
  exact this

theorem allX (H : Nat) (v : Value) (ls : List (List Int)) (w : World) (hH : H < w.heap.size) (h : Bss w v ls) (hl : ∀ b ∈ ls, b.length = 4) :
    Calls Try.prog 38 #[v] w fun e w' => ∃ r, e = .returned r ∧ AnX (H, xorAll ls) r w' ∧ Grow w w' :=
  (all_row v ls w h hl).mono fun _ _ ⟨he, HR, hg⟩ => ⟨_, he, .inr ⟨_, rfl, hH, HR.out, rfl, xorAll_octets h.octets⟩, hg⟩

set_option maxRecDepth 20000 in
set_option maxHeartbeats 3200000 in
theorem stripeData_row (v : Value) (ls : List (List Int)) (s : Nat) (w : World) (g : Option Nat) (h : Sl (Off Bs g) w v ls) (hg : ∀ k, g = some k → k < w.heap.size) (hl : ls.length = 4) (_hs : s < 3) :
    Calls Try.prog 18 #[v, .int .i64 s] w fun e w' => ∃ r, e = .returned (.tuple #[r, .int .i64 (dataE ls s)]) ∧ Rowing (Off Bs g) w.heap.size 23 w' r (dataL ls s) ∧ Grow w w' := by
  have hcall := look_any v ls s w h.off hl
  obtain ⟨av, cv, rfl⟩ := Sl.form h
  clear h
  match hB : badL ls s with
  | [] =>
    obtain ⟨hL, hE⟩ := data_none hl hB
    rw [hL, hE]
    rw [hl] at hcall ⊢
    rw [hB] at hcall
    clear hL hE hB hl
    go_enter Try.func18, Try.ntmps18
    go_wp2_with fail
    refine hcall.mono ?_
    rintro e w1 ⟨bd, rfl, hF, hN, hg1⟩
    obtain ⟨ab, cb, eb⟩ := Sl.form hN.done
    simp only [ints, List.map_nil, List.length_nil] at eb
    subst eb
    have hR := hF.row g hg
    clear hN hF hcall
    go_wp2
    go_loop [21] (fun i => i = .int .i64 0) (fun _ => 0)
    case atStart => exact rfl
    case round =>
      subst hrel
      go_wp2
      go_ret2
      exact ⟨_, rfl, hR, hg1⟩
  | d :: e' :: r' =>
    obtain ⟨hL, hE⟩ := data_more hB
    rw [hL, hE]
    rw [hl] at hcall ⊢
    rw [hB] at hcall
    have hlb : (ints (d :: e' :: r')).length = r'.length + 2 := by simp [ints]
    clear hL hE hB hl
    generalize ints (d :: e' :: r') = ns at *
    generalize r'.length = nr at *
    go_enter Try.func18, Try.ntmps18
    go_wp2_with fail
    refine hcall.mono ?_
    rintro e w1 ⟨bd, rfl, hF, hN, hg1⟩
    obtain ⟨ab, cb, eb, hb1, hb2⟩ := hN.done.form'
    rw [hlb] at eb hb1
    subst eb
    have h1 : ((nr + 2 : Nat) : Int) > 1 := by omega
    clear hN hF hcall hlb
    go_wp2
    go_ret2
    exact ⟨_, rfl, Rowing.nil _ _ _ _, hg1⟩
  | [d] =>
    obtain ⟨hL, hE, hd, hQ⟩ := data_one hl hB
    rw [hL, hE]
    rw [hl] at hcall ⊢
    rw [hB] at hcall
    have hsp := rest_split ls s hd
    have hlL : (readL ls s).length = 4 := by simp [readL]
    clear hL hE hB hl
    go_enter Try.func18, Try.ntmps18
    go_wp2_with fail
    refine hcall.mono ?_
    rintro e w1 ⟨bd, rfl, hF, hN, hg1⟩
    have HF : Hid (Four w.heap.size (readL ls s) w1) := hF
    obtain ⟨ab, cb, eb, hb1, hb2⟩ := hN.done.form'
    simp only [ints, List.map_cons, List.map_nil, List.length_cons, List.length_nil, Nat.zero_add] at eb hb1
    subst eb
    obtain ⟨bb, ob, ub, ebb, hub, hbb⟩ := hN.done.elem (k := 0) (by simp [ints]) 0
    subst ebb
    obtain rfl : ub = .int .i64 d := hbb
    rw [Nat.add_zero] at hub
    have hA : ∀ w2, Grow w1 w2 → Bss w2 (.slice (some ⟨w.heap.size, 0 + 0, none⟩) d (4 - 0)) (((readL ls s).drop 0).take d) := fun w2 hg => (HF.out.grow hg).bss.sub (by omega)
    have hBB : ∀ w2, Grow w1 w2 → Bss w2 (.slice (some ⟨w.heap.size, 0 + (d + 1), none⟩) (4 - (d + 1)) (4 - (d + 1))) (((readL ls s).drop (d + 1)).take (4 - (d + 1))) := fun w2 hg => (HF.out.grow hg).bss.sub (by omega)
    rw [List.drop_zero] at hA
    rw [List.take_of_length_le (by rw [List.length_drop, hlL]; omega)] at hBB
    rw [Nat.zero_add, show 4 - (d + 1) = 3 - d by omega] at hBB
    have hB3 : d = 3 → (readL ls s).drop (d + 1) = [] := fun e => List.drop_eq_nil_of_le (by rw [hlL]; omega)
    have hH := HF.out.lt
    have Hflat : Hid ([(readL ls s).take d, (readL ls s).drop (d + 1)].flatten = restTo ls s d 4) := by rw [Hid, ← hsp]; simp
    have Hfl : Hid ((restTo ls s d 4).length = 3) := by rw [Hid, ← hsp, List.length_append, List.length_take, List.length_drop, hlL]; omega
    clear hF hN hcall hsp hlL
    go_wp2
    go_loopw [21] (fun i wr => (i = .int .i64 0 ∧ wr = w1) ∨ (i = .int .i64 1 ∧ Hid (Four w.heap.size ((readL ls s).set d (xorAll (restTo ls s d 4))) wr) ∧ Grow w wr)) (fun i _ => 1 - (intOf i).toNat)
    case atStart => exact .inl ⟨rfl, rfl⟩
    case round =>
      rcases hrel with ⟨rfl, rfl⟩ | ⟨rfl, HF1, hgr⟩
      · go_wp2_with fail
        refine wp_region_last [_, _, _, _, _, _, _, _, _, _, _, _, _] _ rfl Grow [IsV (.slice (some ⟨w.heap.size, 0, none⟩) 4 4), IsV (.int .i64 d), IsV (.slice (some ⟨w.heap.size, 0, none⟩) 4 4), IsV (.int .i64 d), IsV (.slice (some ⟨w.heap.size, 0, none⟩) d 4), IsV (.slice (some ⟨w.heap.size, 0, none⟩) 4 4), IsV (.int .i64 d), IsV (.int .i64 (d + 1)), AnB ((readL ls s).drop (d + 1)), AnDks [(readL ls s).take d, (readL ls s).drop (d + 1)], AnB (restTo ls s d 4), AnX (w.heap.size, xorAll (restTo ls s d 4)), IsV (.pointer (some ⟨w.heap.size, d, none⟩))] (by kernel_rfl) (by kernel_rfl) (by kernel_rfl) rfl Grow.refl (fun _ _ _ => Grow.trans) ?_ ?_ ?_
        · repeat (refine List.forall_mem_cons.2 ⟨by first | exact IsV.stable _ | exact AnB.stable _ | exact AnDks.stable _ | exact AnX.stable _, ?_⟩)
          exact fun R hR => nomatch hR
        · skip
          refine StepsS.cons ?_ fun v0 => ⟨_, _, by simp only [Act.put, List.setIfInBounds_toArray, List.set_cons_succ, List.set_cons_zero]; first | done | rfl, by simp only [List.nil_append]; first | done | rfl, ?_⟩
          · intro w1 hE hd
            clear hd
            go_wp2
            exact ⟨_, rfl, Grow.refl _, rfl⟩
          refine StepsS.cons ?_ fun v1 => ⟨_, _, by simp only [Act.put, List.setIfInBounds_toArray, List.set_cons_succ, List.set_cons_zero]; first | done | rfl, by simp only [List.nil_append, List.cons_append]; first | done | rfl, ?_⟩
          · intro w1 hE hd
            clear hd
            go_wp2
            exact ⟨_, rfl, Grow.refl _, rfl⟩
          refine StepsS.cons ?_ fun v2 => ⟨_, _, by simp only [Act.put, List.setIfInBounds_toArray, List.set_cons_succ, List.set_cons_zero]; first | done | rfl, by simp only [List.nil_append, List.cons_append]; first | done | rfl, ?_⟩
          · intro w1 hE hd
            clear hd
            go_wp2
            exact ⟨_, rfl, Grow.refl _, rfl⟩
          refine StepsS.cons ?_ fun v3 => ⟨_, _, by simp only [Act.put, List.setIfInBounds_toArray, List.set_cons_succ, List.set_cons_zero]; first | done | rfl, by simp only [List.nil_append, List.cons_append]; first | done | rfl, ?_⟩
          · intro w1 hE hd
            clear hd
            go_wp2
            exact ⟨_, rfl, Grow.refl _, rfl⟩
          refine StepsS.cons ?_ fun v4 => ⟨_, _, by simp only [Act.put, List.setIfInBounds_toArray, List.set_cons_succ, List.set_cons_zero]; first | done | rfl, by simp only [List.nil_append, List.cons_append]; first | done | rfl, ?_⟩
          · intro w1 hE hd
            obtain rfl := IsV.eq (dep_at hd 0 rfl rfl rfl)
            obtain rfl := IsV.eq (dep_at hd 1 rfl rfl rfl)
            clear hd
            go_wp2
            exact ⟨_, rfl, Grow.refl _, rfl⟩
          refine StepsS.cons ?_ fun v5 => ⟨_, _, by simp only [Act.put, List.setIfInBounds_toArray, List.set_cons_succ, List.set_cons_zero]; first | done | rfl, by simp only [List.nil_append, List.cons_append]; first | done | rfl, ?_⟩
          · intro w1 hE hd
            clear hd
            go_wp2
            exact ⟨_, rfl, Grow.refl _, rfl⟩
          refine StepsS.cons ?_ fun v6 => ⟨_, _, by simp only [Act.put, List.setIfInBounds_toArray, List.set_cons_succ, List.set_cons_zero]; first | done | rfl, by simp only [List.nil_append, List.cons_append]; first | done | rfl, ?_⟩
          · intro w1 hE hd
            clear hd
            go_wp2
            exact ⟨_, rfl, Grow.refl _, rfl⟩
          refine StepsS.cons ?_ fun v7 => ⟨_, _, by simp only [Act.put, List.setIfInBounds_toArray, List.set_cons_succ, List.set_cons_zero]; first | done | rfl, by simp only [List.nil_append, List.cons_append]; first | done | rfl, ?_⟩
          · intro w1 hE hd
            obtain rfl := IsV.eq (dep_at hd 0 rfl rfl rfl)
            clear hd
            go_wp2
            exact ⟨_, rfl, Grow.refl _, rfl⟩
          refine StepsS.cons ?_ fun v8 => ⟨_, _, by simp only [Act.put, List.setIfInBounds_toArray, List.set_cons_succ, List.set_cons_zero]; first | done | rfl, by simp only [List.nil_append, List.cons_append]; first | done | rfl, ?_⟩
          · intro w1 hE hd
            obtain rfl := IsV.eq (dep_at hd 0 rfl rfl rfl)
            obtain rfl := IsV.eq (dep_at hd 1 rfl rfl rfl)
            clear hd
            by_cases h3 : d = 3
            · have hnil := hB3 h3
              subst h3
              go_wp2
              exact ⟨_, rfl, Grow.refl _, by first | exact Sl.empty _ _ _ | (rw [AnB, hnil]; exact Sl.empty _ _ _)⟩
            · have hBw := hBB _ hE.drew
              go_wp2
              exact ⟨_, rfl, Grow.refl _, hBw⟩
          refine StepsS.cons ?_ fun v9 => ⟨_, _, by simp only [Act.put, List.setIfInBounds_toArray, List.set_cons_succ, List.set_cons_zero]; first | done | rfl, by simp only [List.nil_append, List.cons_append]; first | done | rfl, ?_⟩
          · intro w1 hE hd
            obtain rfl := IsV.eq (dep_at hd 0 rfl rfl rfl)
            have d8 := dep_at hd 1 rfl rfl rfl
            clear hd
            obtain ⟨a8, n8, c8, rfl⟩ : ∃ a n c, v8 = .slice a n c := by obtain ⟨a, c, e⟩ := Sl.form d8; exact ⟨a, _, c, e⟩
            go_wp2
            exact ⟨_, rfl, Grow.alloc _ _, dks_two (hA _ hE.drew) d8⟩
          refine StepsS.cons ?_ fun v10 => ⟨_, _, by simp only [Act.put, List.setIfInBounds_toArray, List.set_cons_succ, List.set_cons_zero]; first | done | rfl, by simp only [List.nil_append, List.cons_append]; first | done | rfl, ?_⟩
          · intro w1 hE hd
            have d9 := dep_at hd 0 rfl rfl rfl
            clear hd
            go_wp2_with fail
            refine (cat2 Hflat.out Hfl.out d9).mono ?_
            rintro e w4 ⟨r', rfl, hr', hg4⟩
            go_wp2_with fail
            exact ⟨_, rfl, hg4, hr'⟩
          refine StepsS.cons ?_ fun v11 => ⟨_, _, by simp only [Act.put, List.setIfInBounds_toArray, List.set_cons_succ, List.set_cons_zero]; first | done | rfl, by simp only [List.nil_append, List.cons_append]; first | done | rfl, ?_⟩
          · intro w1 hE hd
            have d10 := dep_at hd 0 rfl rfl rfl
            clear hd
            go_wp2_with fail
            refine (allX w.heap.size _ (restTo ls s d 4) _ (Nat.lt_of_lt_of_le hH hE.size) d10 hQ).mono ?_
            rintro e w4 ⟨r', rfl, hr', hg4⟩
            go_wp2_with fail
            exact ⟨_, rfl, hg4, hr'⟩
          refine StepsS.cons ?_ fun v12 => ⟨_, _, by simp only [Act.put, List.setIfInBounds_toArray, List.set_cons_succ, List.set_cons_zero]; first | done | rfl, by simp only [List.nil_append, List.cons_append]; first | done | rfl, ?_⟩
          · intro w1 hE hd
            obtain rfl := IsV.eq (dep_at hd 0 rfl rfl rfl)
            obtain rfl := IsV.eq (dep_at hd 1 rfl rfl rfl)
            clear hd
            go_wp2
            exact ⟨_, rfl, Grow.refl _, rfl⟩
          trivial
        intro wR hwR
        refine FinS.cons ?_; rintro _ rfl; refine ⟨_, by simp only [Act.put, List.setIfInBounds_toArray, List.set_cons_succ, List.set_cons_zero]; first | done | rfl, ?_⟩
        refine FinS.cons ?_; rintro _ rfl; refine ⟨_, by simp only [Act.put, List.setIfInBounds_toArray, List.set_cons_succ, List.set_cons_zero]; first | done | rfl, ?_⟩
        refine FinS.cons ?_; rintro _ rfl; refine ⟨_, by simp only [Act.put, List.setIfInBounds_toArray, List.set_cons_succ, List.set_cons_zero]; first | done | rfl, ?_⟩
        refine FinS.cons ?_; rintro _ rfl; refine ⟨_, by simp only [Act.put, List.setIfInBounds_toArray, List.set_cons_succ, List.set_cons_zero]; first | done | rfl, ?_⟩
        refine FinS.cons ?_; rintro _ rfl; refine ⟨_, by simp only [Act.put, List.setIfInBounds_toArray, List.set_cons_succ, List.set_cons_zero]; first | done | rfl, ?_⟩
        refine FinS.cons ?_; rintro _ rfl; refine ⟨_, by simp only [Act.put, List.setIfInBounds_toArray, List.set_cons_succ, List.set_cons_zero]; first | done | rfl, ?_⟩
        refine FinS.cons ?_; rintro _ rfl; refine ⟨_, by simp only [Act.put, List.setIfInBounds_toArray, List.set_cons_succ, List.set_cons_zero]; first | done | rfl, ?_⟩
        refine FinS.cons ?_; rintro _ rfl; refine ⟨_, by simp only [Act.put, List.setIfInBounds_toArray, List.set_cons_succ, List.set_cons_zero]; first | done | rfl, ?_⟩
        refine FinS.cons fun v8 h8 => ⟨_, by simp only [Act.put, List.setIfInBounds_toArray, List.set_cons_succ, List.set_cons_zero]; first | done | rfl, ?_⟩
        refine FinS.cons fun v9 h9 => ⟨_, by simp only [Act.put, List.setIfInBounds_toArray, List.set_cons_succ, List.set_cons_zero]; first | done | rfl, ?_⟩
        refine FinS.cons fun v10 h10 => ⟨_, by simp only [Act.put, List.setIfInBounds_toArray, List.set_cons_succ, List.set_cons_zero]; first | done | rfl, ?_⟩
        refine FinS.cons fun v11 h11 => ⟨_, by simp only [Act.put, List.setIfInBounds_toArray, List.set_cons_succ, List.set_cons_zero]; first | done | rfl, ?_⟩
        refine FinS.cons ?_; rintro _ rfl; refine ⟨_, by simp only [Act.put, List.setIfInBounds_toArray, List.set_cons_succ, List.set_cons_zero]; first | done | rfl, ?_⟩
        show wpList _ _ _ _ _ _
        have hFx : Fx w.heap.size (xorAll (restTo ls s d 4)) v11 wR := h11
        obtain ⟨a11, n11, c11, rfl⟩ := hFx.form
        have hFR := HF.out.grow hwR.drew
        obtain ⟨⟨u0, hu0⟩, hf0⟩ := hFR.at hd
        have HF2 : Hid (Four _ _ _) := hFR.put d hFx
        have hg2 := (hg1.trans hwR.drew).set (k := d) (Nat.le_refl w.heap.size) (.slice a11 n11 c11)
        clear hFx hFR h8 h9 h10 h11 HF hA hBB
        go_wp2
        go_roundw
        case rel => first | exact (.inr ⟨by go_num, HF2, hg2⟩) | ((repeat apply Exists.intro); exact ⟨(.inr ⟨by go_num, HF2, hg2⟩), rfl⟩)
        case measure => simp [intOf]
      · have hR := HF1.out.row g hg
        clear HF1
        go_wp2
        go_ret2
        exact ⟨_, rfl, hR, hgr⟩

theorem cellsL_up {a : ArrP} (h : a.ds.length = 4) (s : Nat) : cellsL a s = up4 (fun (d : Nat) => (a.ds.getD d []).getD s []) 4 := by
  rw [up4_all, cellsL]
  refine List.ext_getElem (by simp [h]) fun i h1 h2 => ?_
  have hi : i < a.ds.length := by simpa using h1
  simp [List.getD_eq_getElem?_getD, hi]

set_option maxRecDepth 20000 in
set_option maxHeartbeats 3200000 in
theorem stripeCells_row (v : Value) (a : ArrP) (s : Nat) (w : World) (h : ArrV w v a) (ha : Whole a) (h8 : ∀ d s, ((a.ds.getD d []).getD s []).length ≤ 8) (hs : s < 3) :
    Calls Try.prog 16 #[v, .int .i64 s] w fun e w' => ∃ r, e = .returned r ∧ Rowing Bs w.heap.size 23 w' r (cellsL a s) ∧ Grow w w' := by
  obtain ⟨dv, iv, rfl, hd, hit⟩ := h
  obtain ⟨ad, cd, rfl, hd1, hd2⟩ := hd.form'
  obtain ⟨ai, ci, rfl, hi1, hi2⟩ := hit.form
  obtain ⟨ha4, ha3⟩ := ha
  rw [cellsL_up ha4]
  have HK : Hid (∀ k, k < 4 → ∃ b off a' c' b' off' u' n' cc', ad = some ⟨b, off, none⟩ ∧ w.cell? ⟨b, off + k, none⟩ = some (.slice a' 3 c') ∧ a' = some ⟨b', off', none⟩ ∧ w.cell? ⟨b', off' + s, none⟩ = some (.slice u' n' cc') ∧ Bs w (.slice u' n' cc') ((a.ds.getD k []).getD s [])) := fun k hk => by
    obtain ⟨b, off, a', c', e1, e2, e3⟩ := hd.elems (k := k) (by omega)
    have h3 : (a.ds.getD k []).length = 3 := ha3 _ (by simp [List.getD_eq_getElem?_getD, show k < a.ds.length by omega])
    obtain ⟨b', off', u', e4, e5, e6⟩ := e3.elem (k := s) (by omega) []
    obtain ⟨x1, x2, x3, rfl⟩ := e6.form
    rw [h3] at e2
    exact ⟨b, off, a', c', b', off', x1, x2, x3, e1, e2, e4, e5, e6⟩
  rw [ha4] at hd1 ⊢
  clear hd hit ha3 ha4
  generalize a.is.length = ni at *
  have hgA : Grow w (w.alloc (.cells #[.slice ad 4 cd, .slice ai ni ci] 39)) := Grow.alloc _ _
  obtain ⟨w1, hw1⟩ : ∃ w1, w1 = w.alloc (.cells #[.slice ad 4 cd, .slice ai ni ci] 39) := ⟨_, rfl⟩
  have hsz : w1.heap.size = w.heap.size + 1 := by rw [hw1]; simp
  have hA0 : w1.heap[w.heap.size]? = some (.cells #[.slice ad 4 cd, .slice ai ni ci] 39 (0, 0)) := by rw [hw1]; exact heap_alloc_new w _
  have c0 : w1.cell? ⟨w.heap.size, 0, none⟩ = some (.slice ad 4 cd) := row_at hA0 0 rfl
  have hmk := Try.madeS (w.alloc (.cells #[.slice ad 4 cd, .slice ai ni ci] 39))
  have hst : Hid (Rowing Bs w1.heap.size 23 (w1.alloc (.cells nils4 23)) (.slice (some ⟨w1.heap.size, 0, none⟩) 4 4) (up4 (fun (d : Nat) => (a.ds.getD d []).getD s []) 0)) := Rowing.madeS w1 _
  rw [← hw1] at hgA
  go_enter Try.func16, Try.ntmps16
  go_wp2
  rw [← hw1]
  rw [show w.heap.size + 1 = w1.heap.size from hsz.symm]
  clear hw1 hA0 hsz hmk
  go_loopw [10] (fun i wr => ∃ k : Nat, k ≤ 4 ∧ i = .int .i64 k ∧ Hid (Rowing Bs w1.heap.size 23 wr (.slice (some ⟨w1.heap.size, 0, none⟩) 4 4) (up4 (fun (d : Nat) => (a.ds.getD d []).getD s []) k)) ∧ Grow w1 wr) (fun i _ => 4 - (intOf i).toNat)
  case atStart => exact ⟨0, by omega, rfl, hst, Grow.alloc _ _⟩
  case round =>
    obtain ⟨k, hk, rfl, HR, hgr⟩ := hrel
    clear hst
    by_cases hlt : k < 4
    · obtain ⟨b, off, a', c', b', off', u', n', cc', rfl, hc1, rfl, hc2, hb⟩ := HK.out k hlt
      have hgw := hgA.trans hgr
      have hA := atD_any b off k 4 cd (some ⟨b', off', none⟩) 3 c' wr hlt (hgw.at hc1)
      have hB := atB_any b' off' s 3 c' u' n' cc' wr hs (hgw.at hc2)
      have hC := bytesClone_any (.slice u' n' cc') ((a.ds.getD k []).getD s []) wr (hb.grow hgw) (by have := h8 k s; omega)
      have hoc := hb.octets
      have c0' := hgr.at c0
      clear hc1 hc2 hb
      go_wp2_with fail
      refine hA.mono ?_
      rintro e w0 ⟨rfl, rfl⟩
      go_wp2_with fail
      refine hB.mono ?_
      rintro e w2 ⟨rfl, rfl⟩
      go_wp2_with fail
      refine hC.mono ?_
      rintro e w3 ⟨r, rfl, hown, hg3⟩
      have hlr : w1.heap.size < w2.heap.size := (HR.out.base _ rfl).2
      have hoff : Off Bs (some w1.heap.size) w3 r ((a.ds.getD k []).getD s []) := Off.own hown hoc (fun j hj => by cases hj; exact hlr)
      obtain ⟨gr, nr, cr, rfl⟩ := (Bs.of_own hown hoc).form
      have hrow := HR.out.grow hg3
      obtain ⟨⟨u0, hu0⟩, hf0⟩ := hrow.at (k := k) (by rw [up4_length]; exact hlt)
      have hrow1 := hrow.stored k hoff
      rw [up4_set (fun (d : Nat) => (a.ds.getD d []).getD s []) hlt] at hrow1
      have HR1 : Hid (Rowing Bs _ _ _ _ _) := hrow1
      have hg4 := (hgr.trans hg3).set (k := k) (Nat.le_refl w1.heap.size) (.slice gr nr cr)
      clear hrow hrow1 hoff hown HR hA hB hC
      go_wp2
      go_roundw
      case rel => first | exact ⟨k + 1, by omega, by go_num, HR1, hg4⟩ | ((repeat apply Exists.intro); exact ⟨⟨k + 1, by omega, by go_num, HR1, hg4⟩, rfl⟩)
      case measure => simp [intOf]; omega
    · obtain rfl : k = 4 := by omega
      go_wp2
      go_ret
      exact ⟨_, rfl, HR.out.low hgA.size, hgA.trans hgr⟩

end Go.Proofs.Ytbpekcmlaagegab

/-
  What the reference's Worst and Mend return. Nothing old turns.
-/
namespace Go.Proofs.Ytbpekcmlaagegab
open Go.RowKit

/-- How many cells of stripe s are none. -/
def badN (a : ArrP) (s : Nat) : Nat := (badL (cellsL a s) s).length

/-- Of one of the first k stripes, at most. -/
def worstTo (a : ArrP) : Nat → Nat
  | 0 => 0
  | k + 1 => if worstTo a k < badN a k then badN a k else worstTo a k

def worstN (a : ArrP) : Nat := worstTo a 3

theorem badN_le {a : ArrP} (ha : Whole a) (s : Nat) : badN a s ≤ 4 := by
  have := badTo_length (cellsL a s) s (cellsL a s).length
  rw [cellsL_length, ha.1] at this
  unfold badN badL
  rw [cellsL_length, ha.1]
  exact this

theorem worstTo_le {a : ArrP} (ha : Whole a) : ∀ k, worstTo a k ≤ 4
  | 0 => by simp [worstTo]
  | k + 1 => by
    have := badN_le ha k
    have := worstTo_le ha k
    rw [worstTo]
    split <;> omega

theorem ret_arr3 {v : Value} {k2 k3 : IntKind} {a2 b2 a3 b3 : Int} (h2 : a2 = b2) (h3 : a3 = b3) : Ending.returned (.tuple #[v, .int k2 a2, .int k3 a3]) = .returned (.tuple #[v, .int k2 b2, .int k3 b3]) := by rw [h2, h3]

/-- Cells of stripe s, the first k of them. -/
def putTo (a : ArrP) (cs : List (List Int)) (s : Nat) : Nat → ArrP
  | 0 => a
  | k + 1 => withL (putTo a cs s k) k s (cs.getD k [])

def mendE (a : ArrP) (s : Int) : Int := if s < 0 ∨ 2 < s then 3 else dataE (cellsL a s.toNat) s
def mendN (a : ArrP) (s : Int) : Nat := if s < 0 ∨ 2 < s then 0 else badN a s.toNat
def mendL (a : ArrP) (s : Int) : ArrP := if (s < 0 ∨ 2 < s) ∨ dataE (cellsL a s.toNat) s ≠ 0 then a else putTo a (makeL (dataL (cellsL a s.toNat) s) s) s.toNat 4

theorem putTo_whole {a : ArrP} (ha : Whole a) (cs : List (List Int)) (s : Nat) : ∀ k, k ≤ 4 → Whole (putTo a cs s k)
  | 0, _ => ha
  | k + 1, h => withL_whole (putTo_whole ha cs s k (by omega)) (by omega) _

theorem putTo_fours {a : ArrP} (ha : Fours a) (cs : List (List Int)) (s : Nat) : ∀ k, Fours (putTo a cs s k)
  | 0 => ha
  | k + 1 => by
    have := putTo_fours ha cs s k
    exact this

theorem dataL_blocks {ls : List (List Int)} {s : Int} (h : dataE ls s = 0) : ∀ b ∈ dataL ls s, b.length = 4 := by
  unfold dataE at h
  split at h
  · cases h
  rename_i h1
  intro b hb
  rw [dataL, if_neg h1] at hb
  obtain ⟨d, hd, rfl⟩ := List.mem_map.1 hb
  unfold datAt
  split
  · rfl
  · rename_i h2
    exact readX_length (by simpa [isBad] using h2)

theorem makeL_length (ds : List (List Int)) (s : Int) : (makeL ds s).length = ds.length := by simp [makeL]

set_option maxRecDepth 20000 in
set_option maxHeartbeats 6400000 in
theorem refMend_any (v : Value) (a : ArrP) (s : Int) (w : World) (h : ArrV w v a) (ha : Whole a) (hi : Fours a) :
    Calls Try.prog 54 #[v, .int .i64 s] w fun e w' => ∃ r, e = .returned (.tuple #[r, .int .i64 (mendN a s), .int .i64 (mendE a s)]) ∧ ArrV w' r (mendL a s) ∧ Grow w w' := by
  obtain ⟨a1, n1, c1, a2, n2, c2, rfl⟩ := h.form
  obtain ⟨W, hW⟩ : ∃ W, W = (w.alloc (.cells #[.slice a1 n1 c1, .slice a2 n2 c2] 39)).alloc (.cells #[.slice none 0 0, .slice none 0 0] 39) := ⟨_, rfl⟩
  have hgW : Grow w W := by rw [hW]; exact (Grow.alloc _ _).trans (Grow.alloc _ _)
  have hI : BInv w w.heap.size (w.heap.size + 1) (.slice a1 n1 c1) (.slice a2 n2 c2) a W := ⟨by rw [hW]; exact ⟨(heap_alloc_old _ _ (by simp)).trans (heap_alloc_new w _), heap_alloc2_new w _ _⟩, h.grow hgW, hgW⟩
  by_cases hs : s < 0 ∨ 2 < s
  · have HE : Hid ((mendN a s : Int) = 0 ∧ mendE a s = 3 ∧ mendL a s = a) := ⟨by rw [mendN, if_pos hs]; rfl, if_pos hs, if_pos (.inl hs)⟩
    clear hI
    have hgF : Grow w ((w.alloc (.cells #[.slice a1 n1 c1, .slice a2 n2 c2] 39)).alloc (.cells #[.slice a1 n1 c1, .slice a2 n2 c2] 39)) := (Grow.alloc _ _).trans (Grow.alloc _ _)
    have hfin : Hid (_ ∧ _) := ⟨h.grow hgF, hgF⟩
    clear h hgF hgW hW
    have hs' : s < 0 ∨ (0 ≤ s ∧ 2 < s) := by omega
    clear hs
    rcases hs' with hs | ⟨hs0, hs⟩
    all_goals
      go_enter Try.func54, Try.ntmps54
      go_wp2
      refine bodyPost_ret (results_two2 Try.results54 _ _ (w.heap.size + 1) _ rfl Try.underlying39 rfl Try.sizeA (x := .slice a1 n1 c1) (y := .slice a2 n2 c2) (by simp) (by simp)) rfl ?_
      exact ⟨_, ret_arr3 HE.out.1.symm HE.out.2.1.symm, by rw [HE.out.2.2]; exact hfin.out.1, hfin.out.2⟩
  · obtain ⟨s, rfl⟩ := Int.eq_ofNat_of_zero_le (show 0 ≤ s by omega)
    have hs3 : s < 3 := by omega
    have HE : Hid (mendN a (s : Int) = badN a s ∧ mendE a (s : Int) = dataE (cellsL a s) s ∧ (dataE (cellsL a s) s ≠ 0 → mendL a (s : Int) = a) ∧ (dataE (cellsL a s) s = 0 → mendL a (s : Int) = putTo a (makeL (dataL (cellsL a s) s) s) s 4)) :=
      ⟨(if_neg hs).trans (by simp), (if_neg hs).trans (by simp), fun h => if_pos (.inr (by simpa using h)), fun h => (if_neg (by simp only [Int.toNat_natCast]; exact fun h' => h'.elim hs (fun h' => h' h))).trans (by simp)⟩
    have hs' : ¬ 2 < (s : Int) := by omega
    have hb4 := badN_le ha s
    clear hs h
    go_enter Try.func54, Try.ntmps54
    have q0 := two_at0 hI.1.out.1
    have q1 := two_at1 hI.1.out.1
    subst hW
    go_wp2_with fail
    refine (refCells_any _ a s _ hI.2.1.out ha hs3).mono ?_
    rintro e w2 ⟨rc, rfl, hrc, hg2⟩
    go_wp2_with fail
    refine (refBad_any _ _ s _ hrc (by rw [cellsL_length, ha.1]; omega)).mono ?_
    rintro e w3 ⟨rb, rfl, hrb, hg3⟩
    obtain ⟨ab, cb, rfl, hb1, hb2⟩ := hrb.form'
    have hlen : (ints (badL (cellsL a s) s)).length = badN a s := by simp [ints, badN]
    rw [hlen] at hb1 ⊢
    clear hrb hlen
    go_wp2_with fail
    refine (refData_any _ _ s _ (hrc.grow hg3) (by rw [cellsL_length, ha.1]; omega)).mono ?_
    rintro e w4 ⟨rd, rfl, hrd, hg4⟩
    have hg24 := (hg2.trans hg3).trans hg4
    have hI4 : BInv w w.heap.size (w.heap.size + 1) (.slice a1 n1 c1) (.slice a2 n2 c2) a w4 := ⟨⟨hg24.block' hI.1.out.1, hg24.block' hI.1.out.2⟩, hI.2.1.out.grow hg24, hgW.trans hg24⟩
    clear hI hrc hg2 hg3 hg4 hg24 q0 q1 hgW
    have b0 := two_at0 hI4.1.out.1
    have b1 := two_at1 hI4.1.out.1
    have r0 := two_at0 hI4.1.out.2
    have r1 := two_at1 hI4.1.out.2
    have f0 : w4.frozen? ⟨w.heap.size + 1, 0, none⟩ = false := frozen_of_row w4 _ 0 _ _ hI4.1.out.2
    have f1 : w4.frozen? ⟨w.heap.size + 1, 1, none⟩ = false := frozen_of_row w4 _ 1 _ _ hI4.1.out.2
    by_cases hde : dataE (cellsL a s) s = 0
    · have hdb := dataL_blocks hde
      have hdl := dataL_length hde
      rw [cellsL_length, ha.1] at hdl
      have Hf : Hid (mendN a (s : Int) = badN a s ∧ mendE a (s : Int) = 0 ∧ mendL a (s : Int) = putTo a (makeL (dataL (cellsL a s) s) s) s 4) := ⟨HE.out.1, HE.out.2.1.trans hde, HE.out.2.2.2 hde⟩
      have hcl : (makeL (dataL (cellsL a s) s) (s : Int)).length = 4 := by rw [makeL_length, hdl]
      clear HE r0 r1 f0 f1
      generalize dataE (cellsL a s) s = E at *
      subst hde
      generalize badN a s = bn at *
      go_wp2_with fail
      refine (refMake_any _ _ s _ hrd (by omega) (by omega) hdb).mono ?_
      rintro e w5 ⟨rm, rfl, hrm, hg5⟩
      have hcs := hrm.done
      have hI5 : BInv w w.heap.size (w.heap.size + 1) (.slice a1 n1 c1) (.slice a2 n2 c2) a w5 := ⟨⟨hg5.block' hI4.1.out.1, hg5.block' hI4.1.out.2⟩, hI4.2.1.out.grow hg5, hI4.2.2.trans hg5⟩
      clear hrm hrd hI4 hdb hdl b0 b1 hg5
      generalize makeL (dataL (cellsL a s) s) (s : Int) = cs at *
      obtain ⟨am, cm, rfl, hm1, hm2⟩ := hcs.form'
      have HL : Hid (cs.length = 4) := hcl
      rw [hcl] at hcs hm1 ⊢
      clear hcl
      have hw4 := fun k (hk : k ≤ 4) => putTo_whole ha cs s k hk
      have hf4 := fun k => putTo_fours hi cs s k
      go_wp2
      go_loopw [42] (fun q wr => ∃ (k : Nat) (x y : Value), k ≤ 4 ∧ q = .int .i64 k ∧ BInv w w.heap.size (w.heap.size + 1) x y (putTo a cs s k) wr ∧ Hid (Bss wr (.slice am 4 cm) cs)) (fun q _ => 4 - (intOf q).toNat)
      case atStart => exact ⟨0, _, _, by omega, rfl, hI5, hcs⟩
      case round =>
        obtain ⟨k, x, y, hk, rfl, hB, HC⟩ := hrel
        have HB : Hid (BInv w w.heap.size (w.heap.size + 1) x y (putTo a cs s k) wr) := hB
        obtain ⟨⟨h1, h2⟩, HV, hgr⟩ := hB
        obtain ⟨⟨x1, x2, x3, rfl⟩, y1, y2, y3, rfl⟩ := HV.out.form2
        have H1 : Hid (wr.heap[w.heap.size]? = some (.cells #[.slice x1 x2 x3, .slice y1 y2 y3] 39 (0, 0))) := h1
        have b0 := two_at0 h1
        have b1 := two_at1 h1
        have r0 := two_at0 h2
        have r1 := two_at1 h2
        have fA0 : wr.frozen? ⟨w.heap.size, 0, none⟩ = false := frozen_of_row wr _ 0 _ _ h1
        have fA1 : wr.frozen? ⟨w.heap.size, 1, none⟩ = false := frozen_of_row wr _ 1 _ _ h1
        have f0 : wr.frozen? ⟨w.heap.size + 1, 0, none⟩ = false := frozen_of_row wr _ 0 _ _ h2
        have f1 : wr.frozen? ⟨w.heap.size + 1, 1, none⟩ = false := frozen_of_row wr _ 1 _ _ h2
        clear h1 h2
        by_cases hlt : k < 4
        · obtain ⟨bm, om, uk, e1, hck, hbk⟩ := HC.out.elem (k := k) (by have := HL.out; omega) []
          subst e1
          obtain ⟨z1, z2, z3, rfl⟩ := hbk.form
          go_wp2_with fail
          refine (refWith_any _ _ (putTo a cs s k) k s (cs.getD k []) _ HV.out (hw4 k hk) hlt hs3 hbk).mono ?_
          rintro e w6 ⟨r, rfl, hr, hg6⟩
          obtain ⟨p1, p2, p3, q1, q2, q3, rfl⟩ := hr.form
          have HN : Hid (BInv w w.heap.size (w.heap.size + 1) _ _ (putTo a cs s (k + 1)) _) := BInv.put HB.out hg6 hr (hw4 (k + 1) (by omega)) (hf4 (k + 1)) (Nat.le_refl _) (by omega)
          have HC' : Hid (Bss ((w6.setCell ⟨w.heap.size, 0, none⟩ (.slice p1 p2 p3)).setCell ⟨w.heap.size, 1, none⟩ (.slice q1 q2 q3)) (.slice (some ⟨bm, om, none⟩) 4 cm) cs) :=
            BssX.plain (BssX.step (BssX.step (Two.bss (R := w.heap.size) ⟨_, _, _, _, _, _, _, hg6.block' H1.out⟩ (HC.out.grow hg6) (by have := HL.out; omega)) (by_set w6 _ 0 _)) (by_set _ _ 1 _))
          have b06 := hg6.at b0
          have b16 := hg6.at b1
          have f06 := (hg6.frozen (a := ⟨w.heap.size, 0, none⟩) (cell_lt b0)).trans fA0
          have f16 := (hg6.frozen (a := ⟨w.heap.size, 1, none⟩) (cell_lt b0)).trans fA1
          clear HB HV hr hw4 hf4 HC hbk H1
          go_wp2
          go_roundw
          case rel => first | exact ⟨k + 1, _, _, by omega, by go_num, HN.out, HC'⟩ | ((repeat apply Exists.intro); exact ⟨⟨k + 1, _, _, by omega, by go_num, HN.out, HC'⟩, rfl⟩)
          case measure => simp [intOf]; omega
        · obtain rfl : k = 4 := by omega
          obtain ⟨hv, hg, z0, z1⟩ := HB.out.done (hw4 4 (by omega)) (hf4 4) (by omega)
          have hfin : Hid (_ ∧ _) := ⟨hv, hg⟩
          clear hv hg HB HV hw4 hf4 HC H1
          go_wp2
          refine bodyPost_ret (results_two2 Try.results54 _ _ (w.heap.size + 1) _ rfl Try.underlying39 rfl Try.sizeA z0 z1) rfl ?_
          exact ⟨_, ret_arr3 (by rw [Hf.out.1]) Hf.out.2.1.symm, by rw [Hf.out.2.2]; exact hfin.out.1, hfin.out.2⟩
    · obtain ⟨hv, hg, z0, z1⟩ := hI4.done ha hi (by omega)
      have hfin : Hid (mendN a (s : Int) = badN a s ∧ mendE a (s : Int) = dataE (cellsL a s) s ∧ mendL a (s : Int) = a ∧ _ ∧ _) := ⟨HE.out.1, HE.out.2.1, HE.out.2.2.1 hde, hv, hg⟩
      clear hv hg HE hrd hI4
      generalize dataE (cellsL a s) s = E at *
      generalize badN a s = bn at *
      have he' : (E != 0) = true := by simpa using hde
      go_wp2
      refine bodyPost_ret (results_two2 Try.results54 _ _ (w.heap.size + 1) _ rfl Try.underlying39 rfl Try.sizeA z0 z1) rfl ?_
      exact ⟨_, ret_arr3 (by rw [hfin.out.1]) hfin.out.2.1.symm, by rw [hfin.out.2.2.1]; exact hfin.out.2.2.2.1, hfin.out.2.2.2.2⟩

end Go.Proofs.Ytbpekcmlaagegab

/-
  What the reference's Do returns. Nothing old turns.
-/
namespace Go.Proofs.Ytbpekcmlaagegab
open Go.RowKit

theorem do_take_succ (ls : List (List Int)) (x : DeedP) (k : Nat) : (List.range k).map (doAt ls x) ++ [doAt ls x k] = (List.range (k + 1)).map (doAt ls x) := by simp [List.range_succ]

theorem doAt_data {ls : List (List Int)} {x : DeedP} {i : Nat} (h : x.k = 1) (hi : (i : Int) = x.n) : doAt ls x i = x.d := by rw [doAt, if_pos ⟨h, hi⟩]
theorem doAt_old {ls : List (List Int)} {x : DeedP} {i : Nat} (h : x.k = 1) (hi : (i : Int) ≠ x.n) : doAt ls x i = ls.getD i [] := by rw [doAt, if_neg (fun h => hi h.2), if_neg (by omega), if_neg (by omega)]
theorem doAt_n {ls : List (List Int)} {x : DeedP} {i : Nat} (h : x.k = 2) (hi : (i : Int) = x.n) : doAt ls x i = ls.getD x.m.toNat [] := by rw [doAt, if_neg (by omega), if_pos ⟨h, hi⟩]
theorem doAt_m {ls : List (List Int)} {x : DeedP} {i : Nat} (h : x.k = 2) (hi : (i : Int) ≠ x.n) (hj : (i : Int) = x.m) : doAt ls x i = ls.getD x.n.toNat [] := by rw [doAt, if_neg (by omega), if_neg (by omega), if_pos ⟨h, hj⟩]
theorem doAt_out {ls : List (List Int)} {x : DeedP} {i : Nat} (h : x.k = 2) (hi : (i : Int) ≠ x.n) (hj : (i : Int) ≠ x.m) : doAt ls x i = ls.getD i [] := by rw [doAt, if_neg (by omega), if_neg (by omega), if_neg (by omega)]

theorem whereE_zero {m : Int} (h : whereE m = 0) : 0 ≤ m ∧ m < 9 := by
  unfold whereE at h
  split at h
  · assumption
  · cases h

set_option maxRecDepth 20000 in
set_option maxHeartbeats 3200000 in
theorem refDo_write (v dv : Value) (ls : List (List Int)) (x : DeedP) (w : World) (h : Bss w v ls) (hd : DeedV w dv x) (hl : ls.length = 9) (hk1 : x.k = 1) :
    Calls Try.prog 65 #[v, dv] w fun e w' => ∃ r, e = .returned r ∧ Bss w' r (doL ls x) ∧ Grow w w' := by
  obtain ⟨i0, hi, hz0, hz1, hz2⟩ := info_parts Try.infoS
  obtain ⟨sv, rfl, hbd⟩ := hd
  obtain ⟨ad, nd, cd, rfl⟩ := hbd.form
  have hd1 := fun i => doAt_data (ls := ls) (x := x) (i := i) hk1
  have hd2 := fun i => doAt_old (ls := ls) (x := x) (i := i) hk1
  have HDL : Hid (doL ls x = (List.range 9).map (doAt ls x)) := by rw [Hid, doL, hl]
  have HT : Hid (∀ k, (List.range k).map (doAt ls x) ++ [doAt ls x k] = (List.range (k + 1)).map (doAt ls x)) := do_take_succ ls x
  generalize doL ls x = dl at *
  generalize doAt ls x = da at *
  obtain ⟨k, n, m, d⟩ := x
  dsimp only at *
  subst hk1
  obtain ⟨ao, cap, rfl, h1, h2, h3, h4⟩ := h
  obtain ⟨b, off, rfl, hc⟩ := h4 (by omega)
  have Hc : Hid (∀ k, k < 9 → ∃ ak n ck, w.cell? ⟨b, off + k, none⟩ = some (.slice ak n ck) ∧ Bs w (.slice ak n ck) (ls.getD k [])) := fun k hk => by
    obtain ⟨ak, ck, e1, e2⟩ := Sl.bytesAt hc (k := k) (by omega)
    exact ⟨_, _, _, e1, e2⟩
  have Hd : Hid ((∀ i : Nat, (i : Int) = n → da i = d) ∧ (∀ i : Nat, (i : Int) ≠ n → da i = ls.getD i [])) := ⟨hd1, hd2⟩
  unfold maxLen at h2
  rw [hl] at h1 ⊢
  clear hc h4 h3 hl hd1 hd2
  have hgA : Grow w (w.alloc (.cells #[.int .i64 1, .int .i64 n, .int .i64 m, .slice ad nd cd] 25)) := Grow.alloc _ _
  go_enter Try.func65, Try.ntmps65
  go_wp2
  obtain ⟨w1, hw1⟩ : ∃ w1, w1 = w.alloc (.cells #[.int .i64 1, .int .i64 n, .int .i64 m, .slice ad nd cd] 25) := ⟨_, rfl⟩
  have hc0 : w1.cell? ⟨w.heap.size, 0, none⟩ = some (.int .i64 1) := by rw [hw1]; simp
  have hc1 : w1.cell? ⟨w.heap.size, 1, none⟩ = some (.int .i64 n) := by rw [hw1]; simp
  have hc3 : w1.cell? ⟨w.heap.size, 3, none⟩ = some (.slice ad nd cd) := by rw [hw1]; simp
  rw [← hw1] at hgA ⊢
  clear hw1
  go_loopw [5, 10] (fun r i wr => ∃ k : Nat, k ≤ 9 ∧ i = .int .i64 k ∧ Hid (Rowing Bs w1.heap.size 23 wr r ((List.range k).map da)) ∧ Grow w1 wr) (fun _ i _ => 9 - (intOf i).toNat)
  case atStart => exact ⟨0, by omega, rfl, Rowing.nil _ _ _ _, Grow.refl _⟩
  case round =>
    obtain ⟨k, hk, rfl, HR, hgr⟩ := hrel
    by_cases hlt : k < 9
    · have c0 := hgr.at hc0
      have c1 := hgr.at hc1
      have c3 := hgr.at hc3
      obtain ⟨ak, nk, ck, hck, hbk⟩ := Hc.out k hlt
      have hck' := (hgA.trans hgr).at hck
      clear hc0 hc1 hc3 hck
      by_cases hkn : (k : Int) = n
      · have HD : Hid (da k = d) := Hd.out.1 k hkn
        have hoff : Off Bs u5.ownBlock wr (.slice ad nd cd) (da k) := by rw [HD.out]; exact Off.old Bs.stays (hbd.grow hgA) hgr (fun j hj => (HR.out.base j hj).1)
        have hT := HT.out k
        subst hkn
        go_wp2_with (first
          | (at_builtin; refine wpList_push rfl (.tmp 57) (.tmp 59) 22 rfl i0 (.slice none 0 0) 24 Try.underlying22 hi hz0 hz1 hz2 rfl w1 hgr rfl rfl HR.out rfl hoff wr.heap.size rfl rfl (by simp; omega) (by simp; omega) ?_; rintro v1 w2 - hrow1 hg2))
        rw [hT] at hrow1
        go_wp2
        go_roundw
        case rel => first | exact ⟨k + 1, by omega, by go_num, hrow1, hg2⟩ | ((repeat apply Exists.intro); exact ⟨⟨k + 1, by omega, by go_num, hrow1, hg2⟩, rfl⟩)
        case measure => simp [intOf]; omega
      · have HD : Hid (da k = ls.getD k []) := Hd.out.2 k hkn
        have hoff : Off Bs u5.ownBlock wr (.slice ak nk ck) (da k) := by rw [HD.out]; exact Off.old Bs.stays (hbk.grow hgA) hgr (fun j hj => (HR.out.base j hj).1)
        have hT := HT.out k
        go_wp2_with (first
          | (at_builtin; refine wpList_push rfl (.tmp 57) (.tmp 59) 22 rfl i0 (.slice none 0 0) 24 Try.underlying22 hi hz0 hz1 hz2 rfl w1 hgr rfl rfl HR.out rfl hoff wr.heap.size rfl rfl (by simp; omega) (by simp; omega) ?_; rintro v1 w2 - hrow1 hg2))
        rw [hT] at hrow1
        go_wp2
        go_roundw
        case rel => first | exact ⟨k + 1, by omega, by go_num, hrow1, hg2⟩ | ((repeat apply Exists.intro); exact ⟨⟨k + 1, by omega, by go_num, hrow1, hg2⟩, rfl⟩)
        case measure => simp [intOf]; omega
    · obtain rfl : k = 9 := by omega
      go_wp2
      go_ret
      exact ⟨_, rfl, by rw [HDL.out]; exact HR.out.done, hgA.trans hgr⟩

set_option maxRecDepth 20000 in
set_option maxHeartbeats 3200000 in
theorem refDo_swap (v dv : Value) (ls : List (List Int)) (x : DeedP) (w : World) (h : Bss w v ls) (hd : DeedV w dv x) (hl : ls.length = 9) (hk1 : x.k = 2) (hn : 0 ≤ x.n ∧ x.n < 9) (hm : 0 ≤ x.m ∧ x.m < 9) :
    Calls Try.prog 65 #[v, dv] w fun e w' => ∃ r, e = .returned r ∧ Bss w' r (doL ls x) ∧ Grow w w' := by
  obtain ⟨i0, hi, hz0, hz1, hz2⟩ := info_parts Try.infoS
  obtain ⟨sv, rfl, hbd⟩ := hd
  obtain ⟨ad, nd, cd, rfl⟩ := hbd.form
  have hd1 := fun i => doAt_n (ls := ls) (x := x) (i := i) hk1
  have hd2 := fun i => doAt_m (ls := ls) (x := x) (i := i) hk1
  have hd3 := fun i => doAt_out (ls := ls) (x := x) (i := i) hk1
  have HDL : Hid (doL ls x = (List.range 9).map (doAt ls x)) := by rw [Hid, doL, hl]
  have HT : Hid (∀ k, (List.range k).map (doAt ls x) ++ [doAt ls x k] = (List.range (k + 1)).map (doAt ls x)) := do_take_succ ls x
  generalize doL ls x = dl at *
  generalize doAt ls x = da at *
  obtain ⟨k, n, m, d⟩ := x
  dsimp only at *
  subst hk1
  obtain ⟨n, rfl⟩ := Int.eq_ofNat_of_zero_le hn.1
  obtain ⟨m, rfl⟩ := Int.eq_ofNat_of_zero_le hm.1
  have hn9 : n < 9 := by omega
  have hm9 : m < 9 := by omega
  clear hn hm
  simp only [Int.toNat_natCast] at hd1 hd2 hd3
  obtain ⟨ao, cap, rfl, h1, h2, h3, h4⟩ := h
  obtain ⟨b, off, rfl, hc⟩ := h4 (by omega)
  have Hc : Hid (∀ k, k < 9 → ∃ ak n ck, w.cell? ⟨b, off + k, none⟩ = some (.slice ak n ck) ∧ Bs w (.slice ak n ck) (ls.getD k [])) := fun k hk => by
    obtain ⟨ak, ck, e1, e2⟩ := Sl.bytesAt hc (k := k) (by omega)
    exact ⟨_, _, _, e1, e2⟩
  have Hd : Hid ((∀ i : Nat, i = n → da i = ls.getD m []) ∧ (∀ i : Nat, i ≠ n → i = m → da i = ls.getD n []) ∧ (∀ i : Nat, i ≠ n → i ≠ m → da i = ls.getD i [])) := ⟨fun i h => hd1 i (by omega), fun i h h' => hd2 i (by omega) (by omega), fun i h h' => hd3 i (by omega) (by omega)⟩
  unfold maxLen at h2
  rw [hl] at h1 ⊢
  clear hc h4 h3 hl hd1 hd2 hd3
  have hgA : Grow w (w.alloc (.cells #[.int .i64 2, .int .i64 n, .int .i64 m, .slice ad nd cd] 25)) := Grow.alloc _ _
  go_enter Try.func65, Try.ntmps65
  go_wp2
  obtain ⟨w1, hw1⟩ : ∃ w1, w1 = w.alloc (.cells #[.int .i64 2, .int .i64 n, .int .i64 m, .slice ad nd cd] 25) := ⟨_, rfl⟩
  have hc0 : w1.cell? ⟨w.heap.size, 0, none⟩ = some (.int .i64 2) := by rw [hw1]; simp
  have hc1 : w1.cell? ⟨w.heap.size, 1, none⟩ = some (.int .i64 n) := by rw [hw1]; simp
  have hc2 : w1.cell? ⟨w.heap.size, 2, none⟩ = some (.int .i64 m) := by rw [hw1]; simp
  rw [← hw1] at hgA ⊢
  clear hw1
  go_loopw [5, 10] (fun r i wr => ∃ k : Nat, k ≤ 9 ∧ i = .int .i64 k ∧ Hid (Rowing Bs w1.heap.size 23 wr r ((List.range k).map da)) ∧ Grow w1 wr) (fun _ i _ => 9 - (intOf i).toNat)
  case atStart => exact ⟨0, by omega, rfl, Rowing.nil _ _ _ _, Grow.refl _⟩
  case round =>
    obtain ⟨k, hk, rfl, HR, hgr⟩ := hrel
    by_cases hlt : k < 9
    · have c0 := hgr.at hc0
      have c1 := hgr.at hc1
      have c2 := hgr.at hc2
      obtain ⟨ak, nk, ck, hck, hbk⟩ := Hc.out k hlt
      obtain ⟨an, nn, cn, hcn, hbn⟩ := Hc.out n hn9
      obtain ⟨am, nm, cm, hcm, hbm⟩ := Hc.out m hm9
      have hck' := (hgA.trans hgr).at hck
      have hcn' := (hgA.trans hgr).at hcn
      have hcm' := (hgA.trans hgr).at hcm
      clear hc0 hc1 hc2 hck hcn hcm
      by_cases hkn : k = n
      · have HD : Hid (da k = ls.getD m []) := Hd.out.1 k hkn
        have hoff : Off Bs u5.ownBlock wr (.slice am nm cm) (da k) := by rw [HD.out]; exact Off.old Bs.stays (hbm.grow hgA) hgr (fun j hj => (HR.out.base j hj).1)
        have hT := HT.out k
        subst hkn
        go_wp2_with (first
          | (at_builtin; refine wpList_push rfl (.tmp 57) (.tmp 59) 22 rfl i0 (.slice none 0 0) 24 Try.underlying22 hi hz0 hz1 hz2 rfl w1 hgr rfl rfl HR.out rfl hoff wr.heap.size rfl rfl (by simp; omega) (by simp; omega) ?_; rintro v1 w2 - hrow1 hg2))
        rw [hT] at hrow1
        go_wp2
        go_roundw
        case rel => first | exact ⟨k + 1, by omega, by go_num, hrow1, hg2⟩ | ((repeat apply Exists.intro); exact ⟨⟨k + 1, by omega, by go_num, hrow1, hg2⟩, rfl⟩)
        case measure => simp [intOf]; omega
      · have hkn' : ¬ (k : Int) = n := by omega
        by_cases hkm : k = m
        · have HD : Hid (da k = ls.getD n []) := Hd.out.2.1 k hkn hkm
          have hoff : Off Bs u5.ownBlock wr (.slice an nn cn) (da k) := by rw [HD.out]; exact Off.old Bs.stays (hbn.grow hgA) hgr (fun j hj => (HR.out.base j hj).1)
          have hT := HT.out k
          subst hkm
          go_wp2_with (first
            | (at_builtin; refine wpList_push rfl (.tmp 57) (.tmp 59) 22 rfl i0 (.slice none 0 0) 24 Try.underlying22 hi hz0 hz1 hz2 rfl w1 hgr rfl rfl HR.out rfl hoff wr.heap.size rfl rfl (by simp; omega) (by simp; omega) ?_; rintro v1 w2 - hrow1 hg2))
          rw [hT] at hrow1
          go_wp2
          go_roundw
          case rel => first | exact ⟨k + 1, by omega, by go_num, hrow1, hg2⟩ | ((repeat apply Exists.intro); exact ⟨⟨k + 1, by omega, by go_num, hrow1, hg2⟩, rfl⟩)
          case measure => simp [intOf]; omega
        · have hkm' : ¬ (k : Int) = m := by omega
          have HD : Hid (da k = ls.getD k []) := Hd.out.2.2 k hkn hkm
          have hoff : Off Bs u5.ownBlock wr (.slice ak nk ck) (da k) := by rw [HD.out]; exact Off.old Bs.stays (hbk.grow hgA) hgr (fun j hj => (HR.out.base j hj).1)
          have hT := HT.out k
          go_wp2_with (first
            | (at_builtin; refine wpList_push rfl (.tmp 57) (.tmp 59) 22 rfl i0 (.slice none 0 0) 24 Try.underlying22 hi hz0 hz1 hz2 rfl w1 hgr rfl rfl HR.out rfl hoff wr.heap.size rfl rfl (by simp; omega) (by simp; omega) ?_; rintro v1 w2 - hrow1 hg2))
          rw [hT] at hrow1
          go_wp2
          go_roundw
          case rel => first | exact ⟨k + 1, by omega, by go_num, hrow1, hg2⟩ | ((repeat apply Exists.intro); exact ⟨⟨k + 1, by omega, by go_num, hrow1, hg2⟩, rfl⟩)
          case measure => simp [intOf]; omega
    · obtain rfl : k = 9 := by omega
      go_wp2
      go_ret
      exact ⟨_, rfl, by rw [HDL.out]; exact HR.out.done, hgA.trans hgr⟩

theorem refDo_any (v dv : Value) (ls : List (List Int)) (x : DeedP) (w : World) (h : Bss w v ls) (hd : DeedV w dv x) (hl : ls.length = 9) (hr : wrongE x = 0) :
    Calls Try.prog 65 #[v, dv] w fun e w' => ∃ r, e = .returned r ∧ Bss w' r (doL ls x) ∧ Grow w w' := by
  obtain ⟨hk, hn0, hn8, -, h2⟩ := right_deed hr
  rcases hk with hk | hk
  · exact refDo_write v dv ls x w h hd hl hk
  · exact refDo_swap v dv ls x w h hd hl hk (by omega) (whereE_zero (h2 hk).1)

end Go.Proofs.Ytbpekcmlaagegab

/-
  Plain: what a deed's intent is: a stripe's data spread over blocks, the deed done, gathered again, and the xor of it.
-/
namespace Go.Proofs.Ytbpekcmlaagegab

/-- Blocks of which the first k that are of stripe s are what that has. -/
def spreadTo (ds : List (List Int)) (s : Nat) (k : Nat) : List (List Int) := (List.range 9).map fun n => if n < k ∧ sOf (n : Nat) = s then ds.getD (dOf (n : Nat)) [] else nought

theorem spreadTo_length (ds : List (List Int)) (s k : Nat) : (spreadTo ds s k).length = 9 := by simp [spreadTo]
theorem spreadTo_zero (ds : List (List Int)) (s : Nat) : spreadTo ds s 0 = List.replicate 9 nought := by simp [spreadTo]; rfl

theorem spreadTo_in {ds : List (List Int)} {s k : Nat} (h : sOf (k : Nat) = s) : (spreadTo ds s k).set k (ds.getD (dOf (k : Nat)) []) = spreadTo ds s (k + 1) := by
  refine List.ext_getElem (by simp [spreadTo]) fun i h1 h2 => ?_
  rw [List.getElem_set]
  simp only [spreadTo, List.getElem_map, List.getElem_range]
  split
  · rename_i e; subst e; rw [if_pos ⟨by omega, h⟩]
  · by_cases hi : i < k ∧ sOf (i : Nat) = s
    · rw [if_pos hi, if_pos ⟨by omega, hi.2⟩]
    · rw [if_neg hi, if_neg (fun hc => hi ⟨by omega, hc.2⟩)]

theorem spreadTo_out {ds : List (List Int)} {s k : Nat} (h : sOf (k : Nat) ≠ s) : spreadTo ds s k = spreadTo ds s (k + 1) := by
  refine List.map_congr_left fun i _ => ?_
  by_cases hi : i < k ∧ sOf (i : Nat) = s
  · rw [if_pos hi, if_pos ⟨by omega, hi.2⟩]
  · rw [if_neg hi, if_neg (fun hc => hi ⟨by
      by_cases e : i = k
      · subst e; exact absurd hc.2 h
      · omega, hc.2⟩)]

/-- Of the first k blocks those of stripe s, by disks. -/
def outTo (bl : List (List Int)) (s : Nat) : Nat → List (List Int)
  | 0 => List.replicate 4 []
  | k + 1 => if sOf (k : Nat) = s then (outTo bl s k).set (dOf (k : Nat)) (bl.getD k []) else outTo bl s k

/-- The same, in a row. -/
def rowTo (bl : List (List Int)) (s : Nat) : Nat → List (List Int)
  | 0 => []
  | k + 1 => if sOf (k : Nat) = s then rowTo bl s k ++ [bl.getD k []] else rowTo bl s k

theorem outTo_length (bl : List (List Int)) (s : Nat) : ∀ k, (outTo bl s k).length = 4
  | 0 => rfl
  | k + 1 => by
    rw [outTo]
    split
    · rw [List.length_set]; exact outTo_length bl s k
    · exact outTo_length bl s k

theorem rowTo_length (bl : List (List Int)) (s : Nat) : ∀ k, (rowTo bl s k).length ≤ k
  | 0 => Nat.le_refl _
  | k + 1 => by
    have := rowTo_length bl s k
    rw [rowTo]
    split
    · simp; omega
    · omega

theorem outTo_in {bl : List (List Int)} {s k : Nat} (h : sOf (k : Nat) = s) : (outTo bl s k).set (dOf (k : Nat)) (bl.getD k []) = outTo bl s (k + 1) := by rw [outTo, if_pos h]
theorem outTo_out {bl : List (List Int)} {s k : Nat} (h : sOf (k : Nat) ≠ s) : outTo bl s k = outTo bl s (k + 1) := by rw [outTo, if_neg h]
theorem rowTo_in {bl : List (List Int)} {s k : Nat} (h : sOf (k : Nat) = s) : rowTo bl s k ++ [bl.getD k []] = rowTo bl s (k + 1) := by rw [rowTo, if_pos h]
theorem rowTo_out {bl : List (List Int)} {s k : Nat} (h : sOf (k : Nat) ≠ s) : rowTo bl s k = rowTo bl s (k + 1) := by rw [rowTo, if_neg h]

/-- What the disks of stripe s are to have. -/
def planOut (bl : List (List Int)) (s : Nat) : List (List Int) := (outTo bl s 9).set (3 - s) (xorAll (rowTo bl s 9))

/-- Blocks behind a deed, of stripe s those that it has. -/
def planBl (a : ArrP) (x : DeedP) : List (List Int) := doL (spreadTo (dataL (cellsL a (sOf x.n)) (sOf x.n)) (sOf x.n) 9) x

def planE (a : ArrP) (x : DeedP) : Int := if wrongE x ≠ 0 then wrongE x else dataE (cellsL a (sOf x.n)) (sOf x.n)
def planI (a : ArrP) (x : DeedP) : Int × List (List Int) := if planE a x ≠ 0 then (0, []) else ((sOf x.n : Int), makeL (planOut (planBl a x) (sOf x.n)) (sOf x.n))

theorem rowTo_blocks {bl : List (List Int)} (h4 : ∀ b ∈ bl, b.length = 4) (hl : bl.length = 9) (s : Nat) : ∀ k, k ≤ 9 → ∀ b ∈ rowTo bl s k, b.length = 4
  | 0, _ => by simp [rowTo]
  | k + 1, hk => by
    rw [rowTo]
    split
    · intro b hb
      rcases List.mem_append.1 hb with hb | hb
      · exact rowTo_blocks h4 hl s k (by omega) b hb
      · simp only [List.mem_singleton] at hb
        rw [hb]
        exact h4 _ (getD_mem (by omega))
    · exact rowTo_blocks h4 hl s k (by omega)

/-- What the disks are to have, written out. -/
theorem planOut_eq (bl : List (List Int)) (s : Nat) (hs : s < 3) : planOut bl s =
    if s = 0 then [bl.getD 0 [], bl.getD 1 [], bl.getD 2 [], xorAll [bl.getD 0 [], bl.getD 1 [], bl.getD 2 []]]
    else if s = 1 then [bl.getD 3 [], bl.getD 4 [], xorAll [bl.getD 3 [], bl.getD 4 [], bl.getD 5 []], bl.getD 5 []]
    else [bl.getD 6 [], xorAll [bl.getD 6 [], bl.getD 7 [], bl.getD 8 []], bl.getD 7 [], bl.getD 8 []] := by
  have h := fun n : Nat => show n < 9 → sOf (n : Nat) = n / 3 from fun hn => by
    simp only [sOf, whereS]
    rw [if_pos (by omega)]
    omega
  have h0 := h 0 (by omega)
  have h1 := h 1 (by omega)
  have h2 := h 2 (by omega)
  have h3 := h 3 (by omega)
  have h4 := h 4 (by omega)
  have h5 := h 5 (by omega)
  have h6 := h 6 (by omega)
  have h7 := h 7 (by omega)
  have h8 := h 8 (by omega)
  obtain rfl | rfl | rfl : s = 0 ∨ s = 1 ∨ s = 2 := by omega
  all_goals
    simp only [planOut, outTo, rowTo, h0, h1, h2, h3, h4, h5, h6, h7, h8]
    rfl

theorem planOut_length (bl : List (List Int)) (s : Nat) : (planOut bl s).length = 4 := by rw [planOut, List.length_set, outTo_length]

theorem planOut_blocks {bl : List (List Int)} (h4 : ∀ b ∈ bl, b.length = 4) (hl : bl.length = 9) {s : Nat} (hs : s < 3) : ∀ b ∈ planOut bl s, b.length = 4 := by
  have hg : ∀ k, k < 9 → (bl.getD k []).length = 4 := fun k hk => h4 _ (getD_mem (by omega))
  have hx : ∀ l, (xorAll l).length = 4 := fun l => by simp [xorAll]
  rw [planOut_eq bl s hs]
  intro b hb
  split at hb
  · simp only [List.mem_cons, List.not_mem_nil, or_false] at hb
    rcases hb with rfl | rfl | rfl | rfl
    · exact hg 0 (by omega)
    · exact hg 1 (by omega)
    · exact hg 2 (by omega)
    · exact hx _
  split at hb
  · simp only [List.mem_cons, List.not_mem_nil, or_false] at hb
    rcases hb with rfl | rfl | rfl | rfl
    · exact hg 3 (by omega)
    · exact hg 4 (by omega)
    · exact hx _
    · exact hg 5 (by omega)
  · simp only [List.mem_cons, List.not_mem_nil, or_false] at hb
    rcases hb with rfl | rfl | rfl | rfl
    · exact hg 6 (by omega)
    · exact hx _
    · exact hg 7 (by omega)
    · exact hg 8 (by omega)

theorem spread_blocks {ds : List (List Int)} (hd : ∀ b ∈ ds, b.length = 4) (hl : ds.length = 4) (s k : Nat) : ∀ b ∈ spreadTo ds s k, b.length = 4 := by
  intro b hb
  simp only [spreadTo, List.mem_map, List.mem_range] at hb
  obtain ⟨n, hn, rfl⟩ := hb
  split
  · have := (where_bd (n := (n : Int)) (by omega)).2.2.2.1
    exact hd _ (getD_mem (by omega))
  · rfl

theorem doL_blocks {ls : List (List Int)} {x : DeedP} (h4 : ∀ b ∈ ls, b.length = 4) (hl : ls.length = 9) (hr : wrongE x = 0) : ∀ b ∈ doL ls x, b.length = 4 := by
  obtain ⟨hk, hn0, hn8, h1, h2⟩ := right_deed hr
  intro b hb
  simp only [doL, List.mem_map, List.mem_range] at hb
  obtain ⟨i, hi, rfl⟩ := hb
  unfold doAt
  split
  · rename_i h; exact (h1 h.1).2
  split
  · rename_i h
    have := whereE_zero (h2 h.1).1
    exact h4 _ (getD_mem (by omega))
  split
  · exact h4 _ (getD_mem (by omega))
  · exact h4 _ (getD_mem (by omega))

end Go.Proofs.Ytbpekcmlaagegab
