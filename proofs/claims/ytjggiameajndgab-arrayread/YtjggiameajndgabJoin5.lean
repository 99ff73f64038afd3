import Derived.Test.YtjggiameajndgabProg
import Derived.Deep.QuietTactic
import Derived.BigQuiet
import Derived.Deep.AppendLies
import Derived.Lib.SlBytesConst
import Derived.Laws.CopyOwn
import Derived.Deep.OwnRows
import Derived.Laws.IdiomStrings
import Derived.Laws.BitsAllLaws
import Derived.Test.YtjggiameajndgabJoin4
/-
  What sum.Of and the reference's Sum return: the sum of the bytes that they are handed; nothing in memory turns.
-/
namespace Go.Proofs.Ytjggiameajndgab
open Go.RowKit

set_option maxRecDepth 20000 in
set_option maxHeartbeats 400000 in
theorem of_any (v : Value) (l : List Int) (w : World) (h : Bs w v l) :
    Calls Try.prog 94 #[v] w fun e w' => e = .returned (.int .i64 (sumOf l)) ∧ w' = w := by
  obtain ⟨ao, cap, rfl, h1, h2, h3, h4, h5⟩ := h
  unfold maxLen at h2
  go_enter Try.func94, Try.ntmps94
  go_wp2
  go_loop [3, 8] (fun s i => ∃ k : Nat, k ≤ l.length ∧ i = .int .i64 k ∧ s = .int .i64 (sumOf (l.take k))) (fun _ i => l.length - (intOf i).toNat)
  case atStart => exact ⟨0, Nat.zero_le _, rfl, rfl⟩
  case round =>
    obtain ⟨k, hk, rfl, rfl⟩ := hrel
    have hs := sumOf_bd (l.take k)
    have hx := getD_bd h4 k
    by_cases hlt : k < l.length
    · obtain ⟨b, off, rfl, hc⟩ := h5 (by omega)
      have hck := hc k hlt
      have HS : Hid (sumOf (l.take (k + 1)) = (sumOf (l.take k) * 151 + l.getD k 0 + 1) % 65521) := sumOf_take_succ l k hlt
      clear hc
      generalize l.getD k 0 = x at *
      go_wp2
      go_round
      case rel => exact ⟨k + 1, by omega, by go_num, by rw [HS.out]⟩
      case measure => simp [intOf]; omega
    · go_wp2
      go_ret
      exact ⟨ret_int (by rw [List.take_of_length_le (by omega)]), rfl⟩

set_option maxRecDepth 20000 in
set_option maxHeartbeats 400000 in
theorem refSum_any (v : Value) (l : List Int) (w : World) (h : Bs w v l) :
    Calls Try.prog 95 #[v] w fun e w' => e = .returned (.int .i64 (sumOf l)) ∧ w' = w := by
  obtain ⟨ao, cap, rfl, h1, h2, h3, h4, h5⟩ := h
  unfold maxLen at h2
  go_enter Try.func95, Try.ntmps95
  go_wp2
  go_loop [3, 7] (fun s i => ∃ k : Nat, k ≤ l.length ∧ i = .int .i64 k ∧ s = .int .i64 (sumOf (l.take k))) (fun _ i => l.length - (intOf i).toNat)
  case atStart => exact ⟨0, Nat.zero_le _, rfl, rfl⟩
  case round =>
    obtain ⟨k, hk, rfl, rfl⟩ := hrel
    have hs := sumOf_bd (l.take k)
    have hx := getD_bd h4 k
    by_cases hlt : k < l.length
    · obtain ⟨b, off, rfl, hc⟩ := h5 (by omega)
      have hck := hc k hlt
      have HS : Hid (sumOf (l.take (k + 1)) = (151 * sumOf (l.take k) + l.getD k 0 + 1) % 65521) := by rw [Hid, Int.mul_comm 151]; exact sumOf_take_succ l k hlt
      clear hc
      generalize l.getD k 0 = x at *
      go_wp2
      go_round
      case rel => exact ⟨k + 1, by omega, by go_num, by rw [HS.out]⟩
      case measure => simp [intOf]; omega
    · go_wp2
      go_ret
      exact ⟨ret_int (by rw [List.take_of_length_le (by omega)]), rfl⟩

end Go.Proofs.Ytjggiameajndgab

/-
  What sum.Seal and the reference's Seal return: new memory that holds the bytes with their sum behind; nothing old turns.
-/
namespace Go.Proofs.Ytjggiameajndgab
open Go.RowKit

theorem Try.infoB : (Try.prog.info? 5).map (fun i => (i.zero, i.size, i.bytes)) = some (some (.int .u8 0), 1, 1) := by kernel_rfl

set_option maxRecDepth 20000 in
set_option maxHeartbeats 800000 in
theorem seal_any (v : Value) (l : List Int) (w : World) (hlen : l.length ≤ 140737488351232) (h : Bs w v l) :
    Calls Try.prog 89 #[v] w fun e w' => ∃ r, e = .returned r ∧ w'.ownsRow w.heap.size 5 1 r (l.length + 2) ((sealOf l).map (Value.int .u8)) ∧ Below w.heap.size w w' := by
  have hbs := h
  have hbd := sumOf_bd l
  obtain ⟨ao, cap, rfl, h1, h2, h3, h4, h5⟩ := h
  unfold maxLen at h2
  obtain ⟨i0, hi, hz0, hz1, hz2⟩ := info_parts Try.infoB
  go_enter Try.func89, Try.ntmps89
  go_wp2_with (first
    | (go_at_call 94; refine (of_any _ l _ hbs).mono ?_; rintro e w' ⟨rfl, rfl⟩)
    | (at_make; refine wpList_make_own _ rfl _ _ 23 rfl w'.heap.size 5 i0 (.int .u8 0) 1 Try.underlying23 hi hz0 hz1 _ _ _ (l.length + 2) rfl rfl (by omega) (by rw [hz2]; omega) (by unfold maxLen; omega) (Nat.le_refl _) ?_; intro w0 hown0 hgrow0; have hb0 := (Below.refl w'.heap.size w').grown hgrow0 (Nat.le_refl _) (fun k h => by cases h))
    | (at_builtin; refine wpList_append_fits_any _ rfl (.tmp 11) (.tmp 12) 23 rfl w'.heap.size 5 i0 1 Try.underlying23 hi hz1 w'.heap.size 0 (l.length + 2) _ rfl hown0 _ l.length _ (l.map (Value.int .u8)) rfl (by simp) (fun h => by have := h3 h; omega) (h5.below hb0).src (u8_oneCell _) (by omega) ?_; intro w1 hown1 hgrow1; simp only [Nat.zero_add, List.nil_append] at hown1)
    | (at_builtin; refine wpList_append_fits _ rfl (.tmp 14) (.tmp 20) 23 rfl w'.heap.size 5 i0 1 Try.underlying23 hi hz1 w'.heap.size l.length (l.length + 2) _ rfl (hown1.alloc _) ⟨w1.heap.size, 0, none⟩ 2 2 [.int .u8 (sumOf l / 256), .int .u8 (sumOf l % 256)] rfl rfl (by intro t u ht; match t, ht with | 0, ht => simp at ht; subst ht; simp [Addr.add] | 1, ht => simp at ht; subst ht; simp [Addr.add]) (by intro u hu; simp at hu; rcases hu with rfl | rfl <;> rfl) (by omega) ?_; intro w2 hown2 hgrow2))
  go_ret
  refine ⟨_, rfl, by simpa [sealOf] using hown2, ?_⟩
  have hb1 := hb0.grown hgrow1 hb0.size (fun k h => by cases h; exact Nat.le_refl _)
  exact (hb1.alloc hb1.size _).grown hgrow2 (by have := hb1.size; simp; omega) (fun k h => by cases h; exact Nat.le_refl _)

set_option maxRecDepth 20000 in
set_option maxHeartbeats 800000 in
theorem refSeal_any (v : Value) (l : List Int) (w : World) (hlen : l.length ≤ 140737488351232) (h : Bs w v l) :
    Calls Try.prog 90 #[v] w fun e w' => ∃ r, e = .returned r ∧ w'.ownsRow w.heap.size 5 1 r (l.length + 2) ((sealOf l).map (Value.int .u8)) ∧ Below w.heap.size w w' := by
  have hbs := h
  have hbd := sumOf_bd l
  obtain ⟨ao, cap, rfl, h1, h2, h3, h4, h5⟩ := h
  unfold maxLen at h2
  obtain ⟨i0, hi, hz0, hz1, hz2⟩ := info_parts Try.infoB
  go_enter Try.func90, Try.ntmps90
  go_wp2_with (first
    | (go_at_call 95; refine (refSum_any _ l _ hbs).mono ?_; rintro e w' ⟨rfl, rfl⟩)
    | (at_builtin; refine wpList_append_own_any _ rfl (.tmp 6) (.tmp 7) 23 rfl w'.heap.size 5 i0 (.int .u8 0) 1 Try.underlying23 hi hz0 hz1 hz2 rfl _ 0 [] rfl (World.ownsRow_lit w' #[] 0 (Nat.le_refl _) (Nat.zero_le _) (by simp)) _ l.length _ (l.map (Value.int .u8)) rfl (by simp) (fun h => by have := h3 h; omega) (h5.below ((Below.refl _ _).alloc (Nat.le_refl _) _)).src (u8_oneCell _) (by unfold maxLen; omega) (by omega) (by simp) ?_; intro v1 w1 hown1 hgrow1; simp only [Nat.zero_add, List.nil_append] at hown1)
    | (at_builtin; refine wpList_append_own_any _ rfl (.tmp 8) (.tmp 15) 23 rfl w'.heap.size 5 i0 (.int .u8 0) 1 Try.underlying23 hi hz0 hz1 hz2 rfl _ l.length _ rfl (hown1.alloc _) (some ⟨w1.heap.size, 0, none⟩) 2 2 [.int .u8 (sumOf l / 256), .int .u8 (sumOf l % 256)] rfl rfl (fun h => nomatch h) (by intro ad had t u ht; cases had; match t, ht with | 0, ht => simp at ht; subst ht; simp [Addr.add] | 1, ht => simp at ht; subst ht; simp [Addr.add]) (by intro u hu; simp at hu; rcases hu with rfl | rfl <;> rfl) (by unfold maxLen; omega) (by omega) (by have := hgrow1.size; simp at this; simp; omega) ?_; intro v2 w2 hown2 hgrow2))
  go_ret
  refine ⟨_, rfl, by simpa [sealOf] using hown2, ?_⟩
  have hb1 : Below w'.heap.size w' w1 := ((Below.refl _ _).alloc (Nat.le_refl _) _).grown hgrow1 (by simp) (fun k h => by cases h; exact Nat.le_refl _)
  exact (hb1.alloc hb1.size _).grown hgrow2 (by have := hb1.size; simp; omega) (own_base hown1)

end Go.Proofs.Ytjggiameajndgab

/-
  What sum.Sealed and the reference's Sealed return: whether the bytes end with the sum of what is ahead; nothing old turns.
-/
namespace Go.Proofs.Ytjggiameajndgab
open Go.RowKit

theorem wrap_i64_small (n : Nat) (h : n < 65536) : IntKind.i64.wrap (n : Int) = n := by
  simp [IntKind.wrap, IntKind.bits, IntKind.signed]
  omega

theorem or_bytes (x y : Int) (hx : 0 ≤ x ∧ x ≤ 255) (hy : 0 ≤ y ∧ y ≤ 255) : bits .or .i64 (x * 256) y = x * 256 + y := by
  obtain ⟨a, rfl⟩ := Int.eq_ofNat_of_zero_le hx.1
  obtain ⟨b, rfl⟩ := Int.eq_ofNat_of_zero_le hy.1
  have e : ((a : Int) * 256) = ((2 ^ 8 * a : Nat) : Int) := by omega
  have h1 : (BitVec.ofInt 64 ((2 ^ 8 * a : Nat) : Int)).toNat = 2 ^ 8 * a := by
    rw [BitVec.ofInt_natCast, BitVec.toNat_ofNat]; exact Nat.mod_eq_of_lt (by omega)
  have h2 : (BitVec.ofInt 64 (b : Int)).toNat = b := by
    rw [BitVec.ofInt_natCast, BitVec.toNat_ofNat]; exact Nat.mod_eq_of_lt (by omega)
  rw [e]
  show IntKind.i64.wrap ((BitVec.ofInt 64 ((2 ^ 8 * a : Nat) : Int) ||| BitVec.ofInt 64 (b : Int)).toNat : Int) = _
  rw [BitVec.toNat_or, h1, h2, ← Nat.two_pow_add_eq_or_of_lt (by omega), wrap_i64_small _ (by omega)]
  omega

theorem Bs.take {w : World} {ao : Option Addr} {cap n : Nat} {l : List Int} (hn : n ≤ l.length) (h1 : l.length ≤ cap) (h2 : cap ≤ maxLen) (h3 : ao = none → cap = 0) (h4 : Octets l) (h5 : Cs w ao l) : Bs w (.slice ao n cap) (l.take n) := by
  have hlen : (l.take n).length = n := by simp; omega
  refine ⟨ao, cap, by rw [hlen], by omega, h2, h3, fun x hx => h4 x (List.mem_of_mem_take hx), fun hp => ?_⟩
  rw [hlen] at hp
  obtain ⟨b, off, e, hc⟩ := h5 (by omega)
  refine ⟨b, off, e, fun i hi => ?_⟩
  rw [hlen] at hi
  rw [hc i (by omega)]
  simp [List.getD_eq_getElem?_getD, hi]

set_option maxRecDepth 20000 in
set_option maxHeartbeats 800000 in
theorem sealed_any (v : Value) (l : List Int) (w : World) (h : Bs w v l) :
    Calls Try.prog 92 #[v] w fun e w' => e = .returned (.bool (sealedB l)) ∧ ∃ n, w' = w.drewN n := by
  obtain ⟨ao, cap, rfl, h1, h2, h3, h4, h5⟩ := h
  by_cases hlt : l.length < 2
  · unfold maxLen at h2
    have hs : Hid (sealedB l = false) := sealedB_short l hlt
    go_enter Try.func92, Try.ntmps92
    go_wp2
    go_ret
    exact ⟨ret_bool hs.out.symm, 0, rfl⟩
  · obtain ⟨n, hn⟩ : ∃ n, l.length = n + 2 := ⟨l.length - 2, by omega⟩
    have hsub := Bs.take (w := w) (n := n) (by omega) h1 h2 h3 h4 h5
    have hs : Hid (sealedB l = _) := sealedB_eq l h4 n hn
    have hbd := sumOf_bd (l.take n)
    obtain ⟨b, off, rfl, hc⟩ := h5 (by omega)
    have c0 := hc n (by omega)
    have c1 := hc (n + 1) (by omega)
    have x0 := getD_bd h4 n
    have x1 := getD_bd h4 (n + 1)
    have hcap : (n : Int) + 2 ≤ (cap : Int) := by omega
    clear hc
    unfold maxLen at h2
    rw [hn]
    generalize l.getD n 0 = x at *
    generalize l.getD (n + 1) 0 = y at *
    go_enter Try.func92, Try.ntmps92
    go_wp2
    go_quiet ((go_at_call 94; exact Calls.quiet_of_same (of_any _ (l.take n) _ hsub)))
    go_wp2
    go_ret
    exact ⟨ret_bool (by rw [hs.out, or_bytes x y x0 x1]), _, rfl⟩

end Go.Proofs.Ytjggiameajndgab

/-
  What the reference's Sealed returns: whether the bytes end with the sum of what is ahead; nothing old turns.
-/
namespace Go.Proofs.Ytjggiameajndgab
open Go.RowKit

/-- New memory that reads as these bytes. -/
def NewBs (l : List Int) (v : Value) (w : World) : Prop := ∃ g cap, v = .slice (some ⟨g, 0, none⟩) l.length cap ∧ Bs w v l
theorem NewBs.stable (l : List Int) : ∀ (v : Value) (x y : World), NewBs l v x → Grow x y → NewBs l v y := fun _ _ _ ⟨g, cap, hv, hb⟩ h => ⟨g, cap, hv, hb.grow h⟩

theorem refSeal_new (v : Value) (l : List Int) (w : World) (hlen : l.length ≤ 140737488351232) (h : Bs w v l) :
    Calls Try.prog 90 #[v] w fun e w' => ∃ r, e = .returned r ∧ NewBs (sealOf l) r w' ∧ Grow w w' :=
  (refSeal_any v l w hlen h).mono fun e w' ⟨r, he, hown, hb⟩ => by
    obtain ⟨g, cap, rfl, -, -⟩ := hown.form (by omega)
    exact ⟨_, he, ⟨g, cap, by rw [sealOf_length], Bs.of_own hown (sealOf_octets l h.octets)⟩, hb⟩

set_option maxRecDepth 20000 in
set_option maxHeartbeats 1600000 in
theorem refSealed_any (v : Value) (l : List Int) (w : World) (hlen : l.length ≤ 140737488351232) (h : Bs w v l) :
    Calls Try.prog 88 #[v] w fun e w' => e = .returned (.bool (sealedB l)) ∧ Grow w w' := by
  have hbs := h
  obtain ⟨ao, cap, rfl, h1, h2, h3, h4, h5⟩ := h
  by_cases hlt : l.length < 2
  · unfold maxLen at h2
    have hs : Hid (sealedB l = false) := sealedB_short l hlt
    have hd : decide (1 < (l.length : Int)) = false := by simp; omega
    go_enter Try.func88, Try.ntmps88
    go_wp2
    go_quiet (fail)
    go_wp2
    go_ret
    exact ⟨ret_bool hs.out.symm, Grow.drewN _ _⟩
  · obtain ⟨n, hn⟩ : ∃ n, l.length = n + 2 := ⟨l.length - 2, by omega⟩
    have hsub := Bs.take (w := w) (n := n) (by omega) h1 h2 h3 h4 h5
    have ht : (l.take n).length = n := by simp; omega
    unfold maxLen at h2
    rw [hn] at hbs
    rw [hn]
    go_enter Try.func88, Try.ntmps88
    go_wp2
    have hL : l.length ≤ 140737488351232 := hlen
    refine wp_region_stable Grow [IsV (.slice ao (n + 2) cap), IsV (.int .i64 (n + 2)), IsV (.bool true), IsV (.bool true), IsV (.slice ao (n + 2) cap), IsV (.slice ao (n + 2) cap), IsV (.int .i64 (n + 2)), IsV (.int .i64 n), IsV (.slice ao n cap), NewBs (sealOf (l.take n)), IsV (.string (strOfNums (sealOf (l.take n)))), IsV (.slice ao (n + 2) cap), IsV (.string (strOfNums l)), IsV (.bool (sealedB l)), IsV (.bool (sealedB l)), IsV (.bool (sealedB l))] (by kernel_rfl) (by kernel_rfl) rfl Grow.refl (fun _ _ _ => Grow.trans) ?_ ?_ ?_
    · repeat (refine List.forall_mem_cons.2 ⟨by first | exact IsV.stable _ | exact NewBs.stable _, ?_⟩)
      exact fun R hR => nomatch hR
    · skip
      refine StepsS.cons ?_ fun v0 => ⟨_, _, by simp only [Act.put, List.setIfInBounds_toArray, List.set_cons_succ, List.set_cons_zero]; first | done | rfl, by simp only [List.nil_append]; first | done | rfl, ?_⟩
      · intro w1 hE hd
        clear hd
        go_wp2
        exact ⟨_, rfl, Grow.refl _, rfl⟩
      refine StepsS.cons ?_ fun v1 => ⟨_, _, by simp only [Act.put, List.setIfInBounds_toArray, List.set_cons_succ, List.set_cons_zero]; first | done | rfl, by simp only [List.nil_append, List.cons_append]; first | done | rfl, ?_⟩
      · intro w1 hE hd
        obtain rfl := IsV.eq (dep_at hd 0 rfl rfl rfl)
        clear hd
        go_wp2
        exact ⟨_, rfl, Grow.refl _, rfl⟩
      refine StepsS.cons ?_ fun v2 => ⟨_, _, by simp only [Act.put, List.setIfInBounds_toArray, List.set_cons_succ, List.set_cons_zero]; first | done | rfl, by simp only [List.nil_append, List.cons_append]; first | done | rfl, ?_⟩
      · intro w1 hE hd
        obtain rfl := IsV.eq (dep_at hd 0 rfl rfl rfl)
        clear hd
        go_wp2
        exact ⟨_, rfl, Grow.refl _, congrArg Value.bool (by simp; omega)⟩
      refine StepsS.cons ?_ fun v3 => ⟨_, _, by simp only [Act.put, List.setIfInBounds_toArray, List.set_cons_succ, List.set_cons_zero]; first | done | rfl, by simp only [List.nil_append, List.cons_append]; first | done | rfl, ?_⟩
      · intro w1 hE hd
        obtain rfl := IsV.eq (dep_at hd 0 rfl rfl rfl)
        clear hd
        go_wp2
        exact ⟨_, rfl, Grow.refl _, rfl⟩
      refine StepsS.cons ?_ fun v4 => ⟨_, _, by simp only [Act.put, List.setIfInBounds_toArray, List.set_cons_succ, List.set_cons_zero]; first | done | rfl, by simp only [List.nil_append, List.cons_append]; first | done | rfl, ?_⟩
      · intro w1 hE hd
        obtain rfl := IsV.eq (dep_at hd 0 rfl rfl rfl)
        clear hd
        go_wp2
        exact ⟨_, rfl, Grow.refl _, rfl⟩
      refine StepsS.cons ?_ fun v5 => ⟨_, _, by simp only [Act.put, List.setIfInBounds_toArray, List.set_cons_succ, List.set_cons_zero]; first | done | rfl, by simp only [List.nil_append, List.cons_append]; first | done | rfl, ?_⟩
      · intro w1 hE hd
        obtain rfl := IsV.eq (dep_at hd 0 rfl rfl rfl)
        clear hd
        go_wp2
        exact ⟨_, rfl, Grow.refl _, rfl⟩
      refine StepsS.cons ?_ fun v6 => ⟨_, _, by simp only [Act.put, List.setIfInBounds_toArray, List.set_cons_succ, List.set_cons_zero]; first | done | rfl, by simp only [List.nil_append, List.cons_append]; first | done | rfl, ?_⟩
      · intro w1 hE hd
        obtain rfl := IsV.eq (dep_at hd 0 rfl rfl rfl)
        obtain rfl := IsV.eq (dep_at hd 1 rfl rfl rfl)
        clear hd
        go_wp2
        exact ⟨_, rfl, Grow.refl _, rfl⟩
      refine StepsS.cons ?_ fun v7 => ⟨_, _, by simp only [Act.put, List.setIfInBounds_toArray, List.set_cons_succ, List.set_cons_zero]; first | done | rfl, by simp only [List.nil_append, List.cons_append]; first | done | rfl, ?_⟩
      · intro w1 hE hd
        obtain rfl := IsV.eq (dep_at hd 0 rfl rfl rfl)
        obtain rfl := IsV.eq (dep_at hd 1 rfl rfl rfl)
        clear hd
        go_wp2
        exact ⟨_, rfl, Grow.refl _, rfl⟩
      refine StepsS.cons ?_ fun v8 => ⟨_, _, by simp only [Act.put, List.setIfInBounds_toArray, List.set_cons_succ, List.set_cons_zero]; first | done | rfl, by simp only [List.nil_append, List.cons_append]; first | done | rfl, ?_⟩
      · intro w1 hE hd
        obtain rfl := IsV.eq (dep_at hd 0 rfl rfl rfl)
        obtain rfl := IsV.eq (dep_at hd 1 rfl rfl rfl)
        obtain rfl := IsV.eq (dep_at hd 2 rfl rfl rfl)
        clear hd
        go_wp2
        exact ⟨_, rfl, Grow.refl _, rfl⟩
      refine StepsS.cons ?_ fun v9 => ⟨_, _, by simp only [Act.put, List.setIfInBounds_toArray, List.set_cons_succ, List.set_cons_zero]; first | done | rfl, by simp only [List.nil_append, List.cons_append]; first | done | rfl, ?_⟩
      · intro w1 hE hd
        obtain rfl := IsV.eq (dep_at hd 0 rfl rfl rfl)
        obtain rfl := IsV.eq (dep_at hd 1 rfl rfl rfl)
        clear hd
        go_wp2_with fail
        refine (refSeal_new _ _ _ (by omega) (hsub.grow hE.drew)).mono ?_
        rintro e w2 ⟨r, rfl, hr, hg⟩
        go_wp2_with fail
        exact ⟨_, rfl, hg, hr⟩
      refine StepsS.cons ?_ fun v10 => ⟨_, _, by simp only [Act.put, List.setIfInBounds_toArray, List.set_cons_succ, List.set_cons_zero]; first | done | rfl, by simp only [List.nil_append, List.cons_append]; first | done | rfl, ?_⟩
      · intro w1 hE hd
        have d9 := dep_at hd 0 rfl rfl rfl
        obtain rfl := IsV.eq (dep_at hd 1 rfl rfl rfl)
        clear hd
        obtain ⟨g, c9, rfl, hb9⟩ := d9
        have hcv := run_convert_bs 23 5 9 Try.underlying23 Try.underlying5 Try.underlying9 hb9
        go_wp2
        exact ⟨_, rfl, Grow.refl _, rfl⟩
      refine StepsS.cons ?_ fun v11 => ⟨_, _, by simp only [Act.put, List.setIfInBounds_toArray, List.set_cons_succ, List.set_cons_zero]; first | done | rfl, by simp only [List.nil_append, List.cons_append]; first | done | rfl, ?_⟩
      · intro w1 hE hd
        obtain rfl := IsV.eq (dep_at hd 0 rfl rfl rfl)
        clear hd
        go_wp2
        exact ⟨_, rfl, Grow.refl _, rfl⟩
      refine StepsS.cons ?_ fun v12 => ⟨_, _, by simp only [Act.put, List.setIfInBounds_toArray, List.set_cons_succ, List.set_cons_zero]; first | done | rfl, by simp only [List.nil_append, List.cons_append]; first | done | rfl, ?_⟩
      · intro w1 hE hd
        obtain rfl := IsV.eq (dep_at hd 0 rfl rfl rfl)
        obtain rfl := IsV.eq (dep_at hd 1 rfl rfl rfl)
        clear hd
        have hcv := run_convert_bs 23 5 9 Try.underlying23 Try.underlying5 Try.underlying9 (hbs.grow hE.drew)
        go_wp2
        exact ⟨_, rfl, Grow.refl _, rfl⟩
      refine StepsS.cons ?_ fun v13 => ⟨_, _, by simp only [Act.put, List.setIfInBounds_toArray, List.set_cons_succ, List.set_cons_zero]; first | done | rfl, by simp only [List.nil_append, List.cons_append]; first | done | rfl, ?_⟩
      · intro w1 hE hd
        obtain rfl := IsV.eq (dep_at hd 0 rfl rfl rfl)
        obtain rfl := IsV.eq (dep_at hd 1 rfl rfl rfl)
        obtain rfl := IsV.eq (dep_at hd 2 rfl rfl rfl)
        clear hd
        go_wp2
        exact ⟨_, rfl, Grow.refl _, congrArg Value.bool (by rw [str_beq (sealOf_octets _ hsub.octets) h4, sealedB_of l n hn])⟩
      refine StepsS.cons ?_ fun v14 => ⟨_, _, by simp only [Act.put, List.setIfInBounds_toArray, List.set_cons_succ, List.set_cons_zero]; first | done | rfl, by simp only [List.nil_append, List.cons_append]; first | done | rfl, ?_⟩
      · intro w1 hE hd
        obtain rfl := IsV.eq (dep_at hd 0 rfl rfl rfl)
        obtain rfl := IsV.eq (dep_at hd 1 rfl rfl rfl)
        clear hd
        go_wp2
        exact ⟨_, rfl, Grow.refl _, rfl⟩
      refine StepsS.cons ?_ fun v15 => ⟨_, _, by simp only [Act.put, List.setIfInBounds_toArray, List.set_cons_succ, List.set_cons_zero]; first | done | rfl, by simp only [List.nil_append, List.cons_append]; first | done | rfl, ?_⟩
      · intro w1 hE hd
        obtain rfl := IsV.eq (dep_at hd 0 rfl rfl rfl)
        clear hd
        go_wp2
        exact ⟨_, rfl, Grow.refl _, rfl⟩
      trivial
    intro wR hwR
    refine FinS.cons ?_; rintro _ rfl; refine ⟨_, by simp only [Act.put, List.setIfInBounds_toArray, List.set_cons_succ, List.set_cons_zero]; first | done | rfl, ?_⟩
    refine FinS.cons ?_; rintro _ rfl; refine ⟨_, by simp only [Act.put, List.setIfInBounds_toArray, List.set_cons_succ, List.set_cons_zero]; first | done | rfl, ?_⟩
    refine FinS.cons ?_; rintro _ rfl; refine ⟨_, by simp only [Act.put, List.setIfInBounds_toArray, List.set_cons_succ, List.set_cons_zero]; first | done | rfl, ?_⟩
    refine FinS.cons ?_; rintro _ rfl; refine ⟨_, by simp only [Act.put, List.setIfInBounds_toArray, List.set_cons_succ, List.set_cons_zero]; first | done | rfl, ?_⟩
    refine FinS.cons ?_; rintro _ rfl; refine ⟨_, by simp only [Act.put, List.setIfInBounds_toArray, List.set_cons_succ, List.set_cons_zero]; first | done | rfl, ?_⟩
    refine FinS.cons ?_; rintro _ rfl; refine ⟨_, by simp only [Act.put, List.setIfInBounds_toArray, List.set_cons_succ, List.set_cons_zero]; first | done | rfl, ?_⟩
    refine FinS.cons ?_; rintro _ rfl; refine ⟨_, by simp only [Act.put, List.setIfInBounds_toArray, List.set_cons_succ, List.set_cons_zero]; first | done | rfl, ?_⟩
    refine FinS.cons ?_; rintro _ rfl; refine ⟨_, by simp only [Act.put, List.setIfInBounds_toArray, List.set_cons_succ, List.set_cons_zero]; first | done | rfl, ?_⟩
    refine FinS.cons ?_; rintro _ rfl; refine ⟨_, by simp only [Act.put, List.setIfInBounds_toArray, List.set_cons_succ, List.set_cons_zero]; first | done | rfl, ?_⟩
    refine FinS.cons fun v9 h9 => ⟨_, by simp only [Act.put, List.setIfInBounds_toArray, List.set_cons_succ, List.set_cons_zero]; first | done | rfl, ?_⟩
    refine FinS.cons ?_; rintro _ rfl; refine ⟨_, by simp only [Act.put, List.setIfInBounds_toArray, List.set_cons_succ, List.set_cons_zero]; first | done | rfl, ?_⟩
    refine FinS.cons ?_; rintro _ rfl; refine ⟨_, by simp only [Act.put, List.setIfInBounds_toArray, List.set_cons_succ, List.set_cons_zero]; first | done | rfl, ?_⟩
    refine FinS.cons ?_; rintro _ rfl; refine ⟨_, by simp only [Act.put, List.setIfInBounds_toArray, List.set_cons_succ, List.set_cons_zero]; first | done | rfl, ?_⟩
    refine FinS.cons ?_; rintro _ rfl; refine ⟨_, by simp only [Act.put, List.setIfInBounds_toArray, List.set_cons_succ, List.set_cons_zero]; first | done | rfl, ?_⟩
    refine FinS.cons ?_; rintro _ rfl; refine ⟨_, by simp only [Act.put, List.setIfInBounds_toArray, List.set_cons_succ, List.set_cons_zero]; first | done | rfl, ?_⟩
    refine FinS.cons ?_; rintro _ rfl; refine ⟨_, by simp only [Act.put, List.setIfInBounds_toArray, List.set_cons_succ, List.set_cons_zero]; first | done | rfl, ?_⟩
    first | show Exit.then _ _ _ _ _ | show Exit.inBlock _ _ _ _ _
    go_wp2
    go_ret
    exact ⟨rfl, hwR.drew⟩

end Go.Proofs.Ytjggiameajndgab

/-
  The statement that the sum, the seal and the test are the document's own, walked: whatever bytes: it returns true, and nothing old turns.
-/
namespace Go.Proofs.Ytjggiameajndgab
open Go.RowKit

theorem seal_new (v : Value) (l : List Int) (w : World) (hlen : l.length ≤ 140737488351232) (h : Bs w v l) :
    Calls Try.prog 89 #[v] w fun e w' => ∃ r, e = .returned r ∧ NewBs (sealOf l) r w' ∧ Grow w w' :=
  (seal_any v l w hlen h).mono fun e w' ⟨r, he, hown, hb⟩ => by
    obtain ⟨g, cap, rfl, -, -⟩ := hown.form (by omega)
    exact ⟨_, he, ⟨g, cap, by rw [sealOf_length], Bs.of_own hown (sealOf_octets l h.octets)⟩, hb⟩

end Go.Proofs.Ytjggiameajndgab

/-
  What the closed fact at the head of the outright statement returns: true.
-/
namespace Go.Proofs.Ytjggiameajndgab
open Go.RowKit

theorem of_nil (w : World) : Calls Try.prog 94 #[.slice none 0 0] w fun e w' => e = .returned (.int .i64 13) ∧ w' = w := of_any _ [] w (Bs.nil w)

theorem sealed_yes (v : Value) (l : List Int) (w : World) (h : Bs w v l) (hs : sealedB l = true) :
    Calls Try.prog 92 #[v] w fun e w' => e = .returned (.bool true) ∧ ∃ n, w' = w.drewN n := by rw [← hs]; exact sealed_any v l w h

theorem sealed_no (v : Value) (l : List Int) (w : World) (h : Bs w v l) (hs : sealedB l = false) :
    Calls Try.prog 92 #[v] w fun e w' => e = .returned (.bool false) ∧ ∃ n, w' = w.drewN n := by rw [← hs]; exact sealed_any v l w h

theorem octets_ab : Octets [97, 98] := by intro x hx; simp at hx; omega

theorem below_drewN {B : Nat} {a w : World} (h : Below B a w) (n : Nat) : Below B a (w.drewN n) := ⟨h.os, h.tape, h.output, h.size, h.block⟩

end Go.Proofs.Ytjggiameajndgab

/-
  The outright statement of chapter 1, walked: whatever bytes, whatever place, whatever byte: it returns true, and nothing old turns.
-/
namespace Go.Proofs.Ytjggiameajndgab
open Go.RowKit

/-- Behind a store into a row of the call's own that holds bytes: the bytes with that one turned. -/
theorem Bs.stored {w : World} {base : Nat} {e : TypeId} {g n cap k : Nat} {l : List Int} {c : Int} (h : w.ownsRow base e 1 (.slice (some ⟨g, 0, none⟩) n cap) n (l.map (Value.int .u8))) (ho : Octets l) (hc : 0 ≤ c ∧ c ≤ 255) :
    Bs (w.setCell ⟨g, k, none⟩ (.int .u8 c)) (.slice (some ⟨g, 0, none⟩) n cap) (l.set k c) := by
  have h1 := (h.stored k (.int .u8 c)).1
  rw [← List.map_set] at h1
  refine Bs.of_own h1 fun x hx => ?_
  rcases List.mem_or_eq_of_mem_set hx with hx | rfl
  · exact ho x hx
  · exact hc

end Go.Proofs.Ytjggiameajndgab

/-
  What the program's cells return: There, Bytes, Read; and the reference's CellBytes and CellRead. Nothing old turns.
-/
namespace Go.Proofs.Ytjggiameajndgab
open Go.RowKit

set_option maxRecDepth 20000 in
set_option maxHeartbeats 400000 in
theorem there_any (d s : Int) (w : World) :
    Calls Try.prog 97 #[.int .i64 d, .int .i64 s] w fun e w' => e = .returned (.bool (thereB d s)) ∧ w' = w := by
  have hc : d < 0 ∨ (0 ≤ d ∧ 4 ≤ d) ∨ (0 ≤ d ∧ d < 4 ∧ s < 0) ∨ (0 ≤ d ∧ d < 4 ∧ 0 ≤ s ∧ 3 ≤ s) ∨ (0 ≤ d ∧ d < 4 ∧ 0 ≤ s ∧ s < 3) := by omega
  have HT : Hid (thereB d s = decide (0 ≤ d ∧ d < 4 ∧ 0 ≤ s ∧ s < 3)) := rfl
  rcases hc with h | ⟨h, h'⟩ | ⟨h, h', h''⟩ | ⟨h, h', h'', h'''⟩ | ⟨h, h', h'', h'''⟩
  all_goals
    go_enter Try.func97, Try.ntmps97
    go_wp2
    go_ret
    exact ⟨ret_bool (by rw [HT.out]; first | exact (decide_eq_true (by omega)).symm | exact (decide_eq_false (by omega)).symm | exact decide_eq_decide.2 (by omega)), rfl⟩

theorem Bs.cut {w : World} {cap n m : Nat} {l : List Int} {b off : Nat} (hm : n + m ≤ l.length) (h1 : l.length ≤ cap) (h2 : cap ≤ maxLen) (h4 : Octets l) (hc : ∀ i, i < l.length → w.cell? ⟨b, off + i, none⟩ = some (.int .u8 (l.getD i 0))) :
    Bs w (.slice (some ⟨b, off + n, none⟩) m (cap - n)) ((l.drop n).take m) := by
  have hlen : ((l.drop n).take m).length = m := by simp; omega
  refine ⟨some ⟨b, off + n, none⟩, cap - n, by rw [hlen], by omega, by omega, (fun h => nomatch h), fun x hx => h4 x (List.mem_of_mem_drop (List.mem_of_mem_take hx)), fun _ => ⟨b, off + n, rfl, fun i hi => ?_⟩⟩
  rw [hlen] at hi
  rw [Nat.add_assoc, hc (n + i) (by omega)]
  simp [List.getD_eq_getElem?_getD, hi]

theorem Bs.lit {w : World} {e : TypeId} {l : List Int} (h : l.length ≤ maxLen) (ho : Octets l) (mk : Nat × Nat) : Bs (w.alloc (.cells (l.map (Value.int .u8)).toArray e mk)) (.slice (some ⟨w.heap.size, 0, none⟩) l.length l.length) l := by
  refine ⟨some ⟨w.heap.size, 0, none⟩, l.length, rfl, Nat.le_refl _, h, (fun h => nomatch h), ho, fun _ => ⟨w.heap.size, 0, rfl, fun i hi => ?_⟩⟩
  simp only [World.cell?, heap_alloc_new w]
  simp [hi, List.getD_eq_getElem?_getD]

theorem ret_bs2 {v : Value} {k2 : IntKind} {a2 b2 : Int} (h2 : a2 = b2) : Ending.returned (.tuple #[v, .int k2 a2]) = .returned (.tuple #[v, .int k2 b2]) := by rw [h2]

/-- A row of one-cell bytes that is known whole. -/
theorem Bs.row {w : World} {e : TypeId} {mk : Nat × Nat} {g n : Nat} {l : List Int} (hg : w.heap[g]? = some (.cells (l.map (Value.int .u8)).toArray e mk)) (hn : l.length = n) (h : n ≤ maxLen) (ho : Octets l) : Bs w (.slice (some ⟨g, 0, none⟩) n n) l := by
  subst hn
  refine ⟨some ⟨g, 0, none⟩, l.length, rfl, Nat.le_refl _, h, (fun h => nomatch h), ho, fun _ => ⟨g, 0, rfl, fun i hi => ?_⟩⟩
  simp only [World.cell?, hg]
  simp [hi, List.getD_eq_getElem?_getD]

theorem Try.made4 (w : World) : (Instr.makeSlice 23 (.int .i64 4) (.int .i64 4)).run Try.prog w = .ok (.slice (some ⟨w.heap.size, 0, none⟩) 4 4) (w.alloc (.cells #[.int .u8 0, .int .u8 0, .int .u8 0, .int .u8 0] 5)) :=
  (run_make_row' (P := Try.prog) 23 5 (.int .u8 0) 1 Try.underlying23 Try.infoB rfl .i64 .i64 4 (by decide) (by decide) w).trans (by rw [show madeCells #[.int .u8 0] 4 = #[Value.int .u8 0, .int .u8 0, .int .u8 0, .int .u8 0] from Array.toList_inj.1 (toList_madeCells_one _ _)])

theorem Try.sizeB : (Try.prog.info? 5).map (·.size) = some 1 := by kernel_rfl

/-- A copy that fills a row of the call's own. -/
theorem run_copy_fill {P : Program} {w0 w : World} (dT sT ty elem : TypeId) (hu : P.underlying dT = some (.slice elem)) (hsz : (P.info? elem).map (·.size) = some 1) {g n m c cap : Nat} {cur : Array Value} {t : TypeId} {ad : Addr} {zs : List Int}
    (hg : w.heap[g]? = some (.cells cur t (0, 0))) (hcur : cur.size = n) (hz : zs.length = n) (hm : n ≤ m) (hsrc : Bs w (.slice (some ad) n cap) zs) (hG : Grow w0 w) (hB : w0.heap.size ≤ g) :
    ∃ w', (Builtin.copy_ #[dT, sT] ty #[.slice (some ⟨g, 0, none⟩) n n, .slice (some ad) m c]).run P w = .ok (goInt n) w' ∧ Hid (w'.heap[g]? = some (.cells (zs.map (Value.int .u8)).toArray t (0, 0))) ∧ Grow w0 w' := by
  have hcs : Cs w (some ad) zs := by
    obtain ⟨a1, c1, e1, -, -, -, -, h⟩ := hsrc
    injection e1 with e1 _ _
    rw [e1]
    exact h
  have hrun := run_copy_row (P := P) w dT sT ty elem g 0 n n ad m c cur t (zs.map (Value.int .u8)) hu hsz hg (by simp [hz, Nat.min_eq_right hm]) (hcs.src _ rfl) (by simp [hz, hcur]) (u8_oneCell _)
  rw [show (zs.map (Value.int .u8)).length = n from by simp [hz]] at hrun
  refine ⟨_, hrun, ?_, below_setRow hG hB _⟩
  have h2 := setRow_heap w g cur (cur.toList.take 0 ++ zs.map (Value.int .u8) ++ cur.toList.drop (0 + n)).toArray t (0, 0) hg
  rw [Hid, h2]
  simp [List.drop_eq_nil_of_le, hcur]

/-- What a read returns. -/
def ReadPost (l : List Int) (d s : Int) (w : World) (e : Ending) (w' : World) : Prop := ∃ r, e = .returned (.tuple #[r, .int .i64 (readE l d s)]) ∧ Bs w' r (readX l d s) ∧ Grow w w'

/-- Four bytes in new memory, or none. -/
def FreshX (w : World) (x : List Int) (r : Value) (w' : World) : Prop := (r = .slice none 0 0 ∧ x = []) ∨ ∃ b, r = .slice (some ⟨b, 0, none⟩) 4 4 ∧ w.heap.size ≤ b ∧ w'.heap[b]? = some (.cells (x.map (Value.int .u8)).toArray 5 (0, 0)) ∧ x.length = 4 ∧ Octets x

theorem FreshX.bs {w w' : World} {x : List Int} {r : Value} (h : FreshX w x r w') : Bs w' r x := by
  rcases h with ⟨rfl, rfl⟩ | ⟨b, rfl, -, hb, hl, ho⟩
  · exact Bs.nil _
  · exact Bs.row hb hl (by unfold maxLen; omega) ho

/-- What a read returns, and where. -/
def ReadFresh (l : List Int) (d s : Int) (w : World) (e : Ending) (w' : World) : Prop := ∃ r, e = .returned (.tuple #[r, .int .i64 (readE l d s)]) ∧ FreshX w (readX l d s) r w' ∧ Grow w w'

theorem ReadPost.none {l : List Int} {d s k : Int} {w w' : World} (h : readX l d s = [] ∧ readE l d s = k) (hg : Grow w w') : ReadFresh l d s w (.returned (.tuple #[.slice none 0 0, .int .i64 k])) w' :=
  ⟨_, by rw [h.2], .inl ⟨rfl, h.1⟩, hg⟩

set_option maxRecDepth 20000 in
set_option maxHeartbeats 1600000 in
theorem read_fresh (v : Value) (l : List Int) (d s : Int) (w : World) (h : Bs w v l) :
    Calls Try.prog 73 #[v, .int .i64 d, .int .i64 s] w (ReadFresh l d s w) := by
  have hbs := h
  obtain ⟨ao, cap, rfl, h1, h2, h3, h4, h5⟩ := h
  by_cases hl : l.length = 8
  · cases hs : sealedB l with
    | false =>
      have HR : Hid (readX l d s = [] ∧ readE l d s = 7) := read_sum d s (by rw [hs]; simp)
      rw [hl] at hbs
      rw [hl]
      clear h5 h1 h2 h3
      go_enter Try.func73, Try.ntmps73
      go_wp2_with fail
      refine (sealed_no _ _ _ hbs hs).mono ?_
      rintro e w1 ⟨rfl, n, rfl⟩
      go_wp2_with fail
      go_ret2
      exact ReadPost.none HR.out (Grow.drewN _ _)
    | true =>
      obtain ⟨b, off, rfl, hc⟩ := h5 (by omega)
      have c0 := hc 0 (by omega)
      rw [Nat.add_zero] at c0
      have c1 := hc 1 (by omega)
      have c2 := hc 2 (by omega)
      have c3 := hc 3 (by omega)
      have c4 := hc 4 (by omega)
      have c5 := hc 5 (by omega)
      have x0 := getD_bd h4 0
      have x1 := getD_bd h4 1
      have hx : Hid ((l.drop 2).take 4 = [l.getD 2 0, l.getD 3 0, l.getD 4 0, l.getD 5 0]) := by
        match l, hl with
        | [a0, a1, a2, a3, a4, a5, a6, a7], _ => rfl
      have hcap : (8 : Int) ≤ (cap : Int) := by omega
      have hsub : Bs w (.slice (some ⟨b, off + 2, none⟩) 4 (cap - 2)) ((l.drop 2).take 4) := Bs.cut (by omega) h1 h2 h4 hc
      clear hc
      unfold maxLen at h2
      rw [hl] at hbs
      rw [hl]
      by_cases hp : l.getD 0 0 = d
      · by_cases hq : l.getD 1 0 = s
        · have HR : Hid (readX l d s = (l.drop 2).take 4 ∧ readE l d s = 0) := read_ok ⟨hl, hs⟩ ⟨hp, hq⟩
          generalize l.getD 0 0 = y0 at *
          generalize l.getD 1 0 = y1 at *
          go_enter Try.func73, Try.ntmps73
          go_wp2_with fail
          refine (sealed_yes _ _ _ hbs hs).mono ?_
          rintro e w1 ⟨rfl, n, rfl⟩
          have hlen : ((l.drop 2).take 4).length = 4 := by simp [hl]
          have hso : Octets ((l.drop 2).take 4) := fun x hx => h4 x (List.mem_of_mem_drop (List.mem_of_mem_take hx))
          have hgr : Grow w ((w.drewN n).alloc (.cells #[.int .u8 0, .int .u8 0, .int .u8 0, .int .u8 0] 5)) := (Grow.drewN w n).trans (Grow.alloc _ _)
          obtain ⟨w2, hcp, HG2, hB2⟩ := run_copy_fill (P := Try.prog) 23 23 3 5 Try.underlying23 Try.sizeB (g := w.heap.size) (n := 4) (m := 6) (c := cap - 2) (heap_alloc_new (w.drewN n) _) rfl hlen (by omega) (hsub.grow hgr) hgr (Nat.le_refl _)
          have hmk := Try.made4 (w.drewN n)
          go_wp2_with fail
          go_ret2
          exact ⟨_, ret_bs2 HR.out.2.symm, by rw [HR.out.1]; exact .inr ⟨_, rfl, Nat.le_refl _, HG2.out, hlen, hso⟩, hB2⟩
        · have HR : Hid (readX l d s = [] ∧ readE l d s = 8) := read_place ⟨hl, hs⟩ (fun h => hq h.2)
          generalize l.getD 0 0 = y0 at *
          generalize l.getD 1 0 = y1 at *
          go_enter Try.func73, Try.ntmps73
          go_wp2_with fail
          refine (sealed_yes _ _ _ hbs hs).mono ?_
          rintro e w1 ⟨rfl, n, rfl⟩
          go_wp2_with fail
          go_ret2
          exact ReadPost.none HR.out (Grow.drewN _ _)
      · have HR : Hid (readX l d s = [] ∧ readE l d s = 8) := read_place ⟨hl, hs⟩ (fun h => hp h.1)
        generalize l.getD 0 0 = y0 at *
        generalize l.getD 1 0 = y1 at *
        go_enter Try.func73, Try.ntmps73
        go_wp2_with fail
        refine (sealed_yes _ _ _ hbs hs).mono ?_
        rintro e w1 ⟨rfl, n, rfl⟩
        go_wp2_with fail
        go_ret2
        exact ReadPost.none HR.out (Grow.drewN _ _)
  · have HR : Hid (readX l d s = [] ∧ readE l d s = 7) := read_sum d s (by simp [hl])
    have hl' : ¬ (l.length : Int) = 8 := by omega
    unfold maxLen at h2
    go_enter Try.func73, Try.ntmps73
    go_wp2_with fail
    go_ret2
    exact ReadPost.none HR.out (Grow.refl _)

theorem read_any (v : Value) (l : List Int) (d s : Int) (w : World) (h : Bs w v l) :
    Calls Try.prog 73 #[v, .int .i64 d, .int .i64 s] w (ReadPost l d s w) :=
  (read_fresh v l d s w h).mono fun _ _ ⟨r, he, hf, hg⟩ => ⟨r, he, hf.bs, hg⟩

end Go.Proofs.Ytjggiameajndgab

/-
  What the reference's CellRead and CellBytes return, and the program's Bytes. Nothing old turns.
-/
namespace Go.Proofs.Ytjggiameajndgab
open Go.RowKit

theorem ownsRow_mono {w : World} {base base' : Nat} {e : TypeId} {size : Nat} {v : Value} {n : Nat} {xs : List Value} (h : w.ownsRow base e size v n xs) (hb : base' ≤ base) : w.ownsRow base' e size v n xs :=
  ⟨h.1, h.2.imp id fun ⟨g, cap, cur, h1, h2, h3⟩ => ⟨g, cap, cur, h1, Nat.le_trans hb h2, h3⟩⟩

/-- What a read returns that makes nothing new: it reads so wherever the bytes do. -/
def ReadSub (v : Value) (l : List Int) (d s : Int) (w : World) (e : Ending) (w' : World) : Prop := ∃ r, e = .returned (.tuple #[r, .int .i64 (readE l d s)]) ∧ (∀ w2, Bs w2 v l → Bs w2 r (readX l d s)) ∧ Grow w w'

theorem ReadSub.none {v : Value} {l : List Int} {d s k : Int} {w w' : World} (h : readX l d s = [] ∧ readE l d s = k) (hg : Grow w w') : ReadSub v l d s w (.returned (.tuple #[.slice none 0 0, .int .i64 k])) w' :=
  ⟨_, by rw [h.2], fun w2 _ => by rw [h.1]; exact Bs.nil _, hg⟩

set_option maxRecDepth 20000 in
set_option maxHeartbeats 1600000 in
theorem refRead_sub (v : Value) (l : List Int) (d s : Int) (w : World) (h : Bs w v l) :
    Calls Try.prog 67 #[v, .int .i64 d, .int .i64 s] w (ReadSub v l d s w) := by
  have hbs := h
  obtain ⟨ao, cap, rfl, h1, h2, h3, h4, h5⟩ := h
  by_cases hl : l.length = 8
  · have hcall := fun w1 hb => refSealed_any (.slice ao 8 cap) l w1 (by omega) hb
    rw [hl] at hbs
    cases hs : sealedB l with
    | false =>
      have HR : Hid (readX l d s = [] ∧ readE l d s = 7) := read_sum d s (by rw [hs]; simp)
      rw [hs] at hcall
      rw [hl]
      clear h5 h1 h2 h3
      go_enter Try.func67, Try.ntmps67
      go_wp2_with fail
      refine (hcall _ hbs).mono ?_
      rintro e w1 ⟨rfl, hg⟩
      go_wp2_with fail
      go_ret2
      exact ReadSub.none HR.out hg
    | true =>
      obtain ⟨b, off, rfl, -⟩ := h5 (by omega)
      rw [hs] at hcall
      have x0 := getD_bd h4 0
      have x1 := getD_bd h4 1
      have hcap : (8 : Int) ≤ (cap : Int) := by omega
      have h1' := h1
      have h2' := h2
      rw [hl]
      clear h5
      unfold maxLen at h2
      go_enter Try.func67, Try.ntmps67
      go_wp2_with fail
      refine (hcall _ hbs).mono ?_
      rintro e w1 ⟨rfl, hg⟩
      have hc := (hbs.grow hg).cells
      have c0 := hc 0 (by omega)
      rw [Nat.add_zero] at c0
      have c1 := hc 1 (by omega)
      clear hc hcall
      by_cases hp : l.getD 0 0 = d
      · by_cases hq : l.getD 1 0 = s
        · have HR : Hid (readX l d s = (l.drop 2).take 4 ∧ readE l d s = 0) := read_ok ⟨hl, hs⟩ ⟨hp, hq⟩
          generalize l.getD 0 0 = y0 at *
          generalize l.getD 1 0 = y1 at *
          go_wp2_with fail
          go_ret2
          exact ⟨_, ret_bs2 HR.out.2.symm, fun w2 hw2 => by rw [HR.out.1]; exact Bs.cut (by omega) h1' h2' h4 hw2.cells, hg⟩
        · have HR : Hid (readX l d s = [] ∧ readE l d s = 8) := read_place ⟨hl, hs⟩ (fun h => hq h.2)
          generalize l.getD 0 0 = y0 at *
          generalize l.getD 1 0 = y1 at *
          go_wp2_with fail
          go_ret2
          exact ReadSub.none HR.out hg
      · have HR : Hid (readX l d s = [] ∧ readE l d s = 8) := read_place ⟨hl, hs⟩ (fun h => hp h.1)
        generalize l.getD 0 0 = y0 at *
        generalize l.getD 1 0 = y1 at *
        go_wp2_with fail
        go_ret2
        exact ReadSub.none HR.out hg
  · have HR : Hid (readX l d s = [] ∧ readE l d s = 7) := read_sum d s (by simp [hl])
    have hl' : ¬ (l.length : Int) = 8 := by omega
    unfold maxLen at h2
    go_enter Try.func67, Try.ntmps67
    go_wp2_with fail
    go_ret2
    exact ReadSub.none HR.out (Grow.refl _)

theorem refRead_any (v : Value) (l : List Int) (d s : Int) (w : World) (h : Bs w v l) :
    Calls Try.prog 67 #[v, .int .i64 d, .int .i64 s] w (ReadPost l d s w) :=
  (refRead_sub v l d s w h).mono fun _ _ ⟨r, he, hr, hg⟩ => ⟨r, he, hr _ (h.grow hg), hg⟩

theorem strOfNums_append (a b : List Int) : strOfNums a ++ strOfNums b = strOfNums (a ++ b) := by
  apply ByteArray.ext
  apply Array.toList_inj.1
  simp [strOfNums]

theorem bytesRow_nums {l : List Int} (h : Octets l) (c : Nat) : (bytesRow (strOfNums l) c).toList = l.map (Value.int .u8) ++ List.replicate (c - l.length) (.int .u8 0) := by
  simp only [bytesRow, Array.toList_append, Array.toList_map, strOfNums_data, List.map_map, strOfNums_size, Array.toList_replicate]
  congr 1
  apply List.map_congr_left
  intro x hx
  have := h x hx
  simp only [Function.comp, UInt8.toNat_ofNat']
  congr 1
  omega

/-- A string's bytes as a slice. -/
theorem run_convert_sb {P : Program} (w : World) (src dst e : TypeId) (hs : P.underlying src = some .string) (hd : P.underlying dst = some (.slice e)) (he : P.underlying e = some (.int .u8)) {l : List Int} (ho : Octets l) (hl : l.length ≤ maxLen) :
    ∃ v w', (convert src dst (.string (strOfNums l))).run P w = .ok v w' ∧ Bs w' v l ∧ Grow w w' := by
  refine ⟨_, _, run_bytes_of_string w src dst e _ hs hd he, ?_, Grow.trans (y := w.drew) ⟨rfl, rfl, rfl, Nat.le_refl _, fun _ _ => rfl⟩ (Grow.alloc _ _)⟩
  have hge := grownCap_ge w (strOfNums l).size 0 e
  have hle := grownCap_le_maxLen w (strOfNums l).size 0 e (by rw [strOfNums_size]; exact hl)
  rw [strOfNums_size] at hge hle
  generalize hc : grownCap w (strOfNums l).size 0 e = c at *
  rw [strOfNums_size] at hc ⊢
  refine ⟨some ⟨w.heap.size, 0, none⟩, c, rfl, by rw [← hc]; exact hge, by rw [← hc]; exact hle, (fun h => nomatch h), ho, fun _ => ⟨w.heap.size, 0, rfl, fun i hi => ?_⟩⟩
  have hh : ((w.drew).alloc (.cells (bytesRow (strOfNums l) c) e ((bytesRow (strOfNums l) c).size, (bytesRow (strOfNums l) c).size + 1))).heap[w.heap.size]? = _ := heap_alloc_new w.drew _
  simp only [World.cell?, hh]
  rw [← Array.getElem?_toList, bytesRow_nums ho, List.getElem?_append_left (by simpa using hi)]
  simp [hi, List.getD_eq_getElem?_getD]

theorem pair_map (d s : Int) (l : List Int) : [Value.int .u8 d, Value.int .u8 s] ++ l.map (Value.int .u8) = (d :: s :: l).map (Value.int .u8) := rfl

set_option maxRecDepth 20000 in
set_option maxHeartbeats 1600000 in
theorem bytes_any (v : Value) (l : List Int) (d s : Int) (w : World) (hlen : l.length ≤ 140737488351000) (hd : 0 ≤ d ∧ d ≤ 255) (hs : 0 ≤ s ∧ s ≤ 255) (h : Bs w v l) :
    Calls Try.prog 68 #[.int .i64 d, .int .i64 s, v] w fun e w' => ∃ r, e = .returned r ∧ w'.ownsRow w.heap.size 5 1 r (l.length + 4) ((cellOf d s l).map (Value.int .u8)) ∧ Grow w w' := by
  have hbs := h
  obtain ⟨ao, cap, rfl, h1, h2, h3, h4, h5⟩ := h
  unfold maxLen at h2
  obtain ⟨hd0, hd1⟩ := hd
  obtain ⟨hs0, hs1⟩ := hs
  have HP : Hid ([Value.int .u8 d, Value.int .u8 s] ++ l.map (Value.int .u8) = (d :: s :: l).map (Value.int .u8)) := rfl
  obtain ⟨i0, hi, hz0, hz1, hz2⟩ := info_parts Try.infoB
  go_enter Try.func68, Try.ntmps68
  go_wp2_with (first
    | (at_make; refine wpList_make_own _ rfl _ _ 23 rfl w.heap.size 5 i0 (.int .u8 0) 1 Try.underlying23 hi hz0 hz1 _ _ _ (l.length + 2) rfl rfl (by omega) (by rw [hz2]; omega) (by unfold maxLen; omega) (Nat.le_refl _) ?_; intro w0 hown0 hgrow0; have hb0 := (Below.refl w.heap.size w).grown hgrow0 (Nat.le_refl _) (fun k h => by cases h))
    | (at_builtin; refine wpList_append_fits _ rfl (.tmp 12) (.tmp 17) 23 rfl w.heap.size 5 i0 1 Try.underlying23 hi hz1 w.heap.size 0 (l.length + 2) _ rfl (hown0.alloc _) ⟨w0.heap.size, 0, none⟩ 2 2 [.int .u8 d, .int .u8 s] rfl rfl (by intro t u ht; match t, ht with | 0, ht => simp at ht; subst ht; simp [Addr.add] | 1, ht => simp at ht; subst ht; simp [Addr.add]) (by intro u hu; simp at hu; rcases hu with rfl | rfl <;> rfl) (by omega) ?_; intro w1 hown1 hgrow1; have hb1 := (hb0.alloc hb0.size _).grown hgrow1 (by have := hb0.size; simp; omega) (fun k h => by cases h; exact Nat.le_refl _))
    | (at_builtin; refine wpList_append_fits_any _ rfl (.tmp 19) (.tmp 20) 23 rfl w.heap.size 5 i0 1 Try.underlying23 hi hz1 w.heap.size 2 (l.length + 2) _ rfl hown1 _ l.length _ (l.map (Value.int .u8)) rfl (by simp) (fun h => by have := h3 h; omega) (h5.below hb1).src (u8_oneCell _) (by omega) ?_; intro w2 hown2 hgrow2; have hb2 := hb1.grown hgrow2 hb1.size (fun k h => by cases h; exact Nat.le_refl _)))
  have hown3 : w2.ownsRow w.heap.size 5 1 (.slice (some ⟨w.heap.size, 0, none⟩) (2 + l.length) (l.length + 2)) (2 + l.length) ((d :: s :: l).map (Value.int .u8)) := hown2
  have hbs2 : Bs w2 _ (d :: s :: l) := Bs.of_own hown3 (octets_cons ⟨hd0, hd1⟩ ⟨hs0, hs1⟩ h4)
  refine (seal_any _ (d :: s :: l) _ (by simp; omega) hbs2).mono ?_
  rintro e w3 ⟨r, rfl, hown4, hb3⟩
  go_wp2_with fail
  go_ret
  exact ⟨r, rfl, ownsRow_mono hown4 hb2.size, Grow.trans hb2 hb3⟩

theorem bytes_new (v : Value) (l : List Int) (d s : Int) (w : World) (hlen : l.length ≤ 140737488351000) (hd : 0 ≤ d ∧ d ≤ 255) (hs : 0 ≤ s ∧ s ≤ 255) (h : Bs w v l) :
    Calls Try.prog 68 #[.int .i64 d, .int .i64 s, v] w fun e w' => ∃ r, e = .returned r ∧ NewBs (cellOf d s l) r w' ∧ Grow w w' :=
  (bytes_any v l d s w hlen hd hs h).mono fun e w' ⟨r, he, hown, hb⟩ => by
    obtain ⟨g, cap, rfl, -, -⟩ := hown.form (by omega)
    exact ⟨_, he, ⟨g, cap, by rw [cellOf_length], Bs.of_own hown (cellOf_octets hd hs h.octets)⟩, hb⟩

set_option maxRecDepth 20000 in
set_option maxHeartbeats 1600000 in
theorem refBytes_new (v : Value) (l : List Int) (d s : Int) (w : World) (hlen : l.length ≤ 140737488351000) (hd : 0 ≤ d ∧ d ≤ 255) (hs : 0 ≤ s ∧ s ≤ 255) (h : Bs w v l) :
    Calls Try.prog 69 #[.int .i64 d, .int .i64 s, v] w fun e w' => ∃ r, e = .returned r ∧ NewBs (cellOf d s l) r w' ∧ Grow w w' := by
  have hbs := h
  obtain ⟨ao, cap, rfl, h1, h2, h3, h4, h5⟩ := h
  unfold maxLen at h2
  have hp : Octets [d, s] := by intro x hx; simp at hx; rcases hx with rfl | rfl <;> assumption
  obtain ⟨hd0, hd1⟩ := hd
  obtain ⟨hs0, hs1⟩ := hs
  have hlit : Bs (w.alloc (.cells #[.int .u8 d, .int .u8 s] 5)) (.slice (some ⟨w.heap.size, 0, none⟩) 2 2) [d, s] := Bs.lit (by unfold maxLen; simp) hp _
  have hg1 : Grow w (w.alloc (.cells #[.int .u8 d, .int .u8 s] 5)) := Grow.alloc _ _
  have hcv1 := run_convert_bs (P := Try.prog) 23 5 9 Try.underlying23 Try.underlying5 Try.underlying9 hlit
  have hcv2 := run_convert_bs (P := Try.prog) 23 5 9 Try.underlying23 Try.underlying5 Try.underlying9 (hbs.grow hg1)
  have hap := strOfNums_append [d, s] l
  have hz1 : (strOfNums [d, s]).size = 2 := strOfNums_size _
  have hz2 : (strOfNums l).size = l.length := strOfNums_size _
  obtain ⟨v3, w3, hcv3, hbs3, hg3⟩ := run_convert_sb (P := Try.prog) (w.alloc (.cells #[.int .u8 d, .int .u8 s] 5)) 9 23 5 Try.underlying9 Try.underlying23 Try.underlying5 (l := d :: s :: l) (octets_cons ⟨hd0, hd1⟩ ⟨hs0, hs1⟩ h4) (by unfold maxLen; simp; omega)
  go_enter Try.func69, Try.ntmps69
  go_wp2_with fail
  refine (refSeal_new _ (d :: s :: l) _ (by simp; omega) hbs3).mono ?_
  rintro e w4 ⟨r, rfl, hr, hg4⟩
  go_wp2_with fail
  go_ret
  exact ⟨r, rfl, hr, (hg1.trans hg3).trans hg4⟩

end Go.Proofs.Ytjggiameajndgab

/-
  What the program's xor returns: turn, Two, All, Even. Nothing old turns.
-/
namespace Go.Proofs.Ytjggiameajndgab
open Go.RowKit

/-- A row, its first k bytes taken together with those of b. -/
def turned (o b : List Int) (k : Nat) : List Int := (List.range 4).map fun i => if i < k then (((o.getD i 0).toNat ^^^ (b.getD i 0).toNat : Nat) : Int) else o.getD i 0

theorem turned_zero {o : List Int} (b : List Int) (h : o.length = 4) : turned o b 0 = o := by
  match o, h with
  | [o0, o1, o2, o3], _ => rfl

theorem turned_all (ls : List (List Int)) (b : List Int) : turned (xorAll ls) b 4 = xorAll (ls ++ [b]) := by
  simp only [turned, xorAll, xC_append, xC_one]
  rfl

theorem turned_getD {o b : List Int} {k : Nat} (hk : k < 4) : (turned o b k).getD k 0 = o.getD k 0 := by
  simp [turned, List.getD_eq_getElem?_getD, hk]

theorem turned_set {o b : List Int} {k : Nat} (hk : k < 4) : ((turned o b k).map (Value.int .u8)).set k (.int .u8 (((o.getD k 0).toNat ^^^ (b.getD k 0).toNat : Nat) : Int)) = (turned o b (k + 1)).map (Value.int .u8) := by
  match k, hk with
  | 0, _ => rfl
  | 1, _ => rfl
  | 2, _ => rfl
  | 3, _ => rfl

theorem Grow.set {w0 w : World} (h : Grow w0 w) {g k : Nat} (hg : w0.heap.size ≤ g) (u : Value) : Grow w0 (w.setCell ⟨g, k, none⟩ u) := Below.setCell h (p := ⟨g, k, none⟩) hg u
theorem Grow.drew1 {w0 w : World} (h : Grow w0 w) : Grow w0 w.drew := h.trans ⟨rfl, rfl, rfl, Nat.le_refl _, fun _ _ => rfl⟩

set_option maxRecDepth 20000 in
set_option maxHeartbeats 400000 in
theorem turn_any (g : Nat) (o : List Int) (v : Value) (b : List Int) (w0 w : World) (hG : Grow w0 w) (hg : w0.heap.size ≤ g) (ho : o.length = 4) (hoo : Octets o) (hb : Bs w0 v b) (hl : b.length = 4)
    (hr : w.heap[g]? = some (.cells (o.map (Value.int .u8)).toArray 5 (0, 0))) :
    Calls Try.prog 86 #[.slice (some ⟨g, 0, none⟩) 4 4, v] w fun e w' => e = .returned (.tuple #[]) ∧ Hid (w'.heap[g]? = some (.cells ((turned o b 4).map (Value.int .u8)).toArray 5 (0, 0))) ∧ Grow w0 w' := by
  obtain ⟨ao, cap, rfl, h1, h2, h3, h4, h5⟩ := hb
  unfold maxLen at h2
  obtain ⟨bb, off, rfl, hc⟩ := h5 (by omega)
  rw [hl] at hc h1 ⊢
  clear h5
  go_enter Try.func86, Try.ntmps86
  go_wp2
  go_loopw [10] (fun i wr => ∃ k : Nat, k ≤ 4 ∧ i = .int .i64 k ∧ Hid (wr.heap[g]? = some (.cells ((turned o b k).map (Value.int .u8)).toArray 5 (0, 0))) ∧ Grow w0 wr) (fun i _ => 4 - (intOf i).toNat)
  case atStart => exact ⟨0, by omega, rfl, by rw [turned_zero b ho]; exact hr, hG⟩
  case round =>
    obtain ⟨k, hk, rfl, HR, hgr⟩ := hrel
    by_cases hlt : k < 4
    · have hx := getD_bd hoo k
      have hy := getD_bd h4 k
      have hcb : wr.cell? ⟨bb, off + k, none⟩ = some (.int .u8 (b.getD k 0)) := (hgr.cell (p := ⟨bb, off + k, none⟩) (cell_lt (hc k hlt))).trans (hc k hlt)
      have hco : wr.cell? ⟨g, k, none⟩ = some (.int .u8 (o.getD k 0)) := by
        simp only [World.cell?, HR.out]
        rw [← turned_getD (b := b) hlt]
        simp [turned, List.getD_eq_getElem?_getD, hlt]
      have hfr : wr.frozen? ⟨g, k, none⟩ = false := frozen_of_row wr g k _ _ HR.out
      have HX := u8_xor (o.getD k 0) (b.getD k 0) (by omega) (by omega) (by omega) (by omega)
      have HS : Hid (∀ z : Int, z = (((o.getD k 0).toNat ^^^ (b.getD k 0).toNat : Nat) : Int) → (wr.setCell ⟨g, k, none⟩ (.int .u8 z)).heap[g]? = some (.cells ((turned o b (k + 1)).map (Value.int .u8)).toArray 5 (0, 0))) := by
        rintro z rfl
        rw [heap_setCell_same wr g k _ _ _ HR.out, ← turned_set hlt]
        simp
      generalize o.getD k 0 = x at *
      generalize b.getD k 0 = y at *
      go_wp2
      go_region
      go_wp2
      go_roundw
      case rel => exact ⟨k + 1, by omega, by go_num, HS.out _ rfl, (hgr.set hg _).drew1⟩
      case measure => simp [intOf]; omega
    · obtain rfl : k = 4 := by omega
      go_wp2
      go_end0
      exact ⟨rfl, HR, hgr⟩


theorem nought_octets : Octets [0, 0, 0, 0] := by intro x hx; simp at hx; omega

/-- A new slice that reads as l. -/
theorem NewBs.row {w : World} {e : TypeId} {g : Nat} {l : List Int} (hg : w.heap[g]? = some (.cells (l.map (Value.int .u8)).toArray e (0, 0))) (hl : l.length = 4) (ho : Octets l) : NewBs l (.slice (some ⟨g, 0, none⟩) 4 4) w :=
  ⟨g, 4, by rw [hl], Bs.row hg hl (by unfold maxLen; omega) ho⟩

theorem take_blocks {ls : List (List Int)} (h : ∀ b ∈ ls, Octets b) (k : Nat) : ∀ b ∈ ls.take k, Octets b := fun b hb => h b (List.mem_of_mem_take hb)

theorem xorAll_take_succ (ls : List (List Int)) {k : Nat} (h : k < ls.length) : xorAll (ls.take k ++ [ls.getD k []]) = xorAll (ls.take (k + 1)) := by
  rw [List.take_add_one]
  simp [h, List.getD_eq_getElem?_getD]

set_option maxRecDepth 20000 in
set_option maxHeartbeats 400000 in
theorem all_row (v : Value) (ls : List (List Int)) (w : World) (h : Bss w v ls) (hl : ∀ b ∈ ls, b.length = 4) :
    Calls Try.prog 65 #[v] w fun e w' => e = .returned (.slice (some ⟨w.heap.size, 0, none⟩) 4 4) ∧ Hid (w'.heap[w.heap.size]? = some (.cells ((xorAll ls).map (Value.int .u8)).toArray 5 (0, 0))) ∧ Grow w w' := by
  have hoc := h.octets
  obtain ⟨ao, cap, rfl, h1, h2, h3, h4⟩ := h
  unfold maxLen at h2
  have hmk := Try.made4 w
  have hg0 : Grow w (w.alloc (.cells #[.int .u8 0, .int .u8 0, .int .u8 0, .int .u8 0] 5)) := Grow.alloc _ _
  have hr0 : (w.alloc (.cells #[.int .u8 0, .int .u8 0, .int .u8 0, .int .u8 0] 5)).heap[w.heap.size]? = some (.cells (([0, 0, 0, 0] : List Int).map (Value.int .u8)).toArray 5 (0, 0)) := heap_alloc_new _ _
  go_enter Try.func65, Try.ntmps65
  go_wp2
  go_loopw [9] (fun i wr => ∃ k : Nat, k ≤ ls.length ∧ i = .int .i64 k ∧ Hid (wr.heap[w.heap.size]? = some (.cells ((xorAll (ls.take k)).map (Value.int .u8)).toArray 5 (0, 0))) ∧ Grow w wr) (fun i _ => ls.length - (intOf i).toNat)
  case atStart => exact ⟨0, by omega, rfl, hr0, hg0⟩
  case round =>
    obtain ⟨k, hk, rfl, HR, hgr⟩ := hrel
    by_cases hlt : k < ls.length
    · obtain ⟨b, off, rfl, hc⟩ := h4 (by omega)
      obtain ⟨ak, ck, hck, hbk⟩ := Sl.bytesAt hc hlt
      have hlk : (ls.getD k []).length = 4 := hl _ (by simp [List.getD_eq_getElem?_getD, hlt])
      have hck' := (hgr.cell (p := ⟨b, off + k, none⟩) (cell_lt hck)).trans hck
      have e1 : Hid (turned (xorAll (ls.take k)) (ls.getD k []) 4 = xorAll (ls.take (k + 1))) := by rw [Hid, turned_all, xorAll_take_succ ls hlt]
      have ho1 := xorAll_octets (take_blocks hoc k)
      clear hc h4 hck
      generalize ls.getD k [] = bk at *
      rw [hlk] at hbk hck'
      go_wp2_with fail
      refine (turn_any w.heap.size (xorAll (ls.take k)) _ bk w _ hgr (Nat.le_refl _) rfl ho1 hbk hlk HR.out).mono ?_
      rintro e w1 ⟨rfl, HR1, hg1⟩
      rw [e1.out] at HR1
      go_wp2_with fail
      go_roundw
      case rel => exact ⟨k + 1, by omega, by go_num, HR1, hg1⟩
      case measure => simp [intOf]; omega
    · obtain rfl : k = ls.length := by omega
      rw [List.take_of_length_le (Nat.le_refl _)] at HR
      go_wp2
      go_ret
      exact ⟨rfl, HR, hgr⟩

theorem all_new (v : Value) (ls : List (List Int)) (w : World) (h : Bss w v ls) (hl : ∀ b ∈ ls, b.length = 4) :
    Calls Try.prog 65 #[v] w fun e w' => e = .returned (.slice (some ⟨w.heap.size, 0, none⟩) 4 4) ∧ NewBs (xorAll ls) (.slice (some ⟨w.heap.size, 0, none⟩) 4 4) w' ∧ Grow w w' :=
  (all_row v ls w h hl).mono fun _ _ ⟨he, HR, hg⟩ => ⟨he, NewBs.row HR.out rfl (xorAll_octets h.octets), hg⟩

theorem all_any (v : Value) (ls : List (List Int)) (w : World) (h : Bss w v ls) (hl : ∀ b ∈ ls, b.length = 4) :
    Calls Try.prog 65 #[v] w fun e w' => ∃ r, e = .returned r ∧ NewBs (xorAll ls) r w' ∧ Grow w w' :=
  (all_new v ls w h hl).mono fun _ _ ⟨he, hn, hg⟩ => ⟨_, he, hn, hg⟩

/-- Noughts. -/
def evenB (l : List Int) : Bool := l == [0, 0, 0, 0]

theorem even_no {ls : List (List Int)} {k : Nat} (hk : k < 4) (h : (xorAll ls).getD k 0 ≠ 0) : evenB (xorAll ls) = false := by
  rw [evenB, beq_eq_false_iff_ne]
  intro h0
  rw [h0] at h
  match k, hk with
  | 0, _ => exact h rfl
  | 1, _ => exact h rfl
  | 2, _ => exact h rfl
  | 3, _ => exact h rfl

theorem even_yes {ls : List (List Int)} (h : ∀ k, k < 4 → (xorAll ls).getD k 0 = 0) : evenB (xorAll ls) = true := by
  rw [evenB, beq_iff_eq]
  have h0 := h 0 (by omega)
  have h1 := h 1 (by omega)
  have h2 := h 2 (by omega)
  have h3 := h 3 (by omega)
  rw [xorAll_getD _ (by omega)] at h0 h1 h2 h3
  rw [xorAll, h0, h1, h2, h3]

end Go.Proofs.Ytjggiameajndgab
