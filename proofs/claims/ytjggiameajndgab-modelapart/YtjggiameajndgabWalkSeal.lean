/-
  What sum.Seal and the reference's Seal return: new memory that holds the bytes with their sum behind; nothing old turns.
-/
import Derived.Test.YtjggiameajndgabWalkSum
namespace Go.Proofs.Ytjggiameajndgab
open Go.RowKit

theorem Try.infoB : (Try.prog.info? 5).map (fun i => (i.zero, i.size, i.bytes)) = some (some (.int .u8 0), 1, 1) := by kernel_rfl

set_option maxRecDepth 20000 in
set_option maxHeartbeats 800000 in
theorem seal_any (v : Value) (l : List Int) (w : World) (hlen : l.length ≤ 140737488351232) (h : Bs w v l) :
    Calls Try.prog 89 #[v] w fun e w' => ∃ r, e = .returned r ∧ w'.ownsRow w.heap.size 5 1 r (l.length + 2) ((sealOf l).map (Value.int .u8)) ∧ Below w.heap.size w w' := by
  have hbs := h
  have hbd := sumOf_bd l
  obtain ⟨ao, cap, rfl, h1, h2, h3, h4, h5⟩ := h
  unfold maxLen at h2
  obtain ⟨i0, hi, hz0, hz1, hz2⟩ := info_parts Try.infoB
  go_enter Try.func89, Try.ntmps89
  go_wp2_with (first
    | (go_at_call 94; refine (of_any _ l _ hbs).mono ?_; rintro e w' ⟨rfl, rfl⟩)
    | (at_make; refine wpList_make_own _ rfl _ _ 23 rfl w'.heap.size 5 i0 (.int .u8 0) 1 Try.underlying23 hi hz0 hz1 _ _ _ (l.length + 2) rfl rfl (by omega) (by rw [hz2]; omega) (by unfold maxLen; omega) (Nat.le_refl _) ?_; intro w0 hown0 hgrow0; have hb0 := (Below.refl w'.heap.size w').grown hgrow0 (Nat.le_refl _) (fun k h => by cases h))
    | (at_builtin; refine wpList_append_fits_any _ rfl (.tmp 11) (.tmp 12) 23 rfl w'.heap.size 5 i0 1 Try.underlying23 hi hz1 w'.heap.size 0 (l.length + 2) _ rfl hown0 _ l.length _ (l.map (Value.int .u8)) rfl (by simp) (fun h => by have := h3 h; omega) (h5.below hb0).src (u8_oneCell _) (by omega) ?_; intro w1 hown1 hgrow1; simp only [Nat.zero_add, List.nil_append] at hown1)
    | (at_builtin; refine wpList_append_fits _ rfl (.tmp 14) (.tmp 20) 23 rfl w'.heap.size 5 i0 1 Try.underlying23 hi hz1 w'.heap.size l.length (l.length + 2) _ rfl (hown1.alloc _) ⟨w1.heap.size, 0, none⟩ 2 2 [.int .u8 (sumOf l / 256), .int .u8 (sumOf l % 256)] rfl rfl (by intro t u ht; match t, ht with | 0, ht => simp at ht; subst ht; simp [Addr.add] | 1, ht => simp at ht; subst ht; simp [Addr.add]) (by intro u hu; simp at hu; rcases hu with rfl | rfl <;> rfl) (by omega) ?_; intro w2 hown2 hgrow2))
  go_ret
  refine ⟨_, rfl, by simpa [sealOf] using hown2, ?_⟩
  have hb1 := hb0.grown hgrow1 hb0.size (fun k h => by cases h; exact Nat.le_refl _)
  exact (hb1.alloc hb1.size _).grown hgrow2 (by have := hb1.size; simp; omega) (fun k h => by cases h; exact Nat.le_refl _)

set_option maxRecDepth 20000 in
set_option maxHeartbeats 800000 in
theorem refSeal_any (v : Value) (l : List Int) (w : World) (hlen : l.length ≤ 140737488351232) (h : Bs w v l) :
    Calls Try.prog 90 #[v] w fun e w' => ∃ r, e = .returned r ∧ w'.ownsRow w.heap.size 5 1 r (l.length + 2) ((sealOf l).map (Value.int .u8)) ∧ Below w.heap.size w w' := by
  have hbs := h
  have hbd := sumOf_bd l
  obtain ⟨ao, cap, rfl, h1, h2, h3, h4, h5⟩ := h
  unfold maxLen at h2
  obtain ⟨i0, hi, hz0, hz1, hz2⟩ := info_parts Try.infoB
  go_enter Try.func90, Try.ntmps90
  go_wp2_with (first
    | (go_at_call 95; refine (refSum_any _ l _ hbs).mono ?_; rintro e w' ⟨rfl, rfl⟩)
    | (at_builtin; refine wpList_append_own_any _ rfl (.tmp 6) (.tmp 7) 23 rfl w'.heap.size 5 i0 (.int .u8 0) 1 Try.underlying23 hi hz0 hz1 hz2 rfl _ 0 [] rfl (World.ownsRow_lit w' #[] 0 (Nat.le_refl _) (Nat.zero_le _) (by simp)) _ l.length _ (l.map (Value.int .u8)) rfl (by simp) (fun h => by have := h3 h; omega) (h5.below ((Below.refl _ _).alloc (Nat.le_refl _) _)).src (u8_oneCell _) (by unfold maxLen; omega) (by omega) (by simp) ?_; intro v1 w1 hown1 hgrow1; simp only [Nat.zero_add, List.nil_append] at hown1)
    | (at_builtin; refine wpList_append_own_any _ rfl (.tmp 8) (.tmp 15) 23 rfl w'.heap.size 5 i0 (.int .u8 0) 1 Try.underlying23 hi hz0 hz1 hz2 rfl _ l.length _ rfl (hown1.alloc _) (some ⟨w1.heap.size, 0, none⟩) 2 2 [.int .u8 (sumOf l / 256), .int .u8 (sumOf l % 256)] rfl rfl (fun h => nomatch h) (by intro ad had t u ht; cases had; match t, ht with | 0, ht => simp at ht; subst ht; simp [Addr.add] | 1, ht => simp at ht; subst ht; simp [Addr.add]) (by intro u hu; simp at hu; rcases hu with rfl | rfl <;> rfl) (by unfold maxLen; omega) (by omega) (by have := hgrow1.size; simp at this; simp; omega) ?_; intro v2 w2 hown2 hgrow2))
  go_ret
  refine ⟨_, rfl, by simpa [sealOf] using hown2, ?_⟩
  have hb1 : Below w'.heap.size w' w1 := ((Below.refl _ _).alloc (Nat.le_refl _) _).grown hgrow1 (by simp) (fun k h => by cases h; exact Nat.le_refl _)
  exact (hb1.alloc hb1.size _).grown hgrow2 (by have := hb1.size; simp; omega) (own_base hown1)

end Go.Proofs.Ytjggiameajndgab
