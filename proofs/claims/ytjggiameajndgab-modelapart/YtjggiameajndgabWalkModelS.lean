/-
  What the program's model.Same returns, by slices.EqualFunc and bytes.Equal. Nothing old turns.
-/
import Derived.Test.YtjggiameajndgabWalkModelW
namespace Go.Proofs.Ytjggiameajndgab
open Go.RowKit

set_option maxRecDepth 20000 in
set_option maxHeartbeats 800000 in
theorem bytesEqual_any (v u : Value) (a b : List Int) (w : World) (h : Bs w v a) (g : Bs w u b) :
    Calls Try.prog 60 #[v, u] w fun e w' => e = .returned (.bool (a == b)) ∧ Grow w w' := by
  have hc1 := run_convert_bs (P := Try.prog) 23 5 9 Try.underlying23 Try.underlying5 Try.underlying9 h
  have hc2 := run_convert_bs (P := Try.prog) 23 5 9 Try.underlying23 Try.underlying5 Try.underlying9 g
  have HB : Hid (((strOfNums a).toList == (strOfNums b).toList) = (a == b)) := str_beq h.octets g.octets
  clear h g
  go_enter Try.func60, Try.ntmps60
  go_wp2
  go_ret
  exact ⟨ret_bool HB.out, Grow.refl _⟩

set_option maxRecDepth 20000 in
set_option maxHeartbeats 1600000 in
theorem equalFunc_any (va vb : Value) (a b : List (List Int)) (w : World) (ha : Bss w va a) (hb : Bss w vb b) :
    Calls Try.prog 59 #[va, vb, .func (.func 60) #[] #[]] w fun e w' => e = .returned (.bool (a == b)) ∧ Grow w w' := by
  obtain ⟨aa, ca, rfl, h1, h2, h3, h4⟩ := ha
  obtain ⟨ab, cb, rfl, g1, g2, g3, g4⟩ := hb
  unfold maxLen at h2 g2
  by_cases hl : a.length = b.length
  · have HL : Hid (a.length = b.length) := hl
    rw [← hl] at g1 ⊢
    clear hl
    go_enter Try.func59, Try.ntmps59
    go_wp2
    go_loopw [17] (fun i wr => ∃ k : Nat, k ≤ a.length ∧ i = .int .i64 k ∧ Hid (∀ j, j < k → a.getD j [] = b.getD j []) ∧ Grow w wr) (fun i _ => a.length - (intOf i).toNat)
    case atStart => exact ⟨0, by omega, rfl, (fun j hj => by omega), Grow.refl _⟩
    case round =>
      obtain ⟨k, hk, rfl, HK, hgr⟩ := hrel
      by_cases hlt : k < a.length
      · obtain ⟨ba, offa, rfl, hca⟩ := h4 (by omega)
        obtain ⟨bb, offb, rfl, hcb⟩ := g4 (by have := HL.out; omega)
        obtain ⟨xa, cxa, hxa, hba⟩ := Sl.bytesAt hca hlt
        obtain ⟨xb, cxb, hxb, hbb⟩ := Sl.bytesAt hcb (k := k) (by have := HL.out; omega)
        have hxa' := hgr.at hxa
        have hxb' := hgr.at hxb
        have hE := bytesEqual_any _ _ _ _ _ (hba.grow hgr) (hbb.grow hgr)
        clear hca hcb h4 g4 hxa hxb hba hbb
        by_cases he : a.getD k [] = b.getD k []
        · have HK' : Hid (∀ j, j < k + 1 → a.getD j [] = b.getD j []) := fun j hj => by
            by_cases hjk : j = k
            · subst hjk; exact he
            · exact HK.out j (by omega)
          rw [show (a.getD k [] == b.getD k []) = true from by rw [he]; simp] at hE
          clear he
          generalize (a.getD k []).length = n at *
          generalize (b.getD k []).length = m at *
          go_wp2_with fail
          refine hE.mono ?_
          rintro e w1 ⟨rfl, hg1⟩
          go_wp2
          go_roundw
          case rel => first | exact ⟨k + 1, by omega, by go_num, HK', hgr.trans hg1⟩ | ((repeat apply Exists.intro); exact ⟨⟨k + 1, by omega, by go_num, HK', hgr.trans hg1⟩, rfl⟩)
          case measure => simp [intOf]; omega
        · have HE : Hid ((a == b) = false) := same_no he
          rw [show (a.getD k [] == b.getD k []) = false from by rw [beq_eq_false_iff_ne]; exact he] at hE
          clear he
          generalize (a.getD k []).length = n at *
          generalize (b.getD k []).length = m at *
          go_wp2_with fail
          refine hE.mono ?_
          rintro e w1 ⟨rfl, hg1⟩
          go_wp2
          go_ret
          exact ⟨ret_bool HE.out.symm, hgr.trans hg1⟩
      · have HE : Hid ((a == b) = true) := same_yes HL.out (fun j hj => HK.out j (by omega))
        go_wp2
        go_ret
        exact ⟨ret_bool HE.out.symm, hgr⟩
  · have HE : Hid ((a == b) = false) := same_len hl
    have hl' : ¬ (a.length : Int) = (b.length : Int) := by omega
    clear hl
    go_enter Try.func59, Try.ntmps59
    go_wp2
    go_ret
    exact ⟨ret_bool HE.out.symm, Grow.refl _⟩

set_option maxRecDepth 20000 in
theorem modelSame_any (v u : Value) (a b : List (List Int)) (w : World) (h : Bss w v a) (g : Bss w u b) (_ha : a.length = 9) (_hb : b.length = 9) :
    Calls Try.prog 18 #[v, u] w fun e w' => e = .returned (.bool (a == b)) ∧ Grow w w' := by
  obtain ⟨av, cv, rfl⟩ := Sl.form h
  obtain ⟨au, cu, rfl⟩ := Sl.form g
  have hcall := equalFunc_any _ _ _ _ w h g
  clear _ha _hb
  generalize a.length = n at *
  generalize b.length = m at *
  go_enter Try.func18, Try.ntmps18
  go_wp2_with fail
  refine hcall.mono ?_
  rintro e w1 ⟨rfl, hg1⟩
  go_wp2
  go_ret
  exact ⟨rfl, hg1⟩

end Go.Proofs.Ytjggiameajndgab
