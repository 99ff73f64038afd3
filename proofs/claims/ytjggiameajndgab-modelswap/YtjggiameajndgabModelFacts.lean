/-
  Plain: deeds that name no block in common may change places; what is done twice.
-/
import Derived.Test.YtjggiameajndgabWalkRefDo
namespace Go.Proofs.Ytjggiameajndgab

/-- Does a deed name a block? -/
def namesB (x : DeedP) (n : Int) : Bool := decide (n = x.n ∨ (x.k = 2 ∧ n = x.m))

theorem getD_ext {a b : List (List Int)} (hl : a.length = b.length) (h : ∀ i, i < a.length → a.getD i [] = b.getD i []) : a = b := by
  refine List.ext_getElem hl fun i g1 g2 => ?_
  have := h i g1
  rw [List.getD_eq_getElem?_getD, List.getD_eq_getElem?_getD, List.getElem?_eq_getElem g1, List.getElem?_eq_getElem g2] at this
  exact this

theorem doL_at {ls : List (List Int)} {x : DeedP} {i : Nat} (h : i < ls.length) : (doL ls x).getD i [] = doAt ls x i := by
  simp [doL, List.getD_eq_getElem?_getD, h]

theorem doAt_free {ls : List (List Int)} {x : DeedP} {i : Nat} (h : namesB x i = false) : doAt ls x i = ls.getD i [] := by
  have h' : ¬ ((i : Int) = x.n ∨ (x.k = 2 ∧ (i : Int) = x.m)) := of_decide_eq_false h
  rw [doAt, if_neg (fun hc => h' (.inl hc.2)), if_neg (fun hc => h' (.inl hc.2)), if_neg (fun hc => h' (.inr hc))]

theorem named_n (x : DeedP) : namesB x x.n = true := by simp [namesB]
theorem named_m {x : DeedP} (h : x.k = 2) : namesB x x.m = true := by simp [namesB, h]

/-- What a deed makes of a block that it names hangs on those alone that it names. -/
theorem doAt_congr {ls ms : List (List Int)} {x : DeedP} (hr : wrongE x = 0) (h : ∀ j : Nat, j < 9 → namesB x j = true → ls.getD j [] = ms.getD j []) {i : Nat} (hi : i < 9) (hn : namesB x i = true) : doAt ls x i = doAt ms x i := by
  obtain ⟨hk, hn0, hn8, h1, h2⟩ := right_deed hr
  unfold doAt
  split
  · rfl
  split
  · rename_i hc
    have hm := whereE_zero (h2 hc.1).1
    refine h x.m.toNat (by omega) ?_
    rw [show ((x.m.toNat : Nat) : Int) = x.m from by omega]
    exact named_m hc.1
  split
  · refine h x.n.toNat (by omega) ?_
    rw [show ((x.n.toNat : Nat) : Int) = x.n from by omega]
    exact named_n x
  · exact h i hi hn

theorem do_apart {ls : List (List Int)} {a b : DeedP} (hl : ls.length = 9) (ha : wrongE a = 0) (hb : wrongE b = 0) (hap : ∀ n : Nat, n < 9 → ¬ (namesB a n = true ∧ namesB b n = true)) : doL (doL ls a) b = doL (doL ls b) a := by
  have hla : (doL ls a).length = 9 := by rw [doL_length, hl]
  have hlb : (doL ls b).length = 9 := by rw [doL_length, hl]
  have key : ∀ {x y : DeedP}, wrongE x = 0 → (∀ n : Nat, n < 9 → ¬ (namesB x n = true ∧ namesB y n = true)) → ∀ i : Nat, i < 9 → namesB y i = false → doAt (doL ls x) y i = doAt (doL ls y) x i := by
    intro x y hx hxy i hi hy
    rw [doAt_free hy, doL_at (by omega)]
    cases hxi : namesB x i with
    | true =>
      refine doAt_congr hx (fun j hj hxj => ?_) hi hxi
      rw [doL_at (by omega), doAt_free (x := y)]
      cases hyj : namesB y j with
      | false => rfl
      | true => exact absurd ⟨hxj, hyj⟩ (hxy j hj)
    | false => rw [doAt_free hxi, doAt_free hxi, doL_at (by omega), doAt_free hy]
  refine getD_ext (by simp only [doL_length]) fun i hi => ?_
  have hi9 : i < 9 := by simp only [doL_length, hl] at hi; exact hi
  rw [doL_at (by omega), doL_at (by omega)]
  cases hbi : namesB b i with
  | false => exact key ha hap i hi9 hbi
  | true =>
    have hai : namesB a i = false := by
      cases hai : namesB a i with
      | false => rfl
      | true => exact absurd ⟨hai, hbi⟩ (hap i hi9)
    exact (key hb (fun n hn hc => hap n hn ⟨hc.2, hc.1⟩) i hi9 hai).symm

theorem do_free {ls : List (List Int)} {a b : DeedP} (hl : ls.length = 9) {n : Nat} (hn : n < 9) (ha : namesB a n = false) (hb : namesB b n = false) : (doL (doL ls a) b).getD n [] = ls.getD n [] := by
  rw [doL_at (by rw [doL_length]; omega), doAt_free hb, doL_at (by omega), doAt_free ha]

/-- Two that change, and change again. -/
theorem do_swap_back {ls : List (List Int)} {x : DeedP} (hl : ls.length = 9) (hr : wrongE x = 0) (hk : x.k = 2) : doL (doL ls x) x = ls := by
  obtain ⟨-, hn0, hn8, -, h2⟩ := right_deed hr
  have hm := whereE_zero (h2 hk).1
  refine getD_ext (by rw [doL_length, doL_length]) fun i hi => ?_
  have hi9 : i < 9 := by rw [doL_length, doL_length, hl] at hi; exact hi
  rw [doL_at (by rw [doL_length]; omega)]
  have at_n : (doL ls x).getD x.n.toNat [] = ls.getD x.m.toNat [] := by rw [doL_at (by omega)]; exact doAt_n hk (by omega)
  have at_m : (doL ls x).getD x.m.toNat [] = ls.getD x.n.toNat [] := by
    rw [doL_at (by omega)]
    by_cases hnm : x.n = x.m
    · rw [doAt_n hk (by omega), hnm]
    · exact doAt_m hk (by omega) (by omega)
  by_cases hin : (i : Int) = x.n
  · rw [doAt_n hk hin, at_m, show x.n.toNat = i from by omega]
  · by_cases him : (i : Int) = x.m
    · rw [doAt_m hk hin him, at_n, show x.m.toNat = i from by omega]
    · rw [doAt_out hk hin him, doL_at (by omega), doAt_out hk hin him]

/-- What is written twice is as if it had been once. -/
theorem do_write_twice {ls : List (List Int)} {x : DeedP} (hl : ls.length = 9) (hk : x.k = 1) : doL (doL ls x) x = doL ls x := by
  refine getD_ext (by rw [doL_length]) fun i hi => ?_
  have hi9 : i < 9 := by rw [doL_length, doL_length, hl] at hi; exact hi
  rw [doL_at (by rw [doL_length]; omega)]
  by_cases hin : (i : Int) = x.n
  · rw [doAt_data hk hin, doL_at (by omega), doAt_data hk hin]
  · rw [doAt_old hk hin]

theorem do_write_at {ls : List (List Int)} {x : DeedP} (hl : ls.length = 9) (hr : wrongE x = 0) (hk : x.k = 1) : (doL ls x).getD x.n.toNat [] = x.d := by
  obtain ⟨-, hn0, hn8, -, -⟩ := right_deed hr
  rw [doL_at (by omega)]
  exact doAt_data hk (by omega)

theorem doL_four {ls : List (List Int)} {x : DeedP} (h4 : ∀ b ∈ ls, b.length = 4) (hl : ls.length = 9) (hr : wrongE x = 0) : ∀ b ∈ doL ls x, b.length = 4 := by
  obtain ⟨hk, hn0, hn8, h1, h2⟩ := right_deed hr
  have hg : ∀ k, k < 9 → (ls.getD k []).length = 4 := fun k hk => h4 _ (getD_mem (by omega))
  intro b hb
  simp only [doL, List.mem_map, List.mem_range] at hb
  obtain ⟨i, hi, rfl⟩ := hb
  unfold doAt
  split
  · rename_i h; exact (h1 h.1).2
  split
  · rename_i h
    have := whereE_zero (h2 h.1).1
    exact hg _ (by omega)
  split
  · exact hg _ (by omega)
  · exact hg _ (by omega)

end Go.Proofs.Ytjggiameajndgab
