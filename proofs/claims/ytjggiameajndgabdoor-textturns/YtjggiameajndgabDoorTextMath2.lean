/-
  Plain: the words of a text, blank by blank; the digits of a word, one by one.
-/
import Derived.Test.YtjggiameajndgabDoorTextMath
namespace Go.Proofs.YtjggiameajndgabDoor

/-- Behind i letters: words, and where the next one begins. -/
def Spl (s : List UInt8) (i f : Nat) (ws : List (List UInt8)) : Prop :=
  ws.length ≤ i ∧ ((i ≤ s.length ∧ f ≤ i ∧ ws ++ split (s.drop f) = split s ∧ 32 ∉ (s.drop f).take (i - f)) ∨ (i = s.length + 1 ∧ f ≤ i ∧ ws = split s))

theorem Spl.start (s : List UInt8) : Spl s 0 0 [] := ⟨Nat.le_refl _, .inl ⟨Nat.zero_le _, Nat.le_refl _, by simp, by simp⟩⟩

theorem drop_word {s : List UInt8} {f i : Nat} (hf : f ≤ i) (hi : i < s.length) : s.drop f = (s.drop f).take (i - f) ++ s.getD i 0 :: s.drop (i + 1) := by
  have h1 : s.drop f = (s.drop f).take (i - f) ++ (s.drop f).drop (i - f) := (List.take_append_drop _ _).symm
  have h2 : (s.drop f).drop (i - f) = s.getD i 0 :: s.drop (i + 1) := by
    rw [List.drop_drop, show f + (i - f) = i by omega, List.drop_eq_getElem_cons hi]
    simp [List.getD_eq_getElem?_getD, hi]
  rw [h2] at h1
  exact h1

theorem Spl.blank {s : List UInt8} {i f : Nat} {ws : List (List UInt8)} (h : Spl s i f ws) (hi : i < s.length) (hb : s.getD i 0 = 32) : Spl s (i + 1) (i + 1) (ws ++ [(s.drop f).take (i - f)]) := by
  obtain ⟨hl, ⟨-, hf, he, hn⟩ | ⟨hc, -⟩⟩ := h
  · refine ⟨by simp; omega, .inl ⟨by omega, Nat.le_refl _, ?_, by simp⟩⟩
    rw [← he]
    conv => rhs; rw [drop_word hf hi, hb, split_append _ _ hn]
    simp
  · omega

theorem Spl.last {s : List UInt8} {f : Nat} {ws : List (List UInt8)} (h : Spl s s.length f ws) : Spl s (s.length + 1) (s.length + 1) (ws ++ [(s.drop f).take (s.length - f)]) := by
  obtain ⟨hl, ⟨-, hf, he, hn⟩ | ⟨hc, -⟩⟩ := h
  · refine ⟨by simp; omega, .inr ⟨rfl, Nat.le_refl _, ?_⟩⟩
    rw [← he, List.take_of_length_le (by simp)]
    rw [List.take_of_length_le (by simp)] at hn
    rw [split_word _ hn]
  · omega

theorem Spl.other {s : List UInt8} {i f : Nat} {ws : List (List UInt8)} (h : Spl s i f ws) (hi : i < s.length) (hb : s.getD i 0 ≠ 32) : Spl s (i + 1) f ws := by
  obtain ⟨hl, ⟨-, hf, he, hn⟩ | ⟨hc, -⟩⟩ := h
  · refine ⟨by omega, .inl ⟨by omega, by omega, he, ?_⟩⟩
    rw [drop_word hf hi]
    have hlen : ((s.drop f).take (i - f)).length = i - f := by simp; omega
    rw [show i + 1 - f = ((s.drop f).take (i - f)).length + 1 by rw [hlen]; omega, List.take_length_add_append]
    simp only [List.take_succ_cons, List.take_zero, List.mem_append, List.mem_singleton, not_or]
    exact ⟨hn, fun e => hb e.symm⟩
  · omega

theorem Spl.done {s : List UInt8} {f : Nat} {ws : List (List UInt8)} (h : Spl s (s.length + 1) f ws) : ws = split s := by
  obtain ⟨-, ⟨hc, -⟩ | ⟨-, -, h⟩⟩ := h
  · omega
  · exact h

theorem Spl.from_le {s : List UInt8} {i f : Nat} {ws : List (List UInt8)} (h : Spl s i f ws) : f ≤ i := by
  obtain ⟨-, ⟨-, h, -⟩ | ⟨-, h, -⟩⟩ := h <;> exact h

theorem split_length : ∀ s : List UInt8, (split s).length ≤ s.length + 1
  | [] => by simp [split]
  | c :: r => by
    have ih := split_length r
    have := split_ne r
    simp only [split]
    split
    · simp; omega
    · simp; omega

/-- What a digit is said to be behind j looks. -/
def cvAt (x : UInt8) (j : Nat) : Int :=
  match hexV x with
  | some v => if v < j then (v : Int) else -1
  | none => -1

theorem cvAt_zero (x : UInt8) : cvAt x 0 = -1 := by
  unfold cvAt
  split
  · rw [if_neg (by omega)]
  · rfl

theorem cvAt_hit {x : UInt8} {j : Nat} (hj : j < 16) (h : hexD j = x) : cvAt x (j + 1) = (j : Int) := by
  subst h
  unfold cvAt
  rw [hexV_D j hj]
  simp

theorem cvAt_miss {x : UInt8} {j : Nat} (h : hexD j ≠ x) : cvAt x (j + 1) = cvAt x j := by
  unfold cvAt
  split
  · rename_i v hv
    have h1 := hexV_lt hv
    have h2 : v ≠ j := fun e => h (e ▸ h1.2)
    by_cases hlt : v < j
    · rw [if_pos hlt, if_pos (by omega)]
    · rw [if_neg hlt, if_neg (by omega)]
  · rfl

theorem cvAt_end (x : UInt8) : cvAt x 16 = match hexV x with | some v => (v : Int) | none => -1 := by
  unfold cvAt
  split
  · rename_i v hv
    rw [if_pos (hexV_lt hv).1]
  · rfl

theorem unhex_snoc : ∀ (a : List UInt8) (d : List Int) (x y : UInt8) (u v : Nat), unhex a = some d → hexV x = some u → hexV y = some v → unhex (a ++ [x, y]) = some (d ++ [((16 * u + v : Nat) : Int)])
  | [], d, x, y, u, v, h, hx, hy => by
    simp only [unhex] at h
    injection h with h
    subst h
    simp only [List.nil_append, unhex, hx, hy]
  | [_], d, x, y, u, v, h, hx, hy => by simp [unhex] at h
  | a :: b :: r, d, x, y, u, v, h, hx, hy => by
    simp only [unhex] at h
    split at h
    · rename_i p q l hp hq hl
      injection h with h
      subst h
      have ih := unhex_snoc r l x y u v hl hx hy
      simp only [List.cons_append, unhex, hp, hq, ih]
    · cases h

theorem unhex_all : ∀ (b : List UInt8) (d : List Int), unhex b = some d → b.length = 2 * d.length ∧ ∀ c ∈ b, hexV c ≠ none
  | [], d, h => by
    simp only [unhex] at h
    injection h with h
    subst h
    exact ⟨rfl, fun c hc => by cases hc⟩
  | [_], d, h => by simp [unhex] at h
  | a :: b :: r, d, h => by
    simp only [unhex] at h
    split at h
    · rename_i p q l hp hq hl
      injection h with h
      subst h
      obtain ⟨i1, i2⟩ := unhex_all r l hl
      refine ⟨by simp only [List.length_cons, i1]; omega, ?_⟩
      intro c hc
      rcases List.mem_cons.1 hc with rfl | hc
      · rw [hp]; simp
      · rcases List.mem_cons.1 hc with rfl | hc
        · rw [hq]; simp
        · exact i2 c hc
    · cases h

theorem unhex_odd {b : List UInt8} (h : b.length % 2 = 1) : unhex b = none := by
  cases hu : unhex b with
  | none => rfl
  | some d => have := (unhex_all b d hu).1; omega

theorem unhex_bad {b : List UInt8} {i : Nat} (hi : i < b.length) (h : hexV (b.getD i 0) = none) : unhex b = none := by
  cases hu : unhex b with
  | none => rfl
  | some d => exact absurd h ((unhex_all b d hu).2 _ (by simp [List.getD_eq_getElem?_getD, hi]))

/-- Behind i digits: bytes, and the half that is left. -/
def Hx (b : List UInt8) (i : Nat) (d : List Int) (n : Int) : Prop :=
  d.length = i / 2 ∧ (∀ c ∈ d, 0 ≤ c ∧ c ≤ 255) ∧ ((i % 2 = 0 ∧ n = 0 ∧ unhex (b.take i) = some d) ∨ (i % 2 = 1 ∧ ∃ u : Nat, n = (u : Int) ∧ u < 16 ∧ hexV (b.getD (i - 1) 0) = some u ∧ unhex (b.take (i - 1)) = some d))

theorem Hx.start (b : List UInt8) : Hx b 0 [] 0 := ⟨rfl, (fun c hc => by cases hc), .inl ⟨rfl, rfl, rfl⟩⟩

theorem Hx.first {b : List UInt8} {i v : Nat} {d : List Int} {n : Int} (h : Hx b i d n) (h2 : i % 2 = 0) (hv : hexV (b.getD i 0) = some v) : n = 0 ∧ Hx b (i + 1) d (16 * n + v) := by
  obtain ⟨hl, ho, ⟨-, rfl, hu⟩ | ⟨hc, -⟩⟩ := h
  · exact ⟨rfl, by omega, ho, .inr ⟨by omega, v, by omega, (hexV_lt hv).1, hv, hu⟩⟩
  · omega

theorem Hx.second {b : List UInt8} {i v : Nat} {d : List Int} {n : Int} (h : Hx b i d n) (h2 : i % 2 = 1) (hi : i < b.length) (hv : hexV (b.getD i 0) = some v) : 0 ≤ 16 * n + v ∧ 16 * n + v ≤ 255 ∧ Hx b (i + 1) (d ++ [16 * n + v]) 0 := by
  obtain ⟨hl, ho, ⟨hc, -⟩ | ⟨-, u, rfl, hu16, hx, hu⟩⟩ := h
  · omega
  · have hv16 := (hexV_lt hv).1
    refine ⟨by omega, by omega, by simp; omega, ?_, .inl ⟨by omega, rfl, ?_⟩⟩
    · intro c hc
      rcases List.mem_append.1 hc with hc | hc
      · exact ho c hc
      · rcases List.mem_singleton.1 hc with rfl
        omega
    · have e : b.take (i + 1) = b.take (i - 1) ++ [b.getD (i - 1) 0, b.getD i 0] := by
        obtain ⟨j, rfl⟩ : ∃ j, i = j + 1 := ⟨i - 1, by omega⟩
        have g1 : b[j]? = some b[j] := List.getElem?_eq_getElem (by omega)
        have g2 : b[j + 1]? = some b[j + 1] := List.getElem?_eq_getElem hi
        rw [Nat.add_sub_cancel, List.take_add_one, List.take_add_one, List.getD_eq_getElem?_getD, List.getD_eq_getElem?_getD, g1, g2, List.append_assoc]
        rfl
      rw [e, unhex_snoc _ _ _ _ _ _ hu hx hv]
      congr 2

theorem Hx.done {b : List UInt8} {d : List Int} {n : Int} (h : Hx b b.length d n) (h2 : b.length % 2 = 0) : unhex b = some d := by
  obtain ⟨-, -, ⟨-, -, hu⟩ | ⟨hc, -⟩⟩ := h
  · rwa [List.take_length] at hu
  · omega

end Go.Proofs.YtjggiameajndgabDoor
