/-
  Plain: the words of a text, cut at its first blanks alone.
-/
import Derived.Test.YtjggiameajndgabDoorTextMath2
import Derived.Lib.IndexLaws
namespace Go.Proofs.YtjggiameajndgabDoor

/-- Words, cut at the first k blanks. -/
def spl : Nat → List UInt8 → List (List UInt8)
  | 0, s => [s]
  | k + 1, s => if Lib.indexByte s 32 = -1 then [s] else s.take (Lib.indexByte s 32).toNat :: spl k (s.drop ((Lib.indexByte s 32).toNat + 1))

theorem no_blank {s : List UInt8} (h : Lib.indexByte s 32 = -1) : 32 ∉ s := by
  intro hm
  obtain ⟨k, hk, e⟩ := List.mem_iff_getElem.1 hm
  exact Lib.indexByte_none h k (by rw [List.getElem?_eq_getElem hk, e])

theorem split_miss {s : List UInt8} (h : Lib.indexByte s 32 = -1) : split s = [s] := split_word s (no_blank h)

theorem first_blank {s : List UInt8} {i : Nat} (h : Lib.indexByte s 32 = i) : i < s.length ∧ s = s.take i ++ 32 :: s.drop (i + 1) ∧ 32 ∉ s.take i := by
  obtain ⟨h1, h2⟩ := Lib.indexByte_some h
  have hi : i < s.length := by
    by_cases hi : i < s.length
    · exact hi
    · rw [List.getElem?_eq_none (Nat.le_of_not_lt hi)] at h1; cases h1
  refine ⟨hi, ?_, ?_⟩
  · rw [List.getElem?_eq_getElem hi] at h1
    have e := Option.some.inj h1
    conv => lhs; rw [← List.take_append_drop i s, List.drop_eq_getElem_cons hi, e]
  · intro hm
    obtain ⟨k, hk, e⟩ := List.mem_iff_getElem.1 hm
    have hki : k < i := by simp at hk; omega
    refine h2 k hki ?_
    rw [List.getElem_take] at e
    rw [List.getElem?_eq_getElem (by omega), e]

theorem split_hit {s : List UInt8} {i : Nat} (h : Lib.indexByte s 32 = i) : split s = s.take i :: split (s.drop (i + 1)) := by
  obtain ⟨-, e, hn⟩ := first_blank h
  conv => lhs; rw [e]
  exact split_append _ _ hn

theorem blank_cases (s : List UInt8) : Lib.indexByte s 32 = -1 ∨ ∃ i : Nat, Lib.indexByte s 32 = i := by
  have := Lib.indexByte_ge s 32
  by_cases h : Lib.indexByte s 32 = -1
  · exact .inl h
  · exact .inr ⟨(Lib.indexByte s 32).toNat, by omega⟩

theorem spl_miss {s : List UInt8} (h : Lib.indexByte s 32 = -1) (k : Nat) : spl k s = [s] := by
  cases k with
  | zero => rfl
  | succ k => unfold spl; rw [if_pos h]

theorem spl_hit {s : List UInt8} {i : Nat} (h : Lib.indexByte s 32 = i) (k : Nat) : spl (k + 1) s = s.take i :: spl k (s.drop (i + 1)) := by
  rw [spl, if_neg (by omega), h, Int.toNat_natCast]

theorem spl_few : ∀ (k : Nat) (s : List UInt8), (spl k s).length ≤ k → spl k s = split s
  | 0, s, h => by simp [spl] at h
  | k + 1, s, h => by
    rcases blank_cases s with hb | ⟨i, hb⟩
    · rw [spl_miss hb, split_miss hb]
    · rw [spl_hit hb] at h ⊢
      rw [split_hit hb, spl_few k _ (by simpa using h)]

theorem spl_all : ∀ (k : Nat) (s : List UInt8), (split s).length ≤ k + 1 → spl k s = split s
  | 0, s, h => by
    rcases blank_cases s with hb | ⟨i, hb⟩
    · rw [spl_miss hb, split_miss hb]
    · rw [split_hit hb] at h
      have := List.length_pos_iff.2 (split_ne (s.drop (i + 1)))
      simp only [List.length_cons] at h
      omega
  | k + 1, s, h => by
    rcases blank_cases s with hb | ⟨i, hb⟩
    · rw [spl_miss hb, split_miss hb]
    · rw [split_hit hb] at h
      rw [spl_hit hb, split_hit hb, spl_all k _ (by simpa using h)]

theorem spl_head (k : Nat) (s : List UInt8) : (spl (k + 1) s).getD 0 [] = (split s).getD 0 [] := by
  rcases blank_cases s with hb | ⟨i, hb⟩
  · rw [spl_miss hb, split_miss hb]
  · rw [spl_hit hb, split_hit hb]; rfl

theorem spl_min (s : List UInt8) : spl (min 4 (s.length + 1) - 1) s = spl 3 s := by
  by_cases h : s.length < 3
  · rw [show min 4 (s.length + 1) - 1 = s.length by omega, spl_all _ s (split_length s), spl_all 3 s (by have := split_length s; omega)]
  · rw [show min 4 (s.length + 1) - 1 = 3 by omega]

theorem spl_three (s : List UInt8) : (spl 3 s).length = 3 ↔ (split s).length = 3 := by
  constructor
  · intro h
    rw [← spl_few 3 s (by omega)]; exact h
  · intro h
    rw [spl_all 3 s (by omega)]; exact h

theorem spl_pos : ∀ (k : Nat) (s : List UInt8), 0 < (spl k s).length
  | 0, s => by simp [spl]
  | k + 1, s => by
    rcases blank_cases s with hb | ⟨i, hb⟩
    · rw [spl_miss hb]; simp
    · rw [spl_hit hb]; simp

theorem spl_word_len : ∀ (k : Nat) (s w : List UInt8), w ∈ spl k s → w.length ≤ s.length
  | 0, s, w, h => by simp [spl] at h; subst h; exact Nat.le_refl _
  | k + 1, s, w, h => by
    rcases blank_cases s with hb | ⟨i, hb⟩
    · rw [spl_miss hb] at h; simp at h; subst h; exact Nat.le_refl _
    · rw [spl_hit hb] at h
      rcases List.mem_cons.1 h with rfl | h
      · simp; omega
      · have := spl_word_len k _ w h
        simp at this; omega

/-- A text's deed, by the words at its first three blanks. -/
theorem parse_spl (s : List UInt8) : parseP s = if (spl 3 s).getD 0 [] = wrW then wordsP 1 (spl 3 s) else if (spl 3 s).getD 0 [] = swW then wordsP 2 (spl 3 s) else noP 1 := by
  have hw : ∀ k, wordsP k (split s) = wordsP k (spl 3 s) := fun k => by
    by_cases h : (split s).length = 3
    · rw [spl_all 3 s (by omega)]
    · have h' : ¬ (spl 3 s).length = 3 := fun e => h ((spl_three s).1 e)
      have key : ∀ ws : List (List UInt8), ws.length ≠ 3 → wordsP k ws = noP 2 := fun ws hn => by
        unfold wordsP
        split
        · simp at hn
        · rfl
      rw [key _ h, key _ h']
  have hh : (split s).headD [] = (spl 3 s).getD 0 [] := by rw [spl_head 2 s]; cases split s <;> rfl
  unfold parseP
  rw [hh, hw, hw]

end Go.Proofs.YtjggiameajndgabDoor
