/-
  Plain: what is wrong with a deed, and what blocks are behind one.
-/
import Derived.Test.YtjggiameajndgabCellMath
namespace Go.Proofs.Ytjggiameajndgab

/-- A deed. -/
structure DeedP where
  k : Int
  n : Int
  m : Int
  d : List Int

/-- What is wrong with it. -/
def wrongE (x : DeedP) : Int :=
  if x.k ≠ 1 ∧ x.k ≠ 2 then 1
  else if x.n < 0 ∨ 8 < x.n then 3
  else if x.k = 1 then (if x.m ≠ 0 then 3 else if x.d.length ≠ 4 then 4 else 0)
  else if whereE x.m ≠ 0 ∨ whereS x.n ≠ whereS x.m then 3
  else if x.d.length ≠ 0 then 4 else 0

/-- What is at place i behind it. -/
def doAt (ls : List (List Int)) (x : DeedP) (i : Nat) : List Int :=
  if x.k = 1 ∧ (i : Int) = x.n then x.d
  else if x.k = 2 ∧ (i : Int) = x.n then ls.getD x.m.toNat []
  else if x.k = 2 ∧ (i : Int) = x.m then ls.getD x.n.toNat []
  else ls.getD i []

/-- What blocks are behind it. -/
def doL (ls : List (List Int)) (x : DeedP) : List (List Int) := (List.range ls.length).map (doAt ls x)

theorem doL_length (ls : List (List Int)) (x : DeedP) : (doL ls x).length = ls.length := by simp [doL]

/-- What must be to be right. -/
theorem right_deed {x : DeedP} (h : wrongE x = 0) : (x.k = 1 ∨ x.k = 2) ∧ 0 ≤ x.n ∧ x.n ≤ 8 ∧ (x.k = 1 → x.m = 0 ∧ x.d.length = 4) ∧ (x.k = 2 → whereE x.m = 0 ∧ whereS x.n = whereS x.m ∧ x.d.length = 0) := by
  unfold wrongE at h
  split at h
  · cases h
  rename_i h1
  split at h
  · cases h
  rename_i h2
  split at h
  · rename_i h3
    split at h
    · cases h
    rename_i h4
    split at h
    · cases h
    rename_i h5
    exact ⟨.inl h3, by omega, by omega, fun _ => ⟨Decidable.not_not.1 h4, Decidable.not_not.1 h5⟩, fun h => by omega⟩
  · rename_i h3
    split at h
    · cases h
    rename_i h4
    split at h
    · cases h
    rename_i h5
    have h6 : x.k = 2 := by omega
    exact ⟨.inr h6, by omega, by omega, (fun h => absurd h h3), fun _ => ⟨Decidable.byContradiction fun h => h4 (.inl h), Decidable.byContradiction fun h => h4 (.inr h), Decidable.not_not.1 h5⟩⟩

end Go.Proofs.Ytjggiameajndgab
