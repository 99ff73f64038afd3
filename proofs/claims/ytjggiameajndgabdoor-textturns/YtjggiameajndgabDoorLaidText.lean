/-
  The library's variables that strconv reads; strconv.Atoi and Itoa over texts.
-/
import Derived.Test.YtjggiameajndgabDoorWalkRefText
namespace Go.Proofs.YtjggiameajndgabDoor
open Go.RowKit

theorem var_grow {P : Program} {w w' : World} {n : String} {cs : Array Value} (hv : w.var? P n = some cs) (h : Grow w w') : w'.var? P n = some cs := by
  unfold World.var? at hv ⊢
  cases hg : P.globalNamed n with
  | none => rw [hg] at hv; cases hv
  | some g =>
    rw [hg] at hv
    simp only [Option.bind_some] at hv ⊢
    have hlt : g < w.heap.size := by
      by_cases hq : g < w.heap.size
      · exact hq
      · rw [Array.getElem?_eq_none (Nat.le_of_not_lt hq)] at hv; cases hv
    rw [h.block g hlt]
    exact hv

/-- They hold what the library lays. -/
def Laid (w : World) : Prop :=
  Lib.TabIs Tryd.prog w "internal/strconv.uint64pow10" .u64 Lib.pow10Tab ∧ (∃ tp p, w.var? Tryd.prog "strconv.ErrSyntax" = some #[.iface tp p]) ∧ (∃ tp p, w.var? Tryd.prog "strconv.ErrRange" = some #[.iface tp p])

theorem Laid.grow {w w' : World} (h : Laid w) (hg : Grow w w') : Laid w' := by
  obtain ⟨h1, ⟨a, b, h2⟩, ⟨c, d, h3⟩⟩ := h
  exact ⟨var_grow h1 hg, ⟨a, b, var_grow h2 hg⟩, ⟨c, d, var_grow h3 hg⟩⟩

theorem itoa_full (n : Int) (h0 : -9223372036854775808 ≤ n) (h1 : n ≤ 9223372036854775807) (w : World) (h : Laid w) :
    Calls Tryd.prog 18 #[.int .i64 n] w fun e w' => e = .returned (.string (str (Lib.itoa n))) ∧ Grow w w' := by
  refine (Tryd.strconv_Itoa n h0 h1 w h.1).mono ?_
  rintro e w' ⟨rfl, k, os, rfl⟩
  refine ⟨rfl, rfl, rfl, rfl, ?_, fun j hj => ?_⟩
  · simp [Sort.grow, World.drewN]
  · simp only [Sort.grow, World.drewN]
    exact Array.getElem?_append_left hj

theorem atoi_full (l : List UInt8) (hl : l.length ≤ 281474976710656) (w : World) (h : Laid w) :
    Calls Tryd.prog 17 #[.string (str l)] w fun e w' => Grow w w' ∧ ((∃ v, Lib.atoiAll l = .ok v ∧ -9223372036854775808 ≤ v ∧ v ≤ 9223372036854775807 ∧ e = .returned (.tuple #[.int .i64 v, .nilIface])) ∨ ((∀ v, Lib.atoiAll l ≠ .ok v) ∧ ∃ v p, e = .returned (.tuple #[.int .i64 v, .iface 67 p]))) := by
  have hd : (str l).data.toList = l := by simp [str]
  obtain ⟨-, ⟨a, b, h2⟩, ⟨c, d, h3⟩⟩ := h
  cases hA : Lib.atoiAll l with
  | ok v =>
    refine (Tryd.strconv_Atoi_ok (str l) (by rw [str_size]; omega) v (by rw [hd]; exact hA) w).mono ?_
    rintro e w' ⟨rfl, hw⟩
    obtain ⟨b0, b1⟩ := Lib.atoiAll_bounds hA
    refine ⟨?_, .inl ⟨v, rfl, b0, b1, rfl⟩⟩
    rcases hw with rfl | ⟨t, rfl⟩
    · exact Grow.refl _
    · exact Lib.bytesWorld_below _ _ _
  | «syntax» =>
    refine (Tryd.strconv_Atoi_syntax_var (str l) (by rw [str_size]; omega) (by rw [hd]; exact hA) a b w h2).mono ?_
    rintro e w' ⟨N, rfl, -, -, hb⟩
    exact ⟨hb, .inr ⟨(fun v h => by cases h), _, _, rfl⟩⟩
  | range =>
    refine (Tryd.strconv_Atoi_range_var (str l) (by rw [str_size]; omega) (by rw [hd]; exact hA) c d w h3).mono ?_
    rintro e w' ⟨N, rfl, -, -, hb⟩
    exact ⟨hb, .inr ⟨(fun v h => by cases h), _, _, rfl⟩⟩

end Go.Proofs.YtjggiameajndgabDoor
