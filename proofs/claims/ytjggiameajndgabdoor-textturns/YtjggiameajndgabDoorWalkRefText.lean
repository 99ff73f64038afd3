/-
  What the reference's SameDeed returns; strconv.Itoa of a small number.
-/
import Derived.Test.YtjggiameajndgabDoorTextMath
import Derived.Test.YtjggiameajndgabDoorWalkRefModel2
import Derived.Test.YtjggiameajndgabDoorShelf
namespace Go.Proofs.YtjggiameajndgabDoor
open Go.RowKit

/-- Are they one? -/
def sameD (x y : DeedP) : Bool := decide (x.k = y.k ∧ x.n = y.n ∧ x.m = y.m ∧ x.d = y.d)

theorem sameD_iff {x y : DeedP} : sameD x y = true ↔ x = y := by
  obtain ⟨k, n, m, d⟩ := x
  obtain ⟨k', n', m', d'⟩ := y
  simp [sameD]

set_option maxRecDepth 20000 in
set_option maxHeartbeats 800000 in
theorem refSameDeed_any (va vb : Value) (x y : DeedP) (w : World) (ha : DeedV w va x) (hb : DeedV w vb y) :
    Calls Tryd.prog 7 #[va, vb] w fun e w' => e = .returned (.bool (sameD x y)) ∧ Grow w w' := by
  obtain ⟨da, rfl, ha⟩ := ha
  obtain ⟨db, rfl, hb⟩ := hb
  obtain ⟨k, n, m, d⟩ := x
  obtain ⟨k', n', m', d'⟩ := y
  dsimp only at ha hb ⊢
  have HS : Hid (sameD ⟨k, n, m, d⟩ ⟨k', n', m', d'⟩ = decide (k = k' ∧ n = n' ∧ m = m' ∧ d = d')) := rfl
  generalize sameD ⟨k, n, m, d⟩ ⟨k', n', m', d'⟩ = S at *
  have hg : Grow w ((w.alloc (.cells #[.int .i64 k, .int .i64 n, .int .i64 m, da] 24)).alloc (.cells #[.int .i64 k', .int .i64 n', .int .i64 m', db] 24)) := (Grow.alloc _ _).trans (Grow.alloc _ _)
  have hcv1 := run_convert_bs (P := Tryd.prog) 22 5 9 Tryd.underlying22 Tryd.underlying5 Tryd.underlying9 (ha.grow hg)
  have hcv2 := run_convert_bs (P := Tryd.prog) 22 5 9 Tryd.underlying22 Tryd.underlying5 Tryd.underlying9 (hb.grow hg)
  have HB : Hid (((strOfNums d).toList == (strOfNums d').toList) = (d == d')) := str_beq ha.octets hb.octets
  obtain ⟨aa, ca, rfl, -, -⟩ := ha
  obtain ⟨ab, cb, rfl, -, -⟩ := hb
  by_cases hk : k = k'
  · subst hk
    by_cases hn : n = n'
    · subst hn
      by_cases hm : m = m'
      · subst hm
        by_cases hd : d = d'
        · subst hd
          go_enter Tryd.func7, Tryd.ntmps7
          go_wp2
          go_ret
          refine ⟨ret_bool ?_, hg⟩
          rw [HS.out]; simp
        · have hd2 : ((strOfNums d).toList == (strOfNums d').toList) = false := by rw [HB.out]; simp [hd]
          have Hd : Hid (¬ d = d') := hd
          clear hd
          generalize d.length = ld at *
          generalize d'.length = ld' at *
          go_enter Tryd.func7, Tryd.ntmps7
          go_wp2
          go_ret
          refine ⟨ret_bool ?_, hg⟩
          rw [HS.out]; simp [Hd.out]; try simpa using hd2
      · go_enter Tryd.func7, Tryd.ntmps7
        go_wp2
        go_ret
        refine ⟨ret_bool ?_, hg⟩
        rw [HS.out]; simp [hm]
    · go_enter Tryd.func7, Tryd.ntmps7
      go_wp2
      go_ret
      refine ⟨ret_bool ?_, hg⟩
      rw [HS.out]; simp [hn]
  · go_enter Tryd.func7, Tryd.ntmps7
    go_wp2
    go_ret
    refine ⟨ret_bool ?_, hg⟩
    rw [HS.out]; simp [hk]

/-- A text as a value. -/
def str (l : List UInt8) : ByteArray := ⟨l.toArray⟩

theorem str_size (l : List UInt8) : (str l).size = l.length := by simp [str, ByteArray.size]

theorem str_append (a b : List UInt8) : str a ++ str b = str (a ++ b) := by
  simp only [str, ByteArray.mk_append_mk]

/-- strconv.Itoa of a small number. -/
theorem itoa_any (k : Nat) (hk : k < 10) (w : World) :
    Calls Tryd.prog 18 #[.int .i64 k] w fun e w' => e = .returned (.string (str (Lib.itoa k))) ∧ Grow w w' := by
  refine (Tryd.strconv_Itoa_small k (by omega) w).mono ?_
  rintro e w' ⟨rfl, rfl⟩
  refine ⟨?_, Grow.refl _⟩
  have : Lib.decDigits k = Lib.itoa k := by
    rw [itoa_small k hk, Lib.decDigits, dif_pos hk]
  rw [this]; rfl

end Go.Proofs.YtjggiameajndgabDoor
