/-
  What sum.Sealed and the reference's Sealed return: whether the bytes end with the sum of what is ahead; nothing old turns.
-/
import Derived.Test.YtjggiameajndgabWalkSeal
import Derived.Deep.QuietTactic
import Derived.BigQuiet
namespace Go.Proofs.Ytjggiameajndgab
open Go.RowKit

theorem wrap_i64_small (n : Nat) (h : n < 65536) : IntKind.i64.wrap (n : Int) = n := by
  simp [IntKind.wrap, IntKind.bits, IntKind.signed]
  omega

theorem or_bytes (x y : Int) (hx : 0 ≤ x ∧ x ≤ 255) (hy : 0 ≤ y ∧ y ≤ 255) : bits .or .i64 (x * 256) y = x * 256 + y := by
  obtain ⟨a, rfl⟩ := Int.eq_ofNat_of_zero_le hx.1
  obtain ⟨b, rfl⟩ := Int.eq_ofNat_of_zero_le hy.1
  have e : ((a : Int) * 256) = ((2 ^ 8 * a : Nat) : Int) := by omega
  have h1 : (BitVec.ofInt 64 ((2 ^ 8 * a : Nat) : Int)).toNat = 2 ^ 8 * a := by
    rw [BitVec.ofInt_natCast, BitVec.toNat_ofNat]; exact Nat.mod_eq_of_lt (by omega)
  have h2 : (BitVec.ofInt 64 (b : Int)).toNat = b := by
    rw [BitVec.ofInt_natCast, BitVec.toNat_ofNat]; exact Nat.mod_eq_of_lt (by omega)
  rw [e]
  show IntKind.i64.wrap ((BitVec.ofInt 64 ((2 ^ 8 * a : Nat) : Int) ||| BitVec.ofInt 64 (b : Int)).toNat : Int) = _
  rw [BitVec.toNat_or, h1, h2, ← Nat.two_pow_add_eq_or_of_lt (by omega), wrap_i64_small _ (by omega)]
  omega

theorem Bs.take {w : World} {ao : Option Addr} {cap n : Nat} {l : List Int} (hn : n ≤ l.length) (h1 : l.length ≤ cap) (h2 : cap ≤ maxLen) (h3 : ao = none → cap = 0) (h4 : Octets l) (h5 : Cs w ao l) : Bs w (.slice ao n cap) (l.take n) := by
  have hlen : (l.take n).length = n := by simp; omega
  refine ⟨ao, cap, by rw [hlen], by omega, h2, h3, fun x hx => h4 x (List.mem_of_mem_take hx), fun hp => ?_⟩
  rw [hlen] at hp
  obtain ⟨b, off, e, hc⟩ := h5 (by omega)
  refine ⟨b, off, e, fun i hi => ?_⟩
  rw [hlen] at hi
  rw [hc i (by omega)]
  simp [List.getD_eq_getElem?_getD, hi]

set_option maxRecDepth 20000 in
set_option maxHeartbeats 800000 in
theorem sealed_any (v : Value) (l : List Int) (w : World) (h : Bs w v l) :
    Calls Try.prog 92 #[v] w fun e w' => e = .returned (.bool (sealedB l)) ∧ ∃ n, w' = w.drewN n := by
  obtain ⟨ao, cap, rfl, h1, h2, h3, h4, h5⟩ := h
  by_cases hlt : l.length < 2
  · unfold maxLen at h2
    have hs : Hid (sealedB l = false) := sealedB_short l hlt
    go_enter Try.func92, Try.ntmps92
    go_wp2
    go_ret
    exact ⟨ret_bool hs.out.symm, 0, rfl⟩
  · obtain ⟨n, hn⟩ : ∃ n, l.length = n + 2 := ⟨l.length - 2, by omega⟩
    have hsub := Bs.take (w := w) (n := n) (by omega) h1 h2 h3 h4 h5
    have hs : Hid (sealedB l = _) := sealedB_eq l h4 n hn
    have hbd := sumOf_bd (l.take n)
    obtain ⟨b, off, rfl, hc⟩ := h5 (by omega)
    have c0 := hc n (by omega)
    have c1 := hc (n + 1) (by omega)
    have x0 := getD_bd h4 n
    have x1 := getD_bd h4 (n + 1)
    have hcap : (n : Int) + 2 ≤ (cap : Int) := by omega
    clear hc
    unfold maxLen at h2
    rw [hn]
    generalize l.getD n 0 = x at *
    generalize l.getD (n + 1) 0 = y at *
    go_enter Try.func92, Try.ntmps92
    go_wp2
    go_quiet ((go_at_call 94; exact Calls.quiet_of_same (of_any _ (l.take n) _ hsub)))
    go_wp2
    go_ret
    exact ⟨ret_bool (by rw [hs.out, or_bytes x y x0 x1]), _, rfl⟩

end Go.Proofs.Ytjggiameajndgab
