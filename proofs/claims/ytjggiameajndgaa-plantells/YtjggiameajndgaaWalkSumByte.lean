/-
  The outright statement of chapter 1, walked: whatever bytes, whatever place, whatever byte: it returns true, and nothing old turns.
-/
import Derived.Test.YtjggiameajndgaaWalkAlive
namespace Go.Proofs.Ytjggiameajndgaa
open Go.RowKit

/-- Behind a store into a row of the call's own that holds bytes: the bytes with that one turned. -/
theorem Bs.stored {w : World} {base : Nat} {e : TypeId} {g n cap k : Nat} {l : List Int} {c : Int} (h : w.ownsRow base e 1 (.slice (some ⟨g, 0, none⟩) n cap) n (l.map (Value.int .u8))) (ho : Octets l) (hc : 0 ≤ c ∧ c ≤ 255) :
    Bs (w.setCell ⟨g, k, none⟩ (.int .u8 c)) (.slice (some ⟨g, 0, none⟩) n cap) (l.set k c) := by
  have h1 := (h.stored k (.int .u8 c)).1
  rw [← List.map_set] at h1
  refine Bs.of_own h1 fun x hx => ?_
  rcases List.mem_or_eq_of_mem_set hx with hx | rfl
  · exact ho x hx
  · exact hc

set_option maxRecDepth 20000 in
set_option maxHeartbeats 1600000 in
theorem sumByte_walk (v : Value) (l : List Int) (k c : Int) (w : World) (hlen : l.length ≤ 140737488351232) (h : Bs w v l) (hk : -9223372036854775808 ≤ k ∧ k ≤ 9223372036854775807) (hc : 0 ≤ c ∧ c ≤ 255) :
    Calls Try.prog 4 #[v, .int .i64 k, .int .u8 c] w fun e w' => e = .returned (.bool true) ∧ Below w.heap.size w w' := by
  have hoct := h.octets
  have hso := sealOf_octets l hoct
  have hsl := sealOf_length l
  have hbs := h
  obtain ⟨ao, cap, rfl, -⟩ := h
  go_enter Try.func4, Try.ntmps4
  go_wp2_with fail
  refine (alive_any _).mono ?_
  rintro e w0 ⟨rfl, hb0⟩
  go_wp2_with fail
  refine (seal_any _ l _ hlen (hbs.below hb0)).mono ?_
  rintro e w1 ⟨r, rfl, hown, hb1⟩
  obtain ⟨g, cap1, rfl, hg, hg'⟩ := hown.form (by omega)
  have hbel : Below w.heap.size w w1 := hb0.trans (hb1.mono hb0.size)
  have hb2 := Bs.of_own hown hso
  go_wp2_with fail
  refine (sealed_yes _ _ _ hb2 (sealedB_seal _)).mono ?_
  rintro e w2 ⟨rfl, n, rfl⟩
  by_cases hin : 0 ≤ k ∧ k < (l.length : Int) + 2
  · obtain ⟨hk0, hk1⟩ := hin
    have hj : k.toNat < (sealOf l).length := by omega
    have hcell : w1.cell? ⟨g, k.toNat, none⟩ = some (.int .u8 ((sealOf l).getD k.toNat 0)) := by
      rw [hown.cellAt k.toNat (by omega)]
      simp [hj, List.getD_eq_getElem?_getD]
    have hfr := hown.frozenAt k.toNat
    have hstored := Bs.stored (w := w1.drewN n) (k := k.toNat) (n := l.length + 2) hown hso hc
    by_cases hx : (sealOf l).getD k.toNat 0 = c
    · rw [hx] at hcell
      go_wp2_with fail
      go_ret
      exact ⟨rfl, below_drewN hbel _⟩
    · have hxb : ((sealOf l).getD k.toNat 0 == c) = false := by simpa using hx
      have hturned : Hid (sealedB ((sealOf l).set k.toNat c) = false) := sealedB_turned l k.toNat c hj hoct hc hx
      generalize (sealOf l).getD k.toNat 0 = x at *
      go_wp2_with fail
      refine (sealed_no _ _ _ hstored hturned.out).mono ?_
      rintro e w3 ⟨rfl, n', rfl⟩
      go_wp2_with fail
      go_ret
      exact ⟨rfl, below_drewN ((below_drewN hbel n).setCell (p := ⟨g, k.toNat, none⟩) (Nat.le_trans hb0.size hg) _) _⟩
  · have hout : k < 0 ∨ (l.length : Int) + 2 ≤ k := by omega
    clear hin
    rcases hout with hout | hout
    · go_wp2_with fail
      go_ret
      exact ⟨rfl, below_drewN hbel _⟩
    · go_wp2_with fail
      go_ret
      exact ⟨rfl, below_drewN hbel _⟩

end Go.Proofs.Ytjggiameajndgaa
