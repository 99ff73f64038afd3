/-
  The world moves on: nothing that was there has turned. What a slice of bytes converts to; strings of bytes that are alike.
-/
import Derived.Test.YtjggiameajndgabBase
import Derived.Test.YtjggiameajndgabStable
import Derived.Laws.BytesArg
namespace Go.Proofs.Ytjggiameajndgab
open Go.RowKit

/-- Nothing that was there has turned. -/
def Grow (w w' : World) : Prop := Below w.heap.size w w'
theorem Grow.refl (w : World) : Grow w w := Below.refl _ _
theorem Grow.trans {x y z : World} (h : Grow x y) (k : Grow y z) : Grow x z := Below.trans h (Below.mono k h.size)
theorem Grow.drewN (w : World) (n : Nat) : Grow w (w.drewN n) := ⟨rfl, rfl, rfl, Nat.le_refl _, fun _ _ => rfl⟩
theorem Grow.drew {w w' : World} (h : Grow { w with drawn := w.drawn + 1 } w') : Grow w w' := ⟨h.os, h.tape, h.output, h.size, h.block⟩

theorem Grow.alloc (w : World) (b : Obj) : Grow w (w.alloc b) := (Below.refl _ _).alloc (Nat.le_refl _) _

/-- It is this value. -/
def IsV (c v : Value) (_ : World) : Prop := v = c

theorem IsV.eq {c v : Value} {w : World} (h : IsV c v w) : v = c := h
theorem IsV.stable (c : Value) : ∀ (v : Value) (x y : World), IsV c v x → Grow x y → IsV c v y := fun _ _ _ h _ => h

theorem Bs.grow {w w' : World} {v : Value} {l : List Int} (h : Bs w v l) (hb : Grow w w') : Bs w' v l := h.below hb

theorem grow_own {w1 w2 : World} {base : Nat} {e : TypeId} {v : Value} {n : Nat} {xs : List Value} (h : w1.ownsRow base e 1 v n xs) (hg : Grow w1 w2) : w2.ownsRow base e 1 v n xs := by
  obtain ⟨h1, h2⟩ := h
  refine ⟨h1, ?_⟩
  rcases h2 with h2 | ⟨g, cap, cur, hv, hb, hh, hr⟩
  · exact .inl h2
  · have hlt : g < w1.heap.size := by
      by_cases hlt : g < w1.heap.size
      · exact hlt
      · rw [Array.getElem?_eq_none (Nat.le_of_not_lt hlt)] at hh; cases hh
    exact .inr ⟨g, cap, cur, hv, hb, (hg.block g hlt).trans hh, hr⟩

/-- A slice of bytes as a string. -/
theorem run_convert_bs {P : Program} {w : World} {v : Value} {l : List Int} (src e dst : TypeId) (hs : P.underlying src = some (.slice e)) (he : P.underlying e = some (.int .u8)) (hd : P.underlying dst = some .string) (h : Bs w v l) :
    (convert src dst v).run P w = .ok (.string (strOfNums l)) w := by
  obtain ⟨ao, cap, rfl, h1, h2, h3, h4, h5⟩ := h
  cases ao with
  | none =>
    have : l = [] := List.eq_nil_of_length_eq_zero (by have := h3 rfl; omega)
    subst this
    exact run_convert_bytes_nil w src e hs he _ _ dst hd
  | some ad =>
    by_cases hl : 0 < l.length
    · obtain ⟨b, off, e1, hc⟩ := h5 hl
      obtain rfl := Option.some.inj e1
      exact run_convert_bytes_arg w src e hs he b off l.length cap l rfl hc dst hd
    · have : l = [] := List.eq_nil_of_length_eq_zero (by omega)
      subst this
      have hl : (loadCells ad 0).run P w = .ok (([] : List Int).map (Value.int .u8)).toArray w := by
        have := run_loadCells_list (P := P) w ad [] (fun j v hj => by simp at hj)
        simpa using this
      rw [run_convert_bytes_string w src dst e _ _ cap hs he hd]
      show (Conv.bytesToString (.slice (some ad) 0 cap)).run P w = _
      rw [run_bytesToString w ad 0 cap [] hl]
      rfl

theorem ofNat_inj {x y : Int} (hx : 0 ≤ x ∧ x ≤ 255) (hy : 0 ≤ y ∧ y ≤ 255) (h : UInt8.ofNat x.toNat = UInt8.ofNat y.toNat) : x = y := by
  have := congrArg UInt8.toNat h
  simp only [UInt8.toNat_ofNat'] at this
  omega

theorem strOfNums_inj {a b : List Int} (ha : Octets a) (hb : Octets b) (h : strOfNums a = strOfNums b) : a = b := by
  have h1 : a.map (fun n => UInt8.ofNat n.toNat) = b.map (fun n => UInt8.ofNat n.toNat) := by
    rw [← strOfNums_data, ← strOfNums_data, h]
  clear h
  induction a generalizing b with
  | nil => cases b with
    | nil => rfl
    | cons y r => simp at h1
  | cons x s ih =>
    cases b with
    | nil => simp at h1
    | cons y r =>
      simp only [List.map_cons, List.cons.injEq] at h1
      rw [ofNat_inj (ha x (by simp)) (hb y (by simp)) h1.1, ih (fun z hz => ha z (by simp [hz])) (fun z hz => hb z (by simp [hz])) h1.2]

/-- Strings of bytes are alike where the bytes are. -/
theorem str_beq {a b : List Int} (ha : Octets a) (hb : Octets b) : ((strOfNums a).toList == (strOfNums b).toList) = (a == b) := by
  rw [Bool.eq_iff_iff, beq_iff_eq, beq_iff_eq, ByteArray.toList_eq, ByteArray.toList_eq]
  constructor
  · intro h
    refine strOfNums_inj ha hb ?_
    have h1 : (strOfNums a).data = (strOfNums b).data := Array.toList_inj.1 h
    cases hx : strOfNums a
    cases hy : strOfNums b
    rw [hx, hy] at h1
    simpa using h1
  · intro h
    rw [h]

end Go.Proofs.Ytjggiameajndgab
