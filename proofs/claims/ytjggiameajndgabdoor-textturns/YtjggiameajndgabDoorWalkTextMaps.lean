/-
  The maps of package text: which kind a first word is of, which half of a byte a digit stands for; and what they answer when asked.
-/
import Derived.Test.YtjggiameajndgabDoorWalkRefPrint
import Derived.Maps.OwnSet
namespace Go.Proofs.YtjggiameajndgabDoor
open Go.RowKit Go.Maps

theorem lawS : Keyed Tryd.prog 9 := string_keyed Tryd.underlying9
theorem lawB : Keyed Tryd.prog 5 := int_keyed Tryd.underlying5
theorem wf8 {a : Int} (h0 : 0 ≤ a) (h1 : a ≤ 255) : (Lit.int .u8 a).wf = true := WalkArith.wf_u8 ⟨h0, h1⟩
theorem zero64 (w : World) : (zeroValue 3).run Tryd.prog w = .ok (.int .i64 0) w := by kernel_rfl
theorem zero8 (w : World) : (zeroValue 5).run Tryd.prog w = .ok (.int .u8 0) w := by kernel_rfl

/-- What the first map reads as. -/
def kindsD : DataW Unit := ((DataW.map []).put (.string wrW) (.lit (.int .i64 1))).put (.string swW) (.lit (.int .i64 2))

/-- What the second map reads as behind k digits. -/
def halvesD : Nat → DataW Unit
  | 0 => .map []
  | k + 1 => (halvesD k).put (.int .u8 ((hexD k).toNat : Int)) (.lit (.int .u8 (k : Int)))

/-- The value is a map of the call's own that reads as D. -/
def OwnM (k e : TypeId) (n : Nat) (D : DataW Unit) (v : Value) (w : World) : Prop :=
  ∃ b, v = .map (some b) ∧ w.ownsMap Tryd.prog k (plainElem (H := Unit) Tryd.prog e) b n D

theorem OwnM.grow {k e : TypeId} {n : Nat} {D : DataW Unit} {v : Value} {w w' : World} (h : OwnM k e n D v w) (hg : Grow w w') : OwnM k e n D v w' := by
  obtain ⟨b, rfl, es, clock, hb, r⟩ := h
  have hlt : b < w.heap.size := (Array.getElem?_eq_some_iff.1 hb).1
  exact ⟨b, rfl, es, clock, (hg.block b hlt).trans hb, r⟩

theorem OwnM.kept {k e : TypeId} {n : Nat} {D : DataW Unit} {b : Nat} {w w' : World} {row : Option Nat} (h : OwnM k e n D (.map (some b)) w) (hg : w.grownBy w' row) (hne : some b ≠ row) : OwnM k e n D (.map (some b)) w' := by
  obtain ⟨b', hb, h⟩ := h
  injection hb with hb
  injection hb with hb
  subst hb
  exact ⟨_, rfl, h.kept hg hne⟩

theorem OwnM.stable {k e : TypeId} {n : Nat} (D : DataW Unit) : ∀ (v : Value) (x y : World), OwnM k e n D v x → Grow x y → OwnM k e n D v y := fun _ _ _ h hg => h.grow hg

/-- The number that a datum is. -/
def numD : DataW Unit → Int
  | .lit (.int _ c) => c
  | _ => 0

/-- Of which kind a first word is. -/
def kindN (l : List UInt8) : Int := if l = wrW then 1 else if l = swW then 2 else 0

theorem kinds_has (l : List UInt8) : Maps.has kindsD (.string l) = decide (l = wrW ∨ l = swW) := by
  by_cases h2 : l = swW
  · subst h2; rfl
  · rw [kindsD, has_put_other (by simpa using h2)]
    by_cases h1 : l = wrW
    · subst h1; rfl
    · rw [has_put_other (by simpa using h1)]
      simp [h1, h2, Maps.has]

theorem kinds_at (l : List UInt8) : kindsD.atKey (.string l) (.lit (.int .i64 0)) = .lit (.int .i64 (kindN l)) := by
  unfold kindN
  by_cases h2 : l = swW
  · subst h2; rfl
  · rw [kindsD, atKey_put_other (by simpa using h2)]
    by_cases h1 : l = wrW
    · subst h1; rfl
    · rw [atKey_put_other (by simpa using h1), if_neg h1, if_neg h2]
      rfl

theorem halves_has : ∀ c : Fin 256, Maps.has (halvesD 16) (.int .u8 ((c.val : Nat) : Int)) = (hexV (UInt8.ofNat c.val)).isSome := by decide +kernel
theorem halves_at : ∀ c : Fin 256, numD ((halvesD 16).atKey (.int .u8 ((c.val : Nat) : Int)) (.lit (.int .u8 0))) = (((hexV (UInt8.ofNat c.val)).getD 0 : Nat) : Int) := by decide +kernel

/-- The first map is asked. -/
theorem kinds_look {w : World} {v : Value} {n : Nat} (h : OwnM 9 3 n kindsD v w) (l : List UInt8) (hl : l.length ≤ maxLen) :
    (Instr.lookup 37 v (.string (str l)) true).run Tryd.prog w = .ok (.tuple #[.int .i64 (kindN l), .bool (decide (l = wrW ∨ l = swW))]) w := by
  obtain ⟨b, rfl, h⟩ := h
  have hkey := WideMaps.keyOf_string_mk (P := Tryd.prog) Tryd.underlying9 (s := str l) (by rw [str_size]; exact hl)
  rw [show (str l).data.toList = l from by simp [str]] at hkey
  obtain ⟨u, ps, hrun, hu⟩ := h.look_ok lawS Tryd.underlying37 (zero64 w) (plainElem_int Tryd.underlying3 (by decide)) hkey
  obtain ⟨c, rfl, hc, -⟩ := plainElem_int_inv Tryd.underlying3 hu
  have h1 : kindsD.atKey (.string l) (.lit (.int .i64 0)) = .lit (.int .i64 c) := congrArg Prod.fst hc
  have h2 : kindN l = c := congrArg numD ((kinds_at l).symm.trans h1)
  subst h2
  rw [hrun, kinds_has]

/-- The second map is asked. -/
theorem halves_look {w : World} {v : Value} {n : Nat} (h : OwnM 5 5 n (halvesD 16) v w) (c : UInt8) :
    (Instr.lookup 60 v (.int .u8 (c.toNat : Int)) true).run Tryd.prog w = .ok (.tuple #[.int .u8 (((hexV c).getD 0 : Nat) : Int), .bool (hexV c).isSome]) w := by
  obtain ⟨b, rfl, h⟩ := h
  have hlt := c.toNat_lt
  have hkey := keyOf_int_mk (P := Tryd.prog) Tryd.underlying5 (a := (c.toNat : Int)) (wf8 (by omega) (by omega))
  obtain ⟨u, ps, hrun, hu⟩ := h.look_ok lawB Tryd.underlying60 (zero8 w) (plainElem_int Tryd.underlying5 (by decide)) hkey
  obtain ⟨d, rfl, hc, -⟩ := plainElem_int_inv Tryd.underlying5 hu
  have e0 : UInt8.ofNat c.toNat = c := UInt8.ofNat_toNat
  have h1 := halves_at ⟨c.toNat, hlt⟩
  have h2 := halves_has ⟨c.toNat, hlt⟩
  simp only [e0] at h1 h2
  have h3 : (halvesD 16).atKey (.int .u8 (c.toNat : Int)) (.lit (.int .u8 0)) = .lit (.int .u8 d) := congrArg Prod.fst hc
  have h4 : d = (((hexV c).getD 0 : Nat) : Int) := (congrArg numD h3).symm.trans h1
  subst h4
  rw [hrun, h2]

set_option maxRecDepth 20000 in
set_option maxHeartbeats 800000 in
theorem kinds_any (w : World) :
    Calls Tryd.prog 13 #[] w fun e w' => ∃ v, e = .returned v ∧ OwnM 9 3 2 kindsD v w' ∧ Grow w w' := by
  have hmm := @run_makeMap Tryd.prog
  have o0 := World.ownsMap_made w Tryd.prog 9 (plainElem (H := Unit) Tryd.prog 3)
  have k1 := WideMaps.keyOf_string_mk (P := Tryd.prog) Tryd.underlying9 (s := { data := #[119, 114, 105, 116, 101] }) (by decide)
  have k2 := WideMaps.keyOf_string_mk (P := Tryd.prog) Tryd.underlying9 (s := { data := #[115, 119, 97, 112] }) (by decide)
  obtain ⟨w1, r1, o1, g1⟩ := o0.update lawS Tryd.underlying37 (by decide) k1 (plainElem_int (a := 1) Tryd.underlying3 (by decide))
  obtain ⟨w2, r2, o2, g2⟩ := o1.update lawS Tryd.underlying37 (by decide) k2 (plainElem_int (a := 2) Tryd.underlying3 (by decide))
  have O2 : Hid _ := o2
  have G : Grow w w2 := Grow.grown (Grow.grown (Grow.alloc w (.map #[] 0)) g1 (fun j hj => by cases hj; exact Nat.le_refl _)) g2 (fun j hj => by cases hj; exact Nat.le_refl _)
  clear o0 o1 o2 k1 k2 g1 g2
  go_enter Tryd.func13, Tryd.ntmps13
  go_wp2
  go_ret
  exact ⟨_, rfl, ⟨_, rfl, O2.out⟩, G⟩

set_option maxRecDepth 20000 in
set_option maxHeartbeats 800000 in
theorem halves_any (w : World) :
    Calls Tryd.prog 34 #[] w fun e w' => ∃ v, e = .returned v ∧ OwnM 5 5 16 (halvesD 16) v w' ∧ Grow w w' ∧ ∀ b, v = .map (some b) → w.heap.size ≤ b := by
  have hmm : ∀ w, (Instr.makeMap 60 (some (.int .i64 16))).run Tryd.prog w = .ok (.map (some w.heap.size)) (w.alloc (.map #[] 0)) := fun w => rfl
  go_enter Tryd.func34, Tryd.ntmps34
  go_wp2_with fail
  go_loopw [4] (fun i wr => ∃ k : Nat, k ≤ 16 ∧ i = .int .i64 k ∧ wr.ownsMap Tryd.prog 5 (plainElem (H := Unit) Tryd.prog 5) w.heap.size k (halvesD k) ∧ Grow w wr) (fun i _ => 16 - (intOf i).toNat)
  case atStart => exact ⟨0, by omega, rfl, World.ownsMap_made _ _ _ _, Grow.alloc _ _⟩
  case round =>
    obtain ⟨k, hk, rfl, hown, hg⟩ := hrel
    by_cases hlt : k < 16
    · have hix := fun w => hex_index64 (w := w) k hlt
      have hd := hexD_lt k hlt
      have hkey : keyOf Tryd.prog 5 (.int .u8 ((hexD k).toNat : Int)) = some (.int .u8 ((hexD k).toNat : Int)) := keyOf_int_mk Tryd.underlying5 (wf8 (by omega) (by omega))
      go_wp2_with (first
        | (at_mapUpdate; refine wpList_mapUpdate_own _ rfl _ _ _ 60 rfl 5 5 lawB Tryd.underlying60 _ w.heap.size k _ rfl hown (by unfold maxLen; omega) _ _ _ rfl rfl hkey (.lit (.int .u8 (k : Int))) [] (plainElem_int Tryd.underlying5 (wf8 (by omega) (by omega))) ?_; intro w1 hown1 hgrow1))
      go_roundw
      case rel => first | exact ⟨k + 1, by omega, by go_num, hown1, hg.grown hgrow1 (fun j hj => by cases hj; exact Nat.le_refl _)⟩ | ((repeat apply Exists.intro); exact ⟨⟨k + 1, by omega, by go_num, hown1, hg.grown hgrow1 (fun j hj => by cases hj; exact Nat.le_refl _)⟩, rfl⟩)
      case measure => simp [intOf]; omega
    · obtain rfl : k = 16 := by omega
      go_wp2_with fail
      go_ret
      exact ⟨_, rfl, ⟨_, rfl, hown⟩, hg, fun b hb => by cases hb; exact Nat.le_refl _⟩

end Go.Proofs.YtjggiameajndgabDoor
