/-
  What text.parseDeed returns: a deed of that kind, right or not, and whether its words are so written.
-/
import Derived.Test.YtjggiameajndgabDoorWalkTextParts
namespace Go.Proofs.YtjggiameajndgabDoor
open Go.RowKit

theorem words_three {k : Int} {ws : List (List UInt8)} (h : ws.length = 3) : wordsP k ws = match form k (ws.getD 1 []) (ws.getD 2 []) with | none => noP 2 | some x => chkP x := by
  rw [three h]; rfl

/-- A deed whose bytes lie at B or above. -/
def DeedO (B : Nat) (w : World) (v : Value) (x : DeedP) : Prop :=
  ∃ dv, v = .agg #[.int .i64 x.k, .int .i64 x.n, .int .i64 x.m, dv] ∧ w.ownsRow B 5 1 dv x.d.length (x.d.map (Value.int .u8)) ∧ Octets x.d

theorem DeedO.plain {B : Nat} {w : World} {v : Value} {x : DeedP} (h : DeedO B w v x) : DeedV w v x := by
  obtain ⟨dv, hv, ho, hoct⟩ := h
  exact ⟨dv, hv, Bs.of_own ho hoct⟩

set_option maxRecDepth 20000 in
set_option maxHeartbeats 800000 in
theorem parseDeed_any (k : Int) (hk : k = 1 ∨ k = 2) (v : Value) (ws : List (List UInt8)) (w : World) (h : Sl StrV w v ws) (hw : ∀ i, (ws.getD i []).length ≤ 140737488355328) (hlaid : Laid w) :
    Calls Tryd.prog 14 #[.int .i64 k, v] w fun e w' => ∃ u y ok, e = .returned (.tuple #[u, .bool ok]) ∧ DeedO w.heap.size w' u y ∧ Grow w w' ∧ (ok = true → wordsP k ws = chkP y) ∧ (ok = false → wordsP k ws = noP 2) := by
  obtain ⟨ao, cap, rfl, h1, h2, h3, h4⟩ := h
  unfold maxLen at h2
  have hgA : Grow w (w.alloc (.cells #[.int .i64 0, .int .i64 0, .int .i64 0, .slice none 0 0] 24)) := Grow.alloc _ _
  have hbx : (w.alloc (.cells #[.int .i64 0, .int .i64 0, .int .i64 0, .slice none 0 0] 24)).heap[w.heap.size]? = some (.cells #[.int .i64 0, .int .i64 0, .int .i64 0, .slice none 0 0] 24) := heap_alloc_new _ _
  have HR : Hid (Box4 (w.alloc (.cells #[.int .i64 0, .int .i64 0, .int .i64 0, .slice none 0 0] 24)) w.heap.size (.int .i64 0) (.int .i64 0) (.int .i64 0) (.slice none 0 0)) := Box4.new hbx

  clear hbx
  by_cases hn3 : ws.length = 3
  · have HQ : Hid _ := words_three (k := k) hn3
    obtain ⟨b, off, rfl, hc⟩ := h4 (by omega)
    have hcell := Sl.textAt hc
    have c1 := hgA.at (hcell 1 (by omega))
    have c2 := hgA.at (hcell 2 (by omega))
    have hbD : b < w.heap.size := cell_lt (hcell 1 (by omega))
    have l1 := hw 1
    have l2 := hw 2
    have hcap : ¬ cap = 1 := by omega
    have hcap2 : 3 ≤ cap := by omega
    clear h4 hc hcell hw h3 h1
    rw [hn3]
    have Hn3 : Hid (ws.length = 3) := hn3
    clear hn3
    generalize ws.getD 1 [] = A1 at *
    generalize ws.getD 2 [] = A2 at *
    have hgB : Grow (w.alloc (.cells #[.int .i64 0, .int .i64 0, .int .i64 0, .slice none 0 0] 24)) ((w.alloc (.cells #[.int .i64 0, .int .i64 0, .int .i64 0, .slice none 0 0] 24)).alloc (.cells #[.int .i64 k, .int .i64 0, .int .i64 0, .slice none 0 0] 24)) := Grow.alloc _ _
    have HD : Hid (Box4 ((w.alloc (.cells #[.int .i64 0, .int .i64 0, .int .i64 0, .slice none 0 0] 24)).alloc (.cells #[.int .i64 k, .int .i64 0, .int .i64 0, .slice none 0 0] 24)) (w.heap.size + 1) (.int .i64 k) (.int .i64 0) (.int .i64 0) (.slice none 0 0)) := by
      have h := Box4.new (heap_alloc_new (w.alloc (.cells #[.int .i64 0, .int .i64 0, .int .i64 0, .slice none 0 0] 24)) (.cells #[.int .i64 k, .int .i64 0, .int .i64 0, .slice none 0 0] 24))
      rw [Hid]; simpa using h
    have HR2 : Hid (Box4 _ w.heap.size _ _ _ _) := HR.out.grow hgB
    have k1 := hgB.at c1
    have k2 := hgB.at c2
    have hgW := hgA.trans hgB
    have hlB := hlaid.grow hgW
    clear hgA hgB HR c1 c2
    go_enter Tryd.func14, Tryd.ntmps14
    go_wp2_with fail
    generalize (w.alloc (.cells #[.int .i64 0, .int .i64 0, .int .i64 0, .slice none 0 0] 24)).alloc (.cells #[.int .i64 k, .int .i64 0, .int .i64 0, .slice none 0 0] 24) = W2 at *
    obtain ⟨R, hR⟩ : ∃ R, R = w.heap.size := ⟨_, rfl⟩
    rw [← hR] at HD HR2 hbD ⊢
    have hwR : w.heap.size ≤ R := by omega
    clear hR
    refine (parseNumber_any A1 (by omega) _ hlB).mono ?_
    rintro e w5 ⟨n, rfl, hn1, hg5⟩
    have HN1 : Hid _ := hn1
    clear hn1
    obtain ⟨o1, ho1⟩ : ∃ o, o = (numL A1).isSome := ⟨_, rfl⟩
    rw [← ho1]
    have HO1 : Hid (o1 = (numL A1).isSome) := ho1
    clear ho1
    have hB7 := HD.out.grow hg5
    have hR7 := HR2.out.grow hg5
    have HB8 : Hid (Box4 _ (R + 1) _ _ _ _) := hB7.set1 (.int .i64 n)
    have HR8 : Hid (Box4 _ R _ _ _ _) := hR7.other (k := R + 1) (by omega) 1 (.int .i64 n)
    have j2 := hg5.at k2
    have hg8 := Grow.set' (hgW.trans hg5) (g := R + 1) (k := 1) (by omega) (.int .i64 n)
    have hl8 := hlaid.grow hg8
    clear k1 k2 HD HR2 hgW hlB hR7
    obtain ⟨e0, e1, e2, e3, ef⟩ := hB7
    rcases hk with rfl | rfl
    · go_wp2_with fail
      clear e0 e1 e2 e3 ef j2
      generalize w5.setCell ⟨R + 1, 1, none⟩ (.int .i64 n) = W6 at *
      refine (parseData_any A2 l2 _).mono ?_
      rintro e w7 ⟨dv, d, rfl, ⟨hbs, hoct⟩, hd, hg7⟩
      have HD2 : Hid _ := hd
      clear hd
      obtain ⟨o2, ho2⟩ : ∃ o, o = (unhex A2).isSome := ⟨_, rfl⟩
      rw [← ho2]
      have HO2 : Hid (o2 = (unhex A2).isSome) := ho2
      clear ho2
      have hB9 := HB8.out.grow hg7
      have hR9 := HR8.out.grow hg7
      have hs6 : R + 1 < W6.heap.size := HB8.out.lt
      obtain ⟨ao, cp, rfl⟩ := own_form hbs
      have hnD : (Value.slice ao d.length cp).ownBlock ≠ some (R + 1) := fun e => by have := (hbs.lt _ e).1; omega
      have hnR : (Value.slice ao d.length cp).ownBlock ≠ some R := fun e => by have := (hbs.lt _ e).1; omega
      have HBs : Hid (w7.ownsRow w.heap.size 5 1 (.slice ao d.length cp) d.length (d.map (Value.int .u8))) := own_lowT hbs hg8.size
      have HBX : Hid (Box4 _ (R + 1) _ _ _ _) := hB9.set3 (.slice ao d.length cp)
      have HRX : Hid (Box4 _ R _ _ _ _) := hR9.other (k := R + 1) (by omega) 3 (.slice ao d.length cp)
      have hgX := Grow.set' (hg8.trans hg7) (g := R + 1) (k := 3) (by omega) (.slice ao d.length cp)
      have HOx : Hid _ := own_set' HBs.out (p := ⟨R + 1, 3, none⟩) hnD (.slice ao d.length cp)
      have HGX : Hid _ := hgX
      have HQ2 : Hid ((o1 && o2) = true → wordsP 1 ws = chkP ⟨1, n, 0, d⟩) := fun h => by
        have a1 := HO1.out; have a2 := HO2.out
        have h1 : numL A1 = some n := by
          cases hA : numL A1 with
          | none => rw [hA] at a1; subst a1; simp at h
          | some v => rw [HN1.out v hA]
        have h2 : unhex A2 = some d := by
          cases hA : unhex A2 with
          | none => rw [hA] at a2; subst a2; simp at h
          | some v => rw [HD2.out v hA]
        rw [HQ.out, form_one h1 h2]
      have HQ3 : Hid ((o1 && o2) = false → wordsP 1 ws = noP 2) := fun h => by
        have a1 := HO1.out; have a2 := HO2.out
        rw [HQ.out]
        cases hA : numL A1 with
        | none => rw [form_none1 hA]
        | some v =>
          cases hB : unhex A2 with
          | none => rw [form_odd hB]
          | some u => rw [hA] at a1; rw [hB] at a2; subst a1; subst a2; simp at h
      have HY : Hid (_ ∧ _) := Box4.put HRX.out hgX hwR (.int .i64 1) (.int .i64 n) (.int .i64 0) (.slice ao d.length cp)
      have HO9 : Hid _ := own_set' (own_set' (own_set' (own_set' HOx.out (p := ⟨R, 0, none⟩) hnR (.int .i64 1)) (p := ⟨R, 1, none⟩) hnR (.int .i64 n)) (p := ⟨R, 2, none⟩) hnR (.int .i64 0)) (p := ⟨R, 3, none⟩) hnR (.slice ao d.length cp)
      clear hbs hgX HD2 HO2 HO1 HN1 HQ HB8 HR8 hg7 hg8 hl8 HRX HGX HOx
      obtain ⟨e0, e1, e2, e3, ef⟩ := hB9
      obtain ⟨r0, r1, r2, r3, rf⟩ := hR9
      cases o1
      all_goals
        go_wp2_with fail
        obtain ⟨⟨z0, z1, z2, z3, -⟩, hgE⟩ := HY.out
        refine bodyPost_ret (results_four1 Tryd.results14 _ _ R _ rfl Tryd.underlying24 rfl Tryd.sizeD z0 z1 z2 z3) rfl ?_
        exact ⟨_, ⟨1, n, 0, d⟩, _, rfl, ⟨_, rfl, HO9.out, hoct⟩, hgE, (fun h => HQ2.out h), fun h => HQ3.out h⟩
    · go_wp2_with fail
      clear e0 e1 e2 e3 ef j2
      generalize w5.setCell ⟨R + 1, 1, none⟩ (.int .i64 n) = W6 at *
      refine (parseNumber_any A2 (by omega) _ hl8).mono ?_
      rintro e w7 ⟨m, rfl, hm, hg7⟩
      have HM2 : Hid _ := hm
      clear hm
      obtain ⟨o2, ho2⟩ : ∃ o, o = (numL A2).isSome := ⟨_, rfl⟩
      rw [← ho2]
      have HO2 : Hid (o2 = (numL A2).isSome) := ho2
      clear ho2
      have hB9 := HB8.out.grow hg7
      have hR9 := HR8.out.grow hg7
      have HRX : Hid (Box4 _ R _ _ _ _) := hR9.other (k := R + 1) (by omega) 2 (.int .i64 m)
      have hgX := Grow.set' (hg8.trans hg7) (g := R + 1) (k := 2) (by omega) (.int .i64 m)
      have HY : Hid (_ ∧ _) := Box4.put HRX.out hgX hwR (.int .i64 2) (.int .i64 n) (.int .i64 m) (.slice none 0 0)
      have HQ2 : Hid ((o1 && o2) = true → wordsP 2 ws = chkP ⟨2, n, m, []⟩) := fun h => by
        have a1 := HO1.out; have a2 := HO2.out
        have h1 : numL A1 = some n := by
          cases hA : numL A1 with
          | none => rw [hA] at a1; subst a1; simp at h
          | some v => rw [HN1.out v hA]
        have h2 : numL A2 = some m := by
          cases hA : numL A2 with
          | none => rw [hA] at a2; subst a2; simp at h
          | some v => rw [HM2.out v hA]
        rw [HQ.out, form_two h1 h2]
      have HQ3 : Hid ((o1 && o2) = false → wordsP 2 ws = noP 2) := fun h => by
        have a1 := HO1.out; have a2 := HO2.out
        rw [HQ.out]
        cases hA : numL A1 with
        | none => rw [form_none1 hA]
        | some v =>
          cases hB : numL A2 with
          | none => rw [form_none2 hB]
          | some u => rw [hA] at a1; rw [hB] at a2; subst a1; subst a2; simp at h
      clear hgX HM2 HO2 HO1 HN1 HQ HB8 HR8 hg7 hg8 hl8 HRX
      obtain ⟨e0, e1, e2, e3, ef⟩ := hB9
      obtain ⟨r0, r1, r2, r3, rf⟩ := hR9
      cases o1
      all_goals
        go_wp2_with fail
        obtain ⟨⟨z0, z1, z2, z3, -⟩, hgE⟩ := HY.out
        refine bodyPost_ret (results_four1 Tryd.results14 _ _ R _ rfl Tryd.underlying24 rfl Tryd.sizeD z0 z1 z2 z3) rfl ?_
        exact ⟨_, ⟨2, n, m, []⟩, _, rfl, ⟨_, rfl, World.ownsRow_nil _ _ _ _, (fun x hx => by cases hx)⟩, hgE, (fun h => HQ2.out h), fun h => HQ3.out h⟩
  · have HQ : Hid (wordsP k ws = noP 2) := words_len hn3
    have hn3' : ((ws.length : Int) != 3) = true := by simp; omega
    clear h4 hn3
    generalize ws.length = nl at *
    go_enter Tryd.func14, Tryd.ntmps14
    go_wp2_with fail
    obtain ⟨z0, z1, z2, z3, -⟩ := HR.out
    refine bodyPost_ret (results_four1 Tryd.results14 _ _ w.heap.size _ rfl Tryd.underlying24 rfl Tryd.sizeD z0 z1 z2 z3) rfl ?_
    exact ⟨_, ⟨0, 0, 0, []⟩, false, rfl, ⟨_, rfl, World.ownsRow_nil _ _ _ _, (fun x hx => by cases hx)⟩, hgA, (fun h => by cases h), fun _ => HQ.out⟩

end Go.Proofs.YtjggiameajndgabDoor
