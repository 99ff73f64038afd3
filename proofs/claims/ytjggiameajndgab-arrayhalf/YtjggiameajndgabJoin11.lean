import Derived.Lib.SliceRun
import Derived.Lib.AppendZeros
import Derived.Test.YtjggiameajndgabJoin10
/-
  What the program's stripe stands on: an item of a list, bytes.Clone, slices.Grow and slices.Concat; rows of four, made. Nothing old turns.
-/
namespace Go.Proofs.Ytjggiameajndgab
open Go.RowKit

set_option maxRecDepth 20000 in
theorem atB_any (b off k n cap : Nat) (x : Option Addr) (y z : Nat) (w : World) (hk : k < n) (hu : w.cell? ⟨b, off + k, none⟩ = some (.slice x y z)) :
    Calls Try.prog 62 #[.slice (some ⟨b, off, none⟩) n cap, .int .i64 k] w fun e w' => e = .returned (.slice x y z) ∧ w' = w := by
  have h1 : ¬ ((k : Int) < 0) := by omega
  have h2 : ¬ ((k : Int) ≥ (n : Int)) := by omega
  go_enter Try.func62, Try.ntmps62
  go_wp2
  go_ret
  exact ⟨rfl, rfl⟩

set_option maxRecDepth 20000 in
theorem atD_any (b off k n cap : Nat) (x : Option Addr) (y z : Nat) (w : World) (hk : k < n) (hu : w.cell? ⟨b, off + k, none⟩ = some (.slice x y z)) :
    Calls Try.prog 63 #[.slice (some ⟨b, off, none⟩) n cap, .int .i64 k] w fun e w' => e = .returned (.slice x y z) ∧ w' = w := by
  have h1 : ¬ ((k : Int) < 0) := by omega
  have h2 : ¬ ((k : Int) ≥ (n : Int)) := by omega
  go_enter Try.func63, Try.ntmps63
  go_wp2
  go_ret
  exact ⟨rfl, rfl⟩

set_option maxRecDepth 20000 in
set_option maxHeartbeats 800000 in
theorem bytesClone_any (v : Value) (l : List Int) (w : World) (h : Bs w v l) (hm : l.length ≤ 1000) :
    Calls Try.prog 58 #[v] w fun e w' => ∃ r, e = .returned r ∧ w'.ownsRow w.heap.size 5 1 r l.length (l.map (Value.int .u8)) ∧ Grow w w' := by
  obtain ⟨i0, hi, hz0, hz1, hz2⟩ := info_parts Try.infoB
  obtain ⟨ao, cap, rfl, h1, h2, h3, h4, h5⟩ := h
  have qT : ∀ (w : World) (a : Option Addr) (n c n' c' : Nat), (binOp .eql 23 (.slice a n c) (.slice none n' c')).run Try.prog w = .ok (.bool a.isNone) w := fun w a n c n' c' => Lib.run_eql_slice_nil w _ _ a n c n' c' Try.underlying23
  unfold maxLen at h2
  cases ao with
  | none =>
    have hl : l = [] := List.eq_nil_of_length_eq_zero (by have := h3 rfl; omega)
    subst hl
    obtain rfl : cap = 0 := h3 rfl
    go_enter Try.func58, Try.ntmps58
    go_wp2
    go_ret
    exact ⟨_, rfl, World.ownsRow_nil _ _ _ _, Grow.refl _⟩
  | some ad =>
    have hgA : Grow w (w.alloc (.cells #[] 5)) := Grow.alloc _ _
    have hsrc := (h5.below hgA).src
    have hlm : (l.map (Value.int .u8)).length = l.length := by simp
    have hone := u8_oneCell l
    have hown0 : (w.alloc (.cells #[] 5)).ownsRow w.heap.size 5 1 (.slice (some ⟨w.heap.size, 0, none⟩) 0 0) 0 [] := World.ownsRow_lit w #[] 0 (Nat.le_refl _) (Nat.zero_le _) rfl
    clear h5
    generalize l.map (Value.int .u8) = news at *
    have HLM : Hid (news.length = l.length) := hlm
    generalize l.length = n at *
    clear hlm
    have Hown0 : Hid ((w.alloc (.cells #[] 5)).ownsRow w.heap.size 5 1 (.slice (some ⟨w.heap.size, 0, none⟩) 0 0) 0 []) := hown0
    clear hown0
    go_enter Try.func58, Try.ntmps58
    go_wp2_with (first
      | (at_builtin; refine wpList_append_own_any _ rfl (.tmp 5) (.tmp 6) 23 rfl w.heap.size 5 i0 (.int .u8 0) 1 Try.underlying23 hi hz0 hz1 hz2 rfl _ 0 [] rfl Hown0.out (some ad) n cap news rfl HLM.out (fun h => nomatch h) hsrc hone (by unfold maxLen; omega) (by omega) hgA.size ?_; rintro v1 w1 hown1 hgr1))
    have hg1 := hgA.grown hgr1 (fun k hk => by cases hk; exact Nat.le_refl _)
    simp only [Nat.zero_add, List.nil_append] at hown1
    have Hown1 : Hid (w1.ownsRow w.heap.size 5 1 v1 n news) := hown1
    clear hown1 hgr1
    go_wp2
    go_ret
    exact ⟨_, rfl, Hown1.out, hg1⟩

/-- An append whose run is known. -/
theorem wpList_append_run {P : Program} {w w' : World} {ops : Array Oper} {rest : List Oper} {o : Oper} {a : Act} {Q : Exit → Act → World → Prop} (hgd : o.guard = none) (s y : Operand) (ts : Array TypeId)
    (ho : o.op = .call { callee := .builtin .append, args := #[s, y], argTypes := ts }) {v u r : Value} (hs : a.eval s = v) (hy : a.eval y = u) (hr : (Builtin.append_ ts o.type #[v, u]).run P w = .ok r w')
    (h : wpList P ops Q rest (a.put o.dst r) w') : wpList P ops Q (o :: rest) a w := by
  refine wpList_plain hgd fun _ hK => ?_
  unfold Oper.wp execOp
  simp only [ho, resolve, invoke, builtin, Sem.run_bind, Sem.run_pure, Result.andThen_ok, List.map_toArray, List.map_cons, List.map_nil, hs, hy, hr]
  exact hK _ _ h

set_option maxRecDepth 20000 in
set_option maxHeartbeats 800000 in
theorem growNil_any (n : Nat) (w : World) (hp : 0 < n) (hn : n ≤ 1000) :
    Calls Try.prog 87 #[.slice none 0 0, .int .i64 n] w fun e w' => ∃ r, e = .returned r ∧ w'.ownsRow w.heap.size 23 1 r 0 [] ∧ Grow w w' := by
  obtain ⟨i0, hi, hz0, hz1, hz2⟩ := info_parts Try.infoS
  have hrz := fun ty => Lib.run_append_nil_zeros (P := Try.prog) w 22 3 ty 23 i0 (.slice none 0 0) .i64 .i64 Try.underlying22 Try.underlying3 hi hz0 n hp (by omega) (by omega) (by rw [hz2]; omega)
  have hcap := grownCap_ge w n 0 23
  have hcm := grownCap_le_maxLen w n 0 23 (by unfold maxLen; omega)
  have hsz : (Builtin.zeroCells (Value.cells (.slice none 0 0)) n ++ Builtin.zeroCells (Value.cells (.slice none 0 0)) (grownCap w n 0 23 - n)).size = grownCap w n 0 23 * 1 := by
    rw [Array.size_append, size_zeroCells, size_zeroCells]
    show n * 1 + _ * 1 = _
    omega
  have hg0 : Grow w w.drew := Grow.drew1 (Grow.refl w)
  generalize grownCap w n 0 23 = cp at *
  generalize Builtin.zeroCells (Value.cells (.slice none 0 0)) n ++ Builtin.zeroCells (Value.cells (.slice none 0 0)) (cp - n) = cur at *
  have hgA := hg0.trans (Grow.alloc w.drew (.cells cur 23))
  have hown : (w.drew.alloc (.cells cur 23)).ownsRow w.heap.size 23 1 (.slice (some ⟨w.heap.size, 0, none⟩) 0 cp) 0 [] := ⟨rfl, .inr ⟨w.heap.size, cp, cur, rfl, Nat.le_refl _, heap_alloc_new w.drew _, Nat.zero_le _, hcm, hsz, by simp⟩⟩
  have Hown : Hid ((w.drew.alloc (.cells cur 23)).ownsRow w.heap.size 23 1 (.slice (some ⟨w.heap.size, 0, none⟩) 0 cp) 0 [] ∧ Grow w (w.drew.alloc (.cells cur 23))) := ⟨hown, hgA⟩
  clear hown hgA hg0 hsz
  unfold maxLen at hcm
  have h1 : ¬ ((n : Int) < 0) := by omega
  have h4 : (n : Int) > 0 := by omega
  go_enter Try.func87, Try.ntmps87
  go_wp2_with (first
    | (at_builtin; refine wpList_append_run rfl (.tmp 20) (.tmp 21) #[22, 3] rfl rfl rfl (hrz _) ?_))
  go_ret
  exact ⟨_, rfl, Hown.out.1, Hown.out.2⟩

theorem flat_succ {α : Type} (lss : List (List α)) {k : Nat} (h : k < lss.length) : (lss.take (k + 1)).flatten = (lss.take k).flatten ++ lss.getD k [] := by
  have e : lss[k]? = some (lss.getD k []) := by simp [h, List.getD_eq_getElem?_getD]
  rw [List.take_add_one, e]
  simp only [Option.toList_some, List.flatten_append, List.flatten_cons, List.flatten_nil, List.append_nil]

theorem flat_le {α : Type} (lss : List (List α)) (k : Nat) : (lss.take k).flatten.length ≤ lss.flatten.length := by
  have := congrArg (fun l => (List.flatten l).length) (List.take_append_drop k lss)
  simp only [List.flatten_append, List.length_append] at this
  omega

set_option maxRecDepth 20000 in
set_option maxHeartbeats 1600000 in
theorem concat_any (v : Value) (lss : List (List (List Int))) (w : World) (h : Dks w v lss) (hp : 0 < lss.flatten.length) (hm : lss.flatten.length ≤ 1000) :
    Calls Try.prog 66 #[v] w fun e w' => ∃ r, e = .returned r ∧ Bss w' r lss.flatten ∧ Grow w w' := by
  obtain ⟨i0, hi, hz0, hz1, hz2⟩ := info_parts Try.infoS
  obtain ⟨ao, cap, rfl, h1, h2, h3, h4⟩ := h
  have HC : Hid (0 < lss.length → ∃ b off, ao = some ⟨b, off, none⟩ ∧ ∀ k, k < lss.length → ∃ ak ck, w.cell? ⟨b, off + k, none⟩ = some (.slice ak (lss.getD k []).length ck) ∧ (lss.getD k []).length ≤ ck ∧ ck ≤ maxLen ∧ Bss w (.slice ak (lss.getD k []).length ck) (lss.getD k [])) := fun hp => by
    obtain ⟨b, off, e, hc⟩ := h4 hp
    refine ⟨b, off, e, fun k hk => ?_⟩
    obtain ⟨u, hu, hr⟩ := hc k (lss.getD k []) (by simp [List.getD_eq_getElem?_getD, hk])
    have hr' := hr
    obtain ⟨a', c', rfl, q1, q2, -⟩ := hr'
    exact ⟨a', c', hu, q1, q2, hr⟩
  have HS : Hid (∀ k, k < lss.length → (lss.take (k + 1)).flatten = (lss.take k).flatten ++ lss.getD k []) := fun k hk => flat_succ lss hk
  have HL : Hid (∀ k, (lss.take k).flatten.length ≤ lss.flatten.length) := flat_le lss
  unfold maxLen at h2
  clear h4
  go_enter Try.func66, Try.ntmps66
  go_wp2
  go_loop [3, 11] (fun z i => ∃ k : Nat, k ≤ lss.length ∧ i = .int .i64 k ∧ z = .int .i64 (lss.take k).flatten.length) (fun _ i => lss.length - (intOf i).toNat)
  case atStart => exact ⟨0, by omega, rfl, rfl⟩
  case round =>
    obtain ⟨k, hk, rfl, rfl⟩ := hrel
    by_cases hlt : k < lss.length
    · obtain ⟨b, off, rfl, hc⟩ := HC.out (by omega)
      obtain ⟨ak, ck, hck, q1, q2, -⟩ := hc k hlt
      have e1 := congrArg List.length (HS.out k hlt)
      have e2 := HL.out (k + 1)
      rw [List.length_append] at e1
      unfold maxLen at q2
      have HE : Hid ((lss.take (k + 1)).flatten.length = (lss.take k).flatten.length + (lss.getD k []).length) := e1
      clear hc e1
      rw [HE.out] at e2
      generalize (lss.getD k []).length = nk at *
      generalize (lss.take k).flatten.length = sk at *
      generalize lss.flatten.length = tot at *
      have h0 : ¬ ((sk : Int) + (nk : Int) < 0) := by omega
      go_wp2
      go_round
      case rel => exact ⟨k + 1, by omega, by go_num, by rw [HE.out]; go_num⟩
      case measure => simp [intOf]; omega
    · obtain rfl : k = lss.length := by omega
      have hf : (lss.take lss.length).flatten.length = lss.flatten.length := by rw [List.take_length]
      have hG := growNil_any lss.flatten.length w hp hm
      have hdk : decide ((lss.length : Int) < (lss.length : Int)) = false := by simp
      rw [hf]
      clear hf
      obtain ⟨tot, htot⟩ : ∃ t, lss.flatten.length = t := ⟨_, rfl⟩
      rw [htot] at hG hm hp ⊢
      have Htot : Hid (lss.flatten.length = tot) := htot
      clear htot
      go_wp2_with fail
      refine hG.mono ?_
      rintro e w1 ⟨r1, rfl, hown1, hg1⟩
      have HW : Hid (∃ us, w1.ownsRow w.heap.size 23 1 r1 (lss.take 0).flatten.length us ∧ BsL w us (lss.take 0).flatten) := ⟨[], hown1, BsL.nil _⟩
      clear hown1 hG
      go_wp2
      go_loopw [6, 27] (fun r i wr => ∃ k : Nat, k ≤ lss.length ∧ i = .int .i64 k ∧ Hid (∃ us, wr.ownsRow w.heap.size 23 1 r (lss.take k).flatten.length us ∧ BsL w us (lss.take k).flatten) ∧ Grow w wr) (fun _ i _ => lss.length - (intOf i).toNat)
      case atStart => exact ⟨0, by omega, rfl, HW, hg1⟩
      case round =>
        obtain ⟨k, hk, rfl, HR, hgr⟩ := hrel
        clear HW
        by_cases hlt : k < lss.length
        · obtain ⟨b, off, rfl, hc⟩ := HC.out (by omega)
          obtain ⟨ak, ck, hck, q1, q2, hbk⟩ := hc k hlt
          obtain ⟨us, hown, hus⟩ := HR.out
          obtain ⟨vs, hvl, -, hcs, hvs, hnone⟩ := hbk.values
          have hck' := hgr.at hck
          have hcs' : ∀ ad, ak = some ad → ∀ (j : Nat) u, vs[j]? = some u → wr.cell? (ad.add j) = some u := fun ad e j u hu => hgr.at (hcs ad e j u hu)
          have e1 := congrArg List.length (HS.out k hlt)
          have e2 := HL.out (k + 1)
          rw [Htot.out] at e2
          rw [List.length_append] at e1
          have HB : Hid (BsL w (us ++ vs) (lss.take (k + 1)).flatten) := by rw [Hid, HS.out k hlt]; exact hus.append hvs
          have HE : Hid ((lss.take (k + 1)).flatten.length = (lss.take k).flatten.length + (lss.getD k []).length) := e1
          rw [HE.out] at e2
          have hone := hvs.oneCell
          clear hc e1 HR hbk hck hcs hvs hus
          generalize (lss.getD k []).length = nk at *
          generalize (lss.take k).flatten.length = sk at *
          have Hown : Hid (wr.ownsRow w.heap.size 23 1 u6 sk us) := hown
          have Hvl : Hid (vs.length = nk) := hvl
          clear hown hvl
          go_wp2_with (first
            | (at_builtin; refine wpList_append_own_any _ rfl (.tmp 31) (.tmp 32) 22 rfl w.heap.size 23 i0 (.slice none 0 0) 24 Try.underlying22 hi hz0 hz1 hz2 rfl _ sk us rfl Hown.out ak nk ck vs rfl Hvl.out hnone hcs' hone (by unfold maxLen; omega) (by omega) hgr.size ?_; rintro v2 w2 hown2 hgr2))
          have hg2 := hgr.grown hgr2 (fun j hj => own_base Hown.out j hj)
          have HW2 : Hid (∃ us, w2.ownsRow w.heap.size 23 1 v2 (lss.take (k + 1)).flatten.length us ∧ BsL w us (lss.take (k + 1)).flatten) := ⟨_, by rw [HE.out]; exact hown2, HB.out⟩
          clear hown2 hgr2 Hown HB
          go_wp2
          go_roundw
          case rel => first | exact ⟨k + 1, by omega, by go_num, HW2, hg2⟩ | ((repeat apply Exists.intro); exact ⟨⟨k + 1, by omega, by go_num, HW2, hg2⟩, rfl⟩)
          case measure => simp [intOf]; omega
        · obtain rfl : k = lss.length := by omega
          obtain ⟨us, hown, hus⟩ := HR.out
          rw [List.take_length] at hown hus
          have hdone := (hus.grow hgr).own hown rfl
          clear hown hus HR
          go_wp2
          go_ret
          exact ⟨_, rfl, hdone, hgr⟩

end Go.Proofs.Ytjggiameajndgab

/-
  What the program's stripe returns: Make, look, Bad, Data, Cells. Nothing old turns.
-/
namespace Go.Proofs.Ytjggiameajndgab
open Go.RowKit

theorem Rowing.slOff {α : Type} {R : World → Value → α → Prop} {B : Nat} {e : TypeId} {w : World} {v : Value} {xs : List α} (h : Rowing R B e w v xs) : Sl (Off R v.ownBlock) w v xs := by
  obtain ⟨us, h1, _, h3⟩ := h
  exact Sl.of_own h1 rfl (fun i u x hu hx => h3 i u x hu hx)

theorem Rowing.bssX {g : Nat} {B : Nat} {e : TypeId} {w : World} {v : Value} {ls : List (List Int)} (h : Rowing (Off Bs (some g)) B e w v ls) (hg : g < B) : BssX (some g) w v ls :=
  ⟨h.done, fun _ b hb e => by
    have := (h.base b hb).1
    injection e with e
    omega⟩

/-- A row of four, made. -/
def nils4 : Array Value := #[.slice none 0 0, .slice none 0 0, .slice none 0 0, .slice none 0 0]

theorem Try.madeS (w : World) : (Instr.makeSlice 22 (.int .i64 4) (.int .i64 4)).run Try.prog w = .ok (.slice (some ⟨w.heap.size, 0, none⟩) 4 4) (w.alloc (.cells nils4 23)) :=
  (run_make_row' (P := Try.prog) 22 23 (.slice none 0 0) 24 Try.underlying22 Try.infoS rfl .i64 .i64 4 (by decide) (by decide) w).trans (by rw [show madeCells #[.slice none 0 0] 4 = nils4 from Array.toList_inj.1 (toList_madeCells_one _ _)])

/-- The first k of four are filled. -/
def up4 (f : Nat → List Int) (k : Nat) : List (List Int) := (List.range 4).map fun i => if i < k then f i else []

theorem up4_zero (f : Nat → List Int) : up4 f 0 = List.replicate 4 [] := by simp [up4]; decide
theorem up4_all (f : Nat → List Int) : up4 f 4 = (List.range 4).map f := List.map_congr_left fun _ hi => if_pos (List.mem_range.1 hi)
theorem up4_length (f : Nat → List Int) (k : Nat) : (up4 f k).length = 4 := by simp [up4]
theorem up4_set (f : Nat → List Int) {k : Nat} (_h : k < 4) : (up4 f k).set k (f k) = up4 f (k + 1) := by
  refine List.ext_getElem (by simp [up4]) fun i h1 h2 => ?_
  rw [List.getElem_set]
  simp only [up4, List.getElem_map, List.getElem_range]
  by_cases hik : k = i
  · subst hik; rw [if_pos rfl, if_pos (by omega)]
  · rw [if_neg hik]
    by_cases hlt : i < k
    · rw [if_pos hlt, if_pos (by omega)]
    · rw [if_neg hlt, if_neg (by omega)]

theorem Rowing.madeS (w : World) (f : Nat → List Int) : Rowing Bs w.heap.size 23 (w.alloc (.cells nils4 23)) (.slice (some ⟨w.heap.size, 0, none⟩) 4 4) (up4 f 0) := by
  rw [up4_zero]
  refine ⟨nils4.toList, ⟨rfl, .inr ⟨w.heap.size, 4, nils4, rfl, Nat.le_refl _, heap_alloc_new w _, Nat.le_refl _, by unfold maxLen; omega, rfl, rfl⟩⟩, rfl, fun i u x hu hx w' _ => ?_⟩
  have hu' : u = .slice none 0 0 := by
    have := List.mem_of_getElem? hu
    simpa [nils4] using this
  have hx' : x = [] := by
    have := List.mem_of_getElem? hx
    simpa using this
  subst hu' hx'
  exact Bs.nil _

theorem makeL_up {ds : List (List Int)} (hl : ds.length = 4) (s : Int) : makeL ds s = up4 (fun (d : Nat) => cellOf d s (ds.getD d [])) 4 := by rw [up4_all, makeL, hl]

set_option maxRecDepth 20000 in
set_option maxHeartbeats 1600000 in
theorem stripeMake_row (v : Value) (ds : List (List Int)) (s : Nat) (w : World) (h : Bss w v ds) (hl : ds.length = 4) (hs : s < 3) (h4 : ∀ b ∈ ds, b.length = 4) :
    Calls Try.prog 27 #[v, .int .i64 s] w fun e w' => ∃ r, e = .returned r ∧ Rowing Bs w.heap.size 23 w' r (makeL ds s) ∧ Grow w w' := by
  obtain ⟨ao, cap, rfl, h1, h2, h3, h4'⟩ := h
  unfold maxLen at h2
  obtain ⟨b, off, rfl, hc⟩ := h4' (by omega)
  have HK : Hid (∀ k, k < 4 → ∃ ak ck, w.cell? ⟨b, off + k, none⟩ = some (.slice ak 4 ck) ∧ Bs w (.slice ak 4 ck) (ds.getD k []) ∧ (ds.getD k []).length = 4) := fun k hk => by
    obtain ⟨ak, ck, hck, hbk⟩ := Sl.bytesAt hc (k := k) (by omega)
    have hlk : (ds.getD k []).length = 4 := h4 _ (by simp [List.getD_eq_getElem?_getD, show k < ds.length by omega])
    rw [hlk] at hck hbk
    exact ⟨ak, ck, hck, hbk, hlk⟩
  have hmk := Try.madeS w
  rw [makeL_up hl]
  have hst : Hid (Rowing Bs w.heap.size 23 (w.alloc (.cells nils4 23)) (.slice (some ⟨w.heap.size, 0, none⟩) 4 4) (up4 (fun (d : Nat) => cellOf d s (ds.getD d [])) 0)) := Rowing.madeS w _
  rw [hl]
  clear hc h4' hl h4 h3
  go_enter Try.func27, Try.ntmps27
  go_wp2
  go_loopw [10] (fun i wr => ∃ k : Nat, k ≤ 4 ∧ i = .int .i64 k ∧ Hid (Rowing Bs w.heap.size 23 wr (.slice (some ⟨w.heap.size, 0, none⟩) 4 4) (up4 (fun (d : Nat) => cellOf d s (ds.getD d [])) k)) ∧ Grow w wr) (fun i _ => 4 - (intOf i).toNat)
  case atStart => exact ⟨0, by omega, rfl, hst, Grow.alloc _ _⟩
  case round =>
    obtain ⟨k, hk, rfl, HR, hgr⟩ := hrel
    clear hst hmk
    by_cases hlt : k < 4
    · obtain ⟨ak, ck, hck, hbk, hlk⟩ := HK.out k hlt
      have HL : Hid ((ds.getD k []).length = 4) := hlk
      clear hlk
      have hA := atB_any b off k 4 cap ak 4 ck wr hlt (hgr.at hck)
      have hC := bytes_any (.slice ak 4 ck) (ds.getD k []) k s wr (by rw [HL.out]; omega) (by omega) (by omega) (hbk.grow hgr)
      have hoc := cellOf_octets (d := k) (s := s) (by omega) (by omega) hbk.octets
      clear hck hbk
      go_wp2_with fail
      refine hA.mono ?_
      rintro e w0 ⟨rfl, rfl⟩
      go_wp2_with fail
      refine hC.mono ?_
      rintro e w1 ⟨r, rfl, hown, hg1⟩
      have hb : w.heap.size < w0.heap.size := (HR.out.base _ rfl).2
      have hoff : Off Bs (some w.heap.size) w1 r (cellOf k s (ds.getD k [])) := Off.own hown hoc (fun j hj => by cases hj; exact hb)
      obtain ⟨gr, cr, rfl, -, -⟩ := hown.form (by omega)
      have hrow := HR.out.grow hg1
      obtain ⟨⟨u0, hu0⟩, hf0⟩ := hrow.at (k := k) (by rw [up4_length]; exact hlt)
      have hrow1 := hrow.stored k hoff
      rw [up4_set (fun (d : Nat) => cellOf d s (ds.getD d [])) hlt] at hrow1
      have HR1 : Hid (Rowing Bs _ _ _ _ _) := hrow1
      have hg2 := (hgr.trans hg1).set (k := k) (Nat.le_refl w.heap.size) (.slice (some ⟨gr, 0, none⟩) ((ds.getD k []).length + 4) cr)
      rw [HL.out] at HR1 hg2 ⊢
      clear hrow hrow1 hoff hown HR hA hC
      go_wp2
      go_roundw
      case rel => first | exact ⟨k + 1, by omega, by go_num, HR1, hg2⟩ | ((repeat apply Exists.intro); exact ⟨⟨k + 1, by omega, by go_num, HR1, hg2⟩, rfl⟩)
      case measure => simp [intOf]; omega
    · obtain rfl : k = 4 := by omega
      go_wp2
      go_ret
      exact ⟨_, rfl, HR.out, hgr⟩

end Go.Proofs.Ytjggiameajndgab

/-
  What the program's stripe returns: look, Bad, Data, Cells. Nothing old turns.
-/
namespace Go.Proofs.Ytjggiameajndgab
open Go.RowKit

theorem Grow.thenIn {w w1 w2 : World} {G : Nat → Prop} (h : Grow w w1) (hg : GrownIn w1 w2 G) (hk : ∀ k, G k → w.heap.size ≤ k) : Grow w w2 :=
  ⟨hg.os.trans h.os, hg.tape.trans h.tape, hg.output.trans h.output, Nat.le_trans h.size hg.size, fun j hj => (hg.block j (Nat.lt_of_lt_of_le hj h.size) (fun e => by have := hk j e; omega)).trans (h.block j hj)⟩

theorem heap_lt {w : World} {b : Nat} {o : Obj} (h : w.heap[b]? = some o) : b < w.heap.size := by
  by_cases hb : b < w.heap.size
  · exact hb
  · rw [Array.getElem?_eq_none (Nat.le_of_not_lt hb)] at h; cases h

/-- Four bytes in a block behind H, or none. -/
def Fx (H : Nat) (x : List Int) (u : Value) (w : World) : Prop := (u = .slice none 0 0 ∧ x = []) ∨ ∃ b, u = .slice (some ⟨b, 0, none⟩) 4 4 ∧ H < b ∧ w.heap[b]? = some (.cells (x.map (Value.int .u8)).toArray 5 (0, 0)) ∧ x.length = 4 ∧ Octets x

theorem Fx.kept {H : Nat} {x : List Int} {u : Value} {w w' : World} {G : Nat → Prop} (h : Fx H x u w) (hg : GrownIn w w' G) (hn : ∀ b cs, G b → H < b → w.heap[b]? ≠ some (.cells cs 5 (0, 0))) : Fx H x u w' := by
  rcases h with h | ⟨b, h1, h2, h3, h4⟩
  · exact .inl h
  · exact .inr ⟨b, h1, h2, (hg.block b (heap_lt h3) (fun hG => hn b _ hG h2 h3)).trans h3, h4⟩

theorem Fx.of {w w' : World} {H : Nat} {x : List Int} {r : Value} (h : FreshX w x r w') (hH : H < w.heap.size) : Fx H x r w' := by
  rcases h with h | ⟨b, h1, h2, h3, h4⟩
  · exact .inl h
  · exact .inr ⟨b, h1, by omega, h3, h4⟩

theorem Fx.form {H : Nat} {x : List Int} {u : Value} {w : World} (h : Fx H x u w) : ∃ a n c, u = .slice a n c := by
  rcases h with ⟨h, -⟩ | ⟨b, h, -⟩
  · exact ⟨_, _, _, h⟩
  · exact ⟨_, _, _, h⟩

theorem Fx.off {H : Nat} {x : List Int} {u : Value} {w : World} (h : Fx H x u w) (g : Option Nat) (hg : ∀ k, g = some k → k < H) : Off (Off Bs g) (some H) w u x := by
  rcases h with ⟨rfl, rfl⟩ | ⟨b, rfl, h2, h3, h4, h5⟩
  · exact fun _ _ _ _ => Bs.nil _
  · exact Off.row2 h3 h4 (by unfold maxLen; omega) h5 (fun e => by have := hg b e; omega) (fun e => by injection e with e; omega)

/-- A row of four in block H, each of four bytes behind it, or none. -/
def Four (H : Nat) (ls : List (List Int)) (w : World) : Prop := ∃ us : List Value, us.length = 4 ∧ ls.length = 4 ∧ w.heap[H]? = some (.cells us.toArray 23 (0, 0)) ∧ ∀ (i : Nat) u x, us[i]? = some u → ls[i]? = some x → Fx H x u w

theorem Four.kept {H : Nat} {ls : List (List Int)} {w w' : World} {G : Nat → Prop} (h : Four H ls w) (hg : GrownIn w w' G) (hH : ¬ G H) (hn : ∀ b cs, G b → H < b → w.heap[b]? ≠ some (.cells cs 5 (0, 0))) : Four H ls w' := by
  obtain ⟨us, h1, h2, h3, h4⟩ := h
  exact ⟨us, h1, h2, (hg.block H (heap_lt h3) hH).trans h3, fun i u x hu hx => (h4 i u x hu hx).kept hg hn⟩

theorem Four.grow {H : Nat} {ls : List (List Int)} {w w' : World} (h : Four H ls w) (hg : Grow w w') : Four H ls w' := h.kept (hg.inn (fun _ => False)) id (fun _ _ h => h.elim)

theorem Four.put {H : Nat} {ls : List (List Int)} {w : World} (h : Four H ls w) (k : Nat) {x : List Int} {u : Value} (hx : Fx H x u w) : Four H (ls.set k x) (w.setCell ⟨H, k, none⟩ u) := by
  obtain ⟨us, h1, h2, h3, h4⟩ := h
  have hg : GrownIn w (w.setCell ⟨H, k, none⟩ u) (fun j => j = H) := grownIn_set w H k u rfl
  have hn : ∀ b cs, b = H → H < b → w.heap[b]? ≠ some (.cells cs 5 (0, 0)) := fun b _ e hb => by omega
  refine ⟨us.set k u, by simp [h1], by simp [h2], ?_, fun i q y hq hy => ?_⟩
  · rw [heap_setCell_same w H k _ _ _ h3]
    simp
  · by_cases hik : i = k
    · subst hik
      have hlt : i < us.length := by
        by_cases hlt : i < us.length
        · exact hlt
        · rw [List.getElem?_eq_none (by simp; omega)] at hq; cases hq
      rw [List.getElem?_set_self hlt] at hq
      rw [List.getElem?_set_self (by omega)] at hy
      cases hq
      cases hy
      exact hx.kept hg hn
    · rw [List.getElem?_set_ne (fun e => hik e.symm)] at hq hy
      exact (h4 i q y hq hy).kept hg hn

theorem Four.row {H : Nat} {ls : List (List Int)} {w : World} (h : Four H ls w) (g : Option Nat) (hg : ∀ k, g = some k → k < H) : Rowing (Off Bs g) H 23 w (.slice (some ⟨H, 0, none⟩) 4 4) ls := by
  obtain ⟨us, h1, h2, h3, h4⟩ := h
  refine ⟨us, ⟨by omega, .inr ⟨H, 4, us.toArray, by rw [h2], Nat.le_refl _, h3, by omega, by unfold maxLen; omega, by simp [h1], by simp [h1, h2, List.take_of_length_le]⟩⟩, by omega, fun i u x hu hx => (h4 i u x hu hx).off g hg⟩

theorem Four.bss {H : Nat} {ls : List (List Int)} {w : World} (h : Four H ls w) : Bss w (.slice (some ⟨H, 0, none⟩) 4 4) ls := Sl.off (h.row none (fun _ h => nomatch h)).done

theorem Four.at {H : Nat} {ls : List (List Int)} {w : World} (h : Four H ls w) {k : Nat} (hk : k < 4) : (∃ u, w.cell? ⟨H, k, none⟩ = some u) ∧ w.frozen? ⟨H, k, none⟩ = false := by
  obtain ⟨us, h1, h2, h3, h4⟩ := h
  exact ⟨⟨us[k]'(by omega), row_at h3 k (by simp [h1, hk])⟩, frozen_of_row w H k _ _ h3⟩

theorem Four.lt {H : Nat} {ls : List (List Int)} {w : World} (h : Four H ls w) : H < w.heap.size := by
  obtain ⟨us, h1, h2, h3, h4⟩ := h
  exact heap_lt h3

theorem Four.made (w : World) (f : Nat → List Int) : Four w.heap.size (up4 f 0) (w.alloc (.cells nils4 23)) := by
  rw [up4_zero]
  refine ⟨nils4.toList, rfl, rfl, heap_alloc_new w _, fun i u x hu hx => .inl ⟨?_, ?_⟩⟩
  · have := List.mem_of_getElem? hu
    simpa [nils4] using this
  · have := List.mem_of_getElem? hx
    simpa using this

theorem NumRow.notB {B : Nat} {w : World} {v : Value} {ns : List Int} (h : NumRow B 3 w v ns) {b : Nat} (hb : v.ownBlock = some b) (cs : Array Value) : w.heap[b]? ≠ some (.cells cs 5 (0, 0)) := by
  rcases h.1.2 with ⟨rfl, -⟩ | ⟨g, cap, cur, rfl, -, hh, -⟩
  · cases hb
  · cases hb
    intro e
    rw [hh] at e
    injection e with e
    injection e with _ e _
    exact absurd e (by decide)

theorem look_push {w w1 w2 : World} {L : List (List Int)} {v v' u : Value} {ns ns' : List Int} {x : List Int} {k : Nat} (hF : Four w.heap.size L w1) (hN : NumRow (w.heap.size + 1) 3 w1 v ns) (hx : Fx w.heap.size x u w1) (hgI : GrownIn w1 w2 (fun k => v.ownBlock = some k)) (hN2 : NumRow (w.heap.size + 1) 3 w2 v' ns') (hg : Grow w w1) (hk : k < 4) :
    (∃ u, w2.cell? ⟨w.heap.size, k, none⟩ = some u) ∧ w2.frozen? ⟨w.heap.size, k, none⟩ = false ∧ Hid (Four w.heap.size (L.set k x) (w2.setCell ⟨w.heap.size, k, none⟩ u) ∧ NumRow (w.heap.size + 1) 3 (w2.setCell ⟨w.heap.size, k, none⟩ u) v' ns' ∧ Grow w (w2.setCell ⟨w.heap.size, k, none⟩ u) ∧ w.heap.size + 1 ≤ (w2.setCell ⟨w.heap.size, k, none⟩ u).heap.size) := by
  have hb1 := fun j hj => (hN.base j hj).1
  have hF2 := hF.kept hgI (fun e => by have := hb1 _ e; omega) (fun b cs hb _ => hN.notB hb cs)
  have hx2 := hx.kept hgI (fun b cs hb _ => hN.notB hb cs)
  have hg2 := hg.thenIn hgI (fun j hj => by have := hb1 j hj; omega)
  have hlt := hF2.lt
  refine ⟨(hF2.at hk).1, (hF2.at hk).2, hF2.put k hx2, ?_, hg2.set (k := k) (Nat.le_refl w.heap.size) u, by simp; omega⟩
  exact hN2.kept (grownIn_set w2 w.heap.size k u (G := fun j => j = w.heap.size) rfl) (fun j hj e => by have := (hN2.base j hj).1; omega)

/-- What each of four cells has. -/
def readL (ls : List (List Int)) (s : Int) : List (List Int) := (List.range 4).map fun (d : Nat) => readX (ls.getD d []) d s

set_option maxRecDepth 20000 in
set_option maxHeartbeats 3200000 in
theorem look_any (v : Value) (ls : List (List Int)) (s : Int) (w : World) (h : Bss w v ls) (hl : ls.length = 4) :
    Calls Try.prog 64 #[v, .int .i64 s] w fun e w' => ∃ bd, e = .returned (.tuple #[.slice (some ⟨w.heap.size, 0, none⟩) 4 4, bd]) ∧ Four w.heap.size (readL ls s) w' ∧ NumRow (w.heap.size + 1) 3 w' bd (ints (badL ls s)) ∧ Grow w w' := by
  obtain ⟨i0, hi, hz0, hz1, hz2⟩ := info_parts Try.infoI
  obtain ⟨ao, cap, rfl, h1, h2, h3, h4⟩ := h
  unfold maxLen at h2
  obtain ⟨b, off, rfl, hc⟩ := h4 (by omega)
  have HK : Hid (∀ k, k < 4 → ∃ ak nk ck, w.cell? ⟨b, off + k, none⟩ = some (.slice ak nk ck) ∧ Bs w (.slice ak nk ck) (ls.getD k [])) := fun k hk => by
    obtain ⟨ak, ck, hck, hbk⟩ := Sl.bytesAt hc (k := k) (by omega)
    exact ⟨ak, _, ck, hck, hbk⟩
  have hmk := Try.madeS w
  have HF : Hid (Four w.heap.size (up4 (fun (d : Nat) => readX (ls.getD d []) d s) 0) (w.alloc (.cells nils4 23))) := Four.made w _
  have HE : Hid (readL ls s = up4 (fun (d : Nat) => readX (ls.getD d []) d s) 4 ∧ badL ls s = badTo ls s 4) := ⟨(up4_all _).symm, by rw [badL, hl]⟩
  have hgA : Grow w (w.alloc (.cells nils4 23)) := Grow.alloc _ _
  have hs0 : w.heap.size + 1 ≤ (w.alloc (.cells nils4 23)).heap.size := by simp
  rw [hl]
  clear hc h4 hl h3
  go_enter Try.func64, Try.ntmps64
  go_wp2
  go_loopw [7, 14] (fun bd i wr => ∃ k : Nat, k ≤ 4 ∧ i = .int .i64 k ∧ Hid (Four w.heap.size (up4 (fun (d : Nat) => readX (ls.getD d []) d s) k) wr) ∧ Hid (NumRow (w.heap.size + 1) 3 wr bd (ints (badTo ls s k))) ∧ Grow w wr ∧ w.heap.size + 1 ≤ wr.heap.size) (fun _ i _ => 4 - (intOf i).toNat)
  case atStart => exact ⟨0, by omega, rfl, HF, NumRow.nil _ _ _, hgA, hs0⟩
  case round =>
    obtain ⟨k, hk, rfl, HR, HN, hgr, hsz⟩ := hrel
    clear HF hmk hgA hs0
    by_cases hlt : k < 4
    · obtain ⟨ak, nk, ck, hck, hbk⟩ := HK.out k hlt
      have HB := badTo_succ ls s k
      have hbl := badTo_length ls s k
      have hE : isBad ls s k = (readE (ls.getD k []) k s != 0) := rfl
      have hA := atB_any b off k 4 cap ak nk ck wr hlt (hgr.at hck)
      have hC := read_fresh (.slice ak nk ck) (ls.getD k []) k s wr (hbk.grow hgr)
      have hset := up4_set (fun (d : Nat) => readX (ls.getD d []) d s) hlt
      have hlb : (ints (badTo ls s k)).length ≤ k := by simpa [ints] using hbl
      clear hck hbk
      go_wp2_with fail
      refine hA.mono ?_
      rintro e w0 ⟨rfl, rfl⟩
      go_wp2_with fail
      refine hC.mono ?_
      rintro e w1 ⟨r, rfl, hr, hg1⟩
      have hFx := Fx.of hr (H := w.heap.size) (by omega)
      obtain ⟨ar, nr, cr, rfl⟩ := hFx.form
      have hF1 := HR.out.grow hg1
      have hN1 := HN.out.grow hg1
      have hgr1 := hgr.trans hg1
      have hsz1 : w.heap.size + 1 ≤ w1.heap.size := by have := hg1.size; omega
      clear hA hC HR HN hr
      by_cases he : readE (ls.getD k []) k s = 0
      · have HB' : Hid (badTo ls s (k + 1) = badTo ls s k) := by rw [Hid, HB, hE, he]; simp
        have hF2 := hF1.put k hFx
        rw [hset] at hF2
        have HF2 : Hid (Four _ _ _) := hF2
        have hN2 := hN1.kept (grownIn_set w1 w.heap.size k (.slice ar nr cr) (G := fun j => j = w.heap.size) rfl) (fun j hj e => by have := (hN1.base j hj).1; omega)
        rw [← HB'.out] at hN2
        have HN2 : Hid (NumRow _ _ _ _ _) := hN2
        obtain ⟨⟨u0, hu0⟩, hf0⟩ := hF1.at hlt
        have hg2 := hgr1.set (k := k) (Nat.le_refl w.heap.size) (.slice ar nr cr)
        have hsz2 : w.heap.size + 1 ≤ (w1.setCell ⟨w.heap.size, k, none⟩ (.slice ar nr cr)).heap.size := by simpa using hsz1
        clear HB hE hF1 hN1 hF2 hN2 hFx hset
        generalize readE (ls.getD k []) k s = E at *
        subst he
        go_wp2
        go_roundw
        case rel => first | exact ⟨k + 1, by omega, by go_num, HF2, HN2, hg2, hsz2⟩ | ((repeat apply Exists.intro); exact ⟨⟨k + 1, by omega, by go_num, HF2, HN2, hg2, hsz2⟩, rfl⟩)
        case measure => simp [intOf]; omega
      · have HB' : Hid (ints (badTo ls s k) ++ [(k : Int)] = ints (badTo ls s (k + 1))) := by rw [Hid, HB, hE, if_pos (by simpa using he)]; simp [ints]
        have HF1 : Hid (Four _ _ _) := hF1
        have HN1 : Hid (NumRow (w.heap.size + 1) 3 w1 u7 (ints (badTo ls s k))) := hN1
        have HFx : Hid (Fx _ _ _ _) := hFx
        have Hset : Hid (_ = _) := hset
        clear HB hE hF1 hN1 hFx hset
        generalize readE (ls.getD k []) k s = E at *
        go_wp2_with (first
          | (at_builtin; refine wpList_push_num rfl (.tmp 28) (.tmp 30) 46 rfl 3 i0 Try.underlying46 hi hz0 hz1 hz2 (w.heap.size + 1) rfl HN1.out k hsz1 (by omega) w1.heap.size rfl rfl ?_; rintro g1 c1 w2 hN2 hgI; rw [HB'.out] at hN2; obtain ⟨⟨u0, hu0⟩, hf0, HZ⟩ := look_push HF1.out HN1.out HFx.out hgI hN2 hgr1 hlt; rw [Hset.out] at HZ; clear hN2 hgI))
        go_roundw
        case rel => first | exact ⟨k + 1, by omega, by go_num, HZ.out.1, HZ.out.2.1, HZ.out.2.2.1, HZ.out.2.2.2⟩ | ((repeat apply Exists.intro); exact ⟨⟨k + 1, by omega, by go_num, HZ.out.1, HZ.out.2.1, HZ.out.2.2.1, HZ.out.2.2.2⟩, rfl⟩)
        case measure => simp [intOf]; omega
    · obtain rfl : k = 4 := by omega
      go_wp2
      go_ret2
      exact ⟨_, rfl, by rw [HE.out.1]; exact HR.out, by rw [HE.out.2]; exact HN.out, hgr⟩

set_option maxRecDepth 20000 in
theorem stripeBad_any (v : Value) (ls : List (List Int)) (s : Nat) (w : World) (h : Bss w v ls) (hl : ls.length = 4) (_hs : s < 3) :
    Calls Try.prog 25 #[v, .int .i64 s] w fun e w' => ∃ r, e = .returned r ∧ Sl IntV w' r (ints (badL ls s)) ∧ Grow w w' := by
  have hcall := look_any v ls s w h hl
  obtain ⟨av, cv, rfl⟩ := Sl.form h
  rw [hl] at hcall ⊢
  clear hl h
  go_enter Try.func25, Try.ntmps25
  go_wp2_with fail
  refine hcall.mono ?_
  rintro e w1 ⟨bd, rfl, -, hN, hg1⟩
  have hS := hN.done
  clear hN
  go_wp2
  go_ret
  exact ⟨_, rfl, hS, hg1⟩

end Go.Proofs.Ytjggiameajndgab

/-
  What the program's stripe returns: Data, Cells. Nothing old turns.
-/
namespace Go.Proofs.Ytjggiameajndgab
open Go.RowKit

theorem rest_split (ls : List (List Int)) (s : Int) {d : Nat} (hd : d < 4) : (readL ls s).take d ++ (readL ls s).drop (d + 1) = restTo ls s d 4 := by
  obtain rfl | rfl | rfl | rfl : d = 0 ∨ d = 1 ∨ d = 2 ∨ d = 3 := by omega
  all_goals rfl

theorem mem_bad {ls : List (List Int)} (hl : ls.length = 4) (s : Int) {k : Nat} (hk : k < 4) : isBad ls s k = decide (k ∈ badL ls s) := by
  rw [Bool.eq_iff_iff, decide_eq_true_iff]
  simp [badL, badTo, hl, hk]

theorem data_none {ls : List (List Int)} (hl : ls.length = 4) {s : Int} (h : badL ls s = []) : dataL ls s = readL ls s ∧ dataE ls s = 0 := by
  refine ⟨?_, by rw [dataE, h]; rfl⟩
  rw [dataL, h, if_neg (by simp), hl]
  refine List.map_congr_left fun k hk => ?_
  have := mem_bad hl s (List.mem_range.1 hk)
  rw [datAt, this, h]
  simp

theorem data_one {ls : List (List Int)} (hl : ls.length = 4) {s : Int} {d : Nat} (h : badL ls s = [d]) : dataL ls s = (readL ls s).set d (xorAll (restTo ls s d 4)) ∧ dataE ls s = 0 ∧ d < 4 ∧ (∀ b ∈ restTo ls s d 4, b.length = 4) := by
  have hm : d ∈ badL ls s := by rw [h]; simp
  have hd : d < 4 := by
    simp only [badL, badTo, hl, List.mem_filter, List.mem_range] at hm
    exact hm.1
  have hb : isBad ls s d = true := by rw [mem_bad hl s hd]; simpa using hm
  refine ⟨?_, by rw [dataE, h]; rfl, hd, by have := rest_blocks (ls := ls) (s := s) (d := d) (by omega) hb (by rw [h]; simp) (n := 4) (by omega); exact this⟩
  rw [dataL, h, if_neg (by simp), hl]
  refine List.ext_getElem (by simp [readL]) fun i h1 h2 => ?_
  have hi : i < 4 := by simpa using h1
  rw [List.getElem_map, List.getElem_range, List.getElem_set]
  have := mem_bad hl s hi
  rw [h] at this
  by_cases hid : d = i
  · subst hid
    rw [if_pos rfl, datAt, hb, if_pos rfl, hl]
  · have hni : ¬ i = d := fun e => hid e.symm
    rw [if_neg hid, datAt, this, if_neg (by simp [hni])]
    simp [readL]

theorem data_more {ls : List (List Int)} {s : Int} {d e : Nat} {r : List Nat} (h : badL ls s = d :: e :: r) : dataL ls s = [] ∧ dataE ls s = 9 := by
  constructor
  · rw [dataL, h, if_pos (by simp)]
  · rw [dataE, h, if_pos (by simp)]

/-- A part of a slice. -/
theorem Sl.sub {α : Type} {R : World → Value → α → Prop} {w : World} {b off n cap : Nat} {xs : List α} (h : Sl R w (.slice (some ⟨b, off, none⟩) n cap) xs) {j m : Nat} (hm : j + m ≤ n) : Sl R w (.slice (some ⟨b, off + j, none⟩) m (cap - j)) ((xs.drop j).take m) := by
  have hc := h.cells
  obtain ⟨ao, c1, e1, h1, h2, h3, -⟩ := h
  injection e1 with e1 e2 e3
  subst e1 e2 e3
  have hlen : ((xs.drop j).take m).length = m := by simp; omega
  refine ⟨some ⟨b, off + j, none⟩, cap - j, by rw [hlen], by omega, by omega, (fun h => nomatch h), fun _ => ⟨b, off + j, rfl, fun i x hx => ?_⟩⟩
  have hi : i < m := by
    by_cases hi : i < m
    · exact hi
    · rw [List.getElem?_eq_none (by omega)] at hx; cases hx
  rw [List.getElem?_take_of_lt hi, List.getElem?_drop] at hx
  rw [Nat.add_assoc]
  exact hc (j + i) x hx

theorem Sl.empty {α : Type} (R : World → Value → α → Prop) (w : World) (a : Addr) : Sl R w (.slice (some a) 0 0) [] :=
  ⟨some a, 0, rfl, Nat.le_refl _, Nat.zero_le _, (fun h => nomatch h), fun h => by simp at h⟩

/-- A slice of two that was made of them. -/
theorem dks_two {w : World} {t : TypeId} {u v : Value} {A B : List (List Int)} (hu : Bss w u A) (hv : Bss w v B) : Dks (w.alloc (.cells #[u, v] t)) (.slice (some ⟨w.heap.size, 0, none⟩) 2 2) [A, B] := by
  have hg : Grow w (w.alloc (.cells #[u, v] t)) := Grow.alloc _ _
  refine Sl.row (us := [u, v]) (heap_alloc_new w _) rfl rfl (by unfold maxLen; omega) fun i q x hq hx => ?_
  match i, hq, hx with
  | 0, hq, hx => simp at hq hx; subst hq hx; exact hu.grow hg
  | 1, hq, hx => simp at hq hx; subst hq hx; exact hv.grow hg
  | n + 2, hq, _ => simp at hq

/-- Slices that read as these. -/
def AnDks (lss : List (List (List Int))) (v : Value) (w : World) : Prop := Dks w v lss
theorem AnDks.stable (lss : List (List (List Int))) : ∀ (v : Value) (x y : World), AnDks lss v x → Grow x y → AnDks lss v y := fun _ _ _ h hg => Dks.stays _ _ _ _ h hg

/-- A slice of bytes' slices that reads as these. -/
def AnB (ls : List (List Int)) (v : Value) (w : World) : Prop := Bss w v ls
theorem AnB.stable (ls : List (List Int)) : ∀ (v : Value) (x y : World), AnB ls v x → Grow x y → AnB ls v y := fun _ _ _ h hg => Bss.grow h hg

/-- Four bytes of a block behind H. -/
def AnX (p : Nat × List Int) (v : Value) (w : World) : Prop := Fx p.1 p.2 v w
theorem AnX.stable (p : Nat × List Int) : ∀ (v : Value) (x y : World), AnX p v x → Grow x y → AnX p v y := fun _ _ _ h hg => Fx.kept h (hg.inn (fun _ => False)) (fun _ _ h => h.elim)

theorem cat2 {lss : List (List (List Int))} {ls : List (List Int)} (h1 : lss.flatten = ls) (h2 : ls.length = 3) {v : Value} {w : World} (h : Dks w v lss) :
    Calls Try.prog 66 #[v] w fun e w' => ∃ r, e = .returned r ∧ AnB ls r w' ∧ Grow w w' := by
  have := concat_any v lss w h (by rw [h1]; omega) (by rw [h1]; omega)
  rw [h1] at this
  exact this

theorem allX (H : Nat) (v : Value) (ls : List (List Int)) (w : World) (hH : H < w.heap.size) (h : Bss w v ls) (hl : ∀ b ∈ ls, b.length = 4) :
    Calls Try.prog 65 #[v] w fun e w' => ∃ r, e = .returned r ∧ AnX (H, xorAll ls) r w' ∧ Grow w w' :=
  (all_row v ls w h hl).mono fun _ _ ⟨he, HR, hg⟩ => ⟨_, he, .inr ⟨_, rfl, hH, HR.out, rfl, xorAll_octets h.octets⟩, hg⟩

set_option maxRecDepth 20000 in
set_option maxHeartbeats 3200000 in
theorem stripeData_bss (v : Value) (ls : List (List Int)) (s : Nat) (w : World) (g : Option Nat) (h : Bss w v ls) (hg : ∀ k, g = some k → k < w.heap.size) (hl : ls.length = 4) (_hs : s < 3) :
    Calls Try.prog 23 #[v, .int .i64 s] w fun e w' => ∃ r, e = .returned (.tuple #[r, .int .i64 (dataE ls s)]) ∧ Rowing (Off Bs g) w.heap.size 23 w' r (dataL ls s) ∧ Grow w w' := by
  have hcall := look_any v ls s w h hl
  obtain ⟨av, cv, rfl⟩ := Sl.form h
  clear h
  match hB : badL ls s with
  | [] =>
    obtain ⟨hL, hE⟩ := data_none hl hB
    rw [hL, hE]
    rw [hl] at hcall ⊢
    rw [hB] at hcall
    clear hL hE hB hl
    go_enter Try.func23, Try.ntmps23
    go_wp2_with fail
    refine hcall.mono ?_
    rintro e w1 ⟨bd, rfl, hF, hN, hg1⟩
    obtain ⟨ab, cb, eb⟩ := Sl.form hN.done
    simp only [ints, List.map_nil, List.length_nil] at eb
    subst eb
    have hR := hF.row g hg
    clear hN hF hcall
    go_wp2
    go_loop [21] (fun i => i = .int .i64 0) (fun _ => 0)
    case atStart => exact rfl
    case round =>
      subst hrel
      go_wp2
      go_ret2
      exact ⟨_, rfl, hR, hg1⟩
  | d :: e' :: r' =>
    obtain ⟨hL, hE⟩ := data_more hB
    rw [hL, hE]
    rw [hl] at hcall ⊢
    rw [hB] at hcall
    have hlb : (ints (d :: e' :: r')).length = r'.length + 2 := by simp [ints]
    clear hL hE hB hl
    generalize ints (d :: e' :: r') = ns at *
    generalize r'.length = nr at *
    go_enter Try.func23, Try.ntmps23
    go_wp2_with fail
    refine hcall.mono ?_
    rintro e w1 ⟨bd, rfl, hF, hN, hg1⟩
    obtain ⟨ab, cb, eb, hb1, hb2⟩ := hN.done.form'
    rw [hlb] at eb hb1
    subst eb
    have h1 : ((nr + 2 : Nat) : Int) > 1 := by omega
    clear hN hF hcall hlb
    go_wp2
    go_ret2
    exact ⟨_, rfl, Rowing.nil _ _ _ _, hg1⟩
  | [d] =>
    obtain ⟨hL, hE, hd, hQ⟩ := data_one hl hB
    rw [hL, hE]
    rw [hl] at hcall ⊢
    rw [hB] at hcall
    have hsp := rest_split ls s hd
    have hlL : (readL ls s).length = 4 := by simp [readL]
    clear hL hE hB hl
    go_enter Try.func23, Try.ntmps23
    go_wp2_with fail
    refine hcall.mono ?_
    rintro e w1 ⟨bd, rfl, hF, hN, hg1⟩
    have HF : Hid (Four w.heap.size (readL ls s) w1) := hF
    obtain ⟨ab, cb, eb, hb1, hb2⟩ := hN.done.form'
    simp only [ints, List.map_cons, List.map_nil, List.length_cons, List.length_nil, Nat.zero_add] at eb hb1
    subst eb
    obtain ⟨bb, ob, ub, ebb, hub, hbb⟩ := hN.done.elem (k := 0) (by simp [ints]) 0
    subst ebb
    obtain rfl : ub = .int .i64 d := hbb
    rw [Nat.add_zero] at hub
    have hA : ∀ w2, Grow w1 w2 → Bss w2 (.slice (some ⟨w.heap.size, 0 + 0, none⟩) d (4 - 0)) (((readL ls s).drop 0).take d) := fun w2 hg => (HF.out.grow hg).bss.sub (by omega)
    have hBB : ∀ w2, Grow w1 w2 → Bss w2 (.slice (some ⟨w.heap.size, 0 + (d + 1), none⟩) (4 - (d + 1)) (4 - (d + 1))) (((readL ls s).drop (d + 1)).take (4 - (d + 1))) := fun w2 hg => (HF.out.grow hg).bss.sub (by omega)
    rw [List.drop_zero] at hA
    rw [List.take_of_length_le (by rw [List.length_drop, hlL]; omega)] at hBB
    rw [Nat.zero_add, show 4 - (d + 1) = 3 - d by omega] at hBB
    have hB3 : d = 3 → (readL ls s).drop (d + 1) = [] := fun e => List.drop_eq_nil_of_le (by rw [hlL]; omega)
    have hH := HF.out.lt
    have Hflat : Hid ([(readL ls s).take d, (readL ls s).drop (d + 1)].flatten = restTo ls s d 4) := by rw [Hid, ← hsp]; simp
    have Hfl : Hid ((restTo ls s d 4).length = 3) := by rw [Hid, ← hsp, List.length_append, List.length_take, List.length_drop, hlL]; omega
    clear hF hN hcall hsp hlL
    go_wp2
    go_loopw [21] (fun i wr => (i = .int .i64 0 ∧ wr = w1) ∨ (i = .int .i64 1 ∧ Hid (Four w.heap.size ((readL ls s).set d (xorAll (restTo ls s d 4))) wr) ∧ Grow w wr)) (fun i _ => 1 - (intOf i).toNat)
    case atStart => exact .inl ⟨rfl, rfl⟩
    case round =>
      rcases hrel with ⟨rfl, rfl⟩ | ⟨rfl, HF1, hgr⟩
      · go_wp2_with fail
        refine wp_region_last [_, _, _, _, _, _, _, _, _, _, _, _, _] _ rfl Grow [IsV (.slice (some ⟨w.heap.size, 0, none⟩) 4 4), IsV (.int .i64 d), IsV (.slice (some ⟨w.heap.size, 0, none⟩) 4 4), IsV (.int .i64 d), IsV (.slice (some ⟨w.heap.size, 0, none⟩) d 4), IsV (.slice (some ⟨w.heap.size, 0, none⟩) 4 4), IsV (.int .i64 d), IsV (.int .i64 (d + 1)), AnB ((readL ls s).drop (d + 1)), AnDks [(readL ls s).take d, (readL ls s).drop (d + 1)], AnB (restTo ls s d 4), AnX (w.heap.size, xorAll (restTo ls s d 4)), IsV (.pointer (some ⟨w.heap.size, d, none⟩))] (by kernel_rfl) (by kernel_rfl) (by kernel_rfl) rfl Grow.refl (fun _ _ _ => Grow.trans) ?_ ?_ ?_
        · repeat (refine List.forall_mem_cons.2 ⟨by first | exact IsV.stable _ | exact AnB.stable _ | exact AnDks.stable _ | exact AnX.stable _, ?_⟩)
          exact fun R hR => nomatch hR
        · skip
          refine StepsS.cons ?_ fun v0 => ⟨_, _, by simp only [Act.put, List.setIfInBounds_toArray, List.set_cons_succ, List.set_cons_zero]; first | done | rfl, by simp only [List.nil_append]; first | done | rfl, ?_⟩
          · intro w1 hE hd
            clear hd
            go_wp2
            exact ⟨_, rfl, Grow.refl _, rfl⟩
          refine StepsS.cons ?_ fun v1 => ⟨_, _, by simp only [Act.put, List.setIfInBounds_toArray, List.set_cons_succ, List.set_cons_zero]; first | done | rfl, by simp only [List.nil_append, List.cons_append]; first | done | rfl, ?_⟩
          · intro w1 hE hd
            clear hd
            go_wp2
            exact ⟨_, rfl, Grow.refl _, rfl⟩
          refine StepsS.cons ?_ fun v2 => ⟨_, _, by simp only [Act.put, List.setIfInBounds_toArray, List.set_cons_succ, List.set_cons_zero]; first | done | rfl, by simp only [List.nil_append, List.cons_append]; first | done | rfl, ?_⟩
          · intro w1 hE hd
            clear hd
            go_wp2
            exact ⟨_, rfl, Grow.refl _, rfl⟩
          refine StepsS.cons ?_ fun v3 => ⟨_, _, by simp only [Act.put, List.setIfInBounds_toArray, List.set_cons_succ, List.set_cons_zero]; first | done | rfl, by simp only [List.nil_append, List.cons_append]; first | done | rfl, ?_⟩
          · intro w1 hE hd
            clear hd
            go_wp2
            exact ⟨_, rfl, Grow.refl _, rfl⟩
          refine StepsS.cons ?_ fun v4 => ⟨_, _, by simp only [Act.put, List.setIfInBounds_toArray, List.set_cons_succ, List.set_cons_zero]; first | done | rfl, by simp only [List.nil_append, List.cons_append]; first | done | rfl, ?_⟩
          · intro w1 hE hd
            obtain rfl := IsV.eq (dep_at hd 0 rfl rfl rfl)
            obtain rfl := IsV.eq (dep_at hd 1 rfl rfl rfl)
            clear hd
            go_wp2
            exact ⟨_, rfl, Grow.refl _, rfl⟩
          refine StepsS.cons ?_ fun v5 => ⟨_, _, by simp only [Act.put, List.setIfInBounds_toArray, List.set_cons_succ, List.set_cons_zero]; first | done | rfl, by simp only [List.nil_append, List.cons_append]; first | done | rfl, ?_⟩
          · intro w1 hE hd
            clear hd
            go_wp2
            exact ⟨_, rfl, Grow.refl _, rfl⟩
          refine StepsS.cons ?_ fun v6 => ⟨_, _, by simp only [Act.put, List.setIfInBounds_toArray, List.set_cons_succ, List.set_cons_zero]; first | done | rfl, by simp only [List.nil_append, List.cons_append]; first | done | rfl, ?_⟩
          · intro w1 hE hd
            clear hd
            go_wp2
            exact ⟨_, rfl, Grow.refl _, rfl⟩
          refine StepsS.cons ?_ fun v7 => ⟨_, _, by simp only [Act.put, List.setIfInBounds_toArray, List.set_cons_succ, List.set_cons_zero]; first | done | rfl, by simp only [List.nil_append, List.cons_append]; first | done | rfl, ?_⟩
          · intro w1 hE hd
            obtain rfl := IsV.eq (dep_at hd 0 rfl rfl rfl)
            clear hd
            go_wp2
            exact ⟨_, rfl, Grow.refl _, rfl⟩
          refine StepsS.cons ?_ fun v8 => ⟨_, _, by simp only [Act.put, List.setIfInBounds_toArray, List.set_cons_succ, List.set_cons_zero]; first | done | rfl, by simp only [List.nil_append, List.cons_append]; first | done | rfl, ?_⟩
          · intro w1 hE hd
            obtain rfl := IsV.eq (dep_at hd 0 rfl rfl rfl)
            obtain rfl := IsV.eq (dep_at hd 1 rfl rfl rfl)
            clear hd
            by_cases h3 : d = 3
            · have hnil := hB3 h3
              subst h3
              go_wp2
              exact ⟨_, rfl, Grow.refl _, by first | exact Sl.empty _ _ _ | (rw [AnB, hnil]; exact Sl.empty _ _ _)⟩
            · have hBw := hBB _ hE.drew
              go_wp2
              exact ⟨_, rfl, Grow.refl _, hBw⟩
          refine StepsS.cons ?_ fun v9 => ⟨_, _, by simp only [Act.put, List.setIfInBounds_toArray, List.set_cons_succ, List.set_cons_zero]; first | done | rfl, by simp only [List.nil_append, List.cons_append]; first | done | rfl, ?_⟩
          · intro w1 hE hd
            obtain rfl := IsV.eq (dep_at hd 0 rfl rfl rfl)
            have d8 := dep_at hd 1 rfl rfl rfl
            clear hd
            obtain ⟨a8, n8, c8, rfl⟩ : ∃ a n c, v8 = .slice a n c := by obtain ⟨a, c, e⟩ := Sl.form d8; exact ⟨a, _, c, e⟩
            go_wp2
            exact ⟨_, rfl, Grow.alloc _ _, dks_two (hA _ hE.drew) d8⟩
          refine StepsS.cons ?_ fun v10 => ⟨_, _, by simp only [Act.put, List.setIfInBounds_toArray, List.set_cons_succ, List.set_cons_zero]; first | done | rfl, by simp only [List.nil_append, List.cons_append]; first | done | rfl, ?_⟩
          · intro w1 hE hd
            have d9 := dep_at hd 0 rfl rfl rfl
            clear hd
            go_wp2_with fail
            refine (cat2 Hflat.out Hfl.out d9).mono ?_
            rintro e w4 ⟨r', rfl, hr', hg4⟩
            go_wp2_with fail
            exact ⟨_, rfl, hg4, hr'⟩
          refine StepsS.cons ?_ fun v11 => ⟨_, _, by simp only [Act.put, List.setIfInBounds_toArray, List.set_cons_succ, List.set_cons_zero]; first | done | rfl, by simp only [List.nil_append, List.cons_append]; first | done | rfl, ?_⟩
          · intro w1 hE hd
            have d10 := dep_at hd 0 rfl rfl rfl
            clear hd
            go_wp2_with fail
            refine (allX w.heap.size _ (restTo ls s d 4) _ (Nat.lt_of_lt_of_le hH hE.size) d10 hQ).mono ?_
            rintro e w4 ⟨r', rfl, hr', hg4⟩
            go_wp2_with fail
            exact ⟨_, rfl, hg4, hr'⟩
          refine StepsS.cons ?_ fun v12 => ⟨_, _, by simp only [Act.put, List.setIfInBounds_toArray, List.set_cons_succ, List.set_cons_zero]; first | done | rfl, by simp only [List.nil_append, List.cons_append]; first | done | rfl, ?_⟩
          · intro w1 hE hd
            obtain rfl := IsV.eq (dep_at hd 0 rfl rfl rfl)
            obtain rfl := IsV.eq (dep_at hd 1 rfl rfl rfl)
            clear hd
            go_wp2
            exact ⟨_, rfl, Grow.refl _, rfl⟩
          trivial
        intro wR hwR
        refine FinS.cons ?_; rintro _ rfl; refine ⟨_, by simp only [Act.put, List.setIfInBounds_toArray, List.set_cons_succ, List.set_cons_zero]; first | done | rfl, ?_⟩
        refine FinS.cons ?_; rintro _ rfl; refine ⟨_, by simp only [Act.put, List.setIfInBounds_toArray, List.set_cons_succ, List.set_cons_zero]; first | done | rfl, ?_⟩
        refine FinS.cons ?_; rintro _ rfl; refine ⟨_, by simp only [Act.put, List.setIfInBounds_toArray, List.set_cons_succ, List.set_cons_zero]; first | done | rfl, ?_⟩
        refine FinS.cons ?_; rintro _ rfl; refine ⟨_, by simp only [Act.put, List.setIfInBounds_toArray, List.set_cons_succ, List.set_cons_zero]; first | done | rfl, ?_⟩
        refine FinS.cons ?_; rintro _ rfl; refine ⟨_, by simp only [Act.put, List.setIfInBounds_toArray, List.set_cons_succ, List.set_cons_zero]; first | done | rfl, ?_⟩
        refine FinS.cons ?_; rintro _ rfl; refine ⟨_, by simp only [Act.put, List.setIfInBounds_toArray, List.set_cons_succ, List.set_cons_zero]; first | done | rfl, ?_⟩
        refine FinS.cons ?_; rintro _ rfl; refine ⟨_, by simp only [Act.put, List.setIfInBounds_toArray, List.set_cons_succ, List.set_cons_zero]; first | done | rfl, ?_⟩
        refine FinS.cons ?_; rintro _ rfl; refine ⟨_, by simp only [Act.put, List.setIfInBounds_toArray, List.set_cons_succ, List.set_cons_zero]; first | done | rfl, ?_⟩
        refine FinS.cons fun v8 h8 => ⟨_, by simp only [Act.put, List.setIfInBounds_toArray, List.set_cons_succ, List.set_cons_zero]; first | done | rfl, ?_⟩
        refine FinS.cons fun v9 h9 => ⟨_, by simp only [Act.put, List.setIfInBounds_toArray, List.set_cons_succ, List.set_cons_zero]; first | done | rfl, ?_⟩
        refine FinS.cons fun v10 h10 => ⟨_, by simp only [Act.put, List.setIfInBounds_toArray, List.set_cons_succ, List.set_cons_zero]; first | done | rfl, ?_⟩
        refine FinS.cons fun v11 h11 => ⟨_, by simp only [Act.put, List.setIfInBounds_toArray, List.set_cons_succ, List.set_cons_zero]; first | done | rfl, ?_⟩
        refine FinS.cons ?_; rintro _ rfl; refine ⟨_, by simp only [Act.put, List.setIfInBounds_toArray, List.set_cons_succ, List.set_cons_zero]; first | done | rfl, ?_⟩
        show wpList _ _ _ _ _ _
        have hFx : Fx w.heap.size (xorAll (restTo ls s d 4)) v11 wR := h11
        obtain ⟨a11, n11, c11, rfl⟩ := hFx.form
        have hFR := HF.out.grow hwR.drew
        obtain ⟨⟨u0, hu0⟩, hf0⟩ := hFR.at hd
        have HF2 : Hid (Four _ _ _) := hFR.put d hFx
        have hg2 := (hg1.trans hwR.drew).set (k := d) (Nat.le_refl w.heap.size) (.slice a11 n11 c11)
        clear hFx hFR h8 h9 h10 h11 HF hA hBB
        go_wp2
        go_roundw
        case rel => first | exact (.inr ⟨by go_num, HF2, hg2⟩) | ((repeat apply Exists.intro); exact ⟨(.inr ⟨by go_num, HF2, hg2⟩), rfl⟩)
        case measure => simp [intOf]
      · have hR := HF1.out.row g hg
        clear HF1
        go_wp2
        go_ret2
        exact ⟨_, rfl, hR, hgr⟩

theorem stripeData_row (v : Value) (ls : List (List Int)) (s : Nat) (w : World) (g : Option Nat) (h : Sl (Off Bs g) w v ls) (hg : ∀ k, g = some k → k < w.heap.size) (hl : ls.length = 4) (_hs : s < 3) :
    Calls Try.prog 23 #[v, .int .i64 s] w fun e w' => ∃ r, e = .returned (.tuple #[r, .int .i64 (dataE ls s)]) ∧ Rowing (Off Bs g) w.heap.size 23 w' r (dataL ls s) ∧ Grow w w' :=
  stripeData_bss v ls s w g h.off hg hl _hs

theorem cellsL_up {a : ArrP} (h : a.ds.length = 4) (s : Nat) : cellsL a s = up4 (fun (d : Nat) => (a.ds.getD d []).getD s []) 4 := by
  rw [up4_all, cellsL]
  refine List.ext_getElem (by simp [h]) fun i h1 h2 => ?_
  have hi : i < a.ds.length := by simpa using h1
  simp [List.getD_eq_getElem?_getD, hi]

set_option maxRecDepth 20000 in
set_option maxHeartbeats 3200000 in
theorem stripeCells_row (v : Value) (a : ArrP) (s : Nat) (w : World) (h : ArrV w v a) (ha : Whole a) (h8 : ∀ d s, ((a.ds.getD d []).getD s []).length ≤ 8) (hs : s < 3) :
    Calls Try.prog 21 #[v, .int .i64 s] w fun e w' => ∃ r, e = .returned r ∧ Rowing Bs w.heap.size 23 w' r (cellsL a s) ∧ Grow w w' := by
  obtain ⟨dv, iv, rfl, hd, hit⟩ := h
  obtain ⟨ad, cd, rfl, hd1, hd2⟩ := hd.form'
  obtain ⟨ai, ci, rfl, hi1, hi2⟩ := hit.form
  obtain ⟨ha4, ha3⟩ := ha
  rw [cellsL_up ha4]
  have HK : Hid (∀ k, k < 4 → ∃ b off a' c' b' off' u' n' cc', ad = some ⟨b, off, none⟩ ∧ w.cell? ⟨b, off + k, none⟩ = some (.slice a' 3 c') ∧ a' = some ⟨b', off', none⟩ ∧ w.cell? ⟨b', off' + s, none⟩ = some (.slice u' n' cc') ∧ Bs w (.slice u' n' cc') ((a.ds.getD k []).getD s [])) := fun k hk => by
    obtain ⟨b, off, a', c', e1, e2, e3⟩ := hd.elems (k := k) (by omega)
    have h3 : (a.ds.getD k []).length = 3 := ha3 _ (by simp [List.getD_eq_getElem?_getD, show k < a.ds.length by omega])
    obtain ⟨b', off', u', e4, e5, e6⟩ := e3.elem (k := s) (by omega) []
    obtain ⟨x1, x2, x3, rfl⟩ := e6.form
    rw [h3] at e2
    exact ⟨b, off, a', c', b', off', x1, x2, x3, e1, e2, e4, e5, e6⟩
  rw [ha4] at hd1 ⊢
  clear hd hit ha3 ha4
  generalize a.is.length = ni at *
  have hgA : Grow w (w.alloc (.cells #[.slice ad 4 cd, .slice ai ni ci] 39)) := Grow.alloc _ _
  obtain ⟨w1, hw1⟩ : ∃ w1, w1 = w.alloc (.cells #[.slice ad 4 cd, .slice ai ni ci] 39) := ⟨_, rfl⟩
  have hsz : w1.heap.size = w.heap.size + 1 := by rw [hw1]; simp
  have hA0 : w1.heap[w.heap.size]? = some (.cells #[.slice ad 4 cd, .slice ai ni ci] 39 (0, 0)) := by rw [hw1]; exact heap_alloc_new w _
  have c0 : w1.cell? ⟨w.heap.size, 0, none⟩ = some (.slice ad 4 cd) := row_at hA0 0 rfl
  have hmk := Try.madeS (w.alloc (.cells #[.slice ad 4 cd, .slice ai ni ci] 39))
  have hst : Hid (Rowing Bs w1.heap.size 23 (w1.alloc (.cells nils4 23)) (.slice (some ⟨w1.heap.size, 0, none⟩) 4 4) (up4 (fun (d : Nat) => (a.ds.getD d []).getD s []) 0)) := Rowing.madeS w1 _
  rw [← hw1] at hgA
  go_enter Try.func21, Try.ntmps21
  go_wp2
  rw [← hw1]
  rw [show w.heap.size + 1 = w1.heap.size from hsz.symm]
  clear hw1 hA0 hsz hmk
  go_loopw [10] (fun i wr => ∃ k : Nat, k ≤ 4 ∧ i = .int .i64 k ∧ Hid (Rowing Bs w1.heap.size 23 wr (.slice (some ⟨w1.heap.size, 0, none⟩) 4 4) (up4 (fun (d : Nat) => (a.ds.getD d []).getD s []) k)) ∧ Grow w1 wr) (fun i _ => 4 - (intOf i).toNat)
  case atStart => exact ⟨0, by omega, rfl, hst, Grow.alloc _ _⟩
  case round =>
    obtain ⟨k, hk, rfl, HR, hgr⟩ := hrel
    clear hst
    by_cases hlt : k < 4
    · obtain ⟨b, off, a', c', b', off', u', n', cc', rfl, hc1, rfl, hc2, hb⟩ := HK.out k hlt
      have hgw := hgA.trans hgr
      have hA := atD_any b off k 4 cd (some ⟨b', off', none⟩) 3 c' wr hlt (hgw.at hc1)
      have hB := atB_any b' off' s 3 c' u' n' cc' wr hs (hgw.at hc2)
      have hC := bytesClone_any (.slice u' n' cc') ((a.ds.getD k []).getD s []) wr (hb.grow hgw) (by have := h8 k s; omega)
      have hoc := hb.octets
      have c0' := hgr.at c0
      clear hc1 hc2 hb
      go_wp2_with fail
      refine hA.mono ?_
      rintro e w0 ⟨rfl, rfl⟩
      go_wp2_with fail
      refine hB.mono ?_
      rintro e w2 ⟨rfl, rfl⟩
      go_wp2_with fail
      refine hC.mono ?_
      rintro e w3 ⟨r, rfl, hown, hg3⟩
      have hlr : w1.heap.size < w2.heap.size := (HR.out.base _ rfl).2
      have hoff : Off Bs (some w1.heap.size) w3 r ((a.ds.getD k []).getD s []) := Off.own hown hoc (fun j hj => by cases hj; exact hlr)
      obtain ⟨gr, nr, cr, rfl⟩ := (Bs.of_own hown hoc).form
      have hrow := HR.out.grow hg3
      obtain ⟨⟨u0, hu0⟩, hf0⟩ := hrow.at (k := k) (by rw [up4_length]; exact hlt)
      have hrow1 := hrow.stored k hoff
      rw [up4_set (fun (d : Nat) => (a.ds.getD d []).getD s []) hlt] at hrow1
      have HR1 : Hid (Rowing Bs _ _ _ _ _) := hrow1
      have hg4 := (hgr.trans hg3).set (k := k) (Nat.le_refl w1.heap.size) (.slice gr nr cr)
      clear hrow hrow1 hoff hown HR hA hB hC
      go_wp2
      go_roundw
      case rel => first | exact ⟨k + 1, by omega, by go_num, HR1, hg4⟩ | ((repeat apply Exists.intro); exact ⟨⟨k + 1, by omega, by go_num, HR1, hg4⟩, rfl⟩)
      case measure => simp [intOf]; omega
    · obtain rfl : k = 4 := by omega
      go_wp2
      go_ret
      exact ⟨_, rfl, HR.out.low hgA.size, hgA.trans hgr⟩

end Go.Proofs.Ytjggiameajndgab
