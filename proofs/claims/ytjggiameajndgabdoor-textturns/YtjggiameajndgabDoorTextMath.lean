/-
  Plain: a deed's text, and a text's deed.
-/
import Derived.Test.YtjggiameajndgabDoorModelMath
import Derived.Lib.AtoiAll
import Derived.Lib.ItoaNum
namespace Go.Proofs.YtjggiameajndgabDoor

/-- Two digits of a byte. -/
def hexD (k : Nat) : UInt8 := if k < 10 then UInt8.ofNat (48 + k) else UInt8.ofNat (87 + k)

/-- What a digit is. -/
def hexV (c : UInt8) : Option Nat :=
  if 48 ≤ c.toNat ∧ c.toNat ≤ 57 then some (c.toNat - 48) else if 97 ≤ c.toNat ∧ c.toNat ≤ 102 then some (c.toNat - 87) else none

theorem hexV_D : ∀ k : Nat, k < 16 → hexV (hexD k) = some k := by decide

theorem hexV_lt {c : UInt8} {k : Nat} (h : hexV c = some k) : k < 16 ∧ hexD k = c := by
  unfold hexV at h
  split at h
  · rename_i h1
    injection h with h
    subst h
    refine ⟨by omega, ?_⟩
    unfold hexD
    rw [if_pos (by omega)]
    apply UInt8.toNat_inj.1
    rw [UInt8.toNat_ofNat']
    omega
  · split at h
    · rename_i h1
      injection h with h
      subst h
      refine ⟨by omega, ?_⟩
      unfold hexD
      rw [if_neg (by omega)]
      apply UInt8.toNat_inj.1
      rw [UInt8.toNat_ofNat']
      omega
    · cases h

/-- Two digits of each. -/
def hexL : List Int → List UInt8
  | [] => []
  | c :: r => hexD (c / 16).toNat :: hexD (c % 16).toNat :: hexL r

/-- What the digits are. -/
def unhex : List UInt8 → Option (List Int)
  | [] => some []
  | [_] => none
  | a :: b :: r =>
    match hexV a, hexV b, unhex r with
    | some x, some y, some l => some (((16 * x + y : Nat) : Int) :: l)
    | _, _, _ => none

theorem unhex_hex : ∀ d : List Int, (∀ c ∈ d, 0 ≤ c ∧ c < 256) → unhex (hexL d) = some d
  | [], _ => rfl
  | c :: r, h => by
    obtain ⟨h0, h1⟩ := h c (List.mem_cons_self ..)
    have hr := unhex_hex r fun x hx => h x (List.mem_cons_of_mem _ hx)
    simp only [hexL, unhex, hr, hexV_D _ (show (c / 16).toNat < 16 by omega), hexV_D _ (show (c % 16).toNat < 16 by omega)]
    congr 2
    omega

theorem hex_unhex : ∀ (b : List UInt8) (d : List Int), unhex b = some d → hexL d = b ∧ ∀ c ∈ d, 0 ≤ c ∧ c < 256
  | [], d, h => by
    simp only [unhex] at h
    injection h with h
    subst h
    exact ⟨rfl, fun c hc => by cases hc⟩
  | [_], d, h => by simp [unhex] at h
  | a :: b :: r, d, h => by
    simp only [unhex] at h
    split at h
    · rename_i x y l hx hy hl
      injection h with h
      subst h
      obtain ⟨x0, x1⟩ := hexV_lt hx
      obtain ⟨y0, y1⟩ := hexV_lt hy
      obtain ⟨i1, i2⟩ := hex_unhex r l hl
      constructor
      · simp only [hexL, i1]
        rw [show (((16 * x + y : Nat) : Int) / 16).toNat = x by omega, show (((16 * x + y : Nat) : Int) % 16).toNat = y by omega, x1, y1]
      · intro c hc
        rcases List.mem_cons.1 hc with rfl | hc
        · omega
        · exact i2 c hc
    · cases h

/-- No digit is a blank. -/
theorem hexD_blank : ∀ k : Nat, k < 16 → hexD k ≠ 32 := by decide

theorem hexL_blank : ∀ d : List Int, (∀ c ∈ d, 0 ≤ c ∧ c < 256) → 32 ∉ hexL d
  | [], _ => by simp [hexL]
  | c :: r, h => by
    obtain ⟨h0, h1⟩ := h c (List.mem_cons_self ..)
    have hr := hexL_blank r fun x hx => h x (List.mem_cons_of_mem _ hx)
    have a1 := hexD_blank (c / 16).toNat (by omega)
    have a2 := hexD_blank (c % 16).toNat (by omega)
    simp only [hexL, List.mem_cons, not_or]
    exact ⟨fun e => a1 e.symm, fun e => a2 e.symm, hr⟩

theorem hexL_length : ∀ d : List Int, (hexL d).length = 2 * d.length
  | [] => rfl
  | c :: r => by simp only [hexL, List.length_cons, hexL_length r]; omega

/-- The words between single blanks. -/
def split : List UInt8 → List (List UInt8)
  | [] => [[]]
  | c :: r => if c = 32 then [] :: split r else (c :: (split r).headD []) :: (split r).tail

/-- Words with a blank between. -/
def join : List (List UInt8) → List UInt8
  | [] => []
  | [w] => w
  | w :: ws => w ++ 32 :: join ws

theorem split_ne : ∀ s, split s ≠ []
  | [] => by simp [split]
  | c :: r => by simp only [split]; split <;> simp

theorem join_cons (w : List UInt8) {ws : List (List UInt8)} (h : ws ≠ []) : join (w :: ws) = w ++ 32 :: join ws := by
  cases ws with
  | nil => exact absurd rfl h
  | cons => rfl

theorem join_split : ∀ s, join (split s) = s
  | [] => rfl
  | c :: r => by
    have ih := join_split r
    simp only [split]
    split
    · rename_i h
      subst h
      rw [join_cons _ (split_ne r), ih]
      rfl
    · revert ih
      cases hs : split r with
      | nil => exact absurd hs (split_ne r)
      | cons w ws =>
        cases ws with
        | nil => intro ih; simp only [join] at ih; subst ih; rfl
        | cons v vs =>
          intro ih
          rw [join_cons _ (by simp)] at ih
          show join ((c :: w) :: v :: vs) = _
          rw [join_cons _ (by simp), List.cons_append, ih]

theorem split_word : ∀ w : List UInt8, 32 ∉ w → split w = [w]
  | [], _ => rfl
  | c :: r, h => by
    have h1 : c ≠ 32 := fun e => h (e ▸ List.mem_cons_self ..)
    have ih := split_word r fun e => h (List.mem_cons_of_mem _ e)
    simp only [split, if_neg h1, ih]
    rfl

theorem split_append : ∀ (w s : List UInt8), 32 ∉ w → split (w ++ 32 :: s) = w :: split s
  | [], s, _ => by simp [split]
  | c :: r, s, h => by
    have h1 : c ≠ 32 := fun e => h (e ▸ List.mem_cons_self ..)
    have ih := split_append r s fun e => h (List.mem_cons_of_mem _ e)
    simp only [List.cons_append, split, if_neg h1, ih]
    rfl

/-- A number that is written as it must be. -/
def numL (w : List UInt8) : Option Int :=
  match Lib.atoiAll w with
  | .ok v => if Lib.itoa v = w then some v else none
  | _ => none

theorem numL_some {w : List UInt8} {v : Int} (h : numL w = some v) : Lib.itoa v = w := by
  unfold numL at h
  split at h
  · split at h
    · rename_i h1
      injection h with h
      subst h
      exact h1
    · cases h
  · cases h

theorem itoa_small (k : Nat) (h : k < 10) : Lib.itoa (k : Int) = [UInt8.ofNat (48 + k)] := by
  unfold Lib.itoa
  rw [if_neg (by omega), Int.toNat_natCast, Lib.decDigits, dif_pos h]

theorem numL_small (k : Nat) (h : k < 10) : numL (Lib.itoa (k : Int)) = some (k : Int) := by
  unfold numL
  rw [itoa_small k h]
  have h1 : Lib.atoiAll [UInt8.ofNat (48 + k)] = .ok (k : Int) := by
    revert k; decide
  rw [h1]
  simp only [itoa_small k h, if_true]

theorem itoa_blank (k : Nat) (h : k < 10) : 32 ∉ Lib.itoa (k : Int) := by
  rw [itoa_small k h]
  revert k; decide

def wrW : List UInt8 := [119, 114, 105, 116, 101]
def swW : List UInt8 := [115, 119, 97, 112]

/-- A deed's text. -/
def printP (x : DeedP) : List UInt8 :=
  if x.k = 2 then swW ++ 32 :: (Lib.itoa x.n ++ 32 :: Lib.itoa x.m) else wrW ++ 32 :: (Lib.itoa x.n ++ 32 :: hexL x.d)

/-- Nothing, and why. -/
def noP (e : Int) : DeedP × Int := (⟨0, 0, 0, []⟩, e)

def chkP (x : DeedP) : DeedP × Int := if wrongE x = 0 then (x, 0) else noP (wrongE x)

/-- What the two words behind the first are. -/
def form (k : Int) (a b : List UInt8) : Option DeedP :=
  match numL a with
  | none => none
  | some n =>
    if k = 1 then (match unhex b with | none => none | some d => some ⟨1, n, 0, d⟩)
    else (match numL b with | none => none | some m => some ⟨2, n, m, []⟩)

/-- What the words are. -/
def wordsP (k : Int) (ws : List (List UInt8)) : DeedP × Int :=
  match ws with
  | [_, a, b] => (match form k a b with | none => noP 2 | some x => chkP x)
  | _ => noP 2

/-- A text's deed. -/
def parseP (s : List UInt8) : DeedP × Int :=
  if (split s).headD [] = wrW then wordsP 1 (split s)
  else if (split s).headD [] = swW then wordsP 2 (split s)
  else noP 1

/-- A right deed comes back from its text. -/
theorem parse_print (x : DeedP) (h : wrongE x = 0) (hb : ∀ c ∈ x.d, 0 ≤ c ∧ c < 256) : parseP (printP x) = (x, 0) := by
  obtain ⟨hk, n0, n1, h1, h2⟩ := right_deed h
  obtain ⟨k, n, m, d⟩ := x
  simp only at *
  obtain ⟨n, rfl⟩ : ∃ j : Nat, n = (j : Int) := ⟨n.toNat, by omega⟩
  have hn : n < 10 := by omega
  rcases hk with rfl | rfl
  · obtain ⟨rfl, -⟩ := h1 rfl
    have hs : split (printP ⟨1, (n : Int), 0, d⟩) = [wrW, Lib.itoa (n : Int), hexL d] := by
      unfold printP
      rw [if_neg (by decide : ¬ ((1 : Int) = 2)), split_append _ _ (by decide), split_append _ _ (itoa_blank n hn), split_word _ (hexL_blank d hb)]
    unfold parseP
    rw [hs]
    simp only [List.headD_cons, if_true, wordsP, form, numL_small n hn, unhex_hex d hb, chkP, h]
  · obtain ⟨m1, m2, m3⟩ := h2 rfl
    have hm : 0 ≤ m ∧ m ≤ 8 := by
      unfold whereE at m1
      split at m1 <;> omega
    obtain ⟨m, rfl⟩ : ∃ j : Nat, m = (j : Int) := ⟨m.toNat, by omega⟩
    have hm : m < 10 := by omega
    obtain rfl : d = [] := List.length_eq_zero_iff.1 m3
    have hs : split (printP ⟨2, (n : Int), (m : Int), []⟩) = [swW, Lib.itoa (n : Int), Lib.itoa (m : Int)] := by
      unfold printP
      rw [if_pos rfl, split_append _ _ (by decide), split_append _ _ (itoa_blank n hn), split_word _ (itoa_blank m hm)]
    unfold parseP
    rw [hs]
    simp only [List.headD_cons, show ¬ swW = wrW by decide, if_false, if_true, wordsP, form, numL_small n hn, numL_small m hm, show ¬ ((2 : Int) = 1) by decide, chkP, h]

theorem chk_ok {x y : DeedP} (h : chkP x = (y, 0)) : x = y ∧ wrongE x = 0 := by
  unfold chkP at h
  split at h
  · rename_i h1
    injection h with h
    exact ⟨h, h1⟩
  · rename_i h1
    unfold noP at h
    injection h with _ h
    exact absurd h h1

theorem form_print {k : Int} {a b : List UInt8} {x : DeedP} (hk : k = 1 ∨ k = 2) (h : form k a b = some x) :
    x.k = k ∧ printP x = join [if k = 1 then wrW else swW, a, b] ∧ ∀ c ∈ x.d, 0 ≤ c ∧ c < 256 := by
  unfold form at h
  split at h
  · cases h
  rename_i n hn
  have hn := numL_some hn
  rcases hk with rfl | rfl
  · rw [if_pos rfl] at h
    split at h
    · cases h
    rename_i d hd
    injection h with h
    subst h
    obtain ⟨e1, e2⟩ := hex_unhex _ _ hd
    refine ⟨rfl, ?_, e2⟩
    simp only [printP, show ¬ ((1 : Int) = 2) by decide, if_false, if_true, join, hn, e1]
  · rw [if_neg (by decide)] at h
    split at h
    · cases h
    rename_i m hm
    have hm := numL_some hm
    injection h with h
    subst h
    refine ⟨rfl, ?_, fun c hc => by cases hc⟩
    simp only [printP, show ¬ ((2 : Int) = 1) by decide, if_false, if_true, join, hn, hm]

theorem words_ok {k : Int} {ws : List (List UInt8)} {x : DeedP} (hk : k = 1 ∨ k = 2) (h0 : ws.headD [] = if k = 1 then wrW else swW) (h : wordsP k ws = (x, 0)) :
    printP x = join ws ∧ wrongE x = 0 ∧ ∀ c ∈ x.d, 0 ≤ c ∧ c < 256 := by
  unfold wordsP at h
  split at h
  · rename_i w a b
    simp only [List.headD_cons] at h0
    subst h0
    split at h
    · simp [noP] at h
    · rename_i y hy
      obtain ⟨rfl, hw⟩ := chk_ok h
      obtain ⟨-, e1, e2⟩ := form_print hk hy
      exact ⟨e1, hw, e2⟩
  · simp [noP] at h

/-- A text that is read is its deed's. -/
theorem print_parse {s : List UInt8} {x : DeedP} (h : parseP s = (x, 0)) : printP x = s ∧ wrongE x = 0 ∧ ∀ c ∈ x.d, 0 ≤ c ∧ c < 256 := by
  unfold parseP at h
  split at h
  · rename_i h0
    have h1 := words_ok (.inl rfl) (by rw [h0]; rfl) h
    rwa [join_split] at h1
  · split at h
    · rename_i h0
      have h1 := words_ok (.inr rfl) (by rw [h0]; rfl) h
      rwa [join_split] at h1
    · simp [noP] at h

/-- Unlike ones have unlike texts. -/
theorem print_inj {x y : DeedP} (hx : wrongE x = 0) (hxb : ∀ c ∈ x.d, 0 ≤ c ∧ c < 256) (hy : wrongE y = 0) (hyb : ∀ c ∈ y.d, 0 ≤ c ∧ c < 256) (h : printP x = printP y) : x = y := by
  have h1 := parse_print x hx hxb
  rw [h, parse_print y hy hyb] at h1
  injection h1 with h1
  exact h1.symm

end Go.Proofs.YtjggiameajndgabDoor
