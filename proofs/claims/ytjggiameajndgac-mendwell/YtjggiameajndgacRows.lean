/-
  No cell of these rows narrows 'for every input' (looked for: loops, veiled, ifaces, maps, wideKeys, modest, calm, conditions, laid).
  DERIVED. THE GIVEN ROWS OF THIS SEAT. 12 by the template 'for every input the law returns true; each argument reads behind the call as it read before'; 0 by the template 'total and deterministic' (their statements: YtjggiameajndgacTotals.lean).
  GIVEN WITH THE SEED: the statements are not yours to turn. If you find one false, say at which input.
  Laid BY PROGRAM, IN A SANDBOX (cutbox-rows.mjs): the forced cells as the released guide's own fill.sh prints them over the translation b504c0024b3336b8… (all of the seat's roots in one cut). By AI agents, Wed Nov 11 2026. No macro, syntax, notation, axiom, sorry.
-/
import Derived.Test.YtjggiameajndgacChecked
import GoSem.Claim
import GoSem.ClaimJoined
import GoSem.ClaimMapViews
import Derived.JoinedTies
import Derived.KernelRfl
namespace Go.Proofs.Ytjggiameajndgac
/- THE CELL 'sum', in the pinned program and in every row, IS THE sha256 OF THE DUMP (.gsa) THAT YtjggiameajndgacProg.lean LOADS. Nothing in Lean hashes anything: it is a label: what it is worth is what the hold of that sum in a sandbox is worth. -/
noncomputable def Try.pinned : Pinned := { name := "ytjggiameajndgac", sum := "b504c0024b3336b81fccdeed102a55f4cef6445d035e0434a5348af8e1725523", checked := Try.checked }
namespace Rows
def none {H : Type} : Left H := { results := [], args := [] }

/-- 'mhlaw9.MendTells': WHATEVER THE INPUT: true; the input reads as it did. -/
def mendTellsSpec : ChangeSpec := { name := "mendTells", fn := fun _ => fun
  | [d1, d2] => { results := [.lit (.bool true)], args := [d1, d2] }
  | _ => none }
def mendTellsRow : OpenClaim := { program := "ytjggiameajndgac", sum := "b504c0024b3336b81fccdeed102a55f4cef6445d035e0434a5348af8e1725523", func := "mirrorheal/mhlaw9.MendTells", spec := "mendTells", apart := false }
def MendTellsSaid : Prop := mendTellsRow.holds Try.pinned (OpenSpec.ofChange mendTellsSpec)

/-- ITS FALSE NEIGHBOUR: 'it returns false'. Refute it at one input. -/
def mendTellsWrong : ChangeSpec := { name := "mendTells", fn := fun _ => fun
  | [d1, d2] => { results := [.lit (.bool false)], args := [d1, d2] }
  | _ => none }
def MendTellsWrongFalsely : Prop := mendTellsRow.holds Try.pinned (OpenSpec.ofChange mendTellsWrong)

/-- 'mhlaw9.MendWell': WHATEVER THE INPUT: true; the input reads as it did. -/
def mendWellSpec : ChangeSpec := { name := "mendWell", fn := fun _ => fun
  | [d] => { results := [.lit (.bool true)], args := [d] }
  | _ => none }
def mendWellRow : OpenClaim := { program := "ytjggiameajndgac", sum := "b504c0024b3336b81fccdeed102a55f4cef6445d035e0434a5348af8e1725523", func := "mirrorheal/mhlaw9.MendWell", spec := "mendWell", apart := false }
def MendWellSaid : Prop := mendWellRow.holds Try.pinned (OpenSpec.ofChange mendWellSpec)

/-- ITS FALSE NEIGHBOUR: 'it returns false'. Refute it at one input. -/
def mendWellWrong : ChangeSpec := { name := "mendWell", fn := fun _ => fun
  | [d] => { results := [.lit (.bool false)], args := [d] }
  | _ => none }
def MendWellWrongFalsely : Prop := mendWellRow.holds Try.pinned (OpenSpec.ofChange mendWellWrong)

/-- 'mhlaw9.MendOnly': WHATEVER THE INPUT: true; the input reads as it did. -/
def mendOnlySpec : ChangeSpec := { name := "mendOnly", fn := fun _ => fun
  | [d1, d2] => { results := [.lit (.bool true)], args := [d1, d2] }
  | _ => none }
def mendOnlyRow : OpenClaim := { program := "ytjggiameajndgac", sum := "b504c0024b3336b81fccdeed102a55f4cef6445d035e0434a5348af8e1725523", func := "mirrorheal/mhlaw9.MendOnly", spec := "mendOnly", apart := false }
def MendOnlySaid : Prop := mendOnlyRow.holds Try.pinned (OpenSpec.ofChange mendOnlySpec)

/-- ITS FALSE NEIGHBOUR: 'it returns false'. Refute it at one input. -/
def mendOnlyWrong : ChangeSpec := { name := "mendOnly", fn := fun _ => fun
  | [d1, d2] => { results := [.lit (.bool false)], args := [d1, d2] }
  | _ => none }
def MendOnlyWrongFalsely : Prop := mendOnlyRow.holds Try.pinned (OpenSpec.ofChange mendOnlyWrong)

/-- 'mhlaw10.HarmTells': WHATEVER THE INPUT: true; the input reads as it did. -/
def harmTellsSpec : ChangeSpec := { name := "harmTells", fn := fun _ => fun
  | [d1, d2, d3, d4] => { results := [.lit (.bool true)], args := [d1, d2, d3, d4] }
  | _ => none }
def harmTellsRow : OpenClaim := { program := "ytjggiameajndgac", sum := "b504c0024b3336b81fccdeed102a55f4cef6445d035e0434a5348af8e1725523", func := "mirrorheal/mhlaw10.HarmTells", spec := "harmTells", apart := false }
def HarmTellsSaid : Prop := harmTellsRow.holds Try.pinned (OpenSpec.ofChange harmTellsSpec)

/-- ITS FALSE NEIGHBOUR: 'it returns false'. Refute it at one input. -/
def harmTellsWrong : ChangeSpec := { name := "harmTells", fn := fun _ => fun
  | [d1, d2, d3, d4] => { results := [.lit (.bool false)], args := [d1, d2, d3, d4] }
  | _ => none }
def HarmTellsWrongFalsely : Prop := harmTellsRow.holds Try.pinned (OpenSpec.ofChange harmTellsWrong)

/-- 'mhlaw10.HarmBack': WHATEVER THE INPUT: true; the input reads as it did. -/
def harmBackSpec : ChangeSpec := { name := "harmBack", fn := fun _ => fun
  | [d1, d2, d3, d4] => { results := [.lit (.bool true)], args := [d1, d2, d3, d4] }
  | _ => none }
def harmBackRow : OpenClaim := { program := "ytjggiameajndgac", sum := "b504c0024b3336b81fccdeed102a55f4cef6445d035e0434a5348af8e1725523", func := "mirrorheal/mhlaw10.HarmBack", spec := "harmBack", apart := false }
def HarmBackSaid : Prop := harmBackRow.holds Try.pinned (OpenSpec.ofChange harmBackSpec)

/-- ITS FALSE NEIGHBOUR: 'it returns false'. Refute it at one input. -/
def harmBackWrong : ChangeSpec := { name := "harmBack", fn := fun _ => fun
  | [d1, d2, d3, d4] => { results := [.lit (.bool false)], args := [d1, d2, d3, d4] }
  | _ => none }
def HarmBackWrongFalsely : Prop := harmBackRow.holds Try.pinned (OpenSpec.ofChange harmBackWrong)

/-- 'mhlaw10.HarmOne': WHATEVER THE INPUT: true; the input reads as it did. -/
def harmOneSpec : ChangeSpec := { name := "harmOne", fn := fun _ => fun
  | [d1, d2, d3, d4, d5] => { results := [.lit (.bool true)], args := [d1, d2, d3, d4, d5] }
  | _ => none }
def harmOneRow : OpenClaim := { program := "ytjggiameajndgac", sum := "b504c0024b3336b81fccdeed102a55f4cef6445d035e0434a5348af8e1725523", func := "mirrorheal/mhlaw10.HarmOne", spec := "harmOne", apart := false }
def HarmOneSaid : Prop := harmOneRow.holds Try.pinned (OpenSpec.ofChange harmOneSpec)

/-- ITS FALSE NEIGHBOUR: 'it returns false'. Refute it at one input. -/
def harmOneWrong : ChangeSpec := { name := "harmOne", fn := fun _ => fun
  | [d1, d2, d3, d4, d5] => { results := [.lit (.bool false)], args := [d1, d2, d3, d4, d5] }
  | _ => none }
def HarmOneWrongFalsely : Prop := harmOneRow.holds Try.pinned (OpenSpec.ofChange harmOneWrong)

/-- 'mhlaw11.PlayTells': WHATEVER THE INPUT: true; the input reads as it did. -/
def playTellsSpec : ChangeSpec := { name := "playTells", fn := fun _ => fun
  | [d1, d2] => { results := [.lit (.bool true)], args := [d1, d2] }
  | _ => none }
def playTellsRow : OpenClaim := { program := "ytjggiameajndgac", sum := "b504c0024b3336b81fccdeed102a55f4cef6445d035e0434a5348af8e1725523", func := "mirrorheal/mhlaw11.PlayTells", spec := "playTells", unfollowed := true, recurses := true, apart := false }
def PlayTellsSaid : Prop := playTellsRow.holds Try.pinned (OpenSpec.ofChange playTellsSpec)

/-- ITS FALSE NEIGHBOUR: 'it returns false'. Refute it at one input. -/
def playTellsWrong : ChangeSpec := { name := "playTells", fn := fun _ => fun
  | [d1, d2] => { results := [.lit (.bool false)], args := [d1, d2] }
  | _ => none }
def PlayTellsWrongFalsely : Prop := playTellsRow.holds Try.pinned (OpenSpec.ofChange playTellsWrong)

/-- 'mhlaw11.PlaySafe': WHATEVER THE INPUT: true; the input reads as it did. -/
def playSafeSpec : ChangeSpec := { name := "playSafe", fn := fun _ => fun
  | [d1, d2, d3, d4] => { results := [.lit (.bool true)], args := [d1, d2, d3, d4] }
  | _ => none }
def playSafeRow : OpenClaim := { program := "ytjggiameajndgac", sum := "b504c0024b3336b81fccdeed102a55f4cef6445d035e0434a5348af8e1725523", func := "mirrorheal/mhlaw11.PlaySafe", spec := "playSafe", unfollowed := true, recurses := true, apart := false }
def PlaySafeSaid : Prop := playSafeRow.holds Try.pinned (OpenSpec.ofChange playSafeSpec)

/-- ITS FALSE NEIGHBOUR: 'it returns false'. Refute it at one input. -/
def playSafeWrong : ChangeSpec := { name := "playSafe", fn := fun _ => fun
  | [d1, d2, d3, d4] => { results := [.lit (.bool false)], args := [d1, d2, d3, d4] }
  | _ => none }
def PlaySafeWrongFalsely : Prop := playSafeRow.holds Try.pinned (OpenSpec.ofChange playSafeWrong)

/-- 'mhlaw11.PlayNone': WHATEVER THE INPUT: true; the input reads as it did. -/
def playNoneSpec : ChangeSpec := { name := "playNone", fn := fun _ => fun
  | [d1, d2] => { results := [.lit (.bool true)], args := [d1, d2] }
  | _ => none }
def playNoneRow : OpenClaim := { program := "ytjggiameajndgac", sum := "b504c0024b3336b81fccdeed102a55f4cef6445d035e0434a5348af8e1725523", func := "mirrorheal/mhlaw11.PlayNone", spec := "playNone", unfollowed := true, recurses := true, apart := false }
def PlayNoneSaid : Prop := playNoneRow.holds Try.pinned (OpenSpec.ofChange playNoneSpec)

/-- ITS FALSE NEIGHBOUR: 'it returns false'. Refute it at one input. -/
def playNoneWrong : ChangeSpec := { name := "playNone", fn := fun _ => fun
  | [d1, d2] => { results := [.lit (.bool false)], args := [d1, d2] }
  | _ => none }
def PlayNoneWrongFalsely : Prop := playNoneRow.holds Try.pinned (OpenSpec.ofChange playNoneWrong)

/-- 'mhlaw12.MayTells': WHATEVER THE INPUT: true; the input reads as it did. -/
def mayTellsSpec : ChangeSpec := { name := "mayTells", fn := fun _ => fun
  | [d1, d2, d3] => { results := [.lit (.bool true)], args := [d1, d2, d3] }
  | _ => none }
def mayTellsRow : OpenClaim := { program := "ytjggiameajndgac", sum := "b504c0024b3336b81fccdeed102a55f4cef6445d035e0434a5348af8e1725523", func := "mirrorheal/mhlaw12.MayTells", spec := "mayTells", unfollowed := true, recurses := true, apart := false }
def MayTellsSaid : Prop := mayTellsRow.holds Try.pinned (OpenSpec.ofChange mayTellsSpec)

/-- ITS FALSE NEIGHBOUR: 'it returns false'. Refute it at one input. -/
def mayTellsWrong : ChangeSpec := { name := "mayTells", fn := fun _ => fun
  | [d1, d2, d3] => { results := [.lit (.bool false)], args := [d1, d2, d3] }
  | _ => none }
def MayTellsWrongFalsely : Prop := mayTellsRow.holds Try.pinned (OpenSpec.ofChange mayTellsWrong)

/-- 'mhlaw12.MayWalk': WHATEVER THE INPUT: true; the input reads as it did. -/
def mayWalkSpec : ChangeSpec := { name := "mayWalk", fn := fun _ => fun
  | [d] => { results := [.lit (.bool true)], args := [d] }
  | _ => none }
def mayWalkRow : OpenClaim := { program := "ytjggiameajndgac", sum := "b504c0024b3336b81fccdeed102a55f4cef6445d035e0434a5348af8e1725523", func := "mirrorheal/mhlaw12.MayWalk", spec := "mayWalk", unfollowed := true, recurses := true, apart := false }
def MayWalkSaid : Prop := mayWalkRow.holds Try.pinned (OpenSpec.ofChange mayWalkSpec)

/-- ITS FALSE NEIGHBOUR: 'it returns false'. Refute it at one input. -/
def mayWalkWrong : ChangeSpec := { name := "mayWalk", fn := fun _ => fun
  | [d] => { results := [.lit (.bool false)], args := [d] }
  | _ => none }
def MayWalkWrongFalsely : Prop := mayWalkRow.holds Try.pinned (OpenSpec.ofChange mayWalkWrong)

/-- 'mhlaw12.MayFew': WHATEVER THE INPUT: true; the input reads as it did. -/
def mayFewSpec : ChangeSpec := { name := "mayFew", fn := fun _ => fun
  | [d1, d2] => { results := [.lit (.bool true)], args := [d1, d2] }
  | _ => none }
def mayFewRow : OpenClaim := { program := "ytjggiameajndgac", sum := "b504c0024b3336b81fccdeed102a55f4cef6445d035e0434a5348af8e1725523", func := "mirrorheal/mhlaw12.MayFew", spec := "mayFew", unfollowed := true, recurses := true, apart := false }
def MayFewSaid : Prop := mayFewRow.holds Try.pinned (OpenSpec.ofChange mayFewSpec)

/-- ITS FALSE NEIGHBOUR: 'it returns false'. Refute it at one input. -/
def mayFewWrong : ChangeSpec := { name := "mayFew", fn := fun _ => fun
  | [d1, d2] => { results := [.lit (.bool false)], args := [d1, d2] }
  | _ => none }
def MayFewWrongFalsely : Prop := mayFewRow.holds Try.pinned (OpenSpec.ofChange mayFewWrong)

/- THE SECOND FORM. 'bulk': how many values and letters a reading holds, each counted each time it is reached (what is shared counts as often as it is met; a slice's spare places count too). A statement '..UptoSaid' is the law's where the arguments, and the package variables that the reading takes, are together of bulk at most 1048576: NARROWER than '..Said'. Prove '..Said' where nothing that the law and all that it calls make is longer than what came in: it says more and counts as full. Else prove '..UptoSaid'. A law counts once. -/
mutual
def uptoBulk {H : Type} : DataW H → Nat
  | .lit (.string bytes) => bytes.length + 1
  | .lit _ => 1
  | .nil => 1
  | .ptr d => uptoBulk d + 1
  | .slice elems spare => uptoBulkAll elems + uptoBulkAll spare + 1
  | .agg parts => uptoBulkAll parts + 1
  | .iface _ d => uptoBulk d + 1
  | .map entries => uptoBulkEntries entries + 1
  | .held _ => 1
def uptoBulkAll {H : Type} : List (DataW H) → Nat
  | [] => 0
  | d :: r => uptoBulk d + uptoBulkAll r
def uptoBulkEntries {H : Type} : List (Lit × DataW H) → Nat
  | [] => 0
  | x :: r => uptoBulkEntry x + uptoBulkEntries r
def uptoBulkEntry {H : Type} : Lit × DataW H → Nat
  | (.string bytes, d) => bytes.length + uptoBulk d + 1
  | (_, d) => uptoBulk d + 1
 end
def uptoSmall : (H : Type) → List (DataW H) → Bool := fun _ ds => decide (uptoBulkAll ds ≤ 1048576)
def OpenSpec.upto (s : _root_.Go.ChangeSpec) : _root_.Go.OpenSpec := { _root_.Go.OpenSpec.ofChange s with cond := some uptoSmall }

/-- 'mhlaw9.MendTells', WHERE WHAT IT READS IS OF BULK AT MOST 1048576: true; the input reads as it did. -/
def mendTellsUptoRow : OpenClaim := { program := "ytjggiameajndgac", sum := "b504c0024b3336b81fccdeed102a55f4cef6445d035e0434a5348af8e1725523", func := "mirrorheal/mhlaw9.MendTells", spec := "mendTells", apart := false, narrowed := true }
def MendTellsUptoSaid : Prop := mendTellsUptoRow.holds Try.pinned (OpenSpec.upto mendTellsSpec)

/-- 'mhlaw9.MendWell', WHERE WHAT IT READS IS OF BULK AT MOST 1048576: true; the input reads as it did. -/
def mendWellUptoRow : OpenClaim := { program := "ytjggiameajndgac", sum := "b504c0024b3336b81fccdeed102a55f4cef6445d035e0434a5348af8e1725523", func := "mirrorheal/mhlaw9.MendWell", spec := "mendWell", apart := false, narrowed := true }
def MendWellUptoSaid : Prop := mendWellUptoRow.holds Try.pinned (OpenSpec.upto mendWellSpec)

/-- 'mhlaw9.MendOnly', WHERE WHAT IT READS IS OF BULK AT MOST 1048576: true; the input reads as it did. -/
def mendOnlyUptoRow : OpenClaim := { program := "ytjggiameajndgac", sum := "b504c0024b3336b81fccdeed102a55f4cef6445d035e0434a5348af8e1725523", func := "mirrorheal/mhlaw9.MendOnly", spec := "mendOnly", apart := false, narrowed := true }
def MendOnlyUptoSaid : Prop := mendOnlyUptoRow.holds Try.pinned (OpenSpec.upto mendOnlySpec)

/-- 'mhlaw10.HarmTells', WHERE WHAT IT READS IS OF BULK AT MOST 1048576: true; the input reads as it did. -/
def harmTellsUptoRow : OpenClaim := { program := "ytjggiameajndgac", sum := "b504c0024b3336b81fccdeed102a55f4cef6445d035e0434a5348af8e1725523", func := "mirrorheal/mhlaw10.HarmTells", spec := "harmTells", apart := false, narrowed := true }
def HarmTellsUptoSaid : Prop := harmTellsUptoRow.holds Try.pinned (OpenSpec.upto harmTellsSpec)

/-- 'mhlaw10.HarmBack', WHERE WHAT IT READS IS OF BULK AT MOST 1048576: true; the input reads as it did. -/
def harmBackUptoRow : OpenClaim := { program := "ytjggiameajndgac", sum := "b504c0024b3336b81fccdeed102a55f4cef6445d035e0434a5348af8e1725523", func := "mirrorheal/mhlaw10.HarmBack", spec := "harmBack", apart := false, narrowed := true }
def HarmBackUptoSaid : Prop := harmBackUptoRow.holds Try.pinned (OpenSpec.upto harmBackSpec)

/-- 'mhlaw10.HarmOne', WHERE WHAT IT READS IS OF BULK AT MOST 1048576: true; the input reads as it did. -/
def harmOneUptoRow : OpenClaim := { program := "ytjggiameajndgac", sum := "b504c0024b3336b81fccdeed102a55f4cef6445d035e0434a5348af8e1725523", func := "mirrorheal/mhlaw10.HarmOne", spec := "harmOne", apart := false, narrowed := true }
def HarmOneUptoSaid : Prop := harmOneUptoRow.holds Try.pinned (OpenSpec.upto harmOneSpec)

/-- 'mhlaw11.PlayTells', WHERE WHAT IT READS IS OF BULK AT MOST 1048576: true; the input reads as it did. -/
def playTellsUptoRow : OpenClaim := { program := "ytjggiameajndgac", sum := "b504c0024b3336b81fccdeed102a55f4cef6445d035e0434a5348af8e1725523", func := "mirrorheal/mhlaw11.PlayTells", spec := "playTells", unfollowed := true, recurses := true, apart := false, narrowed := true }
def PlayTellsUptoSaid : Prop := playTellsUptoRow.holds Try.pinned (OpenSpec.upto playTellsSpec)

/-- 'mhlaw11.PlaySafe', WHERE WHAT IT READS IS OF BULK AT MOST 1048576: true; the input reads as it did. -/
def playSafeUptoRow : OpenClaim := { program := "ytjggiameajndgac", sum := "b504c0024b3336b81fccdeed102a55f4cef6445d035e0434a5348af8e1725523", func := "mirrorheal/mhlaw11.PlaySafe", spec := "playSafe", unfollowed := true, recurses := true, apart := false, narrowed := true }
def PlaySafeUptoSaid : Prop := playSafeUptoRow.holds Try.pinned (OpenSpec.upto playSafeSpec)

/-- 'mhlaw11.PlayNone', WHERE WHAT IT READS IS OF BULK AT MOST 1048576: true; the input reads as it did. -/
def playNoneUptoRow : OpenClaim := { program := "ytjggiameajndgac", sum := "b504c0024b3336b81fccdeed102a55f4cef6445d035e0434a5348af8e1725523", func := "mirrorheal/mhlaw11.PlayNone", spec := "playNone", unfollowed := true, recurses := true, apart := false, narrowed := true }
def PlayNoneUptoSaid : Prop := playNoneUptoRow.holds Try.pinned (OpenSpec.upto playNoneSpec)

/-- 'mhlaw12.MayTells', WHERE WHAT IT READS IS OF BULK AT MOST 1048576: true; the input reads as it did. -/
def mayTellsUptoRow : OpenClaim := { program := "ytjggiameajndgac", sum := "b504c0024b3336b81fccdeed102a55f4cef6445d035e0434a5348af8e1725523", func := "mirrorheal/mhlaw12.MayTells", spec := "mayTells", unfollowed := true, recurses := true, apart := false, narrowed := true }
def MayTellsUptoSaid : Prop := mayTellsUptoRow.holds Try.pinned (OpenSpec.upto mayTellsSpec)

/-- 'mhlaw12.MayWalk', WHERE WHAT IT READS IS OF BULK AT MOST 1048576: true; the input reads as it did. -/
def mayWalkUptoRow : OpenClaim := { program := "ytjggiameajndgac", sum := "b504c0024b3336b81fccdeed102a55f4cef6445d035e0434a5348af8e1725523", func := "mirrorheal/mhlaw12.MayWalk", spec := "mayWalk", unfollowed := true, recurses := true, apart := false, narrowed := true }
def MayWalkUptoSaid : Prop := mayWalkUptoRow.holds Try.pinned (OpenSpec.upto mayWalkSpec)

/-- 'mhlaw12.MayFew', WHERE WHAT IT READS IS OF BULK AT MOST 1048576: true; the input reads as it did. -/
def mayFewUptoRow : OpenClaim := { program := "ytjggiameajndgac", sum := "b504c0024b3336b81fccdeed102a55f4cef6445d035e0434a5348af8e1725523", func := "mirrorheal/mhlaw12.MayFew", spec := "mayFew", unfollowed := true, recurses := true, apart := false, narrowed := true }
def MayFewUptoSaid : Prop := mayFewUptoRow.holds Try.pinned (OpenSpec.upto mayFewSpec)

end Rows
end Go.Proofs.Ytjggiameajndgac
