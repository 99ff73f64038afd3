/-
  No cell of these rows narrows 'for every input' (looked for: loops, veiled, ifaces, maps, wideKeys, modest, calm, conditions, laid).
  DERIVED. THE GIVEN ROWS OF THIS SEAT. 10 by the template 'for every input the law returns true; each argument reads behind the call as it read before'; 0 by the template 'total and deterministic' (their statements: YtjggiameajndgabTotals.lean).
  GIVEN WITH THE SEED: the statements are not yours to turn. If you find one false, say at which input.
  Laid BY PROGRAM, IN A SANDBOX (cutbox-rows.mjs): the forced cells as the released guide's own fill.sh prints them over the translation d6ffd0cc21c53198… (all of the seat's roots in one cut). By AI agents, Wed Nov 11 2026. No macro, syntax, notation, axiom, sorry.
-/
import Derived.Test.YtjggiameajndgabChecked
import GoSem.Claim
import GoSem.ClaimJoined
import GoSem.ClaimMapViews
import Derived.JoinedTies
import Derived.KernelRfl
namespace Go.Proofs.Ytjggiameajndgab
/- THE CELL 'sum', in the pinned program and in every row, IS THE sha256 OF THE DUMP (.gsa) THAT YtjggiameajndgabProg.lean LOADS. Nothing in Lean hashes anything: it is a label: what it is worth is what the hold of that sum in a sandbox is worth. -/
noncomputable def Try.pinned : Pinned := { name := "ytjggiameajndgab", sum := "d6ffd0cc21c531981fff8d38c3044c625c2a77c1b5ef5801b668d1424b7f7022", checked := Try.checked }
namespace Rows
def none {H : Type} : Left H := { results := [], args := [] }

/-- 'mhlaw5.ModelApart': WHATEVER THE INPUT: true; the input reads as it did. -/
def modelApartSpec : ChangeSpec := { name := "modelApart", fn := fun _ => fun
  | [d1, d2, d3] => { results := [.lit (.bool true)], args := [d1, d2, d3] }
  | _ => none }
def modelApartRow : OpenClaim := { program := "ytjggiameajndgab", sum := "d6ffd0cc21c531981fff8d38c3044c625c2a77c1b5ef5801b668d1424b7f7022", func := "mirrorheal/mhlaw5.ModelApart", spec := "modelApart", unfollowed := true, recurses := true, apart := false }
def ModelApartSaid : Prop := modelApartRow.holds Try.pinned (OpenSpec.ofChange modelApartSpec)

/-- ITS FALSE NEIGHBOUR: 'it returns false'. Refute it at one input. -/
def modelApartWrong : ChangeSpec := { name := "modelApart", fn := fun _ => fun
  | [d1, d2, d3] => { results := [.lit (.bool false)], args := [d1, d2, d3] }
  | _ => none }
def ModelApartWrongFalsely : Prop := modelApartRow.holds Try.pinned (OpenSpec.ofChange modelApartWrong)

/-- 'mhlaw5.ModelSwap': WHATEVER THE INPUT: true; the input reads as it did. -/
def modelSwapSpec : ChangeSpec := { name := "modelSwap", fn := fun _ => fun
  | [d1, d2] => { results := [.lit (.bool true)], args := [d1, d2] }
  | _ => none }
def modelSwapRow : OpenClaim := { program := "ytjggiameajndgab", sum := "d6ffd0cc21c531981fff8d38c3044c625c2a77c1b5ef5801b668d1424b7f7022", func := "mirrorheal/mhlaw5.ModelSwap", spec := "modelSwap", unfollowed := true, recurses := true, apart := false }
def ModelSwapSaid : Prop := modelSwapRow.holds Try.pinned (OpenSpec.ofChange modelSwapSpec)

/-- ITS FALSE NEIGHBOUR: 'it returns false'. Refute it at one input. -/
def modelSwapWrong : ChangeSpec := { name := "modelSwap", fn := fun _ => fun
  | [d1, d2] => { results := [.lit (.bool false)], args := [d1, d2] }
  | _ => none }
def ModelSwapWrongFalsely : Prop := modelSwapRow.holds Try.pinned (OpenSpec.ofChange modelSwapWrong)

/-- 'mhlaw7.StripeTells': WHATEVER THE INPUT: true; the input reads as it did. -/
def stripeTellsSpec : ChangeSpec := { name := "stripeTells", fn := fun _ => fun
  | [d1, d2, d3, d4] => { results := [.lit (.bool true)], args := [d1, d2, d3, d4] }
  | _ => none }
def stripeTellsRow : OpenClaim := { program := "ytjggiameajndgab", sum := "d6ffd0cc21c531981fff8d38c3044c625c2a77c1b5ef5801b668d1424b7f7022", func := "mirrorheal/mhlaw7.StripeTells", spec := "stripeTells", apart := false }
def StripeTellsSaid : Prop := stripeTellsRow.holds Try.pinned (OpenSpec.ofChange stripeTellsSpec)

/-- ITS FALSE NEIGHBOUR: 'it returns false'. Refute it at one input. -/
def stripeTellsWrong : ChangeSpec := { name := "stripeTells", fn := fun _ => fun
  | [d1, d2, d3, d4] => { results := [.lit (.bool false)], args := [d1, d2, d3, d4] }
  | _ => none }
def StripeTellsWrongFalsely : Prop := stripeTellsRow.holds Try.pinned (OpenSpec.ofChange stripeTellsWrong)

/-- 'mhlaw7.StripeTwo': WHATEVER THE INPUT: true; the input reads as it did. -/
def stripeTwoSpec : ChangeSpec := { name := "stripeTwo", fn := fun _ => fun
  | [d1, d2, d3, d4] => { results := [.lit (.bool true)], args := [d1, d2, d3, d4] }
  | _ => none }
def stripeTwoRow : OpenClaim := { program := "ytjggiameajndgab", sum := "d6ffd0cc21c531981fff8d38c3044c625c2a77c1b5ef5801b668d1424b7f7022", func := "mirrorheal/mhlaw7.StripeTwo", spec := "stripeTwo", apart := false }
def StripeTwoSaid : Prop := stripeTwoRow.holds Try.pinned (OpenSpec.ofChange stripeTwoSpec)

/-- ITS FALSE NEIGHBOUR: 'it returns false'. Refute it at one input. -/
def stripeTwoWrong : ChangeSpec := { name := "stripeTwo", fn := fun _ => fun
  | [d1, d2, d3, d4] => { results := [.lit (.bool false)], args := [d1, d2, d3, d4] }
  | _ => none }
def StripeTwoWrongFalsely : Prop := stripeTwoRow.holds Try.pinned (OpenSpec.ofChange stripeTwoWrong)

/-- 'mhlaw7.StripeOne': WHATEVER THE INPUT: true; the input reads as it did. -/
def stripeOneSpec : ChangeSpec := { name := "stripeOne", fn := fun _ => fun
  | [d1, d2, d3] => { results := [.lit (.bool true)], args := [d1, d2, d3] }
  | _ => none }
def stripeOneRow : OpenClaim := { program := "ytjggiameajndgab", sum := "d6ffd0cc21c531981fff8d38c3044c625c2a77c1b5ef5801b668d1424b7f7022", func := "mirrorheal/mhlaw7.StripeOne", spec := "stripeOne", apart := false }
def StripeOneSaid : Prop := stripeOneRow.holds Try.pinned (OpenSpec.ofChange stripeOneSpec)

/-- ITS FALSE NEIGHBOUR: 'it returns false'. Refute it at one input. -/
def stripeOneWrong : ChangeSpec := { name := "stripeOne", fn := fun _ => fun
  | [d1, d2, d3] => { results := [.lit (.bool false)], args := [d1, d2, d3] }
  | _ => none }
def StripeOneWrongFalsely : Prop := stripeOneRow.holds Try.pinned (OpenSpec.ofChange stripeOneWrong)

/-- 'mhlaw8.ArrayTells': WHATEVER THE INPUT: true; the input reads as it did. -/
def arrayTellsSpec : ChangeSpec := { name := "arrayTells", fn := fun _ => fun
  | [d1, d2, d3, d4] => { results := [.lit (.bool true)], args := [d1, d2, d3, d4] }
  | _ => none }
def arrayTellsRow : OpenClaim := { program := "ytjggiameajndgab", sum := "d6ffd0cc21c531981fff8d38c3044c625c2a77c1b5ef5801b668d1424b7f7022", func := "mirrorheal/mhlaw8.ArrayTells", spec := "arrayTells", unfollowed := true, recurses := true, apart := false }
def ArrayTellsSaid : Prop := arrayTellsRow.holds Try.pinned (OpenSpec.ofChange arrayTellsSpec)

/-- ITS FALSE NEIGHBOUR: 'it returns false'. Refute it at one input. -/
def arrayTellsWrong : ChangeSpec := { name := "arrayTells", fn := fun _ => fun
  | [d1, d2, d3, d4] => { results := [.lit (.bool false)], args := [d1, d2, d3, d4] }
  | _ => none }
def ArrayTellsWrongFalsely : Prop := arrayTellsRow.holds Try.pinned (OpenSpec.ofChange arrayTellsWrong)

/-- 'mhlaw8.ArrayModel': WHATEVER THE INPUT: true; the input reads as it did. -/
def arrayModelSpec : ChangeSpec := { name := "arrayModel", fn := fun _ => fun
  | [d1, d2] => { results := [.lit (.bool true)], args := [d1, d2] }
  | _ => none }
def arrayModelRow : OpenClaim := { program := "ytjggiameajndgab", sum := "d6ffd0cc21c531981fff8d38c3044c625c2a77c1b5ef5801b668d1424b7f7022", func := "mirrorheal/mhlaw8.ArrayModel", spec := "arrayModel", unfollowed := true, recurses := true, apart := false }
def ArrayModelSaid : Prop := arrayModelRow.holds Try.pinned (OpenSpec.ofChange arrayModelSpec)

/-- ITS FALSE NEIGHBOUR: 'it returns false'. Refute it at one input. -/
def arrayModelWrong : ChangeSpec := { name := "arrayModel", fn := fun _ => fun
  | [d1, d2] => { results := [.lit (.bool false)], args := [d1, d2] }
  | _ => none }
def ArrayModelWrongFalsely : Prop := arrayModelRow.holds Try.pinned (OpenSpec.ofChange arrayModelWrong)

/-- 'mhlaw8.ArrayStripe': WHATEVER THE INPUT: true; the input reads as it did. -/
def arrayStripeSpec : ChangeSpec := { name := "arrayStripe", fn := fun _ => fun
  | [d1, d2] => { results := [.lit (.bool true)], args := [d1, d2] }
  | _ => none }
def arrayStripeRow : OpenClaim := { program := "ytjggiameajndgab", sum := "d6ffd0cc21c531981fff8d38c3044c625c2a77c1b5ef5801b668d1424b7f7022", func := "mirrorheal/mhlaw8.ArrayStripe", spec := "arrayStripe", unfollowed := true, recurses := true, apart := false }
def ArrayStripeSaid : Prop := arrayStripeRow.holds Try.pinned (OpenSpec.ofChange arrayStripeSpec)

/-- ITS FALSE NEIGHBOUR: 'it returns false'. Refute it at one input. -/
def arrayStripeWrong : ChangeSpec := { name := "arrayStripe", fn := fun _ => fun
  | [d1, d2] => { results := [.lit (.bool false)], args := [d1, d2] }
  | _ => none }
def ArrayStripeWrongFalsely : Prop := arrayStripeRow.holds Try.pinned (OpenSpec.ofChange arrayStripeWrong)

/-- 'mhlaw8.ArrayRead': WHATEVER THE INPUT: true; the input reads as it did. -/
def arrayReadSpec : ChangeSpec := { name := "arrayRead", fn := fun _ => fun
  | [d1, d2] => { results := [.lit (.bool true)], args := [d1, d2] }
  | _ => none }
def arrayReadRow : OpenClaim := { program := "ytjggiameajndgab", sum := "d6ffd0cc21c531981fff8d38c3044c625c2a77c1b5ef5801b668d1424b7f7022", func := "mirrorheal/mhlaw8.ArrayRead", spec := "arrayRead", unfollowed := true, recurses := true, apart := false }
def ArrayReadSaid : Prop := arrayReadRow.holds Try.pinned (OpenSpec.ofChange arrayReadSpec)

/-- ITS FALSE NEIGHBOUR: 'it returns false'. Refute it at one input. -/
def arrayReadWrong : ChangeSpec := { name := "arrayRead", fn := fun _ => fun
  | [d1, d2] => { results := [.lit (.bool false)], args := [d1, d2] }
  | _ => none }
def ArrayReadWrongFalsely : Prop := arrayReadRow.holds Try.pinned (OpenSpec.ofChange arrayReadWrong)

/-- 'mhlaw8.ArrayHalf': WHATEVER THE INPUT: true; the input reads as it did. -/
def arrayHalfSpec : ChangeSpec := { name := "arrayHalf", fn := fun _ => fun
  | [d1, d2, d3] => { results := [.lit (.bool true)], args := [d1, d2, d3] }
  | _ => none }
def arrayHalfRow : OpenClaim := { program := "ytjggiameajndgab", sum := "d6ffd0cc21c531981fff8d38c3044c625c2a77c1b5ef5801b668d1424b7f7022", func := "mirrorheal/mhlaw8.ArrayHalf", spec := "arrayHalf", unfollowed := true, recurses := true, apart := false }
def ArrayHalfSaid : Prop := arrayHalfRow.holds Try.pinned (OpenSpec.ofChange arrayHalfSpec)

/-- ITS FALSE NEIGHBOUR: 'it returns false'. Refute it at one input. -/
def arrayHalfWrong : ChangeSpec := { name := "arrayHalf", fn := fun _ => fun
  | [d1, d2, d3] => { results := [.lit (.bool false)], args := [d1, d2, d3] }
  | _ => none }
def ArrayHalfWrongFalsely : Prop := arrayHalfRow.holds Try.pinned (OpenSpec.ofChange arrayHalfWrong)

/- THE SECOND FORM. 'bulk': how many values and letters a reading holds, each counted each time it is reached (what is shared counts as often as it is met; a slice's spare places count too). A statement '..UptoSaid' is the law's where the arguments, and the package variables that the reading takes, are together of bulk at most 1048576: NARROWER than '..Said'. Prove '..Said' where nothing that the law and all that it calls make is longer than what came in: it says more and counts as full. Else prove '..UptoSaid'. A law counts once. -/
mutual
def uptoBulk {H : Type} : DataW H → Nat
  | .lit (.string bytes) => bytes.length + 1
  | .lit _ => 1
  | .nil => 1
  | .ptr d => uptoBulk d + 1
  | .slice elems spare => uptoBulkAll elems + uptoBulkAll spare + 1
  | .agg parts => uptoBulkAll parts + 1
  | .iface _ d => uptoBulk d + 1
  | .map entries => uptoBulkEntries entries + 1
  | .held _ => 1
def uptoBulkAll {H : Type} : List (DataW H) → Nat
  | [] => 0
  | d :: r => uptoBulk d + uptoBulkAll r
def uptoBulkEntries {H : Type} : List (Lit × DataW H) → Nat
  | [] => 0
  | x :: r => uptoBulkEntry x + uptoBulkEntries r
def uptoBulkEntry {H : Type} : Lit × DataW H → Nat
  | (.string bytes, d) => bytes.length + uptoBulk d + 1
  | (_, d) => uptoBulk d + 1
 end
def uptoSmall : (H : Type) → List (DataW H) → Bool := fun _ ds => decide (uptoBulkAll ds ≤ 1048576)
def OpenSpec.upto (s : _root_.Go.ChangeSpec) : _root_.Go.OpenSpec := { _root_.Go.OpenSpec.ofChange s with cond := some uptoSmall }

/-- 'mhlaw5.ModelApart', WHERE WHAT IT READS IS OF BULK AT MOST 1048576: true; the input reads as it did. -/
def modelApartUptoRow : OpenClaim := { program := "ytjggiameajndgab", sum := "d6ffd0cc21c531981fff8d38c3044c625c2a77c1b5ef5801b668d1424b7f7022", func := "mirrorheal/mhlaw5.ModelApart", spec := "modelApart", unfollowed := true, recurses := true, apart := false, narrowed := true }
def ModelApartUptoSaid : Prop := modelApartUptoRow.holds Try.pinned (OpenSpec.upto modelApartSpec)

/-- 'mhlaw5.ModelSwap', WHERE WHAT IT READS IS OF BULK AT MOST 1048576: true; the input reads as it did. -/
def modelSwapUptoRow : OpenClaim := { program := "ytjggiameajndgab", sum := "d6ffd0cc21c531981fff8d38c3044c625c2a77c1b5ef5801b668d1424b7f7022", func := "mirrorheal/mhlaw5.ModelSwap", spec := "modelSwap", unfollowed := true, recurses := true, apart := false, narrowed := true }
def ModelSwapUptoSaid : Prop := modelSwapUptoRow.holds Try.pinned (OpenSpec.upto modelSwapSpec)

/-- 'mhlaw7.StripeTells', WHERE WHAT IT READS IS OF BULK AT MOST 1048576: true; the input reads as it did. -/
def stripeTellsUptoRow : OpenClaim := { program := "ytjggiameajndgab", sum := "d6ffd0cc21c531981fff8d38c3044c625c2a77c1b5ef5801b668d1424b7f7022", func := "mirrorheal/mhlaw7.StripeTells", spec := "stripeTells", apart := false, narrowed := true }
def StripeTellsUptoSaid : Prop := stripeTellsUptoRow.holds Try.pinned (OpenSpec.upto stripeTellsSpec)

/-- 'mhlaw7.StripeTwo', WHERE WHAT IT READS IS OF BULK AT MOST 1048576: true; the input reads as it did. -/
def stripeTwoUptoRow : OpenClaim := { program := "ytjggiameajndgab", sum := "d6ffd0cc21c531981fff8d38c3044c625c2a77c1b5ef5801b668d1424b7f7022", func := "mirrorheal/mhlaw7.StripeTwo", spec := "stripeTwo", apart := false, narrowed := true }
def StripeTwoUptoSaid : Prop := stripeTwoUptoRow.holds Try.pinned (OpenSpec.upto stripeTwoSpec)

/-- 'mhlaw7.StripeOne', WHERE WHAT IT READS IS OF BULK AT MOST 1048576: true; the input reads as it did. -/
def stripeOneUptoRow : OpenClaim := { program := "ytjggiameajndgab", sum := "d6ffd0cc21c531981fff8d38c3044c625c2a77c1b5ef5801b668d1424b7f7022", func := "mirrorheal/mhlaw7.StripeOne", spec := "stripeOne", apart := false, narrowed := true }
def StripeOneUptoSaid : Prop := stripeOneUptoRow.holds Try.pinned (OpenSpec.upto stripeOneSpec)

/-- 'mhlaw8.ArrayTells', WHERE WHAT IT READS IS OF BULK AT MOST 1048576: true; the input reads as it did. -/
def arrayTellsUptoRow : OpenClaim := { program := "ytjggiameajndgab", sum := "d6ffd0cc21c531981fff8d38c3044c625c2a77c1b5ef5801b668d1424b7f7022", func := "mirrorheal/mhlaw8.ArrayTells", spec := "arrayTells", unfollowed := true, recurses := true, apart := false, narrowed := true }
def ArrayTellsUptoSaid : Prop := arrayTellsUptoRow.holds Try.pinned (OpenSpec.upto arrayTellsSpec)

/-- 'mhlaw8.ArrayModel', WHERE WHAT IT READS IS OF BULK AT MOST 1048576: true; the input reads as it did. -/
def arrayModelUptoRow : OpenClaim := { program := "ytjggiameajndgab", sum := "d6ffd0cc21c531981fff8d38c3044c625c2a77c1b5ef5801b668d1424b7f7022", func := "mirrorheal/mhlaw8.ArrayModel", spec := "arrayModel", unfollowed := true, recurses := true, apart := false, narrowed := true }
def ArrayModelUptoSaid : Prop := arrayModelUptoRow.holds Try.pinned (OpenSpec.upto arrayModelSpec)

/-- 'mhlaw8.ArrayStripe', WHERE WHAT IT READS IS OF BULK AT MOST 1048576: true; the input reads as it did. -/
def arrayStripeUptoRow : OpenClaim := { program := "ytjggiameajndgab", sum := "d6ffd0cc21c531981fff8d38c3044c625c2a77c1b5ef5801b668d1424b7f7022", func := "mirrorheal/mhlaw8.ArrayStripe", spec := "arrayStripe", unfollowed := true, recurses := true, apart := false, narrowed := true }
def ArrayStripeUptoSaid : Prop := arrayStripeUptoRow.holds Try.pinned (OpenSpec.upto arrayStripeSpec)

/-- 'mhlaw8.ArrayRead', WHERE WHAT IT READS IS OF BULK AT MOST 1048576: true; the input reads as it did. -/
def arrayReadUptoRow : OpenClaim := { program := "ytjggiameajndgab", sum := "d6ffd0cc21c531981fff8d38c3044c625c2a77c1b5ef5801b668d1424b7f7022", func := "mirrorheal/mhlaw8.ArrayRead", spec := "arrayRead", unfollowed := true, recurses := true, apart := false, narrowed := true }
def ArrayReadUptoSaid : Prop := arrayReadUptoRow.holds Try.pinned (OpenSpec.upto arrayReadSpec)

/-- 'mhlaw8.ArrayHalf', WHERE WHAT IT READS IS OF BULK AT MOST 1048576: true; the input reads as it did. -/
def arrayHalfUptoRow : OpenClaim := { program := "ytjggiameajndgab", sum := "d6ffd0cc21c531981fff8d38c3044c625c2a77c1b5ef5801b668d1424b7f7022", func := "mirrorheal/mhlaw8.ArrayHalf", spec := "arrayHalf", unfollowed := true, recurses := true, apart := false, narrowed := true }
def ArrayHalfUptoSaid : Prop := arrayHalfUptoRow.holds Try.pinned (OpenSpec.upto arrayHalfSpec)

end Rows
end Go.Proofs.Ytjggiameajndgab
