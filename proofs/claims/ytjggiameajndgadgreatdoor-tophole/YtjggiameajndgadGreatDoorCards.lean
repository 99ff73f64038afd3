/-
  DERIVED. GIVEN WITH THE SEED: THE CARDS: each row of YtjggiameajndgadGreatDoorRows.lean that lists a variable, with what it lists TIED to the program's text (the seventh form; the later family's looks); each row that meets fmt, with fmt's text TOLD by the authors' own Lean function (tested against real Go, not proved from fmt's source: count such statements apart). THE CARD IS WHAT COUNTS. Prove the row's statement (the work); the ties are given (YtjggiameajndgadGreatDoorTie.lean); close each card by the builder's one call (the guide's Derived/Test/ToyasCard.lean, 'card_holds'). Laid BY PROGRAM, IN A SANDBOX (cutbox-door.mjs). By AI agents, Wed Nov 11 2026. No macro, syntax, notation, axiom, sorry.
-/
import Derived.Test.YtjggiameajndgadGreatDoorRows
import GoSem.ClaimSeven
namespace Go.Proofs.YtjggiameajndgadGreatDoor
namespace Rows

/-- THE TIED CARD OF 'mhtop.TopDisks'. -/
def topDisksCard : Claim7 := { stood := { row := topDisksRow, standIns := [], harness := (true, "64627c8404313b230b12334f534340e58aeb857ba69fc77f6b40cc5cc6dc7f4a"), looks := true }, kinds := [], alts := [], laidByText := true, laidKinds := [.data, .data, .data, .data, .sentinel, .sentinel, .pinned], laidTests := true, laidLooks := .later }
def TopDisksCardSaid : Prop := Claim7.holds Tryz.pinned (.plain (OpenSpec.ofChange topDisksSpec)) topDisksCard

/-- THE TIED CARD OF 'mhtop.TopRot'. -/
def topRotCard : Claim7 := { stood := { row := topRotRow, standIns := [], harness := (true, "64627c8404313b230b12334f534340e58aeb857ba69fc77f6b40cc5cc6dc7f4a"), looks := true }, kinds := [], alts := [], laidByText := true, laidKinds := [.data, .data, .data, .data, .sentinel, .sentinel, .pinned], laidTests := true, laidLooks := .later }
def TopRotCardSaid : Prop := Claim7.holds Tryz.pinned (.plain (OpenSpec.ofChange topRotSpec)) topRotCard

/-- THE TIED CARD OF 'mhtop.TopHole'. -/
def topHoleCard : Claim7 := { stood := { row := topHoleRow, standIns := [], harness := (true, "64627c8404313b230b12334f534340e58aeb857ba69fc77f6b40cc5cc6dc7f4a"), looks := true }, kinds := [], alts := [], laidByText := true, laidKinds := [.data, .data, .data, .data, .sentinel, .sentinel, .pinned], laidTests := true, laidLooks := .later }
def TopHoleCardSaid : Prop := Claim7.holds Tryz.pinned (.plain (OpenSpec.ofChange topHoleSpec)) topHoleCard

/-- THE TIED CARD OF 'mhtop.TopTwo'. -/
def topTwoCard : Claim7 := { stood := { row := topTwoRow, standIns := [], harness := (true, "64627c8404313b230b12334f534340e58aeb857ba69fc77f6b40cc5cc6dc7f4a"), looks := true }, kinds := [], alts := [], laidByText := true, laidKinds := [.data, .data, .data, .data, .sentinel, .sentinel, .pinned], laidTests := true, laidLooks := .later }
def TopTwoCardSaid : Prop := Claim7.holds Tryz.pinned (.plain (OpenSpec.ofChange topTwoSpec)) topTwoCard

/-- THE SECOND FORM's CARD OF 'mhtop.TopDisks'. -/
def topDisksUptoCard : Claim7 := { stood := { row := topDisksUptoRow, standIns := [], harness := (true, "64627c8404313b230b12334f534340e58aeb857ba69fc77f6b40cc5cc6dc7f4a"), looks := true }, kinds := [], alts := [], laidByText := true, laidKinds := [.data, .data, .data, .data, .sentinel, .sentinel, .pinned], laidTests := true, laidLooks := .later }
def TopDisksUptoCardSaid : Prop := Claim7.holds Tryz.pinned (.plain (OpenSpec.upto topDisksSpec)) topDisksUptoCard

/-- THE SECOND FORM's CARD OF 'mhtop.TopRot'. -/
def topRotUptoCard : Claim7 := { stood := { row := topRotUptoRow, standIns := [], harness := (true, "64627c8404313b230b12334f534340e58aeb857ba69fc77f6b40cc5cc6dc7f4a"), looks := true }, kinds := [], alts := [], laidByText := true, laidKinds := [.data, .data, .data, .data, .sentinel, .sentinel, .pinned], laidTests := true, laidLooks := .later }
def TopRotUptoCardSaid : Prop := Claim7.holds Tryz.pinned (.plain (OpenSpec.upto topRotSpec)) topRotUptoCard

/-- THE SECOND FORM's CARD OF 'mhtop.TopHole'. -/
def topHoleUptoCard : Claim7 := { stood := { row := topHoleUptoRow, standIns := [], harness := (true, "64627c8404313b230b12334f534340e58aeb857ba69fc77f6b40cc5cc6dc7f4a"), looks := true }, kinds := [], alts := [], laidByText := true, laidKinds := [.data, .data, .data, .data, .sentinel, .sentinel, .pinned], laidTests := true, laidLooks := .later }
def TopHoleUptoCardSaid : Prop := Claim7.holds Tryz.pinned (.plain (OpenSpec.upto topHoleSpec)) topHoleUptoCard

/-- THE SECOND FORM's CARD OF 'mhtop.TopTwo'. -/
def topTwoUptoCard : Claim7 := { stood := { row := topTwoUptoRow, standIns := [], harness := (true, "64627c8404313b230b12334f534340e58aeb857ba69fc77f6b40cc5cc6dc7f4a"), looks := true }, kinds := [], alts := [], laidByText := true, laidKinds := [.data, .data, .data, .data, .sentinel, .sentinel, .pinned], laidTests := true, laidLooks := .later }
def TopTwoUptoCardSaid : Prop := Claim7.holds Tryz.pinned (.plain (OpenSpec.upto topTwoSpec)) topTwoUptoCard
end Rows
end Go.Proofs.YtjggiameajndgadGreatDoor
