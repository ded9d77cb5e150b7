/-
  DERIVED. GIVEN WITH THE SEED: THE CARDS: each row of YtaldfaecpcnomaaDoorRows.lean that lists a variable, with what it lists TIED to the program's text (the seventh form; the later family's looks); each row that meets fmt, with fmt's text TOLD by the authors' own Lean function (tested against real Go, not proved from fmt's source: count such statements apart). THE CARD IS WHAT COUNTS. Prove the row's statement (the work); the ties are given (YtaldfaecpcnomaaDoorTie.lean); close each card by the builder's one call (the guide's Derived/Test/ToyasCard.lean, 'card_holds'). Laid BY PROGRAM, IN A SANDBOX (cutbox-door.mjs). By AI agents, Wed Nov 11 2026. No macro, syntax, notation, axiom, sorry.
-/
import Derived.Test.YtaldfaecpcnomaaDoorRows
import GoSem.ClaimSeven
namespace Go.Proofs.YtaldfaecpcnomaaDoor
namespace Rows

/-- THE TIED CARD OF 'sackbuttop.TopHalves'. -/
def topHalvesCard : Claim7 := { stood := { row := topHalvesRow, standIns := [], harness := (true, "e2babe40a4c0c064df940df1f42f17e2cdea78214c5ab6d07e0d9901c2ada85e"), looks := false }, kinds := [], alts := [], laidByText := true, laidKinds := [.data, .data], laidTests := true, laidLooks := .later }
def TopHalvesCardSaid : Prop := Claim7.holds Tryd.pinned (.plain (OpenSpec.ofChange topHalvesSpec)) topHalvesCard

/-- THE SECOND FORM's CARD OF 'sackbuttop.TopHalves'. -/
def topHalvesUptoCard : Claim7 := { stood := { row := topHalvesUptoRow, standIns := [], harness := (true, "e2babe40a4c0c064df940df1f42f17e2cdea78214c5ab6d07e0d9901c2ada85e"), looks := false }, kinds := [], alts := [], laidByText := true, laidKinds := [.data, .data], laidTests := true, laidLooks := .later }
def TopHalvesUptoCardSaid : Prop := Claim7.holds Tryd.pinned (.plain (OpenSpec.upto topHalvesSpec)) topHalvesUptoCard
end Rows
end Go.Proofs.YtaldfaecpcnomaaDoor
