/-
  DERIVED. GIVEN WITH THE SEED: THE CARDS: each row of YtbdmljakdjdjkaaDoorRows.lean that lists a variable, with what it lists TIED to the program's text (the seventh form; the later family's looks); each row that meets fmt, with fmt's text TOLD by the authors' own Lean function (tested against real Go, not proved from fmt's source: count such statements apart). THE CARD IS WHAT COUNTS. Prove the row's statement (the work); the ties are given (YtbdmljakdjdjkaaDoorTie.lean); close each card by the builder's one call (the guide's Derived/Test/ToyasCard.lean, 'card_holds'). Laid BY PROGRAM, IN A SANDBOX (cutbox-door.mjs). By AI agents, Wed Nov 11 2026. No macro, syntax, notation, axiom, sorry.
-/
import Derived.Test.YtbdmljakdjdjkaaDoorRows
import GoSem.ClaimSeven
namespace Go.Proofs.YtbdmljakdjdjkaaDoor
namespace Rows

/-- THE TIED CARD OF 'sackbuttop.TopGrid'. -/
def topGridCard : Claim7 := { stood := { row := topGridRow, standIns := [], harness := (true, "67ff4e81334500b41a7bc0400c8875d999573e8b677ac9d63cb46f57fe9d9758"), looks := false }, kinds := [], alts := [], laidByText := true, laidKinds := [.data, .data], laidTests := true, laidLooks := .later }
def TopGridCardSaid : Prop := Claim7.holds Tryd.pinned (.plain (OpenSpec.ofChange topGridSpec)) topGridCard

/-- THE SECOND FORM's CARD OF 'sackbuttop.TopGrid'. -/
def topGridUptoCard : Claim7 := { stood := { row := topGridUptoRow, standIns := [], harness := (true, "67ff4e81334500b41a7bc0400c8875d999573e8b677ac9d63cb46f57fe9d9758"), looks := false }, kinds := [], alts := [], laidByText := true, laidKinds := [.data, .data], laidTests := true, laidLooks := .later }
def TopGridUptoCardSaid : Prop := Claim7.holds Tryd.pinned (.plain (OpenSpec.upto topGridSpec)) topGridUptoCard
end Rows
end Go.Proofs.YtbdmljakdjdjkaaDoor
