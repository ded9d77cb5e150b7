/-
  DERIVED. GIVEN WITH THE SEED: THE CARDS: each row of YtlmfmfbnbbooaabDoorRows.lean that lists a variable, with what it lists TIED to the program's text (the seventh form; the later family's looks); each row that meets fmt, with fmt's text TOLD by the authors' own Lean function (tested against real Go, not proved from fmt's source: count such statements apart). THE CARD IS WHAT COUNTS. Prove the row's statement (the work); the ties are given (YtlmfmfbnbbooaabDoorTie.lean); close each card by the builder's one call (the guide's Derived/Test/ToyasCard.lean, 'card_holds'). Laid BY PROGRAM, IN A SANDBOX (cutbox-door.mjs). By AI agents, Wed Nov 11 2026. No macro, syntax, notation, axiom, sorry.
-/
import Derived.Test.YtlmfmfbnbbooaabDoorRows
import GoSem.ClaimSeven
namespace Go.Proofs.YtlmfmfbnbbooaabDoor
namespace Rows

/-- THE TIED CARD OF 'sackbuttop.TopProduct'. -/
def topProductCard : Claim7 := { stood := { row := topProductRow, standIns := [], harness := (true, "b90d86326fb7ea8eeb26fa2b1425c01267fe005b6428de5692f266c8a0ce1a99"), looks := false }, kinds := [], alts := [], laidByText := true, laidKinds := [.data, .data], laidTests := true, laidLooks := .later }
def TopProductCardSaid : Prop := Claim7.holds Tryd.pinned (.plain (OpenSpec.ofChange topProductSpec)) topProductCard

/-- THE TIED CARD OF 'sackbuttop.TopGrid'. -/
def topGridCard : Claim7 := { stood := { row := topGridRow, standIns := [], harness := (true, "b90d86326fb7ea8eeb26fa2b1425c01267fe005b6428de5692f266c8a0ce1a99"), looks := false }, kinds := [], alts := [], laidByText := true, laidKinds := [.data, .data], laidTests := true, laidLooks := .later }
def TopGridCardSaid : Prop := Claim7.holds Tryd.pinned (.plain (OpenSpec.ofChange topGridSpec)) topGridCard

/-- THE TIED CARD OF 'sackbuttop.TopImages'. -/
def topImagesCard : Claim7 := { stood := { row := topImagesRow, standIns := [], harness := (true, "b90d86326fb7ea8eeb26fa2b1425c01267fe005b6428de5692f266c8a0ce1a99"), looks := false }, kinds := [], alts := [], laidByText := true, laidKinds := [.data, .data], laidTests := true, laidLooks := .later }
def TopImagesCardSaid : Prop := Claim7.holds Tryd.pinned (.plain (OpenSpec.ofChange topImagesSpec)) topImagesCard

/-- THE SECOND FORM's CARD OF 'sackbuttop.TopProduct'. -/
def topProductUptoCard : Claim7 := { stood := { row := topProductUptoRow, standIns := [], harness := (true, "b90d86326fb7ea8eeb26fa2b1425c01267fe005b6428de5692f266c8a0ce1a99"), looks := false }, kinds := [], alts := [], laidByText := true, laidKinds := [.data, .data], laidTests := true, laidLooks := .later }
def TopProductUptoCardSaid : Prop := Claim7.holds Tryd.pinned (.plain (OpenSpec.upto topProductSpec)) topProductUptoCard

/-- THE SECOND FORM's CARD OF 'sackbuttop.TopGrid'. -/
def topGridUptoCard : Claim7 := { stood := { row := topGridUptoRow, standIns := [], harness := (true, "b90d86326fb7ea8eeb26fa2b1425c01267fe005b6428de5692f266c8a0ce1a99"), looks := false }, kinds := [], alts := [], laidByText := true, laidKinds := [.data, .data], laidTests := true, laidLooks := .later }
def TopGridUptoCardSaid : Prop := Claim7.holds Tryd.pinned (.plain (OpenSpec.upto topGridSpec)) topGridUptoCard

/-- THE SECOND FORM's CARD OF 'sackbuttop.TopImages'. -/
def topImagesUptoCard : Claim7 := { stood := { row := topImagesUptoRow, standIns := [], harness := (true, "b90d86326fb7ea8eeb26fa2b1425c01267fe005b6428de5692f266c8a0ce1a99"), looks := false }, kinds := [], alts := [], laidByText := true, laidKinds := [.data, .data], laidTests := true, laidLooks := .later }
def TopImagesUptoCardSaid : Prop := Claim7.holds Tryd.pinned (.plain (OpenSpec.upto topImagesSpec)) topImagesUptoCard
end Rows
end Go.Proofs.YtlmfmfbnbbooaabDoor
