/-
  DERIVED. GIVEN WITH THE SEED: THE CARDS: each row of YtehjdhegnpmfaabDoorRows.lean that lists a variable, with what it lists TIED to the program's text (the seventh form; the later family's looks); each row that meets fmt, with fmt's text TOLD by the authors' own Lean function (tested against real Go, not proved from fmt's source: count such statements apart). THE CARD IS WHAT COUNTS. Prove the row's statement (the work); the ties are given (YtehjdhegnpmfaabDoorTie.lean); close each card by the builder's one call (the guide's Derived/Test/ToyasCard.lean, 'card_holds'). Laid BY PROGRAM, IN A SANDBOX (cutbox-door.mjs). By AI agents, Wed Nov 11 2026. No macro, syntax, notation, axiom, sorry.
-/
import Derived.Test.YtehjdhegnpmfaabDoorRows
import GoSem.ClaimSeven
namespace Go.Proofs.YtehjdhegnpmfaabDoor
namespace Rows

/-- THE TIED CARD OF 'sackbutlaw02.CanonTiles'. -/
def canonTilesCard : Claim7 := { stood := { row := canonTilesRow, standIns := [], harness := (true, "7cf688ab3499117a0a973708770d03efbb679c9f8c854dc534a9d2db510c41a2"), looks := false }, kinds := [], alts := [], laidByText := true, laidKinds := [.data, .data], laidTests := true, laidLooks := .later }
def CanonTilesCardSaid : Prop := Claim7.holds Tryd.pinned (.plain (OpenSpec.ofChange canonTilesSpec)) canonTilesCard

/-- THE TIED CARD OF 'sackbutlaw02.CanonPartners'. -/
def canonPartnersCard : Claim7 := { stood := { row := canonPartnersRow, standIns := [], harness := (true, "7cf688ab3499117a0a973708770d03efbb679c9f8c854dc534a9d2db510c41a2"), looks := false }, kinds := [], alts := [], laidByText := true, laidKinds := [.data, .data], laidTests := true, laidLooks := .later }
def CanonPartnersCardSaid : Prop := Claim7.holds Tryd.pinned (.plain (OpenSpec.ofChange canonPartnersSpec)) canonPartnersCard

/-- THE TIED CARD OF 'sackbutlaw02.CanonPeriods'. -/
def canonPeriodsCard : Claim7 := { stood := { row := canonPeriodsRow, standIns := [], harness := (true, "7cf688ab3499117a0a973708770d03efbb679c9f8c854dc534a9d2db510c41a2"), looks := false }, kinds := [], alts := [], laidByText := true, laidKinds := [.data, .data], laidTests := true, laidLooks := .later }
def CanonPeriodsCardSaid : Prop := Claim7.holds Tryd.pinned (.plain (OpenSpec.ofChange canonPeriodsSpec)) canonPeriodsCard

/-- THE TIED CARD OF 'sackbutlaw02.CanonRoots'. -/
def canonRootsCard : Claim7 := { stood := { row := canonRootsRow, standIns := [], harness := (true, "7cf688ab3499117a0a973708770d03efbb679c9f8c854dc534a9d2db510c41a2"), looks := false }, kinds := [], alts := [], laidByText := true, laidKinds := [.data, .data], laidTests := true, laidLooks := .later }
def CanonRootsCardSaid : Prop := Claim7.holds Tryd.pinned (.plain (OpenSpec.ofChange canonRootsSpec)) canonRootsCard

/-- THE TIED CARD OF 'sackbutlaw02.CanonLists'. -/
def canonListsCard : Claim7 := { stood := { row := canonListsRow, standIns := [], harness := (true, "7cf688ab3499117a0a973708770d03efbb679c9f8c854dc534a9d2db510c41a2"), looks := false }, kinds := [], alts := [], laidByText := true, laidKinds := [.data, .data], laidTests := true, laidLooks := .later }
def CanonListsCardSaid : Prop := Claim7.holds Tryd.pinned (.plain (OpenSpec.ofChange canonListsSpec)) canonListsCard

/-- THE TIED CARD OF 'sackbutlaw02.CanonFills'. -/
def canonFillsCard : Claim7 := { stood := { row := canonFillsRow, standIns := [], harness := (true, "7cf688ab3499117a0a973708770d03efbb679c9f8c854dc534a9d2db510c41a2"), looks := false }, kinds := [], alts := [], laidByText := true, laidKinds := [.data, .data], laidTests := true, laidLooks := .later }
def CanonFillsCardSaid : Prop := Claim7.holds Tryd.pinned (.plain (OpenSpec.ofChange canonFillsSpec)) canonFillsCard

/-- THE TIED CARD OF 'sackbutlaw02.CanonConditions'. -/
def canonConditionsCard : Claim7 := { stood := { row := canonConditionsRow, standIns := [], harness := (true, "7cf688ab3499117a0a973708770d03efbb679c9f8c854dc534a9d2db510c41a2"), looks := false }, kinds := [], alts := [], laidByText := true, laidKinds := [.data, .data], laidTests := true, laidLooks := .later }
def CanonConditionsCardSaid : Prop := Claim7.holds Tryd.pinned (.plain (OpenSpec.ofChange canonConditionsSpec)) canonConditionsCard

/-- THE TIED CARD OF 'sackbutlaw02.CanonHajos'. -/
def canonHajosCard : Claim7 := { stood := { row := canonHajosRow, standIns := [], harness := (true, "7cf688ab3499117a0a973708770d03efbb679c9f8c854dc534a9d2db510c41a2"), looks := false }, kinds := [], alts := [], laidByText := true, laidKinds := [.data, .data], laidTests := true, laidLooks := .later }
def CanonHajosCardSaid : Prop := Claim7.holds Tryd.pinned (.plain (OpenSpec.ofChange canonHajosSpec)) canonHajosCard

/-- THE TIED CARD OF 'sackbutlaw02.CanonFolds'. -/
def canonFoldsCard : Claim7 := { stood := { row := canonFoldsRow, standIns := [], harness := (true, "7cf688ab3499117a0a973708770d03efbb679c9f8c854dc534a9d2db510c41a2"), looks := false }, kinds := [], alts := [], laidByText := true, laidKinds := [.data, .data], laidTests := true, laidLooks := .later }
def CanonFoldsCardSaid : Prop := Claim7.holds Tryd.pinned (.plain (OpenSpec.ofChange canonFoldsSpec)) canonFoldsCard

/-- THE TIED CARD OF 'sackbutlaw02.CanonTurns'. -/
def canonTurnsCard : Claim7 := { stood := { row := canonTurnsRow, standIns := [], harness := (true, "7cf688ab3499117a0a973708770d03efbb679c9f8c854dc534a9d2db510c41a2"), looks := false }, kinds := [], alts := [], laidByText := true, laidKinds := [.data, .data], laidTests := true, laidLooks := .later }
def CanonTurnsCardSaid : Prop := Claim7.holds Tryd.pinned (.plain (OpenSpec.ofChange canonTurnsSpec)) canonTurnsCard

/-- THE TIED CARD OF 'sackbutlaw02.CanonEnters'. -/
def canonEntersCard : Claim7 := { stood := { row := canonEntersRow, standIns := [], harness := (true, "7cf688ab3499117a0a973708770d03efbb679c9f8c854dc534a9d2db510c41a2"), looks := false }, kinds := [], alts := [], laidByText := true, laidKinds := [.data, .data], laidTests := true, laidLooks := .later }
def CanonEntersCardSaid : Prop := Claim7.holds Tryd.pinned (.plain (OpenSpec.ofChange canonEntersSpec)) canonEntersCard

/-- THE SECOND FORM's CARD OF 'sackbutlaw02.CanonTiles'. -/
def canonTilesUptoCard : Claim7 := { stood := { row := canonTilesUptoRow, standIns := [], harness := (true, "7cf688ab3499117a0a973708770d03efbb679c9f8c854dc534a9d2db510c41a2"), looks := false }, kinds := [], alts := [], laidByText := true, laidKinds := [.data, .data], laidTests := true, laidLooks := .later }
def CanonTilesUptoCardSaid : Prop := Claim7.holds Tryd.pinned (.plain (OpenSpec.upto canonTilesSpec)) canonTilesUptoCard

/-- THE SECOND FORM's CARD OF 'sackbutlaw02.CanonPartners'. -/
def canonPartnersUptoCard : Claim7 := { stood := { row := canonPartnersUptoRow, standIns := [], harness := (true, "7cf688ab3499117a0a973708770d03efbb679c9f8c854dc534a9d2db510c41a2"), looks := false }, kinds := [], alts := [], laidByText := true, laidKinds := [.data, .data], laidTests := true, laidLooks := .later }
def CanonPartnersUptoCardSaid : Prop := Claim7.holds Tryd.pinned (.plain (OpenSpec.upto canonPartnersSpec)) canonPartnersUptoCard

/-- THE SECOND FORM's CARD OF 'sackbutlaw02.CanonPeriods'. -/
def canonPeriodsUptoCard : Claim7 := { stood := { row := canonPeriodsUptoRow, standIns := [], harness := (true, "7cf688ab3499117a0a973708770d03efbb679c9f8c854dc534a9d2db510c41a2"), looks := false }, kinds := [], alts := [], laidByText := true, laidKinds := [.data, .data], laidTests := true, laidLooks := .later }
def CanonPeriodsUptoCardSaid : Prop := Claim7.holds Tryd.pinned (.plain (OpenSpec.upto canonPeriodsSpec)) canonPeriodsUptoCard

/-- THE SECOND FORM's CARD OF 'sackbutlaw02.CanonRoots'. -/
def canonRootsUptoCard : Claim7 := { stood := { row := canonRootsUptoRow, standIns := [], harness := (true, "7cf688ab3499117a0a973708770d03efbb679c9f8c854dc534a9d2db510c41a2"), looks := false }, kinds := [], alts := [], laidByText := true, laidKinds := [.data, .data], laidTests := true, laidLooks := .later }
def CanonRootsUptoCardSaid : Prop := Claim7.holds Tryd.pinned (.plain (OpenSpec.upto canonRootsSpec)) canonRootsUptoCard

/-- THE SECOND FORM's CARD OF 'sackbutlaw02.CanonLists'. -/
def canonListsUptoCard : Claim7 := { stood := { row := canonListsUptoRow, standIns := [], harness := (true, "7cf688ab3499117a0a973708770d03efbb679c9f8c854dc534a9d2db510c41a2"), looks := false }, kinds := [], alts := [], laidByText := true, laidKinds := [.data, .data], laidTests := true, laidLooks := .later }
def CanonListsUptoCardSaid : Prop := Claim7.holds Tryd.pinned (.plain (OpenSpec.upto canonListsSpec)) canonListsUptoCard

/-- THE SECOND FORM's CARD OF 'sackbutlaw02.CanonFills'. -/
def canonFillsUptoCard : Claim7 := { stood := { row := canonFillsUptoRow, standIns := [], harness := (true, "7cf688ab3499117a0a973708770d03efbb679c9f8c854dc534a9d2db510c41a2"), looks := false }, kinds := [], alts := [], laidByText := true, laidKinds := [.data, .data], laidTests := true, laidLooks := .later }
def CanonFillsUptoCardSaid : Prop := Claim7.holds Tryd.pinned (.plain (OpenSpec.upto canonFillsSpec)) canonFillsUptoCard

/-- THE SECOND FORM's CARD OF 'sackbutlaw02.CanonConditions'. -/
def canonConditionsUptoCard : Claim7 := { stood := { row := canonConditionsUptoRow, standIns := [], harness := (true, "7cf688ab3499117a0a973708770d03efbb679c9f8c854dc534a9d2db510c41a2"), looks := false }, kinds := [], alts := [], laidByText := true, laidKinds := [.data, .data], laidTests := true, laidLooks := .later }
def CanonConditionsUptoCardSaid : Prop := Claim7.holds Tryd.pinned (.plain (OpenSpec.upto canonConditionsSpec)) canonConditionsUptoCard

/-- THE SECOND FORM's CARD OF 'sackbutlaw02.CanonHajos'. -/
def canonHajosUptoCard : Claim7 := { stood := { row := canonHajosUptoRow, standIns := [], harness := (true, "7cf688ab3499117a0a973708770d03efbb679c9f8c854dc534a9d2db510c41a2"), looks := false }, kinds := [], alts := [], laidByText := true, laidKinds := [.data, .data], laidTests := true, laidLooks := .later }
def CanonHajosUptoCardSaid : Prop := Claim7.holds Tryd.pinned (.plain (OpenSpec.upto canonHajosSpec)) canonHajosUptoCard

/-- THE SECOND FORM's CARD OF 'sackbutlaw02.CanonFolds'. -/
def canonFoldsUptoCard : Claim7 := { stood := { row := canonFoldsUptoRow, standIns := [], harness := (true, "7cf688ab3499117a0a973708770d03efbb679c9f8c854dc534a9d2db510c41a2"), looks := false }, kinds := [], alts := [], laidByText := true, laidKinds := [.data, .data], laidTests := true, laidLooks := .later }
def CanonFoldsUptoCardSaid : Prop := Claim7.holds Tryd.pinned (.plain (OpenSpec.upto canonFoldsSpec)) canonFoldsUptoCard

/-- THE SECOND FORM's CARD OF 'sackbutlaw02.CanonTurns'. -/
def canonTurnsUptoCard : Claim7 := { stood := { row := canonTurnsUptoRow, standIns := [], harness := (true, "7cf688ab3499117a0a973708770d03efbb679c9f8c854dc534a9d2db510c41a2"), looks := false }, kinds := [], alts := [], laidByText := true, laidKinds := [.data, .data], laidTests := true, laidLooks := .later }
def CanonTurnsUptoCardSaid : Prop := Claim7.holds Tryd.pinned (.plain (OpenSpec.upto canonTurnsSpec)) canonTurnsUptoCard

/-- THE SECOND FORM's CARD OF 'sackbutlaw02.CanonEnters'. -/
def canonEntersUptoCard : Claim7 := { stood := { row := canonEntersUptoRow, standIns := [], harness := (true, "7cf688ab3499117a0a973708770d03efbb679c9f8c854dc534a9d2db510c41a2"), looks := false }, kinds := [], alts := [], laidByText := true, laidKinds := [.data, .data], laidTests := true, laidLooks := .later }
def CanonEntersUptoCardSaid : Prop := Claim7.holds Tryd.pinned (.plain (OpenSpec.upto canonEntersSpec)) canonEntersUptoCard
end Rows
end Go.Proofs.YtehjdhegnpmfaabDoor
