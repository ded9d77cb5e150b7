/-
  DERIVED. GIVEN WITH THE SEED: THE CARDS: each row of YtmcdelabcmnfiaaDoorRows.lean that lists a variable, with what it lists TIED to the program's text (the seventh form; the later family's looks); each row that meets fmt, with fmt's text TOLD by the authors' own Lean function (tested against real Go, not proved from fmt's source: count such statements apart). THE CARD IS WHAT COUNTS. Prove the row's statement (the work); the ties are given (YtmcdelabcmnfiaaDoorTie.lean); close each card by the builder's one call (the guide's Derived/Test/ToyasCard.lean, 'card_holds'). Laid BY PROGRAM, IN A SANDBOX (cutbox-door.mjs). By AI agents, Wed Nov 11 2026. No macro, syntax, notation, axiom, sorry.
-/
import Derived.Test.YtmcdelabcmnfiaaDoorRows
import GoSem.ClaimSeven
namespace Go.Proofs.YtmcdelabcmnfiaaDoor
namespace Rows

/-- THE TIED CARD OF 'sackbutlaw01.ChordsLists'. -/
def chordsListsCard : Claim7 := { stood := { row := chordsListsRow, standIns := [], harness := (true, "0d0ddfcd0d77da39cf1574efcaee7dfb7f9868828920ece61118e72a034a1f77"), looks := false }, kinds := [], alts := [], laidByText := true, laidKinds := [.data, .data], laidTests := true, laidLooks := .later }
def ChordsListsCardSaid : Prop := Claim7.holds Tryd.pinned (.plain (OpenSpec.ofChange chordsListsSpec)) chordsListsCard

/-- THE TIED CARD OF 'sackbutlaw01.ChordsTwins'. -/
def chordsTwinsCard : Claim7 := { stood := { row := chordsTwinsRow, standIns := [], harness := (true, "0d0ddfcd0d77da39cf1574efcaee7dfb7f9868828920ece61118e72a034a1f77"), looks := false }, kinds := [], alts := [], laidByText := true, laidKinds := [.data, .data], laidTests := true, laidLooks := .later }
def ChordsTwinsCardSaid : Prop := Claim7.holds Tryd.pinned (.plain (OpenSpec.ofChange chordsTwinsSpec)) chordsTwinsCard

/-- THE TIED CARD OF 'sackbutlaw02.CanonRoots'. -/
def canonRootsCard : Claim7 := { stood := { row := canonRootsRow, standIns := [], harness := (true, "0d0ddfcd0d77da39cf1574efcaee7dfb7f9868828920ece61118e72a034a1f77"), looks := false }, kinds := [], alts := [], laidByText := true, laidKinds := [.data, .data], laidTests := true, laidLooks := .later }
def CanonRootsCardSaid : Prop := Claim7.holds Tryd.pinned (.plain (OpenSpec.ofChange canonRootsSpec)) canonRootsCard

/-- THE TIED CARD OF 'sackbutlaw02.CanonFills'. -/
def canonFillsCard : Claim7 := { stood := { row := canonFillsRow, standIns := [], harness := (true, "0d0ddfcd0d77da39cf1574efcaee7dfb7f9868828920ece61118e72a034a1f77"), looks := false }, kinds := [], alts := [], laidByText := true, laidKinds := [.data, .data], laidTests := true, laidLooks := .later }
def CanonFillsCardSaid : Prop := Claim7.holds Tryd.pinned (.plain (OpenSpec.ofChange canonFillsSpec)) canonFillsCard

/-- THE TIED CARD OF 'sackbutlaw02.CanonConditions'. -/
def canonConditionsCard : Claim7 := { stood := { row := canonConditionsRow, standIns := [], harness := (true, "0d0ddfcd0d77da39cf1574efcaee7dfb7f9868828920ece61118e72a034a1f77"), looks := false }, kinds := [], alts := [], laidByText := true, laidKinds := [.data, .data], laidTests := true, laidLooks := .later }
def CanonConditionsCardSaid : Prop := Claim7.holds Tryd.pinned (.plain (OpenSpec.ofChange canonConditionsSpec)) canonConditionsCard

/-- THE SECOND FORM's CARD OF 'sackbutlaw01.ChordsLists'. -/
def chordsListsUptoCard : Claim7 := { stood := { row := chordsListsUptoRow, standIns := [], harness := (true, "0d0ddfcd0d77da39cf1574efcaee7dfb7f9868828920ece61118e72a034a1f77"), looks := false }, kinds := [], alts := [], laidByText := true, laidKinds := [.data, .data], laidTests := true, laidLooks := .later }
def ChordsListsUptoCardSaid : Prop := Claim7.holds Tryd.pinned (.plain (OpenSpec.upto chordsListsSpec)) chordsListsUptoCard

/-- THE SECOND FORM's CARD OF 'sackbutlaw01.ChordsTwins'. -/
def chordsTwinsUptoCard : Claim7 := { stood := { row := chordsTwinsUptoRow, standIns := [], harness := (true, "0d0ddfcd0d77da39cf1574efcaee7dfb7f9868828920ece61118e72a034a1f77"), looks := false }, kinds := [], alts := [], laidByText := true, laidKinds := [.data, .data], laidTests := true, laidLooks := .later }
def ChordsTwinsUptoCardSaid : Prop := Claim7.holds Tryd.pinned (.plain (OpenSpec.upto chordsTwinsSpec)) chordsTwinsUptoCard

/-- THE SECOND FORM's CARD OF 'sackbutlaw02.CanonRoots'. -/
def canonRootsUptoCard : Claim7 := { stood := { row := canonRootsUptoRow, standIns := [], harness := (true, "0d0ddfcd0d77da39cf1574efcaee7dfb7f9868828920ece61118e72a034a1f77"), looks := false }, kinds := [], alts := [], laidByText := true, laidKinds := [.data, .data], laidTests := true, laidLooks := .later }
def CanonRootsUptoCardSaid : Prop := Claim7.holds Tryd.pinned (.plain (OpenSpec.upto canonRootsSpec)) canonRootsUptoCard

/-- THE SECOND FORM's CARD OF 'sackbutlaw02.CanonFills'. -/
def canonFillsUptoCard : Claim7 := { stood := { row := canonFillsUptoRow, standIns := [], harness := (true, "0d0ddfcd0d77da39cf1574efcaee7dfb7f9868828920ece61118e72a034a1f77"), looks := false }, kinds := [], alts := [], laidByText := true, laidKinds := [.data, .data], laidTests := true, laidLooks := .later }
def CanonFillsUptoCardSaid : Prop := Claim7.holds Tryd.pinned (.plain (OpenSpec.upto canonFillsSpec)) canonFillsUptoCard

/-- THE SECOND FORM's CARD OF 'sackbutlaw02.CanonConditions'. -/
def canonConditionsUptoCard : Claim7 := { stood := { row := canonConditionsUptoRow, standIns := [], harness := (true, "0d0ddfcd0d77da39cf1574efcaee7dfb7f9868828920ece61118e72a034a1f77"), looks := false }, kinds := [], alts := [], laidByText := true, laidKinds := [.data, .data], laidTests := true, laidLooks := .later }
def CanonConditionsUptoCardSaid : Prop := Claim7.holds Tryd.pinned (.plain (OpenSpec.upto canonConditionsSpec)) canonConditionsUptoCard
end Rows
end Go.Proofs.YtmcdelabcmnfiaaDoor
