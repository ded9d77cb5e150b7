/-
  DERIVED. GIVEN WITH THE SEED: THE CARDS: each row of YtehjdhegnpmfaaaDoorRows.lean that lists a variable, with what it lists TIED to the program's text (the seventh form; the later family's looks); each row that meets fmt, with fmt's text TOLD by the authors' own Lean function (tested against real Go, not proved from fmt's source: count such statements apart). THE CARD IS WHAT COUNTS. Prove the row's statement (the work); the ties are given (YtehjdhegnpmfaaaDoorTie.lean); close each card by the builder's one call (the guide's Derived/Test/ToyasCard.lean, 'card_holds'). Laid BY PROGRAM, IN A SANDBOX (cutbox-door.mjs). By AI agents, Wed Nov 11 2026. No macro, syntax, notation, axiom, sorry.
-/
import Derived.Test.YtehjdhegnpmfaaaDoorRows
import GoSem.ClaimSeven
namespace Go.Proofs.YtehjdhegnpmfaaaDoor
namespace Rows

/-- THE TIED CARD OF 'sackbutlaw01.ChordsMoves'. -/
def chordsMovesCard : Claim7 := { stood := { row := chordsMovesRow, standIns := [], harness := (true, "d5ccc4b8d0e82ae0c1cf4b3ccdbcb444373e95d76da05f2257de3931194959f1"), looks := false }, kinds := [], alts := [], laidByText := true, laidKinds := [.data, .data], laidTests := true, laidLooks := .later }
def ChordsMovesCardSaid : Prop := Claim7.holds Tryd.pinned (.plain (OpenSpec.ofChange chordsMovesSpec)) chordsMovesCard

/-- THE TIED CARD OF 'sackbutlaw01.ChordsVectors'. -/
def chordsVectorsCard : Claim7 := { stood := { row := chordsVectorsRow, standIns := [], harness := (true, "d5ccc4b8d0e82ae0c1cf4b3ccdbcb444373e95d76da05f2257de3931194959f1"), looks := false }, kinds := [], alts := [], laidByText := true, laidKinds := [.data, .data], laidTests := true, laidLooks := .later }
def ChordsVectorsCardSaid : Prop := Claim7.holds Tryd.pinned (.plain (OpenSpec.ofChange chordsVectorsSpec)) chordsVectorsCard

/-- THE TIED CARD OF 'sackbutlaw01.ChordsPrimes'. -/
def chordsPrimesCard : Claim7 := { stood := { row := chordsPrimesRow, standIns := [], harness := (true, "d5ccc4b8d0e82ae0c1cf4b3ccdbcb444373e95d76da05f2257de3931194959f1"), looks := false }, kinds := [], alts := [], laidByText := true, laidKinds := [.data, .data], laidTests := true, laidLooks := .later }
def ChordsPrimesCardSaid : Prop := Claim7.holds Tryd.pinned (.plain (OpenSpec.ofChange chordsPrimesSpec)) chordsPrimesCard

/-- THE TIED CARD OF 'sackbutlaw01.ChordsWays'. -/
def chordsWaysCard : Claim7 := { stood := { row := chordsWaysRow, standIns := [], harness := (true, "d5ccc4b8d0e82ae0c1cf4b3ccdbcb444373e95d76da05f2257de3931194959f1"), looks := false }, kinds := [], alts := [], laidByText := true, laidKinds := [.data, .data], laidTests := true, laidLooks := .later }
def ChordsWaysCardSaid : Prop := Claim7.holds Tryd.pinned (.plain (OpenSpec.ofChange chordsWaysSpec)) chordsWaysCard

/-- THE TIED CARD OF 'sackbutlaw01.ChordsLists'. -/
def chordsListsCard : Claim7 := { stood := { row := chordsListsRow, standIns := [], harness := (true, "d5ccc4b8d0e82ae0c1cf4b3ccdbcb444373e95d76da05f2257de3931194959f1"), looks := false }, kinds := [], alts := [], laidByText := true, laidKinds := [.data, .data], laidTests := true, laidLooks := .later }
def ChordsListsCardSaid : Prop := Claim7.holds Tryd.pinned (.plain (OpenSpec.ofChange chordsListsSpec)) chordsListsCard

/-- THE TIED CARD OF 'sackbutlaw01.ChordsStill'. -/
def chordsStillCard : Claim7 := { stood := { row := chordsStillRow, standIns := [], harness := (true, "d5ccc4b8d0e82ae0c1cf4b3ccdbcb444373e95d76da05f2257de3931194959f1"), looks := false }, kinds := [], alts := [], laidByText := true, laidKinds := [.data, .data], laidTests := true, laidLooks := .later }
def ChordsStillCardSaid : Prop := Claim7.holds Tryd.pinned (.plain (OpenSpec.ofChange chordsStillSpec)) chordsStillCard

/-- THE TIED CARD OF 'sackbutlaw01.ChordsImages'. -/
def chordsImagesCard : Claim7 := { stood := { row := chordsImagesRow, standIns := [], harness := (true, "d5ccc4b8d0e82ae0c1cf4b3ccdbcb444373e95d76da05f2257de3931194959f1"), looks := false }, kinds := [], alts := [], laidByText := true, laidKinds := [.data, .data], laidTests := true, laidLooks := .later }
def ChordsImagesCardSaid : Prop := Claim7.holds Tryd.pinned (.plain (OpenSpec.ofChange chordsImagesSpec)) chordsImagesCard

/-- THE TIED CARD OF 'sackbutlaw01.ChordsTimes'. -/
def chordsTimesCard : Claim7 := { stood := { row := chordsTimesRow, standIns := [], harness := (true, "d5ccc4b8d0e82ae0c1cf4b3ccdbcb444373e95d76da05f2257de3931194959f1"), looks := false }, kinds := [], alts := [], laidByText := true, laidKinds := [.data, .data], laidTests := true, laidLooks := .later }
def ChordsTimesCardSaid : Prop := Claim7.holds Tryd.pinned (.plain (OpenSpec.ofChange chordsTimesSpec)) chordsTimesCard

/-- THE TIED CARD OF 'sackbutlaw01.ChordsSums'. -/
def chordsSumsCard : Claim7 := { stood := { row := chordsSumsRow, standIns := [], harness := (true, "d5ccc4b8d0e82ae0c1cf4b3ccdbcb444373e95d76da05f2257de3931194959f1"), looks := false }, kinds := [], alts := [], laidByText := true, laidKinds := [.data, .data], laidTests := true, laidLooks := .later }
def ChordsSumsCardSaid : Prop := Claim7.holds Tryd.pinned (.plain (OpenSpec.ofChange chordsSumsSpec)) chordsSumsCard

/-- THE TIED CARD OF 'sackbutlaw01.ChordsOthers'. -/
def chordsOthersCard : Claim7 := { stood := { row := chordsOthersRow, standIns := [], harness := (true, "d5ccc4b8d0e82ae0c1cf4b3ccdbcb444373e95d76da05f2257de3931194959f1"), looks := false }, kinds := [], alts := [], laidByText := true, laidKinds := [.data, .data], laidTests := true, laidLooks := .later }
def ChordsOthersCardSaid : Prop := Claim7.holds Tryd.pinned (.plain (OpenSpec.ofChange chordsOthersSpec)) chordsOthersCard

/-- THE TIED CARD OF 'sackbutlaw01.ChordsCounts'. -/
def chordsCountsCard : Claim7 := { stood := { row := chordsCountsRow, standIns := [], harness := (true, "d5ccc4b8d0e82ae0c1cf4b3ccdbcb444373e95d76da05f2257de3931194959f1"), looks := false }, kinds := [], alts := [], laidByText := true, laidKinds := [.data, .data], laidTests := true, laidLooks := .later }
def ChordsCountsCardSaid : Prop := Claim7.holds Tryd.pinned (.plain (OpenSpec.ofChange chordsCountsSpec)) chordsCountsCard

/-- THE TIED CARD OF 'sackbutlaw01.ChordsTwins'. -/
def chordsTwinsCard : Claim7 := { stood := { row := chordsTwinsRow, standIns := [], harness := (true, "d5ccc4b8d0e82ae0c1cf4b3ccdbcb444373e95d76da05f2257de3931194959f1"), looks := false }, kinds := [], alts := [], laidByText := true, laidKinds := [.data, .data], laidTests := true, laidLooks := .later }
def ChordsTwinsCardSaid : Prop := Claim7.holds Tryd.pinned (.plain (OpenSpec.ofChange chordsTwinsSpec)) chordsTwinsCard

/-- THE SECOND FORM's CARD OF 'sackbutlaw01.ChordsMoves'. -/
def chordsMovesUptoCard : Claim7 := { stood := { row := chordsMovesUptoRow, standIns := [], harness := (true, "d5ccc4b8d0e82ae0c1cf4b3ccdbcb444373e95d76da05f2257de3931194959f1"), looks := false }, kinds := [], alts := [], laidByText := true, laidKinds := [.data, .data], laidTests := true, laidLooks := .later }
def ChordsMovesUptoCardSaid : Prop := Claim7.holds Tryd.pinned (.plain (OpenSpec.upto chordsMovesSpec)) chordsMovesUptoCard

/-- THE SECOND FORM's CARD OF 'sackbutlaw01.ChordsVectors'. -/
def chordsVectorsUptoCard : Claim7 := { stood := { row := chordsVectorsUptoRow, standIns := [], harness := (true, "d5ccc4b8d0e82ae0c1cf4b3ccdbcb444373e95d76da05f2257de3931194959f1"), looks := false }, kinds := [], alts := [], laidByText := true, laidKinds := [.data, .data], laidTests := true, laidLooks := .later }
def ChordsVectorsUptoCardSaid : Prop := Claim7.holds Tryd.pinned (.plain (OpenSpec.upto chordsVectorsSpec)) chordsVectorsUptoCard

/-- THE SECOND FORM's CARD OF 'sackbutlaw01.ChordsPrimes'. -/
def chordsPrimesUptoCard : Claim7 := { stood := { row := chordsPrimesUptoRow, standIns := [], harness := (true, "d5ccc4b8d0e82ae0c1cf4b3ccdbcb444373e95d76da05f2257de3931194959f1"), looks := false }, kinds := [], alts := [], laidByText := true, laidKinds := [.data, .data], laidTests := true, laidLooks := .later }
def ChordsPrimesUptoCardSaid : Prop := Claim7.holds Tryd.pinned (.plain (OpenSpec.upto chordsPrimesSpec)) chordsPrimesUptoCard

/-- THE SECOND FORM's CARD OF 'sackbutlaw01.ChordsWays'. -/
def chordsWaysUptoCard : Claim7 := { stood := { row := chordsWaysUptoRow, standIns := [], harness := (true, "d5ccc4b8d0e82ae0c1cf4b3ccdbcb444373e95d76da05f2257de3931194959f1"), looks := false }, kinds := [], alts := [], laidByText := true, laidKinds := [.data, .data], laidTests := true, laidLooks := .later }
def ChordsWaysUptoCardSaid : Prop := Claim7.holds Tryd.pinned (.plain (OpenSpec.upto chordsWaysSpec)) chordsWaysUptoCard

/-- THE SECOND FORM's CARD OF 'sackbutlaw01.ChordsLists'. -/
def chordsListsUptoCard : Claim7 := { stood := { row := chordsListsUptoRow, standIns := [], harness := (true, "d5ccc4b8d0e82ae0c1cf4b3ccdbcb444373e95d76da05f2257de3931194959f1"), looks := false }, kinds := [], alts := [], laidByText := true, laidKinds := [.data, .data], laidTests := true, laidLooks := .later }
def ChordsListsUptoCardSaid : Prop := Claim7.holds Tryd.pinned (.plain (OpenSpec.upto chordsListsSpec)) chordsListsUptoCard

/-- THE SECOND FORM's CARD OF 'sackbutlaw01.ChordsStill'. -/
def chordsStillUptoCard : Claim7 := { stood := { row := chordsStillUptoRow, standIns := [], harness := (true, "d5ccc4b8d0e82ae0c1cf4b3ccdbcb444373e95d76da05f2257de3931194959f1"), looks := false }, kinds := [], alts := [], laidByText := true, laidKinds := [.data, .data], laidTests := true, laidLooks := .later }
def ChordsStillUptoCardSaid : Prop := Claim7.holds Tryd.pinned (.plain (OpenSpec.upto chordsStillSpec)) chordsStillUptoCard

/-- THE SECOND FORM's CARD OF 'sackbutlaw01.ChordsImages'. -/
def chordsImagesUptoCard : Claim7 := { stood := { row := chordsImagesUptoRow, standIns := [], harness := (true, "d5ccc4b8d0e82ae0c1cf4b3ccdbcb444373e95d76da05f2257de3931194959f1"), looks := false }, kinds := [], alts := [], laidByText := true, laidKinds := [.data, .data], laidTests := true, laidLooks := .later }
def ChordsImagesUptoCardSaid : Prop := Claim7.holds Tryd.pinned (.plain (OpenSpec.upto chordsImagesSpec)) chordsImagesUptoCard

/-- THE SECOND FORM's CARD OF 'sackbutlaw01.ChordsTimes'. -/
def chordsTimesUptoCard : Claim7 := { stood := { row := chordsTimesUptoRow, standIns := [], harness := (true, "d5ccc4b8d0e82ae0c1cf4b3ccdbcb444373e95d76da05f2257de3931194959f1"), looks := false }, kinds := [], alts := [], laidByText := true, laidKinds := [.data, .data], laidTests := true, laidLooks := .later }
def ChordsTimesUptoCardSaid : Prop := Claim7.holds Tryd.pinned (.plain (OpenSpec.upto chordsTimesSpec)) chordsTimesUptoCard

/-- THE SECOND FORM's CARD OF 'sackbutlaw01.ChordsSums'. -/
def chordsSumsUptoCard : Claim7 := { stood := { row := chordsSumsUptoRow, standIns := [], harness := (true, "d5ccc4b8d0e82ae0c1cf4b3ccdbcb444373e95d76da05f2257de3931194959f1"), looks := false }, kinds := [], alts := [], laidByText := true, laidKinds := [.data, .data], laidTests := true, laidLooks := .later }
def ChordsSumsUptoCardSaid : Prop := Claim7.holds Tryd.pinned (.plain (OpenSpec.upto chordsSumsSpec)) chordsSumsUptoCard

/-- THE SECOND FORM's CARD OF 'sackbutlaw01.ChordsOthers'. -/
def chordsOthersUptoCard : Claim7 := { stood := { row := chordsOthersUptoRow, standIns := [], harness := (true, "d5ccc4b8d0e82ae0c1cf4b3ccdbcb444373e95d76da05f2257de3931194959f1"), looks := false }, kinds := [], alts := [], laidByText := true, laidKinds := [.data, .data], laidTests := true, laidLooks := .later }
def ChordsOthersUptoCardSaid : Prop := Claim7.holds Tryd.pinned (.plain (OpenSpec.upto chordsOthersSpec)) chordsOthersUptoCard

/-- THE SECOND FORM's CARD OF 'sackbutlaw01.ChordsCounts'. -/
def chordsCountsUptoCard : Claim7 := { stood := { row := chordsCountsUptoRow, standIns := [], harness := (true, "d5ccc4b8d0e82ae0c1cf4b3ccdbcb444373e95d76da05f2257de3931194959f1"), looks := false }, kinds := [], alts := [], laidByText := true, laidKinds := [.data, .data], laidTests := true, laidLooks := .later }
def ChordsCountsUptoCardSaid : Prop := Claim7.holds Tryd.pinned (.plain (OpenSpec.upto chordsCountsSpec)) chordsCountsUptoCard

/-- THE SECOND FORM's CARD OF 'sackbutlaw01.ChordsTwins'. -/
def chordsTwinsUptoCard : Claim7 := { stood := { row := chordsTwinsUptoRow, standIns := [], harness := (true, "d5ccc4b8d0e82ae0c1cf4b3ccdbcb444373e95d76da05f2257de3931194959f1"), looks := false }, kinds := [], alts := [], laidByText := true, laidKinds := [.data, .data], laidTests := true, laidLooks := .later }
def ChordsTwinsUptoCardSaid : Prop := Claim7.holds Tryd.pinned (.plain (OpenSpec.upto chordsTwinsSpec)) chordsTwinsUptoCard
end Rows
end Go.Proofs.YtehjdhegnpmfaaaDoor
