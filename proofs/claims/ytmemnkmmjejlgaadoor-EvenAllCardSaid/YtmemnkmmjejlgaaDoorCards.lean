/-
  DERIVED. GIVEN WITH THE SEED: THE CARDS: each row of YtmemnkmmjejlgaaDoorRows.lean that lists a variable, with what it lists TIED to the program's text (the seventh form; the later family's looks); each row that meets fmt, with fmt's text TOLD by the authors' own Lean function (tested against real Go, not proved from fmt's source: count such statements apart). THE CARD IS WHAT COUNTS. Prove the row's statement (the work); the ties are given (YtmemnkmmjejlgaaDoorTie.lean); close each card by the builder's one call (the guide's Derived/Test/ToyasCard.lean, 'card_holds'). Laid BY PROGRAM, IN A SANDBOX (cutbox-door.mjs). By AI agents, Wed Nov 11 2026. No macro, syntax, notation, axiom, sorry.
-/
import Derived.Test.YtmemnkmmjejlgaaDoorRows
import GoSem.ClaimSeven
namespace Go.Proofs.YtmemnkmmjejlgaaDoor
namespace Rows

/-- THE TIED CARD OF 'sackbutlaw03.EvenWords'. -/
def evenWordsCard : Claim7 := { stood := { row := evenWordsRow, standIns := [], harness := (true, "14499e3e0689a21929f6b3816ef545a77cdcb07a70f83f98098a3195b82304cd"), looks := false }, kinds := [], alts := [], laidByText := true, laidKinds := [.data, .data], laidTests := true, laidLooks := .later }
def EvenWordsCardSaid : Prop := Claim7.holds Tryd.pinned (.plain (OpenSpec.ofChange evenWordsSpec)) evenWordsCard

/-- THE TIED CARD OF 'sackbutlaw03.EvenMakers'. -/
def evenMakersCard : Claim7 := { stood := { row := evenMakersRow, standIns := [], harness := (true, "14499e3e0689a21929f6b3816ef545a77cdcb07a70f83f98098a3195b82304cd"), looks := false }, kinds := [], alts := [], laidByText := true, laidKinds := [.data, .data], laidTests := true, laidLooks := .later }
def EvenMakersCardSaid : Prop := Claim7.holds Tryd.pinned (.plain (OpenSpec.ofChange evenMakersSpec)) evenMakersCard

/-- THE TIED CARD OF 'sackbutlaw03.EvenSums'. -/
def evenSumsCard : Claim7 := { stood := { row := evenSumsRow, standIns := [], harness := (true, "14499e3e0689a21929f6b3816ef545a77cdcb07a70f83f98098a3195b82304cd"), looks := false }, kinds := [], alts := [], laidByText := true, laidKinds := [.data, .data], laidTests := true, laidLooks := .later }
def EvenSumsCardSaid : Prop := Claim7.holds Tryd.pinned (.plain (OpenSpec.ofChange evenSumsSpec)) evenSumsCard

/-- THE TIED CARD OF 'sackbutlaw03.EvenLists'. -/
def evenListsCard : Claim7 := { stood := { row := evenListsRow, standIns := [], harness := (true, "14499e3e0689a21929f6b3816ef545a77cdcb07a70f83f98098a3195b82304cd"), looks := false }, kinds := [], alts := [], laidByText := true, laidKinds := [.data, .data], laidTests := true, laidLooks := .later }
def EvenListsCardSaid : Prop := Claim7.holds Tryd.pinned (.plain (OpenSpec.ofChange evenListsSpec)) evenListsCard

/-- THE TIED CARD OF 'sackbutlaw03.EvenAll'. -/
def evenAllCard : Claim7 := { stood := { row := evenAllRow, standIns := [], harness := (true, "14499e3e0689a21929f6b3816ef545a77cdcb07a70f83f98098a3195b82304cd"), looks := false }, kinds := [], alts := [], laidByText := true, laidKinds := [.data, .data], laidTests := true, laidLooks := .later }
def EvenAllCardSaid : Prop := Claim7.holds Tryd.pinned (.plain (OpenSpec.ofChange evenAllSpec)) evenAllCard

/-- THE TIED CARD OF 'sackbutlaw03.EvenOthers'. -/
def evenOthersCard : Claim7 := { stood := { row := evenOthersRow, standIns := [], harness := (true, "14499e3e0689a21929f6b3816ef545a77cdcb07a70f83f98098a3195b82304cd"), looks := false }, kinds := [], alts := [], laidByText := true, laidKinds := [.data, .data], laidTests := true, laidLooks := .later }
def EvenOthersCardSaid : Prop := Claim7.holds Tryd.pinned (.plain (OpenSpec.ofChange evenOthersSpec)) evenOthersCard

/-- THE TIED CARD OF 'sackbutlaw03.EvenSteps'. -/
def evenStepsCard : Claim7 := { stood := { row := evenStepsRow, standIns := [], harness := (true, "14499e3e0689a21929f6b3816ef545a77cdcb07a70f83f98098a3195b82304cd"), looks := false }, kinds := [], alts := [], laidByText := true, laidKinds := [.data, .data], laidTests := true, laidLooks := .later }
def EvenStepsCardSaid : Prop := Claim7.holds Tryd.pinned (.plain (OpenSpec.ofChange evenStepsSpec)) evenStepsCard

/-- THE TIED CARD OF 'sackbutlaw03.EvenTwo'. -/
def evenTwoCard : Claim7 := { stood := { row := evenTwoRow, standIns := [], harness := (true, "14499e3e0689a21929f6b3816ef545a77cdcb07a70f83f98098a3195b82304cd"), looks := false }, kinds := [], alts := [], laidByText := true, laidKinds := [.data, .data], laidTests := true, laidLooks := .later }
def EvenTwoCardSaid : Prop := Claim7.holds Tryd.pinned (.plain (OpenSpec.ofChange evenTwoSpec)) evenTwoCard

/-- THE TIED CARD OF 'sackbutlaw03.EvenMost'. -/
def evenMostCard : Claim7 := { stood := { row := evenMostRow, standIns := [], harness := (true, "14499e3e0689a21929f6b3816ef545a77cdcb07a70f83f98098a3195b82304cd"), looks := false }, kinds := [], alts := [], laidByText := true, laidKinds := [.data, .data], laidTests := true, laidLooks := .later }
def EvenMostCardSaid : Prop := Claim7.holds Tryd.pinned (.plain (OpenSpec.ofChange evenMostSpec)) evenMostCard

/-- THE TIED CARD OF 'sackbutlaw03.EvenTurns'. -/
def evenTurnsCard : Claim7 := { stood := { row := evenTurnsRow, standIns := [], harness := (true, "14499e3e0689a21929f6b3816ef545a77cdcb07a70f83f98098a3195b82304cd"), looks := false }, kinds := [], alts := [], laidByText := true, laidKinds := [.data, .data], laidTests := true, laidLooks := .later }
def EvenTurnsCardSaid : Prop := Claim7.holds Tryd.pinned (.plain (OpenSpec.ofChange evenTurnsSpec)) evenTurnsCard

/-- THE TIED CARD OF 'sackbuttop.TopSum'. -/
def topSumCard : Claim7 := { stood := { row := topSumRow, standIns := [], harness := (true, "14499e3e0689a21929f6b3816ef545a77cdcb07a70f83f98098a3195b82304cd"), looks := false }, kinds := [], alts := [], laidByText := true, laidKinds := [.data, .data], laidTests := true, laidLooks := .later }
def TopSumCardSaid : Prop := Claim7.holds Tryd.pinned (.plain (OpenSpec.ofChange topSumSpec)) topSumCard

/-- THE TIED CARD OF 'sackbuttop.TopDeep'. -/
def topDeepCard : Claim7 := { stood := { row := topDeepRow, standIns := [], harness := (true, "14499e3e0689a21929f6b3816ef545a77cdcb07a70f83f98098a3195b82304cd"), looks := false }, kinds := [], alts := [], laidByText := true, laidKinds := [.data, .data], laidTests := true, laidLooks := .later }
def TopDeepCardSaid : Prop := Claim7.holds Tryd.pinned (.plain (OpenSpec.ofChange topDeepSpec)) topDeepCard

/-- THE SECOND FORM's CARD OF 'sackbutlaw03.EvenWords'. -/
def evenWordsUptoCard : Claim7 := { stood := { row := evenWordsUptoRow, standIns := [], harness := (true, "14499e3e0689a21929f6b3816ef545a77cdcb07a70f83f98098a3195b82304cd"), looks := false }, kinds := [], alts := [], laidByText := true, laidKinds := [.data, .data], laidTests := true, laidLooks := .later }
def EvenWordsUptoCardSaid : Prop := Claim7.holds Tryd.pinned (.plain (OpenSpec.upto evenWordsSpec)) evenWordsUptoCard

/-- THE SECOND FORM's CARD OF 'sackbutlaw03.EvenMakers'. -/
def evenMakersUptoCard : Claim7 := { stood := { row := evenMakersUptoRow, standIns := [], harness := (true, "14499e3e0689a21929f6b3816ef545a77cdcb07a70f83f98098a3195b82304cd"), looks := false }, kinds := [], alts := [], laidByText := true, laidKinds := [.data, .data], laidTests := true, laidLooks := .later }
def EvenMakersUptoCardSaid : Prop := Claim7.holds Tryd.pinned (.plain (OpenSpec.upto evenMakersSpec)) evenMakersUptoCard

/-- THE SECOND FORM's CARD OF 'sackbutlaw03.EvenSums'. -/
def evenSumsUptoCard : Claim7 := { stood := { row := evenSumsUptoRow, standIns := [], harness := (true, "14499e3e0689a21929f6b3816ef545a77cdcb07a70f83f98098a3195b82304cd"), looks := false }, kinds := [], alts := [], laidByText := true, laidKinds := [.data, .data], laidTests := true, laidLooks := .later }
def EvenSumsUptoCardSaid : Prop := Claim7.holds Tryd.pinned (.plain (OpenSpec.upto evenSumsSpec)) evenSumsUptoCard

/-- THE SECOND FORM's CARD OF 'sackbutlaw03.EvenLists'. -/
def evenListsUptoCard : Claim7 := { stood := { row := evenListsUptoRow, standIns := [], harness := (true, "14499e3e0689a21929f6b3816ef545a77cdcb07a70f83f98098a3195b82304cd"), looks := false }, kinds := [], alts := [], laidByText := true, laidKinds := [.data, .data], laidTests := true, laidLooks := .later }
def EvenListsUptoCardSaid : Prop := Claim7.holds Tryd.pinned (.plain (OpenSpec.upto evenListsSpec)) evenListsUptoCard

/-- THE SECOND FORM's CARD OF 'sackbutlaw03.EvenAll'. -/
def evenAllUptoCard : Claim7 := { stood := { row := evenAllUptoRow, standIns := [], harness := (true, "14499e3e0689a21929f6b3816ef545a77cdcb07a70f83f98098a3195b82304cd"), looks := false }, kinds := [], alts := [], laidByText := true, laidKinds := [.data, .data], laidTests := true, laidLooks := .later }
def EvenAllUptoCardSaid : Prop := Claim7.holds Tryd.pinned (.plain (OpenSpec.upto evenAllSpec)) evenAllUptoCard

/-- THE SECOND FORM's CARD OF 'sackbutlaw03.EvenOthers'. -/
def evenOthersUptoCard : Claim7 := { stood := { row := evenOthersUptoRow, standIns := [], harness := (true, "14499e3e0689a21929f6b3816ef545a77cdcb07a70f83f98098a3195b82304cd"), looks := false }, kinds := [], alts := [], laidByText := true, laidKinds := [.data, .data], laidTests := true, laidLooks := .later }
def EvenOthersUptoCardSaid : Prop := Claim7.holds Tryd.pinned (.plain (OpenSpec.upto evenOthersSpec)) evenOthersUptoCard

/-- THE SECOND FORM's CARD OF 'sackbutlaw03.EvenSteps'. -/
def evenStepsUptoCard : Claim7 := { stood := { row := evenStepsUptoRow, standIns := [], harness := (true, "14499e3e0689a21929f6b3816ef545a77cdcb07a70f83f98098a3195b82304cd"), looks := false }, kinds := [], alts := [], laidByText := true, laidKinds := [.data, .data], laidTests := true, laidLooks := .later }
def EvenStepsUptoCardSaid : Prop := Claim7.holds Tryd.pinned (.plain (OpenSpec.upto evenStepsSpec)) evenStepsUptoCard

/-- THE SECOND FORM's CARD OF 'sackbutlaw03.EvenTwo'. -/
def evenTwoUptoCard : Claim7 := { stood := { row := evenTwoUptoRow, standIns := [], harness := (true, "14499e3e0689a21929f6b3816ef545a77cdcb07a70f83f98098a3195b82304cd"), looks := false }, kinds := [], alts := [], laidByText := true, laidKinds := [.data, .data], laidTests := true, laidLooks := .later }
def EvenTwoUptoCardSaid : Prop := Claim7.holds Tryd.pinned (.plain (OpenSpec.upto evenTwoSpec)) evenTwoUptoCard

/-- THE SECOND FORM's CARD OF 'sackbutlaw03.EvenMost'. -/
def evenMostUptoCard : Claim7 := { stood := { row := evenMostUptoRow, standIns := [], harness := (true, "14499e3e0689a21929f6b3816ef545a77cdcb07a70f83f98098a3195b82304cd"), looks := false }, kinds := [], alts := [], laidByText := true, laidKinds := [.data, .data], laidTests := true, laidLooks := .later }
def EvenMostUptoCardSaid : Prop := Claim7.holds Tryd.pinned (.plain (OpenSpec.upto evenMostSpec)) evenMostUptoCard

/-- THE SECOND FORM's CARD OF 'sackbutlaw03.EvenTurns'. -/
def evenTurnsUptoCard : Claim7 := { stood := { row := evenTurnsUptoRow, standIns := [], harness := (true, "14499e3e0689a21929f6b3816ef545a77cdcb07a70f83f98098a3195b82304cd"), looks := false }, kinds := [], alts := [], laidByText := true, laidKinds := [.data, .data], laidTests := true, laidLooks := .later }
def EvenTurnsUptoCardSaid : Prop := Claim7.holds Tryd.pinned (.plain (OpenSpec.upto evenTurnsSpec)) evenTurnsUptoCard

/-- THE SECOND FORM's CARD OF 'sackbuttop.TopSum'. -/
def topSumUptoCard : Claim7 := { stood := { row := topSumUptoRow, standIns := [], harness := (true, "14499e3e0689a21929f6b3816ef545a77cdcb07a70f83f98098a3195b82304cd"), looks := false }, kinds := [], alts := [], laidByText := true, laidKinds := [.data, .data], laidTests := true, laidLooks := .later }
def TopSumUptoCardSaid : Prop := Claim7.holds Tryd.pinned (.plain (OpenSpec.upto topSumSpec)) topSumUptoCard

/-- THE SECOND FORM's CARD OF 'sackbuttop.TopDeep'. -/
def topDeepUptoCard : Claim7 := { stood := { row := topDeepUptoRow, standIns := [], harness := (true, "14499e3e0689a21929f6b3816ef545a77cdcb07a70f83f98098a3195b82304cd"), looks := false }, kinds := [], alts := [], laidByText := true, laidKinds := [.data, .data], laidTests := true, laidLooks := .later }
def TopDeepUptoCardSaid : Prop := Claim7.holds Tryd.pinned (.plain (OpenSpec.upto topDeepSpec)) topDeepUptoCard
end Rows
end Go.Proofs.YtmemnkmmjejlgaaDoor
