/-
  DERIVED. GIVEN WITH THE SEED: THE CARDS: each row of YtibkhjbcagihbaaDoorRows.lean that lists a variable, with what it lists TIED to the program's text (the seventh form; the later family's looks); each row that meets fmt, with fmt's text TOLD by the authors' own Lean function (tested against real Go, not proved from fmt's source: count such statements apart). THE CARD IS WHAT COUNTS. Prove the row's statement (the work); the ties are given (YtibkhjbcagihbaaDoorTie.lean); close each card by the builder's one call (the guide's Derived/Test/ToyasCard.lean, 'card_holds'). Laid BY PROGRAM, IN A SANDBOX (cutbox-door.mjs). By AI agents, Wed Nov 11 2026. No macro, syntax, notation, axiom, sorry.
-/
import Derived.Test.YtibkhjbcagihbaaDoorRows
import GoSem.ClaimSeven
namespace Go.Proofs.YtibkhjbcagihbaaDoor
namespace Rows

/-- THE TIED CARD OF 'sackbutlaw04.TriadsTones'. -/
def triadsTonesCard : Claim7 := { stood := { row := triadsTonesRow, standIns := [], harness := (true, "d8eeae5dd5eaa246e448f04418fd60283a6a5145a61a57c9962b76a4256ef1db"), looks := false }, kinds := [], alts := [], laidByText := true, laidKinds := [.data, .data], laidTests := true, laidLooks := .later }
def TriadsTonesCardSaid : Prop := Claim7.holds Tryd.pinned (.plain (OpenSpec.ofChange triadsTonesSpec)) triadsTonesCard

/-- THE TIED CARD OF 'sackbuttop.TopTriads'. -/
def topTriadsCard : Claim7 := { stood := { row := topTriadsRow, standIns := [], harness := (true, "d8eeae5dd5eaa246e448f04418fd60283a6a5145a61a57c9962b76a4256ef1db"), looks := false }, kinds := [], alts := [], laidByText := true, laidKinds := [.data, .data], laidTests := true, laidLooks := .later }
def TopTriadsCardSaid : Prop := Claim7.holds Tryd.pinned (.plain (OpenSpec.ofChange topTriadsSpec)) topTriadsCard

/-- THE SECOND FORM's CARD OF 'sackbutlaw04.TriadsTones'. -/
def triadsTonesUptoCard : Claim7 := { stood := { row := triadsTonesUptoRow, standIns := [], harness := (true, "d8eeae5dd5eaa246e448f04418fd60283a6a5145a61a57c9962b76a4256ef1db"), looks := false }, kinds := [], alts := [], laidByText := true, laidKinds := [.data, .data], laidTests := true, laidLooks := .later }
def TriadsTonesUptoCardSaid : Prop := Claim7.holds Tryd.pinned (.plain (OpenSpec.upto triadsTonesSpec)) triadsTonesUptoCard

/-- THE SECOND FORM's CARD OF 'sackbuttop.TopTriads'. -/
def topTriadsUptoCard : Claim7 := { stood := { row := topTriadsUptoRow, standIns := [], harness := (true, "d8eeae5dd5eaa246e448f04418fd60283a6a5145a61a57c9962b76a4256ef1db"), looks := false }, kinds := [], alts := [], laidByText := true, laidKinds := [.data, .data], laidTests := true, laidLooks := .later }
def TopTriadsUptoCardSaid : Prop := Claim7.holds Tryd.pinned (.plain (OpenSpec.upto topTriadsSpec)) topTriadsUptoCard
end Rows
end Go.Proofs.YtibkhjbcagihbaaDoor
