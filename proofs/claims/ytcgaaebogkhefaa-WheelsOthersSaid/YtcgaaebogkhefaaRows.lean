/-
  No cell of these rows narrows 'for every input' (looked for: loops, veiled, ifaces, maps, wideKeys, modest, calm, conditions, laid).
  DERIVED. THE GIVEN ROWS OF THIS SEAT. 14 by the template 'for every input the law returns true; each argument reads behind the call as it read before'; 0 by the template 'total and deterministic' (their statements: YtcgaaebogkhefaaTotals.lean).
  GIVEN WITH THE SEED: the statements are not yours to turn. If you find one false, say at which input.
  Laid BY PROGRAM, IN A SANDBOX (cutbox-rows.mjs): the forced cells as the released guide's own fill.sh prints them over the translation df0cbbf5eb3cfd5e… (all of the seat's roots in one cut). By AI agents, Wed Nov 11 2026. No macro, syntax, notation, axiom, sorry.
-/
import Derived.Test.YtcgaaebogkhefaaChecked
import GoSem.Claim
import GoSem.ClaimJoined
import GoSem.ClaimMapViews
import Derived.JoinedTies
import Derived.KernelRfl
namespace Go.Proofs.Ytcgaaebogkhefaa
/- THE CELL 'sum', in the pinned program and in every row, IS THE sha256 OF THE DUMP (.gsa) THAT YtcgaaebogkhefaaProg.lean LOADS. Nothing in Lean hashes anything: it is a label: what it is worth is what the hold of that sum in a sandbox is worth. -/
noncomputable def Try.pinned : Pinned := { name := "ytcgaaebogkhefaa", sum := "df0cbbf5eb3cfd5ef2d494c6e883430cafb11899d4766ece835a6cce422aad36", checked := Try.checked }
namespace Rows
def none {H : Type} : Left H := { results := [], args := [] }

/-- 'sackbutlaw08.WheelsPrimes': WHATEVER THE INPUT: true; the input reads as it did. -/
def wheelsPrimesSpec : ChangeSpec := { name := "wheelsPrimes", fn := fun _ => fun
  | [d] => { results := [.lit (.bool true)], args := [d] }
  | _ => none }
def wheelsPrimesRow : OpenClaim := { program := "ytcgaaebogkhefaa", sum := "df0cbbf5eb3cfd5ef2d494c6e883430cafb11899d4766ece835a6cce422aad36", func := "sackbut/sackbutlaw08.WheelsPrimes", spec := "wheelsPrimes", unfollowed := true, recurses := true, apart := false }
def WheelsPrimesSaid : Prop := wheelsPrimesRow.holds Try.pinned (OpenSpec.ofChange wheelsPrimesSpec)

/-- ITS FALSE NEIGHBOUR: 'it returns false'. Refute it at one input. -/
def wheelsPrimesWrong : ChangeSpec := { name := "wheelsPrimes", fn := fun _ => fun
  | [d] => { results := [.lit (.bool false)], args := [d] }
  | _ => none }
def WheelsPrimesWrongFalsely : Prop := wheelsPrimesRow.holds Try.pinned (OpenSpec.ofChange wheelsPrimesWrong)

/-- 'sackbutlaw08.WheelsSpectra': WHATEVER THE INPUT: true; the input reads as it did. -/
def wheelsSpectraSpec : ChangeSpec := { name := "wheelsSpectra", fn := fun _ => fun
  | [d1, d2] => { results := [.lit (.bool true)], args := [d1, d2] }
  | _ => none }
def wheelsSpectraRow : OpenClaim := { program := "ytcgaaebogkhefaa", sum := "df0cbbf5eb3cfd5ef2d494c6e883430cafb11899d4766ece835a6cce422aad36", func := "sackbut/sackbutlaw08.WheelsSpectra", spec := "wheelsSpectra", unfollowed := true, recurses := true, apart := false }
def WheelsSpectraSaid : Prop := wheelsSpectraRow.holds Try.pinned (OpenSpec.ofChange wheelsSpectraSpec)

/-- ITS FALSE NEIGHBOUR: 'it returns false'. Refute it at one input. -/
def wheelsSpectraWrong : ChangeSpec := { name := "wheelsSpectra", fn := fun _ => fun
  | [d1, d2] => { results := [.lit (.bool false)], args := [d1, d2] }
  | _ => none }
def WheelsSpectraWrongFalsely : Prop := wheelsSpectraRow.holds Try.pinned (OpenSpec.ofChange wheelsSpectraWrong)

/-- 'sackbutlaw08.WheelsTimes': WHATEVER THE INPUT: true; the input reads as it did. -/
def wheelsTimesSpec : ChangeSpec := { name := "wheelsTimes", fn := fun _ => fun
  | [d1, d2, d3] => { results := [.lit (.bool true)], args := [d1, d2, d3] }
  | _ => none }
def wheelsTimesRow : OpenClaim := { program := "ytcgaaebogkhefaa", sum := "df0cbbf5eb3cfd5ef2d494c6e883430cafb11899d4766ece835a6cce422aad36", func := "sackbut/sackbutlaw08.WheelsTimes", spec := "wheelsTimes", unfollowed := true, recurses := true, apart := false }
def WheelsTimesSaid : Prop := wheelsTimesRow.holds Try.pinned (OpenSpec.ofChange wheelsTimesSpec)

/-- ITS FALSE NEIGHBOUR: 'it returns false'. Refute it at one input. -/
def wheelsTimesWrong : ChangeSpec := { name := "wheelsTimes", fn := fun _ => fun
  | [d1, d2, d3] => { results := [.lit (.bool false)], args := [d1, d2, d3] }
  | _ => none }
def WheelsTimesWrongFalsely : Prop := wheelsTimesRow.holds Try.pinned (OpenSpec.ofChange wheelsTimesWrong)

/-- 'sackbutlaw08.WheelsChords': WHATEVER THE INPUT: true; the input reads as it did. -/
def wheelsChordsSpec : ChangeSpec := { name := "wheelsChords", fn := fun _ => fun
  | [d1, d2] => { results := [.lit (.bool true)], args := [d1, d2] }
  | _ => none }
def wheelsChordsRow : OpenClaim := { program := "ytcgaaebogkhefaa", sum := "df0cbbf5eb3cfd5ef2d494c6e883430cafb11899d4766ece835a6cce422aad36", func := "sackbut/sackbutlaw08.WheelsChords", spec := "wheelsChords", unfollowed := true, recurses := true, apart := false }
def WheelsChordsSaid : Prop := wheelsChordsRow.holds Try.pinned (OpenSpec.ofChange wheelsChordsSpec)

/-- ITS FALSE NEIGHBOUR: 'it returns false'. Refute it at one input. -/
def wheelsChordsWrong : ChangeSpec := { name := "wheelsChords", fn := fun _ => fun
  | [d1, d2] => { results := [.lit (.bool false)], args := [d1, d2] }
  | _ => none }
def WheelsChordsWrongFalsely : Prop := wheelsChordsRow.holds Try.pinned (OpenSpec.ofChange wheelsChordsWrong)

/-- 'sackbutlaw08.WheelsAlike': WHATEVER THE INPUT: true; the input reads as it did. -/
def wheelsAlikeSpec : ChangeSpec := { name := "wheelsAlike", fn := fun _ => fun
  | [d1, d2, d3] => { results := [.lit (.bool true)], args := [d1, d2, d3] }
  | _ => none }
def wheelsAlikeRow : OpenClaim := { program := "ytcgaaebogkhefaa", sum := "df0cbbf5eb3cfd5ef2d494c6e883430cafb11899d4766ece835a6cce422aad36", func := "sackbut/sackbutlaw08.WheelsAlike", spec := "wheelsAlike", unfollowed := true, recurses := true, apart := false }
def WheelsAlikeSaid : Prop := wheelsAlikeRow.holds Try.pinned (OpenSpec.ofChange wheelsAlikeSpec)

/-- ITS FALSE NEIGHBOUR: 'it returns false'. Refute it at one input. -/
def wheelsAlikeWrong : ChangeSpec := { name := "wheelsAlike", fn := fun _ => fun
  | [d1, d2, d3] => { results := [.lit (.bool false)], args := [d1, d2, d3] }
  | _ => none }
def WheelsAlikeWrongFalsely : Prop := wheelsAlikeRow.holds Try.pinned (OpenSpec.ofChange wheelsAlikeWrong)

/-- 'sackbutlaw08.WheelsMoves': WHATEVER THE INPUT: true; the input reads as it did. -/
def wheelsMovesSpec : ChangeSpec := { name := "wheelsMoves", fn := fun _ => fun
  | [d1, d2, d3] => { results := [.lit (.bool true)], args := [d1, d2, d3] }
  | _ => none }
def wheelsMovesRow : OpenClaim := { program := "ytcgaaebogkhefaa", sum := "df0cbbf5eb3cfd5ef2d494c6e883430cafb11899d4766ece835a6cce422aad36", func := "sackbut/sackbutlaw08.WheelsMoves", spec := "wheelsMoves", unfollowed := true, recurses := true, apart := false }
def WheelsMovesSaid : Prop := wheelsMovesRow.holds Try.pinned (OpenSpec.ofChange wheelsMovesSpec)

/-- ITS FALSE NEIGHBOUR: 'it returns false'. Refute it at one input. -/
def wheelsMovesWrong : ChangeSpec := { name := "wheelsMoves", fn := fun _ => fun
  | [d1, d2, d3] => { results := [.lit (.bool false)], args := [d1, d2, d3] }
  | _ => none }
def WheelsMovesWrongFalsely : Prop := wheelsMovesRow.holds Try.pinned (OpenSpec.ofChange wheelsMovesWrong)

/-- 'sackbutlaw08.WheelsSolves': WHATEVER THE INPUT: true; the input reads as it did. -/
def wheelsSolvesSpec : ChangeSpec := { name := "wheelsSolves", fn := fun _ => fun
  | [d1, d2, d3] => { results := [.lit (.bool true)], args := [d1, d2, d3] }
  | _ => none }
def wheelsSolvesRow : OpenClaim := { program := "ytcgaaebogkhefaa", sum := "df0cbbf5eb3cfd5ef2d494c6e883430cafb11899d4766ece835a6cce422aad36", func := "sackbut/sackbutlaw08.WheelsSolves", spec := "wheelsSolves", unfollowed := true, recurses := true, apart := false }
def WheelsSolvesSaid : Prop := wheelsSolvesRow.holds Try.pinned (OpenSpec.ofChange wheelsSolvesSpec)

/-- ITS FALSE NEIGHBOUR: 'it returns false'. Refute it at one input. -/
def wheelsSolvesWrong : ChangeSpec := { name := "wheelsSolves", fn := fun _ => fun
  | [d1, d2, d3] => { results := [.lit (.bool false)], args := [d1, d2, d3] }
  | _ => none }
def WheelsSolvesWrongFalsely : Prop := wheelsSolvesRow.holds Try.pinned (OpenSpec.ofChange wheelsSolvesWrong)

/-- 'sackbutlaw08.WheelsProducts': WHATEVER THE INPUT: true; the input reads as it did. -/
def wheelsProductsSpec : ChangeSpec := { name := "wheelsProducts", fn := fun _ => fun
  | [d1, d2, d3] => { results := [.lit (.bool true)], args := [d1, d2, d3] }
  | _ => none }
def wheelsProductsRow : OpenClaim := { program := "ytcgaaebogkhefaa", sum := "df0cbbf5eb3cfd5ef2d494c6e883430cafb11899d4766ece835a6cce422aad36", func := "sackbut/sackbutlaw08.WheelsProducts", spec := "wheelsProducts", unfollowed := true, recurses := true, apart := false }
def WheelsProductsSaid : Prop := wheelsProductsRow.holds Try.pinned (OpenSpec.ofChange wheelsProductsSpec)

/-- ITS FALSE NEIGHBOUR: 'it returns false'. Refute it at one input. -/
def wheelsProductsWrong : ChangeSpec := { name := "wheelsProducts", fn := fun _ => fun
  | [d1, d2, d3] => { results := [.lit (.bool false)], args := [d1, d2, d3] }
  | _ => none }
def WheelsProductsWrongFalsely : Prop := wheelsProductsRow.holds Try.pinned (OpenSpec.ofChange wheelsProductsWrong)

/-- 'sackbutlaw08.WheelsTurns': WHATEVER THE INPUT: true; the input reads as it did. -/
def wheelsTurnsSpec : ChangeSpec := { name := "wheelsTurns", fn := fun _ => fun
  | [d1, d2, d3] => { results := [.lit (.bool true)], args := [d1, d2, d3] }
  | _ => none }
def wheelsTurnsRow : OpenClaim := { program := "ytcgaaebogkhefaa", sum := "df0cbbf5eb3cfd5ef2d494c6e883430cafb11899d4766ece835a6cce422aad36", func := "sackbut/sackbutlaw08.WheelsTurns", spec := "wheelsTurns", unfollowed := true, recurses := true, apart := false }
def WheelsTurnsSaid : Prop := wheelsTurnsRow.holds Try.pinned (OpenSpec.ofChange wheelsTurnsSpec)

/-- ITS FALSE NEIGHBOUR: 'it returns false'. Refute it at one input. -/
def wheelsTurnsWrong : ChangeSpec := { name := "wheelsTurns", fn := fun _ => fun
  | [d1, d2, d3] => { results := [.lit (.bool false)], args := [d1, d2, d3] }
  | _ => none }
def WheelsTurnsWrongFalsely : Prop := wheelsTurnsRow.holds Try.pinned (OpenSpec.ofChange wheelsTurnsWrong)

/-- 'sackbutlaw08.WheelsEnergy': WHATEVER THE INPUT: true; the input reads as it did. -/
def wheelsEnergySpec : ChangeSpec := { name := "wheelsEnergy", fn := fun _ => fun
  | [d1, d2] => { results := [.lit (.bool true)], args := [d1, d2] }
  | _ => none }
def wheelsEnergyRow : OpenClaim := { program := "ytcgaaebogkhefaa", sum := "df0cbbf5eb3cfd5ef2d494c6e883430cafb11899d4766ece835a6cce422aad36", func := "sackbut/sackbutlaw08.WheelsEnergy", spec := "wheelsEnergy", unfollowed := true, recurses := true, apart := false }
def WheelsEnergySaid : Prop := wheelsEnergyRow.holds Try.pinned (OpenSpec.ofChange wheelsEnergySpec)

/-- ITS FALSE NEIGHBOUR: 'it returns false'. Refute it at one input. -/
def wheelsEnergyWrong : ChangeSpec := { name := "wheelsEnergy", fn := fun _ => fun
  | [d1, d2] => { results := [.lit (.bool false)], args := [d1, d2] }
  | _ => none }
def WheelsEnergyWrongFalsely : Prop := wheelsEnergyRow.holds Try.pinned (OpenSpec.ofChange wheelsEnergyWrong)

/-- 'sackbutlaw08.WheelsHeard': WHATEVER THE INPUT: true; the input reads as it did. -/
def wheelsHeardSpec : ChangeSpec := { name := "wheelsHeard", fn := fun _ => fun
  | [d1, d2, d3] => { results := [.lit (.bool true)], args := [d1, d2, d3] }
  | _ => none }
def wheelsHeardRow : OpenClaim := { program := "ytcgaaebogkhefaa", sum := "df0cbbf5eb3cfd5ef2d494c6e883430cafb11899d4766ece835a6cce422aad36", func := "sackbut/sackbutlaw08.WheelsHeard", spec := "wheelsHeard", unfollowed := true, recurses := true, apart := false }
def WheelsHeardSaid : Prop := wheelsHeardRow.holds Try.pinned (OpenSpec.ofChange wheelsHeardSpec)

/-- ITS FALSE NEIGHBOUR: 'it returns false'. Refute it at one input. -/
def wheelsHeardWrong : ChangeSpec := { name := "wheelsHeard", fn := fun _ => fun
  | [d1, d2, d3] => { results := [.lit (.bool false)], args := [d1, d2, d3] }
  | _ => none }
def WheelsHeardWrongFalsely : Prop := wheelsHeardRow.holds Try.pinned (OpenSpec.ofChange wheelsHeardWrong)

/-- 'sackbutlaw08.WheelsOthers': WHATEVER THE INPUT: true; the input reads as it did. -/
def wheelsOthersSpec : ChangeSpec := { name := "wheelsOthers", fn := fun _ => fun
  | [d1, d2] => { results := [.lit (.bool true)], args := [d1, d2] }
  | _ => none }
def wheelsOthersRow : OpenClaim := { program := "ytcgaaebogkhefaa", sum := "df0cbbf5eb3cfd5ef2d494c6e883430cafb11899d4766ece835a6cce422aad36", func := "sackbut/sackbutlaw08.WheelsOthers", spec := "wheelsOthers", unfollowed := true, recurses := true, apart := false }
def WheelsOthersSaid : Prop := wheelsOthersRow.holds Try.pinned (OpenSpec.ofChange wheelsOthersSpec)

/-- ITS FALSE NEIGHBOUR: 'it returns false'. Refute it at one input. -/
def wheelsOthersWrong : ChangeSpec := { name := "wheelsOthers", fn := fun _ => fun
  | [d1, d2] => { results := [.lit (.bool false)], args := [d1, d2] }
  | _ => none }
def WheelsOthersWrongFalsely : Prop := wheelsOthersRow.holds Try.pinned (OpenSpec.ofChange wheelsOthersWrong)

/-- 'sackbutlaw08.WheelsUndone': WHATEVER THE INPUT: true; the input reads as it did. -/
def wheelsUndoneSpec : ChangeSpec := { name := "wheelsUndone", fn := fun _ => fun
  | [d1, d2, d3] => { results := [.lit (.bool true)], args := [d1, d2, d3] }
  | _ => none }
def wheelsUndoneRow : OpenClaim := { program := "ytcgaaebogkhefaa", sum := "df0cbbf5eb3cfd5ef2d494c6e883430cafb11899d4766ece835a6cce422aad36", func := "sackbut/sackbutlaw08.WheelsUndone", spec := "wheelsUndone", unfollowed := true, recurses := true, apart := false }
def WheelsUndoneSaid : Prop := wheelsUndoneRow.holds Try.pinned (OpenSpec.ofChange wheelsUndoneSpec)

/-- ITS FALSE NEIGHBOUR: 'it returns false'. Refute it at one input. -/
def wheelsUndoneWrong : ChangeSpec := { name := "wheelsUndone", fn := fun _ => fun
  | [d1, d2, d3] => { results := [.lit (.bool false)], args := [d1, d2, d3] }
  | _ => none }
def WheelsUndoneWrongFalsely : Prop := wheelsUndoneRow.holds Try.pinned (OpenSpec.ofChange wheelsUndoneWrong)

/-- 'sackbutlaw08.WheelsSums': WHATEVER THE INPUT: true; the input reads as it did. -/
def wheelsSumsSpec : ChangeSpec := { name := "wheelsSums", fn := fun _ => fun
  | [d1, d2, d3] => { results := [.lit (.bool true)], args := [d1, d2, d3] }
  | _ => none }
def wheelsSumsRow : OpenClaim := { program := "ytcgaaebogkhefaa", sum := "df0cbbf5eb3cfd5ef2d494c6e883430cafb11899d4766ece835a6cce422aad36", func := "sackbut/sackbutlaw08.WheelsSums", spec := "wheelsSums", unfollowed := true, recurses := true, apart := false }
def WheelsSumsSaid : Prop := wheelsSumsRow.holds Try.pinned (OpenSpec.ofChange wheelsSumsSpec)

/-- ITS FALSE NEIGHBOUR: 'it returns false'. Refute it at one input. -/
def wheelsSumsWrong : ChangeSpec := { name := "wheelsSums", fn := fun _ => fun
  | [d1, d2, d3] => { results := [.lit (.bool false)], args := [d1, d2, d3] }
  | _ => none }
def WheelsSumsWrongFalsely : Prop := wheelsSumsRow.holds Try.pinned (OpenSpec.ofChange wheelsSumsWrong)

/- THE SECOND FORM. 'bulk': how many values and letters a reading holds, each counted each time it is reached (what is shared counts as often as it is met; a slice's spare places count too). A statement '..UptoSaid' is the law's where the arguments, and the package variables that the reading takes, are together of bulk at most 1048576: NARROWER than '..Said'. Prove '..Said' where nothing that the law and all that it calls make is longer than what came in: it says more and counts as full. Else prove '..UptoSaid'. A law counts once. -/
mutual
def uptoBulk {H : Type} : DataW H → Nat
  | .lit (.string bytes) => bytes.length + 1
  | .lit _ => 1
  | .nil => 1
  | .ptr d => uptoBulk d + 1
  | .slice elems spare => uptoBulkAll elems + uptoBulkAll spare + 1
  | .agg parts => uptoBulkAll parts + 1
  | .iface _ d => uptoBulk d + 1
  | .map entries => uptoBulkEntries entries + 1
  | .held _ => 1
def uptoBulkAll {H : Type} : List (DataW H) → Nat
  | [] => 0
  | d :: r => uptoBulk d + uptoBulkAll r
def uptoBulkEntries {H : Type} : List (Lit × DataW H) → Nat
  | [] => 0
  | x :: r => uptoBulkEntry x + uptoBulkEntries r
def uptoBulkEntry {H : Type} : Lit × DataW H → Nat
  | (.string bytes, d) => bytes.length + uptoBulk d + 1
  | (_, d) => uptoBulk d + 1
 end
def uptoSmall : (H : Type) → List (DataW H) → Bool := fun _ ds => decide (uptoBulkAll ds ≤ 1048576)
def OpenSpec.upto (s : _root_.Go.ChangeSpec) : _root_.Go.OpenSpec := { _root_.Go.OpenSpec.ofChange s with cond := some uptoSmall }

/-- 'sackbutlaw08.WheelsPrimes', WHERE WHAT IT READS IS OF BULK AT MOST 1048576: true; the input reads as it did. -/
def wheelsPrimesUptoRow : OpenClaim := { program := "ytcgaaebogkhefaa", sum := "df0cbbf5eb3cfd5ef2d494c6e883430cafb11899d4766ece835a6cce422aad36", func := "sackbut/sackbutlaw08.WheelsPrimes", spec := "wheelsPrimes", unfollowed := true, recurses := true, apart := false, narrowed := true }
def WheelsPrimesUptoSaid : Prop := wheelsPrimesUptoRow.holds Try.pinned (OpenSpec.upto wheelsPrimesSpec)

/-- 'sackbutlaw08.WheelsSpectra', WHERE WHAT IT READS IS OF BULK AT MOST 1048576: true; the input reads as it did. -/
def wheelsSpectraUptoRow : OpenClaim := { program := "ytcgaaebogkhefaa", sum := "df0cbbf5eb3cfd5ef2d494c6e883430cafb11899d4766ece835a6cce422aad36", func := "sackbut/sackbutlaw08.WheelsSpectra", spec := "wheelsSpectra", unfollowed := true, recurses := true, apart := false, narrowed := true }
def WheelsSpectraUptoSaid : Prop := wheelsSpectraUptoRow.holds Try.pinned (OpenSpec.upto wheelsSpectraSpec)

/-- 'sackbutlaw08.WheelsTimes', WHERE WHAT IT READS IS OF BULK AT MOST 1048576: true; the input reads as it did. -/
def wheelsTimesUptoRow : OpenClaim := { program := "ytcgaaebogkhefaa", sum := "df0cbbf5eb3cfd5ef2d494c6e883430cafb11899d4766ece835a6cce422aad36", func := "sackbut/sackbutlaw08.WheelsTimes", spec := "wheelsTimes", unfollowed := true, recurses := true, apart := false, narrowed := true }
def WheelsTimesUptoSaid : Prop := wheelsTimesUptoRow.holds Try.pinned (OpenSpec.upto wheelsTimesSpec)

/-- 'sackbutlaw08.WheelsChords', WHERE WHAT IT READS IS OF BULK AT MOST 1048576: true; the input reads as it did. -/
def wheelsChordsUptoRow : OpenClaim := { program := "ytcgaaebogkhefaa", sum := "df0cbbf5eb3cfd5ef2d494c6e883430cafb11899d4766ece835a6cce422aad36", func := "sackbut/sackbutlaw08.WheelsChords", spec := "wheelsChords", unfollowed := true, recurses := true, apart := false, narrowed := true }
def WheelsChordsUptoSaid : Prop := wheelsChordsUptoRow.holds Try.pinned (OpenSpec.upto wheelsChordsSpec)

/-- 'sackbutlaw08.WheelsAlike', WHERE WHAT IT READS IS OF BULK AT MOST 1048576: true; the input reads as it did. -/
def wheelsAlikeUptoRow : OpenClaim := { program := "ytcgaaebogkhefaa", sum := "df0cbbf5eb3cfd5ef2d494c6e883430cafb11899d4766ece835a6cce422aad36", func := "sackbut/sackbutlaw08.WheelsAlike", spec := "wheelsAlike", unfollowed := true, recurses := true, apart := false, narrowed := true }
def WheelsAlikeUptoSaid : Prop := wheelsAlikeUptoRow.holds Try.pinned (OpenSpec.upto wheelsAlikeSpec)

/-- 'sackbutlaw08.WheelsMoves', WHERE WHAT IT READS IS OF BULK AT MOST 1048576: true; the input reads as it did. -/
def wheelsMovesUptoRow : OpenClaim := { program := "ytcgaaebogkhefaa", sum := "df0cbbf5eb3cfd5ef2d494c6e883430cafb11899d4766ece835a6cce422aad36", func := "sackbut/sackbutlaw08.WheelsMoves", spec := "wheelsMoves", unfollowed := true, recurses := true, apart := false, narrowed := true }
def WheelsMovesUptoSaid : Prop := wheelsMovesUptoRow.holds Try.pinned (OpenSpec.upto wheelsMovesSpec)

/-- 'sackbutlaw08.WheelsSolves', WHERE WHAT IT READS IS OF BULK AT MOST 1048576: true; the input reads as it did. -/
def wheelsSolvesUptoRow : OpenClaim := { program := "ytcgaaebogkhefaa", sum := "df0cbbf5eb3cfd5ef2d494c6e883430cafb11899d4766ece835a6cce422aad36", func := "sackbut/sackbutlaw08.WheelsSolves", spec := "wheelsSolves", unfollowed := true, recurses := true, apart := false, narrowed := true }
def WheelsSolvesUptoSaid : Prop := wheelsSolvesUptoRow.holds Try.pinned (OpenSpec.upto wheelsSolvesSpec)

/-- 'sackbutlaw08.WheelsProducts', WHERE WHAT IT READS IS OF BULK AT MOST 1048576: true; the input reads as it did. -/
def wheelsProductsUptoRow : OpenClaim := { program := "ytcgaaebogkhefaa", sum := "df0cbbf5eb3cfd5ef2d494c6e883430cafb11899d4766ece835a6cce422aad36", func := "sackbut/sackbutlaw08.WheelsProducts", spec := "wheelsProducts", unfollowed := true, recurses := true, apart := false, narrowed := true }
def WheelsProductsUptoSaid : Prop := wheelsProductsUptoRow.holds Try.pinned (OpenSpec.upto wheelsProductsSpec)

/-- 'sackbutlaw08.WheelsTurns', WHERE WHAT IT READS IS OF BULK AT MOST 1048576: true; the input reads as it did. -/
def wheelsTurnsUptoRow : OpenClaim := { program := "ytcgaaebogkhefaa", sum := "df0cbbf5eb3cfd5ef2d494c6e883430cafb11899d4766ece835a6cce422aad36", func := "sackbut/sackbutlaw08.WheelsTurns", spec := "wheelsTurns", unfollowed := true, recurses := true, apart := false, narrowed := true }
def WheelsTurnsUptoSaid : Prop := wheelsTurnsUptoRow.holds Try.pinned (OpenSpec.upto wheelsTurnsSpec)

/-- 'sackbutlaw08.WheelsEnergy', WHERE WHAT IT READS IS OF BULK AT MOST 1048576: true; the input reads as it did. -/
def wheelsEnergyUptoRow : OpenClaim := { program := "ytcgaaebogkhefaa", sum := "df0cbbf5eb3cfd5ef2d494c6e883430cafb11899d4766ece835a6cce422aad36", func := "sackbut/sackbutlaw08.WheelsEnergy", spec := "wheelsEnergy", unfollowed := true, recurses := true, apart := false, narrowed := true }
def WheelsEnergyUptoSaid : Prop := wheelsEnergyUptoRow.holds Try.pinned (OpenSpec.upto wheelsEnergySpec)

/-- 'sackbutlaw08.WheelsHeard', WHERE WHAT IT READS IS OF BULK AT MOST 1048576: true; the input reads as it did. -/
def wheelsHeardUptoRow : OpenClaim := { program := "ytcgaaebogkhefaa", sum := "df0cbbf5eb3cfd5ef2d494c6e883430cafb11899d4766ece835a6cce422aad36", func := "sackbut/sackbutlaw08.WheelsHeard", spec := "wheelsHeard", unfollowed := true, recurses := true, apart := false, narrowed := true }
def WheelsHeardUptoSaid : Prop := wheelsHeardUptoRow.holds Try.pinned (OpenSpec.upto wheelsHeardSpec)

/-- 'sackbutlaw08.WheelsOthers', WHERE WHAT IT READS IS OF BULK AT MOST 1048576: true; the input reads as it did. -/
def wheelsOthersUptoRow : OpenClaim := { program := "ytcgaaebogkhefaa", sum := "df0cbbf5eb3cfd5ef2d494c6e883430cafb11899d4766ece835a6cce422aad36", func := "sackbut/sackbutlaw08.WheelsOthers", spec := "wheelsOthers", unfollowed := true, recurses := true, apart := false, narrowed := true }
def WheelsOthersUptoSaid : Prop := wheelsOthersUptoRow.holds Try.pinned (OpenSpec.upto wheelsOthersSpec)

/-- 'sackbutlaw08.WheelsUndone', WHERE WHAT IT READS IS OF BULK AT MOST 1048576: true; the input reads as it did. -/
def wheelsUndoneUptoRow : OpenClaim := { program := "ytcgaaebogkhefaa", sum := "df0cbbf5eb3cfd5ef2d494c6e883430cafb11899d4766ece835a6cce422aad36", func := "sackbut/sackbutlaw08.WheelsUndone", spec := "wheelsUndone", unfollowed := true, recurses := true, apart := false, narrowed := true }
def WheelsUndoneUptoSaid : Prop := wheelsUndoneUptoRow.holds Try.pinned (OpenSpec.upto wheelsUndoneSpec)

/-- 'sackbutlaw08.WheelsSums', WHERE WHAT IT READS IS OF BULK AT MOST 1048576: true; the input reads as it did. -/
def wheelsSumsUptoRow : OpenClaim := { program := "ytcgaaebogkhefaa", sum := "df0cbbf5eb3cfd5ef2d494c6e883430cafb11899d4766ece835a6cce422aad36", func := "sackbut/sackbutlaw08.WheelsSums", spec := "wheelsSums", unfollowed := true, recurses := true, apart := false, narrowed := true }
def WheelsSumsUptoSaid : Prop := wheelsSumsUptoRow.holds Try.pinned (OpenSpec.upto wheelsSumsSpec)

end Rows
end Go.Proofs.Ytcgaaebogkhefaa
