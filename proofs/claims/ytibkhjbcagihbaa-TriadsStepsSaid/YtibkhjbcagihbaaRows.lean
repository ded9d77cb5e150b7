/-
  No cell of these rows narrows 'for every input' (looked for: loops, veiled, ifaces, maps, wideKeys, modest, calm, conditions, laid).
  DERIVED. THE GIVEN ROWS OF THIS SEAT. 12 by the template 'for every input the law returns true; each argument reads behind the call as it read before'; 0 by the template 'total and deterministic' (their statements: YtibkhjbcagihbaaTotals.lean).
  GIVEN WITH THE SEED: the statements are not yours to turn. If you find one false, say at which input.
  Laid BY PROGRAM, IN A SANDBOX (cutbox-rows.mjs): the forced cells as the released guide's own fill.sh prints them over the translation 33a731ccf82d53bc… (all of the seat's roots in one cut). By AI agents, Wed Nov 11 2026. No macro, syntax, notation, axiom, sorry.
-/
import Derived.Test.YtibkhjbcagihbaaChecked
import GoSem.Claim
import GoSem.ClaimJoined
import GoSem.ClaimMapViews
import Derived.JoinedTies
import Derived.KernelRfl
namespace Go.Proofs.Ytibkhjbcagihbaa
/- THE CELL 'sum', in the pinned program and in every row, IS THE sha256 OF THE DUMP (.gsa) THAT YtibkhjbcagihbaaProg.lean LOADS. Nothing in Lean hashes anything: it is a label: what it is worth is what the hold of that sum in a sandbox is worth. -/
noncomputable def Try.pinned : Pinned := { name := "ytibkhjbcagihbaa", sum := "33a731ccf82d53bc1e55156224cc51072ff51b5b4f94efe10d82e400e810db71", checked := Try.checked }
namespace Rows
def none {H : Type} : Left H := { results := [], args := [] }

/-- 'sackbutlaw04.TriadsWalks': WHATEVER THE INPUT: true; the input reads as it did. -/
def triadsWalksSpec : ChangeSpec := { name := "triadsWalks", fn := fun _ => fun
  | [d1, d2, d3] => { results := [.lit (.bool true)], args := [d1, d2, d3] }
  | _ => none }
def triadsWalksRow : OpenClaim := { program := "ytibkhjbcagihbaa", sum := "33a731ccf82d53bc1e55156224cc51072ff51b5b4f94efe10d82e400e810db71", func := "sackbut/sackbutlaw04.TriadsWalks", spec := "triadsWalks", inPlace := ["internal/bytealg.IndexByteString", "internal/bytealg.IndexString"], named := ["internal/bytealg.MaxLen"], apart := false }
def TriadsWalksSaid : Prop := triadsWalksRow.holds Try.pinned (OpenSpec.ofChange triadsWalksSpec)

/-- ITS FALSE NEIGHBOUR: 'it returns false'. Refute it at one input. -/
def triadsWalksWrong : ChangeSpec := { name := "triadsWalks", fn := fun _ => fun
  | [d1, d2, d3] => { results := [.lit (.bool false)], args := [d1, d2, d3] }
  | _ => none }
def TriadsWalksWrongFalsely : Prop := triadsWalksRow.holds Try.pinned (OpenSpec.ofChange triadsWalksWrong)

/-- 'sackbutlaw04.TriadsShifts': WHATEVER THE INPUT: true; the input reads as it did. -/
def triadsShiftsSpec : ChangeSpec := { name := "triadsShifts", fn := fun _ => fun
  | [d1, d2, d3, d4] => { results := [.lit (.bool true)], args := [d1, d2, d3, d4] }
  | _ => none }
def triadsShiftsRow : OpenClaim := { program := "ytibkhjbcagihbaa", sum := "33a731ccf82d53bc1e55156224cc51072ff51b5b4f94efe10d82e400e810db71", func := "sackbut/sackbutlaw04.TriadsShifts", spec := "triadsShifts", inPlace := ["internal/bytealg.IndexByteString", "internal/bytealg.IndexString"], named := ["internal/bytealg.MaxLen"], apart := false }
def TriadsShiftsSaid : Prop := triadsShiftsRow.holds Try.pinned (OpenSpec.ofChange triadsShiftsSpec)

/-- ITS FALSE NEIGHBOUR: 'it returns false'. Refute it at one input. -/
def triadsShiftsWrong : ChangeSpec := { name := "triadsShifts", fn := fun _ => fun
  | [d1, d2, d3, d4] => { results := [.lit (.bool false)], args := [d1, d2, d3, d4] }
  | _ => none }
def TriadsShiftsWrongFalsely : Prop := triadsShiftsRow.holds Try.pinned (OpenSpec.ofChange triadsShiftsWrong)

/-- 'sackbutlaw04.TriadsWays': WHATEVER THE INPUT: true; the input reads as it did. -/
def triadsWaysSpec : ChangeSpec := { name := "triadsWays", fn := fun _ => fun
  | [d1, d2, d3] => { results := [.lit (.bool true)], args := [d1, d2, d3] }
  | _ => none }
def triadsWaysRow : OpenClaim := { program := "ytibkhjbcagihbaa", sum := "33a731ccf82d53bc1e55156224cc51072ff51b5b4f94efe10d82e400e810db71", func := "sackbut/sackbutlaw04.TriadsWays", spec := "triadsWays", inPlace := ["internal/bytealg.IndexByteString", "internal/bytealg.IndexString"], named := ["internal/bytealg.MaxLen"], apart := false }
def TriadsWaysSaid : Prop := triadsWaysRow.holds Try.pinned (OpenSpec.ofChange triadsWaysSpec)

/-- ITS FALSE NEIGHBOUR: 'it returns false'. Refute it at one input. -/
def triadsWaysWrong : ChangeSpec := { name := "triadsWays", fn := fun _ => fun
  | [d1, d2, d3] => { results := [.lit (.bool false)], args := [d1, d2, d3] }
  | _ => none }
def TriadsWaysWrongFalsely : Prop := triadsWaysRow.holds Try.pinned (OpenSpec.ofChange triadsWaysWrong)

/-- 'sackbutlaw04.TriadsAlike': WHATEVER THE INPUT: true; the input reads as it did. -/
def triadsAlikeSpec : ChangeSpec := { name := "triadsAlike", fn := fun _ => fun
  | [d1, d2, d3] => { results := [.lit (.bool true)], args := [d1, d2, d3] }
  | _ => none }
def triadsAlikeRow : OpenClaim := { program := "ytibkhjbcagihbaa", sum := "33a731ccf82d53bc1e55156224cc51072ff51b5b4f94efe10d82e400e810db71", func := "sackbut/sackbutlaw04.TriadsAlike", spec := "triadsAlike", inPlace := ["internal/bytealg.IndexByteString", "internal/bytealg.IndexString"], named := ["internal/bytealg.MaxLen"], apart := false }
def TriadsAlikeSaid : Prop := triadsAlikeRow.holds Try.pinned (OpenSpec.ofChange triadsAlikeSpec)

/-- ITS FALSE NEIGHBOUR: 'it returns false'. Refute it at one input. -/
def triadsAlikeWrong : ChangeSpec := { name := "triadsAlike", fn := fun _ => fun
  | [d1, d2, d3] => { results := [.lit (.bool false)], args := [d1, d2, d3] }
  | _ => none }
def TriadsAlikeWrongFalsely : Prop := triadsAlikeRow.holds Try.pinned (OpenSpec.ofChange triadsAlikeWrong)

/-- 'sackbutlaw04.TriadsRounds': WHATEVER THE INPUT: true; the input reads as it did. -/
def triadsRoundsSpec : ChangeSpec := { name := "triadsRounds", fn := fun _ => fun
  | [d1, d2, d3] => { results := [.lit (.bool true)], args := [d1, d2, d3] }
  | _ => none }
def triadsRoundsRow : OpenClaim := { program := "ytibkhjbcagihbaa", sum := "33a731ccf82d53bc1e55156224cc51072ff51b5b4f94efe10d82e400e810db71", func := "sackbut/sackbutlaw04.TriadsRounds", spec := "triadsRounds", inPlace := ["internal/bytealg.IndexByteString", "internal/bytealg.IndexString"], unfollowed := true, recurses := true, named := ["internal/bytealg.MaxLen"], apart := false }
def TriadsRoundsSaid : Prop := triadsRoundsRow.holds Try.pinned (OpenSpec.ofChange triadsRoundsSpec)

/-- ITS FALSE NEIGHBOUR: 'it returns false'. Refute it at one input. -/
def triadsRoundsWrong : ChangeSpec := { name := "triadsRounds", fn := fun _ => fun
  | [d1, d2, d3] => { results := [.lit (.bool false)], args := [d1, d2, d3] }
  | _ => none }
def TriadsRoundsWrongFalsely : Prop := triadsRoundsRow.holds Try.pinned (OpenSpec.ofChange triadsRoundsWrong)

/-- 'sackbutlaw04.TriadsTours': WHATEVER THE INPUT: true; the input reads as it did. -/
def triadsToursSpec : ChangeSpec := { name := "triadsTours", fn := fun _ => fun
  | [d1, d2] => { results := [.lit (.bool true)], args := [d1, d2] }
  | _ => none }
def triadsToursRow : OpenClaim := { program := "ytibkhjbcagihbaa", sum := "33a731ccf82d53bc1e55156224cc51072ff51b5b4f94efe10d82e400e810db71", func := "sackbut/sackbutlaw04.TriadsTours", spec := "triadsTours", inPlace := ["internal/bytealg.IndexByteString", "internal/bytealg.IndexString"], named := ["internal/bytealg.MaxLen"], apart := false }
def TriadsToursSaid : Prop := triadsToursRow.holds Try.pinned (OpenSpec.ofChange triadsToursSpec)

/-- ITS FALSE NEIGHBOUR: 'it returns false'. Refute it at one input. -/
def triadsToursWrong : ChangeSpec := { name := "triadsTours", fn := fun _ => fun
  | [d1, d2] => { results := [.lit (.bool false)], args := [d1, d2] }
  | _ => none }
def TriadsToursWrongFalsely : Prop := triadsToursRow.holds Try.pinned (OpenSpec.ofChange triadsToursWrong)

/-- 'sackbutlaw04.TriadsSteps': WHATEVER THE INPUT: true; the input reads as it did. -/
def triadsStepsSpec : ChangeSpec := { name := "triadsSteps", fn := fun _ => fun
  | [d1, d2] => { results := [.lit (.bool true)], args := [d1, d2] }
  | _ => none }
def triadsStepsRow : OpenClaim := { program := "ytibkhjbcagihbaa", sum := "33a731ccf82d53bc1e55156224cc51072ff51b5b4f94efe10d82e400e810db71", func := "sackbut/sackbutlaw04.TriadsSteps", spec := "triadsSteps", inPlace := ["internal/bytealg.IndexByteString", "internal/bytealg.IndexString"], named := ["internal/bytealg.MaxLen"], apart := false }
def TriadsStepsSaid : Prop := triadsStepsRow.holds Try.pinned (OpenSpec.ofChange triadsStepsSpec)

/-- ITS FALSE NEIGHBOUR: 'it returns false'. Refute it at one input. -/
def triadsStepsWrong : ChangeSpec := { name := "triadsSteps", fn := fun _ => fun
  | [d1, d2] => { results := [.lit (.bool false)], args := [d1, d2] }
  | _ => none }
def TriadsStepsWrongFalsely : Prop := triadsStepsRow.holds Try.pinned (OpenSpec.ofChange triadsStepsWrong)

/-- 'sackbutlaw04.TriadsDuals': WHATEVER THE INPUT: true; the input reads as it did. -/
def triadsDualsSpec : ChangeSpec := { name := "triadsDuals", fn := fun _ => fun
  | [d1, d2, d3, d4, d5] => { results := [.lit (.bool true)], args := [d1, d2, d3, d4, d5] }
  | _ => none }
def triadsDualsRow : OpenClaim := { program := "ytibkhjbcagihbaa", sum := "33a731ccf82d53bc1e55156224cc51072ff51b5b4f94efe10d82e400e810db71", func := "sackbut/sackbutlaw04.TriadsDuals", spec := "triadsDuals", inPlace := ["internal/bytealg.IndexByteString", "internal/bytealg.IndexString"], named := ["internal/bytealg.MaxLen"], apart := false }
def TriadsDualsSaid : Prop := triadsDualsRow.holds Try.pinned (OpenSpec.ofChange triadsDualsSpec)

/-- ITS FALSE NEIGHBOUR: 'it returns false'. Refute it at one input. -/
def triadsDualsWrong : ChangeSpec := { name := "triadsDuals", fn := fun _ => fun
  | [d1, d2, d3, d4, d5] => { results := [.lit (.bool false)], args := [d1, d2, d3, d4, d5] }
  | _ => none }
def TriadsDualsWrongFalsely : Prop := triadsDualsRow.holds Try.pinned (OpenSpec.ofChange triadsDualsWrong)

/-- 'sackbutlaw04.TriadsSizes': WHATEVER THE INPUT: true; the input reads as it did. -/
def triadsSizesSpec : ChangeSpec := { name := "triadsSizes", fn := fun _ => fun
  | [d1, d2, d3, d4] => { results := [.lit (.bool true)], args := [d1, d2, d3, d4] }
  | _ => none }
def triadsSizesRow : OpenClaim := { program := "ytibkhjbcagihbaa", sum := "33a731ccf82d53bc1e55156224cc51072ff51b5b4f94efe10d82e400e810db71", func := "sackbut/sackbutlaw04.TriadsSizes", spec := "triadsSizes", inPlace := ["internal/bytealg.IndexByteString", "internal/bytealg.IndexString"], unfollowed := true, recurses := true, named := ["internal/bytealg.MaxLen"], apart := false }
def TriadsSizesSaid : Prop := triadsSizesRow.holds Try.pinned (OpenSpec.ofChange triadsSizesSpec)

/-- ITS FALSE NEIGHBOUR: 'it returns false'. Refute it at one input. -/
def triadsSizesWrong : ChangeSpec := { name := "triadsSizes", fn := fun _ => fun
  | [d1, d2, d3, d4] => { results := [.lit (.bool false)], args := [d1, d2, d3, d4] }
  | _ => none }
def TriadsSizesWrongFalsely : Prop := triadsSizesRow.holds Try.pinned (OpenSpec.ofChange triadsSizesWrong)

/-- 'sackbutlaw04.TriadsPairs': WHATEVER THE INPUT: true; the input reads as it did. -/
def triadsPairsSpec : ChangeSpec := { name := "triadsPairs", fn := fun _ => fun
  | [d1, d2] => { results := [.lit (.bool true)], args := [d1, d2] }
  | _ => none }
def triadsPairsRow : OpenClaim := { program := "ytibkhjbcagihbaa", sum := "33a731ccf82d53bc1e55156224cc51072ff51b5b4f94efe10d82e400e810db71", func := "sackbut/sackbutlaw04.TriadsPairs", spec := "triadsPairs", inPlace := ["internal/bytealg.IndexByteString", "internal/bytealg.IndexString"], unfollowed := true, recurses := true, named := ["internal/bytealg.MaxLen"], apart := false }
def TriadsPairsSaid : Prop := triadsPairsRow.holds Try.pinned (OpenSpec.ofChange triadsPairsSpec)

/-- ITS FALSE NEIGHBOUR: 'it returns false'. Refute it at one input. -/
def triadsPairsWrong : ChangeSpec := { name := "triadsPairs", fn := fun _ => fun
  | [d1, d2] => { results := [.lit (.bool false)], args := [d1, d2] }
  | _ => none }
def TriadsPairsWrongFalsely : Prop := triadsPairsRow.holds Try.pinned (OpenSpec.ofChange triadsPairsWrong)

/-- 'sackbutlaw04.TriadsVisits': WHATEVER THE INPUT: true; the input reads as it did. -/
def triadsVisitsSpec : ChangeSpec := { name := "triadsVisits", fn := fun _ => fun
  | [d1, d2] => { results := [.lit (.bool true)], args := [d1, d2] }
  | _ => none }
def triadsVisitsRow : OpenClaim := { program := "ytibkhjbcagihbaa", sum := "33a731ccf82d53bc1e55156224cc51072ff51b5b4f94efe10d82e400e810db71", func := "sackbut/sackbutlaw04.TriadsVisits", spec := "triadsVisits", inPlace := ["internal/bytealg.IndexByteString", "internal/bytealg.IndexString", "internal/abi.NoEscape", "internal/bytealg.MakeNoZero"], named := ["internal/bytealg.MaxLen"], apart := false }
def TriadsVisitsSaid : Prop := triadsVisitsRow.holds Try.pinned (OpenSpec.ofChange triadsVisitsSpec)

/-- ITS FALSE NEIGHBOUR: 'it returns false'. Refute it at one input. -/
def triadsVisitsWrong : ChangeSpec := { name := "triadsVisits", fn := fun _ => fun
  | [d1, d2] => { results := [.lit (.bool false)], args := [d1, d2] }
  | _ => none }
def TriadsVisitsWrongFalsely : Prop := triadsVisitsRow.holds Try.pinned (OpenSpec.ofChange triadsVisitsWrong)

/-- 'sackbutlaw04.TriadsFar': WHATEVER THE INPUT: true; the input reads as it did. -/
def triadsFarSpec : ChangeSpec := { name := "triadsFar", fn := fun _ => fun
  | [d1, d2, d3] => { results := [.lit (.bool true)], args := [d1, d2, d3] }
  | _ => none }
def triadsFarRow : OpenClaim := { program := "ytibkhjbcagihbaa", sum := "33a731ccf82d53bc1e55156224cc51072ff51b5b4f94efe10d82e400e810db71", func := "sackbut/sackbutlaw04.TriadsFar", spec := "triadsFar", inPlace := ["internal/bytealg.IndexByteString", "internal/bytealg.IndexString"], named := ["internal/bytealg.MaxLen"], apart := false }
def TriadsFarSaid : Prop := triadsFarRow.holds Try.pinned (OpenSpec.ofChange triadsFarSpec)

/-- ITS FALSE NEIGHBOUR: 'it returns false'. Refute it at one input. -/
def triadsFarWrong : ChangeSpec := { name := "triadsFar", fn := fun _ => fun
  | [d1, d2, d3] => { results := [.lit (.bool false)], args := [d1, d2, d3] }
  | _ => none }
def TriadsFarWrongFalsely : Prop := triadsFarRow.holds Try.pinned (OpenSpec.ofChange triadsFarWrong)

/- THE SECOND FORM. 'bulk': how many values and letters a reading holds, each counted each time it is reached (what is shared counts as often as it is met; a slice's spare places count too). A statement '..UptoSaid' is the law's where the arguments, and the package variables that the reading takes, are together of bulk at most 1048576: NARROWER than '..Said'. Prove '..Said' where nothing that the law and all that it calls make is longer than what came in: it says more and counts as full. Else prove '..UptoSaid'. A law counts once. -/
mutual
def uptoBulk {H : Type} : DataW H → Nat
  | .lit (.string bytes) => bytes.length + 1
  | .lit _ => 1
  | .nil => 1
  | .ptr d => uptoBulk d + 1
  | .slice elems spare => uptoBulkAll elems + uptoBulkAll spare + 1
  | .agg parts => uptoBulkAll parts + 1
  | .iface _ d => uptoBulk d + 1
  | .map entries => uptoBulkEntries entries + 1
  | .held _ => 1
def uptoBulkAll {H : Type} : List (DataW H) → Nat
  | [] => 0
  | d :: r => uptoBulk d + uptoBulkAll r
def uptoBulkEntries {H : Type} : List (Lit × DataW H) → Nat
  | [] => 0
  | x :: r => uptoBulkEntry x + uptoBulkEntries r
def uptoBulkEntry {H : Type} : Lit × DataW H → Nat
  | (.string bytes, d) => bytes.length + uptoBulk d + 1
  | (_, d) => uptoBulk d + 1
 end
def uptoSmall : (H : Type) → List (DataW H) → Bool := fun _ ds => decide (uptoBulkAll ds ≤ 1048576)
def OpenSpec.upto (s : _root_.Go.ChangeSpec) : _root_.Go.OpenSpec := { _root_.Go.OpenSpec.ofChange s with cond := some uptoSmall }

/-- 'sackbutlaw04.TriadsWalks', WHERE WHAT IT READS IS OF BULK AT MOST 1048576: true; the input reads as it did. -/
def triadsWalksUptoRow : OpenClaim := { program := "ytibkhjbcagihbaa", sum := "33a731ccf82d53bc1e55156224cc51072ff51b5b4f94efe10d82e400e810db71", func := "sackbut/sackbutlaw04.TriadsWalks", spec := "triadsWalks", inPlace := ["internal/bytealg.IndexByteString", "internal/bytealg.IndexString"], named := ["internal/bytealg.MaxLen"], apart := false, narrowed := true }
def TriadsWalksUptoSaid : Prop := triadsWalksUptoRow.holds Try.pinned (OpenSpec.upto triadsWalksSpec)

/-- 'sackbutlaw04.TriadsShifts', WHERE WHAT IT READS IS OF BULK AT MOST 1048576: true; the input reads as it did. -/
def triadsShiftsUptoRow : OpenClaim := { program := "ytibkhjbcagihbaa", sum := "33a731ccf82d53bc1e55156224cc51072ff51b5b4f94efe10d82e400e810db71", func := "sackbut/sackbutlaw04.TriadsShifts", spec := "triadsShifts", inPlace := ["internal/bytealg.IndexByteString", "internal/bytealg.IndexString"], named := ["internal/bytealg.MaxLen"], apart := false, narrowed := true }
def TriadsShiftsUptoSaid : Prop := triadsShiftsUptoRow.holds Try.pinned (OpenSpec.upto triadsShiftsSpec)

/-- 'sackbutlaw04.TriadsWays', WHERE WHAT IT READS IS OF BULK AT MOST 1048576: true; the input reads as it did. -/
def triadsWaysUptoRow : OpenClaim := { program := "ytibkhjbcagihbaa", sum := "33a731ccf82d53bc1e55156224cc51072ff51b5b4f94efe10d82e400e810db71", func := "sackbut/sackbutlaw04.TriadsWays", spec := "triadsWays", inPlace := ["internal/bytealg.IndexByteString", "internal/bytealg.IndexString"], named := ["internal/bytealg.MaxLen"], apart := false, narrowed := true }
def TriadsWaysUptoSaid : Prop := triadsWaysUptoRow.holds Try.pinned (OpenSpec.upto triadsWaysSpec)

/-- 'sackbutlaw04.TriadsAlike', WHERE WHAT IT READS IS OF BULK AT MOST 1048576: true; the input reads as it did. -/
def triadsAlikeUptoRow : OpenClaim := { program := "ytibkhjbcagihbaa", sum := "33a731ccf82d53bc1e55156224cc51072ff51b5b4f94efe10d82e400e810db71", func := "sackbut/sackbutlaw04.TriadsAlike", spec := "triadsAlike", inPlace := ["internal/bytealg.IndexByteString", "internal/bytealg.IndexString"], named := ["internal/bytealg.MaxLen"], apart := false, narrowed := true }
def TriadsAlikeUptoSaid : Prop := triadsAlikeUptoRow.holds Try.pinned (OpenSpec.upto triadsAlikeSpec)

/-- 'sackbutlaw04.TriadsRounds', WHERE WHAT IT READS IS OF BULK AT MOST 1048576: true; the input reads as it did. -/
def triadsRoundsUptoRow : OpenClaim := { program := "ytibkhjbcagihbaa", sum := "33a731ccf82d53bc1e55156224cc51072ff51b5b4f94efe10d82e400e810db71", func := "sackbut/sackbutlaw04.TriadsRounds", spec := "triadsRounds", inPlace := ["internal/bytealg.IndexByteString", "internal/bytealg.IndexString"], unfollowed := true, recurses := true, named := ["internal/bytealg.MaxLen"], apart := false, narrowed := true }
def TriadsRoundsUptoSaid : Prop := triadsRoundsUptoRow.holds Try.pinned (OpenSpec.upto triadsRoundsSpec)

/-- 'sackbutlaw04.TriadsTours', WHERE WHAT IT READS IS OF BULK AT MOST 1048576: true; the input reads as it did. -/
def triadsToursUptoRow : OpenClaim := { program := "ytibkhjbcagihbaa", sum := "33a731ccf82d53bc1e55156224cc51072ff51b5b4f94efe10d82e400e810db71", func := "sackbut/sackbutlaw04.TriadsTours", spec := "triadsTours", inPlace := ["internal/bytealg.IndexByteString", "internal/bytealg.IndexString"], named := ["internal/bytealg.MaxLen"], apart := false, narrowed := true }
def TriadsToursUptoSaid : Prop := triadsToursUptoRow.holds Try.pinned (OpenSpec.upto triadsToursSpec)

/-- 'sackbutlaw04.TriadsSteps', WHERE WHAT IT READS IS OF BULK AT MOST 1048576: true; the input reads as it did. -/
def triadsStepsUptoRow : OpenClaim := { program := "ytibkhjbcagihbaa", sum := "33a731ccf82d53bc1e55156224cc51072ff51b5b4f94efe10d82e400e810db71", func := "sackbut/sackbutlaw04.TriadsSteps", spec := "triadsSteps", inPlace := ["internal/bytealg.IndexByteString", "internal/bytealg.IndexString"], named := ["internal/bytealg.MaxLen"], apart := false, narrowed := true }
def TriadsStepsUptoSaid : Prop := triadsStepsUptoRow.holds Try.pinned (OpenSpec.upto triadsStepsSpec)

/-- 'sackbutlaw04.TriadsDuals', WHERE WHAT IT READS IS OF BULK AT MOST 1048576: true; the input reads as it did. -/
def triadsDualsUptoRow : OpenClaim := { program := "ytibkhjbcagihbaa", sum := "33a731ccf82d53bc1e55156224cc51072ff51b5b4f94efe10d82e400e810db71", func := "sackbut/sackbutlaw04.TriadsDuals", spec := "triadsDuals", inPlace := ["internal/bytealg.IndexByteString", "internal/bytealg.IndexString"], named := ["internal/bytealg.MaxLen"], apart := false, narrowed := true }
def TriadsDualsUptoSaid : Prop := triadsDualsUptoRow.holds Try.pinned (OpenSpec.upto triadsDualsSpec)

/-- 'sackbutlaw04.TriadsSizes', WHERE WHAT IT READS IS OF BULK AT MOST 1048576: true; the input reads as it did. -/
def triadsSizesUptoRow : OpenClaim := { program := "ytibkhjbcagihbaa", sum := "33a731ccf82d53bc1e55156224cc51072ff51b5b4f94efe10d82e400e810db71", func := "sackbut/sackbutlaw04.TriadsSizes", spec := "triadsSizes", inPlace := ["internal/bytealg.IndexByteString", "internal/bytealg.IndexString"], unfollowed := true, recurses := true, named := ["internal/bytealg.MaxLen"], apart := false, narrowed := true }
def TriadsSizesUptoSaid : Prop := triadsSizesUptoRow.holds Try.pinned (OpenSpec.upto triadsSizesSpec)

/-- 'sackbutlaw04.TriadsPairs', WHERE WHAT IT READS IS OF BULK AT MOST 1048576: true; the input reads as it did. -/
def triadsPairsUptoRow : OpenClaim := { program := "ytibkhjbcagihbaa", sum := "33a731ccf82d53bc1e55156224cc51072ff51b5b4f94efe10d82e400e810db71", func := "sackbut/sackbutlaw04.TriadsPairs", spec := "triadsPairs", inPlace := ["internal/bytealg.IndexByteString", "internal/bytealg.IndexString"], unfollowed := true, recurses := true, named := ["internal/bytealg.MaxLen"], apart := false, narrowed := true }
def TriadsPairsUptoSaid : Prop := triadsPairsUptoRow.holds Try.pinned (OpenSpec.upto triadsPairsSpec)

/-- 'sackbutlaw04.TriadsVisits', WHERE WHAT IT READS IS OF BULK AT MOST 1048576: true; the input reads as it did. -/
def triadsVisitsUptoRow : OpenClaim := { program := "ytibkhjbcagihbaa", sum := "33a731ccf82d53bc1e55156224cc51072ff51b5b4f94efe10d82e400e810db71", func := "sackbut/sackbutlaw04.TriadsVisits", spec := "triadsVisits", inPlace := ["internal/bytealg.IndexByteString", "internal/bytealg.IndexString", "internal/abi.NoEscape", "internal/bytealg.MakeNoZero"], named := ["internal/bytealg.MaxLen"], apart := false, narrowed := true }
def TriadsVisitsUptoSaid : Prop := triadsVisitsUptoRow.holds Try.pinned (OpenSpec.upto triadsVisitsSpec)

/-- 'sackbutlaw04.TriadsFar', WHERE WHAT IT READS IS OF BULK AT MOST 1048576: true; the input reads as it did. -/
def triadsFarUptoRow : OpenClaim := { program := "ytibkhjbcagihbaa", sum := "33a731ccf82d53bc1e55156224cc51072ff51b5b4f94efe10d82e400e810db71", func := "sackbut/sackbutlaw04.TriadsFar", spec := "triadsFar", inPlace := ["internal/bytealg.IndexByteString", "internal/bytealg.IndexString"], named := ["internal/bytealg.MaxLen"], apart := false, narrowed := true }
def TriadsFarUptoSaid : Prop := triadsFarUptoRow.holds Try.pinned (OpenSpec.upto triadsFarSpec)

end Rows
end Go.Proofs.Ytibkhjbcagihbaa
