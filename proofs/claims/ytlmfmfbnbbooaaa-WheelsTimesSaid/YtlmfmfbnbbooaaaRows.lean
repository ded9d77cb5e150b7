/-
  No cell of these rows narrows 'for every input' (looked for: loops, veiled, ifaces, maps, wideKeys, modest, calm, conditions, laid).
  DERIVED. THE GIVEN ROWS OF THIS SEAT. 13 by the template 'for every input the law returns true; each argument reads behind the call as it read before'; 0 by the template 'total and deterministic' (their statements: YtlmfmfbnbbooaaaTotals.lean).
  GIVEN WITH THE SEED: the statements are not yours to turn. If you find one false, say at which input.
  Laid BY PROGRAM, IN A SANDBOX (cutbox-rows.mjs): the forced cells as the released guide's own fill.sh prints them over the translation 325f6e51f5c30ea0… (all of the seat's roots in one cut). By AI agents, Wed Nov 11 2026. No macro, syntax, notation, axiom, sorry.
-/
import Derived.Test.YtlmfmfbnbbooaaaChecked
import GoSem.Claim
import GoSem.ClaimJoined
import GoSem.ClaimMapViews
import Derived.JoinedTies
import Derived.KernelRfl
namespace Go.Proofs.Ytlmfmfbnbbooaaa
/- THE CELL 'sum', in the pinned program and in every row, IS THE sha256 OF THE DUMP (.gsa) THAT YtlmfmfbnbbooaaaProg.lean LOADS. Nothing in Lean hashes anything: it is a label: what it is worth is what the hold of that sum in a sandbox is worth. -/
noncomputable def Try.pinned : Pinned := { name := "ytlmfmfbnbbooaaa", sum := "325f6e51f5c30ea073f928f985dbded88776278ba8dcb933175f548776afbbfd", checked := Try.checked }
namespace Rows
def none {H : Type} : Left H := { results := [], args := [] }

/-- 'sackbutlaw08.WheelsTimes': WHATEVER THE INPUT: true; the input reads as it did. -/
def wheelsTimesSpec : ChangeSpec := { name := "wheelsTimes", fn := fun _ => fun
  | [d1, d2, d3] => { results := [.lit (.bool true)], args := [d1, d2, d3] }
  | _ => none }
def wheelsTimesRow : OpenClaim := { program := "ytlmfmfbnbbooaaa", sum := "325f6e51f5c30ea073f928f985dbded88776278ba8dcb933175f548776afbbfd", func := "sackbut/sackbutlaw08.WheelsTimes", spec := "wheelsTimes", unfollowed := true, recurses := true, apart := false }
def WheelsTimesSaid : Prop := wheelsTimesRow.holds Try.pinned (OpenSpec.ofChange wheelsTimesSpec)

/-- ITS FALSE NEIGHBOUR: 'it returns false'. Refute it at one input. -/
def wheelsTimesWrong : ChangeSpec := { name := "wheelsTimes", fn := fun _ => fun
  | [d1, d2, d3] => { results := [.lit (.bool false)], args := [d1, d2, d3] }
  | _ => none }
def WheelsTimesWrongFalsely : Prop := wheelsTimesRow.holds Try.pinned (OpenSpec.ofChange wheelsTimesWrong)

/-- 'sackbutlaw08.WheelsSolves': WHATEVER THE INPUT: true; the input reads as it did. -/
def wheelsSolvesSpec : ChangeSpec := { name := "wheelsSolves", fn := fun _ => fun
  | [d1, d2, d3] => { results := [.lit (.bool true)], args := [d1, d2, d3] }
  | _ => none }
def wheelsSolvesRow : OpenClaim := { program := "ytlmfmfbnbbooaaa", sum := "325f6e51f5c30ea073f928f985dbded88776278ba8dcb933175f548776afbbfd", func := "sackbut/sackbutlaw08.WheelsSolves", spec := "wheelsSolves", unfollowed := true, recurses := true, apart := false }
def WheelsSolvesSaid : Prop := wheelsSolvesRow.holds Try.pinned (OpenSpec.ofChange wheelsSolvesSpec)

/-- ITS FALSE NEIGHBOUR: 'it returns false'. Refute it at one input. -/
def wheelsSolvesWrong : ChangeSpec := { name := "wheelsSolves", fn := fun _ => fun
  | [d1, d2, d3] => { results := [.lit (.bool false)], args := [d1, d2, d3] }
  | _ => none }
def WheelsSolvesWrongFalsely : Prop := wheelsSolvesRow.holds Try.pinned (OpenSpec.ofChange wheelsSolvesWrong)

/-- 'sackbutlaw08.WheelsHeard': WHATEVER THE INPUT: true; the input reads as it did. -/
def wheelsHeardSpec : ChangeSpec := { name := "wheelsHeard", fn := fun _ => fun
  | [d1, d2, d3] => { results := [.lit (.bool true)], args := [d1, d2, d3] }
  | _ => none }
def wheelsHeardRow : OpenClaim := { program := "ytlmfmfbnbbooaaa", sum := "325f6e51f5c30ea073f928f985dbded88776278ba8dcb933175f548776afbbfd", func := "sackbut/sackbutlaw08.WheelsHeard", spec := "wheelsHeard", unfollowed := true, recurses := true, apart := false }
def WheelsHeardSaid : Prop := wheelsHeardRow.holds Try.pinned (OpenSpec.ofChange wheelsHeardSpec)

/-- ITS FALSE NEIGHBOUR: 'it returns false'. Refute it at one input. -/
def wheelsHeardWrong : ChangeSpec := { name := "wheelsHeard", fn := fun _ => fun
  | [d1, d2, d3] => { results := [.lit (.bool false)], args := [d1, d2, d3] }
  | _ => none }
def WheelsHeardWrongFalsely : Prop := wheelsHeardRow.holds Try.pinned (OpenSpec.ofChange wheelsHeardWrong)

/-- 'sackbutlaw08.WheelsUndone': WHATEVER THE INPUT: true; the input reads as it did. -/
def wheelsUndoneSpec : ChangeSpec := { name := "wheelsUndone", fn := fun _ => fun
  | [d1, d2, d3] => { results := [.lit (.bool true)], args := [d1, d2, d3] }
  | _ => none }
def wheelsUndoneRow : OpenClaim := { program := "ytlmfmfbnbbooaaa", sum := "325f6e51f5c30ea073f928f985dbded88776278ba8dcb933175f548776afbbfd", func := "sackbut/sackbutlaw08.WheelsUndone", spec := "wheelsUndone", unfollowed := true, recurses := true, apart := false }
def WheelsUndoneSaid : Prop := wheelsUndoneRow.holds Try.pinned (OpenSpec.ofChange wheelsUndoneSpec)

/-- ITS FALSE NEIGHBOUR: 'it returns false'. Refute it at one input. -/
def wheelsUndoneWrong : ChangeSpec := { name := "wheelsUndone", fn := fun _ => fun
  | [d1, d2, d3] => { results := [.lit (.bool false)], args := [d1, d2, d3] }
  | _ => none }
def WheelsUndoneWrongFalsely : Prop := wheelsUndoneRow.holds Try.pinned (OpenSpec.ofChange wheelsUndoneWrong)

/-- 'sackbutlaw08.WheelsSums': WHATEVER THE INPUT: true; the input reads as it did. -/
def wheelsSumsSpec : ChangeSpec := { name := "wheelsSums", fn := fun _ => fun
  | [d1, d2, d3] => { results := [.lit (.bool true)], args := [d1, d2, d3] }
  | _ => none }
def wheelsSumsRow : OpenClaim := { program := "ytlmfmfbnbbooaaa", sum := "325f6e51f5c30ea073f928f985dbded88776278ba8dcb933175f548776afbbfd", func := "sackbut/sackbutlaw08.WheelsSums", spec := "wheelsSums", unfollowed := true, recurses := true, apart := false }
def WheelsSumsSaid : Prop := wheelsSumsRow.holds Try.pinned (OpenSpec.ofChange wheelsSumsSpec)

/-- ITS FALSE NEIGHBOUR: 'it returns false'. Refute it at one input. -/
def wheelsSumsWrong : ChangeSpec := { name := "wheelsSums", fn := fun _ => fun
  | [d1, d2, d3] => { results := [.lit (.bool false)], args := [d1, d2, d3] }
  | _ => none }
def WheelsSumsWrongFalsely : Prop := wheelsSumsRow.holds Try.pinned (OpenSpec.ofChange wheelsSumsWrong)

/-- 'sackbutlaw07.DuetsChecks': WHATEVER THE INPUT: true; the input reads as it did. -/
def duetsChecksSpec : ChangeSpec := { name := "duetsChecks", fn := fun _ => fun
  | [d1, d2] => { results := [.lit (.bool true)], args := [d1, d2] }
  | _ => none }
def duetsChecksRow : OpenClaim := { program := "ytlmfmfbnbbooaaa", sum := "325f6e51f5c30ea073f928f985dbded88776278ba8dcb933175f548776afbbfd", func := "sackbut/sackbutlaw07.DuetsChecks", spec := "duetsChecks", unfollowed := true, recurses := true, apart := false }
def DuetsChecksSaid : Prop := duetsChecksRow.holds Try.pinned (OpenSpec.ofChange duetsChecksSpec)

/-- ITS FALSE NEIGHBOUR: 'it returns false'. Refute it at one input. -/
def duetsChecksWrong : ChangeSpec := { name := "duetsChecks", fn := fun _ => fun
  | [d1, d2] => { results := [.lit (.bool false)], args := [d1, d2] }
  | _ => none }
def DuetsChecksWrongFalsely : Prop := duetsChecksRow.holds Try.pinned (OpenSpec.ofChange duetsChecksWrong)

/-- 'sackbutlaw07.DuetsCounts': WHATEVER THE INPUT: true; the input reads as it did. -/
def duetsCountsSpec : ChangeSpec := { name := "duetsCounts", fn := fun _ => fun
  | [d] => { results := [.lit (.bool true)], args := [d] }
  | _ => none }
def duetsCountsRow : OpenClaim := { program := "ytlmfmfbnbbooaaa", sum := "325f6e51f5c30ea073f928f985dbded88776278ba8dcb933175f548776afbbfd", func := "sackbut/sackbutlaw07.DuetsCounts", spec := "duetsCounts", unfollowed := true, recurses := true, apart := false }
def DuetsCountsSaid : Prop := duetsCountsRow.holds Try.pinned (OpenSpec.ofChange duetsCountsSpec)

/-- ITS FALSE NEIGHBOUR: 'it returns false'. Refute it at one input. -/
def duetsCountsWrong : ChangeSpec := { name := "duetsCounts", fn := fun _ => fun
  | [d] => { results := [.lit (.bool false)], args := [d] }
  | _ => none }
def DuetsCountsWrongFalsely : Prop := duetsCountsRow.holds Try.pinned (OpenSpec.ofChange duetsCountsWrong)

/-- 'sackbutlaw07.DuetsBest': WHATEVER THE INPUT: true; the input reads as it did. -/
def duetsBestSpec : ChangeSpec := { name := "duetsBest", fn := fun _ => fun
  | [d1, d2] => { results := [.lit (.bool true)], args := [d1, d2] }
  | _ => none }
def duetsBestRow : OpenClaim := { program := "ytlmfmfbnbbooaaa", sum := "325f6e51f5c30ea073f928f985dbded88776278ba8dcb933175f548776afbbfd", func := "sackbut/sackbutlaw07.DuetsBest", spec := "duetsBest", unfollowed := true, recurses := true, apart := false }
def DuetsBestSaid : Prop := duetsBestRow.holds Try.pinned (OpenSpec.ofChange duetsBestSpec)

/-- ITS FALSE NEIGHBOUR: 'it returns false'. Refute it at one input. -/
def duetsBestWrong : ChangeSpec := { name := "duetsBest", fn := fun _ => fun
  | [d1, d2] => { results := [.lit (.bool false)], args := [d1, d2] }
  | _ => none }
def DuetsBestWrongFalsely : Prop := duetsBestRow.holds Try.pinned (OpenSpec.ofChange duetsBestWrong)

/-- 'sackbutlaw07.DuetsNext': WHATEVER THE INPUT: true; the input reads as it did. -/
def duetsNextSpec : ChangeSpec := { name := "duetsNext", fn := fun _ => fun
  | [d1, d2] => { results := [.lit (.bool true)], args := [d1, d2] }
  | _ => none }
def duetsNextRow : OpenClaim := { program := "ytlmfmfbnbbooaaa", sum := "325f6e51f5c30ea073f928f985dbded88776278ba8dcb933175f548776afbbfd", func := "sackbut/sackbutlaw07.DuetsNext", spec := "duetsNext", unfollowed := true, recurses := true, apart := false }
def DuetsNextSaid : Prop := duetsNextRow.holds Try.pinned (OpenSpec.ofChange duetsNextSpec)

/-- ITS FALSE NEIGHBOUR: 'it returns false'. Refute it at one input. -/
def duetsNextWrong : ChangeSpec := { name := "duetsNext", fn := fun _ => fun
  | [d1, d2] => { results := [.lit (.bool false)], args := [d1, d2] }
  | _ => none }
def DuetsNextWrongFalsely : Prop := duetsNextRow.holds Try.pinned (OpenSpec.ofChange duetsNextWrong)

/-- 'sackbutlaw07.DuetsSwaps': WHATEVER THE INPUT: true; the input reads as it did. -/
def duetsSwapsSpec : ChangeSpec := { name := "duetsSwaps", fn := fun _ => fun
  | [d1, d2] => { results := [.lit (.bool true)], args := [d1, d2] }
  | _ => none }
def duetsSwapsRow : OpenClaim := { program := "ytlmfmfbnbbooaaa", sum := "325f6e51f5c30ea073f928f985dbded88776278ba8dcb933175f548776afbbfd", func := "sackbut/sackbutlaw07.DuetsSwaps", spec := "duetsSwaps", unfollowed := true, recurses := true, apart := false }
def DuetsSwapsSaid : Prop := duetsSwapsRow.holds Try.pinned (OpenSpec.ofChange duetsSwapsSpec)

/-- ITS FALSE NEIGHBOUR: 'it returns false'. Refute it at one input. -/
def duetsSwapsWrong : ChangeSpec := { name := "duetsSwaps", fn := fun _ => fun
  | [d1, d2] => { results := [.lit (.bool false)], args := [d1, d2] }
  | _ => none }
def DuetsSwapsWrongFalsely : Prop := duetsSwapsRow.holds Try.pinned (OpenSpec.ofChange duetsSwapsWrong)

/-- 'sackbutlaw07.DuetsRight': WHATEVER THE INPUT: true; the input reads as it did. -/
def duetsRightSpec : ChangeSpec := { name := "duetsRight", fn := fun _ => fun
  | [d1, d2] => { results := [.lit (.bool true)], args := [d1, d2] }
  | _ => none }
def duetsRightRow : OpenClaim := { program := "ytlmfmfbnbbooaaa", sum := "325f6e51f5c30ea073f928f985dbded88776278ba8dcb933175f548776afbbfd", func := "sackbut/sackbutlaw07.DuetsRight", spec := "duetsRight", unfollowed := true, recurses := true, apart := false }
def DuetsRightSaid : Prop := duetsRightRow.holds Try.pinned (OpenSpec.ofChange duetsRightSpec)

/-- ITS FALSE NEIGHBOUR: 'it returns false'. Refute it at one input. -/
def duetsRightWrong : ChangeSpec := { name := "duetsRight", fn := fun _ => fun
  | [d1, d2] => { results := [.lit (.bool false)], args := [d1, d2] }
  | _ => none }
def DuetsRightWrongFalsely : Prop := duetsRightRow.holds Try.pinned (OpenSpec.ofChange duetsRightWrong)

/-- 'sackbutlaw07.DuetsBuilt': WHATEVER THE INPUT: true; the input reads as it did. -/
def duetsBuiltSpec : ChangeSpec := { name := "duetsBuilt", fn := fun _ => fun
  | [d] => { results := [.lit (.bool true)], args := [d] }
  | _ => none }
def duetsBuiltRow : OpenClaim := { program := "ytlmfmfbnbbooaaa", sum := "325f6e51f5c30ea073f928f985dbded88776278ba8dcb933175f548776afbbfd", func := "sackbut/sackbutlaw07.DuetsBuilt", spec := "duetsBuilt", unfollowed := true, recurses := true, apart := false }
def DuetsBuiltSaid : Prop := duetsBuiltRow.holds Try.pinned (OpenSpec.ofChange duetsBuiltSpec)

/-- ITS FALSE NEIGHBOUR: 'it returns false'. Refute it at one input. -/
def duetsBuiltWrong : ChangeSpec := { name := "duetsBuilt", fn := fun _ => fun
  | [d] => { results := [.lit (.bool false)], args := [d] }
  | _ => none }
def DuetsBuiltWrongFalsely : Prop := duetsBuiltRow.holds Try.pinned (OpenSpec.ofChange duetsBuiltWrong)

/-- 'sackbutlaw07.DuetsWorth': WHATEVER THE INPUT: true; the input reads as it did. -/
def duetsWorthSpec : ChangeSpec := { name := "duetsWorth", fn := fun _ => fun
  | [d1, d2] => { results := [.lit (.bool true)], args := [d1, d2] }
  | _ => none }
def duetsWorthRow : OpenClaim := { program := "ytlmfmfbnbbooaaa", sum := "325f6e51f5c30ea073f928f985dbded88776278ba8dcb933175f548776afbbfd", func := "sackbut/sackbutlaw07.DuetsWorth", spec := "duetsWorth", unfollowed := true, recurses := true, apart := false }
def DuetsWorthSaid : Prop := duetsWorthRow.holds Try.pinned (OpenSpec.ofChange duetsWorthSpec)

/-- ITS FALSE NEIGHBOUR: 'it returns false'. Refute it at one input. -/
def duetsWorthWrong : ChangeSpec := { name := "duetsWorth", fn := fun _ => fun
  | [d1, d2] => { results := [.lit (.bool false)], args := [d1, d2] }
  | _ => none }
def DuetsWorthWrongFalsely : Prop := duetsWorthRow.holds Try.pinned (OpenSpec.ofChange duetsWorthWrong)

/- THE SECOND FORM. 'bulk': how many values and letters a reading holds, each counted each time it is reached (what is shared counts as often as it is met; a slice's spare places count too). A statement '..UptoSaid' is the law's where the arguments, and the package variables that the reading takes, are together of bulk at most 1048576: NARROWER than '..Said'. Prove '..Said' where nothing that the law and all that it calls make is longer than what came in: it says more and counts as full. Else prove '..UptoSaid'. A law counts once. -/
mutual
def uptoBulk {H : Type} : DataW H → Nat
  | .lit (.string bytes) => bytes.length + 1
  | .lit _ => 1
  | .nil => 1
  | .ptr d => uptoBulk d + 1
  | .slice elems spare => uptoBulkAll elems + uptoBulkAll spare + 1
  | .agg parts => uptoBulkAll parts + 1
  | .iface _ d => uptoBulk d + 1
  | .map entries => uptoBulkEntries entries + 1
  | .held _ => 1
def uptoBulkAll {H : Type} : List (DataW H) → Nat
  | [] => 0
  | d :: r => uptoBulk d + uptoBulkAll r
def uptoBulkEntries {H : Type} : List (Lit × DataW H) → Nat
  | [] => 0
  | x :: r => uptoBulkEntry x + uptoBulkEntries r
def uptoBulkEntry {H : Type} : Lit × DataW H → Nat
  | (.string bytes, d) => bytes.length + uptoBulk d + 1
  | (_, d) => uptoBulk d + 1
 end
def uptoSmall : (H : Type) → List (DataW H) → Bool := fun _ ds => decide (uptoBulkAll ds ≤ 1048576)
def OpenSpec.upto (s : _root_.Go.ChangeSpec) : _root_.Go.OpenSpec := { _root_.Go.OpenSpec.ofChange s with cond := some uptoSmall }

/-- 'sackbutlaw08.WheelsTimes', WHERE WHAT IT READS IS OF BULK AT MOST 1048576: true; the input reads as it did. -/
def wheelsTimesUptoRow : OpenClaim := { program := "ytlmfmfbnbbooaaa", sum := "325f6e51f5c30ea073f928f985dbded88776278ba8dcb933175f548776afbbfd", func := "sackbut/sackbutlaw08.WheelsTimes", spec := "wheelsTimes", unfollowed := true, recurses := true, apart := false, narrowed := true }
def WheelsTimesUptoSaid : Prop := wheelsTimesUptoRow.holds Try.pinned (OpenSpec.upto wheelsTimesSpec)

/-- 'sackbutlaw08.WheelsSolves', WHERE WHAT IT READS IS OF BULK AT MOST 1048576: true; the input reads as it did. -/
def wheelsSolvesUptoRow : OpenClaim := { program := "ytlmfmfbnbbooaaa", sum := "325f6e51f5c30ea073f928f985dbded88776278ba8dcb933175f548776afbbfd", func := "sackbut/sackbutlaw08.WheelsSolves", spec := "wheelsSolves", unfollowed := true, recurses := true, apart := false, narrowed := true }
def WheelsSolvesUptoSaid : Prop := wheelsSolvesUptoRow.holds Try.pinned (OpenSpec.upto wheelsSolvesSpec)

/-- 'sackbutlaw08.WheelsHeard', WHERE WHAT IT READS IS OF BULK AT MOST 1048576: true; the input reads as it did. -/
def wheelsHeardUptoRow : OpenClaim := { program := "ytlmfmfbnbbooaaa", sum := "325f6e51f5c30ea073f928f985dbded88776278ba8dcb933175f548776afbbfd", func := "sackbut/sackbutlaw08.WheelsHeard", spec := "wheelsHeard", unfollowed := true, recurses := true, apart := false, narrowed := true }
def WheelsHeardUptoSaid : Prop := wheelsHeardUptoRow.holds Try.pinned (OpenSpec.upto wheelsHeardSpec)

/-- 'sackbutlaw08.WheelsUndone', WHERE WHAT IT READS IS OF BULK AT MOST 1048576: true; the input reads as it did. -/
def wheelsUndoneUptoRow : OpenClaim := { program := "ytlmfmfbnbbooaaa", sum := "325f6e51f5c30ea073f928f985dbded88776278ba8dcb933175f548776afbbfd", func := "sackbut/sackbutlaw08.WheelsUndone", spec := "wheelsUndone", unfollowed := true, recurses := true, apart := false, narrowed := true }
def WheelsUndoneUptoSaid : Prop := wheelsUndoneUptoRow.holds Try.pinned (OpenSpec.upto wheelsUndoneSpec)

/-- 'sackbutlaw08.WheelsSums', WHERE WHAT IT READS IS OF BULK AT MOST 1048576: true; the input reads as it did. -/
def wheelsSumsUptoRow : OpenClaim := { program := "ytlmfmfbnbbooaaa", sum := "325f6e51f5c30ea073f928f985dbded88776278ba8dcb933175f548776afbbfd", func := "sackbut/sackbutlaw08.WheelsSums", spec := "wheelsSums", unfollowed := true, recurses := true, apart := false, narrowed := true }
def WheelsSumsUptoSaid : Prop := wheelsSumsUptoRow.holds Try.pinned (OpenSpec.upto wheelsSumsSpec)

/-- 'sackbutlaw07.DuetsChecks', WHERE WHAT IT READS IS OF BULK AT MOST 1048576: true; the input reads as it did. -/
def duetsChecksUptoRow : OpenClaim := { program := "ytlmfmfbnbbooaaa", sum := "325f6e51f5c30ea073f928f985dbded88776278ba8dcb933175f548776afbbfd", func := "sackbut/sackbutlaw07.DuetsChecks", spec := "duetsChecks", unfollowed := true, recurses := true, apart := false, narrowed := true }
def DuetsChecksUptoSaid : Prop := duetsChecksUptoRow.holds Try.pinned (OpenSpec.upto duetsChecksSpec)

/-- 'sackbutlaw07.DuetsCounts', WHERE WHAT IT READS IS OF BULK AT MOST 1048576: true; the input reads as it did. -/
def duetsCountsUptoRow : OpenClaim := { program := "ytlmfmfbnbbooaaa", sum := "325f6e51f5c30ea073f928f985dbded88776278ba8dcb933175f548776afbbfd", func := "sackbut/sackbutlaw07.DuetsCounts", spec := "duetsCounts", unfollowed := true, recurses := true, apart := false, narrowed := true }
def DuetsCountsUptoSaid : Prop := duetsCountsUptoRow.holds Try.pinned (OpenSpec.upto duetsCountsSpec)

/-- 'sackbutlaw07.DuetsBest', WHERE WHAT IT READS IS OF BULK AT MOST 1048576: true; the input reads as it did. -/
def duetsBestUptoRow : OpenClaim := { program := "ytlmfmfbnbbooaaa", sum := "325f6e51f5c30ea073f928f985dbded88776278ba8dcb933175f548776afbbfd", func := "sackbut/sackbutlaw07.DuetsBest", spec := "duetsBest", unfollowed := true, recurses := true, apart := false, narrowed := true }
def DuetsBestUptoSaid : Prop := duetsBestUptoRow.holds Try.pinned (OpenSpec.upto duetsBestSpec)

/-- 'sackbutlaw07.DuetsNext', WHERE WHAT IT READS IS OF BULK AT MOST 1048576: true; the input reads as it did. -/
def duetsNextUptoRow : OpenClaim := { program := "ytlmfmfbnbbooaaa", sum := "325f6e51f5c30ea073f928f985dbded88776278ba8dcb933175f548776afbbfd", func := "sackbut/sackbutlaw07.DuetsNext", spec := "duetsNext", unfollowed := true, recurses := true, apart := false, narrowed := true }
def DuetsNextUptoSaid : Prop := duetsNextUptoRow.holds Try.pinned (OpenSpec.upto duetsNextSpec)

/-- 'sackbutlaw07.DuetsSwaps', WHERE WHAT IT READS IS OF BULK AT MOST 1048576: true; the input reads as it did. -/
def duetsSwapsUptoRow : OpenClaim := { program := "ytlmfmfbnbbooaaa", sum := "325f6e51f5c30ea073f928f985dbded88776278ba8dcb933175f548776afbbfd", func := "sackbut/sackbutlaw07.DuetsSwaps", spec := "duetsSwaps", unfollowed := true, recurses := true, apart := false, narrowed := true }
def DuetsSwapsUptoSaid : Prop := duetsSwapsUptoRow.holds Try.pinned (OpenSpec.upto duetsSwapsSpec)

/-- 'sackbutlaw07.DuetsRight', WHERE WHAT IT READS IS OF BULK AT MOST 1048576: true; the input reads as it did. -/
def duetsRightUptoRow : OpenClaim := { program := "ytlmfmfbnbbooaaa", sum := "325f6e51f5c30ea073f928f985dbded88776278ba8dcb933175f548776afbbfd", func := "sackbut/sackbutlaw07.DuetsRight", spec := "duetsRight", unfollowed := true, recurses := true, apart := false, narrowed := true }
def DuetsRightUptoSaid : Prop := duetsRightUptoRow.holds Try.pinned (OpenSpec.upto duetsRightSpec)

/-- 'sackbutlaw07.DuetsBuilt', WHERE WHAT IT READS IS OF BULK AT MOST 1048576: true; the input reads as it did. -/
def duetsBuiltUptoRow : OpenClaim := { program := "ytlmfmfbnbbooaaa", sum := "325f6e51f5c30ea073f928f985dbded88776278ba8dcb933175f548776afbbfd", func := "sackbut/sackbutlaw07.DuetsBuilt", spec := "duetsBuilt", unfollowed := true, recurses := true, apart := false, narrowed := true }
def DuetsBuiltUptoSaid : Prop := duetsBuiltUptoRow.holds Try.pinned (OpenSpec.upto duetsBuiltSpec)

/-- 'sackbutlaw07.DuetsWorth', WHERE WHAT IT READS IS OF BULK AT MOST 1048576: true; the input reads as it did. -/
def duetsWorthUptoRow : OpenClaim := { program := "ytlmfmfbnbbooaaa", sum := "325f6e51f5c30ea073f928f985dbded88776278ba8dcb933175f548776afbbfd", func := "sackbut/sackbutlaw07.DuetsWorth", spec := "duetsWorth", unfollowed := true, recurses := true, apart := false, narrowed := true }
def DuetsWorthUptoSaid : Prop := duetsWorthUptoRow.holds Try.pinned (OpenSpec.upto duetsWorthSpec)

end Rows
end Go.Proofs.Ytlmfmfbnbbooaaa
