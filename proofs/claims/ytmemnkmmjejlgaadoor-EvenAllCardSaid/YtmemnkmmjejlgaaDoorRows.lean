/-
  NARROWER THAN 'FOR EVERY INPUT', by the rows' own cells (each row's printed sentence says how): EvenWords: laid · EvenMakers: laid · EvenSums: laid · EvenLists: laid · EvenAll: laid · EvenOthers: laid · EvenSteps: laid · EvenTwo: laid · EvenMost: laid · EvenTurns: laid · TopSum: laid · TopDeep: laid.
  DERIVED. THE GIVEN ROWS OF THIS SEAT. 12 by the template 'for every input the law returns true; each argument reads behind the call as it read before'; 0 by the template 'total and deterministic' (their statements: YtmemnkmmjejlgaaDoorTotals.lean).
  GIVEN WITH THE SEED: the statements are not yours to turn. If you find one false, say at which input.
  Laid BY PROGRAM, IN A SANDBOX (cutbox-rows.mjs): the forced cells as the released guide's own fill.sh prints them over the translation a8f2741a34497034… (all of the seat's roots in one cut). By AI agents, Wed Nov 11 2026. No macro, syntax, notation, axiom, sorry.
-/
import Derived.Test.YtmemnkmmjejlgaaDoorChecked
import GoSem.Claim
import GoSem.ClaimJoined
import GoSem.ClaimMapViews
import Derived.JoinedTies
import Derived.KernelRfl
namespace Go.Proofs.YtmemnkmmjejlgaaDoor
/- THE CELL 'sum', in the pinned program and in every row, IS THE sha256 OF THE DUMP (.gsa) THAT YtmemnkmmjejlgaaDoorProg.lean LOADS. Nothing in Lean hashes anything: it is a label: what it is worth is what the hold of that sum in a sandbox is worth. -/
noncomputable def Tryd.pinned : Pinned := { name := "ytmemnkmmjejlgaadoor", sum := "a8f2741a344970347f1418edcc5af1a56b9d8008afcbd55365ed78770ddc3925", checked := Tryd.checked }
namespace Rows
def none {H : Type} : Left H := { results := [], args := [] }

/- WHAT THE LISTED PACKAGE-LEVEL VARIABLES READ AS WHEN THE CALL BEGINS. Each datum BY PROGRAM (the guide's laid-datum.mjs) off the statement by which the dump's own 'gosem.cut.vars' lays the variable. In a bare row this is a premise. The card (YtmemnkmmjejlgaaDoorCards.lean) ties it to the program's text. -/
def laid_math_bits_deBruijn32tab {H : Type} : DataW H := .agg [.lit (.int .u8 0), .lit (.int .u8 1), .lit (.int .u8 28), .lit (.int .u8 2), .lit (.int .u8 29), .lit (.int .u8 14), .lit (.int .u8 24), .lit (.int .u8 3), .lit (.int .u8 30), .lit (.int .u8 22), .lit (.int .u8 20), .lit (.int .u8 15), .lit (.int .u8 25), .lit (.int .u8 17), .lit (.int .u8 4), .lit (.int .u8 8), .lit (.int .u8 31), .lit (.int .u8 27), .lit (.int .u8 13), .lit (.int .u8 23), .lit (.int .u8 21), .lit (.int .u8 19), .lit (.int .u8 16), .lit (.int .u8 7), .lit (.int .u8 26), .lit (.int .u8 12), .lit (.int .u8 18), .lit (.int .u8 6), .lit (.int .u8 11), .lit (.int .u8 5), .lit (.int .u8 10), .lit (.int .u8 9)]
def laid_math_bits_deBruijn64tab {H : Type} : DataW H := .agg [.lit (.int .u8 0), .lit (.int .u8 1), .lit (.int .u8 56), .lit (.int .u8 2), .lit (.int .u8 57), .lit (.int .u8 49), .lit (.int .u8 28), .lit (.int .u8 3), .lit (.int .u8 61), .lit (.int .u8 58), .lit (.int .u8 42), .lit (.int .u8 50), .lit (.int .u8 38), .lit (.int .u8 29), .lit (.int .u8 17), .lit (.int .u8 4), .lit (.int .u8 62), .lit (.int .u8 47), .lit (.int .u8 59), .lit (.int .u8 36), .lit (.int .u8 45), .lit (.int .u8 43), .lit (.int .u8 51), .lit (.int .u8 22), .lit (.int .u8 53), .lit (.int .u8 39), .lit (.int .u8 33), .lit (.int .u8 30), .lit (.int .u8 24), .lit (.int .u8 18), .lit (.int .u8 12), .lit (.int .u8 5), .lit (.int .u8 63), .lit (.int .u8 55), .lit (.int .u8 48), .lit (.int .u8 27), .lit (.int .u8 60), .lit (.int .u8 41), .lit (.int .u8 37), .lit (.int .u8 16), .lit (.int .u8 46), .lit (.int .u8 35), .lit (.int .u8 44), .lit (.int .u8 21), .lit (.int .u8 52), .lit (.int .u8 32), .lit (.int .u8 23), .lit (.int .u8 11), .lit (.int .u8 54), .lit (.int .u8 26), .lit (.int .u8 40), .lit (.int .u8 15), .lit (.int .u8 34), .lit (.int .u8 20), .lit (.int .u8 31), .lit (.int .u8 10), .lit (.int .u8 25), .lit (.int .u8 14), .lit (.int .u8 19), .lit (.int .u8 9), .lit (.int .u8 13), .lit (.int .u8 8), .lit (.int .u8 7), .lit (.int .u8 6)]

/-- 'sackbutlaw03.EvenWords': WHATEVER THE INPUT: true; the input reads as it did. -/
def evenWordsSpec : ChangeSpec := { name := "evenWords", fn := fun _ => fun
  | [d1, d2, d3] => { results := [.lit (.bool true)], args := [d1, d2, d3] }
  | _ => none }
def evenWordsRow : OpenClaim := { program := "ytmemnkmmjejlgaadoor", sum := "a8f2741a344970347f1418edcc5af1a56b9d8008afcbd55365ed78770ddc3925", func := "sackbut/sackbutlaw03.EvenWords", spec := "evenWords", unfollowed := true, recurses := true, named := ["math/bits.deBruijn32tab", "math/bits.deBruijn64tab"], apart := false, laid := [("math/bits.deBruijn32tab", laid_math_bits_deBruijn32tab), ("math/bits.deBruijn64tab", laid_math_bits_deBruijn64tab)] }
def EvenWordsSaid : Prop := evenWordsRow.holds Tryd.pinned (OpenSpec.ofChange evenWordsSpec)

/-- ITS FALSE NEIGHBOUR: 'it returns false'. Refute it at one input. -/
def evenWordsWrong : ChangeSpec := { name := "evenWords", fn := fun _ => fun
  | [d1, d2, d3] => { results := [.lit (.bool false)], args := [d1, d2, d3] }
  | _ => none }
def EvenWordsWrongFalsely : Prop := evenWordsRow.holds Tryd.pinned (OpenSpec.ofChange evenWordsWrong)

/-- 'sackbutlaw03.EvenMakers': WHATEVER THE INPUT: true; the input reads as it did. -/
def evenMakersSpec : ChangeSpec := { name := "evenMakers", fn := fun _ => fun
  | [d1, d2] => { results := [.lit (.bool true)], args := [d1, d2] }
  | _ => none }
def evenMakersRow : OpenClaim := { program := "ytmemnkmmjejlgaadoor", sum := "a8f2741a344970347f1418edcc5af1a56b9d8008afcbd55365ed78770ddc3925", func := "sackbut/sackbutlaw03.EvenMakers", spec := "evenMakers", unfollowed := true, recurses := true, named := ["math/bits.deBruijn32tab", "math/bits.deBruijn64tab"], apart := false, laid := [("math/bits.deBruijn32tab", laid_math_bits_deBruijn32tab), ("math/bits.deBruijn64tab", laid_math_bits_deBruijn64tab)] }
def EvenMakersSaid : Prop := evenMakersRow.holds Tryd.pinned (OpenSpec.ofChange evenMakersSpec)

/-- ITS FALSE NEIGHBOUR: 'it returns false'. Refute it at one input. -/
def evenMakersWrong : ChangeSpec := { name := "evenMakers", fn := fun _ => fun
  | [d1, d2] => { results := [.lit (.bool false)], args := [d1, d2] }
  | _ => none }
def EvenMakersWrongFalsely : Prop := evenMakersRow.holds Tryd.pinned (OpenSpec.ofChange evenMakersWrong)

/-- 'sackbutlaw03.EvenSums': WHATEVER THE INPUT: true; the input reads as it did. -/
def evenSumsSpec : ChangeSpec := { name := "evenSums", fn := fun _ => fun
  | [d1, d2] => { results := [.lit (.bool true)], args := [d1, d2] }
  | _ => none }
def evenSumsRow : OpenClaim := { program := "ytmemnkmmjejlgaadoor", sum := "a8f2741a344970347f1418edcc5af1a56b9d8008afcbd55365ed78770ddc3925", func := "sackbut/sackbutlaw03.EvenSums", spec := "evenSums", named := ["math/bits.deBruijn32tab", "math/bits.deBruijn64tab"], apart := false, laid := [("math/bits.deBruijn32tab", laid_math_bits_deBruijn32tab), ("math/bits.deBruijn64tab", laid_math_bits_deBruijn64tab)] }
def EvenSumsSaid : Prop := evenSumsRow.holds Tryd.pinned (OpenSpec.ofChange evenSumsSpec)

/-- ITS FALSE NEIGHBOUR: 'it returns false'. Refute it at one input. -/
def evenSumsWrong : ChangeSpec := { name := "evenSums", fn := fun _ => fun
  | [d1, d2] => { results := [.lit (.bool false)], args := [d1, d2] }
  | _ => none }
def EvenSumsWrongFalsely : Prop := evenSumsRow.holds Tryd.pinned (OpenSpec.ofChange evenSumsWrong)

/-- 'sackbutlaw03.EvenLists': WHATEVER THE INPUT: true; the input reads as it did. -/
def evenListsSpec : ChangeSpec := { name := "evenLists", fn := fun _ => fun
  | [d1, d2] => { results := [.lit (.bool true)], args := [d1, d2] }
  | _ => none }
def evenListsRow : OpenClaim := { program := "ytmemnkmmjejlgaadoor", sum := "a8f2741a344970347f1418edcc5af1a56b9d8008afcbd55365ed78770ddc3925", func := "sackbut/sackbutlaw03.EvenLists", spec := "evenLists", unfollowed := true, recurses := true, named := ["math/bits.deBruijn32tab", "math/bits.deBruijn64tab"], apart := false, laid := [("math/bits.deBruijn32tab", laid_math_bits_deBruijn32tab), ("math/bits.deBruijn64tab", laid_math_bits_deBruijn64tab)] }
def EvenListsSaid : Prop := evenListsRow.holds Tryd.pinned (OpenSpec.ofChange evenListsSpec)

/-- ITS FALSE NEIGHBOUR: 'it returns false'. Refute it at one input. -/
def evenListsWrong : ChangeSpec := { name := "evenLists", fn := fun _ => fun
  | [d1, d2] => { results := [.lit (.bool false)], args := [d1, d2] }
  | _ => none }
def EvenListsWrongFalsely : Prop := evenListsRow.holds Tryd.pinned (OpenSpec.ofChange evenListsWrong)

/-- 'sackbutlaw03.EvenAll': WHATEVER THE INPUT: true; the input reads as it did. -/
def evenAllSpec : ChangeSpec := { name := "evenAll", fn := fun _ => fun
  | [d1, d2, d3] => { results := [.lit (.bool true)], args := [d1, d2, d3] }
  | _ => none }
def evenAllRow : OpenClaim := { program := "ytmemnkmmjejlgaadoor", sum := "a8f2741a344970347f1418edcc5af1a56b9d8008afcbd55365ed78770ddc3925", func := "sackbut/sackbutlaw03.EvenAll", spec := "evenAll", unfollowed := true, recurses := true, named := ["math/bits.deBruijn32tab", "math/bits.deBruijn64tab"], apart := false, laid := [("math/bits.deBruijn32tab", laid_math_bits_deBruijn32tab), ("math/bits.deBruijn64tab", laid_math_bits_deBruijn64tab)] }
def EvenAllSaid : Prop := evenAllRow.holds Tryd.pinned (OpenSpec.ofChange evenAllSpec)

/-- ITS FALSE NEIGHBOUR: 'it returns false'. Refute it at one input. -/
def evenAllWrong : ChangeSpec := { name := "evenAll", fn := fun _ => fun
  | [d1, d2, d3] => { results := [.lit (.bool false)], args := [d1, d2, d3] }
  | _ => none }
def EvenAllWrongFalsely : Prop := evenAllRow.holds Tryd.pinned (OpenSpec.ofChange evenAllWrong)

/-- 'sackbutlaw03.EvenOthers': WHATEVER THE INPUT: true; the input reads as it did. -/
def evenOthersSpec : ChangeSpec := { name := "evenOthers", fn := fun _ => fun
  | [d1, d2] => { results := [.lit (.bool true)], args := [d1, d2] }
  | _ => none }
def evenOthersRow : OpenClaim := { program := "ytmemnkmmjejlgaadoor", sum := "a8f2741a344970347f1418edcc5af1a56b9d8008afcbd55365ed78770ddc3925", func := "sackbut/sackbutlaw03.EvenOthers", spec := "evenOthers", unfollowed := true, recurses := true, named := ["math/bits.deBruijn32tab", "math/bits.deBruijn64tab"], apart := false, laid := [("math/bits.deBruijn32tab", laid_math_bits_deBruijn32tab), ("math/bits.deBruijn64tab", laid_math_bits_deBruijn64tab)] }
def EvenOthersSaid : Prop := evenOthersRow.holds Tryd.pinned (OpenSpec.ofChange evenOthersSpec)

/-- ITS FALSE NEIGHBOUR: 'it returns false'. Refute it at one input. -/
def evenOthersWrong : ChangeSpec := { name := "evenOthers", fn := fun _ => fun
  | [d1, d2] => { results := [.lit (.bool false)], args := [d1, d2] }
  | _ => none }
def EvenOthersWrongFalsely : Prop := evenOthersRow.holds Tryd.pinned (OpenSpec.ofChange evenOthersWrong)

/-- 'sackbutlaw03.EvenSteps': WHATEVER THE INPUT: true; the input reads as it did. -/
def evenStepsSpec : ChangeSpec := { name := "evenSteps", fn := fun _ => fun
  | [d1, d2, d3] => { results := [.lit (.bool true)], args := [d1, d2, d3] }
  | _ => none }
def evenStepsRow : OpenClaim := { program := "ytmemnkmmjejlgaadoor", sum := "a8f2741a344970347f1418edcc5af1a56b9d8008afcbd55365ed78770ddc3925", func := "sackbut/sackbutlaw03.EvenSteps", spec := "evenSteps", named := ["math/bits.deBruijn32tab", "math/bits.deBruijn64tab"], apart := false, laid := [("math/bits.deBruijn32tab", laid_math_bits_deBruijn32tab), ("math/bits.deBruijn64tab", laid_math_bits_deBruijn64tab)] }
def EvenStepsSaid : Prop := evenStepsRow.holds Tryd.pinned (OpenSpec.ofChange evenStepsSpec)

/-- ITS FALSE NEIGHBOUR: 'it returns false'. Refute it at one input. -/
def evenStepsWrong : ChangeSpec := { name := "evenSteps", fn := fun _ => fun
  | [d1, d2, d3] => { results := [.lit (.bool false)], args := [d1, d2, d3] }
  | _ => none }
def EvenStepsWrongFalsely : Prop := evenStepsRow.holds Tryd.pinned (OpenSpec.ofChange evenStepsWrong)

/-- 'sackbutlaw03.EvenTwo': WHATEVER THE INPUT: true; the input reads as it did. -/
def evenTwoSpec : ChangeSpec := { name := "evenTwo", fn := fun _ => fun
  | [d1, d2] => { results := [.lit (.bool true)], args := [d1, d2] }
  | _ => none }
def evenTwoRow : OpenClaim := { program := "ytmemnkmmjejlgaadoor", sum := "a8f2741a344970347f1418edcc5af1a56b9d8008afcbd55365ed78770ddc3925", func := "sackbut/sackbutlaw03.EvenTwo", spec := "evenTwo", unfollowed := true, recurses := true, named := ["math/bits.deBruijn32tab", "math/bits.deBruijn64tab"], apart := false, laid := [("math/bits.deBruijn32tab", laid_math_bits_deBruijn32tab), ("math/bits.deBruijn64tab", laid_math_bits_deBruijn64tab)] }
def EvenTwoSaid : Prop := evenTwoRow.holds Tryd.pinned (OpenSpec.ofChange evenTwoSpec)

/-- ITS FALSE NEIGHBOUR: 'it returns false'. Refute it at one input. -/
def evenTwoWrong : ChangeSpec := { name := "evenTwo", fn := fun _ => fun
  | [d1, d2] => { results := [.lit (.bool false)], args := [d1, d2] }
  | _ => none }
def EvenTwoWrongFalsely : Prop := evenTwoRow.holds Tryd.pinned (OpenSpec.ofChange evenTwoWrong)

/-- 'sackbutlaw03.EvenMost': WHATEVER THE INPUT: true; the input reads as it did. -/
def evenMostSpec : ChangeSpec := { name := "evenMost", fn := fun _ => fun
  | [d1, d2, d3] => { results := [.lit (.bool true)], args := [d1, d2, d3] }
  | _ => none }
def evenMostRow : OpenClaim := { program := "ytmemnkmmjejlgaadoor", sum := "a8f2741a344970347f1418edcc5af1a56b9d8008afcbd55365ed78770ddc3925", func := "sackbut/sackbutlaw03.EvenMost", spec := "evenMost", unfollowed := true, recurses := true, named := ["math/bits.deBruijn32tab", "math/bits.deBruijn64tab"], apart := false, laid := [("math/bits.deBruijn32tab", laid_math_bits_deBruijn32tab), ("math/bits.deBruijn64tab", laid_math_bits_deBruijn64tab)] }
def EvenMostSaid : Prop := evenMostRow.holds Tryd.pinned (OpenSpec.ofChange evenMostSpec)

/-- ITS FALSE NEIGHBOUR: 'it returns false'. Refute it at one input. -/
def evenMostWrong : ChangeSpec := { name := "evenMost", fn := fun _ => fun
  | [d1, d2, d3] => { results := [.lit (.bool false)], args := [d1, d2, d3] }
  | _ => none }
def EvenMostWrongFalsely : Prop := evenMostRow.holds Tryd.pinned (OpenSpec.ofChange evenMostWrong)

/-- 'sackbutlaw03.EvenTurns': WHATEVER THE INPUT: true; the input reads as it did. -/
def evenTurnsSpec : ChangeSpec := { name := "evenTurns", fn := fun _ => fun
  | [d1, d2, d3, d4, d5] => { results := [.lit (.bool true)], args := [d1, d2, d3, d4, d5] }
  | _ => none }
def evenTurnsRow : OpenClaim := { program := "ytmemnkmmjejlgaadoor", sum := "a8f2741a344970347f1418edcc5af1a56b9d8008afcbd55365ed78770ddc3925", func := "sackbut/sackbutlaw03.EvenTurns", spec := "evenTurns", unfollowed := true, recurses := true, named := ["math/bits.deBruijn32tab", "math/bits.deBruijn64tab"], apart := false, laid := [("math/bits.deBruijn32tab", laid_math_bits_deBruijn32tab), ("math/bits.deBruijn64tab", laid_math_bits_deBruijn64tab)] }
def EvenTurnsSaid : Prop := evenTurnsRow.holds Tryd.pinned (OpenSpec.ofChange evenTurnsSpec)

/-- ITS FALSE NEIGHBOUR: 'it returns false'. Refute it at one input. -/
def evenTurnsWrong : ChangeSpec := { name := "evenTurns", fn := fun _ => fun
  | [d1, d2, d3, d4, d5] => { results := [.lit (.bool false)], args := [d1, d2, d3, d4, d5] }
  | _ => none }
def EvenTurnsWrongFalsely : Prop := evenTurnsRow.holds Tryd.pinned (OpenSpec.ofChange evenTurnsWrong)

/-- 'sackbuttop.TopSum': WHATEVER THE INPUT: true; the input reads as it did. -/
def topSumSpec : ChangeSpec := { name := "topSum", fn := fun _ => fun
  | [d1, d2] => { results := [.lit (.bool true)], args := [d1, d2] }
  | _ => none }
def topSumRow : OpenClaim := { program := "ytmemnkmmjejlgaadoor", sum := "a8f2741a344970347f1418edcc5af1a56b9d8008afcbd55365ed78770ddc3925", func := "sackbut/sackbuttop.TopSum", spec := "topSum", unfollowed := true, recurses := true, named := ["math/bits.deBruijn32tab", "math/bits.deBruijn64tab"], apart := false, laid := [("math/bits.deBruijn32tab", laid_math_bits_deBruijn32tab), ("math/bits.deBruijn64tab", laid_math_bits_deBruijn64tab)] }
def TopSumSaid : Prop := topSumRow.holds Tryd.pinned (OpenSpec.ofChange topSumSpec)

/-- ITS FALSE NEIGHBOUR: 'it returns false'. Refute it at one input. -/
def topSumWrong : ChangeSpec := { name := "topSum", fn := fun _ => fun
  | [d1, d2] => { results := [.lit (.bool false)], args := [d1, d2] }
  | _ => none }
def TopSumWrongFalsely : Prop := topSumRow.holds Tryd.pinned (OpenSpec.ofChange topSumWrong)

/-- 'sackbuttop.TopDeep': WHATEVER THE INPUT: true; the input reads as it did. -/
def topDeepSpec : ChangeSpec := { name := "topDeep", fn := fun _ => fun
  | [d1, d2, d3, d4] => { results := [.lit (.bool true)], args := [d1, d2, d3, d4] }
  | _ => none }
def topDeepRow : OpenClaim := { program := "ytmemnkmmjejlgaadoor", sum := "a8f2741a344970347f1418edcc5af1a56b9d8008afcbd55365ed78770ddc3925", func := "sackbut/sackbuttop.TopDeep", spec := "topDeep", unfollowed := true, recurses := true, named := ["math/bits.deBruijn32tab", "math/bits.deBruijn64tab"], apart := false, laid := [("math/bits.deBruijn32tab", laid_math_bits_deBruijn32tab), ("math/bits.deBruijn64tab", laid_math_bits_deBruijn64tab)] }
def TopDeepSaid : Prop := topDeepRow.holds Tryd.pinned (OpenSpec.ofChange topDeepSpec)

/-- ITS FALSE NEIGHBOUR: 'it returns false'. Refute it at one input. -/
def topDeepWrong : ChangeSpec := { name := "topDeep", fn := fun _ => fun
  | [d1, d2, d3, d4] => { results := [.lit (.bool false)], args := [d1, d2, d3, d4] }
  | _ => none }
def TopDeepWrongFalsely : Prop := topDeepRow.holds Tryd.pinned (OpenSpec.ofChange topDeepWrong)

/- THE SECOND FORM. 'bulk': how many values and letters a reading holds, each counted each time it is reached (what is shared counts as often as it is met; a slice's spare places count too). A statement '..UptoSaid' is the law's where the arguments, and the package variables that the reading takes, are together of bulk at most 1048576: NARROWER than '..Said'. Prove '..Said' where nothing that the law and all that it calls make is longer than what came in: it says more and counts as full. Else prove '..UptoSaid'. A law counts once. -/
mutual
def uptoBulk {H : Type} : DataW H → Nat
  | .lit (.string bytes) => bytes.length + 1
  | .lit _ => 1
  | .nil => 1
  | .ptr d => uptoBulk d + 1
  | .slice elems spare => uptoBulkAll elems + uptoBulkAll spare + 1
  | .agg parts => uptoBulkAll parts + 1
  | .iface _ d => uptoBulk d + 1
  | .map entries => uptoBulkEntries entries + 1
  | .held _ => 1
def uptoBulkAll {H : Type} : List (DataW H) → Nat
  | [] => 0
  | d :: r => uptoBulk d + uptoBulkAll r
def uptoBulkEntries {H : Type} : List (Lit × DataW H) → Nat
  | [] => 0
  | x :: r => uptoBulkEntry x + uptoBulkEntries r
def uptoBulkEntry {H : Type} : Lit × DataW H → Nat
  | (.string bytes, d) => bytes.length + uptoBulk d + 1
  | (_, d) => uptoBulk d + 1
 end
def uptoSmall : (H : Type) → List (DataW H) → Bool := fun _ ds => decide (uptoBulkAll ds ≤ 1048576)
def OpenSpec.upto (s : _root_.Go.ChangeSpec) : _root_.Go.OpenSpec := { _root_.Go.OpenSpec.ofChange s with cond := some uptoSmall }

/-- 'sackbutlaw03.EvenWords', WHERE WHAT IT READS IS OF BULK AT MOST 1048576: true; the input reads as it did. -/
def evenWordsUptoRow : OpenClaim := { program := "ytmemnkmmjejlgaadoor", sum := "a8f2741a344970347f1418edcc5af1a56b9d8008afcbd55365ed78770ddc3925", func := "sackbut/sackbutlaw03.EvenWords", spec := "evenWords", unfollowed := true, recurses := true, named := ["math/bits.deBruijn32tab", "math/bits.deBruijn64tab"], apart := false, laid := [("math/bits.deBruijn32tab", laid_math_bits_deBruijn32tab), ("math/bits.deBruijn64tab", laid_math_bits_deBruijn64tab)], narrowed := true }
def EvenWordsUptoSaid : Prop := evenWordsUptoRow.holds Tryd.pinned (OpenSpec.upto evenWordsSpec)

/-- 'sackbutlaw03.EvenMakers', WHERE WHAT IT READS IS OF BULK AT MOST 1048576: true; the input reads as it did. -/
def evenMakersUptoRow : OpenClaim := { program := "ytmemnkmmjejlgaadoor", sum := "a8f2741a344970347f1418edcc5af1a56b9d8008afcbd55365ed78770ddc3925", func := "sackbut/sackbutlaw03.EvenMakers", spec := "evenMakers", unfollowed := true, recurses := true, named := ["math/bits.deBruijn32tab", "math/bits.deBruijn64tab"], apart := false, laid := [("math/bits.deBruijn32tab", laid_math_bits_deBruijn32tab), ("math/bits.deBruijn64tab", laid_math_bits_deBruijn64tab)], narrowed := true }
def EvenMakersUptoSaid : Prop := evenMakersUptoRow.holds Tryd.pinned (OpenSpec.upto evenMakersSpec)

/-- 'sackbutlaw03.EvenSums', WHERE WHAT IT READS IS OF BULK AT MOST 1048576: true; the input reads as it did. -/
def evenSumsUptoRow : OpenClaim := { program := "ytmemnkmmjejlgaadoor", sum := "a8f2741a344970347f1418edcc5af1a56b9d8008afcbd55365ed78770ddc3925", func := "sackbut/sackbutlaw03.EvenSums", spec := "evenSums", named := ["math/bits.deBruijn32tab", "math/bits.deBruijn64tab"], apart := false, laid := [("math/bits.deBruijn32tab", laid_math_bits_deBruijn32tab), ("math/bits.deBruijn64tab", laid_math_bits_deBruijn64tab)], narrowed := true }
def EvenSumsUptoSaid : Prop := evenSumsUptoRow.holds Tryd.pinned (OpenSpec.upto evenSumsSpec)

/-- 'sackbutlaw03.EvenLists', WHERE WHAT IT READS IS OF BULK AT MOST 1048576: true; the input reads as it did. -/
def evenListsUptoRow : OpenClaim := { program := "ytmemnkmmjejlgaadoor", sum := "a8f2741a344970347f1418edcc5af1a56b9d8008afcbd55365ed78770ddc3925", func := "sackbut/sackbutlaw03.EvenLists", spec := "evenLists", unfollowed := true, recurses := true, named := ["math/bits.deBruijn32tab", "math/bits.deBruijn64tab"], apart := false, laid := [("math/bits.deBruijn32tab", laid_math_bits_deBruijn32tab), ("math/bits.deBruijn64tab", laid_math_bits_deBruijn64tab)], narrowed := true }
def EvenListsUptoSaid : Prop := evenListsUptoRow.holds Tryd.pinned (OpenSpec.upto evenListsSpec)

/-- 'sackbutlaw03.EvenAll', WHERE WHAT IT READS IS OF BULK AT MOST 1048576: true; the input reads as it did. -/
def evenAllUptoRow : OpenClaim := { program := "ytmemnkmmjejlgaadoor", sum := "a8f2741a344970347f1418edcc5af1a56b9d8008afcbd55365ed78770ddc3925", func := "sackbut/sackbutlaw03.EvenAll", spec := "evenAll", unfollowed := true, recurses := true, named := ["math/bits.deBruijn32tab", "math/bits.deBruijn64tab"], apart := false, laid := [("math/bits.deBruijn32tab", laid_math_bits_deBruijn32tab), ("math/bits.deBruijn64tab", laid_math_bits_deBruijn64tab)], narrowed := true }
def EvenAllUptoSaid : Prop := evenAllUptoRow.holds Tryd.pinned (OpenSpec.upto evenAllSpec)

/-- 'sackbutlaw03.EvenOthers', WHERE WHAT IT READS IS OF BULK AT MOST 1048576: true; the input reads as it did. -/
def evenOthersUptoRow : OpenClaim := { program := "ytmemnkmmjejlgaadoor", sum := "a8f2741a344970347f1418edcc5af1a56b9d8008afcbd55365ed78770ddc3925", func := "sackbut/sackbutlaw03.EvenOthers", spec := "evenOthers", unfollowed := true, recurses := true, named := ["math/bits.deBruijn32tab", "math/bits.deBruijn64tab"], apart := false, laid := [("math/bits.deBruijn32tab", laid_math_bits_deBruijn32tab), ("math/bits.deBruijn64tab", laid_math_bits_deBruijn64tab)], narrowed := true }
def EvenOthersUptoSaid : Prop := evenOthersUptoRow.holds Tryd.pinned (OpenSpec.upto evenOthersSpec)

/-- 'sackbutlaw03.EvenSteps', WHERE WHAT IT READS IS OF BULK AT MOST 1048576: true; the input reads as it did. -/
def evenStepsUptoRow : OpenClaim := { program := "ytmemnkmmjejlgaadoor", sum := "a8f2741a344970347f1418edcc5af1a56b9d8008afcbd55365ed78770ddc3925", func := "sackbut/sackbutlaw03.EvenSteps", spec := "evenSteps", named := ["math/bits.deBruijn32tab", "math/bits.deBruijn64tab"], apart := false, laid := [("math/bits.deBruijn32tab", laid_math_bits_deBruijn32tab), ("math/bits.deBruijn64tab", laid_math_bits_deBruijn64tab)], narrowed := true }
def EvenStepsUptoSaid : Prop := evenStepsUptoRow.holds Tryd.pinned (OpenSpec.upto evenStepsSpec)

/-- 'sackbutlaw03.EvenTwo', WHERE WHAT IT READS IS OF BULK AT MOST 1048576: true; the input reads as it did. -/
def evenTwoUptoRow : OpenClaim := { program := "ytmemnkmmjejlgaadoor", sum := "a8f2741a344970347f1418edcc5af1a56b9d8008afcbd55365ed78770ddc3925", func := "sackbut/sackbutlaw03.EvenTwo", spec := "evenTwo", unfollowed := true, recurses := true, named := ["math/bits.deBruijn32tab", "math/bits.deBruijn64tab"], apart := false, laid := [("math/bits.deBruijn32tab", laid_math_bits_deBruijn32tab), ("math/bits.deBruijn64tab", laid_math_bits_deBruijn64tab)], narrowed := true }
def EvenTwoUptoSaid : Prop := evenTwoUptoRow.holds Tryd.pinned (OpenSpec.upto evenTwoSpec)

/-- 'sackbutlaw03.EvenMost', WHERE WHAT IT READS IS OF BULK AT MOST 1048576: true; the input reads as it did. -/
def evenMostUptoRow : OpenClaim := { program := "ytmemnkmmjejlgaadoor", sum := "a8f2741a344970347f1418edcc5af1a56b9d8008afcbd55365ed78770ddc3925", func := "sackbut/sackbutlaw03.EvenMost", spec := "evenMost", unfollowed := true, recurses := true, named := ["math/bits.deBruijn32tab", "math/bits.deBruijn64tab"], apart := false, laid := [("math/bits.deBruijn32tab", laid_math_bits_deBruijn32tab), ("math/bits.deBruijn64tab", laid_math_bits_deBruijn64tab)], narrowed := true }
def EvenMostUptoSaid : Prop := evenMostUptoRow.holds Tryd.pinned (OpenSpec.upto evenMostSpec)

/-- 'sackbutlaw03.EvenTurns', WHERE WHAT IT READS IS OF BULK AT MOST 1048576: true; the input reads as it did. -/
def evenTurnsUptoRow : OpenClaim := { program := "ytmemnkmmjejlgaadoor", sum := "a8f2741a344970347f1418edcc5af1a56b9d8008afcbd55365ed78770ddc3925", func := "sackbut/sackbutlaw03.EvenTurns", spec := "evenTurns", unfollowed := true, recurses := true, named := ["math/bits.deBruijn32tab", "math/bits.deBruijn64tab"], apart := false, laid := [("math/bits.deBruijn32tab", laid_math_bits_deBruijn32tab), ("math/bits.deBruijn64tab", laid_math_bits_deBruijn64tab)], narrowed := true }
def EvenTurnsUptoSaid : Prop := evenTurnsUptoRow.holds Tryd.pinned (OpenSpec.upto evenTurnsSpec)

/-- 'sackbuttop.TopSum', WHERE WHAT IT READS IS OF BULK AT MOST 1048576: true; the input reads as it did. -/
def topSumUptoRow : OpenClaim := { program := "ytmemnkmmjejlgaadoor", sum := "a8f2741a344970347f1418edcc5af1a56b9d8008afcbd55365ed78770ddc3925", func := "sackbut/sackbuttop.TopSum", spec := "topSum", unfollowed := true, recurses := true, named := ["math/bits.deBruijn32tab", "math/bits.deBruijn64tab"], apart := false, laid := [("math/bits.deBruijn32tab", laid_math_bits_deBruijn32tab), ("math/bits.deBruijn64tab", laid_math_bits_deBruijn64tab)], narrowed := true }
def TopSumUptoSaid : Prop := topSumUptoRow.holds Tryd.pinned (OpenSpec.upto topSumSpec)

/-- 'sackbuttop.TopDeep', WHERE WHAT IT READS IS OF BULK AT MOST 1048576: true; the input reads as it did. -/
def topDeepUptoRow : OpenClaim := { program := "ytmemnkmmjejlgaadoor", sum := "a8f2741a344970347f1418edcc5af1a56b9d8008afcbd55365ed78770ddc3925", func := "sackbut/sackbuttop.TopDeep", spec := "topDeep", unfollowed := true, recurses := true, named := ["math/bits.deBruijn32tab", "math/bits.deBruijn64tab"], apart := false, laid := [("math/bits.deBruijn32tab", laid_math_bits_deBruijn32tab), ("math/bits.deBruijn64tab", laid_math_bits_deBruijn64tab)], narrowed := true }
def TopDeepUptoSaid : Prop := topDeepUptoRow.holds Tryd.pinned (OpenSpec.upto topDeepSpec)

end Rows
end Go.Proofs.YtmemnkmmjejlgaaDoor
