/-
  No cell of these rows narrows 'for every input' (looked for: loops, veiled, ifaces, maps, wideKeys, modest, calm, conditions, laid).
  DERIVED. THE GIVEN ROWS OF THIS SEAT. 15 by the template 'for every input the law returns true; each argument reads behind the call as it read before'; 0 by the template 'total and deterministic' (their statements: YtkpmkeklopfhdaaTotals.lean).
  GIVEN WITH THE SEED: the statements are not yours to turn. If you find one false, say at which input.
  Laid BY PROGRAM, IN A SANDBOX (cutbox-rows.mjs): the forced cells as the released guide's own fill.sh prints them over the translation a47127e836c9a3d5… (all of the seat's roots in one cut). By AI agents, Wed Nov 11 2026. No macro, syntax, notation, axiom, sorry.
-/
import Derived.Test.YtkpmkeklopfhdaaChecked
import GoSem.Claim
import GoSem.ClaimJoined
import GoSem.ClaimMapViews
import Derived.JoinedTies
import Derived.KernelRfl
namespace Go.Proofs.Ytkpmkeklopfhdaa
/- THE CELL 'sum', in the pinned program and in every row, IS THE sha256 OF THE DUMP (.gsa) THAT YtkpmkeklopfhdaaProg.lean LOADS. Nothing in Lean hashes anything: it is a label: what it is worth is what the hold of that sum in a sandbox is worth. -/
noncomputable def Try.pinned : Pinned := { name := "ytkpmkeklopfhdaa", sum := "a47127e836c9a3d5eee34563874dcf7d1d356dd8a6bc90046da14a5aa9811a5b", checked := Try.checked }
namespace Rows
def none {H : Type} : Left H := { results := [], args := [] }

/-- 'sackbutlaw09.EditsCosts': WHATEVER THE INPUT: true; the input reads as it did. -/
def editsCostsSpec : ChangeSpec := { name := "editsCosts", fn := fun _ => fun
  | [d1, d2, d3] => { results := [.lit (.bool true)], args := [d1, d2, d3] }
  | _ => none }
def editsCostsRow : OpenClaim := { program := "ytkpmkeklopfhdaa", sum := "a47127e836c9a3d5eee34563874dcf7d1d356dd8a6bc90046da14a5aa9811a5b", func := "sackbut/sackbutlaw09.EditsCosts", spec := "editsCosts", unfollowed := true, recurses := true, apart := false }
def EditsCostsSaid : Prop := editsCostsRow.holds Try.pinned (OpenSpec.ofChange editsCostsSpec)

/-- ITS FALSE NEIGHBOUR: 'it returns false'. Refute it at one input. -/
def editsCostsWrong : ChangeSpec := { name := "editsCosts", fn := fun _ => fun
  | [d1, d2, d3] => { results := [.lit (.bool false)], args := [d1, d2, d3] }
  | _ => none }
def EditsCostsWrongFalsely : Prop := editsCostsRow.holds Try.pinned (OpenSpec.ofChange editsCostsWrong)

/-- 'sackbutlaw09.EditsChecks': WHATEVER THE INPUT: true; the input reads as it did. -/
def editsChecksSpec : ChangeSpec := { name := "editsChecks", fn := fun _ => fun
  | [d1, d2, d3, d4] => { results := [.lit (.bool true)], args := [d1, d2, d3, d4] }
  | _ => none }
def editsChecksRow : OpenClaim := { program := "ytkpmkeklopfhdaa", sum := "a47127e836c9a3d5eee34563874dcf7d1d356dd8a6bc90046da14a5aa9811a5b", func := "sackbut/sackbutlaw09.EditsChecks", spec := "editsChecks", inPlace := ["internal/abi.NoEscape"], unfollowed := true, recurses := true, apart := false }
def EditsChecksSaid : Prop := editsChecksRow.holds Try.pinned (OpenSpec.ofChange editsChecksSpec)

/-- ITS FALSE NEIGHBOUR: 'it returns false'. Refute it at one input. -/
def editsChecksWrong : ChangeSpec := { name := "editsChecks", fn := fun _ => fun
  | [d1, d2, d3, d4] => { results := [.lit (.bool false)], args := [d1, d2, d3, d4] }
  | _ => none }
def EditsChecksWrongFalsely : Prop := editsChecksRow.holds Try.pinned (OpenSpec.ofChange editsChecksWrong)

/-- 'sackbutlaw09.EditsHeights': WHATEVER THE INPUT: true; the input reads as it did. -/
def editsHeightsSpec : ChangeSpec := { name := "editsHeights", fn := fun _ => fun
  | [d1, d2, d3, d4] => { results := [.lit (.bool true)], args := [d1, d2, d3, d4] }
  | _ => none }
def editsHeightsRow : OpenClaim := { program := "ytkpmkeklopfhdaa", sum := "a47127e836c9a3d5eee34563874dcf7d1d356dd8a6bc90046da14a5aa9811a5b", func := "sackbut/sackbutlaw09.EditsHeights", spec := "editsHeights", unfollowed := true, recurses := true, apart := false }
def EditsHeightsSaid : Prop := editsHeightsRow.holds Try.pinned (OpenSpec.ofChange editsHeightsSpec)

/-- ITS FALSE NEIGHBOUR: 'it returns false'. Refute it at one input. -/
def editsHeightsWrong : ChangeSpec := { name := "editsHeights", fn := fun _ => fun
  | [d1, d2, d3, d4] => { results := [.lit (.bool false)], args := [d1, d2, d3, d4] }
  | _ => none }
def EditsHeightsWrongFalsely : Prop := editsHeightsRow.holds Try.pinned (OpenSpec.ofChange editsHeightsWrong)

/-- 'sackbutlaw09.EditsWays': WHATEVER THE INPUT: true; the input reads as it did. -/
def editsWaysSpec : ChangeSpec := { name := "editsWays", fn := fun _ => fun
  | [d1, d2, d3] => { results := [.lit (.bool true)], args := [d1, d2, d3] }
  | _ => none }
def editsWaysRow : OpenClaim := { program := "ytkpmkeklopfhdaa", sum := "a47127e836c9a3d5eee34563874dcf7d1d356dd8a6bc90046da14a5aa9811a5b", func := "sackbut/sackbutlaw09.EditsWays", spec := "editsWays", unfollowed := true, recurses := true, apart := false }
def EditsWaysSaid : Prop := editsWaysRow.holds Try.pinned (OpenSpec.ofChange editsWaysSpec)

/-- ITS FALSE NEIGHBOUR: 'it returns false'. Refute it at one input. -/
def editsWaysWrong : ChangeSpec := { name := "editsWays", fn := fun _ => fun
  | [d1, d2, d3] => { results := [.lit (.bool false)], args := [d1, d2, d3] }
  | _ => none }
def EditsWaysWrongFalsely : Prop := editsWaysRow.holds Try.pinned (OpenSpec.ofChange editsWaysWrong)

/-- 'sackbutlaw09.EditsCommon': WHATEVER THE INPUT: true; the input reads as it did. -/
def editsCommonSpec : ChangeSpec := { name := "editsCommon", fn := fun _ => fun
  | [d1, d2] => { results := [.lit (.bool true)], args := [d1, d2] }
  | _ => none }
def editsCommonRow : OpenClaim := { program := "ytkpmkeklopfhdaa", sum := "a47127e836c9a3d5eee34563874dcf7d1d356dd8a6bc90046da14a5aa9811a5b", func := "sackbut/sackbutlaw09.EditsCommon", spec := "editsCommon", unfollowed := true, recurses := true, apart := false }
def EditsCommonSaid : Prop := editsCommonRow.holds Try.pinned (OpenSpec.ofChange editsCommonSpec)

/-- ITS FALSE NEIGHBOUR: 'it returns false'. Refute it at one input. -/
def editsCommonWrong : ChangeSpec := { name := "editsCommon", fn := fun _ => fun
  | [d1, d2] => { results := [.lit (.bool false)], args := [d1, d2] }
  | _ => none }
def EditsCommonWrongFalsely : Prop := editsCommonRow.holds Try.pinned (OpenSpec.ofChange editsCommonWrong)

/-- 'sackbutlaw09.EditsOver': WHATEVER THE INPUT: true; the input reads as it did. -/
def editsOverSpec : ChangeSpec := { name := "editsOver", fn := fun _ => fun
  | [d1, d2] => { results := [.lit (.bool true)], args := [d1, d2] }
  | _ => none }
def editsOverRow : OpenClaim := { program := "ytkpmkeklopfhdaa", sum := "a47127e836c9a3d5eee34563874dcf7d1d356dd8a6bc90046da14a5aa9811a5b", func := "sackbut/sackbutlaw09.EditsOver", spec := "editsOver", unfollowed := true, recurses := true, apart := false }
def EditsOverSaid : Prop := editsOverRow.holds Try.pinned (OpenSpec.ofChange editsOverSpec)

/-- ITS FALSE NEIGHBOUR: 'it returns false'. Refute it at one input. -/
def editsOverWrong : ChangeSpec := { name := "editsOver", fn := fun _ => fun
  | [d1, d2] => { results := [.lit (.bool false)], args := [d1, d2] }
  | _ => none }
def EditsOverWrongFalsely : Prop := editsOverRow.holds Try.pinned (OpenSpec.ofChange editsOverWrong)

/-- 'sackbutlaw09.EditsWithin': WHATEVER THE INPUT: true; the input reads as it did. -/
def editsWithinSpec : ChangeSpec := { name := "editsWithin", fn := fun _ => fun
  | [d1, d2, d3, d4] => { results := [.lit (.bool true)], args := [d1, d2, d3, d4] }
  | _ => none }
def editsWithinRow : OpenClaim := { program := "ytkpmkeklopfhdaa", sum := "a47127e836c9a3d5eee34563874dcf7d1d356dd8a6bc90046da14a5aa9811a5b", func := "sackbut/sackbutlaw09.EditsWithin", spec := "editsWithin", unfollowed := true, recurses := true, apart := false }
def EditsWithinSaid : Prop := editsWithinRow.holds Try.pinned (OpenSpec.ofChange editsWithinSpec)

/-- ITS FALSE NEIGHBOUR: 'it returns false'. Refute it at one input. -/
def editsWithinWrong : ChangeSpec := { name := "editsWithin", fn := fun _ => fun
  | [d1, d2, d3, d4] => { results := [.lit (.bool false)], args := [d1, d2, d3, d4] }
  | _ => none }
def EditsWithinWrongFalsely : Prop := editsWithinRow.holds Try.pinned (OpenSpec.ofChange editsWithinWrong)

/-- 'sackbutlaw09.EditsProves': WHATEVER THE INPUT: true; the input reads as it did. -/
def editsProvesSpec : ChangeSpec := { name := "editsProves", fn := fun _ => fun
  | [d1, d2, d3] => { results := [.lit (.bool true)], args := [d1, d2, d3] }
  | _ => none }
def editsProvesRow : OpenClaim := { program := "ytkpmkeklopfhdaa", sum := "a47127e836c9a3d5eee34563874dcf7d1d356dd8a6bc90046da14a5aa9811a5b", func := "sackbut/sackbutlaw09.EditsProves", spec := "editsProves", inPlace := ["internal/abi.NoEscape"], unfollowed := true, recurses := true, apart := false }
def EditsProvesSaid : Prop := editsProvesRow.holds Try.pinned (OpenSpec.ofChange editsProvesSpec)

/-- ITS FALSE NEIGHBOUR: 'it returns false'. Refute it at one input. -/
def editsProvesWrong : ChangeSpec := { name := "editsProves", fn := fun _ => fun
  | [d1, d2, d3] => { results := [.lit (.bool false)], args := [d1, d2, d3] }
  | _ => none }
def EditsProvesWrongFalsely : Prop := editsProvesRow.holds Try.pinned (OpenSpec.ofChange editsProvesWrong)

/-- 'sackbutlaw09.EditsBounds': WHATEVER THE INPUT: true; the input reads as it did. -/
def editsBoundsSpec : ChangeSpec := { name := "editsBounds", fn := fun _ => fun
  | [d1, d2, d3, d4, d5] => { results := [.lit (.bool true)], args := [d1, d2, d3, d4, d5] }
  | _ => none }
def editsBoundsRow : OpenClaim := { program := "ytkpmkeklopfhdaa", sum := "a47127e836c9a3d5eee34563874dcf7d1d356dd8a6bc90046da14a5aa9811a5b", func := "sackbut/sackbutlaw09.EditsBounds", spec := "editsBounds", inPlace := ["internal/abi.NoEscape"], unfollowed := true, recurses := true, apart := false }
def EditsBoundsSaid : Prop := editsBoundsRow.holds Try.pinned (OpenSpec.ofChange editsBoundsSpec)

/-- ITS FALSE NEIGHBOUR: 'it returns false'. Refute it at one input. -/
def editsBoundsWrong : ChangeSpec := { name := "editsBounds", fn := fun _ => fun
  | [d1, d2, d3, d4, d5] => { results := [.lit (.bool false)], args := [d1, d2, d3, d4, d5] }
  | _ => none }
def EditsBoundsWrongFalsely : Prop := editsBoundsRow.holds Try.pinned (OpenSpec.ofChange editsBoundsWrong)

/-- 'sackbutlaw09.EditsPrices': WHATEVER THE INPUT: true; the input reads as it did. -/
def editsPricesSpec : ChangeSpec := { name := "editsPrices", fn := fun _ => fun
  | [d1, d2, d3, d4] => { results := [.lit (.bool true)], args := [d1, d2, d3, d4] }
  | _ => none }
def editsPricesRow : OpenClaim := { program := "ytkpmkeklopfhdaa", sum := "a47127e836c9a3d5eee34563874dcf7d1d356dd8a6bc90046da14a5aa9811a5b", func := "sackbut/sackbutlaw09.EditsPrices", spec := "editsPrices", unfollowed := true, recurses := true, apart := false }
def EditsPricesSaid : Prop := editsPricesRow.holds Try.pinned (OpenSpec.ofChange editsPricesSpec)

/-- ITS FALSE NEIGHBOUR: 'it returns false'. Refute it at one input. -/
def editsPricesWrong : ChangeSpec := { name := "editsPrices", fn := fun _ => fun
  | [d1, d2, d3, d4] => { results := [.lit (.bool false)], args := [d1, d2, d3, d4] }
  | _ => none }
def EditsPricesWrongFalsely : Prop := editsPricesRow.holds Try.pinned (OpenSpec.ofChange editsPricesWrong)

/-- 'sackbutlaw09.EditsTriangle': WHATEVER THE INPUT: true; the input reads as it did. -/
def editsTriangleSpec : ChangeSpec := { name := "editsTriangle", fn := fun _ => fun
  | [d1, d2, d3, d4] => { results := [.lit (.bool true)], args := [d1, d2, d3, d4] }
  | _ => none }
def editsTriangleRow : OpenClaim := { program := "ytkpmkeklopfhdaa", sum := "a47127e836c9a3d5eee34563874dcf7d1d356dd8a6bc90046da14a5aa9811a5b", func := "sackbut/sackbutlaw09.EditsTriangle", spec := "editsTriangle", unfollowed := true, recurses := true, apart := false }
def EditsTriangleSaid : Prop := editsTriangleRow.holds Try.pinned (OpenSpec.ofChange editsTriangleSpec)

/-- ITS FALSE NEIGHBOUR: 'it returns false'. Refute it at one input. -/
def editsTriangleWrong : ChangeSpec := { name := "editsTriangle", fn := fun _ => fun
  | [d1, d2, d3, d4] => { results := [.lit (.bool false)], args := [d1, d2, d3, d4] }
  | _ => none }
def EditsTriangleWrongFalsely : Prop := editsTriangleRow.holds Try.pinned (OpenSpec.ofChange editsTriangleWrong)

/-- 'sackbutlaw09.EditsParts': WHATEVER THE INPUT: true; the input reads as it did. -/
def editsPartsSpec : ChangeSpec := { name := "editsParts", fn := fun _ => fun
  | [d1, d2, d3] => { results := [.lit (.bool true)], args := [d1, d2, d3] }
  | _ => none }
def editsPartsRow : OpenClaim := { program := "ytkpmkeklopfhdaa", sum := "a47127e836c9a3d5eee34563874dcf7d1d356dd8a6bc90046da14a5aa9811a5b", func := "sackbut/sackbutlaw09.EditsParts", spec := "editsParts", unfollowed := true, recurses := true, apart := false }
def EditsPartsSaid : Prop := editsPartsRow.holds Try.pinned (OpenSpec.ofChange editsPartsSpec)

/-- ITS FALSE NEIGHBOUR: 'it returns false'. Refute it at one input. -/
def editsPartsWrong : ChangeSpec := { name := "editsParts", fn := fun _ => fun
  | [d1, d2, d3] => { results := [.lit (.bool false)], args := [d1, d2, d3] }
  | _ => none }
def EditsPartsWrongFalsely : Prop := editsPartsRow.holds Try.pinned (OpenSpec.ofChange editsPartsWrong)

/-- 'sackbutlaw09.EditsRepeats': WHATEVER THE INPUT: true; the input reads as it did. -/
def editsRepeatsSpec : ChangeSpec := { name := "editsRepeats", fn := fun _ => fun
  | [d1, d2, d3] => { results := [.lit (.bool true)], args := [d1, d2, d3] }
  | _ => none }
def editsRepeatsRow : OpenClaim := { program := "ytkpmkeklopfhdaa", sum := "a47127e836c9a3d5eee34563874dcf7d1d356dd8a6bc90046da14a5aa9811a5b", func := "sackbut/sackbutlaw09.EditsRepeats", spec := "editsRepeats", unfollowed := true, recurses := true, apart := false }
def EditsRepeatsSaid : Prop := editsRepeatsRow.holds Try.pinned (OpenSpec.ofChange editsRepeatsSpec)

/-- ITS FALSE NEIGHBOUR: 'it returns false'. Refute it at one input. -/
def editsRepeatsWrong : ChangeSpec := { name := "editsRepeats", fn := fun _ => fun
  | [d1, d2, d3] => { results := [.lit (.bool false)], args := [d1, d2, d3] }
  | _ => none }
def EditsRepeatsWrongFalsely : Prop := editsRepeatsRow.holds Try.pinned (OpenSpec.ofChange editsRepeatsWrong)

/-- 'sackbutlaw09.EditsBoth': WHATEVER THE INPUT: true; the input reads as it did. -/
def editsBothSpec : ChangeSpec := { name := "editsBoth", fn := fun _ => fun
  | [d1, d2, d3] => { results := [.lit (.bool true)], args := [d1, d2, d3] }
  | _ => none }
def editsBothRow : OpenClaim := { program := "ytkpmkeklopfhdaa", sum := "a47127e836c9a3d5eee34563874dcf7d1d356dd8a6bc90046da14a5aa9811a5b", func := "sackbut/sackbutlaw09.EditsBoth", spec := "editsBoth", unfollowed := true, recurses := true, apart := false }
def EditsBothSaid : Prop := editsBothRow.holds Try.pinned (OpenSpec.ofChange editsBothSpec)

/-- ITS FALSE NEIGHBOUR: 'it returns false'. Refute it at one input. -/
def editsBothWrong : ChangeSpec := { name := "editsBoth", fn := fun _ => fun
  | [d1, d2, d3] => { results := [.lit (.bool false)], args := [d1, d2, d3] }
  | _ => none }
def EditsBothWrongFalsely : Prop := editsBothRow.holds Try.pinned (OpenSpec.ofChange editsBothWrong)

/-- 'sackbutlaw09.EditsNear': WHATEVER THE INPUT: true; the input reads as it did. -/
def editsNearSpec : ChangeSpec := { name := "editsNear", fn := fun _ => fun
  | [d1, d2, d3, d4] => { results := [.lit (.bool true)], args := [d1, d2, d3, d4] }
  | _ => none }
def editsNearRow : OpenClaim := { program := "ytkpmkeklopfhdaa", sum := "a47127e836c9a3d5eee34563874dcf7d1d356dd8a6bc90046da14a5aa9811a5b", func := "sackbut/sackbutlaw09.EditsNear", spec := "editsNear", unfollowed := true, recurses := true, apart := false }
def EditsNearSaid : Prop := editsNearRow.holds Try.pinned (OpenSpec.ofChange editsNearSpec)

/-- ITS FALSE NEIGHBOUR: 'it returns false'. Refute it at one input. -/
def editsNearWrong : ChangeSpec := { name := "editsNear", fn := fun _ => fun
  | [d1, d2, d3, d4] => { results := [.lit (.bool false)], args := [d1, d2, d3, d4] }
  | _ => none }
def EditsNearWrongFalsely : Prop := editsNearRow.holds Try.pinned (OpenSpec.ofChange editsNearWrong)

/- THE SECOND FORM. 'bulk': how many values and letters a reading holds, each counted each time it is reached (what is shared counts as often as it is met; a slice's spare places count too). A statement '..UptoSaid' is the law's where the arguments, and the package variables that the reading takes, are together of bulk at most 1048576: NARROWER than '..Said'. Prove '..Said' where nothing that the law and all that it calls make is longer than what came in: it says more and counts as full. Else prove '..UptoSaid'. A law counts once. -/
mutual
def uptoBulk {H : Type} : DataW H → Nat
  | .lit (.string bytes) => bytes.length + 1
  | .lit _ => 1
  | .nil => 1
  | .ptr d => uptoBulk d + 1
  | .slice elems spare => uptoBulkAll elems + uptoBulkAll spare + 1
  | .agg parts => uptoBulkAll parts + 1
  | .iface _ d => uptoBulk d + 1
  | .map entries => uptoBulkEntries entries + 1
  | .held _ => 1
def uptoBulkAll {H : Type} : List (DataW H) → Nat
  | [] => 0
  | d :: r => uptoBulk d + uptoBulkAll r
def uptoBulkEntries {H : Type} : List (Lit × DataW H) → Nat
  | [] => 0
  | x :: r => uptoBulkEntry x + uptoBulkEntries r
def uptoBulkEntry {H : Type} : Lit × DataW H → Nat
  | (.string bytes, d) => bytes.length + uptoBulk d + 1
  | (_, d) => uptoBulk d + 1
 end
def uptoSmall : (H : Type) → List (DataW H) → Bool := fun _ ds => decide (uptoBulkAll ds ≤ 1048576)
def OpenSpec.upto (s : _root_.Go.ChangeSpec) : _root_.Go.OpenSpec := { _root_.Go.OpenSpec.ofChange s with cond := some uptoSmall }

/-- 'sackbutlaw09.EditsCosts', WHERE WHAT IT READS IS OF BULK AT MOST 1048576: true; the input reads as it did. -/
def editsCostsUptoRow : OpenClaim := { program := "ytkpmkeklopfhdaa", sum := "a47127e836c9a3d5eee34563874dcf7d1d356dd8a6bc90046da14a5aa9811a5b", func := "sackbut/sackbutlaw09.EditsCosts", spec := "editsCosts", unfollowed := true, recurses := true, apart := false, narrowed := true }
def EditsCostsUptoSaid : Prop := editsCostsUptoRow.holds Try.pinned (OpenSpec.upto editsCostsSpec)

/-- 'sackbutlaw09.EditsChecks', WHERE WHAT IT READS IS OF BULK AT MOST 1048576: true; the input reads as it did. -/
def editsChecksUptoRow : OpenClaim := { program := "ytkpmkeklopfhdaa", sum := "a47127e836c9a3d5eee34563874dcf7d1d356dd8a6bc90046da14a5aa9811a5b", func := "sackbut/sackbutlaw09.EditsChecks", spec := "editsChecks", inPlace := ["internal/abi.NoEscape"], unfollowed := true, recurses := true, apart := false, narrowed := true }
def EditsChecksUptoSaid : Prop := editsChecksUptoRow.holds Try.pinned (OpenSpec.upto editsChecksSpec)

/-- 'sackbutlaw09.EditsHeights', WHERE WHAT IT READS IS OF BULK AT MOST 1048576: true; the input reads as it did. -/
def editsHeightsUptoRow : OpenClaim := { program := "ytkpmkeklopfhdaa", sum := "a47127e836c9a3d5eee34563874dcf7d1d356dd8a6bc90046da14a5aa9811a5b", func := "sackbut/sackbutlaw09.EditsHeights", spec := "editsHeights", unfollowed := true, recurses := true, apart := false, narrowed := true }
def EditsHeightsUptoSaid : Prop := editsHeightsUptoRow.holds Try.pinned (OpenSpec.upto editsHeightsSpec)

/-- 'sackbutlaw09.EditsWays', WHERE WHAT IT READS IS OF BULK AT MOST 1048576: true; the input reads as it did. -/
def editsWaysUptoRow : OpenClaim := { program := "ytkpmkeklopfhdaa", sum := "a47127e836c9a3d5eee34563874dcf7d1d356dd8a6bc90046da14a5aa9811a5b", func := "sackbut/sackbutlaw09.EditsWays", spec := "editsWays", unfollowed := true, recurses := true, apart := false, narrowed := true }
def EditsWaysUptoSaid : Prop := editsWaysUptoRow.holds Try.pinned (OpenSpec.upto editsWaysSpec)

/-- 'sackbutlaw09.EditsCommon', WHERE WHAT IT READS IS OF BULK AT MOST 1048576: true; the input reads as it did. -/
def editsCommonUptoRow : OpenClaim := { program := "ytkpmkeklopfhdaa", sum := "a47127e836c9a3d5eee34563874dcf7d1d356dd8a6bc90046da14a5aa9811a5b", func := "sackbut/sackbutlaw09.EditsCommon", spec := "editsCommon", unfollowed := true, recurses := true, apart := false, narrowed := true }
def EditsCommonUptoSaid : Prop := editsCommonUptoRow.holds Try.pinned (OpenSpec.upto editsCommonSpec)

/-- 'sackbutlaw09.EditsOver', WHERE WHAT IT READS IS OF BULK AT MOST 1048576: true; the input reads as it did. -/
def editsOverUptoRow : OpenClaim := { program := "ytkpmkeklopfhdaa", sum := "a47127e836c9a3d5eee34563874dcf7d1d356dd8a6bc90046da14a5aa9811a5b", func := "sackbut/sackbutlaw09.EditsOver", spec := "editsOver", unfollowed := true, recurses := true, apart := false, narrowed := true }
def EditsOverUptoSaid : Prop := editsOverUptoRow.holds Try.pinned (OpenSpec.upto editsOverSpec)

/-- 'sackbutlaw09.EditsWithin', WHERE WHAT IT READS IS OF BULK AT MOST 1048576: true; the input reads as it did. -/
def editsWithinUptoRow : OpenClaim := { program := "ytkpmkeklopfhdaa", sum := "a47127e836c9a3d5eee34563874dcf7d1d356dd8a6bc90046da14a5aa9811a5b", func := "sackbut/sackbutlaw09.EditsWithin", spec := "editsWithin", unfollowed := true, recurses := true, apart := false, narrowed := true }
def EditsWithinUptoSaid : Prop := editsWithinUptoRow.holds Try.pinned (OpenSpec.upto editsWithinSpec)

/-- 'sackbutlaw09.EditsProves', WHERE WHAT IT READS IS OF BULK AT MOST 1048576: true; the input reads as it did. -/
def editsProvesUptoRow : OpenClaim := { program := "ytkpmkeklopfhdaa", sum := "a47127e836c9a3d5eee34563874dcf7d1d356dd8a6bc90046da14a5aa9811a5b", func := "sackbut/sackbutlaw09.EditsProves", spec := "editsProves", inPlace := ["internal/abi.NoEscape"], unfollowed := true, recurses := true, apart := false, narrowed := true }
def EditsProvesUptoSaid : Prop := editsProvesUptoRow.holds Try.pinned (OpenSpec.upto editsProvesSpec)

/-- 'sackbutlaw09.EditsBounds', WHERE WHAT IT READS IS OF BULK AT MOST 1048576: true; the input reads as it did. -/
def editsBoundsUptoRow : OpenClaim := { program := "ytkpmkeklopfhdaa", sum := "a47127e836c9a3d5eee34563874dcf7d1d356dd8a6bc90046da14a5aa9811a5b", func := "sackbut/sackbutlaw09.EditsBounds", spec := "editsBounds", inPlace := ["internal/abi.NoEscape"], unfollowed := true, recurses := true, apart := false, narrowed := true }
def EditsBoundsUptoSaid : Prop := editsBoundsUptoRow.holds Try.pinned (OpenSpec.upto editsBoundsSpec)

/-- 'sackbutlaw09.EditsPrices', WHERE WHAT IT READS IS OF BULK AT MOST 1048576: true; the input reads as it did. -/
def editsPricesUptoRow : OpenClaim := { program := "ytkpmkeklopfhdaa", sum := "a47127e836c9a3d5eee34563874dcf7d1d356dd8a6bc90046da14a5aa9811a5b", func := "sackbut/sackbutlaw09.EditsPrices", spec := "editsPrices", unfollowed := true, recurses := true, apart := false, narrowed := true }
def EditsPricesUptoSaid : Prop := editsPricesUptoRow.holds Try.pinned (OpenSpec.upto editsPricesSpec)

/-- 'sackbutlaw09.EditsTriangle', WHERE WHAT IT READS IS OF BULK AT MOST 1048576: true; the input reads as it did. -/
def editsTriangleUptoRow : OpenClaim := { program := "ytkpmkeklopfhdaa", sum := "a47127e836c9a3d5eee34563874dcf7d1d356dd8a6bc90046da14a5aa9811a5b", func := "sackbut/sackbutlaw09.EditsTriangle", spec := "editsTriangle", unfollowed := true, recurses := true, apart := false, narrowed := true }
def EditsTriangleUptoSaid : Prop := editsTriangleUptoRow.holds Try.pinned (OpenSpec.upto editsTriangleSpec)

/-- 'sackbutlaw09.EditsParts', WHERE WHAT IT READS IS OF BULK AT MOST 1048576: true; the input reads as it did. -/
def editsPartsUptoRow : OpenClaim := { program := "ytkpmkeklopfhdaa", sum := "a47127e836c9a3d5eee34563874dcf7d1d356dd8a6bc90046da14a5aa9811a5b", func := "sackbut/sackbutlaw09.EditsParts", spec := "editsParts", unfollowed := true, recurses := true, apart := false, narrowed := true }
def EditsPartsUptoSaid : Prop := editsPartsUptoRow.holds Try.pinned (OpenSpec.upto editsPartsSpec)

/-- 'sackbutlaw09.EditsRepeats', WHERE WHAT IT READS IS OF BULK AT MOST 1048576: true; the input reads as it did. -/
def editsRepeatsUptoRow : OpenClaim := { program := "ytkpmkeklopfhdaa", sum := "a47127e836c9a3d5eee34563874dcf7d1d356dd8a6bc90046da14a5aa9811a5b", func := "sackbut/sackbutlaw09.EditsRepeats", spec := "editsRepeats", unfollowed := true, recurses := true, apart := false, narrowed := true }
def EditsRepeatsUptoSaid : Prop := editsRepeatsUptoRow.holds Try.pinned (OpenSpec.upto editsRepeatsSpec)

/-- 'sackbutlaw09.EditsBoth', WHERE WHAT IT READS IS OF BULK AT MOST 1048576: true; the input reads as it did. -/
def editsBothUptoRow : OpenClaim := { program := "ytkpmkeklopfhdaa", sum := "a47127e836c9a3d5eee34563874dcf7d1d356dd8a6bc90046da14a5aa9811a5b", func := "sackbut/sackbutlaw09.EditsBoth", spec := "editsBoth", unfollowed := true, recurses := true, apart := false, narrowed := true }
def EditsBothUptoSaid : Prop := editsBothUptoRow.holds Try.pinned (OpenSpec.upto editsBothSpec)

/-- 'sackbutlaw09.EditsNear', WHERE WHAT IT READS IS OF BULK AT MOST 1048576: true; the input reads as it did. -/
def editsNearUptoRow : OpenClaim := { program := "ytkpmkeklopfhdaa", sum := "a47127e836c9a3d5eee34563874dcf7d1d356dd8a6bc90046da14a5aa9811a5b", func := "sackbut/sackbutlaw09.EditsNear", spec := "editsNear", unfollowed := true, recurses := true, apart := false, narrowed := true }
def EditsNearUptoSaid : Prop := editsNearUptoRow.holds Try.pinned (OpenSpec.upto editsNearSpec)

end Rows
end Go.Proofs.Ytkpmkeklopfhdaa
