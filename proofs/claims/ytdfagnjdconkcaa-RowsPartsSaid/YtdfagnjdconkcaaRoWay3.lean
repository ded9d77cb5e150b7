/-
  Way where it refuses; the reference's Way.
-/
import Derived.Test.YtdfagnjdconkcaaRoWay2
namespace Go.Proofs.Ytdfagnjdconkcaa
open Go.ChangeShapes Go.WideShapes Go.ChangeAt Go.RowKit
set_option maxRecDepth 100000

end Go.Proofs.Ytdfagnjdconkcaa
