/-
  Way where it refuses; the reference's Way.
-/
import Derived.Test.YtaldfaecpcnomaaDoorRoWay2
namespace Go.Proofs.YtaldfaecpcnomaaDoor
open Go.ChangeShapes Go.WideShapes Go.ChangeAt Go.RowKit
set_option maxRecDepth 100000

end Go.Proofs.YtaldfaecpcnomaaDoor
