/- The contract of Up, of package serial. -/
import Derived.Test.YtnddejdndipddabE
set_option maxRecDepth 20000
namespace Go.Proofs.Ytnddejdndipddab
open Go.RowKit

/-- What Up tells. -/
def upM (l : List Sp) (c : Int) : Int × List Sp := ((scan soUp c l).2, l.drop (scan soUp c l).1)

end Go.Proofs.Ytnddejdndipddab
