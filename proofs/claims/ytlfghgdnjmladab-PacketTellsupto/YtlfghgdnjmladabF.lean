/- The contract of Up, of package serial. -/
import Derived.Test.YtlfghgdnjmladabE
namespace Go.Proofs.Ytlfghgdnjmladab
open Go.RowKit

/-- What Up tells. -/
def upM (l : List Sp) (c : Int) : Int × List Sp := ((scan soUp c l).2, l.drop (scan soUp c l).1)

end Go.Proofs.Ytlfghgdnjmladab
