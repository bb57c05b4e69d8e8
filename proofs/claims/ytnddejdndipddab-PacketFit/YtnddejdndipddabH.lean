/- The contract of alive: a closed fact. -/
import Derived.Test.YtnddejdndipddabG
set_option maxRecDepth 20000
namespace Go.Proofs.Ytnddejdndipddab
open Go.RowKit

theorem e_add1 : addM [(3, 4)] 6 = [(3, 4), (6, 6)] := by decide
theorem e_add2 : addM [(3, 4), (6, 6)] 5 = [(3, 6)] := by decide
theorem e_up : upM [(3, 6)] 2 = (6, []) := by decide
theorem e_has5 : inM [(3, 6)] 5 = true := by decide
theorem e_has7 : inM [(3, 6)] 7 = false := by decide
theorem e_near : nearM 65530 3 = 65539 := by decide

/-- A contract's world: nothing old has turned, and a slice of spans. -/
theorem Sl.size {B : Nat} {w w' : World} {v : Value} {l : List Sp} (h : Sl w.heap.size w v l) (hb : Below B w w') (hB : w.heap.size ≤ B) : Sl w'.heap.size w' v l := (h.below hb hB).mono hb.size

end Go.Proofs.Ytnddejdndipddab
