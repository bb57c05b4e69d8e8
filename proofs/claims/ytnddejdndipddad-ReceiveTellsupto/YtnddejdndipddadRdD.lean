/- The document's receivers: Tells. -/
import Derived.Test.YtnddejdndipddadRdA
import Derived.Test.YtnddejdndipddadRcU
set_option maxRecDepth 20000
namespace Go.Proofs.Ytnddejdndipddad
open Go.RowKit

/-- The first six of the first k, less c. -/
def tellK (c : Int) (l : List Sp) (k : Nat) : List Sp := ((l.take k).take 6).map fun s => (s.1 - c, s.2 - c)
theorem tellK_more (c : Int) (l : List Sp) (k : Nat) (h : k < l.length) (h6 : k < 6) : tellK c l (k + 1) = tellK c l k ++ [(l[k].1 - c, l[k].2 - c)] := by
  unfold tellK
  have e1 : (l.take (k + 1)).take 6 = l.take (k + 1) := List.take_of_length_le (by rw [List.length_take]; omega)
  have e2 : (l.take k).take 6 = l.take k := List.take_of_length_le (by rw [List.length_take]; omega)
  rw [e1, e2, List.take_succ_eq_append_getElem h, List.map_append]
  rfl
theorem tellK_same (c : Int) (l : List Sp) (k : Nat) (h6 : ¬ k < 6) : tellK c l (k + 1) = tellK c l k := by
  unfold tellK
  rw [List.take_take, List.take_take, Nat.min_eq_left (by omega), Nat.min_eq_left (by omega)]
theorem tellK_len (c : Int) (l : List Sp) (k : Nat) : (tellK c l k).length ≤ 6 := by
  unfold tellK
  simp
  omega
theorem tellK_all (c : Int) (l : List Sp) : tellK c l l.length = (l.take 6).map fun s => (s.1 - c, s.2 - c) := by
  unfold tellK
  rw [List.take_length]
end Go.Proofs.Ytnddejdndipddad
