/- Contracts of Tag, Near and apart, of package serial, and of the document's Tag: what each returns, in whatever world. -/
import Derived.Test.YtnddejdndipddabRows
import Derived.WalkKit
import Derived.WalkSpells
import Derived.WalkLawsBesides
set_option maxRecDepth 20000
namespace Go.Proofs.Ytnddejdndipddab
open Go.RowKit

theorem ret_int {k : IntKind} {a b : Int} (h : a = b) : Ending.returned (.int k a) = .returned (.int k b) := by rw [h]
theorem ret_bool {a b : Bool} (h : a = b) : Ending.returned (.bool a) = .returned (.bool b) := by rw [h]

theorem tmod_cases (n : Int) : (0 ≤ n.tmod 65536 ∧ n.tmod 65536 = n % 65536) ∨ (n.tmod 65536 < 0 ∧ n.tmod 65536 = n % 65536 - 65536) := by
  rw [Int.tmod_eq_emod]
  split
  · left; omega
  · right; rw [show (65536 : Int).natAbs = 65536 from rfl]; omega

theorem tmod_bd (n : Int) : -65536 ≤ n.tmod 65536 ∧ n.tmod 65536 < 65536 := by
  have h := tmod_cases n
  generalize n.tmod 65536 = t at h ⊢
  omega

theorem tag_pos {n : Int} (h : 0 ≤ n.tmod 65536) : n.tmod 65536 = n % 65536 := by have := tmod_cases n; omega
theorem tag_neg {n : Int} (h : n.tmod 65536 < 0) : n.tmod 65536 + 65536 = n % 65536 := by have := tmod_cases n; omega

theorem rtag_eq (n : Int) : (n.tmod 65536 + 65536) % 65536 = n % 65536 := by
  have h := tmod_cases n
  omega

/-- The number that Near tells. -/
def nearM (near tag : Int) : Int := let a := (tag - near) % 65536; if 32768 < a then near + (a - 65536) else near + a

end Go.Proofs.Ytnddejdndipddab
