/- The contracts of Has, of package serial: whether a span has the number. -/
import Derived.Test.YtnddejdndipddabC
set_option maxRecDepth 20000
namespace Go.Proofs.Ytnddejdndipddab
open Go.RowKit

/-- Is a number in spans? -/
def inM (l : List Sp) (n : Int) : Bool := l.any fun s => decide (s.1 ≤ n ∧ n ≤ s.2)

theorem scan_has (n : Int) (l : List Sp) (c : Int) : (scan (soHas n) c l).1 < l.length ↔ inM l n = true := by
  induction l generalizing c with
  | nil => simp [scan, inM]
  | cons s r ih =>
    by_cases h : s.1 ≤ n ∧ n ≤ s.2
    · have e : (soHas n c s).1 = true := by simp [soHas, h]
      simp [scan, e, inM, h]
    · have := ih c
      simp only [inM] at this
      simp [scan, inM, h, soHas] at this ⊢
      exact this
theorem scan_le (so : Int → Sp → Bool × Int) (l : List Sp) (c : Int) : (scan so c l).1 ≤ l.length := by
  induction l generalizing c with
  | nil => simp [scan]
  | cons s r ih =>
    simp only [scan]
    split
    · simp
    · have := ih (so c s).2; simp; omega

theorem box_cell (w : World) (v : Value) (t : TypeId) : (w.alloc (.cells #[v] t)).cell? ⟨w.heap.size, 0, none⟩ = some v := by
  rw [World.cell?_alloc_at _ _ _ _ rfl]; rfl
theorem box_frozen (w : World) (v : Value) (t : TypeId) : (w.alloc (.cells #[v] t)).frozen? ⟨w.heap.size, 0, none⟩ = false := World.frozen?_alloc_at _ _ _ _ rfl
theorem box_below (w : World) (o : Obj) : Below w.heap.size w (w.alloc o) := (Below.refl _ _).alloc (Nat.le_refl _) _

end Go.Proofs.Ytnddejdndipddab
