/- The contracts of Has, of package serial: whether a span has the number. -/
import Derived.Test.YtnddejdndipddaaC
set_option maxRecDepth 20000
namespace Go.Proofs.Ytnddejdndipddaa
open Go.RowKit

/-- Is a number in spans? -/
def inM (l : List Sp) (n : Int) : Bool := l.any fun s => decide (s.1 ≤ n ∧ n ≤ s.2)

theorem scan_has (n : Int) (l : List Sp) (c : Int) : (scan (soHas n) c l).1 < l.length ↔ inM l n = true := by
  induction l generalizing c with
  | nil => simp [scan, inM]
  | cons s r ih =>
    by_cases h : s.1 ≤ n ∧ n ≤ s.2
    · have e : (soHas n c s).1 = true := by simp [soHas, h]
      simp [scan, e, inM, h]
    · have := ih c
      simp only [inM] at this
      simp [scan, inM, h, soHas] at this ⊢
      exact this
theorem scan_le (so : Int → Sp → Bool × Int) (l : List Sp) (c : Int) : (scan so c l).1 ≤ l.length := by
  induction l generalizing c with
  | nil => simp [scan]
  | cons s r ih =>
    simp only [scan]
    split
    · simp
    · have := ih (so c s).2; simp; omega

theorem box_cell (w : World) (v : Value) (t : TypeId) : (w.alloc (.cells #[v] t)).cell? ⟨w.heap.size, 0, none⟩ = some v := by
  rw [World.cell?_alloc_at _ _ _ _ rfl]; rfl
theorem box_frozen (w : World) (v : Value) (t : TypeId) : (w.alloc (.cells #[v] t)).frozen? ⟨w.heap.size, 0, none⟩ = false := World.frozen?_alloc_at _ _ _ _ rfl
theorem box_below (w : World) (o : Obj) : Below w.heap.size w (w.alloc o) := (Below.refl _ _).alloc (Nat.le_refl _) _

set_option maxHeartbeats 400000 in
theorem has_any (v : Value) (l : List Sp) (n : Int) (w : World) (hv : Sl w.heap.size w v l) :
    Calls Try.prog 16 #[v, .int .i64 n] w fun e w' => e = .returned (.bool (inM l n)) ∧ Below w.heap.size w w' := by
  have hmf : ∀ (fn : Fn) (first cap : Array Value) (w : World), (Instr.makeFunc fn first cap).run Try.prog w = .ok (.func fn first cap) w := fun _ _ _ _ => rfl
  have hv' := hv
  obtain ⟨a, cap, rfl, h1, h2, h0, h3, h4⟩ := hv
  clear h4 h0
  go_enter Try.func16, Try.ntmps16
  go_wp2_with fail
  refine (first_any 34 w.heap.size _ l (soHas n) (fun c => c = n) n _ (hv'.below (box_below w _) (Nat.le_refl _)) (by simp) (box_cell _ _ _) (box_frozen _ _ _) rfl enters_Has_1 (asks_has _ _ _)).mono ?_
  rintro e w1 ⟨rfl, -, -, -, hb⟩
  have hle := scan_le (soHas n) l n
  go_wp2
  go_ret
  exact ⟨ret_bool (Bool.eq_iff_iff.2 (by rw [← scan_has n l n]; simp)), (box_below w _).trans hb⟩
end Go.Proofs.Ytnddejdndipddaa
