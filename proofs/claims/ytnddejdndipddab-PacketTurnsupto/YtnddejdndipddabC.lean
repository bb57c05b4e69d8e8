/- The contracts of the function values that Has, Add and Up hand to first, and of Has. -/
import Derived.Test.YtnddejdndipddabB
set_option maxRecDepth 20000
namespace Go.Proofs.Ytnddejdndipddab
open Go.RowKit

/-- A number that an int holds. -/
def I64 (n : Int) : Prop := -9223372036854775808 ≤ n ∧ n ≤ 9223372036854775807

/-- Numbers of spans that ints hold. -/
def Fit (l : List Sp) : Prop := ∀ s ∈ l, I64 s.1 ∧ I64 s.2

/-- A slice value that has these spans, below block B. -/
def Sl (B : Nat) (w : World) (v : Value) (l : List Sp) : Prop :=
  ∃ a cap, v = .slice a l.length cap ∧ l.length ≤ cap ∧ cap ≤ 9223372036854775807 ∧ (a = none → cap = 0) ∧ Fit l ∧ (l ≠ [] → ∃ b off, a = some ⟨b, off, none⟩ ∧ b < B ∧ SpAt w b off l)

theorem SpAt.below {w w' : World} {b off B : Nat} {l : List Sp} (h : SpAt w b off l) (hb : b < B) (hbel : Below B w w') : SpAt w' b off l := fun k s hs =>
  ⟨(hbel.cell (p := ⟨b, off + k * 2, none⟩) hb).trans (h k s hs).1, (hbel.cell (p := ⟨b, off + k * 2 + 1, none⟩) hb).trans (h k s hs).2⟩

theorem Sl.below {B B' : Nat} {w w' : World} {v : Value} {l : List Sp} (h : Sl B w v l) (hbel : Below B' w w') (hB : B ≤ B') : Sl B w' v l := by
  obtain ⟨a, cap, rfl, h1, h2, h0, h3, h4⟩ := h
  refine ⟨a, cap, rfl, h1, h2, h0, h3, fun hn => ?_⟩
  obtain ⟨b, off, rfl, hb, hat⟩ := h4 hn
  exact ⟨b, off, rfl, hb, hat.below (by omega) hbel⟩

theorem Sl.mono {B B' : Nat} {w : World} {v : Value} {l : List Sp} (h : Sl B w v l) (hB : B ≤ B') : Sl B' w v l := by
  obtain ⟨a, cap, rfl, h1, h2, h0, h3, h4⟩ := h
  refine ⟨a, cap, rfl, h1, h2, h0, h3, fun hn => ?_⟩
  obtain ⟨b, off, rfl, hb, hat⟩ := h4 hn
  exact ⟨b, off, rfl, by omega, hat⟩

theorem enters_body {f : FuncId} {fn : Func} {c : Code} (hf : Try.prog.funcs[f]? = some fn) (hname : (fn.name == "runtime.NumGoroutine") = false) (hb : fn.body = some c) (args : Array Value) (w : World) :
    (callFunc f args).run Try.prog w = .ok (.enter f args) w := by
  have h1 : fn.name ≠ "runtime.NumGoroutine" := by simpa using hname
  simp [callFunc, hf, h1, hb]

theorem new_cell {w : World} {B : Nat} {o : Obj} {v : Value} (h : w.cell? ⟨B, 0, none⟩ = some v) (hB : B < w.heap.size) : (w.alloc o).cell? ⟨B, 0, none⟩ = some v := by
  rw [World.cell?_alloc_past _ _ _ (by simpa using hB)]; exact h
theorem new_frozen {w : World} {B : Nat} {o : Obj} (h : w.frozen? ⟨B, 0, none⟩ = false) (hB : B < w.heap.size) : (w.alloc o).frozen? ⟨B, 0, none⟩ = false := by
  rw [World.frozen?_alloc_past _ _ _ (by simpa using hB)]; exact h

/-- Has asks: is the number in? -/
def soHas (n : Int) : Int → Sp → Bool × Int := fun c s => (decide (s.1 ≤ n ∧ n ≤ s.2), c)
def soAdd1 (n : Int) : Int → Sp → Bool × Int := fun c s => (!decide (s.2 + 1 < n), c)
def soAdd2 (n : Int) : Int → Sp → Bool × Int := fun c s => (decide (n + 1 < s.1), c)
def soUp : Int → Sp → Bool × Int := fun c s => if c + 1 < s.1 then (true, c) else (false, max c s.2)

theorem up_stored {w : World} {B : Nat} {v : Value} (h : w.cell? ⟨B, 0, none⟩ = some v) (hf : w.frozen? ⟨B, 0, none⟩ = false) (hB : B < w.heap.size) (m : Int) (o : Obj) :
    ((w.setCell ⟨B, 0, none⟩ (.int .i64 m)).alloc o).cell? ⟨B, 0, none⟩ = some (.int .i64 m) ∧ ((w.setCell ⟨B, 0, none⟩ (.int .i64 m)).alloc o).frozen? ⟨B, 0, none⟩ = false ∧ Below B w ((w.setCell ⟨B, 0, none⟩ (.int .i64 m)).alloc o) := by
  have hs : B < (w.setCell ⟨B, 0, none⟩ (.int .i64 m)).heap.size := by simpa [World.setCell] using hB
  refine ⟨new_cell ?_ hs, new_frozen ?_ hs, ?_⟩
  · exact World.cell?_setCell_same' _ _ _ (by rw [h]; rfl)
  · simp [hf]
  · have hb : Below B w (w.setCell ⟨B, 0, none⟩ (.int .i64 m)) := (Below.refl B w).setCell (p := ⟨B, 0, none⟩) (Nat.le_refl _) _
    exact hb.alloc (Nat.le_of_lt hs) _

end Go.Proofs.Ytnddejdndipddab
