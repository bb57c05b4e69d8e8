/- Paths, whole, out of and into memory: without opening them cell by cell. -/
import Derived.Test.YtnddejdndipddadPtW
import Derived.Deep.MidRow
set_option maxRecDepth 20000
namespace Go.Proofs.Ytnddejdndipddad
open Go.RowKit

theorem Try.sizePt : (Try.prog.info? 23).map (·.size) = some 7 := by kernel_rfl
/-- A path that lies in a block. -/
def PtAt (X : Nat) (w : World) (p : Pt) : Prop := Cells X w (ptA p).toList
theorem PtAt.below {X B : Nat} {w w' : World} {p : Pt} (h : PtAt X w p) (hb : Below B w w') (hX : X < B) : PtAt X w' p := Cells.below h hb hX
theorem PtAt.past {X Y : Nat} {w w' : World} {p : Pt} (h : PtAt X w p) (k : Keep (fun k => k ≠ Y) w w') (hne : X ≠ Y) : PtAt X w' p := Cells.keep h k hne
theorem PtAt.new (w : World) (p : Pt) : PtAt w.heap.size (w.alloc (.cells #[.int .i64 p.window, .int .i64 p.slow, .int .i64 p.part, .int .i64 p.flight, .int .i64 p.errors, .int .i64 p.alarm, .int .i64 p.wait] 23)) p := Cells.new w #[.int .i64 p.window, .int .i64 p.slow, .int .i64 p.part, .int .i64 p.flight, .int .i64 p.errors, .int .i64 p.alarm, .int .i64 p.wait] 23
/-- One path is loaded. -/
theorem wpList_ldP {ops : Array Oper} {rest : List Oper} {op : Oper} {a : Act} {w : World} {Q : Exit → Act → World → Prop} (hgd : op.guard = none) (y : Operand) (ho : op.op = .load 23 y)
    (X : Nat) (hx : a.eval y = .pointer (some ⟨X, 0, none⟩)) (p : Pt) (hc : PtAt X w p)
    (h : wpList Try.prog ops Q rest (a.put op.dst (.agg #[.int .i64 p.window, .int .i64 p.slow, .int .i64 p.part, .int .i64 p.flight, .int .i64 p.errors, .int .i64 p.alarm, .int .i64 p.wait])) w) : wpList Try.prog ops Q (op :: rest) a w :=
  wpList_load_mid hgd 23 y ho X 0 hx [.int .i64 p.window, .int .i64 p.slow, .int .i64 p.part, .int .i64 p.flight, .int .i64 p.errors, .int .i64 p.alarm, .int .i64 p.wait] _ (fun j v hv => by rw [Nat.zero_add]; exact hc.cell j v hv) Try.underlying23 rfl Try.sizePt h
/-- One path is stored into a block that holds one. -/
theorem wpList_stP {ops : Array Oper} {rest : List Oper} {op : Oper} {a : Act} {w : World} {Q : Exit → Act → World → Prop} (hgd : op.guard = none) (y z : Operand) (ho : op.op = .store 23 y z)
    (X : Nat) (hx : a.eval y = .pointer (some ⟨X, 0, none⟩)) (q : Pt) (hy : a.eval z = .agg #[.int .i64 q.window, .int .i64 q.slow, .int .i64 q.part, .int .i64 q.flight, .int .i64 q.errors, .int .i64 q.alarm, .int .i64 q.wait]) (p : Pt) (hc : PtAt X w p)
    (h : ∀ w', PtAt X w' q → Keep (fun k => k ≠ X) w w' → w'.heap.size = w.heap.size → wpList Try.prog ops Q rest (a.put op.dst undef) w') : wpList Try.prog ops Q (op :: rest) a w := by
  refine wpList_store_mid hgd 23 y z ho X 0 #[.int .i64 q.window, .int .i64 q.slow, .int .i64 q.part, .int .i64 q.flight, .int .i64 q.errors, .int .i64 q.alarm, .int .i64 q.wait] hx hy (fun j hj => ?_) Try.sizePt (by simp [Value.oneCell']) ?_
  · have hj' : j < (ptA p).toList.length := hj
    rw [Nat.zero_add]
    exact ⟨by rw [hc.cell j ((ptA p).toList[j]) (List.getElem?_eq_getElem hj')]; rfl, hc.fz j⟩
  · refine h (put7 X w q) (put7_cells hc rfl q) ?_ ?_
    · exact ((((((Keep.setCell (Keep.refl _ _) (p := ⟨X, 0, none⟩) (fun e => e rfl) _).setCell (p := ⟨X, 1, none⟩) (fun e => e rfl) _).setCell (p := ⟨X, 2, none⟩) (fun e => e rfl) _).setCell (p := ⟨X, 3, none⟩) (fun e => e rfl) _).setCell (p := ⟨X, 4, none⟩) (fun e => e rfl) _).setCell (p := ⟨X, 5, none⟩) (fun e => e rfl) _).setCell (p := ⟨X, 6, none⟩) (fun e => e rfl) _
    · simp [put7]
theorem PtAt.c7 {X : Nat} {w : World} {p : Pt} (h : PtAt X w p) : w.cell? ⟨X, 0, none⟩ = some (.int .i64 p.window) ∧ w.cell? ⟨X, 1, none⟩ = some (.int .i64 p.slow) ∧ w.cell? ⟨X, 4, none⟩ = some (.int .i64 p.errors) ∧ w.cell? ⟨X, 6, none⟩ = some (.int .i64 p.wait) :=
  ⟨h.cell 0 _ rfl, h.cell 1 _ rfl, h.cell 4 _ rfl, h.cell 6 _ rfl⟩
theorem Keep.past_below {X B : Nat} {w0 w w' : World} (k : Keep (fun k => k ≠ X) w w') (h : Below B w0 w) (hX : B ≤ X) : Below B w0 w' := h.trans (k.below fun i hi => by omega)
end Go.Proofs.Ytnddejdndipddad
