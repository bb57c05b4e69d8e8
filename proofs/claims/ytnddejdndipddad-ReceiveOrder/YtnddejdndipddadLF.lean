/- Chunks that came in, under a bound of their bulk. -/
import Derived.Test.YtnddejdndipddadLE
import Derived.Test.YtnddejdndipddadRows
set_option maxRecDepth 20000
namespace Go.Proofs.Ytnddejdndipddad

theorem bulk_mem {H : Type} {d : DataW H} {l : List (DataW H)} (h : d ∈ l) : Rows.uptoBulk d ≤ Rows.uptoBulkAll l := by
  induction l with
  | nil => simp at h
  | cons x r ih =>
    simp only [Rows.uptoBulkAll]
    rcases List.mem_cons.1 h with rfl | h
    · omega
    · have := ih h; omega
end Go.Proofs.Ytnddejdndipddad

namespace Go.Proofs.Ytnddejdndipddad
open Go.ChangeShapes Go.WideShapes Go.ChangeAt Go.RowKit

section
variable {H : Type} {enc : TypeId × Value → H} {w : World} {held : Bool}
theorem slice_bulk {T E : TypeId} {fuel : Nat} {a : Option Addr} {n c : Nat} {x : DataW H × List MemPlace} (hT : Try.prog.underlying T = some (.slice E)) (h : DataW.trod enc Try.prog w 0 (fun _ => true) held fuel T [.slice a n c] = some x) : n ≤ Rows.uptoBulk x.1 := by
  rcases Deep.open_slice hT h with ⟨hcs, _⟩ | ⟨x', l, cp, m, k, D, Pl, hcs, hb, hl, hm, hmm, hx, hcell⟩
  · simp at hcs; rw [hcs.2.1]; omega
  · simp only [List.cons.injEq, Value.slice.injEq, and_true] at hcs
    obtain ⟨-, rfl, -⟩ := hcs
    have e1 : x.1 = .slice ((List.range n).map D) ((List.range (m - n)).map fun j => D (n + j)) := (Prod.ext_iff.1 hx).1
    rw [e1]
    have := bulk_slice ((List.range n).map D) ((List.range (m - n)).map fun j => D (n + j))
    simp only [List.length_map, List.length_range] at this
    omega
/-- A chunk that came in, as cells, and what its lists may have. -/
theorem chunk_bulk {x : DataW H × List MemPlace} {fuel : Nat} {cs : List Value} (h : DataW.trod enc Try.prog w 0 (fun _ => true) held fuel 42 cs = some x) : ∃ c d s k, cs = (ckVal c d s k).cells.toList ∧ By w.heap.size w d c.data ∧ Sl w.heap.size w s c.spans ∧ Kl w.heap.size w k c.skips ∧ I64 c.tag ∧ (Rows.uptoBulk x.1 ≤ 1048576 → CkFit c ∧ c.data.length ≤ Rows.uptoBulk x.1 ∧ c.skips.length ≤ Rows.uptoBulk x.1) := by
  obtain ⟨xs, m, _, hx, hl, hxl, hf⟩ := DataW.trod_struct Try.underlying42 h
  rw [Try.cells42] at hl
  have hxl3 : xs.length = 11 := hxl
  match cs, hl with
  | [c0, c1, c2, c3, c4, c5, c6, c7, c8, c9, c10], _ =>
    have f0 : DataW.trod enc Try.prog w 0 (fun _ => true) held m 3 (([c0, c1, c2, c3, c4, c5, c6, c7, c8, c9, c10].drop 0).take (Try.prog.cellsOf 3)) = xs[0]? := hf 0 _ rfl
    have f1 : DataW.trod enc Try.prog w 0 (fun _ => true) held m 3 (([c0, c1, c2, c3, c4, c5, c6, c7, c8, c9, c10].drop 1).take (Try.prog.cellsOf 3)) = xs[1]? := hf 1 _ rfl
    have f2 : DataW.trod enc Try.prog w 0 (fun _ => true) held m 3 (([c0, c1, c2, c3, c4, c5, c6, c7, c8, c9, c10].drop 2).take (Try.prog.cellsOf 3)) = xs[2]? := hf 2 _ rfl
    have f3 : DataW.trod enc Try.prog w 0 (fun _ => true) held m 3 (([c0, c1, c2, c3, c4, c5, c6, c7, c8, c9, c10].drop 3).take (Try.prog.cellsOf 3)) = xs[3]? := hf 3 _ rfl
    have f4 : DataW.trod enc Try.prog w 0 (fun _ => true) held m 3 (([c0, c1, c2, c3, c4, c5, c6, c7, c8, c9, c10].drop 4).take (Try.prog.cellsOf 3)) = xs[4]? := hf 4 _ rfl
    have f5 : DataW.trod enc Try.prog w 0 (fun _ => true) held m 4 (([c0, c1, c2, c3, c4, c5, c6, c7, c8, c9, c10].drop 5).take (Try.prog.cellsOf 4)) = xs[5]? := hf 5 _ rfl
    have f6 : DataW.trod enc Try.prog w 0 (fun _ => true) held m 4 (([c0, c1, c2, c3, c4, c5, c6, c7, c8, c9, c10].drop 6).take (Try.prog.cellsOf 4)) = xs[6]? := hf 6 _ rfl
    have f7 : DataW.trod enc Try.prog w 0 (fun _ => true) held m 38 (([c0, c1, c2, c3, c4, c5, c6, c7, c8, c9, c10].drop 7).take (Try.prog.cellsOf 38)) = xs[7]? := hf 7 _ rfl
    have f8 : DataW.trod enc Try.prog w 0 (fun _ => true) held m 39 (([c0, c1, c2, c3, c4, c5, c6, c7, c8, c9, c10].drop 8).take (Try.prog.cellsOf 39)) = xs[8]? := hf 8 _ rfl
    have f9 : DataW.trod enc Try.prog w 0 (fun _ => true) held m 3 (([c0, c1, c2, c3, c4, c5, c6, c7, c8, c9, c10].drop 9).take (Try.prog.cellsOf 3)) = xs[9]? := hf 9 _ rfl
    have f10 : DataW.trod enc Try.prog w 0 (fun _ => true) held m 40 (([c0, c1, c2, c3, c4, c5, c6, c7, c8, c9, c10].drop 10).take (Try.prog.cellsOf 40)) = xs[10]? := hf 10 _ rfl
    rw [Try.cells3] at f0 f1 f2 f3 f4 f9
    rw [Try.cells4] at f5 f6
    rw [Try.cells38] at f7
    rw [Try.cells39] at f8
    rw [Try.cells40] at f10
    rw [List.getElem?_eq_getElem (by omega)] at f0 f1 f2 f3 f4 f5 f6 f7 f8 f9 f10
    obtain ⟨z0, e0, _, _⟩ := DataW.trod_int Try.underlying3 f0
    obtain ⟨z1, e1, _, w1⟩ := DataW.trod_int Try.underlying3 f1
    obtain ⟨z2, e2, _, _⟩ := DataW.trod_int Try.underlying3 f2
    obtain ⟨z3, e3, _, _⟩ := DataW.trod_int Try.underlying3 f3
    obtain ⟨z4, e4, _, _⟩ := DataW.trod_int Try.underlying3 f4
    obtain ⟨z5, e5, _⟩ := DataW.trod_bool Try.underlying4 f5
    obtain ⟨z6, e6, _⟩ := DataW.trod_bool Try.underlying4 f6
    obtain ⟨v7, l7, e7, h7, _, _⟩ := bytes_in f7
    obtain ⟨v8, l8, e8, h8⟩ := spans_in f8
    obtain ⟨z9, e9, _, _⟩ := DataW.trod_int Try.underlying3 f9
    obtain ⟨v10, l10, e10, h10⟩ := skips_in f10
    simp at e0 e1 e2 e3 e4 e5 e6 e7 e8 e9 e10
    subst e0 e1 e2 e3 e4 e5 e6 e7 e8 e9 e10
    refine ⟨⟨z0, z1, z2, z3, z4, z5, z6, l7, l8, z9, l10⟩, _, _, _, rfl, h7, h8, h10, wf_I64 w1, fun hs => ?_⟩
    have e1 : x.1 = .agg (xs.map (·.1)) := (Prod.ext_iff.1 hx).1
    rw [e1] at hs ⊢
    simp only [Rows.uptoBulk] at hs ⊢
    have g : ∀ (j : Nat) (hj : j < xs.length), Rows.uptoBulk (xs[j]).1 ≤ Rows.uptoBulkAll (xs.map (·.1)) := fun j hj => bulk_mem (List.mem_map_of_mem (List.getElem_mem hj))
    obtain ⟨a7, c7, rfl, -, -⟩ := h7.ex
    obtain ⟨a8, c8, rfl⟩ := h8.ex
    obtain ⟨a10, c10, rfl, -, -⟩ := h10.ex
    have s7 := slice_bulk Try.underlying38 f7
    have s8 := slice_bulk Try.underlying39 f8
    have s10 := slice_bulk Try.underlying40 f10
    have k7 := g 7 (by omega)
    have k8 := g 8 (by omega)
    have k10 := g 10 (by omega)
    exact ⟨⟨by show l7.length ≤ _; omega, by show l8.length * 16 ≤ _; omega, by show l10.length * 24 ≤ _; omega⟩, by show l7.length ≤ _; omega, by show l10.length ≤ _; omega⟩
end
end Go.Proofs.Ytnddejdndipddad
