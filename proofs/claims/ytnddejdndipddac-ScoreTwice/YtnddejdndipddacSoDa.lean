/- Parts, whole, out of and into memory: without opening them cell by cell. -/
import Derived.Test.YtnddejdndipddacSoD
set_option maxRecDepth 20000
namespace Go.Proofs.Ytnddejdndipddac
open Go.RowKit

theorem Try.sizeSn : (Try.prog.info? 53).map (·.size) = some 20 := by kernel_rfl
theorem SnAt.range {w : World} {b off : Nat} {x : Sn} {d s q : Value} (h : SnAt w b off x d s q) : w.rangeAt b off [.int .i64 x.number, .int .i64 x.id, .int .i64 x.state, .int .i64 x.path, .int .i64 x.missed, .int .i64 x.times, .int .i64 x.came, .int .i64 x.life, .int .i64 x.tries, .int .i64 x.ck.kind, .int .i64 x.ck.tag, .int .i64 x.ck.stream, .int .i64 x.ck.mid, .int .i64 x.ck.part, .bool x.ck.last, .bool x.ck.ordered, d, s, .int .i64 x.ck.room, q] := by
  obtain ⟨h0, h1, h2, h3, h4, h5, h6, h7, h8, h9, h10, h11, h12, h13, h14, h15, h16, h17, h18, h19⟩ := h
  intro j v hv
  have hj : j < 20 := (List.getElem?_eq_some_iff.1 hv).1
  match j, hj, hv with
  | 0, _, hv => rw [← Option.some.inj hv]; exact h0
  | 1, _, hv => rw [← Option.some.inj hv]; exact h1
  | 2, _, hv => rw [← Option.some.inj hv]; exact h2
  | 3, _, hv => rw [← Option.some.inj hv]; exact h3
  | 4, _, hv => rw [← Option.some.inj hv]; exact h4
  | 5, _, hv => rw [← Option.some.inj hv]; exact h5
  | 6, _, hv => rw [← Option.some.inj hv]; exact h6
  | 7, _, hv => rw [← Option.some.inj hv]; exact h7
  | 8, _, hv => rw [← Option.some.inj hv]; exact h8
  | 9, _, hv => rw [← Option.some.inj hv]; exact h9
  | 10, _, hv => rw [← Option.some.inj hv]; exact h10
  | 11, _, hv => rw [← Option.some.inj hv]; exact h11
  | 12, _, hv => rw [← Option.some.inj hv]; exact h12
  | 13, _, hv => rw [← Option.some.inj hv]; exact h13
  | 14, _, hv => rw [← Option.some.inj hv]; exact h14
  | 15, _, hv => rw [← Option.some.inj hv]; exact h15
  | 16, _, hv => rw [← Option.some.inj hv]; exact h16
  | 17, _, hv => rw [← Option.some.inj hv]; exact h17
  | 18, _, hv => rw [← Option.some.inj hv]; exact h18
  | 19, _, hv => rw [← Option.some.inj hv]; exact h19
/-- A part in a box of its own. -/
abbrev snArr (x : Sn) (d s q : Value) : Array Value := #[.int .i64 x.number, .int .i64 x.id, .int .i64 x.state, .int .i64 x.path, .int .i64 x.missed, .int .i64 x.times, .int .i64 x.came, .int .i64 x.life, .int .i64 x.tries, .int .i64 x.ck.kind, .int .i64 x.ck.tag, .int .i64 x.ck.stream, .int .i64 x.ck.mid, .int .i64 x.ck.part, .bool x.ck.last, .bool x.ck.ordered, d, s, .int .i64 x.ck.room, q]
theorem SnAt.new (w : World) (x : Sn) (d s q : Value) : SnAt (w.alloc (.cells #[.int .i64 x.number, .int .i64 x.id, .int .i64 x.state, .int .i64 x.path, .int .i64 x.missed, .int .i64 x.times, .int .i64 x.came, .int .i64 x.life, .int .i64 x.tries, .int .i64 x.ck.kind, .int .i64 x.ck.tag, .int .i64 x.ck.stream, .int .i64 x.ck.mid, .int .i64 x.ck.part, .bool x.ck.last, .bool x.ck.ordered, d, s, .int .i64 x.ck.room, q] 53)) w.heap.size 0 x d s q := by
  have h := Cells.new w #[.int .i64 x.number, .int .i64 x.id, .int .i64 x.state, .int .i64 x.path, .int .i64 x.missed, .int .i64 x.times, .int .i64 x.came, .int .i64 x.life, .int .i64 x.tries, .int .i64 x.ck.kind, .int .i64 x.ck.tag, .int .i64 x.ck.stream, .int .i64 x.ck.mid, .int .i64 x.ck.part, .bool x.ck.last, .bool x.ck.ordered, d, s, .int .i64 x.ck.room, q] 53
  exact SnAt.of fun i u hi hu => by rw [Nat.zero_add]; exact h.cell i u hu
/-- One part is loaded. -/
theorem wpList_ld {ops : Array Oper} {rest : List Oper} {op : Oper} {a : Act} {w : World} {Q : Exit → Act → World → Prop} (hgd : op.guard = none) (y : Operand) (ho : op.op = .load 53 y)
    (b o : Nat) (hx : a.eval y = .pointer (some ⟨b, o, none⟩)) (x : Sn) (d s q : Value) (hc : SnAt w b o x d s q)
    (h : wpList Try.prog ops Q rest (a.put op.dst (.agg #[.int .i64 x.number, .int .i64 x.id, .int .i64 x.state, .int .i64 x.path, .int .i64 x.missed, .int .i64 x.times, .int .i64 x.came, .int .i64 x.life, .int .i64 x.tries, .int .i64 x.ck.kind, .int .i64 x.ck.tag, .int .i64 x.ck.stream, .int .i64 x.ck.mid, .int .i64 x.ck.part, .bool x.ck.last, .bool x.ck.ordered, d, s, .int .i64 x.ck.room, q])) w) : wpList Try.prog ops Q (op :: rest) a w :=
  wpList_load_mid hgd 53 y ho b o hx [.int .i64 x.number, .int .i64 x.id, .int .i64 x.state, .int .i64 x.path, .int .i64 x.missed, .int .i64 x.times, .int .i64 x.came, .int .i64 x.life, .int .i64 x.tries, .int .i64 x.ck.kind, .int .i64 x.ck.tag, .int .i64 x.ck.stream, .int .i64 x.ck.mid, .int .i64 x.ck.part, .bool x.ck.last, .bool x.ck.ordered, d, s, .int .i64 x.ck.room, q] _ hc.range Try.underlying53 rfl Try.sizeSn h
theorem run_ld {w : World} {b o : Nat} {x : Sn} {d s q : Value} (hc : SnAt w b o x d s q) : (Instr.loadAt 53 (.pointer (some ⟨b, o, none⟩))).run Try.prog w = .ok (.agg #[.int .i64 x.number, .int .i64 x.id, .int .i64 x.state, .int .i64 x.path, .int .i64 x.missed, .int .i64 x.times, .int .i64 x.came, .int .i64 x.life, .int .i64 x.tries, .int .i64 x.ck.kind, .int .i64 x.ck.tag, .int .i64 x.ck.stream, .int .i64 x.ck.mid, .int .i64 x.ck.part, .bool x.ck.last, .bool x.ck.ordered, d, s, .int .i64 x.ck.room, q]) w :=
  run_loadAt_mid w b o 53 [.int .i64 x.number, .int .i64 x.id, .int .i64 x.state, .int .i64 x.path, .int .i64 x.missed, .int .i64 x.times, .int .i64 x.came, .int .i64 x.life, .int .i64 x.tries, .int .i64 x.ck.kind, .int .i64 x.ck.tag, .int .i64 x.ck.stream, .int .i64 x.ck.mid, .int .i64 x.ck.part, .bool x.ck.last, .bool x.ck.ordered, d, s, .int .i64 x.ck.room, q] _ hc.range Try.underlying53 rfl Try.sizeSn
theorem alloc_setCells (w : World) (t : TypeId) : ∀ (vs zs pre : List Value), vs.length = zs.length → (w.alloc (.cells (pre ++ zs).toArray t)).setCells w.heap.size pre.length vs = w.alloc (.cells (pre ++ vs).toArray t)
  | [], zs, pre, h => by
    have : zs = [] := List.eq_nil_of_length_eq_zero (by simpa using h.symm)
    subst this
    rfl
  | v :: vs, [], pre, h => by simp at h
  | v :: vs, z :: zs, pre, h => by
    have e : ((pre ++ z :: zs).toArray).setIfInBounds pre.length v = ((pre ++ [v]) ++ zs).toArray := by
      simp [List.set_append_right]
    have := alloc_setCells w t vs zs (pre ++ [v]) (by simpa using h)
    rw [World.setCells, World.setCell_alloc_new, e]
    rw [show (pre ++ [v]).length = pre.length + 1 by simp] at this
    rw [this]
    simp
/-- A part is stored into a new box. -/
theorem wpList_st {ops : Array Oper} {rest : List Oper} {op : Oper} {a : Act} {w : World} {Q : Exit → Act → World → Prop} (hgd : op.guard = none) (y z : Operand) (ho : op.op = .store 53 y z)
    (w0 : World) (zs : List Value) (hw : w = w0.alloc (.cells zs.toArray 53)) (hz : zs.length = 20) (hx : a.eval y = .pointer (some ⟨w0.heap.size, 0, none⟩)) (vs : List Value) (hy : a.eval z = .agg vs.toArray) (hv : vs.length = 20) (h1 : vs.all (·.oneCell') = true)
    (h : wpList Try.prog ops Q rest (a.put op.dst undef) (w0.alloc (.cells vs.toArray 53))) : wpList Try.prog ops Q (op :: rest) a w := by
  subst hw
  have hn := Cells.new w0 zs.toArray 53
  refine wpList_store_mid hgd 53 y z ho w0.heap.size 0 vs.toArray hx hy (fun j hj => ?_) (by rw [Try.sizeSn]; simp [hv]) (all_oneCell_toArray (List.all_eq_true.1 h1)) ?_
  · have hj' : j < zs.length := by simp [hv] at hj; omega
    rw [Nat.zero_add]
    exact ⟨by rw [hn.cell j zs[j] (by simp [hj'])]; rfl, hn.fz j⟩
  · have := alloc_setCells w0 53 vs zs [] (by omega)
    simp only [List.nil_append, List.length_nil] at this
    rw [show vs.toArray.toList = vs from rfl, this]
    exact h
/-- A part is stored into a row. -/
theorem wpList_sr {ops : Array Oper} {rest : List Oper} {op : Oper} {a : Act} {w : World} {Q : Exit → Act → World → Prop} (hgd : op.guard = none) (y z : Operand) (ho : op.op = .store 53 y z)
    (b o : Nat) (hx : a.eval y = .pointer (some ⟨b, o, none⟩)) (vs : List Value) (hy : a.eval z = .agg vs.toArray) (hv : vs.length = 20) (h1 : vs.all (·.oneCell') = true) (ht : w.there b o 20)
    (h : wpList Try.prog ops Q rest (a.put op.dst undef) (w.setCells b o vs)) : wpList Try.prog ops Q (op :: rest) a w := by
  refine wpList_store_mid hgd 53 y z ho b o vs.toArray hx hy (by simpa [hv] using ht) (by rw [Try.sizeSn]; simp [hv]) (all_oneCell_toArray (List.all_eq_true.1 h1)) ?_
  exact h
end Go.Proofs.Ytnddejdndipddac
