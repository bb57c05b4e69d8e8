/- Pieces, chunks and receivers, whole, out of and into memory; receive's messages and what is of one. -/
import Derived.Test.YtnddejdndipddadRcB
import Derived.Deep.RegionHeld3
set_option maxRecDepth 20000
namespace Go.Proofs.Ytnddejdndipddad
open Go.RowKit

theorem Try.sizePc : (Try.prog.info? 71).map (·.size) = some 12 := by kernel_rfl
theorem Try.sizeRv : (Try.prog.info? 47).map (·.size) = some 12 := by kernel_rfl
theorem Try.sizeCk : (Try.prog.info? 42).map (·.size) = some 11 := by kernel_rfl
theorem below_drew' {B : Nat} {w w' : World} (h : Below B w w') : Below B w w'.drew := ⟨h.os, h.tape, h.output, h.size, h.block⟩
theorem Cells.range {X : Nat} {w : World} {l : List Value} (h : Cells X w l) : w.rangeAt X 0 l := fun j v hv => by rw [Nat.zero_add]; exact h.cell j v hv
theorem Cells.there {X : Nat} {w : World} {l : List Value} (h : Cells X w l) : w.there X 0 l.length := fun j hj => by rw [Nat.zero_add]; exact ⟨by rw [h.cell j l[j] (by simp)]; rfl, h.fz j⟩
/-- A piece, a chunk, a receiver is loaded. -/
theorem wpList_ldP {ops : Array Oper} {rest : List Oper} {op : Oper} {a : Act} {w : World} {Q : Exit → Act → World → Prop} (hgd : op.guard = none) (y : Operand) (ho : op.op = .load 71 y)
    (b o : Nat) (hx : a.eval y = .pointer (some ⟨b, o, none⟩)) (p : Pc) (d s k : Value) (hc : w.rangeAt b o [.int .i64 p.number, .int .i64 p.ck.kind, .int .i64 p.ck.tag, .int .i64 p.ck.stream, .int .i64 p.ck.mid, .int .i64 p.ck.part, .bool p.ck.last, .bool p.ck.ordered, d, s, .int .i64 p.ck.room, k])
    (h : wpList Try.prog ops Q rest (a.put op.dst (.agg #[.int .i64 p.number, .int .i64 p.ck.kind, .int .i64 p.ck.tag, .int .i64 p.ck.stream, .int .i64 p.ck.mid, .int .i64 p.ck.part, .bool p.ck.last, .bool p.ck.ordered, d, s, .int .i64 p.ck.room, k])) w) : wpList Try.prog ops Q (op :: rest) a w :=
  wpList_load_mid hgd 71 y ho b o hx [.int .i64 p.number, .int .i64 p.ck.kind, .int .i64 p.ck.tag, .int .i64 p.ck.stream, .int .i64 p.ck.mid, .int .i64 p.ck.part, .bool p.ck.last, .bool p.ck.ordered, d, s, .int .i64 p.ck.room, k] _ hc Try.underlying71 rfl Try.sizePc h
theorem wpList_ldC {ops : Array Oper} {rest : List Oper} {op : Oper} {a : Act} {w : World} {Q : Exit → Act → World → Prop} (hgd : op.guard = none) (y : Operand) (ho : op.op = .load 42 y)
    (b o : Nat) (hx : a.eval y = .pointer (some ⟨b, o, none⟩)) (c : Ck) (d s k : Value) (hc : w.rangeAt b o [.int .i64 c.kind, .int .i64 c.tag, .int .i64 c.stream, .int .i64 c.mid, .int .i64 c.part, .bool c.last, .bool c.ordered, d, s, .int .i64 c.room, k])
    (h : wpList Try.prog ops Q rest (a.put op.dst (.agg #[.int .i64 c.kind, .int .i64 c.tag, .int .i64 c.stream, .int .i64 c.mid, .int .i64 c.part, .bool c.last, .bool c.ordered, d, s, .int .i64 c.room, k])) w) : wpList Try.prog ops Q (op :: rest) a w :=
  wpList_load_mid hgd 42 y ho b o hx [.int .i64 c.kind, .int .i64 c.tag, .int .i64 c.stream, .int .i64 c.mid, .int .i64 c.part, .bool c.last, .bool c.ordered, d, s, .int .i64 c.room, k] _ hc Try.underlying42 rfl Try.sizeCk h
theorem wpList_ldR {ops : Array Oper} {rest : List Oper} {op : Oper} {a : Act} {w : World} {Q : Exit → Act → World → Prop} (hgd : op.guard = none) (y : Operand) (ho : op.op = .load 47 y)
    (b o : Nat) (hx : a.eval y = .pointer (some ⟨b, o, none⟩)) (x : Rc) (s p t l : Value) (hc : w.rangeAt b o [.int .i64 x.cf.streams, .int .i64 x.cf.part, .int .i64 x.cf.packet, .int .i64 x.cf.paths, .int .i64 x.cf.turns, .int .i64 x.cf.waiting, .int .i64 x.cf.first, .int .i64 x.cum, s, p, t, l])
    (h : wpList Try.prog ops Q rest (a.put op.dst (.agg #[.int .i64 x.cf.streams, .int .i64 x.cf.part, .int .i64 x.cf.packet, .int .i64 x.cf.paths, .int .i64 x.cf.turns, .int .i64 x.cf.waiting, .int .i64 x.cf.first, .int .i64 x.cum, s, p, t, l])) w) : wpList Try.prog ops Q (op :: rest) a w :=
  wpList_load_mid hgd 47 y ho b o hx [.int .i64 x.cf.streams, .int .i64 x.cf.part, .int .i64 x.cf.packet, .int .i64 x.cf.paths, .int .i64 x.cf.turns, .int .i64 x.cf.waiting, .int .i64 x.cf.first, .int .i64 x.cum, s, p, t, l] _ hc Try.underlying47 rfl Try.sizeRv h
/-- A value of so many cells is stored into a new box. -/
theorem wpList_stN {ops : Array Oper} {rest : List Oper} {op : Oper} {a : Act} {w : World} {Q : Exit → Act → World → Prop} (T : TypeId) (N : Nat) (hN : (Try.prog.info? T).map (·.size) = some N) (hgd : op.guard = none) (y z : Operand) (ho : op.op = .store T y z)
    (w0 : World) (zs : List Value) (hw : w = w0.alloc (.cells zs.toArray T)) (hz : zs.length = N) (hx : a.eval y = .pointer (some ⟨w0.heap.size, 0, none⟩)) (vs : List Value) (hy : a.eval z = .agg vs.toArray) (hv : vs.length = N) (h1 : vs.all (·.oneCell') = true)
    (h : wpList Try.prog ops Q rest (a.put op.dst undef) (w0.alloc (.cells vs.toArray T))) : wpList Try.prog ops Q (op :: rest) a w := by
  subst hw
  have hn := Cells.new w0 zs.toArray T
  refine wpList_store_mid hgd T y z ho w0.heap.size 0 vs.toArray hx hy (fun j hj => ?_) (by rw [hN]; simp [hv]) (all_oneCell_toArray (List.all_eq_true.1 h1)) ?_
  · have hj' : j < zs.length := by simp [hv] at hj; omega
    rw [Nat.zero_add]
    exact ⟨by rw [hn.cell j zs[j] (by simp [hj'])]; rfl, hn.fz j⟩
  · have := alloc_setCells w0 T vs zs [] (by omega)
    simp only [List.nil_append, List.length_nil] at this
    rw [show vs.toArray.toList = vs from rfl, this]
    exact h
/-- A value of so many cells is stored where such lie. -/
theorem wpList_srN {ops : Array Oper} {rest : List Oper} {op : Oper} {a : Act} {w : World} {Q : Exit → Act → World → Prop} (T : TypeId) (N : Nat) (hN : (Try.prog.info? T).map (·.size) = some N) (hgd : op.guard = none) (y z : Operand) (ho : op.op = .store T y z)
    (b o : Nat) (hx : a.eval y = .pointer (some ⟨b, o, none⟩)) (vs : List Value) (hy : a.eval z = .agg vs.toArray) (hv : vs.length = N) (h1 : vs.all (·.oneCell') = true) (ht : w.there b o N)
    (h : wpList Try.prog ops Q rest (a.put op.dst undef) (w.setCells b o vs)) : wpList Try.prog ops Q (op :: rest) a w := by
  refine wpList_store_mid hgd T y z ho b o vs.toArray hx hy (by simpa [hv] using ht) (by rw [hN]; simp [hv]) (all_oneCell_toArray (List.all_eq_true.1 h1)) ?_
  exact h
theorem Cells.setAll {X : Nat} {w : World} {l : List Value} (h : Cells X w l) (vs : List Value) (hl : vs.length = l.length) : Cells X (w.setCells X 0 vs) vs :=
  ⟨fun j v hv => by
    have := World.rangeAt_setCells_same w X 0 vs (by rw [hl]; exact h.there) j v hv
    rwa [Nat.zero_add] at this, fun j => by rw [World.frozen?_setCells]; exact h.fz j⟩
theorem Cells.pastAll {X Y o : Nat} {w : World} {l : List Value} (h : Cells X w l) (vs : List Value) (hne : X ≠ Y) : Cells X (w.setCells Y o vs) l := h.keep (S := fun k => k ≠ Y) (Keep.setCells (fun e => e rfl) vs o (Keep.refl _ w)) hne

/-- A message, as a value; where it lies. -/
def msVal (m : Ms) : Value := .agg #[.int .i64 m.stream, .int .i64 m.mid, .bool m.ordered]
abbrev MsAt (w : World) (N : Nat) (m : Ms) : Prop := Cells N w [.int .i64 m.stream, .int .i64 m.mid, .bool m.ordered]
theorem run_eql_ms (a b : Int) (c : Bool) (a' b' : Int) (c' : Bool) (wx : World) : (binOp .eql 91 (.agg #[.int .i64 a, .int .i64 b, .bool c]) (.agg #[.int .i64 a', .int .i64 b', .bool c'])).run Try.prog wx = .ok (.bool (a == a' && b == b' && c == c')) wx := by
  by_cases h1 : a = a'
  · subst h1
    by_cases h2 : b = b'
    · subst h2
      cases c <;> cases c' <;> go_simp
    · have e : (b == b') = false := by simpa using h2
      go_simp
  · have e : (a == a') = false := by simpa using h1
    go_simp

set_option maxHeartbeats 400000 in
theorem messageOf_any (c : Ck) (da : Option Addr) (dn dc : Nat) (sa : Option Addr) (sn sc : Nat) (qa : Option Addr) (qn qc : Nat) (w : World) : Calls Try.prog 60 #[.agg #[.int .i64 c.kind, .int .i64 c.tag, .int .i64 c.stream, .int .i64 c.mid, .int .i64 c.part, .bool c.last, .bool c.ordered, .slice da dn dc, .slice sa sn sc, .int .i64 c.room, .slice qa qn qc]] w fun e w' => e = .returned (.agg #[.int .i64 c.stream, .int .i64 c.mid, .bool c.ordered]) ∧ Below w.heap.size w w' := by
  obtain ⟨kind, tag, stream, mid, part, last, ordered, data, spans, room, skips⟩ := c
  simp only
  have HB := fun o o' => two_below w o o'
  go_enter Try.func60, Try.ntmps60
  go_wp2
  refine bodyPost_ret (v := .agg #[.int .i64 stream, .int .i64 mid, .bool ordered]) (by simp [results, Try.results60, go_sem]) rfl ⟨rfl, ?_⟩
  first | exact HB _ _ | (repeat refine Below.setCell ?_ (by simp) _); exact HB _ _

theorem enters_of1 (args : Array Value) (wx : World) : (callFunc 85 args).run Try.prog wx = .ok (.enter 85 args) wx := enters_body Try.func85 (by kernel_rfl) rfl args wx
theorem numbered_any (s n : Int) (w : World) : Calls Try.prog 78 #[.int .i64 s, .int .i64 n] w fun e w' => e = .returned (.agg #[.int .i64 s, .int .i64 (n % 65536), .bool true]) ∧ Below w.heap.size w w' := by
  have TA := tag_any n
  have HB := fun o => box_below w o
  go_enter Try.func78, Try.ntmps78
  go_wp2_with (go_at_call 70; refine (TA _).mono ?_; rintro e w' ⟨rfl, rfl⟩)
  refine bodyPost_ret (v := .agg #[.int .i64 s, .int .i64 (n % 65536), .bool true]) (by simp [results, Try.results78, go_sem]) rfl ⟨rfl, ?_⟩
  first | exact HB _ | (repeat refine Below.setCell ?_ (by simp) _); exact HB _
theorem of_any (m : Ms) (w : World) : Calls Try.prog 79 #[.agg #[.int .i64 m.stream, .int .i64 m.mid, .bool m.ordered]] w fun e w' => e = .returned (.func (.func 85) #[] #[.pointer (some ⟨w.heap.size, 0, none⟩)]) ∧ MsAt w' w.heap.size m ∧ Below w.heap.size w w' ∧ w.heap.size < w'.heap.size := by
  have HB := fun o => box_below w o
  have CN := Cells.new w #[.int .i64 m.stream, .int .i64 m.mid, .bool m.ordered] 91
  go_enter Try.func79, Try.ntmps79
  go_wp2
  go_ret
  exact ⟨rfl, CN, HB _, by simp⟩

set_option maxHeartbeats 1000000 in
/-- Is a piece one of the message that was kept? -/
theorem of1_any (p : Pc) (da : Option Addr) (dn dc : Nat) (sa : Option Addr) (sn sc : Nat) (qa : Option Addr) (qn qc : Nat) (N : Nat) (m : Ms) (w : World) (hN : MsAt w N m) (hNlt : N < w.heap.size) :
    Calls Try.prog 85 #[.agg #[.int .i64 p.number, .int .i64 p.ck.kind, .int .i64 p.ck.tag, .int .i64 p.ck.stream, .int .i64 p.ck.mid, .int .i64 p.ck.part, .bool p.ck.last, .bool p.ck.ordered, .slice da dn dc, .slice sa sn sc, .int .i64 p.ck.room, .slice qa qn qc], .pointer (some ⟨N, 0, none⟩)] w fun e w' => e = .returned (.bool (isM m p)) ∧ Below w.heap.size w w' := by
  have EQ := run_eql_ms
  have MO := messageOf_any p.ck da dn dc sa sn sc qa qn qc
  have B0 := box_below w (.cells #[.int .i64 p.number, .int .i64 p.ck.kind, .int .i64 p.ck.tag, .int .i64 p.ck.stream, .int .i64 p.ck.mid, .int .i64 p.ck.part, .bool p.ck.last, .bool p.ck.ordered, .slice da dn dc, .slice sa sn sc, .int .i64 p.ck.room, .slice qa qn qc] 71)
  have CP := Cells.new w #[.int .i64 p.number, .int .i64 p.ck.kind, .int .i64 p.ck.tag, .int .i64 p.ck.stream, .int .i64 p.ck.mid, .int .i64 p.ck.part, .bool p.ck.last, .bool p.ck.ordered, .slice da dn dc, .slice sa sn sc, .int .i64 p.ck.room, .slice qa qn qc] 71
  have hs : (w.alloc (.cells #[.int .i64 p.number, .int .i64 p.ck.kind, .int .i64 p.ck.tag, .int .i64 p.ck.stream, .int .i64 p.ck.mid, .int .i64 p.ck.part, .bool p.ck.last, .bool p.ck.ordered, .slice da dn dc, .slice sa sn sc, .int .i64 p.ck.room, .slice qa qn qc] 71)).heap.size = w.heap.size + 1 := by simp
  have hN0 := hN.below B0 hNlt
  go_enter Try.func85, Try.ntmps85
  go_wp2_with fail
  generalize (w.alloc (.cells #[.int .i64 p.number, .int .i64 p.ck.kind, .int .i64 p.ck.tag, .int .i64 p.ck.stream, .int .i64 p.ck.mid, .int .i64 p.ck.part, .bool p.ck.last, .bool p.ck.ordered, .slice da dn dc, .slice sa sn sc, .int .i64 p.ck.room, .slice qa qn qc] 71)) = w0 at *
  have KX : ∀ wx, Below w0.heap.size w0 wx → (wx.cell? ⟨N, 0, none⟩ = some (.int .i64 m.stream) ∧ wx.cell? ⟨N, 1, none⟩ = some (.int .i64 m.mid) ∧ wx.cell? ⟨N, 2, none⟩ = some (.bool m.ordered)) ∧ wx.cell? ⟨w.heap.size, 1, none⟩ = some (.int .i64 p.ck.kind) ∧ wx.cell? ⟨w.heap.size, 2, none⟩ = some (.int .i64 p.ck.tag) ∧ wx.cell? ⟨w.heap.size, 3, none⟩ = some (.int .i64 p.ck.stream) ∧ wx.cell? ⟨w.heap.size, 4, none⟩ = some (.int .i64 p.ck.mid) ∧ wx.cell? ⟨w.heap.size, 5, none⟩ = some (.int .i64 p.ck.part) ∧ wx.cell? ⟨w.heap.size, 6, none⟩ = some (.bool p.ck.last) ∧ wx.cell? ⟨w.heap.size, 7, none⟩ = some (.bool p.ck.ordered) ∧ wx.cell? ⟨w.heap.size, 8, none⟩ = some (.slice da dn dc) ∧ wx.cell? ⟨w.heap.size, 9, none⟩ = some (.slice sa sn sc) ∧ wx.cell? ⟨w.heap.size, 10, none⟩ = some (.int .i64 p.ck.room) ∧ wx.cell? ⟨w.heap.size, 11, none⟩ = some (.slice qa qn qc) := fun wx hx => by
    have h := CP.below hx (by omega)
    have g := hN0.below hx (by omega)
    exact ⟨⟨g.cell 0 _ rfl, g.cell 1 _ rfl, g.cell 2 _ rfl⟩, h.cell 1 _ rfl, h.cell 2 _ rfl, h.cell 3 _ rfl, h.cell 4 _ rfl, h.cell 5 _ rfl, h.cell 6 _ rfl, h.cell 7 _ rfl, h.cell 8 _ rfl, h.cell 9 _ rfl, h.cell 10 _ rfl, h.cell 11 _ rfl⟩
  have X0 := KX _ (Below.refl _ _)
  have BD : Below w0.heap.size w0 w0.drew := below_drew' (Below.refl _ _)
  have Xd := KX _ BD
  go_region_held3 (fun wx => (wx.cell? ⟨N, 0, none⟩ = some (.int .i64 m.stream) ∧ wx.cell? ⟨N, 1, none⟩ = some (.int .i64 m.mid) ∧ wx.cell? ⟨N, 2, none⟩ = some (.bool m.ordered)) ∧ wx.cell? ⟨w.heap.size, 1, none⟩ = some (.int .i64 p.ck.kind) ∧ wx.cell? ⟨w.heap.size, 2, none⟩ = some (.int .i64 p.ck.tag) ∧ wx.cell? ⟨w.heap.size, 3, none⟩ = some (.int .i64 p.ck.stream) ∧ wx.cell? ⟨w.heap.size, 4, none⟩ = some (.int .i64 p.ck.mid) ∧ wx.cell? ⟨w.heap.size, 5, none⟩ = some (.int .i64 p.ck.part) ∧ wx.cell? ⟨w.heap.size, 6, none⟩ = some (.bool p.ck.last) ∧ wx.cell? ⟨w.heap.size, 7, none⟩ = some (.bool p.ck.ordered) ∧ wx.cell? ⟨w.heap.size, 8, none⟩ = some (.slice da dn dc) ∧ wx.cell? ⟨w.heap.size, 9, none⟩ = some (.slice sa sn sc) ∧ wx.cell? ⟨w.heap.size, 10, none⟩ = some (.int .i64 p.ck.room) ∧ wx.cell? ⟨w.heap.size, 11, none⟩ = some (.slice qa qn qc)) (first | with_reducible exact X0 | with_reducible exact Xd | with_reducible exact X1 | fail) (first
    | (go_at_call 60; refine (MO _).mono ?_; rintro e w1 ⟨rfl, b1⟩; have B1 := BD.trans b1; have X1 := KX _ B1))
  all_goals
    go_wp2_with fail
    go_ret
    exact ⟨ret_bool (by simp [isM]), B0.trans (B1.mono (by omega))⟩
end Go.Proofs.Ytnddejdndipddad
