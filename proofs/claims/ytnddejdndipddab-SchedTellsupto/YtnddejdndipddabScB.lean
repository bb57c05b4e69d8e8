/- Messages that wait, and who has had their turn: as they are read, and that came in. -/
import Derived.Test.YtnddejdndipddabScA
import Derived.Test.YtnddejdndipddabGI
set_option maxRecDepth 20000
namespace Go.Proofs.Ytnddejdndipddab
open Go.ChangeShapes Go.WideShapes Go.ChangeAt Go.RowKit

/-- A message that waits. -/
structure Qd where
  id : Int
  mid : Int
  came : Int
  sent : Int
  parts : Int
  stream : Int
  ordered : Bool
  life : Int
  tries : Int
instance : Inhabited Qd := ⟨⟨0, 0, 0, 0, 0, 0, false, 0, 0⟩⟩
def qdVal (q : Qd) (d : Value) : Value := .agg #[.int .i64 q.id, .int .i64 q.mid, .int .i64 q.came, .int .i64 q.sent, .int .i64 q.parts, .int .i64 q.stream, .bool q.ordered, .int .i64 q.life, .int .i64 q.tries, d]
/-- A value that is this message. -/
def QdV (_ : Nat) (_ : World) (v : Value) (q : Qd) : Prop := ∃ d, v = qdVal q d ∧ IsSl d
theorem QdV.bears : Bears 10 QdV where
  cells := by rintro B w v x ⟨d, rfl, -⟩; rfl
  below := by rintro B B' w w' v x h hb hB; exact h
  mono := by rintro B B' w v x h hB; exact h
/-- A slice of messages. -/
abbrev QdS (B : Nat) (w : World) (v : Value) (l : List Qd) : Prop := SlG 10 QdV B w v l
/-- A place in a slice of messages. -/
theorem QdS.at {B : Nat} {w : World} {a : Option Addr} {n cap : Nat} {l : List Qd} (h : QdS B w (.slice a n cap) l) (k : Nat) (hk : k < l.length) :
    ∃ b off da dn dc, b < B ∧ (∀ wx, (Instr.indexAt 52 (.slice a n cap) (.int .i64 (k : Int))).run Try.prog wx = .ok (.pointer (some ⟨b, off, none⟩)) wx) ∧
      (w.cell? ⟨b, off, none⟩ = some (.int .i64 l[k].id) ∧ w.cell? ⟨b, off + 1, none⟩ = some (.int .i64 l[k].mid) ∧ w.cell? ⟨b, off + 2, none⟩ = some (.int .i64 l[k].came) ∧ w.cell? ⟨b, off + 3, none⟩ = some (.int .i64 l[k].sent) ∧ w.cell? ⟨b, off + 4, none⟩ = some (.int .i64 l[k].parts) ∧
       w.cell? ⟨b, off + 5, none⟩ = some (.int .i64 l[k].stream) ∧ w.cell? ⟨b, off + 6, none⟩ = some (.bool l[k].ordered) ∧ w.cell? ⟨b, off + 7, none⟩ = some (.int .i64 l[k].life) ∧ w.cell? ⟨b, off + 8, none⟩ = some (.int .i64 l[k].tries) ∧ w.cell? ⟨b, off + 9, none⟩ = some (.slice da dn dc)) := by
  obtain ⟨b, off, v, hb, rfl, rfl, hc, e⟩ := SlG.at QdV.bears h k hk
  obtain ⟨d, rfl, da, dn, dc, rfl⟩ := hc
  refine ⟨b, off + k * 10, da, dn, dc, hb, fun wx => ?_, e 0 _ (by omega) rfl, e 1 _ (by omega) rfl, e 2 _ (by omega) rfl, e 3 _ (by omega) rfl, e 4 _ (by omega) rfl, e 5 _ (by omega) rfl, e 6 _ (by omega) rfl, e 7 _ (by omega) rfl, e 8 _ (by omega) rfl, e 9 _ (by omega) rfl⟩
  have : (k : Int) < l.length := by omega
  go_simp
/-- Their streams, and their numbers. -/
def strs (l : List Qd) : List Int := l.map Qd.stream
def idsQ (l : List Qd) : List Int := l.map Qd.id
theorem strs_len (l : List Qd) : (strs l).length = l.length := by simp [strs]
theorem strs_get {l : List Qd} {k : Nat} (h : k < l.length) : (strs l)[k]? = some l[k].stream := by simp [strs, h]
theorem idsQ_get {l : List Qd} {k : Nat} (h : k < l.length) : (idsQ l)[k]? = some l[k].id := by simp [idsQ, h]
theorem strs_take {l : List Qd} {k : Nat} (h : k < l.length) : (strs l).take (k + 1) = (strs l).take k ++ [l[k].stream] := by
  rw [List.take_succ_eq_append_getElem (by rw [strs_len]; exact h)]
  simp [strs]

/-- Who has had their turn. -/
structure Sd where
  last : Int
  hand : Int
  had : List Int
/-- A value that is this; its list lies below block B. -/
def SdV (B : Nat) (w : World) (v : Value) (s : Sd) : Prop := ∃ d, v = .agg #[.int .i64 s.last, .int .i64 s.hand, d] ∧ In B w d s.had
theorem SdV.below {B B' : Nat} {w w' : World} {v : Value} {s : Sd} (h : SdV B w v s) (hb : Below B' w w') (hB : B ≤ B') : SdV B w' v s := by
  obtain ⟨d, rfl, h1⟩ := h
  exact ⟨d, rfl, h1.below hb hB⟩
theorem SdV.mono {B B' : Nat} {w : World} {v : Value} {s : Sd} (h : SdV B w v s) (hB : B ≤ B') : SdV B' w v s := by
  obtain ⟨d, rfl, h1⟩ := h
  exact ⟨d, rfl, h1.mono hB⟩
theorem SdV.size {B : Nat} {w w' : World} {v : Value} {s : Sd} (h : SdV w.heap.size w v s) (hb : Below B w w') (hB : w.heap.size ≤ B) : SdV w'.heap.size w' v s := (h.below hb hB).mono hb.size

theorem Try.cellsQd : Try.prog.cellsOf 56 = 10 := by kernel_rfl
theorem Try.cellsMs : Try.prog.cellsOf 54 = 5 := by kernel_rfl
theorem Try.cellsSd : Try.prog.cellsOf 51 = 3 := by kernel_rfl

section
variable {H : Type} {enc : TypeId × Value → H} {w : World} {held : Bool}
theorem message_at {x : DataW H × List MemPlace} {fuel : Nat} {cs : List Value} (h : DataW.trod enc Try.prog w 0 (fun _ => true) held fuel 54 cs = some x) : ∃ s o l t d, cs = [.int .i64 s, .bool o, .int .i64 l, .int .i64 t, d] ∧ IsSl d ∧ I64 s := by
  obtain ⟨xs, m, _, hx, hl, hxl, hf⟩ := DataW.trod_struct Try.underlying54 h
  rw [Try.cellsMs] at hl
  have hxl3 : xs.length = 5 := hxl
  match cs, hl with
  | [c0, c1, c2, c3, c4], _ =>
    have f0 : DataW.trod enc Try.prog w 0 (fun _ => true) held m 3 (([c0, c1, c2, c3, c4].drop 0).take (Try.prog.cellsOf 3)) = xs[0]? := hf 0 _ rfl
    have f1 : DataW.trod enc Try.prog w 0 (fun _ => true) held m 4 (([c0, c1, c2, c3, c4].drop 1).take (Try.prog.cellsOf 4)) = xs[1]? := hf 1 _ rfl
    have f2 : DataW.trod enc Try.prog w 0 (fun _ => true) held m 3 (([c0, c1, c2, c3, c4].drop 2).take (Try.prog.cellsOf 3)) = xs[2]? := hf 2 _ rfl
    have f3 : DataW.trod enc Try.prog w 0 (fun _ => true) held m 3 (([c0, c1, c2, c3, c4].drop 3).take (Try.prog.cellsOf 3)) = xs[3]? := hf 3 _ rfl
    have f4 : DataW.trod enc Try.prog w 0 (fun _ => true) held m 23 (([c0, c1, c2, c3, c4].drop 4).take (Try.prog.cellsOf 23)) = xs[4]? := hf 4 _ rfl
    rw [Try.cells3] at f0 f2 f3
    rw [Try.cells4] at f1
    rw [Try.cells23] at f4
    rw [List.getElem?_eq_getElem (by omega)] at f0 f1 f2 f3 f4
    obtain ⟨z0, e0, _, w0⟩ := DataW.trod_int Try.underlying3 f0
    obtain ⟨z1, e1, _⟩ := DataW.trod_bool Try.underlying4 f1
    obtain ⟨z2, e2, _, _⟩ := DataW.trod_int Try.underlying3 f2
    obtain ⟨z3, e3, _, _⟩ := DataW.trod_int Try.underlying3 f3
    obtain ⟨v4, l4, e4, _, h4, _⟩ := bytes_in f4
    simp at e0 e1 e2 e3 e4
    subst e0 e1 e2 e3 e4
    exact ⟨z0, z1, z2, z3, _, rfl, h4, wf_I64 w0⟩
theorem queued_at {x : DataW H × List MemPlace} {fuel : Nat} {cs : List Value} (h : DataW.trod enc Try.prog w 0 (fun _ => true) held fuel 56 cs = some x) : ∃ v q, cs = v.cells.toList ∧ QdV w.heap.size w v q ∧ I64 q.stream := by
  obtain ⟨xs, m, _, hx, hl, hxl, hf⟩ := DataW.trod_struct Try.underlying56 h
  rw [Try.cellsQd] at hl
  have hxl3 : xs.length = 6 := hxl
  match cs, hl with
  | c0 :: c1 :: c2 :: c3 :: c4 :: r, hl =>
    have hr : r.length = 5 := by simpa using hl
    have f0 : DataW.trod enc Try.prog w 0 (fun _ => true) held m 3 (((c0 :: c1 :: c2 :: c3 :: c4 :: r).drop 0).take (Try.prog.cellsOf 3)) = xs[0]? := hf 0 _ rfl
    have f1 : DataW.trod enc Try.prog w 0 (fun _ => true) held m 3 (((c0 :: c1 :: c2 :: c3 :: c4 :: r).drop 1).take (Try.prog.cellsOf 3)) = xs[1]? := hf 1 _ rfl
    have f2 : DataW.trod enc Try.prog w 0 (fun _ => true) held m 3 (((c0 :: c1 :: c2 :: c3 :: c4 :: r).drop 2).take (Try.prog.cellsOf 3)) = xs[2]? := hf 2 _ rfl
    have f3 : DataW.trod enc Try.prog w 0 (fun _ => true) held m 3 (((c0 :: c1 :: c2 :: c3 :: c4 :: r).drop 3).take (Try.prog.cellsOf 3)) = xs[3]? := hf 3 _ rfl
    have f4 : DataW.trod enc Try.prog w 0 (fun _ => true) held m 3 (((c0 :: c1 :: c2 :: c3 :: c4 :: r).drop 4).take (Try.prog.cellsOf 3)) = xs[4]? := hf 4 _ rfl
    have f5 : DataW.trod enc Try.prog w 0 (fun _ => true) held m 54 (((c0 :: c1 :: c2 :: c3 :: c4 :: r).drop 5).take (Try.prog.cellsOf 54)) = xs[5]? := hf 5 _ rfl
    rw [Try.cells3] at f0 f1 f2 f3 f4
    rw [Try.cellsMs] at f5
    simp only [List.drop_succ_cons, List.drop_zero] at f5
    rw [List.take_of_length_le (by omega)] at f5
    rw [List.getElem?_eq_getElem (by omega)] at f0 f1 f2 f3 f4 f5
    obtain ⟨z0, e0, _, _⟩ := DataW.trod_int Try.underlying3 f0
    obtain ⟨z1, e1, _, _⟩ := DataW.trod_int Try.underlying3 f1
    obtain ⟨z2, e2, _, _⟩ := DataW.trod_int Try.underlying3 f2
    obtain ⟨z3, e3, _, _⟩ := DataW.trod_int Try.underlying3 f3
    obtain ⟨z4, e4, _, _⟩ := DataW.trod_int Try.underlying3 f4
    obtain ⟨s, o, l, t, d, e5, hd, hs⟩ := message_at f5
    simp at e0 e1 e2 e3 e4
    subst e0 e1 e2 e3 e4 e5
    exact ⟨qdVal ⟨z0, z1, z2, z3, z4, s, o, l, t⟩ d, ⟨z0, z1, z2, z3, z4, s, o, l, t⟩, rfl, ⟨d, rfl, hd⟩, hs⟩
/-- One message that came in. -/
theorem queued_in {v : Value} {d : DataW H} {p : List MemPlace} (h : DataW.Trod enc Try.prog w 0 (fun _ => true) held 56 v d p) : ∃ q, QdV w.heap.size w v q ∧ I64 q.stream := by
  obtain ⟨fuel, h⟩ := h
  obtain ⟨v', q, e, ⟨dd, rfl, hd⟩, hs⟩ := queued_at h
  refine ⟨q, ⟨dd, ?_, hd⟩, hs⟩
  rw [agg_of e (by simp [qdVal, Value.cells])]
  rfl
/-- Messages that came in. -/
theorem queue_in {x : DataW H × List MemPlace} {fuel : Nat} {cs : List Value} (h : DataW.trod enc Try.prog w 0 (fun _ => true) held fuel 52 cs = some x) :
    ∃ v l, cs = [v] ∧ QdS w.heap.size w v l ∧ ∀ es sp, x.1 = .slice es sp → l.length ≤ es.length := by
  obtain ⟨v, l, e, hs, -, hq⟩ := things_in (Q := fun _ _ => True) QdV.bears Try.underlying52 Try.cellsQd (by decide) (fun ht => by obtain ⟨v, q, e, h, -⟩ := queued_at ht; exact ⟨v, q, e, h, trivial⟩) h
  exact ⟨v, l, e, hs, fun es sp he => (hq es sp he).1⟩
/-- Who had their turn, that came in. -/
theorem sched_in {v : Value} {d : DataW H} {p : List MemPlace} (h : DataW.Trod enc Try.prog w 0 (fun _ => true) held 51 v d p) : ∃ s, SdV w.heap.size w v s ∧ I64 s.last ∧ ∃ (xs : List (DataW H)) (x : DataW H), d = .agg xs ∧ x ∈ xs ∧ ∀ B, (∀ es sp, x = .slice es sp → es.length + sp.length ≤ B) → s.had.length ≤ B := by
  obtain ⟨fuel, h⟩ := h
  obtain ⟨xs, m, _, hx, hl, hxl, hf⟩ := DataW.trod_struct Try.underlying51 h
  rw [Try.cellsSd] at hl
  have hxl3 : xs.length = 3 := hxl
  generalize hcs : v.cells.toList = cs at *
  match cs, hl with
  | [c0, c1, c2], _ =>
    have f0 : DataW.trod enc Try.prog w 0 (fun _ => true) held m 3 (([c0, c1, c2].drop 0).take (Try.prog.cellsOf 3)) = xs[0]? := hf 0 _ rfl
    have f1 : DataW.trod enc Try.prog w 0 (fun _ => true) held m 3 (([c0, c1, c2].drop 1).take (Try.prog.cellsOf 3)) = xs[1]? := hf 1 _ rfl
    have f2 : DataW.trod enc Try.prog w 0 (fun _ => true) held m 49 (([c0, c1, c2].drop 2).take (Try.prog.cellsOf 49)) = xs[2]? := hf 2 _ rfl
    rw [Try.cells3] at f0 f1
    rw [Try.cellsInts] at f2
    rw [List.getElem?_eq_getElem (by omega)] at f0 f1 f2
    obtain ⟨z0, e0, _, w0⟩ := DataW.trod_int Try.underlying3 f0
    obtain ⟨z1, e1, _, _⟩ := DataW.trod_int Try.underlying3 f1
    obtain ⟨v2, l2, e2, h2, b2⟩ := ints_in f2
    simp at e0 e1 e2
    subst e0 e1 e2
    refine ⟨⟨z0, z1, l2⟩, ⟨_, agg_of hcs (by simp), h2⟩, wf_I64 w0, _, _, ?_, List.mem_map_of_mem (List.getElem_mem (show 2 < xs.length by omega)), b2⟩
    exact (Prod.ext_iff.1 hx).1
end
end Go.Proofs.Ytnddejdndipddab
