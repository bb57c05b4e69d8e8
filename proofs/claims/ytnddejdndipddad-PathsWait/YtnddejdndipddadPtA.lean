/- How much may be on a path: plain functions, values, and those that came in. -/
import Derived.Test.YtnddejdndipddadGI
set_option maxRecDepth 20000
namespace Go.Proofs.Ytnddejdndipddad
open Go.ChangeShapes Go.WideShapes Go.ChangeAt Go.RowKit

/-- A path. -/
structure Pt where
  window : Int
  slow : Int
  part : Int
  flight : Int
  errors : Int
  alarm : Int
  wait : Int
instance : Inhabited Pt := ⟨⟨0, 0, 0, 0, 0, 0, 0⟩⟩
abbrev ptA (p : Pt) : Array Value := #[.int .i64 p.window, .int .i64 p.slow, .int .i64 p.part, .int .i64 p.flight, .int .i64 p.errors, .int .i64 p.alarm, .int .i64 p.wait]
def ptVal (p : Pt) : Value := .agg #[.int .i64 p.window, .int .i64 p.slow, .int .i64 p.part, .int .i64 p.flight, .int .i64 p.errors, .int .i64 p.alarm, .int .i64 p.wait]

def newP (n : Int) : Pt := ⟨2 * n, 32 * n, 0, 0, 0, 0, 3⟩
def ackedP (p : Pt) (bytes n : Int) (moved : Bool) : Pt :=
  if moved = false then p else
  if bytes = 0 then ⟨p.window, p.slow, p.part, p.flight, 0, 0, 3⟩ else
  if p.window ≤ p.slow then ⟨p.window + min bytes n, p.slow, p.part, p.flight, 0, 0, 3⟩ else
  if p.part + bytes < p.window then ⟨p.window, p.slow, p.part + bytes, p.flight, 0, 0, 3⟩ else
  ⟨p.window + n, p.slow, p.part + bytes - p.window, p.flight, 0, 0, 3⟩
def slowP (x n : Int) : Int := max (x / 2) (4 * n)
def halvedP (p : Pt) (n : Int) : Pt := ⟨min p.window (slowP p.window n), slowP p.window n, 0, p.flight, p.errors, p.alarm, p.wait⟩
def lateP (p : Pt) (n : Int) : Pt := ⟨n, slowP p.window n, 0, 0, p.errors + 1, 0, min (2 * p.wait) 24⟩
def worksP (p : Pt) : Bool := decide (p.errors ≤ 3)
def chooseP (l : List Pt) : Int := if l.findIdx worksP < l.length then (l.findIdx worksP : Int) else 0

/-- What numbers are asked to be. -/
structure PtOk (p : Pt) : Prop where
  w0 : 0 ≤ p.window
  w1 : p.window ≤ 10000000
  p0 : 0 ≤ p.part
  p1 : p.part ≤ 10000000
  e0 : 0 ≤ p.errors
  e1 : p.errors ≤ 10000000
  t0 : 0 ≤ p.wait
  t1 : p.wait ≤ 10000000

/-- A value that is this path. -/
def PtV (_ : Nat) (_ : World) (v : Value) (p : Pt) : Prop := v = ptVal p
theorem PtV.bears : Bears 7 PtV where
  cells := by rintro B w v x rfl; rfl
  below := by rintro B B' w w' v x h hb hB; exact h
  mono := by rintro B B' w v x h hB; exact h
abbrev PtS (B : Nat) (w : World) (v : Value) (l : List Pt) : Prop := SlG 7 PtV B w v l
theorem PtS.at {B : Nat} {w : World} {a : Option Addr} {n cap : Nat} {l : List Pt} (h : PtS B w (.slice a n cap) l) (k : Nat) (hk : k < l.length) :
    ∃ b off, b < B ∧ (∀ wx, (Instr.indexAt 24 (.slice a n cap) (.int .i64 (k : Int))).run Try.prog wx = .ok (.pointer (some ⟨b, off, none⟩)) wx) ∧
      (w.cell? ⟨b, off, none⟩ = some (.int .i64 l[k].window) ∧ w.cell? ⟨b, off + 1, none⟩ = some (.int .i64 l[k].slow) ∧ w.cell? ⟨b, off + 2, none⟩ = some (.int .i64 l[k].part) ∧ w.cell? ⟨b, off + 3, none⟩ = some (.int .i64 l[k].flight) ∧ w.cell? ⟨b, off + 4, none⟩ = some (.int .i64 l[k].errors) ∧
       w.cell? ⟨b, off + 5, none⟩ = some (.int .i64 l[k].alarm) ∧ w.cell? ⟨b, off + 6, none⟩ = some (.int .i64 l[k].wait)) := by
  obtain ⟨b, off, v, hb, rfl, rfl, hc, e⟩ := SlG.at PtV.bears h k hk
  obtain rfl := hc
  refine ⟨b, off + k * 7, hb, fun wx => ?_, e 0 _ (by omega) rfl, e 1 _ (by omega) rfl, e 2 _ (by omega) rfl, e 3 _ (by omega) rfl, e 4 _ (by omega) rfl, e 5 _ (by omega) rfl, e 6 _ (by omega) rfl⟩
  have : (k : Int) < l.length := by omega
  go_simp

theorem Try.cellsPt : Try.prog.cellsOf 23 = 7 := by kernel_rfl

section
variable {H : Type} {enc : TypeId × Value → H} {w : World} {held : Bool}
theorem path_at {x : DataW H × List MemPlace} {fuel : Nat} {cs : List Value} (h : DataW.trod enc Try.prog w 0 (fun _ => true) held fuel 23 cs = some x) : ∃ v p, cs = v.cells.toList ∧ PtV w.heap.size w v p ∧ True := by
  obtain ⟨xs, m, _, hx, hl, hxl, hf⟩ := DataW.trod_struct Try.underlying23 h
  rw [Try.cellsPt] at hl
  have hxl3 : xs.length = 7 := hxl
  match cs, hl with
  | [c0, c1, c2, c3, c4, c5, c6], _ =>
    have f0 : DataW.trod enc Try.prog w 0 (fun _ => true) held m 3 (([c0, c1, c2, c3, c4, c5, c6].drop 0).take (Try.prog.cellsOf 3)) = xs[0]? := hf 0 _ rfl
    have f1 : DataW.trod enc Try.prog w 0 (fun _ => true) held m 3 (([c0, c1, c2, c3, c4, c5, c6].drop 1).take (Try.prog.cellsOf 3)) = xs[1]? := hf 1 _ rfl
    have f2 : DataW.trod enc Try.prog w 0 (fun _ => true) held m 3 (([c0, c1, c2, c3, c4, c5, c6].drop 2).take (Try.prog.cellsOf 3)) = xs[2]? := hf 2 _ rfl
    have f3 : DataW.trod enc Try.prog w 0 (fun _ => true) held m 3 (([c0, c1, c2, c3, c4, c5, c6].drop 3).take (Try.prog.cellsOf 3)) = xs[3]? := hf 3 _ rfl
    have f4 : DataW.trod enc Try.prog w 0 (fun _ => true) held m 3 (([c0, c1, c2, c3, c4, c5, c6].drop 4).take (Try.prog.cellsOf 3)) = xs[4]? := hf 4 _ rfl
    have f5 : DataW.trod enc Try.prog w 0 (fun _ => true) held m 3 (([c0, c1, c2, c3, c4, c5, c6].drop 5).take (Try.prog.cellsOf 3)) = xs[5]? := hf 5 _ rfl
    have f6 : DataW.trod enc Try.prog w 0 (fun _ => true) held m 3 (([c0, c1, c2, c3, c4, c5, c6].drop 6).take (Try.prog.cellsOf 3)) = xs[6]? := hf 6 _ rfl
    rw [Try.cells3] at f0 f1 f2 f3 f4 f5 f6
    rw [List.getElem?_eq_getElem (by omega)] at f0 f1 f2 f3 f4 f5 f6
    obtain ⟨z0, e0, _, _⟩ := DataW.trod_int Try.underlying3 f0
    obtain ⟨z1, e1, _, _⟩ := DataW.trod_int Try.underlying3 f1
    obtain ⟨z2, e2, _, _⟩ := DataW.trod_int Try.underlying3 f2
    obtain ⟨z3, e3, _, _⟩ := DataW.trod_int Try.underlying3 f3
    obtain ⟨z4, e4, _, _⟩ := DataW.trod_int Try.underlying3 f4
    obtain ⟨z5, e5, _, _⟩ := DataW.trod_int Try.underlying3 f5
    obtain ⟨z6, e6, _, _⟩ := DataW.trod_int Try.underlying3 f6
    simp at e0 e1 e2 e3 e4 e5 e6
    subst e0 e1 e2 e3 e4 e5 e6
    exact ⟨ptVal ⟨z0, z1, z2, z3, z4, z5, z6⟩, ⟨z0, z1, z2, z3, z4, z5, z6⟩, rfl, rfl, trivial⟩
/-- One path that came in. -/
theorem path_in {v : Value} {d : DataW H} {p : List MemPlace} (h : DataW.Trod enc Try.prog w 0 (fun _ => true) held 23 v d p) : ∃ q, v = ptVal q := by
  obtain ⟨fuel, h⟩ := h
  obtain ⟨v', q, e, rfl, -⟩ := path_at h
  refine ⟨q, ?_⟩
  rw [agg_of e (by simp [ptVal, Value.cells])]
  rfl
/-- Paths that came in. -/
theorem paths_in {x : DataW H × List MemPlace} {fuel : Nat} {cs : List Value} (h : DataW.trod enc Try.prog w 0 (fun _ => true) held fuel 24 cs = some x) :
    ∃ v l, cs = [v] ∧ PtS w.heap.size w v l ∧ ∀ es sp, x.1 = .slice es sp → l.length ≤ es.length := by
  obtain ⟨v, l, e, hs, -, hq⟩ := things_in (Q := fun _ _ => True) PtV.bears Try.underlying24 Try.cellsPt (by decide) path_at h
  exact ⟨v, l, e, hs, fun es sp he => (hq es sp he).1⟩
end
end Go.Proofs.Ytnddejdndipddad
