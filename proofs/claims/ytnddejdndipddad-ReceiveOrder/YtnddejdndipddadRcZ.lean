/- Chunks and configs that came in; slices of chunks. -/
import Derived.Test.YtnddejdndipddadLF
import Derived.Test.YtnddejdndipddadRcV
import Derived.Test.YtnddejdndipddadGI
set_option maxRecDepth 20000
namespace Go.Proofs.Ytnddejdndipddad
open Go.ChangeShapes Go.WideShapes Go.ChangeAt Go.RowKit

theorem CkV.bears : Bears 11 CkV where
  cells := by rintro B w v x ⟨d, s, k, rfl, -⟩; rfl
  below := by rintro B B' w w' v x ⟨d, s, k, rfl, h1, h2, h3⟩ hb hB; exact ⟨d, s, k, rfl, h1.below hb hB, h2.below hb hB, Rw.below h3 hb hB⟩
  mono := by rintro B B' w v x ⟨d, s, k, rfl, h1, h2, h3⟩ hB; exact ⟨d, s, k, rfl, h1.mono hB, h2.mono hB, Rw.mono h3 hB⟩
abbrev CksS (B : Nat) (w : World) (v : Value) (l : List Ck) : Prop := SlG 11 CkV B w v l
/-- A place in a slice of chunks. -/
theorem CksS.at {B : Nat} {w : World} {a : Option Addr} {n cap : Nat} {l : List Ck} (h : CksS B w (.slice a n cap) l) (k : Nat) (hk : k < l.length) :
    ∃ b off da dc sa sc qa qc, b < B ∧ (∀ wx, (Instr.indexAt 37 (.slice a n cap) (.int .i64 (k : Int))).run Try.prog wx = .ok (.pointer (some ⟨b, off, none⟩)) wx) ∧ By B w (.slice da l[k].data.length dc) l[k].data ∧ Sl B w (.slice sa l[k].spans.length sc) l[k].spans ∧ Kl B w (.slice qa l[k].skips.length qc) l[k].skips ∧
      w.rangeAt b off [.int .i64 l[k].kind, .int .i64 l[k].tag, .int .i64 l[k].stream, .int .i64 l[k].mid, .int .i64 l[k].part, .bool l[k].last, .bool l[k].ordered, .slice da l[k].data.length dc, .slice sa l[k].spans.length sc, .int .i64 l[k].room, .slice qa l[k].skips.length qc] := by
  obtain ⟨b, off, v, hb, rfl, rfl, ⟨d, s, q, rfl, hd, hs, hq⟩, e⟩ := SlG.at CkV.bears h k hk
  obtain ⟨da, dc, rfl, -, -⟩ := hd.ex
  obtain ⟨sa, sc, rfl⟩ := hs.ex
  obtain ⟨qa, qc, rfl, -, -⟩ := hq.ex
  refine ⟨b, off + k * 11, da, dc, sa, sc, qa, qc, hb, fun wx => ?_, hd, hs, hq, fun j u hu => ?_⟩
  · have : (k : Int) < l.length := by omega
    go_simp
  · have hj : j < 11 := by have := (List.getElem?_eq_some_iff.1 hu).1; simpa using this
    exact e j u hj hu
def cfVal (c : Cf) : Value := .agg #[.int .i64 c.streams, .int .i64 c.part, .int .i64 c.packet, .int .i64 c.paths, .int .i64 c.turns, .int .i64 c.waiting, .int .i64 c.first]
/-- So many skips in all. -/
def skN (l : List Ck) : Nat := (l.map fun c => c.skips.length).sum

section
variable {H : Type} {enc : TypeId × Value → H} {w : World} {held : Bool}
/-- A config that came in. -/
theorem config_in {v : Value} {d : DataW H} {p : List MemPlace} (h : DataW.Trod enc Try.prog w 0 (fun _ => true) held 36 v d p) : ∃ c, v = cfVal c ∧ I64 c.first ∧ I64 c.streams := by
  obtain ⟨fuel, h⟩ := h
  obtain ⟨xs, m, _, hx, hl, hxl, hf⟩ := DataW.trod_struct Try.underlying36 h
  rw [show Try.prog.cellsOf 36 = 7 by kernel_rfl] at hl
  have hxl3 : xs.length = 7 := hxl
  match hcs : v.cells.toList, hl with
  | [c0, c1, c2, c3, c4, c5, c6], _ =>
    rw [hcs] at hf
    have f0 : DataW.trod enc Try.prog w 0 (fun _ => true) held m 3 (([c0, c1, c2, c3, c4, c5, c6].drop 0).take (Try.prog.cellsOf 3)) = xs[0]? := hf 0 _ rfl
    have f1 : DataW.trod enc Try.prog w 0 (fun _ => true) held m 3 (([c0, c1, c2, c3, c4, c5, c6].drop 1).take (Try.prog.cellsOf 3)) = xs[1]? := hf 1 _ rfl
    have f2 : DataW.trod enc Try.prog w 0 (fun _ => true) held m 3 (([c0, c1, c2, c3, c4, c5, c6].drop 2).take (Try.prog.cellsOf 3)) = xs[2]? := hf 2 _ rfl
    have f3 : DataW.trod enc Try.prog w 0 (fun _ => true) held m 3 (([c0, c1, c2, c3, c4, c5, c6].drop 3).take (Try.prog.cellsOf 3)) = xs[3]? := hf 3 _ rfl
    have f4 : DataW.trod enc Try.prog w 0 (fun _ => true) held m 3 (([c0, c1, c2, c3, c4, c5, c6].drop 4).take (Try.prog.cellsOf 3)) = xs[4]? := hf 4 _ rfl
    have f5 : DataW.trod enc Try.prog w 0 (fun _ => true) held m 3 (([c0, c1, c2, c3, c4, c5, c6].drop 5).take (Try.prog.cellsOf 3)) = xs[5]? := hf 5 _ rfl
    have f6 : DataW.trod enc Try.prog w 0 (fun _ => true) held m 3 (([c0, c1, c2, c3, c4, c5, c6].drop 6).take (Try.prog.cellsOf 3)) = xs[6]? := hf 6 _ rfl
    rw [Try.cells3] at f0 f1 f2 f3 f4 f5 f6
    rw [List.getElem?_eq_getElem (by omega)] at f0 f1 f2 f3 f4 f5 f6
    obtain ⟨z0, e0, _, w0⟩ := DataW.trod_int Try.underlying3 f0
    obtain ⟨z1, e1, _, w1⟩ := DataW.trod_int Try.underlying3 f1
    obtain ⟨z2, e2, _, w2⟩ := DataW.trod_int Try.underlying3 f2
    obtain ⟨z3, e3, _, w3⟩ := DataW.trod_int Try.underlying3 f3
    obtain ⟨z4, e4, _, w4⟩ := DataW.trod_int Try.underlying3 f4
    obtain ⟨z5, e5, _, w5⟩ := DataW.trod_int Try.underlying3 f5
    obtain ⟨z6, e6, _, w6⟩ := DataW.trod_int Try.underlying3 f6
    simp at e0 e1 e2 e3 e4 e5 e6
    subst e0 e1 e2 e3 e4 e5 e6
    refine ⟨⟨z0, z1, z2, z3, z4, z5, z6⟩, ?_, wf_I64 w6, wf_I64 w0⟩
    rw [agg_of hcs (by simp)]
    rfl
theorem sk_bulk : ∀ (l : List Ck) (es : List (DataW H)), l.length ≤ es.length → (∀ (k : Nat) a, l[k]? = some a → ∃ d, es[k]? = some d ∧ a.skips.length ≤ Rows.uptoBulk d) → skN l ≤ Rows.uptoBulkAll es
  | [], es, _, _ => by simp [skN]
  | s :: r, [], h, _ => by simp at h
  | s :: r, d :: es, h, hk => by
    have ih := sk_bulk r es (by simpa using h) fun k a e => by
      obtain ⟨d', e1, e2⟩ := hk (k + 1) a (by simpa using e)
      exact ⟨d', by simpa using e1, e2⟩
    obtain ⟨d', e1, e2⟩ := hk 0 s rfl
    simp only [List.getElem?_cons_zero, Option.some.injEq] at e1
    subst e1
    simp only [skN, List.map_cons, List.sum_cons, Rows.uptoBulkAll] at ih ⊢
    omega
/-- Chunks that came in. -/
theorem chunks_bulk {x : DataW H × List MemPlace} {fuel : Nat} {a : Option Addr} {n c : Nat} (h : DataW.trod enc Try.prog w 0 (fun _ => true) held fuel 37 [.slice a n c] = some x) (hb : Rows.uptoBulk x.1 ≤ 1048576) :
    ∃ l, CksS w.heap.size w (.slice a n c) l ∧ (∀ c ∈ l, CkFit c ∧ c.data.length ≤ 1048576) ∧ l.length ≤ 1048576 ∧ skN l ≤ 1048576 := by
  obtain ⟨v, l, e, hs, -, hq⟩ := things_in (Q := fun d a => Rows.uptoBulk d ≤ 1048576 → CkFit a ∧ a.data.length ≤ Rows.uptoBulk d ∧ a.skips.length ≤ Rows.uptoBulk d) CkV.bears Try.underlying37 Try.cells42 (by decide) (fun ht => by
    obtain ⟨c, d, s, k, e9, h1, h2, h3, _, hfit⟩ := chunk_bulk ht
    exact ⟨_, c, e9, ⟨d, s, k, rfl, h1, h2, h3⟩, hfit⟩) h
  simp only [List.cons.injEq, and_true] at e
  subst e
  refine ⟨l, hs, ?_⟩
  obtain ⟨a', cap', e', -, -⟩ := hs.ex
  have hn : n = l.length := by simp only [Value.slice.injEq] at e'; exact e'.2.1
  have hsz := slice_bulk Try.underlying37 h
  rcases Deep.open_slice Try.underlying37 h with ⟨hcs, _⟩ | ⟨x', l', cp, m, k', D, Pl, hcs, hb', hl, hm, hmm, hx, hcell⟩
  · simp at hcs
    have : l = [] := List.eq_nil_of_length_eq_zero (by omega)
    subst this
    exact ⟨fun s hs => by simp at hs, by simp, by simp [skN]⟩
  · have e1 : x.1 = .slice ((List.range l').map D) ((List.range (m - l')).map fun j => D (l' + j)) := (Prod.ext_iff.1 hx).1
    have e2 : Rows.uptoBulkAll ((List.range l').map D) ≤ 1048576 := by rw [e1] at hb; simp only [Rows.uptoBulk] at hb; omega
    obtain ⟨q1, q2⟩ := hq _ _ e1
    have q3 : ∀ (k : Nat) s, l[k]? = some s → ∃ d, ((List.range l').map D)[k]? = some d ∧ Rows.uptoBulk d ≤ 1048576 ∧ CkFit s ∧ s.data.length ≤ Rows.uptoBulk d ∧ s.skips.length ≤ Rows.uptoBulk d := fun k s hk => by
      obtain ⟨d, hd, hQ⟩ := q2 k s hk
      have hd1 := Nat.le_trans (bulk_mem (List.mem_of_getElem? hd)) e2
      exact ⟨d, hd, hd1, hQ hd1⟩
    refine ⟨fun s hsl => ?_, by omega, ?_⟩
    · obtain ⟨k, hk⟩ := List.getElem?_of_mem hsl
      obtain ⟨d, _, g0, g, g2, _⟩ := q3 k s hk
      exact ⟨g, by omega⟩
    · have := sk_bulk l _ q1 fun k s hk => by
        obtain ⟨d, hd, _, _, _, g⟩ := q3 k s hk
        exact ⟨d, hd, g⟩
      omega
end
end Go.Proofs.Ytnddejdndipddad
