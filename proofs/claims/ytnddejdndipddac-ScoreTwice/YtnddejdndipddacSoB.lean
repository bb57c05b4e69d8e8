/- Parts that were handed on: as they are read, that came in, and as a row of the call's own. -/
import Derived.Test.YtnddejdndipddacSoA
set_option maxRecDepth 20000
namespace Go.Proofs.Ytnddejdndipddac
open Go.ChangeShapes Go.WideShapes Go.ChangeAt Go.RowKit

/-- A part's fields, as one value. -/
def snVal (x : Sn) (d s k : Value) : Value := .agg #[.int .i64 x.number, .int .i64 x.id, .int .i64 x.state, .int .i64 x.path, .int .i64 x.missed, .int .i64 x.times, .int .i64 x.came, .int .i64 x.life, .int .i64 x.tries, .int .i64 x.ck.kind, .int .i64 x.ck.tag, .int .i64 x.ck.stream, .int .i64 x.ck.mid, .int .i64 x.ck.part, .bool x.ck.last, .bool x.ck.ordered, d, s, .int .i64 x.ck.room, k]
/-- A value that is this part; its lists lie below block B. -/
def SnV (B : Nat) (w : World) (v : Value) (x : Sn) : Prop := ∃ d s k, v = snVal x d s k ∧ By B w d x.ck.data ∧ Sl B w s x.ck.spans ∧ Kl B w k x.ck.skips
theorem SnV.bears : Bears 20 SnV where
  cells := by rintro B w v x ⟨d, s, k, rfl, -⟩; rfl
  below := by rintro B B' w w' v x ⟨d, s, k, rfl, h1, h2, h3⟩ hb hB; exact ⟨d, s, k, rfl, h1.below hb hB, h2.below hb hB, h3.below hb hB⟩
  mono := by rintro B B' w v x ⟨d, s, k, rfl, h1, h2, h3⟩ hB; exact ⟨d, s, k, rfl, h1.mono hB, h2.mono hB, h3.mono hB⟩
/-- A slice of parts. -/
abbrev SnS (B : Nat) (w : World) (v : Value) (l : List Sn) : Prop := SlG 20 SnV B w v l
/-- What lists of a part's chunk may have. -/
def CkFit (c : Ck) : Prop := c.data.length ≤ 140737488351232 ∧ c.spans.length * 16 ≤ 140737488351232 ∧ c.skips.length * 24 ≤ 140737488351232
def FitS (x : Sn) : Prop := CkFit x.ck ∧ I64 x.number ∧ I64 x.missed
def FitL (l : List Sn) : Prop := ∀ x ∈ l, FitS x
theorem FitL.get {l : List Sn} (h : FitL l) (k : Nat) (hk : k < l.length) : FitS l[k] := h _ (List.getElem_mem hk)

/-- The cells of a part at a place. -/
def SnAt (w : World) (b off : Nat) (x : Sn) (d s k : Value) : Prop := w.cell? ⟨b, off, none⟩ = some (.int .i64 x.number) ∧ w.cell? ⟨b, off + 1, none⟩ = some (.int .i64 x.id) ∧ w.cell? ⟨b, off + 2, none⟩ = some (.int .i64 x.state) ∧ w.cell? ⟨b, off + 3, none⟩ = some (.int .i64 x.path) ∧ w.cell? ⟨b, off + 4, none⟩ = some (.int .i64 x.missed) ∧ w.cell? ⟨b, off + 5, none⟩ = some (.int .i64 x.times) ∧ w.cell? ⟨b, off + 6, none⟩ = some (.int .i64 x.came) ∧ w.cell? ⟨b, off + 7, none⟩ = some (.int .i64 x.life) ∧ w.cell? ⟨b, off + 8, none⟩ = some (.int .i64 x.tries) ∧ w.cell? ⟨b, off + 9, none⟩ = some (.int .i64 x.ck.kind) ∧ w.cell? ⟨b, off + 10, none⟩ = some (.int .i64 x.ck.tag) ∧ w.cell? ⟨b, off + 11, none⟩ = some (.int .i64 x.ck.stream) ∧ w.cell? ⟨b, off + 12, none⟩ = some (.int .i64 x.ck.mid) ∧ w.cell? ⟨b, off + 13, none⟩ = some (.int .i64 x.ck.part) ∧ w.cell? ⟨b, off + 14, none⟩ = some (.bool x.ck.last) ∧ w.cell? ⟨b, off + 15, none⟩ = some (.bool x.ck.ordered) ∧ w.cell? ⟨b, off + 16, none⟩ = some (d) ∧ w.cell? ⟨b, off + 17, none⟩ = some (s) ∧ w.cell? ⟨b, off + 18, none⟩ = some (.int .i64 x.ck.room) ∧ w.cell? ⟨b, off + 19, none⟩ = some (k)
theorem SnAt.below {B : Nat} {w w' : World} {b off : Nat} {x : Sn} {d s k : Value} (h : SnAt w b off x d s k) (hb : Below B w w') (hB : b < B) : SnAt w' b off x d s k := by
  obtain ⟨h0, h1, h2, h3, h4, h5, h6, h7, h8, h9, h10, h11, h12, h13, h14, h15, h16, h17, h18, h19⟩ := h
  exact ⟨(hb.cell (p := ⟨b, _, none⟩) hB).trans h0, (hb.cell (p := ⟨b, _, none⟩) hB).trans h1, (hb.cell (p := ⟨b, _, none⟩) hB).trans h2, (hb.cell (p := ⟨b, _, none⟩) hB).trans h3, (hb.cell (p := ⟨b, _, none⟩) hB).trans h4, (hb.cell (p := ⟨b, _, none⟩) hB).trans h5, (hb.cell (p := ⟨b, _, none⟩) hB).trans h6, (hb.cell (p := ⟨b, _, none⟩) hB).trans h7, (hb.cell (p := ⟨b, _, none⟩) hB).trans h8, (hb.cell (p := ⟨b, _, none⟩) hB).trans h9, (hb.cell (p := ⟨b, _, none⟩) hB).trans h10, (hb.cell (p := ⟨b, _, none⟩) hB).trans h11, (hb.cell (p := ⟨b, _, none⟩) hB).trans h12, (hb.cell (p := ⟨b, _, none⟩) hB).trans h13, (hb.cell (p := ⟨b, _, none⟩) hB).trans h14, (hb.cell (p := ⟨b, _, none⟩) hB).trans h15, (hb.cell (p := ⟨b, _, none⟩) hB).trans h16, (hb.cell (p := ⟨b, _, none⟩) hB).trans h17, (hb.cell (p := ⟨b, _, none⟩) hB).trans h18, (hb.cell (p := ⟨b, _, none⟩) hB).trans h19⟩
theorem SnAt.keep {S : Nat → Prop} {w w' : World} {b off : Nat} {x : Sn} {d s k : Value} (h : SnAt w b off x d s k) (hb : Keep S w w') (hB : S b) : SnAt w' b off x d s k := by
  obtain ⟨h0, h1, h2, h3, h4, h5, h6, h7, h8, h9, h10, h11, h12, h13, h14, h15, h16, h17, h18, h19⟩ := h
  exact ⟨(hb.cell (p := ⟨b, _, none⟩) hB).trans h0, (hb.cell (p := ⟨b, _, none⟩) hB).trans h1, (hb.cell (p := ⟨b, _, none⟩) hB).trans h2, (hb.cell (p := ⟨b, _, none⟩) hB).trans h3, (hb.cell (p := ⟨b, _, none⟩) hB).trans h4, (hb.cell (p := ⟨b, _, none⟩) hB).trans h5, (hb.cell (p := ⟨b, _, none⟩) hB).trans h6, (hb.cell (p := ⟨b, _, none⟩) hB).trans h7, (hb.cell (p := ⟨b, _, none⟩) hB).trans h8, (hb.cell (p := ⟨b, _, none⟩) hB).trans h9, (hb.cell (p := ⟨b, _, none⟩) hB).trans h10, (hb.cell (p := ⟨b, _, none⟩) hB).trans h11, (hb.cell (p := ⟨b, _, none⟩) hB).trans h12, (hb.cell (p := ⟨b, _, none⟩) hB).trans h13, (hb.cell (p := ⟨b, _, none⟩) hB).trans h14, (hb.cell (p := ⟨b, _, none⟩) hB).trans h15, (hb.cell (p := ⟨b, _, none⟩) hB).trans h16, (hb.cell (p := ⟨b, _, none⟩) hB).trans h17, (hb.cell (p := ⟨b, _, none⟩) hB).trans h18, (hb.cell (p := ⟨b, _, none⟩) hB).trans h19⟩
theorem SnAt.of {w : World} {b off : Nat} {x : Sn} {d s k : Value} (h : ∀ i u, i < 20 → (snVal x d s k).cells.toList[i]? = some u → w.cell? ⟨b, off + i, none⟩ = some u) : SnAt w b off x d s k :=
  ⟨h 0 _ (by omega) rfl, h 1 _ (by omega) rfl, h 2 _ (by omega) rfl, h 3 _ (by omega) rfl, h 4 _ (by omega) rfl, h 5 _ (by omega) rfl, h 6 _ (by omega) rfl, h 7 _ (by omega) rfl, h 8 _ (by omega) rfl, h 9 _ (by omega) rfl, h 10 _ (by omega) rfl, h 11 _ (by omega) rfl, h 12 _ (by omega) rfl, h 13 _ (by omega) rfl, h 14 _ (by omega) rfl, h 15 _ (by omega) rfl, h 16 _ (by omega) rfl, h 17 _ (by omega) rfl, h 18 _ (by omega) rfl, h 19 _ (by omega) rfl⟩
/-- A place in a slice of parts. -/
theorem SnS.at {B : Nat} {w : World} {a : Option Addr} {n cap : Nat} {l : List Sn} (h : SnS B w (.slice a n cap) l) (k : Nat) (hk : k < l.length) :
    ∃ b off da dc sa sc ka kc, b < B ∧ (∀ wx, (Instr.indexAt 38 (.slice a n cap) (.int .i64 (k : Int))).run Try.prog wx = .ok (.pointer (some ⟨b, off, none⟩)) wx) ∧
      By B w (.slice da l[k].ck.data.length dc) l[k].ck.data ∧ Sl B w (.slice sa l[k].ck.spans.length sc) l[k].ck.spans ∧ Kl B w (.slice ka l[k].ck.skips.length kc) l[k].ck.skips ∧
      SnAt w b off l[k] (.slice da l[k].ck.data.length dc) (.slice sa l[k].ck.spans.length sc) (.slice ka l[k].ck.skips.length kc) := by
  obtain ⟨b, off, v, hb, rfl, rfl, hc, e⟩ := SlG.at SnV.bears h k hk
  obtain ⟨d, s, q, rfl, h1, h2, h3⟩ := hc
  obtain ⟨da, dc, rfl, -, -⟩ := h1.ex
  obtain ⟨sa, sc, rfl⟩ := h2.ex
  obtain ⟨ka, kc, rfl, -, -⟩ := h3.ex
  refine ⟨b, off + k * 20, da, dc, sa, sc, ka, kc, hb, fun wx => ?_, h1, h2, h3, SnAt.of fun i u hi hu => e i u hi hu⟩
  have : (k : Int) < l.length := by omega
  go_simp

theorem Try.cellsSn : Try.prog.cellsOf 53 = 20 := by kernel_rfl
theorem Try.bytesSn : Try.prog.bytesOf 53 = 200 := by kernel_rfl
theorem Try.bytesSp : Try.prog.bytesOf 88 = 16 := by kernel_rfl
theorem Try.bytesSk : Try.prog.bytesOf 60 = 24 := by kernel_rfl
theorem Try.infoSn : (Try.prog.info? 53).map (fun i => (i.zero, i.size, i.bytes)) = some (some (.agg #[.int .i64 0, .int .i64 0, .int .i64 0, .int .i64 0, .int .i64 0, .int .i64 0, .int .i64 0, .int .i64 0, .int .i64 0, .int .i64 0, .int .i64 0, .int .i64 0, .int .i64 0, .int .i64 0, .bool false, .bool false, .slice none 0 0, .slice none 0 0, .int .i64 0, .slice none 0 0]), 20, 200) := by kernel_rfl

theorem weights_mem_all {H : Type} {P : Program} {e : TypeId} : ∀ {ds : List (DataW H)} {d : DataW H}, d ∈ ds → ∀ n ∈ d.weights P e, n ∈ DataW.weightsAll P e ds
  | d0 :: ds, d, h, n, hn => by
    simp only [DataW.weightsAll, List.mem_append]
    rcases List.mem_cons.1 h with rfl | h
    · exact .inl hn
    · exact .inr (weights_mem_all h n hn)
  | [], _, h, _, _ => by simp at h

section
variable {H : Type} {enc : TypeId × Value → H} {w : World} {held : Bool}
/-- What is in a datum fits. -/
def SzD (T : TypeId) (d : DataW H) : Prop := ∀ n ∈ d.weights Try.prog T, n ≤ 140737488351232
theorem slice_sized {T E : TypeId} {fuel : Nat} {a : Option Addr} {n c : Nat} {x : DataW H × List MemPlace} (hT : Try.prog.underlying T = some (.slice E)) (h : DataW.trod enc Try.prog w 0 (fun _ => true) held fuel T [.slice a n c] = some x) (hs : SzD T x.1) : n * Try.prog.bytesOf E ≤ 140737488351232 := by
  rcases Deep.open_slice hT h with ⟨hcs, _⟩ | ⟨x', l, cp, m, k, D, Pl, hcs, hb, hl, hm, hmm, hx, hcell⟩
  · simp at hcs; rw [hcs.2.1]; omega
  · simp only [List.cons.injEq, Value.slice.injEq, and_true] at hcs
    obtain ⟨-, rfl, -⟩ := hcs
    rw [hx] at hs
    have := hs _ (by simp only [DataW.weights, hT]; exact List.mem_cons_self)
    simp at this
    exact Nat.le_trans (Nat.mul_le_mul_right _ (by omega)) this
/-- A chunk that came in, as cells, and what its lists may have. -/
theorem chunk_sized {x : DataW H × List MemPlace} {fuel : Nat} {cs : List Value} (h : DataW.trod enc Try.prog w 0 (fun _ => true) held fuel 42 cs = some x) : ∃ c d s k, cs = (ckVal c d s k).cells.toList ∧ By w.heap.size w d c.data ∧ Sl w.heap.size w s c.spans ∧ Kl w.heap.size w k c.skips ∧ I64 c.tag ∧ (SzD 42 x.1 → CkFit c) := by
  obtain ⟨xs, m, _, hx, hl, hxl, hf⟩ := DataW.trod_struct Try.underlying42 h
  rw [Try.cells42] at hl
  have hxl3 : xs.length = 11 := hxl
  match cs, hl with
  | [c0, c1, c2, c3, c4, c5, c6, c7, c8, c9, c10], _ =>
    have f0 : DataW.trod enc Try.prog w 0 (fun _ => true) held m 3 (([c0, c1, c2, c3, c4, c5, c6, c7, c8, c9, c10].drop 0).take (Try.prog.cellsOf 3)) = xs[0]? := hf 0 _ rfl
    have f1 : DataW.trod enc Try.prog w 0 (fun _ => true) held m 3 (([c0, c1, c2, c3, c4, c5, c6, c7, c8, c9, c10].drop 1).take (Try.prog.cellsOf 3)) = xs[1]? := hf 1 _ rfl
    have f2 : DataW.trod enc Try.prog w 0 (fun _ => true) held m 3 (([c0, c1, c2, c3, c4, c5, c6, c7, c8, c9, c10].drop 2).take (Try.prog.cellsOf 3)) = xs[2]? := hf 2 _ rfl
    have f3 : DataW.trod enc Try.prog w 0 (fun _ => true) held m 3 (([c0, c1, c2, c3, c4, c5, c6, c7, c8, c9, c10].drop 3).take (Try.prog.cellsOf 3)) = xs[3]? := hf 3 _ rfl
    have f4 : DataW.trod enc Try.prog w 0 (fun _ => true) held m 3 (([c0, c1, c2, c3, c4, c5, c6, c7, c8, c9, c10].drop 4).take (Try.prog.cellsOf 3)) = xs[4]? := hf 4 _ rfl
    have f5 : DataW.trod enc Try.prog w 0 (fun _ => true) held m 4 (([c0, c1, c2, c3, c4, c5, c6, c7, c8, c9, c10].drop 5).take (Try.prog.cellsOf 4)) = xs[5]? := hf 5 _ rfl
    have f6 : DataW.trod enc Try.prog w 0 (fun _ => true) held m 4 (([c0, c1, c2, c3, c4, c5, c6, c7, c8, c9, c10].drop 6).take (Try.prog.cellsOf 4)) = xs[6]? := hf 6 _ rfl
    have f7 : DataW.trod enc Try.prog w 0 (fun _ => true) held m 27 (([c0, c1, c2, c3, c4, c5, c6, c7, c8, c9, c10].drop 7).take (Try.prog.cellsOf 27)) = xs[7]? := hf 7 _ rfl
    have f8 : DataW.trod enc Try.prog w 0 (fun _ => true) held m 39 (([c0, c1, c2, c3, c4, c5, c6, c7, c8, c9, c10].drop 8).take (Try.prog.cellsOf 39)) = xs[8]? := hf 8 _ rfl
    have f9 : DataW.trod enc Try.prog w 0 (fun _ => true) held m 3 (([c0, c1, c2, c3, c4, c5, c6, c7, c8, c9, c10].drop 9).take (Try.prog.cellsOf 3)) = xs[9]? := hf 9 _ rfl
    have f10 : DataW.trod enc Try.prog w 0 (fun _ => true) held m 40 (([c0, c1, c2, c3, c4, c5, c6, c7, c8, c9, c10].drop 10).take (Try.prog.cellsOf 40)) = xs[10]? := hf 10 _ rfl
    rw [Try.cells3] at f0 f1 f2 f3 f4 f9
    rw [Try.cells4] at f5 f6
    rw [Try.cells27] at f7
    rw [Try.cells39] at f8
    rw [Try.cells40] at f10
    rw [List.getElem?_eq_getElem (by omega)] at f0 f1 f2 f3 f4 f5 f6 f7 f8 f9 f10
    obtain ⟨z0, e0, _, _⟩ := DataW.trod_int Try.underlying3 f0
    obtain ⟨z1, e1, _, w1⟩ := DataW.trod_int Try.underlying3 f1
    obtain ⟨z2, e2, _, _⟩ := DataW.trod_int Try.underlying3 f2
    obtain ⟨z3, e3, _, _⟩ := DataW.trod_int Try.underlying3 f3
    obtain ⟨z4, e4, _, _⟩ := DataW.trod_int Try.underlying3 f4
    obtain ⟨z5, e5, _⟩ := DataW.trod_bool Try.underlying4 f5
    obtain ⟨z6, e6, _⟩ := DataW.trod_bool Try.underlying4 f6
    obtain ⟨v7, l7, e7, h7, _, _⟩ := bytes_in f7
    obtain ⟨v8, l8, e8, h8⟩ := spans_in f8
    obtain ⟨z9, e9, _, _⟩ := DataW.trod_int Try.underlying3 f9
    obtain ⟨v10, l10, e10, h10⟩ := skips_in f10
    simp at e0 e1 e2 e3 e4 e5 e6 e7 e8 e9 e10
    subst e0 e1 e2 e3 e4 e5 e6 e7 e8 e9 e10
    refine ⟨⟨z0, z1, z2, z3, z4, z5, z6, l7, l8, z9, l10⟩, _, _, _, rfl, h7, h8, h10, wf_I64 w1, fun hs => ?_⟩
    rw [hx] at hs
    have hs' : ∀ n ∈ DataW.weightsEach Try.prog [3, 3, 3, 3, 3, 4, 4, 27, 39, 3, 40] (xs.map (·.1)), n ≤ 140737488351232 := fun n hn => hs n (by simp only [DataW.weights, Try.underlying42]; exact hn)
    have g : ∀ (j : Nat) (t : TypeId) (hj : j < xs.length), [3, 3, 3, 3, 3, 4, 4, 27, 39, 3, 40][j]? = some t → SzD t (xs[j]).1 := fun j t hj ht n hn => hs' n (DataW.weights_mem_each ht (by simp [hj]) n hn)
    obtain ⟨a7, c7, rfl, -, -⟩ := h7.ex
    obtain ⟨a8, c8, rfl⟩ := h8.ex
    obtain ⟨a10, c10, rfl, -, -⟩ := h10.ex
    have s7 := slice_sized Try.underlying27 f7 (g 7 _ (by omega) rfl)
    have s8 := slice_sized Try.underlying39 f8 (g 8 _ (by omega) rfl)
    have s10 := slice_sized Try.underlying40 f10 (g 10 _ (by omega) rfl)
    rw [Try.bytes5] at s7
    rw [Try.bytesSp] at s8
    rw [Try.bytesSk] at s10
    exact ⟨by simpa using s7, s8, s10⟩
/-- A part that came in, as cells. -/
theorem sent_at {x : DataW H × List MemPlace} {fuel : Nat} {cs : List Value} (h : DataW.trod enc Try.prog w 0 (fun _ => true) held fuel 53 cs = some x) : ∃ v a, cs = v.cells.toList ∧ SnV w.heap.size w v a ∧ (SzD 53 x.1 → FitS a) := by
  obtain ⟨xs, m, _, hx, hl, hxl, hf⟩ := DataW.trod_struct Try.underlying53 h
  rw [Try.cellsSn] at hl
  have hxl3 : xs.length = 10 := hxl
  match cs, hl with
  | c0 :: c1 :: c2 :: c3 :: c4 :: c5 :: c6 :: c7 :: c8 :: r, hl =>
    have hr : r.length = 11 := by simpa using hl
    have f0 : DataW.trod enc Try.prog w 0 (fun _ => true) held m 3 (((c0 :: c1 :: c2 :: c3 :: c4 :: c5 :: c6 :: c7 :: c8 :: r).drop 0).take (Try.prog.cellsOf 3)) = xs[0]? := hf 0 _ rfl
    have f1 : DataW.trod enc Try.prog w 0 (fun _ => true) held m 3 (((c0 :: c1 :: c2 :: c3 :: c4 :: c5 :: c6 :: c7 :: c8 :: r).drop 1).take (Try.prog.cellsOf 3)) = xs[1]? := hf 1 _ rfl
    have f2 : DataW.trod enc Try.prog w 0 (fun _ => true) held m 3 (((c0 :: c1 :: c2 :: c3 :: c4 :: c5 :: c6 :: c7 :: c8 :: r).drop 2).take (Try.prog.cellsOf 3)) = xs[2]? := hf 2 _ rfl
    have f3 : DataW.trod enc Try.prog w 0 (fun _ => true) held m 3 (((c0 :: c1 :: c2 :: c3 :: c4 :: c5 :: c6 :: c7 :: c8 :: r).drop 3).take (Try.prog.cellsOf 3)) = xs[3]? := hf 3 _ rfl
    have f4 : DataW.trod enc Try.prog w 0 (fun _ => true) held m 3 (((c0 :: c1 :: c2 :: c3 :: c4 :: c5 :: c6 :: c7 :: c8 :: r).drop 4).take (Try.prog.cellsOf 3)) = xs[4]? := hf 4 _ rfl
    have f5 : DataW.trod enc Try.prog w 0 (fun _ => true) held m 3 (((c0 :: c1 :: c2 :: c3 :: c4 :: c5 :: c6 :: c7 :: c8 :: r).drop 5).take (Try.prog.cellsOf 3)) = xs[5]? := hf 5 _ rfl
    have f6 : DataW.trod enc Try.prog w 0 (fun _ => true) held m 3 (((c0 :: c1 :: c2 :: c3 :: c4 :: c5 :: c6 :: c7 :: c8 :: r).drop 6).take (Try.prog.cellsOf 3)) = xs[6]? := hf 6 _ rfl
    have f7 : DataW.trod enc Try.prog w 0 (fun _ => true) held m 3 (((c0 :: c1 :: c2 :: c3 :: c4 :: c5 :: c6 :: c7 :: c8 :: r).drop 7).take (Try.prog.cellsOf 3)) = xs[7]? := hf 7 _ rfl
    have f8 : DataW.trod enc Try.prog w 0 (fun _ => true) held m 3 (((c0 :: c1 :: c2 :: c3 :: c4 :: c5 :: c6 :: c7 :: c8 :: r).drop 8).take (Try.prog.cellsOf 3)) = xs[8]? := hf 8 _ rfl
    have f9 : DataW.trod enc Try.prog w 0 (fun _ => true) held m 42 (((c0 :: c1 :: c2 :: c3 :: c4 :: c5 :: c6 :: c7 :: c8 :: r).drop 9).take (Try.prog.cellsOf 42)) = xs[9]? := hf 9 _ rfl
    rw [Try.cells3] at f0 f1 f2 f3 f4 f5 f6 f7 f8
    rw [Try.cells42] at f9
    simp only [List.drop_succ_cons, List.drop_zero] at f9
    rw [List.take_of_length_le (by omega)] at f9
    rw [List.getElem?_eq_getElem (by omega)] at f0 f1 f2 f3 f4 f5 f6 f7 f8 f9
    obtain ⟨z0, e0, _, w0⟩ := DataW.trod_int Try.underlying3 f0
    obtain ⟨z1, e1, _, w1⟩ := DataW.trod_int Try.underlying3 f1
    obtain ⟨z2, e2, _, w2⟩ := DataW.trod_int Try.underlying3 f2
    obtain ⟨z3, e3, _, w3⟩ := DataW.trod_int Try.underlying3 f3
    obtain ⟨z4, e4, _, w4⟩ := DataW.trod_int Try.underlying3 f4
    obtain ⟨z5, e5, _, w5⟩ := DataW.trod_int Try.underlying3 f5
    obtain ⟨z6, e6, _, w6⟩ := DataW.trod_int Try.underlying3 f6
    obtain ⟨z7, e7, _, w7⟩ := DataW.trod_int Try.underlying3 f7
    obtain ⟨z8, e8, _, w8⟩ := DataW.trod_int Try.underlying3 f8
    obtain ⟨c, d, s, k, e9, h1, h2, h3, _, hfit⟩ := chunk_sized f9
    simp at e0 e1 e2 e3 e4 e5 e6 e7 e8
    subst e0 e1 e2 e3 e4 e5 e6 e7 e8 e9
    refine ⟨snVal ⟨z0, z1, z2, z3, z4, z5, z6, z7, z8, c⟩ d s k, ⟨z0, z1, z2, z3, z4, z5, z6, z7, z8, c⟩, rfl, ⟨d, s, k, rfl, h1, h2, h3⟩, fun hs => ⟨hfit ?_, wf_I64 w0, wf_I64 w4⟩⟩
    rw [hx] at hs
    have hs' : ∀ n ∈ DataW.weightsEach Try.prog [3, 3, 3, 3, 3, 3, 3, 3, 3, 42] (xs.map (·.1)), n ≤ 140737488351232 := fun n hn => hs n (by simp only [DataW.weights, Try.underlying53]; exact hn)
    exact fun n hn => hs' n (DataW.weights_mem_each (j := 9) (t := 42) (d := (xs[9]).1) rfl (by simp [hxl3]) n hn)
/-- Parts that came in. -/
theorem sents_in {x : DataW H × List MemPlace} {fuel : Nat} {a : Option Addr} {n c : Nat} (h : DataW.trod enc Try.prog w 0 (fun _ => true) held fuel 38 [.slice a n c] = some x) :
    ∃ l, SnS w.heap.size w (.slice a n c) l ∧ (SzD 38 x.1 → FitL l ∧ l.length * 200 ≤ 140737488351232) := by
  obtain ⟨v, l, e, hs, -, hq⟩ := things_in (Q := fun d a => SzD 53 d → FitS a) SnV.bears Try.underlying38 Try.cellsSn (by decide) (fun ht => sent_at ht) h
  simp only [List.cons.injEq, and_true] at e
  subst e
  refine ⟨l, hs, fun hz => ?_⟩
  obtain ⟨a', cap', e', -, -⟩ := hs.ex
  have hn : n = l.length := by simp only [Value.slice.injEq] at e'; exact e'.2.1
  have hsz := slice_sized Try.underlying38 h hz
  rw [Try.bytesSn, hn] at hsz
  refine ⟨fun s hsl => ?_, hsz⟩
  obtain ⟨k, hk⟩ := List.getElem?_of_mem hsl
  rcases Deep.open_slice Try.underlying38 h with ⟨hcs, _⟩ | ⟨x', l', cp, m, k', D, Pl, hcs, hb, hl, hm, hmm, hx, hcell⟩
  · simp at hcs
    have := (List.getElem?_eq_some_iff.1 hk).1
    omega
  · have e1 : x.1 = .slice ((List.range l').map D) ((List.range (m - l')).map fun j => D (l' + j)) := (Prod.ext_iff.1 hx).1
    obtain ⟨d, hd, hQ⟩ := (hq _ _ e1).2 k s hk
    refine hQ fun i hi => hz i ?_
    rw [e1]
    simp only [DataW.weights, Try.underlying38]
    exact List.mem_cons_of_mem _ (List.mem_append_left _ (weights_mem_all (List.mem_of_getElem? hd) i hi))
end
end Go.Proofs.Ytnddejdndipddac
