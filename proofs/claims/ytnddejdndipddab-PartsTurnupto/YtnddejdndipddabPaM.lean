/- PartsTurn: its rows of pieces. -/
import Derived.Test.YtnddejdndipddabPaL
import Derived.Deep.MidRow
set_option maxRecDepth 20000
namespace Go.Proofs.Ytnddejdndipddab
open Go.RowKit

theorem Try.infoPc : (Try.prog.info? 47).map (fun i => (i.zero, i.size, i.bytes)) = some (some (.agg #[.int .i64 0, .int .i64 0, .int .i64 0, .int .i64 0, .int .i64 0, .int .i64 0, .bool false, .bool false, .slice none 0 0, .slice none 0 0, .int .i64 0, .slice none 0 0]), 12, 136) := by kernel_rfl
theorem Try.sizePc : (Try.prog.info? 47).map (·.size) = some 12 := by kernel_rfl
theorem rowPc : ∃ d, Try.prog.underlying 47 = some d ∧ d.isRow = true := ⟨_, Try.underlying47, rfl⟩

theorem run_rep_l (a : Option Addr) (n cap lo : Nat) (h : lo ≤ n) (wx : World) : (Instr.slice 35 (.slice a n cap) (some (.int .i64 lo)) none none).run Try.prog wx = .ok (.slice (reK 12 a cap lo) (n - lo) (cap - lo)) wx := by
  go_simp
  simp [reK]
theorem run_rep_h (a : Option Addr) (n cap hi : Nat) (h : hi ≤ cap) (wx : World) : (Instr.slice 35 (.slice a n cap) none (some (.int .i64 hi)) none).run Try.prog wx = .ok (.slice a hi cap) wx := by
  have h1 : (0 : Int) ≤ hi := by omega
  have h2 : (hi : Int) ≤ cap := by omega
  rw [run_slice_h wx 35 a n cap Try.underlying35 .i64 (hi : Int) h1 h2]
  go_simp
theorem run_rep_at (O n c i : Nat) (h : i < n) (wx : World) : (Instr.indexAt 35 (.slice (some ⟨O, 0, none⟩) n c) (.int .i64 (i : Int))).run Try.prog wx = .ok (.pointer (some ⟨O, i * 12, none⟩)) wx := by
  have : (i : Int) < n := by omega
  go_simp

theorem Rw.of_cells {w : World} {O m c k : Nat} {xs : List Value} (h : Cells O w xs) (hO : O < w.heap.size) (hx : xs.length = m * k) (hc : m ≤ c) (h2 : c ≤ 9223372036854775807) : Rw k w.heap.size w (.slice (some ⟨O, 0, none⟩) m c) m xs :=
  ⟨hx, some ⟨O, 0, none⟩, c, rfl, hc, h2, fun h => by simp at h, fun _ => ⟨O, 0, rfl, hO, fun j u hu => by rw [Nat.zero_add]; exact h.cell j u hu⟩⟩
theorem own_cellsK {w : World} {base k : Nat} {e : TypeId} {a : Option Addr} {n c : Nat} {xs : List Value} (h : w.ownsRow base e k (.slice a n c) n xs) (hn : 0 < n) : ∃ g, a = some ⟨g, 0, none⟩ ∧ base ≤ g ∧ g < w.heap.size ∧ Cells g w xs ∧ n ≤ c ∧ c ≤ 9223372036854775807 := by
  have h' := h
  rcases h.2 with ⟨_, h0⟩ | ⟨g, cap, cur, e1, h3, h4, h5, h6, _⟩
  · omega
  · simp only [Value.slice.injEq] at e1
    obtain ⟨rfl, -, rfl⟩ := e1
    have hx := h.1
    refine ⟨g, rfl, h3, (Array.getElem?_eq_some_iff.1 h4).1, ⟨fun j u hu => ?_, fun j => by simp [World.frozen?, h4]⟩, h5, by unfold maxLen at h6; omega⟩
    have hj : j < xs.length := (List.getElem?_eq_some_iff.1 hu).1
    exact (h'.cellAt j (by omega)).trans hu

theorem PcV.one {B : Nat} {w : World} {v : Value} {p : Pc} (h : PcV B w v p) : ∀ u ∈ v.cells.toList, u.oneCell' = true := by
  obtain ⟨d, s, k, rfl, h1, h2, h3⟩ := h
  obtain ⟨a1, c1, rfl, -⟩ := h1.ex
  obtain ⟨a2, c2, rfl⟩ := h2.ex
  obtain ⟨a3, c3, rfl, -⟩ := h3.ex
  exact List.all_eq_true.1 rfl
theorem All2.one {B : Nat} {w : World} : ∀ {vs : List Value} {l : List Pc}, All2 (PcV B w) vs l → ∀ u ∈ flatV vs, u.oneCell' = true
  | [], [], _, u, hu => by simp [flatV] at hu
  | v :: vs, _ :: _, h, u, hu => by
    rw [flatV_cons] at hu
    rcases List.mem_append.1 hu with hu | hu
    · exact h.1.one u hu
    · exact All2.one h.2 u hu
  | [], _ :: _, h, _, _ => h.elim
  | _ :: _, [], h, _, _ => h.elim

/-- One more of a message's pieces. -/
def pieceAt (ls : List (List Int)) (k : Nat) : Pc := ⟨(k : Int), ⟨0, 0, 0, 0, (k : Int), decide (k + 1 = ls.length), false, ls.getD k [], [], 0, []⟩⟩
theorem pieces_succ (ls : List (List Int)) (k : Nat) : piecesM ls (k + 1) = piecesM ls k ++ [pieceAt ls k] := by simp [piecesM, List.range_succ, pieceAt]
abbrev pieceA (k : Int) (last : Bool) (d : Value) : Array Value := #[.int .i64 k, .int .i64 0, .int .i64 0, .int .i64 0, .int .i64 0, .int .i64 k, .bool last, .bool false, d, .slice none 0 0, .int .i64 0, .slice none 0 0]

/-- The pieces so far: their data lie below block B, as they were in world wS. -/
structure P1 (wS : World) (ls : List (List Int)) (k : Nat) (a : Option Addr) (c : Nat) (wr : World) : Prop where
  bel : Below wS.heap.size wS wr
  row : ∃ vs, All2 (PcV wS.heap.size wS) vs (piecesM ls k) ∧ wr.ownsRow wS.heap.size 47 12 (.slice a k c) k (flatV vs)
theorem P1.start (wS : World) (ls : List (List Int)) : P1 wS ls 0 none 0 wS := ⟨Below.refl _ _, [], trivial, ⟨by simp [flatV], .inl ⟨rfl, rfl⟩⟩⟩
theorem P1.step {wS : World} {ls : List (List Int)} {k : Nat} {a : Option Addr} {c : Nat} {wr : World} (f : P1 wS ls k a c wr) {d : Value} {x : List Int} (hx : ls[k]? = some x) (hd : By wS.heap.size wS d x) {last : Bool} (hlast : last = decide (k + 1 = ls.length)) :
    ∃ xs, (wr.alloc (.cells (pieceA k last d) 47)).ownsRow wS.heap.size 47 12 (.slice a k c) k xs ∧ wS.heap.size ≤ (wr.alloc (.cells (pieceA k last d) 47)).heap.size ∧ Rw 12 (wr.alloc (.cells (pieceA k last d) 47)).heap.size (wr.alloc (.cells (pieceA k last d) 47)) (.slice (some ⟨wr.heap.size, 0, none⟩) 1 1) 1 (pieceA k last d).toList ∧ (∀ u ∈ (pieceA k last d).toList, u.oneCell' = true) ∧
      ∀ v' w', w'.ownsRow wS.heap.size 47 12 v' (k + 1) (xs ++ (pieceA k last d).toList) → (wr.alloc (.cells (pieceA k last d) 47)).grownBy w' (Value.slice a k c).ownBlock → ∃ a' c', v' = .slice a' (k + 1) c' ∧ P1 wS ls (k + 1) a' c' w' := by
  obtain ⟨vs, h1, h2⟩ := f.row
  have hs := f.bel.size
  have hp : PcV wS.heap.size wS (.agg (pieceA k last d)) (pieceAt ls k) := by
    refine ⟨d, .slice none 0 0, .slice none 0 0, ?_, ?_, Sl.nil' _ _, Kl.nil _ _⟩
    · rw [hlast]; rfl
    · show By _ _ d (ls.getD k [])
      rw [List.getD_eq_getElem?_getD, hx]
      exact hd
  refine ⟨flatV vs, h2.alloc _, by simp; omega, Rw.of_cells (Cells.new wr (pieceA k last d) 47) (by simp) rfl (Nat.le_refl _) (by omega), hp.one, fun v' w' ho hg => ?_⟩
  obtain ⟨a', c', rfl⟩ := own_form ho
  refine ⟨a', c', rfl, (f.bel.alloc hs _).grown hg (by simp; omega) fun j hj => (h2.lt j hj).1, vs ++ [.agg (pieceA k last d)], ?_, ?_⟩
  · rw [pieces_succ]
    exact All2.append h1 ⟨hp, trivial⟩
  · rw [flatV_append]
    simpa [flatV, Value.cells] using ho

/-- The pieces, in some order, in block O. -/
structure TuSt (wS : World) (O n : Nat) (lP : List Pc) (wr : World) : Prop where
  bel : Below wS.heap.size wS wr
  lo : wS.heap.size ≤ O
  hi : O < wr.heap.size
  row : ∃ vs l, lP.Perm l ∧ l.length = n ∧ All2 (PcV wS.heap.size wS) vs l ∧ Cells O wr (flatV vs)
theorem TuSt.drewn {wS : World} {O n : Nat} {lP : List Pc} {wr : World} (f : TuSt wS O n lP wr) : TuSt wS O n lP wr.drew := by
  obtain ⟨vs, l, h1, h2, h3, h4⟩ := f.row
  exact ⟨f.bel.trans ⟨rfl, rfl, rfl, Nat.le_refl _, fun _ _ => rfl⟩, f.lo, f.hi, vs, l, h1, h2, h3, ⟨h4.cell, h4.fz⟩⟩
theorem TuSt.pcs {wS : World} {O n c : Nat} {lP : List Pc} {wr : World} (f : TuSt wS O n lP wr) (hc : n ≤ c) (h2 : c ≤ 9223372036854775807) : ∃ l, lP.Perm l ∧ l.length = n ∧ PcS wr.heap.size wr (.slice (some ⟨O, 0, none⟩) n c) l := by
  obtain ⟨vs, l, g1, g2, g3, g4⟩ := f.row
  have hA : All2 (PcV wr.heap.size wr) vs l := g3.imp fun _ _ h => PcV.bears.mono (PcV.bears.below h f.bel (Nat.le_refl _)) f.bel.size
  exact ⟨l, g1, g2, SlG.cells hA (All2.flat (PcV.bears.cells _ _) hA).1 g4 f.hi g2.symm hc h2⟩

/-- Two turned: all of them still. -/
theorem swap_perm' {α : Type} {l : List α} {i j : Nat} (hi : i < l.length) (hj : j < l.length) : l.Perm ((l.set i l[j]).set j l[i]) := by
  have h := Array.swap_perm (xs := l.toArray) (i := i) (j := j) (by simpa using hi) (by simpa using hj)
  have e : (l.toArray.swap i j (by simpa using hi) (by simpa using hj)).toList = (l.set i l[j]).set j l[i] := by simp [Array.swap]
  have h2 := Array.perm_iff_toList_perm.1 h
  rw [e] at h2
  exact h2.symm

theorem Below.setCells {B : Nat} {a : World} {b : Nat} (hb : B ≤ b) : ∀ (cs : List Value) (o : Nat) {w : World}, Below B a w → Below B a (w.setCells b o cs)
  | [], _, _, h => h
  | v :: r, o, _, h => Below.setCells hb r (o + 1) (h.setCell (p := ⟨b, o, none⟩) hb v)
theorem size_setCells (b : Nat) : ∀ (cs : List Value) (o : Nat) (w : World), (w.setCells b o cs).heap.size = w.heap.size
  | [], _, _ => rfl
  | v :: r, o, w => by rw [World.setCells, size_setCells b r]; simp

/-- A piece stored into a row. -/
theorem Cells.setRow {O : Nat} {w : World} {B : Nat} {wS : World} {vs : List Value} {l : List Pc} (hA : All2 (PcV B wS) vs l) (h : Cells O w (flatV vs)) {i : Nat} (hi : i < l.length) {v : Value} {p : Pc} (hv : PcV B wS v p) :
    Cells O (w.setCells O (i * 12) v.cells.toList) (flatV (vs.set i v)) := by
  have hl := hA.len
  have hf := All2.flat (PcV.bears.cells B wS) hA
  have hA' := All2.set i hv hA
  have hf' := All2.flat (PcV.bears.cells B wS) hA'
  have h12 := PcV.bears.cells B wS v p hv
  refine ⟨fun q u hu => ?_, fun q => by rw [World.frozen?_setCells]; exact h.fz q⟩
  have hq : q < l.length * 12 := by have := (List.getElem?_eq_some_iff.1 hu).1; rw [hf'.1] at this; simpa using this
  have hk : q / 12 < l.length := Nat.div_lt_of_lt_mul (by omega)
  have hr : q % 12 < 12 := Nat.mod_lt _ (by omega)
  have hqq : q / 12 * 12 + q % 12 = q := by omega
  by_cases e : q / 12 = i
  · have g1 := hf'.2.1 i v (q % 12) (by rw [List.getElem?_set_self (by omega)]) hr
    have e2 : i * 12 + q % 12 = q := by omega
    rw [e2, hu] at g1
    have := World.cell?_setCells_in O v.cells.toList (i * 12) w (fun j hj => by
      have g2 := hf.2.1 i vs[i] j (List.getElem?_eq_getElem (by omega)) (by omega)
      obtain ⟨v0, e0, r0⟩ := hA.get i hi
      have e3 : vs[i]'(by omega) = v0 := by rw [List.getElem?_eq_getElem (by omega)] at e0; simpa using e0
      have l0 := PcV.bears.cells B wS v0 _ r0
      rw [e3, List.getElem?_eq_getElem (l := v0.cells.toList) (by omega)] at g2
      rw [h.cell _ _ g2]; rfl) (q % 12) (by omega)
    rw [e2] at this
    rw [this]
    rw [List.getElem?_eq_getElem (by omega)] at g1
    exact g1.symm
  · rw [World.cell?_setCells_out O _ _ _ _ (fun _ _ => by show q < i * 12 ∨ i * 12 + v.cells.toList.length ≤ q; omega)]
    refine h.cell q u ?_
    have g1 := hf'.2.1 (q / 12) (vs[q / 12]'(by omega)) (q % 12) (by rw [List.getElem?_set_ne (fun h => e h.symm)]; exact List.getElem?_eq_getElem (by omega)) hr
    have g2 := hf.2.1 (q / 12) (vs[q / 12]'(by omega)) (q % 12) (List.getElem?_eq_getElem (by omega)) hr
    rw [hqq] at g1 g2
    rw [g2, ← g1]; exact hu

theorem wrap_id {x : Int} (h1 : -9223372036854775808 ≤ x) (h2 : x ≤ 9223372036854775807) : IntKind.i64.wrap x = x := by
  simp [IntKind.wrap, IntKind.signed, IntKind.bits]
  omega
/-- A load out of a row, and a store into it, as steps of a region. -/
theorem step_load_mid {ops : Array Oper} {o : Oper} {a : Act} {w : World} {K : Act → World → Prop} {Q : Exit → Act → World → Prop} {E : Prop} (hg : o.guard = none) (ty : TypeId) (x : Operand) (hop : o.op = .load ty x) (p : Value) (hx : a.eval x = p) (v : Value)
    (hr : (Instr.loadAt ty p).run Try.prog w = .ok v w) (hK : K (a.put o.dst v) w) : if Region.wanted o (yielded ops a.tmps) = true then Oper.wp Try.prog o a w K Q else E := by
  have hw : Region.wanted o (yielded ops a.tmps) = true := by simp [Region.wanted, hg]
  rw [if_pos hw]
  unfold Oper.wp
  simp only [execOp, hop, hx, hr, Sem.run_bind, Sem.run_pure, Result.andThen_ok]
  exact hK
theorem step_store_mid {ops : Array Oper} {o : Oper} {a : Act} {w w' : World} {K : Act → World → Prop} {Q : Exit → Act → World → Prop} {E : Prop} (hg : o.guard = none) (ty : TypeId) (x y : Operand) (hop : o.op = .store ty x y) (p v : Value) (hx : a.eval x = p) (hy : a.eval y = v)
    (hr : (Instr.storeAt ty p v).run Try.prog w = .ok () w') (hK : K (a.put o.dst undef) w') : if Region.wanted o (yielded ops a.tmps) = true then Oper.wp Try.prog o a w K Q else E := by
  have hw : Region.wanted o (yielded ops a.tmps) = true := by simp [Region.wanted, hg]
  rw [if_pos hw]
  unfold Oper.wp
  simp only [execOp, hop, hx, hy, hr, Sem.run_bind, Sem.run_pure, Result.andThen_ok]
  exact hK
end Go.Proofs.Ytnddejdndipddab
