/- A receiver in memory of the call's own: what each step leaves of it. -/
import Derived.Test.YtnddejdndipddadRcD
import Derived.Test.YtnddejdndipddadRcJ
set_option maxRecDepth 20000
namespace Go.Proofs.Ytnddejdndipddad
open Go.RowKit

theorem Sl.keepS {S : Nat → Prop} {w w' : World} {v : Value} {l : List Sp} (h : Sl w.heap.size w v l) (hi : InS S v) (kp : Keep S w w') : Sl w'.heap.size w' v l :=
  Sl.of_rw (h.rw'.keep hi kp kp.size) (by obtain ⟨_, _, _, _, _, _, h, _⟩ := h; exact h)
/-- Blocks that hold lists alone: none of those that are written to. -/
def OutE (R : Nat) (p t l : Value) (w : World) (k : Nat) : Prop := k < w.heap.size ∧ k ≠ R ∧ p.ownBlock ≠ some k ∧ t.ownBlock ≠ some k ∧ l.ownBlock ≠ some k
/-- .. and none of E's. -/
def OutR (E : Nat → Prop) (R : Nat) (p t l : Value) (w : World) (k : Nat) : Prop := OutE R p t l w k ∧ ¬ E k
structure RvM (E : Nat → Prop) (base : Nat) (w : World) (R : Nat) (x : Rc) (s p t l : Value) : Prop where
  cells : Cells R w [.int .i64 x.cf.streams, .int .i64 x.cf.part, .int .i64 x.cf.packet, .int .i64 x.cf.paths, .int .i64 x.cf.turns, .int .i64 x.cf.waiting, .int .i64 x.cf.first, .int .i64 x.cum, s, p, t, l]
  rb : base ≤ R
  rlt : R < w.heap.size
  sp : Sl w.heap.size w s x.spans
  si : InS (OutR E R p t l w) s
  pc : PcRow (OutR E R p t l w) base w p x.pieces
  tn : w.ownsRow base 3 1 t x.turn.length (cellsI x.turn)
  ti : IsI x.turn
  lg : AvRow (OutR E R p t l w) base w l x.log
  pR : p.ownBlock ≠ some R
  tR : t.ownBlock ≠ some R
  lR : l.ownBlock ≠ some R
  pt : ∀ k, p.ownBlock = some k → t.ownBlock ≠ some k
  pl : ∀ k, p.ownBlock = some k → l.ownBlock ≠ some k
  tl : ∀ k, t.ownBlock = some k → l.ownBlock ≠ some k
  eo : ∀ k, E k → OutE R p t l w k
def RvX (E : Nat → Prop) (base : Nat) (w : World) (R : Nat) (x : Rc) : Prop := ∃ s p t l, RvM E base w R x s p t l
theorem toKeep {B : Nat} {S : Nat → Prop} {w w' : World} (h : Below B w w') (hs : ∀ k, S k → k < B) : Keep S w w' := ⟨h.os, h.tape, h.output, h.size, fun i hi => h.block i (hs i hi)⟩
section
variable {E : Nat → Prop} {base : Nat} {w w1 : World} {R : Nat} {x : Rc} {s p t l : Value}
theorem RvM.form (h : RvM E base w R x s p t l) : ∃ sa sc pa pc ta tc la lc, s = .slice sa x.spans.length sc ∧ p = .slice pa x.pieces.length pc ∧ t = .slice ta x.turn.length tc ∧ l = .slice la x.log.length lc := by
  obtain ⟨sa, sc, e1⟩ := h.sp.ex
  obtain ⟨pa, pc, e2⟩ := h.pc.form
  obtain ⟨ta, tc, e3⟩ := own_form h.tn
  obtain ⟨la, lc, e4⟩ := h.lg.form
  exact ⟨sa, sc, pa, pc, ta, tc, la, lc, e1, e2, e3, e4⟩
/-- As it is read. -/
theorem RvM.rvs (h : RvM E base w R x s p t l) : RvS w.heap.size w x s p t l := ⟨h.sp, h.pc.s, In.own h.tn rfl h.ti, h.lg.s⟩
theorem OutE.mono {p' t' l' : Value} {k : Nat} (h : OutE R p t l w k) (hs : w.heap.size ≤ w1.heap.size) (hp : p'.ownBlock = p.ownBlock ∨ ∃ j, p'.ownBlock = some j ∧ w.heap.size ≤ j) (ht : t'.ownBlock = t.ownBlock ∨ ∃ j, t'.ownBlock = some j ∧ w.heap.size ≤ j) (hl : l'.ownBlock = l.ownBlock ∨ ∃ j, l'.ownBlock = some j ∧ w.heap.size ≤ j) : OutE R p' t' l' w1 k := by
  obtain ⟨h1, h2, h3, h4, h5⟩ := h
  have go : ∀ {a b : Value}, (a.ownBlock = b.ownBlock ∨ ∃ j, a.ownBlock = some j ∧ w.heap.size ≤ j) → b.ownBlock ≠ some k → a.ownBlock ≠ some k := by
    rintro a b (e | ⟨j, e, hj⟩) hb
    · rw [e]; exact hb
    · rw [e]; intro e'; simp at e'; omega
  exact ⟨by omega, h2, go hp h3, go ht h4, go hl h5⟩
theorem OutR.mono {p' t' l' : Value} {k : Nat} (h : OutR E R p t l w k) (hs : w.heap.size ≤ w1.heap.size) (hp : p'.ownBlock = p.ownBlock ∨ ∃ j, p'.ownBlock = some j ∧ w.heap.size ≤ j) (ht : t'.ownBlock = t.ownBlock ∨ ∃ j, t'.ownBlock = some j ∧ w.heap.size ≤ j) (hl : l'.ownBlock = l.ownBlock ∨ ∃ j, l'.ownBlock = some j ∧ w.heap.size ≤ j) : OutR E R p' t' l' w1 k := ⟨h.1.mono hs hp ht hl, h.2⟩
/-- New blocks alone. -/
theorem RvM.below (h : RvM E base w R x s p t l) (hb : Below w.heap.size w w1) : RvM E base w1 R x s p t l := by
  have kp : Keep (OutR E R p t l w) w w1 := ⟨hb.os, hb.tape, hb.output, hb.size, fun i hi => hb.block i hi.1.1⟩
  have mo : ∀ k, OutR E R p t l w k → OutR E R p t l w1 k := fun k hk => hk.mono hb.size (.inl rfl) (.inl rfl) (.inl rfl)
  exact ⟨h.cells.below hb h.rlt, h.rb, Nat.lt_of_lt_of_le h.rlt hb.size, h.sp.size hb (Nat.le_refl _), h.si.mono mo, GRow.mono PcI.holds (GRow.keep PcI.holds h.pc kp fun k hk => hb.block k (h.pc.lt hk).2) mo, own_of_block h.tn fun k hk => hb.block k (h.tn.lt k hk).2, h.ti, GRow.mono AvI.holds (GRow.keep AvI.holds h.lg kp fun k hk => hb.block k (h.lg.lt hk).2) mo, h.pR, h.tR, h.lR, h.pt, h.pl, h.tl, fun k hk => (h.eo k hk).mono hb.size (.inl rfl) (.inl rfl) (.inl rfl)⟩
/-- Its pieces are others, in the same row or a new one. -/
theorem RvM.pieces (h : RvM E base w R x s p t l) {p' : Value} {L : List Pc} (k1 : Keep (fun k => k < w.heap.size ∧ p.ownBlock ≠ some k) w w1) (row : PcRow (OutR E R p t l w) base w1 p' L) (ho : p'.ownBlock = p.ownBlock ∨ ∃ j, p'.ownBlock = some j ∧ w.heap.size ≤ j) : RvM E base (w1.setCell ⟨R, 9, none⟩ p') R { x with pieces := L } s p' t l := by
  have sz := k1.size
  have kR : Keep (fun k => k ≠ R) w1 (w1.setCell ⟨R, 9, none⟩ p') := Keep.setCell (Keep.refl _ _) (p := ⟨R, 9, none⟩) (fun h => h rfl) _
  have kO : Keep (OutR E R p t l w) w (w1.setCell ⟨R, 9, none⟩ p') := (k1.mono fun k hk => ⟨hk.1.1, hk.1.2.2.1⟩).trans (kR.mono fun k hk => hk.1.2.1)
  have kO1 : Keep (OutR E R p t l w) w1 (w1.setCell ⟨R, 9, none⟩ p') := kR.mono fun k hk => hk.1.2.1
  have mo : ∀ k, OutR E R p t l w k → OutR E R p' t l (w1.setCell ⟨R, 9, none⟩ p') k := fun k hk => hk.mono (by simpa using sz) ho (.inl rfl) (.inl rfl)
  have blk : ∀ k, k < w.heap.size → k ≠ R → p.ownBlock ≠ some k → (w1.setCell ⟨R, 9, none⟩ p').heap[k]? = w.heap[k]? := fun k h1 h2 h3 => (kR.block k h2).trans (k1.block k ⟨h1, h3⟩)
  have hpR : p'.ownBlock ≠ some R := by
    rcases ho with e | ⟨j, e, hj⟩
    · rw [e]; exact h.pR
    · rw [e]; have := h.rlt; intro e'; simp at e'; omega
  have nw : ∀ k, p'.ownBlock = some k → p.ownBlock = some k ∨ w.heap.size ≤ k := fun k hk => by
    rcases ho with e | ⟨j, e, hj⟩
    · exact .inl (e ▸ hk)
    · rw [e] at hk; simp at hk; omega
  refine ⟨(h.cells.keep k1 ⟨h.rlt, h.pR⟩).set 9 p' (by simp), h.rb, by have := h.rlt; simp; omega, h.sp.keepS h.si kO, h.si.mono mo, GRow.mono PcI.holds (GRow.keep PcI.holds row kO1 fun k hk => kR.block k (fun e => hpR (e ▸ hk))) mo, own_of_block h.tn fun k hk => blk k (h.tn.lt k hk).2 (fun e => h.tR (e ▸ hk)) (fun e => h.pt k e hk), h.ti, GRow.mono AvI.holds (GRow.keep AvI.holds h.lg kO fun k hk => blk k (h.lg.lt hk).2 (fun e => h.lR (e ▸ hk)) (fun e => h.pl k e hk)) mo, hpR, h.tR, h.lR, fun k hk e => ?_, fun k hk e => ?_, h.tl, fun k hk => (h.eo k hk).mono (by simpa using sz) ho (.inl rfl) (.inl rfl)⟩
  · rcases nw k hk with h' | h'
    · exact h.pt k h' e
    · have := (h.tn.lt k e).2; omega
  · rcases nw k hk with h' | h'
    · exact h.pl k h' e
    · have := (h.lg.lt e).2; omega
/-- Its log is another one, in the same row or a new one. -/
theorem RvM.logged (h : RvM E base w R x s p t l) {l' : Value} {L : List Av} (k1 : Keep (fun k => k < w.heap.size ∧ l.ownBlock ≠ some k) w w1) (row : AvRow (OutR E R p t l w) base w1 l' L) (ho : l'.ownBlock = l.ownBlock ∨ ∃ j, l'.ownBlock = some j ∧ w.heap.size ≤ j) : RvM E base (w1.setCell ⟨R, 11, none⟩ l') R { x with log := L } s p t l' := by
  have sz := k1.size
  have kR : Keep (fun k => k ≠ R) w1 (w1.setCell ⟨R, 11, none⟩ l') := Keep.setCell (Keep.refl _ _) (p := ⟨R, 11, none⟩) (fun h => h rfl) _
  have kO : Keep (OutR E R p t l w) w (w1.setCell ⟨R, 11, none⟩ l') := (k1.mono fun k hk => ⟨hk.1.1, hk.1.2.2.2.2⟩).trans (kR.mono fun k hk => hk.1.2.1)
  have kO1 : Keep (OutR E R p t l w) w1 (w1.setCell ⟨R, 11, none⟩ l') := kR.mono fun k hk => hk.1.2.1
  have mo : ∀ k, OutR E R p t l w k → OutR E R p t l' (w1.setCell ⟨R, 11, none⟩ l') k := fun k hk => hk.mono (by simpa using sz) (.inl rfl) (.inl rfl) ho
  have blk : ∀ k, k < w.heap.size → k ≠ R → l.ownBlock ≠ some k → (w1.setCell ⟨R, 11, none⟩ l').heap[k]? = w.heap[k]? := fun k h1 h2 h3 => (kR.block k h2).trans (k1.block k ⟨h1, h3⟩)
  have hlR : l'.ownBlock ≠ some R := by
    rcases ho with e | ⟨j, e, hj⟩
    · rw [e]; exact h.lR
    · rw [e]; have := h.rlt; intro e'; simp at e'; omega
  have nw : ∀ k, l'.ownBlock = some k → l.ownBlock = some k ∨ w.heap.size ≤ k := fun k hk => by
    rcases ho with e | ⟨j, e, hj⟩
    · exact .inl (e ▸ hk)
    · rw [e] at hk; simp at hk; omega
  refine ⟨(h.cells.keep k1 ⟨h.rlt, h.lR⟩).set 11 l' (by simp), h.rb, by have := h.rlt; simp; omega, h.sp.keepS h.si kO, h.si.mono mo, GRow.mono PcI.holds (GRow.keep PcI.holds h.pc kO fun k hk => blk k (h.pc.lt hk).2 (fun e => h.pR (e ▸ hk)) (h.pl k hk)) mo, own_of_block h.tn fun k hk => blk k (h.tn.lt k hk).2 (fun e => h.tR (e ▸ hk)) (h.tl k hk), h.ti, GRow.mono AvI.holds (GRow.keep AvI.holds row kO1 fun k hk => kR.block k (fun e => hlR (e ▸ hk))) mo, h.pR, h.tR, hlR, h.pt, fun k hk e => ?_, fun k hk e => ?_, fun k hk => (h.eo k hk).mono (by simpa using sz) (.inl rfl) (.inl rfl) ho⟩
  · rcases nw k e with h' | h'
    · exact h.pl k hk h'
    · have := (h.pc.lt hk).2; omega
  · rcases nw k e with h' | h'
    · exact h.tl k hk h'
    · have := (h.tn.lt k hk).2; omega
/-- A stream's turn is set. -/
theorem RvM.turned {g n c : Nat} (h : RvM E base w R x s p (.slice (some ⟨g, 0, none⟩) n c) l) (i : Nat) (z : Int) (hz : I64 z) : RvM E base (w.setCell ⟨g, i, none⟩ (.int .i64 z)) R { x with turn := x.turn.set i z } s p (.slice (some ⟨g, 0, none⟩) n c) l := by
  have hn : n = x.turn.length := by obtain ⟨a, c', e⟩ := own_form h.tn; simp at e; exact e.2.1
  subst hn
  have hgR : g ≠ R := fun e => h.tR (by simp [Value.ownBlock, e])
  have kg : Keep (fun k => k ≠ g) w (w.setCell ⟨g, i, none⟩ (.int .i64 z)) := Keep.setCell (Keep.refl _ _) (p := ⟨g, i, none⟩) (fun h => h rfl) _
  have kO : Keep (OutR E R p (.slice (some ⟨g, 0, none⟩) x.turn.length c) l w) w (w.setCell ⟨g, i, none⟩ (.int .i64 z)) := kg.mono fun k hk e => hk.1.2.2.2.1 (by simp [Value.ownBlock, e])
  have mo : ∀ k, OutR E R p (.slice (some ⟨g, 0, none⟩) x.turn.length c) l w k → OutR E R p (.slice (some ⟨g, 0, none⟩) x.turn.length c) l (w.setCell ⟨g, i, none⟩ (.int .i64 z)) k := fun k hk => hk.mono (by simp) (.inl rfl) (.inl rfl) (.inl rfl)
  refine ⟨h.cells.keep kg (fun e => hgR e.symm), h.rb, by have := h.rlt; simpa using this, h.sp.keepS h.si kO, h.si.mono mo, GRow.mono PcI.holds (GRow.keep PcI.holds h.pc kO fun k hk => kg.block k (fun e => h.pt k hk (by simp [Value.ownBlock, e]))) mo, ?_, h.ti.set i hz, GRow.mono AvI.holds (GRow.keep AvI.holds h.lg kO fun k hk => kg.block k (fun e => h.tl g rfl (e ▸ hk))) mo, h.pR, h.tR, h.lR, h.pt, h.pl, h.tl, fun k hk => (h.eo k hk).mono (by simp) (.inl rfl) (.inl rfl) (.inl rfl)⟩
  have := (h.tn.stored i (.int .i64 z)).1
  rw [← cellsI_set] at this
  simpa using this
/-- Its number and its spans are others. -/
theorem RvM.went (h : RvM E base w R x s p t l) (hb : Below w.heap.size w w1) {cum : Int} {s' : Value} {sp : List Sp} (hs : Sl w1.heap.size w1 s' sp) (hi : InS (fun k => w.heap.size ≤ k) s') : RvM E base ((w1.setCell ⟨R, 7, none⟩ (.int .i64 cum)).setCell ⟨R, 8, none⟩ s') R { x with cum := cum, spans := sp } s' p t l := by
  have h1 := h.below hb
  have sz := hb.size
  have kR : Keep (fun k => k ≠ R) w1 ((w1.setCell ⟨R, 7, none⟩ (.int .i64 cum)).setCell ⟨R, 8, none⟩ s') := Keep.setCell (Keep.setCell (Keep.refl _ _) (p := ⟨R, 7, none⟩) (fun h => h rfl) _) (p := ⟨R, 8, none⟩) (fun h => h rfl) _
  have kO : Keep (OutR E R p t l w1) w1 ((w1.setCell ⟨R, 7, none⟩ (.int .i64 cum)).setCell ⟨R, 8, none⟩ s') := kR.mono fun k hk => hk.1.2.1
  have mo : ∀ k, OutR E R p t l w1 k → OutR E R p t l ((w1.setCell ⟨R, 7, none⟩ (.int .i64 cum)).setCell ⟨R, 8, none⟩ s') k := fun k hk => hk.mono (by simp) (.inl rfl) (.inl rfl) (.inl rfl)
  have hi1 : InS (OutR E R p t l w1) s' := fun b off sp' n c e hn => by
    have hw := hi b off sp' n c e hn
    have hlt := hs.rw'.ins b off sp' n c e hn
    exact ⟨⟨hlt, fun e' => by have := h.rlt; omega, fun e' => by have := (h.pc.lt e').2; omega, fun e' => by have := (h.tn.lt _ e').2; omega, fun e' => by have := (h.lg.lt e').2; omega⟩, fun e' => by have := (h.eo b e').1; omega⟩
  exact ⟨(h1.cells.set 7 (.int .i64 cum) (by simp)).set 8 s' (by simp), h.rb, by have := h1.rlt; simpa using this, hs.keepS hi1 kO, hi1.mono mo, GRow.mono PcI.holds (GRow.keep PcI.holds h1.pc kO fun k hk => kR.block k (fun e => h.pR (e ▸ hk))) mo, own_of_block h1.tn fun k hk => kR.block k (fun e => h.tR (e ▸ hk)), h.ti, GRow.mono AvI.holds (GRow.keep AvI.holds h1.lg kO fun k hk => kR.block k (fun e => h.lR (e ▸ hk))) mo, h.pR, h.tR, h.lR, h.pt, h.pl, h.tl, fun k hk => (h1.eo k hk).mono (by simp) (.inl rfl) (.inl rfl) (.inl rfl)⟩
/-- A new block more that is to hold no list. -/
theorem RvM.more (h : RvM E base w R x s p t l) {b : Nat} (hb : Below w.heap.size w w1) (h1 : w.heap.size ≤ b) (h2 : b < w1.heap.size) : RvM (fun k => E k ∨ k = b) base w1 R x s p t l := by
  have h' := h.below hb
  have kp : Keep (OutR E R p t l w) w w1 := ⟨hb.os, hb.tape, hb.output, hb.size, fun i hi => hb.block i hi.1.1⟩
  have mo : ∀ k, OutR E R p t l w k → OutR (fun k => E k ∨ k = b) R p t l w1 k := fun k hk => ⟨hk.1.mono hb.size (.inl rfl) (.inl rfl) (.inl rfl), fun e => e.elim hk.2 fun e => by have := hk.1.1; omega⟩
  refine ⟨h'.cells, h'.rb, h'.rlt, h'.sp, h.si.mono mo, GRow.mono PcI.holds (GRow.keep PcI.holds h.pc kp fun k hk => hb.block k (h.pc.lt hk).2) mo, h'.tn, h'.ti, GRow.mono AvI.holds (GRow.keep AvI.holds h.lg kp fun k hk => hb.block k (h.lg.lt hk).2) mo, h.pR, h.tR, h.lR, h.pt, h.pl, h.tl, fun k hk => ?_⟩
  rcases hk with hk | rfl
  · exact h'.eo k hk
  · exact ⟨h2, fun e => by have := h.rlt; omega, fun e => by have := (h.pc.lt e).2; omega, fun e => by have := (h.tn.lt _ e).2; omega, fun e => by have := (h.lg.lt e).2; omega⟩
theorem RvM.less {E' : Nat → Prop} (h : RvM E base w R x s p t l) (he : ∀ k, E' k → E k) : RvM E' base w R x s p t l := by
  have mo : ∀ k, OutR E R p t l w k → OutR E' R p t l w k := fun k hk => ⟨hk.1, fun e => hk.2 (he k e)⟩
  exact ⟨h.cells, h.rb, h.rlt, h.sp, h.si.mono mo, GRow.mono PcI.holds h.pc mo, h.tn, h.ti, GRow.mono AvI.holds h.lg mo, h.pR, h.tR, h.lR, h.pt, h.pl, h.tl, fun k hk => h.eo k (he k hk)⟩
/-- As it is read, where blocks of E, its box and new ones alone have turned. -/
theorem RvM.rvsE (h : RvM E base w R x s p t l) (kp : Keep (fun k => k < w.heap.size ∧ ¬ E k ∧ k ≠ R) w w1) : RvS w1.heap.size w1 x s p t l := by
  have kO : Keep (OutR E R p t l w) w w1 := kp.mono fun k hk => ⟨hk.1.1, hk.2, hk.1.2.1⟩
  have bl : ∀ {v : Value} {k : Nat}, v.ownBlock = some k → k < w.heap.size → (E k → v.ownBlock ≠ some k) → v.ownBlock ≠ some R → w1.heap[k]? = w.heap[k]? := fun hk hl he hr => kp.block _ ⟨hl, fun e => he e hk, fun e => hr (e ▸ hk)⟩
  refine ⟨h.sp.keepS h.si kO, PcRow.s (GRow.keep PcI.holds h.pc kO fun k hk => bl hk (h.pc.lt hk).2 (fun e => (h.eo k e).2.2.1) h.pR), In.own (own_of_block h.tn fun k hk => bl hk (h.tn.lt k hk).2 (fun e => (h.eo k e).2.2.2.1) h.tR) rfl h.ti, AvRow.s (GRow.keep AvI.holds h.lg kO fun k hk => bl hk (h.lg.lt hk).2 (fun e => (h.eo k e).2.2.2.2) h.lR)⟩
end

/-- One more thing of a row of the call's own. -/
theorem GRow.grown {α : Type} {e : TypeId} {c : Nat} {RR : (Nat → Prop) → World → Value → α → Prop} (hR : Holds c RR) {S : Nat → Prop} {base : Nat} {w w' : World} {o : Obj} {v v' : Value} {vs : List Value} {l : List α} {u : Value} {x : α} (hA : All2 (RR S w) vs l) (hu : RR S w u x) (hS : ∀ k, S k → k < w.heap.size ∧ v.ownBlock ≠ some k)
    (own : w'.ownsRow base e c v' (l.length + 1) (flatV vs ++ u.cells.toList)) (g : (w.alloc o).grownBy w' v.ownBlock) (ha : v'.ownBlock = v.ownBlock ∨ v'.ownBlock = some (w.alloc o).heap.size) :
    GRow e c RR S base w' v' (l ++ [x]) ∧ Keep (fun k => k < w.heap.size ∧ v.ownBlock ≠ some k) w w' ∧ (v'.ownBlock = v.ownBlock ∨ ∃ j, v'.ownBlock = some j ∧ w.heap.size ≤ j) := by
  have hk : Keep (fun k => k < w.heap.size ∧ v.ownBlock ≠ some k) w w' := ((Keep.refl _ w).alloc (fun k h => h.1) o).grown g (fun k h => by have := h.1; simp; omega) (fun k hk h => h.2 hk)
  exact ⟨GRow.app hR hA hu (hk.mono hS) own, hk, ha.imp id fun e => ⟨_, e, by simp⟩⟩
theorem Try.infoPc : (Try.prog.info? 71).map (fun i => (i.zero, i.size, i.bytes)) = some (some (.agg #[.int .i64 0, .int .i64 0, .int .i64 0, .int .i64 0, .int .i64 0, .int .i64 0, .bool false, .bool false, .slice none 0 0, .slice none 0 0, .int .i64 0, .slice none 0 0]), 12, 136) := by kernel_rfl
theorem Try.infoAv : (Try.prog.info? 59).map (fun i => (i.zero, i.size, i.bytes)) = some (some (.agg #[.int .i64 0, .int .i64 0, .bool false, .slice none 0 0]), 4, 48) := by kernel_rfl
theorem Rw.oneN (w : World) (us : List Value) (e : TypeId) (c : Nat) (hc : us.length = c) : Rw c (w.heap.size + 1) (w.alloc (.cells us.toArray e)) (.slice (some ⟨w.heap.size, 0, none⟩) 1 1) 1 us :=
  ⟨by rw [hc, Nat.one_mul], _, _, rfl, Nat.le_refl _, by decide, fun h => by simp at h, fun _ => ⟨w.heap.size, 0, rfl, Nat.lt_succ_self _, fun j u hu => by rw [Nat.zero_add]; exact (Cells.new w us.toArray e).cell j u hu⟩⟩
/-- A piece is appended to a row of the call's own. -/
theorem wpList_appP {ops : Array Oper} {rest : List Oper} {o : Oper} {a : Act} {Q : Exit → Act → World → Prop} (hgd : o.guard = none) (y z : Operand)
    (ho : o.op = .call { callee := .builtin .append, args := #[y, z], argTypes := #[44, 44] })
    (w : World) (S : Nat → Prop) (base : Nat) (v : Value) (l : List Pc) (x : Pc) (d s k : Value) (P : Nat) (hP : P = w.heap.size) (hs : a.eval y = v) (hy : a.eval z = .slice (some ⟨P, 0, none⟩) 1 1)
    (hG : PcRow S base w v l) (hx : SnL S w x.ck d s k) (hS : ∀ k, S k → k < w.heap.size ∧ v.ownBlock ≠ some k) (hbase : base ≤ w.heap.size) (hlen : (l.length + 1) * 136 ≤ 140737488355328)
    (h : ∀ v' w', PcRow S base w' v' (l ++ [x]) → Keep (fun k => k < w.heap.size ∧ v.ownBlock ≠ some k) w w' → (v'.ownBlock = v.ownBlock ∨ ∃ j, v'.ownBlock = some j ∧ w.heap.size ≤ j) → wpList Try.prog ops Q rest (a.put o.dst v') w') :
    wpList Try.prog ops Q (o :: rest) a (w.alloc (.cells #[.int .i64 x.number, .int .i64 x.ck.kind, .int .i64 x.ck.tag, .int .i64 x.ck.stream, .int .i64 x.ck.mid, .int .i64 x.ck.part, .bool x.ck.last, .bool x.ck.ordered, d, s, .int .i64 x.ck.room, k] 71)) := by
  subst hP
  obtain ⟨vs, hA, hO⟩ := hG
  have hO' : (w.alloc (.cells #[.int .i64 x.number, .int .i64 x.ck.kind, .int .i64 x.ck.tag, .int .i64 x.ck.stream, .int .i64 x.ck.mid, .int .i64 x.ck.part, .bool x.ck.last, .bool x.ck.ordered, d, s, .int .i64 x.ck.room, k] 71)).ownsRow base 71 12 v l.length (flatV vs) := own_of_block hO fun k hk => (box_below w _).block k (hO.lt k hk).2
  have hu : PcI S w (pcVal x d s k) x := ⟨d, s, k, rfl, hx⟩
  refine wpList_append_rw Try.underlying44 Try.infoPc rfl (by decide) _ hgd y z ho base v l.length (flatV vs) hs hO' (w.heap.size + 1) 1 (pcVal x d s k).cells.toList _ hy (Rw.oneN w [.int .i64 x.number, .int .i64 x.ck.kind, .int .i64 x.ck.tag, .int .i64 x.ck.stream, .int .i64 x.ck.mid, .int .i64 x.ck.part, .bool x.ck.last, .bool x.ck.ordered, d, s, .int .i64 x.ck.room, k] 71 12 rfl) (PcI.holds.one hu) (by unfold maxLen; omega) hlen (by simp; omega) ?_
  intro v' w' own g ha
  obtain ⟨g1, g2, g3⟩ := GRow.grown PcI.holds hA hu hS own g ha
  exact h v' w' g1 g2 g3
end Go.Proofs.Ytnddejdndipddad
