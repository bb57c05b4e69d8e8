/- Receivers as they are read, whose lists lie in blocks of V. -/
import Derived.Test.YtnddejdndipddadRcL
set_option maxRecDepth 20000
namespace Go.Proofs.Ytnddejdndipddad
open Go.RowKit

/-- A receiver as it is read; its lists lie in blocks of V. -/
structure RvI (V : Nat → Prop) (w : World) (x : Rc) (s p t l : Value) : Prop where
  r : RvS w.heap.size w x s p t l
  si : InS V s
  pi : InS V p
  ti : InS V t
  li : InS V l
  p : ∃ vs, All2 (PcI V w) vs x.pieces ∧ Rw 12 w.heap.size w p x.pieces.length (flatV vs)
  l : ∃ vs, All2 (AvI V w) vs x.log ∧ Rw 4 w.heap.size w l x.log.length (flatV vs)
theorem RvI.mono {V V' : Nat → Prop} {w : World} {x : Rc} {s p t l : Value} (h : RvI V w x s p t l) (hv : ∀ k, V k → V' k) : RvI V' w x s p t l := by
  obtain ⟨vs, a1, a2⟩ := h.p
  obtain ⟨us, b1, b2⟩ := h.l
  exact ⟨h.r, h.si.mono hv, h.pi.mono hv, h.ti.mono hv, h.li.mono hv, ⟨vs, a1.imp fun _ _ h => PcI.holds.mono h hv, a2⟩, ⟨us, b1.imp fun _ _ h => AvI.holds.mono h hv, b2⟩⟩
theorem RvI.keep {V : Nat → Prop} {w w' : World} {x : Rc} {s p t l : Value} (h : RvI V w x s p t l) (kp : Keep V w w') : RvI V w' x s p t l := by
  obtain ⟨vs, a1, a2⟩ := h.p
  obtain ⟨us, b1, b2⟩ := h.l
  have ap : All2 (PcI V w') vs x.pieces := a1.imp fun _ _ h => PcI.holds.keep h kp
  have bp : All2 (AvI V w') us x.log := b1.imp fun _ _ h => AvI.holds.keep h kp
  have ar := Rw.keep a2 h.pi kp kp.size
  have br := Rw.keep b2 h.li kp kp.size
  exact ⟨⟨h.r.s.keepS h.si kp, ⟨vs, ap.imp fun _ _ h => h.v, ar⟩, h.r.t.keep h.ti kp kp.size, ⟨us, bp.imp fun _ _ ⟨d, e, h, _⟩ => ⟨d, e, h⟩, br⟩⟩, h.si, h.pi, h.ti, h.li, ⟨vs, ap, ar⟩, ⟨us, bp, br⟩⟩
theorem RvI.of {B : Nat} {w : World} {x : Rc} {s p t l : Value} (h : RvS B w x s p t l) (hB : B ≤ w.heap.size) : RvI (fun k => k < B) w x s p t l := by
  obtain ⟨vs, a1, a2⟩ := h.p
  obtain ⟨us, b1, b2⟩ := h.l
  refine ⟨h.mono hB, ?_, a2.ins, h.t.1.ins, b2.ins, ⟨vs, a1.imp fun _ _ h => h.i hB, a2.mono hB⟩, ⟨us, b1.imp fun _ _ h => h.i hB, b2.mono hB⟩⟩
  exact h.s.rw'.ins
theorem InS.blk {V : Nat → Prop} {v : Value} (h : ∀ k, v.ownBlock = some k → V k) : InS V v := fun b off sp n c e _ => h b (by rw [e]; rfl)
section
variable {E : Nat → Prop} {base : Nat} {w w1 : World} {R : Nat} {x : Rc} {s p t l : Value}
/-- A receiver in memory, as it is read, where blocks of E, its box and new ones alone have turned. -/
theorem RvM.rviE (h : RvM E base w R x s p t l) (kp : Keep (fun k => k < w.heap.size ∧ ¬ E k ∧ k ≠ R) w w1) : RvI (fun k => k < w.heap.size ∧ ¬ E k ∧ k ≠ R) w1 x s p t l := by
  have kO : Keep (OutR E R p t l w) w w1 := kp.mono fun k hk => ⟨hk.1.1, hk.2, hk.1.2.1⟩
  have mo : ∀ k, OutR E R p t l w k → k < w.heap.size ∧ ¬ E k ∧ k ≠ R := fun k hk => ⟨hk.1.1, hk.2, hk.1.2.1⟩
  have r := h.rvsE kp
  have bp : ∀ k, p.ownBlock = some k → k < w.heap.size ∧ ¬ E k ∧ k ≠ R := fun k hk => ⟨(h.pc.lt hk).2, fun e => (h.eo k e).2.2.1 hk, fun e => h.pR (e ▸ hk)⟩
  have bt : ∀ k, t.ownBlock = some k → k < w.heap.size ∧ ¬ E k ∧ k ≠ R := fun k hk => ⟨(h.tn.lt k hk).2, fun e => (h.eo k e).2.2.2.1 hk, fun e => h.tR (e ▸ hk)⟩
  have bl : ∀ k, l.ownBlock = some k → k < w.heap.size ∧ ¬ E k ∧ k ≠ R := fun k hk => ⟨(h.lg.lt hk).2, fun e => (h.eo k e).2.2.2.2 hk, fun e => h.lR (e ▸ hk)⟩
  obtain ⟨vs, a1, a2⟩ := GRow.keep PcI.holds h.pc kO fun k hk => kp.block k (bp k hk)
  obtain ⟨us, b1, b2⟩ := GRow.keep AvI.holds h.lg kO fun k hk => kp.block k (bl k hk)
  exact ⟨r, h.si.mono mo, InS.blk bp, InS.blk bt, InS.blk bl, ⟨vs, a1.imp fun _ _ h => PcI.holds.mono h mo, Rw.own a2 (all2_flatH PcI.holds a1).1⟩, ⟨us, b1.imp fun _ _ h => AvI.holds.mono h mo, Rw.own b2 (all2_flatH AvI.holds b1).1⟩⟩
end
/-- Two boxes behind n, and what holds none of the lists ahead of it. -/
def EV (V : Nat → Prop) (n k : Nat) : Prop := k = n + 1 ∨ k = n + 2 ∨ (k < n ∧ ¬ V k)
theorem EV.not {V : Nat → Prop} {n k : Nat} (h : ¬ EV V n k) : V k ∨ n ≤ k := by
  by_cases hk : n ≤ k
  · exact .inr hk
  · by_cases hv : V k
    · exact .inl hv
    · exact absurd (.inr (.inr ⟨by omega, hv⟩)) h
theorem EV.nR {V : Nat → Prop} {n m : Nat} (hv : ∀ k, V k → k < n) (hm : n + 1 ≤ m) : ¬ (V n ∨ m + 2 ≤ n) := fun h => by
  rcases h with h | h
  · have := hv _ h; omega
  · omega
theorem EV.lt {V : Nat → Prop} {n m m1 k : Nat} (hm : n + 3 ≤ m) (h1 : m ≤ m1) (h : EV V n k) : k < m + 2 ∧ k < m1 ∧ k ≠ n := by
  rcases h with h | h | h <;> omega
theorem EV.nV {V : Nat → Prop} {n m k : Nat} (hv : ∀ k, V k → k < n) (hm : n + 1 ≤ m) (h : V k ∨ m + 2 ≤ k) : ¬ EV V n k := fun e => by
  rcases h with h | h
  · have := hv _ h
    rcases e with e | e | e
    · omega
    · omega
    · exact e.2 h
  · rcases e with e | e | e <;> omega
theorem RvI.ev {V : Nat → Prop} {n m R : Nat} {w : World} {x : Rc} {s p t l : Value} (h : RvI (fun k => k < m ∧ ¬ EV V n k ∧ k ≠ R) w x s p t l) : RvI (fun k => V k ∨ n ≤ k) w x s p t l := h.mono fun _ hk => EV.not hk.2.1
end Go.Proofs.Ytnddejdndipddad
