/- The walk of ReceiveTwice. -/
import Derived.Test.YtnddejdndipddadRcX
import Derived.Test.YtnddejdndipddadRcZ
import Derived.BigQuiet
set_option maxRecDepth 20000
namespace Go.Proofs.Ytnddejdndipddad
open Go.RowKit

theorem skN_snoc (l : List Ck) (k : Nat) (h : k < l.length) : skN (l.take (k + 1)) = skN (l.take k) + l[k].skips.length := by
  rw [List.take_succ_eq_append_getElem h, skN, skN, List.map_append, List.sum_append]
  simp
theorem skN_le (l : List Ck) (k : Nat) (h : k < l.length) : skN (l.take k) + l[k].skips.length ≤ skN l := by
  have : skN l = skN (l.take k) + skN (l.drop k) := by
    unfold skN
    rw [← List.sum_append, ← List.map_append, List.take_append_drop]
  have e : skN (l.drop k) = l[k].skips.length + skN (l.drop (k + 1)) := by rw [List.drop_eq_getElem_cons h, skN, skN, List.map_cons, List.sum_cons]
  omega
/-- Either step. -/
def doM (x : Rc) (c : Ck) : Rc := if c.kind = 3 then forwM x c else recvM x c
theorem do_twice {x : Rc} (hx : InvR x) (c : Ck) : doM (doM x c) c = doM x c ∧ x.cum ≤ (doM x c).cum ∧ x.log <+: (doM x c).log := by
  unfold doM
  split
  · obtain ⟨-, h1, -, h2⟩ := forw_twice hx c
    exact ⟨h2, h1, forw_log x c⟩
  · obtain ⟨-, h1, -, h2⟩ := recv_twice hx c
    exact ⟨h2, h1, recv_log x c⟩
theorem RunR.step {n k b : Nat} {x : Rc} {c : Ck} (h : RunR n k b x) (hk : k + 1 ≤ 1048576) (hf : CkFit c) (hd : c.data.length ≤ 1048576) : RunR n (k + 1) (b + c.skips.length) (doM x c) := by
  unfold doM
  split
  · exact (h.forw).2
  · have g := (h.recv hk hf hd).2
    exact ⟨g.inv, g.c1, g.c2, g.ok.mono (by omega), g.pl, g.ll, g.tl⟩
theorem recv_again {x : Rc} (hx : InvR x) (c : Ck) : ¬ takesM (recvM x c) c := fun h => by
  have h1 := (recv_twice hx c).2.2.2
  have h2 : (recvM (recvM x c) c).cum = (keptM (recvM x c) c).cum ∧ _ := recv_cum h
  obtain ⟨i1, i2, i3, i4⟩ := kept_inv (recv_twice hx c).1 h
  rw [h1] at h2
  have g3 := h.2.2.1
  have g4 := h.2.2.2.1
  rw [← h2.1] at i4
  rcases i4 with i4 | i4
  · omega
  · rw [← h2.2.1] at i4
    rw [i4] at g4
    exact Bool.noConfusion g4
/-- The contract of either step. -/
theorem do_in (f : FuncId) (V : Nat → Prop) (n k b : Nat) (x : Rc) (c : Ck) (s p t l : Value) (da sa qa : Option Addr) (dc sc qc : Nat) (w : World) (hf : (c.kind = 3 ∧ f = 30) ∨ (¬ c.kind = 3 ∧ f = 28)) (h : RvI V w x s p t l) (hv : ∀ k, V k → k < w.heap.size) (hd : By w.heap.size w (.slice da c.data.length dc) c.data) (hs : Sl w.heap.size w (.slice sa c.spans.length sc) c.spans) (hq : Kl w.heap.size w (.slice qa c.skips.length qc) c.skips) (hfit : CkFit c) (hdl : c.data.length ≤ 1048576)
    (hr : RunR n k b x) (hk : k ≤ 1048576) (hn : n ≤ 4) (hb : b + c.skips.length ≤ 2097152) (htk : takesM x c → k + 1 ≤ 1048576) :
    Calls Try.prog f #[.agg #[.int .i64 x.cf.streams, .int .i64 x.cf.part, .int .i64 x.cf.packet, .int .i64 x.cf.paths, .int .i64 x.cf.turns, .int .i64 x.cf.waiting, .int .i64 x.cf.first, .int .i64 x.cum, s, p, t, l], .agg #[.int .i64 c.kind, .int .i64 c.tag, .int .i64 c.stream, .int .i64 c.mid, .int .i64 c.part, .bool c.last, .bool c.ordered, .slice da c.data.length dc, .slice sa c.spans.length sc, .int .i64 c.room, .slice qa c.skips.length qc]] w fun e w' => ∃ sa pa ta la sc pc tc lc, e = .returned (.agg #[.int .i64 (doM x c).cf.streams, .int .i64 (doM x c).cf.part, .int .i64 (doM x c).cf.packet, .int .i64 (doM x c).cf.paths, .int .i64 (doM x c).cf.turns, .int .i64 (doM x c).cf.waiting, .int .i64 (doM x c).cf.first, .int .i64 (doM x c).cum, .slice sa (doM x c).spans.length sc, .slice pa (doM x c).pieces.length pc, .slice ta (doM x c).turn.length tc, .slice la (doM x c).log.length lc]) ∧ RvI (fun k => V k ∨ w.heap.size ≤ k) w' (doM x c) (.slice sa (doM x c).spans.length sc) (.slice pa (doM x c).pieces.length pc) (.slice ta (doM x c).turn.length tc) (.slice la (doM x c).log.length lc) ∧ Below w.heap.size w w' := by
  have st := StR.run hr hk (by omega)
  rcases hf with ⟨h3, rfl⟩ | ⟨h3, rfl⟩
  · have e : doM x c = forwM x c := if_pos h3
    rw [e]
    have ho := (hr.forw (c := c)).1
    refine (rforw_in V _ x c s p t l _ _ _ w h hv hd hs hq hfit st ho (by omega)).mono ?_
    rintro e w' ⟨s', p', t', l', rfl, h1, h2⟩
    obtain ⟨sa, sc, pa, pc, ta, tc, la, lc, rfl, rfl, rfl, rfl⟩ := h1.r.ex
    exact ⟨_, _, _, _, _, _, _, _, rfl, h1, h2⟩
  · have e : doM x c = recvM x c := if_neg h3
    rw [e]
    refine (rdata_in V (32769 * (b : Int) + k + 1) x c s p t l _ _ _ w h hv hd hs hq hfit hdl st (fun ht => (hr.recv (htk ht) hfit hdl).1) (by omega)).mono ?_
    rintro e w' ⟨s', p', t', l', rfl, h1, h2⟩
    obtain ⟨sa, sc, pa, pc, ta, tc, la, lc, rfl, rfl, rfl, rfl⟩ := h1.r.ex
    exact ⟨_, _, _, _, _, _, _, _, rfl, h1, h2⟩
theorem InS.both {V U : Nat → Prop} {v : Value} (h : InS V v) (h' : InS U v) : InS (fun k => V k ∧ U k) v := fun b off sp n c e hn => ⟨h b off sp n c e hn, h' b off sp n c e hn⟩
/-- .. and in blocks that are. -/
theorem RvI.low {V : Nat → Prop} {w : World} {x : Rc} {s p t l : Value} (h : RvI V w x s p t l) : RvI (fun k => V k ∧ k < w.heap.size) w x s p t l := by
  obtain ⟨vs, a1, a2⟩ := h.p
  obtain ⟨us, b1, b2⟩ := h.l
  refine ⟨h.r, h.si.both h.r.s.rw'.ins, h.pi.both a2.ins, h.ti.both h.r.t.1.ins, h.li.both b2.ins, ⟨vs, a1.imp fun v p hp => ?_, a2⟩, ⟨us, b1.imp fun v a ha => ?_, b2⟩⟩
  · obtain ⟨d, s', q, e, g⟩ := hp
    exact ⟨d, s', q, e, ⟨g.d, g.s, g.q, g.id.both g.d.1.ins, g.is.both g.s.rw'.ins, g.iq.both (Rw.ins g.q)⟩⟩
  · obtain ⟨d, e, g, gi⟩ := ha
    exact ⟨d, e, g, gi.both g.1.ins⟩
end Go.Proofs.Ytnddejdndipddad
