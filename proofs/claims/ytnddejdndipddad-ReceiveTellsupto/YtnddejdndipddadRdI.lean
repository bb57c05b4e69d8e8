/- Either step of the document. -/
import Derived.Test.YtnddejdndipddadRdG
import Derived.Test.YtnddejdndipddadRdF
import Derived.Test.YtnddejdndipddadRcY
set_option maxRecDepth 20000
namespace Go.Proofs.Ytnddejdndipddad
open Go.RowKit

theorem rdo2_in (f : FuncId) (V : Nat → Prop) (n k b : Nat) (x : Rc) (c : Ck) (s p t l d sp q : Value) (w : World) (hf : (c.kind = 3 ∧ f = 31) ∨ (¬ c.kind = 3 ∧ f = 29)) (h : RvI V w x s p t l) (hv : ∀ k, V k → k < w.heap.size) (hl : SnL V w c d sp q) (hfit : CkFit c) (hdl : c.data.length ≤ 1048576)
    (hr : RunR n k b x) (hk : k ≤ 1048576) (hn : n ≤ 4) (hb : b + c.skips.length ≤ 2097152) (htk : takesM x c → k + 1 ≤ 1048576) :
    Calls Try.prog f #[.agg #[.int .i64 x.cf.streams, .int .i64 x.cf.part, .int .i64 x.cf.packet, .int .i64 x.cf.paths, .int .i64 x.cf.turns, .int .i64 x.cf.waiting, .int .i64 x.cf.first, .int .i64 x.cum, s, p, t, l], .agg #[.int .i64 c.kind, .int .i64 c.tag, .int .i64 c.stream, .int .i64 c.mid, .int .i64 c.part, .bool c.last, .bool c.ordered, d, sp, .int .i64 c.room, q]] w fun e w' => ∃ s' p' t' l', e = .returned (.agg #[.int .i64 (doM x c).cf.streams, .int .i64 (doM x c).cf.part, .int .i64 (doM x c).cf.packet, .int .i64 (doM x c).cf.paths, .int .i64 (doM x c).cf.turns, .int .i64 (doM x c).cf.waiting, .int .i64 (doM x c).cf.first, .int .i64 (doM x c).cum, s', p', t', l']) ∧ RvI (fun k => V k ∨ w.heap.size ≤ k) w' (doM x c) s' p' t' l' ∧ Below w.heap.size w w' := by
  have st := StR.run hr hk (by omega)
  rcases hf with ⟨h3, rfl⟩ | ⟨h3, rfl⟩
  · have e : doM x c = forwM x c := if_pos h3
    rw [e]
    have ho := (hr.forw (c := c)).1
    exact rforw2_in V _ x c s p t l d sp q w h hv hl hr.inv st ho (by omega)
  · have e : doM x c = recvM x c := if_neg h3
    rw [e]
    exact rdata2_in V (32769 * (b : Int) + k + 1) x c s p t l d sp q w h hv hl hdl hr.inv st (fun ht => (hr.recv (htk ht) hfit hdl).1) (by omega)
end Go.Proofs.Ytnddejdndipddad
