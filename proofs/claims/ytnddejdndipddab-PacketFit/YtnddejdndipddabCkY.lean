/- The walk of ChunkTurns. -/
import Derived.Test.YtnddejdndipddabCkX
set_option maxRecDepth 20000
namespace Go.Proofs.Ytnddejdndipddab
open Go.RowKit

theorem CkOwn.eqs {base : Nat} {w : World} {c m : Ck} {d s k : Value} (h : CkOwn base w (ckVal c d s k) m) : c.kind = m.kind ∧ c.tag = m.tag := by
  obtain ⟨d2, s2, k2, e, -⟩ := h
  simp only [ckVal, Value.agg.injEq, Array.mk.injEq, List.cons.injEq, Value.int.injEq, true_and] at e
  exact ⟨e.1, e.2.1⟩

theorem By.drewN {B : Nat} {w : World} {v : Value} {bs : List Int} (h : By B w v bs) (n : Nat) : By B (w.drewN n) v bs := h.below (B' := B) ⟨rfl, rfl, rfl, Nat.le_refl _, fun _ _ => rfl⟩ (Nat.le_refl _)

theorem run_re_h (a : Option Addr) (n cap hi : Nat) (z : Int) (hz : z = (hi : Int)) (h : hi ≤ n) (h' : n ≤ cap) (wx : World) : (Instr.slice 23 (.slice a n cap) none (some (.int .i64 z)) none).run Try.prog wx = .ok (.slice a hi cap) wx := by
  subst hz
  have h1 : (0 : Int) ≤ hi := by omega
  have h2 : (hi : Int) ≤ cap := by omega
  rw [run_slice_h wx 23 a n cap Try.underlying23 .i64 (hi : Int) h1 h2]
  go_simp

theorem By.head {B : Nat} {w : World} {a : Option Addr} {n cap : Nat} {bs : List Int} (h : By B w (.slice a n cap) bs) (d : Nat) (h2 : d ≤ bs.length) : By B w (.slice a d cap) (bs.take d) := by
  have := h.re 0 d (by omega)
  rw [List.drop_zero, Nat.sub_zero] at this
  have e : reK 1 a cap 0 = a := by simp [reK, Addr.add]
  rwa [e] at this

end Go.Proofs.Ytnddejdndipddab
