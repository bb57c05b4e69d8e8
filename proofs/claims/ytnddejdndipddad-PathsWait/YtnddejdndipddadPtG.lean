/- Plain: what is true of a path behind each step. -/
import Derived.Test.YtnddejdndipddadPtA
set_option maxRecDepth 20000
namespace Go.Proofs.Ytnddejdndipddad
open Go.RowKit

/-- What is true of a path behind k steps. -/
structure GrowOk (n : Int) (k : Nat) (p : Pt) : Prop where
  w0 : n ≤ p.window
  w1 : p.window ≤ 32 + 16 * k
  s0 : 4 * n ≤ p.slow
  p0 : 0 ≤ p.part
  p1 : p.part ≤ 1000 * k
  e0 : 0 ≤ p.errors
  e1 : p.errors ≤ k
  t0 : 0 ≤ p.wait
  t1 : p.wait ≤ 24
theorem GrowOk.ok {n : Int} {k : Nat} {p : Pt} (h : GrowOk n k p) (hn : 1 ≤ n) (hk : k ≤ 1000) : PtOk p := by
  obtain ⟨a, b, c, d, e, f, g, i, j⟩ := h
  constructor <;> omega
theorem GrowOk.new {n : Int} (h1 : 1 ≤ n) (h2 : n ≤ 16) : GrowOk n 0 (newP n) := by
  constructor <;> simp only [newP] <;> omega
theorem GrowOk.next {n : Int} {k : Nat} {p : Pt} (h : GrowOk n k p) : GrowOk n (k + 1) p := by
  obtain ⟨a, b, c, d, e, f, g, i, j⟩ := h
  constructor <;> omega
theorem GrowOk.halved {n : Int} {k : Nat} {p : Pt} (h : GrowOk n k p) (h1 : 1 ≤ n) (h2 : n ≤ 16) : GrowOk n (k + 1) (halvedP p n) ∧ (halvedP p n).window ≤ p.window ∧ min p.window (4 * n) ≤ (halvedP p n).window := by
  obtain ⟨a, b, c, d, e, f, g, i, j⟩ := h
  refine ⟨?_, ?_, ?_⟩
  · constructor <;> simp only [halvedP, slowP] <;> omega
  · simp only [halvedP, slowP]; omega
  · simp only [halvedP, slowP]; omega
theorem GrowOk.late {n : Int} {k : Nat} {p : Pt} (h : GrowOk n k p) : GrowOk n (k + 1) (lateP p n) := by
  obtain ⟨a, b, c, d, e, f, g, i, j⟩ := h
  constructor <;> simp only [lateP, slowP] <;> omega
theorem GrowOk.acked {n : Int} {k : Nat} {p : Pt} (h : GrowOk n k p) (h1 : 1 ≤ n) (h2 : n ≤ 16) {z : Int} (z0 : 0 ≤ z) (z1 : z ≤ 1000) : GrowOk n (k + 1) (ackedP p z n true) ∧ p.window ≤ (ackedP p z n true).window ∧ (ackedP p z n true).window - p.window ≤ n := by
  obtain ⟨a, b, c, d, e, f, g, i, j⟩ := h
  have hE : ackedP p z n true = if z = 0 then ⟨p.window, p.slow, p.part, p.flight, 0, 0, 3⟩ else if p.window ≤ p.slow then ⟨p.window + min z n, p.slow, p.part, p.flight, 0, 0, 3⟩ else if p.part + z < p.window then ⟨p.window, p.slow, p.part + z, p.flight, 0, 0, 3⟩ else ⟨p.window + n, p.slow, p.part + z - p.window, p.flight, 0, 0, 3⟩ := rfl
  rw [hE]
  split
  · refine ⟨?_, ?_, ?_⟩
    · constructor <;> simp only <;> omega
    all_goals simp only; omega
  · split
    · refine ⟨?_, ?_, ?_⟩
      · constructor <;> simp only <;> omega
      all_goals simp only; omega
    · split
      · refine ⟨?_, ?_, ?_⟩
        · constructor <;> simp only <;> omega
        all_goals simp only; omega
      · refine ⟨?_, ?_, ?_⟩
        · constructor <;> simp only <;> omega
        all_goals simp only; omega

/-- How long one waits behind k times. -/
def waitK : Nat → Int
  | 0 => 3
  | k + 1 => min (2 * waitK k) 24
theorem waitK_bd : ∀ k, 0 ≤ waitK k ∧ waitK k ≤ 24
  | 0 => by decide
  | k + 1 => by
    have := waitK_bd k
    simp only [waitK]
    omega
/-- What is true of a path that was late k times. -/
structure WaitsOk (n : Int) (k : Nat) (p : Pt) : Prop where
  w0 : 0 ≤ p.window
  w1 : p.window ≤ 32
  p0 : p.part = 0
  e0 : p.errors = k
  t0 : p.wait = waitK k
theorem WaitsOk.ok {n : Int} {k : Nat} {p : Pt} (h : WaitsOk n k p) (hk : k ≤ 1000) : PtOk p := by
  obtain ⟨a, b, c, d, e⟩ := h
  have := waitK_bd k
  constructor <;> omega
theorem WaitsOk.new {n : Int} (h1 : 1 ≤ n) (h2 : n ≤ 16) : WaitsOk n 0 (newP n) := by
  constructor <;> simp only [newP, waitK] <;> omega
theorem WaitsOk.late {n : Int} {k : Nat} {p : Pt} (h : WaitsOk n k p) (h1 : 1 ≤ n) (h2 : n ≤ 16) : WaitsOk n (k + 1) (lateP p n) := by
  obtain ⟨a, b, c, d, e⟩ := h
  constructor <;> simp only [lateP, waitK] <;> omega
end Go.Proofs.Ytnddejdndipddad
