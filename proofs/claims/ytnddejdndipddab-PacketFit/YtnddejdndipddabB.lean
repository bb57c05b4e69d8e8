/- The contract of first, of package serial: whatever function value is handed to it, it is asked in turn. -/
import Derived.Test.YtnddejdndipddabA
set_option maxRecDepth 20000
namespace Go.Proofs.Ytnddejdndipddab
open Go.RowKit

/-- A span: its two numbers. -/
abbrev Sp := Int × Int

/-- What 'first' comes to, with a function that has a number of its own: how many were asked in vain, and the number then. -/
def scan (so : Int → Sp → Bool × Int) : Int → List Sp → Nat × Int
  | c, [] => (0, c)
  | c, s :: r => if (so c s).1 = true then (0, (so c s).2) else ((scan so (so c s).2 r).1 + 1, (scan so (so c s).2 r).2)

theorem scan_hit (so : Int → Sp → Bool × Int) (c : Int) (l : List Sp) (k : Nat) (h : k < l.length) (hs : (so c l[k]).1 = true) : scan so c (l.drop k) = (0, (so c l[k]).2) := by
  rw [List.drop_eq_getElem_cons h, scan, if_pos hs]
theorem scan_miss (so : Int → Sp → Bool × Int) (c : Int) (l : List Sp) (k : Nat) (h : k < l.length) (hs : (so c l[k]).1 = false) :
    scan so c (l.drop k) = ((scan so (so c l[k]).2 (l.drop (k + 1))).1 + 1, (scan so (so c l[k]).2 (l.drop (k + 1))).2) := by
  rw [List.drop_eq_getElem_cons h, scan, if_neg (by rw [hs]; decide)]

/-- The cells of spans, from an address on. -/
def SpAt (w : World) (b off : Nat) (l : List Sp) : Prop :=
  ∀ k s, l[k]? = some s → w.cell? ⟨b, off + k * 2, none⟩ = some (.int .i64 s.1) ∧ w.cell? ⟨b, off + k * 2 + 1, none⟩ = some (.int .i64 s.2)

/-- Function g, bound to the variable in block B: asked of a span, it answers by 'so', and its variable is as 'so' says then. -/
def Asks (g B : Nat) (so : Int → Sp → Bool × Int) (I : Int → Prop) (l : List Sp) : Prop :=
  ∀ c s wx, s ∈ l → I c → wx.cell? ⟨B, 0, none⟩ = some (.int .i64 c) → wx.frozen? ⟨B, 0, none⟩ = false → B < wx.heap.size →
    Calls Try.prog g #[.agg #[.int .i64 s.1, .int .i64 s.2], .pointer (some ⟨B, 0, none⟩)] wx fun e w' => e = .returned (.bool (so c s).1) ∧ I (so c s).2 ∧ w'.cell? ⟨B, 0, none⟩ = some (.int .i64 (so c s).2) ∧ w'.frozen? ⟨B, 0, none⟩ = false ∧ Below B wx w'

end Go.Proofs.Ytnddejdndipddab
