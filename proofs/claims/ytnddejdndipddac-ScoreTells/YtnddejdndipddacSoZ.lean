/- Rows of parts of the call's own that grow part by part: what they hold lies below a bound. -/
import Derived.Test.YtnddejdndipddacSoY
set_option maxRecDepth 20000
namespace Go.Proofs.Ytnddejdndipddac
open Go.RowKit

/-- A row of the call's own (blocks from base on) of these parts; what they hold lies below B. -/
def SnGrow (base B : Nat) (w : World) (v : Value) (l : List Sn) : Prop := ∃ vs, All2 (SnV B w) vs l ∧ w.ownsRow base 53 20 v l.length (flatV vs)
theorem SnGrow.nil (base B : Nat) (w : World) : SnGrow base B w (.slice none 0 0) [] := ⟨[], trivial, World.ownsRow_nil _ _ _ _⟩
theorem SnGrow.form {base B : Nat} {w : World} {v : Value} {l : List Sn} (h : SnGrow base B w v l) : ∃ a c, v = .slice a l.length c := by
  obtain ⟨vs, _, h2⟩ := h
  exact own_form h2
/-- Where its block and those below B are as they were. -/
theorem SnGrow.keep {S : Nat → Prop} {base B : Nat} {w w' : World} {v : Value} {l : List Sn} (h : SnGrow base B w v l) (hk : Keep S w w') (hB : ∀ k, k < B → S k) (hv : ∀ k, v.ownBlock = some k → S k) : SnGrow base B w' v l := by
  obtain ⟨vs, h1, h2⟩ := h
  exact ⟨vs, h1.imp fun _ _ h => SnV.bears.below h (hk.below hB) (Nat.le_refl _), own_of_block h2 fun k hv' => hk.block k (hv k hv')⟩
theorem SnGrow.below {base B : Nat} {w w' : World} {v : Value} {l : List Sn} (h : SnGrow base B w v l) (hb : Below w.heap.size w w') (hB : B ≤ w.heap.size) : SnGrow base B w' v l := by
  obtain ⟨vs, h1, h2⟩ := h
  exact ⟨vs, h1.imp fun _ _ h => SnV.bears.below h hb hB, own_of_block h2 fun k hv => hb.block k (h2.lt k hv).2⟩
/-- It reads as these parts. -/
theorem SnGrow.sns {base B : Nat} {w : World} {v : Value} {l : List Sn} (h : SnGrow base B w v l) (hB : B ≤ w.heap.size) : SnS w.heap.size w v l := by
  obtain ⟨vs, h1, h2⟩ := h
  exact ⟨vs, h1.imp fun _ _ h => SnV.bears.mono h hB, Rw.own h2 (All2.flat (SnV.bears.cells B w) h1).1⟩
/-- One more part. -/
theorem SnGrow.app {base B : Nat} {w w' : World} {o : Obj} {v v' : Value} {vs : List Value} {l : List Sn} {x : Sn} {d s q : Value} (hB : B ≤ base) (hbase : base ≤ w.heap.size) (hA : All2 (SnV B w) vs l) (hO : w.ownsRow base 53 20 v l.length (flatV vs)) (hx : SnV B w (snVal x d s q) x)
    (own : w'.ownsRow base 53 20 v' (l.length + 1) (flatV vs ++ (snVal x d s q).cells.toList)) (g : (w.alloc o).grownBy w' v.ownBlock) (ha : v'.ownBlock = v.ownBlock ∨ v'.ownBlock = some (w.alloc o).heap.size) :
    SnGrow base B w' v' (l ++ [x]) ∧ Keep (fun k => k < w.heap.size ∧ v.ownBlock ≠ some k) w w' ∧ Below base w w' ∧ (v'.ownBlock = v.ownBlock ∨ v'.ownBlock = some (w.heap.size + 1)) := by
  have hk : Keep (fun k => k < w.heap.size ∧ v.ownBlock ≠ some k) w w' := ((Keep.refl _ w).alloc (fun k h => h.1) o).grown g (fun k h => by have := h.1; simp; omega) (fun k hk h => h.2 hk)
  have hb : Below base w w' := hk.below fun k h => ⟨by omega, fun e => by have := (hO.lt k e).1; omega⟩
  refine ⟨⟨vs ++ [snVal x d s q], (hA.imp fun _ _ h => SnV.bears.below h hb hB).append ⟨SnV.bears.below hx hb hB, trivial⟩, ?_⟩, hk, hb, by simpa using ha⟩
  rw [flatV_append, List.length_append]
  rw [show flatV [snVal x d s q] = (snVal x d s q).cells.toList by simp [flatV]]
  exact own
end Go.Proofs.Ytnddejdndipddac
