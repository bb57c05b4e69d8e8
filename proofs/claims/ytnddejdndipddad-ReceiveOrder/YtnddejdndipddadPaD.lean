/- The contract of Split, of package parts. -/
import Derived.Test.YtnddejdndipddadPaC
set_option maxRecDepth 20000
namespace Go.Proofs.Ytnddejdndipddad
open Go.RowKit

theorem Try.infoBb : (Try.prog.info? 38).map (fun i => (i.zero, i.size, i.bytes)) = some (some (.slice none 0 0), 1, 24) := by kernel_rfl
/-- make, of slices of bytes. -/
theorem run_mkBb (n : Nat) (h : n * 24 ≤ 281474976710656) (wx : World) : (Instr.makeSlice 114 (.int .i64 (n : Int)) (.int .i64 (n : Int))).run Try.prog wx = .ok (.slice (some ⟨wx.heap.size, 0, none⟩) n n) (wx.alloc (.cells (madeCells #[.slice none 0 0] n) 38)) := by
  obtain ⟨i0, hi, hz0, hz1, hz2⟩ := info_parts Try.infoBb
  have := run_make (P := Try.prog) wx 114 38 i0 (.slice none 0 0) Try.underlying114 hi hz0 .i64 .i64 (n : Int) (n : Int) (by omega) (Int.le_refl _) (by rw [hz2]; omega) (by omega)
  rw [hz1, Int.toNat_natCast, Nat.mul_one] at this
  exact this

/-- The parts so far: what is left in block X, the size in block Y, the parts in block O. -/
structure SpSt (w : World) (X Y O : Nat) (bs : List Int) (p : Int) (n i : Nat) (wr : World) : Prop where
  bel : Below w.heap.size w wr
  left : ∃ v2, wr.cell? ⟨X, 0, none⟩ = some v2 ∧ By w.heap.size wr v2 (bs.drop (i * p.toNat))
  fX : wr.frozen? ⟨X, 0, none⟩ = false
  cY : wr.cell? ⟨Y, 0, none⟩ = some (.int .i64 p)
  sz : O < wr.heap.size
  row : ∃ vs : List Value, vs.length = n ∧ Cells O wr vs ∧ ∀ j, j < i → ∃ u, vs[j]? = some u ∧ By wr.heap.size wr u ((bs.drop (j * p.toNat)).take p.toNat) ∧ InS (fun k => O < k) u

theorem SpSt.step {w : World} {X Y O : Nat} {bs : List Int} {p : Int} {n i : Nat} {wr w1 : World} {v1 v2 : Value} (h : SpSt w X Y O bs p n i wr) (hXY : w.heap.size ≤ X ∧ w.heap.size ≤ Y ∧ X < O ∧ Y < O ∧ X ≠ Y) (hi : i < n)
    (by1 : By w1.heap.size w1 v1 ((bs.drop (i * p.toNat)).take p.toNat)) (in1 : InS (fun k => wr.heap.size ≤ k) v1) (c1 : w1.cell? ⟨X, 0, none⟩ = some v2) (f1 : w1.frozen? ⟨X, 0, none⟩ = false) (by2 : By w.heap.size w1 v2 ((bs.drop (i * p.toNat)).drop p.toNat))
    (kp : Keep (fun k => k < wr.heap.size ∧ k ≠ X) wr w1) : SpSt w X Y O bs p n (i + 1) (w1.setCell ⟨O, i, none⟩ v1) := by
  obtain ⟨x1, x2, x3, x4, x5⟩ := hXY
  obtain ⟨vs, hl, hc, hr⟩ := h.row
  have sz := h.sz
  have BE : Below w.heap.size w w1 := h.bel.trans (kp.below fun k hk => ⟨Nat.lt_of_lt_of_le hk h.bel.size, by omega⟩)
  have KO : Keep (fun k => k ≠ O) w1 (w1.setCell ⟨O, i, none⟩ v1) := Keep.setCell (Keep.refl _ _) (p := ⟨O, i, none⟩) (fun h => h rfl) v1
  have c2 : Cells O w1 vs := hc.keep kp ⟨sz, by omega⟩
  refine ⟨BE.setCell (p := ⟨O, i, none⟩) (by show w.heap.size ≤ O; omega) _, ⟨v2, ?_, ?_⟩, ?_, ?_, ?_, vs.set i v1, by simpa using hl, c2.set i v1 (by omega), fun j hj => ?_⟩
  · rw [KO.cell (p := ⟨X, 0, none⟩) (by show X ≠ O; omega)]; exact c1
  · rw [Nat.succ_mul, ← List.drop_drop]
    exact by2.below (B' := w.heap.size) ((Below.refl _ _).setCell (p := ⟨O, i, none⟩) (by show w.heap.size ≤ O; omega) _) (Nat.le_refl _)
  · rw [KO.frozen (p := ⟨X, 0, none⟩) (by show X ≠ O; omega)]; exact f1
  · rw [KO.cell (p := ⟨Y, 0, none⟩) (by show Y ≠ O; omega), kp.cell (p := ⟨Y, 0, none⟩) ⟨by show Y < _; omega, fun e => x5 e.symm⟩]; exact h.cY
  · have := kp.size
    simp; omega
  · by_cases hji : j = i
    · subst hji
      refine ⟨v1, List.getElem?_set_self (by omega), by1.keep (in1.mono fun k hk => by show k ≠ O; omega) KO (by simp), in1.mono fun k hk => by omega⟩
    · obtain ⟨u, hu, hb, hin⟩ := hr j (by omega)
      refine ⟨u, by rw [List.getElem?_set_ne (by omega)]; exact hu, ?_, hin⟩
      have inu : InS (fun k => k < wr.heap.size ∧ k ≠ X ∧ k ≠ O) u := by
        rintro b off sp nn cap rfl hn
        have := hin _ _ _ _ _ rfl hn
        obtain ⟨⟨_, a', cap', he, g1, g2, g0, g4⟩, _⟩ := hb
        simp only [Value.slice.injEq] at he
        obtain ⟨rfl, rfl, rfl⟩ := he
        obtain ⟨b', off', e, hb', _⟩ := g4 hn
        simp only [Option.some.injEq, Addr.mk.injEq] at e
        obtain ⟨rfl, _⟩ := e
        omega
      exact (hb.keep (inu.mono fun k hk => ⟨hk.1, hk.2.1⟩) kp kp.size).keep (inu.mono fun k hk => hk.2.2) KO (by simp [World.setCell])

theorem SpSt.done {w : World} {X Y O : Nat} {bs : List Int} {p : Int} {n : Nat} {wr : World} (h : SpSt w X Y O bs p n n wr) (hn : countM bs.length p = (n : Int)) (h63 : n ≤ 9223372036854775807) : BbS wr.heap.size wr (.slice (some ⟨O, 0, none⟩) n n) (splitM bs p) := by
  obtain ⟨vs, hl, hc, hr⟩ := h.row
  have hsl : (splitM bs p).length = n := by rw [split_len, hn, Int.toNat_natCast]
  have hA : All2 (By wr.heap.size wr) vs (splitM bs p) := by
    refine All2.of (by rw [hl, hsl]) fun k v c e e' => ?_
    have hk : k < n := by rw [← hl]; exact (List.getElem?_eq_some_iff.1 e).1
    obtain ⟨u, hu, hb, -⟩ := hr k hk
    rw [hu] at e
    simp only [Option.some.injEq] at e
    subst e
    have hk2 : k < (splitM bs p).length := by omega
    rw [List.getElem?_eq_getElem hk2, split_get bs p k hk2] at e'
    simp only [Option.some.injEq] at e'
    subst e'
    exact hb
  have hf := All2.flat (By.bears.cells wr.heap.size wr) hA
  have hfe : ∀ k : Nat, (flatV vs)[k]? = vs[k]? := by
    intro k
    by_cases hk : k < n
    · have e0 : vs[k]? = some vs[k] := List.getElem?_eq_getElem (by omega)
      have := hf.2.1 k _ 0 e0 (by omega)
      rw [Nat.mul_one, Nat.add_zero] at this
      rw [this, e0]
      obtain ⟨u, hu, hb, -⟩ := hr k hk
      rw [e0] at hu
      simp only [Option.some.injEq] at hu
      rw [hu]
      obtain ⟨_, _, rfl, -⟩ := hb.ex
      rfl
    · rw [List.getElem?_eq_none (by have := hf.1; omega), List.getElem?_eq_none (by omega)]
  refine ⟨vs, hA, hf.1, some ⟨O, 0, none⟩, n, by rw [hsl], by omega, h63, fun h => by simp at h, fun _ => ⟨O, 0, rfl, h.sz, fun j u hu => ?_⟩⟩
  rw [Nat.zero_add]
  rw [hfe] at hu
  exact hc.cell j u hu

end Go.Proofs.Ytnddejdndipddad
