/- Slices of ints that came in; spans that hold just the numbers of a list. -/
import Derived.Test.YtlfghgdnjmladabI
import Derived.Test.YtlfghgdnjmladabH
import Derived.ProofKit
import Derived.OpenShut
import Derived.SizedLaws
namespace Go.Proofs.Ytlfghgdnjmladab
open Go.ChangeShapes Go.WideShapes Go.ChangeAt Go.RowKit

/-- A slice of ints, below block B. -/
def Il (B : Nat) (w : World) (v : Value) (zs : List Int) : Prop :=
  ∃ a cap, v = .slice a zs.length cap ∧ zs.length * 8 ≤ 140737488351232 ∧ (∀ z ∈ zs, I64 z) ∧ (zs ≠ [] → ∃ b off, a = some ⟨b, off, none⟩ ∧ b < B ∧ ∀ k z, zs[k]? = some z → w.cell? ⟨b, off + k, none⟩ = some (.int .i64 z))

theorem Il.below {B : Nat} {w w' : World} {v : Value} {zs : List Int} (h : Il B w v zs) (hbel : Below B w w') : Il B w' v zs := by
  obtain ⟨a, cap, rfl, h1, h2, h3⟩ := h
  refine ⟨a, cap, rfl, h1, h2, fun hn => ?_⟩
  obtain ⟨b, off, rfl, hb, hat⟩ := h3 hn
  exact ⟨b, off, rfl, hb, fun k z hz => (hbel.cell (p := ⟨b, off + k, none⟩) hb).trans (hat k z hz)⟩

/-- Spans that have just the numbers of a list, above lo and up to hi. -/
def St (lo hi : Int) (zs : List Int) (l : List Sp) : Prop := Ris lo l ∧ Upto hi l ∧ ∀ x, inM l x = true ↔ x ∈ zs

theorem St.nil (lo hi : Int) : St lo hi [] [] := ⟨trivial, fun s hs => by simp at hs, fun x => by simp [inM]⟩
theorem St.add {lo hi n : Int} {zs : List Int} {l : List Sp} (h : St lo hi zs l) (h1 : lo < n) (h2 : n ≤ hi) : St lo hi (zs ++ [n]) (addM l n) := by
  rw [addM_eq]
  refine ⟨addR_ris n lo l h.1 h1, h.2.1.addR h2, fun x => ?_⟩
  rw [addR_mem n lo l h.1, h.2.2 x, List.mem_append, List.mem_singleton]
  exact Or.comm
theorem St.next {lo hi : Int} {zs : List Int} {k : Nat} {l : List Sp} (h : St lo hi (zs.take k) l) (hk : k < zs.length) (h1 : lo < zs[k]) (h2 : zs[k] ≤ hi) : St lo hi (zs.take (k + 1)) (addM l zs[k]) := by
  rw [List.take_succ_eq_append_getElem hk]
  exact h.add h1 h2
theorem addM_len (l : List Sp) (n : Int) : (addM l n).length ≤ l.length + 1 := by
  have h1 := scan_le (soAdd1 n) l n
  have h2 := scan_le (soAdd2 n) (l.drop (scan (soAdd1 n) n l).1) n
  simp only [addM, List.length_append, List.length_take, List.length_cons, List.length_drop] at h2 ⊢
  omega

theorem St.inB {lo hi : Int} {zs : List Int} {l : List Sp} (h : St lo hi zs l) (x : Int) : inM l x = decide (x ∈ zs) := by
  rw [Bool.eq_iff_iff, h.2.2 x]
  simp

/-- Spans that rise are as Rise asks. -/
theorem ris_steps {lo hi : Int} {l : List Sp} (h : Ris lo l) (hu : Upto hi l) (h1 : -1099511627777 ≤ lo) (h2 : hi ≤ 1099511627776) : ∀ k (hk : k < l.length), stepB (if k = 0 then none else l[k - 1]?) l[k] := by
  induction l generalizing lo with
  | nil => intro k hk; simp at hk
  | cons s r ih =>
    intro k hk
    have a1 := h.1
    have a2 := h.2.1
    have a3 := hu s (by simp)
    cases k with
    | zero => exact ⟨by simp; omega, by simp; omega, by simpa using a2, fun t ht => by simp at ht⟩
    | succ k =>
      have hk' : k < r.length := by simpa using hk
      have := ih (lo := s.2 + 1) h.2.2 (fun s hs => hu s (by simp [hs])) (by omega) k hk'
      refine ⟨this.1, this.2.1, this.2.2.1, fun t ht => ?_⟩
      simp at ht
      cases k with
      | zero =>
        simp at ht
        subst ht
        cases r with
        | nil => simp at hk'
        | cons u q => have := h.2.2.1; simp; omega
      | succ k =>
        refine this.2.2.2 t ?_
        simpa using ht

theorem Try.own : ownKnob Try.prog.godebug = none := by kernel_rfl
theorem Try.laidOut : laidOutB Try.prog = true := by kernel_rfl
theorem Try.cells3 : Try.prog.cellsOf 3 = 1 := by kernel_rfl
theorem Try.bytes3 : Try.prog.bytesOf 3 = 8 := by kernel_rfl

theorem wf_I64 {n : Int} (h : (Lit.int .i64 n).wf = true) : I64 n := by
  have := bounds_i64 h
  exact this

end Go.Proofs.Ytlfghgdnjmladab
