/- Slices of ints that came in; spans that hold just the numbers of a list. -/
import Derived.Test.YtnddejdndipddabI
import Derived.Test.YtnddejdndipddabH
import Derived.ProofKit
import Derived.OpenShut
import Derived.SizedLaws
set_option maxRecDepth 20000
namespace Go.Proofs.Ytnddejdndipddab
open Go.ChangeShapes Go.WideShapes Go.ChangeAt Go.RowKit

/-- A slice of ints, below block B. -/
def Il (B : Nat) (w : World) (v : Value) (zs : List Int) : Prop :=
  ∃ a cap, v = .slice a zs.length cap ∧ zs.length * 8 ≤ 140737488351232 ∧ (∀ z ∈ zs, I64 z) ∧ (zs ≠ [] → ∃ b off, a = some ⟨b, off, none⟩ ∧ b < B ∧ ∀ k z, zs[k]? = some z → w.cell? ⟨b, off + k, none⟩ = some (.int .i64 z))

theorem Il.below {B : Nat} {w w' : World} {v : Value} {zs : List Int} (h : Il B w v zs) (hbel : Below B w w') : Il B w' v zs := by
  obtain ⟨a, cap, rfl, h1, h2, h3⟩ := h
  refine ⟨a, cap, rfl, h1, h2, fun hn => ?_⟩
  obtain ⟨b, off, rfl, hb, hat⟩ := h3 hn
  exact ⟨b, off, rfl, hb, fun k z hz => (hbel.cell (p := ⟨b, off + k, none⟩) hb).trans (hat k z hz)⟩

theorem Il.at {B : Nat} {w : World} {a : Option Addr} {n cap : Nat} {zs : List Int} (h : Il B w (.slice a n cap) zs) (k : Nat) (hk : k < zs.length) :
    ∃ b off, b < B ∧ (∀ wx, (Instr.indexAt 49 (.slice a n cap) (.int .i64 (k : Int))).run Try.prog wx = .ok (.pointer (some ⟨b, off, none⟩)) wx) ∧ w.cell? ⟨b, off, none⟩ = some (.int .i64 zs[k]) := by
  obtain ⟨a', cap', he, g1, g3, g4⟩ := h
  simp only [Value.slice.injEq] at he
  obtain ⟨rfl, rfl, rfl⟩ := he
  obtain ⟨b, off, rfl, hb, hat⟩ := g4 (by rintro rfl; simp at hk)
  refine ⟨b, off + k, hb, fun wx => ?_, hat k zs[k] (by simp)⟩
  have : (k : Int) < zs.length := by omega
  go_simp

/-- Spans that have just the numbers of a list, above lo and up to hi. -/
def St (lo hi : Int) (zs : List Int) (l : List Sp) : Prop := Ris lo l ∧ Upto hi l ∧ ∀ x, inM l x = true ↔ x ∈ zs

theorem St.nil (lo hi : Int) : St lo hi [] [] := ⟨trivial, fun s hs => by simp at hs, fun x => by simp [inM]⟩
theorem St.add {lo hi n : Int} {zs : List Int} {l : List Sp} (h : St lo hi zs l) (h1 : lo < n) (h2 : n ≤ hi) : St lo hi (zs ++ [n]) (addM l n) := by
  rw [addM_eq]
  refine ⟨addR_ris n lo l h.1 h1, h.2.1.addR h2, fun x => ?_⟩
  rw [addR_mem n lo l h.1, h.2.2 x, List.mem_append, List.mem_singleton]
  exact Or.comm
theorem St.next {lo hi : Int} {zs : List Int} {k : Nat} {l : List Sp} (h : St lo hi (zs.take k) l) (hk : k < zs.length) (h1 : lo < zs[k]) (h2 : zs[k] ≤ hi) : St lo hi (zs.take (k + 1)) (addM l zs[k]) := by
  rw [List.take_succ_eq_append_getElem hk]
  exact h.add h1 h2
theorem addM_len (l : List Sp) (n : Int) : (addM l n).length ≤ l.length + 1 := by
  have h1 := scan_le (soAdd1 n) l n
  have h2 := scan_le (soAdd2 n) (l.drop (scan (soAdd1 n) n l).1) n
  simp only [addM, List.length_append, List.length_take, List.length_cons, List.length_drop] at h2 ⊢
  omega

theorem St.inB {lo hi : Int} {zs : List Int} {l : List Sp} (h : St lo hi zs l) (x : Int) : inM l x = decide (x ∈ zs) := by
  rw [Bool.eq_iff_iff, h.2.2 x]
  simp

/-- Spans that rise are as Rise asks. -/
theorem ris_steps {lo hi : Int} {l : List Sp} (h : Ris lo l) (hu : Upto hi l) (h1 : -1099511627777 ≤ lo) (h2 : hi ≤ 1099511627776) : ∀ k (hk : k < l.length), stepB (if k = 0 then none else l[k - 1]?) l[k] := by
  induction l generalizing lo with
  | nil => intro k hk; simp at hk
  | cons s r ih =>
    intro k hk
    have a1 := h.1
    have a2 := h.2.1
    have a3 := hu s (by simp)
    cases k with
    | zero => exact ⟨by simp; omega, by simp; omega, by simpa using a2, fun t ht => by simp at ht⟩
    | succ k =>
      have hk' : k < r.length := by simpa using hk
      have := ih (lo := s.2 + 1) h.2.2 (fun s hs => hu s (by simp [hs])) (by omega) k hk'
      refine ⟨this.1, this.2.1, this.2.2.1, fun t ht => ?_⟩
      simp at ht
      cases k with
      | zero =>
        simp at ht
        subst ht
        cases r with
        | nil => simp at hk'
        | cons u q => have := h.2.2.1; simp; omega
      | succ k =>
        refine this.2.2.2 t ?_
        simpa using ht

theorem Try.own : ownKnob Try.prog.godebug = none := by kernel_rfl
theorem Try.laidOut : laidOutB Try.prog = true := by kernel_rfl
theorem Try.cells3 : Try.prog.cellsOf 3 = 1 := by kernel_rfl
theorem Try.bytes3 : Try.prog.bytesOf 3 = 8 := by kernel_rfl

theorem wf_I64 {n : Int} (h : (Lit.int .i64 n).wf = true) : I64 n := by
  have := bounds_i64 h
  exact this

/-- What came in as a slice of ints. -/
theorem Il.of_read {H : Type} {enc : TypeId × Value → H} {w : World} {held : Bool} {d : DataW H} {p : List MemPlace} {a : Option Addr} {len cap fuel : Nat}
    (h : DataW.trod enc Try.prog w 0 (fun _ => true) held fuel 49 [.slice a len cap] = some (d, p))
    (hsz : ∀ es sp, d = .slice es sp → (es.length + sp.length) * 8 ≤ 140737488351232) : ∃ zs, Il w.heap.size w (.slice a len cap) zs := by
  rcases open_ints Try.underlying49 Try.underlying3 Try.cells3 h with ⟨hcs, _⟩ | ⟨x, l, c, zs, hcs, _, hl, hm, hz, hx, hcell, hwz⟩
  · simp at hcs
    obtain ⟨rfl, rfl, rfl⟩ := hcs
    exact ⟨[], none, 0, rfl, by simp, by simp, fun h => absurd rfl h⟩
  · simp at hcs
    obtain ⟨rfl, rfl, rfl⟩ := hcs
    simp only [if_true] at hz
    have hlen : (zs.take len).length = len := by simp; omega
    have hb := hsz _ _ (Prod.ext_iff.1 hx).1
    simp only [lits, List.length_map, List.length_take, List.length_drop] at hb
    refine ⟨zs.take len, some x, cap, by rw [hlen], by rw [hlen]; omega, fun z hz => wf_I64 (hwz z (List.mem_of_mem_take hz)), fun hn => ?_⟩
    have hpos : 0 < zs.length := by
      rcases Nat.eq_zero_or_pos zs.length with h0 | h0
      · exact absurd (by rw [List.eq_nil_of_length_eq_zero h0, List.take_nil]) hn
      · exact h0
    have hlt : x.block < w.heap.size := by
      have := World.block_lt_of_cell? _ _ (hcell 0 hpos)
      simpa [Addr.add] using this
    obtain ⟨b, off, rfl, hc⟩ := ints_at hcell hpos
    refine ⟨b, off, rfl, hlt, fun k z hk => ?_⟩
    rw [List.getElem?_take] at hk
    split at hk
    · have hk' := (List.getElem?_eq_some_iff.1 hk).1
      rw [hc k hk', List.getD_eq_getElem?_getD, hk]
      rfl
    · cases hk

end Go.Proofs.Ytnddejdndipddab
