/- Slices of chunks that came in. -/
import Derived.Test.YtnddejdndipddabPkB
set_option maxRecDepth 20000
namespace Go.Proofs.Ytnddejdndipddab
open Go.ChangeShapes Go.WideShapes Go.ChangeAt Go.RowKit

theorem Try.bytes45 : Try.prog.bytesOf 45 = 128 := by kernel_rfl
instance : Inhabited Ck := ⟨Ck.zero⟩

section
variable {H : Type} {enc : TypeId × Value → H} {w : World} {held : Bool}

/-- A chunk that came in, as cells. -/
theorem chunk_at {x : DataW H × List MemPlace} {fuel : Nat} {cs : List Value} (h : DataW.trod enc Try.prog w 0 (fun _ => true) held fuel 45 cs = some x) : ∃ v c, cs = v.cells.toList ∧ CkV w.heap.size w v c := by
  obtain ⟨xs, m, _, _, hl, hxl, hf⟩ := DataW.trod_struct Try.underlying45 h
  rw [Try.cells45] at hl
  have hxl3 : xs.length = 11 := hxl
  match cs, hl with
  | [c0, c1, c2, c3, c4, c5, c6, c7, c8, c9, c10], _ =>
    have f0 : DataW.trod enc Try.prog w 0 (fun _ => true) held m 3 (([c0, c1, c2, c3, c4, c5, c6, c7, c8, c9, c10].drop 0).take (Try.prog.cellsOf 3)) = xs[0]? := hf 0 _ rfl
    have f1 : DataW.trod enc Try.prog w 0 (fun _ => true) held m 3 (([c0, c1, c2, c3, c4, c5, c6, c7, c8, c9, c10].drop 1).take (Try.prog.cellsOf 3)) = xs[1]? := hf 1 _ rfl
    have f2 : DataW.trod enc Try.prog w 0 (fun _ => true) held m 3 (([c0, c1, c2, c3, c4, c5, c6, c7, c8, c9, c10].drop 2).take (Try.prog.cellsOf 3)) = xs[2]? := hf 2 _ rfl
    have f3 : DataW.trod enc Try.prog w 0 (fun _ => true) held m 3 (([c0, c1, c2, c3, c4, c5, c6, c7, c8, c9, c10].drop 3).take (Try.prog.cellsOf 3)) = xs[3]? := hf 3 _ rfl
    have f4 : DataW.trod enc Try.prog w 0 (fun _ => true) held m 3 (([c0, c1, c2, c3, c4, c5, c6, c7, c8, c9, c10].drop 4).take (Try.prog.cellsOf 3)) = xs[4]? := hf 4 _ rfl
    have f5 : DataW.trod enc Try.prog w 0 (fun _ => true) held m 4 (([c0, c1, c2, c3, c4, c5, c6, c7, c8, c9, c10].drop 5).take (Try.prog.cellsOf 4)) = xs[5]? := hf 5 _ rfl
    have f6 : DataW.trod enc Try.prog w 0 (fun _ => true) held m 4 (([c0, c1, c2, c3, c4, c5, c6, c7, c8, c9, c10].drop 6).take (Try.prog.cellsOf 4)) = xs[6]? := hf 6 _ rfl
    have f7 : DataW.trod enc Try.prog w 0 (fun _ => true) held m 23 (([c0, c1, c2, c3, c4, c5, c6, c7, c8, c9, c10].drop 7).take (Try.prog.cellsOf 23)) = xs[7]? := hf 7 _ rfl
    have f8 : DataW.trod enc Try.prog w 0 (fun _ => true) held m 42 (([c0, c1, c2, c3, c4, c5, c6, c7, c8, c9, c10].drop 8).take (Try.prog.cellsOf 42)) = xs[8]? := hf 8 _ rfl
    have f9 : DataW.trod enc Try.prog w 0 (fun _ => true) held m 3 (([c0, c1, c2, c3, c4, c5, c6, c7, c8, c9, c10].drop 9).take (Try.prog.cellsOf 3)) = xs[9]? := hf 9 _ rfl
    have f10 : DataW.trod enc Try.prog w 0 (fun _ => true) held m 43 (([c0, c1, c2, c3, c4, c5, c6, c7, c8, c9, c10].drop 10).take (Try.prog.cellsOf 43)) = xs[10]? := hf 10 _ rfl
    rw [Try.cells3] at f0 f1 f2 f3 f4 f9
    rw [Try.cells4] at f5 f6
    rw [Try.cells23] at f7
    rw [Try.cells42] at f8
    rw [Try.cells43] at f10
    rw [List.getElem?_eq_getElem (by omega)] at f0 f1 f2 f3 f4 f5 f6 f7 f8 f9 f10
    obtain ⟨z0, e0, _, _⟩ := DataW.trod_int Try.underlying3 f0
    obtain ⟨z1, e1, _, _⟩ := DataW.trod_int Try.underlying3 f1
    obtain ⟨z2, e2, _, _⟩ := DataW.trod_int Try.underlying3 f2
    obtain ⟨z3, e3, _, _⟩ := DataW.trod_int Try.underlying3 f3
    obtain ⟨z4, e4, _, _⟩ := DataW.trod_int Try.underlying3 f4
    obtain ⟨z5, e5, _⟩ := DataW.trod_bool Try.underlying4 f5
    obtain ⟨z6, e6, _⟩ := DataW.trod_bool Try.underlying4 f6
    obtain ⟨v7, l7, e7, h7, _, _⟩ := bytes_in f7
    obtain ⟨v8, l8, e8, h8⟩ := spans_in f8
    obtain ⟨z9, e9, _, _⟩ := DataW.trod_int Try.underlying3 f9
    obtain ⟨v10, l10, e10, h10⟩ := skips_in f10
    simp at e0 e1 e2 e3 e4 e5 e6 e7 e8 e9 e10
    subst e0 e1 e2 e3 e4 e5 e6 e7 e8 e9 e10
    exact ⟨ckVal ⟨z0, z1, z2, z3, z4, z5, z6, l7, l8, z9, l10⟩ _ _ _, ⟨z0, z1, z2, z3, z4, z5, z6, l7, l8, z9, l10⟩, rfl, ⟨_, _, _, rfl, h7, h8, h10⟩⟩

/-- Chunks that came in, as cells. -/
theorem chunks_in {x : DataW H × List MemPlace} {fuel : Nat} {cs : List Value} (h : DataW.trod enc Try.prog w 0 (fun _ => true) held fuel 22 cs = some x) :
    ∃ v l, cs = [v] ∧ CkS w.heap.size w v l ∧ IsSl v ∧ ∀ B, (∀ es sp, x.1 = .slice es sp → es.length + sp.length ≤ B) → l.length ≤ B := by
  rcases Deep.open_slice Try.underlying22 h with ⟨hcs, _⟩ | ⟨x', l, c, m, n, D, Pl, hcs, hb, hl, hm, hmm, hx, hcell⟩
  · exact ⟨_, [], hcs, CkS.nil _ _, isl, fun B _ => Nat.zero_le _⟩
  · simp only [if_true] at hmm
    subst hmm
    have each : ∀ i, i < m → ∃ q : Value × Ck, CkV w.heap.size w q.1 q.2 ∧ ∀ j u, q.1.cells.toList[j]? = some u → w.cell? (x'.add (i * 11 + j)) = some u := by
      intro i hi
      obtain ⟨cs', hc, ht⟩ := hcell i hi
      rw [Try.cells45] at hc
      obtain ⟨v, c, rfl, hv⟩ := chunk_at ht
      obtain ⟨_, _, hcc⟩ := World.cells?_some hc
      refine ⟨(v, c), hv, fun j u hu => ?_⟩
      have hj : j < 11 := by have := (List.getElem?_eq_some_iff.1 hu).1; rw [CkV.eleven _ _ hv] at this; exact this
      have := hcc j hj
      rw [hu] at this
      rw [← this, add_add]
    obtain ⟨q, hq⟩ := Deep.choose_lt each
    have hE : Each (CkV w.heap.size w) ((List.range l).map fun i => (q i).1) ((List.range l).map fun i => (q i).2) := by
      refine Each.of (by simp) fun k v c e e' => ?_
      have hk : k < l := by simpa using (List.getElem?_eq_some_iff.1 e).1
      simp [hk] at e e'
      rw [← e, ← e']
      exact (hq k (by omega)).1
    have hf := Each.flat CkV.eleven hE
    refine ⟨_, (List.range l).map fun i => (q i).2, hcs, ⟨_, hE, ?_, some x', m, by simp, by simpa using hl, by unfold maxLen at hm; omega, fun h => by simp at h, fun hn => ?_⟩, isl, ?_⟩
    · exact hf.1
    · have hpos : 0 < l := by simp at hn; omega
      have c0 : w.cell? (x'.add (0 * 11 + 0)) = some ((q 0).1.cells.toList[0]'(by rw [CkV.eleven _ _ (hq 0 (by omega)).1]; omega)) := (hq 0 (by omega)).2 0 _ (by simp)
      generalize (q 0).1.cells.toList[0]'_ = u0 at c0
      rw [Nat.zero_mul] at c0
      obtain ⟨b, off, spot⟩ := x'
      have hspot : spot = none := by simpa [Addr.add] using World.cell?_spot c0
      subst hspot
      refine ⟨b, off, rfl, by have := World.block_lt_of_cell? _ _ c0; simpa [Addr.add] using this, fun k u hu => ?_⟩
      have hkl : k < l * 11 := by have := (List.getElem?_eq_some_iff.1 hu).1; rw [hf.1] at this; simpa using this
      have hk : k / 11 < l := by omega
      have hg := hf.2.1 (k / 11) (q (k / 11)).1 (k % 11) (by simp [hk]) (by omega)
      rw [show k / 11 * 11 + k % 11 = k by omega, hu] at hg
      have hh := (hq (k / 11) (by omega)).2 (k % 11) u hg.symm
      rwa [add_plain, show k / 11 * 11 + k % 11 = k by omega] at hh
    · intro B hB
      have := hB _ _ (Prod.ext_iff.1 hx).1
      simp at this
      simp
      omega
end
end Go.Proofs.Ytnddejdndipddab
