/- A chunk that came in, and bytes. -/
import Derived.Test.YtnddejdndipddabCkY
import Derived.Deep.SlicePairs
set_option maxRecDepth 20000
namespace Go.Proofs.Ytnddejdndipddab
open Go.ChangeShapes Go.WideShapes Go.ChangeAt Go.RowKit

theorem Try.cells4 : Try.prog.cellsOf 4 = 1 := by kernel_rfl
theorem Try.cells5 : Try.prog.cellsOf 5 = 1 := by kernel_rfl
theorem Try.bytes5 : Try.prog.bytesOf 5 = 1 := by kernel_rfl
theorem Try.cells23 : Try.prog.cellsOf 23 = 1 := by kernel_rfl
theorem Try.cells42 : Try.prog.cellsOf 42 = 1 := by kernel_rfl
theorem Try.cells43 : Try.prog.cellsOf 43 = 1 := by kernel_rfl
theorem Try.cellsSp : Try.prog.cellsOf 87 = 2 := by kernel_rfl
theorem Try.cells89 : Try.prog.cellsOf 89 = 3 := by kernel_rfl
theorem Try.cells45 : Try.prog.cellsOf 45 = 11 := by kernel_rfl

instance : Inhabited Sk := ⟨⟨0, 0, false⟩⟩
theorem add_add (x : Addr) (p j : Nat) : (x.add p).add j = x.add (p + j) := by
  by_cases hp : p = 0
  · by_cases hj : j = 0
    · simp [Addr.add, hp, hj]
    · simp [Addr.add, hp]
  · by_cases hj : j = 0
    · simp [Addr.add, hj]
    · simp [Addr.add, hp, hj, Nat.add_assoc]

section
variable {H : Type} {enc : TypeId × Value → H} {w : World} {held : Bool}

/-- Bytes that came in, as cells. -/
theorem bytes_in {x : DataW H × List MemPlace} {fuel : Nat} {cs : List Value} (h : DataW.trod enc Try.prog w 0 (fun _ => true) held fuel 23 cs = some x) :
    ∃ v bs, cs = [v] ∧ By w.heap.size w v bs ∧ IsSl v ∧ ∀ B, (∀ es sp, x.1 = .slice es sp → es.length + sp.length ≤ B) → bs.length ≤ B := by
  rcases open_ints Try.underlying23 Try.underlying5 Try.cells5 h with ⟨hcs, _⟩ | ⟨x', l, c, zs, hcs, _, hl, hm, hz, hx, hcell, hwz⟩
  · exact ⟨_, [], hcs, By.nil _ _, isl, fun B _ => Nat.zero_le _⟩
  · simp only [if_true] at hz
    have hlen : (zs.take l).length = l := by simp; omega
    refine ⟨_, zs.take l, hcs, ⟨?_, fun z hz => ?_⟩, isl, ?_⟩
    · rw [hlen]
      refine ⟨by simp [cellsB]; omega, some x', c, rfl, hl, by unfold maxLen at hm; omega, fun h => by simp at h, fun hn => ?_⟩
      have hpos : 0 < zs.length := by omega
      have hlt : x'.block < w.heap.size := by
        have := World.block_lt_of_cell? _ _ (hcell 0 hpos)
        simpa [Addr.add] using this
      obtain ⟨b, off, spot⟩ := x'
      have hspot : spot = none := by simpa [Addr.add] using World.cell?_spot (hcell 0 hpos)
      subst hspot
      refine ⟨b, off, rfl, hlt, fun j u hu => ?_⟩
      have hj : j < l := by have := (List.getElem?_eq_some_iff.1 hu).1; simp [cellsB] at this; omega
      have hc := hcell j (by omega)
      rw [add_plain] at hc
      rw [hc]
      simp only [cellsB, List.getElem?_map, List.getElem?_take, hj, if_true, List.getElem?_eq_getElem (show j < zs.length by omega), Option.map_some, Option.some.injEq] at hu
      rw [← hu, List.getD_eq_getElem?_getD, List.getElem?_eq_getElem (show j < zs.length by omega)]
      rfl
    · have := bounds_u8 (hwz z (List.mem_of_mem_take hz))
      omega
    · intro B hB
      have := hB _ _ (Prod.ext_iff.1 hx).1
      simp [lits] at this
      rw [hlen]
      omega

theorem spans_in {x : DataW H × List MemPlace} {fuel : Nat} {cs : List Value} (h : DataW.trod enc Try.prog w 0 (fun _ => true) held fuel 42 cs = some x) : ∃ v l, cs = [v] ∧ Sl w.heap.size w v l := by
  rcases Deep.open_slice_pairs Try.underlying42 Try.underlying87 Try.cellsSp rfl rfl Try.cells3 Try.cells3 h with ⟨hcs, _⟩ | ⟨x, l, c, m, n, V0, V1, D0, D1, P0, P1, hcs, hb, hl, hm, hmm, hx, hcell⟩
  · exact ⟨_, [], hcs, Sl.nil' _ _⟩
  · simp only [if_true] at hmm
    subst hmm
    have each : ∀ i, i < m → ∃ q : Int × Int, V0 i = .int .i64 q.1 ∧ V1 i = .int .i64 q.2 ∧ I64 q.1 ∧ I64 q.2 := by
      intro i hi
      obtain ⟨_, _, g0, g1⟩ := hcell i hi
      obtain ⟨z0, e0, _, w0⟩ := DataW.trod_int Try.underlying3 g0
      obtain ⟨z1, e1, _, w1⟩ := DataW.trod_int Try.underlying3 g1
      simp at e0 e1
      exact ⟨(z0, z1), e0, e1, wf_I64 w0, wf_I64 w1⟩
    obtain ⟨q, hq⟩ := Deep.choose_lt each
    refine ⟨_, (List.range l).map q, hcs, ⟨some x, m, by simp, by simpa using hl, by unfold maxLen at hm; omega, fun h => by simp at h, ?_, fun hn => ?_⟩⟩
    · intro s hs
      obtain ⟨i, hi, rfl⟩ := List.mem_map.1 hs
      have := hq i (by have := List.mem_range.1 hi; omega)
      exact ⟨this.2.2.1, this.2.2.2⟩
    · have hpos : 0 < l := by
        rcases Nat.eq_zero_or_pos l with h0 | h0
        · subst h0; exact absurd rfl hn
        · exact h0
      have c0 := (hcell 0 (by omega)).1
      rw [Nat.zero_mul] at c0
      obtain ⟨b, off, spot⟩ := x
      have hspot : spot = none := by simpa [Addr.add] using World.cell?_spot c0
      subst hspot
      refine ⟨b, off, rfl, by have := World.block_lt_of_cell? _ _ c0; simpa [Addr.add] using this, fun k s hs => ?_⟩
      have hk : k < l := by simpa using (List.getElem?_eq_some_iff.1 hs).1
      have hks : q k = s := by simpa [hk] using hs
      have g := hcell k (by omega)
      have e := hq k (by omega)
      rw [add_plain, e.1, hks] at g
      rw [add_plain, e.2.1, hks, ← Nat.add_assoc] at g
      exact ⟨g.1, g.2.1⟩

theorem skip_in {x : DataW H × List MemPlace} {fuel : Nat} {cs : List Value} (h : DataW.trod enc Try.prog w 0 (fun _ => true) held fuel 89 cs = some x) : ∃ s : Sk, cs = [.int .i64 s.stream, .int .i64 s.mid, .bool s.ordered] := by
  obtain ⟨xs, m, _, _, hl, hxl, hf⟩ := DataW.trod_struct Try.underlying89 h
  rw [Try.cells89] at hl
  have hxl3 : xs.length = 3 := hxl
  match cs, hl with
  | [c0, c1, c2], _ =>
    have f0 : DataW.trod enc Try.prog w 0 (fun _ => true) held m 3 (([c0, c1, c2].drop 0).take (Try.prog.cellsOf 3)) = xs[0]? := hf 0 _ rfl
    have f1 : DataW.trod enc Try.prog w 0 (fun _ => true) held m 3 (([c0, c1, c2].drop 1).take (Try.prog.cellsOf 3)) = xs[1]? := hf 1 _ rfl
    have f2 : DataW.trod enc Try.prog w 0 (fun _ => true) held m 4 (([c0, c1, c2].drop 2).take (Try.prog.cellsOf 4)) = xs[2]? := hf 2 _ rfl
    rw [Try.cells3] at f0 f1
    rw [Try.cells4] at f2
    rw [List.getElem?_eq_getElem (by omega)] at f0 f1 f2
    obtain ⟨z0, e0, _, _⟩ := DataW.trod_int Try.underlying3 f0
    obtain ⟨z1, e1, _, _⟩ := DataW.trod_int Try.underlying3 f1
    obtain ⟨z2, e2, _⟩ := DataW.trod_bool Try.underlying4 f2
    simp at e0 e1 e2
    exact ⟨⟨z0, z1, z2⟩, by rw [e0, e1, e2]⟩

theorem skips_in {x : DataW H × List MemPlace} {fuel : Nat} {cs : List Value} (h : DataW.trod enc Try.prog w 0 (fun _ => true) held fuel 43 cs = some x) : ∃ v l, cs = [v] ∧ Kl w.heap.size w v l := by
  rcases Deep.open_slice Try.underlying43 h with ⟨hcs, _⟩ | ⟨x, l, c, m, n, D, Pl, hcs, hb, hl, hm, hmm, hx, hcell⟩
  · exact ⟨_, [], hcs, Kl.nil _ _⟩
  · simp only [if_true] at hmm
    subst hmm
    have each : ∀ i, i < m → ∃ s : Sk, ∀ j u, [Value.int .i64 s.stream, .int .i64 s.mid, .bool s.ordered][j]? = some u → w.cell? (x.add (i * 3 + j)) = some u := by
      intro i hi
      obtain ⟨cs', hc, ht⟩ := hcell i hi
      rw [Try.cells89] at hc
      obtain ⟨s, rfl⟩ := skip_in ht
      obtain ⟨_, _, hcc⟩ := World.cells?_some hc
      refine ⟨s, fun j u hu => ?_⟩
      have hj : j < 3 := by have := (List.getElem?_eq_some_iff.1 hu).1; simpa using this
      have := hcc j hj
      rw [hu] at this
      rw [← this, add_add]
    obtain ⟨q, hq⟩ := Deep.choose_lt each
    refine ⟨_, (List.range l).map q, hcs, ⟨?_, some x, m, by simp, by simpa using hl, by unfold maxLen at hm; omega, fun h => by simp at h, fun hn => ?_⟩⟩
    · rw [cellsK_length]
    · have hpos : 0 < l := by simp at hn; omega
      have c0 := hq 0 (by omega) 0 _ rfl
      rw [Nat.zero_mul] at c0
      obtain ⟨b, off, spot⟩ := x
      have hspot : spot = none := by simpa [Addr.add] using World.cell?_spot c0
      subst hspot
      refine ⟨b, off, rfl, by have := World.block_lt_of_cell? _ _ c0; simpa [Addr.add] using this, fun k u hu => ?_⟩
      have hkl : k < l * 3 := by have := (List.getElem?_eq_some_iff.1 hu).1; rw [cellsK_length] at this; simpa using this
      have hk : k / 3 < l := by omega
      have hg := cellsK_get ((List.range l).map q) (k / 3) (by simpa using hk)
      have e : ((List.range l).map q)[k / 3]'(by simpa using hk) = q (k / 3) := by simp
      rw [e] at hg
      have hh := hq (k / 3) (by omega) (k % 3) u
      rw [add_plain, show k / 3 * 3 + k % 3 = k by omega] at hh
      refine hh ?_
      rcases (show k % 3 = 0 ∨ k % 3 = 1 ∨ k % 3 = 2 by omega) with r | r | r
      · rw [r, ← hu, show k = k / 3 * 3 by omega, show k / 3 * 3 / 3 = k / 3 by omega]
        exact hg.1.symm
      · rw [r, ← hu, show k = k / 3 * 3 + 1 by omega, show (k / 3 * 3 + 1) / 3 = k / 3 by omega]
        exact hg.2.1.symm
      · rw [r, ← hu, show k = k / 3 * 3 + 2 by omega, show (k / 3 * 3 + 2) / 3 = k / 3 by omega]
        exact hg.2.2.symm

/-- A chunk that came in. -/
theorem chunk_in {v : Value} {d : DataW H} {p : List MemPlace} (h : DataW.Trod enc Try.prog w 0 (fun _ => true) held 45 v d p) : ∃ c, CkV w.heap.size w v c := by
  obtain ⟨fuel, h⟩ := h
  obtain ⟨xs, m, _, _, hl, hxl, hf⟩ := DataW.trod_struct Try.underlying45 h
  rw [Try.cells45] at hl
  have hxl3 : xs.length = 11 := hxl
  obtain ⟨cs, rfl⟩ : ∃ cs, v = .agg cs := by
    cases v with
    | agg cs => exact ⟨cs, rfl⟩
    | _ => simp [Value.cells] at hl
  have hcl : cs.toList.length = 11 := hl
  obtain ⟨l, rfl⟩ : ∃ l : List Value, cs = l.toArray := ⟨cs.toList, rfl⟩
  match l, hcl with
  | [c0, c1, c2, c3, c4, c5, c6, c7, c8, c9, c10], _ =>
    have f0 : DataW.trod enc Try.prog w 0 (fun _ => true) held m 3 (([c0, c1, c2, c3, c4, c5, c6, c7, c8, c9, c10].drop 0).take (Try.prog.cellsOf 3)) = xs[0]? := hf 0 _ rfl
    have f1 : DataW.trod enc Try.prog w 0 (fun _ => true) held m 3 (([c0, c1, c2, c3, c4, c5, c6, c7, c8, c9, c10].drop 1).take (Try.prog.cellsOf 3)) = xs[1]? := hf 1 _ rfl
    have f2 : DataW.trod enc Try.prog w 0 (fun _ => true) held m 3 (([c0, c1, c2, c3, c4, c5, c6, c7, c8, c9, c10].drop 2).take (Try.prog.cellsOf 3)) = xs[2]? := hf 2 _ rfl
    have f3 : DataW.trod enc Try.prog w 0 (fun _ => true) held m 3 (([c0, c1, c2, c3, c4, c5, c6, c7, c8, c9, c10].drop 3).take (Try.prog.cellsOf 3)) = xs[3]? := hf 3 _ rfl
    have f4 : DataW.trod enc Try.prog w 0 (fun _ => true) held m 3 (([c0, c1, c2, c3, c4, c5, c6, c7, c8, c9, c10].drop 4).take (Try.prog.cellsOf 3)) = xs[4]? := hf 4 _ rfl
    have f5 : DataW.trod enc Try.prog w 0 (fun _ => true) held m 4 (([c0, c1, c2, c3, c4, c5, c6, c7, c8, c9, c10].drop 5).take (Try.prog.cellsOf 4)) = xs[5]? := hf 5 _ rfl
    have f6 : DataW.trod enc Try.prog w 0 (fun _ => true) held m 4 (([c0, c1, c2, c3, c4, c5, c6, c7, c8, c9, c10].drop 6).take (Try.prog.cellsOf 4)) = xs[6]? := hf 6 _ rfl
    have f7 : DataW.trod enc Try.prog w 0 (fun _ => true) held m 23 (([c0, c1, c2, c3, c4, c5, c6, c7, c8, c9, c10].drop 7).take (Try.prog.cellsOf 23)) = xs[7]? := hf 7 _ rfl
    have f8 : DataW.trod enc Try.prog w 0 (fun _ => true) held m 42 (([c0, c1, c2, c3, c4, c5, c6, c7, c8, c9, c10].drop 8).take (Try.prog.cellsOf 42)) = xs[8]? := hf 8 _ rfl
    have f9 : DataW.trod enc Try.prog w 0 (fun _ => true) held m 3 (([c0, c1, c2, c3, c4, c5, c6, c7, c8, c9, c10].drop 9).take (Try.prog.cellsOf 3)) = xs[9]? := hf 9 _ rfl
    have f10 : DataW.trod enc Try.prog w 0 (fun _ => true) held m 43 (([c0, c1, c2, c3, c4, c5, c6, c7, c8, c9, c10].drop 10).take (Try.prog.cellsOf 43)) = xs[10]? := hf 10 _ rfl
    rw [Try.cells3] at f0 f1 f2 f3 f4 f9
    rw [Try.cells4] at f5 f6
    rw [Try.cells23] at f7
    rw [Try.cells42] at f8
    rw [Try.cells43] at f10
    rw [List.getElem?_eq_getElem (by omega)] at f0 f1 f2 f3 f4 f5 f6 f7 f8 f9 f10
    obtain ⟨z0, e0, _, _⟩ := DataW.trod_int Try.underlying3 f0
    obtain ⟨z1, e1, _, _⟩ := DataW.trod_int Try.underlying3 f1
    obtain ⟨z2, e2, _, _⟩ := DataW.trod_int Try.underlying3 f2
    obtain ⟨z3, e3, _, _⟩ := DataW.trod_int Try.underlying3 f3
    obtain ⟨z4, e4, _, _⟩ := DataW.trod_int Try.underlying3 f4
    obtain ⟨z5, e5, _⟩ := DataW.trod_bool Try.underlying4 f5
    obtain ⟨z6, e6, _⟩ := DataW.trod_bool Try.underlying4 f6
    obtain ⟨v7, l7, e7, h7, _, _⟩ := bytes_in f7
    obtain ⟨v8, l8, e8, h8⟩ := spans_in f8
    obtain ⟨z9, e9, _, _⟩ := DataW.trod_int Try.underlying3 f9
    obtain ⟨v10, l10, e10, h10⟩ := skips_in f10
    simp at e0 e1 e2 e3 e4 e5 e6 e7 e8 e9 e10
    subst e0 e1 e2 e3 e4 e5 e6 e7 e8 e9 e10
    exact ⟨⟨z0, z1, z2, z3, z4, z5, z6, l7, l8, z9, l10⟩, _, _, _, rfl, h7, h8, h10⟩
end
end Go.Proofs.Ytnddejdndipddab
