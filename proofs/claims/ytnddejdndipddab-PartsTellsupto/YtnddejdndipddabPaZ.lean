/- Pieces that came in. -/
import Derived.Test.YtnddejdndipddabPaB
import Derived.Test.YtnddejdndipddabGZ
import Derived.Test.YtnddejdndipddabGB
set_option maxRecDepth 20000
namespace Go.Proofs.Ytnddejdndipddab
open Go.ChangeShapes Go.WideShapes Go.ChangeAt Go.RowKit

theorem Try.cellsPc : Try.prog.cellsOf 47 = 12 := by kernel_rfl
instance : Inhabited Pc := ⟨⟨0, Ck.zero⟩⟩

section
variable {H : Type} {enc : TypeId × Value → H} {w : World} {held : Bool}

/-- A chunk that came in, as cells. -/
theorem chunk_at2 {x : DataW H × List MemPlace} {fuel : Nat} {cs : List Value} (h : DataW.trod enc Try.prog w 0 (fun _ => true) held fuel 45 cs = some x) : ∃ v c, cs = v.cells.toList ∧ CkV w.heap.size w v c ∧ c.data.length ≤ Rows.uptoBulk x.1 := by
  obtain ⟨xs, m, _, hx, hl, hxl, hf⟩ := DataW.trod_struct Try.underlying45 h
  rw [Try.cells45] at hl
  have hxl3 : xs.length = 11 := hxl
  match cs, hl with
  | [c0, c1, c2, c3, c4, c5, c6, c7, c8, c9, c10], _ =>
    have f0 : DataW.trod enc Try.prog w 0 (fun _ => true) held m 3 (([c0, c1, c2, c3, c4, c5, c6, c7, c8, c9, c10].drop 0).take (Try.prog.cellsOf 3)) = xs[0]? := hf 0 _ rfl
    have f1 : DataW.trod enc Try.prog w 0 (fun _ => true) held m 3 (([c0, c1, c2, c3, c4, c5, c6, c7, c8, c9, c10].drop 1).take (Try.prog.cellsOf 3)) = xs[1]? := hf 1 _ rfl
    have f2 : DataW.trod enc Try.prog w 0 (fun _ => true) held m 3 (([c0, c1, c2, c3, c4, c5, c6, c7, c8, c9, c10].drop 2).take (Try.prog.cellsOf 3)) = xs[2]? := hf 2 _ rfl
    have f3 : DataW.trod enc Try.prog w 0 (fun _ => true) held m 3 (([c0, c1, c2, c3, c4, c5, c6, c7, c8, c9, c10].drop 3).take (Try.prog.cellsOf 3)) = xs[3]? := hf 3 _ rfl
    have f4 : DataW.trod enc Try.prog w 0 (fun _ => true) held m 3 (([c0, c1, c2, c3, c4, c5, c6, c7, c8, c9, c10].drop 4).take (Try.prog.cellsOf 3)) = xs[4]? := hf 4 _ rfl
    have f5 : DataW.trod enc Try.prog w 0 (fun _ => true) held m 4 (([c0, c1, c2, c3, c4, c5, c6, c7, c8, c9, c10].drop 5).take (Try.prog.cellsOf 4)) = xs[5]? := hf 5 _ rfl
    have f6 : DataW.trod enc Try.prog w 0 (fun _ => true) held m 4 (([c0, c1, c2, c3, c4, c5, c6, c7, c8, c9, c10].drop 6).take (Try.prog.cellsOf 4)) = xs[6]? := hf 6 _ rfl
    have f7 : DataW.trod enc Try.prog w 0 (fun _ => true) held m 23 (([c0, c1, c2, c3, c4, c5, c6, c7, c8, c9, c10].drop 7).take (Try.prog.cellsOf 23)) = xs[7]? := hf 7 _ rfl
    have f8 : DataW.trod enc Try.prog w 0 (fun _ => true) held m 42 (([c0, c1, c2, c3, c4, c5, c6, c7, c8, c9, c10].drop 8).take (Try.prog.cellsOf 42)) = xs[8]? := hf 8 _ rfl
    have f9 : DataW.trod enc Try.prog w 0 (fun _ => true) held m 3 (([c0, c1, c2, c3, c4, c5, c6, c7, c8, c9, c10].drop 9).take (Try.prog.cellsOf 3)) = xs[9]? := hf 9 _ rfl
    have f10 : DataW.trod enc Try.prog w 0 (fun _ => true) held m 43 (([c0, c1, c2, c3, c4, c5, c6, c7, c8, c9, c10].drop 10).take (Try.prog.cellsOf 43)) = xs[10]? := hf 10 _ rfl
    rw [Try.cells3] at f0 f1 f2 f3 f4 f9
    rw [Try.cells4] at f5 f6
    rw [Try.cells23] at f7
    rw [Try.cells42] at f8
    rw [Try.cells43] at f10
    rw [List.getElem?_eq_getElem (by omega)] at f0 f1 f2 f3 f4 f5 f6 f7 f8 f9 f10
    obtain ⟨z0, e0, _, _⟩ := DataW.trod_int Try.underlying3 f0
    obtain ⟨z1, e1, _, _⟩ := DataW.trod_int Try.underlying3 f1
    obtain ⟨z2, e2, _, _⟩ := DataW.trod_int Try.underlying3 f2
    obtain ⟨z3, e3, _, _⟩ := DataW.trod_int Try.underlying3 f3
    obtain ⟨z4, e4, _, _⟩ := DataW.trod_int Try.underlying3 f4
    obtain ⟨z5, e5, _⟩ := DataW.trod_bool Try.underlying4 f5
    obtain ⟨z6, e6, _⟩ := DataW.trod_bool Try.underlying4 f6
    obtain ⟨v7, l7, e7, h7, _, b7⟩ := bytes_in f7
    obtain ⟨v8, l8, e8, h8⟩ := spans_in f8
    obtain ⟨z9, e9, _, _⟩ := DataW.trod_int Try.underlying3 f9
    obtain ⟨v10, l10, e10, h10⟩ := skips_in f10
    simp at e0 e1 e2 e3 e4 e5 e6 e7 e8 e9 e10
    subst e0 e1 e2 e3 e4 e5 e6 e7 e8 e9 e10
    refine ⟨ckVal ⟨z0, z1, z2, z3, z4, z5, z6, l7, l8, z9, l10⟩ _ _ _, ⟨z0, z1, z2, z3, z4, z5, z6, l7, l8, z9, l10⟩, rfl, ⟨_, _, _, rfl, h7, h8, h10⟩, ?_⟩
    have hm : (xs[7]'(by omega)).1 ∈ xs.map (·.1) := List.mem_map_of_mem (List.getElem_mem _)
    have h1 := b7 (Rows.uptoBulk (xs[7]'(by omega)).1) fun es sp e => by rw [e]; have := bulk_slice es sp; omega
    have h2 := bulk_mem hm
    rw [hx]
    show l7.length ≤ Rows.uptoBulk (.agg (xs.map (·.1)))
    simp only [Rows.uptoBulk]
    omega

/-- A piece that came in, as cells. -/
theorem piece_at {x : DataW H × List MemPlace} {fuel : Nat} {cs : List Value} (h : DataW.trod enc Try.prog w 0 (fun _ => true) held fuel 47 cs = some x) : ∃ v p, cs = v.cells.toList ∧ PcV w.heap.size w v p ∧ p.ck.data.length ≤ Rows.uptoBulk x.1 := by
  obtain ⟨xs, m, _, hx, hl, hxl, hf⟩ := DataW.trod_struct Try.underlying47 h
  rw [Try.cellsPc] at hl
  have hxl3 : xs.length = 2 := hxl
  match cs, hl with
  | c0 :: r, hl =>
    have hr : r.length = 11 := by simpa using hl
    have f0 : DataW.trod enc Try.prog w 0 (fun _ => true) held m 3 (((c0 :: r).drop 0).take (Try.prog.cellsOf 3)) = xs[0]? := hf 0 _ rfl
    have f1 : DataW.trod enc Try.prog w 0 (fun _ => true) held m 45 (((c0 :: r).drop 1).take (Try.prog.cellsOf 45)) = xs[1]? := hf 1 _ rfl
    rw [Try.cells3] at f0
    rw [Try.cells45, List.drop_succ_cons, List.drop_zero, List.take_of_length_le (by omega)] at f1
    rw [List.getElem?_eq_getElem (by omega)] at f0 f1
    obtain ⟨z0, e0, _, _⟩ := DataW.trod_int Try.underlying3 f0
    obtain ⟨v, c, e, ⟨d, s, k, rfl, hd, hs, hk⟩, hbd⟩ := chunk_at2 f1
    simp at e0
    subst e0 e
    refine ⟨pcVal ⟨z0, c⟩ d s k, ⟨z0, c⟩, rfl, ⟨d, s, k, rfl, hd, hs, hk⟩, ?_⟩
    have hm : (xs[1]'(by omega)).1 ∈ xs.map (·.1) := List.mem_map_of_mem (List.getElem_mem _)
    have h2 := bulk_mem hm
    rw [hx]
    show c.data.length ≤ Rows.uptoBulk (.agg (xs.map (·.1)))
    simp only [Rows.uptoBulk]
    omega

/-- Pieces that came in, of bulk at most m. -/
theorem pieces_in {x : DataW H × List MemPlace} {fuel : Nat} {cs : List Value} {m : Nat} (h : DataW.trod enc Try.prog w 0 (fun _ => true) held fuel 35 cs = some x) (hm : Rows.uptoBulk x.1 ≤ m) :
    ∃ v l, cs = [v] ∧ PcS w.heap.size w v l ∧ IsSl v ∧ l.length ≤ m ∧ ∀ p ∈ l, p.ck.data.length ≤ m := by
  rcases Deep.open_slice Try.underlying35 h with ⟨hcs, _⟩ | ⟨x', ln, cp, m', n, D, Pl, hcs, hb, hl, hmx, hmm, hx, hcell⟩
  · exact ⟨_, [], hcs, SlG.nil _ _ _ _, isl, Nat.zero_le _, fun p hp => by simp at hp⟩
  · obtain ⟨v, l, e, hs, hi, hq⟩ := things_in (Q := fun d p => p.ck.data.length ≤ Rows.uptoBulk d) PcV.bears Try.underlying35 Try.cellsPc (by decide) (fun ht => piece_at ht) h
    rw [hx] at hm hq
    obtain ⟨q1, q2⟩ := hq _ _ rfl
    simp only [Rows.uptoBulk] at hm
    have h1 := bulk_all ((List.range ln).map D)
    refine ⟨v, l, e, hs, hi, by omega, fun p hp => ?_⟩
    obtain ⟨k, hk⟩ := List.getElem?_of_mem hp
    obtain ⟨d, hd, hle⟩ := q2 k p hk
    have h2 := bulk_mem (List.mem_of_getElem? hd)
    omega
end
end Go.Proofs.Ytnddejdndipddab
