/- The contract of Join, of package parts. -/
import Derived.Test.YtnddejdndipddadPaF
set_option maxRecDepth 20000
namespace Go.Proofs.Ytnddejdndipddad
open Go.RowKit

theorem enters_Join_1 (args : Array Value) (wx : World) : (callFunc 86 args).run Try.prog wx = .ok (.enter 86 args) wx := enters_body Try.func86 (by kernel_rfl) rfl args wx
theorem Try.info4 : (Try.prog.info? 4).map (fun i => (i.zero, i.size, i.bytes)) = some (some (.bool false), 1, 1) := by kernel_rfl
/-- make, of bools. -/
theorem run_mkB (n : Nat) (h : n ≤ 281474976710656) (wx : World) : (Instr.makeSlice 115 (.int .i64 (n : Int)) (.int .i64 (n : Int))).run Try.prog wx = .ok (.slice (some ⟨wx.heap.size, 0, none⟩) n n) (wx.alloc (.cells (madeCells #[.bool false] n) 4)) := by
  obtain ⟨i0, hi, hz0, hz1, hz2⟩ := info_parts Try.info4
  have := run_make (P := Try.prog) wx 115 4 i0 (.bool false) Try.underlying115 hi hz0 .i64 .i64 (n : Int) (n : Int) (by omega) (Int.le_refl _) (by rw [hz2]; omega) (by omega)
  rw [hz1, Int.toNat_natCast, Nat.mul_one] at this
  exact this

/-- A slice of slices of bytes, out of the cells of a block. -/
theorem BbS.of_cells {w : World} {O n : Nat} {vs : List Value} {ls : List (List Int)} (hc : Cells O w vs) (hO : O < w.heap.size) (hl : vs.length = n) (hls : ls.length = n) (h63 : n ≤ 9223372036854775807)
    (hb : ∀ (k : Nat) u x, vs[k]? = some u → ls[k]? = some x → By w.heap.size w u x) : BbS w.heap.size w (.slice (some ⟨O, 0, none⟩) n n) ls := by
  have hA : All2 (By w.heap.size w) vs ls := All2.of (by omega) hb
  have hf := All2.flat (By.bears.cells w.heap.size w) hA
  have hfe : ∀ k : Nat, (flatV vs)[k]? = vs[k]? := by
    intro k
    by_cases hk : k < n
    · have e0 : vs[k]? = some vs[k] := List.getElem?_eq_getElem (by omega)
      have e1 : ls[k]? = some ls[k] := List.getElem?_eq_getElem (by omega)
      have := hf.2.1 k _ 0 e0 (by omega)
      rw [Nat.mul_one, Nat.add_zero] at this
      rw [this, e0]
      obtain ⟨_, _, e, -⟩ := (hb k _ _ e0 e1).ex
      rw [e]
      rfl
    · rw [List.getElem?_eq_none (by have := hf.1; omega), List.getElem?_eq_none (by omega)]
  refine ⟨vs, hA, hf.1, some ⟨O, 0, none⟩, n, by rw [hls], by omega, h63, fun h => by simp at h, fun _ => ⟨O, 0, rfl, hO, fun j u hu => ?_⟩⟩
  rw [Nat.zero_add]
  rw [hfe] at hu
  exact hc.cell j u hu

theorem dataAt_snoc_same {l : List Pc} {p : Pc} {q : Nat} (h : ¬ (q : Int) ∈ l.map Pc.part) (hp : p.part = (q : Int)) : dataAt (l ++ [p]) q = p.ck.data := by
  unfold dataAt
  rw [List.find?_append, List.find?_eq_none.2 fun x hx => by simp; intro e; exact h (e ▸ List.mem_map_of_mem hx)]
  simp [hp]
theorem dataAt_snoc_other {l : List Pc} {p : Pc} {k : Nat} (hp : p.part ≠ (k : Int)) : dataAt (l ++ [p]) k = dataAt l k := by
  unfold dataAt
  rw [List.find?_append]
  simp [hp]

/-- The pieces so far: how many in block L, data in block Od (told in Dt), whether it was there in Oh (told in Hd). -/
structure JoSt (w : World) (L Od Dt Oh Hd : Nat) (l : List Pc) (n j : Nat) (wr : World) : Prop where
  bel : Below w.heap.size w wr
  cL : wr.cell? ⟨L, 0, none⟩ = some (.int .i64 ((n : Int) - 1))
  cH : wr.cell? ⟨Hd, 0, none⟩ = some (.slice (some ⟨Oh, 0, none⟩) n n)
  cD : wr.cell? ⟨Dt, 0, none⟩ = some (.slice (some ⟨Od, 0, none⟩) n n)
  sh : Oh < wr.heap.size
  sd : Od < wr.heap.size
  row : ∃ (hs : List Bool) (ds : List Value), hs.length = n ∧ ds.length = n ∧ Cells Oh wr (hs.map Value.bool) ∧ Cells Od wr ds ∧ (∀ k, k < n → hs[k]? = some (decide ((k : Int) ∈ (l.take j).map Pc.part))) ∧ ∀ k, k < n → ∃ u, ds[k]? = some u ∧ By w.heap.size wr u (dataAt (l.take j) k)
  good : goodN n (l.take j)

theorem JoSt.below {w : World} {L Od Dt Oh Hd : Nat} {l : List Pc} {n j : Nat} {wr w1 : World} (h : JoSt w L Od Dt Oh Hd l n j wr) (b : Below wr.heap.size wr w1) : JoSt w L Od Dt Oh Hd l n j w1 := by
  obtain ⟨h1, h2, h3, h4, h5, h6, ⟨hs, ds, g1, g2, g3, g4, g5, g6⟩, h8⟩ := h
  have lt : ∀ {X : Nat} {v : Value}, wr.cell? ⟨X, 0, none⟩ = some v → X < wr.heap.size := fun e => World.block_lt_of_cell? _ _ e
  refine ⟨h1.trans (b.mono h1.size), (b.cell (p := ⟨L, 0, none⟩) (lt h2)).trans h2, (b.cell (p := ⟨Hd, 0, none⟩) (lt h3)).trans h3, (b.cell (p := ⟨Dt, 0, none⟩) (lt h4)).trans h4, Nat.lt_of_lt_of_le h5 b.size, Nat.lt_of_lt_of_le h6 b.size, ⟨hs, ds, g1, g2, g3.below b h5, g4.below b h6, g5, fun k hk => ?_⟩, h8⟩
  obtain ⟨u, e, hb⟩ := g6 k hk
  exact ⟨u, e, hb.below b h1.size⟩

theorem good_snoc {n : Nat} {l : List Pc} {p : Pc} (h : goodN n l) (hp : stands n p) (hf : ¬ p.part ∈ l.map Pc.part) : goodN n (l ++ [p]) := by
  refine ⟨fun x hx => ?_, ?_⟩
  · rcases List.mem_append.1 hx with hx | hx
    · exact h.1 x hx
    · simp at hx; subst hx; exact hp
  · rw [List.map_append, List.nodup_append]
    refine ⟨h.2, by simp, fun a ha b hb => ?_⟩
    simp at hb
    subst hb
    rintro rfl
    exact hf ha

theorem JoSt.step {w : World} {L Od Dt Oh Hd : Nat} {l : List Pc} {n j q : Nat} {wr w1 : World} {d : Value} (hj : j < l.length) (hb : w.heap.size ≤ Oh ∧ w.heap.size ≤ Od) (hn : L ≠ Oh ∧ L ≠ Od ∧ Hd ≠ Oh ∧ Hd ≠ Od ∧ Dt ≠ Oh ∧ Dt ≠ Od)
    (bel : Below w.heap.size w wr) (cL : wr.cell? ⟨L, 0, none⟩ = some (.int .i64 ((n : Int) - 1))) (cH : wr.cell? ⟨Hd, 0, none⟩ = some (.slice (some ⟨Oh, 0, none⟩) n n)) (cD : wr.cell? ⟨Dt, 0, none⟩ = some (.slice (some ⟨Od, 0, none⟩) n n)) (sh : Oh < wr.heap.size) (sd : Od < wr.heap.size)
    {hs : List Bool} {ds : List Value} (g1 : hs.length = n) (g2 : ds.length = n) (g5 : ∀ k, k < n → hs[k]? = some (decide ((k : Int) ∈ (l.take j).map Pc.part))) (g6 : ∀ k, k < n → ∃ u, ds[k]? = some u ∧ By w.heap.size wr u (dataAt (l.take j) k)) (good : goodN n (l.take j))
    (hq : laysB n hs l[j].ck q) (hd : By w.heap.size wr d l[j].ck.data) (c1 : Cells Oh w1 ((hs.set q true).map Value.bool)) (c2 : Cells Od w1 (ds.set q d)) (kp : Keep (fun k => k < wr.heap.size ∧ k ≠ Oh ∧ k ≠ Od) wr w1) : JoSt w L Od Dt Oh Hd l n (j + 1) w1 := by
  obtain ⟨q1, q2, q3, q4⟩ := hq
  obtain ⟨n1, n2, n3, n4, n5, n6⟩ := hn
  have lt : ∀ {X : Nat} {v : Value}, wr.cell? ⟨X, 0, none⟩ = some v → X < wr.heap.size := fun e => World.block_lt_of_cell? _ _ e
  have B1 : Below w.heap.size wr w1 := kp.below fun k hk => ⟨Nat.lt_of_lt_of_le hk bel.size, by omega, by omega⟩
  have et : l.take (j + 1) = l.take j ++ [l[j]] := List.take_succ_eq_append_getElem hj
  have hp : l[j].part = (q : Int) := q1
  have hfree : ¬ (q : Int) ∈ (l.take j).map Pc.part := by
    have := (g5 q q2).symm.trans q3
    simp only [Option.some.injEq, decide_eq_false_iff_not] at this
    exact this
  refine ⟨bel.trans B1, (kp.cell (p := ⟨L, 0, none⟩) ⟨lt cL, n1, n2⟩).trans cL, (kp.cell (p := ⟨Hd, 0, none⟩) ⟨lt cH, n3, n4⟩).trans cH, (kp.cell (p := ⟨Dt, 0, none⟩) ⟨lt cD, n5, n6⟩).trans cD, Nat.lt_of_lt_of_le sh kp.size, Nat.lt_of_lt_of_le sd kp.size,
    ⟨hs.set q true, ds.set q d, by simpa using g1, by simpa using g2, c1, c2, fun k hk => ?_, fun k hk => ?_⟩, ?_⟩
  · rw [et, List.map_append, List.getElem?_set]
    by_cases e : q = k
    · subst e
      rw [if_pos rfl, if_pos (by omega)]
      simp [hp]
    · rw [if_neg e, g5 k hk]
      have : ¬ (k : Int) = l[j].part := by rw [hp]; omega
      simp only [List.map_cons, List.map_nil, List.mem_append, List.mem_singleton, this, or_false]
  · rw [et, List.getElem?_set]
    by_cases e : q = k
    · subst e
      rw [if_pos rfl, if_pos (by omega), dataAt_snoc_same hfree hp]
      exact ⟨d, rfl, hd.below B1 (Nat.le_refl _)⟩
    · rw [if_neg e, dataAt_snoc_other (by rw [hp]; omega)]
      obtain ⟨u, hu, hb⟩ := g6 k hk
      exact ⟨u, hu, hb.below B1 (Nat.le_refl _)⟩
  · rw [et]
    refine good_snoc good ⟨by rw [hp]; omega, by rw [hp]; omega, ?_⟩ (by rw [hp]; exact hfree)
    rw [q4, hp]

/-- What can't be laid: no message. -/
theorem bad_of_lays {l : List Pc} {n j : Nat} (hl : l.length = n) (hj : j < l.length) {hs : List Bool} (g5 : ∀ k, k < n → hs[k]? = some (decide ((k : Int) ∈ (l.take j).map Pc.part))) (hno : ∀ q, ¬ laysB n hs l[j].ck q) : ¬ goodN l.length l := by
  intro g
  obtain ⟨s1, s2, s3⟩ := g.1 l[j] (List.getElem_mem hj)
  refine hno l[j].part.toNat ⟨?_, by omega, ?_, ?_⟩
  · show l[j].part = _; omega
  · rw [g5 _ (by omega)]
    simp only [Option.some.injEq, decide_eq_false_iff_not]
    rw [Int.toNat_of_nonneg s1]
    have hN := g.2
    rw [← List.take_append_drop j l, List.map_append, List.nodup_append] at hN
    intro h
    refine hN.2.2 _ h _ ?_ rfl
    rw [List.drop_eq_getElem_cons hj, List.map_cons]
    exact List.mem_cons_self
  · rw [s3, Int.toNat_of_nonneg s1, hl]

theorem join_bad {l : List Pc} (h : ¬ goodN l.length l) : joinB l = false ∧ joinD l = [] := ⟨decide_eq_false fun g => h g.1, by rw [joinD, if_neg h]⟩
theorem join_good {l : List Pc} (h : goodN l.length l) : joinB l = decide (0 < l.length) ∧ joinD l = ((List.range l.length).map (dataAt l)).flatten := by
  refine ⟨?_, by rw [joinD, if_pos h]; rfl⟩
  unfold joinB
  exact decide_eq_decide.2 ⟨fun g => Nat.pos_of_ne_zero g.2, fun g => ⟨h, by omega⟩⟩

/-- No more than so many bytes. -/
theorem join_len {l : List Pc} {m : Nat} (h : ∀ p ∈ l, p.ck.data.length ≤ m) (n : Nat) : ((List.range n).map (dataAt l)).flatten.length ≤ n * m := by
  induction n with
  | zero => simp
  | succ n ih =>
    rw [List.range_succ, List.map_append, List.flatten_append, List.length_append, Nat.succ_mul]
    have : (dataAt l n).length ≤ m := by
      unfold dataAt
      split
      · rename_i p hp
        exact h p (List.mem_of_find?_eq_some hp)
      · simp
    simp only [List.map_cons, List.map_nil, List.flatten_cons, List.flatten_nil, List.append_nil]
    omega
end Go.Proofs.Ytnddejdndipddad
