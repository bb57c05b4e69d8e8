/- Slices of spans: their cells in a row, a piece of one, and what append makes of them. -/
import Derived.Test.YtnddejdndipddabD
import Derived.Deep.RegionLawGrows
set_option maxRecDepth 20000
namespace Go.Proofs.Ytnddejdndipddab
open Go.RowKit

/-- The cells of spans, in a row. -/
def flat (l : List Sp) : List Value := l.flatMap fun s => [.int .i64 s.1, .int .i64 s.2]

theorem flat_nil : flat [] = [] := rfl
theorem flat_cons (s : Sp) (l : List Sp) : flat (s :: l) = .int .i64 s.1 :: .int .i64 s.2 :: flat l := rfl
theorem flat_append (l m : List Sp) : flat (l ++ m) = flat l ++ flat m := by simp [flat]
theorem flat_length (l : List Sp) : (flat l).length = l.length * 2 := by
  induction l with
  | nil => rfl
  | cons s r ih => simp [flat_cons, ih]; omega
theorem flat_one (l : List Sp) : ∀ u ∈ flat l, u.oneCell' = true := by
  intro u hu
  simp only [flat, List.mem_flatMap] at hu
  obtain ⟨s, _, hs⟩ := hu
  simp at hs
  rcases hs with rfl | rfl <;> rfl
theorem flat_get (l : List Sp) (k : Nat) (s : Sp) (h : l[k]? = some s) : (flat l)[k * 2]? = some (.int .i64 s.1) ∧ (flat l)[k * 2 + 1]? = some (.int .i64 s.2) := by
  induction l generalizing k with
  | nil => simp at h
  | cons x r ih =>
    cases k with
    | zero => simp at h; subst h; simp [flat_cons]
    | succ k =>
      simp at h
      have := ih k h
      rw [show (k + 1) * 2 = k * 2 + 1 + 1 by omega]
      simpa [flat_cons] using this

theorem add_plain (b off j : Nat) : (⟨b, off, none⟩ : Addr).add j = ⟨b, off + j, none⟩ := by
  unfold Addr.add
  split
  · simp_all
  · rfl

theorem SpAt.flat {w : World} {b off : Nat} {l : List Sp} (h : SpAt w b off l) : ∀ j u, (flat l)[j]? = some u → w.cell? ((⟨b, off, none⟩ : Addr).add j) = some u := by
  intro j u hu
  have hj : j < l.length * 2 := by rw [← flat_length]; exact (List.getElem?_eq_some_iff.1 hu).1
  have hk : l[j / 2]? = some l[j / 2] := by simp
  have h1 := h (j / 2) _ hk
  have h2 := flat_get l (j / 2) _ hk
  rw [add_plain]
  rcases Nat.mod_two_eq_zero_or_one j with e | e
  · rw [show j / 2 * 2 = j by omega] at h1 h2
    rw [h2.1] at hu
    simp only [Option.some.injEq] at hu
    rw [← hu]; exact h1.1
  · rw [Nat.add_assoc, show j / 2 * 2 + 1 = j by omega] at h1
    rw [show j / 2 * 2 + 1 = j by omega] at h2
    rw [h2.2] at hu
    simp only [Option.some.injEq] at hu
    rw [← hu]; exact h1.2

theorem Fit.take {l : List Sp} (h : Fit l) (k : Nat) : Fit (l.take k) := fun s hs => h s (List.mem_of_mem_take hs)
theorem Fit.drop {l : List Sp} (h : Fit l) (k : Nat) : Fit (l.drop k) := fun s hs => h s (List.mem_of_mem_drop hs)
theorem Fit.append {l m : List Sp} (h : Fit l) (h' : Fit m) : Fit (l ++ m) := fun s hs => (List.mem_append.1 hs).elim (h s) (h' s)

theorem SpAt.piece {w : World} {b off : Nat} {l : List Sp} (h : SpAt w b off l) (lo hi : Nat) : SpAt w b (off + lo * 2) ((l.take hi).drop lo) := by
  intro k s hs
  rw [List.getElem?_drop] at hs
  have hs' := (List.getElem?_eq_some_iff.1 hs)
  have : l[lo + k]? = some s := by
    rw [List.getElem?_take] at hs
    split at hs
    · exact hs
    · cases hs
  have := h (lo + k) s this
  rw [show off + (lo + k) * 2 = off + lo * 2 + k * 2 by omega] at this
  exact this

/-- A piece of a slice. -/
theorem Sl.piece {B : Nat} {w : World} {a : Option Addr} {cap : Nat} {l : List Sp} (h : Sl B w (.slice a l.length cap) l) (lo hi : Nat) (h1 : lo ≤ hi) (h2 : hi ≤ l.length) : Sl B w (sliced a lo hi cap 2) ((l.take hi).drop lo) := by
  obtain ⟨a', cap', he, g1, g2, g0, g3, g4⟩ := h
  simp only [Value.slice.injEq] at he
  obtain ⟨rfl, -, rfl⟩ := he
  have hlen : ((l.take hi).drop lo).length = hi - lo := by simp; omega
  refine ⟨if cap = lo then a else a.map (·.add (lo * 2)), cap - lo, ?_, by omega, by omega, ?_, (g3.take _).drop _, fun hn => ?_⟩
  · rw [hlen]; rfl
  · intro hh
    split at hh
    · have := g0 hh; omega
    · simp at hh; have := g0 hh; omega
  · have hl : l ≠ [] := by rintro rfl; simp at hn
    obtain ⟨b, off, rfl, hb, hat⟩ := g4 hl
    have : lo < hi := by
      rcases Nat.lt_or_ge lo hi with h | h
      · exact h
      · exact absurd (List.eq_nil_of_length_eq_zero (by omega)) hn
    refine ⟨b, off + lo * 2, ?_, hb, hat.piece lo hi⟩
    rw [if_neg (by omega)]
    simp [add_plain]

theorem Try.info87 : (Try.prog.info? 87).map (fun i => (i.zero, i.size, i.bytes)) = some (some (.agg #[.int .i64 0, .int .i64 0]), 2, 16) := by kernel_rfl

/-- What append makes of a row of the call's own and a slice. -/
theorem run_append_sp (w : World) (base : Nat) (ty : TypeId) (v : Value) (n : Nat) (xs : List Value) (hown : w.ownsRow base 87 2 v n xs) (x : Value) (B : Nat) (l : List Sp) (hx : Sl B w x l)
    (hbytes : (n + l.length) * 16 ≤ 140737488355328) (hbase : base ≤ w.heap.size) :
    ∃ v' w', (Builtin.append_ #[42, 42] ty #[v, x]).run Try.prog w = .ok v' w' ∧ w'.ownsRow base 87 2 v' (n + l.length) (xs ++ flat l) ∧ w.grownBy w' v.ownBlock := by
  obtain ⟨i0, hi, hz0, hz1, hz2⟩ := info_parts Try.info87
  obtain ⟨a, cap, rfl, g1, g2, g0, g3, g4⟩ := hx
  have h63 : n + l.length ≤ maxLen := by unfold maxLen; omega
  cases a with
  | none =>
    have hc := g0 rfl
    subst hc
    have hl : l = [] := List.eq_nil_of_length_eq_zero (by omega)
    subst hl
    refine ⟨v, w, run_append_owned_none w base 42 ty 87 i0 2 Try.underlying42 hi v n xs hown, by simpa [flat_nil] using hown, ⟨rfl, rfl, rfl, Nat.le_refl _, fun _ _ _ => rfl⟩⟩
  | some ad =>
    have hc : ∀ j u, (flat l)[j]? = some u → w.cell? (ad.add j) = some u := by
      by_cases hl : l = []
      · subst hl; simp [flat_nil]
      · obtain ⟨b, off, he, hb, hat⟩ := g4 hl
        simp only [Option.some.injEq] at he
        subst he
        exact hat.flat
    obtain ⟨v', w', r1, r2, r3, _⟩ := run_append_own (P := Try.prog) w base 42 ty 87 i0 (.agg #[.int .i64 0, .int .i64 0]) 2 16 Try.underlying42 hi hz0 hz1 hz2 rfl (by decide) v n xs hown ad l.length cap (flat l) (flat_length l) hc (flat_one l) h63 hbytes hbase
    exact ⟨v', w', r1, r2, r3⟩

theorem wpList_append_sp (w : World) {ops : Array Oper} {rest : List Oper} {o : Oper} {a : Act} {Q : Exit → Act → World → Prop} (hgd : o.guard = none) (s x : Operand)
    (ho : o.op = .call { callee := .builtin .append, args := #[s, x], argTypes := #[42, 42] })
    (base : Nat) (v : Value) (n : Nat) (xs : List Value) (hs : a.eval s = v) (hown : w.ownsRow base 87 2 v n xs) (B : Nat) (l : List Sp) (y : Value) (hy : a.eval x = y) (hx : Sl B w y l)
    (hbytes : (n + l.length) * 16 ≤ 140737488355328) (hbase : base ≤ w.heap.size)
    (h : ∀ v' w', w'.ownsRow base 87 2 v' (n + l.length) (xs ++ flat l) → w.grownBy w' v.ownBlock → wpList Try.prog ops Q rest (a.put o.dst v') w') : wpList Try.prog ops Q (o :: rest) a w :=
  wpList_plain hgd fun _ hK => by
    obtain ⟨v', w', hr, h2, h3⟩ := run_append_sp w base o.type v n xs hown y B l hx hbytes hbase
    unfold Oper.wp execOp
    simp only [ho, resolve, invoke, builtin, Sem.run_bind, Sem.run_pure, Result.andThen_ok, List.map_toArray, List.map_cons, List.map_nil, hs, hy, hr]
    exact hK _ _ (h v' w' h2 h3)

/-- There is room: nothing is laid anew. -/
theorem run_append_fit (w : World) (base : Nat) (ty : TypeId) (g n c : Nat) (xs : List Value) (hown : w.ownsRow base 87 2 (.slice (some ⟨g, 0, none⟩) n c) n xs) (x : Value) (B : Nat) (l : List Sp) (hx : Sl B w x l) (hroom : n + l.length ≤ c) :
    ∃ w', (Builtin.append_ #[42, 42] ty #[.slice (some ⟨g, 0, none⟩) n c, x]).run Try.prog w = .ok (.slice (some ⟨g, 0, none⟩) (n + l.length) c) w' ∧ w'.ownsRow base 87 2 (.slice (some ⟨g, 0, none⟩) (n + l.length) c) (n + l.length) (xs ++ flat l) ∧ w.grownBy w' (some g) := by
  obtain ⟨i0, hi, hz0, hz1, hz2⟩ := info_parts Try.info87
  obtain ⟨a, cap, rfl, g1, g2, g0, g3, g4⟩ := hx
  cases a with
  | none =>
    have hc := g0 rfl
    subst hc
    have hl : l = [] := List.eq_nil_of_length_eq_zero (by omega)
    subst hl
    exact ⟨w, run_append_owned_none w base 42 ty 87 i0 2 Try.underlying42 hi _ n xs hown, by simpa [flat_nil] using hown, ⟨rfl, rfl, rfl, Nat.le_refl _, fun _ _ _ => rfl⟩⟩
  | some ad =>
    have hc : ∀ j u, (flat l)[j]? = some u → w.cell? (ad.add j) = some u := by
      by_cases hl : l = []
      · subst hl; simp [flat_nil]
      · obtain ⟨b, off, he, hb, hat⟩ := g4 hl
        simp only [Option.some.injEq] at he
        subst he
        exact hat.flat
    exact run_append_fits (P := Try.prog) w base 42 ty 87 i0 2 Try.underlying42 hi hz1 g n c xs hown ad l.length cap (flat l) (flat_length l) hc (flat_one l) hroom

theorem wpList_append_fit (w : World) {ops : Array Oper} {rest : List Oper} {o : Oper} {a : Act} {Q : Exit → Act → World → Prop} (hgd : o.guard = none) (s x : Operand)
    (ho : o.op = .call { callee := .builtin .append, args := #[s, x], argTypes := #[42, 42] })
    (base g n c : Nat) (xs : List Value) (hs : a.eval s = .slice (some ⟨g, 0, none⟩) n c) (hown : w.ownsRow base 87 2 (.slice (some ⟨g, 0, none⟩) n c) n xs) (B : Nat) (l : List Sp) (y : Value) (hy : a.eval x = y) (hx : Sl B w y l)
    (hroom : n + l.length ≤ c)
    (h : ∀ w', w'.ownsRow base 87 2 (.slice (some ⟨g, 0, none⟩) (n + l.length) c) (n + l.length) (xs ++ flat l) → w.grownBy w' (some g) → wpList Try.prog ops Q rest (a.put o.dst (.slice (some ⟨g, 0, none⟩) (n + l.length) c)) w') : wpList Try.prog ops Q (o :: rest) a w :=
  wpList_plain hgd fun _ hK => by
    obtain ⟨w', hr, h2, h3⟩ := run_append_fit w base o.type g n c xs hown y B l hx hroom
    unfold Oper.wp execOp
    simp only [ho, resolve, invoke, builtin, Sem.run_bind, Sem.run_pure, Result.andThen_ok, List.map_toArray, List.map_cons, List.map_nil, hs, hy, hr]
    exact hK _ _ (h w' h2 h3)

theorem step_append_sp {ops : Array Oper} {o : Oper} {a : Act} {w : World} {K : Act → World → Prop} {Q : Exit → Act → World → Prop} {E : Prop}
    (hg : o.guard = none) (s x : Operand) (hop : o.op = Op.call { callee := Callee.builtin Builtin.append, args := #[s, x], argTypes := #[42, 42] })
    (base : Nat) (v : Value) (n : Nat) (xs : List Value) (hs : a.eval s = v) (hown : w.ownsRow base 87 2 v n xs) (B : Nat) (l : List Sp) (y : Value) (hy : a.eval x = y) (hx : Sl B w y l)
    (hbytes : (n + l.length) * 16 ≤ 140737488355328) (hbase : base ≤ w.heap.size)
    (hK : ∀ v' w', w'.ownsRow base 87 2 v' (n + l.length) (xs ++ flat l) → w.grownBy w' v.ownBlock → K (a.put o.dst v') w') :
    if Region.wanted o (yielded ops a.tmps) = true then Oper.wp Try.prog o a w K Q else E := by
  have hw : Region.wanted o (yielded ops a.tmps) = true := by simp [Region.wanted, hg]
  rw [if_pos hw]
  obtain ⟨v', w', hr, h2, h3⟩ := run_append_sp w base o.type v n xs hown y B l hx hbytes hbase
  unfold Oper.wp
  simp [execOp, hop, resolve, invoke, builtin, hs, hy, hr, Result.andThen]
  exact hK v' w' h2 h3

/-- A row of the call's own is a slice of spans. -/
theorem Sl.own {w : World} {base : Nat} {v : Value} {l : List Sp} (h : w.ownsRow base 87 2 v l.length (flat l)) (hf : Fit l) : Sl w.heap.size w v l := by
  rcases h.2 with ⟨rfl, hn⟩ | ⟨g, cap, cur, rfl, hb, hg, hnc, hcm, hcs, htake⟩
  · have hl : l = [] := List.eq_nil_of_length_eq_zero hn
    subst hl
    exact ⟨none, 0, rfl, by simp, by simp, fun _ => rfl, hf, fun h => absurd rfl h⟩
  · refine ⟨some ⟨g, 0, none⟩, cap, rfl, hnc, by unfold maxLen at hcm; omega, fun h => by simp at h, hf, fun _ => ⟨g, 0, rfl, (Array.getElem?_eq_some_iff.1 hg).1, fun k s hs => ?_⟩⟩
    have hk : k < l.length := (List.getElem?_eq_some_iff.1 hs).1
    have h2 := flat_get l k s hs
    rw [Nat.zero_add]
    exact ⟨(h.cellAt (k * 2) (by omega)).trans h2.1, (h.cellAt (k * 2 + 1) (by omega)).trans h2.2⟩

end Go.Proofs.Ytnddejdndipddab
