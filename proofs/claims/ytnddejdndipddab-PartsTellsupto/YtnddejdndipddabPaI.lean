/- The document's Join. -/
import Derived.Test.YtnddejdndipddabPaH
set_option maxRecDepth 20000
namespace Go.Proofs.Ytnddejdndipddab
open Go.RowKit

theorem dataAt_one {l : List Pc} {f k : Nat} {p : Pc} (h : l[f]? = some p) (hp : p.part = (k : Int)) (hu : ∀ (j : Nat) q, l[j]? = some q → q.part = (k : Int) → j = f) : dataAt l k = p.ck.data := by
  unfold dataAt
  cases hf : l.find? (fun p => decide (p.part = (k : Int))) with
  | none => exact absurd hp (by simpa using List.find?_eq_none.1 hf p (List.mem_of_getElem? h))
  | some x =>
    have hx : x.part = (k : Int) := by simpa using List.find?_some hf
    obtain ⟨j, hj⟩ := List.getElem?_of_mem (List.mem_of_find?_eq_some hf)
    have := hu j x hj hx
    subst this
    rw [h] at hj
    simp only [Option.some.injEq] at hj
    subst hj
    rfl

/-- What is found among the first ones: none, or one. -/
def FoSt (l : List Pc) (k i : Nat) (f : Int) : Prop := (f = -1 ∧ ∀ (j : Nat) q, j < i → l[j]? = some q → q.part ≠ (k : Int)) ∨ ∃ g : Nat, f = (g : Int) ∧ g < i ∧ (∃ q, l[g]? = some q ∧ q.part = (k : Int)) ∧ ∀ (j : Nat) q, j < i → l[j]? = some q → q.part = (k : Int) → j = g

theorem FoSt.skip {l : List Pc} {k i : Nat} {f : Int} (h : FoSt l k i f) (hi : i < l.length) (hne : ¬ l[i].part = (k : Int)) : FoSt l k (i + 1) f := by
  have key : ∀ (j : Nat) q, j < i + 1 → l[j]? = some q → q.part = (k : Int) → j < i := by
    intro j q hj hq hp
    rcases Nat.lt_or_ge j i with h | h
    · exact h
    · have : j = i := by omega
      subst this
      rw [List.getElem?_eq_getElem hi] at hq
      simp only [Option.some.injEq] at hq
      subst hq
      exact absurd hp hne
  rcases h with ⟨h1, h2⟩ | ⟨g, h1, h2, h3, h4⟩
  · exact .inl ⟨h1, fun j q hj hq hp => h2 j q (key j q hj hq hp) hq hp⟩
  · exact .inr ⟨g, h1, by omega, h3, fun j q hj hq hp => h4 j q (key j q hj hq hp) hq hp⟩
theorem FoSt.hit {l : List Pc} {k i : Nat} (h : FoSt l k i (-1)) (hi : i < l.length) (he : l[i].part = (k : Int)) : FoSt l k (i + 1) (i : Int) := by
  rcases h with ⟨_, h2⟩ | ⟨g, h1, _⟩
  · refine .inr ⟨i, rfl, by omega, ⟨l[i], List.getElem?_eq_getElem hi, he⟩, fun j q hj hq hp => ?_⟩
    rcases Nat.lt_or_ge j i with h | h
    · exact absurd hp (h2 j q h hq)
    · omega
  · omega
theorem FoSt.twice {l : List Pc} {k i g : Nat} (h : FoSt l k i (g : Int)) (hi : i < l.length) (hk : k < l.length) (he : l[i].part = (k : Int)) : ¬ goodN l.length l := by
  rcases h with ⟨h1, _⟩ | ⟨g', h1, h2, ⟨q, h3, h4⟩, _⟩
  · omega
  · intro g0
    obtain ⟨i0, p, u1, u2, u3, u4⟩ := uniq_of_good g0 k hk
    have e1 := u4 g' q h3 h4
    have e2 := u4 i l[i] (List.getElem?_eq_getElem hi) he
    omega
theorem FoSt.none {l : List Pc} {k : Nat} (h : FoSt l k l.length (-1)) (hk : k < l.length) : ¬ goodN l.length l := by
  rcases h with ⟨_, h2⟩ | ⟨g', h1, _⟩
  · intro g0
    obtain ⟨i0, p, u1, u2, u3, u4⟩ := uniq_of_good g0 k hk
    exact h2 i0 p (List.getElem?_eq_some_iff.1 u1).1 u1 u2
  · omega
theorem FoSt.one {l : List Pc} {k g : Nat} (h : FoSt l k l.length (g : Int)) : g < l.length ∧ (∀ hg : g < l.length, l[g].part = (k : Int) ∧ dataAt l k = l[g].ck.data ∧ (l[g].ck.last = decide ((k : Int) = (l.length : Int) - 1) → uniq l k) ∧ (l[g].ck.last ≠ decide ((k : Int) = (l.length : Int) - 1) → k < l.length → ¬ goodN l.length l)) := by
  rcases h with ⟨h1, _⟩ | ⟨g', h1, h2, ⟨q, h3, h4⟩, h5⟩
  · omega
  · have : g' = g := by omega
    subst this
    refine ⟨h2, fun hg => ?_⟩
    rw [List.getElem?_eq_getElem hg] at h3
    simp only [Option.some.injEq] at h3
    subst h3
    have hu : ∀ (j : Nat) q, l[j]? = some q → q.part = (k : Int) → j = g' := fun j q hj hq => h5 j q (List.getElem?_eq_some_iff.1 hj).1 hj hq
    refine ⟨h4, dataAt_one (List.getElem?_eq_getElem hg) h4 hu, fun hl => ⟨g', _, List.getElem?_eq_getElem hg, h4, hl, hu⟩, fun hl hk g0 => ?_⟩
    obtain ⟨i0, p, u1, u2, u3, u4⟩ := uniq_of_good g0 k hk
    have e := hu i0 p u1 u2
    subst e
    rw [List.getElem?_eq_getElem hg] at u1
    simp only [Option.some.injEq] at u1
    subst u1
    exact hl u3

/-- The bytes so far. -/
structure RjSt (w : World) (l : List Pc) (k nb : Nat) (o : Value) (wr : World) : Prop where
  own : wr.ownsRow w.heap.size 5 1 o nb (cellsB ((List.range k).map (dataAt l)).flatten)
  len : nb = ((List.range k).map (dataAt l)).flatten.length
  isB : IsB ((List.range k).map (dataAt l)).flatten
  bel : Below w.heap.size w wr
  un : ∀ i, i < k → uniq l i

theorem RjSt.below {w wr w1 : World} {l : List Pc} {k nb : Nat} {o : Value} (h : RjSt w l k nb o wr) (b : Below wr.heap.size wr w1) : RjSt w l k nb o w1 :=
  ⟨own_of_block h.own fun k hk => b.block k (h.own.lt k hk).2, h.len, h.isB, h.bel.trans (b.mono h.bel.size), h.un⟩
theorem range_snoc (l : List Pc) (k : Nat) : ((List.range (k + 1)).map (dataAt l)).flatten = ((List.range k).map (dataAt l)).flatten ++ dataAt l k := by
  rw [List.range_succ, List.map_append, List.flatten_append, List.map_cons, List.map_nil, List.flatten_cons, List.flatten_nil, List.append_nil]
theorem RjSt.step {w wr w1 : World} {l : List Pc} {k nb : Nat} {o o' : Value} (h : RjSt w l k nb o wr) (hu : uniq l k) (hB : IsB (dataAt l k)) (ho : w1.ownsRow w.heap.size 5 1 o' (nb + (dataAt l k).length) (cellsB ((List.range k).map (dataAt l)).flatten ++ cellsB (dataAt l k))) (hg : wr.grownBy w1 o.ownBlock) :
    RjSt w l (k + 1) (nb + (dataAt l k).length) o' w1 := by
  refine ⟨by rw [range_snoc, cellsB_append]; exact ho, by rw [range_snoc, List.length_append, h.len], by rw [range_snoc]; exact h.isB.append hB, h.bel.grown hg h.bel.size fun k hk => (h.own.lt k hk).1, fun i hi => ?_⟩
  rcases Nat.lt_or_ge i k with h' | h'
  · exact h.un i h'
  · have : i = k := by omega
    subst this
    exact hu
end Go.Proofs.Ytnddejdndipddab
