/- Slices of whatever things that came in. -/
import Derived.Test.YtnddejdndipddadGS
set_option maxRecDepth 20000
namespace Go.Proofs.Ytnddejdndipddad
open Go.ChangeShapes Go.WideShapes Go.ChangeAt Go.RowKit

section
variable {H : Type} {enc : TypeId × Value → H} {w : World} {held : Bool}

/-- Things that came in, as cells; Q: what is to be known of one and its datum. -/
theorem things_in {α : Type} [Inhabited α] {c : Nat} {R : Nat → World → Value → α → Prop} {Q : DataW H → α → Prop} {T E : TypeId} (hR : Bears c R) (hT : Try.prog.underlying T = some (.slice E)) (hc : Try.prog.cellsOf E = c) (hpos : 0 < c)
    (one : ∀ {y : DataW H × List MemPlace} {fuel : Nat} {cs : List Value}, DataW.trod enc Try.prog w 0 (fun _ => true) held fuel E cs = some y → ∃ v a, cs = v.cells.toList ∧ R w.heap.size w v a ∧ Q y.1 a)
    {x : DataW H × List MemPlace} {fuel : Nat} {cs : List Value} (h : DataW.trod enc Try.prog w 0 (fun _ => true) held fuel T cs = some x) :
    ∃ v l, cs = [v] ∧ SlG c R w.heap.size w v l ∧ IsSl v ∧ ∀ es sp, x.1 = .slice es sp → l.length ≤ es.length ∧ ∀ (k : Nat) a, l[k]? = some a → ∃ d, es[k]? = some d ∧ Q d a := by
  rcases Deep.open_slice hT h with ⟨hcs, _⟩ | ⟨x', l, cp, m, n, D, Pl, hcs, hb, hl, hm, hmm, hx, hcell⟩
  · exact ⟨_, [], hcs, SlG.nil _ _ _ _, isl, fun es sp _ => ⟨Nat.zero_le _, fun k a e => by simp at e⟩⟩
  · simp only [if_true] at hmm
    subst hmm
    rw [hc] at hcell
    have each : ∀ i, i < m → ∃ q : Value × α, R w.heap.size w q.1 q.2 ∧ Q (D i) q.2 ∧ ∀ j u, q.1.cells.toList[j]? = some u → w.cell? (x'.add (i * c + j)) = some u := by
      intro i hi
      obtain ⟨cs', hc', ht⟩ := hcell i hi
      obtain ⟨v, a, rfl, hv, hq⟩ := one ht
      obtain ⟨_, _, hcc⟩ := World.cells?_some hc'
      refine ⟨(v, a), hv, hq, fun j u hu => ?_⟩
      have hj : j < c := by have := (List.getElem?_eq_some_iff.1 hu).1; rw [hR.cells _ _ _ _ hv] at this; exact this
      have := hcc j hj
      rw [hu] at this
      rw [← this, add_add]
    obtain ⟨q, hq⟩ := Deep.choose_lt each
    have hE : All2 (R w.heap.size w) ((List.range l).map fun i => (q i).1) ((List.range l).map fun i => (q i).2) := by
      refine All2.of (by simp) fun k v a e e' => ?_
      have hk : k < l := by simpa using (List.getElem?_eq_some_iff.1 e).1
      simp [hk] at e e'
      rw [← e, ← e']
      exact (hq k (by omega)).1
    have hf := All2.flat (hR.cells w.heap.size w) hE
    refine ⟨_, (List.range l).map fun i => (q i).2, hcs, ⟨_, hE, ?_, some x', m, by simp, by simpa using hl, by unfold maxLen at hm; omega, fun h => by simp at h, fun hn => ?_⟩, isl, ?_⟩
    · exact hf.1
    · have hpos' : 0 < l := by simp at hn; omega
      have c0 : w.cell? (x'.add (0 * c + 0)) = some ((q 0).1.cells.toList[0]'(by rw [hR.cells _ _ _ _ (hq 0 (by omega)).1]; omega)) := (hq 0 (by omega)).2.2 0 _ (by simp)
      generalize (q 0).1.cells.toList[0]'_ = u0 at c0
      rw [Nat.zero_mul] at c0
      obtain ⟨b, off, spot⟩ := x'
      have hspot : spot = none := by simpa [Addr.add] using World.cell?_spot c0
      subst hspot
      refine ⟨b, off, rfl, by have := World.block_lt_of_cell? _ _ c0; simpa [Addr.add] using this, fun k u hu => ?_⟩
      have hkl : k < l * c := by have := (List.getElem?_eq_some_iff.1 hu).1; rw [hf.1] at this; simpa using this
      have hk : k / c < l := Nat.div_lt_of_lt_mul (by rw [Nat.mul_comm]; exact hkl)
      have hg := hf.2.1 (k / c) (q (k / c)).1 (k % c) (by simp [hk]) (Nat.mod_lt _ hpos)
      have hkc : k / c * c + k % c = k := by rw [Nat.mul_comm]; exact Nat.div_add_mod k c
      rw [hkc, hu] at hg
      have hh := (hq (k / c) (by omega)).2.2 (k % c) u hg.symm
      rwa [add_plain, hkc] at hh
    · intro es sp he
      have e0 := (Prod.ext_iff.1 hx).1
      rw [he] at e0
      simp only [DataW.slice.injEq] at e0
      obtain ⟨rfl, -⟩ := e0
      refine ⟨by simp, fun k a e => ?_⟩
      have hk : k < l := by simpa using (List.getElem?_eq_some_iff.1 e).1
      refine ⟨D k, by simp [hk], ?_⟩
      simp [hk] at e
      rw [← e]
      exact (hq k (by omega)).2.1
end
end Go.Proofs.Ytnddejdndipddad
