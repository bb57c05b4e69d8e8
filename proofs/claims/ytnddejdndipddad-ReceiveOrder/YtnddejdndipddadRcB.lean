/- Rows of whatever things of the call's own, whose lists lie in blocks of S; receivers as they are read. -/
import Derived.Test.YtnddejdndipddadRcA
import Derived.Test.YtnddejdndipddadLE
set_option maxRecDepth 20000
namespace Go.Proofs.Ytnddejdndipddad
open Go.RowKit

/-- What a relation must bear: so many cells; the blocks of S as they were; more blocks. -/
structure Holds {α : Type} (c : Nat) (R : (Nat → Prop) → World → Value → α → Prop) : Prop where
  cells : ∀ {S w v x}, R S w v x → v.cells.toList.length = c
  one : ∀ {S w v x}, R S w v x → ∀ u ∈ v.cells.toList, u.oneCell' = true
  keep : ∀ {S w w' v x}, R S w v x → Keep S w w' → R S w' v x
  mono : ∀ {S S' w v x}, R S w v x → (∀ k, S k → S' k) → R S' w v x

/-- A row of the call's own, in blocks from base on. -/
def GRow {α : Type} (e : TypeId) (c : Nat) (R : (Nat → Prop) → World → Value → α → Prop) (S : Nat → Prop) (base : Nat) (w : World) (v : Value) (l : List α) : Prop := ∃ vs, All2 (R S w) vs l ∧ w.ownsRow base e c v l.length (flatV vs)

theorem GRow.nil {α : Type} {e : TypeId} {c : Nat} {R : (Nat → Prop) → World → Value → α → Prop} {S : Nat → Prop} {base : Nat} {w : World} : GRow e c R S base w (.slice none 0 0) [] := ⟨[], trivial, World.ownsRow_nil _ _ _ _⟩
theorem own_setCells {base g c n cap : Nat} {e : TypeId} : ∀ (us : List Value) (o : Nat) {w : World} {xs : List Value}, w.ownsRow base e c (.slice (some ⟨g, 0, none⟩) n cap) n xs → ∃ ys, ys.length = xs.length ∧ (∀ j, ys[j]? = if o ≤ j ∧ j < o + us.length ∧ j < xs.length then us[j - o]? else xs[j]?) ∧ (w.setCells g o us).ownsRow base e c (.slice (some ⟨g, 0, none⟩) n cap) n ys
  | [], o, w, xs, h => ⟨xs, rfl, fun j => by rw [if_neg (by simp; omega)], h⟩
  | u :: us, o, w, xs, h => by
    obtain ⟨ys, h1, h2, h3⟩ := own_setCells us (o + 1) (h.stored o u).1
    refine ⟨ys, by simpa using h1, fun j => ?_, h3⟩
    rw [h2 j]
    simp only [List.length_set, List.length_cons]
    by_cases e : j = o
    · subst e
      rw [if_neg (by omega)]
      by_cases hj : j < xs.length
      · rw [if_pos ⟨by omega, by omega, hj⟩, List.getElem?_set_self hj]; simp
      · rw [if_neg (by omega), List.getElem?_eq_none (by simp; omega), List.getElem?_eq_none (by omega)]
    · by_cases hj : o + 1 ≤ j ∧ j < o + 1 + us.length ∧ j < xs.length
      · rw [if_pos hj, if_pos (by omega), show j - o = (j - (o + 1)) + 1 by omega, List.getElem?_cons_succ]
      · rw [if_neg hj, if_neg (by omega), List.getElem?_set_ne (by omega)]
section
variable {α : Type} {e : TypeId} {c : Nat} {R : (Nat → Prop) → World → Value → α → Prop} (hR : Holds c R) {S S' : Nat → Prop} {base : Nat} {w w' : World} {v : Value} {l : List α}
theorem GRow.form (h : GRow e c R S base w v l) : ∃ a cap, v = .slice a l.length cap := by
  obtain ⟨vs, _, h2⟩ := h
  exact own_form h2
theorem GRow.lt (h : GRow e c R S base w v l) {k : Nat} (hk : v.ownBlock = some k) : base ≤ k ∧ k < w.heap.size := by
  obtain ⟨vs, _, h2⟩ := h
  exact h2.lt k hk
include hR
theorem GRow.keep (h : GRow e c R S base w v l) (kp : Keep S w w') (hv : ∀ k, v.ownBlock = some k → w'.heap[k]? = w.heap[k]?) : GRow e c R S base w' v l := by
  obtain ⟨vs, h1, h2⟩ := h
  exact ⟨vs, h1.imp fun _ _ h => hR.keep h kp, own_of_block h2 hv⟩
theorem GRow.mono (h : GRow e c R S base w v l) (hs : ∀ k, S k → S' k) : GRow e c R S' base w v l := by
  obtain ⟨vs, h1, h2⟩ := h
  exact ⟨vs, h1.imp fun _ _ h => hR.mono h hs, h2⟩
theorem all2_flatH {vs : List Value} (h : All2 (R S w) vs l) : (flatV vs).length = l.length * c ∧ (∀ k v i, vs[k]? = some v → i < c → (flatV vs)[k * c + i]? = v.cells.toList[i]?) ∧ (∀ k, flatV (vs.take k) = (flatV vs).take (k * c)) ∧ ∀ k, flatV (vs.drop k) = (flatV vs).drop (k * c) := All2.flat (fun _ _ h => hR.cells h) h
/-- A place of it. -/
theorem GRow.at (h : GRow e c R S base w v l) (k : Nat) (hk : k < l.length) : ∃ g cap u, v = .slice (some ⟨g, 0, none⟩) l.length cap ∧ base ≤ g ∧ g < w.heap.size ∧ l.length ≤ cap ∧ cap ≤ 9223372036854775807 ∧ R S w u l[k] ∧ w.rangeAt g (k * c) u.cells.toList ∧ ∀ j, w.frozen? ⟨g, j, none⟩ = false := by
  obtain ⟨vs, h1, h2⟩ := h
  have hf := all2_flatH hR h1
  have h2' := h2
  rcases h2.2 with ⟨_, h0⟩ | ⟨g, cap, cur, rfl, hb, hg, hn, hm, hs, ht⟩
  · omega
  · obtain ⟨u, hu, hr⟩ := h1.get k hk
    refine ⟨g, cap, u, rfl, hb, (h2'.lt g rfl).2, hn, by unfold maxLen at hm; omega, hr, fun j x hx => ?_, fun j => h2'.frozenAt j⟩
    have hj : j < c := by have := (List.getElem?_eq_some_iff.1 hx).1; rw [hR.cells hr] at this; exact this
    have hlt : k * c + j < l.length * c := by
      have : (k + 1) * c ≤ l.length * c := Nat.mul_le_mul_right c (by omega)
      rw [Nat.succ_mul] at this
      omega
    rw [h2'.cellAt _ hlt, hf.2.1 k u j hu hj]
    exact hx
theorem GRow.there {g n cap : Nat} (h : GRow e c R S base w (.slice (some ⟨g, 0, none⟩) n cap) l) (k : Nat) (hk : k < l.length) : w.there g (k * c) c := by
  obtain ⟨g', cap', u, he, -, -, -, -, hu, hr, hf⟩ := GRow.at hR h k hk
  simp only [Value.slice.injEq, Option.some.injEq, Addr.mk.injEq, and_true] at he
  obtain ⟨rfl, rfl, rfl⟩ := he
  exact fun j hj => ⟨hr.isSome j (by rw [hR.cells hu]; exact hj), hf _⟩
/-- A thing is stored. -/
theorem GRow.set {g n cap : Nat} (h : GRow e c R S base w (.slice (some ⟨g, 0, none⟩) n cap) l) (hg : ¬ S g) (k : Nat) (hk : k < l.length) {u : Value} {x : α} (hu : R S w u x) : GRow e c R S base (w.setCells g (k * c) u.cells.toList) (.slice (some ⟨g, 0, none⟩) n cap) (l.set k x) := by
  obtain ⟨vs, h1, h2⟩ := h
  have hn : n = l.length := by obtain ⟨a, cap', e⟩ := own_form h2; simp at e; exact e.2.1
  subst hn
  obtain ⟨ys, hl, hy, ho⟩ := own_setCells u.cells.toList (k * c) h2
  have hf := all2_flatH hR h1
  have h1' := h1.set k hu
  have hf' := all2_flatH hR h1'
  have kp : Keep S w (w.setCells g (k * c) u.cells.toList) := Keep.setCells hg _ _ (Keep.refl _ _)
  have e : ys = flatV (vs.set k u) := by
    apply List.ext_getElem?
    intro j
    rw [hy j]
    have hc := hR.cells hu
    by_cases hj : j < l.length * c
    · have hcp : 0 < c := by
        rcases Nat.eq_zero_or_pos c with h | h
        · subst h; simp at hj
        · exact h
      have hq : j / c < l.length := Nat.div_lt_of_lt_mul (by rw [Nat.mul_comm]; exact hj)
      have hm : j % c < c := Nat.mod_lt _ hcp
      have hd : j / c * c + j % c = j := by rw [Nat.mul_comm]; exact Nat.div_add_mod j c
      have hvl := h1.len
      by_cases ek : j / c = k
      · rw [if_pos (by rw [hf.1, hc]; have := hd; rw [ek] at this; omega)]
        have := hf'.2.1 k u (j % c) (by rw [List.getElem?_set_self (by omega)]) hm
        rw [show k * c + j % c = j by rw [← ek]; exact hd] at this
        rw [this]
        congr 1
        rw [← ek]
        omega
      · rw [if_neg]
        · obtain ⟨z, hz⟩ : ∃ z, vs[j / c]? = some z := ⟨vs[j / c]'(by omega), by simp⟩
          have g1 := hf.2.1 (j / c) z (j % c) hz hm
          have g2 := hf'.2.1 (j / c) z (j % c) (by rw [List.getElem?_set_ne (fun h => ek h.symm)]; exact hz) hm
          rw [hd] at g1 g2
          rw [g1, g2]
        · rintro ⟨g1, g2, _⟩
          rw [hc] at g2
          apply ek
          have a1 : k ≤ j / c := (Nat.le_div_iff_mul_le hcp).2 g1
          have a2 : j / c < k + 1 := Nat.div_lt_of_lt_mul (by rw [Nat.mul_comm, Nat.succ_mul]; omega)
          omega
    · rw [if_neg (by rw [hf.1]; omega), List.getElem?_eq_none (by rw [hf.1]; omega), List.getElem?_eq_none (by rw [hf'.1]; simp; omega)]
  rw [e] at ho
  exact ⟨_, h1'.imp fun _ _ h => hR.keep h kp, by rw [List.length_set]; exact ho⟩
/-- The first m are left; those behind are written over. -/
theorem GRow.cut {g n cap m : Nat} (h : GRow e c R S base w (.slice (some ⟨g, 0, none⟩) n cap) l) (hg : ¬ S g) (hm : m ≤ l.length) (zs : List Value) : GRow e c R S base (w.setCells g (m * c) zs) (.slice (some ⟨g, 0, none⟩) m cap) (l.take m) := by
  obtain ⟨vs, h1, h2⟩ := h
  have hn : n = l.length := by obtain ⟨a, cap', e⟩ := own_form h2; simp at e; exact e.2.1
  subst hn
  obtain ⟨ys, hl, hy, ho⟩ := own_setCells zs (m * c) h2
  have hf := all2_flatH hR h1
  have kp : Keep S w (w.setCells g (m * c) zs) := Keep.setCells hg _ _ (Keep.refl _ _)
  have hmc : m * c ≤ l.length * c := Nat.mul_le_mul_right c hm
  have e : ys.take (m * c) = flatV (vs.take m) := by
    rw [hf.2.2.1]
    apply List.ext_getElem?
    intro j
    rw [List.getElem?_take, List.getElem?_take]
    by_cases hj : j < m * c
    · rw [if_pos hj, if_pos hj, hy j, if_neg (by omega)]
    · rw [if_neg hj, if_neg hj]
  refine ⟨vs.take m, (h1.take m).imp fun _ _ h => hR.keep h kp, ?_⟩
  rw [List.length_take, Nat.min_eq_left hm, ← e]
  rcases ho.2 with ⟨h', _⟩ | ⟨g', cap', cur, h', b1, b2, b3, b4, b5, b6⟩
  · simp at h'
  · simp only [Value.slice.injEq, Option.some.injEq, Addr.mk.injEq, and_true, true_and] at h'
    obtain ⟨rfl, rfl⟩ := h'
    refine ⟨by rw [List.length_take, hl, hf.1, Nat.min_eq_left hmc], .inr ⟨g, cap, cur, rfl, b1, b2, by omega, b4, b5, ?_⟩⟩
    rw [← b6, List.take_take, Nat.min_eq_left hmc]
/-- One more. -/
theorem GRow.app {v' : Value} {vs : List Value} {x : α} {u : Value} (hA : All2 (R S w) vs l) (hu : R S w u x) (kp : Keep S w w') (own : w'.ownsRow base e c v' (l.length + 1) (flatV vs ++ u.cells.toList)) : GRow e c R S base w' v' (l ++ [x]) := by
  refine ⟨vs ++ [u], (hA.imp fun _ _ h => hR.keep h kp).append ⟨hR.keep hu kp, trivial⟩, ?_⟩
  rw [flatV_append, List.length_append]
  rw [show flatV [u] = u.cells.toList by simp [flatV]]
  exact own
end

/-- A piece whose lists lie in blocks of S. -/
def PcI (S : Nat → Prop) (w : World) (v : Value) (p : Pc) : Prop := ∃ d s k, v = pcVal p d s k ∧ SnL S w p.ck d s k
theorem PcI.holds : Holds 12 PcI where
  cells := by rintro S w v x ⟨d, s, k, rfl, h⟩; rfl
  one := by
    rintro S w v x ⟨d, s, k, rfl, h⟩ u hu
    obtain ⟨da, dc, sa, sc, qa, qc, rfl, rfl, rfl⟩ := h.ex
    exact List.all_eq_true.1 rfl u hu
  keep := by rintro S w w' v x ⟨d, s, k, rfl, h⟩ kp; exact ⟨d, s, k, rfl, h.keep kp⟩
  mono := by rintro S S' w v x ⟨d, s, k, rfl, h⟩ hs; exact ⟨d, s, k, rfl, h.mono hs⟩
theorem PcI.v {S : Nat → Prop} {w : World} {v : Value} {p : Pc} (h : PcI S w v p) : PcV w.heap.size w v p := by
  obtain ⟨d, s, k, rfl, h⟩ := h
  exact ⟨d, s, k, rfl, h.d, h.s, h.q⟩
theorem PcV.i {B : Nat} {w : World} {v : Value} {p : Pc} (h : PcV B w v p) (hB : B ≤ w.heap.size) : PcI (fun k => k < B) w v p := by
  obtain ⟨d, s, k, rfl, h1, h2, h3⟩ := h
  exact ⟨d, s, k, rfl, SnL.of h1 h2 h3 hB⟩
abbrev PcRow (S : Nat → Prop) (base : Nat) (w : World) (v : Value) (l : List Pc) : Prop := GRow 71 12 PcI S base w v l
theorem PcRow.s {S : Nat → Prop} {base : Nat} {w : World} {v : Value} {l : List Pc} (h : PcRow S base w v l) : PcS w.heap.size w v l := by
  obtain ⟨vs, h1, h2⟩ := h
  exact ⟨vs, h1.imp fun _ _ h => h.v, Rw.own h2 (all2_flatH PcI.holds h1).1⟩

/-- Messages that were delivered. -/
def avVal (a : Av) (d : Value) : Value := .agg #[.int .i64 a.stream, .int .i64 a.mid, .bool a.ordered, d]
def AvV (B : Nat) (w : World) (v : Value) (a : Av) : Prop := ∃ d, v = avVal a d ∧ By B w d a.data
theorem AvV.bears : Bears 4 AvV where
  cells := by rintro B w v x ⟨d, rfl, -⟩; rfl
  below := by rintro B B' w w' v x ⟨d, rfl, h⟩ hb hB; exact ⟨d, rfl, h.below hb hB⟩
  mono := by rintro B B' w v x ⟨d, rfl, h⟩ hB; exact ⟨d, rfl, h.mono hB⟩
abbrev AvS (B : Nat) (w : World) (v : Value) (l : List Av) : Prop := SlG 4 AvV B w v l
def AvI (S : Nat → Prop) (w : World) (v : Value) (a : Av) : Prop := ∃ d, v = avVal a d ∧ By w.heap.size w d a.data ∧ InS S d
theorem AvI.holds : Holds 4 AvI where
  cells := by rintro S w v x ⟨d, rfl, -⟩; rfl
  one := by
    rintro S w v x ⟨d, rfl, h, -⟩ u hu
    obtain ⟨da, dc, rfl, -, -⟩ := h.ex
    exact List.all_eq_true.1 rfl u hu
  keep := by rintro S w w' v x ⟨d, rfl, h, hi⟩ kp; exact ⟨d, rfl, h.keep hi kp kp.size, hi⟩
  mono := by rintro S S' w v x ⟨d, rfl, h, hi⟩ hs; exact ⟨d, rfl, h, hi.mono hs⟩
abbrev AvRow (S : Nat → Prop) (base : Nat) (w : World) (v : Value) (l : List Av) : Prop := GRow 59 4 AvI S base w v l
theorem AvRow.s {S : Nat → Prop} {base : Nat} {w : World} {v : Value} {l : List Av} (h : AvRow S base w v l) : AvS w.heap.size w v l := by
  obtain ⟨vs, h1, h2⟩ := h
  exact ⟨vs, h1.imp fun _ _ ⟨d, e, h, _⟩ => ⟨d, e, h⟩, Rw.own h2 (all2_flatH AvI.holds h1).1⟩
theorem AvV.i {B : Nat} {w : World} {v : Value} {a : Av} (h : AvV B w v a) (hB : B ≤ w.heap.size) : AvI (fun k => k < B) w v a := by
  obtain ⟨d, rfl, h⟩ := h
  exact ⟨d, rfl, h.mono hB, h.1.ins⟩

/-- A receiver's fields, as one value. -/
def rvVal (x : Rc) (s p t l : Value) : Value := .agg #[.int .i64 x.cf.streams, .int .i64 x.cf.part, .int .i64 x.cf.packet, .int .i64 x.cf.paths, .int .i64 x.cf.turns, .int .i64 x.cf.waiting, .int .i64 x.cf.first, .int .i64 x.cum, s, p, t, l]
/-- A receiver as it is read; its lists lie below block B. -/
structure RvS (B : Nat) (w : World) (x : Rc) (s p t l : Value) : Prop where
  s : Sl B w s x.spans
  p : PcS B w p x.pieces
  t : In B w t x.turn
  l : AvS B w l x.log
theorem RvS.below {B B' : Nat} {w w' : World} {x : Rc} {s p t l : Value} (h : RvS B w x s p t l) (hb : Below B' w w') (hB : B ≤ B') : RvS B w' x s p t l := ⟨h.s.below hb hB, SlG.below PcV.bears h.p hb hB, h.t.below hb hB, SlG.below AvV.bears h.l hb hB⟩
theorem RvS.mono {B B' : Nat} {w : World} {x : Rc} {s p t l : Value} (h : RvS B w x s p t l) (hB : B ≤ B') : RvS B' w x s p t l := ⟨h.s.mono hB, SlG.mono PcV.bears h.p hB, h.t.mono hB, SlG.mono AvV.bears h.l hB⟩
theorem RvS.size {B : Nat} {w w' : World} {x : Rc} {s p t l : Value} (h : RvS w.heap.size w x s p t l) (hb : Below B w w') (hB : w.heap.size ≤ B) : RvS w'.heap.size w' x s p t l := (h.below hb hB).mono hb.size
theorem RvS.ex {B : Nat} {w : World} {x : Rc} {s p t l : Value} (h : RvS B w x s p t l) : ∃ sa sc pa pc ta tc la lc, s = .slice sa x.spans.length sc ∧ p = .slice pa x.pieces.length pc ∧ t = .slice ta x.turn.length tc ∧ l = .slice la x.log.length lc := by
  obtain ⟨sa, sc, e1⟩ := h.s.ex
  obtain ⟨pa, pc, e2, -⟩ := h.p.ex
  obtain ⟨ta, tc, e3, -⟩ := h.t.ex
  obtain ⟨la, lc, e4, -⟩ := h.l.ex
  exact ⟨sa, sc, pa, pc, ta, tc, la, lc, e1, e2, e3, e4⟩
end Go.Proofs.Ytnddejdndipddad
