/- Pieces: plain: what they make, in whatever order; bytes in parts. -/
import Derived.Test.YtnddejdndipddadLB
set_option maxRecDepth 20000
namespace Go.Proofs.Ytnddejdndipddad
open Go.RowKit

/-- A piece: its number, and its chunk. -/
structure Pc where
  number : Int
  ck : Ck

def Pc.part (p : Pc) : Int := p.ck.part
/-- A piece that may stand among n. -/
def stands (n : Nat) (p : Pc) : Prop := 0 ≤ p.part ∧ p.part < n ∧ p.ck.last = decide (p.part = (n : Int) - 1)
instance (n : Nat) (p : Pc) : Decidable (stands n p) := by unfold stands; infer_instance
/-- Pieces that may stand among n, each in a place of its own. -/
def goodN (n : Nat) (l : List Pc) : Prop := (∀ p ∈ l, stands n p) ∧ (l.map Pc.part).Nodup
instance (n : Nat) (l : List Pc) : Decidable (goodN n l) := by unfold goodN; infer_instance
/-- What stands in a place. -/
def dataAt (l : List Pc) (k : Nat) : List Int := match l.find? (fun p => decide (p.part = (k : Int))) with
  | some p => p.ck.data
  | none => []
/-- Whether pieces make a message, and which. -/
def joinB (l : List Pc) : Bool := decide (goodN l.length l ∧ l.length ≠ 0)
def joinD (l : List Pc) : List Int := if goodN l.length l then (List.range l.length).flatMap (dataAt l) else []

/-- As many, without one twice, among others: all of them. -/
theorem perm_of_sub {α : Type} [DecidableEq α] : ∀ (a b : List α), a.Nodup → (∀ x ∈ a, x ∈ b) → b.length ≤ a.length → a.Perm b
  | [], b, _, _, h => by
    have : b = [] := List.eq_nil_of_length_eq_zero (by simpa using h)
    subst this
    exact List.Perm.refl _
  | x :: a, b, hn, hs, h => by
    have hx : x ∈ b := hs x (by simp)
    have h1 := List.perm_cons_erase hx
    have hl : (b.erase x).length = b.length - 1 := List.length_erase_of_mem hx
    have hn' := List.nodup_cons.1 hn
    have := perm_of_sub a (b.erase x) hn'.2 (fun y hy => by
      have hne : y ≠ x := by rintro rfl; exact hn'.1 hy
      exact (List.mem_erase_of_ne hne).2 (hs y (by simp [hy]))) (by rw [hl]; simp at h; omega)
    exact (this.cons x).trans h1.symm

/-- The places, as numbers. -/
def placesM (n : Nat) : List Int := (List.range n).map fun k : Nat => (k : Int)
theorem places_len (n : Nat) : (placesM n).length = n := by simp [placesM]
theorem places_mem (n : Nat) (x : Int) : x ∈ placesM n ↔ 0 ≤ x ∧ x < n := by
  simp only [placesM, List.mem_map, List.mem_range]
  constructor
  · rintro ⟨k, hk, rfl⟩; omega
  · rintro ⟨h1, h2⟩; exact ⟨x.toNat, by omega, by omega⟩
theorem places_nodup (n : Nat) : (placesM n).Nodup := by
  unfold placesM
  rw [List.nodup_iff_pairwise_ne, List.pairwise_map]
  exact (List.nodup_range (n := n)).imp fun h e => h (by omega)

theorem good_iff (l : List Pc) : goodN l.length l ↔ (l.map Pc.part).Perm (placesM l.length) ∧ ∀ p ∈ l, p.ck.last = decide (p.part = (l.length : Int) - 1) := by
  constructor
  · rintro ⟨h1, h2⟩
    refine ⟨perm_of_sub _ _ h2 (fun x hx => ?_) (by simp [places_len]), fun p hp => (h1 p hp).2.2⟩
    obtain ⟨p, hp, rfl⟩ := List.mem_map.1 hx
    exact (places_mem _ _).2 ⟨(h1 p hp).1, (h1 p hp).2.1⟩
  · rintro ⟨h1, h2⟩
    refine ⟨fun p hp => ?_, (h1.nodup_iff).2 (places_nodup _)⟩
    have := (places_mem _ _).1 (h1.mem_iff.1 (List.mem_map_of_mem hp))
    exact ⟨this.1, this.2, h2 p hp⟩

theorem goodN_perm {n : Nat} {l m : List Pc} (h : l.Perm m) (g : goodN n l) : goodN n m := ⟨fun p hp => g.1 p (h.mem_iff.2 hp), ((h.map Pc.part).nodup_iff).1 g.2⟩

/-- In a place of its own: it is what stands there. -/
theorem dataAt_mem {l : List Pc} (h : (l.map Pc.part).Nodup) {p : Pc} (hp : p ∈ l) {k : Nat} (hk : p.part = (k : Int)) : dataAt l k = p.ck.data := by
  induction l with
  | nil => simp at hp
  | cons q r ih =>
    unfold dataAt
    by_cases hq : q.part = (k : Int)
    · rw [List.find?_cons_of_pos (by simpa using hq)]
      rcases List.mem_cons.1 hp with rfl | hp'
      · rfl
      · exfalso
        refine (List.nodup_cons.1 h).1 ?_
        rw [hq, ← hk]
        exact List.mem_map_of_mem hp'
    · rw [List.find?_cons_of_neg (by simpa using hq)]
      rcases List.mem_cons.1 hp with rfl | hp'
      · exact absurd hk hq
      · exact ih (List.nodup_cons.1 h).2 hp'
theorem dataAt_none {l : List Pc} {k : Nat} (h : ¬ (k : Int) ∈ l.map Pc.part) : dataAt l k = [] := by
  unfold dataAt
  rw [List.find?_eq_none.2 fun p hp => by simp; intro e; exact h (e ▸ List.mem_map_of_mem hp)]

/-- In whatever order. -/
theorem join_perm {l m : List Pc} (h : l.Perm m) : joinB l = joinB m ∧ joinD l = joinD m := by
  have hl := h.length_eq
  have hg : goodN l.length l ↔ goodN m.length m := by rw [hl]; exact ⟨goodN_perm h, goodN_perm h.symm⟩
  refine ⟨by unfold joinB; exact decide_eq_decide.2 (and_congr hg (by rw [hl])), ?_⟩
  unfold joinD
  by_cases g : goodN l.length l
  · have g' := hg.1 g
    rw [if_pos g, if_pos g', hl]
    have : ∀ k ∈ List.range m.length, dataAt l k = dataAt m k := by
      intro k hk
      have hk' : (k : Int) ∈ m.map Pc.part := ((good_iff m).1 g').1.mem_iff.2 ((places_mem _ _).2 ⟨by omega, by simpa using hk⟩)
      obtain ⟨p, hp, e⟩ := List.mem_map.1 hk'
      rw [dataAt_mem g'.2 hp e, dataAt_mem g.2 (h.mem_iff.2 hp) e]
    simp only [List.flatMap]
    rw [List.map_congr_left this]
  · rw [if_neg g, if_neg (fun g' => g (hg.2 g'))]

/-- How many parts. -/
def countM (n p : Int) : Int := if n < 1 ∨ p < 1 then 0 else (n - 1) / p + 1
/-- Bytes in parts. -/
def splitM (bs : List Int) (p : Int) : List (List Int) := (List.range (countM bs.length p).toNat).map fun k => (bs.drop (k * p.toNat)).take p.toNat

theorem countM_none {n p : Int} (h : n < 1 ∨ p < 1) : countM n p = 0 := by rw [countM, if_pos h]
theorem countM_le {n p : Int} (h1 : 1 ≤ n) (h2 : 1 ≤ p) : 1 ≤ countM n p ∧ countM n p ≤ n ∧ (countM n p - 1) * p < n ∧ n ≤ countM n p * p := by
  rw [countM, if_neg (by omega)]
  have e := Int.mul_ediv_add_emod (n - 1) p
  have r1 := Int.emod_nonneg (n - 1) (show p ≠ 0 by omega)
  have r2 := Int.emod_lt_of_pos (n - 1) (show 0 < p by omega)
  have d0 : 0 ≤ (n - 1) / p := Int.ediv_nonneg (by omega) (by omega)
  have d1 : (n - 1) / p ≤ n - 1 := Int.ediv_le_self _ (by omega)
  rw [Int.mul_comm p] at e
  refine ⟨by omega, by omega, ?_, ?_⟩
  · rw [show (n - 1) / p + 1 - 1 = (n - 1) / p by omega]
    generalize (n - 1) / p * p = q at *
    omega
  · rw [Int.add_mul]
    generalize (n - 1) / p * p = q at *
    omega
/-- A part more, as long as bytes are left. -/
theorem count_lt {n p : Int} (k : Nat) (h2 : 1 ≤ p) : (k : Int) < countM n p ↔ (k : Int) * p < n := by
  by_cases h1 : 1 ≤ n
  · obtain ⟨a, b, c, d⟩ := countM_le h1 h2
    constructor
    · intro h
      have : (k : Int) * p ≤ (countM n p - 1) * p := Int.mul_le_mul_of_nonneg_right (by omega) (by omega)
      omega
    · intro h
      rcases (show (k : Int) < countM n p ∨ countM n p ≤ (k : Int) by omega) with g | g
      · exact g
      · have : countM n p * p ≤ (k : Int) * p := Int.mul_le_mul_of_nonneg_right g (by omega)
        omega
  · rw [countM_none (by omega)]
    have : 0 ≤ (k : Int) * p := Int.mul_nonneg (by omega) (by omega)
    omega
theorem split_len (bs : List Int) (p : Int) : (splitM bs p).length = (countM bs.length p).toNat := by simp [splitM]
theorem count_nn (n p : Int) : 0 ≤ countM n p := by
  rw [countM]
  split
  · omega
  · have : 0 ≤ (n - 1) / p := Int.ediv_nonneg (by omega) (by omega)
    omega
theorem split_get (bs : List Int) (p : Int) (k : Nat) (h : k < (splitM bs p).length) : (splitM bs p)[k] = (bs.drop (k * p.toNat)).take p.toNat := by simp [splitM]

/-- Parts, one behind the other, are all of it. -/
theorem split_all (bs : List Int) (q n : Nat) (h : bs.length ≤ n * q) : (List.range n).flatMap (fun k => (bs.drop (k * q)).take q) = bs := by
  have key : ∀ m, (List.range m).flatMap (fun k => (bs.drop (k * q)).take q) = bs.take (m * q) := by
    intro m
    induction m with
    | zero => simp
    | succ m ih =>
      rw [List.range_succ, List.flatMap_append, ih]
      simp only [List.flatMap_cons, List.flatMap_nil, List.append_nil]
      rw [Nat.succ_mul, List.take_add]
  rw [key, List.take_of_length_le h]

/-- A message's pieces, in turn. -/
def piecesM (ls : List (List Int)) (m : Nat) : List Pc := (List.range m).map fun k : Nat => ⟨(k : Int), ⟨0, 0, 0, 0, (k : Int), decide (k + 1 = ls.length), false, ls.getD k [], [], 0, []⟩⟩
theorem pieces_len (ls : List (List Int)) (m : Nat) : (piecesM ls m).length = m := by simp [piecesM]
theorem pieces_part (ls : List (List Int)) (m : Nat) : (piecesM ls m).map Pc.part = placesM m := by
  unfold piecesM placesM
  rw [List.map_map]
  rfl
theorem pieces_good (ls : List (List Int)) : goodN ls.length (piecesM ls ls.length) := by
  refine ⟨fun p hp => ?_, by rw [pieces_part]; exact places_nodup _⟩
  obtain ⟨k, hk, rfl⟩ := List.mem_map.1 hp
  rw [List.mem_range] at hk
  refine ⟨by show (0 : Int) ≤ k; omega, by show (k : Int) < _; omega, ?_⟩
  show decide (k + 1 = ls.length) = decide ((k : Int) = ls.length - 1)
  exact decide_eq_decide.2 (by omega)
/-- What was parted is joined, in whatever order. -/
theorem turn_join {bs : List Int} {p : Int} {l : List Pc} (h1 : 1 ≤ bs.length) (h2 : 1 ≤ p) (hl : (piecesM (splitM bs p) (splitM bs p).length).Perm l) : joinB l = true ∧ joinD l = bs := by
  obtain ⟨j1, j2⟩ := join_perm hl
  rw [← j1, ← j2]
  have g := pieces_good (splitM bs p)
  have hn : (splitM bs p).length = (countM bs.length p).toNat := split_len bs p
  obtain ⟨c1, c2, c3, c4⟩ := countM_le (n := bs.length) (p := p) (by omega) h2
  refine ⟨?_, ?_⟩
  · unfold joinB
    rw [pieces_len]
    exact decide_eq_true ⟨g, by omega⟩
  · unfold joinD
    rw [pieces_len, if_pos g]
    have : ∀ k ∈ List.range (splitM bs p).length, dataAt (piecesM (splitM bs p) (splitM bs p).length) k = (bs.drop (k * p.toNat)).take p.toNat := by
      intro k hk
      rw [List.mem_range] at hk
      rw [dataAt_mem (p := ⟨k, ⟨0, 0, 0, 0, k, decide (k + 1 = (splitM bs p).length), false, (splitM bs p).getD k [], [], 0, []⟩⟩) g.2 (List.mem_map.2 ⟨k, List.mem_range.2 hk, rfl⟩) rfl]
      show (splitM bs p).getD k [] = _
      rw [List.getD_eq_getElem?_getD, List.getElem?_eq_getElem hk]
      exact split_get bs p k hk
    simp only [List.flatMap]
    rw [List.map_congr_left this]
    refine split_all bs p.toNat (splitM bs p).length ?_
    rw [hn]
    have : ((countM bs.length p).toNat * p.toNat : Int) = countM bs.length p * p := by rw [Int.toNat_of_nonneg (by omega), Int.toNat_of_nonneg (by omega)]
    omega
/-- Without one of them: none. -/
theorem turn_none {ls : List (List Int)} {q : Pc} {l : List Pc} (hl : (piecesM ls ls.length).Perm (q :: l)) : joinB l = false := by
  have g := goodN_perm hl (pieces_good ls)
  have hlen : ls.length = l.length + 1 := by have := hl.length_eq; rw [pieces_len] at this; simpa using this
  unfold joinB
  refine decide_eq_false ?_
  rintro ⟨g2, h0⟩
  have P1 : (l.map Pc.part).Perm (placesM l.length) := ((good_iff l).1 g2).1
  have hk : ((l.length - 1 : Nat) : Int) ∈ l.map Pc.part := P1.mem_iff.2 ((places_mem _ _).2 ⟨by omega, by omega⟩)
  obtain ⟨p, hp, e⟩ := List.mem_map.1 hk
  have a1 := (g2.1 p hp).2.2
  have a2 := (g.1 p (by simp [hp])).2.2
  rw [e] at a1 a2
  rw [a1, hlen] at a2
  have := of_decide_eq_true (a2.symm.trans (decide_eq_true (by omega)))
  omega

/-- The document's way: for each place in turn, the one piece that has it. -/
def uniq (l : List Pc) (k : Nat) : Prop := ∃ i p, l[i]? = some p ∧ p.part = (k : Int) ∧ p.ck.last = decide ((k : Int) = (l.length : Int) - 1) ∧ ∀ (j : Nat) q, l[j]? = some q → q.part = (k : Int) → j = i
theorem good_of_uniq {l : List Pc} (h : ∀ k, k < l.length → uniq l k) : goodN l.length l := by
  rw [good_iff]
  have P1 : (placesM l.length).Perm (l.map Pc.part) := by
    refine perm_of_sub _ _ (places_nodup _) (fun x hx => ?_) (by simp [places_len])
    obtain ⟨x0, x1⟩ := (places_mem _ _).1 hx
    obtain ⟨i, p, h1, h2, -⟩ := h x.toNat (by omega)
    refine List.mem_map.2 ⟨p, List.mem_of_getElem? h1, by rw [h2]; omega⟩
  refine ⟨P1.symm, fun p hp => ?_⟩
  obtain ⟨x0, x1⟩ := (places_mem _ _).1 (P1.mem_iff.2 (List.mem_map_of_mem hp))
  obtain ⟨i, q, h1, h2, h3, h4⟩ := h p.part.toNat (by omega)
  obtain ⟨j, hj⟩ := List.getElem?_of_mem hp
  have e := h4 j p hj (by omega)
  subst e
  rw [h1] at hj
  simp only [Option.some.injEq] at hj
  subst hj
  rw [h3]
  exact decide_eq_decide.2 (by omega)
theorem uniq_of_good {l : List Pc} (g : goodN l.length l) (k : Nat) (hk : k < l.length) : uniq l k := by
  have P1 := ((good_iff l).1 g).1
  obtain ⟨p, hp, e⟩ := List.mem_map.1 (P1.mem_iff.2 ((places_mem _ (k : Int)).2 ⟨by omega, by omega⟩))
  obtain ⟨i, hi⟩ := List.getElem?_of_mem hp
  refine ⟨i, p, hi, e, by rw [(g.1 p hp).2.2, e], fun j q hj hq => ?_⟩
  have h1 : (l.map Pc.part)[j]? = some (k : Int) := by rw [List.getElem?_map, hj]; simp [hq]
  have h2 : (l.map Pc.part)[i]? = some (k : Int) := by rw [List.getElem?_map, hi]; simp [e]
  have l1 := (List.getElem?_eq_some_iff.1 h1).1
  exact (List.getElem?_inj l1 g.2).1 (h1.trans h2.symm)
theorem uniq_data {l : List Pc} (g : goodN l.length l) {i k : Nat} {p : Pc} (h : l[i]? = some p) (hp : p.part = (k : Int)) : dataAt l k = p.ck.data := dataAt_mem g.2 (List.mem_of_getElem? h) hp
end Go.Proofs.Ytnddejdndipddad
