/- Plain: what a receiver may have, step by step; the next message that is passed. -/
import Derived.Test.YtnddejdndipddadRcA
import Derived.Test.YtnddejdndipddadLE
set_option maxRecDepth 20000
namespace Go.Proofs.Ytnddejdndipddad

/-- What a receiver may have. -/
structure FitR (x : Rc) : Prop where
  n : x.pieces.length ≤ 1048576
  d : ∀ p ∈ x.pieces, CkFit p.ck ∧ p.ck.data.length ≤ 1048576
  l : x.log.length + x.pieces.length ≤ 2097152
  a : ∀ q ∈ x.log, q.data.length ≤ 1099511627776
/-- .. and its turns. -/
structure OkR (K : Int) (x : Rc) : Prop where
  fit : FitR x
  turn : ∀ z ∈ x.turn, 0 ≤ z ∧ z + x.pieces.length ≤ K
theorem OkR.mono {K K' : Int} {x : Rc} (h : OkR K x) (hk : K ≤ K') : OkR K' x := ⟨h.fit, fun z hz => by have := h.turn z hz; omega⟩
theorem join_le {l : List Pc} {m : Nat} (h : ∀ p ∈ l, p.ck.data.length ≤ m) : (joinD l).length ≤ l.length * m := by
  unfold joinD
  split
  · have e : ∀ (n : Nat), ((List.range n).flatMap (dataAt l)).length ≤ n * m := by
      intro n
      have hd : ∀ k, (dataAt l k).length ≤ m := fun k => by
        unfold dataAt
        split
        · next p hp => exact h p (List.mem_of_find?_eq_some hp)
        · simp
      induction n with
      | zero => simp
      | succ n ih =>
        rw [List.range_succ, List.flatMap_append, List.length_append, Nat.succ_mul]
        have := hd n
        simp only [List.flatMap_cons, List.flatMap_nil, List.append_nil]
        omega
    exact e l.length
  · simp
theorem rest_le (m : Ms) (l : List Pc) : (restM m l).length ≤ l.length := List.length_filter_le _ _
theorem OkR.drop {K : Int} {x : Rc} (h : OkR K x) (m : Ms) : OkR K (dropM x m) := by
  have hl := rest_le m x.pieces
  have h1 := h.fit.n
  have h3 := h.fit.l
  refine ⟨⟨?_, fun p hp => h.fit.d p (List.mem_filter.1 hp).1, ?_, h.fit.a⟩, fun z hz => ?_⟩
  · show (restM m x.pieces).length ≤ _; omega
  · show x.log.length + (restM m x.pieces).length ≤ _; omega
  · have := h.turn z hz
    show 0 ≤ z ∧ z + ((restM m x.pieces).length : Int) ≤ K
    omega
theorem OkR.deliv {K : Int} {x : Rc} (h : OkR K x) (m : Ms) : OkR K (delivM x m) := by
  unfold delivM
  split
  next hw =>
    have hl := deliv_len hw
    rw [delivM, if_pos hw] at hl
    have hl' : (restM m x.pieces).length < x.pieces.length := hl
    have h1 := h.fit.n
    have h3 := h.fit.l
    have h4 := join_le (l := mineM m x.pieces) (m := 1048576) fun p hp => (h.fit.d p (List.mem_filter.1 hp).1).2
    have h5 : (mineM m x.pieces).length * 1048576 ≤ 1048576 * 1048576 := Nat.mul_le_mul_right _ (Nat.le_trans (List.length_filter_le _ _) h1)
    refine ⟨⟨?_, fun p hp => h.fit.d p (List.mem_filter.1 hp).1, ?_, fun q hq => ?_⟩, fun z hz => ?_⟩
    · show (restM m x.pieces).length ≤ _; omega
    · show (x.log ++ [_]).length + (restM m x.pieces).length ≤ _; simp; omega
    · rcases List.mem_append.1 hq with hq | hq
      · exact h.fit.a q hq
      · simp at hq; subst hq; show (joinD (mineM m x.pieces)).length ≤ _; omega
    · have := h.turn z hz
      show 0 ≤ z ∧ z + ((restM m x.pieces).length : Int) ≤ K
      omega
  next => exact h
theorem gone_pieces (x : Rc) (m : Ms) : (goneM x m).pieces = restM m x.pieces := by
  unfold goneM
  split
  next h => rw [delivM, if_pos h]; rfl
  next => rfl
theorem OkR.gone {K : Int} {x : Rc} (h : OkR K x) (m : Ms) : OkR K (goneM x m) := by
  unfold goneM
  split
  · exact h.deliv m
  · exact h.drop m
theorem OkR.goneN {K : Int} {x : Rc} (h : OkR K x) (s : Int) (n : Nat) (a : Int) : OkR K (goneN s n x a) := goneN_ind s (fun _ m h => h.gone m) n x a h
theorem OkR.put {K : Int} {x : Rc} (h : OkR K x) (s v : Int) (h1 : 0 ≤ v) (h2 : v + x.pieces.length ≤ K) : OkR K (setTurn x s v) := by
  refine ⟨⟨h.fit.n, h.fit.d, h.fit.l, h.fit.a⟩, fun z hz => ?_⟩
  show 0 ≤ z ∧ z + (x.pieces.length : Int) ≤ K
  rcases List.mem_or_eq_of_mem_set hz with hz | rfl
  · exact h.turn z hz
  · exact ⟨h1, h2⟩
theorem turnAt_mem {x : Rc} {s : Int} (hs : hasM x s) : turnAt x s ∈ x.turn ∧ x.turn[s.toNat]? = some (turnAt x s) := by
  have h : s.toNat < x.turn.length := by have := hs.1; have := hs.2; omega
  have e : turnAt x s = x.turn[s.toNat] := by simp [turnAt, h]
  rw [e]
  exact ⟨List.getElem_mem h, List.getElem?_eq_getElem h⟩
theorem OkR.at {K : Int} {x : Rc} (h : OkR K x) {s : Int} (hs : hasM x s) : 0 ≤ turnAt x s ∧ turnAt x s + x.pieces.length ≤ K := h.turn _ (turnAt_mem hs).1
theorem OkR.step {K : Int} {x : Rc} (h : OkR K x) {s : Int} (hs : hasM x s) (hw : wholeM x (numM s (turnAt x s)) = true) : OkR K (setTurn (delivM x (numM s (turnAt x s))) s (turnAt x s + 1)) := by
  have h1 := h.at hs
  have h2 := deliv_len hw
  exact (h.deliv _).put s _ (by omega) (by omega)
theorem OkR.pass {K : Int} {x : Rc} (h : OkR K x) {s last : Int} (hs : hasM x s) (hl : last ≤ turnAt x s + 32768) : OkR (K + 32769) (passM x s last) := by
  unfold passM
  split
  · exact h.mono (by omega)
  · have h1 := h.at hs
    have h2 := (h.goneN s (last - turnAt x s + 1).toNat (turnAt x s))
    have h3 : (Go.Proofs.Ytnddejdndipddad.goneN s (last - turnAt x s + 1).toNat x (turnAt x s)).pieces.length ≤ x.pieces.length := goneN_ind (P := fun y => y.pieces.length ≤ x.pieces.length) s (fun y m hy => by
      refine Nat.le_trans ?_ hy
      rw [gone_pieces]
      exact rest_le m y.pieces) _ x _ (Nat.le_refl _)
    exact (h2.mono (by omega)).put s _ (by omega) (by omega)
theorem has_keep {x y : Rc} {s : Int} (h : hasM x s) (e : y.turn.length = x.turn.length) : hasM y s := by unfold hasM at *; rw [e]; exact h
theorem OkR.turns {K : Int} {x : Rc} (h : OkR K x) {s : Int} (hs : hasM x s) : OkR K (turnsM x s) :=
  (turnsM_ind (P := fun y => OkR K y ∧ hasM y s) s (fun y hy hw => ⟨hy.1.step hy.2 hw, has_keep hy.2 (by show (List.set _ _ _).length = _; rw [List.length_set, (deliv_turn y _).1])⟩) x ⟨h, hs⟩).1
theorem OkR.skip {K : Int} {x : Rc} (h : OkR K x) (k : Sk) : OkR (K + 32769) (skipM x k) := by
  unfold skipM
  split
  next hs =>
    split
    · have hn : nearM (turnAt x k.stream) k.mid ≤ turnAt x k.stream + 32768 := by
        unfold nearM
        simp only
        split <;> omega
      exact (h.pass hs hn).turns (has_keep hs (pass_keep x _ _).1)
    · exact (h.drop _).mono (by omega)
  next => exact h.mono (by omega)

theorem gone_none {x : Rc} {m : Ms} (h : ∀ p ∈ x.pieces, isM m p = false) : goneM x m = x := by
  have e1 : mineM m x.pieces = [] := List.filter_eq_nil_iff.2 fun p hp => by simp [h p hp]
  have e2 : restM m x.pieces = x.pieces := List.filter_eq_self.2 fun p hp => by simp [h p hp]
  have e3 : wholeM x m = false := by rw [wholeM, e1, join_nil]
  rw [goneM, if_neg (by simp [e3]), dropM, e2]
theorem goneN_none {s : Int} : ∀ (n : Nat) (x : Rc) (a : Int), (∀ k, a ≤ k → k < a + n → ∀ p ∈ x.pieces, isM (numM s k) p = false) → goneN s n x a = x
  | 0, _, _, _ => rfl
  | n + 1, x, a, h => by
    rw [goneN, gone_none (h a (by omega) (by omega))]
    exact goneN_none n x (a + 1) fun k h1 h2 => h k (by omega) (by omega)
theorem goneN_add {s : Int} : ∀ (i n : Nat) (x : Rc) (a : Int), goneN s (i + n) x a = goneN s n (goneN s i x a) (a + i)
  | 0, n, x, a => by simp [goneN]
  | i + 1, n, x, a => by
    rw [show i + 1 + n = (i + n) + 1 by omega, goneN, goneN, goneN_add i n _ (a + 1)]
    congr 1
    omega
/-- One message that is passed ahead of all others. -/
theorem goneN_one {s : Int} {n i : Nat} {x : Rc} {a : Int} (hi : i < n) (h : ∀ k, a ≤ k → k < a + i → ∀ p ∈ x.pieces, isM (numM s k) p = false) (hn : n ≤ 65536) : goneN s n (goneM x (numM s (a + i))) a = goneN s n x a := by
  obtain ⟨j, rfl⟩ : ∃ j, n = i + (j + 1) := ⟨n - i - 1, by omega⟩
  have e1 : goneN s i x a = x := goneN_none i x a h
  have sub : ∀ p ∈ (goneM x (numM s (a + i))).pieces, p ∈ x.pieces ∧ isM (numM s (a + i)) p = false := fun p hp => by
    rw [gone_pieces] at hp
    have := List.mem_filter.1 hp
    exact ⟨this.1, by simpa using this.2⟩
  have e2 : goneN s i (goneM x (numM s (a + i))) a = goneM x (numM s (a + i)) := goneN_none i _ a fun k h1 h2 p hp => h k h1 h2 p (sub p hp).1
  rw [goneN_add i (j + 1), goneN_add i (j + 1), e1, e2, goneN, goneN, gone_none fun p hp => (sub p hp).2]

/-- The number, from a on, that a piece's message may have. -/
def numAt (a : Int) (p : Pc) : Int := a + (p.ck.mid % 65536 - a) % 65536
def nextS (s a : Int) (st : Int × Bool) (p : Pc) : Int × Bool := if numAt a p ≤ st.1 ∧ isM (numM s (numAt a p)) p = true then (numAt a p, true) else st
def nextF (s a last : Int) (l : List Pc) : Int × Bool := l.foldl (nextS s a) (last, false)
theorem nextF_snoc (s a last : Int) (l : List Pc) (k : Nat) (hk : k < l.length) : nextF s a last (l.take (k + 1)) = nextS s a (nextF s a last (l.take k)) l[k] := by
  rw [List.take_succ_eq_append_getElem hk, nextF, nextF, List.foldl_append]
  rfl
theorem isM_num {s a n : Int} {p : Pc} (h : isM (numM s n) p = true) (h1 : a ≤ n) (h2 : n < a + 65536) : numAt a p = n := by
  simp only [isM, numM, Bool.and_eq_true, beq_iff_eq] at h
  unfold numAt
  rw [h.1.2]
  omega
theorem numAt_ge (a : Int) (p : Pc) : a ≤ numAt a p := by unfold numAt; omega
theorem next_spec (s a last : Int) (hl : last < a + 65536) : ∀ (l : List Pc), (nextF s a last l).1 ≤ last ∧ ((nextF s a last l).2 = true → a ≤ (nextF s a last l).1 ∧ (∃ p ∈ l, isM (numM s (nextF s a last l).1) p = true) ∧ ∀ n, a ≤ n → n < (nextF s a last l).1 → ∀ p ∈ l, isM (numM s n) p = false) ∧
    ((nextF s a last l).2 = false → (nextF s a last l).1 = last ∧ ∀ n, a ≤ n → n ≤ last → ∀ p ∈ l, isM (numM s n) p = false) := by
  have go : ∀ (l : List Pc) (k : Nat), k ≤ l.length → (nextF s a last (l.take k)).1 ≤ last ∧ ((nextF s a last (l.take k)).2 = true → a ≤ (nextF s a last (l.take k)).1 ∧ (∃ p ∈ l.take k, isM (numM s (nextF s a last (l.take k)).1) p = true) ∧ ∀ n, a ≤ n → n < (nextF s a last (l.take k)).1 → ∀ p ∈ l.take k, isM (numM s n) p = false) ∧
      ((nextF s a last (l.take k)).2 = false → (nextF s a last (l.take k)).1 = last ∧ ∀ n, a ≤ n → n ≤ last → ∀ p ∈ l.take k, isM (numM s n) p = false) := by
    intro l k
    induction k with
    | zero => intro _; simp [nextF]
    | succ k ih =>
      intro hk
      obtain ⟨i1, i2, i3⟩ := ih (by omega)
      rw [nextF_snoc s a last l k (by omega), List.take_succ_eq_append_getElem (show k < l.length by omega)]
      generalize nextF s a last (l.take k) = st at *
      obtain ⟨lo, so⟩ := st
      simp only at i1 i2 i3
      unfold nextS
      simp only
      by_cases hc : numAt a l[k] ≤ lo ∧ isM (numM s (numAt a l[k])) l[k] = true
      · rw [if_pos hc]
        refine ⟨by simp only; omega, fun _ => ⟨numAt_ge _ _, ⟨l[k], List.mem_append_right _ (List.mem_singleton.2 rfl), hc.2⟩, fun n h1 h2 p hp => ?_⟩, fun h => by simp at h⟩
        simp only at h2
        rcases List.mem_append.1 hp with hp | hp
        · cases so with
          | true => exact (i2 rfl).2.2 n h1 (by omega) p hp
          | false => exact (i3 rfl).2 n h1 (by have := (i3 rfl).1; omega) p hp
        · simp at hp
          subst hp
          cases hq : isM (numM s n) l[k] with
          | false => rfl
          | true =>
            have := isM_num hq h1 (by omega)
            omega
      · rw [if_neg hc]
        have no : ∀ n, a ≤ n → n ≤ lo → isM (numM s n) l[k] = false := fun n h1 h2 => by
          cases hq : isM (numM s n) l[k] with
          | false => rfl
          | true =>
            have e := isM_num hq h1 (by omega)
            exact absurd ⟨by omega, by rw [e]; exact hq⟩ hc
        refine ⟨i1, fun h => ?_, fun h => ?_⟩
        · obtain ⟨j1, ⟨p, hp, hq⟩, j3⟩ := i2 h
          refine ⟨j1, ⟨p, List.mem_append_left _ hp, hq⟩, fun n h1 h2 p hp => ?_⟩
          simp only at h2
          rcases List.mem_append.1 hp with hp | hp
          · exact j3 n h1 h2 p hp
          · simp at hp; subst hp; exact no n h1 (by omega)
        · obtain ⟨j1, j2⟩ := i3 h
          refine ⟨j1, fun n h1 h2 p hp => ?_⟩
          rcases List.mem_append.1 hp with hp | hp
          · exact j2 n h1 h2 p hp
          · simp at hp; subst hp; exact no n h1 (by omega)
  intro l
  have := go l l.length (Nat.le_refl _)
  rwa [List.take_length] at this
theorem gone_fewer {x : Rc} {m : Ms} (h : ∃ p ∈ x.pieces, isM m p = true) : (goneM x m).pieces.length < x.pieces.length := by
  obtain ⟨p, hp, hq⟩ := h
  rw [gone_pieces]
  have h1 := rest_len m x.pieces
  have h2 : 0 < (mineM m x.pieces).length := List.length_pos_iff.2 fun e => by
    have : p ∈ mineM m x.pieces := List.mem_filter.2 ⟨hp, hq⟩
    rw [e] at this
    simp at this
  omega
end Go.Proofs.Ytnddejdndipddad
