/- Whose turn it is: plain. -/
import Derived.Test.YtnddejdndipddabLB
set_option maxRecDepth 20000
namespace Go.Proofs.Ytnddejdndipddab

/-- A stream's number. -/
def isSt (n : Nat) (s : Int) : Prop := 0 ≤ s ∧ s < (n : Int)
instance (n : Nat) (s : Int) : Decidable (isSt n s) := by unfold isSt; infer_instance
/-- Which of two streams goes ahead: by a rank, then by their numbers. -/
def ahead (f : Int → Int) (a b : Int) : Prop := f a < f b ∨ (f a = f b ∧ a < b)
instance (f : Int → Int) (a b : Int) : Decidable (ahead f a b) := by unfold ahead; infer_instance
theorem ahead.trans {f : Int → Int} {a b c : Int} (h : ahead f a b) (h' : ahead f b c) : ahead f a c := by unfold ahead at *; omega
theorem ahead.irr {f : Int → Int} {a : Int} (h : ahead f a a) : False := by unfold ahead at h; omega
theorem ahead.not {f : Int → Int} {a b : Int} (h : ¬ ahead f a b) : a = b ∨ ahead f b a := by unfold ahead at *; omega

/-- The first one of the stream that is ahead of all others. -/
def Foremost (n : Nat) (f : Int → Int) (ss : List Int) (k : Int) : Prop :=
  (k = -1 ∧ ∀ (j : Nat) s, ss[j]? = some s → ¬ isSt n s) ∨
  ∃ (i : Nat) (t : Int), k = (i : Int) ∧ ss[i]? = some t ∧ isSt n t ∧ ∀ (j : Nat) s, ss[j]? = some s → isSt n s → (s = t ∧ i ≤ j) ∨ ahead f t s

theorem Foremost.nil (n : Nat) (f : Int → Int) : Foremost n f [] (-1) := .inl ⟨rfl, fun j s h => by simp at h⟩
theorem snoc_get {ss : List Int} {x s : Int} {j : Nat} (h : (ss ++ [x])[j]? = some s) : ss[j]? = some s ∨ (j = ss.length ∧ s = x) := by
  rcases Nat.lt_trichotomy j ss.length with hj | hj | hj
  · rw [List.getElem?_append_left hj] at h; exact .inl h
  · subst hj; simp at h; exact .inr ⟨rfl, h.symm⟩
  · rw [List.getElem?_eq_none (by simp; omega)] at h; cases h
theorem Foremost.skip {n : Nat} {f : Int → Int} {ss : List Int} {k x : Int} (h : Foremost n f ss k) (hx : ¬ isSt n x) : Foremost n f (ss ++ [x]) k := by
  rcases h with ⟨h1, h2⟩ | ⟨i, t, h1, h2, h3, h4⟩
  · refine .inl ⟨h1, fun j s hs => ?_⟩
    rcases snoc_get hs with h | ⟨_, rfl⟩
    · exact h2 j s h
    · exact hx
  · refine .inr ⟨i, t, h1, ?_, h3, fun j s hs hst => ?_⟩
    · rw [List.getElem?_append_left (List.getElem?_eq_some_iff.1 h2).1]; exact h2
    · rcases snoc_get hs with h | ⟨_, rfl⟩
      · exact h4 j s h hst
      · exact absurd hst hx
theorem Foremost.one {n : Nat} {f : Int → Int} {ss : List Int} {x : Int} (h : Foremost n f ss (-1)) (hx : isSt n x) : Foremost n f (ss ++ [x]) (ss.length : Nat) := by
  rcases h with ⟨h1, h2⟩ | ⟨i, t, h1, _⟩
  · refine .inr ⟨ss.length, x, rfl, by simp, hx, fun j s hs hst => ?_⟩
    rcases snoc_get hs with h | ⟨rfl, rfl⟩
    · exact absurd hst (h2 j s h)
    · exact .inl ⟨rfl, Nat.le_refl _⟩
  · omega
theorem Foremost.turn {n : Nat} {f : Int → Int} {ss : List Int} {i : Nat} {t x : Int} (h : Foremost n f ss (i : Int)) (ht : ss[i]? = some t) (hx : isSt n x) (ha : ahead f x t) : Foremost n f (ss ++ [x]) (ss.length : Nat) := by
  rcases h with ⟨h1, h2⟩ | ⟨i', t', h1, h2, h3, h4⟩
  · omega
  · obtain rfl : i' = i := by omega
    rw [h2] at ht
    simp only [Option.some.injEq] at ht
    subst ht
    refine .inr ⟨ss.length, x, rfl, by simp, hx, fun j s hs hst => ?_⟩
    rcases snoc_get hs with h | ⟨rfl, rfl⟩
    · rcases h4 j s h hst with ⟨rfl, _⟩ | h5
      · exact .inr ha
      · exact .inr (ha.trans h5)
    · exact .inl ⟨rfl, Nat.le_refl _⟩
theorem Foremost.stay {n : Nat} {f : Int → Int} {ss : List Int} {i : Nat} {t x : Int} (h : Foremost n f ss (i : Int)) (ht : ss[i]? = some t) (ha : ¬ ahead f x t) : Foremost n f (ss ++ [x]) (i : Int) := by
  have hi := (List.getElem?_eq_some_iff.1 ht).1
  rcases h with ⟨h1, h2⟩ | ⟨i', t', h1, h2, h3, h4⟩
  · omega
  · obtain rfl : i' = i := by omega
    rw [h2] at ht
    simp only [Option.some.injEq] at ht
    subst ht
    refine .inr ⟨i', t', rfl, by rw [List.getElem?_append_left hi]; exact h2, h3, fun j s hs hst => ?_⟩
    rcases snoc_get hs with h | ⟨rfl, rfl⟩
    · exact h4 j s h hst
    · rcases ahead.not ha with rfl | h5
      · exact .inl ⟨rfl, by omega⟩
      · exact .inr h5
theorem Foremost.at {n : Nat} {f : Int → Int} {ss : List Int} {i : Nat} (h : Foremost n f ss (i : Int)) : ∃ t, ss[i]? = some t ∧ isSt n t ∧ ∀ (j : Nat) s, ss[j]? = some s → isSt n s → (s = t ∧ i ≤ j) ∨ ahead f t s := by
  rcases h with ⟨h1, h2⟩ | ⟨i', t', h1, h2, h3, h4⟩
  · omega
  · obtain rfl : i' = i := by omega
    exact ⟨t', h2, h3, h4⟩
theorem Foremost.bd {n : Nat} {f : Int → Int} {ss : List Int} {k : Int} (h : Foremost n f ss k) : -1 ≤ k ∧ k < ss.length := by
  rcases h with ⟨h1, h2⟩ | ⟨i', t', h1, h2, h3, h4⟩
  · omega
  · have := (List.getElem?_eq_some_iff.1 h2).1
    omega
theorem Foremost.uniq {n : Nat} {f : Int → Int} {ss : List Int} {k k' : Int} (h : Foremost n f ss k) (h' : Foremost n f ss k') : k = k' := by
  rcases h with ⟨h1, h2⟩ | ⟨i, t, h1, h2, h3, h4⟩ <;> rcases h' with ⟨g1, g2⟩ | ⟨i', t', g1, g2, g3, g4⟩
  · omega
  · exact absurd g3 (h2 _ _ g2)
  · exact absurd h3 (g2 _ _ h2)
  · rcases h4 _ _ g2 g3 with ⟨rfl, a1⟩ | a1 <;> rcases g4 _ _ h2 h3 with ⟨a2, a3⟩ | a2
    · omega
    · exact a2.irr.elim
    · subst a2; exact a1.irr.elim
    · exact (a1.trans a2).irr.elim

/-- The first place of a number. -/
def FirstAt (l : List Int) (x : Int) (i : Nat) : Prop := l[i]? = some x ∧ ∀ j : Nat, l[j]? = some x → i ≤ j
theorem FirstAt.uniq {l : List Int} {x : Int} {i j : Nat} (h : FirstAt l x i) (h' : FirstAt l x j) : i = j := Nat.le_antisymm (h.2 _ h'.1) (h'.2 _ h.1)

/-- Streams in their order. -/
def Orders (n : Nat) (f : Int → Int) (os : List Int) : Prop := (∀ x, isSt n x ↔ x ∈ os) ∧ os.Pairwise (ahead f)
theorem Orders.hit {n : Nat} {f : Int → Int} {os ss : List Int} {t i : Nat} {x : Int} (h : Orders n f os) (hx : os[t]? = some x) (hp : ∀ (t' : Nat) y, t' < t → os[t']? = some y → ∀ (j : Nat) s, ss[j]? = some s → s ≠ y) (hi : FirstAt ss x i) : Foremost n f ss (i : Int) := by
  refine .inr ⟨i, x, rfl, hi.1, (h.1 x).2 (List.mem_of_getElem? hx), fun j s hs hst => ?_⟩
  obtain ⟨t', ht'⟩ := List.getElem?_of_mem ((h.1 s).1 hst)
  rcases Nat.lt_trichotomy t' t with hl | hl | hl
  · exact absurd rfl (hp t' s hl ht' j s hs)
  · subst hl
    rw [hx] at ht'
    simp only [Option.some.injEq] at ht'
    subst ht'
    exact .inl ⟨rfl, hi.2 j hs⟩
  · have a := (List.getElem?_eq_some_iff.1 hx)
    have b := (List.getElem?_eq_some_iff.1 ht')
    have := (List.pairwise_iff_getElem.1 h.2) t t' a.1 b.1 hl
    rw [a.2, b.2] at this
    exact .inr this
theorem Orders.none {n : Nat} {f : Int → Int} {os ss : List Int} (h : Orders n f os) (hp : ∀ (t' : Nat) y, os[t']? = some y → ∀ (j : Nat) s, ss[j]? = some s → s ≠ y) : Foremost n f ss (-1) := by
  refine .inl ⟨rfl, fun j s hs hst => ?_⟩
  obtain ⟨t', ht'⟩ := List.getElem?_of_mem ((h.1 s).1 hst)
  exact hp t' s ht' j s hs rfl

/-- Streams above the last one go first. -/
def fBehind (last : Int) (x : Int) : Int := if last < x then 0 else 1
theorem emod_wrap (x n : Int) (h0 : 0 ≤ x) (h : x < 2 * n) : x % n = if x < n then x else x - n := by
  split
  · exact Int.emod_eq_of_lt h0 (by assumption)
  · rw [← Int.emod_eq_of_lt (a := x - n) (b := n) (by omega) (by omega), Int.sub_emod_right]
/-- The first m streams behind the last one, and round. -/
def roundM (last : Int) (n m : Nat) : List Int := (List.range m).map fun k : Nat => (last + ((k : Int) + 1)) % (n : Int)
theorem roundM_len (last : Int) (n m : Nat) : (roundM last n m).length = m := by simp [roundM]
theorem roundM_succ (last : Int) (n m : Nat) : roundM last n (m + 1) = roundM last n m ++ [(last + ((m : Int) + 1)) % (n : Int)] := by simp [roundM, List.range_succ]
theorem roundM_orders (last : Int) (n : Nat) (h0 : 0 ≤ last) (h1 : last < n) : Orders n (fBehind last) (roundM last n n) := by
  have hw : ∀ k : Nat, k < n → (last + ((k : Int) + 1)) % (n : Int) = if last + k + 1 < n then last + k + 1 else last + k + 1 - n := fun k hk => by
    rw [emod_wrap _ _ (by omega) (by omega), Int.add_assoc]
  refine ⟨fun x => ?_, ?_⟩
  · simp only [roundM, List.mem_map, List.mem_range, isSt]
    constructor
    · rintro ⟨x0, x1⟩
      by_cases hx : last < x
      · refine ⟨(x - last - 1).toNat, by omega, ?_⟩
        rw [hw _ (by omega), if_pos (by omega)]; omega
      · refine ⟨(x - last - 1 + n).toNat, by omega, ?_⟩
        rw [hw _ (by omega), if_neg (by omega)]; omega
    · rintro ⟨k, hk, rfl⟩
      rw [hw k hk]
      split <;> omega
  · unfold roundM
    rw [List.pairwise_map]
    refine (List.pairwise_lt_range (n := n)).imp_of_mem fun {a b} ha hb hab => ?_
    rw [List.mem_range] at ha hb
    rw [hw a ha, hw b hb]
    unfold ahead fBehind
    split <;> split <;> split <;> split <;> omega
/-- All streams, from the lowest one on. -/
def rankM (m : Nat) : List Int := (List.range m).map fun k : Nat => (k : Int)
theorem rankM_len (m : Nat) : (rankM m).length = m := by simp [rankM]
theorem rankM_succ (m : Nat) : rankM (m + 1) = rankM m ++ [(m : Int)] := by simp [rankM, List.range_succ]
theorem rankM_mem (n : Nat) (x : Int) : isSt n x ↔ x ∈ rankM n := by
  simp only [rankM, List.mem_map, List.mem_range, isSt]
  constructor
  · rintro ⟨x0, x1⟩; exact ⟨x.toNat, by omega, by omega⟩
  · rintro ⟨k, hk, rfl⟩; omega
theorem rankM_nodup (n : Nat) : (rankM n).Nodup := by
  unfold rankM
  rw [List.nodup_iff_pairwise_ne, List.pairwise_map]
  exact (List.nodup_range (n := n)).imp fun h e => h (by omega)
theorem rankM_orders (n : Nat) : Orders n (fun _ => 0) (rankM n) := by
  refine ⟨rankM_mem n, ?_⟩
  unfold rankM
  rw [List.pairwise_map]
  exact (List.pairwise_lt_range (n := n)).imp fun {a b} hab => .inr ⟨rfl, by omega⟩

/-- As many, without one twice, among others: all of them. -/
theorem perm_sub {α : Type} [DecidableEq α] : ∀ (a b : List α), a.Nodup → (∀ x ∈ a, x ∈ b) → b.length ≤ a.length → a.Perm b
  | [], b, _, _, h => by
    have : b = [] := List.eq_nil_of_length_eq_zero (by simpa using h)
    subst this
    exact List.Perm.refl _
  | x :: a, b, hn, hs, h => by
    have hx : x ∈ b := hs x (by simp)
    have h1 := List.perm_cons_erase hx
    have hl : (b.erase x).length = b.length - 1 := List.length_erase_of_mem hx
    have hn' := List.nodup_cons.1 hn
    have := perm_sub a (b.erase x) hn'.2 (fun y hy => by
      have hne : y ≠ x := by rintro rfl; exact hn'.1 hy
      exact (List.mem_erase_of_ne hne).2 (hs y (by simp [hy]))) (by rw [hl]; simp at h; omega)
    exact (this.cons x).trans h1.symm

/-- Streams that were taken, each ahead of those that were not. -/
structure Taken (n : Nat) (f : Int → Int) (os : List Int) : Prop where
  st : ∀ x ∈ os, isSt n x
  nodup : os.Nodup
  ord : os.Pairwise (ahead f)
  rest : ∀ x, isSt n x → x ∉ os → ∀ o ∈ os, ahead f o x
theorem Taken.nil (n : Nat) (f : Int → Int) : Taken n f [] := ⟨fun x h => by simp at h, List.nodup_nil, List.Pairwise.nil, fun x _ _ o h => by simp at h⟩
/-- The one that is ahead of those below k that were not taken. -/
def Best (f : Int → Int) (os : List Int) (k : Nat) (b : Int) : Prop :=
  (b = -1 ∧ ∀ x : Int, 0 ≤ x → x < k → x ∈ os) ∨ (0 ≤ b ∧ b < k ∧ b ∉ os ∧ ∀ x : Int, 0 ≤ x → x < k → x ∉ os → x = b ∨ ahead f b x)
theorem Best.zero (f : Int → Int) (os : List Int) : Best f os 0 (-1) := .inl ⟨rfl, fun x h h' => by omega⟩
theorem Best.had {f : Int → Int} {os : List Int} {k : Nat} {b : Int} (h : Best f os k b) (hk : (k : Int) ∈ os) : Best f os (k + 1) b := by
  rcases h with ⟨h1, h2⟩ | ⟨h1, h2, h3, h4⟩
  · refine .inl ⟨h1, fun x x0 x1 => ?_⟩
    by_cases e : x = (k : Int)
    · rw [e]; exact hk
    · exact h2 x x0 (by omega)
  · refine .inr ⟨h1, by omega, h3, fun x x0 x1 x2 => ?_⟩
    by_cases e : x = (k : Int)
    · rw [e] at x2; exact absurd hk x2
    · exact h4 x x0 (by omega) x2
theorem Best.first {f : Int → Int} {os : List Int} {k : Nat} (h : Best f os k (-1)) (hk : (k : Int) ∉ os) : Best f os (k + 1) (k : Int) := by
  rcases h with ⟨h1, h2⟩ | ⟨h1, _⟩
  · refine .inr ⟨by omega, by omega, hk, fun x x0 x1 x2 => .inl ?_⟩
    by_cases e : x = (k : Int)
    · exact e
    · exact absurd (h2 x x0 (by omega)) x2
  · omega
theorem Best.turn {f : Int → Int} {os : List Int} {k : Nat} {b : Int} (h : Best f os k b) (hb : 0 ≤ b) (hk : (k : Int) ∉ os) (hf : f k < f b) : Best f os (k + 1) (k : Int) := by
  rcases h with ⟨h1, h2⟩ | ⟨h1, h2, h3, h4⟩
  · omega
  · refine .inr ⟨by omega, by omega, hk, fun x x0 x1 x2 => ?_⟩
    by_cases e : x = (k : Int)
    · exact .inl e
    · rcases h4 x x0 (by omega) x2 with rfl | h5
      · exact .inr (.inl hf)
      · exact .inr (ahead.trans (.inl hf) h5)
theorem Best.stay {f : Int → Int} {os : List Int} {k : Nat} {b : Int} (h : Best f os k b) (hb : 0 ≤ b) (hf : ¬ f k < f b) : Best f os (k + 1) b := by
  rcases h with ⟨h1, h2⟩ | ⟨h1, h2, h3, h4⟩
  · omega
  · refine .inr ⟨by omega, by omega, h3, fun x x0 x1 x2 => ?_⟩
    by_cases e : x = (k : Int)
    · subst e
      refine .inr ?_
      unfold ahead
      omega
    · exact h4 x x0 (by omega) x2
theorem Best.bd {f : Int → Int} {os : List Int} {k : Nat} {b : Int} (h : Best f os k b) : -1 ≤ b ∧ b < k := by
  rcases h with ⟨h1, h2⟩ | ⟨h1, h2, h3, h4⟩ <;> omega
theorem Taken.next {n : Nat} {f : Int → Int} {os : List Int} {b : Int} (h : Taken n f os) (hb : Best f os n b) (hl : os.length < n) : isSt n b ∧ b ∉ os ∧ Taken n f (os ++ [b]) := by
  rcases hb with ⟨h1, h2⟩ | ⟨h1, h2, h3, h4⟩
  · exfalso
    have := (perm_sub (rankM n) os (rankM_nodup n) (fun x hx => by obtain ⟨a, b⟩ := (rankM_mem n x).2 hx; exact h2 x a b) (by rw [rankM_len]; omega)).length_eq
    rw [rankM_len] at this
    omega
  · refine ⟨⟨h1, h2⟩, h3, ⟨fun x hx => ?_, ?_, ?_, fun x hx hn o ho => ?_⟩⟩
    · rcases List.mem_append.1 hx with hx | hx
      · exact h.st x hx
      · simp at hx; subst hx; exact ⟨h1, h2⟩
    · rw [List.nodup_append]
      refine ⟨h.nodup, by simp, fun a ha c hc => ?_⟩
      simp at hc
      subst hc
      rintro rfl
      exact h3 ha
    · rw [List.pairwise_append]
      refine ⟨h.ord, by simp, fun a ha c hc => ?_⟩
      simp at hc
      subst hc
      exact h.rest _ ⟨h1, h2⟩ h3 a ha
    · simp at hn
      rcases List.mem_append.1 ho with ho | ho
      · exact h.rest x hx hn.1 o ho
      · simp at ho
        subst ho
        exact (h4 x hx.1 hx.2 hn.1).resolve_left hn.2
theorem Taken.all {n : Nat} {f : Int → Int} {os : List Int} (h : Taken n f os) (hl : os.length = n) : Orders n f os := by
  have P := perm_sub os (rankM n) h.nodup (fun x hx => (rankM_mem n x).1 (h.st x hx)) (by rw [rankM_len]; omega)
  exact ⟨fun x => ⟨fun hx => P.mem_iff.2 ((rankM_mem n x).1 hx), h.st x⟩, h.ord⟩

/-- How many bytes a stream has had. -/
def fFair (had : List Int) (x : Int) : Int := had.getD x.toNat 0
/-- Whose turn it is. -/
def NextIs (turns last hand : Int) (had ids ss : List Int) (k : Int) : Prop :=
  if ss.length = 0 ∨ had.length = 0 then k = -1
  else if turns = 2 ∧ hand ∈ ids then ∃ i : Nat, k = (i : Int) ∧ FirstAt ids hand i
  else if turns = 2 ∨ turns = 3 then Foremost had.length (fBehind last) ss k
  else if turns = 4 then Foremost had.length (fun _ => 0) ss k
  else if turns = 5 then Foremost had.length (fFair had) ss k
  else k = 0
theorem NextIs.uniq {turns last hand k k' : Int} {had ids ss : List Int} (h : NextIs turns last hand had ids ss k) (h' : NextIs turns last hand had ids ss k') : k = k' := by
  unfold NextIs at *
  split at h
  · rw [if_pos (by assumption)] at h'; omega
  · rw [if_neg (by assumption)] at h'
    split at h
    · rw [if_pos (by assumption)] at h'
      obtain ⟨i, rfl, hi⟩ := h
      obtain ⟨j, rfl, hj⟩ := h'
      rw [hi.uniq hj]
    · rw [if_neg (by assumption)] at h'
      split at h
      · rw [if_pos (by assumption)] at h'; exact h.uniq h'
      · rw [if_neg (by assumption)] at h'
        split at h
        · rw [if_pos (by assumption)] at h'; exact h.uniq h'
        · rw [if_neg (by assumption)] at h'
          split at h
          · rw [if_pos (by assumption)] at h'; exact h.uniq h'
          · rw [if_neg (by assumption)] at h'; omega

/-- Who waits has a turn. -/
theorem NextIs.waits {turns last hand k : Int} {had ids ss : List Int} (h : NextIs turns last hand had ids ss k) (h1 : 0 < had.length) (hs : ∀ s ∈ ss, isSt had.length s) (hi : ∀ i : Nat, ids[i]? = some hand → i = 0) (h0 : 0 < ss.length) :
    ∃ i : Nat, k = (i : Int) ∧ i < ss.length ∧ ∀ (j : Nat) s, j < i → ss[j]? = some s → ss[i]? ≠ some s := by
  have FO : ∀ f, Foremost had.length f ss k → ∃ i : Nat, k = (i : Int) ∧ i < ss.length ∧ ∀ (j : Nat) s, j < i → ss[j]? = some s → ss[i]? ≠ some s := by
    rintro f (⟨e1, e2⟩ | ⟨i, t, rfl, e2, e3, e4⟩)
    · exact absurd (hs _ (List.getElem_mem h0)) (e2 0 _ (List.getElem?_eq_getElem h0))
    · refine ⟨i, rfl, (List.getElem?_eq_some_iff.1 e2).1, fun j s hj hsj he => ?_⟩
      rw [e2] at he
      simp only [Option.some.injEq] at he
      subst he
      rcases e4 j t hsj (hs t (List.mem_of_getElem? hsj)) with ⟨_, h⟩ | h
      · omega
      · exact h.irr
  unfold NextIs at h
  rw [if_neg (by omega)] at h
  split at h
  · obtain ⟨i, rfl, hf⟩ := h
    obtain rfl := hi i hf.1
    exact ⟨0, rfl, h0, fun j s hj => by omega⟩
  · split at h
    · exact FO _ h
    · split at h
      · exact FO _ h
      · split at h
        · exact FO _ h
        · exact ⟨0, h, h0, fun j s hj => by omega⟩

/-- How often stream x had a turn, of t turns of n streams. -/
def cntM (n t x : Nat) : Nat := (t + (n - 1 - x)) / n
theorem cnt_zero (n x : Nat) (h : x < n) : cntM n 0 x = 0 := by
  unfold cntM
  exact Nat.div_eq_of_lt (by omega)
theorem cnt_succ (n t x : Nat) (h1 : 0 < n) (hn : n ≤ 4) (h : x < n) : cntM n (t + 1) x = if x = t % n then cntM n t x + 1 else cntM n t x := by
  unfold cntM
  rcases (show n = 1 ∨ n = 2 ∨ n = 3 ∨ n = 4 by omega) with rfl | rfl | rfl | rfl <;> split <;> omega
theorem cnt_near (n t x y : Nat) (h1 : 0 < n) (hn : n ≤ 4) (hx : x < n) (hy : y < n) : cntM n t x ≤ cntM n t y + 1 := by
  unfold cntM
  rcases (show n = 1 ∨ n = 2 ∨ n = 3 ∨ n = 4 by omega) with rfl | rfl | rfl | rfl <;> omega
theorem cnt_le (n t x : Nat) (h1 : 0 < n) (hn : n ≤ 4) : cntM n t x ≤ t + 3 := by
  unfold cntM
  rcases (show n = 1 ∨ n = 2 ∨ n = 3 ∨ n = 4 by omega) with rfl | rfl | rfl | rfl <;> omega
/-- Who has had fewer turns, or as many and is lower: the next one in turn. -/
theorem cnt_first (n t y : Nat) (h1 : 0 < n) (hn : n ≤ 4) (hy : y < n) : y = t % n ∨ cntM n t (t % n) < cntM n t y ∨ (cntM n t (t % n) = cntM n t y ∧ t % n < y) := by
  unfold cntM
  rcases (show n = 1 ∨ n = 2 ∨ n = 3 ∨ n = 4 by omega) with rfl | rfl | rfl | rfl <;> omega
def lastM (n t : Nat) : Nat := (t + (n - 1)) % n
theorem last_succ (n t : Nat) (h1 : 0 < n) (hn : n ≤ 4) : lastM n (t + 1) = t % n := by
  unfold lastM
  rcases (show n = 1 ∨ n = 2 ∨ n = 3 ∨ n = 4 by omega) with rfl | rfl | rfl | rfl <;> omega
theorem rankM_get {n j : Nat} {s : Int} (h : (rankM n)[j]? = some s) : s = (j : Int) ∧ j < n := by
  have hj := (List.getElem?_eq_some_iff.1 h).1
  rw [rankM_len] at hj
  simp [rankM, hj] at h
  exact ⟨h.symm, hj⟩
theorem rankM_at {n j : Nat} (h : j < n) : (rankM n)[j]? = some (j : Int) := by simp [rankM, h]
/-- Of streams that all wait, by parts: in turn. -/
theorem fair_parts (n t : Nat) (h1 : 0 < n) (hn : n ≤ 4) : Foremost n (fBehind (lastM n t : Nat)) (rankM n) ((t % n : Nat) : Int) := by
  have hm : t % n < n := Nat.mod_lt _ h1
  refine .inr ⟨t % n, (t % n : Nat), rfl, rankM_at hm, ⟨by omega, by omega⟩, fun j s hs _ => ?_⟩
  obtain ⟨rfl, hj⟩ := rankM_get hs
  unfold ahead fBehind lastM
  rcases (show n = 1 ∨ n = 2 ∨ n = 3 ∨ n = 4 by omega) with rfl | rfl | rfl | rfl <;> split <;> split <;> omega
/-- By bytes: in turn, too. -/
theorem fair_bytes (n t : Nat) (p : Int) (had : List Int) (h1 : 0 < n) (hn : n ≤ 4) (hp : 0 < p) (hh : ∀ x : Nat, x < n → had.getD x 0 = (cntM n t x : Nat) * p) : Foremost n (fFair had) (rankM n) ((t % n : Nat) : Int) := by
  have hm : t % n < n := Nat.mod_lt _ h1
  refine .inr ⟨t % n, (t % n : Nat), rfl, rankM_at hm, ⟨by omega, by omega⟩, fun j s hs _ => ?_⟩
  obtain ⟨rfl, hj⟩ := rankM_get hs
  unfold ahead fFair
  rw [Int.toNat_natCast, Int.toNat_natCast, hh _ hm, hh _ hj]
  rcases cnt_first n t j h1 hn hj with h | h | ⟨h, h'⟩
  · exact .inl ⟨by omega, by omega⟩
  · exact .inr (.inl (Int.mul_lt_mul_of_pos_right (by omega) hp))
  · exact .inr (.inr ⟨by rw [h], by omega⟩)
end Go.Proofs.Ytnddejdndipddab
