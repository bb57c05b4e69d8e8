/- What is sent is read, of the plain functions. -/
import Derived.Test.YtnddejdndipddabCkT
set_option maxRecDepth 20000
namespace Go.Proofs.Ytnddejdndipddab

theorem two16_be (a b : Int) (hb : 0 ≤ b ∧ b < 256) : two16 (256 * a + b) = [a, b] := by
  unfold two16
  rw [show (256 * a + b) / 256 = a by omega, show (256 * a + b) % 256 = b by omega]
theorem be_two (t : Int) : 256 * (t / 256) + t % 256 = t := by omega

theorem IsB.of {a : Int} {l : List Int} (h : IsB (a :: l)) : (0 ≤ a ∧ a < 256) ∧ IsB l := ⟨h a (by simp), fun z hz => h z (by simp [hz])⟩

theorem spansM_flat (l : List Sp) : spansM (l.flatMap spanB) = l := by
  induction l with
  | nil => rfl
  | cons s r ih =>
    show spansM (s.1 / 256 :: s.1 % 256 :: s.2 / 256 :: s.2 % 256 :: r.flatMap spanB) = s :: r
    rw [spansM, be_two, be_two, ih]
theorem skipsM_flat (l : List Sk) : skipsM (l.flatMap skipB) = l ∧ flagsOk (l.flatMap skipB) = true := by
  induction l with
  | nil => exact ⟨rfl, rfl⟩
  | cons s r ih =>
    have e : ((s :: r).flatMap skipB) = s.stream :: flagV s.ordered 1 :: s.mid / 256 :: s.mid % 256 :: r.flatMap skipB := rfl
    rw [e]
    constructor
    · rw [skipsM, be_two, ih.1]
      congr 1
      cases s with
      | mk a b c => cases c <;> rfl
    · rw [flagsOk, ih.2]
      cases s.ordered <;> rfl

theorem flat_spansM (n : Nat) : ∀ l : List Int, IsB l → l.length = 4 * n → (spansM l).flatMap spanB = l := by
  induction n with
  | zero => intro l _ h; have := List.eq_nil_of_length_eq_zero h; subst this; rfl
  | succ n ih =>
    intro l hb h
    match l, hb, h with
    | a :: b :: c :: d :: r, hb, h =>
      have h1 := hb.of
      have h2 := h1.2.of
      have h3 := h2.2.of
      have h4 := h3.2.of
      rw [spansM, List.flatMap_cons, ih r h4.2 (by simp at h; omega)]
      show two16 (256 * a + b) ++ two16 (256 * c + d) ++ r = _
      rw [two16_be a b h2.1, two16_be c d h4.1]
      rfl
theorem flat_skipsM (n : Nat) : ∀ l : List Int, IsB l → l.length = 4 * n → flagsOk l = true → (skipsM l).flatMap skipB = l := by
  induction n with
  | zero => intro l _ h _; have := List.eq_nil_of_length_eq_zero h; subst this; rfl
  | succ n ih =>
    intro l hb h hf
    match l, hb, h, hf with
    | a :: f :: c :: d :: r, hb, h, hf =>
      have h1 := hb.of
      have h2 := h1.2.of
      have h3 := h2.2.of
      have h4 := h3.2.of
      rw [flagsOk, Bool.and_eq_true, decide_eq_true_eq] at hf
      rw [skipsM, List.flatMap_cons, ih r h4.2 (by simp at h; omega) hf.2]
      show [a, flagV (decide (f = 1)) 1] ++ two16 (256 * c + d) ++ r = _
      rw [two16_be c d h4.1]
      rcases (show f = 0 ∨ f = 1 by omega) with rfl | rfl <;> rfl

theorem flags_low (l o : Bool) : flagsM l o ≤ 3 ∧ decide (flagsM l o % 2 = 1) = l ∧ decide (flagsM l o / 2 = 1) = o := by
  cases l <;> cases o <;> decide
theorem flags_back (f : Int) (h0 : 0 ≤ f) (h3 : f ≤ 3) : flagsM (decide (f % 2 = 1)) (decide (f / 2 = 1)) = f := by
  rcases (show f = 0 ∨ f = 1 ∨ f = 2 ∨ f = 3 by omega) with rfl | rfl | rfl | rfl <;> rfl

/-- What its kind has of a chunk. -/
def normM (c : Ck) : Ck :=
  if c.kind = 1 then { c with spans := [], room := 0, skips := [] }
  else if c.kind = 2 then ⟨2, c.tag, 0, 0, 0, false, false, [], c.spans, c.room, []⟩
  else ⟨3, c.tag, 0, 0, 0, false, false, [], [], 0, c.skips⟩

theorem read_body {c : Ck} (h : wrongM c = 0) : readM c.kind (bodyM c) = (0, normM c) := by
  rcases wrong_kind h with k | k | k
  · have g := goodD h k
    obtain ⟨kind, tag, stream, mid, part, last, ordered, data, spans, room, skips⟩ := c
    dsimp only at k
    subst k
    have hf := flags_low last ordered
    have e : bodyM ⟨1, tag, stream, mid, part, last, ordered, data, spans, room, skips⟩ = tag / 256 :: tag % 256 :: stream :: flagsM last ordered :: mid / 256 :: mid % 256 :: part :: data := rfl
    rw [e, read_1]
    have e2 : formD (tag / 256 :: tag % 256 :: stream :: flagsM last ordered :: mid / 256 :: mid % 256 :: part :: data) = true := by
      unfold formD
      simp
      exact hf.1
    rw [if_pos e2]
    have e3 : dataM (tag / 256 :: tag % 256 :: stream :: flagsM last ordered :: mid / 256 :: mid % 256 :: part :: data) = ⟨1, 256 * (tag / 256) + tag % 256, stream, 256 * (mid / 256) + mid % 256, part, decide (flagsM last ordered % 2 = 1), decide (flagsM last ordered / 2 = 1), data, [], 0, []⟩ := rfl
    rw [e3, be_two, be_two, hf.2.1, hf.2.2]
    rfl
  · obtain ⟨kind, tag, stream, mid, part, last, ordered, data, spans, room, skips⟩ := c
    dsimp only at k
    subst k
    have e : bodyM ⟨2, tag, stream, mid, part, last, ordered, data, spans, room, skips⟩ = tag / 256 :: tag % 256 :: room / 256 :: room % 256 :: spans.flatMap spanB := rfl
    rw [e, read_2]
    have e2 : formS (tag / 256 :: tag % 256 :: room / 256 :: room % 256 :: spans.flatMap spanB) = true := by
      unfold formS
      simp [-List.length_flatMap, spanB_len]
    rw [if_pos e2]
    have e3 : sackM (tag / 256 :: tag % 256 :: room / 256 :: room % 256 :: spans.flatMap spanB) = ⟨2, 256 * (tag / 256) + tag % 256, 0, 0, 0, false, false, [], spansM (spans.flatMap spanB), 256 * (room / 256) + room % 256, []⟩ := rfl
    rw [e3, be_two, be_two, spansM_flat]
    rfl
  · obtain ⟨kind, tag, stream, mid, part, last, ordered, data, spans, room, skips⟩ := c
    dsimp only at k
    subst k
    have e : bodyM ⟨3, tag, stream, mid, part, last, ordered, data, spans, room, skips⟩ = tag / 256 :: tag % 256 :: skips.flatMap skipB := rfl
    rw [e, read_3]
    have e2 : formF (tag / 256 :: tag % 256 :: skips.flatMap skipB) = true := by
      unfold formF
      have : List.drop 2 (tag / 256 :: tag % 256 :: skips.flatMap skipB) = skips.flatMap skipB := rfl
      rw [this, (skipsM_flat skips).2]
      simp [-List.length_flatMap, skipB_len]
    rw [if_pos e2]
    have e3 : forwardM (tag / 256 :: tag % 256 :: skips.flatMap skipB) = ⟨3, 256 * (tag / 256) + tag % 256, 0, 0, 0, false, false, [], [], 0, skipsM (skips.flatMap skipB)⟩ := rfl
    rw [e3, be_two, (skipsM_flat skips).1]
    rfl

theorem norm_wrong {c : Ck} (h : wrongM c = 0) : wrongM (normM c) = 0 ∧ bytesM (normM c) = bytesM c ∧ (normM c).kind = c.kind ∧ (normM c).tag = c.tag := by
  have t := wrong_tag h
  rcases wrong_kind h with k | k | k
  · obtain ⟨kind, tag, stream, mid, part, last, ordered, data, spans, room, skips⟩ := c
    dsimp only at k
    subst k
    refine ⟨?_, rfl, rfl, rfl⟩
    rw [wrongM_d rfl t] at h
    rw [wrongM_d (c := normM ⟨1, tag, stream, mid, part, last, ordered, data, spans, room, skips⟩) rfl t]
    exact h
  · obtain ⟨kind, tag, stream, mid, part, last, ordered, data, spans, room, skips⟩ := c
    dsimp only at k
    subst k
    refine ⟨?_, rfl, rfl, rfl⟩
    rw [wrongM_s rfl t] at h
    rw [wrongM_s (c := normM ⟨2, tag, stream, mid, part, last, ordered, data, spans, room, skips⟩) rfl t]
    exact h
  · obtain ⟨kind, tag, stream, mid, part, last, ordered, data, spans, room, skips⟩ := c
    dsimp only at k
    subst k
    refine ⟨?_, rfl, rfl, rfl⟩
    rw [wrongM_f rfl t] at h
    rw [wrongM_f (c := normM ⟨3, tag, stream, mid, part, last, ordered, data, spans, room, skips⟩) rfl t]
    exact h

theorem body_len {c : Ck} (h : wrongM c = 0) : (bodyM c).length ≤ 34 := by
  rcases wrong_kind h with k | k | k
  · have g := (goodD h k).len
    simp [bodyM, k, two16]; omega
  · have g := (goodS h k).len
    simp [-List.length_flatMap, bodyM, k, two16, spanB_len]; omega
  · have g := (goodF h k).len
    simp [-List.length_flatMap, bodyM, k, two16, skipB_len]; omega

theorem turn_there {c : Ck} (h : wrongM c = 0) (b : List Int) : parseM (bytesM c ++ b) = (0, normM c, ((bytesM c).length : Int)) := by
  have e : bytesM c ++ b = c.kind :: ((bodyM c).length : Int) :: (bodyM c ++ b) := rfl
  rw [e, parse_read (by simp; omega)]
  have e2 : ((c.kind :: ((bodyM c).length : Int) :: (bodyM c ++ b)).drop 2).take (((c.kind :: ((bodyM c).length : Int) :: (bodyM c ++ b)).getD 1 0).toNat) = bodyM c := by
    show (bodyM c ++ b).take (((bodyM c).length : Int).toNat) = _
    simp
  rw [e2]
  have e3 : (c.kind :: ((bodyM c).length : Int) :: (bodyM c ++ b)).getD 0 0 = c.kind := rfl
  have e4 : (c.kind :: ((bodyM c).length : Int) :: (bodyM c ++ b)).getD 1 0 = ((bodyM c).length : Int) := rfl
  rw [e3, e4, read_body h]
  have hn := norm_wrong h
  rw [if_neg (by simp), if_neg (by simpa using hn.1)]
  simp only [bytesM, List.length_cons]
  congr 2
  omega

theorem body_read {k : Int} {l : List Int} (hb : IsB l) {c : Ck} (h : readM k l = (0, c)) : c.kind = k ∧ bodyM c = l := by
  unfold readM at h
  split at h
  · rename_i hk
    subst hk
    split at h
    · rename_i hf
      simp only [Prod.mk.injEq, true_and] at h
      subst h
      refine ⟨rfl, ?_⟩
      unfold formD at hf
      simp only [decide_eq_true_eq] at hf
      match l, hb, hf with
      | a :: b :: x :: f :: m :: n :: p :: r, hb, hf =>
        have h1 := hb.of
        have h2 := h1.2.of
        have h3 := h2.2.of
        have h4 := h3.2.of
        have h5 := h4.2.of
        have h6 := h5.2.of
        have h7 := h6.2.of
        show two16 (256 * a + b) ++ ([x, flagsM (decide (f % 2 = 1)) (decide (f / 2 = 1))] ++ two16 (256 * m + n) ++ [p] ++ r) = _
        rw [two16_be a b h2.1, two16_be m n h6.1, flags_back f h4.1.1 hf.2]
        rfl
      | [], _, hf => simp at hf
      | [_], _, hf => simp at hf
      | [_, _], _, hf => simp at hf
      | [_, _, _], _, hf => simp at hf
      | [_, _, _, _], _, hf => simp at hf
      | [_, _, _, _, _], _, hf => simp at hf
      | [_, _, _, _, _, _], _, hf => simp at hf
    · simp at h
  · split at h
    · rename_i hk
      subst hk
      split at h
      · rename_i hf
        simp only [Prod.mk.injEq, true_and] at h
        subst h
        refine ⟨rfl, ?_⟩
        unfold formS at hf
        simp only [decide_eq_true_eq] at hf
        match l, hb, hf with
        | a :: b :: x :: y :: r, hb, hf =>
          have h1 := hb.of
          have h2 := h1.2.of
          have h3 := h2.2.of
          have h4 := h3.2.of
          show two16 (256 * a + b) ++ (two16 (256 * x + y) ++ (spansM r).flatMap spanB) = _
          rw [two16_be a b h2.1, two16_be x y h4.1, flat_spansM (r.length / 4) r h4.2 (by simp at hf; omega)]
          rfl
        | [], _, hf => simp at hf
        | [_], _, hf => simp at hf
        | [_, _], _, hf => simp at hf
        | [_, _, _], _, hf => simp at hf
      · simp at h
    · split at h
      · rename_i hk
        subst hk
        split at h
        · rename_i hf
          simp only [Prod.mk.injEq, true_and] at h
          subst h
          refine ⟨rfl, ?_⟩
          unfold formF at hf
          simp only [Bool.and_eq_true, decide_eq_true_eq] at hf
          match l, hb, hf with
          | a :: b :: r, hb, hf =>
            have h1 := hb.of
            have h2 := h1.2.of
            show two16 (256 * a + b) ++ (skipsM r).flatMap skipB = _
            rw [two16_be a b h2.1, flat_skipsM (r.length / 4) r h2.2 (by have := hf.1; simp at this; omega) hf.2]
            rfl
          | [], _, hf => simp at hf
          | [_], _, hf => simp at hf
        · simp at h
      · simp at h

theorem turn_back {b : List Int} (hb : IsB b) : ((parseM b).1 ≠ 0 ∧ (parseM b).2.2 = 0 ∧ (parseM b).2.1 = Ck.zero) ∨
    ((parseM b).1 = 0 ∧ wrongM (parseM b).2.1 = 0 ∧ 0 ≤ (parseM b).2.2 ∧ (parseM b).2.2 ≤ b.length ∧ bytesM (parseM b).2.1 = b.take (parseM b).2.2.toNat) := by
  by_cases h : b.length < 2 ∨ (b.length : Int) - 2 < b.getD 1 0
  · rw [parse_end h]
    exact .inl ⟨by simp, rfl, rfl⟩
  · rw [parse_read h]
    simp only [not_or] at h
    split
    · rename_i hr
      exact .inl ⟨hr, rfl, rfl⟩
    · rename_i hr
      split
      · rename_i hw
        exact .inl ⟨hw, rfl, rfl⟩
      · rename_i hw
        right
        match b, hb, h, hr, hw with
        | x :: n :: r, hb, h, hr, hw =>
          have h1 := hb.of
          have h2 := h1.2.of
          have g0 : (x :: n :: r).getD 0 0 = x := rfl
          have g1 : (x :: n :: r).getD 1 0 = n := rfl
          have g2 : (x :: n :: r).drop 2 = r := rfl
          rw [g0, g1, g2] at hr hw ⊢
          rw [g1] at h
          simp only [Decidable.not_not] at hr hw
          have hle : n.toNat ≤ r.length := by have := h.2; simp at this; omega
          have hrd := body_read (h2.2.take n.toNat) (c := (readM x (r.take n.toNat)).2) (Prod.ext hr rfl)
          refine ⟨rfl, hw, by show (0 : Int) ≤ 2 + n; omega, by show 2 + n ≤ _; simp; omega, ?_⟩
          dsimp only
          rw [bytesM, hrd.1, hrd.2, show (2 + n).toNat = n.toNat + 2 by omega]
          simp only [List.take_succ_cons, List.length_take, List.cons.injEq, true_and, and_true]
          omega
        | [], _, h, _, _ => simp at h
        | [_], _, h, _, _ => simp at h
end Go.Proofs.Ytnddejdndipddab
