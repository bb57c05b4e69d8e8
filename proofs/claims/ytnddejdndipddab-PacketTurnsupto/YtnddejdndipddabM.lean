/- Plain facts on spans that rise: what is in, that they rise, that there is one way to write them. -/
import Derived.Test.YtnddejdndipddabG
set_option maxRecDepth 20000
namespace Go.Proofs.Ytnddejdndipddab

/-- Spans that rise, above b, with at least one number between each two. -/
def Ris : Int → List Sp → Prop
  | _, [] => True
  | b, s :: r => b < s.1 ∧ s.1 ≤ s.2 ∧ Ris (s.2 + 1) r

theorem Ris.mono {b b' : Int} {l : List Sp} (h : Ris b l) (hb : b' ≤ b) : Ris b' l := by
  cases l with
  | nil => trivial
  | cons s r => exact ⟨by have := h.1; omega, h.2.1, h.2.2⟩

def inSp (s : Sp) (x : Int) : Prop := s.1 ≤ x ∧ x ≤ s.2

theorem inM_nil (x : Int) : inM [] x = false := rfl
theorem inM_cons (s : Sp) (l : List Sp) (x : Int) : inM (s :: l) x = true ↔ (s.1 ≤ x ∧ x ≤ s.2) ∨ inM l x = true := by simp [inM]

theorem Ris.low {b : Int} {l : List Sp} (h : Ris b l) {x : Int} (hx : inM l x = true) : b < x := by
  induction l generalizing b with
  | nil => simp [inM] at hx
  | cons s r ih =>
    rcases (inM_cons s r x).1 hx with h1 | h1
    · have := h.1; omega
    · have h2 := ih h.2.2 h1; have := h.1; have := h.2.1; omega

/-- Put the number in, from the left; 'absorb': a span that swallows what touches the number. -/
def absorb (n : Int) : Sp → List Sp → List Sp
  | o, [] => [o]
  | o, s :: r => if n + 1 < s.1 then o :: s :: r else absorb n (min o.1 s.1, max o.2 s.2) r
def addR (n : Int) : List Sp → List Sp
  | [] => [(n, n)]
  | s :: r => if s.2 + 1 < n then s :: addR n r else absorb n (n, n) (s :: r)

theorem absorb_eq (n c : Int) (l : List Sp) (o : Sp) : (l.take (scan (soAdd2 n) c l).1).foldl (fun o s => (min o.1 s.1, max o.2 s.2)) o :: l.drop (scan (soAdd2 n) c l).1 = absorb n o l := by
  induction l generalizing o with
  | nil => simp [scan, absorb]
  | cons s r ih =>
    by_cases h : n + 1 < s.1
    · simp [scan, soAdd2, absorb, h]
    · have e : (soAdd2 n c s).1 = false := by simp [soAdd2, h]
      have e2 : (soAdd2 n c s).2 = c := rfl
      simp only [scan, e, e2, absorb, if_neg h]
      simp only [Bool.false_eq_true, if_false, List.take_succ_cons, List.drop_succ_cons, List.foldl_cons]
      exact ih _

theorem addM_eq (l : List Sp) (n : Int) : addM l n = addR n l := by
  induction l with
  | nil => simp [addM, scan, addR, joinM]
  | cons s r ih =>
    by_cases h : s.2 + 1 < n
    · have e : (soAdd1 n n s).1 = false := by simp [soAdd1, h]
      have e2 : (soAdd1 n n s).2 = n := rfl
      have e3 : (scan (soAdd1 n) n (s :: r)).1 = (scan (soAdd1 n) n r).1 + 1 := by simp [scan, e, e2]
      have e4 : addM (s :: r) n = s :: addM r n := by
        simp only [addM, e3, List.take_succ_cons, List.drop_succ_cons, List.cons_append]
        rw [show (scan (soAdd1 n) n r).1 + 1 + (scan (soAdd2 n) n (r.drop (scan (soAdd1 n) n r).1)).1 = (scan (soAdd1 n) n r).1 + (scan (soAdd2 n) n (r.drop (scan (soAdd1 n) n r).1)).1 + 1 by omega]
        simp only [List.drop_succ_cons]
      rw [e4, ih, addR, if_pos h]
    · have e : (soAdd1 n n s).1 = true := by simp [soAdd1, h]
      have e3 : (scan (soAdd1 n) n (s :: r)).1 = 0 := by simp [scan, e]
      simp only [addM, e3, List.take_zero, List.drop_zero, List.nil_append, Nat.zero_add, addR, if_neg h]
      exact absorb_eq n n (s :: r) (n, n)

theorem absorb_mem (n : Int) (l : List Sp) (o : Sp) (e : Int) (h1 : o.1 ≤ n) (h2 : n ≤ o.2) (h3 : o.2 ≤ max n e) (hr : Ris (e + 1) l) (h4 : ∀ s, l.head? = some s → o.1 ≤ s.2 + 1) (x : Int) :
    inM (absorb n o l) x = true ↔ (o.1 ≤ x ∧ x ≤ o.2) ∨ inM l x = true := by
  induction l generalizing o e with
  | nil => simp [absorb, inM]
  | cons s r ih =>
    have r1 := hr.1
    have r2 := hr.2.1
    have r3 := hr.2.2
    have g4 := h4 s rfl
    simp only [absorb]
    split
    · rw [inM_cons]
    · rename_i hn
      rw [ih (min o.1 s.1, max o.2 s.2) s.2 (by simp; omega) (by simp; omega) (by simp; omega) r3 ?_, inM_cons]
      · simp only
        constructor
        · rintro (⟨g1, g2⟩ | g1)
          · rcases Int.lt_or_le x s.1 with g | g
            · left; omega
            · rcases Int.lt_or_le s.2 x with g' | g'
              · left; omega
              · right; left; omega
          · exact Or.inr (Or.inr g1)
        · rintro (g1 | g1 | g1)
          · left; omega
          · left; omega
          · exact Or.inr g1
      · intro t ht
        cases r with
        | nil => simp at ht
        | cons t' r' =>
          simp at ht
          subst ht
          have := r3.1
          have := r3.2.1
          simp only
          omega

theorem absorb_ris (n : Int) (l : List Sp) (o : Sp) (e b : Int) (h0 : b < o.1) (h1 : o.1 ≤ n) (h2 : n ≤ o.2) (h3 : o.2 ≤ max n e) (hr : Ris (e + 1) l) (hb : Ris b l) : Ris b (absorb n o l) := by
  induction l generalizing o e with
  | nil => exact ⟨h0, by omega, trivial⟩
  | cons s r ih =>
    have r1 := hr.1
    have r2 := hr.2.1
    have r3 := hr.2.2
    simp only [absorb]
    split
    · rename_i hn
      exact ⟨h0, by omega, by omega, r2, r3⟩
    · have := hb.1
      exact ih (min o.1 s.1, max o.2 s.2) s.2 (by simp; omega) (by simp; omega) (by simp; omega) (by simp; omega) r3 (r3.mono (by omega))

theorem addR_mem (n b : Int) (l : List Sp) (h : Ris b l) (x : Int) : inM (addR n l) x = true ↔ x = n ∨ inM l x = true := by
  induction l generalizing b with
  | nil => simp [addR, inM]; omega
  | cons s r ih =>
    have h1 := h.1
    have h2 := h.2.1
    simp only [addR]
    split
    · rw [inM_cons, ih _ h.2.2, inM_cons]
      constructor
      · rintro (g | g | g)
        · exact Or.inr (Or.inl g)
        · exact Or.inl g
        · exact Or.inr (Or.inr g)
      · rintro (g | g | g)
        · exact Or.inr (Or.inl g)
        · exact Or.inl g
        · exact Or.inr (Or.inr g)
    · rw [absorb_mem n (s :: r) (n, n) (b - 1) (by simp) (by simp) (by simp; omega) (h.mono (by omega)) (by intro t ht; simp at ht; subst ht; simp; omega)]
      simp only
      constructor
      · rintro (g | g)
        · left; omega
        · exact Or.inr g
      · rintro (g | g)
        · left; omega
        · exact Or.inr g

theorem addR_ris (n b : Int) (l : List Sp) (h : Ris b l) (hn : b < n) : Ris b (addR n l) := by
  induction l generalizing b with
  | nil => exact ⟨hn, by simp, trivial⟩
  | cons s r ih =>
    have h1 := h.1
    have h2 := h.2.1
    simp only [addR]
    split
    · rename_i hs
      exact ⟨h1, h2, ih _ h.2.2 hs⟩
    · exact absorb_ris n (s :: r) (n, n) (b - 1) b hn (by simp) (by simp) (by simp; omega) (h.mono (by omega)) h

/-- All numbers up to a bound. -/
def Upto (c : Int) (l : List Sp) : Prop := ∀ s ∈ l, s.2 ≤ c

theorem Upto.addR {n c : Int} {l : List Sp} (h : Upto c l) (hn : n ≤ c) : Upto c (addR n l) := by
  have hab : ∀ (l : List Sp) (o : Sp), Upto c l → o.2 ≤ c → Upto c (absorb n o l) := by
    intro l
    induction l with
    | nil => intro o _ ho s hs; simp [absorb] at hs; subst hs; exact ho
    | cons t r ih =>
      intro o hl ho
      simp only [absorb]
      have ht := hl t (by simp)
      split
      · intro s hs
        simp at hs
        rcases hs with rfl | rfl | hs
        · exact ho
        · exact ht
        · exact hl s (by simp [hs])
      · exact ih _ (fun s hs => hl s (by simp [hs])) (by simp; omega)
  induction l with
  | nil => intro s hs; simp [Go.Proofs.Ytnddejdndipddab.addR] at hs; subst hs; exact hn
  | cons t r ih =>
    simp only [Go.Proofs.Ytnddejdndipddab.addR]
    split
    · intro s hs
      simp at hs
      rcases hs with rfl | hs
      · exact h s (by simp)
      · exact ih (fun s hs => h s (by simp [hs])) s hs
    · exact hab _ _ h hn

theorem Ris.length {b c : Int} {l : List Sp} (h : Ris b l) (hc : Upto c l) (hbc : b ≤ c) : (2 * l.length : Int) ≤ c - b + 1 := by
  induction l generalizing b with
  | nil => simp; omega
  | cons s r ih =>
    have h1 := h.1
    have h2 := h.2.1
    have h3 := hc s (by simp)
    have := ih (b := s.2 + 1) h.2.2 (fun s hs => hc s (by simp [hs]))
    simp only [List.length_cons]
    cases r with
    | nil => simp; omega
    | cons t q =>
      have g1 := h.2.2.1
      have g2 := h.2.2.2.1
      have g3 := hc t (by simp)
      have := this (by omega)
      omega

/-- There is one way to write them. -/
theorem Ris.unique {b b' : Int} {l m : List Sp} (h : Ris b l) (h' : Ris b' m) (he : ∀ x, inM l x = true ↔ inM m x = true) : l = m := by
  induction l generalizing b b' m with
  | nil =>
    cases m with
    | nil => rfl
    | cons t q => have := (he t.1).2 ((inM_cons t q t.1).2 (Or.inl ⟨by omega, h'.2.1⟩)); simp [inM] at this
  | cons s r ih =>
    cases m with
    | nil => have := (he s.1).1 ((inM_cons s r s.1).2 (Or.inl ⟨by omega, h.2.1⟩)); simp [inM] at this
    | cons t q =>
      have a1 := h.2.1
      have a2 := h'.2.1
      have low : ∀ x, inM (s :: r) x = true → s.1 ≤ x := fun x hx => by
        rcases (inM_cons s r x).1 hx with g | g
        · exact g.1
        · have := h.2.2.low g; omega
      have low' : ∀ x, inM (t :: q) x = true → t.1 ≤ x := fun x hx => by
        rcases (inM_cons t q x).1 hx with g | g
        · exact g.1
        · have := h'.2.2.low g; omega
      have e1 : s.1 = t.1 := by
        have g1 := low' s.1 ((he s.1).1 ((inM_cons s r s.1).2 (Or.inl ⟨by omega, a1⟩)))
        have g2 := low t.1 ((he t.1).2 ((inM_cons t q t.1).2 (Or.inl ⟨by omega, a2⟩)))
        omega
      have e2 : s.2 = t.2 := by
        rcases Int.lt_trichotomy s.2 t.2 with g | g | g
        · have g1 := (he (s.2 + 1)).2 ((inM_cons t q _).2 (Or.inl ⟨by omega, by omega⟩))
          rcases (inM_cons s r _).1 g1 with g2 | g2
          · omega
          · have := h.2.2.low g2; omega
        · exact g
        · have g1 := (he (t.2 + 1)).1 ((inM_cons s r _).2 (Or.inl ⟨by omega, by omega⟩))
          rcases (inM_cons t q _).1 g1 with g2 | g2
          · omega
          · have := h'.2.2.low g2; omega
      have e : s = t := Prod.ext e1 e2
      subst e
      congr 1
      refine ih h.2.2 h'.2.2 fun x => ?_
      have hx := he x
      rw [inM_cons, inM_cons] at hx
      constructor
      · intro g
        have := h.2.2.low g
        rcases hx.1 (Or.inr g) with g' | g'
        · omega
        · exact g'
      · intro g
        have := h'.2.2.low g
        rcases hx.2 (Or.inr g) with g' | g'
        · omega
        · exact g'

end Go.Proofs.Ytnddejdndipddab
