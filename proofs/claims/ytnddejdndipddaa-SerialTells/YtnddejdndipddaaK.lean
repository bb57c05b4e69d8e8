/- Plain facts on Up: how far it goes, and what is left. -/
import Derived.Test.YtnddejdndipddaaJ
set_option maxRecDepth 20000
namespace Go.Proofs.Ytnddejdndipddaa

theorem upM_nil (c : Int) : upM [] c = (c, []) := rfl
theorem upM_far (s : Sp) (r : List Sp) (c : Int) (h : c + 1 < s.1) : upM (s :: r) c = (c, s :: r) := by
  have e : soUp c s = (true, c) := by simp [soUp, h]
  simp [upM, scan, e]
theorem upM_near (s : Sp) (r : List Sp) (c : Int) (h : ¬ c + 1 < s.1) : upM (s :: r) c = upM r (max c s.2) := by
  have e : soUp c s = (false, max c s.2) := by simp only [soUp]; rw [if_neg h]
  simp [upM, scan, e]

/-- Spans above c: Up goes to the end of the first one, if that begins right above c. -/
theorem up_spec (l : List Sp) (c : Int) (h : Ris c l) : c ≤ (upM l c).1 ∧ (∀ x, c < x → x ≤ (upM l c).1 → inM l x = true) ∧ inM l ((upM l c).1 + 1) = false ∧ (∀ x, inM (upM l c).2 x = true ↔ inM l x = true ∧ (upM l c).1 < x) ∧ (∀ k, c ≤ k → Upto k l → (upM l c).1 ≤ k) := by
  have noton : ∀ (l : List Sp) (b : Int), Ris b l → inM l b = false := fun l b hl => by
    cases hq : inM l b with
    | false => rfl
    | true => have := hl.low hq; omega
  cases l with
  | nil => simp [upM_nil, inM]; omega
  | cons s r =>
    have h1 := h.1
    have h2 := h.2.1
    have h3 := h.2.2
    by_cases hf : c + 1 < s.1
    · rw [upM_far s r c hf]
      refine ⟨by simp, fun x g1 g2 => by simp at g2; omega, noton (s :: r) (c + 1) ⟨hf, h2, h3⟩, fun x => ⟨fun g => ⟨g, h.low g⟩, fun g => g.1⟩, fun k hk _ => by simpa using hk⟩
    · rw [upM_near s r c hf, show max c s.2 = s.2 by omega]
      have e : upM r s.2 = (s.2, r) := by
        cases r with
        | nil => rfl
        | cons t q => exact upM_far t q s.2 h3.1
      rw [e]
      refine ⟨by simp; omega, fun x g1 g2 => (inM_cons s r x).2 (Or.inl ⟨by omega, by simpa using g2⟩), ?_, fun x => ?_, fun k _ hu => by simpa using hu s (by simp)⟩
      · cases hq : inM (s :: r) (s.2 + 1) with
        | false => rfl
        | true =>
          rcases (inM_cons s r _).1 hq with g | g
          · omega
          · have := h3.low g; omega
      · constructor
        · intro g
          have := h3.low g
          exact ⟨(inM_cons s r x).2 (Or.inr g), by simp; omega⟩
        · rintro ⟨g1, g2⟩
          simp at g2
          rcases (inM_cons s r x).1 g1 with g | g
          · omega
          · exact g

/-- So many numbers in turn, all of a list: the list is no shorter. -/
theorem many (k : Nat) (a : Int) (zs : List Int) (h : ∀ i : Nat, i < k → a + i ∈ zs) : k ≤ zs.length := by
  induction k generalizing zs with
  | zero => omega
  | succ k ih =>
    have hm := h k (by omega)
    have := ih (zs.erase (a + k)) (fun i hi => (List.mem_erase_of_ne (by omega)).2 (h i (by omega)))
    rw [List.length_erase_of_mem hm] at this
    have : 0 < zs.length := List.length_pos_of_mem hm
    omega

theorem many_upto (a b : Int) (zs : List Int) (h : ∀ x, a < x → x ≤ b → x ∈ zs) : b - a ≤ zs.length := by
  by_cases hab : a ≤ b
  · have := many (b - a).toNat (a + 1) zs (fun i hi => h _ (by omega) (by omega))
    omega
  · omega

end Go.Proofs.Ytnddejdndipddaa
