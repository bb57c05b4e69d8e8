/- The contract of the document's Add. -/
import Derived.Test.YtnddejdndipddaaP
set_option maxRecDepth 20000
namespace Go.Proofs.Ytnddejdndipddaa
open Go.RowKit

def foldF (n : Int) : Sp → List Sp → Sp
  | ft, [] => ft
  | ft, s :: r => if s.2 = n - 1 then foldF n (s.1, ft.2) r else if s.1 = n + 1 then foldF n (ft.1, s.2) r else foldF n ft r
def goM (n : Int) (ft : Sp) : List Sp → Bool → List Sp
  | [], dn => if dn then [] else [ft]
  | s :: r, dn => if s.2 = n - 1 ∨ s.1 = n + 1 then goM n ft r dn else if dn = false ∧ n < s.1 then ft :: s :: goM n ft r true else s :: goM n ft r dn

theorem goM_done (n : Int) (ft : Sp) (l : List Sp) (h : Ris (n + 1) l) : goM n ft l true = l := by
  induction l with
  | nil => rfl
  | cons s r ih =>
    have h1 := h.1
    have h2 := h.2.1
    rw [goM, if_neg (by omega), if_neg (by simp), ih (h.2.2.mono (by omega))]
theorem foldF_done (n : Int) (ft : Sp) (l : List Sp) (h : Ris (n + 1) l) : foldF n ft l = ft := by
  induction l with
  | nil => rfl
  | cons s r ih =>
    have h1 := h.1
    have h2 := h.2.1
    rw [foldF, if_neg (by omega), if_neg (by omega), ih (h.2.2.mono (by omega))]
theorem goM_tail (n f : Int) (l : List Sp) (h : Ris n l) (hf : f ≤ n) : goM n (foldF n (f, n) l) l false = absorb n (f, n) l := by
  cases l with
  | nil => rfl
  | cons u q =>
    have h1 := h.1
    have h2 := h.2.1
    have h3 := h.2.2
    by_cases e : u.1 = n + 1
    · rw [foldF, if_neg (by omega), if_pos e, foldF_done n _ q (h3.mono (by omega)), goM, if_pos (Or.inr e), absorb, if_neg (by omega)]
      rw [show (min f u.1, max n u.2) = (f, u.2) from Prod.ext (by simp; omega) (by simp; omega)]
      cases q with
      | nil => rfl
      | cons t p =>
        have g1 := h3.1
        have g2 := h3.2.1
        have g3 := h3.2.2
        rw [goM, if_neg (by omega), if_pos ⟨rfl, by omega⟩, goM_done n _ p (g3.mono (by omega)), absorb, if_pos (by omega)]
    · rw [foldF, if_neg (by omega), if_neg e, foldF_done n _ q (h3.mono (by omega)), goM, if_neg (by omega), if_pos ⟨rfl, by omega⟩, goM_done n _ q (h3.mono (by omega)), absorb, if_pos (by omega)]
theorem goM_eq (n : Int) (l : List Sp) (b : Int) (h : Ris b l) (hn : inM l n = false) : goM n (foldF n (n, n) l) l false = addR n l := by
  induction l generalizing b with
  | nil => rfl
  | cons s r ih =>
    have h1 := h.1
    have h2 := h.2.1
    have h3 := h.2.2
    have hns : ¬ (s.1 ≤ n ∧ n ≤ s.2) := fun g => by rw [(inM_cons s r n).2 (Or.inl g)] at hn; cases hn
    have hnr : inM r n = false := by
      cases hq : inM r n with
      | false => rfl
      | true => rw [(inM_cons s r n).2 (Or.inr hq)] at hn; cases hn
    by_cases c1 : s.2 + 1 < n
    · rw [foldF, if_neg (by omega), if_neg (by omega), goM, if_neg (by omega), if_neg (by omega), ih _ h3 hnr, addR, if_pos c1]
    · by_cases c2 : s.2 + 1 = n
      · rw [foldF, if_pos (by omega), goM, if_pos (Or.inl (by omega)), addR, if_neg c1, absorb, if_neg (by omega)]
        rw [show (min n s.1, max n s.2) = (s.1, n) from Prod.ext (by simp; omega) (by simp; omega)]
        exact goM_tail n s.1 r (h3.mono (by omega)) (by omega)
      · rw [addR, if_neg c1]
        exact goM_tail n n (s :: r) ⟨by omega, h2, h3⟩ (by omega)

theorem goM_len (n : Int) (ft : Sp) (l : List Sp) (dn : Bool) : (goM n ft l dn).length ≤ l.length + 1 := by
  induction l generalizing dn with
  | nil => cases dn <;> simp [goM]
  | cons s r ih =>
    have hd : (goM n ft r true).length ≤ r.length := by
      clear ih
      induction r with
      | nil => simp [goM]
      | cons t q ih => simp only [goM]; split; · simp; omega
                       · simp; omega
    simp only [goM]
    split
    · have := ih dn; simp; omega
    · split
      · simp; omega
      · have := ih dn; simp; omega

theorem addR_same (n b : Int) (l : List Sp) (h : Ris b l) (hn : inM l n = true) : addR n l = l :=
  (addR_ris n b l h (h.low hn)).unique h fun x => by
    rw [addR_mem n b l h x]
    exact ⟨fun g => g.elim (fun e => e ▸ hn) id, Or.inr⟩

end Go.Proofs.Ytnddejdndipddaa
