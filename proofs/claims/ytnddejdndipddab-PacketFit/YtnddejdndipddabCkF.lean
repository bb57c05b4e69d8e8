/- The contract of the document's Wrong. -/
import Derived.Test.YtnddejdndipddabCkE
set_option maxRecDepth 20000
namespace Go.Proofs.Ytnddejdndipddab
open Go.RowKit

theorem wrongM_1 {c : Ck} (h : c.kind < 1 ∨ 3 < c.kind) : 1 = wrongM c := by rw [wrongM, if_pos h]
theorem wrongM_t {c : Ck} (h : 1 ≤ c.kind ∧ c.kind ≤ 3) (t : smallM c.tag = false) : 3 = wrongM c := by rw [wrongM, if_neg (by omega), if_pos t]
theorem wrongM_d {c : Ck} (k : c.kind = 1) (t : smallM c.tag = true) : wrongM c = wrongD c := by rw [wrongM, if_neg (by omega), if_neg (by rw [t]; decide), if_pos k]
theorem wrongM_s {c : Ck} (k : c.kind = 2) (t : smallM c.tag = true) : wrongM c = wrongS c := by rw [wrongM, if_neg (by omega), if_neg (by rw [t]; decide), if_neg (by omega), if_pos k]
theorem wrongM_f {c : Ck} (k : c.kind = 3) (t : smallM c.tag = true) : wrongM c = wrongF c := by rw [wrongM, if_neg (by omega), if_neg (by rw [t]; decide), if_neg (by omega), if_neg (by omega)]
theorem wrongD_3 {c : Ck} (h : ¬ (0 ≤ c.stream ∧ c.stream < 4) ∨ smallM c.mid = false ∨ ¬ (0 ≤ c.part ∧ c.part < 256)) : 3 = wrongD c := by rw [wrongD, if_pos h]
theorem wrongD_4 {c : Ck} (h1 : 0 ≤ c.stream ∧ c.stream < 4) (h2 : smallM c.mid = true) (h3 : 0 ≤ c.part ∧ c.part < 256) (h : c.data.length < 1 ∨ 16 < c.data.length) : 4 = wrongD c := by
  rw [wrongD, if_neg (by rw [h2]; simp; omega), if_pos h]
theorem wrongD_0 {c : Ck} (h1 : 0 ≤ c.stream ∧ c.stream < 4) (h2 : smallM c.mid = true) (h3 : 0 ≤ c.part ∧ c.part < 256) (h : ¬ (c.data.length < 1 ∨ 16 < c.data.length)) : 0 = wrongD c := by
  rw [wrongD, if_neg (by rw [h2]; simp; omega), if_neg h]

set_option maxHeartbeats 1000000 in
theorem rwrong_data (v : Value) (c : Ck) (w : World) (hv : CkV w.heap.size w v c) (k : c.kind = 1) (t : smallM c.tag = true) : Calls Try.prog 51 #[v] w fun e w' => e = .returned (.int .i64 (wrongM c)) ∧ Below w.heap.size w w' := by
  rw [wrongM_d k t]
  obtain ⟨d, s, kk, rfl, h1, -, -⟩ := hv
  obtain ⟨ad, cd, rfl, h1c, h1m⟩ := h1.ex
  have HB := fun o => box_below w o
  clear h1
  obtain ⟨kind, tag, stream, mid, part, last, ordered, data, spans, room, skips⟩ := c
  dsimp only [ckVal] at *
  subst k
  have case3 : (¬ (0 ≤ stream ∧ stream < 4) ∨ smallM mid = false ∨ ¬ (0 ≤ part ∧ part < 256)) → 3 = wrongD ⟨1, tag, stream, mid, part, last, ordered, data, spans, room, skips⟩ := fun h => wrongD_3 h
  have HC3 : Hid _ := case3
  have HC4 : Hid ((0 ≤ stream ∧ stream < 4) → smallM mid = true → (0 ≤ part ∧ part < 256) → (data.length < 1 ∨ 16 < data.length) → 4 = wrongD ⟨1, tag, stream, mid, part, last, ordered, data, spans, room, skips⟩) := fun a b c d => wrongD_4 a b c d
  have HC0 : Hid ((0 ≤ stream ∧ stream < 4) → smallM mid = true → (0 ≤ part ∧ part < 256) → ¬ (data.length < 1 ∨ 16 < data.length) → 0 = wrongD ⟨1, tag, stream, mid, part, last, ordered, data, spans, room, skips⟩) := fun a b c d => wrongD_0 a b c d
  clear case3
  rcases (show stream < 0 ∨ 0 ≤ stream by omega) with a1 | a1
  · go_enter Try.func51, Try.ntmps51
    go_wp2_with (go_at_call 68; refine (rtagq_any _ _).mono ?_; rintro e w' ⟨rfl, rfl⟩; first | rw [t])
    go_ret
    exact ⟨ret_int (HC3.out (.inl (by omega))), HB _⟩
  rcases (show 3 < stream ∨ stream ≤ 3 by omega) with a2 | a2
  · go_enter Try.func51, Try.ntmps51
    go_wp2_with (go_at_call 68; refine (rtagq_any _ _).mono ?_; rintro e w' ⟨rfl, rfl⟩; first | rw [t])
    go_ret
    exact ⟨ret_int (HC3.out (.inl (by omega))), HB _⟩
  cases m : smallM mid with
  | false =>
    go_enter Try.func51, Try.ntmps51
    go_wp2_with (go_at_call 68; refine (rtagq_any _ _).mono ?_; rintro e w' ⟨rfl, rfl⟩; first | rw [t] | rw [m])
    go_ret
    exact ⟨ret_int (HC3.out (.inr (.inl m))), HB _⟩
  | true =>
    rcases (show part < 0 ∨ 0 ≤ part by omega) with a3 | a3
    · go_enter Try.func51, Try.ntmps51
      go_wp2_with (go_at_call 68; refine (rtagq_any _ _).mono ?_; rintro e w' ⟨rfl, rfl⟩; first | rw [t] | rw [m])
      go_ret
      exact ⟨ret_int (HC3.out (.inr (.inr (by omega)))), HB _⟩
    rcases (show 255 < part ∨ part ≤ 255 by omega) with a4 | a4
    · go_enter Try.func51, Try.ntmps51
      go_wp2_with (go_at_call 68; refine (rtagq_any _ _).mono ?_; rintro e w' ⟨rfl, rfl⟩; first | rw [t] | rw [m])
      go_ret
      exact ⟨ret_int (HC3.out (.inr (.inr (by omega)))), HB _⟩
    by_cases a5 : data.length = 0
    · go_enter Try.func51, Try.ntmps51
      go_wp2_with (go_at_call 68; refine (rtagq_any _ _).mono ?_; rintro e w' ⟨rfl, rfl⟩; first | rw [t] | rw [m])
      go_ret
      exact ⟨ret_int (HC4.out (by omega) m (by omega) (by omega)), HB _⟩
    have b5 : ((data.length : Int) == 0) = false := by simp; intro e; exact a5 (by rw [e]; rfl)
    have b6 : (data.length == 0) = false := by simpa using a5
    by_cases a6 : 16 < data.length
    · go_enter Try.func51, Try.ntmps51
      go_wp2_with (go_at_call 68; refine (rtagq_any _ _).mono ?_; rintro e w' ⟨rfl, rfl⟩; first | rw [t] | rw [m])
      go_ret
      exact ⟨ret_int (HC4.out (by omega) m (by omega) (by omega)), HB _⟩
    · go_enter Try.func51, Try.ntmps51
      go_wp2_with (go_at_call 68; refine (rtagq_any _ _).mono ?_; rintro e w' ⟨rfl, rfl⟩; first | rw [t] | rw [m])
      go_ret
      exact ⟨ret_int (HC0.out (by omega) m (by omega) (by omega)), HB _⟩
end Go.Proofs.Ytnddejdndipddab
