/- The contract of Wrong, of package chunk, and of what it asks. -/
import Derived.Test.YtnddejdndipddabCkA
set_option maxRecDepth 20000
namespace Go.Proofs.Ytnddejdndipddab
open Go.RowKit

set_option maxHeartbeats 400000 in
theorem wrongData_any (v : Value) (c : Ck) (w : World) (hv : CkV w.heap.size w v c) : Calls Try.prog 65 #[v] w fun e w' => e = .returned (.int .i64 (wrongD c)) ∧ Below w.heap.size w w' := by
  obtain ⟨d, s, k, rfl, h1, h2, h3⟩ := hv
  obtain ⟨ad, cd, rfl, h1c, h1m⟩ := h1.ex
  obtain ⟨asp, cs, rfl⟩ := h2.ex
  obtain ⟨ak, ck, rfl, _, _⟩ := h3.ex
  have HB := fun o => box_below w o
  clear h1 h2 h3
  simp only [ckVal]
  by_cases g : ¬ (0 ≤ c.stream ∧ c.stream < 4) ∨ smallM c.mid = false ∨ ¬ (0 ≤ c.part ∧ c.part < 256)
  · have HE : Hid (wrongD c = 3) := by show _ = _; rw [wrongD, if_pos g]
    by_cases g1 : 0 ≤ c.stream ∧ c.stream < 4
    · have e1 : decide (0 ≤ c.stream ∧ c.stream < 4) = true := by simpa using g1
      cases e2 : smallM c.mid with
      | false =>
        clear g g1
        go_enter Try.func65, Try.ntmps65
        go_wp2_with (first | (go_at_call 72; refine (below_any _ _ _).mono ?_; rintro e w' ⟨rfl, rfl⟩; rw [e1]) | (go_at_call 64; refine (small_any _ _).mono ?_; rintro e w' ⟨rfl, rfl⟩; rw [e2]))
        go_ret
        rw [HE.out]
        exact ⟨rfl, HB _⟩
      | true =>
        have e3 : decide (0 ≤ c.part ∧ c.part < 256) = false := by
          rcases g with g | g | g
          · exact absurd g1 g
          · rw [e2] at g; cases g
          · simpa using g
        clear g g1
        go_enter Try.func65, Try.ntmps65
        go_wp2_with (first | (go_at_call 72; refine (below_any _ _ _).mono ?_; rintro e w' ⟨rfl, rfl⟩; first | rw [e1] | rw [e3]) | (go_at_call 64; refine (small_any _ _).mono ?_; rintro e w' ⟨rfl, rfl⟩; rw [e2]))
        go_ret
        rw [HE.out]
        exact ⟨rfl, HB _⟩
    · have e1 : decide (0 ≤ c.stream ∧ c.stream < 4) = false := by simpa using g1
      clear g g1
      go_enter Try.func65, Try.ntmps65
      go_wp2_with (go_at_call 72; refine (below_any _ _ _).mono ?_; rintro e w' ⟨rfl, rfl⟩; rw [e1])
      go_ret
      rw [HE.out]
      exact ⟨rfl, HB _⟩
  · have e1 : decide (0 ≤ c.stream ∧ c.stream < 4) = true := by simp only [not_or, Classical.not_not] at g; simpa using g.1
    have e2 : smallM c.mid = true := by simp only [not_or, Classical.not_not] at g; simpa using g.2.1
    have e3 : decide (0 ≤ c.part ∧ c.part < 256) = true := by simp only [not_or, Classical.not_not] at g; simpa using g.2.2
    by_cases g2 : c.data.length < 1
    · have HE : Hid (wrongD c = 4) := by show _ = _; rw [wrongD, if_neg g, if_pos (.inl g2)]
      clear g
      go_enter Try.func65, Try.ntmps65
      go_wp2_with (first | (go_at_call 72; refine (below_any _ _ _).mono ?_; rintro e w' ⟨rfl, rfl⟩; first | rw [e1] | rw [e3]) | (go_at_call 64; refine (small_any _ _).mono ?_; rintro e w' ⟨rfl, rfl⟩; rw [e2]))
      go_ret
      rw [HE.out]
      exact ⟨rfl, HB _⟩
    · by_cases g3 : 16 < c.data.length
      · have HE : Hid (wrongD c = 4) := by show _ = _; rw [wrongD, if_neg g, if_pos (.inr g3)]
        clear g
        go_enter Try.func65, Try.ntmps65
        go_wp2_with (first | (go_at_call 72; refine (below_any _ _ _).mono ?_; rintro e w' ⟨rfl, rfl⟩; first | rw [e1] | rw [e3]) | (go_at_call 64; refine (small_any _ _).mono ?_; rintro e w' ⟨rfl, rfl⟩; rw [e2]))
        go_ret
        rw [HE.out]
        exact ⟨rfl, HB _⟩
      · have HE : Hid (wrongD c = 0) := by show _ = _; rw [wrongD, if_neg g, if_neg (by omega)]
        clear g
        go_enter Try.func65, Try.ntmps65
        go_wp2_with (first | (go_at_call 72; refine (below_any _ _ _).mono ?_; rintro e w' ⟨rfl, rfl⟩; first | rw [e1] | rw [e3]) | (go_at_call 64; refine (small_any _ _).mono ?_; rintro e w' ⟨rfl, rfl⟩; rw [e2]))
        go_ret
        rw [HE.out]
        exact ⟨rfl, HB _⟩
end Go.Proofs.Ytnddejdndipddab
