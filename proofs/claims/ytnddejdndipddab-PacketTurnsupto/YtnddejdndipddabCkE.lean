/- The contract of Wrong, of package chunk, and of the document's Wrong. -/
import Derived.Test.YtnddejdndipddabCkD
set_option maxRecDepth 20000
namespace Go.Proofs.Ytnddejdndipddab
open Go.RowKit

theorem CkV.boxed {w : World} {v : Value} {c : Ck} (h : CkV w.heap.size w v c) (o : Obj) : CkV (w.alloc o).heap.size (w.alloc o) v c := h.size (box_below w o) (Nat.le_refl _)

set_option maxHeartbeats 400000 in
theorem wrong_any (v : Value) (c : Ck) (w : World) (hv : CkV w.heap.size w v c) : Calls Try.prog 47 #[v] w fun e w' => e = .returned (.int .i64 (wrongM c)) ∧ Below w.heap.size w w' := by
  have HV := hv
  obtain ⟨d, s, k, rfl, -, -, -⟩ := hv
  have HB := fun o => box_below w o
  have HVB := fun o => HV.boxed o
  clear HV
  simp only [ckVal] at HVB ⊢
  by_cases g : c.kind < 1 ∨ 3 < c.kind
  · have HE : Hid (wrongM c = 1) := by show _ = _; rw [wrongM, if_pos g]
    have e1 : decide (1 ≤ c.kind ∧ c.kind ≤ 3) = false := by simp; omega
    clear g
    go_enter Try.func47, Try.ntmps47
    go_wp2_with (go_at_call 63; refine (known_any _ _).mono ?_; rintro e w' ⟨rfl, rfl⟩; rw [e1])
    go_ret
    rw [HE.out]
    exact ⟨rfl, HB _⟩
  · have e1 : decide (1 ≤ c.kind ∧ c.kind ≤ 3) = true := by simp; omega
    cases e2 : smallM c.tag with
    | false =>
      have HE : Hid (wrongM c = 3) := by show _ = _; rw [wrongM, if_neg g, if_pos e2]
      clear g
      go_enter Try.func47, Try.ntmps47
      go_wp2_with (first | (go_at_call 63; refine (known_any _ _).mono ?_; rintro e w' ⟨rfl, rfl⟩; rw [e1]) | (go_at_call 64; refine (small_any _ _).mono ?_; rintro e w' ⟨rfl, rfl⟩; rw [e2]))
      go_ret
      rw [HE.out]
      exact ⟨rfl, HB _⟩
    | true =>
      have HE : Hid (wrongM c = if c.kind = 1 then wrongD c else if c.kind = 2 then wrongS c else wrongF c) := by show _ = _; rw [wrongM, if_neg g, if_neg (by rw [e2]; decide)]
      rcases (show c.kind = 1 ∨ c.kind = 2 ∨ c.kind = 3 by omega) with g1 | g1 | g1
      · have HE2 : Hid (wrongM c = wrongD c) := by show _ = _; rw [HE.out, if_pos g1]
        clear g HE
        obtain ⟨kind, tag, stream, mid, part, last, ordered, data, spans, room, skips⟩ := c
        dsimp only at *
        subst g1
        go_enter Try.func47, Try.ntmps47
        go_wp2_with (first | (go_at_call 63; refine (known_any _ _).mono ?_; rintro e w' ⟨rfl, rfl⟩; rw [e1]) | (go_at_call 64; refine (small_any _ _).mono ?_; rintro e w' ⟨rfl, rfl⟩; rw [e2]) | fail)
        refine (wrongData_any _ _ _ (HVB _)).mono ?_
        rintro e w1 ⟨rfl, hb⟩
        have hb1 := (HB _).trans (hb.mono (by simp))
        go_wp2
        go_ret
        rw [HE2.out]
        exact ⟨rfl, hb1⟩
      · have HE2 : Hid (wrongM c = wrongS c) := by show _ = _; rw [HE.out, if_neg (by omega), if_pos g1]
        clear g HE
        obtain ⟨kind, tag, stream, mid, part, last, ordered, data, spans, room, skips⟩ := c
        dsimp only at *
        subst g1
        go_enter Try.func47, Try.ntmps47
        go_wp2_with (first | (go_at_call 63; refine (known_any _ _).mono ?_; rintro e w' ⟨rfl, rfl⟩; rw [e1]) | (go_at_call 64; refine (small_any _ _).mono ?_; rintro e w' ⟨rfl, rfl⟩; rw [e2]) | fail)
        refine (wrongSack_any _ _ _ (HVB _)).mono ?_
        rintro e w1 ⟨rfl, hb⟩
        have hb1 := (HB _).trans (hb.mono (by simp))
        go_wp2
        go_ret
        rw [HE2.out]
        exact ⟨rfl, hb1⟩
      · have HE2 : Hid (wrongM c = wrongF c) := by show _ = _; rw [HE.out, if_neg (by omega), if_neg (by omega)]
        clear g HE
        obtain ⟨kind, tag, stream, mid, part, last, ordered, data, spans, room, skips⟩ := c
        dsimp only at *
        subst g1
        go_enter Try.func47, Try.ntmps47
        go_wp2_with (first | (go_at_call 63; refine (known_any _ _).mono ?_; rintro e w' ⟨rfl, rfl⟩; rw [e1]) | (go_at_call 64; refine (small_any _ _).mono ?_; rintro e w' ⟨rfl, rfl⟩; rw [e2]) | fail)
        refine (wrongForward_any _ _ _ (HVB _)).mono ?_
        rintro e w1 ⟨rfl, hb⟩
        have hb1 := (HB _).trans (hb.mono (by simp))
        go_wp2
        go_ret
        rw [HE2.out]
        exact ⟨rfl, hb1⟩
end Go.Proofs.Ytnddejdndipddab
