/- The contracts of wrongForward and wrongSack, of package chunk, and of the searches of package slices that they use. -/
import Derived.Test.YtnddejdndipddabCkB
set_option maxRecDepth 20000
namespace Go.Proofs.Ytnddejdndipddab
open Go.RowKit

def skV (s : Sk) : Value := .agg #[.int .i64 s.stream, .int .i64 s.mid, .bool s.ordered]

set_option maxHeartbeats 400000 in
theorem skipBad_any (s : Sk) (w : World) : Calls Try.prog 75 #[.agg #[.int .i64 s.stream, .int .i64 s.mid, .bool s.ordered]] w fun e w' => e = .returned (.bool (skipBad s)) ∧ Below w.heap.size w w' := by
  have HB := fun o => box_below w o
  by_cases g1 : 0 ≤ s.stream ∧ s.stream < 4
  · have e1 : decide (0 ≤ s.stream ∧ s.stream < 4) = true := by simpa using g1
    have HE : Hid (skipBad s = !(smallM s.mid)) := by show _ = _; rw [skipBad, e1]; rfl
    clear g1
    go_enter Try.func75, Try.ntmps75
    go_wp2_with (first | (go_at_call 72; refine (below_any _ _ _).mono ?_; rintro e w' ⟨rfl, rfl⟩; rw [e1]) | (go_at_call 64; refine (small_any _ _).mono ?_; rintro e w' ⟨rfl, rfl⟩))
    go_ret
    rw [HE.out]
    exact ⟨rfl, HB _⟩
  · have e1 : decide (0 ≤ s.stream ∧ s.stream < 4) = false := by simpa using g1
    have HE : Hid (skipBad s = true) := by show _ = _; rw [skipBad, e1]; rfl
    clear g1
    go_enter Try.func75, Try.ntmps75
    go_wp2_with (first | (go_at_call 72; refine (below_any _ _ _).mono ?_; rintro e w' ⟨rfl, rfl⟩; rw [e1]) | (go_at_call 64; refine (small_any _ _).mono ?_; rintro e w' ⟨rfl, rfl⟩))
    go_ret
    rw [HE.out]
    exact ⟨rfl, HB _⟩

theorem any_hit {l : List Sk} {k : Nat} (h : k < l.length) (hs : skipBad l[k] = true) : (l.drop k).any skipBad = true := by
  rw [List.drop_eq_getElem_cons h, List.any_cons, hs]; rfl
theorem any_miss {l : List Sk} {k : Nat} (h : k < l.length) (hs : skipBad l[k] = false) : (l.drop k).any skipBad = (l.drop (k + 1)).any skipBad := by
  rw [List.drop_eq_getElem_cons h, List.any_cons, hs]; rfl

set_option maxHeartbeats 400000 in
theorem indexK_any (v : Value) (l : List Sk) (w : World) (hv : Kl w.heap.size w v l) :
    Calls Try.prog 80 #[v, .func (.func 75) #[] #[]] w fun e w' => ∃ z : Int, e = .returned (.int .i64 z) ∧ decide (0 ≤ z) = l.any skipBad ∧ Below w.heap.size w w' := by
  have hv' := hv
  obtain ⟨a, cap, rfl, h1, h2⟩ := hv.ex
  clear hv
  go_enter Try.func80, Try.ntmps80
  go_wp2
  go_loopw [8] (fun i wr => ∃ (k : Nat), k ≤ l.length ∧ i = .int .i64 k ∧ Below w.heap.size w wr ∧ Hid (l.any skipBad = (l.drop k).any skipBad)) (fun i _ => l.length - (intOf i).toNat)
  case atStart => exact ⟨0, Nat.zero_le _, rfl, Below.refl _ _, by show _ = _; simp⟩
  case round =>
    obtain ⟨k, hk, rfl, hbel, HS⟩ := hrel
    by_cases hlt : k < l.length
    · obtain ⟨b, off, hb, hix, hx0, hx1, hx2⟩ := (hv'.below hbel (Nat.le_refl _)).at k hlt
      go_wp2_with fail
      refine (skipBad_any l[k] _).mono ?_
      rintro e w1 ⟨rfl, hb1⟩
      have hb2 := hbel.trans (hb1.mono hbel.size)
      cases hq : skipBad l[k] with
      | true =>
        have HE : Hid (l.any skipBad = true) := by show _ = _; rw [HS.out]; exact any_hit hlt hq
        go_wp2
        go_ret
        exact ⟨_, rfl, by rw [HE.out]; simp, hb2⟩
      | false =>
        have HE : Hid (l.any skipBad = (l.drop (k + 1)).any skipBad) := by show _ = _; rw [HS.out]; exact any_miss hlt hq
        go_wp2
        go_roundw
        case rel => exact ⟨k + 1, by omega, by go_num, hb2, HE⟩
        case measure => simp [intOf]; omega
    · have HE : Hid (l.any skipBad = false) := by show _ = _; rw [HS.out, List.drop_eq_nil_of_le (by omega)]; rfl
      go_wp2
      go_ret
      exact ⟨_, rfl, by rw [HE.out]; decide, hbel⟩

set_option maxHeartbeats 400000 in
theorem containsK_any (v : Value) (l : List Sk) (w : World) (hv : Kl w.heap.size w v l) :
    Calls Try.prog 76 #[v, .func (.func 75) #[] #[]] w fun e w' => e = .returned (.bool (l.any skipBad)) ∧ Below w.heap.size w w' := by
  go_enter Try.func76, Try.ntmps76
  go_wp2_with fail
  refine (indexK_any v l _ hv).mono ?_
  rintro e w1 ⟨z, rfl, hz, hb⟩
  have HZ : Hid (decide (0 ≤ z) = l.any skipBad) := hz
  clear hz
  go_wp2
  go_ret
  exact ⟨ret_bool (by rw [← HZ.out]), hb⟩

set_option maxHeartbeats 400000 in
theorem wrongForward_any (v : Value) (c : Ck) (w : World) (hv : CkV w.heap.size w v c) : Calls Try.prog 67 #[v] w fun e w' => e = .returned (.int .i64 (wrongF c)) ∧ Below w.heap.size w w' := by
  obtain ⟨d, s, k, rfl, h1, h2, h3⟩ := hv
  have h3' := h3
  obtain ⟨ak, ck, rfl, h3c, h3m⟩ := h3.ex
  have HB := fun o => box_below w o
  clear h1 h2 h3
  simp only [ckVal]
  by_cases g : 8 < c.skips.length
  · have HE : Hid (wrongF c = 5) := by show _ = _; rw [wrongF, if_pos g]
    go_enter Try.func67, Try.ntmps67
    go_wp2
    go_ret
    rw [HE.out]
    exact ⟨rfl, HB _⟩
  · have HE : Hid (wrongF c = if c.skips.any skipBad = true then 3 else 0) := by show _ = _; rw [wrongF, if_neg g]
    go_enter Try.func67, Try.ntmps67
    go_wp2_with fail
    refine (containsK_any _ c.skips _ ((h3'.below (HB _) (Nat.le_refl _)).mono (by simp))).mono ?_
    rintro e w1 ⟨rfl, hb⟩
    have hb1 := (HB _).trans (hb.mono (by simp))
    cases hq : c.skips.any skipBad with
    | true =>
      go_wp2
      go_ret
      rw [HE.out, hq]
      exact ⟨rfl, hb1⟩
    | false =>
      go_wp2
      go_ret
      rw [HE.out, hq]
      exact ⟨rfl, hb1⟩
end Go.Proofs.Ytnddejdndipddab
