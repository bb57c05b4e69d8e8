/- The contracts of SameSpans and Rise, of the document's answer. -/
import Derived.Test.YtnddejdndipddabM
import Derived.Deep.QuietTactic
import Derived.BigQuiet
set_option maxRecDepth 20000
namespace Go.Proofs.Ytnddejdndipddab
open Go.RowKit

theorem run_neq_sp (s t : Sp) (wx : World) : (binOp .neq 87 (.agg #[.int .i64 s.1, .int .i64 s.2]) (.agg #[.int .i64 t.1, .int .i64 t.2])).run Try.prog wx = .ok (.bool (decide (s ≠ t))) wx := by
  by_cases h1 : s.1 = t.1
  · by_cases h2 : s.2 = t.2
    · have e : s = t := Prod.ext h1 h2
      subst e
      go_simp
    · have e : s ≠ t := fun e => h2 (by rw [e])
      have e2 : decide (s ≠ t) = true := by simpa using e
      rw [e2]
      go_simp
  · have e : s ≠ t := fun e => h1 (by rw [e])
    have e2 : decide (s ≠ t) = true := by simpa using e
    rw [e2]
    go_simp

theorem Sl.ex {B : Nat} {w : World} {v : Value} {l : List Sp} (h : Sl B w v l) : ∃ a cap, v = .slice a l.length cap := by
  obtain ⟨a, cap, rfl, _⟩ := h
  exact ⟨a, cap, rfl⟩

set_option maxHeartbeats 400000 in
theorem same_any (v v' : Value) (l m : List Sp) (w : World) (hv : Sl w.heap.size w v l) (hv' : Sl w.heap.size w v' m) :
    Calls Try.prog 57 #[v, v'] w fun e w' => e = .returned (.bool (decide (l = m))) ∧ Below w.heap.size w w' := by
  obtain ⟨a, cap, rfl⟩ := hv.ex
  obtain ⟨a', cap', rfl⟩ := hv'.ex
  have q1 := hv.len
  have q2 := hv'.len
  have q3 : l.length ≤ 9223372036854775807 := by omega
  have q4 : m.length ≤ 9223372036854775807 := by omega
  clear q1 q2
  by_cases hne : l.length = m.length
  · have he : ((l.length : Int) != (m.length : Int)) = false := by simp [hne]
    have HN : Hid (l.length = m.length) := hne
    clear hne
    go_enter Try.func57, Try.ntmps57
    go_wp2
    go_loopw [13] (fun i wr => ∃ (k : Nat), k ≤ l.length ∧ i = .int .i64 k ∧ Below w.heap.size w wr ∧ Hid (l.take k = m.take k))
      (fun i _ => l.length - (intOf i).toNat)
    case atStart => exact ⟨0, Nat.zero_le _, rfl, Below.refl _ _, rfl⟩
    case round =>
      obtain ⟨k, hk, rfl, hbel, HS⟩ := hrel
      by_cases hlt : k < l.length
      · have hlt' : k < m.length := by have := HN.out; omega
        obtain ⟨b, off, hb, hix, hx0, hx1⟩ := (hv.below hbel (Nat.le_refl _)).at k hlt
        obtain ⟨b', off', hb', hix', hy0, hy1⟩ := (hv'.below hbel (Nat.le_refl _)).at k hlt'
        have hq := run_neq_sp l[k] m[k]
        by_cases hs : l[k] = m[k]
        · have hd : decide (l[k] ≠ m[k]) = false := by simpa using hs
          rw [hd] at hq
          have HE : Hid (l.take (k + 1) = m.take (k + 1)) := by
            show _ = _
            rw [List.take_succ_eq_append_getElem hlt, List.take_succ_eq_append_getElem hlt', HS.out, hs]
          clear hs hd
          go_wp2
          go_quiet (fail)
          go_wp2
          go_roundw
          case rel => exact ⟨k + 1, by omega, by go_num, below_drewN hbel _, HE⟩
          case measure => simp [intOf]; omega
        · have hd : decide (l[k] ≠ m[k]) = true := by simpa using hs
          rw [hd] at hq
          have HE : Hid (l ≠ m) := fun e => hs (by subst e; rfl)
          clear hs hd
          go_wp2
          go_quiet (fail)
          go_wp2
          go_ret
          exact ⟨ret_bool (by simpa using HE.out), below_drewN hbel _⟩
      · have HE : Hid (l = m) := by
          have e := HS.out
          rw [List.take_of_length_le (by omega), List.take_of_length_le (by have := HN.out; omega)] at e
          exact e
        go_wp2
        go_ret
        exact ⟨ret_bool (by simpa using HE.out), hbel⟩
  · have he : ((l.length : Int) != (m.length : Int)) = true := by simp; omega
    go_enter Try.func57, Try.ntmps57
    go_wp2
    go_ret
    exact ⟨ret_bool (by simp; intro h; exact hne (by rw [h])), Below.refl _ _⟩

/-- Is a span as it should be, behind the one ahead? -/
def stepB (p : Option Sp) (s : Sp) : Prop := -1099511627776 ≤ s.1 ∧ s.2 ≤ 1099511627776 ∧ s.1 ≤ s.2 ∧ ∀ t, p = some t → t.2 < s.1 - 1
def riseB : Option Sp → List Sp → Prop
  | _, [] => True
  | p, s :: r => stepB p s ∧ riseB (some s) r

end Go.Proofs.Ytnddejdndipddab
