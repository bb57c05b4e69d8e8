/- The contracts of SameSpans and Rise, of the document's answer. -/
import Derived.Test.YtnddejdndipddaaM
import Derived.Deep.QuietTactic
import Derived.BigQuiet
set_option maxRecDepth 20000
namespace Go.Proofs.Ytnddejdndipddaa
open Go.RowKit

theorem run_neq_sp (s t : Sp) (wx : World) : (binOp .neq 49 (.agg #[.int .i64 s.1, .int .i64 s.2]) (.agg #[.int .i64 t.1, .int .i64 t.2])).run Try.prog wx = .ok (.bool (decide (s ≠ t))) wx := by
  by_cases h1 : s.1 = t.1
  · by_cases h2 : s.2 = t.2
    · have e : s = t := Prod.ext h1 h2
      subst e
      go_simp
    · have e : s ≠ t := fun e => h2 (by rw [e])
      have e2 : decide (s ≠ t) = true := by simpa using e
      rw [e2]
      go_simp
  · have e : s ≠ t := fun e => h1 (by rw [e])
    have e2 : decide (s ≠ t) = true := by simpa using e
    rw [e2]
    go_simp

theorem Sl.ex {B : Nat} {w : World} {v : Value} {l : List Sp} (h : Sl B w v l) : ∃ a cap, v = .slice a l.length cap := by
  obtain ⟨a, cap, rfl, _⟩ := h
  exact ⟨a, cap, rfl⟩

set_option maxHeartbeats 400000 in
theorem same_any (v v' : Value) (l m : List Sp) (w : World) (hv : Sl w.heap.size w v l) (hv' : Sl w.heap.size w v' m) :
    Calls Try.prog 18 #[v, v'] w fun e w' => e = .returned (.bool (decide (l = m))) ∧ Below w.heap.size w w' := by
  obtain ⟨a, cap, rfl⟩ := hv.ex
  obtain ⟨a', cap', rfl⟩ := hv'.ex
  have q1 := hv.len
  have q2 := hv'.len
  have q3 : l.length ≤ 9223372036854775807 := by omega
  have q4 : m.length ≤ 9223372036854775807 := by omega
  clear q1 q2
  by_cases hne : l.length = m.length
  · have he : ((l.length : Int) != (m.length : Int)) = false := by simp [hne]
    have HN : Hid (l.length = m.length) := hne
    clear hne
    go_enter Try.func18, Try.ntmps18
    go_wp2
    go_loopw [13] (fun i wr => ∃ (k : Nat), k ≤ l.length ∧ i = .int .i64 k ∧ Below w.heap.size w wr ∧ Hid (l.take k = m.take k))
      (fun i _ => l.length - (intOf i).toNat)
    case atStart => exact ⟨0, Nat.zero_le _, rfl, Below.refl _ _, rfl⟩
    case round =>
      obtain ⟨k, hk, rfl, hbel, HS⟩ := hrel
      by_cases hlt : k < l.length
      · have hlt' : k < m.length := by have := HN.out; omega
        obtain ⟨b, off, hb, hix, hx0, hx1⟩ := (hv.below hbel (Nat.le_refl _)).at k hlt
        obtain ⟨b', off', hb', hix', hy0, hy1⟩ := (hv'.below hbel (Nat.le_refl _)).at k hlt'
        have hq := run_neq_sp l[k] m[k]
        by_cases hs : l[k] = m[k]
        · have hd : decide (l[k] ≠ m[k]) = false := by simpa using hs
          rw [hd] at hq
          have HE : Hid (l.take (k + 1) = m.take (k + 1)) := by
            show _ = _
            rw [List.take_succ_eq_append_getElem hlt, List.take_succ_eq_append_getElem hlt', HS.out, hs]
          clear hs hd
          go_wp2
          go_quiet (fail)
          go_wp2
          go_roundw
          case rel => exact ⟨k + 1, by omega, by go_num, below_drewN hbel _, HE⟩
          case measure => simp [intOf]; omega
        · have hd : decide (l[k] ≠ m[k]) = true := by simpa using hs
          rw [hd] at hq
          have HE : Hid (l ≠ m) := fun e => hs (by subst e; rfl)
          clear hs hd
          go_wp2
          go_quiet (fail)
          go_wp2
          go_ret
          exact ⟨ret_bool (by simpa using HE.out), below_drewN hbel _⟩
      · have HE : Hid (l = m) := by
          have e := HS.out
          rw [List.take_of_length_le (by omega), List.take_of_length_le (by have := HN.out; omega)] at e
          exact e
        go_wp2
        go_ret
        exact ⟨ret_bool (by simpa using HE.out), hbel⟩
  · have he : ((l.length : Int) != (m.length : Int)) = true := by simp; omega
    go_enter Try.func18, Try.ntmps18
    go_wp2
    go_ret
    exact ⟨ret_bool (by simp; intro h; exact hne (by rw [h])), Below.refl _ _⟩

/-- Is a span as it should be, behind the one ahead? -/
def stepB (p : Option Sp) (s : Sp) : Prop := -1099511627776 ≤ s.1 ∧ s.2 ≤ 1099511627776 ∧ s.1 ≤ s.2 ∧ ∀ t, p = some t → t.2 < s.1 - 1
def riseB : Option Sp → List Sp → Prop
  | _, [] => True
  | p, s :: r => stepB p s ∧ riseB (some s) r

set_option maxHeartbeats 400000 in
theorem rise_yes (v : Value) (l : List Sp) (w : World) (hv : Sl w.heap.size w v l) (hr : ∀ k (h : k < l.length), stepB (if k = 0 then none else l[k - 1]?) l[k]) :
    Calls Try.prog 13 #[v] w fun e w' => e = .returned (.bool true) ∧ Below w.heap.size w w' := by
  obtain ⟨a, cap, rfl⟩ := hv.ex
  have q1 := hv.len
  have q3 : l.length ≤ 9223372036854775807 := by omega
  clear q1
  go_enter Try.func13, Try.ntmps13
  go_wp2
  go_loopw [7] (fun i wr => ∃ (k : Nat), k ≤ l.length ∧ i = .int .i64 k ∧ Below w.heap.size w wr)
      (fun i _ => l.length - (intOf i).toNat)
  case atStart => exact ⟨0, Nat.zero_le _, rfl, Below.refl _ _⟩
  case round =>
    obtain ⟨k, hk, rfl, hbel⟩ := hrel
    by_cases hlt : k < l.length
    · obtain ⟨b, off, hb, hix, hx0, hx1⟩ := (hv.below hbel (Nat.le_refl _)).at k hlt
      have hs := hr k hlt
      have s1 := hs.1
      have s2 := hs.2.1
      have s3 := hs.2.2.1
      have d1 : decide (l[k].1 < -1099511627776) = false := by simp; omega
      have d2 : decide (1099511627776 < l[k].2) = false := by simp; omega
      have d3 : decide (l[k].2 < l[k].1) = false := by simp; omega
      by_cases hk0 : k = 0
      · have d4 : decide (0 < k) = false := by simp; omega
        clear hs hk0
        go_wp2
        go_quiet (fail)
        go_wp2
        go_roundw
        case rel => exact ⟨k + 1, by omega, by go_num, below_drewN (hbel.alloc hbel.size _) _⟩
        case measure => simp [intOf]; omega
      · have d4 : decide (0 < k) = true := by simp; omega
        obtain ⟨b', off', hb', hix', hy0, hy1⟩ := (hv.below hbel (Nat.le_refl _)).at (k - 1) (by omega)
        rw [show ((k - 1 : Nat) : Int) = (k : Int) - 1 by omega] at hix'
        have s4 := hs.2.2.2 l[k - 1] (by rw [if_neg hk0]; simp)
        have d5 : decide (l[k].1 - 1 ≤ l[k - 1].2) = false := by simp; omega
        have hy1' : ∀ o, (wr.alloc o).cell? ⟨b', off' + 1, none⟩ = some (.int .i64 l[k - 1].2) := fun o => by rw [World.cell?_alloc_past _ _ _ (by have := hbel.size; omega)]; exact hy1
        clear hs hk0
        go_wp2
        go_quiet (fail)
        go_wp2
        go_roundw
        case rel => exact ⟨k + 1, by omega, by go_num, below_drewN (hbel.alloc hbel.size _) _⟩
        case measure => simp [intOf]; omega
    · go_wp2
      go_ret
      exact ⟨rfl, hbel⟩

end Go.Proofs.Ytnddejdndipddaa
