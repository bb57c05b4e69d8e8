/- Contracts of Tag, Near and apart, of package serial, and of the document's Tag: what each returns, in whatever world. -/
import Derived.Test.YtnddejdndipddaaRows
import Derived.WalkKit
import Derived.WalkSpells
import Derived.WalkLawsBesides
set_option maxRecDepth 20000
namespace Go.Proofs.Ytnddejdndipddaa
open Go.RowKit

theorem ret_int {k : IntKind} {a b : Int} (h : a = b) : Ending.returned (.int k a) = .returned (.int k b) := by rw [h]
theorem ret_bool {a b : Bool} (h : a = b) : Ending.returned (.bool a) = .returned (.bool b) := by rw [h]

theorem tmod_cases (n : Int) : (0 ≤ n.tmod 65536 ∧ n.tmod 65536 = n % 65536) ∨ (n.tmod 65536 < 0 ∧ n.tmod 65536 = n % 65536 - 65536) := by
  rw [Int.tmod_eq_emod]
  split
  · left; omega
  · right; rw [show (65536 : Int).natAbs = 65536 from rfl]; omega

theorem tmod_bd (n : Int) : -65536 ≤ n.tmod 65536 ∧ n.tmod 65536 < 65536 := by
  have h := tmod_cases n
  generalize n.tmod 65536 = t at h ⊢
  omega

theorem tag_pos {n : Int} (h : 0 ≤ n.tmod 65536) : n.tmod 65536 = n % 65536 := by have := tmod_cases n; omega
theorem tag_neg {n : Int} (h : n.tmod 65536 < 0) : n.tmod 65536 + 65536 = n % 65536 := by have := tmod_cases n; omega

set_option maxHeartbeats 400000 in
theorem tag_any (n : Int) (w : World) : Calls Try.prog 9 #[.int .i64 n] w fun e w' => e = .returned (.int .i64 (n % 65536)) ∧ w' = w := by
  have hb := tmod_bd n
  have h1 := hb.1
  have h2 := hb.2
  clear hb
  by_cases hn : n.tmod 65536 < 0
  · go_enter Try.func9, Try.ntmps9
    go_wp2
    go_ret
    exact ⟨ret_int (tag_neg hn), rfl⟩
  · go_enter Try.func9, Try.ntmps9
    go_wp2
    go_ret
    exact ⟨ret_int (tag_pos hn), rfl⟩

theorem rtag_eq (n : Int) : (n.tmod 65536 + 65536) % 65536 = n % 65536 := by
  have h := tmod_cases n
  omega

set_option maxHeartbeats 400000 in
theorem rtag_any (n : Int) (w : World) : Calls Try.prog 10 #[.int .i64 n] w fun e w' => e = .returned (.int .i64 (n % 65536)) ∧ w' = w := by
  have hb := tmod_bd n
  have h1 := hb.1
  have h2 := hb.2
  clear hb
  go_enter Try.func10, Try.ntmps10
  go_wp2
  go_ret
  exact ⟨ret_int (rtag_eq n), rfl⟩

set_option maxHeartbeats 400000 in
theorem apart_any (a b : Int) (w : World) (h1 : -9223372036854775808 ≤ a) (h2 : a ≤ 9223372036854775807) (h3 : b ≤ 9223372036854775807) : Calls Try.prog 33 #[.int .i64 a, .int .i64 b] w fun e w' => e = .returned (.bool (decide (a + 1 < b))) ∧ w' = w := by
  by_cases h : a < b
  · go_enter Try.func33, Try.ntmps33
    go_wp2
    go_ret
    exact ⟨rfl, rfl⟩
  · go_enter Try.func33, Try.ntmps33
    go_wp2
    go_ret
    exact ⟨ret_bool (by simp; omega), rfl⟩

/-- The number that Near tells. -/
def nearM (near tag : Int) : Int := let a := (tag - near) % 65536; if 32768 < a then near + (a - 65536) else near + a

set_option maxHeartbeats 400000 in
theorem near_any (n t : Int) (w : World) (h1 : -1099511627776 ≤ n) (h2 : n ≤ 1099511627776) : Calls Try.prog 11 #[.int .i64 n, .int .i64 t] w fun e w' => e = .returned (.int .i64 (nearM n t)) ∧ w' = w := by
  have a1 : 0 ≤ t % 65536 := by omega
  have a2 : t % 65536 < 65536 := by omega
  have a3 : 0 ≤ n % 65536 := by omega
  have a4 : n % 65536 < 65536 := by omega
  have a5 : 0 ≤ (t - n) % 65536 := by omega
  have a6 : (t - n) % 65536 < 65536 := by omega
  by_cases h : 32768 < (t - n) % 65536
  · have HF : Hid (nearM n t = n + ((t - n) % 65536 - 65536)) := by show nearM n t = _; simp only [nearM]; rw [if_pos h]
    go_enter Try.func11, Try.ntmps11
    go_wp2_with (go_at_call 9; refine (tag_any _ _).mono ?_; rintro e w' ⟨rfl, rfl⟩)
    go_ret
    exact ⟨ret_int HF.out.symm, rfl⟩
  · have HF : Hid (nearM n t = n + ((t - n) % 65536)) := by show nearM n t = _; simp only [nearM]; rw [if_neg h]
    go_enter Try.func11, Try.ntmps11
    go_wp2_with (go_at_call 9; refine (tag_any _ _).mono ?_; rintro e w' ⟨rfl, rfl⟩)
    go_ret
    exact ⟨ret_int HF.out.symm, rfl⟩

end Go.Proofs.Ytnddejdndipddaa
