/- Proved: SerialNear returns true at every input, and leaves its arguments as they were; no conditions. -/
import Derived.Test.YtnddejdndipddaaJ
import Derived.ProofKit
import Derived.OpenShut
set_option maxRecDepth 20000
namespace Go.Proofs.Ytnddejdndipddaa
open Go.ChangeShapes Go.WideShapes Go.ChangeAt Go.RowKit

theorem near_back (n b : Int) (h1 : -32768 < b) (h2 : b ≤ 32768) : nearM n ((n + b) % 65536) = n + b := by
  simp only [nearM]
  by_cases h : 0 ≤ b
  · rw [show ((n + b) % 65536 - n) % 65536 = b by omega, if_neg (by omega)]
  · rw [show ((n + b) % 65536 - n) % 65536 = b + 65536 by omega, if_pos (by omega)]; omega

set_option maxHeartbeats 400000 in
theorem near_walk (n b : Int) (w : World) : Calls Try.prog 4 #[.int .i64 n, .int .i64 b] w fun e w' => e = .returned (.bool true) ∧ Below w.heap.size w w' := by
  by_cases h : n < -1000000000 ∨ 1000000000 < n ∨ b ≤ -32768 ∨ 32768 < b
  · go_enter Try.func4, Try.ntmps4
    go_wp2_with (go_at_call 21; refine (alive_any _).mono ?_; rintro e w' ⟨rfl, hb⟩)
    all_goals (go_ret; exact ⟨rfl, hb⟩)
  · have h1 : -1000000000 ≤ n := by omega
    have h2 : n ≤ 1000000000 := by omega
    have h3 : -32768 < b := by omega
    have h4 : b ≤ 32768 := by omega
    clear h
    have HN : Hid (nearM n ((n + b) % 65536) = n + b) := near_back n b h3 h4
    go_enter Try.func4, Try.ntmps4
    go_wp2_with (first | (go_at_call 21; refine (alive_any _).mono ?_; rintro e w' ⟨rfl, hb⟩) | (go_at_call 9; refine (tag_any _ _).mono ?_; rintro e w' ⟨rfl, rfl⟩) | (go_at_call 11; refine (near_any _ _ _ (by omega) (by omega)).mono ?_; rintro e w' ⟨rfl, rfl⟩; rw [HN.out]))
    go_ret
    exact ⟨ret_bool (by simp), hb⟩

set_option maxRecDepth 100000 in
theorem near_lifted (os : Os) (started : os.Started) (H : Type) (enc : TypeId × Value → H) :
    ReturnsInHanded {} Try.checked os 4 .any (Rows.serialNearSpec.pre6 enc Try.prog Try.f4 Rows.serialNearRow.domain false) (Rows.serialNearSpec.post enc Try.prog Try.f4 false true false false) := by
  refine returnsInHanded_of_change (C := Try.checked) Try.own started (by kernel_rfl) Try.func4
    (ChangeSpec.witness6 (enc := enc) (C := Try.checked) false ⟨#[], #[.int .i64 0, .int .i64 0], []⟩ 8 (by kernel_rfl) (by kernel_rfl) (by kernel_rfl) (by kernel_rfl)) ?_
  intro W base args ds gs before hval0 hW hcnd _
  have hval : ∀ (j : Nat) t v, Try.f4.params[j]? = some t → args[j]? = some v → Value.okWide Try.prog W .any base t v := hval0
  have hW' := hW
  obtain ⟨p, q, hA0, hV, rfl, hfz, hnd⟩ := hW
  have hA : DataW.TrodAll enc Try.prog W 0 (fun _ => true) true Try.f4.params.toList args.toList ds p := hA0
  rw [Try.params4] at hA hval
  obtain ⟨v0, vs0, d0, ds0, p0, q0, hargs, rfl, rfl, h0, r0⟩ := trodAll_cons hA
  obtain ⟨v1, vs1, d1, ds1, p1, q1, rfl, rfl, rfl, h1, r1⟩ := trodAll_cons r0
  obtain ⟨rfl, rfl, rfl⟩ := trodAll_nil r1
  obtain rfl : args = #[v0, v1] := by cases args; simp_all
  obtain ⟨rfl, rfl⟩ := trodVars_none hV
  obtain ⟨a0, rfl, rfl, rfl, w0⟩ := open_int Try.underlying3 (hval 0 3 v0 rfl rfl) h0
  obtain ⟨a1, rfl, rfl, rfl, w1⟩ := open_int Try.underlying3 (hval 1 3 v1 rfl rfl) h1
  clear hA0 hval0
  refine (near_walk a0 a1 W).mono fun e W' ⟨he, bel⟩ => ?_
  subst he
  exact ⟨_, rfl, _, _, _, [], _, [], hW', trodAll_mk1 (shut_bool Try.underlying4 _), (trodAll_cons_mk (shut_int Try.underlying3 w0) (trodAll_cons_mk (shut_int Try.underlying3 w1) trodAll_mk0)), rfl, bel.frame _, fun h => by cases h⟩

theorem near_holds : Rows.SerialNearSaid :=
  OpenClaim.holds_of_wide 4 Try.f4 rfl rfl rfl rfl rfl rfl rfl ⟨rfl, rfl, rfl, rfl, rfl⟩ rfl rfl rfl rfl rfl (by kernel_rfl) Try.func4 (by kernel_rfl)
    (of_decide_eq_true (by kernel_rfl)) (by unfold Func.isWrapper; first | (rw [if_pos (by decide +kernel)]; kernel_rfl) | (rw [if_neg (by decide +kernel)]; exact ⟨rfl, rfl⟩))
    (fun os started H enc _ => near_lifted os started H enc)

end Go.Proofs.Ytnddejdndipddaa
