/- Proved: SerialUp returns true at every input, and leaves its arguments as they were; no conditions. -/
import Derived.Test.YtnddejdndipddaaK
set_option maxRecDepth 20000
namespace Go.Proofs.Ytnddejdndipddaa
open Go.ChangeShapes Go.WideShapes Go.ChangeAt Go.RowKit

set_option maxHeartbeats 1000000 in
theorem up_walk (v : Value) (zs : List Int) (c : Int) (w : World) (hv : Il w.heap.size w v zs) :
    Calls Try.prog 6 #[v, .int .i64 c] w fun e w' => e = .returned (.bool true) ∧ Below w.heap.size w w' := by
  have hv0 := hv
  obtain ⟨a, cap, rfl, hl, hz, -⟩ := hv0
  have hnot : ∀ (x : Bool) (w : World), (Op.unary .not (.bool x)).run Try.prog w = .ok (.bool (!x)) w := fun _ _ => rfl
  by_cases hr : c < -1000000 ∨ 1000000 < c
  · go_enter Try.func6, Try.ntmps6
    go_wp2_with (go_at_call 21; refine (alive_any _).mono ?_; rintro e w' ⟨rfl, hb⟩)
    all_goals (go_ret; exact ⟨rfl, hb⟩)
  have c1 : -1000000 ≤ c := by omega
  have c2 : c ≤ 1000000 := by omega
  clear hr
  go_enter Try.func6, Try.ntmps6
  go_wp2_with fail
  refine (alive_any _).mono ?_
  rintro e w0 ⟨rfl, hb0⟩
  go_wp2_with fail
  go_loopw [5, 22] (fun s i wr => ∃ (k : Nat) (l1 : List Sp), k ≤ zs.length ∧ i = .int .i64 k ∧ Below w.heap.size w wr ∧ Sl wr.heap.size wr s l1 ∧ St c 1000000 (zs.take k) l1)
    (fun _ i _ => zs.length - (intOf i).toNat)
  case atStart => exact ⟨0, [], Nat.zero_le _, rfl, hb0, ⟨none, 0, rfl, by simp, by simp, fun _ => rfl, fun s hs => by simp at hs, fun h => absurd rfl h⟩, St.nil _ _⟩
  case round =>
    obtain ⟨k, l1, hk, rfl, hbel, s1, S1⟩ := hrel
    have n1 := S1.1.length S1.2.1 c2
    by_cases hlt : k < zs.length
    · obtain ⟨b, off, hb, hix, hx⟩ := (hv.below hbel).at k hlt
      by_cases hr : zs[k] < -1000000 ∨ 1000000 < zs[k] ∨ zs[k] ≤ c
      · go_wp2
        all_goals (go_ret; exact ⟨rfl, hbel⟩)
      · have r1 : -1000000 ≤ zs[k] := by omega
        have r2 : zs[k] ≤ 1000000 := by omega
        have r3 : c < zs[k] := by omega
        clear hr
        go_wp2_with fail
        refine (add_any _ l1 zs[k] _ s1 (by unfold I64; omega) (by omega)).mono ?_
        rintro e w1 ⟨v1, rfl, q1, b1⟩
        have hbel1 := hbel.trans (b1.mono hbel.size)
        have T1 := S1.next hlt r3 r2
        clear S1 s1 hix hx hbel n1
        go_wp2
        go_roundw
        case rel => exact ⟨k + 1, _, by omega, by go_num, hbel1, q1, T1⟩
        case measure => simp [intOf]; omega
    · have hkl : k = zs.length := by omega
      subst hkl
      rw [List.take_length] at S1
      have sp := up_spec l1 c S1.1
      have u1 := sp.1
      have u2 := sp.2.2.2.2 1000000 c2 S1.2.1
      have u3 := sp.2.2.1
      have u4 : inM (upM l1 c).2 ((upM l1 c).1 + 1) = false := by
        cases hq : inM (upM l1 c).2 ((upM l1 c).1 + 1) with
        | false => rfl
        | true => rw [(sp.2.2.2.1 _).1 hq |>.1] at u3; exact u3
      have u5 : (upM l1 c).1 - c ≤ zs.length := many_upto c _ zs (fun x g1 g2 => (S1.2.2 x).1 (sp.2.1 x g1 g2))
      have u6 : ∀ x ∈ zs, inM (upM l1 c).2 x = decide ((upM l1 c).1 < x) := fun x hx => by
        rw [Bool.eq_iff_iff, sp.2.2.2.1 x]
        simp [(S1.2.2 x).2 hx]
      clear sp
      go_wp2_with fail
      refine (up_any _ l1 c _ s1 (by unfold I64; omega) (by omega)).mono ?_
      rintro e w2 ⟨v2, rfl, q2, b2⟩
      have s2 := s1.size b2 (Nat.le_refl _)
      have hbel2 := hbel.trans (b2.mono hbel.size)
      generalize (upM l1 c).2 = l2 at *
      generalize (upM l1 c).1 = n at *
      go_wp2_with fail
      refine (has_any _ l1 (n + 1) _ s2).mono ?_
      rintro e w3 ⟨rfl, b3⟩
      rw [u3]
      have q3 := q2.size b3 (Nat.le_refl _)
      have hbel3 := hbel2.trans (b3.mono hbel2.size)
      go_wp2_with fail
      refine (has_any _ l2 (n + 1) _ q3).mono ?_
      rintro e w4 ⟨rfl, b4⟩
      rw [u4]
      have q4 := q3.size b4 (Nat.le_refl _)
      have hbel4 := hbel3.trans (b4.mono hbel3.size)
      clear q2 q3 b2 b3 b4 s1 s2 hbel hbel2 hbel3 u3 u4
      go_wp2
      go_loopw [68] (fun i wq => ∃ (k : Nat), k ≤ zs.length ∧ i = .int .i64 k ∧ Below w.heap.size w wq ∧ Below w4.heap.size w4 wq)
        (fun i _ => zs.length - (intOf i).toNat)
      case atStart => exact ⟨0, Nat.zero_le _, rfl, hbel4, Below.refl _ _⟩
      case round =>
        obtain ⟨k, hk, rfl, hbel5, hbq⟩ := hrel
        by_cases hlt : k < zs.length
        · obtain ⟨b, off, hb, hix, hx⟩ := (hv.below hbel5).at k hlt
          have hin := u6 zs[k] (List.getElem_mem _)
          go_wp2_with fail
          refine (has_any _ l2 zs[k] _ (q4.size hbq (Nat.le_refl _))).mono ?_
          rintro e w6 ⟨rfl, b6⟩
          rw [hin]
          go_wp2
          go_roundw
          case rel => exact ⟨k + 1, by omega, by go_num, hbel5.trans (b6.mono hbel5.size), hbq.trans (b6.mono hbq.size)⟩
          case measure => simp [intOf]; omega
        · go_wp2
          go_ret
          exact ⟨ret_bool (by simp), hbel5⟩

set_option maxRecDepth 100000 in
theorem up_lifted (os : Os) (started : os.Started) (H : Type) (enc : TypeId × Value → H) :
    ReturnsInHanded {} Try.checked os 6 .any (Rows.serialUpSpec.pre6 enc Try.prog Try.f6 Rows.serialUpRow.domain false) (Rows.serialUpSpec.post enc Try.prog Try.f6 false true false false) := by
  refine returnsInHanded_of_change_sized (C := Try.checked) Try.own started (by kernel_rfl) Try.func6
    (ChangeSpec.witness6 (enc := enc) (C := Try.checked) false ⟨#[], #[.slice none 0 0, .int .i64 0], []⟩ 8 (by kernel_rfl) (by kernel_rfl) (by kernel_rfl) (by kernel_rfl)) ?_
  intro W base args ds gs before hval0 hW hcnd hsz0 _
  have hval : ∀ (j : Nat) t v, Try.f6.params[j]? = some t → args[j]? = some v → Value.okWide Try.prog W .any base t v := hval0
  have hW' := hW
  obtain ⟨p, q, hA0, hV, rfl, hfz, hnd⟩ := hW
  have hA : DataW.TrodAll enc Try.prog W 0 (fun _ => true) true Try.f6.params.toList args.toList ds p := hA0
  have hsz : (DataW.weightsEach Try.prog (Try.f6.params.toList ++ Rows.serialUpSpec.plain.varTypes Try.prog) (ds ++ gs)).all (· ≤ reachBytes) = true := hsz0
  rw [Try.params6] at hA hval hsz
  obtain ⟨v0, vs0, d0, ds0, p0, q0, hargs, rfl, rfl, h0, r0⟩ := trodAll_cons hA
  obtain ⟨v1, vs1, d1, ds1, p1, q1, rfl, rfl, rfl, h1, r1⟩ := trodAll_cons r0
  obtain ⟨rfl, rfl, rfl⟩ := trodAll_nil r1
  obtain rfl : args = #[v0, v1] := by cases args; simp_all
  obtain ⟨rfl, rfl⟩ := trodVars_none hV
  obtain ⟨a0, len0, cap0, rfl⟩ := okWide_slice Try.underlying34 (hval 0 34 v0 rfl rfl)
  have k0 := h0
  have lt0 : ∀ x ∈ p0, x.block < W.heap.size := by obtain ⟨m, hm⟩ := k0; exact DataW.trod_lt m _ _ _ hm
  obtain ⟨zs, hz⟩ : ∃ zs, Il W.heap.size W (.slice a0 len0 cap0) zs := by
    obtain ⟨fuel, hf⟩ := h0
    refine Il.of_read hf fun es sp hd => ?_
    subst hd
    have := sized_slice hsz (j := 0) (t := 34) (e := 3) rfl rfl Try.underlying34
    rw [Try.bytes3] at this
    exact this
  obtain ⟨a1, rfl, rfl, rfl, w1⟩ := open_int Try.underlying3 (hval 1 3 v1 rfl rfl) h1
  clear hA0 hval0
  refine (up_walk _ zs a1 W hz).mono fun e W' ⟨he, bel⟩ => ?_
  subst he
  exact ⟨_, rfl, _, _, _, [], _, [], hW', trodAll_mk1 (shut_bool Try.underlying4 _), (trodAll_cons_mk (Below.trod Try.laidOut (by kernel_rfl) (of_decide_eq_true (by kernel_rfl)) k0 bel lt0) (trodAll_cons_mk (shut_int Try.underlying3 w1) trodAll_mk0)), rfl, bel.frame _, fun h => by cases h⟩

theorem up_holds : Rows.SerialUpSaid :=
  OpenClaim.holds_of_wide 6 Try.f6 rfl rfl rfl rfl rfl rfl rfl ⟨rfl, rfl, rfl, rfl, rfl⟩ rfl rfl rfl rfl rfl (by kernel_rfl) Try.func6 (by kernel_rfl)
    (of_decide_eq_true (by kernel_rfl)) (by unfold Func.isWrapper; first | (rw [if_pos (by decide +kernel)]; kernel_rfl) | (rw [if_neg (by decide +kernel)]; exact ⟨rfl, rfl⟩))
    (fun os started H enc _ => up_lifted os started H enc)

end Go.Proofs.Ytnddejdndipddaa
