/- Proved: SerialSpans returns true at every input, and leaves its arguments as they were; no conditions. -/
import Derived.Test.YtnddejdndipddaaJ
set_option maxRecDepth 20000
namespace Go.Proofs.Ytnddejdndipddaa
open Go.ChangeShapes Go.WideShapes Go.ChangeAt Go.RowKit

theorem take_mem_yes (zs : List Int) (k : Nat) (hk : k < zs.length) (x : Int) (h : x ∈ zs.take k) : decide (x ∈ zs.take (k + 1)) = true := by
  rw [List.take_succ_eq_append_getElem hk]
  exact decide_eq_true (List.mem_append_left _ h)
theorem take_mem_no (zs : List Int) (k : Nat) (hk : k < zs.length) (x : Int) (h : ¬ x ∈ zs.take k) : decide (x ∈ zs.take (k + 1)) = (zs[k] == x) := by
  rw [List.take_succ_eq_append_getElem hk, Bool.eq_iff_iff]
  simp only [List.mem_append, List.mem_singleton, decide_eq_true_eq, beq_iff_eq]
  constructor
  · rintro (g | g)
    · exact absurd g h
    · exact g.symm
  · intro g; exact Or.inr g.symm

set_option maxHeartbeats 1000000 in
theorem spans_walk (v : Value) (zs : List Int) (o : Int) (w : World) (hv : Il w.heap.size w v zs) :
    Calls Try.prog 5 #[v, .int .i64 o] w fun e w' => e = .returned (.bool true) ∧ Below w.heap.size w w' := by
  have hv0 := hv
  obtain ⟨a, cap, rfl, hl, hz, -⟩ := hv0
  have hnot : ∀ (x : Bool) (w : World), (Op.unary .not (.bool x)).run Try.prog w = .ok (.bool (!x)) w := fun _ _ => rfl
  go_enter Try.func5, Try.ntmps5
  go_wp2_with fail
  refine (alive_any _).mono ?_
  rintro e w0 ⟨rfl, hb0⟩
  go_wp2_with fail
  go_loopw [5, 6, 7, 16] (fun s t is i wr => ∃ (k : Nat) (l1 l2 : List Sp), k ≤ zs.length ∧ i = .int .i64 k ∧ is = .bool (decide (o ∈ zs.take k)) ∧ Below w.heap.size w wr ∧ Sl wr.heap.size wr s l1 ∧ Sl wr.heap.size wr t l2 ∧
      St (-1000001) 1000000 (zs.take k) l1 ∧ St (-9223372036854775809) 9223372036854775807 (zs.reverse.take k) l2 ∧ l1.length ≤ k ∧ l2.length ≤ k)
    (fun _ _ _ i _ => zs.length - (intOf i).toNat)
  case atStart => exact ⟨0, [], [], Nat.zero_le _, rfl, rfl, hb0, ⟨none, 0, rfl, by simp, by simp, fun _ => rfl, fun s hs => by simp at hs, fun h => absurd rfl h⟩, ⟨none, 0, rfl, by simp, by simp, fun _ => rfl, fun s hs => by simp at hs, fun h => absurd rfl h⟩, St.nil _ _, St.nil _ _, by simp, by simp⟩
  case round =>
    obtain ⟨k, l1, l2, hk, rfl, rfl, hbel, s1, s2, S1, S2, n1, n2⟩ := hrel
    by_cases hlt : k < zs.length
    · obtain ⟨b, off, hb, hix, hx⟩ := (hv.below hbel).at k hlt
      by_cases hr : zs[k] < -1000000 ∨ 1000000 < zs[k]
      · go_wp2
        all_goals (go_ret; exact ⟨rfl, hbel⟩)
      · have r1 : -1000000 ≤ zs[k] := by omega
        have r2 : zs[k] ≤ 1000000 := by omega
        clear hr
        go_wp2_with fail
        refine (add_any _ l1 zs[k] _ s1 (by unfold I64; omega) (by omega)).mono ?_
        rintro e w1 ⟨v1, rfl, q1, b1⟩
        have s2' := s2.size b1 (Nat.le_refl _)
        have hbel1 := hbel.trans (b1.mono hbel.size)
        obtain ⟨b', off', hb', hix', hx'⟩ := (hv.below hbel1).at (zs.length - 1 - k) (by omega)
        rw [show ((zs.length - 1 - k : Nat) : Int) = (zs.length : Int) - 1 - (k : Int) by omega] at hix'
        have hy := hz zs[zs.length - 1 - k] (List.getElem_mem _)
        go_wp2_with fail
        refine (add_any _ l2 zs[zs.length - 1 - k] _ s2' hy (by omega)).mono ?_
        rintro e w2 ⟨v2, rfl, q2, b2⟩
        have q1' := q1.size b2 (Nat.le_refl _)
        have hbel2 := hbel1.trans (b2.mono hbel1.size)
        have T1 := S1.next hlt (by omega) r2
        have T2 := S2.next (by simpa using hlt) (by have := hy.1; rw [List.getElem_reverse]; omega) (by have := hy.2; rw [List.getElem_reverse]; omega)
        rw [List.getElem_reverse] at T2
        have L1 := addM_len l1 zs[k]
        have L2 := addM_len l2 zs[zs.length - 1 - k]
        clear S1 S2 s1 s2 s2' q1 hix hix' hx hx' hbel hbel1
        go_wp2
        all_goals go_roundw
        case rel =>
          have h : o ∈ zs.take k := by assumption
          exact ⟨k + 1, _, _, by omega, by go_num, by rw [take_mem_yes zs k hlt o h], hbel2, q1', q2, T1, T2, by omega, by omega⟩
        case measure => simp [intOf]; omega
        case rel =>
          have h : ¬ o ∈ zs.take k := by assumption
          exact ⟨k + 1, _, _, by omega, by go_num, by rw [take_mem_no zs k hlt o h], hbel2, q1', q2, T1, T2, by omega, by omega⟩
        case measure => simp [intOf]; omega
    · have hkl : k = zs.length := by omega
      subst hkl
      rw [List.take_length] at S1 ⊢
      rw [show zs.reverse.take zs.length = zs.reverse by rw [← List.length_reverse, List.take_length]] at S2
      have he : l1 = l2 := S1.1.unique S2.1 (fun x => by rw [S1.2.2 x, S2.2.2 x]; simp)
      subst he
      have hst := ris_steps S1.1 S1.2.1 (by omega) (by omega)
      go_wp2
      go_loopw [49] (fun i wq => ∃ (k : Nat), k ≤ zs.length ∧ i = .int .i64 k ∧ Below w.heap.size w wq ∧ Below wr.heap.size wr wq)
        (fun i _ => zs.length - (intOf i).toNat)
      case atStart => exact ⟨0, Nat.zero_le _, rfl, hbel, Below.refl _ _⟩
      case round =>
        obtain ⟨k, hk, rfl, hbel2, hbq⟩ := hrel
        by_cases hlt : k < zs.length
        · obtain ⟨b, off, hb, hix, hx⟩ := (hv.below hbel2).at k hlt
          have hin : inM l1 zs[k] = true := (S1.2.2 _).2 (List.getElem_mem _)
          go_wp2_with fail
          refine (has_any _ l1 zs[k] _ (s1.size hbq (Nat.le_refl _))).mono ?_
          rintro e w3 ⟨rfl, b3⟩
          rw [hin]
          go_wp2
          go_roundw
          case rel => exact ⟨k + 1, by omega, by go_num, hbel2.trans (b3.mono hbel2.size), hbq.trans (b3.mono hbq.size)⟩
          case measure => simp [intOf]; omega
        · have hin := S1.inB o
          go_wp2_with fail
          refine (has_any _ l1 o _ (s1.size hbq (Nat.le_refl _))).mono ?_
          rintro e w3 ⟨rfl, b3⟩
          rw [hin]
          have hb3 := hbq.trans (b3.mono hbq.size)
          go_wp2_with fail
          refine (rise_yes _ l1 _ (s1.size hb3 (Nat.le_refl _)) hst).mono ?_
          rintro e w4 ⟨rfl, b4⟩
          have hb4 := hb3.trans (b4.mono hb3.size)
          go_wp2_with fail
          refine (same_any _ _ l1 l1 _ (s1.size hb4 (Nat.le_refl _)) (s2.size hb4 (Nat.le_refl _))).mono ?_
          rintro e w5 ⟨rfl, b5⟩
          have hb5 := hb4.trans (b5.mono hb4.size)
          go_wp2
          go_ret
          exact ⟨ret_bool (by simp), hbel.trans (hb5.mono hbel.size)⟩

set_option maxRecDepth 100000 in
theorem spans_lifted (os : Os) (started : os.Started) (H : Type) (enc : TypeId × Value → H) :
    ReturnsInHanded {} Try.checked os 5 .any (Rows.serialSpansSpec.pre6 enc Try.prog Try.f5 Rows.serialSpansRow.domain false) (Rows.serialSpansSpec.post enc Try.prog Try.f5 false true false false) := by
  refine returnsInHanded_of_change_sized (C := Try.checked) Try.own started (by kernel_rfl) Try.func5
    (ChangeSpec.witness6 (enc := enc) (C := Try.checked) false ⟨#[], #[.slice none 0 0, .int .i64 0], []⟩ 8 (by kernel_rfl) (by kernel_rfl) (by kernel_rfl) (by kernel_rfl)) ?_
  intro W base args ds gs before hval0 hW hcnd hsz0 _
  have hval : ∀ (j : Nat) t v, Try.f5.params[j]? = some t → args[j]? = some v → Value.okWide Try.prog W .any base t v := hval0
  have hW' := hW
  obtain ⟨p, q, hA0, hV, rfl, hfz, hnd⟩ := hW
  have hA : DataW.TrodAll enc Try.prog W 0 (fun _ => true) true Try.f5.params.toList args.toList ds p := hA0
  have hsz : (DataW.weightsEach Try.prog (Try.f5.params.toList ++ Rows.serialSpansSpec.plain.varTypes Try.prog) (ds ++ gs)).all (· ≤ reachBytes) = true := hsz0
  rw [Try.params5] at hA hval hsz
  obtain ⟨v0, vs0, d0, ds0, p0, q0, hargs, rfl, rfl, h0, r0⟩ := trodAll_cons hA
  obtain ⟨v1, vs1, d1, ds1, p1, q1, rfl, rfl, rfl, h1, r1⟩ := trodAll_cons r0
  obtain ⟨rfl, rfl, rfl⟩ := trodAll_nil r1
  obtain rfl : args = #[v0, v1] := by cases args; simp_all
  obtain ⟨rfl, rfl⟩ := trodVars_none hV
  obtain ⟨a0, len0, cap0, rfl⟩ := okWide_slice Try.underlying34 (hval 0 34 v0 rfl rfl)
  have k0 := h0
  have lt0 : ∀ x ∈ p0, x.block < W.heap.size := by obtain ⟨m, hm⟩ := k0; exact DataW.trod_lt m _ _ _ hm
  obtain ⟨zs, hz⟩ : ∃ zs, Il W.heap.size W (.slice a0 len0 cap0) zs := by
    obtain ⟨fuel, hf⟩ := h0
    refine Il.of_read hf fun es sp hd => ?_
    subst hd
    have := sized_slice hsz (j := 0) (t := 34) (e := 3) rfl rfl Try.underlying34
    rw [Try.bytes3] at this
    exact this
  obtain ⟨a1, rfl, rfl, rfl, w1⟩ := open_int Try.underlying3 (hval 1 3 v1 rfl rfl) h1
  clear hA0 hval0
  refine (spans_walk _ zs a1 W hz).mono fun e W' ⟨he, bel⟩ => ?_
  subst he
  exact ⟨_, rfl, _, _, _, [], _, [], hW', trodAll_mk1 (shut_bool Try.underlying4 _), (trodAll_cons_mk (Below.trod Try.laidOut (by kernel_rfl) (of_decide_eq_true (by kernel_rfl)) k0 bel lt0) (trodAll_cons_mk (shut_int Try.underlying3 w1) trodAll_mk0)), rfl, bel.frame _, fun h => by cases h⟩

theorem spans_holds : Rows.SerialSpansSaid :=
  OpenClaim.holds_of_wide 5 Try.f5 rfl rfl rfl rfl rfl rfl rfl ⟨rfl, rfl, rfl, rfl, rfl⟩ rfl rfl rfl rfl rfl (by kernel_rfl) Try.func5 (by kernel_rfl)
    (of_decide_eq_true (by kernel_rfl)) (by unfold Func.isWrapper; first | (rw [if_pos (by decide +kernel)]; kernel_rfl) | (rw [if_neg (by decide +kernel)]; exact ⟨rfl, rfl⟩))
    (fun os started H enc _ => spans_lifted os started H enc)

end Go.Proofs.Ytnddejdndipddaa
