/- Proved: SerialTells returns true at every input, and leaves its arguments as they were; no conditions. -/
import Derived.Test.YtnddejdndipddaaR
import Derived.Deep.SlicePairs
set_option maxRecDepth 20000
namespace Go.Proofs.Ytnddejdndipddaa
open Go.ChangeShapes Go.WideShapes Go.ChangeAt Go.RowKit

theorem Try.cells49 : Try.prog.cellsOf 49 = 2 := by kernel_rfl
theorem Try.bytes49 : Try.prog.bytesOf 49 = 16 := by kernel_rfl
/-- What came in as a slice of spans. -/
theorem Sl.of_read {H : Type} {enc : TypeId × Value → H} {w : World} {held : Bool} {d : DataW H} {p : List MemPlace} {a : Option Addr} {len cap fuel : Nat}
    (h : DataW.trod enc Try.prog w 0 (fun _ => true) held fuel 22 [.slice a len cap] = some (d, p))
    (hsz : ∀ es sp, d = .slice es sp → (es.length + sp.length) * 16 ≤ 140737488351232) : ∃ l, Sl w.heap.size w (.slice a len cap) l ∧ l.length * 16 ≤ 140737488351232 := by
  rcases Deep.open_slice_pairs Try.underlying22 Try.underlying49 Try.cells49 rfl rfl Try.cells3 Try.cells3 h with ⟨hcs, _⟩ | ⟨x, l, c, m, n, V0, V1, D0, D1, P0, P1, hcs, hb, hl, hm, hmm, hx, hcell⟩
  · simp at hcs
    obtain ⟨rfl, rfl, rfl⟩ := hcs
    exact ⟨[], ⟨none, 0, rfl, by simp, by simp, fun _ => rfl, fun s hs => by simp at hs, fun h => absurd rfl h⟩, by simp⟩
  · simp at hcs
    obtain ⟨rfl, rfl, rfl⟩ := hcs
    simp only [if_true] at hmm
    subst hmm
    have each : ∀ i, i < m → ∃ q : Int × Int, V0 i = .int .i64 q.1 ∧ V1 i = .int .i64 q.2 ∧ I64 q.1 ∧ I64 q.2 := by
      intro i hi
      obtain ⟨_, _, g0, g1⟩ := hcell i hi
      obtain ⟨z0, e0, _, w0⟩ := DataW.trod_int Try.underlying3 g0
      obtain ⟨z1, e1, _, w1⟩ := DataW.trod_int Try.underlying3 g1
      simp at e0 e1
      exact ⟨(z0, z1), e0, e1, wf_I64 w0, wf_I64 w1⟩
    obtain ⟨q, hq⟩ := Deep.choose_lt each
    have hb := hsz _ _ (Prod.ext_iff.1 hx).1
    simp only [List.length_map, List.length_range] at hb
    refine ⟨(List.range len).map q, ⟨some x, m, by simp, by simpa using hl, by unfold maxLen at hm; omega, fun h => by simp at h, ?_, fun hn => ?_⟩, by simp; omega⟩
    · intro s hs
      obtain ⟨i, hi, rfl⟩ := List.mem_map.1 hs
      have := hq i (by have := List.mem_range.1 hi; omega)
      exact ⟨this.2.2.1, this.2.2.2⟩
    · have hpos : 0 < len := by
        rcases Nat.eq_zero_or_pos len with h0 | h0
        · subst h0; exact absurd rfl hn
        · exact h0
      have c0 := (hcell 0 (by omega)).1
      rw [Nat.zero_mul] at c0
      obtain ⟨b, off, spot⟩ := x
      have hspot : spot = none := by simpa [Addr.add] using World.cell?_spot c0
      subst hspot
      refine ⟨b, off, rfl, by have := World.block_lt_of_cell? _ _ c0; simpa [Addr.add] using this, fun k s hs => ?_⟩
      have hk : k < len := by simpa using (List.getElem?_eq_some_iff.1 hs).1
      have hks : q k = s := by simpa [hk] using hs
      have g := hcell k (by omega)
      have e := hq k (by omega)
      rw [add_plain, e.1, hks] at g
      rw [add_plain, e.2.1, hks, ← Nat.add_assoc] at g
      exact ⟨g.1, g.2.1⟩

set_option maxHeartbeats 1000000 in
theorem tells_walk (near tag : Int) (v : Value) (l : List Sp) (n : Int) (w : World) (hv : Sl w.heap.size w v l) (hl : l.length * 16 ≤ 140737488351232) :
    Calls Try.prog 3 #[.int .i64 near, .int .i64 tag, v, .int .i64 n] w fun e w' => e = .returned (.bool true) ∧ Below w.heap.size w w' := by
  have hnot : ∀ (x : Bool) (w : World), (Op.unary .not (.bool x)).run Try.prog w = .ok (.bool (!x)) w := fun _ _ => rfl
  rcases (show (-1099511627776 ≤ near ∧ near ≤ 1099511627776) ∨ near < -1099511627776 ∨ 1099511627776 < near by omega) with ⟨i1, i2⟩ | i1 | i1
  all_goals go_enter Try.func3, Try.ntmps3
  all_goals go_wp2_with (first | (go_at_call 9; refine (tag_any _ _).mono ?_; rintro e w' ⟨rfl, rfl⟩) | (go_at_call 10; refine (rtag_any _ _).mono ?_; rintro e w' ⟨rfl, rfl⟩) | (go_at_call 11; refine (near_any _ _ _ i1 i2).mono ?_; rintro e w' ⟨rfl, rfl⟩) | (go_at_call 12; refine (rnear_any _ _ _ i1 i2).mono ?_; rintro e w' ⟨rfl, rfl⟩) | fail)
  all_goals (refine (rise_any _ l _ hv).mono ?_; rintro e w1 ⟨r, rfl, hr, b1⟩)
  all_goals
    cases r with
    | false =>
      go_wp2
      go_ret
      exact ⟨rfl, b1⟩
    | true =>
      by_cases hn : n < -1000000 ∨ 1000000 < n
      · go_wp2
        all_goals (go_ret; exact ⟨rfl, b1⟩)
      · have n1 : -1000000 ≤ n := by omega
        have n2 : n ≤ 1000000 := by omega
        clear hn
        have hst := steps_low l (hr rfl)
        have hv1 := hv.size b1 (Nat.le_refl _)
        have HU : Hid (rupM l n [] = upM l n) := rupM_eq l _ n hst.1
        clear hr
        go_wp2_with fail
        refine (up_any _ l n _ hv1 (by unfold I64; omega) (by omega)).mono ?_
        rintro e w2 ⟨v2, rfl, s2, b2⟩
        have c2 := b1.trans (b2.mono b1.size)
        have hv2 := hv.size c2 (Nat.le_refl _)
        go_wp2_with fail
        refine (rup_any _ l n _ hv2 (by omega) (by omega) hst.2 hl).mono ?_
        rintro e w3 ⟨v3, rfl, s3, b3⟩
        rw [HU.out] at s3 ⊢
        have c3 := c2.trans (b3.mono c2.size)
        have hv3 := hv.size c3 (Nat.le_refl _)
        go_wp2_with fail
        refine (has_any _ l n _ hv3).mono ?_
        rintro e w4 ⟨rfl, b4⟩
        have c4 := c3.trans (b4.mono c3.size)
        have hv4 := hv.size c4 (Nat.le_refl _)
        go_wp2_with fail
        refine (rin_any _ l n _ hv4).mono ?_
        rintro e w5 ⟨rfl, b5⟩
        have c5 := c4.trans (b5.mono c4.size)
        have hv5 := hv.size c5 (Nat.le_refl _)
        go_wp2_with fail
        refine (add_any _ l n _ hv5 (by unfold I64; omega) (by omega)).mono ?_
        rintro e w6 ⟨v6, rfl, s6, b6⟩
        rw [addM_eq] at s6
        have c6 := c5.trans (b6.mono c5.size)
        have hv6 := hv.size c6 (Nat.le_refl _)
        go_wp2_with fail
        refine (radd_any _ l n _ hv6 (by omega) (by omega) hl _ hst.1).mono ?_
        rintro e w7 ⟨v7, rfl, s7, b7⟩
        have c7 := c6.trans (b7.mono c6.size)
        go_wp2_with fail
        refine (same_any _ _ (addR n l) (addR n l) _ (s6.size b7 (Nat.le_refl _)) s7).mono ?_
        rintro e w8 ⟨rfl, b8⟩
        have c8 := c7.trans (b8.mono c7.size)
        have d8 : Below w3.heap.size w3 w8 := (((b4.trans (b5.mono b4.size)).trans ((b6.mono (Nat.le_trans b4.size b5.size)))).trans (b7.mono (by have := b4.size; have := b5.size; have := b6.size; omega))).trans (b8.mono (by have := b4.size; have := b5.size; have := b6.size; have := b7.size; omega))
        go_wp2_with fail
        refine (same_any _ _ (upM l n).2 (upM l n).2 _ ((s2.size b3 (Nat.le_refl _)).size d8 (Nat.le_refl _)) (s3.size d8 (Nat.le_refl _))).mono ?_
        rintro e w9 ⟨rfl, b9⟩
        go_wp2
        go_ret
        exact ⟨ret_bool (by simp), c8.trans (b9.mono c8.size)⟩

set_option maxRecDepth 100000 in
theorem tells_lifted (os : Os) (started : os.Started) (H : Type) (enc : TypeId × Value → H) :
    ReturnsInHanded {} Try.checked os 3 .any (Rows.serialTellsSpec.pre6 enc Try.prog Try.f3 Rows.serialTellsRow.domain false) (Rows.serialTellsSpec.post enc Try.prog Try.f3 false true false false) := by
  refine returnsInHanded_of_change_sized (C := Try.checked) Try.own started (by kernel_rfl) Try.func3
    (ChangeSpec.witness6 (enc := enc) (C := Try.checked) false ⟨#[], #[.int .i64 0, .int .i64 0, .slice none 0 0, .int .i64 0], []⟩ 8 (by kernel_rfl) (by kernel_rfl) (by kernel_rfl) (by kernel_rfl)) ?_
  intro W base args ds gs before hval0 hW hcnd hsz0 _
  have hval : ∀ (j : Nat) t v, Try.f3.params[j]? = some t → args[j]? = some v → Value.okWide Try.prog W .any base t v := hval0
  have hW' := hW
  obtain ⟨p, q, hA0, hV, rfl, hfz, hnd⟩ := hW
  have hA : DataW.TrodAll enc Try.prog W 0 (fun _ => true) true Try.f3.params.toList args.toList ds p := hA0
  have hsz : (DataW.weightsEach Try.prog (Try.f3.params.toList ++ Rows.serialTellsSpec.plain.varTypes Try.prog) (ds ++ gs)).all (· ≤ reachBytes) = true := hsz0
  rw [Try.params3] at hA hval hsz
  obtain ⟨v0, vs0, d0, ds0, p0, q0, hargs, rfl, rfl, h0, r0⟩ := trodAll_cons hA
  obtain ⟨v1, vs1, d1, ds1, p1, q1, rfl, rfl, rfl, h1, r1⟩ := trodAll_cons r0
  obtain ⟨v2, vs2, d2, ds2, p2, q2, rfl, rfl, rfl, h2, r2⟩ := trodAll_cons r1
  obtain ⟨v3, vs3, d3, ds3, p3, q3, rfl, rfl, rfl, h3, r3⟩ := trodAll_cons r2
  obtain ⟨rfl, rfl, rfl⟩ := trodAll_nil r3
  obtain rfl : args = #[v0, v1, v2, v3] := by cases args; simp_all
  obtain ⟨rfl, rfl⟩ := trodVars_none hV
  obtain ⟨a0, rfl, rfl, rfl, w0⟩ := open_int Try.underlying3 (hval 0 3 v0 rfl rfl) h0
  obtain ⟨a1, rfl, rfl, rfl, w1⟩ := open_int Try.underlying3 (hval 1 3 v1 rfl rfl) h1
  obtain ⟨a2, len2, cap2, rfl⟩ := okWide_slice Try.underlying22 (hval 2 22 v2 rfl rfl)
  have k2 := h2
  have lt2 : ∀ x ∈ p2, x.block < W.heap.size := by obtain ⟨m, hm⟩ := k2; exact DataW.trod_lt m _ _ _ hm
  obtain ⟨l, hl, hll⟩ : ∃ l, Sl W.heap.size W (.slice a2 len2 cap2) l ∧ l.length * 16 ≤ 140737488351232 := by
    obtain ⟨fuel, hf⟩ := h2
    refine Sl.of_read hf fun es sp hd => ?_
    subst hd
    have := sized_slice hsz (j := 2) (t := 22) (e := 49) rfl rfl Try.underlying22
    rw [Try.bytes49] at this
    exact this
  obtain ⟨a3, rfl, rfl, rfl, w3⟩ := open_int Try.underlying3 (hval 3 3 v3 rfl rfl) h3
  clear hA0 hval0
  refine (tells_walk a0 a1 _ l a3 W hl hll).mono fun e W' ⟨he, bel⟩ => ?_
  subst he
  exact ⟨_, rfl, _, _, _, [], _, [], hW', trodAll_mk1 (shut_bool Try.underlying4 _), (trodAll_cons_mk (shut_int Try.underlying3 w0) (trodAll_cons_mk (shut_int Try.underlying3 w1) (trodAll_cons_mk (Below.trod Try.laidOut (by kernel_rfl) (of_decide_eq_true (by kernel_rfl)) k2 bel lt2) (trodAll_cons_mk (shut_int Try.underlying3 w3) trodAll_mk0)))), rfl, bel.frame _, fun h => by cases h⟩

theorem tells_holds : Rows.SerialTellsSaid :=
  OpenClaim.holds_of_wide 3 Try.f3 rfl rfl rfl rfl rfl rfl rfl ⟨rfl, rfl, rfl, rfl, rfl⟩ rfl rfl rfl rfl rfl (by kernel_rfl) Try.func3 (by kernel_rfl)
    (of_decide_eq_true (by kernel_rfl)) (by unfold Func.isWrapper; first | (rw [if_pos (by decide +kernel)]; kernel_rfl) | (rw [if_neg (by decide +kernel)]; exact ⟨rfl, rfl⟩))
    (fun os started H enc _ => tells_lifted os started H enc)

end Go.Proofs.Ytnddejdndipddaa
