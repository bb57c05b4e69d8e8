/- A chunk that came in, under a bound of its bulk. -/
import Derived.Test.YtnddejdndipddadRdK
import Derived.JoinedCond
set_option maxRecDepth 20000
namespace Go.Proofs.Ytnddejdndipddad
open Go.RowKit

theorem bulk_pos {H : Type} (d : DataW H) : 1 ≤ Rows.uptoBulk d := by
  unfold Rows.uptoBulk
  split <;> omega
theorem chunk_one {H : Type} {enc : TypeId × Value → H} {w : World} {held : Bool} {v : Value} {d : DataW H} {p : List MemPlace} (h : DataW.Trod enc Try.prog w 0 (fun _ => true) held 42 v d p) (hb : Rows.uptoBulk d ≤ 1048576) : ∃ c x y z, v = ckVal c x y z ∧ By w.heap.size w x c.data ∧ Sl w.heap.size w y c.spans ∧ Kl w.heap.size w z c.skips ∧ CkFit c ∧ c.data.length ≤ 1048576 ∧ c.skips.length ≤ 1048576 := by
  obtain ⟨c0, d0, s0, k0, hv, -, -, -⟩ := chunk_in h
  obtain ⟨fuel, hf⟩ := h
  obtain ⟨c, d1, s1, k1, e, h1, h2, h3, -, hfit⟩ := chunk_bulk hf
  obtain ⟨q1, q2, q3⟩ := hfit hb
  refine ⟨c, d1, s1, k1, ?_, h1, h2, h3, q1, Nat.le_trans q2 hb, Nat.le_trans q3 hb⟩
  subst hv
  have e2 : (ckVal c0 d0 s0 k0).cells = (ckVal c d1 s1 k1).cells := Array.toList_inj.1 e
  simpa [ckVal, Value.cells] using e2
end Go.Proofs.Ytnddejdndipddad

/- Proved: ReceiveTells returns true at every input, where what it reads is of bulk at most 1048576 (UptoSaid), and leaves its arguments as they were; no other conditions. -/
set_option maxRecDepth 20000
namespace Go.Proofs.Ytnddejdndipddad
open Go.ChangeShapes Go.WideShapes Go.ChangeAt Go.RowKit

set_option maxRecDepth 100000 in
theorem rctells_lifted (os : Os) (started : os.Started) (H : Type) (enc : TypeId × Value → H) (F : Stop.Interp) :
    ReturnsInHanded {} Try.checked os 6 .any ((Rows.OpenSpec.upto Rows.receiveTellsSpec).pre6 enc Try.prog Try.f6 Rows.receiveTellsUptoRow.domain false) (((Rows.OpenSpec.upto Rows.receiveTellsSpec).at F).post enc Try.prog Try.f6 false true false false) := by
  refine returnsInHanded_of_cond (C := Try.checked) (s := Rows.OpenSpec.upto Rows.receiveTellsSpec) (k := Rows.uptoSmall) rfl Try.own started (by kernel_rfl) Try.func6
    (OpenSpec.witness (enc := enc) (C := Try.checked) (s := Rows.OpenSpec.upto Rows.receiveTellsSpec) (k := Rows.uptoSmall) rfl false ⟨#[], #[.agg #[.int .i64 0, .int .i64 0, .int .i64 0, .int .i64 0, .int .i64 0, .int .i64 0, .int .i64 0], .slice none 0 0, .agg #[.int .i64 0, .int .i64 0, .int .i64 0, .int .i64 0, .int .i64 0, .bool false, .bool false, .slice none 0 0, .slice none 0 0, .int .i64 0, .slice none 0 0]], []⟩ 8 (by kernel_rfl) (by kernel_rfl) (by kernel_rfl) (x := ([.agg [.lit (.int .i64 0), .lit (.int .i64 0), .lit (.int .i64 0), .lit (.int .i64 0), .lit (.int .i64 0), .lit (.int .i64 0), .lit (.int .i64 0)], .nil, .agg [.lit (.int .i64 0), .lit (.int .i64 0), .lit (.int .i64 0), .lit (.int .i64 0), .lit (.int .i64 0), .lit (.bool false), .lit (.bool false), .nil, .nil, .lit (.int .i64 0), .nil]], [], [])) (by kernel_rfl) rfl (by kernel_rfl)) ?_
  intro W base args ds gs before hval0 hW hcnd hk _
  have hval : ∀ (j : Nat) t v, Try.f6.params[j]? = some t → args[j]? = some v → Value.okWide Try.prog W .any base t v := hval0
  have hW' := hW
  obtain ⟨p, q, hA0, hV, rfl, hfz, hnd⟩ := hW
  have hA : DataW.TrodAll enc Try.prog W 0 (fun _ => true) true Try.f6.params.toList args.toList ds p := hA0
  rw [Try.params6] at hA hval
  obtain ⟨v0, vs0, d0, ds0, p0, q0, hargs, rfl, rfl, h0, r0⟩ := trodAll_cons hA
  obtain ⟨v1, vs1, d1, ds1, p1, q1, rfl, rfl, rfl, h1, r1⟩ := trodAll_cons r0
  obtain ⟨v2, vs2, d2, ds2, p2, q2, rfl, rfl, rfl, h2, r2⟩ := trodAll_cons r1
  obtain ⟨rfl, rfl, rfl⟩ := trodAll_nil r2
  obtain rfl : args = #[v0, v1, v2] := by cases args; simp_all
  obtain ⟨rfl, rfl⟩ := trodVars_none hV
  have hbk : Rows.uptoBulkAll ([d0, d1, d2] ++ []) ≤ 1048576 := of_decide_eq_true hk
  simp only [List.cons_append, List.nil_append, Rows.uptoBulkAll] at hbk
  have k0 := h0
  have lt0 : ∀ x ∈ p0, x.block < W.heap.size := by obtain ⟨m, hm⟩ := k0; exact DataW.trod_lt m _ _ _ hm
  have k1 := h1
  have lt1 : ∀ x ∈ p1, x.block < W.heap.size := by obtain ⟨m, hm⟩ := k1; exact DataW.trod_lt m _ _ _ hm
  have k2 := h2
  have lt2 : ∀ x ∈ p2, x.block < W.heap.size := by obtain ⟨m, hm⟩ := k2; exact DataW.trod_lt m _ _ _ hm
  obtain ⟨x0, rfl, f0, g0⟩ := config_in h0
  obtain ⟨a1, len1, cap1, rfl⟩ := okWide_slice Try.underlying37 (hval 1 37 v1 rfl rfl)
  obtain ⟨x1, y1, b1, c1, s1⟩ : ∃ l, CksS W.heap.size W (.slice a1 len1 cap1) l ∧ (∀ c ∈ l, CkFit c ∧ c.data.length ≤ 1048576) ∧ l.length ≤ 1048576 ∧ skN l ≤ 1048576 := by
    obtain ⟨fuel, hf⟩ := h1
    exact chunks_bulk hf (by show Rows.uptoBulk d1 ≤ _; omega)
  obtain ⟨x2, e2, f2, g2, rfl, s2, t2, u2, m2, n2, o2⟩ := chunk_one h2 (by show Rows.uptoBulk d2 ≤ _; omega)
  clear hA0 hval0
  refine (recvtells_walk x0 _ x1 x2 _ _ _ W y1 b1 (by obtain ⟨_, _, e9, -, -⟩ := y1.ex; simp only [Value.slice.injEq] at e9; obtain ⟨fu, hu⟩ := h1; have q9 : len1 ≤ Rows.uptoBulk d1 := slice_bulk Try.underlying37 hu; have r9 := bulk_pos d0; have r8 := bulk_pos d2; omega) s1 s2 t2 u2 m2 n2 o2).mono fun e W' ⟨he, bel⟩ => ?_
  subst he
  exact ⟨_, rfl, _, _, _, [], _, [], hW', trodAll_mk1 (shut_bool Try.underlying4 _), (trodAll_cons_mk (Below.trod Try.laidOut (by kernel_rfl) (of_decide_eq_true (by kernel_rfl)) k0 bel lt0) (trodAll_cons_mk (Below.trod Try.laidOut (by kernel_rfl) (of_decide_eq_true (by kernel_rfl)) k1 bel lt1) (trodAll_cons_mk (Below.trod Try.laidOut (by kernel_rfl) (of_decide_eq_true (by kernel_rfl)) k2 bel lt2) trodAll_mk0))), rfl, bel.frame _, fun h => by cases h⟩

theorem rctells_holds : Rows.ReceiveTellsUptoSaid :=
  OpenClaim.holds_of_cond 6 Try.f6 rfl rfl rfl rfl rfl rfl rfl ⟨rfl, rfl, rfl, rfl, rfl⟩ rfl rfl rfl rfl rfl (by kernel_rfl) Try.func6 (by kernel_rfl)
    (of_decide_eq_true (by kernel_rfl)) (by unfold Func.isWrapper; first | (rw [if_pos (by decide +kernel)]; kernel_rfl) | (rw [if_neg (by decide +kernel)]; exact ⟨rfl, rfl⟩))
    (fun os started H enc _ F => rctells_lifted os started H enc F)

end Go.Proofs.Ytnddejdndipddad
