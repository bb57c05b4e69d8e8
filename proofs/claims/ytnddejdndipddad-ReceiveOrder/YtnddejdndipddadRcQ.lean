/- The contract of receive.Forward. -/
import Derived.Test.YtnddejdndipddadRcP
import Derived.Test.YtnddejdndipddadRcH
set_option maxRecDepth 20000
namespace Go.Proofs.Ytnddejdndipddad
open Go.RowKit

theorem enters_near (args : Array Value) (wx : World) : (callFunc 52 args).run Try.prog wx = .ok (.enter 52 args) wx := enters_body Try.func52 (by kernel_rfl) rfl args wx
theorem enters_pass (args : Array Value) (wx : World) : (callFunc 67 args).run Try.prog wx = .ok (.enter 67 args) wx := enters_body Try.func67 (by kernel_rfl) rfl args wx
/-- A call of a function with three operands, as a step of a region. -/
theorem step_call3 {ops : Array Oper} {o : Oper} {a : Act} {w : World} {K : Act → World → Prop} {Q : Exit → Act → World → Prop} {E : Prop} (hg : o.guard = none) (f : FuncId) (x y z : Operand) (ts : Array TypeId)
    (hop : o.op = Op.call { callee := Callee.value (.func f), args := #[x, y, z], argTypes := ts }) (u u' u'' : Value) (hu : a.eval x = u) (hu' : a.eval y = u') (hu'' : a.eval z = u'') (hf : a.eval (.func f) = .func (.func f) #[] #[])
    (hent : ∀ (args : Array Value) (wx : World), (callFunc f args).run Try.prog wx = .ok (.enter f args) wx) (R : Value → World → Prop) (hc : Calls Try.prog f #[u, u', u''] w fun e w' => ∃ v, e = .returned v ∧ R v w')
    (hK : ∀ v w', R v w' → K (a.put o.dst v) w') : if Region.wanted o (yielded ops a.tmps) = true then Oper.wp Try.prog o a w K Q else E := by
  have hw : Region.wanted o (yielded ops a.tmps) = true := by simp [Region.wanted, hg]
  rw [if_pos hw]
  unfold Oper.wp
  simp [execOp, hop, resolve, invoke, hf, hu, hu', hu'', hent, Deferred.ofValue, Oper.upon]
  refine hc.mono ?_
  rintro e w' ⟨v, rfl, hr⟩
  exact hK v w' hr
theorem skips_ok {K : Int} (l : List Sk) (x : Rc) (h : OkR K x) (k : Nat) : OkR (K + 32769 * k) ((l.take k).foldl skipM x) := by
  induction k with
  | zero => simpa using h
  | succ k ih =>
    by_cases hk : k < l.length
    · rw [List.take_succ_eq_append_getElem hk, List.foldl_append]
      exact (ih.skip l[k]).mono (by omega)
    · rw [List.take_of_length_le (by omega)]
      rw [List.take_of_length_le (by omega)] at ih
      exact ih.mono (by omega)

set_option maxHeartbeats 8000000 in
theorem rforw_in (V : Nat → Prop) (K : Int) (x : Rc) (c : Ck) (s p t l d sp q : Value) (w : World) (h : RvI V w x s p t l) (hv : ∀ k, V k → k < w.heap.size) (hd : By w.heap.size w d c.data) (hs : Sl w.heap.size w sp c.spans) (hq : Kl w.heap.size w q c.skips) (hf : CkFit c) (hst : StR x) (hok : OkR K (overM x c)) (hK : K + 32769 * (c.skips.length + 1) ≤ 1099511627776) :
    Calls Try.prog 30 #[.agg #[.int .i64 x.cf.streams, .int .i64 x.cf.part, .int .i64 x.cf.packet, .int .i64 x.cf.paths, .int .i64 x.cf.turns, .int .i64 x.cf.waiting, .int .i64 x.cf.first, .int .i64 x.cum, s, p, t, l], .agg #[.int .i64 c.kind, .int .i64 c.tag, .int .i64 c.stream, .int .i64 c.mid, .int .i64 c.part, .bool c.last, .bool c.ordered, d, sp, .int .i64 c.room, q]] w fun e w' => ∃ s' p' t' l', e = .returned (.agg #[.int .i64 (forwM x c).cf.streams, .int .i64 (forwM x c).cf.part, .int .i64 (forwM x c).cf.packet, .int .i64 (forwM x c).cf.paths, .int .i64 (forwM x c).cf.turns, .int .i64 (forwM x c).cf.waiting, .int .i64 (forwM x c).cf.first, .int .i64 (forwM x c).cum, s', p', t', l']) ∧ RvI (fun k => V k ∨ w.heap.size ≤ k) w' (forwM x c) s' p' t' l' ∧ Below w.heap.size w w' := by
  have H := h
  obtain ⟨sa, sc, pa, pc, ta, tc, la, lc, rfl, rfl, rfl, rfl⟩ := h.r.ex
  clear h
  have hd' := hd
  have hs' := hs
  have hq' := hq
  obtain ⟨da, dc, rfl, -, -⟩ := hd.ex
  obtain ⟨ssa, ssc, rfl⟩ := hs.ex
  obtain ⟨qa, qc, rfl, -, -⟩ := hq.ex
  clear hd hs hq
  have B0 := three_below w (.cells #[.int .i64 x.cf.streams, .int .i64 x.cf.part, .int .i64 x.cf.packet, .int .i64 x.cf.paths, .int .i64 x.cf.turns, .int .i64 x.cf.waiting, .int .i64 x.cf.first, .int .i64 x.cum, .slice sa x.spans.length sc, .slice pa x.pieces.length pc, .slice ta x.turn.length tc, .slice la x.log.length lc] 47) (.cells #[.int .i64 c.kind, .int .i64 c.tag, .int .i64 c.stream, .int .i64 c.mid, .int .i64 c.part, .bool c.last, .bool c.ordered, .slice da c.data.length dc, .slice ssa c.spans.length ssc, .int .i64 c.room, .slice qa c.skips.length qc] 42) (.cells #[.int .i64 0, .int .i64 0, .int .i64 0, .int .i64 0, .int .i64 0, .int .i64 0, .int .i64 0, .int .i64 0, .slice none 0 0, .slice none 0 0, .slice none 0 0, .slice none 0 0] 47)
  have CX : Cells w.heap.size (((w.alloc (.cells #[.int .i64 x.cf.streams, .int .i64 x.cf.part, .int .i64 x.cf.packet, .int .i64 x.cf.paths, .int .i64 x.cf.turns, .int .i64 x.cf.waiting, .int .i64 x.cf.first, .int .i64 x.cum, .slice sa x.spans.length sc, .slice pa x.pieces.length pc, .slice ta x.turn.length tc, .slice la x.log.length lc] 47)).alloc (.cells #[.int .i64 c.kind, .int .i64 c.tag, .int .i64 c.stream, .int .i64 c.mid, .int .i64 c.part, .bool c.last, .bool c.ordered, .slice da c.data.length dc, .slice ssa c.spans.length ssc, .int .i64 c.room, .slice qa c.skips.length qc] 42)).alloc (.cells #[.int .i64 0, .int .i64 0, .int .i64 0, .int .i64 0, .int .i64 0, .int .i64 0, .int .i64 0, .int .i64 0, .slice none 0 0, .slice none 0 0, .slice none 0 0, .slice none 0 0] 47)) [.int .i64 x.cf.streams, .int .i64 x.cf.part, .int .i64 x.cf.packet, .int .i64 x.cf.paths, .int .i64 x.cf.turns, .int .i64 x.cf.waiting, .int .i64 x.cf.first, .int .i64 x.cum, .slice sa x.spans.length sc, .slice pa x.pieces.length pc, .slice ta x.turn.length tc, .slice la x.log.length lc] := ((Cells.new w #[.int .i64 x.cf.streams, .int .i64 x.cf.part, .int .i64 x.cf.packet, .int .i64 x.cf.paths, .int .i64 x.cf.turns, .int .i64 x.cf.waiting, .int .i64 x.cf.first, .int .i64 x.cum, .slice sa x.spans.length sc, .slice pa x.pieces.length pc, .slice ta x.turn.length tc, .slice la x.log.length lc] 47).alloc (by simp) _).alloc (by simp; omega) _
  have CC : Cells (w.heap.size + 1) (((w.alloc (.cells #[.int .i64 x.cf.streams, .int .i64 x.cf.part, .int .i64 x.cf.packet, .int .i64 x.cf.paths, .int .i64 x.cf.turns, .int .i64 x.cf.waiting, .int .i64 x.cf.first, .int .i64 x.cum, .slice sa x.spans.length sc, .slice pa x.pieces.length pc, .slice ta x.turn.length tc, .slice la x.log.length lc] 47)).alloc (.cells #[.int .i64 c.kind, .int .i64 c.tag, .int .i64 c.stream, .int .i64 c.mid, .int .i64 c.part, .bool c.last, .bool c.ordered, .slice da c.data.length dc, .slice ssa c.spans.length ssc, .int .i64 c.room, .slice qa c.skips.length qc] 42)).alloc (.cells #[.int .i64 0, .int .i64 0, .int .i64 0, .int .i64 0, .int .i64 0, .int .i64 0, .int .i64 0, .int .i64 0, .slice none 0 0, .slice none 0 0, .slice none 0 0, .slice none 0 0] 47)) [.int .i64 c.kind, .int .i64 c.tag, .int .i64 c.stream, .int .i64 c.mid, .int .i64 c.part, .bool c.last, .bool c.ordered, .slice da c.data.length dc, .slice ssa c.spans.length ssc, .int .i64 c.room, .slice qa c.skips.length qc] := (Cells.new' (w := w.alloc (.cells #[.int .i64 x.cf.streams, .int .i64 x.cf.part, .int .i64 x.cf.packet, .int .i64 x.cf.paths, .int .i64 x.cf.turns, .int .i64 x.cf.waiting, .int .i64 x.cf.first, .int .i64 x.cum, .slice sa x.spans.length sc, .slice pa x.pieces.length pc, .slice ta x.turn.length tc, .slice la x.log.length lc] 47)) #[.int .i64 c.kind, .int .i64 c.tag, .int .i64 c.stream, .int .i64 c.mid, .int .i64 c.part, .bool c.last, .bool c.ordered, .slice da c.data.length dc, .slice ssa c.spans.length ssc, .int .i64 c.room, .slice qa c.skips.length qc] 42 (by simp)).alloc (by simp) _
  have CT : Cells (w.heap.size + 2) (((w.alloc (.cells #[.int .i64 x.cf.streams, .int .i64 x.cf.part, .int .i64 x.cf.packet, .int .i64 x.cf.paths, .int .i64 x.cf.turns, .int .i64 x.cf.waiting, .int .i64 x.cf.first, .int .i64 x.cum, .slice sa x.spans.length sc, .slice pa x.pieces.length pc, .slice ta x.turn.length tc, .slice la x.log.length lc] 47)).alloc (.cells #[.int .i64 c.kind, .int .i64 c.tag, .int .i64 c.stream, .int .i64 c.mid, .int .i64 c.part, .bool c.last, .bool c.ordered, .slice da c.data.length dc, .slice ssa c.spans.length ssc, .int .i64 c.room, .slice qa c.skips.length qc] 42)).alloc (.cells #[.int .i64 0, .int .i64 0, .int .i64 0, .int .i64 0, .int .i64 0, .int .i64 0, .int .i64 0, .int .i64 0, .slice none 0 0, .slice none 0 0, .slice none 0 0, .slice none 0 0] 47)) [.int .i64 0, .int .i64 0, .int .i64 0, .int .i64 0, .int .i64 0, .int .i64 0, .int .i64 0, .int .i64 0, .slice none 0 0, .slice none 0 0, .slice none 0 0, .slice none 0 0] := Cells.new' #[.int .i64 0, .int .i64 0, .int .i64 0, .int .i64 0, .int .i64 0, .int .i64 0, .int .i64 0, .int .i64 0, .slice none 0 0, .slice none 0 0, .slice none 0 0, .slice none 0 0] 47 (by simp)
  have HZ : w.heap.size + 3 ≤ (((w.alloc (.cells #[.int .i64 x.cf.streams, .int .i64 x.cf.part, .int .i64 x.cf.packet, .int .i64 x.cf.paths, .int .i64 x.cf.turns, .int .i64 x.cf.waiting, .int .i64 x.cf.first, .int .i64 x.cum, .slice sa x.spans.length sc, .slice pa x.pieces.length pc, .slice ta x.turn.length tc, .slice la x.log.length lc] 47)).alloc (.cells #[.int .i64 c.kind, .int .i64 c.tag, .int .i64 c.stream, .int .i64 c.mid, .int .i64 c.part, .bool c.last, .bool c.ordered, .slice da c.data.length dc, .slice ssa c.spans.length ssc, .int .i64 c.room, .slice qa c.skips.length qc] 42)).alloc (.cells #[.int .i64 0, .int .i64 0, .int .i64 0, .int .i64 0, .int .i64 0, .int .i64 0, .int .i64 0, .int .i64 0, .slice none 0 0, .slice none 0 0, .slice none 0 0, .slice none 0 0] 47)).heap.size := by simp
  go_enter Try.func30, Try.ntmps30
  have KV0 : Keep V w (((w.alloc (.cells #[.int .i64 x.cf.streams, .int .i64 x.cf.part, .int .i64 x.cf.packet, .int .i64 x.cf.paths, .int .i64 x.cf.turns, .int .i64 x.cf.waiting, .int .i64 x.cf.first, .int .i64 x.cum, .slice sa x.spans.length sc, .slice pa x.pieces.length pc, .slice ta x.turn.length tc, .slice la x.log.length lc] 47)).alloc (.cells #[.int .i64 c.kind, .int .i64 c.tag, .int .i64 c.stream, .int .i64 c.mid, .int .i64 c.part, .bool c.last, .bool c.ordered, .slice da c.data.length dc, .slice ssa c.spans.length ssc, .int .i64 c.room, .slice qa c.skips.length qc] 42)).alloc (.cells #[.int .i64 0, .int .i64 0, .int .i64 0, .int .i64 0, .int .i64 0, .int .i64 0, .int .i64 0, .int .i64 0, .slice none 0 0, .slice none 0 0, .slice none 0 0, .slice none 0 0] 47)) := toKeep B0 fun k hk => hv k hk
  have OW := rown_any x _ _ _ _ V (((w.alloc (.cells #[.int .i64 x.cf.streams, .int .i64 x.cf.part, .int .i64 x.cf.packet, .int .i64 x.cf.paths, .int .i64 x.cf.turns, .int .i64 x.cf.waiting, .int .i64 x.cf.first, .int .i64 x.cum, .slice sa x.spans.length sc, .slice pa x.pieces.length pc, .slice ta x.turn.length tc, .slice la x.log.length lc] 47)).alloc (.cells #[.int .i64 c.kind, .int .i64 c.tag, .int .i64 c.stream, .int .i64 c.mid, .int .i64 c.part, .bool c.last, .bool c.ordered, .slice da c.data.length dc, .slice ssa c.spans.length ssc, .int .i64 c.room, .slice qa c.skips.length qc] 42)).alloc (.cells #[.int .i64 0, .int .i64 0, .int .i64 0, .int .i64 0, .int .i64 0, .int .i64 0, .int .i64 0, .int .i64 0, .slice none 0 0, .slice none 0 0, .slice none 0 0, .slice none 0 0] 47)) (H.keep KV0) (fun k hk => by have := hv k hk; omega) hst.sz
  have RNG := CX.range
  go_wp2_with (refine wpList_ldR rfl (.tmp 2) rfl w.heap.size 0 rfl x _ _ _ _ (by with_reducible exact RNG) ?_)
  generalize (((w.alloc (.cells #[.int .i64 x.cf.streams, .int .i64 x.cf.part, .int .i64 x.cf.packet, .int .i64 x.cf.paths, .int .i64 x.cf.turns, .int .i64 x.cf.waiting, .int .i64 x.cf.first, .int .i64 x.cum, .slice sa x.spans.length sc, .slice pa x.pieces.length pc, .slice ta x.turn.length tc, .slice la x.log.length lc] 47)).alloc (.cells #[.int .i64 c.kind, .int .i64 c.tag, .int .i64 c.stream, .int .i64 c.mid, .int .i64 c.part, .bool c.last, .bool c.ordered, .slice da c.data.length dc, .slice ssa c.spans.length ssc, .int .i64 c.room, .slice qa c.skips.length qc] 42)).alloc (.cells #[.int .i64 0, .int .i64 0, .int .i64 0, .int .i64 0, .int .i64 0, .int .i64 0, .int .i64 0, .int .i64 0, .slice none 0 0, .slice none 0 0, .slice none 0 0, .slice none 0 0] 47)) = w0 at *
  refine OW.mono ?_
  rintro e w1 ⟨s1, p1, t1, l1, rfl, rb1, b1⟩
  have sz1 := b1.size
  have CX1 := CX.below b1 (by omega)
  have TH : w1.there w.heap.size 0 12 := CX1.there
  obtain ⟨sa1, sc1, pa1, pc1, ta1, tc1, la1, lc1, rfl, rfl, rfl, rfl⟩ := rb1.form
  have RM : RvM (EV V w.heap.size) w.heap.size (w1.setCells w.heap.size 0 [.int .i64 x.cf.streams, .int .i64 x.cf.part, .int .i64 x.cf.packet, .int .i64 x.cf.paths, .int .i64 x.cf.turns, .int .i64 x.cf.waiting, .int .i64 x.cf.first, .int .i64 x.cum, .slice sa1 x.spans.length sc1, .slice pa1 x.pieces.length pc1, .slice ta1 x.turn.length tc1, .slice la1 x.log.length lc1]) w.heap.size x _ _ _ _ := rb1.toM CX1 rfl (EV.nR hv (by omega)) (by omega) (by omega) (Nat.le_refl _) (fun k hk => EV.lt (by omega) (by omega) hk) (fun k hk => EV.nV hv (by omega) hk)
  have B1 : Below w.heap.size w w1 := B0.trans (b1.mono (by omega))
  have B2 : Below w.heap.size w (w1.setCells w.heap.size 0 [.int .i64 x.cf.streams, .int .i64 x.cf.part, .int .i64 x.cf.packet, .int .i64 x.cf.paths, .int .i64 x.cf.turns, .int .i64 x.cf.waiting, .int .i64 x.cf.first, .int .i64 x.cum, .slice sa1 x.spans.length sc1, .slice pa1 x.pieces.length pc1, .slice ta1 x.turn.length tc1, .slice la1 x.log.length lc1]) := Below.setCells (Nat.le_refl _) _ _ B1
  have CC2 : Cells (w.heap.size + 1) (w1.setCells w.heap.size 0 [.int .i64 x.cf.streams, .int .i64 x.cf.part, .int .i64 x.cf.packet, .int .i64 x.cf.paths, .int .i64 x.cf.turns, .int .i64 x.cf.waiting, .int .i64 x.cf.first, .int .i64 x.cum, .slice sa1 x.spans.length sc1, .slice pa1 x.pieces.length pc1, .slice ta1 x.turn.length tc1, .slice la1 x.log.length lc1]) [.int .i64 c.kind, .int .i64 c.tag, .int .i64 c.stream, .int .i64 c.mid, .int .i64 c.part, .bool c.last, .bool c.ordered, .slice da c.data.length dc, .slice ssa c.spans.length ssc, .int .i64 c.room, .slice qa c.skips.length qc] := (CC.below b1 (by omega)).pastAll _ (by omega)
  have CT2 : Cells (w.heap.size + 2) (w1.setCells w.heap.size 0 [.int .i64 x.cf.streams, .int .i64 x.cf.part, .int .i64 x.cf.packet, .int .i64 x.cf.paths, .int .i64 x.cf.turns, .int .i64 x.cf.waiting, .int .i64 x.cf.first, .int .i64 x.cum, .slice sa1 x.spans.length sc1, .slice pa1 x.pieces.length pc1, .slice ta1 x.turn.length tc1, .slice la1 x.log.length lc1]) [.int .i64 0, .int .i64 0, .int .i64 0, .int .i64 0, .int .i64 0, .int .i64 0, .int .i64 0, .int .i64 0, .slice none 0 0, .slice none 0 0, .slice none 0 0, .slice none 0 0] := (CT.below b1 (by omega)).pastAll _ (by omega)
  have sz2 : w.heap.size + 3 ≤ (w1.setCells w.heap.size 0 [.int .i64 x.cf.streams, .int .i64 x.cf.part, .int .i64 x.cf.packet, .int .i64 x.cf.paths, .int .i64 x.cf.turns, .int .i64 x.cf.waiting, .int .i64 x.cf.first, .int .i64 x.cum, .slice sa1 x.spans.length sc1, .slice pa1 x.pieces.length pc1, .slice ta1 x.turn.length tc1, .slice la1 x.log.length lc1]).heap.size := by rw [size_setCells]; omega
  clear OW RNG CX CX1 CC CT rb1
  dsimp only
  rename_i KK aKK
  refine aKK _ _ ?_
  clear aKK KK
  refine wpList_srN 47 12 Try.sizeRv rfl (.tmp 2) (.tmp 9) rfl w.heap.size 0 rfl [.int .i64 x.cf.streams, .int .i64 x.cf.part, .int .i64 x.cf.packet, .int .i64 x.cf.paths, .int .i64 x.cf.turns, .int .i64 x.cf.waiting, .int .i64 x.cf.first, .int .i64 x.cum, .slice sa1 x.spans.length sc1, .slice pa1 x.pieces.length pc1, .slice ta1 x.turn.length tc1, .slice la1 x.log.length lc1] rfl rfl rfl TH ?_
  clear TH
  generalize w1.setCells w.heap.size 0 [.int .i64 x.cf.streams, .int .i64 x.cf.part, .int .i64 x.cf.packet, .int .i64 x.cf.paths, .int .i64 x.cf.turns, .int .i64 x.cf.waiting, .int .i64 x.cf.first, .int .i64 x.cum, .slice sa1 x.spans.length sc1, .slice pa1 x.pieces.length pc1, .slice ta1 x.turn.length tc1, .slice la1 x.log.length lc1] = w2 at *
  have HRM : Hid _ := RM
  have HCC : Hid _ := CC2
  have HCT : Hid _ := CT2
  have c7 := RM.cells.cell 7 _ rfl
  have k1 := CC2.cell 1 _ rfl
  have k0 := CC2.cell 0 _ rfl
  have hc1 := hst.c1
  have hc2 := hst.c2
  have NE := fun wx => near_any x.cum c.tag wx (by omega) (by omega)
  clear RM CC2 CT2
  have tk1 : True := trivial
  go_upto_region 3 with (go_at_call 52; have t := tk1; refine (NE _).mono ?_; rintro e w' ⟨rfl, hw'⟩; subst w'; clear tk1 t)
  have HTK : Hid (goesM x c ↔ c.kind = 3 ∧ x.cum < nearM x.cum c.tag) := Iff.rfl
  obtain ⟨n, hn⟩ : ∃ n, nearM x.cum c.tag = n := ⟨_, rfl⟩
  have HN : Hid (nearM x.cum c.tag = n) := hn
  have HNB : Hid (n ≤ x.cum + 32768) := by
    show n ≤ _
    rw [← hn]
    unfold nearM
    simp only
    split <;> omega
  rw [hn] at HTK ⊢
  clear hn NE
  cases hk : (c.kind != 3) with
  | true =>
    have HNO : Hid (forwM x c = x) := by show _ = _; rw [forwM, if_neg (fun h => by have := (HTK.out.1 h).1; simp at hk; exact hk this)]
    have RZ := HRM.out
    have HCT9 : Cells (w.heap.size + 2) w2 [.int .i64 0, .int .i64 0, .int .i64 0, .int .i64 0, .int .i64 0, .int .i64 0, .int .i64 0, .int .i64 0, .slice none 0 0, .slice none 0 0, .slice none 0 0, .slice none 0 0] := HCT.out
    have RNG := RZ.cells.range
    have TH : w2.there (w.heap.size + 2) 0 12 := HCT9.there
    have CE := HCT9.setAll [.int .i64 x.cf.streams, .int .i64 x.cf.part, .int .i64 x.cf.packet, .int .i64 x.cf.paths, .int .i64 x.cf.turns, .int .i64 x.cf.waiting, .int .i64 x.cf.first, .int .i64 x.cum, .slice sa1 x.spans.length sc1, .slice pa1 x.pieces.length pc1, .slice ta1 x.turn.length tc1, .slice la1 x.log.length lc1] rfl
    have FIN : Hid (RvI (fun k => V k ∨ w.heap.size ≤ k) (w2.setCells (w.heap.size + 2) 0 [.int .i64 x.cf.streams, .int .i64 x.cf.part, .int .i64 x.cf.packet, .int .i64 x.cf.paths, .int .i64 x.cf.turns, .int .i64 x.cf.waiting, .int .i64 x.cf.first, .int .i64 x.cum, .slice sa1 x.spans.length sc1, .slice pa1 x.pieces.length pc1, .slice ta1 x.turn.length tc1, .slice la1 x.log.length lc1]) x (.slice sa1 x.spans.length sc1) (.slice pa1 x.pieces.length pc1) (.slice ta1 x.turn.length tc1) (.slice la1 x.log.length lc1)) := (RZ.rviE (Keep.setCells (fun hh => hh.2.1 (.inr (.inl rfl))) _ _ (Keep.refl _ _))).ev
    have BE : Below w.heap.size w (w2.setCells (w.heap.size + 2) 0 [.int .i64 x.cf.streams, .int .i64 x.cf.part, .int .i64 x.cf.packet, .int .i64 x.cf.paths, .int .i64 x.cf.turns, .int .i64 x.cf.waiting, .int .i64 x.cf.first, .int .i64 x.cum, .slice sa1 x.spans.length sc1, .slice pa1 x.pieces.length pc1, .slice ta1 x.turn.length tc1, .slice la1 x.log.length lc1]) := Below.setCells (by omega) _ _ (B2)
    have e0 := CE.cell 0 _ rfl
    have e1 := CE.cell 1 _ rfl
    have e2 := CE.cell 2 _ rfl
    have e3 := CE.cell 3 _ rfl
    have e4 := CE.cell 4 _ rfl
    have e5 := CE.cell 5 _ rfl
    have e6 := CE.cell 6 _ rfl
    have e7 := CE.cell 7 _ rfl
    have e8 := CE.cell 8 _ rfl
    have e9 := CE.cell 9 _ rfl
    have e10 := CE.cell 10 _ rfl
    have e11 := CE.cell 11 _ rfl
    clear CE HCT9 RZ
    go_wp2_with (first
      | refine wpList_ldR rfl (.tmp 2) rfl w.heap.size 0 rfl x _ _ _ _ (by with_reducible exact RNG) ?_
      | refine wpList_srN 47 12 Try.sizeRv rfl (.tmp 4) (.tmp 24) rfl (w.heap.size + 2) 0 rfl [.int .i64 x.cf.streams, .int .i64 x.cf.part, .int .i64 x.cf.packet, .int .i64 x.cf.paths, .int .i64 x.cf.turns, .int .i64 x.cf.waiting, .int .i64 x.cf.first, .int .i64 x.cum, .slice sa1 x.spans.length sc1, .slice pa1 x.pieces.length pc1, .slice ta1 x.turn.length tc1, .slice la1 x.log.length lc1] rfl rfl rfl (by with_reducible exact TH) ?_)
    generalize w2.setCells (w.heap.size + 2) 0 [.int .i64 x.cf.streams, .int .i64 x.cf.part, .int .i64 x.cf.packet, .int .i64 x.cf.paths, .int .i64 x.cf.turns, .int .i64 x.cf.waiting, .int .i64 x.cf.first, .int .i64 x.cum, .slice sa1 x.spans.length sc1, .slice pa1 x.pieces.length pc1, .slice ta1 x.turn.length tc1, .slice la1 x.log.length lc1] = w9 at *
    refine bodyPost_ret (v := .agg #[.int .i64 x.cf.streams, .int .i64 x.cf.part, .int .i64 x.cf.packet, .int .i64 x.cf.paths, .int .i64 x.cf.turns, .int .i64 x.cf.waiting, .int .i64 x.cf.first, .int .i64 x.cum, .slice sa1 x.spans.length sc1, .slice pa1 x.pieces.length pc1, .slice ta1 x.turn.length tc1, .slice la1 x.log.length lc1]) (by simp [results, Try.results30, go_sem, e0, e1, e2, e3, e4, e5, e6, e7, e8, e9, e10, e11]) rfl ?_
    rw [HNO.out]
    exact ⟨_, _, _, _, rfl, FIN.out, BE⟩
  | false =>
    by_cases hle : n ≤ x.cum
    · have hd : decide (n ≤ x.cum) = true := decide_eq_true hle
      have HNO : Hid (forwM x c = x) := by show _ = _; rw [forwM, if_neg (fun h => by have := (HTK.out.1 h).2; omega)]
      have RZ := HRM.out
      have HCT9 : Cells (w.heap.size + 2) w2 [.int .i64 0, .int .i64 0, .int .i64 0, .int .i64 0, .int .i64 0, .int .i64 0, .int .i64 0, .int .i64 0, .slice none 0 0, .slice none 0 0, .slice none 0 0, .slice none 0 0] := HCT.out
      have RNG := RZ.cells.range
      have TH : w2.there (w.heap.size + 2) 0 12 := HCT9.there
      have CE := HCT9.setAll [.int .i64 x.cf.streams, .int .i64 x.cf.part, .int .i64 x.cf.packet, .int .i64 x.cf.paths, .int .i64 x.cf.turns, .int .i64 x.cf.waiting, .int .i64 x.cf.first, .int .i64 x.cum, .slice sa1 x.spans.length sc1, .slice pa1 x.pieces.length pc1, .slice ta1 x.turn.length tc1, .slice la1 x.log.length lc1] rfl
      have FIN : Hid (RvI (fun k => V k ∨ w.heap.size ≤ k) (w2.setCells (w.heap.size + 2) 0 [.int .i64 x.cf.streams, .int .i64 x.cf.part, .int .i64 x.cf.packet, .int .i64 x.cf.paths, .int .i64 x.cf.turns, .int .i64 x.cf.waiting, .int .i64 x.cf.first, .int .i64 x.cum, .slice sa1 x.spans.length sc1, .slice pa1 x.pieces.length pc1, .slice ta1 x.turn.length tc1, .slice la1 x.log.length lc1]) x (.slice sa1 x.spans.length sc1) (.slice pa1 x.pieces.length pc1) (.slice ta1 x.turn.length tc1) (.slice la1 x.log.length lc1)) := (RZ.rviE (Keep.setCells (fun hh => hh.2.1 (.inr (.inl rfl))) _ _ (Keep.refl _ _))).ev
      have BE : Below w.heap.size w (w2.setCells (w.heap.size + 2) 0 [.int .i64 x.cf.streams, .int .i64 x.cf.part, .int .i64 x.cf.packet, .int .i64 x.cf.paths, .int .i64 x.cf.turns, .int .i64 x.cf.waiting, .int .i64 x.cf.first, .int .i64 x.cum, .slice sa1 x.spans.length sc1, .slice pa1 x.pieces.length pc1, .slice ta1 x.turn.length tc1, .slice la1 x.log.length lc1]) := Below.setCells (by omega) _ _ (B2)
      have e0 := CE.cell 0 _ rfl
      have e1 := CE.cell 1 _ rfl
      have e2 := CE.cell 2 _ rfl
      have e3 := CE.cell 3 _ rfl
      have e4 := CE.cell 4 _ rfl
      have e5 := CE.cell 5 _ rfl
      have e6 := CE.cell 6 _ rfl
      have e7 := CE.cell 7 _ rfl
      have e8 := CE.cell 8 _ rfl
      have e9 := CE.cell 9 _ rfl
      have e10 := CE.cell 10 _ rfl
      have e11 := CE.cell 11 _ rfl
      clear CE HCT9 RZ
      go_wp2_with (first
        | refine wpList_ldR rfl (.tmp 2) rfl w.heap.size 0 rfl x _ _ _ _ (by with_reducible exact RNG) ?_
        | refine wpList_srN 47 12 Try.sizeRv rfl (.tmp 4) (.tmp 24) rfl (w.heap.size + 2) 0 rfl [.int .i64 x.cf.streams, .int .i64 x.cf.part, .int .i64 x.cf.packet, .int .i64 x.cf.paths, .int .i64 x.cf.turns, .int .i64 x.cf.waiting, .int .i64 x.cf.first, .int .i64 x.cum, .slice sa1 x.spans.length sc1, .slice pa1 x.pieces.length pc1, .slice ta1 x.turn.length tc1, .slice la1 x.log.length lc1] rfl rfl rfl (by with_reducible exact TH) ?_)
      generalize w2.setCells (w.heap.size + 2) 0 [.int .i64 x.cf.streams, .int .i64 x.cf.part, .int .i64 x.cf.packet, .int .i64 x.cf.paths, .int .i64 x.cf.turns, .int .i64 x.cf.waiting, .int .i64 x.cf.first, .int .i64 x.cum, .slice sa1 x.spans.length sc1, .slice pa1 x.pieces.length pc1, .slice ta1 x.turn.length tc1, .slice la1 x.log.length lc1] = w9 at *
      refine bodyPost_ret (v := .agg #[.int .i64 x.cf.streams, .int .i64 x.cf.part, .int .i64 x.cf.packet, .int .i64 x.cf.paths, .int .i64 x.cf.turns, .int .i64 x.cf.waiting, .int .i64 x.cf.first, .int .i64 x.cum, .slice sa1 x.spans.length sc1, .slice pa1 x.pieces.length pc1, .slice ta1 x.turn.length tc1, .slice la1 x.log.length lc1]) (by simp [results, Try.results30, go_sem, e0, e1, e2, e3, e4, e5, e6, e7, e8, e9, e10, e11]) rfl ?_
      rw [HNO.out]
      exact ⟨_, _, _, _, rfl, FIN.out, BE⟩
    · have hd : decide (n ≤ x.cum) = false := decide_eq_false hle
      have HYES : Hid (forwM x c = c.skips.foldl skipM (overM x c)) := by show _ = _; rw [forwM, if_pos (HTK.out.2 ⟨by simpa using hk, by omega⟩)]
      have hnb := HNB.out
      have hsl := hst.sz.sp
      have UP := up_any _ x.spans n w2 HRM.out.sp ⟨by omega, by omega⟩ (by omega)
      have c8 := HRM.out.cells.cell 8 _ rfl
      have HQ' : Hid _ := hq'
      clear hd' hs' hq' H
      go_wp2_with fail
      refine UP.mono ?_
      rintro e w3 ⟨v3, rfl, hs3, b3, hi3⟩
      have HOV : Hid (overM x c = { x with cum := (upM x.spans n).1, spans := (upM x.spans n).2 }) := by show _ = _; unfold overM; rw [HN.out]
      obtain ⟨a3, c3, e3⟩ := hs3.ex
      subst e3
      have RM3 : Hid (RvM (EV V w.heap.size) w.heap.size ((w3.setCell ⟨w.heap.size, 7, none⟩ (.int .i64 (upM x.spans n).1)).setCell ⟨w.heap.size, 8, none⟩ (.slice a3 (upM x.spans n).2.length c3)) w.heap.size (overM x c) (.slice a3 (upM x.spans n).2.length c3) (.slice pa1 x.pieces.length pc1) (.slice ta1 x.turn.length tc1) (.slice la1 x.log.length lc1)) := by rw [HOV.out]; exact HRM.out.went b3 hs3 hi3
      have CX3 := (HRM.out.below b3).cells
      have v7 := CX3.cell 7 _ rfl
      have v8 := CX3.cell 8 _ rfl
      have f7 := CX3.fz 7
      have f8 := CX3.fz 8
      have hsz3 := b3.size
      have KP3 : Keep (fun k => k < w2.heap.size ∧ k ≠ w.heap.size) w2 ((w3.setCell ⟨w.heap.size, 7, none⟩ (.int .i64 (upM x.spans n).1)).setCell ⟨w.heap.size, 8, none⟩ (.slice a3 (upM x.spans n).2.length c3)) := Keep.setCell (Keep.setCell (toKeep b3 fun k hk => hk.1) (p := ⟨w.heap.size, 7, none⟩) (fun h => h.2 rfl) _) (p := ⟨w.heap.size, 8, none⟩) (fun h => h.2 rfl) _
      have HCT3 : Hid (Cells (w.heap.size + 2) ((w3.setCell ⟨w.heap.size, 7, none⟩ (.int .i64 (upM x.spans n).1)).setCell ⟨w.heap.size, 8, none⟩ (.slice a3 (upM x.spans n).2.length c3)) [.int .i64 0, .int .i64 0, .int .i64 0, .int .i64 0, .int .i64 0, .int .i64 0, .int .i64 0, .int .i64 0, .slice none 0 0, .slice none 0 0, .slice none 0 0, .slice none 0 0]) := HCT.out.keep KP3 ⟨by omega, by omega⟩
      have HCC3 : Hid (Cells (w.heap.size + 1) ((w3.setCell ⟨w.heap.size, 7, none⟩ (.int .i64 (upM x.spans n).1)).setCell ⟨w.heap.size, 8, none⟩ (.slice a3 (upM x.spans n).2.length c3)) [.int .i64 c.kind, .int .i64 c.tag, .int .i64 c.stream, .int .i64 c.mid, .int .i64 c.part, .bool c.last, .bool c.ordered, .slice da c.data.length dc, .slice ssa c.spans.length ssc, .int .i64 c.room, .slice qa c.skips.length qc]) := HCC.out.keep KP3 ⟨by omega, by omega⟩
      have BW3 : Below w.heap.size w ((w3.setCell ⟨w.heap.size, 7, none⟩ (.int .i64 (upM x.spans n).1)).setCell ⟨w.heap.size, 8, none⟩ (.slice a3 (upM x.spans n).2.length c3)) := B2.trans (KP3.below fun k hk => ⟨by omega, by omega⟩)
      have szw3 : w.heap.size + 3 ≤ ((w3.setCell ⟨w.heap.size, 7, none⟩ (.int .i64 (upM x.spans n).1)).setCell ⟨w.heap.size, 8, none⟩ (.slice a3 (upM x.spans n).2.length c3)).heap.size := by simp; omega
      have q10 := (HCC.out.below b3 (by omega)).cell 10 _ rfl
      clear UP c8 CX3 hs3 hi3 c7 k0 k1 KP3
      go_wp2_with fail
      generalize hw4 : ((w3.setCell ⟨w.heap.size, 7, none⟩ (.int .i64 (upM x.spans n).1)).setCell ⟨w.heap.size, 8, none⟩ (.slice a3 (upM x.spans n).2.length c3)) = w4 at *
      clear hw4
      have HIN : Hid (RvX (EV V w.heap.size) w.heap.size w4 w.heap.size (overM x c)) := ⟨_, _, _, _, RM3.out⟩
      clear RM3 HRM HCT HCC
      go_loopw [37] (fun i wr => ∃ k : Nat, k ≤ c.skips.length ∧ i = .int .i64 k ∧ Hid (RvX (EV V w.heap.size) w.heap.size wr w.heap.size ((c.skips.take k).foldl skipM (overM x c))) ∧ Hid (Keep (EV V w.heap.size) w4 wr) ∧ Hid (Below w.heap.size w wr) ∧ w4.heap.size ≤ wr.heap.size) (fun i _ => c.skips.length - (intOf i).toNat)
      case atStart => exact ⟨0, Nat.zero_le _, rfl, HIN, Keep.refl _ _, BW3, Nat.le_refl _⟩
      case round =>
        obtain ⟨k, hk', rfl, HRX, HKr, HBr, hszr⟩ := hrel
        have hskl : c.skips.length ≤ 140737488351232 := by have := hf.2.2; omega
        by_cases hlt : k < c.skips.length
        · obtain ⟨b2, o2, hb2, hix2, y0, y1, y2⟩ := (Kl.below HQ'.out HBr.out (Nat.le_refl _)).at k hlt
          have HFO : Hid ((c.skips.take (k + 1)).foldl skipM (overM x c) = skipM ((c.skips.take k).foldl skipM (overM x c)) c.skips[k]) := by show _ = _; rw [List.take_succ_eq_append_getElem hlt, List.foldl_append]; rfl
          have HOK : Hid (OkR (K + 32769 * k) ((c.skips.take k).foldl skipM (overM x c))) := skips_ok c.skips _ hok k
          have hKk : K + 32769 * (k : Int) + 32769 ≤ 1099511627776 := by omega
          generalize c.skips[k] = sk at *
          generalize (c.skips.take k).foldl skipM (overM x c) = y at *
          obtain ⟨s0, p0, t0, l0, hy⟩ := HRX.out
          obtain ⟨sy, cy, py, qy, ty, uy, ly, vy, rfl, rfl, rfl, rfl⟩ := hy.form
          have HY : Hid _ := hy
          have BX := box_below wr (.cells #[.int .i64 sk.stream, .int .i64 sk.mid, .bool sk.ordered] 98)
          have CB := Cells.new wr #[.int .i64 sk.stream, .int .i64 sk.mid, .bool sk.ordered] 98
          have szX : wr.heap.size < (wr.alloc (.cells #[.int .i64 sk.stream, .int .i64 sk.mid, .bool sk.ordered] 98)).heap.size := by simp
          have RNG := (hy.below BX).cells.range
          have HS := hasStream_any y sy y.spans.length cy py y.pieces.length qy ty uy ly y.log.length vy sk.stream (wr.alloc (.cells #[.int .i64 sk.stream, .int .i64 sk.mid, .bool sk.ordered] 98))
          have HSK : Hid (skipM y sk = if hasM y sk.stream then (if sk.ordered = true then turnsM (passM y sk.stream (nearM (turnAt y sk.stream) sk.mid)) sk.stream else dropM y ⟨sk.stream, sk.mid, false⟩) else y) := rfl
          clear hy q10
          go_wp2_with (refine wpList_ldR rfl (.tmp 2) rfl w.heap.size 0 rfl y _ _ _ _ (by with_reducible exact RNG) ?_)
          generalize wr.alloc (.cells #[.int .i64 sk.stream, .int .i64 sk.mid, .bool sk.ordered] 98) = wx at *
          refine HS.mono ?_
          rintro e w5 ⟨rfl, b5⟩
          have sz5 := b5.size
          have B5 : Below wr.heap.size wr w5 := BX.trans (b5.mono (by omega))
          have CB5 := CB.below b5 szX
          clear HS RNG CB BX
          have HB5 : Hid (Below w.heap.size w w5) := HBr.out.trans (B5.mono (by have := HBr.out.size; omega))
          have HK5 : Hid (Keep (EV V w.heap.size) w4 w5) := HKr.out.trans (toKeep B5 fun j hj => (HY.out.eo j hj).1)
          cases hh : decide (hasM y sk.stream) with
          | false =>
            have HE5 : Hid ((c.skips.take (k + 1)).foldl skipM (overM x c) = y) := by show _ = _; rw [HFO.out, HSK.out, if_neg (of_decide_eq_false hh)]
            have HR5 : Hid (RvX (EV V w.heap.size) w.heap.size w5 w.heap.size y) := ⟨_, _, _, _, HY.out.below B5⟩
            go_wp2_with fail
            go_roundw
            case rel => exact ⟨k + 1, by omega, by go_num, by rw [HE5.out]; exact HR5, HK5, HB5, by omega⟩
            case measure => simp [intOf]; omega
          | true =>
            have hhm : hasM y sk.stream := of_decide_eq_true hh
            have m0 := CB5.cell 0 _ rfl
            have m1 := CB5.cell 1 _ rfl
            have m2 := CB5.cell 2 _ rfl
            have hr5 := HY.out.more B5 (Nat.le_refl _) (by omega : wr.heap.size < w5.heap.size)
            cases ho : sk.ordered with
            | false =>
              have DR : Calls Try.prog 68 #[.pointer (some ⟨w.heap.size, 0, none⟩), .agg #[.int .i64 sk.stream, .int .i64 sk.mid, .bool false]] w5 _ := drop_any (EV V w.heap.size) w.heap.size w.heap.size y ⟨sk.stream, sk.mid, false⟩ w5 ⟨_, _, _, _, HY.out.below B5⟩
              have HE5 : Hid ((c.skips.take (k + 1)).foldl skipM (overM x c) = dropM y ⟨sk.stream, sk.mid, false⟩) := by show _ = _; rw [HFO.out, HSK.out, if_pos hhm, if_neg (by simp [ho])]
              rw [ho] at m2
              clear CB5 hr5
              go_wp2_with fail
              refine DR.mono ?_
              rintro e w6 ⟨⟨r6, rfl⟩, RX6, k6, b6⟩
              have HR6 : Hid _ := RX6
              have HK6 : Hid (Keep (EV V w.heap.size) w4 w6) := HK5.out.trans k6
              have HB6 : Hid (Below w.heap.size w w6) := HB5.out.trans b6
              have sz6 := b6.size
              clear DR RX6 m0 m1 m2
              go_wp2_with fail
              go_roundw
              case rel => exact ⟨k + 1, by omega, by go_num, by rw [HE5.out]; exact HR6, HK6, HB6, by omega⟩
              case measure => simp [intOf]; omega
            | true =>
              have HE5 : Hid ((c.skips.take (k + 1)).foldl skipM (overM x c) = turnsM (passM y sk.stream (nearM (turnAt y sk.stream) sk.mid)) sk.stream) := by show _ = _; rw [HFO.out, HSK.out, if_pos hhm, if_pos ho]
              have hsi : ((sk.stream.toNat : Nat) : Int) = sk.stream := by have := hhm.1; omega
              have hsl2 : sk.stream.toNat < y.turn.length := by have := hhm.1; have := hhm.2; omega
              have hat := HOK.out.at hhm
              have hnr : nearM (turnAt y sk.stream) sk.mid ≤ turnAt y sk.stream + 32768 := by
                unfold nearM
                simp only
                split <;> omega
              have BD5 : Below w5.heap.size w5 w5.drew := below_drew' (Below.refl _ _)
              obtain ⟨g, cg, eg, hixg, ctg, -⟩ := hr5.turnAt hsl2
              simp only [Value.slice.injEq] at eg
              obtain ⟨rfl, -, rfl⟩ := eg
              rw [hsi] at hixg ctg
              have NE5 : Calls Try.prog 52 #[.int .i64 (turnAt y sk.stream), .int .i64 sk.mid] w5.drew fun e w' => ∃ v, e = .returned v ∧ v = .int .i64 (nearM (turnAt y sk.stream) sk.mid) ∧ w' = w5.drew := (near_any (turnAt y sk.stream) sk.mid w5.drew (by omega) (by omega)).mono fun e w' ⟨h1, h2⟩ => ⟨_, h1, rfl, h2⟩
              have PA : Calls Try.prog 67 #[.pointer (some ⟨w.heap.size, 0, none⟩), .int .i64 sk.stream, .int .i64 (nearM (turnAt y sk.stream) sk.mid)] w5.drew fun e w' => ∃ v, e = .returned v ∧ RvX (fun k => EV V w.heap.size k ∨ k = wr.heap.size) w.heap.size w' w.heap.size (passM y sk.stream (nearM (turnAt y sk.stream) sk.mid)) ∧ Keep (fun k => EV V w.heap.size k ∨ k = wr.heap.size) w5 w' ∧ Below w.heap.size w5 w' := by
                have := pass_any (fun k => EV V w.heap.size k ∨ k = wr.heap.size) w.heap.size w.heap.size (K + 32769 * k) y sk.stream.toNat (nearM (turnAt y sk.stream) sk.mid) w5.drew ⟨_, _, _, _, hr5.below BD5⟩ HOK.out hsl2 (by omega) (by rw [hsi]; exact hnr)
                rw [hsi] at this
                exact this.mono fun e w' ⟨⟨r, h1⟩, h2, h3, h4⟩ => ⟨r, h1, h2, (toKeep BD5 fun j hj => (hr5.eo j hj).1).trans h3, (BD5.mono (by omega)).trans h4⟩
              have i10 := hr5.cells.cell 10 _ rfl
              have HPO : Hid (OkR (K + 32769 * k + 32769) (passM y sk.stream (nearM (turnAt y sk.stream) sk.mid))) := HOK.out.pass hhm hnr
              have HPL : Hid ((passM y sk.stream (nearM (turnAt y sk.stream) sk.mid)).turn.length = y.turn.length) := (pass_keep y _ _).1
              have HCB5 : Hid _ := CB5
              rw [ho] at m2
              clear hr5 CB5
              generalize nearM (turnAt y sk.stream) sk.mid = lst at *
              generalize turnAt y sk.stream = tn at *
              go_upto_region 11 with fail
              go_cut [58] from 48 to 59 (fun s58 wy => s58 = .int .i64 lst ∧ Hid (RvX (fun k => EV V w.heap.size k ∨ k = wr.heap.size) w.heap.size wy w.heap.size (passM y sk.stream lst)) ∧ Hid (Keep (fun k => EV V w.heap.size k ∨ k = wr.heap.size) w5 wy) ∧ Hid (Below w.heap.size w5 wy))
              case first =>
                go_region_law (first
                  | (refine step_call2 rfl 52 (.tmp 55) (.tmp 57) _ rfl (.int .i64 tn) (.int .i64 sk.mid) rfl rfl rfl enters_near _ NE5 ?_; rintro _ w6 ⟨rfl, hw6⟩; subst w6)
                  | (refine step_call3 rfl 67 (.tmp 2) (.tmp 49) (.tmp 58) _ rfl (.pointer (some ⟨w.heap.size, 0, none⟩)) (.int .i64 sk.stream) (.int .i64 lst) rfl rfl rfl rfl enters_pass _ PA ?_; rintro v7 w7 ⟨h7, k7, b7⟩; have HR7 : Hid _ := h7; have HK7 : Hid _ := k7; have HB7 : Hid _ := b7; clear h7 k7 b7))
                all_goals
                  go_wp2_with fail
                  go_meet
                  exact ⟨rfl, HR7, HK7, HB7⟩
              case rest =>
                obtain ⟨rfl, HR7, HK7, HB7⟩ := hcut
                obtain ⟨w7, rfl⟩ : ∃ w7, w7 = wc := ⟨wc, rfl⟩
                clear NE5 PA m0 m1 m2 i10 ctg hixg
                have CB7 := HCB5.out.keep HK7.out (.inr rfl)
                have m0 := CB7.cell 0 _ rfl
                have TT := takeTurns_any (fun k => EV V w.heap.size k ∨ k = wr.heap.size) w.heap.size w.heap.size (K + 32769 * k + 32769) (passM y sk.stream lst) sk.stream.toNat w7 HR7.out HPO.out (by rw [HPL.out]; exact hsl2) (by omega)
                rw [hsi] at TT
                have sz7 := HB7.out.size
                clear CB7
                go_wp2_with fail
                refine TT.mono ?_
                rintro e w8 ⟨⟨r8, rfl⟩, RX8, k8, b8⟩
                have HR8 : Hid (RvX (EV V w.heap.size) w.heap.size w8 w.heap.size (turnsM (passM y sk.stream lst) sk.stream)) := by obtain ⟨s9, p9, t9, l9, h9⟩ := RX8; exact ⟨_, _, _, _, h9.less fun j hj => .inl hj⟩
                have HK8 : Hid (Keep (EV V w.heap.size) w4 w8) := HK5.out.trans ((HK7.out.trans k8).mono fun j hj => .inl hj)
                have HB8 : Hid (Below w.heap.size w w8) := HB5.out.trans (HB7.out.trans b8)
                have sz8 := b8.size
                clear TT RX8 m0
                go_wp2_with fail
                go_roundw
                case rel => exact ⟨k + 1, by omega, by go_num, by rw [HE5.out]; exact HR8, HK8, HB8, by omega⟩
                case measure => simp [intOf]; omega
        · have hke : k = c.skips.length := by omega
          subst hke
          rw [List.take_length] at HRX
          obtain ⟨s0, p0, t0, l0, RZ⟩ := HRX.out
          have hbz := HBr.out
          clear q10
          generalize c.skips.foldl skipM (overM x c) = y at *
          obtain ⟨sz, cz, pz, qz, tz, uz, lz, vz, rfl, rfl, rfl, rfl⟩ := RZ.form
          have HCT9 : Cells (w.heap.size + 2) wr [.int .i64 0, .int .i64 0, .int .i64 0, .int .i64 0, .int .i64 0, .int .i64 0, .int .i64 0, .int .i64 0, .slice none 0 0, .slice none 0 0, .slice none 0 0, .slice none 0 0] := HCT3.out.keep HKr.out (.inr (.inl rfl))
          have RNG := RZ.cells.range
          have TH : wr.there (w.heap.size + 2) 0 12 := HCT9.there
          have CE := HCT9.setAll [.int .i64 y.cf.streams, .int .i64 y.cf.part, .int .i64 y.cf.packet, .int .i64 y.cf.paths, .int .i64 y.cf.turns, .int .i64 y.cf.waiting, .int .i64 y.cf.first, .int .i64 y.cum, .slice sz y.spans.length cz, .slice pz y.pieces.length qz, .slice tz y.turn.length uz, .slice lz y.log.length vz] rfl
          have FIN : Hid (RvI (fun k => V k ∨ w.heap.size ≤ k) (wr.setCells (w.heap.size + 2) 0 [.int .i64 y.cf.streams, .int .i64 y.cf.part, .int .i64 y.cf.packet, .int .i64 y.cf.paths, .int .i64 y.cf.turns, .int .i64 y.cf.waiting, .int .i64 y.cf.first, .int .i64 y.cum, .slice sz y.spans.length cz, .slice pz y.pieces.length qz, .slice tz y.turn.length uz, .slice lz y.log.length vz]) y (.slice sz y.spans.length cz) (.slice pz y.pieces.length qz) (.slice tz y.turn.length uz) (.slice lz y.log.length vz)) := (RZ.rviE (Keep.setCells (fun hh => hh.2.1 (.inr (.inl rfl))) _ _ (Keep.refl _ _))).ev
          have BE : Below w.heap.size w (wr.setCells (w.heap.size + 2) 0 [.int .i64 y.cf.streams, .int .i64 y.cf.part, .int .i64 y.cf.packet, .int .i64 y.cf.paths, .int .i64 y.cf.turns, .int .i64 y.cf.waiting, .int .i64 y.cf.first, .int .i64 y.cum, .slice sz y.spans.length cz, .slice pz y.pieces.length qz, .slice tz y.turn.length uz, .slice lz y.log.length vz]) := Below.setCells (by omega) _ _ (hbz)
          have e0 := CE.cell 0 _ rfl
          have e1 := CE.cell 1 _ rfl
          have e2 := CE.cell 2 _ rfl
          have e3 := CE.cell 3 _ rfl
          have e4 := CE.cell 4 _ rfl
          have e5 := CE.cell 5 _ rfl
          have e6 := CE.cell 6 _ rfl
          have e7 := CE.cell 7 _ rfl
          have e8 := CE.cell 8 _ rfl
          have e9 := CE.cell 9 _ rfl
          have e10 := CE.cell 10 _ rfl
          have e11 := CE.cell 11 _ rfl
          clear CE HCT9 RZ
          go_wp2_with (first
            | refine wpList_ldR rfl (.tmp 2) rfl w.heap.size 0 rfl y _ _ _ _ (by with_reducible exact RNG) ?_
            | refine wpList_srN 47 12 Try.sizeRv rfl (.tmp 4) (.tmp 70) rfl (w.heap.size + 2) 0 rfl [.int .i64 y.cf.streams, .int .i64 y.cf.part, .int .i64 y.cf.packet, .int .i64 y.cf.paths, .int .i64 y.cf.turns, .int .i64 y.cf.waiting, .int .i64 y.cf.first, .int .i64 y.cum, .slice sz y.spans.length cz, .slice pz y.pieces.length qz, .slice tz y.turn.length uz, .slice lz y.log.length vz] rfl rfl rfl (by with_reducible exact TH) ?_)
          generalize wr.setCells (w.heap.size + 2) 0 [.int .i64 y.cf.streams, .int .i64 y.cf.part, .int .i64 y.cf.packet, .int .i64 y.cf.paths, .int .i64 y.cf.turns, .int .i64 y.cf.waiting, .int .i64 y.cf.first, .int .i64 y.cum, .slice sz y.spans.length cz, .slice pz y.pieces.length qz, .slice tz y.turn.length uz, .slice lz y.log.length vz] = w9 at *
          refine bodyPost_ret (v := .agg #[.int .i64 y.cf.streams, .int .i64 y.cf.part, .int .i64 y.cf.packet, .int .i64 y.cf.paths, .int .i64 y.cf.turns, .int .i64 y.cf.waiting, .int .i64 y.cf.first, .int .i64 y.cum, .slice sz y.spans.length cz, .slice pz y.pieces.length qz, .slice tz y.turn.length uz, .slice lz y.log.length vz]) (by simp [results, Try.results30, go_sem, e0, e1, e2, e3, e4, e5, e6, e7, e8, e9, e10, e11]) rfl ?_
          rw [HYES.out]
          exact ⟨_, _, _, _, rfl, FIN.out, BE⟩

theorem rforw_any (K : Int) (x : Rc) (c : Ck) (s p t l d sp q : Value) (w : World) (h : RvS w.heap.size w x s p t l) (hd : By w.heap.size w d c.data) (hs : Sl w.heap.size w sp c.spans) (hq : Kl w.heap.size w q c.skips) (hf : CkFit c) (hst : StR x) (hok : OkR K (overM x c)) (hK : K + 32769 * (c.skips.length + 1) ≤ 1099511627776) :
    Calls Try.prog 30 #[.agg #[.int .i64 x.cf.streams, .int .i64 x.cf.part, .int .i64 x.cf.packet, .int .i64 x.cf.paths, .int .i64 x.cf.turns, .int .i64 x.cf.waiting, .int .i64 x.cf.first, .int .i64 x.cum, s, p, t, l], .agg #[.int .i64 c.kind, .int .i64 c.tag, .int .i64 c.stream, .int .i64 c.mid, .int .i64 c.part, .bool c.last, .bool c.ordered, d, sp, .int .i64 c.room, q]] w fun e w' => ∃ s' p' t' l', e = .returned (.agg #[.int .i64 (forwM x c).cf.streams, .int .i64 (forwM x c).cf.part, .int .i64 (forwM x c).cf.packet, .int .i64 (forwM x c).cf.paths, .int .i64 (forwM x c).cf.turns, .int .i64 (forwM x c).cf.waiting, .int .i64 (forwM x c).cf.first, .int .i64 (forwM x c).cum, s', p', t', l']) ∧ RvS w'.heap.size w' (forwM x c) s' p' t' l' ∧ Below w.heap.size w w' :=
  (rforw_in _ K x c s p t l d sp q w (RvI.of h (Nat.le_refl _)) (fun _ hk => hk) hd hs hq hf hst hok hK).mono fun _ _ ⟨s', p', t', l', he, h1, h2⟩ => ⟨s', p', t', l', he, h1.r, h2⟩
end Go.Proofs.Ytnddejdndipddad
