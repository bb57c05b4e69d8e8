/- The contract of receive.Data. -/
import Derived.Test.YtnddejdndipddadRcO
import Derived.Test.YtnddejdndipddadRcG
set_option maxRecDepth 20000
namespace Go.Proofs.Ytnddejdndipddad
open Go.RowKit

theorem three_below (w : World) (o o' o'' : Obj) : Below w.heap.size w (((w.alloc o).alloc o').alloc o'') := (two_below w o o').alloc (by simp; omega) _
theorem enters_add (args : Array Value) (wx : World) : (callFunc 57 args).run Try.prog wx = .ok (.enter 57 args) wx := enters_body Try.func57 (by kernel_rfl) rfl args wx
theorem enters_up (args : Array Value) (wx : World) : (callFunc 56 args).run Try.prog wx = .ok (.enter 56 args) wx := enters_body Try.func56 (by kernel_rfl) rfl args wx
/-- What a step of a receiver asks of it. -/
structure StR (x : Rc) : Prop where
  sz : SzR x
  c1 : -1 ≤ x.cum
  c2 : x.cum ≤ 549755813888

set_option maxHeartbeats 8000000 in
theorem rdata_in (V : Nat → Prop) (K : Int) (x : Rc) (c : Ck) (s p t l d sp q : Value) (w : World) (h : RvI V w x s p t l) (hv : ∀ k, V k → k < w.heap.size) (hd : By w.heap.size w d c.data) (hs : Sl w.heap.size w sp c.spans) (hq : Kl w.heap.size w q c.skips) (hf : CkFit c) (hdl : c.data.length ≤ 1048576) (hst : StR x) (hok0 : takesM x c → OkR K (keptM x c)) (hK : K ≤ 1099511627776) :
    Calls Try.prog 28 #[.agg #[.int .i64 x.cf.streams, .int .i64 x.cf.part, .int .i64 x.cf.packet, .int .i64 x.cf.paths, .int .i64 x.cf.turns, .int .i64 x.cf.waiting, .int .i64 x.cf.first, .int .i64 x.cum, s, p, t, l], .agg #[.int .i64 c.kind, .int .i64 c.tag, .int .i64 c.stream, .int .i64 c.mid, .int .i64 c.part, .bool c.last, .bool c.ordered, d, sp, .int .i64 c.room, q]] w fun e w' => ∃ s' p' t' l', e = .returned (.agg #[.int .i64 (recvM x c).cf.streams, .int .i64 (recvM x c).cf.part, .int .i64 (recvM x c).cf.packet, .int .i64 (recvM x c).cf.paths, .int .i64 (recvM x c).cf.turns, .int .i64 (recvM x c).cf.waiting, .int .i64 (recvM x c).cf.first, .int .i64 (recvM x c).cum, s', p', t', l']) ∧ RvI (fun k => V k ∨ w.heap.size ≤ k) w' (recvM x c) s' p' t' l' ∧ Below w.heap.size w w' := by
  have HOK0 : Hid (takesM x c → OkR K (keptM x c)) := hok0
  clear hok0
  have H := h
  obtain ⟨sa, sc, pa, pc, ta, tc, la, lc, rfl, rfl, rfl, rfl⟩ := h.r.ex
  clear h
  have hd' := hd
  have hs' := hs
  have hq' := hq
  obtain ⟨da, dc, rfl, -, -⟩ := hd.ex
  obtain ⟨ssa, ssc, rfl⟩ := hs.ex
  obtain ⟨qa, qc, rfl, -, -⟩ := hq.ex
  clear hd hs hq
  have B0 := three_below w (.cells #[.int .i64 x.cf.streams, .int .i64 x.cf.part, .int .i64 x.cf.packet, .int .i64 x.cf.paths, .int .i64 x.cf.turns, .int .i64 x.cf.waiting, .int .i64 x.cf.first, .int .i64 x.cum, .slice sa x.spans.length sc, .slice pa x.pieces.length pc, .slice ta x.turn.length tc, .slice la x.log.length lc] 47) (.cells #[.int .i64 c.kind, .int .i64 c.tag, .int .i64 c.stream, .int .i64 c.mid, .int .i64 c.part, .bool c.last, .bool c.ordered, .slice da c.data.length dc, .slice ssa c.spans.length ssc, .int .i64 c.room, .slice qa c.skips.length qc] 42) (.cells #[.int .i64 0, .int .i64 0, .int .i64 0, .int .i64 0, .int .i64 0, .int .i64 0, .int .i64 0, .int .i64 0, .slice none 0 0, .slice none 0 0, .slice none 0 0, .slice none 0 0] 47)
  have CX : Cells w.heap.size (((w.alloc (.cells #[.int .i64 x.cf.streams, .int .i64 x.cf.part, .int .i64 x.cf.packet, .int .i64 x.cf.paths, .int .i64 x.cf.turns, .int .i64 x.cf.waiting, .int .i64 x.cf.first, .int .i64 x.cum, .slice sa x.spans.length sc, .slice pa x.pieces.length pc, .slice ta x.turn.length tc, .slice la x.log.length lc] 47)).alloc (.cells #[.int .i64 c.kind, .int .i64 c.tag, .int .i64 c.stream, .int .i64 c.mid, .int .i64 c.part, .bool c.last, .bool c.ordered, .slice da c.data.length dc, .slice ssa c.spans.length ssc, .int .i64 c.room, .slice qa c.skips.length qc] 42)).alloc (.cells #[.int .i64 0, .int .i64 0, .int .i64 0, .int .i64 0, .int .i64 0, .int .i64 0, .int .i64 0, .int .i64 0, .slice none 0 0, .slice none 0 0, .slice none 0 0, .slice none 0 0] 47)) [.int .i64 x.cf.streams, .int .i64 x.cf.part, .int .i64 x.cf.packet, .int .i64 x.cf.paths, .int .i64 x.cf.turns, .int .i64 x.cf.waiting, .int .i64 x.cf.first, .int .i64 x.cum, .slice sa x.spans.length sc, .slice pa x.pieces.length pc, .slice ta x.turn.length tc, .slice la x.log.length lc] := ((Cells.new w #[.int .i64 x.cf.streams, .int .i64 x.cf.part, .int .i64 x.cf.packet, .int .i64 x.cf.paths, .int .i64 x.cf.turns, .int .i64 x.cf.waiting, .int .i64 x.cf.first, .int .i64 x.cum, .slice sa x.spans.length sc, .slice pa x.pieces.length pc, .slice ta x.turn.length tc, .slice la x.log.length lc] 47).alloc (by simp) _).alloc (by simp; omega) _
  have CC : Cells (w.heap.size + 1) (((w.alloc (.cells #[.int .i64 x.cf.streams, .int .i64 x.cf.part, .int .i64 x.cf.packet, .int .i64 x.cf.paths, .int .i64 x.cf.turns, .int .i64 x.cf.waiting, .int .i64 x.cf.first, .int .i64 x.cum, .slice sa x.spans.length sc, .slice pa x.pieces.length pc, .slice ta x.turn.length tc, .slice la x.log.length lc] 47)).alloc (.cells #[.int .i64 c.kind, .int .i64 c.tag, .int .i64 c.stream, .int .i64 c.mid, .int .i64 c.part, .bool c.last, .bool c.ordered, .slice da c.data.length dc, .slice ssa c.spans.length ssc, .int .i64 c.room, .slice qa c.skips.length qc] 42)).alloc (.cells #[.int .i64 0, .int .i64 0, .int .i64 0, .int .i64 0, .int .i64 0, .int .i64 0, .int .i64 0, .int .i64 0, .slice none 0 0, .slice none 0 0, .slice none 0 0, .slice none 0 0] 47)) [.int .i64 c.kind, .int .i64 c.tag, .int .i64 c.stream, .int .i64 c.mid, .int .i64 c.part, .bool c.last, .bool c.ordered, .slice da c.data.length dc, .slice ssa c.spans.length ssc, .int .i64 c.room, .slice qa c.skips.length qc] := (Cells.new' (w := w.alloc (.cells #[.int .i64 x.cf.streams, .int .i64 x.cf.part, .int .i64 x.cf.packet, .int .i64 x.cf.paths, .int .i64 x.cf.turns, .int .i64 x.cf.waiting, .int .i64 x.cf.first, .int .i64 x.cum, .slice sa x.spans.length sc, .slice pa x.pieces.length pc, .slice ta x.turn.length tc, .slice la x.log.length lc] 47)) #[.int .i64 c.kind, .int .i64 c.tag, .int .i64 c.stream, .int .i64 c.mid, .int .i64 c.part, .bool c.last, .bool c.ordered, .slice da c.data.length dc, .slice ssa c.spans.length ssc, .int .i64 c.room, .slice qa c.skips.length qc] 42 (by simp)).alloc (by simp) _
  have CT : Cells (w.heap.size + 2) (((w.alloc (.cells #[.int .i64 x.cf.streams, .int .i64 x.cf.part, .int .i64 x.cf.packet, .int .i64 x.cf.paths, .int .i64 x.cf.turns, .int .i64 x.cf.waiting, .int .i64 x.cf.first, .int .i64 x.cum, .slice sa x.spans.length sc, .slice pa x.pieces.length pc, .slice ta x.turn.length tc, .slice la x.log.length lc] 47)).alloc (.cells #[.int .i64 c.kind, .int .i64 c.tag, .int .i64 c.stream, .int .i64 c.mid, .int .i64 c.part, .bool c.last, .bool c.ordered, .slice da c.data.length dc, .slice ssa c.spans.length ssc, .int .i64 c.room, .slice qa c.skips.length qc] 42)).alloc (.cells #[.int .i64 0, .int .i64 0, .int .i64 0, .int .i64 0, .int .i64 0, .int .i64 0, .int .i64 0, .int .i64 0, .slice none 0 0, .slice none 0 0, .slice none 0 0, .slice none 0 0] 47)) [.int .i64 0, .int .i64 0, .int .i64 0, .int .i64 0, .int .i64 0, .int .i64 0, .int .i64 0, .int .i64 0, .slice none 0 0, .slice none 0 0, .slice none 0 0, .slice none 0 0] := Cells.new' #[.int .i64 0, .int .i64 0, .int .i64 0, .int .i64 0, .int .i64 0, .int .i64 0, .int .i64 0, .int .i64 0, .slice none 0 0, .slice none 0 0, .slice none 0 0, .slice none 0 0] 47 (by simp)
  have HZ : w.heap.size + 3 ≤ (((w.alloc (.cells #[.int .i64 x.cf.streams, .int .i64 x.cf.part, .int .i64 x.cf.packet, .int .i64 x.cf.paths, .int .i64 x.cf.turns, .int .i64 x.cf.waiting, .int .i64 x.cf.first, .int .i64 x.cum, .slice sa x.spans.length sc, .slice pa x.pieces.length pc, .slice ta x.turn.length tc, .slice la x.log.length lc] 47)).alloc (.cells #[.int .i64 c.kind, .int .i64 c.tag, .int .i64 c.stream, .int .i64 c.mid, .int .i64 c.part, .bool c.last, .bool c.ordered, .slice da c.data.length dc, .slice ssa c.spans.length ssc, .int .i64 c.room, .slice qa c.skips.length qc] 42)).alloc (.cells #[.int .i64 0, .int .i64 0, .int .i64 0, .int .i64 0, .int .i64 0, .int .i64 0, .int .i64 0, .int .i64 0, .slice none 0 0, .slice none 0 0, .slice none 0 0, .slice none 0 0] 47)).heap.size := by simp
  go_enter Try.func28, Try.ntmps28
  have KV0 : Keep V w (((w.alloc (.cells #[.int .i64 x.cf.streams, .int .i64 x.cf.part, .int .i64 x.cf.packet, .int .i64 x.cf.paths, .int .i64 x.cf.turns, .int .i64 x.cf.waiting, .int .i64 x.cf.first, .int .i64 x.cum, .slice sa x.spans.length sc, .slice pa x.pieces.length pc, .slice ta x.turn.length tc, .slice la x.log.length lc] 47)).alloc (.cells #[.int .i64 c.kind, .int .i64 c.tag, .int .i64 c.stream, .int .i64 c.mid, .int .i64 c.part, .bool c.last, .bool c.ordered, .slice da c.data.length dc, .slice ssa c.spans.length ssc, .int .i64 c.room, .slice qa c.skips.length qc] 42)).alloc (.cells #[.int .i64 0, .int .i64 0, .int .i64 0, .int .i64 0, .int .i64 0, .int .i64 0, .int .i64 0, .int .i64 0, .slice none 0 0, .slice none 0 0, .slice none 0 0, .slice none 0 0] 47)) := toKeep B0 fun k hk => hv k hk
  have OW := rown_any x _ _ _ _ V (((w.alloc (.cells #[.int .i64 x.cf.streams, .int .i64 x.cf.part, .int .i64 x.cf.packet, .int .i64 x.cf.paths, .int .i64 x.cf.turns, .int .i64 x.cf.waiting, .int .i64 x.cf.first, .int .i64 x.cum, .slice sa x.spans.length sc, .slice pa x.pieces.length pc, .slice ta x.turn.length tc, .slice la x.log.length lc] 47)).alloc (.cells #[.int .i64 c.kind, .int .i64 c.tag, .int .i64 c.stream, .int .i64 c.mid, .int .i64 c.part, .bool c.last, .bool c.ordered, .slice da c.data.length dc, .slice ssa c.spans.length ssc, .int .i64 c.room, .slice qa c.skips.length qc] 42)).alloc (.cells #[.int .i64 0, .int .i64 0, .int .i64 0, .int .i64 0, .int .i64 0, .int .i64 0, .int .i64 0, .int .i64 0, .slice none 0 0, .slice none 0 0, .slice none 0 0, .slice none 0 0] 47)) (H.keep KV0) (fun k hk => by have := hv k hk; omega) hst.sz
  have RNG := CX.range
  go_wp2_with (refine wpList_ldR rfl (.tmp 2) rfl w.heap.size 0 rfl x _ _ _ _ (by with_reducible exact RNG) ?_)
  generalize (((w.alloc (.cells #[.int .i64 x.cf.streams, .int .i64 x.cf.part, .int .i64 x.cf.packet, .int .i64 x.cf.paths, .int .i64 x.cf.turns, .int .i64 x.cf.waiting, .int .i64 x.cf.first, .int .i64 x.cum, .slice sa x.spans.length sc, .slice pa x.pieces.length pc, .slice ta x.turn.length tc, .slice la x.log.length lc] 47)).alloc (.cells #[.int .i64 c.kind, .int .i64 c.tag, .int .i64 c.stream, .int .i64 c.mid, .int .i64 c.part, .bool c.last, .bool c.ordered, .slice da c.data.length dc, .slice ssa c.spans.length ssc, .int .i64 c.room, .slice qa c.skips.length qc] 42)).alloc (.cells #[.int .i64 0, .int .i64 0, .int .i64 0, .int .i64 0, .int .i64 0, .int .i64 0, .int .i64 0, .int .i64 0, .slice none 0 0, .slice none 0 0, .slice none 0 0, .slice none 0 0] 47)) = w0 at *
  refine OW.mono ?_
  rintro e w1 ⟨s1, p1, t1, l1, rfl, rb1, b1⟩
  have sz1 := b1.size
  have CX1 := CX.below b1 (by omega)
  have TH : w1.there w.heap.size 0 12 := CX1.there
  obtain ⟨sa1, sc1, pa1, pc1, ta1, tc1, la1, lc1, rfl, rfl, rfl, rfl⟩ := rb1.form
  have RM : RvM (EV V w.heap.size) w.heap.size (w1.setCells w.heap.size 0 [.int .i64 x.cf.streams, .int .i64 x.cf.part, .int .i64 x.cf.packet, .int .i64 x.cf.paths, .int .i64 x.cf.turns, .int .i64 x.cf.waiting, .int .i64 x.cf.first, .int .i64 x.cum, .slice sa1 x.spans.length sc1, .slice pa1 x.pieces.length pc1, .slice ta1 x.turn.length tc1, .slice la1 x.log.length lc1]) w.heap.size x _ _ _ _ := rb1.toM CX1 rfl (EV.nR hv (by omega)) (by omega) (by omega) (Nat.le_refl _) (fun k hk => EV.lt (by omega) (by omega) hk) (fun k hk => EV.nV hv (by omega) hk)
  have B1 : Below w.heap.size w w1 := B0.trans (b1.mono (by omega))
  have B2 : Below w.heap.size w (w1.setCells w.heap.size 0 [.int .i64 x.cf.streams, .int .i64 x.cf.part, .int .i64 x.cf.packet, .int .i64 x.cf.paths, .int .i64 x.cf.turns, .int .i64 x.cf.waiting, .int .i64 x.cf.first, .int .i64 x.cum, .slice sa1 x.spans.length sc1, .slice pa1 x.pieces.length pc1, .slice ta1 x.turn.length tc1, .slice la1 x.log.length lc1]) := Below.setCells (Nat.le_refl _) _ _ B1
  have CC2 : Cells (w.heap.size + 1) (w1.setCells w.heap.size 0 [.int .i64 x.cf.streams, .int .i64 x.cf.part, .int .i64 x.cf.packet, .int .i64 x.cf.paths, .int .i64 x.cf.turns, .int .i64 x.cf.waiting, .int .i64 x.cf.first, .int .i64 x.cum, .slice sa1 x.spans.length sc1, .slice pa1 x.pieces.length pc1, .slice ta1 x.turn.length tc1, .slice la1 x.log.length lc1]) [.int .i64 c.kind, .int .i64 c.tag, .int .i64 c.stream, .int .i64 c.mid, .int .i64 c.part, .bool c.last, .bool c.ordered, .slice da c.data.length dc, .slice ssa c.spans.length ssc, .int .i64 c.room, .slice qa c.skips.length qc] := (CC.below b1 (by omega)).pastAll _ (by omega)
  have CT2 : Cells (w.heap.size + 2) (w1.setCells w.heap.size 0 [.int .i64 x.cf.streams, .int .i64 x.cf.part, .int .i64 x.cf.packet, .int .i64 x.cf.paths, .int .i64 x.cf.turns, .int .i64 x.cf.waiting, .int .i64 x.cf.first, .int .i64 x.cum, .slice sa1 x.spans.length sc1, .slice pa1 x.pieces.length pc1, .slice ta1 x.turn.length tc1, .slice la1 x.log.length lc1]) [.int .i64 0, .int .i64 0, .int .i64 0, .int .i64 0, .int .i64 0, .int .i64 0, .int .i64 0, .int .i64 0, .slice none 0 0, .slice none 0 0, .slice none 0 0, .slice none 0 0] := (CT.below b1 (by omega)).pastAll _ (by omega)
  have sz2 : w.heap.size + 3 ≤ (w1.setCells w.heap.size 0 [.int .i64 x.cf.streams, .int .i64 x.cf.part, .int .i64 x.cf.packet, .int .i64 x.cf.paths, .int .i64 x.cf.turns, .int .i64 x.cf.waiting, .int .i64 x.cf.first, .int .i64 x.cum, .slice sa1 x.spans.length sc1, .slice pa1 x.pieces.length pc1, .slice ta1 x.turn.length tc1, .slice la1 x.log.length lc1]).heap.size := by rw [size_setCells]; omega
  clear OW RNG CX CX1 CC CT rb1
  dsimp only
  rename_i KK aKK
  refine aKK _ _ ?_
  clear aKK KK
  refine wpList_srN 47 12 Try.sizeRv rfl (.tmp 2) (.tmp 7) rfl w.heap.size 0 rfl [.int .i64 x.cf.streams, .int .i64 x.cf.part, .int .i64 x.cf.packet, .int .i64 x.cf.paths, .int .i64 x.cf.turns, .int .i64 x.cf.waiting, .int .i64 x.cf.first, .int .i64 x.cum, .slice sa1 x.spans.length sc1, .slice pa1 x.pieces.length pc1, .slice ta1 x.turn.length tc1, .slice la1 x.log.length lc1] rfl rfl rfl TH ?_
  clear TH
  generalize w1.setCells w.heap.size 0 [.int .i64 x.cf.streams, .int .i64 x.cf.part, .int .i64 x.cf.packet, .int .i64 x.cf.paths, .int .i64 x.cf.turns, .int .i64 x.cf.waiting, .int .i64 x.cf.first, .int .i64 x.cum, .slice sa1 x.spans.length sc1, .slice pa1 x.pieces.length pc1, .slice ta1 x.turn.length tc1, .slice la1 x.log.length lc1] = w2 at *
  have HRM : Hid _ := RM
  have HCC : Hid _ := CC2
  have HCT : Hid _ := CT2
  have c7 := RM.cells.cell 7 _ rfl
  have k1 := CC2.cell 1 _ rfl
  have k0 := CC2.cell 0 _ rfl
  have hc1 := hst.c1
  have hc2 := hst.c2
  have NE := fun wx => near_any x.cum c.tag wx (by omega) (by omega)
  clear RM CC2 CT2
  have tk1 : True := trivial
  go_upto_region 3 with (go_at_call 52; have t := tk1; refine (NE _).mono ?_; rintro e w' ⟨rfl, hw'⟩; subst w'; clear tk1 t)
  have HTK : Hid (takesM x c ↔ c.kind = 1 ∧ hasM x c.stream ∧ x.cum < nearM x.cum c.tag ∧ inM x.spans (nearM x.cum c.tag) = false ∧ (nearM x.cum c.tag = x.cum + 1 ∨ heldM x.pieces + c.data.length ≤ 400)) := Iff.rfl
  obtain ⟨n, hn⟩ : ∃ n, nearM x.cum c.tag = n := ⟨_, rfl⟩
  have HN : Hid (nearM x.cum c.tag = n) := hn
  rw [hn] at HTK ⊢
  clear hn NE
  cases hk : (c.kind != 1) with
  | true =>
    have HNO : Hid (¬ takesM x c) := fun h => by have := (HTK.out.1 h).1; simp at hk; exact hk this
    have BW := B2
    have HRE : Hid (recvM x c = x) := by show _ = _; rw [recvM, if_neg HNO.out]
    have RNG := HRM.out.cells.range
    have TH : w2.there (w.heap.size + 2) 0 12 := HCT.out.there
    have CE := HCT.out.setAll [.int .i64 x.cf.streams, .int .i64 x.cf.part, .int .i64 x.cf.packet, .int .i64 x.cf.paths, .int .i64 x.cf.turns, .int .i64 x.cf.waiting, .int .i64 x.cf.first, .int .i64 x.cum, .slice sa1 x.spans.length sc1, .slice pa1 x.pieces.length pc1, .slice ta1 x.turn.length tc1, .slice la1 x.log.length lc1] rfl
    have FIN : Hid (RvI (fun k => V k ∨ w.heap.size ≤ k) (w2.setCells (w.heap.size + 2) 0 [.int .i64 x.cf.streams, .int .i64 x.cf.part, .int .i64 x.cf.packet, .int .i64 x.cf.paths, .int .i64 x.cf.turns, .int .i64 x.cf.waiting, .int .i64 x.cf.first, .int .i64 x.cum, .slice sa1 x.spans.length sc1, .slice pa1 x.pieces.length pc1, .slice ta1 x.turn.length tc1, .slice la1 x.log.length lc1]) x (.slice sa1 x.spans.length sc1) (.slice pa1 x.pieces.length pc1) (.slice ta1 x.turn.length tc1) (.slice la1 x.log.length lc1)) := (HRM.out.rviE (Keep.setCells (fun hh => hh.2.1 (.inr (.inl rfl))) _ _ (Keep.refl _ _))).ev
    have BE : Below w.heap.size w (w2.setCells (w.heap.size + 2) 0 [.int .i64 x.cf.streams, .int .i64 x.cf.part, .int .i64 x.cf.packet, .int .i64 x.cf.paths, .int .i64 x.cf.turns, .int .i64 x.cf.waiting, .int .i64 x.cf.first, .int .i64 x.cum, .slice sa1 x.spans.length sc1, .slice pa1 x.pieces.length pc1, .slice ta1 x.turn.length tc1, .slice la1 x.log.length lc1]) := Below.setCells (by omega) _ _ BW
    have e0 := CE.cell 0 _ rfl
    have e1 := CE.cell 1 _ rfl
    have e2 := CE.cell 2 _ rfl
    have e3 := CE.cell 3 _ rfl
    have e4 := CE.cell 4 _ rfl
    have e5 := CE.cell 5 _ rfl
    have e6 := CE.cell 6 _ rfl
    have e7 := CE.cell 7 _ rfl
    have e8 := CE.cell 8 _ rfl
    have e9 := CE.cell 9 _ rfl
    have e10 := CE.cell 10 _ rfl
    have e11 := CE.cell 11 _ rfl
    clear CE
    go_wp2_with (first
      | refine wpList_ldR rfl (.tmp 2) rfl w.heap.size 0 rfl x _ _ _ _ (by with_reducible exact RNG) ?_
      | refine wpList_srN 47 12 Try.sizeRv rfl (.tmp 4) (.tmp 38) rfl (w.heap.size + 2) 0 rfl [.int .i64 x.cf.streams, .int .i64 x.cf.part, .int .i64 x.cf.packet, .int .i64 x.cf.paths, .int .i64 x.cf.turns, .int .i64 x.cf.waiting, .int .i64 x.cf.first, .int .i64 x.cum, .slice sa1 x.spans.length sc1, .slice pa1 x.pieces.length pc1, .slice ta1 x.turn.length tc1, .slice la1 x.log.length lc1] rfl rfl rfl (by with_reducible exact TH) ?_)
    generalize w2.setCells (w.heap.size + 2) 0 [.int .i64 x.cf.streams, .int .i64 x.cf.part, .int .i64 x.cf.packet, .int .i64 x.cf.paths, .int .i64 x.cf.turns, .int .i64 x.cf.waiting, .int .i64 x.cf.first, .int .i64 x.cum, .slice sa1 x.spans.length sc1, .slice pa1 x.pieces.length pc1, .slice ta1 x.turn.length tc1, .slice la1 x.log.length lc1] = w9 at *
    refine bodyPost_ret (v := .agg #[.int .i64 x.cf.streams, .int .i64 x.cf.part, .int .i64 x.cf.packet, .int .i64 x.cf.paths, .int .i64 x.cf.turns, .int .i64 x.cf.waiting, .int .i64 x.cf.first, .int .i64 x.cum, .slice sa1 x.spans.length sc1, .slice pa1 x.pieces.length pc1, .slice ta1 x.turn.length tc1, .slice la1 x.log.length lc1]) (by simp [results, Try.results28, go_sem, e0, e1, e2, e3, e4, e5, e6, e7, e8, e9, e10, e11]) rfl ?_
    rw [HRE.out]
    exact ⟨_, _, _, _, rfl, FIN.out, BE⟩
  | false =>
    have x0 := HRM.out.cells.cell 0 _ rfl
    have x1 := HRM.out.cells.cell 1 _ rfl
    have x2 := HRM.out.cells.cell 2 _ rfl
    have x3 := HRM.out.cells.cell 3 _ rfl
    have x4 := HRM.out.cells.cell 4 _ rfl
    have x5 := HRM.out.cells.cell 5 _ rfl
    have x6 := HRM.out.cells.cell 6 _ rfl
    have x7 := HRM.out.cells.cell 7 _ rfl
    have x8 := HRM.out.cells.cell 8 _ rfl
    have x9 := HRM.out.cells.cell 9 _ rfl
    have x10 := HRM.out.cells.cell 10 _ rfl
    have x11 := HRM.out.cells.cell 11 _ rfl
    have k2 := HCC.out.cell 2 _ rfl
    have HS := hasStream_any x sa1 x.spans.length sc1 pa1 x.pieces.length pc1 ta1 tc1 la1 x.log.length lc1 c.stream w2
    go_wp2_with fail
    refine HS.mono ?_
    rintro e w3 ⟨rfl, b3⟩
    have sz3 := b3.size
    have HRM3 : Hid (RvM _ _ w3 _ x _ _ _ _) := HRM.out.below b3
    have HCT3 : Hid (Cells _ w3 _) := HCT.out.below b3 (by omega)
    have HCC3 : Hid (Cells _ w3 _) := HCC.out.below b3 (by omega)
    have BW3 : Below w.heap.size w w3 := B2.trans (b3.mono (by omega))
    clear HS x0 x1 x2 x3 x4 x5 x6 x7 x8 x9 x10 x11 k0 k1 k2 c7 HRM HCT HCC
    cases hh : decide (hasM x c.stream) with
    | false =>
      have HNO : Hid (¬ takesM x c) := fun h => of_decide_eq_false hh (HTK.out.1 h).2.1
      have BW := BW3
      have HRE : Hid (recvM x c = x) := by show _ = _; rw [recvM, if_neg HNO.out]
      have RNG := HRM3.out.cells.range
      have TH : w3.there (w.heap.size + 2) 0 12 := HCT3.out.there
      have CE := HCT3.out.setAll [.int .i64 x.cf.streams, .int .i64 x.cf.part, .int .i64 x.cf.packet, .int .i64 x.cf.paths, .int .i64 x.cf.turns, .int .i64 x.cf.waiting, .int .i64 x.cf.first, .int .i64 x.cum, .slice sa1 x.spans.length sc1, .slice pa1 x.pieces.length pc1, .slice ta1 x.turn.length tc1, .slice la1 x.log.length lc1] rfl
      have FIN : Hid (RvI (fun k => V k ∨ w.heap.size ≤ k) (w3.setCells (w.heap.size + 2) 0 [.int .i64 x.cf.streams, .int .i64 x.cf.part, .int .i64 x.cf.packet, .int .i64 x.cf.paths, .int .i64 x.cf.turns, .int .i64 x.cf.waiting, .int .i64 x.cf.first, .int .i64 x.cum, .slice sa1 x.spans.length sc1, .slice pa1 x.pieces.length pc1, .slice ta1 x.turn.length tc1, .slice la1 x.log.length lc1]) x (.slice sa1 x.spans.length sc1) (.slice pa1 x.pieces.length pc1) (.slice ta1 x.turn.length tc1) (.slice la1 x.log.length lc1)) := (HRM3.out.rviE (Keep.setCells (fun hh => hh.2.1 (.inr (.inl rfl))) _ _ (Keep.refl _ _))).ev
      have BE : Below w.heap.size w (w3.setCells (w.heap.size + 2) 0 [.int .i64 x.cf.streams, .int .i64 x.cf.part, .int .i64 x.cf.packet, .int .i64 x.cf.paths, .int .i64 x.cf.turns, .int .i64 x.cf.waiting, .int .i64 x.cf.first, .int .i64 x.cum, .slice sa1 x.spans.length sc1, .slice pa1 x.pieces.length pc1, .slice ta1 x.turn.length tc1, .slice la1 x.log.length lc1]) := Below.setCells (by omega) _ _ BW
      have e0 := CE.cell 0 _ rfl
      have e1 := CE.cell 1 _ rfl
      have e2 := CE.cell 2 _ rfl
      have e3 := CE.cell 3 _ rfl
      have e4 := CE.cell 4 _ rfl
      have e5 := CE.cell 5 _ rfl
      have e6 := CE.cell 6 _ rfl
      have e7 := CE.cell 7 _ rfl
      have e8 := CE.cell 8 _ rfl
      have e9 := CE.cell 9 _ rfl
      have e10 := CE.cell 10 _ rfl
      have e11 := CE.cell 11 _ rfl
      clear CE
      go_wp2_with (first
        | refine wpList_ldR rfl (.tmp 2) rfl w.heap.size 0 rfl x _ _ _ _ (by with_reducible exact RNG) ?_
        | refine wpList_srN 47 12 Try.sizeRv rfl (.tmp 4) (.tmp 38) rfl (w.heap.size + 2) 0 rfl [.int .i64 x.cf.streams, .int .i64 x.cf.part, .int .i64 x.cf.packet, .int .i64 x.cf.paths, .int .i64 x.cf.turns, .int .i64 x.cf.waiting, .int .i64 x.cf.first, .int .i64 x.cum, .slice sa1 x.spans.length sc1, .slice pa1 x.pieces.length pc1, .slice ta1 x.turn.length tc1, .slice la1 x.log.length lc1] rfl rfl rfl (by with_reducible exact TH) ?_)
      generalize w3.setCells (w.heap.size + 2) 0 [.int .i64 x.cf.streams, .int .i64 x.cf.part, .int .i64 x.cf.packet, .int .i64 x.cf.paths, .int .i64 x.cf.turns, .int .i64 x.cf.waiting, .int .i64 x.cf.first, .int .i64 x.cum, .slice sa1 x.spans.length sc1, .slice pa1 x.pieces.length pc1, .slice ta1 x.turn.length tc1, .slice la1 x.log.length lc1] = w9 at *
      refine bodyPost_ret (v := .agg #[.int .i64 x.cf.streams, .int .i64 x.cf.part, .int .i64 x.cf.packet, .int .i64 x.cf.paths, .int .i64 x.cf.turns, .int .i64 x.cf.waiting, .int .i64 x.cf.first, .int .i64 x.cum, .slice sa1 x.spans.length sc1, .slice pa1 x.pieces.length pc1, .slice ta1 x.turn.length tc1, .slice la1 x.log.length lc1]) (by simp [results, Try.results28, go_sem, e0, e1, e2, e3, e4, e5, e6, e7, e8, e9, e10, e11]) rfl ?_
      rw [HRE.out]
      exact ⟨_, _, _, _, rfl, FIN.out, BE⟩
    | true =>
      have y0 := HRM3.out.cells.cell 0 _ rfl
      have y1 := HRM3.out.cells.cell 1 _ rfl
      have y2 := HRM3.out.cells.cell 2 _ rfl
      have y3 := HRM3.out.cells.cell 3 _ rfl
      have y4 := HRM3.out.cells.cell 4 _ rfl
      have y5 := HRM3.out.cells.cell 5 _ rfl
      have y6 := HRM3.out.cells.cell 6 _ rfl
      have y7 := HRM3.out.cells.cell 7 _ rfl
      have y8 := HRM3.out.cells.cell 8 _ rfl
      have y9 := HRM3.out.cells.cell 9 _ rfl
      have y10 := HRM3.out.cells.cell 10 _ rfl
      have y11 := HRM3.out.cells.cell 11 _ rfl
      have IN := isNew_any x _ _ _ _ n w3 HRM3.out.rvs
      go_wp2_with fail
      refine IN.mono ?_
      rintro e w4 ⟨rfl, b4⟩
      have sz4 := b4.size
      have HRM4 : Hid (RvM _ _ w4 _ x _ _ _ _) := HRM3.out.below b4
      have HCT4 : Hid (Cells _ w4 _) := HCT3.out.below b4 (by omega)
      have HCC4 : Hid (Cells _ w4 _) := HCC3.out.below b4 (by omega)
      have BW4 : Below w.heap.size w w4 := BW3.trans (b4.mono (by omega))
      clear IN y0 y1 y2 y3 y4 y5 y6 y7 y8 y9 y10 y11 HRM3 HCT3 HCC3
      cases hw : (decide (x.cum < n) && !inM x.spans n) with
      | false =>
        have HNO : Hid (¬ takesM x c) := fun h => by
          have h' := HTK.out.1 h
          rw [decide_eq_true h'.2.2.1, h'.2.2.2.1] at hw
          simp at hw
        have BW := BW4
        have HRE : Hid (recvM x c = x) := by show _ = _; rw [recvM, if_neg HNO.out]
        have RNG := HRM4.out.cells.range
        have TH : w4.there (w.heap.size + 2) 0 12 := HCT4.out.there
        have CE := HCT4.out.setAll [.int .i64 x.cf.streams, .int .i64 x.cf.part, .int .i64 x.cf.packet, .int .i64 x.cf.paths, .int .i64 x.cf.turns, .int .i64 x.cf.waiting, .int .i64 x.cf.first, .int .i64 x.cum, .slice sa1 x.spans.length sc1, .slice pa1 x.pieces.length pc1, .slice ta1 x.turn.length tc1, .slice la1 x.log.length lc1] rfl
        have FIN : Hid (RvI (fun k => V k ∨ w.heap.size ≤ k) (w4.setCells (w.heap.size + 2) 0 [.int .i64 x.cf.streams, .int .i64 x.cf.part, .int .i64 x.cf.packet, .int .i64 x.cf.paths, .int .i64 x.cf.turns, .int .i64 x.cf.waiting, .int .i64 x.cf.first, .int .i64 x.cum, .slice sa1 x.spans.length sc1, .slice pa1 x.pieces.length pc1, .slice ta1 x.turn.length tc1, .slice la1 x.log.length lc1]) x (.slice sa1 x.spans.length sc1) (.slice pa1 x.pieces.length pc1) (.slice ta1 x.turn.length tc1) (.slice la1 x.log.length lc1)) := (HRM4.out.rviE (Keep.setCells (fun hh => hh.2.1 (.inr (.inl rfl))) _ _ (Keep.refl _ _))).ev
        have BE : Below w.heap.size w (w4.setCells (w.heap.size + 2) 0 [.int .i64 x.cf.streams, .int .i64 x.cf.part, .int .i64 x.cf.packet, .int .i64 x.cf.paths, .int .i64 x.cf.turns, .int .i64 x.cf.waiting, .int .i64 x.cf.first, .int .i64 x.cum, .slice sa1 x.spans.length sc1, .slice pa1 x.pieces.length pc1, .slice ta1 x.turn.length tc1, .slice la1 x.log.length lc1]) := Below.setCells (by omega) _ _ BW
        have e0 := CE.cell 0 _ rfl
        have e1 := CE.cell 1 _ rfl
        have e2 := CE.cell 2 _ rfl
        have e3 := CE.cell 3 _ rfl
        have e4 := CE.cell 4 _ rfl
        have e5 := CE.cell 5 _ rfl
        have e6 := CE.cell 6 _ rfl
        have e7 := CE.cell 7 _ rfl
        have e8 := CE.cell 8 _ rfl
        have e9 := CE.cell 9 _ rfl
        have e10 := CE.cell 10 _ rfl
        have e11 := CE.cell 11 _ rfl
        clear CE
        go_wp2_with (first
          | refine wpList_ldR rfl (.tmp 2) rfl w.heap.size 0 rfl x _ _ _ _ (by with_reducible exact RNG) ?_
          | refine wpList_srN 47 12 Try.sizeRv rfl (.tmp 4) (.tmp 38) rfl (w.heap.size + 2) 0 rfl [.int .i64 x.cf.streams, .int .i64 x.cf.part, .int .i64 x.cf.packet, .int .i64 x.cf.paths, .int .i64 x.cf.turns, .int .i64 x.cf.waiting, .int .i64 x.cf.first, .int .i64 x.cum, .slice sa1 x.spans.length sc1, .slice pa1 x.pieces.length pc1, .slice ta1 x.turn.length tc1, .slice la1 x.log.length lc1] rfl rfl rfl (by with_reducible exact TH) ?_)
        generalize w4.setCells (w.heap.size + 2) 0 [.int .i64 x.cf.streams, .int .i64 x.cf.part, .int .i64 x.cf.packet, .int .i64 x.cf.paths, .int .i64 x.cf.turns, .int .i64 x.cf.waiting, .int .i64 x.cf.first, .int .i64 x.cum, .slice sa1 x.spans.length sc1, .slice pa1 x.pieces.length pc1, .slice ta1 x.turn.length tc1, .slice la1 x.log.length lc1] = w9 at *
        refine bodyPost_ret (v := .agg #[.int .i64 x.cf.streams, .int .i64 x.cf.part, .int .i64 x.cf.packet, .int .i64 x.cf.paths, .int .i64 x.cf.turns, .int .i64 x.cf.waiting, .int .i64 x.cf.first, .int .i64 x.cum, .slice sa1 x.spans.length sc1, .slice pa1 x.pieces.length pc1, .slice ta1 x.turn.length tc1, .slice la1 x.log.length lc1]) (by simp [results, Try.results28, go_sem, e0, e1, e2, e3, e4, e5, e6, e7, e8, e9, e10, e11]) rfl ?_
        rw [HRE.out]
        exact ⟨_, _, _, _, rfl, FIN.out, BE⟩
      | true =>
        have hw1 : x.cum < n := by cases h : decide (x.cum < n) <;> simp_all
        have HW2 : Hid (inM x.spans n = false) := by show _ = _; cases h : inM x.spans n <;> simp_all
        have z0 := HRM4.out.cells.cell 0 _ rfl
        have z1 := HRM4.out.cells.cell 1 _ rfl
        have z2 := HRM4.out.cells.cell 2 _ rfl
        have z3 := HRM4.out.cells.cell 3 _ rfl
        have z4 := HRM4.out.cells.cell 4 _ rfl
        have z5 := HRM4.out.cells.cell 5 _ rfl
        have z6 := HRM4.out.cells.cell 6 _ rfl
        have z7 := HRM4.out.cells.cell 7 _ rfl
        have z8 := HRM4.out.cells.cell 8 _ rfl
        have z9 := HRM4.out.cells.cell 9 _ rfl
        have z10 := HRM4.out.cells.cell 10 _ rfl
        have z11 := HRM4.out.cells.cell 11 _ rfl
        have j7 := HCC4.out.cell 7 _ rfl
        have RO := hasRoom_any x _ _ _ _ n c.data.length w4 HRM4.out.rvs hst.sz.fit (by omega) hc1 (by omega)
        go_wp2_with fail
        refine RO.mono ?_
        rintro e w5 ⟨rfl, b5⟩
        have sz5 := b5.size
        have HRM5 : Hid (RvM _ _ w5 _ x _ _ _ _) := HRM4.out.below b5
        have HCT5 : Hid (Cells _ w5 _) := HCT4.out.below b5 (by omega)
        have HCC5 : Hid (Cells _ w5 _) := HCC4.out.below b5 (by omega)
        have BW5 : Below w.heap.size w w5 := BW4.trans (b5.mono (by omega))
        clear RO z0 z1 z2 z3 z4 z5 z6 z7 z8 z9 z10 z11 j7 HRM4 HCT4 HCC4
        cases hr : (decide (n = x.cum + 1) || decide (heldM x.pieces + c.data.length ≤ 400)) with
        | false =>
          have HNO : Hid (¬ takesM x c) := fun h => by
            have h' := (HTK.out.1 h).2.2.2.2
            simp at hr
            omega
          have BW := BW5
          have HRE : Hid (recvM x c = x) := by show _ = _; rw [recvM, if_neg HNO.out]
          have RNG := HRM5.out.cells.range
          have TH : w5.there (w.heap.size + 2) 0 12 := HCT5.out.there
          have CE := HCT5.out.setAll [.int .i64 x.cf.streams, .int .i64 x.cf.part, .int .i64 x.cf.packet, .int .i64 x.cf.paths, .int .i64 x.cf.turns, .int .i64 x.cf.waiting, .int .i64 x.cf.first, .int .i64 x.cum, .slice sa1 x.spans.length sc1, .slice pa1 x.pieces.length pc1, .slice ta1 x.turn.length tc1, .slice la1 x.log.length lc1] rfl
          have FIN : Hid (RvI (fun k => V k ∨ w.heap.size ≤ k) (w5.setCells (w.heap.size + 2) 0 [.int .i64 x.cf.streams, .int .i64 x.cf.part, .int .i64 x.cf.packet, .int .i64 x.cf.paths, .int .i64 x.cf.turns, .int .i64 x.cf.waiting, .int .i64 x.cf.first, .int .i64 x.cum, .slice sa1 x.spans.length sc1, .slice pa1 x.pieces.length pc1, .slice ta1 x.turn.length tc1, .slice la1 x.log.length lc1]) x (.slice sa1 x.spans.length sc1) (.slice pa1 x.pieces.length pc1) (.slice ta1 x.turn.length tc1) (.slice la1 x.log.length lc1)) := (HRM5.out.rviE (Keep.setCells (fun hh => hh.2.1 (.inr (.inl rfl))) _ _ (Keep.refl _ _))).ev
          have BE : Below w.heap.size w (w5.setCells (w.heap.size + 2) 0 [.int .i64 x.cf.streams, .int .i64 x.cf.part, .int .i64 x.cf.packet, .int .i64 x.cf.paths, .int .i64 x.cf.turns, .int .i64 x.cf.waiting, .int .i64 x.cf.first, .int .i64 x.cum, .slice sa1 x.spans.length sc1, .slice pa1 x.pieces.length pc1, .slice ta1 x.turn.length tc1, .slice la1 x.log.length lc1]) := Below.setCells (by omega) _ _ BW
          have e0 := CE.cell 0 _ rfl
          have e1 := CE.cell 1 _ rfl
          have e2 := CE.cell 2 _ rfl
          have e3 := CE.cell 3 _ rfl
          have e4 := CE.cell 4 _ rfl
          have e5 := CE.cell 5 _ rfl
          have e6 := CE.cell 6 _ rfl
          have e7 := CE.cell 7 _ rfl
          have e8 := CE.cell 8 _ rfl
          have e9 := CE.cell 9 _ rfl
          have e10 := CE.cell 10 _ rfl
          have e11 := CE.cell 11 _ rfl
          clear CE
          go_wp2_with (first
            | refine wpList_ldR rfl (.tmp 2) rfl w.heap.size 0 rfl x _ _ _ _ (by with_reducible exact RNG) ?_
            | refine wpList_srN 47 12 Try.sizeRv rfl (.tmp 4) (.tmp 38) rfl (w.heap.size + 2) 0 rfl [.int .i64 x.cf.streams, .int .i64 x.cf.part, .int .i64 x.cf.packet, .int .i64 x.cf.paths, .int .i64 x.cf.turns, .int .i64 x.cf.waiting, .int .i64 x.cf.first, .int .i64 x.cum, .slice sa1 x.spans.length sc1, .slice pa1 x.pieces.length pc1, .slice ta1 x.turn.length tc1, .slice la1 x.log.length lc1] rfl rfl rfl (by with_reducible exact TH) ?_)
          generalize w5.setCells (w.heap.size + 2) 0 [.int .i64 x.cf.streams, .int .i64 x.cf.part, .int .i64 x.cf.packet, .int .i64 x.cf.paths, .int .i64 x.cf.turns, .int .i64 x.cf.waiting, .int .i64 x.cf.first, .int .i64 x.cum, .slice sa1 x.spans.length sc1, .slice pa1 x.pieces.length pc1, .slice ta1 x.turn.length tc1, .slice la1 x.log.length lc1] = w9 at *
          refine bodyPost_ret (v := .agg #[.int .i64 x.cf.streams, .int .i64 x.cf.part, .int .i64 x.cf.packet, .int .i64 x.cf.paths, .int .i64 x.cf.turns, .int .i64 x.cf.waiting, .int .i64 x.cf.first, .int .i64 x.cum, .slice sa1 x.spans.length sc1, .slice pa1 x.pieces.length pc1, .slice ta1 x.turn.length tc1, .slice la1 x.log.length lc1]) (by simp [results, Try.results28, go_sem, e0, e1, e2, e3, e4, e5, e6, e7, e8, e9, e10, e11]) rfl ?_
          rw [HRE.out]
          exact ⟨_, _, _, _, rfl, FIN.out, BE⟩
        | true =>
          have HYES : Hid (takesM x c) := HTK.out.2 ⟨by simpa using hk, of_decide_eq_true hh, hw1, HW2.out, by simpa using hr⟩
          have BD5 : Below w5.heap.size w5 w5.drew := below_drew' (Below.refl _ _)
          have hok := HOK0.out HYES.out
          have hp5 : x.pieces.length + 1 ≤ 1048576 := by have := hok.fit.n; simp [keptM] at this; omega
          have CO : Calls Try.prog 50 #[.agg #[.int .i64 c.kind, .int .i64 c.tag, .int .i64 c.stream, .int .i64 c.mid, .int .i64 c.part, .bool c.last, .bool c.ordered, .slice da c.data.length dc, .slice ssa c.spans.length ssc, .int .i64 c.room, .slice qa c.skips.length qc]] w5.drew fun e w' => ∃ v, e = .returned v ∧ ∃ da' dc' sa' sc' qa' qc', v = .agg #[.int .i64 c.kind, .int .i64 c.tag, .int .i64 c.stream, .int .i64 c.mid, .int .i64 c.part, .bool c.last, .bool c.ordered, .slice da' c.data.length dc', .slice sa' c.spans.length sc', .int .i64 c.room, .slice qa' c.skips.length qc'] ∧ SnL (fun j => w5.heap.size ≤ j ∧ j < w'.heap.size) w' c (.slice da' c.data.length dc') (.slice sa' c.spans.length sc') (.slice qa' c.skips.length qc') ∧ Below w5.heap.size w5 w' := by
            refine (ckOwn_any c _ _ _ w5.drew (((hd'.below BW5 (Nat.le_refl _)).below (below_drew' (Below.refl w.heap.size _)) (Nat.le_refl _)).mono (by show w.heap.size ≤ w5.heap.size; omega)) (((hs'.below BW5 (Nat.le_refl _)).below (below_drew' (Below.refl w.heap.size _)) (Nat.le_refl _)).mono (by show w.heap.size ≤ w5.heap.size; omega)) (Rw.mono (Rw.below (Rw.below hq' BW5 (Nat.le_refl _)) (below_drew' (Below.refl w.heap.size _)) (Nat.le_refl _)) (by show w.heap.size ≤ w5.heap.size; omega)) hf).mono ?_
            rintro e w' ⟨v, rfl, hv, hb⟩
            obtain ⟨d', s', q', rfl, hl'⟩ := SnL.own hv
            obtain ⟨da', dc', sa', sc', qa', qc', rfl, rfl, rfl⟩ := hl'.ex
            exact ⟨_, rfl, da', dc', sa', sc', qa', qc', rfl, hl', BD5.trans hb⟩
          have HAPP : Hid (∀ w6 da' dc' sa' sc' qa' qc', SnL (fun j => w5.heap.size ≤ j ∧ j < w6.heap.size) w6 c (.slice da' c.data.length dc') (.slice sa' c.spans.length sc') (.slice qa' c.skips.length qc') → Below w5.heap.size w5 w6 → ∃ vs, (w6.alloc (.cells #[.int .i64 n, .int .i64 c.kind, .int .i64 c.tag, .int .i64 c.stream, .int .i64 c.mid, .int .i64 c.part, .bool c.last, .bool c.ordered, .slice da' c.data.length dc', .slice sa' c.spans.length sc', .int .i64 c.room, .slice qa' c.skips.length qc'] 71)).ownsRow w.heap.size 71 12 (.slice pa1 x.pieces.length pc1) x.pieces.length (flatV vs) ∧ w6.cell? ⟨w.heap.size, 9, none⟩ = some (.slice pa1 x.pieces.length pc1) ∧ w.heap.size ≤ (w6.alloc (.cells #[.int .i64 n, .int .i64 c.kind, .int .i64 c.tag, .int .i64 c.stream, .int .i64 c.mid, .int .i64 c.part, .bool c.last, .bool c.ordered, .slice da' c.data.length dc', .slice sa' c.spans.length sc', .int .i64 c.room, .slice qa' c.skips.length qc'] 71)).heap.size ∧ ∀ v7 w7, w7.ownsRow w.heap.size 71 12 v7 (x.pieces.length + 1) (flatV vs ++ [.int .i64 n, .int .i64 c.kind, .int .i64 c.tag, .int .i64 c.stream, .int .i64 c.mid, .int .i64 c.part, .bool c.last, .bool c.ordered, .slice da' c.data.length dc', .slice sa' c.spans.length sc', .int .i64 c.room, .slice qa' c.skips.length qc']) → (w6.alloc (.cells #[.int .i64 n, .int .i64 c.kind, .int .i64 c.tag, .int .i64 c.stream, .int .i64 c.mid, .int .i64 c.part, .bool c.last, .bool c.ordered, .slice da' c.data.length dc', .slice sa' c.spans.length sc', .int .i64 c.room, .slice qa' c.skips.length qc'] 71)).grownBy w7 (Value.slice pa1 x.pieces.length pc1).ownBlock → (v7.ownBlock = (Value.slice pa1 x.pieces.length pc1).ownBlock ∨ v7.ownBlock = some (w6.alloc (.cells #[.int .i64 n, .int .i64 c.kind, .int .i64 c.tag, .int .i64 c.stream, .int .i64 c.mid, .int .i64 c.part, .bool c.last, .bool c.ordered, .slice da' c.data.length dc', .slice sa' c.spans.length sc', .int .i64 c.room, .slice qa' c.skips.length qc'] 71)).heap.size) →
              RvM (EV V w.heap.size) w.heap.size (w7.setCell ⟨w.heap.size, 9, none⟩ v7) w.heap.size { x with pieces := x.pieces ++ [⟨n, c⟩] } (.slice sa1 x.spans.length sc1) v7 (.slice ta1 x.turn.length tc1) (.slice la1 x.log.length lc1) ∧ w7.cell? ⟨w.heap.size, 9, none⟩ = some (.slice pa1 x.pieces.length pc1) ∧ w7.frozen? ⟨w.heap.size, 9, none⟩ = false ∧ Below w.heap.size w (w7.setCell ⟨w.heap.size, 9, none⟩ v7) ∧ Keep (EV V w.heap.size) w5 (w7.setCell ⟨w.heap.size, 9, none⟩ v7)) := by
            intro w6 da' dc' sa' sc' qa' qc' hl6 b6
            have h6 := HRM5.out.below b6
            have sz6 := b6.size
            obtain ⟨vs, hA, hO⟩ := h6.pc
            have hl6' : SnL (OutR (EV V w.heap.size) w.heap.size (.slice pa1 x.pieces.length pc1) (.slice ta1 x.turn.length tc1) (.slice la1 x.log.length lc1) w6) w6 c _ _ _ := hl6.mono fun j hj => ⟨⟨hj.2, by omega, fun e => by have := (HRM5.out.pc.lt e).2; omega, fun e => by have := (HRM5.out.tn.lt _ e).2; omega, fun e => by have := (HRM5.out.lg.lt e).2; omega⟩, fun e => by rcases e with e | e | e <;> omega⟩
            refine ⟨vs, own_of_block hO fun k hk => (box_below w6 _).block k (hO.lt k hk).2, h6.cells.cell 9 _ rfl, by simp; omega, fun v7 w7 o7 g7 a7 => ?_⟩
            obtain ⟨row7, kp7, ho7⟩ := GRow.grown PcI.holds hA (u := pcVal ⟨n, c⟩ _ _ _) (x := ⟨n, c⟩) ⟨_, _, _, rfl, hl6'⟩ (fun k hk => ⟨hk.1.1, hk.1.2.2.1⟩) (by exact o7) g7 a7
            have hc7 := h6.cells.keep kp7 ⟨h6.rlt, h6.pR⟩
            refine ⟨h6.pieces kp7 row7 ho7, hc7.cell 9 _ rfl, hc7.fz 9, ?_, ?_⟩
            · exact Below.setCell (BW5.trans ((b6.mono (by omega)).trans (kp7.below fun k hk => ⟨by omega, fun e => by have := (h6.pc.lt e).1; omega⟩))) (Nat.le_refl _) _
            · refine Keep.setCell ?_ (p := ⟨w.heap.size, 9, none⟩) (fun hk => by have hk' : EV V w.heap.size w.heap.size := hk; rcases hk' with hk' | hk' | hk' <;> omega) _
              exact (toKeep b6 fun k hk => (HRM5.out.eo k hk).1).trans (kp7.mono fun k hk => ⟨(h6.eo k hk).1, (h6.eo k hk).2.2.1⟩)
          have i9 := HRM5.out.cells.cell 9 _ rfl
          have j0 := HCC5.out.cell 0 _ rfl
          have j1 := HCC5.out.cell 1 _ rfl
          have j2 := HCC5.out.cell 2 _ rfl
          have j3 := HCC5.out.cell 3 _ rfl
          have j4 := HCC5.out.cell 4 _ rfl
          have j5 := HCC5.out.cell 5 _ rfl
          have j6 := HCC5.out.cell 6 _ rfl
          have j7 := HCC5.out.cell 7 _ rfl
          have j8 := HCC5.out.cell 8 _ rfl
          have j9 := HCC5.out.cell 9 _ rfl
          have j10 := HCC5.out.cell 10 _ rfl
          have hone : ∀ da' dc' sa' sc' qa' qc', ∀ u ∈ [Value.int .i64 n, .int .i64 c.kind, .int .i64 c.tag, .int .i64 c.stream, .int .i64 c.mid, .int .i64 c.part, .bool c.last, .bool c.ordered, .slice da' c.data.length dc', .slice sa' c.spans.length sc', .int .i64 c.room, .slice qa' c.skips.length qc'], u.oneCell' = true := fun _ _ _ _ _ _ => List.all_eq_true.1 rfl
          have HONE : Hid _ := hone
          have hm1 : x.pieces.length + 1 ≤ maxLen := by unfold maxLen; omega
          have hm2 : (x.pieces.length + 1) * 136 ≤ 140737488355328 := by omega
          have HY5 : Hid (RvM _ _ w5 _ x _ _ _ _) := HRM5.out
          have HD5 : Hid _ := hd'
          have HS5 : Hid _ := hs'
          have HQ5 : Hid _ := hq'
          clear hone hd' hs' hq' H
          go_upto_region 5 with fail
          go_cut [46] from 39 to 47 (fun s46 wx => ∃ a7 c7, s46 = .slice a7 (x.pieces.length + 1) c7 ∧ Hid (RvM (EV V w.heap.size) w.heap.size wx w.heap.size { x with pieces := x.pieces ++ [⟨n, c⟩] } (.slice sa1 x.spans.length sc1) (.slice a7 (x.pieces.length + 1) c7) (.slice ta1 x.turn.length tc1) (.slice la1 x.log.length lc1)) ∧ Hid (Below w.heap.size w wx) ∧ Hid (Keep (EV V w.heap.size) w5 wx))
          case first =>
            go_region_law (first
              | (refine step_call1 rfl 50 (.tmp 42) 42 rfl (.agg #[.int .i64 c.kind, .int .i64 c.tag, .int .i64 c.stream, .int .i64 c.mid, .int .i64 c.part, .bool c.last, .bool c.ordered, .slice da c.data.length dc, .slice ssa c.spans.length ssc, .int .i64 c.room, .slice qa c.skips.length qc]) rfl rfl enters_cOwn _ CO ?_; rintro _ w6 ⟨da', dc', sa', sc', qa', qc', rfl, hl6, b6⟩; obtain ⟨vs, OW6, u9, hb6, AP6⟩ := HAPP.out w6 da' dc' sa' sc' qa' qc' hl6 b6; have HOW : Hid _ := OW6; have HAP : Hid _ := AP6; have n9 := fun o => new_at u9 o; have HL6 : Hid _ := Rw.oneN w6 [.int .i64 n, .int .i64 c.kind, .int .i64 c.tag, .int .i64 c.stream, .int .i64 c.mid, .int .i64 c.part, .bool c.last, .bool c.ordered, .slice da' c.data.length dc', .slice sa' c.spans.length sc', .int .i64 c.room, .slice qa' c.skips.length qc'] 71 12 rfl; clear hl6 OW6 AP6)
              | (refine step_append_rw Try.underlying44 Try.infoPc rfl (by decide) rfl (.tmp 40) (.tmp 45) rfl w.heap.size (.slice pa1 x.pieces.length pc1) x.pieces.length (flatV vs) rfl HOW.out _ 1 _ _ rfl HL6.out (HONE.out _ _ _ _ _ _) hm1 hm2 hb6 ?_; intro v7 w7 o7 g7 a7; obtain ⟨RM7, z9, f9, BE7, KE7⟩ := HAP.out v7 w7 o7 g7 a7; obtain ⟨a8, c8, rfl⟩ := own_form o7; have HQ7 : Hid _ := RM7; have HB7 : Hid _ := BE7; have HK7 : Hid _ := KE7; clear RM7 BE7 KE7 o7 g7 a7))
            all_goals
              go_wp2_with fail
              go_meet
              exact ⟨_, _, rfl, HQ7, HB7, HK7⟩
          case rest =>
            obtain ⟨a7, c7', rfl, HR6, HB6, HK6⟩ := hcut
            obtain ⟨w6, rfl⟩ : ∃ w6, w6 = wc := ⟨wc, rfl⟩
            clear CO HAPP HONE i9 j0 j1 j2 j3 j4 j5 j6 j7 j8 j9 j10 HRM5 HY5
            have hsz6 := HK6.out.size
            have HCT6 : Hid (Cells (w.heap.size + 2) w6 [.int .i64 0, .int .i64 0, .int .i64 0, .int .i64 0, .int .i64 0, .int .i64 0, .int .i64 0, .int .i64 0, .slice none 0 0, .slice none 0 0, .slice none 0 0, .slice none 0 0]) := HCT5.out.keep HK6.out (.inr (.inl rfl))
            have HCC6 : Hid (Cells (w.heap.size + 1) w6 [.int .i64 c.kind, .int .i64 c.tag, .int .i64 c.stream, .int .i64 c.mid, .int .i64 c.part, .bool c.last, .bool c.ordered, .slice da c.data.length dc, .slice ssa c.spans.length ssc, .int .i64 c.room, .slice qa c.skips.length qc]) := HCC5.out.keep HK6.out (.inl rfl)
            have HNB : Hid (x.cum < n ∧ n ≤ x.cum + 32768) := by
              refine ⟨hw1, ?_⟩
              rw [← HN.out]
              unfold nearM
              simp only
              split <;> omega
            have hnb := HNB.out
            have hsl := hst.sz.sp
            have BD6 : Below w6.heap.size w6 w6.drew := below_drew' (Below.refl _ _)
            have AD : Calls Try.prog 57 #[.slice sa1 x.spans.length sc1, .int .i64 n] w6.drew fun e w' => ∃ v, e = .returned v ∧ Sl w'.heap.size w' v (addM x.spans n) ∧ Below w6.heap.size w6 w' := (add_any _ x.spans n w6.drew (HR6.out.sp.size BD6 (Nat.le_refl _)) ⟨by omega, by omega⟩ (by omega)).mono fun e w' ⟨v, h1, h2, h3⟩ => ⟨v, h1, h2, BD6.trans h3⟩
            have UP : ∀ v wx, Sl wx.heap.size wx v (addM x.spans n) → Calls Try.prog 56 #[v, .int .i64 x.cum] wx fun e w' => ∃ u, e = .returned u ∧ ∃ a c, u = .tuple #[.int .i64 (upM (addM x.spans n) x.cum).1, .slice a (upM (addM x.spans n) x.cum).2.length c] ∧ Sl w'.heap.size w' (.slice a (upM (addM x.spans n) x.cum).2.length c) (upM (addM x.spans n) x.cum).2 ∧ Below wx.heap.size wx w' ∧ InS (fun k => wx.heap.size ≤ k) (.slice a (upM (addM x.spans n) x.cum).2.length c) := fun v wx hv => (up_any v _ x.cum wx hv ⟨by omega, by omega⟩ (by have := addM_len x.spans n; omega)).mono fun e w' ⟨v', h1, h2, h3, h4⟩ => by
              obtain ⟨a, c, rfl⟩ := h2.ex
              exact ⟨_, h1, a, c, rfl, h2, h3, h4⟩
            have HWENT : Hid (∀ w8 a8 c8, Below w6.heap.size w6 w8 → Sl w8.heap.size w8 (.slice a8 (upM (addM x.spans n) x.cum).2.length c8) (upM (addM x.spans n) x.cum).2 → InS (fun k => w6.heap.size ≤ k) (.slice a8 (upM (addM x.spans n) x.cum).2.length c8) → RvM (EV V w.heap.size) w.heap.size ((w8.setCell ⟨w.heap.size, 7, none⟩ (.int .i64 (upM (addM x.spans n) x.cum).1)).setCell ⟨w.heap.size, 8, none⟩ (.slice a8 (upM (addM x.spans n) x.cum).2.length c8)) w.heap.size (keptM x c) (.slice a8 (upM (addM x.spans n) x.cum).2.length c8) (.slice a7 (x.pieces.length + 1) c7') (.slice ta1 x.turn.length tc1) (.slice la1 x.log.length lc1) ∧ Cells w.heap.size w8 _) := fun w8 a8 c8 b8 hs8 hi8 => by
              have := HR6.out.went b8 (cum := (upM (addM x.spans n) x.cum).1) hs8 hi8
              refine ⟨?_, (HR6.out.below b8).cells⟩
              unfold keptM
              rw [HN.out]
              exact this
            have i7 := HR6.out.cells.cell 7 _ rfl
            have i8 := HR6.out.cells.cell 8 _ rfl
            have HCX6 : Hid _ := HR6.out.cells
            have HU : Hid ((upM (addM x.spans n) x.cum).1 = (upM (addM x.spans n) x.cum).1) := rfl
            generalize hu1 : (upM (addM x.spans n) x.cum).1 = u1 at *
            generalize hu2 : (upM (addM x.spans n) x.cum).2 = u2 at *
            clear hu1 hu2 HU
            go_upto_region 6 with fail
            go_cut [59] from 48 to 59 (fun s59 wx => ∃ a8 c8, s59 = .pointer (some ⟨w.heap.size, 8, none⟩) ∧ Hid (RvM (EV V w.heap.size) w.heap.size wx w.heap.size (keptM x c) (.slice a8 u2.length c8) (.slice a7 (x.pieces.length + 1) c7') (.slice ta1 x.turn.length tc1) (.slice la1 x.log.length lc1)) ∧ Hid (Keep (fun k => k < w6.heap.size ∧ k ≠ w.heap.size) w6 wx))
            case first =>
              go_region_law (first
                | (refine step_call2 rfl 57 (.tmp 50) (.tmp 51) _ rfl (.slice sa1 x.spans.length sc1) (.int .i64 n) rfl rfl rfl enters_add _ AD ?_; rintro v7 w7 ⟨hs7, b7⟩; have y7 := (HCX6.out.below b7 (by omega)).cell 7 _ rfl; have HS7 : Hid _ := hs7; have UP7 := UP v7 w7 hs7; obtain ⟨av, cv, rfl⟩ := hs7.ex; clear hs7)
                | (refine step_call2 rfl 56 (.tmp 52) (.tmp 54) _ rfl (.slice av (addM x.spans n).length cv) (.int .i64 x.cum) rfl rfl rfl enters_up _ UP7 ?_; rintro _ w8 ⟨a8, c8, rfl, hs8, b8, hi8⟩; have B8 : Below w6.heap.size w6 w8 := b7.trans (b8.mono b7.size); obtain ⟨RM8, CX8⟩ := HWENT.out w8 a8 c8 B8 hs8 (hi8.mono fun k hk => Nat.le_trans b7.size hk); have v7' := CX8.cell 7 _ rfl; have v8' := CX8.cell 8 _ rfl; have f7' := CX8.fz 7; have f8' := CX8.fz 8; have HQ8 : Hid _ := RM8; clear RM8 CX8 hs8 hi8))
              all_goals
                have HK8 : Hid (Keep (fun k => k < w6.heap.size ∧ k ≠ w.heap.size) w6 ((w8.setCell ⟨w.heap.size, 7, none⟩ (.int .i64 u1)).setCell ⟨w.heap.size, 8, none⟩ (.slice a8 u2.length c8))) := Keep.setCell (Keep.setCell (toKeep B8 fun k hk => hk.1) (p := ⟨w.heap.size, 7, none⟩) (fun h => h.2 rfl) _) (p := ⟨w.heap.size, 8, none⟩) (fun h => h.2 rfl) _
                go_wp2_with fail
                go_meet
                exact ⟨_, _, rfl, HQ8, HK8⟩
            case rest =>
              obtain ⟨a8, c8, rfl, HR8, HK8⟩ := hcut
              obtain ⟨w8, rfl⟩ : ∃ w8, w8 = wc := ⟨wc, rfl⟩
              clear AD UP HWENT i7 i8 HCX6
              have hsz8 := HK8.out.size
              have HCT8 : Hid (Cells (w.heap.size + 2) w8 [.int .i64 0, .int .i64 0, .int .i64 0, .int .i64 0, .int .i64 0, .int .i64 0, .int .i64 0, .int .i64 0, .slice none 0 0, .slice none 0 0, .slice none 0 0, .slice none 0 0]) := HCT6.out.keep HK8.out ⟨by omega, by omega⟩
              have HCC8 : Hid (Cells (w.heap.size + 1) w8 [.int .i64 c.kind, .int .i64 c.tag, .int .i64 c.stream, .int .i64 c.mid, .int .i64 c.part, .bool c.last, .bool c.ordered, .slice da c.data.length dc, .slice ssa c.spans.length ssc, .int .i64 c.room, .slice qa c.skips.length qc]) := HCC6.out.keep HK8.out ⟨by omega, by omega⟩
              have BW8 : Below w.heap.size w w8 := HB6.out.trans (HK8.out.below fun k hk => ⟨by omega, by omega⟩)
              have hstr : hasM x c.stream := of_decide_eq_true hh
              have q6 := HCC8.out.cell 6 _ rfl
              have q2 := HCC8.out.cell 2 _ rfl
              have hsi : ((c.stream.toNat : Nat) : Int) = c.stream := by have := hstr.1; omega
              have hsl2 : c.stream.toNat < (keptM x c).turn.length := by have := hstr.1; have := hstr.2; show _ < x.turn.length; omega
              have HKO : Hid (OkR K (keptM x c)) := hok
              cases ho : c.ordered with
              | true =>
                have TT := takeTurns_any (EV V w.heap.size) w.heap.size w.heap.size K (keptM x c) c.stream.toNat w8 ⟨_, _, _, _, HR8.out⟩ hok hsl2 hK
                rw [hsi] at TT
                have HREC : Hid (recvM x c = turnsM (keptM x c) c.stream) := by show _ = _; rw [recvM, if_pos HYES.out, if_pos ho]
                rw [ho] at q6
                clear hok
                go_wp2_with fail
                refine TT.mono ?_
                rintro e w10 ⟨⟨r10, rfl⟩, RXZ, KZ, BZ⟩
                clear TT q6 q2 HR8
                generalize turnsM (keptM x c) c.stream = y at *
                obtain ⟨sz0, pz0, tz0, lz0, RZ⟩ := RXZ
                obtain ⟨sz, cz, pz, qz, tz, uz, lz, vz, rfl, rfl, rfl, rfl⟩ := RZ.form
                have HCT9 : Cells (w.heap.size + 2) w10 [.int .i64 0, .int .i64 0, .int .i64 0, .int .i64 0, .int .i64 0, .int .i64 0, .int .i64 0, .int .i64 0, .slice none 0 0, .slice none 0 0, .slice none 0 0, .slice none 0 0] := HCT8.out.keep KZ (.inr (.inl rfl))
                have RNG := RZ.cells.range
                have TH : w10.there (w.heap.size + 2) 0 12 := HCT9.there
                have CE := HCT9.setAll [.int .i64 y.cf.streams, .int .i64 y.cf.part, .int .i64 y.cf.packet, .int .i64 y.cf.paths, .int .i64 y.cf.turns, .int .i64 y.cf.waiting, .int .i64 y.cf.first, .int .i64 y.cum, .slice sz y.spans.length cz, .slice pz y.pieces.length qz, .slice tz y.turn.length uz, .slice lz y.log.length vz] rfl
                have FIN : Hid (RvI (fun k => V k ∨ w.heap.size ≤ k) (w10.setCells (w.heap.size + 2) 0 [.int .i64 y.cf.streams, .int .i64 y.cf.part, .int .i64 y.cf.packet, .int .i64 y.cf.paths, .int .i64 y.cf.turns, .int .i64 y.cf.waiting, .int .i64 y.cf.first, .int .i64 y.cum, .slice sz y.spans.length cz, .slice pz y.pieces.length qz, .slice tz y.turn.length uz, .slice lz y.log.length vz]) y (.slice sz y.spans.length cz) (.slice pz y.pieces.length qz) (.slice tz y.turn.length uz) (.slice lz y.log.length vz)) := (RZ.rviE (Keep.setCells (fun hh => hh.2.1 (.inr (.inl rfl))) _ _ (Keep.refl _ _))).ev
                have BE : Below w.heap.size w (w10.setCells (w.heap.size + 2) 0 [.int .i64 y.cf.streams, .int .i64 y.cf.part, .int .i64 y.cf.packet, .int .i64 y.cf.paths, .int .i64 y.cf.turns, .int .i64 y.cf.waiting, .int .i64 y.cf.first, .int .i64 y.cum, .slice sz y.spans.length cz, .slice pz y.pieces.length qz, .slice tz y.turn.length uz, .slice lz y.log.length vz]) := Below.setCells (by omega) _ _ (BW8.trans BZ)
                have e0 := CE.cell 0 _ rfl
                have e1 := CE.cell 1 _ rfl
                have e2 := CE.cell 2 _ rfl
                have e3 := CE.cell 3 _ rfl
                have e4 := CE.cell 4 _ rfl
                have e5 := CE.cell 5 _ rfl
                have e6 := CE.cell 6 _ rfl
                have e7 := CE.cell 7 _ rfl
                have e8 := CE.cell 8 _ rfl
                have e9 := CE.cell 9 _ rfl
                have e10 := CE.cell 10 _ rfl
                have e11 := CE.cell 11 _ rfl
                clear CE HCT9 RZ
                go_wp2_with (first
                  | refine wpList_ldR rfl (.tmp 2) rfl w.heap.size 0 rfl y _ _ _ _ (by with_reducible exact RNG) ?_
                  | refine wpList_srN 47 12 Try.sizeRv rfl (.tmp 4) (.tmp 68) rfl (w.heap.size + 2) 0 rfl [.int .i64 y.cf.streams, .int .i64 y.cf.part, .int .i64 y.cf.packet, .int .i64 y.cf.paths, .int .i64 y.cf.turns, .int .i64 y.cf.waiting, .int .i64 y.cf.first, .int .i64 y.cum, .slice sz y.spans.length cz, .slice pz y.pieces.length qz, .slice tz y.turn.length uz, .slice lz y.log.length vz] rfl rfl rfl (by with_reducible exact TH) ?_)
                generalize w10.setCells (w.heap.size + 2) 0 [.int .i64 y.cf.streams, .int .i64 y.cf.part, .int .i64 y.cf.packet, .int .i64 y.cf.paths, .int .i64 y.cf.turns, .int .i64 y.cf.waiting, .int .i64 y.cf.first, .int .i64 y.cum, .slice sz y.spans.length cz, .slice pz y.pieces.length qz, .slice tz y.turn.length uz, .slice lz y.log.length vz] = w9 at *
                refine bodyPost_ret (v := .agg #[.int .i64 y.cf.streams, .int .i64 y.cf.part, .int .i64 y.cf.packet, .int .i64 y.cf.paths, .int .i64 y.cf.turns, .int .i64 y.cf.waiting, .int .i64 y.cf.first, .int .i64 y.cum, .slice sz y.spans.length cz, .slice pz y.pieces.length qz, .slice tz y.turn.length uz, .slice lz y.log.length vz]) (by simp [results, Try.results28, go_sem, e0, e1, e2, e3, e4, e5, e6, e7, e8, e9, e10, e11]) rfl ?_
                rw [HREC.out]
                exact ⟨_, _, _, _, rfl, FIN.out, BE⟩
              | false =>
                have MO := messageOf_any c da c.data.length dc ssa c.spans.length ssc qa c.skips.length qc w8
                have DE : ∀ wx, Below w8.heap.size w8 wx → Calls Try.prog 59 #[.pointer (some ⟨w.heap.size, 0, none⟩), .agg #[.int .i64 c.stream, .int .i64 c.mid, .bool c.ordered]] wx fun e w' => e = .returned (.bool (wholeM (keptM x c) ⟨c.stream, c.mid, c.ordered⟩)) ∧ RvX (EV V w.heap.size) w.heap.size w' w.heap.size (delivM (keptM x c) ⟨c.stream, c.mid, c.ordered⟩) ∧ Keep (EV V w.heap.size) w8 w' ∧ Below w.heap.size w8 w' := fun wx hb => (deliver_any (EV V w.heap.size) w.heap.size w.heap.size (keptM x c) ⟨c.stream, c.mid, c.ordered⟩ wx ⟨_, _, _, _, HR8.out.below hb⟩ hok.fit).mono fun e w' ⟨h1, h2, h3, h4⟩ => ⟨h1, h2, (toKeep hb fun k hk => (HR8.out.eo k hk).1).trans h3, (hb.mono (by omega)).trans h4⟩
                have HREC : Hid (recvM x c = delivM (keptM x c) ⟨c.stream, c.mid, c.ordered⟩) := by show _ = _; rw [recvM, if_pos HYES.out, if_neg (by simp [ho])]
                have RNC := HCC8.out.range
                rw [ho] at q6
                have HOR : Hid (c.ordered = false) := ho
                clear hok ho
                go_wp2_with (refine wpList_ldC rfl (.tmp 3) rfl (w.heap.size + 1) 0 rfl c _ _ _ (by with_reducible exact RNC) ?_)
                refine MO.mono ?_
                rintro e w9 ⟨rfl, b9⟩
                go_wp2_with fail
                refine (DE w9 b9).mono ?_
                rintro e w10 ⟨rfl, RXZ, KZ, BZ⟩
                clear MO DE q6 q2 HR8 RNC
                generalize delivM (keptM x c) ⟨c.stream, c.mid, c.ordered⟩ = y at *
                obtain ⟨sz0, pz0, tz0, lz0, RZ⟩ := RXZ
                obtain ⟨sz, cz, pz, qz, tz, uz, lz, vz, rfl, rfl, rfl, rfl⟩ := RZ.form
                have HCT9 : Cells (w.heap.size + 2) w10 [.int .i64 0, .int .i64 0, .int .i64 0, .int .i64 0, .int .i64 0, .int .i64 0, .int .i64 0, .int .i64 0, .slice none 0 0, .slice none 0 0, .slice none 0 0, .slice none 0 0] := HCT8.out.keep KZ (.inr (.inl rfl))
                have RNG := RZ.cells.range
                have TH : w10.there (w.heap.size + 2) 0 12 := HCT9.there
                have CE := HCT9.setAll [.int .i64 y.cf.streams, .int .i64 y.cf.part, .int .i64 y.cf.packet, .int .i64 y.cf.paths, .int .i64 y.cf.turns, .int .i64 y.cf.waiting, .int .i64 y.cf.first, .int .i64 y.cum, .slice sz y.spans.length cz, .slice pz y.pieces.length qz, .slice tz y.turn.length uz, .slice lz y.log.length vz] rfl
                have FIN : Hid (RvI (fun k => V k ∨ w.heap.size ≤ k) (w10.setCells (w.heap.size + 2) 0 [.int .i64 y.cf.streams, .int .i64 y.cf.part, .int .i64 y.cf.packet, .int .i64 y.cf.paths, .int .i64 y.cf.turns, .int .i64 y.cf.waiting, .int .i64 y.cf.first, .int .i64 y.cum, .slice sz y.spans.length cz, .slice pz y.pieces.length qz, .slice tz y.turn.length uz, .slice lz y.log.length vz]) y (.slice sz y.spans.length cz) (.slice pz y.pieces.length qz) (.slice tz y.turn.length uz) (.slice lz y.log.length vz)) := (RZ.rviE (Keep.setCells (fun hh => hh.2.1 (.inr (.inl rfl))) _ _ (Keep.refl _ _))).ev
                have BE : Below w.heap.size w (w10.setCells (w.heap.size + 2) 0 [.int .i64 y.cf.streams, .int .i64 y.cf.part, .int .i64 y.cf.packet, .int .i64 y.cf.paths, .int .i64 y.cf.turns, .int .i64 y.cf.waiting, .int .i64 y.cf.first, .int .i64 y.cum, .slice sz y.spans.length cz, .slice pz y.pieces.length qz, .slice tz y.turn.length uz, .slice lz y.log.length vz]) := Below.setCells (by omega) _ _ (BW8.trans BZ)
                have e0 := CE.cell 0 _ rfl
                have e1 := CE.cell 1 _ rfl
                have e2 := CE.cell 2 _ rfl
                have e3 := CE.cell 3 _ rfl
                have e4 := CE.cell 4 _ rfl
                have e5 := CE.cell 5 _ rfl
                have e6 := CE.cell 6 _ rfl
                have e7 := CE.cell 7 _ rfl
                have e8 := CE.cell 8 _ rfl
                have e9 := CE.cell 9 _ rfl
                have e10 := CE.cell 10 _ rfl
                have e11 := CE.cell 11 _ rfl
                clear CE HCT9 RZ
                go_wp2_with (first
                  | refine wpList_ldR rfl (.tmp 2) rfl w.heap.size 0 rfl y _ _ _ _ (by with_reducible exact RNG) ?_
                  | refine wpList_srN 47 12 Try.sizeRv rfl (.tmp 4) (.tmp 68) rfl (w.heap.size + 2) 0 rfl [.int .i64 y.cf.streams, .int .i64 y.cf.part, .int .i64 y.cf.packet, .int .i64 y.cf.paths, .int .i64 y.cf.turns, .int .i64 y.cf.waiting, .int .i64 y.cf.first, .int .i64 y.cum, .slice sz y.spans.length cz, .slice pz y.pieces.length qz, .slice tz y.turn.length uz, .slice lz y.log.length vz] rfl rfl rfl (by with_reducible exact TH) ?_)
                generalize w10.setCells (w.heap.size + 2) 0 [.int .i64 y.cf.streams, .int .i64 y.cf.part, .int .i64 y.cf.packet, .int .i64 y.cf.paths, .int .i64 y.cf.turns, .int .i64 y.cf.waiting, .int .i64 y.cf.first, .int .i64 y.cum, .slice sz y.spans.length cz, .slice pz y.pieces.length qz, .slice tz y.turn.length uz, .slice lz y.log.length vz] = w9 at *
                refine bodyPost_ret (v := .agg #[.int .i64 y.cf.streams, .int .i64 y.cf.part, .int .i64 y.cf.packet, .int .i64 y.cf.paths, .int .i64 y.cf.turns, .int .i64 y.cf.waiting, .int .i64 y.cf.first, .int .i64 y.cum, .slice sz y.spans.length cz, .slice pz y.pieces.length qz, .slice tz y.turn.length uz, .slice lz y.log.length vz]) (by simp [results, Try.results28, go_sem, e0, e1, e2, e3, e4, e5, e6, e7, e8, e9, e10, e11]) rfl ?_
                rw [HREC.out]
                exact ⟨_, _, _, _, rfl, FIN.out, BE⟩

theorem rdata_any (K : Int) (x : Rc) (c : Ck) (s p t l d sp q : Value) (w : World) (h : RvS w.heap.size w x s p t l) (hd : By w.heap.size w d c.data) (hs : Sl w.heap.size w sp c.spans) (hq : Kl w.heap.size w q c.skips) (hf : CkFit c) (hdl : c.data.length ≤ 1048576) (hst : StR x) (hok : OkR K (keptM x c)) (hK : K ≤ 1099511627776) :
    Calls Try.prog 28 #[.agg #[.int .i64 x.cf.streams, .int .i64 x.cf.part, .int .i64 x.cf.packet, .int .i64 x.cf.paths, .int .i64 x.cf.turns, .int .i64 x.cf.waiting, .int .i64 x.cf.first, .int .i64 x.cum, s, p, t, l], .agg #[.int .i64 c.kind, .int .i64 c.tag, .int .i64 c.stream, .int .i64 c.mid, .int .i64 c.part, .bool c.last, .bool c.ordered, d, sp, .int .i64 c.room, q]] w fun e w' => ∃ s' p' t' l', e = .returned (.agg #[.int .i64 (recvM x c).cf.streams, .int .i64 (recvM x c).cf.part, .int .i64 (recvM x c).cf.packet, .int .i64 (recvM x c).cf.paths, .int .i64 (recvM x c).cf.turns, .int .i64 (recvM x c).cf.waiting, .int .i64 (recvM x c).cf.first, .int .i64 (recvM x c).cum, s', p', t', l']) ∧ RvS w'.heap.size w' (recvM x c) s' p' t' l' ∧ Below w.heap.size w w' :=
  (rdata_in _ K x c s p t l d sp q w (RvI.of h (Nat.le_refl _)) (fun _ hk => hk) hd hs hq hf hdl hst (fun _ => hok) hK).mono fun _ _ ⟨s', p', t', l', he, h1, h2⟩ => ⟨s', p', t', l', he, h1.r, h2⟩
end Go.Proofs.Ytnddejdndipddad
