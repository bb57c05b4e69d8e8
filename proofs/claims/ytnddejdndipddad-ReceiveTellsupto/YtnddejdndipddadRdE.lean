/- The document's receivers: Turns. -/
import Derived.Test.YtnddejdndipddadRdB
import Derived.Test.YtnddejdndipddadRcQ
set_option maxRecDepth 20000
namespace Go.Proofs.Ytnddejdndipddad
open Go.RowKit

theorem enters_rtag (args : Array Value) (wx : World) : (callFunc 38 args).run Try.prog wx = .ok (.enter 38 args) wx := enters_body Try.func38 (by kernel_rfl) rfl args wx
theorem enters_rdeliver (args : Array Value) (wx : World) : (callFunc 66 args).run Try.prog wx = .ok (.enter 66 args) wx := enters_body Try.func66 (by kernel_rfl) rfl args wx
/-- Its lists lie in blocks that there are. -/
theorem RvI.lt {V : Nat → Prop} {w : World} {x : Rc} {s p t l : Value} (h : RvI V w x s p t l) : RvI (fun k => V k ∧ k < w.heap.size) w x s p t l := by
  obtain ⟨vs, a1, a2⟩ := h.p
  obtain ⟨us, b1, b2⟩ := h.l
  have both : ∀ {v : Value}, InS V v → InS (fun k => k < w.heap.size) v → InS (fun k => V k ∧ k < w.heap.size) v := fun h1 h2 b off sp n c e hn => ⟨h1 b off sp n c e hn, h2 b off sp n c e hn⟩
  refine ⟨h.r, both h.si h.r.s.rw'.ins, both h.pi a2.ins, both h.ti h.r.t.1.ins, both h.li b2.ins, ⟨vs, a1.imp fun v p hp => ?_, a2⟩, ⟨us, b1.imp fun v p hp => ?_, b2⟩⟩
  · obtain ⟨d, s, q, e, hl⟩ := hp
    exact ⟨d, s, q, e, hl.d, hl.s, hl.q, both hl.id hl.d.1.ins, both hl.is hl.s.rw'.ins, both hl.iq hl.q.ins⟩
  · obtain ⟨d, e, hb, hi⟩ := hp
    exact ⟨d, e, hb, both hi hb.1.ins⟩
/-- Its turns are others. -/
theorem RvI.withT {V : Nat → Prop} {w : World} {x : Rc} {s p t l t' : Value} {L : List Int} (h : RvI V w x s p t l) (ht : In w.heap.size w t' L) (hi : InS V t') : RvI V w { x with turn := L } s p t' l :=
  ⟨⟨h.r.s, h.r.p, ht, h.r.l⟩, h.si, h.pi, hi, h.li, h.p, h.l⟩

set_option maxHeartbeats 4000000 in
theorem rturns_in (V : Nat → Prop) (K : Int) (x : Rc) (i : Nat) (s p t l : Value) (w : World) (h : RvI V w x s p t l) (hv : ∀ k, V k → k < w.heap.size) (hok : OkR K x) (hi : i < x.turn.length) (hK : K ≤ 1099511627776) (htl : x.turn.length ≤ 2147483647) :
    Calls Try.prog 65 #[.agg #[.int .i64 x.cf.streams, .int .i64 x.cf.part, .int .i64 x.cf.packet, .int .i64 x.cf.paths, .int .i64 x.cf.turns, .int .i64 x.cf.waiting, .int .i64 x.cf.first, .int .i64 x.cum, s, p, t, l], .int .i64 (i : Int)] w fun e w' => ∃ s' p' t' l', e = .returned (.agg #[.int .i64 (turnsM x i).cf.streams, .int .i64 (turnsM x i).cf.part, .int .i64 (turnsM x i).cf.packet, .int .i64 (turnsM x i).cf.paths, .int .i64 (turnsM x i).cf.turns, .int .i64 (turnsM x i).cf.waiting, .int .i64 (turnsM x i).cf.first, .int .i64 (turnsM x i).cum, s', p', t', l']) ∧ RvI (fun k => V k ∨ w.heap.size ≤ k) w' (turnsM x i) s' p' t' l' ∧ Below w.heap.size w w' := by
  obtain ⟨sa, sc, pa, pc, ta, tc, la, lc, rfl, rfl, rfl, rfl⟩ := h.r.ex
  have B0 := two_below w (.cells #[.int .i64 x.cf.streams, .int .i64 x.cf.part, .int .i64 x.cf.packet, .int .i64 x.cf.paths, .int .i64 x.cf.turns, .int .i64 x.cf.waiting, .int .i64 x.cf.first, .int .i64 x.cum, .slice sa x.spans.length sc, .slice pa x.pieces.length pc, .slice ta x.turn.length tc, .slice la x.log.length lc] 47) (.cells #[.int .i64 0, .int .i64 0, .int .i64 0, .int .i64 0, .int .i64 0, .int .i64 0, .int .i64 0, .int .i64 0, .slice none 0 0, .slice none 0 0, .slice none 0 0, .slice none 0 0] 47)
  have CX0 : Cells w.heap.size ((w.alloc (.cells #[.int .i64 x.cf.streams, .int .i64 x.cf.part, .int .i64 x.cf.packet, .int .i64 x.cf.paths, .int .i64 x.cf.turns, .int .i64 x.cf.waiting, .int .i64 x.cf.first, .int .i64 x.cum, .slice sa x.spans.length sc, .slice pa x.pieces.length pc, .slice ta x.turn.length tc, .slice la x.log.length lc] 47)).alloc (.cells #[.int .i64 0, .int .i64 0, .int .i64 0, .int .i64 0, .int .i64 0, .int .i64 0, .int .i64 0, .int .i64 0, .slice none 0 0, .slice none 0 0, .slice none 0 0, .slice none 0 0] 47)) [.int .i64 x.cf.streams, .int .i64 x.cf.part, .int .i64 x.cf.packet, .int .i64 x.cf.paths, .int .i64 x.cf.turns, .int .i64 x.cf.waiting, .int .i64 x.cf.first, .int .i64 x.cum, .slice sa x.spans.length sc, .slice pa x.pieces.length pc, .slice ta x.turn.length tc, .slice la x.log.length lc] := (Cells.new w #[.int .i64 x.cf.streams, .int .i64 x.cf.part, .int .i64 x.cf.packet, .int .i64 x.cf.paths, .int .i64 x.cf.turns, .int .i64 x.cf.waiting, .int .i64 x.cf.first, .int .i64 x.cum, .slice sa x.spans.length sc, .slice pa x.pieces.length pc, .slice ta x.turn.length tc, .slice la x.log.length lc] 47).alloc (by simp) _
  have CT0 : Cells (w.heap.size + 1) ((w.alloc (.cells #[.int .i64 x.cf.streams, .int .i64 x.cf.part, .int .i64 x.cf.packet, .int .i64 x.cf.paths, .int .i64 x.cf.turns, .int .i64 x.cf.waiting, .int .i64 x.cf.first, .int .i64 x.cum, .slice sa x.spans.length sc, .slice pa x.pieces.length pc, .slice ta x.turn.length tc, .slice la x.log.length lc] 47)).alloc (.cells #[.int .i64 0, .int .i64 0, .int .i64 0, .int .i64 0, .int .i64 0, .int .i64 0, .int .i64 0, .int .i64 0, .slice none 0 0, .slice none 0 0, .slice none 0 0, .slice none 0 0] 47)) [.int .i64 0, .int .i64 0, .int .i64 0, .int .i64 0, .int .i64 0, .int .i64 0, .int .i64 0, .int .i64 0, .slice none 0 0, .slice none 0 0, .slice none 0 0, .slice none 0 0] := Cells.new' #[.int .i64 0, .int .i64 0, .int .i64 0, .int .i64 0, .int .i64 0, .int .i64 0, .int .i64 0, .int .i64 0, .slice none 0 0, .slice none 0 0, .slice none 0 0, .slice none 0 0] 47 (by simp)
  have HZ : w.heap.size + 2 ≤ ((w.alloc (.cells #[.int .i64 x.cf.streams, .int .i64 x.cf.part, .int .i64 x.cf.packet, .int .i64 x.cf.paths, .int .i64 x.cf.turns, .int .i64 x.cf.waiting, .int .i64 x.cf.first, .int .i64 x.cum, .slice sa x.spans.length sc, .slice pa x.pieces.length pc, .slice ta x.turn.length tc, .slice la x.log.length lc] 47)).alloc (.cells #[.int .i64 0, .int .i64 0, .int .i64 0, .int .i64 0, .int .i64 0, .int .i64 0, .int .i64 0, .int .i64 0, .slice none 0 0, .slice none 0 0, .slice none 0 0, .slice none 0 0] 47)).heap.size := by simp
  have H0 : Hid (RvI (fun k => V k ∨ w.heap.size + 2 ≤ k) ((w.alloc (.cells #[.int .i64 x.cf.streams, .int .i64 x.cf.part, .int .i64 x.cf.packet, .int .i64 x.cf.paths, .int .i64 x.cf.turns, .int .i64 x.cf.waiting, .int .i64 x.cf.first, .int .i64 x.cum, .slice sa x.spans.length sc, .slice pa x.pieces.length pc, .slice ta x.turn.length tc, .slice la x.log.length lc] 47)).alloc (.cells #[.int .i64 0, .int .i64 0, .int .i64 0, .int .i64 0, .int .i64 0, .int .i64 0, .int .i64 0, .int .i64 0, .slice none 0 0, .slice none 0 0, .slice none 0 0, .slice none 0 0] 47)) x (.slice sa x.spans.length sc) (.slice pa x.pieces.length pc) (.slice ta x.turn.length tc) (.slice la x.log.length lc)) := (h.keep (toKeep B0 fun k hk => hv k hk)).mono fun _ hk => .inl hk
  clear h
  go_enter Try.func65, Try.ntmps65
  go_wp2_with fail
  generalize ((w.alloc (.cells #[.int .i64 x.cf.streams, .int .i64 x.cf.part, .int .i64 x.cf.packet, .int .i64 x.cf.paths, .int .i64 x.cf.turns, .int .i64 x.cf.waiting, .int .i64 x.cf.first, .int .i64 x.cum, .slice sa x.spans.length sc, .slice pa x.pieces.length pc, .slice ta x.turn.length tc, .slice la x.log.length lc] 47)).alloc (.cells #[.int .i64 0, .int .i64 0, .int .i64 0, .int .i64 0, .int .i64 0, .int .i64 0, .int .i64 0, .int .i64 0, .slice none 0 0, .slice none 0 0, .slice none 0 0, .slice none 0 0] 47)) = w0 at *
  go_loopw [6] (fun _ wr => ∃ y s p t l, Hid (Cells w.heap.size wr [.int .i64 y.cf.streams, .int .i64 y.cf.part, .int .i64 y.cf.packet, .int .i64 y.cf.paths, .int .i64 y.cf.turns, .int .i64 y.cf.waiting, .int .i64 y.cf.first, .int .i64 y.cum, s, p, t, l]) ∧ Hid (Cells (w.heap.size + 1) wr [.int .i64 0, .int .i64 0, .int .i64 0, .int .i64 0, .int .i64 0, .int .i64 0, .int .i64 0, .int .i64 0, .slice none 0 0, .slice none 0 0, .slice none 0 0, .slice none 0 0]) ∧ Hid (RvI (fun k => V k ∨ w.heap.size + 2 ≤ k) wr y s p t l) ∧ Hid (turnsM y i = turnsM x i) ∧ Hid (OkR K y) ∧ Hid (y.turn.length = x.turn.length) ∧ Below w.heap.size w wr ∧ w.heap.size + 2 ≤ wr.heap.size) (fun _ wr => lenAt wr w.heap.size)
  case atStart => exact ⟨x, _, _, _, _, CX0, CT0, H0.out, rfl, hok, rfl, B0, by omega⟩
  case round =>
    obtain ⟨y, s, p, t, l, HX, HT, HY, HTU, HO, HL, BR, szr⟩ := hrel
    obtain ⟨sa, sc, pa, pc, ta, tc, la, lc, rfl, rfl, rfl, rfl⟩ := HY.out.r.ex
    have hi' : i < y.turn.length := by rw [HL.out]; exact hi
    have hs : hasM y (i : Int) := ⟨by omega, by omega⟩
    have hat := HO.out.at hs
    have HM : Hid (lenAt wr w.heap.size = y.pieces.length) := by
      show _ = _
      unfold lenAt
      rw [HX.out.cell 9 _ rfl]
    obtain ⟨tb, toff, htb, hix, ct⟩ := HY.out.r.turnAt hi'
    have HST : Hid (wholeM y (numM i (turnAt y i)) = false → turnsM y i = y ∧ delivM y (numM i (turnAt y i)) = y) := fun hw => ⟨turnsM_stop hw, by rw [delivM, if_neg (by simp [hw])]⟩
    have HGO : Hid (wholeM y (numM i (turnAt y i)) = true → turnsM (setTurn (delivM y (numM i (turnAt y i))) i (turnAt y i + 1)) i = turnsM y i ∧ OkR K (setTurn (delivM y (numM i (turnAt y i))) i (turnAt y i + 1)) ∧ (delivM y (numM i (turnAt y i))).pieces.length < y.pieces.length) := fun hw => ⟨(turnsM_go hw).symm, HO.out.step hs hw, deliv_len hw⟩
    have HDT : Hid ((delivM y (numM i (turnAt y i))).turn = y.turn) := (deliv_turn y _).1
    have hTN : turnAt (delivM y (numM i (turnAt y i))) i = turnAt y i := by
      have e := HDT.out
      show (delivM y (numM i (turnAt y i))).turn.getD _ 0 = y.turn.getD _ 0
      rw [e]
    have HTN : Hid (turnAt (delivM y (numM i (turnAt y i))) i = turnAt y i) := hTN
    clear hTN
    have DEL : ∀ wx, Below wr.heap.size wr wx → Calls Try.prog 66 #[.agg #[.int .i64 y.cf.streams, .int .i64 y.cf.part, .int .i64 y.cf.packet, .int .i64 y.cf.paths, .int .i64 y.cf.turns, .int .i64 y.cf.waiting, .int .i64 y.cf.first, .int .i64 y.cum, .slice sa y.spans.length sc, .slice pa y.pieces.length pc, .slice ta y.turn.length tc, .slice la y.log.length lc], .agg #[.int .i64 0, .int .i64 0, .int .i64 (i : Int), .int .i64 (turnAt y i % 65536), .int .i64 0, .bool false, .bool true, .slice none 0 0, .slice none 0 0, .int .i64 0, .slice none 0 0], .bool false] wx fun e w' => ∃ v, e = .returned v ∧ ∃ s' p' t' l', v = .tuple #[.agg #[.int .i64 (delivM y (numM i (turnAt y i))).cf.streams, .int .i64 (delivM y (numM i (turnAt y i))).cf.part, .int .i64 (delivM y (numM i (turnAt y i))).cf.packet, .int .i64 (delivM y (numM i (turnAt y i))).cf.paths, .int .i64 (delivM y (numM i (turnAt y i))).cf.turns, .int .i64 (delivM y (numM i (turnAt y i))).cf.waiting, .int .i64 (delivM y (numM i (turnAt y i))).cf.first, .int .i64 (delivM y (numM i (turnAt y i))).cum, s', p', t', l'], .bool (wholeM y (numM i (turnAt y i)))] ∧ RvI (fun k => ((V k ∨ w.heap.size + 2 ≤ k) ∧ k < wr.heap.size) ∨ wx.heap.size ≤ k) w' (delivM y (numM i (turnAt y i))) s' p' t' l' ∧ Below wx.heap.size wx w' := fun wx b => by
      have := rdeliver_in (fun k => (V k ∨ w.heap.size + 2 ≤ k) ∧ k < wr.heap.size) y _ _ _ _ ⟨0, 0, i, turnAt y i % 65536, 0, false, true, [], [], 0, []⟩ none none none 0 0 0 0 0 0 false wx (HY.out.lt.keep (toKeep b fun k hk => hk.2)) (fun k hk => Nat.lt_of_lt_of_le hk.2 b.size) HO.out.fit
      refine this.mono ?_
      rintro e w' ⟨s', p', t', l', rfl, h1, h2⟩
      exact ⟨_, rfl, s', p', t', l', rfl, h1, h2⟩
    generalize delivM y (numM i (turnAt y i)) = z at *
    generalize wholeM y (numM i (turnAt y i)) = wh at *
    generalize turnAt y (i : Int) = tn at *
    have RNG := HX.out.range
    have y10 := HX.out.cell 10 _ rfl
    have BD : Below wr.heap.size wr wr.drew := below_drew' (Below.refl _ _)
    have hwr : w.heap.size < wr.heap.size := by omega
    have HS2 : ∀ wx, Below wr.heap.size wr wx → (wx.rangeAt w.heap.size 0 [.int .i64 y.cf.streams, .int .i64 y.cf.part, .int .i64 y.cf.packet, .int .i64 y.cf.paths, .int .i64 y.cf.turns, .int .i64 y.cf.waiting, .int .i64 y.cf.first, .int .i64 y.cum, .slice sa y.spans.length sc, .slice pa y.pieces.length pc, .slice ta y.turn.length tc, .slice la y.log.length lc] ∧ wx.cell? ⟨w.heap.size, 10, none⟩ = some (.slice ta y.turn.length tc) ∧ wx.cell? ⟨tb, toff, none⟩ = some (.int .i64 tn)) := fun wx b => ⟨(HX.out.below b hwr).range, (b.cell (p := ⟨w.heap.size, 10, none⟩) hwr).trans y10, (b.cell (p := ⟨tb, toff, none⟩) htb).trans ct⟩
    have END : Hid (∀ (w3 : World) (X : Nat) (sa2 : Option Addr) (sc2 : Nat) (pa2 : Option Addr) (pc2 : Nat) (ta2 : Option Addr) (tc2 : Nat) (la2 : Option Addr) (lc2 : Nat), Below wr.heap.size wr w3 → wr.heap.size ≤ X → X < w3.heap.size → Cells X w3 [.int .i64 0, .int .i64 0, .int .i64 0, .int .i64 0, .int .i64 0, .int .i64 0, .int .i64 0, .int .i64 0, .slice none 0 0, .slice none 0 0, .slice none 0 0, .slice none 0 0] → RvI (fun k => (V k ∨ w.heap.size + 2 ≤ k) ∧ k ≠ X) w3 z (.slice sa2 z.spans.length sc2) (.slice pa2 z.pieces.length pc2) (.slice ta2 z.turn.length tc2) (.slice la2 z.log.length lc2) →
        Cells X (w3.setCells X 0 [.int .i64 z.cf.streams, .int .i64 z.cf.part, .int .i64 z.cf.packet, .int .i64 z.cf.paths, .int .i64 z.cf.turns, .int .i64 z.cf.waiting, .int .i64 z.cf.first, .int .i64 z.cum, .slice sa2 z.spans.length sc2, .slice pa2 z.pieces.length pc2, .slice ta2 z.turn.length tc2, .slice la2 z.log.length lc2]) [.int .i64 z.cf.streams, .int .i64 z.cf.part, .int .i64 z.cf.packet, .int .i64 z.cf.paths, .int .i64 z.cf.turns, .int .i64 z.cf.waiting, .int .i64 z.cf.first, .int .i64 z.cum, .slice sa2 z.spans.length sc2, .slice pa2 z.pieces.length pc2, .slice ta2 z.turn.length tc2, .slice la2 z.log.length lc2] ∧ X < (w3.setCells X 0 [.int .i64 z.cf.streams, .int .i64 z.cf.part, .int .i64 z.cf.packet, .int .i64 z.cf.paths, .int .i64 z.cf.turns, .int .i64 z.cf.waiting, .int .i64 z.cf.first, .int .i64 z.cum, .slice sa2 z.spans.length sc2, .slice pa2 z.pieces.length pc2, .slice ta2 z.turn.length tc2, .slice la2 z.log.length lc2]).heap.size ∧ RvI (fun k => (V k ∨ w.heap.size + 2 ≤ k) ∧ k ≠ X) (w3.setCells X 0 [.int .i64 z.cf.streams, .int .i64 z.cf.part, .int .i64 z.cf.packet, .int .i64 z.cf.paths, .int .i64 z.cf.turns, .int .i64 z.cf.waiting, .int .i64 z.cf.first, .int .i64 z.cum, .slice sa2 z.spans.length sc2, .slice pa2 z.pieces.length pc2, .slice ta2 z.turn.length tc2, .slice la2 z.log.length lc2]) z (.slice sa2 z.spans.length sc2) (.slice pa2 z.pieces.length pc2) (.slice ta2 z.turn.length tc2) (.slice la2 z.log.length lc2) ∧ Below wr.heap.size wr (w3.setCells X 0 [.int .i64 z.cf.streams, .int .i64 z.cf.part, .int .i64 z.cf.packet, .int .i64 z.cf.paths, .int .i64 z.cf.turns, .int .i64 z.cf.waiting, .int .i64 z.cf.first, .int .i64 z.cum, .slice sa2 z.spans.length sc2, .slice pa2 z.pieces.length pc2, .slice ta2 z.turn.length tc2, .slice la2 z.log.length lc2])) := fun w3 X sa2 sc2 pa2 pc2 ta2 tc2 la2 lc2 b h1 h2 hc hr => by
      have KE : Keep (fun k => k ≠ X) w3 (w3.setCells X 0 [.int .i64 z.cf.streams, .int .i64 z.cf.part, .int .i64 z.cf.packet, .int .i64 z.cf.paths, .int .i64 z.cf.turns, .int .i64 z.cf.waiting, .int .i64 z.cf.first, .int .i64 z.cum, .slice sa2 z.spans.length sc2, .slice pa2 z.pieces.length pc2, .slice ta2 z.turn.length tc2, .slice la2 z.log.length lc2]) := Keep.setCells (fun h => h rfl) _ _ (Keep.refl _ _)
      have e1 : Cells X (w3.setCells X 0 [.int .i64 z.cf.streams, .int .i64 z.cf.part, .int .i64 z.cf.packet, .int .i64 z.cf.paths, .int .i64 z.cf.turns, .int .i64 z.cf.waiting, .int .i64 z.cf.first, .int .i64 z.cum, .slice sa2 z.spans.length sc2, .slice pa2 z.pieces.length pc2, .slice ta2 z.turn.length tc2, .slice la2 z.log.length lc2]) [.int .i64 z.cf.streams, .int .i64 z.cf.part, .int .i64 z.cf.packet, .int .i64 z.cf.paths, .int .i64 z.cf.turns, .int .i64 z.cf.waiting, .int .i64 z.cf.first, .int .i64 z.cum, .slice sa2 z.spans.length sc2, .slice pa2 z.pieces.length pc2, .slice ta2 z.turn.length tc2, .slice la2 z.log.length lc2] := hc.setAll [.int .i64 z.cf.streams, .int .i64 z.cf.part, .int .i64 z.cf.packet, .int .i64 z.cf.paths, .int .i64 z.cf.turns, .int .i64 z.cf.waiting, .int .i64 z.cf.first, .int .i64 z.cum, .slice sa2 z.spans.length sc2, .slice pa2 z.pieces.length pc2, .slice ta2 z.turn.length tc2, .slice la2 z.log.length lc2] rfl
      have e2 : X < (w3.setCells X 0 [.int .i64 z.cf.streams, .int .i64 z.cf.part, .int .i64 z.cf.packet, .int .i64 z.cf.paths, .int .i64 z.cf.turns, .int .i64 z.cf.waiting, .int .i64 z.cf.first, .int .i64 z.cum, .slice sa2 z.spans.length sc2, .slice pa2 z.pieces.length pc2, .slice ta2 z.turn.length tc2, .slice la2 z.log.length lc2]).heap.size := Nat.lt_of_lt_of_le h2 KE.size
      have e3 := hr.keep (KE.mono fun k hk => hk.2)
      have e4 : Below wr.heap.size wr (w3.setCells X 0 [.int .i64 z.cf.streams, .int .i64 z.cf.part, .int .i64 z.cf.packet, .int .i64 z.cf.paths, .int .i64 z.cf.turns, .int .i64 z.cf.waiting, .int .i64 z.cf.first, .int .i64 z.cum, .slice sa2 z.spans.length sc2, .slice pa2 z.pieces.length pc2, .slice ta2 z.turn.length tc2, .slice la2 z.log.length lc2]) := Below.setCells h1 _ _ b
      exact ⟨e1, e2, e3, e4⟩
    go_upto_region 1 with fail
    go_cut [5, 6] from 7 to 35 (fun s5 s6 wx => ∃ X sa2 sc2 pa2 pc2 ta2 tc2 la2 lc2, s5 = .pointer (some ⟨X, 0, none⟩) ∧ s6 = .bool wh ∧ Hid (Cells X wx [.int .i64 z.cf.streams, .int .i64 z.cf.part, .int .i64 z.cf.packet, .int .i64 z.cf.paths, .int .i64 z.cf.turns, .int .i64 z.cf.waiting, .int .i64 z.cf.first, .int .i64 z.cum, .slice sa2 z.spans.length sc2, .slice pa2 z.pieces.length pc2, .slice ta2 z.turn.length tc2, .slice la2 z.log.length lc2]) ∧ wr.heap.size ≤ X ∧ X < wx.heap.size ∧ Hid (RvI (fun k => (V k ∨ w.heap.size + 2 ≤ k) ∧ k ≠ X) wx z (.slice sa2 z.spans.length sc2) (.slice pa2 z.pieces.length pc2) (.slice ta2 z.turn.length tc2) (.slice la2 z.log.length lc2)) ∧ Below wr.heap.size wr wx)
    case first =>
      refine wp_region_late (fun w' => w'.rangeAt w.heap.size 0 [.int .i64 y.cf.streams, .int .i64 y.cf.part, .int .i64 y.cf.packet, .int .i64 y.cf.paths, .int .i64 y.cf.turns, .int .i64 y.cf.waiting, .int .i64 y.cf.first, .int .i64 y.cum, .slice sa y.spans.length sc, .slice pa y.pieces.length pc, .slice ta y.turn.length tc, .slice la y.log.length lc] ∧ w'.cell? ⟨w.heap.size, 10, none⟩ = some (.slice ta y.turn.length tc) ∧ w'.cell? ⟨tb, toff, none⟩ = some (.int .i64 tn)) [] (by kernel_rfl) ?_
      have hS0 := (⟨RNG, y10, ct⟩ : (fun w' : World => w'.rangeAt w.heap.size 0 [.int .i64 y.cf.streams, .int .i64 y.cf.part, .int .i64 y.cf.packet, .int .i64 y.cf.paths, .int .i64 y.cf.turns, .int .i64 y.cf.waiting, .int .i64 y.cf.first, .int .i64 y.cum, .slice sa y.spans.length sc, .slice pa y.pieces.length pc, .slice ta y.turn.length tc, .slice la y.log.length lc] ∧ w'.cell? ⟨w.heap.size, 10, none⟩ = some (.slice ta y.turn.length tc) ∧ w'.cell? ⟨tb, toff, none⟩ = some (.int .i64 tn)) wr.drew)
      refine wpAnyL_take (i := 0) (oi := ({ dst := some 8, op := Op.load 47 (Operand.tmp 2), type := 47, pos := "ref.go:320", after := #[], guard := none } : Oper)) (v := .agg #[.int .i64 y.cf.streams, .int .i64 y.cf.part, .int .i64 y.cf.packet, .int .i64 y.cf.paths, .int .i64 y.cf.turns, .int .i64 y.cf.waiting, .int .i64 y.cf.first, .int .i64 y.cum, .slice sa y.spans.length sc, .slice pa y.pieces.length pc, .slice ta y.turn.length tc, .slice la y.log.length lc]) [9, 10, 11, 12, 14, 15] rfl (by kernel_rfl) (by kernel_rfl) (by kernel_rfl) (by kernel_rfl) (by kernel_rfl) (fun _ _ _ h => h) (yieldsIf_load_mid (by rfl) 47 (.tmp 2) rfl w.heap.size 0 rfl [.int .i64 y.cf.streams, .int .i64 y.cf.part, .int .i64 y.cf.packet, .int .i64 y.cf.paths, .int .i64 y.cf.turns, .int .i64 y.cf.waiting, .int .i64 y.cf.first, .int .i64 y.cum, .slice sa y.spans.length sc, .slice pa y.pieces.length pc, .slice ta y.turn.length tc, .slice la y.log.length lc] _ (fun _ hSw => hSw.1) Try.underlying47 rfl Try.sizeRv) hS0 ?_
      try simp only [Act.put, List.setIfInBounds_toArray, List.set_cons_zero, List.set_cons_succ]
      refine wpAnyL_take (i := 1) (oi := ({ dst := some 9, op := Op.move (Operand.tmp 1), type := 3, pos := "ref.go:320", after := #[], guard := none } : Oper)) (v := ?vb1) [8, 9, 10, 11, 12, 14, 15] rfl (by kernel_rfl) (by kernel_rfl) (by kernel_rfl) (by kernel_rfl) (by kernel_rfl) (fun _ _ _ h => h) (Or.inl ⟨by rfl, ?hb1⟩) hS0 ?_
      case hb1 => (intro w hSw; have q2 := hSw.2.1; have q3 := hSw.2.2; go_simp; try with_reducible rfl)
      try simp only [Act.put, List.setIfInBounds_toArray, List.set_cons_zero, List.set_cons_succ]
      refine wpAnyL_take (i := 2) (oi := ({ dst := some 10, op := Op.fieldAddr 47 (Operand.tmp 2) 4, type := 0, pos := "ref.go:320", after := #[], guard := none } : Oper)) (v := ?vb2) [3, 5, 6, 7, 8, 9, 10, 11, 12, 14, 15] rfl (by kernel_rfl) (by kernel_rfl) (by kernel_rfl) (by kernel_rfl) (by kernel_rfl) (fun _ _ _ h => h) (Or.inl ⟨by rfl, ?hb2⟩) hS0 ?_
      case hb2 => (intro w hSw; have q2 := hSw.2.1; have q3 := hSw.2.2; go_simp; try with_reducible rfl)
      try simp only [Act.put, List.setIfInBounds_toArray, List.set_cons_zero, List.set_cons_succ]
      refine wpAnyL_take (i := 3) (oi := ({ dst := some 11, op := Op.load 31 (Operand.tmp 10), type := 31, pos := "ref.go:320", after := #[{ on := 2, ground := Ground.data }], guard := none } : Oper)) (v := ?vb3) [5, 6, 7, 8, 9, 10, 11, 12, 14, 15] rfl (by kernel_rfl) (by kernel_rfl) (by kernel_rfl) (by kernel_rfl) (by kernel_rfl) (fun _ _ _ h => h) (Or.inl ⟨by rfl, ?hb3⟩) hS0 ?_
      case hb3 => (intro w hSw; have q2 := hSw.2.1; have q3 := hSw.2.2; go_simp; try with_reducible rfl)
      try simp only [Act.put, List.setIfInBounds_toArray, List.set_cons_zero, List.set_cons_succ]
      refine wpAnyL_take (i := 4) (oi := ({ dst := some 12, op := Op.move (Operand.tmp 1), type := 3, pos := "ref.go:320", after := #[], guard := none } : Oper)) (v := ?vb4) [5, 6, 7, 8, 9, 10, 11, 12, 14, 15] rfl (by kernel_rfl) (by kernel_rfl) (by kernel_rfl) (by kernel_rfl) (by kernel_rfl) (fun _ _ _ h => h) (Or.inl ⟨by rfl, ?hb4⟩) hS0 ?_
      case hb4 => (intro w hSw; have q2 := hSw.2.1; have q3 := hSw.2.2; go_simp; try with_reducible rfl)
      try simp only [Act.put, List.setIfInBounds_toArray, List.set_cons_zero, List.set_cons_succ]
      refine wpAnyL_take (i := 5) (oi := ({ dst := some 13, op := Op.indexAddr 31 (Operand.tmp 11) (Operand.tmp 12), type := 0, pos := "ref.go:320", after := #[{ on := 3, ground := Ground.data }, { on := 4, ground := Ground.data }], guard := none } : Oper)) (v := ?vb5) [6, 7, 8, 9, 10, 11, 12, 14, 15] rfl (by kernel_rfl) (by kernel_rfl) (by kernel_rfl) (by kernel_rfl) (by kernel_rfl) (fun _ _ _ h => h) (Or.inl ⟨by rfl, ?hb5⟩) hS0 ?_
      case hb5 => (intro w hSw; have q2 := hSw.2.1; have q3 := hSw.2.2; go_simp; try with_reducible rfl)
      try simp only [Act.put, List.setIfInBounds_toArray, List.set_cons_zero, List.set_cons_succ]
      refine wpAnyL_take (i := 6) (oi := ({ dst := some 14, op := Op.load 3 (Operand.tmp 13), type := 3, pos := "ref.go:320", after := #[{ on := 5, ground := Ground.data }], guard := none } : Oper)) (v := ?vb6) [7, 8, 9, 10, 11, 12, 14, 15] rfl (by kernel_rfl) (by kernel_rfl) (by kernel_rfl) (by kernel_rfl) (by kernel_rfl) (fun _ _ _ h => h) (Or.inl ⟨by rfl, ?hb6⟩) hS0 ?_
      case hb6 => (intro w hSw; have q2 := hSw.2.1; have q3 := hSw.2.2; go_simp; try with_reducible rfl)
      try simp only [Act.put, List.setIfInBounds_toArray, List.set_cons_zero, List.set_cons_succ]
      refine wpAnyL_takeQ (i := 7) (oi := ({ dst := some 15, op := Op.call { callee := Callee.value (Operand.func 38), args := #[Operand.tmp 14], argTypes := #[3] }, type := 3, pos := "ref.go:320", after := #[{ on := 6, ground := Ground.data }], guard := none } : Oper)) (v := .int .i64 (tn % 65536)) [8, 9, 10, 11, 12, 14, 15] rfl (by kernel_rfl) (by kernel_rfl) (by kernel_rfl) (by kernel_rfl) (by kernel_rfl) (fun _ _ _ h => h) (YieldsQ.call (by rfl) 38 [.tmp 14] #[3] rfl [.int .i64 tn] rfl rfl enters_rtag (fun wx hSw => rtag_any tn wx)) hS0 ?_
      try simp only [Act.put, List.setIfInBounds_toArray, List.set_cons_zero, List.set_cons_succ]
      refine wpAnyL_take (i := 8) (oi := ({ dst := some 16, op := Op.build 42 #[(2, Operand.tmp 9), (3, Operand.tmp 15), (6, Operand.const (Value.bool true))], type := 42, pos := "ref.go:320", after := #[{ on := 1, ground := Ground.data }, { on := 7, ground := Ground.data }], guard := none } : Oper)) (v := ?vb7) [9, 10, 11, 12, 14, 15] rfl (by kernel_rfl) (by kernel_rfl) (by kernel_rfl) (by kernel_rfl) (by kernel_rfl) (fun _ _ _ h => h) (Or.inl ⟨by rfl, ?hb7⟩) hS0 ?_
      case hb7 => (intro w hSw; go_simp; try with_reducible rfl)
      try simp only [Act.put, List.setIfInBounds_toArray, List.set_cons_zero, List.set_cons_succ]
      refine wpAnyL_ready (rs := [9, 13]) (by kernel_rfl) (by simp) ?_
      refine AllL.cons (o := ({ dst := some 17, op := Op.call { callee := Callee.value (Operand.func 66), args := #[Operand.tmp 8, Operand.tmp 16, Operand.const (Value.bool false)], argTypes := #[47, 42, 4] }, type := 95, pos := "ref.go:320", after := #[{ on := 0, ground := Ground.data }, { on := 8, ground := Ground.data }, { on := 7, ground := Ground.chain }], guard := none } : Oper)) rfl (fun K hK => ?_) (AllL.cons (o := ({ dst := some 5, op := Op.alloc 47, type := 0, pos := "ref.go:320", after := #[], guard := none } : Oper)) rfl (fun K hK => ?_) AllL.nil)
      · refine step_call3 rfl 66 (.tmp 8) (.tmp 16) (.const (.bool false)) #[47, 42, 4] rfl _ _ _ rfl rfl rfl rfl enters_rdeliver _ (DEL _ (below_drew' (Below.refl _ _))) ?_
        rintro _ w2 ⟨s2, p2, t2, l2, rfl, hr2, b2⟩
        obtain ⟨sa2, sc2, pa2, pc2, ta2, tc2, la2, lc2, rfl, rfl, rfl, rfl⟩ := hr2.r.ex
        have hS1 := (HS2 w2 (BD.trans b2))
        refine hK _ _ ⟨fun _ => hS1, ?_⟩
        clear hK K
        try simp only [Act.put, List.setIfInBounds_toArray, List.set_cons_zero, List.set_cons_succ]
        refine wpAnyL_take (i := 10) (oi := ({ dst := some 7, op := Op.move (Operand.tmp 17), type := 95, pos := "ref.go:320", after := #[{ on := 9, ground := Ground.data }], guard := none } : Oper)) (v := ?vba1) [11, 12, 14, 15] rfl (by kernel_rfl) (by kernel_rfl) (by kernel_rfl) (by kernel_rfl) (by kernel_rfl) (fun _ _ _ h => h) (Or.inl ⟨by rfl, ?hba1⟩) hS1 ?_
        case hba1 => (intro w hSw; go_simp; try with_reducible rfl)
        try simp only [Act.put, List.setIfInBounds_toArray, List.set_cons_zero, List.set_cons_succ]
        refine wpAnyL_take (i := 11) (oi := ({ dst := some 18, op := Op.extract (Operand.tmp 7) 0, type := 47, pos := "ref.go:320", after := #[{ on := 10, ground := Ground.data }], guard := none } : Oper)) (v := ?vba2) [14, 15] rfl (by kernel_rfl) (by kernel_rfl) (by kernel_rfl) (by kernel_rfl) (by kernel_rfl) (fun _ _ _ h => h) (Or.inl ⟨by rfl, ?hba2⟩) hS1 ?_
        case hba2 => (intro w hSw; go_simp; try with_reducible rfl)
        try simp only [Act.put, List.setIfInBounds_toArray, List.set_cons_zero, List.set_cons_succ]
        refine wpAnyL_take (i := 12) (oi := ({ dst := some 19, op := Op.extract (Operand.tmp 7) 1, type := 4, pos := "ref.go:320", after := #[{ on := 10, ground := Ground.data }, { on := 14, ground := Ground.gcOnly Departure.lateStores }], guard := none } : Oper)) (v := ?vba3) [15] rfl (by kernel_rfl) (by kernel_rfl) (by kernel_rfl) (by kernel_rfl) (by kernel_rfl) (fun _ _ _ h => h) (Or.inl ⟨by rfl, ?hba3⟩) hS1 ?_
        case hba3 => (intro w hSw; go_simp; try with_reducible rfl)
        try simp only [Act.put, List.setIfInBounds_toArray, List.set_cons_zero, List.set_cons_succ]
        refine wpAnyL_ready (rs := [13]) (by kernel_rfl) (by simp) ?_
        refine AllL.cons (o := ({ dst := some 5, op := Op.alloc 47, type := 0, pos := "ref.go:320", after := #[], guard := none } : Oper)) rfl (fun K hK => ?_) AllL.nil
        · go_simp
          have hS2 := (HS2 (w2.alloc (.cells #[.int .i64 0, .int .i64 0, .int .i64 0, .int .i64 0, .int .i64 0, .int .i64 0, .int .i64 0, .int .i64 0, .slice none 0 0, .slice none 0 0, .slice none 0 0, .slice none 0 0] 47)) ((BD.trans b2).alloc b2.size _))
          refine hK _ _ ⟨fun _ => hS2, ?_⟩
          clear hK K
          try simp only [Act.put, List.setIfInBounds_toArray, List.set_cons_zero, List.set_cons_succ]
          have BE : Below wr.heap.size wr (w2.alloc (.cells #[.int .i64 0, .int .i64 0, .int .i64 0, .int .i64 0, .int .i64 0, .int .i64 0, .int .i64 0, .int .i64 0, .slice none 0 0, .slice none 0 0, .slice none 0 0, .slice none 0 0] 47)) := (BD.trans b2).alloc b2.size _
          have CX : Cells w2.heap.size (w2.alloc (.cells #[.int .i64 0, .int .i64 0, .int .i64 0, .int .i64 0, .int .i64 0, .int .i64 0, .int .i64 0, .int .i64 0, .slice none 0 0, .slice none 0 0, .slice none 0 0, .slice none 0 0] 47)) [.int .i64 0, .int .i64 0, .int .i64 0, .int .i64 0, .int .i64 0, .int .i64 0, .int .i64 0, .int .i64 0, .slice none 0 0, .slice none 0 0, .slice none 0 0, .slice none 0 0] := Cells.new _ _ _
          have hs2 := b2.size
          refine wpAnyL_one (i := 14) (o := ({ dst := none, op := Op.store 47 (Operand.tmp 5) (Operand.tmp 18), type := 0, pos := "ref.go:320", after := #[{ on := 13, ground := Ground.data }, { on := 11, ground := Ground.data }, { on := 9, ground := Ground.chain }, { on := 0, ground := Ground.phase }, { on := 1, ground := Ground.phase }, { on := 2, ground := Ground.phase }, { on := 3, ground := Ground.phase }, { on := 4, ground := Ground.phase }, { on := 5, ground := Ground.phase }, { on := 6, ground := Ground.phase }, { on := 7, ground := Ground.phase }, { on := 8, ground := Ground.phase }, { on := 9, ground := Ground.phase }, { on := 10, ground := Ground.phase }, { on := 11, ground := Ground.phase }, { on := 12, ground := Ground.textOnly Departure.lateStores }, { on := 13, ground := Ground.phase }], guard := none } : Oper)) (by kernel_rfl) rfl (fun K hK => ?_)
          refine step_stN 47 12 Try.sizeRv rfl (.tmp 5) (.tmp 18) rfl w2.heap.size 0 rfl [.int .i64 z.cf.streams, .int .i64 z.cf.part, .int .i64 z.cf.packet, .int .i64 z.cf.paths, .int .i64 z.cf.turns, .int .i64 z.cf.waiting, .int .i64 z.cf.first, .int .i64 z.cum, .slice sa2 z.spans.length sc2, .slice pa2 z.pieces.length pc2, .slice ta2 z.turn.length tc2, .slice la2 z.log.length lc2] rfl rfl rfl CX.there ?_
          have hS3 := (HS2 ((w2.alloc (.cells #[.int .i64 0, .int .i64 0, .int .i64 0, .int .i64 0, .int .i64 0, .int .i64 0, .int .i64 0, .int .i64 0, .slice none 0 0, .slice none 0 0, .slice none 0 0, .slice none 0 0] 47)).setCells w2.heap.size 0 [.int .i64 z.cf.streams, .int .i64 z.cf.part, .int .i64 z.cf.packet, .int .i64 z.cf.paths, .int .i64 z.cf.turns, .int .i64 z.cf.waiting, .int .i64 z.cf.first, .int .i64 z.cum, .slice sa2 z.spans.length sc2, .slice pa2 z.pieces.length pc2, .slice ta2 z.turn.length tc2, .slice la2 z.log.length lc2]) (Below.setCells hs2 _ _ BE))
          refine hK _ _ ⟨fun _ => hS3, ?_⟩
          clear hK K
          try simp only [Act.put]
          refine wpAnyL_take (i := 15) (oi := ({ dst := some 6, op := Op.assign (Operand.tmp 19), type := 4, pos := "ref.go:320", after := #[{ on := 12, ground := Ground.data }, { on := 14, ground := Ground.chain }, { on := 0, ground := Ground.phase }, { on := 1, ground := Ground.phase }, { on := 2, ground := Ground.phase }, { on := 3, ground := Ground.phase }, { on := 4, ground := Ground.phase }, { on := 5, ground := Ground.phase }, { on := 6, ground := Ground.phase }, { on := 7, ground := Ground.phase }, { on := 8, ground := Ground.phase }, { on := 9, ground := Ground.phase }, { on := 10, ground := Ground.phase }, { on := 11, ground := Ground.phase }, { on := 12, ground := Ground.phase }, { on := 13, ground := Ground.phase }, { on := 14, ground := Ground.phase }], guard := none } : Oper)) (v := ?vbaa1) [] rfl (by kernel_rfl) (by kernel_rfl) (by kernel_rfl) (by kernel_rfl) (by kernel_rfl) (fun _ _ _ h => h) (Or.inl ⟨by rfl, ?hbaa1⟩) hS3 ?_
          case hbaa1 => (intro w hSw; go_simp; try with_reducible rfl)
          try simp only [Act.put, List.setIfInBounds_toArray, List.set_cons_zero, List.set_cons_succ]
          refine wpAnyL_done (by kernel_rfl) ?_ _
          go_wp2_with fail
          go_meet
          obtain ⟨q1, q2, q3, q4⟩ := END.out _ w2.heap.size _ _ _ _ _ _ _ _ BE hs2 (by simp) CX ((hr2.lt.keep (toKeep (box_below w2 _) fun k hk => hk.2)).mono fun k hk => ⟨hk.1.elim (fun h => h.1) fun h => .inr (Nat.le_trans szr h), Nat.ne_of_lt hk.2⟩)
          exact ⟨_, _, _, _, _, _, _, _, _, rfl, rfl, q1, hs2, q2, q3, q4⟩
      · go_simp
        have hS2 := (HS2 (wr.drew.alloc (.cells #[.int .i64 0, .int .i64 0, .int .i64 0, .int .i64 0, .int .i64 0, .int .i64 0, .int .i64 0, .int .i64 0, .slice none 0 0, .slice none 0 0, .slice none 0 0, .slice none 0 0] 47)) (BD.alloc (Nat.le_refl _) _))
        refine hK _ _ ⟨fun _ => hS2, ?_⟩
        clear hK K
        try simp only [Act.put, List.setIfInBounds_toArray, List.set_cons_zero, List.set_cons_succ]
        have BA : Below wr.heap.size wr (wr.drew.alloc (.cells #[.int .i64 0, .int .i64 0, .int .i64 0, .int .i64 0, .int .i64 0, .int .i64 0, .int .i64 0, .int .i64 0, .slice none 0 0, .slice none 0 0, .slice none 0 0, .slice none 0 0] 47)) := BD.alloc (Nat.le_refl _) _
        refine wpAnyL_ready (rs := [9]) (by kernel_rfl) (by simp) ?_
        refine AllL.cons (o := ({ dst := some 17, op := Op.call { callee := Callee.value (Operand.func 66), args := #[Operand.tmp 8, Operand.tmp 16, Operand.const (Value.bool false)], argTypes := #[47, 42, 4] }, type := 95, pos := "ref.go:320", after := #[{ on := 0, ground := Ground.data }, { on := 8, ground := Ground.data }, { on := 7, ground := Ground.chain }], guard := none } : Oper)) rfl (fun K hK => ?_) AllL.nil
        · refine step_call3 rfl 66 (.tmp 8) (.tmp 16) (.const (.bool false)) #[47, 42, 4] rfl _ _ _ rfl rfl rfl rfl enters_rdeliver _ (DEL _ BA) ?_
          rintro _ w2 ⟨s2, p2, t2, l2, rfl, hr2, b2⟩
          obtain ⟨sa2, sc2, pa2, pc2, ta2, tc2, la2, lc2, rfl, rfl, rfl, rfl⟩ := hr2.r.ex
          have hS1 := (HS2 w2 (BA.trans (b2.mono (by simp))))
          refine hK _ _ ⟨fun _ => hS1, ?_⟩
          clear hK K
          try simp only [Act.put, List.setIfInBounds_toArray, List.set_cons_zero, List.set_cons_succ]
          refine wpAnyL_take (i := 10) (oi := ({ dst := some 7, op := Op.move (Operand.tmp 17), type := 95, pos := "ref.go:320", after := #[{ on := 9, ground := Ground.data }], guard := none } : Oper)) (v := ?vbba1) [11, 12, 14, 15] rfl (by kernel_rfl) (by kernel_rfl) (by kernel_rfl) (by kernel_rfl) (by kernel_rfl) (fun _ _ _ h => h) (Or.inl ⟨by rfl, ?hbba1⟩) hS1 ?_
          case hbba1 => (intro w hSw; go_simp; try with_reducible rfl)
          try simp only [Act.put, List.setIfInBounds_toArray, List.set_cons_zero, List.set_cons_succ]
          refine wpAnyL_take (i := 11) (oi := ({ dst := some 18, op := Op.extract (Operand.tmp 7) 0, type := 47, pos := "ref.go:320", after := #[{ on := 10, ground := Ground.data }], guard := none } : Oper)) (v := ?vbba2) [14, 15] rfl (by kernel_rfl) (by kernel_rfl) (by kernel_rfl) (by kernel_rfl) (by kernel_rfl) (fun _ _ _ h => h) (Or.inl ⟨by rfl, ?hbba2⟩) hS1 ?_
          case hbba2 => (intro w hSw; go_simp; try with_reducible rfl)
          try simp only [Act.put, List.setIfInBounds_toArray, List.set_cons_zero, List.set_cons_succ]
          refine wpAnyL_take (i := 12) (oi := ({ dst := some 19, op := Op.extract (Operand.tmp 7) 1, type := 4, pos := "ref.go:320", after := #[{ on := 10, ground := Ground.data }, { on := 14, ground := Ground.gcOnly Departure.lateStores }], guard := none } : Oper)) (v := ?vbba3) [15] rfl (by kernel_rfl) (by kernel_rfl) (by kernel_rfl) (by kernel_rfl) (by kernel_rfl) (fun _ _ _ h => h) (Or.inl ⟨by rfl, ?hbba3⟩) hS1 ?_
          case hbba3 => (intro w hSw; go_simp; try with_reducible rfl)
          try simp only [Act.put, List.setIfInBounds_toArray, List.set_cons_zero, List.set_cons_succ]
          have BE : Below wr.heap.size wr w2 := BA.trans (b2.mono (by simp))
          have CX : Cells wr.heap.size w2 [.int .i64 0, .int .i64 0, .int .i64 0, .int .i64 0, .int .i64 0, .int .i64 0, .int .i64 0, .int .i64 0, .slice none 0 0, .slice none 0 0, .slice none 0 0, .slice none 0 0] := (Cells.new' (w := wr.drew) #[.int .i64 0, .int .i64 0, .int .i64 0, .int .i64 0, .int .i64 0, .int .i64 0, .int .i64 0, .int .i64 0, .slice none 0 0, .slice none 0 0, .slice none 0 0, .slice none 0 0] 47 rfl).below b2 (by simp)
          have hs2 := b2.size
          refine wpAnyL_one (i := 14) (o := ({ dst := none, op := Op.store 47 (Operand.tmp 5) (Operand.tmp 18), type := 0, pos := "ref.go:320", after := #[{ on := 13, ground := Ground.data }, { on := 11, ground := Ground.data }, { on := 9, ground := Ground.chain }, { on := 0, ground := Ground.phase }, { on := 1, ground := Ground.phase }, { on := 2, ground := Ground.phase }, { on := 3, ground := Ground.phase }, { on := 4, ground := Ground.phase }, { on := 5, ground := Ground.phase }, { on := 6, ground := Ground.phase }, { on := 7, ground := Ground.phase }, { on := 8, ground := Ground.phase }, { on := 9, ground := Ground.phase }, { on := 10, ground := Ground.phase }, { on := 11, ground := Ground.phase }, { on := 12, ground := Ground.textOnly Departure.lateStores }, { on := 13, ground := Ground.phase }], guard := none } : Oper)) (by kernel_rfl) rfl (fun K hK => ?_)
          refine step_stN 47 12 Try.sizeRv rfl (.tmp 5) (.tmp 18) rfl wr.heap.size 0 rfl [.int .i64 z.cf.streams, .int .i64 z.cf.part, .int .i64 z.cf.packet, .int .i64 z.cf.paths, .int .i64 z.cf.turns, .int .i64 z.cf.waiting, .int .i64 z.cf.first, .int .i64 z.cum, .slice sa2 z.spans.length sc2, .slice pa2 z.pieces.length pc2, .slice ta2 z.turn.length tc2, .slice la2 z.log.length lc2] rfl rfl rfl CX.there ?_
          have hS3 := (HS2 (w2.setCells wr.heap.size 0 [.int .i64 z.cf.streams, .int .i64 z.cf.part, .int .i64 z.cf.packet, .int .i64 z.cf.paths, .int .i64 z.cf.turns, .int .i64 z.cf.waiting, .int .i64 z.cf.first, .int .i64 z.cum, .slice sa2 z.spans.length sc2, .slice pa2 z.pieces.length pc2, .slice ta2 z.turn.length tc2, .slice la2 z.log.length lc2]) (Below.setCells (Nat.le_refl _) _ _ BE))
          refine hK _ _ ⟨fun _ => hS3, ?_⟩
          clear hK K
          try simp only [Act.put]
          refine wpAnyL_take (i := 15) (oi := ({ dst := some 6, op := Op.assign (Operand.tmp 19), type := 4, pos := "ref.go:320", after := #[{ on := 12, ground := Ground.data }, { on := 14, ground := Ground.chain }, { on := 0, ground := Ground.phase }, { on := 1, ground := Ground.phase }, { on := 2, ground := Ground.phase }, { on := 3, ground := Ground.phase }, { on := 4, ground := Ground.phase }, { on := 5, ground := Ground.phase }, { on := 6, ground := Ground.phase }, { on := 7, ground := Ground.phase }, { on := 8, ground := Ground.phase }, { on := 9, ground := Ground.phase }, { on := 10, ground := Ground.phase }, { on := 11, ground := Ground.phase }, { on := 12, ground := Ground.phase }, { on := 13, ground := Ground.phase }, { on := 14, ground := Ground.phase }], guard := none } : Oper)) (v := ?vbba4) [] rfl (by kernel_rfl) (by kernel_rfl) (by kernel_rfl) (by kernel_rfl) (by kernel_rfl) (fun _ _ _ h => h) (Or.inl ⟨by rfl, ?hbba4⟩) hS3 ?_
          case hbba4 => (intro w hSw; go_simp; try with_reducible rfl)
          try simp only [Act.put, List.setIfInBounds_toArray, List.set_cons_zero, List.set_cons_succ]
          refine wpAnyL_done (by kernel_rfl) ?_ _
          go_wp2_with fail
          go_meet
          obtain ⟨q1, q2, q3, q4⟩ := END.out _ wr.heap.size _ _ _ _ _ _ _ _ BE (Nat.le_refl _) (by simp at hs2; omega) CX (hr2.mono fun k hk => hk.elim (fun h => ⟨h.1, Nat.ne_of_lt h.2⟩) fun h => by simp at h; exact ⟨.inr (by omega), by omega⟩)
          exact ⟨_, _, _, _, _, _, _, _, _, rfl, rfl, q1, Nat.le_refl _, q2, q3, q4⟩
    case rest =>
      obtain ⟨X, sa2, sc2, pa2, pc2, ta2, tc2, la2, lc2, rfl, rfl, HC, hX1, hX2, HR, B2⟩ := hcut
      clear DEL RNG y10 HS2 BD
      have sz2 := B2.size
      have HX2 : Hid (Cells w.heap.size wc [.int .i64 y.cf.streams, .int .i64 y.cf.part, .int .i64 y.cf.packet, .int .i64 y.cf.paths, .int .i64 y.cf.turns, .int .i64 y.cf.waiting, .int .i64 y.cf.first, .int .i64 y.cum, .slice sa y.spans.length sc, .slice pa y.pieces.length pc, .slice ta y.turn.length tc, .slice la y.log.length lc]) := HX.out.below B2 hwr
      have HT2 : Hid (Cells (w.heap.size + 1) wc [.int .i64 0, .int .i64 0, .int .i64 0, .int .i64 0, .int .i64 0, .int .i64 0, .int .i64 0, .int .i64 0, .slice none 0 0, .slice none 0 0, .slice none 0 0, .slice none 0 0]) := HT.out.below B2 (by omega)
      have BW : Below w.heap.size w wc := BR.trans (B2.mono (by omega))
      cases wh with
      | false =>
        obtain ⟨g1, g2⟩ := HST.out rfl
        have HE : Hid (turnsM x i = y) := by show _ = _; rw [← HTU.out, g1]
        have HY2 : Hid (RvI (fun k => (V k ∨ w.heap.size + 2 ≤ k) ∧ k < wr.heap.size) wc y (.slice sa y.spans.length sc) (.slice pa y.pieces.length pc) (.slice ta y.turn.length tc) (.slice la y.log.length lc)) := HY.out.lt.keep (toKeep B2 fun k hk => hk.2)
        have RNG := HX2.out.range
        have TH : wc.there (w.heap.size + 1) 0 12 := HT2.out.there
        have CE := HT2.out.setAll [.int .i64 y.cf.streams, .int .i64 y.cf.part, .int .i64 y.cf.packet, .int .i64 y.cf.paths, .int .i64 y.cf.turns, .int .i64 y.cf.waiting, .int .i64 y.cf.first, .int .i64 y.cum, .slice sa y.spans.length sc, .slice pa y.pieces.length pc, .slice ta y.turn.length tc, .slice la y.log.length lc] rfl
        have e0 := CE.cell 0 _ rfl
        have e1 := CE.cell 1 _ rfl
        have e2 := CE.cell 2 _ rfl
        have e3 := CE.cell 3 _ rfl
        have e4 := CE.cell 4 _ rfl
        have e5 := CE.cell 5 _ rfl
        have e6 := CE.cell 6 _ rfl
        have e7 := CE.cell 7 _ rfl
        have e8 := CE.cell 8 _ rfl
        have e9 := CE.cell 9 _ rfl
        have e10 := CE.cell 10 _ rfl
        have e11 := CE.cell 11 _ rfl
        have KE : Keep (fun k => k ≠ w.heap.size + 1) wc (wc.setCells (w.heap.size + 1) 0 [.int .i64 y.cf.streams, .int .i64 y.cf.part, .int .i64 y.cf.packet, .int .i64 y.cf.paths, .int .i64 y.cf.turns, .int .i64 y.cf.waiting, .int .i64 y.cf.first, .int .i64 y.cum, .slice sa y.spans.length sc, .slice pa y.pieces.length pc, .slice ta y.turn.length tc, .slice la y.log.length lc]) := Keep.setCells (fun h => h rfl) _ _ (Keep.refl _ _)
        have BE : Below w.heap.size w (wc.setCells (w.heap.size + 1) 0 [.int .i64 y.cf.streams, .int .i64 y.cf.part, .int .i64 y.cf.packet, .int .i64 y.cf.paths, .int .i64 y.cf.turns, .int .i64 y.cf.waiting, .int .i64 y.cf.first, .int .i64 y.cum, .slice sa y.spans.length sc, .slice pa y.pieces.length pc, .slice ta y.turn.length tc, .slice la y.log.length lc]) := Below.setCells (by omega) _ _ BW
        have FIN : Hid (RvI (fun k => V k ∨ w.heap.size ≤ k) (wc.setCells (w.heap.size + 1) 0 [.int .i64 y.cf.streams, .int .i64 y.cf.part, .int .i64 y.cf.packet, .int .i64 y.cf.paths, .int .i64 y.cf.turns, .int .i64 y.cf.waiting, .int .i64 y.cf.first, .int .i64 y.cum, .slice sa y.spans.length sc, .slice pa y.pieces.length pc, .slice ta y.turn.length tc, .slice la y.log.length lc]) y (.slice sa y.spans.length sc) (.slice pa y.pieces.length pc) (.slice ta y.turn.length tc) (.slice la y.log.length lc)) := (HY2.out.keep (KE.mono fun k hk => hk.1.elim (fun h => by have := hv k h; omega) fun h => by omega)).mono fun k hk => hk.1.elim .inl fun h => .inr (by omega)
        clear CE KE g1 g2 HST HGO HC HR END
        go_wp2_with (first
          | refine wpList_ldR rfl (.tmp 2) rfl w.heap.size 0 rfl y _ _ _ _ (by with_reducible exact RNG) ?_
          | refine wpList_srN 47 12 Try.sizeRv rfl (.tmp 4) (.tmp 22) rfl (w.heap.size + 1) 0 rfl [.int .i64 y.cf.streams, .int .i64 y.cf.part, .int .i64 y.cf.packet, .int .i64 y.cf.paths, .int .i64 y.cf.turns, .int .i64 y.cf.waiting, .int .i64 y.cf.first, .int .i64 y.cum, .slice sa y.spans.length sc, .slice pa y.pieces.length pc, .slice ta y.turn.length tc, .slice la y.log.length lc] rfl rfl rfl (by with_reducible exact TH) ?_)
        generalize wc.setCells (w.heap.size + 1) 0 [.int .i64 y.cf.streams, .int .i64 y.cf.part, .int .i64 y.cf.packet, .int .i64 y.cf.paths, .int .i64 y.cf.turns, .int .i64 y.cf.waiting, .int .i64 y.cf.first, .int .i64 y.cum, .slice sa y.spans.length sc, .slice pa y.pieces.length pc, .slice ta y.turn.length tc, .slice la y.log.length lc] = w9 at *
        refine bodyPost_ret (v := .agg #[.int .i64 y.cf.streams, .int .i64 y.cf.part, .int .i64 y.cf.packet, .int .i64 y.cf.paths, .int .i64 y.cf.turns, .int .i64 y.cf.waiting, .int .i64 y.cf.first, .int .i64 y.cum, .slice sa y.spans.length sc, .slice pa y.pieces.length pc, .slice ta y.turn.length tc, .slice la y.log.length lc]) (by simp [results, Try.results65, go_sem, e0, e1, e2, e3, e4, e5, e6, e7, e8, e9, e10, e11]) rfl ?_
        rw [HE.out]
        exact ⟨_, _, _, _, rfl, FIN.out, BE⟩
      | true =>
        obtain ⟨g1, g2, g3⟩ := HGO.out rfl
        have hzl : i < z.turn.length := by rw [HDT.out]; exact hi'
        have G1 : Hid (turnsM (setTurn z i (tn + 1)) i = turnsM y i) := g1
        have G2 : Hid (OkR K (setTurn z i (tn + 1))) := g2
        have G3 : Hid (z.pieces.length < y.pieces.length) := g3
        have HZL : Hid (z.turn.length = x.turn.length) := by show _ = _; rw [HDT.out]; exact HL.out
        have w1 : IntKind.i64.wrap (tn + 1) = tn + 1 := by simp [IntKind.wrap, IntKind.signed, IntKind.bits]; omega
        have x10 := HC.out.cell 10 _ rfl
        have f10 := HC.out.fz 10
        have HTN2 : Hid (In wc.heap.size wc (.slice ta2 z.turn.length tc2) z.turn) := HR.out.r.t
        have htz : z.turn.length ≤ 2147483647 := by rw [HZL.out]; exact htl
        have OA : (wc.alloc (.cells #[] 3)).ownsRow wc.heap.size 3 1 (.slice (some ⟨wc.heap.size, 0, none⟩) 0 0) 0 [] := World.ownsRow_made wc #[] 0 (Nat.le_refl _) (Nat.zero_le _) (by simp)
        have LA := HTN2.out.1.below (box_below wc (.cells #[] 3)) (Nat.le_refl _)
        clear HST HGO g1 g2 g3 END
        go_upto_region 5 with (at_builtin; refine wpList_append_rw Try.underlying31 Try.info3 rfl (by decide) _ rfl (.tmp 23) (.tmp 25) rfl wc.heap.size (.slice (some ⟨wc.heap.size, 0, none⟩) 0 0) 0 [] rfl OA wc.heap.size z.turn.length (cellsI z.turn) _ rfl LA (cellsI_one _) (by unfold maxLen; omega) (by omega) (by simp) ?_; intro v4 w4 o4 gr4 at4; have b4 : Below wc.heap.size wc w4 := (box_below wc _).grown gr4 (by simp) (fun j hj => by simp [Value.ownBlock] at hj; omega); have y10 := (b4.cell (p := ⟨X, 10, none⟩) hX2).trans x10; have z10 := (b4.frozen (p := ⟨X, 10, none⟩) hX2).trans f10; rw [Nat.zero_add, List.nil_append] at o4; obtain ⟨a4, c4, rfl⟩ := own_form o4)
        have s4 := b4.size
        have KX : Keep (fun k => k ≠ X) w4 (w4.setCell ⟨X, 10, none⟩ (.slice a4 z.turn.length c4)) := Keep.setCell (Keep.refl _ w4) (p := ⟨X, 10, none⟩) (fun h => h rfl) _
        have C5 : Cells X (w4.setCell ⟨X, 10, none⟩ (.slice a4 z.turn.length c4)) [.int .i64 z.cf.streams, .int .i64 z.cf.part, .int .i64 z.cf.packet, .int .i64 z.cf.paths, .int .i64 z.cf.turns, .int .i64 z.cf.waiting, .int .i64 z.cf.first, .int .i64 z.cum, .slice sa2 z.spans.length sc2, .slice pa2 z.pieces.length pc2, .slice a4 z.turn.length c4, .slice la2 z.log.length lc2] := (HC.out.below b4 hX2).set 10 _ (by simp)
        have HX5 : Cells w.heap.size (w4.setCell ⟨X, 10, none⟩ (.slice a4 z.turn.length c4)) [.int .i64 y.cf.streams, .int .i64 y.cf.part, .int .i64 y.cf.packet, .int .i64 y.cf.paths, .int .i64 y.cf.turns, .int .i64 y.cf.waiting, .int .i64 y.cf.first, .int .i64 y.cum, .slice sa y.spans.length sc, .slice pa y.pieces.length pc, .slice ta y.turn.length tc, .slice la y.log.length lc] := (HX2.out.below b4 (by omega)).keep KX (by omega)
        have HT5 : Cells (w.heap.size + 1) (w4.setCell ⟨X, 10, none⟩ (.slice a4 z.turn.length c4)) [.int .i64 0, .int .i64 0, .int .i64 0, .int .i64 0, .int .i64 0, .int .i64 0, .int .i64 0, .int .i64 0, .slice none 0 0, .slice none 0 0, .slice none 0 0, .slice none 0 0] := (HT2.out.below b4 (by omega)).keep KX (by omega)
        have own5 : (w4.setCell ⟨X, 10, none⟩ (.slice a4 z.turn.length c4)).ownsRow wc.heap.size 3 1 (.slice a4 z.turn.length c4) z.turn.length (cellsI z.turn) := own_of_block o4 fun k hk => KX.block k (by have := (o4.lt k hk).1; omega)
        have HR5 : RvI (fun k => ((V k ∨ w.heap.size + 2 ≤ k) ∧ k ≠ X) ∧ k < wc.heap.size) (w4.setCell ⟨X, 10, none⟩ (.slice a4 z.turn.length c4)) z (.slice sa2 z.spans.length sc2) (.slice pa2 z.pieces.length pc2) (.slice ta2 z.turn.length tc2) (.slice la2 z.log.length lc2) := HR.out.lt.keep ((toKeep b4 fun k hk => hk.2).trans (KX.mono fun k hk => hk.1.2))
        have B5 : Below w.heap.size w (w4.setCell ⟨X, 10, none⟩ (.slice a4 z.turn.length c4)) := (BW.trans (b4.mono (by omega))).setCell (by show _ ≤ X; omega) _
        have HR5 := hide HR5
        have HT5 := hide HT5
        have s5 : w4.heap.size = (w4.setCell ⟨X, 10, none⟩ (.slice a4 z.turn.length c4)).heap.size := by simp
        clear KX x10 f10 y10 z10 HTN2 OA LA HX2 HT2 HX HT HC HR b4 o4 gr4 at4
        generalize (w4.setCell ⟨X, 10, none⟩ (.slice a4 z.turn.length c4)) = w5 at *
        obtain ⟨g, rfl⟩ : ∃ g, a4 = some ⟨g, 0, none⟩ := by
          rcases own5.2 with ⟨_, h0⟩ | ⟨g, c, cur, e, -⟩
          · omega
          · simp only [Value.slice.injEq] at e; exact ⟨g, e.1⟩
        have hg := own5.lt g rfl
        have hix5 := run_int_at g z.turn.length c4 i hzl
        have ct5 : w5.cell? ⟨g, i, none⟩ = some (.int .i64 tn) := by
          rw [own5.cellAt i (by omega), cellsI_get _ _ hzl]
          have := HTN.out
          simp only [turnAt, Int.toNat_natCast, List.getD_eq_getElem?_getD, List.getElem?_eq_getElem hzl, Option.getD_some] at this
          rw [this]
        have ft5 := own5.frozenAt i
        have c10 := C5.cell 10 _ rfl
        have KG : Keep (fun k => k ≠ g) w5 (w5.setCell ⟨g, i, none⟩ (.int .i64 (tn + 1))) := Keep.setCell (Keep.refl _ w5) (p := ⟨g, i, none⟩) (fun h => h rfl) _
        have C6 : Cells X (w5.setCell ⟨g, i, none⟩ (.int .i64 (tn + 1))) [.int .i64 z.cf.streams, .int .i64 z.cf.part, .int .i64 z.cf.packet, .int .i64 z.cf.paths, .int .i64 z.cf.turns, .int .i64 z.cf.waiting, .int .i64 z.cf.first, .int .i64 z.cum, .slice sa2 z.spans.length sc2, .slice pa2 z.pieces.length pc2, .slice (some ⟨g, 0, none⟩) z.turn.length c4, .slice la2 z.log.length lc2] := C5.keep KG (by omega)
        have HX6 : Cells w.heap.size (w5.setCell ⟨g, i, none⟩ (.int .i64 (tn + 1))) [.int .i64 y.cf.streams, .int .i64 y.cf.part, .int .i64 y.cf.packet, .int .i64 y.cf.paths, .int .i64 y.cf.turns, .int .i64 y.cf.waiting, .int .i64 y.cf.first, .int .i64 y.cum, .slice sa y.spans.length sc, .slice pa y.pieces.length pc, .slice ta y.turn.length tc, .slice la y.log.length lc] := HX5.keep KG (by omega)
        have HT6 : Cells (w.heap.size + 1) (w5.setCell ⟨g, i, none⟩ (.int .i64 (tn + 1))) [.int .i64 0, .int .i64 0, .int .i64 0, .int .i64 0, .int .i64 0, .int .i64 0, .int .i64 0, .int .i64 0, .slice none 0 0, .slice none 0 0, .slice none 0 0, .slice none 0 0] := HT5.out.keep KG (by omega)
        have own6 : (w5.setCell ⟨g, i, none⟩ (.int .i64 (tn + 1))).ownsRow wc.heap.size 3 1 (.slice (some ⟨g, 0, none⟩) z.turn.length c4) z.turn.length (cellsI (z.turn.set i (tn + 1))) := by
          have := (own5.stored i (.int .i64 (tn + 1))).1
          rw [← cellsI_set] at this
          exact this
        have HR6 : Hid (RvI (fun k => ((V k ∨ w.heap.size + 2 ≤ k) ∧ k ≠ X) ∧ k < wc.heap.size) (w5.setCell ⟨g, i, none⟩ (.int .i64 (tn + 1))) z (.slice sa2 z.spans.length sc2) (.slice pa2 z.pieces.length pc2) (.slice ta2 z.turn.length tc2) (.slice la2 z.log.length lc2)) := HR5.out.keep (KG.mono fun k hk => by omega)
        have B6 : Below w.heap.size w (w5.setCell ⟨g, i, none⟩ (.int .i64 (tn + 1))) := B5.setCell (by show _ ≤ g; omega) _
        have s6 : w5.heap.size = (w5.setCell ⟨g, i, none⟩ (.int .i64 (tn + 1))).heap.size := by simp
        have HT6 := hide HT6
        have OW6 := hide own6
        clear KG HR5 HX5 HT5 C5 own5 own6 B5
        go_upto_region 6 with fail
        generalize (w5.setCell ⟨g, i, none⟩ (.int .i64 (tn + 1))) = w6 at *
        clear ct5 ft5 c10 hix5
        have RNG := C6.range
        have TH : w6.there w.heap.size 0 12 := HX6.there
        have KR : Keep (fun k => k ≠ w.heap.size) w6 (w6.setCells w.heap.size 0 [.int .i64 z.cf.streams, .int .i64 z.cf.part, .int .i64 z.cf.packet, .int .i64 z.cf.paths, .int .i64 z.cf.turns, .int .i64 z.cf.waiting, .int .i64 z.cf.first, .int .i64 z.cum, .slice sa2 z.spans.length sc2, .slice pa2 z.pieces.length pc2, .slice (some ⟨g, 0, none⟩) z.turn.length c4, .slice la2 z.log.length lc2]) := Keep.setCells (fun h => h rfl) _ _ (Keep.refl _ _)
        have HX7 : Hid (Cells w.heap.size (w6.setCells w.heap.size 0 [.int .i64 z.cf.streams, .int .i64 z.cf.part, .int .i64 z.cf.packet, .int .i64 z.cf.paths, .int .i64 z.cf.turns, .int .i64 z.cf.waiting, .int .i64 z.cf.first, .int .i64 z.cum, .slice sa2 z.spans.length sc2, .slice pa2 z.pieces.length pc2, .slice (some ⟨g, 0, none⟩) z.turn.length c4, .slice la2 z.log.length lc2]) [.int .i64 z.cf.streams, .int .i64 z.cf.part, .int .i64 z.cf.packet, .int .i64 z.cf.paths, .int .i64 z.cf.turns, .int .i64 z.cf.waiting, .int .i64 z.cf.first, .int .i64 z.cum, .slice sa2 z.spans.length sc2, .slice pa2 z.pieces.length pc2, .slice (some ⟨g, 0, none⟩) z.turn.length c4, .slice la2 z.log.length lc2]) := HX6.setAll [.int .i64 z.cf.streams, .int .i64 z.cf.part, .int .i64 z.cf.packet, .int .i64 z.cf.paths, .int .i64 z.cf.turns, .int .i64 z.cf.waiting, .int .i64 z.cf.first, .int .i64 z.cum, .slice sa2 z.spans.length sc2, .slice pa2 z.pieces.length pc2, .slice (some ⟨g, 0, none⟩) z.turn.length c4, .slice la2 z.log.length lc2] rfl
        have HT7 : Hid (Cells (w.heap.size + 1) (w6.setCells w.heap.size 0 [.int .i64 z.cf.streams, .int .i64 z.cf.part, .int .i64 z.cf.packet, .int .i64 z.cf.paths, .int .i64 z.cf.turns, .int .i64 z.cf.waiting, .int .i64 z.cf.first, .int .i64 z.cum, .slice sa2 z.spans.length sc2, .slice pa2 z.pieces.length pc2, .slice (some ⟨g, 0, none⟩) z.turn.length c4, .slice la2 z.log.length lc2]) [.int .i64 0, .int .i64 0, .int .i64 0, .int .i64 0, .int .i64 0, .int .i64 0, .int .i64 0, .int .i64 0, .slice none 0 0, .slice none 0 0, .slice none 0 0, .slice none 0 0]) := HT6.out.keep KR (by omega)
        have BW7 : Below w.heap.size w (w6.setCells w.heap.size 0 [.int .i64 z.cf.streams, .int .i64 z.cf.part, .int .i64 z.cf.packet, .int .i64 z.cf.paths, .int .i64 z.cf.turns, .int .i64 z.cf.waiting, .int .i64 z.cf.first, .int .i64 z.cum, .slice sa2 z.spans.length sc2, .slice pa2 z.pieces.length pc2, .slice (some ⟨g, 0, none⟩) z.turn.length c4, .slice la2 z.log.length lc2]) := Below.setCells (Nat.le_refl _) _ _ B6
        have HR7 : Hid (RvI (fun k => V k ∨ w.heap.size + 2 ≤ k) (w6.setCells w.heap.size 0 [.int .i64 z.cf.streams, .int .i64 z.cf.part, .int .i64 z.cf.packet, .int .i64 z.cf.paths, .int .i64 z.cf.turns, .int .i64 z.cf.waiting, .int .i64 z.cf.first, .int .i64 z.cum, .slice sa2 z.spans.length sc2, .slice pa2 z.pieces.length pc2, .slice (some ⟨g, 0, none⟩) z.turn.length c4, .slice la2 z.log.length lc2]) (setTurn z i (tn + 1)) (.slice sa2 z.spans.length sc2) (.slice pa2 z.pieces.length pc2) (.slice (some ⟨g, 0, none⟩) z.turn.length c4) (.slice la2 z.log.length lc2)) := by
          have r0 := (HR6.out.keep (KR.mono fun k hk => hk.1.1.elim (fun h => by have := hv k h; omega) fun h => by omega)).mono (V' := fun k => V k ∨ w.heap.size + 2 ≤ k) fun k hk => hk.1.1
          have o7 : (w6.setCells w.heap.size 0 [.int .i64 z.cf.streams, .int .i64 z.cf.part, .int .i64 z.cf.packet, .int .i64 z.cf.paths, .int .i64 z.cf.turns, .int .i64 z.cf.waiting, .int .i64 z.cf.first, .int .i64 z.cum, .slice sa2 z.spans.length sc2, .slice pa2 z.pieces.length pc2, .slice (some ⟨g, 0, none⟩) z.turn.length c4, .slice la2 z.log.length lc2]).ownsRow wc.heap.size 3 1 (.slice (some ⟨g, 0, none⟩) z.turn.length c4) z.turn.length (cellsI (z.turn.set i (tn + 1))) := own_of_block OW6.out fun k hk => KR.block k (by have := (OW6.out.lt k hk).1; omega)
          have hI : IsI (z.turn.set i (tn + 1)) := r0.r.t.2.set i ⟨by omega, by omega⟩
          exact r0.withT (In.own o7 (List.length_set ..).symm hI) (fun b off sp n c e _ => by simp only [Value.slice.injEq, Option.some.injEq, Addr.mk.injEq] at e; exact .inr (by omega))
        have s7 := KR.size
        clear KR HX6 HT6 C6 HR6 OW6 B6
        have HT8 := hide HT7
        have BW8 := hide BW7
        clear HT7 BW7
        go_wp2_with (first
          | refine wpList_ldR rfl (.tmp 5) rfl X 0 rfl z _ _ _ _ (by with_reducible exact RNG) ?_
          | refine wpList_srN 47 12 Try.sizeRv rfl (.tmp 2) (.tmp 35) rfl w.heap.size 0 rfl [.int .i64 z.cf.streams, .int .i64 z.cf.part, .int .i64 z.cf.packet, .int .i64 z.cf.paths, .int .i64 z.cf.turns, .int .i64 z.cf.waiting, .int .i64 z.cf.first, .int .i64 z.cum, .slice sa2 z.spans.length sc2, .slice pa2 z.pieces.length pc2, .slice (some ⟨g, 0, none⟩) z.turn.length c4, .slice la2 z.log.length lc2] rfl rfl rfl (by with_reducible exact TH) ?_)
        go_simp
        go_roundw
        case rel => exact ⟨setTurn z i (tn + 1), _, _, _, _, HX7, HT8.out, HR7, G1.out.trans HTU.out, G2, by show _ = _; simp [setTurn]; exact HZL.out, BW8.out, by omega⟩
        case measure =>
          have e2 := HM.out
          have e4 := G3.out
          have e1 : lenAt (w6.setCells w.heap.size 0 [.int .i64 z.cf.streams, .int .i64 z.cf.part, .int .i64 z.cf.packet, .int .i64 z.cf.paths, .int .i64 z.cf.turns, .int .i64 z.cf.waiting, .int .i64 z.cf.first, .int .i64 z.cum, .slice sa2 z.spans.length sc2, .slice pa2 z.pieces.length pc2, .slice (some ⟨g, 0, none⟩) z.turn.length c4, .slice la2 z.log.length lc2]) w.heap.size = z.pieces.length := by unfold lenAt; rw [HX7.out.cell 9 _ rfl]
          omega
end Go.Proofs.Ytnddejdndipddad
