/- The document's receivers: Data. -/
import Derived.Test.YtnddejdndipddadRdE
import Derived.Test.YtnddejdndipddadRdU
set_option maxRecDepth 20000
namespace Go.Proofs.Ytnddejdndipddad
open Go.RowKit

theorem enters_rheld2 (args : Array Value) (wx : World) : (callFunc 27 args).run Try.prog wx = .ok (.enter 27 args) wx := enters_body Try.func27 (by kernel_rfl) rfl args wx
theorem enters_radd (args : Array Value) (wx : World) : (callFunc 64 args).run Try.prog wx = .ok (.enter 64 args) wx := enters_body Try.func64 (by kernel_rfl) rfl args wx
theorem enters_rup (args : Array Value) (wx : World) : (callFunc 63 args).run Try.prog wx = .ok (.enter 63 args) wx := enters_body Try.func63 (by kernel_rfl) rfl args wx

def okB (x : Rc) (c : Ck) (n : Int) : Bool := c.kind == 1 && decide (0 ≤ c.stream) && decide (c.stream < x.turn.length) && decide (x.cum < n) && !inM x.spans n
def fullB (x : Rc) (c : Ck) (n : Int) : Bool := decide (x.cum + 1 < n) && decide (400 < heldM x.pieces + c.data.length)
theorem takes_ok {x : Rc} {c : Ck} : takesM x c ↔ okB x c (nearM x.cum c.tag) = true ∧ fullB x c (nearM x.cum c.tag) = false := by
  unfold takesM okB fullB hasM
  simp only [Bool.and_eq_true, beq_iff_eq, decide_eq_true_eq, Bool.not_eq_true', Bool.and_eq_false_iff, decide_eq_false_iff_not]
  constructor
  · rintro ⟨h1, ⟨h2, h3⟩, h4, h5, h6⟩
    exact ⟨⟨⟨⟨⟨h1, h2⟩, h3⟩, h4⟩, h5⟩, by omega⟩
  · rintro ⟨⟨⟨⟨⟨h1, h2⟩, h3⟩, h4⟩, h5⟩, h6⟩
    exact ⟨h1, ⟨h2, h3⟩, h4, h5, by omega⟩

/-- Its number and its spans are others. -/
theorem RvI.withS {V : Nat → Prop} {w : World} {x : Rc} {s p t l s' : Value} {L : List Sp} (cum : Int) (h : RvI V w x s p t l) (hs : Sl w.heap.size w s' L) (hi : InS V s') : RvI V w { x with cum := cum, spans := L } s' p t l :=
  ⟨⟨hs, h.r.p, h.r.t, h.r.l⟩, hi, h.pi, h.ti, h.li, h.p, h.l⟩

set_option maxHeartbeats 4000000 in
theorem rdata2_in (V : Nat → Prop) (K : Int) (x : Rc) (c : Ck) (s p t l d sp q : Value) (w : World) (h : RvI V w x s p t l) (hv : ∀ k, V k → k < w.heap.size) (hl : SnL V w c d sp q) (hdl : c.data.length ≤ 1048576) (hinv : InvR x) (hst : StR x) (hok : takesM x c → OkR K (keptM x c)) (hK : K ≤ 1099511627776) :
    Calls Try.prog 29 #[.agg #[.int .i64 x.cf.streams, .int .i64 x.cf.part, .int .i64 x.cf.packet, .int .i64 x.cf.paths, .int .i64 x.cf.turns, .int .i64 x.cf.waiting, .int .i64 x.cf.first, .int .i64 x.cum, s, p, t, l], .agg #[.int .i64 c.kind, .int .i64 c.tag, .int .i64 c.stream, .int .i64 c.mid, .int .i64 c.part, .bool c.last, .bool c.ordered, d, sp, .int .i64 c.room, q]] w fun e w' => ∃ s' p' t' l', e = .returned (.agg #[.int .i64 (recvM x c).cf.streams, .int .i64 (recvM x c).cf.part, .int .i64 (recvM x c).cf.packet, .int .i64 (recvM x c).cf.paths, .int .i64 (recvM x c).cf.turns, .int .i64 (recvM x c).cf.waiting, .int .i64 (recvM x c).cf.first, .int .i64 (recvM x c).cum, s', p', t', l']) ∧ RvI (fun k => V k ∨ w.heap.size ≤ k) w' (recvM x c) s' p' t' l' ∧ Below w.heap.size w w' := by
  obtain ⟨sa, sc, pa, pc, ta, tc, la, lc, rfl, rfl, rfl, rfl⟩ := h.r.ex
  obtain ⟨da, dc, ssa, ssc, qa, qc, rfl, rfl, rfl⟩ := hl.ex
  have B0 := three_below w (.cells #[.int .i64 x.cf.streams, .int .i64 x.cf.part, .int .i64 x.cf.packet, .int .i64 x.cf.paths, .int .i64 x.cf.turns, .int .i64 x.cf.waiting, .int .i64 x.cf.first, .int .i64 x.cum, .slice sa x.spans.length sc, .slice pa x.pieces.length pc, .slice ta x.turn.length tc, .slice la x.log.length lc] 47) (.cells #[.int .i64 c.kind, .int .i64 c.tag, .int .i64 c.stream, .int .i64 c.mid, .int .i64 c.part, .bool c.last, .bool c.ordered, .slice da c.data.length dc, .slice ssa c.spans.length ssc, .int .i64 c.room, .slice qa c.skips.length qc] 42) (.cells #[.int .i64 0, .int .i64 0, .int .i64 0, .int .i64 0, .int .i64 0, .int .i64 0, .int .i64 0, .int .i64 0, .slice none 0 0, .slice none 0 0, .slice none 0 0, .slice none 0 0] 47)
  have CX : Cells w.heap.size (((w.alloc (.cells #[.int .i64 x.cf.streams, .int .i64 x.cf.part, .int .i64 x.cf.packet, .int .i64 x.cf.paths, .int .i64 x.cf.turns, .int .i64 x.cf.waiting, .int .i64 x.cf.first, .int .i64 x.cum, .slice sa x.spans.length sc, .slice pa x.pieces.length pc, .slice ta x.turn.length tc, .slice la x.log.length lc] 47)).alloc (.cells #[.int .i64 c.kind, .int .i64 c.tag, .int .i64 c.stream, .int .i64 c.mid, .int .i64 c.part, .bool c.last, .bool c.ordered, .slice da c.data.length dc, .slice ssa c.spans.length ssc, .int .i64 c.room, .slice qa c.skips.length qc] 42)).alloc (.cells #[.int .i64 0, .int .i64 0, .int .i64 0, .int .i64 0, .int .i64 0, .int .i64 0, .int .i64 0, .int .i64 0, .slice none 0 0, .slice none 0 0, .slice none 0 0, .slice none 0 0] 47)) [.int .i64 x.cf.streams, .int .i64 x.cf.part, .int .i64 x.cf.packet, .int .i64 x.cf.paths, .int .i64 x.cf.turns, .int .i64 x.cf.waiting, .int .i64 x.cf.first, .int .i64 x.cum, .slice sa x.spans.length sc, .slice pa x.pieces.length pc, .slice ta x.turn.length tc, .slice la x.log.length lc] := ((Cells.new w #[.int .i64 x.cf.streams, .int .i64 x.cf.part, .int .i64 x.cf.packet, .int .i64 x.cf.paths, .int .i64 x.cf.turns, .int .i64 x.cf.waiting, .int .i64 x.cf.first, .int .i64 x.cum, .slice sa x.spans.length sc, .slice pa x.pieces.length pc, .slice ta x.turn.length tc, .slice la x.log.length lc] 47).alloc (by simp) _).alloc (by simp; omega) _
  have CC : Cells (w.heap.size + 1) (((w.alloc (.cells #[.int .i64 x.cf.streams, .int .i64 x.cf.part, .int .i64 x.cf.packet, .int .i64 x.cf.paths, .int .i64 x.cf.turns, .int .i64 x.cf.waiting, .int .i64 x.cf.first, .int .i64 x.cum, .slice sa x.spans.length sc, .slice pa x.pieces.length pc, .slice ta x.turn.length tc, .slice la x.log.length lc] 47)).alloc (.cells #[.int .i64 c.kind, .int .i64 c.tag, .int .i64 c.stream, .int .i64 c.mid, .int .i64 c.part, .bool c.last, .bool c.ordered, .slice da c.data.length dc, .slice ssa c.spans.length ssc, .int .i64 c.room, .slice qa c.skips.length qc] 42)).alloc (.cells #[.int .i64 0, .int .i64 0, .int .i64 0, .int .i64 0, .int .i64 0, .int .i64 0, .int .i64 0, .int .i64 0, .slice none 0 0, .slice none 0 0, .slice none 0 0, .slice none 0 0] 47)) [.int .i64 c.kind, .int .i64 c.tag, .int .i64 c.stream, .int .i64 c.mid, .int .i64 c.part, .bool c.last, .bool c.ordered, .slice da c.data.length dc, .slice ssa c.spans.length ssc, .int .i64 c.room, .slice qa c.skips.length qc] := (Cells.new' (w := w.alloc (.cells #[.int .i64 x.cf.streams, .int .i64 x.cf.part, .int .i64 x.cf.packet, .int .i64 x.cf.paths, .int .i64 x.cf.turns, .int .i64 x.cf.waiting, .int .i64 x.cf.first, .int .i64 x.cum, .slice sa x.spans.length sc, .slice pa x.pieces.length pc, .slice ta x.turn.length tc, .slice la x.log.length lc] 47)) #[.int .i64 c.kind, .int .i64 c.tag, .int .i64 c.stream, .int .i64 c.mid, .int .i64 c.part, .bool c.last, .bool c.ordered, .slice da c.data.length dc, .slice ssa c.spans.length ssc, .int .i64 c.room, .slice qa c.skips.length qc] 42 (by simp)).alloc (by simp) _
  have CT : Cells (w.heap.size + 2) (((w.alloc (.cells #[.int .i64 x.cf.streams, .int .i64 x.cf.part, .int .i64 x.cf.packet, .int .i64 x.cf.paths, .int .i64 x.cf.turns, .int .i64 x.cf.waiting, .int .i64 x.cf.first, .int .i64 x.cum, .slice sa x.spans.length sc, .slice pa x.pieces.length pc, .slice ta x.turn.length tc, .slice la x.log.length lc] 47)).alloc (.cells #[.int .i64 c.kind, .int .i64 c.tag, .int .i64 c.stream, .int .i64 c.mid, .int .i64 c.part, .bool c.last, .bool c.ordered, .slice da c.data.length dc, .slice ssa c.spans.length ssc, .int .i64 c.room, .slice qa c.skips.length qc] 42)).alloc (.cells #[.int .i64 0, .int .i64 0, .int .i64 0, .int .i64 0, .int .i64 0, .int .i64 0, .int .i64 0, .int .i64 0, .slice none 0 0, .slice none 0 0, .slice none 0 0, .slice none 0 0] 47)) [.int .i64 0, .int .i64 0, .int .i64 0, .int .i64 0, .int .i64 0, .int .i64 0, .int .i64 0, .int .i64 0, .slice none 0 0, .slice none 0 0, .slice none 0 0, .slice none 0 0] := Cells.new' #[.int .i64 0, .int .i64 0, .int .i64 0, .int .i64 0, .int .i64 0, .int .i64 0, .int .i64 0, .int .i64 0, .slice none 0 0, .slice none 0 0, .slice none 0 0, .slice none 0 0] 47 (by simp)
  have HZ : w.heap.size + 3 ≤ (((w.alloc (.cells #[.int .i64 x.cf.streams, .int .i64 x.cf.part, .int .i64 x.cf.packet, .int .i64 x.cf.paths, .int .i64 x.cf.turns, .int .i64 x.cf.waiting, .int .i64 x.cf.first, .int .i64 x.cum, .slice sa x.spans.length sc, .slice pa x.pieces.length pc, .slice ta x.turn.length tc, .slice la x.log.length lc] 47)).alloc (.cells #[.int .i64 c.kind, .int .i64 c.tag, .int .i64 c.stream, .int .i64 c.mid, .int .i64 c.part, .bool c.last, .bool c.ordered, .slice da c.data.length dc, .slice ssa c.spans.length ssc, .int .i64 c.room, .slice qa c.skips.length qc] 42)).alloc (.cells #[.int .i64 0, .int .i64 0, .int .i64 0, .int .i64 0, .int .i64 0, .int .i64 0, .int .i64 0, .int .i64 0, .slice none 0 0, .slice none 0 0, .slice none 0 0, .slice none 0 0] 47)).heap.size := by simp
  have H0 : Hid (RvI (fun k => V k ∧ k < (((w.alloc (.cells #[.int .i64 x.cf.streams, .int .i64 x.cf.part, .int .i64 x.cf.packet, .int .i64 x.cf.paths, .int .i64 x.cf.turns, .int .i64 x.cf.waiting, .int .i64 x.cf.first, .int .i64 x.cum, .slice sa x.spans.length sc, .slice pa x.pieces.length pc, .slice ta x.turn.length tc, .slice la x.log.length lc] 47)).alloc (.cells #[.int .i64 c.kind, .int .i64 c.tag, .int .i64 c.stream, .int .i64 c.mid, .int .i64 c.part, .bool c.last, .bool c.ordered, .slice da c.data.length dc, .slice ssa c.spans.length ssc, .int .i64 c.room, .slice qa c.skips.length qc] 42)).alloc (.cells #[.int .i64 0, .int .i64 0, .int .i64 0, .int .i64 0, .int .i64 0, .int .i64 0, .int .i64 0, .int .i64 0, .slice none 0 0, .slice none 0 0, .slice none 0 0, .slice none 0 0] 47)).heap.size) (((w.alloc (.cells #[.int .i64 x.cf.streams, .int .i64 x.cf.part, .int .i64 x.cf.packet, .int .i64 x.cf.paths, .int .i64 x.cf.turns, .int .i64 x.cf.waiting, .int .i64 x.cf.first, .int .i64 x.cum, .slice sa x.spans.length sc, .slice pa x.pieces.length pc, .slice ta x.turn.length tc, .slice la x.log.length lc] 47)).alloc (.cells #[.int .i64 c.kind, .int .i64 c.tag, .int .i64 c.stream, .int .i64 c.mid, .int .i64 c.part, .bool c.last, .bool c.ordered, .slice da c.data.length dc, .slice ssa c.spans.length ssc, .int .i64 c.room, .slice qa c.skips.length qc] 42)).alloc (.cells #[.int .i64 0, .int .i64 0, .int .i64 0, .int .i64 0, .int .i64 0, .int .i64 0, .int .i64 0, .int .i64 0, .slice none 0 0, .slice none 0 0, .slice none 0 0, .slice none 0 0] 47)) x (.slice sa x.spans.length sc) (.slice pa x.pieces.length pc) (.slice ta x.turn.length tc) (.slice la x.log.length lc)) := (h.keep (toKeep B0 fun k hk => hv k hk)).mono fun k hk => ⟨hk, by have := hv k hk; omega⟩
  have HLC : Hid (SnL V (((w.alloc (.cells #[.int .i64 x.cf.streams, .int .i64 x.cf.part, .int .i64 x.cf.packet, .int .i64 x.cf.paths, .int .i64 x.cf.turns, .int .i64 x.cf.waiting, .int .i64 x.cf.first, .int .i64 x.cum, .slice sa x.spans.length sc, .slice pa x.pieces.length pc, .slice ta x.turn.length tc, .slice la x.log.length lc] 47)).alloc (.cells #[.int .i64 c.kind, .int .i64 c.tag, .int .i64 c.stream, .int .i64 c.mid, .int .i64 c.part, .bool c.last, .bool c.ordered, .slice da c.data.length dc, .slice ssa c.spans.length ssc, .int .i64 c.room, .slice qa c.skips.length qc] 42)).alloc (.cells #[.int .i64 0, .int .i64 0, .int .i64 0, .int .i64 0, .int .i64 0, .int .i64 0, .int .i64 0, .int .i64 0, .slice none 0 0, .slice none 0 0, .slice none 0 0, .slice none 0 0] 47)) c (.slice da c.data.length dc) (.slice ssa c.spans.length ssc) (.slice qa c.skips.length qc)) := hl.keep (toKeep B0 fun k hk => hv k hk)
  have hc1 := hst.c1
  have hc2 := hst.c2
  have HST := hide hst
  have HF := hide hst.sz.fit
  have HOK := hide hok
  have hnb := near_bd' x.cum c.tag
  have NE := fun wx => rnear_any x.cum c.tag wx (by omega) (by omega)
  have HTK := hide (takes_ok (x := x) (c := c))
  have HRC : Hid (¬ takesM x c → recvM x c = x) := fun h => by rw [recvM, if_neg h]
  have HKE : Hid (keptM x c = { x with pieces := x.pieces ++ [⟨nearM x.cum c.tag, c⟩], cum := (upM (addM x.spans (nearM x.cum c.tag)) x.cum).1, spans := (upM (addM x.spans (nearM x.cum c.tag)) x.cum).2 }) := rfl
  clear h hl hst hok
  go_enter Try.func29, Try.ntmps29
  go_upto_region 1 with fail
  generalize (((w.alloc (.cells #[.int .i64 x.cf.streams, .int .i64 x.cf.part, .int .i64 x.cf.packet, .int .i64 x.cf.paths, .int .i64 x.cf.turns, .int .i64 x.cf.waiting, .int .i64 x.cf.first, .int .i64 x.cum, .slice sa x.spans.length sc, .slice pa x.pieces.length pc, .slice ta x.turn.length tc, .slice la x.log.length lc] 47)).alloc (.cells #[.int .i64 c.kind, .int .i64 c.tag, .int .i64 c.stream, .int .i64 c.mid, .int .i64 c.part, .bool c.last, .bool c.ordered, .slice da c.data.length dc, .slice ssa c.spans.length ssc, .int .i64 c.room, .slice qa c.skips.length qc] 42)).alloc (.cells #[.int .i64 0, .int .i64 0, .int .i64 0, .int .i64 0, .int .i64 0, .int .i64 0, .int .i64 0, .int .i64 0, .slice none 0 0, .slice none 0 0, .slice none 0 0, .slice none 0 0] 47)) = w0 at *
  have x7 := CX.cell 7 _ rfl
  have c1 := CC.cell 1 _ rfl
  generalize nearM x.cum c.tag = n at *
  go_upto_region 2 with (go_at_call 61; refine (NE _).mono ?_; rintro e w' ⟨rfl, hw'⟩; subst w')
  clear NE
  have c0 := CC.cell 0 _ rfl
  have c2 := CC.cell 2 _ rfl
  have x10 := CX.cell 10 _ rfl
  have x8 := CX.cell 8 _ rfl
  have IN := rin_any _ x.spans n w0 H0.out.r.s
  go_cut [40] from 13 to 39 (fun s40 wx => s40 = .bool (!okB x c n) ∧ Below w0.heap.size w0 wx)
  case first =>
    have HB : Hid (okB x c n = (c.kind == 1 && decide (0 ≤ c.stream) && decide (c.stream < x.turn.length) && decide (x.cum < n) && !inM x.spans n)) := rfl
    have BR := Below.refl w0.heap.size w0
    rcases Classical.em (c.kind = 1) with hk' | hk'
    case inr =>
      have hk : (c.kind == 1) = false := by simpa using hk'
      have hk2 : (c.kind != 1) = true := by simpa using hk'
      clear hk'
      go_wp2_with fail
      go_meet
      exact ⟨by rw [HB.out, hk]; rfl, BR⟩
    case inl =>
      have hk : (c.kind == 1) = true := by simpa using hk'
      have hk2 : (c.kind != 1) = false := by simpa using hk'
      clear hk'
      by_cases h1 : c.stream < 0
      · go_wp2_with fail
        go_meet
        exact ⟨by rw [HB.out, decide_eq_false (show ¬ 0 ≤ c.stream by omega)]; simp, BR⟩
      · by_cases h2 : (x.turn.length : Int) ≤ c.stream
        · go_wp2_with fail
          go_meet
          exact ⟨by rw [HB.out, decide_eq_false (show ¬ c.stream < x.turn.length by omega)]; simp, BR⟩
        · by_cases h3 : n ≤ x.cum
          · go_wp2_with fail
            go_meet
            exact ⟨by rw [HB.out, decide_eq_false (show ¬ x.cum < n by omega)]; simp, BR⟩
          · generalize inM x.spans n = b at *
            go_wp2_with (go_at_call 62; refine IN.mono ?_; rintro e w1 ⟨rfl, b1⟩)
            go_meet
            exact ⟨by rw [HB.out, hk, decide_eq_true (show 0 ≤ c.stream by omega), decide_eq_true (show c.stream < x.turn.length by omega), decide_eq_true (show x.cum < n by omega)]; simp, b1⟩
  case rest =>
  obtain ⟨rfl, B1⟩ := hcut
  obtain ⟨w1, hw1⟩ : ∃ w1, w1 = wc := ⟨wc, rfl⟩
  subst hw1
  clear IN x7 c1 c0 c2 x10 x8
  have sz1 := B1.size
  have BW : Below w.heap.size w w1 := B0.trans (B1.mono (by omega))
  cases hok : okB x c n with
  | false =>
    have HNO : Hid (recvM x c = x) := HRC.out fun h => by have := (HTK.out.1 h).1; rw [hok] at this; cases this
    simp only [Bool.not_false]
    have RNG := (CX.below B1 (by omega)).range
    have TH : w1.there (w.heap.size + 2) 0 12 := (CT.below B1 (by omega)).there
    have CE := (CT.below B1 (by omega)).setAll [.int .i64 x.cf.streams, .int .i64 x.cf.part, .int .i64 x.cf.packet, .int .i64 x.cf.paths, .int .i64 x.cf.turns, .int .i64 x.cf.waiting, .int .i64 x.cf.first, .int .i64 x.cum, .slice sa x.spans.length sc, .slice pa x.pieces.length pc, .slice ta x.turn.length tc, .slice la x.log.length lc] rfl
    have e0 := CE.cell 0 _ rfl
    have e1 := CE.cell 1 _ rfl
    have e2 := CE.cell 2 _ rfl
    have e3 := CE.cell 3 _ rfl
    have e4 := CE.cell 4 _ rfl
    have e5 := CE.cell 5 _ rfl
    have e6 := CE.cell 6 _ rfl
    have e7 := CE.cell 7 _ rfl
    have e8 := CE.cell 8 _ rfl
    have e9 := CE.cell 9 _ rfl
    have e10 := CE.cell 10 _ rfl
    have e11 := CE.cell 11 _ rfl
    have KE : Keep (fun k => k ≠ w.heap.size + 2) w1 (w1.setCells (w.heap.size + 2) 0 [.int .i64 x.cf.streams, .int .i64 x.cf.part, .int .i64 x.cf.packet, .int .i64 x.cf.paths, .int .i64 x.cf.turns, .int .i64 x.cf.waiting, .int .i64 x.cf.first, .int .i64 x.cum, .slice sa x.spans.length sc, .slice pa x.pieces.length pc, .slice ta x.turn.length tc, .slice la x.log.length lc]) := Keep.setCells (fun h => h rfl) _ _ (Keep.refl _ _)
    have BE : Below w.heap.size w (w1.setCells (w.heap.size + 2) 0 [.int .i64 x.cf.streams, .int .i64 x.cf.part, .int .i64 x.cf.packet, .int .i64 x.cf.paths, .int .i64 x.cf.turns, .int .i64 x.cf.waiting, .int .i64 x.cf.first, .int .i64 x.cum, .slice sa x.spans.length sc, .slice pa x.pieces.length pc, .slice ta x.turn.length tc, .slice la x.log.length lc]) := Below.setCells (by omega) _ _ BW
    have FIN : Hid (RvI (fun k => V k ∨ w.heap.size ≤ k) (w1.setCells (w.heap.size + 2) 0 [.int .i64 x.cf.streams, .int .i64 x.cf.part, .int .i64 x.cf.packet, .int .i64 x.cf.paths, .int .i64 x.cf.turns, .int .i64 x.cf.waiting, .int .i64 x.cf.first, .int .i64 x.cum, .slice sa x.spans.length sc, .slice pa x.pieces.length pc, .slice ta x.turn.length tc, .slice la x.log.length lc]) x (.slice sa x.spans.length sc) (.slice pa x.pieces.length pc) (.slice ta x.turn.length tc) (.slice la x.log.length lc)) := ((H0.out.keep (toKeep B1 fun k hk => hk.2)).keep (KE.mono fun k hk => by have := hv k hk.1; omega)).mono fun k hk => .inl hk.1
    clear CE KE
    go_wp2_with (first
      | refine wpList_ldR rfl (.tmp 2) rfl w.heap.size 0 rfl x _ _ _ _ (by with_reducible exact RNG) ?_
      | refine wpList_srN 47 12 Try.sizeRv rfl (.tmp 4) (.tmp 41) rfl (w.heap.size + 2) 0 rfl [.int .i64 x.cf.streams, .int .i64 x.cf.part, .int .i64 x.cf.packet, .int .i64 x.cf.paths, .int .i64 x.cf.turns, .int .i64 x.cf.waiting, .int .i64 x.cf.first, .int .i64 x.cum, .slice sa x.spans.length sc, .slice pa x.pieces.length pc, .slice ta x.turn.length tc, .slice la x.log.length lc] rfl rfl rfl (by with_reducible exact TH) ?_)
    generalize (w1.setCells (w.heap.size + 2) 0 [.int .i64 x.cf.streams, .int .i64 x.cf.part, .int .i64 x.cf.packet, .int .i64 x.cf.paths, .int .i64 x.cf.turns, .int .i64 x.cf.waiting, .int .i64 x.cf.first, .int .i64 x.cum, .slice sa x.spans.length sc, .slice pa x.pieces.length pc, .slice ta x.turn.length tc, .slice la x.log.length lc]) = w9 at *
    refine bodyPost_ret (v := .agg #[.int .i64 x.cf.streams, .int .i64 x.cf.part, .int .i64 x.cf.packet, .int .i64 x.cf.paths, .int .i64 x.cf.turns, .int .i64 x.cf.waiting, .int .i64 x.cf.first, .int .i64 x.cum, .slice sa x.spans.length sc, .slice pa x.pieces.length pc, .slice ta x.turn.length tc, .slice la x.log.length lc]) (by simp [results, Try.results29, go_sem, e0, e1, e2, e3, e4, e5, e6, e7, e8, e9, e10, e11]) rfl ?_
    rw [HNO.out]
    exact ⟨_, _, _, _, rfl, FIN.out, BE⟩
  | true =>
    simp only [Bool.not_true]
    have CX1 := CX.below B1 (by omega)
    have CC1 := CC.below B1 (by omega)
    have HCT1 := hide (CT.below B1 (by omega))
    have H1 := hide (H0.out.keep (toKeep B1 fun k hk => hk.2))
    have x7 := CX1.cell 7 _ rfl
    have c7 := CC1.cell 7 _ rfl
    have RNG4 := CX1.range
    have h1c : w.heap.size < w1.heap.size := by omega
    have h2c : w.heap.size + 1 < w1.heap.size := by omega
    have BD : Below w1.heap.size w1 w1.drew := below_drew' (Below.refl _ _)
    have H4 : RvS w1.drew.heap.size w1.drew x _ _ _ _ := H1.out.r.below BD (Nat.le_refl _)
    have hh := HF.out.held
    have WF1 : IntKind.i64.wrap (x.cum + 1) = x.cum + 1 := by simp [IntKind.wrap, IntKind.signed, IntKind.bits]; omega
    have WF2 : IntKind.i64.wrap ((heldM x.pieces : Int) + (c.data.length : Int)) = (heldM x.pieces : Int) + (c.data.length : Int) := by simp [IntKind.wrap, IntKind.signed, IntKind.bits]; omega
    have HCX1 := hide CX1
    have HCC1 := hide CC1
    go_upto_region 4 with fail
    go_cut [55] from 42 to 54 (fun s55 wx => s55 = .bool (fullB x c n) ∧ Below w1.heap.size w1 wx)
    case first =>
      have HFB : Hid (fullB x c n = (decide (x.cum + 1 < n) && decide (400 < heldM x.pieces + c.data.length))) := rfl
      by_cases h1 : x.cum + 1 < n
      · have HELD := rheld_any x _ _ _ _ w1.drew H4 HF.out
        generalize heldM x.pieces = hp at *
        refine wp_region_late (fun w' => w'.cell? ⟨w.heap.size, 7, none⟩ = some (.int .i64 x.cum) ∧ w'.rangeAt w.heap.size 0 [.int .i64 x.cf.streams, .int .i64 x.cf.part, .int .i64 x.cf.packet, .int .i64 x.cf.paths, .int .i64 x.cf.turns, .int .i64 x.cf.waiting, .int .i64 x.cf.first, .int .i64 x.cum, .slice sa x.spans.length sc, .slice pa x.pieces.length pc, .slice ta x.turn.length tc, .slice la x.log.length lc] ∧ w'.cell? ⟨w.heap.size + 1, 7, none⟩ = some (.slice da c.data.length dc)) [] (by kernel_rfl) ?_
        have hS0 := (⟨x7, RNG4, c7⟩ : (fun w' : World => w'.cell? ⟨w.heap.size, 7, none⟩ = some (.int .i64 x.cum) ∧ w'.rangeAt w.heap.size 0 [.int .i64 x.cf.streams, .int .i64 x.cf.part, .int .i64 x.cf.packet, .int .i64 x.cf.paths, .int .i64 x.cf.turns, .int .i64 x.cf.waiting, .int .i64 x.cf.first, .int .i64 x.cum, .slice sa x.spans.length sc, .slice pa x.pieces.length pc, .slice ta x.turn.length tc, .slice la x.log.length lc] ∧ w'.cell? ⟨w.heap.size + 1, 7, none⟩ = some (.slice da c.data.length dc)) w1.drew)
        refine wpAnyL_take (i := 0) (oi := ({ dst := some 42, op := Op.move (Operand.tmp 5), type := 3, pos := "ref.go:336", after := #[], guard := none } : Oper)) (v := ?vv3x1) [4, 5, 6, 7, 8, 9, 10, 11, 12, 13] rfl (by kernel_rfl) (by kernel_rfl) (by kernel_rfl) (by kernel_rfl) (by kernel_rfl) (fun _ _ _ h => h) (Or.inl ⟨by rfl, ?hv3x1⟩) hS0 ?_
        case hv3x1 => (intro w hSw; have q1 := hSw.1; have q3 := hSw.2.2; go_simp; try with_reducible rfl)
        try simp only [Act.put, List.setIfInBounds_toArray, List.set_cons_zero, List.set_cons_succ]
        refine wpAnyL_take (i := 1) (oi := ({ dst := some 43, op := Op.fieldAddr 47 (Operand.tmp 2) 1, type := 0, pos := "ref.go:336", after := #[], guard := none } : Oper)) (v := ?vv3x2) [2, 3, 4, 5, 6, 7, 8, 9, 10, 11, 12, 13] rfl (by kernel_rfl) (by kernel_rfl) (by kernel_rfl) (by kernel_rfl) (by kernel_rfl) (fun _ _ _ h => h) (Or.inl ⟨by rfl, ?hv3x2⟩) hS0 ?_
        case hv3x2 => (intro w hSw; have q1 := hSw.1; have q3 := hSw.2.2; go_simp; try with_reducible rfl)
        try simp only [Act.put, List.setIfInBounds_toArray, List.set_cons_zero, List.set_cons_succ]
        refine wpAnyL_take (i := 2) (oi := ({ dst := some 44, op := Op.load 3 (Operand.tmp 43), type := 3, pos := "ref.go:336", after := #[{ on := 1, ground := Ground.data }], guard := none } : Oper)) (v := ?vv3x3) [3, 4, 5, 6, 7, 8, 9, 10, 11, 12, 13] rfl (by kernel_rfl) (by kernel_rfl) (by kernel_rfl) (by kernel_rfl) (by kernel_rfl) (fun _ _ _ h => h) (Or.inl ⟨by rfl, ?hv3x3⟩) hS0 ?_
        case hv3x3 => (intro w hSw; have q1 := hSw.1; have q3 := hSw.2.2; go_simp; try with_reducible rfl)
        try simp only [Act.put, List.setIfInBounds_toArray, List.set_cons_zero, List.set_cons_succ]
        refine wpAnyL_take (i := 3) (oi := ({ dst := some 45, op := Op.binOp BinOp.add 3 (Operand.tmp 44) (Operand.const (Value.int IntKind.i64 1)) 3, type := 3, pos := "ref.go:336", after := #[{ on := 2, ground := Ground.data }], guard := none } : Oper)) (v := ?vv3x4) [4, 5, 6, 7, 8, 9, 10, 11, 12, 13] rfl (by kernel_rfl) (by kernel_rfl) (by kernel_rfl) (by kernel_rfl) (by kernel_rfl) (fun _ _ _ h => h) (Or.inl ⟨by rfl, ?hv3x4⟩) hS0 ?_
        case hv3x4 => (intro w hSw; have q1 := hSw.1; have q3 := hSw.2.2; go_simp; try with_reducible rfl)
        try simp only [Act.put, List.setIfInBounds_toArray, List.set_cons_zero, List.set_cons_succ]
        refine wpAnyL_take (i := 4) (oi := ({ dst := some 46, op := Op.binOp BinOp.gtr 3 (Operand.tmp 42) (Operand.tmp 45) 3, type := 4, pos := "ref.go:336", after := #[{ on := 0, ground := Ground.data }, { on := 3, ground := Ground.data }], guard := none } : Oper)) (v := .bool true) [5, 6, 7, 8, 9, 10, 11, 12, 13] rfl (by kernel_rfl) (by kernel_rfl) (by kernel_rfl) (by kernel_rfl) (by kernel_rfl) (fun _ _ _ h => h) (Or.inl ⟨by rfl, ?hv3x5⟩) hS0 ?_
        case hv3x5 => (intro w hSw; have q1 := hSw.1; have q3 := hSw.2.2; go_simp; try with_reducible rfl)
        try simp only [Act.put, List.setIfInBounds_toArray, List.set_cons_zero, List.set_cons_succ]
        refine wpAnyL_take (i := 5) (oi := ({ dst := some 47, op := Op.move (Operand.tmp 46), type := 4, pos := "ref.go:336", after := #[{ on := 4, ground := Ground.data }], guard := none } : Oper)) (v := ?vv3x6) [6, 7, 8, 9, 10, 11, 12, 13] rfl (by kernel_rfl) (by kernel_rfl) (by kernel_rfl) (by kernel_rfl) (by kernel_rfl) (fun _ _ _ h => h) (Or.inl ⟨by rfl, ?hv3x6⟩) hS0 ?_
        case hv3x6 => (intro w hSw; have q1 := hSw.1; have q3 := hSw.2.2; go_simp; try with_reducible rfl)
        try simp only [Act.put, List.setIfInBounds_toArray, List.set_cons_zero, List.set_cons_succ]
        refine wpAnyL_take (i := 6) (oi := ({ dst := some 48, op := Op.load 47 (Operand.tmp 2), type := 47, pos := "ref.go:336", after := #[{ on := 5, ground := Ground.guard }], guard := some (5, true) } : Oper)) (v := .agg #[.int .i64 x.cf.streams, .int .i64 x.cf.part, .int .i64 x.cf.packet, .int .i64 x.cf.paths, .int .i64 x.cf.turns, .int .i64 x.cf.waiting, .int .i64 x.cf.first, .int .i64 x.cum, .slice sa x.spans.length sc, .slice pa x.pieces.length pc, .slice ta x.turn.length tc, .slice la x.log.length lc]) [7, 11, 12, 13] rfl (by kernel_rfl) (by kernel_rfl) (by kernel_rfl) (by kernel_rfl) (by kernel_rfl) (fun _ _ _ h => h) (yieldsIf_load_mid (by rfl) 47 (.tmp 2) rfl w.heap.size 0 rfl [.int .i64 x.cf.streams, .int .i64 x.cf.part, .int .i64 x.cf.packet, .int .i64 x.cf.paths, .int .i64 x.cf.turns, .int .i64 x.cf.waiting, .int .i64 x.cf.first, .int .i64 x.cum, .slice sa x.spans.length sc, .slice pa x.pieces.length pc, .slice ta x.turn.length tc, .slice la x.log.length lc] _ (fun _ hSw => hSw.2.1) Try.underlying47 rfl Try.sizeRv) hS0 ?_
        try simp only [Act.put, List.setIfInBounds_toArray, List.set_cons_zero, List.set_cons_succ]
        refine wpAnyL_take (i := 8) (oi := ({ dst := some 50, op := Op.fieldAddr 42 (Operand.tmp 3) 7, type := 0, pos := "ref.go:336", after := #[{ on := 5, ground := Ground.guard }], guard := some (5, true) } : Oper)) (v := ?vv3x7) [9, 10, 11, 12, 13] rfl (by kernel_rfl) (by kernel_rfl) (by kernel_rfl) (by kernel_rfl) (by kernel_rfl) (fun _ _ _ h => h) (Or.inl ⟨by rfl, ?hv3x7⟩) hS0 ?_
        case hv3x7 => (intro w hSw; have q1 := hSw.1; have q3 := hSw.2.2; go_simp; try with_reducible rfl)
        try simp only [Act.put, List.setIfInBounds_toArray, List.set_cons_zero, List.set_cons_succ]
        refine wpAnyL_take (i := 9) (oi := ({ dst := some 51, op := Op.load 38 (Operand.tmp 50), type := 38, pos := "ref.go:336", after := #[{ on := 8, ground := Ground.data }, { on := 5, ground := Ground.guard }], guard := some (5, true) } : Oper)) (v := ?vv3x8) [10, 11, 12, 13] rfl (by kernel_rfl) (by kernel_rfl) (by kernel_rfl) (by kernel_rfl) (by kernel_rfl) (fun _ _ _ h => h) (Or.inl ⟨by rfl, ?hv3x8⟩) hS0 ?_
        case hv3x8 => (intro w hSw; have q1 := hSw.1; have q3 := hSw.2.2; go_simp; try with_reducible rfl)
        try simp only [Act.put, List.setIfInBounds_toArray, List.set_cons_zero, List.set_cons_succ]
        refine wpAnyL_take (i := 10) (oi := ({ dst := some 52, op := Op.call { callee := Callee.builtin Builtin.len, args := #[Operand.tmp 51], argTypes := #[38] }, type := 3, pos := "ref.go:336", after := #[{ on := 9, ground := Ground.data }, { on := 5, ground := Ground.guard }], guard := some (5, true) } : Oper)) (v := ?vv3x9) [11, 12, 13] rfl (by kernel_rfl) (by kernel_rfl) (by kernel_rfl) (by kernel_rfl) (by kernel_rfl) (fun _ _ _ h => h) (Or.inl ⟨by rfl, ?hv3x9⟩) hS0 ?_
        case hv3x9 => (intro w hSw; have q1 := hSw.1; have q3 := hSw.2.2; go_simp; try with_reducible rfl)
        try simp only [Act.put, List.setIfInBounds_toArray, List.set_cons_zero, List.set_cons_succ]
        refine wpAnyL_one (i := 7) (o := ({ dst := some 49, op := Op.call { callee := Callee.value (Operand.func 27), args := #[Operand.tmp 48], argTypes := #[47] }, type := 3, pos := "ref.go:336", after := #[{ on := 6, ground := Ground.data }, { on := 5, ground := Ground.chain }, { on := 5, ground := Ground.guard }], guard := some (5, true) } : Oper)) (by kernel_rfl) rfl (fun K hK => ?_)
        refine step_call1w (by rfl) 27 (.tmp 48) _ rfl _ rfl rfl enters_rheld2 (fun v w4 => v = .int .i64 (hp : Nat) ∧ Below w1.drew.heap.size w1.drew w4) (HELD.mono fun e w4 h => ⟨_, h.1, rfl, h.2⟩) ?_
        rintro _ w4 ⟨rfl, b4⟩
        have hS4 := (⟨(b4.cell (p := ⟨w.heap.size, 7, none⟩) h1c).trans x7, fun j u hu => (b4.cell (p := ⟨w.heap.size, 0 + j, none⟩) h1c).trans (RNG4 j u hu), (b4.cell (p := ⟨w.heap.size + 1, 7, none⟩) h2c).trans c7⟩ : (w4.cell? ⟨w.heap.size, 7, none⟩ = some (.int .i64 x.cum) ∧ w4.rangeAt w.heap.size 0 [.int .i64 x.cf.streams, .int .i64 x.cf.part, .int .i64 x.cf.packet, .int .i64 x.cf.paths, .int .i64 x.cf.turns, .int .i64 x.cf.waiting, .int .i64 x.cf.first, .int .i64 x.cum, .slice sa x.spans.length sc, .slice pa x.pieces.length pc, .slice ta x.turn.length tc, .slice la x.log.length lc] ∧ w4.cell? ⟨w.heap.size + 1, 7, none⟩ = some (.slice da c.data.length dc)))
        refine hK _ _ ⟨fun _ => hS4, ?_⟩
        clear hK K
        try simp only [Act.put, List.setIfInBounds_toArray, List.set_cons_zero, List.set_cons_succ]
        refine wpAnyL_take (i := 11) (oi := ({ dst := some 53, op := Op.binOp BinOp.add 3 (Operand.tmp 49) (Operand.tmp 52) 3, type := 3, pos := "ref.go:336", after := #[{ on := 7, ground := Ground.data }, { on := 10, ground := Ground.data }, { on := 5, ground := Ground.guard }], guard := some (5, true) } : Oper)) (v := ?vv3x10) [12, 13] rfl (by kernel_rfl) (by kernel_rfl) (by kernel_rfl) (by kernel_rfl) (by kernel_rfl) (fun _ _ _ h => h) (Or.inl ⟨by rfl, ?hv3x10⟩) hS4 ?_
        case hv3x10 => (intro w hSw; have q1 := hSw.1; have q3 := hSw.2.2; go_simp; try with_reducible rfl)
        try simp only [Act.put, List.setIfInBounds_toArray, List.set_cons_zero, List.set_cons_succ]
        refine wpAnyL_take (i := 12) (oi := ({ dst := some 54, op := Op.binOp BinOp.gtr 3 (Operand.tmp 53) (Operand.const (Value.int IntKind.i64 400)) 3, type := 4, pos := "ref.go:336", after := #[{ on := 11, ground := Ground.data }, { on := 5, ground := Ground.guard }], guard := some (5, true) } : Oper)) (v := ?vv3x11) [13] rfl (by kernel_rfl) (by kernel_rfl) (by kernel_rfl) (by kernel_rfl) (by kernel_rfl) (fun _ _ _ h => h) (Or.inl ⟨by rfl, ?hv3x11⟩) hS4 ?_
        case hv3x11 => (intro w hSw; have q1 := hSw.1; have q3 := hSw.2.2; go_simp; try with_reducible rfl)
        try simp only [Act.put, List.setIfInBounds_toArray, List.set_cons_zero, List.set_cons_succ]
        refine wpAnyL_take (i := 13) (oi := ({ dst := some 55, op := Op.pick (Operand.tmp 47) (Operand.tmp 54) (Operand.const (Value.bool false)), type := 4, pos := "ref.go:336", after := #[{ on := 5, ground := Ground.data }, { on := 12, ground := Ground.data }], guard := none } : Oper)) (v := ?vv3x12) [] rfl (by kernel_rfl) (by kernel_rfl) (by kernel_rfl) (by kernel_rfl) (by kernel_rfl) (fun _ _ _ h => h) (Or.inl ⟨by rfl, ?hv3x12⟩) hS4 ?_
        case hv3x12 => (intro w hSw; have q1 := hSw.1; have q3 := hSw.2.2; go_simp; try with_reducible rfl)
        try simp only [Act.put, List.setIfInBounds_toArray, List.set_cons_zero, List.set_cons_succ]
        refine wpAnyL_done (by kernel_rfl) ?_ _
        go_wp2_with fail
        go_meet
        exact ⟨by rw [HFB.out, decide_eq_true h1, Bool.true_and]; congr 1; exact decide_eq_decide.2 (by omega), BD.trans b4⟩
      · skip
        refine wp_region_late (fun w' => w'.cell? ⟨w.heap.size, 7, none⟩ = some (.int .i64 x.cum) ∧ w'.rangeAt w.heap.size 0 [.int .i64 x.cf.streams, .int .i64 x.cf.part, .int .i64 x.cf.packet, .int .i64 x.cf.paths, .int .i64 x.cf.turns, .int .i64 x.cf.waiting, .int .i64 x.cf.first, .int .i64 x.cum, .slice sa x.spans.length sc, .slice pa x.pieces.length pc, .slice ta x.turn.length tc, .slice la x.log.length lc] ∧ w'.cell? ⟨w.heap.size + 1, 7, none⟩ = some (.slice da c.data.length dc)) [] (by kernel_rfl) ?_
        have hS0 := (⟨x7, RNG4, c7⟩ : (fun w' : World => w'.cell? ⟨w.heap.size, 7, none⟩ = some (.int .i64 x.cum) ∧ w'.rangeAt w.heap.size 0 [.int .i64 x.cf.streams, .int .i64 x.cf.part, .int .i64 x.cf.packet, .int .i64 x.cf.paths, .int .i64 x.cf.turns, .int .i64 x.cf.waiting, .int .i64 x.cf.first, .int .i64 x.cum, .slice sa x.spans.length sc, .slice pa x.pieces.length pc, .slice ta x.turn.length tc, .slice la x.log.length lc] ∧ w'.cell? ⟨w.heap.size + 1, 7, none⟩ = some (.slice da c.data.length dc)) w1.drew)
        refine wpAnyL_take (i := 0) (oi := ({ dst := some 42, op := Op.move (Operand.tmp 5), type := 3, pos := "ref.go:336", after := #[], guard := none } : Oper)) (v := ?vv4x1) [4, 5, 6, 7, 8, 9, 10, 11, 12, 13] rfl (by kernel_rfl) (by kernel_rfl) (by kernel_rfl) (by kernel_rfl) (by kernel_rfl) (fun _ _ _ h => h) (Or.inl ⟨by rfl, ?hv4x1⟩) hS0 ?_
        case hv4x1 => (intro w hSw; have q1 := hSw.1; have q3 := hSw.2.2; go_simp; try with_reducible rfl)
        try simp only [Act.put, List.setIfInBounds_toArray, List.set_cons_zero, List.set_cons_succ]
        refine wpAnyL_take (i := 1) (oi := ({ dst := some 43, op := Op.fieldAddr 47 (Operand.tmp 2) 1, type := 0, pos := "ref.go:336", after := #[], guard := none } : Oper)) (v := ?vv4x2) [2, 3, 4, 5, 6, 7, 8, 9, 10, 11, 12, 13] rfl (by kernel_rfl) (by kernel_rfl) (by kernel_rfl) (by kernel_rfl) (by kernel_rfl) (fun _ _ _ h => h) (Or.inl ⟨by rfl, ?hv4x2⟩) hS0 ?_
        case hv4x2 => (intro w hSw; have q1 := hSw.1; have q3 := hSw.2.2; go_simp; try with_reducible rfl)
        try simp only [Act.put, List.setIfInBounds_toArray, List.set_cons_zero, List.set_cons_succ]
        refine wpAnyL_take (i := 2) (oi := ({ dst := some 44, op := Op.load 3 (Operand.tmp 43), type := 3, pos := "ref.go:336", after := #[{ on := 1, ground := Ground.data }], guard := none } : Oper)) (v := ?vv4x3) [3, 4, 5, 6, 7, 8, 9, 10, 11, 12, 13] rfl (by kernel_rfl) (by kernel_rfl) (by kernel_rfl) (by kernel_rfl) (by kernel_rfl) (fun _ _ _ h => h) (Or.inl ⟨by rfl, ?hv4x3⟩) hS0 ?_
        case hv4x3 => (intro w hSw; have q1 := hSw.1; have q3 := hSw.2.2; go_simp; try with_reducible rfl)
        try simp only [Act.put, List.setIfInBounds_toArray, List.set_cons_zero, List.set_cons_succ]
        refine wpAnyL_take (i := 3) (oi := ({ dst := some 45, op := Op.binOp BinOp.add 3 (Operand.tmp 44) (Operand.const (Value.int IntKind.i64 1)) 3, type := 3, pos := "ref.go:336", after := #[{ on := 2, ground := Ground.data }], guard := none } : Oper)) (v := ?vv4x4) [4, 5, 6, 7, 8, 9, 10, 11, 12, 13] rfl (by kernel_rfl) (by kernel_rfl) (by kernel_rfl) (by kernel_rfl) (by kernel_rfl) (fun _ _ _ h => h) (Or.inl ⟨by rfl, ?hv4x4⟩) hS0 ?_
        case hv4x4 => (intro w hSw; have q1 := hSw.1; have q3 := hSw.2.2; go_simp; try with_reducible rfl)
        try simp only [Act.put, List.setIfInBounds_toArray, List.set_cons_zero, List.set_cons_succ]
        refine wpAnyL_take (i := 4) (oi := ({ dst := some 46, op := Op.binOp BinOp.gtr 3 (Operand.tmp 42) (Operand.tmp 45) 3, type := 4, pos := "ref.go:336", after := #[{ on := 0, ground := Ground.data }, { on := 3, ground := Ground.data }], guard := none } : Oper)) (v := .bool false) [5, 6, 7, 8, 9, 10, 11, 12, 13] rfl (by kernel_rfl) (by kernel_rfl) (by kernel_rfl) (by kernel_rfl) (by kernel_rfl) (fun _ _ _ h => h) (Or.inl ⟨by rfl, ?hv4x5⟩) hS0 ?_
        case hv4x5 => (intro w hSw; have q1 := hSw.1; have q3 := hSw.2.2; go_simp; try with_reducible rfl)
        try simp only [Act.put, List.setIfInBounds_toArray, List.set_cons_zero, List.set_cons_succ]
        refine wpAnyL_take (i := 5) (oi := ({ dst := some 47, op := Op.move (Operand.tmp 46), type := 4, pos := "ref.go:336", after := #[{ on := 4, ground := Ground.data }], guard := none } : Oper)) (v := ?vv4x6) [6, 7, 8, 9, 10, 11, 12, 13] rfl (by kernel_rfl) (by kernel_rfl) (by kernel_rfl) (by kernel_rfl) (by kernel_rfl) (fun _ _ _ h => h) (Or.inl ⟨by rfl, ?hv4x6⟩) hS0 ?_
        case hv4x6 => (intro w hSw; have q1 := hSw.1; have q3 := hSw.2.2; go_simp; try with_reducible rfl)
        try simp only [Act.put, List.setIfInBounds_toArray, List.set_cons_zero, List.set_cons_succ]
        refine wpAnyL_take (i := 6) (oi := ({ dst := some 48, op := Op.load 47 (Operand.tmp 2), type := 47, pos := "ref.go:336", after := #[{ on := 5, ground := Ground.guard }], guard := some (5, true) } : Oper)) (v := undef) [7, 11, 12, 13] rfl (by kernel_rfl) (by kernel_rfl) (by kernel_rfl) (by kernel_rfl) (by kernel_rfl) (fun _ _ _ h => h) (Or.inr ⟨by rfl, rfl⟩) hS0 ?_
        try simp only [Act.put, List.setIfInBounds_toArray, List.set_cons_zero, List.set_cons_succ]
        refine wpAnyL_take (i := 7) (oi := ({ dst := some 49, op := Op.call { callee := Callee.value (Operand.func 27), args := #[Operand.tmp 48], argTypes := #[47] }, type := 3, pos := "ref.go:336", after := #[{ on := 6, ground := Ground.data }, { on := 5, ground := Ground.chain }, { on := 5, ground := Ground.guard }], guard := some (5, true) } : Oper)) (v := undef) [11, 12, 13] rfl (by kernel_rfl) (by kernel_rfl) (by kernel_rfl) (by kernel_rfl) (by kernel_rfl) (fun _ _ _ h => h) (Or.inr ⟨by rfl, rfl⟩) hS0 ?_
        try simp only [Act.put, List.setIfInBounds_toArray, List.set_cons_zero, List.set_cons_succ]
        refine wpAnyL_take (i := 8) (oi := ({ dst := some 50, op := Op.fieldAddr 42 (Operand.tmp 3) 7, type := 0, pos := "ref.go:336", after := #[{ on := 5, ground := Ground.guard }], guard := some (5, true) } : Oper)) (v := undef) [9, 10, 11, 12, 13] rfl (by kernel_rfl) (by kernel_rfl) (by kernel_rfl) (by kernel_rfl) (by kernel_rfl) (fun _ _ _ h => h) (Or.inr ⟨by rfl, rfl⟩) hS0 ?_
        try simp only [Act.put, List.setIfInBounds_toArray, List.set_cons_zero, List.set_cons_succ]
        refine wpAnyL_take (i := 9) (oi := ({ dst := some 51, op := Op.load 38 (Operand.tmp 50), type := 38, pos := "ref.go:336", after := #[{ on := 8, ground := Ground.data }, { on := 5, ground := Ground.guard }], guard := some (5, true) } : Oper)) (v := undef) [10, 11, 12, 13] rfl (by kernel_rfl) (by kernel_rfl) (by kernel_rfl) (by kernel_rfl) (by kernel_rfl) (fun _ _ _ h => h) (Or.inr ⟨by rfl, rfl⟩) hS0 ?_
        try simp only [Act.put, List.setIfInBounds_toArray, List.set_cons_zero, List.set_cons_succ]
        refine wpAnyL_take (i := 10) (oi := ({ dst := some 52, op := Op.call { callee := Callee.builtin Builtin.len, args := #[Operand.tmp 51], argTypes := #[38] }, type := 3, pos := "ref.go:336", after := #[{ on := 9, ground := Ground.data }, { on := 5, ground := Ground.guard }], guard := some (5, true) } : Oper)) (v := undef) [11, 12, 13] rfl (by kernel_rfl) (by kernel_rfl) (by kernel_rfl) (by kernel_rfl) (by kernel_rfl) (fun _ _ _ h => h) (Or.inr ⟨by rfl, rfl⟩) hS0 ?_
        try simp only [Act.put, List.setIfInBounds_toArray, List.set_cons_zero, List.set_cons_succ]
        refine wpAnyL_take (i := 11) (oi := ({ dst := some 53, op := Op.binOp BinOp.add 3 (Operand.tmp 49) (Operand.tmp 52) 3, type := 3, pos := "ref.go:336", after := #[{ on := 7, ground := Ground.data }, { on := 10, ground := Ground.data }, { on := 5, ground := Ground.guard }], guard := some (5, true) } : Oper)) (v := undef) [12, 13] rfl (by kernel_rfl) (by kernel_rfl) (by kernel_rfl) (by kernel_rfl) (by kernel_rfl) (fun _ _ _ h => h) (Or.inr ⟨by rfl, rfl⟩) hS0 ?_
        try simp only [Act.put, List.setIfInBounds_toArray, List.set_cons_zero, List.set_cons_succ]
        refine wpAnyL_take (i := 12) (oi := ({ dst := some 54, op := Op.binOp BinOp.gtr 3 (Operand.tmp 53) (Operand.const (Value.int IntKind.i64 400)) 3, type := 4, pos := "ref.go:336", after := #[{ on := 11, ground := Ground.data }, { on := 5, ground := Ground.guard }], guard := some (5, true) } : Oper)) (v := undef) [13] rfl (by kernel_rfl) (by kernel_rfl) (by kernel_rfl) (by kernel_rfl) (by kernel_rfl) (fun _ _ _ h => h) (Or.inr ⟨by rfl, rfl⟩) hS0 ?_
        try simp only [Act.put, List.setIfInBounds_toArray, List.set_cons_zero, List.set_cons_succ]
        refine wpAnyL_take (i := 13) (oi := ({ dst := some 55, op := Op.pick (Operand.tmp 47) (Operand.tmp 54) (Operand.const (Value.bool false)), type := 4, pos := "ref.go:336", after := #[{ on := 5, ground := Ground.data }, { on := 12, ground := Ground.data }], guard := none } : Oper)) (v := ?vv4x7) [] rfl (by kernel_rfl) (by kernel_rfl) (by kernel_rfl) (by kernel_rfl) (by kernel_rfl) (fun _ _ _ h => h) (Or.inl ⟨by rfl, ?hv4x7⟩) hS0 ?_
        case hv4x7 => (intro w hSw; have q1 := hSw.1; have q3 := hSw.2.2; go_simp; try with_reducible rfl)
        try simp only [Act.put, List.setIfInBounds_toArray, List.set_cons_zero, List.set_cons_succ]
        refine wpAnyL_done (by kernel_rfl) ?_ _
        go_wp2_with fail
        go_meet
        exact ⟨by rw [HFB.out, decide_eq_false (show ¬ x.cum + 1 < n by omega)]; rfl, BD⟩
    case rest =>
    obtain ⟨rfl, B2⟩ := hcut
    have sz2 := B2.size
    have B12 : Below w0.heap.size w0 wc := B1.trans (B2.mono sz1)
    have BW2 : Below w.heap.size w wc := B0.trans (B12.mono (by omega))
    clear BD H4 x7 c7 RNG4 h1c h2c WF1 WF2
    cases hfu : fullB x c n with
    | true =>
      have HNO : Hid (recvM x c = x) := HRC.out fun h => by have := (HTK.out.1 h).2; rw [hfu] at this; cases this
      have RNG := (CX.below B12 (by omega)).range
      have TH : wc.there (w.heap.size + 2) 0 12 := (CT.below B12 (by omega)).there
      have CE := (CT.below B12 (by omega)).setAll [.int .i64 x.cf.streams, .int .i64 x.cf.part, .int .i64 x.cf.packet, .int .i64 x.cf.paths, .int .i64 x.cf.turns, .int .i64 x.cf.waiting, .int .i64 x.cf.first, .int .i64 x.cum, .slice sa x.spans.length sc, .slice pa x.pieces.length pc, .slice ta x.turn.length tc, .slice la x.log.length lc] rfl
      have e0 := CE.cell 0 _ rfl
      have e1 := CE.cell 1 _ rfl
      have e2 := CE.cell 2 _ rfl
      have e3 := CE.cell 3 _ rfl
      have e4 := CE.cell 4 _ rfl
      have e5 := CE.cell 5 _ rfl
      have e6 := CE.cell 6 _ rfl
      have e7 := CE.cell 7 _ rfl
      have e8 := CE.cell 8 _ rfl
      have e9 := CE.cell 9 _ rfl
      have e10 := CE.cell 10 _ rfl
      have e11 := CE.cell 11 _ rfl
      have KE : Keep (fun k => k ≠ w.heap.size + 2) wc (wc.setCells (w.heap.size + 2) 0 [.int .i64 x.cf.streams, .int .i64 x.cf.part, .int .i64 x.cf.packet, .int .i64 x.cf.paths, .int .i64 x.cf.turns, .int .i64 x.cf.waiting, .int .i64 x.cf.first, .int .i64 x.cum, .slice sa x.spans.length sc, .slice pa x.pieces.length pc, .slice ta x.turn.length tc, .slice la x.log.length lc]) := Keep.setCells (fun h => h rfl) _ _ (Keep.refl _ _)
      have BE : Below w.heap.size w (wc.setCells (w.heap.size + 2) 0 [.int .i64 x.cf.streams, .int .i64 x.cf.part, .int .i64 x.cf.packet, .int .i64 x.cf.paths, .int .i64 x.cf.turns, .int .i64 x.cf.waiting, .int .i64 x.cf.first, .int .i64 x.cum, .slice sa x.spans.length sc, .slice pa x.pieces.length pc, .slice ta x.turn.length tc, .slice la x.log.length lc]) := Below.setCells (by omega) _ _ BW2
      have FIN : Hid (RvI (fun k => V k ∨ w.heap.size ≤ k) (wc.setCells (w.heap.size + 2) 0 [.int .i64 x.cf.streams, .int .i64 x.cf.part, .int .i64 x.cf.packet, .int .i64 x.cf.paths, .int .i64 x.cf.turns, .int .i64 x.cf.waiting, .int .i64 x.cf.first, .int .i64 x.cum, .slice sa x.spans.length sc, .slice pa x.pieces.length pc, .slice ta x.turn.length tc, .slice la x.log.length lc]) x (.slice sa x.spans.length sc) (.slice pa x.pieces.length pc) (.slice ta x.turn.length tc) (.slice la x.log.length lc)) := ((H0.out.keep (toKeep B12 fun k hk => hk.2)).keep (KE.mono fun k hk => by have := hv k hk.1; omega)).mono fun k hk => .inl hk.1
      clear CE KE
      go_wp2_with (first
        | refine wpList_ldR rfl (.tmp 2) rfl w.heap.size 0 rfl x _ _ _ _ (by with_reducible exact RNG) ?_
        | refine wpList_srN 47 12 Try.sizeRv rfl (.tmp 4) (.tmp 56) rfl (w.heap.size + 2) 0 rfl [.int .i64 x.cf.streams, .int .i64 x.cf.part, .int .i64 x.cf.packet, .int .i64 x.cf.paths, .int .i64 x.cf.turns, .int .i64 x.cf.waiting, .int .i64 x.cf.first, .int .i64 x.cum, .slice sa x.spans.length sc, .slice pa x.pieces.length pc, .slice ta x.turn.length tc, .slice la x.log.length lc] rfl rfl rfl (by with_reducible exact TH) ?_)
      generalize (wc.setCells (w.heap.size + 2) 0 [.int .i64 x.cf.streams, .int .i64 x.cf.part, .int .i64 x.cf.packet, .int .i64 x.cf.paths, .int .i64 x.cf.turns, .int .i64 x.cf.waiting, .int .i64 x.cf.first, .int .i64 x.cum, .slice sa x.spans.length sc, .slice pa x.pieces.length pc, .slice ta x.turn.length tc, .slice la x.log.length lc]) = w9 at *
      refine bodyPost_ret (v := .agg #[.int .i64 x.cf.streams, .int .i64 x.cf.part, .int .i64 x.cf.packet, .int .i64 x.cf.paths, .int .i64 x.cf.turns, .int .i64 x.cf.waiting, .int .i64 x.cf.first, .int .i64 x.cum, .slice sa x.spans.length sc, .slice pa x.pieces.length pc, .slice ta x.turn.length tc, .slice la x.log.length lc]) (by simp [results, Try.results29, go_sem, e0, e1, e2, e3, e4, e5, e6, e7, e8, e9, e10, e11]) rfl ?_
      rw [HNO.out]
      exact ⟨_, _, _, _, rfl, FIN.out, BE⟩
    | false =>
      have HTKN : Hid (takesM x c) := HTK.out.2 ⟨hok, hfu⟩
      have hq : (0 ≤ c.stream ∧ c.stream < x.turn.length) ∧ x.cum < n := by
        unfold okB at hok
        simp only [Bool.and_eq_true, decide_eq_true_eq] at hok
        exact ⟨⟨hok.1.1.1.2, hok.1.1.2⟩, hok.1.2⟩
      obtain ⟨⟨hq1, hq2⟩, hq3⟩ := hq
      have CX2 := HCX1.out.below B2 (by omega)
      have CC2 := HCC1.out.below B2 (by omega)
      have CT2 := HCT1.out.below B2 (by omega)
      have H2 : RvI (fun k => V k ∧ k < w0.heap.size) wc x _ _ _ _ := H1.out.keep (toKeep B2 fun k hk => by have := hk.2; omega)
      have HLC2 : SnL (fun k => V k ∧ k < w0.heap.size) wc c (.slice da c.data.length dc) (.slice ssa c.spans.length ssc) (.slice qa c.skips.length qc) := (HLC.out.keep (toKeep B12 fun k hk => by have := hv k hk; omega)).mono fun k hk => ⟨hk, by have := hv k hk; omega⟩
      have hpl := HF.out.n
      obtain ⟨us, hu1, hu2⟩ := H2.p
      have HU : Hid (All2 (PcI (fun k => V k ∧ k < w0.heap.size) wc) us x.pieces) := hu1
      have one : ∀ u ∈ flatV us, u.oneCell' = true := flatV_one (c := 12) (R := fun _ _ v x => PcI (fun k => V k ∧ k < w0.heap.size) wc v x) (B := 0) (w := wc) (fun v x h => PcI.holds.one h) hu1
      have x9 := CX2.cell 9 _ rfl
      have g9 := CX2.fz 9
      have RC6 := CC2.range
      have HU2 : Hid (Rw 12 wc.heap.size wc (.slice pa x.pieces.length pc) x.pieces.length (flatV us)) := hu2
      have HON : Hid (∀ u ∈ flatV us, u.oneCell' = true) := one
      have BD : Below wc.heap.size wc wc.drew := below_drew' (Below.refl _ _)
      have h1c : w.heap.size < wc.heap.size := by omega
      have h2c : w.heap.size + 1 < wc.heap.size := by omega
      have HCX2 := hide CX2
      have HCC2 := hide CC2
      have HCT2 := hide CT2
      have HH2 := hide H2
      have HL2 := hide HLC2
      clear hu1 hu2 one CX2 CC2 CT2 H2 HLC2 HCX1 HCC1 HCT1 H1 hok hfu
      go_upto_region 6 with fail
      refine wp_region_late (fun w' => w'.cell? ⟨w.heap.size, 9, none⟩ = some (.slice pa x.pieces.length pc) ∧ w'.rangeAt (w.heap.size + 1) 0 [.int .i64 c.kind, .int .i64 c.tag, .int .i64 c.stream, .int .i64 c.mid, .int .i64 c.part, .bool c.last, .bool c.ordered, .slice da c.data.length dc, .slice ssa c.spans.length ssc, .int .i64 c.room, .slice qa c.skips.length qc]) [10] (by kernel_rfl) ?_
      have hS0 := (⟨x9, RC6⟩ : (fun w' : World => w'.cell? ⟨w.heap.size, 9, none⟩ = some (.slice pa x.pieces.length pc) ∧ w'.rangeAt (w.heap.size + 1) 0 [.int .i64 c.kind, .int .i64 c.tag, .int .i64 c.stream, .int .i64 c.mid, .int .i64 c.part, .bool c.last, .bool c.ordered, .slice da c.data.length dc, .slice ssa c.spans.length ssc, .int .i64 c.room, .slice qa c.skips.length qc]) wc.drew)
      refine wpAnyL_take (i := 1) (oi := ({ dst := some 58, op := Op.fieldAddr 47 (Operand.tmp 2) 3, type := 0, pos := "ref.go:339", after := #[], guard := none } : Oper)) (v := ?vv1x1) [2, 3, 8, 9, 10] rfl (by kernel_rfl) (by kernel_rfl) (by kernel_rfl) (by kernel_rfl) (by kernel_rfl) (fun _ _ _ h => h) (Or.inl ⟨by rfl, ?hv1x1⟩) hS0 ?_
      case hv1x1 => (intro w hSw; have q1 := hSw.1; go_simp; try with_reducible rfl)
      try simp only [Act.put, List.setIfInBounds_toArray, List.set_cons_zero, List.set_cons_succ]
      refine wpAnyL_take (i := 2) (oi := ({ dst := some 59, op := Op.load 44 (Operand.tmp 58), type := 44, pos := "ref.go:339", after := #[{ on := 1, ground := Ground.data }], guard := none } : Oper)) (v := ?vv1x2) [3, 8, 9, 10] rfl (by kernel_rfl) (by kernel_rfl) (by kernel_rfl) (by kernel_rfl) (by kernel_rfl) (fun _ _ _ h => h) (Or.inl ⟨by rfl, ?hv1x2⟩) hS0 ?_
      case hv1x2 => (intro w hSw; have q1 := hSw.1; go_simp; try with_reducible rfl)
      try simp only [Act.put, List.setIfInBounds_toArray, List.set_cons_zero, List.set_cons_succ]
      refine wpAnyL_take (i := 4) (oi := ({ dst := some 61, op := Op.move (Operand.tmp 5), type := 3, pos := "ref.go:339", after := #[], guard := none } : Oper)) (v := ?vv1x3) [6, 7, 8, 9, 10] rfl (by kernel_rfl) (by kernel_rfl) (by kernel_rfl) (by kernel_rfl) (by kernel_rfl) (fun _ _ _ h => h) (Or.inl ⟨by rfl, ?hv1x3⟩) hS0 ?_
      case hv1x3 => (intro w hSw; have q1 := hSw.1; go_simp; try with_reducible rfl)
      try simp only [Act.put, List.setIfInBounds_toArray, List.set_cons_zero, List.set_cons_succ]
      refine wpAnyL_take (i := 5) (oi := ({ dst := some 62, op := Op.load 42 (Operand.tmp 3), type := 42, pos := "ref.go:339", after := #[], guard := none } : Oper)) (v := .agg #[.int .i64 c.kind, .int .i64 c.tag, .int .i64 c.stream, .int .i64 c.mid, .int .i64 c.part, .bool c.last, .bool c.ordered, .slice da c.data.length dc, .slice ssa c.spans.length ssc, .int .i64 c.room, .slice qa c.skips.length qc]) [6, 7, 8, 9, 10] rfl (by kernel_rfl) (by kernel_rfl) (by kernel_rfl) (by kernel_rfl) (by kernel_rfl) (fun _ _ _ h => h) (yieldsIf_load_mid (by rfl) 42 (.tmp 3) rfl (w.heap.size + 1) 0 rfl [.int .i64 c.kind, .int .i64 c.tag, .int .i64 c.stream, .int .i64 c.mid, .int .i64 c.part, .bool c.last, .bool c.ordered, .slice da c.data.length dc, .slice ssa c.spans.length ssc, .int .i64 c.room, .slice qa c.skips.length qc] _ (fun _ hSw => hSw.2) Try.underlying42 rfl Try.sizeCk) hS0 ?_
      try simp only [Act.put, List.setIfInBounds_toArray, List.set_cons_zero, List.set_cons_succ]
      refine wpAnyL_take (i := 6) (oi := ({ dst := some 63, op := Op.build 71 #[(0, Operand.tmp 61), (1, Operand.tmp 62)], type := 71, pos := "ref.go:339", after := #[{ on := 4, ground := Ground.data }, { on := 5, ground := Ground.data }], guard := none } : Oper)) (v := ?vv1x4) [7, 8, 9, 10] rfl (by kernel_rfl) (by kernel_rfl) (by kernel_rfl) (by kernel_rfl) (by kernel_rfl) (fun _ _ _ h => h) (Or.inl ⟨by rfl, ?hv1x4⟩) hS0 ?_
      case hv1x4 => (intro w hSw; have q1 := hSw.1; go_simp; try with_reducible rfl)
      try simp only [Act.put, List.setIfInBounds_toArray, List.set_cons_zero, List.set_cons_succ]
      refine seg_app2 (T := 44) (E := 71) (k := 12) Try.underlying44 Try.infoPc rfl (by decide) 2 0 3 7 8 57 60 64 65 ({ dst := some 57, op := Op.buildSlice 44 0 #[], type := 44, pos := "ref.go:339", after := #[], guard := none } : Oper) ({ dst := some 60, op := Op.call { callee := Callee.builtin Builtin.append, args := #[Operand.tmp 57, Operand.tmp 59], argTypes := #[44, 44] }, type := 44, pos := "ref.go:339", after := #[{ on := 0, ground := Ground.data }, { on := 2, ground := Ground.data }], guard := none } : Oper) ({ dst := some 64, op := Op.buildSlice 44 1 #[(0, Operand.tmp 63)], type := 44, pos := "ref.go:339", after := #[{ on := 6, ground := Ground.data }], guard := none } : Oper) ({ dst := some 65, op := Op.call { callee := Callee.builtin Builtin.append, args := #[Operand.tmp 60, Operand.tmp 64], argTypes := #[44, 44] }, type := 44, pos := "ref.go:339", after := #[{ on := 3, ground := Ground.data }, { on := 7, ground := Ground.data }, { on := 3, ground := Ground.chain }], guard := none } : Oper) ⟨rfl, rfl, rfl, rfl⟩ (.tmp 59) ⟨rfl, rfl, rfl, rfl⟩ (.tmp 63) ⟨rfl, rfl, rfl, rfl⟩ ⟨rfl, rfl, rfl, rfl⟩ (by kernel_rfl) rfl (by decide) (by simp) (by simp) (by kernel_rfl) ⟨by kernel_rfl, by kernel_rfl⟩ _ rfl x.pieces.length (flatV us) (HU2.out.below BD (Nat.le_refl _)) HON.out _ rfl [.int .i64 n, .int .i64 c.kind, .int .i64 c.tag, .int .i64 c.stream, .int .i64 c.mid, .int .i64 c.part, .bool c.last, .bool c.ordered, .slice da c.data.length dc, .slice ssa c.spans.length ssc, .int .i64 c.room, .slice qa c.skips.length qc] rfl (List.all_eq_true.1 rfl) (by unfold maxLen; omega) (by omega) (fun wx => by go_simp) (fun wx => by go_simp) (fun w' b => ⟨(b.cell (p := ⟨w.heap.size, 9, none⟩) h1c).trans x9, fun j u hu => (b.cell (p := ⟨w.heap.size + 1, 0 + j, none⟩) h2c).trans (RC6 j u hu)⟩) ?_
      clear hS0
      intro vA v1 vB v5 w5 own5 b5
      try simp only [Act.put, List.setIfInBounds_toArray, List.set_cons_zero, List.set_cons_succ]
      have hS5 : (w5.cell? ⟨w.heap.size, 9, none⟩ = some (.slice pa x.pieces.length pc) ∧ w5.rangeAt (w.heap.size + 1) 0 [.int .i64 c.kind, .int .i64 c.tag, .int .i64 c.stream, .int .i64 c.mid, .int .i64 c.part, .bool c.last, .bool c.ordered, .slice da c.data.length dc, .slice ssa c.spans.length ssc, .int .i64 c.room, .slice qa c.skips.length qc]) := ⟨(b5.cell (p := ⟨w.heap.size, 9, none⟩) h1c).trans x9, fun j u hu => (b5.cell (p := ⟨w.heap.size + 1, 0 + j, none⟩) h2c).trans (RC6 j u hu)⟩
      obtain ⟨a5, c5, rfl⟩ := own_form own5
      have z9 : w5.frozen? ⟨w.heap.size, 9, none⟩ = false := (b5.frozen (p := ⟨w.heap.size, 9, none⟩) h1c).trans g9
      have y9 := hS5.1
      refine wpAnyL_take (i := 9) (oi := ({ dst := some 66, op := Op.fieldAddr 47 (Operand.tmp 2) 3, type := 0, pos := "ref.go:339", after := #[{ on := 0, ground := Ground.phase }, { on := 1, ground := Ground.phase }, { on := 2, ground := Ground.phase }, { on := 3, ground := Ground.phase }, { on := 4, ground := Ground.phase }, { on := 5, ground := Ground.phase }, { on := 6, ground := Ground.phase }, { on := 7, ground := Ground.phase }, { on := 8, ground := Ground.phase }], guard := none } : Oper)) (v := ?vv1x5) [10] rfl (by kernel_rfl) (by kernel_rfl) (by kernel_rfl) (by kernel_rfl) (by kernel_rfl) (fun _ _ _ h => h) (Or.inl ⟨by rfl, ?hv1x5⟩) hS5 ?_
      case hv1x5 => (intro w hSw; go_simp; try with_reducible rfl)
      try simp only [Act.put, List.setIfInBounds_toArray, List.set_cons_zero, List.set_cons_succ]
      refine wpAnyL_one (i := 10) (o := ({ dst := none, op := Op.store 44 (Operand.tmp 66) (Operand.tmp 65), type := 0, pos := "ref.go:339", after := #[{ on := 9, ground := Ground.data }, { on := 8, ground := Ground.data }, { on := 8, ground := Ground.chain }, { on := 0, ground := Ground.phase }, { on := 1, ground := Ground.phase }, { on := 2, ground := Ground.phase }, { on := 3, ground := Ground.phase }, { on := 4, ground := Ground.phase }, { on := 5, ground := Ground.phase }, { on := 6, ground := Ground.phase }, { on := 7, ground := Ground.phase }, { on := 8, ground := Ground.phase }], guard := none } : Oper)) (by kernel_rfl) rfl (fun K hK => ?_)
      refine step_st (by rfl) 44 (.tmp 66) (.tmp 65) rfl _ _ rfl rfl (by have : (Instr.storeAt 44 (.pointer (some ⟨w.heap.size, 9, none⟩)) (.slice a5 (x.pieces.length + 1) c5)).run Try.prog w5 = .ok () (w5.setCell ⟨w.heap.size, 9, none⟩ (.slice a5 (x.pieces.length + 1) c5)) := (by go_simp); exact this) ?_
      refine hK _ _ ⟨fun h => absurd (by simp) h, ?_⟩
      clear hK K
      try simp only [Act.put]
      refine wpAnyL_done (by kernel_rfl) ?_ _
      clear hS5 y9
      have sz5 : wc.heap.size ≤ w5.heap.size := b5.size
      have KS := Keep.setCell (Keep.refl (fun k => k ≠ w.heap.size) w5) (p := ⟨w.heap.size, 9, none⟩) (fun h => h rfl) (.slice a5 (x.pieces.length + 1) c5)
      have B5 : Below wc.heap.size wc w5 := BD.trans b5
      have CX6 := (HCX2.out.below B5 h1c).set 9 (.slice a5 (x.pieces.length + 1) c5) (by simp)
      have CC6 := (HCC2.out.below B5 h2c).keep KS (by omega)
      have CT6 := (HCT2.out.below B5 (by omega)).keep KS (by omega)
      have row6 : PcRow (fun k => V k ∧ k < w0.heap.size) wc.heap.size (w5.setCell ⟨w.heap.size, 9, none⟩ (.slice a5 (x.pieces.length + 1) c5)) (.slice a5 (x.pieces.length + 1) c5) (x.pieces ++ [⟨n, c⟩]) := by
        have hA : All2 (PcI (fun k => V k ∧ k < w0.heap.size) w5) (us ++ [pcVal ⟨n, c⟩ (.slice da c.data.length dc) (.slice ssa c.spans.length ssc) (.slice qa c.skips.length qc)]) (x.pieces ++ [⟨n, c⟩]) := All2.append (HU.out.imp fun _ _ h => PcI.holds.keep h (toKeep B5 fun k hk => by have := hk.2; omega)) ⟨⟨_, _, _, rfl, HL2.out.keep (toKeep B5 fun k hk => by have := hk.2; omega)⟩, trivial⟩
        have row : PcRow (fun k => V k ∧ k < w0.heap.size) wc.heap.size w5 (.slice a5 (x.pieces.length + 1) c5) (x.pieces ++ [⟨n, c⟩]) := by
          refine ⟨_, hA, ?_⟩
          rw [flatV_append, List.length_append, show flatV [pcVal ⟨n, c⟩ (.slice da c.data.length dc) (.slice ssa c.spans.length ssc) (.slice qa c.skips.length qc)] = [.int .i64 n, .int .i64 c.kind, .int .i64 c.tag, .int .i64 c.stream, .int .i64 c.mid, .int .i64 c.part, .bool c.last, .bool c.ordered, .slice da c.data.length dc, .slice ssa c.spans.length ssc, .int .i64 c.room, .slice qa c.skips.length qc] by simp [flatV, pcVal, Value.cells]]
          exact own5
        exact GRow.keep PcI.holds row (KS.mono fun k hk => by have := hv k hk.1; omega) (fun k hk => KS.block k (by have := (row.lt hk).1; omega))
      have H6 : RvI (fun k => V k ∧ k < w0.heap.size) (w5.setCell ⟨w.heap.size, 9, none⟩ (.slice a5 (x.pieces.length + 1) c5)) x _ _ _ _ := HH2.out.keep ((toKeep B5 fun k hk => by have := hk.2; omega).trans (KS.mono fun k hk => by have := hv k hk.1; omega))
      have B6 : Below w.heap.size w (w5.setCell ⟨w.heap.size, 9, none⟩ (.slice a5 (x.pieces.length + 1) c5)) := (BW2.trans (B5.mono (by omega))).setCell (Nat.le_refl _) _
      have sz6 : w5.heap.size = (w5.setCell ⟨w.heap.size, 9, none⟩ (.slice a5 (x.pieces.length + 1) c5)).heap.size := by simp
      clear KS HCX2 HCC2 HCT2 HH2 HL2 HU HU2 HON x9 g9 z9 RC6 own5 b5 B5 BD
      generalize w5.setCell ⟨w.heap.size, 9, none⟩ (.slice a5 (x.pieces.length + 1) c5) = w6 at *
      have x8 := CX6.cell 8 _ rfl
      have x7 := CX6.cell 7 _ rfl
      have z7 := CX6.fz 7
      have z8 := CX6.fz 8
      have h6c : w.heap.size < w6.heap.size := by omega
      have hsp := HST.out.sz.sp
      have ADD := radd_any (.slice sa x.spans.length sc) x.spans n w6.drew (H6.r.s.below (below_drew' (Below.refl _ _)) (Nat.le_refl _)) (by omega) (by omega) (by omega) (x.cum + 1) hinv.ris
      obtain ⟨cu, spu, hup⟩ : ∃ cu spu, upM (addM x.spans n) x.cum = (cu, spu) := ⟨_, _, rfl⟩
      have hal := addM_len x.spans n
      have hue : rupM (addR n x.spans) x.cum [] = (cu, spu) := by
        rw [rupM_eq _ (x.cum) _ (addR_ris n x.cum x.spans (hinv.ris.mono (by omega)) hq3), ← addM_eq, hup]
      have UP : ∀ v wx, Sl wx.heap.size wx v (addR n x.spans) → Calls Try.prog 63 #[v, .int .i64 x.cum] wx fun e w' => ∃ v', e = .returned (.tuple #[.int .i64 cu, v']) ∧ Sl w'.heap.size w' v' spu ∧ Below wx.heap.size wx w' ∧ InS (fun k => wx.heap.size ≤ k) v' := fun v wx hs => by
        have := rup_in v (addR n x.spans) x.cum wx hs (by omega) (by omega) (fun s h => Int.le_trans ((hinv.up.addR (by omega)) s h) (by omega)) (by rw [← addM_eq]; omega)
        rw [hue] at this
        exact this
      have HKE2 : Hid (keptM x c = { x with pieces := x.pieces ++ [⟨n, c⟩], cum := cu, spans := spu }) := by
        have := HKE.out
        rw [hup] at this
        exact this
      have HH6 := hide H6
      have HROW := hide row6
      have HC6 := hide CX6
      clear HKE hup hue hal hsp H6 row6 CX6
      go_upto_region 7 with fail
      refine wp_region_late (fun w' => w'.cell? ⟨w.heap.size, 8, none⟩ = some (.slice sa x.spans.length sc) ∧ w'.cell? ⟨w.heap.size, 7, none⟩ = some (.int .i64 x.cum)) [8, 9, 10, 11, 12, 13] (by kernel_rfl) ?_
      have hS0 := (⟨x8, x7⟩ : (fun w' : World => w'.cell? ⟨w.heap.size, 8, none⟩ = some (.slice sa x.spans.length sc) ∧ w'.cell? ⟨w.heap.size, 7, none⟩ = some (.int .i64 x.cum)) w6.drew)
      refine wpAnyL_take (i := 0) (oi := ({ dst := some 68, op := Op.fieldAddr 47 (Operand.tmp 2) 2, type := 0, pos := "ref.go:340", after := #[], guard := none } : Oper)) (v := ?vv2x1) [1, 3, 6, 7, 8, 9, 10, 11, 12, 13] rfl (by kernel_rfl) (by kernel_rfl) (by kernel_rfl) (by kernel_rfl) (by kernel_rfl) (fun _ _ _ h => h) (Or.inl ⟨by rfl, ?hv2x1⟩) hS0 ?_
      case hv2x1 => (intro w hSw; have q1 := hSw.1; have q2 := hSw.2; go_simp; try with_reducible rfl)
      try simp only [Act.put, List.setIfInBounds_toArray, List.set_cons_zero, List.set_cons_succ]
      refine wpAnyL_take (i := 1) (oi := ({ dst := some 69, op := Op.load 39 (Operand.tmp 68), type := 39, pos := "ref.go:340", after := #[{ on := 0, ground := Ground.data }], guard := none } : Oper)) (v := ?vv2x2) [3, 6, 7, 8, 9, 10, 11, 12, 13] rfl (by kernel_rfl) (by kernel_rfl) (by kernel_rfl) (by kernel_rfl) (by kernel_rfl) (fun _ _ _ h => h) (Or.inl ⟨by rfl, ?hv2x2⟩) hS0 ?_
      case hv2x2 => (intro w hSw; have q1 := hSw.1; have q2 := hSw.2; go_simp; try with_reducible rfl)
      try simp only [Act.put, List.setIfInBounds_toArray, List.set_cons_zero, List.set_cons_succ]
      refine wpAnyL_take (i := 2) (oi := ({ dst := some 70, op := Op.move (Operand.tmp 5), type := 3, pos := "ref.go:340", after := #[], guard := none } : Oper)) (v := ?vv2x3) [3, 6, 7, 8, 9, 10, 11, 12, 13] rfl (by kernel_rfl) (by kernel_rfl) (by kernel_rfl) (by kernel_rfl) (by kernel_rfl) (fun _ _ _ h => h) (Or.inl ⟨by rfl, ?hv2x3⟩) hS0 ?_
      case hv2x3 => (intro w hSw; have q1 := hSw.1; have q2 := hSw.2; go_simp; try with_reducible rfl)
      try simp only [Act.put, List.setIfInBounds_toArray, List.set_cons_zero, List.set_cons_succ]
      refine wpAnyL_take (i := 4) (oi := ({ dst := some 72, op := Op.fieldAddr 47 (Operand.tmp 2) 1, type := 0, pos := "ref.go:340", after := #[], guard := none } : Oper)) (v := ?vv2x4) [5, 6, 7, 8, 9, 10, 11, 12, 13] rfl (by kernel_rfl) (by kernel_rfl) (by kernel_rfl) (by kernel_rfl) (by kernel_rfl) (fun _ _ _ h => h) (Or.inl ⟨by rfl, ?hv2x4⟩) hS0 ?_
      case hv2x4 => (intro w hSw; have q1 := hSw.1; have q2 := hSw.2; go_simp; try with_reducible rfl)
      try simp only [Act.put, List.setIfInBounds_toArray, List.set_cons_zero, List.set_cons_succ]
      refine wpAnyL_take (i := 5) (oi := ({ dst := some 73, op := Op.load 3 (Operand.tmp 72), type := 3, pos := "ref.go:340", after := #[{ on := 4, ground := Ground.data }], guard := none } : Oper)) (v := ?vv2x5) [6, 7, 8, 9, 10, 11, 12, 13] rfl (by kernel_rfl) (by kernel_rfl) (by kernel_rfl) (by kernel_rfl) (by kernel_rfl) (fun _ _ _ h => h) (Or.inl ⟨by rfl, ?hv2x5⟩) hS0 ?_
      case hv2x5 => (intro w hSw; have q1 := hSw.1; have q2 := hSw.2; go_simp; try with_reducible rfl)
      try simp only [Act.put, List.setIfInBounds_toArray, List.set_cons_zero, List.set_cons_succ]
      refine wpAnyL_one (i := 3) (o := ({ dst := some 71, op := Op.call { callee := Callee.value (Operand.func 64), args := #[Operand.tmp 69, Operand.tmp 70], argTypes := #[39, 3] }, type := 39, pos := "ref.go:340", after := #[{ on := 1, ground := Ground.data }, { on := 2, ground := Ground.data }], guard := none } : Oper)) (by kernel_rfl) rfl (fun K hK => ?_)
      refine step_call2 rfl 64 (.tmp 69) (.tmp 70) #[39, 3] rfl _ _ rfl rfl rfl enters_radd (fun v w7 => Sl w7.heap.size w7 v (addR n x.spans) ∧ Below w6.drew.heap.size w6.drew w7) (ADD.mono fun e w7 ⟨v, h1, h2, h3⟩ => ⟨v, h1, h2, h3⟩) ?_
      rintro vs w7 ⟨hs7, b7⟩
      have hS7 := (⟨(b7.cell (p := ⟨w.heap.size, 8, none⟩) h6c).trans x8, (b7.cell (p := ⟨w.heap.size, 7, none⟩) h6c).trans x7⟩ : (w7.cell? ⟨w.heap.size, 8, none⟩ = some (.slice sa x.spans.length sc) ∧ w7.cell? ⟨w.heap.size, 7, none⟩ = some (.int .i64 x.cum)))
      refine hK _ _ ⟨fun _ => hS7, ?_⟩
      clear hK K
      try simp only [Act.put, List.setIfInBounds_toArray, List.set_cons_zero, List.set_cons_succ]
      refine wpAnyL_one (i := 6) (o := ({ dst := some 74, op := Op.call { callee := Callee.value (Operand.func 63), args := #[Operand.tmp 71, Operand.tmp 73], argTypes := #[39, 3] }, type := 84, pos := "ref.go:340", after := #[{ on := 3, ground := Ground.data }, { on := 5, ground := Ground.data }, { on := 3, ground := Ground.chain }], guard := none } : Oper)) (by kernel_rfl) rfl (fun K hK => ?_)
      refine step_call2 rfl 63 (.tmp 71) (.tmp 73) #[39, 3] rfl _ _ rfl rfl rfl enters_rup (fun u w8 => ∃ v, u = .tuple #[.int .i64 cu, v] ∧ Sl w8.heap.size w8 v spu ∧ Below w7.heap.size w7 w8 ∧ InS (fun k => w7.heap.size ≤ k) v) ((UP vs w7 hs7).mono fun e w8 ⟨v, h1, h2, h3, h4⟩ => ⟨_, h1, v, rfl, h2, h3, h4⟩) ?_
      rintro _ w8 ⟨vu, rfl, hs8, b8, in8⟩
      have hS8 := (⟨(b8.cell (p := ⟨w.heap.size, 8, none⟩) (Nat.lt_of_lt_of_le h6c b7.size)).trans hS7.1, (b8.cell (p := ⟨w.heap.size, 7, none⟩) (Nat.lt_of_lt_of_le h6c b7.size)).trans hS7.2⟩ : (w8.cell? ⟨w.heap.size, 8, none⟩ = some (.slice sa x.spans.length sc) ∧ w8.cell? ⟨w.heap.size, 7, none⟩ = some (.int .i64 x.cum)))
      refine hK _ _ ⟨fun _ => hS8, ?_⟩
      clear hK K
      try simp only [Act.put, List.setIfInBounds_toArray, List.set_cons_zero, List.set_cons_succ]
      obtain ⟨sa8, sc8, rfl⟩ := hs8.ex
      refine wpAnyL_take (i := 7) (oi := ({ dst := some 67, op := Op.move (Operand.tmp 74), type := 84, pos := "ref.go:340", after := #[{ on := 6, ground := Ground.data }], guard := none } : Oper)) (v := ?vv2x6) [8, 9, 10, 11, 12, 13] rfl (by kernel_rfl) (by kernel_rfl) (by kernel_rfl) (by kernel_rfl) (by kernel_rfl) (fun _ _ _ h => h) (Or.inl ⟨by rfl, ?hv2x6⟩) hS8 ?_
      case hv2x6 => (intro w hSw; go_simp; try with_reducible rfl)
      try simp only [Act.put, List.setIfInBounds_toArray, List.set_cons_zero, List.set_cons_succ]
      refine wpAnyL_takeP (i := 8) (oi := ({ dst := some 75, op := Op.extract (Operand.tmp 67) 0, type := 3, pos := "ref.go:340", after := #[{ on := 7, ground := Ground.data }], guard := none } : Oper)) (v := ?vv2x7) (by decide) rfl (by kernel_rfl) (by kernel_rfl) (by kernel_rfl) (fun _ _ _ h => h) (Or.inl ⟨by rfl, ?hv2x7⟩) ?_
      case hv2x7 => (intro w; go_simp; try with_reducible rfl)
      try simp only [Act.put, List.setIfInBounds_toArray, List.set_cons_zero, List.set_cons_succ]
      refine wpAnyL_takeP (i := 9) (oi := ({ dst := some 76, op := Op.extract (Operand.tmp 67) 1, type := 39, pos := "ref.go:340", after := #[{ on := 7, ground := Ground.data }, { on := 11, ground := Ground.gcOnly Departure.lateStores }], guard := none } : Oper)) (v := ?vv2x8) (by decide) rfl (by kernel_rfl) (by kernel_rfl) (by kernel_rfl) (fun _ _ _ h => h) (Or.inl ⟨by rfl, ?hv2x8⟩) ?_
      case hv2x8 => (intro w; go_simp; try with_reducible rfl)
      try simp only [Act.put, List.setIfInBounds_toArray, List.set_cons_zero, List.set_cons_succ]
      refine wpAnyL_takeP (i := 10) (oi := ({ dst := some 77, op := Op.fieldAddr 47 (Operand.tmp 2) 1, type := 0, pos := "ref.go:340", after := #[{ on := 0, ground := Ground.phase }, { on := 1, ground := Ground.phase }, { on := 2, ground := Ground.phase }, { on := 3, ground := Ground.phase }, { on := 4, ground := Ground.phase }, { on := 5, ground := Ground.phase }, { on := 6, ground := Ground.phase }, { on := 7, ground := Ground.phase }, { on := 8, ground := Ground.phase }, { on := 9, ground := Ground.textOnly Departure.lateStores }], guard := none } : Oper)) (v := ?vv2x9) (by decide) rfl (by kernel_rfl) (by kernel_rfl) (by kernel_rfl) (fun _ _ _ h => h) (Or.inl ⟨by rfl, ?hv2x9⟩) ?_
      case hv2x9 => (intro w; go_simp; try with_reducible rfl)
      try simp only [Act.put, List.setIfInBounds_toArray, List.set_cons_zero, List.set_cons_succ]
      have q7 := hS8.2; have q8 := hS8.1; have g7 : w8.frozen? ⟨w.heap.size, 7, none⟩ = false := ((b8.frozen (p := ⟨w.heap.size, 7, none⟩) (Nat.lt_of_lt_of_le h6c b7.size)).trans (b7.frozen (p := ⟨w.heap.size, 7, none⟩) h6c)).trans z7; have g8 : w8.frozen? ⟨w.heap.size, 8, none⟩ = false := ((b8.frozen (p := ⟨w.heap.size, 8, none⟩) (Nat.lt_of_lt_of_le h6c b7.size)).trans (b7.frozen (p := ⟨w.heap.size, 8, none⟩) h6c)).trans z8
      refine wpAnyL_one (i := 11) (o := ({ dst := none, op := Op.store 3 (Operand.tmp 77) (Operand.tmp 75), type := 0, pos := "ref.go:340", after := #[{ on := 10, ground := Ground.data }, { on := 8, ground := Ground.data }, { on := 6, ground := Ground.chain }, { on := 0, ground := Ground.phase }, { on := 1, ground := Ground.phase }, { on := 2, ground := Ground.phase }, { on := 3, ground := Ground.phase }, { on := 4, ground := Ground.phase }, { on := 5, ground := Ground.phase }, { on := 6, ground := Ground.phase }, { on := 7, ground := Ground.phase }, { on := 8, ground := Ground.phase }, { on := 9, ground := Ground.textOnly Departure.lateStores }], guard := none } : Oper)) (by kernel_rfl) rfl (fun K hK => ?_)
      refine step_st (by rfl) 3 (.tmp 77) (.tmp 75) rfl _ _ rfl rfl (run_st3 q7 g7 _) ?_
      refine hK _ _ ⟨fun h => absurd (by simp) h, ?_⟩
      clear hK K
      try simp only [Act.put]
      refine wpAnyL_takeP (i := 12) (oi := ({ dst := some 78, op := Op.fieldAddr 47 (Operand.tmp 2) 2, type := 0, pos := "ref.go:340", after := #[{ on := 0, ground := Ground.phase }, { on := 1, ground := Ground.phase }, { on := 2, ground := Ground.phase }, { on := 3, ground := Ground.phase }, { on := 4, ground := Ground.phase }, { on := 5, ground := Ground.phase }, { on := 6, ground := Ground.phase }, { on := 7, ground := Ground.phase }, { on := 8, ground := Ground.phase }, { on := 9, ground := Ground.phase }, { on := 10, ground := Ground.phase }, { on := 11, ground := Ground.phase }], guard := none } : Oper)) (v := ?vv2x10) (by decide) rfl (by kernel_rfl) (by kernel_rfl) (by kernel_rfl) (fun _ _ _ h => h) (Or.inl ⟨by rfl, ?hv2x10⟩) ?_
      case hv2x10 => (intro w; go_simp; try with_reducible rfl)
      try simp only [Act.put, List.setIfInBounds_toArray, List.set_cons_zero, List.set_cons_succ]
      refine wpAnyL_one (i := 13) (o := ({ dst := none, op := Op.store 39 (Operand.tmp 78) (Operand.tmp 76), type := 0, pos := "ref.go:340", after := #[{ on := 12, ground := Ground.data }, { on := 9, ground := Ground.data }, { on := 11, ground := Ground.chain }, { on := 0, ground := Ground.phase }, { on := 1, ground := Ground.phase }, { on := 2, ground := Ground.phase }, { on := 3, ground := Ground.phase }, { on := 4, ground := Ground.phase }, { on := 5, ground := Ground.phase }, { on := 6, ground := Ground.phase }, { on := 7, ground := Ground.phase }, { on := 8, ground := Ground.phase }, { on := 9, ground := Ground.phase }, { on := 10, ground := Ground.phase }, { on := 11, ground := Ground.phase }], guard := none } : Oper)) (by kernel_rfl) rfl (fun K hK => ?_)
      refine step_st (by rfl) 39 (.tmp 78) (.tmp 76) rfl _ _ rfl rfl (by have : (Instr.storeAt 39 (.pointer (some ⟨w.heap.size, 8, none⟩)) (.slice sa8 spu.length sc8)).run Try.prog (w8.setCell ⟨w.heap.size, 7, none⟩ (.int .i64 cu)) = .ok () ((w8.setCell ⟨w.heap.size, 7, none⟩ (.int .i64 cu)).setCell ⟨w.heap.size, 8, none⟩ (.slice sa8 spu.length sc8)) := (by go_simp); exact this) ?_
      refine hK _ _ ⟨fun h => absurd (by simp) h, ?_⟩
      clear hK K
      try simp only [Act.put]
      refine wpAnyL_done (by kernel_rfl) ?_ _
      have sz7 : w6.heap.size ≤ w7.heap.size := b7.size
      have sz8 := b8.size
      have B8 : Below w6.heap.size w6 w8 := ((below_drew' (Below.refl _ _)).trans b7).trans (b8.mono sz7)
      have K9 : Keep (fun k => k ≠ w.heap.size) w8 ((w8.setCell ⟨w.heap.size, 7, none⟩ (.int .i64 cu)).setCell ⟨w.heap.size, 8, none⟩ (.slice sa8 spu.length sc8)) := Keep.setCell (Keep.setCell (Keep.refl (fun k => k ≠ w.heap.size) w8) (p := ⟨w.heap.size, 7, none⟩) (fun h => h rfl) _) (p := ⟨w.heap.size, 8, none⟩) (fun h => h rfl) _
      have CC9 : Cells (w.heap.size + 1) ((w8.setCell ⟨w.heap.size, 7, none⟩ (.int .i64 cu)).setCell ⟨w.heap.size, 8, none⟩ (.slice sa8 spu.length sc8)) [.int .i64 c.kind, .int .i64 c.tag, .int .i64 c.stream, .int .i64 c.mid, .int .i64 c.part, .bool c.last, .bool c.ordered, .slice da c.data.length dc, .slice ssa c.spans.length ssc, .int .i64 c.room, .slice qa c.skips.length qc] := (CC6.below B8 (by omega)).keep K9 (by omega)
      have CT9 : Cells (w.heap.size + 2) ((w8.setCell ⟨w.heap.size, 7, none⟩ (.int .i64 cu)).setCell ⟨w.heap.size, 8, none⟩ (.slice sa8 spu.length sc8)) [.int .i64 0, .int .i64 0, .int .i64 0, .int .i64 0, .int .i64 0, .int .i64 0, .int .i64 0, .int .i64 0, .slice none 0 0, .slice none 0 0, .slice none 0 0, .slice none 0 0] := (CT6.below B8 (by omega)).keep K9 (by omega)
      have B9 : Below w.heap.size w ((w8.setCell ⟨w.heap.size, 7, none⟩ (.int .i64 cu)).setCell ⟨w.heap.size, 8, none⟩ (.slice sa8 spu.length sc8)) := ((B6.trans (B8.mono (by omega))).setCell (Nat.le_refl _) _).setCell (Nat.le_refl _) _
      have sz9 : w8.heap.size = ((w8.setCell ⟨w.heap.size, 7, none⟩ (.int .i64 cu)).setCell ⟨w.heap.size, 8, none⟩ (.slice sa8 spu.length sc8)).heap.size := by simp
      have HY9 : ∃ s9 p9 t9 l9, Cells w.heap.size ((w8.setCell ⟨w.heap.size, 7, none⟩ (.int .i64 cu)).setCell ⟨w.heap.size, 8, none⟩ (.slice sa8 spu.length sc8)) [.int .i64 (keptM x c).cf.streams, .int .i64 (keptM x c).cf.part, .int .i64 (keptM x c).cf.packet, .int .i64 (keptM x c).cf.paths, .int .i64 (keptM x c).cf.turns, .int .i64 (keptM x c).cf.waiting, .int .i64 (keptM x c).cf.first, .int .i64 (keptM x c).cum, s9, p9, t9, l9] ∧ RvI (fun k => (V k ∨ w.heap.size + 3 ≤ k) ∧ k < ((w8.setCell ⟨w.heap.size, 7, none⟩ (.int .i64 cu)).setCell ⟨w.heap.size, 8, none⟩ (.slice sa8 spu.length sc8)).heap.size) ((w8.setCell ⟨w.heap.size, 7, none⟩ (.int .i64 cu)).setCell ⟨w.heap.size, 8, none⟩ (.slice sa8 spu.length sc8)) (keptM x c) s9 p9 t9 l9 := by
        rw [HKE2.out]
        have c9 := ((HC6.out.below B8 h6c).set 7 (.int .i64 cu) (by simp)).set 8 (.slice sa8 spu.length sc8) (by simp)
        have r0 := HH6.out.keep ((toKeep B8 fun k hk => by have := hk.2; omega).trans (K9.mono fun k hk => by have := hv k hk.1; omega))
        have rw9 : PcRow (fun k => V k ∧ k < w0.heap.size) wc.heap.size ((w8.setCell ⟨w.heap.size, 7, none⟩ (.int .i64 cu)).setCell ⟨w.heap.size, 8, none⟩ (.slice sa8 spu.length sc8)) (.slice a5 (x.pieces.length + 1) c5) (x.pieces ++ [⟨n, c⟩]) := GRow.keep PcI.holds HROW.out ((toKeep B8 fun k hk => by have := hk.2; omega).trans (K9.mono fun k hk => by have := hv k hk.1; omega)) (fun k hk => by have h1 := HROW.out.lt hk; rw [K9.block k (by omega)]; exact B8.block k h1.2)
        have r1 := r0.withP (V' := fun k => V k ∨ w.heap.size + 3 ≤ k) rw9 (fun _ hk => .inl hk.1) (fun k hk => .inr (by omega))
        have s9 : Sl ((w8.setCell ⟨w.heap.size, 7, none⟩ (.int .i64 cu)).setCell ⟨w.heap.size, 8, none⟩ (.slice sa8 spu.length sc8)).heap.size ((w8.setCell ⟨w.heap.size, 7, none⟩ (.int .i64 cu)).setCell ⟨w.heap.size, 8, none⟩ (.slice sa8 spu.length sc8)) (.slice sa8 spu.length sc8) spu := (hs8.keepS in8 (K9.mono fun k hk => by omega))
        have r2 := (r1.withS cu s9 (in8.mono fun k hk => .inr (by omega))).lt
        exact ⟨_, _, _, _, c9, r2⟩
      clear K9 B8 CC6 CT6 HC6 HH6 HROW hs8 in8 b8 b7 hs7 z7 z8 x7 x8 UP ADD q7 q8 g7 g8 hS7 hS8
      generalize ((w8.setCell ⟨w.heap.size, 7, none⟩ (.int .i64 cu)).setCell ⟨w.heap.size, 8, none⟩ (.slice sa8 spu.length sc8)) = w9 at *
      obtain ⟨s9, p9, t9, l9, CX9, HY⟩ := HY9
      have HOY := hide (HOK.out HTKN.out)
      have HYT : Hid ((keptM x c).turn = x.turn) := by show _ = _; rw [HKE2.out]
      have HRE : Hid (recvM x c = if c.ordered = true then turnsM (keptM x c) c.stream else delivM (keptM x c) ⟨c.stream, c.mid, c.ordered⟩) := by show _ = _; rw [recvM, if_pos HTKN.out]
      clear HKE2 HRC HTK HOK HTKN
      generalize keptM x c = y at *
      obtain ⟨sy, scy, py, pcy, ty, tcy, ly, lcy, rfl, rfl, rfl, rfl⟩ := HY.r.ex
      have c6 := CC9.cell 6 _ rfl
      have c2 := CC9.cell 2 _ rfl
      have RNG9 := CX9.range
      have RC9 := CC9.range
      have HCT9 := hide CT9
      have hty : y.turn.length ≤ 2147483647 := by rw [HYT.out]; exact HST.out.sz.tn
      obtain ⟨i, hi⟩ : ∃ i : Nat, c.stream = i := ⟨c.stream.toNat, by omega⟩
      have TU : Calls Try.prog 65 #[.agg #[.int .i64 y.cf.streams, .int .i64 y.cf.part, .int .i64 y.cf.packet, .int .i64 y.cf.paths, .int .i64 y.cf.turns, .int .i64 y.cf.waiting, .int .i64 y.cf.first, .int .i64 y.cum, .slice sy y.spans.length scy, .slice py y.pieces.length pcy, .slice ty y.turn.length tcy, .slice ly y.log.length lcy], .int .i64 c.stream] w9 fun e w' => ∃ s' p' t' l', e = .returned (.agg #[.int .i64 (turnsM y c.stream).cf.streams, .int .i64 (turnsM y c.stream).cf.part, .int .i64 (turnsM y c.stream).cf.packet, .int .i64 (turnsM y c.stream).cf.paths, .int .i64 (turnsM y c.stream).cf.turns, .int .i64 (turnsM y c.stream).cf.waiting, .int .i64 (turnsM y c.stream).cf.first, .int .i64 (turnsM y c.stream).cum, s', p', t', l']) ∧ RvI (fun k => ((V k ∨ w.heap.size + 3 ≤ k) ∧ k < w9.heap.size) ∨ w9.heap.size ≤ k) w' (turnsM y c.stream) s' p' t' l' ∧ Below w9.heap.size w9 w' := by
        rw [hi]
        exact rturns_in _ K y i _ _ _ _ w9 HY (fun k hk => hk.2) HOY.out (by rw [HYT.out]; omega) hK hty
      have DE := rdeliver_in _ y _ _ _ _ c da ssa qa c.data.length dc c.spans.length ssc c.skips.length qc false w9 HY (fun k hk => hk.2) HOY.out.fit
      have e10 : delM false y ⟨c.stream, c.mid, c.ordered⟩ = delivM y ⟨c.stream, c.mid, c.ordered⟩ := rfl
      rw [e10] at DE
      clear e10 hi i
      have HCX9 := hide CX9
      cases ho : c.ordered with
      | true =>
        have HE : Hid (recvM x c = turnsM y c.stream) := by show _ = _; rw [HRE.out, if_pos ho]
        clear DE HRE
        generalize turnsM y c.stream = z at *
        have h9t : w.heap.size + 2 < w9.heap.size := by omega
        go_wp2_with (refine wpList_ldR rfl (.tmp 2) rfl w.heap.size 0 rfl y _ _ _ _ (by with_reducible exact RNG9) ?_)
        refine TU.mono ?_
        rintro e w10 ⟨s10, p10, t10, l10, rfl, hr10, b10⟩
        obtain ⟨sz_, scz, pz, pcz, tz, tcz, lz, lcz, rfl, rfl, rfl, rfl⟩ := hr10.r.ex
        have HR10 := hide hr10
        clear hr10
        have CT10 := hide (HCT9.out.below b10 h9t)
        have TH10 := CT10.out.there
        have BX10 := B9.trans (b10.mono (by omega))
        dsimp only
        rename_i KK aKK
        refine aKK _ _ ?_
        clear aKK KK
        refine wpList_srN 47 12 Try.sizeRv rfl (.tmp 4) (.tmp 84) rfl (w.heap.size + 2) 0 rfl [.int .i64 z.cf.streams, .int .i64 z.cf.part, .int .i64 z.cf.packet, .int .i64 z.cf.paths, .int .i64 z.cf.turns, .int .i64 z.cf.waiting, .int .i64 z.cf.first, .int .i64 z.cum, .slice sz_ z.spans.length scz, .slice pz z.pieces.length pcz, .slice tz z.turn.length tcz, .slice lz z.log.length lcz] rfl rfl rfl TH10 ?_
        go_wp2_with fail
        have CE := CT10.out.setAll [.int .i64 z.cf.streams, .int .i64 z.cf.part, .int .i64 z.cf.packet, .int .i64 z.cf.paths, .int .i64 z.cf.turns, .int .i64 z.cf.waiting, .int .i64 z.cf.first, .int .i64 z.cum, .slice sz_ z.spans.length scz, .slice pz z.pieces.length pcz, .slice tz z.turn.length tcz, .slice lz z.log.length lcz] rfl
        have e0 := CE.cell 0 _ rfl
        have e1 := CE.cell 1 _ rfl
        have e2 := CE.cell 2 _ rfl
        have e3 := CE.cell 3 _ rfl
        have e4 := CE.cell 4 _ rfl
        have e5 := CE.cell 5 _ rfl
        have e6 := CE.cell 6 _ rfl
        have e7 := CE.cell 7 _ rfl
        have e8 := CE.cell 8 _ rfl
        have e9 := CE.cell 9 _ rfl
        have e10 := CE.cell 10 _ rfl
        have e11 := CE.cell 11 _ rfl
        have KE : Keep (fun k => k ≠ w.heap.size + 2) w10 (w10.setCells (w.heap.size + 2) 0 [.int .i64 z.cf.streams, .int .i64 z.cf.part, .int .i64 z.cf.packet, .int .i64 z.cf.paths, .int .i64 z.cf.turns, .int .i64 z.cf.waiting, .int .i64 z.cf.first, .int .i64 z.cum, .slice sz_ z.spans.length scz, .slice pz z.pieces.length pcz, .slice tz z.turn.length tcz, .slice lz z.log.length lcz]) := Keep.setCells (fun h => h rfl) _ _ (Keep.refl _ _)
        have BE : Below w.heap.size w (w10.setCells (w.heap.size + 2) 0 [.int .i64 z.cf.streams, .int .i64 z.cf.part, .int .i64 z.cf.packet, .int .i64 z.cf.paths, .int .i64 z.cf.turns, .int .i64 z.cf.waiting, .int .i64 z.cf.first, .int .i64 z.cum, .slice sz_ z.spans.length scz, .slice pz z.pieces.length pcz, .slice tz z.turn.length tcz, .slice lz z.log.length lcz]) := Below.setCells (by omega) _ _ BX10
        have FIN : Hid (RvI (fun k => V k ∨ w.heap.size ≤ k) (w10.setCells (w.heap.size + 2) 0 [.int .i64 z.cf.streams, .int .i64 z.cf.part, .int .i64 z.cf.packet, .int .i64 z.cf.paths, .int .i64 z.cf.turns, .int .i64 z.cf.waiting, .int .i64 z.cf.first, .int .i64 z.cum, .slice sz_ z.spans.length scz, .slice pz z.pieces.length pcz, .slice tz z.turn.length tcz, .slice lz z.log.length lcz]) z (.slice sz_ z.spans.length scz) (.slice pz z.pieces.length pcz) (.slice tz z.turn.length tcz) (.slice lz z.log.length lcz)) := (HR10.out.keep (KE.mono fun k hk => by rcases hk with ⟨h | h, _⟩ | h <;> first | (have := hv k h; omega) | omega)).mono fun k hk => by rcases hk with ⟨h | h, _⟩ | h <;> first | exact .inl h | exact .inr (by omega)
        clear CE KE
        generalize w10.setCells (w.heap.size + 2) 0 [.int .i64 z.cf.streams, .int .i64 z.cf.part, .int .i64 z.cf.packet, .int .i64 z.cf.paths, .int .i64 z.cf.turns, .int .i64 z.cf.waiting, .int .i64 z.cf.first, .int .i64 z.cum, .slice sz_ z.spans.length scz, .slice pz z.pieces.length pcz, .slice tz z.turn.length tcz, .slice lz z.log.length lcz] = w12 at *
        refine bodyPost_ret (v := .agg #[.int .i64 z.cf.streams, .int .i64 z.cf.part, .int .i64 z.cf.packet, .int .i64 z.cf.paths, .int .i64 z.cf.turns, .int .i64 z.cf.waiting, .int .i64 z.cf.first, .int .i64 z.cum, .slice sz_ z.spans.length scz, .slice pz z.pieces.length pcz, .slice tz z.turn.length tcz, .slice lz z.log.length lcz]) (by simp [results, Try.results29, go_sem, e0, e1, e2, e3, e4, e5, e6, e7, e8, e9, e10, e11]) rfl ?_
        rw [HE.out]
        exact ⟨_, _, _, _, rfl, FIN.out, BE⟩
      | false =>
        have HE : Hid (recvM x c = delivM y ⟨c.stream, c.mid, c.ordered⟩) := by show _ = _; rw [HRE.out, ho]; rfl
        clear TU HRE
        generalize delivM y ⟨c.stream, c.mid, c.ordered⟩ = z at *
        generalize wholeM y ⟨c.stream, c.mid, c.ordered⟩ = wz at *
        simp only [ho] at DE
        have h9t : w.heap.size + 2 < w9.heap.size := by omega
        go_wp2_with (first
          | refine wpList_ldR rfl (.tmp 2) rfl w.heap.size 0 rfl y _ _ _ _ (by with_reducible exact RNG9) ?_
          | refine wpList_ldC rfl (.tmp 3) rfl (w.heap.size + 1) 0 rfl c _ _ _ (by with_reducible exact RC9) ?_)
        refine DE.mono ?_
        rintro e w10 ⟨s10, p10, t10, l10, rfl, hr10, b10⟩
        dsimp only
        rename_i KK aKK
        refine aKK _ _ ?_
        (obtain ⟨sz_, scz, pz, pcz, tz, tcz, lz, lcz, rfl, rfl, rfl, rfl⟩ := hr10.r.ex; have HR0 := hide hr10.lt; clear hr10; have sz10 := b10.size; have CT10 := hide (HCT9.out.below b10 h9t); have CN := Cells.new w10 #[.int .i64 0, .int .i64 0, .int .i64 0, .int .i64 0, .int .i64 0, .int .i64 0, .int .i64 0, .int .i64 0, .slice none 0 0, .slice none 0 0, .slice none 0 0, .slice none 0 0] 47; have TH10 : (w10.alloc (.cells #[.int .i64 0, .int .i64 0, .int .i64 0, .int .i64 0, .int .i64 0, .int .i64 0, .int .i64 0, .int .i64 0, .slice none 0 0, .slice none 0 0, .slice none 0 0, .slice none 0 0] 47)).there w10.heap.size 0 12 := CN.there; have KN : Keep (fun k => k ≠ w10.heap.size) (w10.alloc (.cells #[.int .i64 0, .int .i64 0, .int .i64 0, .int .i64 0, .int .i64 0, .int .i64 0, .int .i64 0, .int .i64 0, .slice none 0 0, .slice none 0 0, .slice none 0 0, .slice none 0 0] 47)) ((w10.alloc (.cells #[.int .i64 0, .int .i64 0, .int .i64 0, .int .i64 0, .int .i64 0, .int .i64 0, .int .i64 0, .int .i64 0, .slice none 0 0, .slice none 0 0, .slice none 0 0, .slice none 0 0] 47)).setCells w10.heap.size 0 [.int .i64 z.cf.streams, .int .i64 z.cf.part, .int .i64 z.cf.packet, .int .i64 z.cf.paths, .int .i64 z.cf.turns, .int .i64 z.cf.waiting, .int .i64 z.cf.first, .int .i64 z.cum, .slice sz_ z.spans.length scz, .slice pz z.pieces.length pcz, .slice tz z.turn.length tcz, .slice lz z.log.length lcz]) := Keep.setCells (fun h => h rfl) _ _ (Keep.refl _ _); have CX11 := CN.setAll [.int .i64 z.cf.streams, .int .i64 z.cf.part, .int .i64 z.cf.packet, .int .i64 z.cf.paths, .int .i64 z.cf.turns, .int .i64 z.cf.waiting, .int .i64 z.cf.first, .int .i64 z.cum, .slice sz_ z.spans.length scz, .slice pz z.pieces.length pcz, .slice tz z.turn.length tcz, .slice lz z.log.length lcz] rfl; have RNG11 := CX11.range; have CT11 := hide ((CT10.out.alloc (by omega) _).keep KN (by omega)); have TH11 : (((w10.alloc (.cells #[.int .i64 0, .int .i64 0, .int .i64 0, .int .i64 0, .int .i64 0, .int .i64 0, .int .i64 0, .int .i64 0, .slice none 0 0, .slice none 0 0, .slice none 0 0, .slice none 0 0] 47)).setCells w10.heap.size 0 [.int .i64 z.cf.streams, .int .i64 z.cf.part, .int .i64 z.cf.packet, .int .i64 z.cf.paths, .int .i64 z.cf.turns, .int .i64 z.cf.waiting, .int .i64 z.cf.first, .int .i64 z.cum, .slice sz_ z.spans.length scz, .slice pz z.pieces.length pcz, .slice tz z.turn.length tcz, .slice lz z.log.length lcz])).there (w.heap.size + 2) 0 12 := CT11.out.there; have BX10 : Below w.heap.size w ((w10.alloc (.cells #[.int .i64 0, .int .i64 0, .int .i64 0, .int .i64 0, .int .i64 0, .int .i64 0, .int .i64 0, .int .i64 0, .slice none 0 0, .slice none 0 0, .slice none 0 0, .slice none 0 0] 47)).setCells w10.heap.size 0 [.int .i64 z.cf.streams, .int .i64 z.cf.part, .int .i64 z.cf.packet, .int .i64 z.cf.paths, .int .i64 z.cf.turns, .int .i64 z.cf.waiting, .int .i64 z.cf.first, .int .i64 z.cum, .slice sz_ z.spans.length scz, .slice pz z.pieces.length pcz, .slice tz z.turn.length tcz, .slice lz z.log.length lcz]) := Below.setCells (by omega) _ _ ((B9.trans (b10.mono (by omega))).alloc (by omega) _); have HR10 := hide ((HR0.out.keep (toKeep (box_below w10 (.cells #[.int .i64 0, .int .i64 0, .int .i64 0, .int .i64 0, .int .i64 0, .int .i64 0, .int .i64 0, .int .i64 0, .slice none 0 0, .slice none 0 0, .slice none 0 0, .slice none 0 0] 47)) fun k hk => hk.2)).keep (KN.mono fun k hk => by have := hk.2; omega)); have HR10 := hide (HR10.out.mono (V' := fun k => ((V k ∨ w.heap.size + 3 ≤ k) ∧ k < w9.heap.size) ∨ w9.heap.size ≤ k) fun k hk => hk.1); clear HR0 CN KN CX11)
        clear aKK KK
        go_wp2_with (first
          | refine wpList_srN 47 12 Try.sizeRv rfl (.tmp 6) (.tmp 89) rfl w10.heap.size 0 rfl [.int .i64 z.cf.streams, .int .i64 z.cf.part, .int .i64 z.cf.packet, .int .i64 z.cf.paths, .int .i64 z.cf.turns, .int .i64 z.cf.waiting, .int .i64 z.cf.first, .int .i64 z.cum, .slice sz_ z.spans.length scz, .slice pz z.pieces.length pcz, .slice tz z.turn.length tcz, .slice lz z.log.length lcz] rfl rfl rfl (by with_reducible exact TH10) ?_
          | refine wpList_ldR rfl (.tmp 6) rfl w10.heap.size 0 rfl z _ _ _ _ (by with_reducible exact RNG11) ?_
          | refine wpList_srN 47 12 Try.sizeRv rfl (.tmp 4) (.tmp 91) rfl (w.heap.size + 2) 0 rfl [.int .i64 z.cf.streams, .int .i64 z.cf.part, .int .i64 z.cf.packet, .int .i64 z.cf.paths, .int .i64 z.cf.turns, .int .i64 z.cf.waiting, .int .i64 z.cf.first, .int .i64 z.cum, .slice sz_ z.spans.length scz, .slice pz z.pieces.length pcz, .slice tz z.turn.length tcz, .slice lz z.log.length lcz] rfl rfl rfl (by with_reducible exact TH11) ?_)
        have CE := CT11.out.setAll [.int .i64 z.cf.streams, .int .i64 z.cf.part, .int .i64 z.cf.packet, .int .i64 z.cf.paths, .int .i64 z.cf.turns, .int .i64 z.cf.waiting, .int .i64 z.cf.first, .int .i64 z.cum, .slice sz_ z.spans.length scz, .slice pz z.pieces.length pcz, .slice tz z.turn.length tcz, .slice lz z.log.length lcz] rfl
        have e0 := CE.cell 0 _ rfl
        have e1 := CE.cell 1 _ rfl
        have e2 := CE.cell 2 _ rfl
        have e3 := CE.cell 3 _ rfl
        have e4 := CE.cell 4 _ rfl
        have e5 := CE.cell 5 _ rfl
        have e6 := CE.cell 6 _ rfl
        have e7 := CE.cell 7 _ rfl
        have e8 := CE.cell 8 _ rfl
        have e9 := CE.cell 9 _ rfl
        have e10 := CE.cell 10 _ rfl
        have e11 := CE.cell 11 _ rfl
        have KE : Keep (fun k => k ≠ w.heap.size + 2) ((w10.alloc (.cells #[.int .i64 0, .int .i64 0, .int .i64 0, .int .i64 0, .int .i64 0, .int .i64 0, .int .i64 0, .int .i64 0, .slice none 0 0, .slice none 0 0, .slice none 0 0, .slice none 0 0] 47)).setCells w10.heap.size 0 [.int .i64 z.cf.streams, .int .i64 z.cf.part, .int .i64 z.cf.packet, .int .i64 z.cf.paths, .int .i64 z.cf.turns, .int .i64 z.cf.waiting, .int .i64 z.cf.first, .int .i64 z.cum, .slice sz_ z.spans.length scz, .slice pz z.pieces.length pcz, .slice tz z.turn.length tcz, .slice lz z.log.length lcz]) (((w10.alloc (.cells #[.int .i64 0, .int .i64 0, .int .i64 0, .int .i64 0, .int .i64 0, .int .i64 0, .int .i64 0, .int .i64 0, .slice none 0 0, .slice none 0 0, .slice none 0 0, .slice none 0 0] 47)).setCells w10.heap.size 0 [.int .i64 z.cf.streams, .int .i64 z.cf.part, .int .i64 z.cf.packet, .int .i64 z.cf.paths, .int .i64 z.cf.turns, .int .i64 z.cf.waiting, .int .i64 z.cf.first, .int .i64 z.cum, .slice sz_ z.spans.length scz, .slice pz z.pieces.length pcz, .slice tz z.turn.length tcz, .slice lz z.log.length lcz]).setCells (w.heap.size + 2) 0 [.int .i64 z.cf.streams, .int .i64 z.cf.part, .int .i64 z.cf.packet, .int .i64 z.cf.paths, .int .i64 z.cf.turns, .int .i64 z.cf.waiting, .int .i64 z.cf.first, .int .i64 z.cum, .slice sz_ z.spans.length scz, .slice pz z.pieces.length pcz, .slice tz z.turn.length tcz, .slice lz z.log.length lcz]) := Keep.setCells (fun h => h rfl) _ _ (Keep.refl _ _)
        have BE : Below w.heap.size w (((w10.alloc (.cells #[.int .i64 0, .int .i64 0, .int .i64 0, .int .i64 0, .int .i64 0, .int .i64 0, .int .i64 0, .int .i64 0, .slice none 0 0, .slice none 0 0, .slice none 0 0, .slice none 0 0] 47)).setCells w10.heap.size 0 [.int .i64 z.cf.streams, .int .i64 z.cf.part, .int .i64 z.cf.packet, .int .i64 z.cf.paths, .int .i64 z.cf.turns, .int .i64 z.cf.waiting, .int .i64 z.cf.first, .int .i64 z.cum, .slice sz_ z.spans.length scz, .slice pz z.pieces.length pcz, .slice tz z.turn.length tcz, .slice lz z.log.length lcz]).setCells (w.heap.size + 2) 0 [.int .i64 z.cf.streams, .int .i64 z.cf.part, .int .i64 z.cf.packet, .int .i64 z.cf.paths, .int .i64 z.cf.turns, .int .i64 z.cf.waiting, .int .i64 z.cf.first, .int .i64 z.cum, .slice sz_ z.spans.length scz, .slice pz z.pieces.length pcz, .slice tz z.turn.length tcz, .slice lz z.log.length lcz]) := Below.setCells (by omega) _ _ BX10
        have FIN : Hid (RvI (fun k => V k ∨ w.heap.size ≤ k) (((w10.alloc (.cells #[.int .i64 0, .int .i64 0, .int .i64 0, .int .i64 0, .int .i64 0, .int .i64 0, .int .i64 0, .int .i64 0, .slice none 0 0, .slice none 0 0, .slice none 0 0, .slice none 0 0] 47)).setCells w10.heap.size 0 [.int .i64 z.cf.streams, .int .i64 z.cf.part, .int .i64 z.cf.packet, .int .i64 z.cf.paths, .int .i64 z.cf.turns, .int .i64 z.cf.waiting, .int .i64 z.cf.first, .int .i64 z.cum, .slice sz_ z.spans.length scz, .slice pz z.pieces.length pcz, .slice tz z.turn.length tcz, .slice lz z.log.length lcz]).setCells (w.heap.size + 2) 0 [.int .i64 z.cf.streams, .int .i64 z.cf.part, .int .i64 z.cf.packet, .int .i64 z.cf.paths, .int .i64 z.cf.turns, .int .i64 z.cf.waiting, .int .i64 z.cf.first, .int .i64 z.cum, .slice sz_ z.spans.length scz, .slice pz z.pieces.length pcz, .slice tz z.turn.length tcz, .slice lz z.log.length lcz]) z (.slice sz_ z.spans.length scz) (.slice pz z.pieces.length pcz) (.slice tz z.turn.length tcz) (.slice lz z.log.length lcz)) := (HR10.out.keep (KE.mono fun k hk => by rcases hk with ⟨h | h, _⟩ | h <;> first | (have := hv k h; omega) | omega)).mono fun k hk => by rcases hk with ⟨h | h, _⟩ | h <;> first | exact .inl h | exact .inr (by omega)
        clear CE KE
        generalize ((w10.alloc (.cells #[.int .i64 0, .int .i64 0, .int .i64 0, .int .i64 0, .int .i64 0, .int .i64 0, .int .i64 0, .int .i64 0, .slice none 0 0, .slice none 0 0, .slice none 0 0, .slice none 0 0] 47)).setCells w10.heap.size 0 [.int .i64 z.cf.streams, .int .i64 z.cf.part, .int .i64 z.cf.packet, .int .i64 z.cf.paths, .int .i64 z.cf.turns, .int .i64 z.cf.waiting, .int .i64 z.cf.first, .int .i64 z.cum, .slice sz_ z.spans.length scz, .slice pz z.pieces.length pcz, .slice tz z.turn.length tcz, .slice lz z.log.length lcz]).setCells (w.heap.size + 2) 0 [.int .i64 z.cf.streams, .int .i64 z.cf.part, .int .i64 z.cf.packet, .int .i64 z.cf.paths, .int .i64 z.cf.turns, .int .i64 z.cf.waiting, .int .i64 z.cf.first, .int .i64 z.cum, .slice sz_ z.spans.length scz, .slice pz z.pieces.length pcz, .slice tz z.turn.length tcz, .slice lz z.log.length lcz] = w12 at *
        refine bodyPost_ret (v := .agg #[.int .i64 z.cf.streams, .int .i64 z.cf.part, .int .i64 z.cf.packet, .int .i64 z.cf.paths, .int .i64 z.cf.turns, .int .i64 z.cf.waiting, .int .i64 z.cf.first, .int .i64 z.cum, .slice sz_ z.spans.length scz, .slice pz z.pieces.length pcz, .slice tz z.turn.length tcz, .slice lz z.log.length lcz]) (by simp [results, Try.results29, go_sem, e0, e1, e2, e3, e4, e5, e6, e7, e8, e9, e10, e11]) rfl ?_
        rw [HE.out]
        exact ⟨_, _, _, _, rfl, FIN.out, BE⟩
end Go.Proofs.Ytnddejdndipddad
