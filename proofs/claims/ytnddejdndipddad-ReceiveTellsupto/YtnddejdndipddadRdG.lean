/- The document's receivers: Forward. -/
import Derived.Test.YtnddejdndipddadRdW
set_option maxRecDepth 20000
namespace Go.Proofs.Ytnddejdndipddad
open Go.RowKit

theorem enters_rnear (args : Array Value) (wx : World) : (callFunc 61 args).run Try.prog wx = .ok (.enter 61 args) wx := enters_body Try.func61 (by kernel_rfl) rfl args wx

set_option maxHeartbeats 4000000 in
theorem rforw2_in (V : Nat → Prop) (K : Int) (x : Rc) (c : Ck) (s p t l d sp q : Value) (w : World) (h : RvI V w x s p t l) (hv : ∀ k, V k → k < w.heap.size) (hl : SnL V w c d sp q) (hinv : InvR x) (hst : StR x) (hok : OkR K (overM x c)) (hK : K + 32769 * (c.skips.length + 1) ≤ 1099511627776) :
    Calls Try.prog 31 #[.agg #[.int .i64 x.cf.streams, .int .i64 x.cf.part, .int .i64 x.cf.packet, .int .i64 x.cf.paths, .int .i64 x.cf.turns, .int .i64 x.cf.waiting, .int .i64 x.cf.first, .int .i64 x.cum, s, p, t, l], .agg #[.int .i64 c.kind, .int .i64 c.tag, .int .i64 c.stream, .int .i64 c.mid, .int .i64 c.part, .bool c.last, .bool c.ordered, d, sp, .int .i64 c.room, q]] w fun e w' => ∃ s' p' t' l', e = .returned (.agg #[.int .i64 (forwM x c).cf.streams, .int .i64 (forwM x c).cf.part, .int .i64 (forwM x c).cf.packet, .int .i64 (forwM x c).cf.paths, .int .i64 (forwM x c).cf.turns, .int .i64 (forwM x c).cf.waiting, .int .i64 (forwM x c).cf.first, .int .i64 (forwM x c).cum, s', p', t', l']) ∧ RvI (fun k => V k ∨ w.heap.size ≤ k) w' (forwM x c) s' p' t' l' ∧ Below w.heap.size w w' := by
  obtain ⟨sa, sc, pa, pc, ta, tc, la, lc, rfl, rfl, rfl, rfl⟩ := h.r.ex
  obtain ⟨da, dc, ssa, ssc, qa, qc, rfl, rfl, rfl⟩ := hl.ex
  have B0 := three_below w (.cells #[.int .i64 x.cf.streams, .int .i64 x.cf.part, .int .i64 x.cf.packet, .int .i64 x.cf.paths, .int .i64 x.cf.turns, .int .i64 x.cf.waiting, .int .i64 x.cf.first, .int .i64 x.cum, .slice sa x.spans.length sc, .slice pa x.pieces.length pc, .slice ta x.turn.length tc, .slice la x.log.length lc] 47) (.cells #[.int .i64 c.kind, .int .i64 c.tag, .int .i64 c.stream, .int .i64 c.mid, .int .i64 c.part, .bool c.last, .bool c.ordered, .slice da c.data.length dc, .slice ssa c.spans.length ssc, .int .i64 c.room, .slice qa c.skips.length qc] 42) (.cells #[.int .i64 0, .int .i64 0, .int .i64 0, .int .i64 0, .int .i64 0, .int .i64 0, .int .i64 0, .int .i64 0, .slice none 0 0, .slice none 0 0, .slice none 0 0, .slice none 0 0] 47)
  have CX : Cells w.heap.size (((w.alloc (.cells #[.int .i64 x.cf.streams, .int .i64 x.cf.part, .int .i64 x.cf.packet, .int .i64 x.cf.paths, .int .i64 x.cf.turns, .int .i64 x.cf.waiting, .int .i64 x.cf.first, .int .i64 x.cum, .slice sa x.spans.length sc, .slice pa x.pieces.length pc, .slice ta x.turn.length tc, .slice la x.log.length lc] 47)).alloc (.cells #[.int .i64 c.kind, .int .i64 c.tag, .int .i64 c.stream, .int .i64 c.mid, .int .i64 c.part, .bool c.last, .bool c.ordered, .slice da c.data.length dc, .slice ssa c.spans.length ssc, .int .i64 c.room, .slice qa c.skips.length qc] 42)).alloc (.cells #[.int .i64 0, .int .i64 0, .int .i64 0, .int .i64 0, .int .i64 0, .int .i64 0, .int .i64 0, .int .i64 0, .slice none 0 0, .slice none 0 0, .slice none 0 0, .slice none 0 0] 47)) [.int .i64 x.cf.streams, .int .i64 x.cf.part, .int .i64 x.cf.packet, .int .i64 x.cf.paths, .int .i64 x.cf.turns, .int .i64 x.cf.waiting, .int .i64 x.cf.first, .int .i64 x.cum, .slice sa x.spans.length sc, .slice pa x.pieces.length pc, .slice ta x.turn.length tc, .slice la x.log.length lc] := ((Cells.new w #[.int .i64 x.cf.streams, .int .i64 x.cf.part, .int .i64 x.cf.packet, .int .i64 x.cf.paths, .int .i64 x.cf.turns, .int .i64 x.cf.waiting, .int .i64 x.cf.first, .int .i64 x.cum, .slice sa x.spans.length sc, .slice pa x.pieces.length pc, .slice ta x.turn.length tc, .slice la x.log.length lc] 47).alloc (by simp) _).alloc (by simp; omega) _
  have CC : Cells (w.heap.size + 1) (((w.alloc (.cells #[.int .i64 x.cf.streams, .int .i64 x.cf.part, .int .i64 x.cf.packet, .int .i64 x.cf.paths, .int .i64 x.cf.turns, .int .i64 x.cf.waiting, .int .i64 x.cf.first, .int .i64 x.cum, .slice sa x.spans.length sc, .slice pa x.pieces.length pc, .slice ta x.turn.length tc, .slice la x.log.length lc] 47)).alloc (.cells #[.int .i64 c.kind, .int .i64 c.tag, .int .i64 c.stream, .int .i64 c.mid, .int .i64 c.part, .bool c.last, .bool c.ordered, .slice da c.data.length dc, .slice ssa c.spans.length ssc, .int .i64 c.room, .slice qa c.skips.length qc] 42)).alloc (.cells #[.int .i64 0, .int .i64 0, .int .i64 0, .int .i64 0, .int .i64 0, .int .i64 0, .int .i64 0, .int .i64 0, .slice none 0 0, .slice none 0 0, .slice none 0 0, .slice none 0 0] 47)) [.int .i64 c.kind, .int .i64 c.tag, .int .i64 c.stream, .int .i64 c.mid, .int .i64 c.part, .bool c.last, .bool c.ordered, .slice da c.data.length dc, .slice ssa c.spans.length ssc, .int .i64 c.room, .slice qa c.skips.length qc] := (Cells.new' (w := w.alloc (.cells #[.int .i64 x.cf.streams, .int .i64 x.cf.part, .int .i64 x.cf.packet, .int .i64 x.cf.paths, .int .i64 x.cf.turns, .int .i64 x.cf.waiting, .int .i64 x.cf.first, .int .i64 x.cum, .slice sa x.spans.length sc, .slice pa x.pieces.length pc, .slice ta x.turn.length tc, .slice la x.log.length lc] 47)) #[.int .i64 c.kind, .int .i64 c.tag, .int .i64 c.stream, .int .i64 c.mid, .int .i64 c.part, .bool c.last, .bool c.ordered, .slice da c.data.length dc, .slice ssa c.spans.length ssc, .int .i64 c.room, .slice qa c.skips.length qc] 42 (by simp)).alloc (by simp) _
  have CT : Cells (w.heap.size + 2) (((w.alloc (.cells #[.int .i64 x.cf.streams, .int .i64 x.cf.part, .int .i64 x.cf.packet, .int .i64 x.cf.paths, .int .i64 x.cf.turns, .int .i64 x.cf.waiting, .int .i64 x.cf.first, .int .i64 x.cum, .slice sa x.spans.length sc, .slice pa x.pieces.length pc, .slice ta x.turn.length tc, .slice la x.log.length lc] 47)).alloc (.cells #[.int .i64 c.kind, .int .i64 c.tag, .int .i64 c.stream, .int .i64 c.mid, .int .i64 c.part, .bool c.last, .bool c.ordered, .slice da c.data.length dc, .slice ssa c.spans.length ssc, .int .i64 c.room, .slice qa c.skips.length qc] 42)).alloc (.cells #[.int .i64 0, .int .i64 0, .int .i64 0, .int .i64 0, .int .i64 0, .int .i64 0, .int .i64 0, .int .i64 0, .slice none 0 0, .slice none 0 0, .slice none 0 0, .slice none 0 0] 47)) [.int .i64 0, .int .i64 0, .int .i64 0, .int .i64 0, .int .i64 0, .int .i64 0, .int .i64 0, .int .i64 0, .slice none 0 0, .slice none 0 0, .slice none 0 0, .slice none 0 0] := Cells.new' #[.int .i64 0, .int .i64 0, .int .i64 0, .int .i64 0, .int .i64 0, .int .i64 0, .int .i64 0, .int .i64 0, .slice none 0 0, .slice none 0 0, .slice none 0 0, .slice none 0 0] 47 (by simp)
  have HZ : w.heap.size + 3 ≤ (((w.alloc (.cells #[.int .i64 x.cf.streams, .int .i64 x.cf.part, .int .i64 x.cf.packet, .int .i64 x.cf.paths, .int .i64 x.cf.turns, .int .i64 x.cf.waiting, .int .i64 x.cf.first, .int .i64 x.cum, .slice sa x.spans.length sc, .slice pa x.pieces.length pc, .slice ta x.turn.length tc, .slice la x.log.length lc] 47)).alloc (.cells #[.int .i64 c.kind, .int .i64 c.tag, .int .i64 c.stream, .int .i64 c.mid, .int .i64 c.part, .bool c.last, .bool c.ordered, .slice da c.data.length dc, .slice ssa c.spans.length ssc, .int .i64 c.room, .slice qa c.skips.length qc] 42)).alloc (.cells #[.int .i64 0, .int .i64 0, .int .i64 0, .int .i64 0, .int .i64 0, .int .i64 0, .int .i64 0, .int .i64 0, .slice none 0 0, .slice none 0 0, .slice none 0 0, .slice none 0 0] 47)).heap.size := by simp
  have HB : RBox V w (((w.alloc (.cells #[.int .i64 x.cf.streams, .int .i64 x.cf.part, .int .i64 x.cf.packet, .int .i64 x.cf.paths, .int .i64 x.cf.turns, .int .i64 x.cf.waiting, .int .i64 x.cf.first, .int .i64 x.cum, .slice sa x.spans.length sc, .slice pa x.pieces.length pc, .slice ta x.turn.length tc, .slice la x.log.length lc] 47)).alloc (.cells #[.int .i64 c.kind, .int .i64 c.tag, .int .i64 c.stream, .int .i64 c.mid, .int .i64 c.part, .bool c.last, .bool c.ordered, .slice da c.data.length dc, .slice ssa c.spans.length ssc, .int .i64 c.room, .slice qa c.skips.length qc] 42)).alloc (.cells #[.int .i64 0, .int .i64 0, .int .i64 0, .int .i64 0, .int .i64 0, .int .i64 0, .int .i64 0, .int .i64 0, .slice none 0 0, .slice none 0 0, .slice none 0 0, .slice none 0 0] 47)) [.int .i64 c.kind, .int .i64 c.tag, .int .i64 c.stream, .int .i64 c.mid, .int .i64 c.part, .bool c.last, .bool c.ordered, .slice da c.data.length dc, .slice ssa c.spans.length ssc, .int .i64 c.room, .slice qa c.skips.length qc] x (.slice sa x.spans.length sc) (.slice pa x.pieces.length pc) (.slice ta x.turn.length tc) (.slice la x.log.length lc) := ⟨CX, CC, CT, (h.keep (toKeep B0 fun k hk => hv k hk)).mono fun _ hk => .inl hk, B0, HZ⟩
  have HLC : Hid (SnL V (((w.alloc (.cells #[.int .i64 x.cf.streams, .int .i64 x.cf.part, .int .i64 x.cf.packet, .int .i64 x.cf.paths, .int .i64 x.cf.turns, .int .i64 x.cf.waiting, .int .i64 x.cf.first, .int .i64 x.cum, .slice sa x.spans.length sc, .slice pa x.pieces.length pc, .slice ta x.turn.length tc, .slice la x.log.length lc] 47)).alloc (.cells #[.int .i64 c.kind, .int .i64 c.tag, .int .i64 c.stream, .int .i64 c.mid, .int .i64 c.part, .bool c.last, .bool c.ordered, .slice da c.data.length dc, .slice ssa c.spans.length ssc, .int .i64 c.room, .slice qa c.skips.length qc] 42)).alloc (.cells #[.int .i64 0, .int .i64 0, .int .i64 0, .int .i64 0, .int .i64 0, .int .i64 0, .int .i64 0, .int .i64 0, .slice none 0 0, .slice none 0 0, .slice none 0 0, .slice none 0 0] 47)) c (.slice da c.data.length dc) (.slice ssa c.spans.length ssc) (.slice qa c.skips.length qc)) := hl.keep (toKeep B0 fun k hk => hv k hk)
  have hc1 := hst.c1
  have hc2 := hst.c2
  have hsp := hst.sz.sp
  have htn := hst.sz.tn
  have HOK := hide hok
  have hnb := near_bd' x.cum c.tag
  have NE := fun wx => rnear_any x.cum c.tag wx (by omega) (by omega)
  have HGO : Hid (forwM x c = if c.kind = 3 ∧ x.cum < nearM x.cum c.tag then c.skips.foldl skipM (overM x c) else x) := rfl
  have HOV : Hid (overM x c = { x with cum := (upM x.spans (nearM x.cum c.tag)).1, spans := (upM x.spans (nearM x.cum c.tag)).2 }) := rfl
  clear h hl hst hok CX CC CT
  go_enter Try.func31, Try.ntmps31
  go_upto_region 1 with fail
  generalize (((w.alloc (.cells #[.int .i64 x.cf.streams, .int .i64 x.cf.part, .int .i64 x.cf.packet, .int .i64 x.cf.paths, .int .i64 x.cf.turns, .int .i64 x.cf.waiting, .int .i64 x.cf.first, .int .i64 x.cum, .slice sa x.spans.length sc, .slice pa x.pieces.length pc, .slice ta x.turn.length tc, .slice la x.log.length lc] 47)).alloc (.cells #[.int .i64 c.kind, .int .i64 c.tag, .int .i64 c.stream, .int .i64 c.mid, .int .i64 c.part, .bool c.last, .bool c.ordered, .slice da c.data.length dc, .slice ssa c.spans.length ssc, .int .i64 c.room, .slice qa c.skips.length qc] 42)).alloc (.cells #[.int .i64 0, .int .i64 0, .int .i64 0, .int .i64 0, .int .i64 0, .int .i64 0, .int .i64 0, .int .i64 0, .slice none 0 0, .slice none 0 0, .slice none 0 0, .slice none 0 0] 47)) = w0 at *
  have x7 := HB.cx.cell 7 _ rfl
  have c1 := HB.cc.cell 1 _ rfl
  have hcl : (x.spans.length : Int) ≤ 1099511627776 := by omega
  generalize nearM x.cum c.tag = n at *
  have HHB := hide HB
  clear HB
  go_upto_region 2 with (go_at_call 61; refine (NE _).mono ?_; rintro e w' ⟨rfl, hw'⟩; subst w')
  clear NE
  have c0 := HHB.out.cc.cell 0 _ rfl
  go_cut [25] from 18 to 24 (fun s25 wx => s25 = .bool (!(c.kind == 3 && decide (x.cum < n))) ∧ wx = w0)
  case first =>
    rcases Classical.em (c.kind = 3) with hk' | hk'
    case inr =>
      have hk : (c.kind == 3) = false := by simpa using hk'
      have hk2 : (c.kind != 3) = true := by simpa using hk'
      clear hk'
      go_wp2_with fail
      go_meet
      exact ⟨by rw [hk]; rfl, rfl⟩
    case inl =>
      have hk : (c.kind == 3) = true := by simpa using hk'
      have hk2 : (c.kind != 3) = false := by simpa using hk'
      clear hk'
      by_cases h3 : n ≤ x.cum
      · go_wp2_with fail
        go_meet
        exact ⟨by rw [decide_eq_false (show ¬ x.cum < n by omega)]; simp, rfl⟩
      · go_wp2_with fail
        go_meet
        exact ⟨by rw [hk, decide_eq_true (show x.cum < n by omega)]; simp, rfl⟩
  case rest =>
  obtain ⟨rfl, hwc⟩ := hcut
  subst wc
  clear x7 c1 c0
  cases hgo : (c.kind == 3 && decide (x.cum < n)) with
  | false =>
    simp only [Bool.not_false]
    have HNO : Hid (forwM x c = x) := by
      show _ = _
      rw [HGO.out, if_neg]
      rintro ⟨h1, h2⟩
      rw [h1, decide_eq_true h2] at hgo
      cases hgo
    have RNGR := HHB.out.cx.range
    have THR : w0.there (w.heap.size + 2) 0 12 := HHB.out.ct.there
    have CE := HHB.out.ct.setAll [.int .i64 x.cf.streams, .int .i64 x.cf.part, .int .i64 x.cf.packet, .int .i64 x.cf.paths, .int .i64 x.cf.turns, .int .i64 x.cf.waiting, .int .i64 x.cf.first, .int .i64 x.cum, .slice sa x.spans.length sc, .slice pa x.pieces.length pc, .slice ta x.turn.length tc, .slice la x.log.length lc] rfl
    have e0 := CE.cell 0 _ rfl
    have e1 := CE.cell 1 _ rfl
    have e2 := CE.cell 2 _ rfl
    have e3 := CE.cell 3 _ rfl
    have e4 := CE.cell 4 _ rfl
    have e5 := CE.cell 5 _ rfl
    have e6 := CE.cell 6 _ rfl
    have e7 := CE.cell 7 _ rfl
    have e8 := CE.cell 8 _ rfl
    have e9 := CE.cell 9 _ rfl
    have e10 := CE.cell 10 _ rfl
    have e11 := CE.cell 11 _ rfl
    have KE : Keep (fun k => k ≠ w.heap.size + 2) w0 (w0.setCells (w.heap.size + 2) 0 [.int .i64 x.cf.streams, .int .i64 x.cf.part, .int .i64 x.cf.packet, .int .i64 x.cf.paths, .int .i64 x.cf.turns, .int .i64 x.cf.waiting, .int .i64 x.cf.first, .int .i64 x.cum, .slice sa x.spans.length sc, .slice pa x.pieces.length pc, .slice ta x.turn.length tc, .slice la x.log.length lc]) := Keep.setCells (fun h => h rfl) _ _ (Keep.refl _ _)
    have BE : Below w.heap.size w (w0.setCells (w.heap.size + 2) 0 [.int .i64 x.cf.streams, .int .i64 x.cf.part, .int .i64 x.cf.packet, .int .i64 x.cf.paths, .int .i64 x.cf.turns, .int .i64 x.cf.waiting, .int .i64 x.cf.first, .int .i64 x.cum, .slice sa x.spans.length sc, .slice pa x.pieces.length pc, .slice ta x.turn.length tc, .slice la x.log.length lc]) := Below.setCells (by omega) _ _ HHB.out.be
    have FIN := hide ((HHB.out.rv.keep (KE.mono fun k hk => hk.elim (fun h => by have := hv k h; omega) fun h => by omega)).mono (V' := fun k => V k ∨ w.heap.size ≤ k) fun k hk => hk.elim .inl fun h => .inr (by omega))
    clear CE KE
    go_wp2_with (first
      | refine wpList_ldR rfl (.tmp 2) rfl w.heap.size 0 rfl x _ _ _ _ (by with_reducible exact RNGR) ?_
      | refine wpList_srN 47 12 Try.sizeRv rfl (.tmp 4) (.tmp 26) rfl (w.heap.size + 2) 0 rfl [.int .i64 x.cf.streams, .int .i64 x.cf.part, .int .i64 x.cf.packet, .int .i64 x.cf.paths, .int .i64 x.cf.turns, .int .i64 x.cf.waiting, .int .i64 x.cf.first, .int .i64 x.cum, .slice sa x.spans.length sc, .slice pa x.pieces.length pc, .slice ta x.turn.length tc, .slice la x.log.length lc] rfl rfl rfl (by with_reducible exact THR) ?_)
    generalize (w0.setCells (w.heap.size + 2) 0 [.int .i64 x.cf.streams, .int .i64 x.cf.part, .int .i64 x.cf.packet, .int .i64 x.cf.paths, .int .i64 x.cf.turns, .int .i64 x.cf.waiting, .int .i64 x.cf.first, .int .i64 x.cum, .slice sa x.spans.length sc, .slice pa x.pieces.length pc, .slice ta x.turn.length tc, .slice la x.log.length lc]) = w9 at *
    refine bodyPost_ret (v := .agg #[.int .i64 x.cf.streams, .int .i64 x.cf.part, .int .i64 x.cf.packet, .int .i64 x.cf.paths, .int .i64 x.cf.turns, .int .i64 x.cf.waiting, .int .i64 x.cf.first, .int .i64 x.cum, .slice sa x.spans.length sc, .slice pa x.pieces.length pc, .slice ta x.turn.length tc, .slice la x.log.length lc]) (by simp [results, Try.results31, go_sem, e0, e1, e2, e3, e4, e5, e6, e7, e8, e9, e10, e11]) rfl ?_
    rw [HNO.out]
    exact ⟨_, _, _, _, rfl, FIN.out, BE⟩
  | true =>
    simp only [Bool.not_true]
    have hq : c.kind = 3 ∧ x.cum < n := by simpa using hgo
    have HFW : Hid (forwM x c = c.skips.foldl skipM (overM x c)) := by show _ = _; rw [HGO.out, if_pos hq]
    have hn3 := hq.2
    clear hq hgo HGO
    have x8 := HHB.out.cx.cell 8 _ rfl
    have x7 := HHB.out.cx.cell 7 _ rfl
    have z7 := HHB.out.cx.fz 7
    have z8 := HHB.out.cx.fz 8
    obtain ⟨cu, spu, hup⟩ : ∃ cu spu, upM x.spans n = (cu, spu) := ⟨_, _, rfl⟩
    have UP : Calls Try.prog 63 #[.slice sa x.spans.length sc, .int .i64 n] w0 fun e w' => ∃ v', e = .returned (.tuple #[.int .i64 cu, v']) ∧ Sl w'.heap.size w' v' spu ∧ Below w0.heap.size w0 w' ∧ InS (fun k => w0.heap.size ≤ k) v' := by
      have := rup_in (.slice sa x.spans.length sc) x.spans n w0 HHB.out.rv.r.s (by omega) (by omega) (fun s h => Int.le_trans (hinv.up s h) (by omega)) (by omega)
      rw [rupM_eq _ (x.cum + 1) _ hinv.ris, hup] at this
      exact this
    have HOV2 : Hid (overM x c = { x with cum := cu, spans := spu }) := by
      have := HOV.out
      rw [hup] at this
      exact this
    clear HOV hup
    have hw0 : w.heap.size < w0.heap.size := by omega
    go_upto_region 5 with (go_at_call 63; refine UP.mono ?_; rintro e w1 ⟨v1, rfl, hs1, b1, in1⟩; obtain ⟨sa1, sc1, rfl⟩ := hs1.ex; have HS1 := hide hs1; have HI1 := hide in1; clear hs1 in1; have y7 := (b1.cell (p := ⟨w.heap.size, 7, none⟩) hw0).trans x7; have y8 := (b1.cell (p := ⟨w.heap.size, 8, none⟩) hw0).trans x8; have u7 := (b1.frozen (p := ⟨w.heap.size, 7, none⟩) hw0).trans z7; have u8 := (b1.frozen (p := ⟨w.heap.size, 8, none⟩) hw0).trans z8)
    have HB1 : ∃ s1 p1 t1 l1, RBox V w ((w1.setCell ⟨w.heap.size, 7, none⟩ (.int .i64 cu)).setCell ⟨w.heap.size, 8, none⟩ (.slice sa1 spu.length sc1)) [.int .i64 c.kind, .int .i64 c.tag, .int .i64 c.stream, .int .i64 c.mid, .int .i64 c.part, .bool c.last, .bool c.ordered, .slice da c.data.length dc, .slice ssa c.spans.length ssc, .int .i64 c.room, .slice qa c.skips.length qc] (overM x c) s1 p1 t1 l1 := by
      rw [HOV2.out]
      have sz := HZ
      have sz1 := b1.size
      have h1 := HHB.out.below b1
      have K9 : Keep (fun k => k ≠ w.heap.size) w1 ((w1.setCell ⟨w.heap.size, 7, none⟩ (.int .i64 cu)).setCell ⟨w.heap.size, 8, none⟩ (.slice sa1 spu.length sc1)) := Keep.setCell (Keep.setCell (Keep.refl (fun k => k ≠ w.heap.size) w1) (p := ⟨w.heap.size, 7, none⟩) (fun h => h rfl) _) (p := ⟨w.heap.size, 8, none⟩) (fun h => h rfl) _
      have r0 : RvI (fun k => V k ∨ w.heap.size + 3 ≤ k) ((w1.setCell ⟨w.heap.size, 7, none⟩ (.int .i64 cu)).setCell ⟨w.heap.size, 8, none⟩ (.slice sa1 spu.length sc1)) x _ _ _ _ := h1.rv.keep (K9.mono fun k hk => hk.elim (fun h => by have := hv k h; omega) fun h => by omega)
      have r1 := r0.withS cu (HS1.out.keepS HI1.out (K9.mono fun k hk => by omega)) (HI1.out.mono fun k hk => .inr (by omega))
      exact ⟨_, _, _, _, (h1.cx.set 7 (.int .i64 cu) (by simp)).set 8 (.slice sa1 spu.length sc1) (by simp), h1.cc.keep K9 (by omega), h1.ct.keep K9 (by omega), r1, (h1.be.setCell (Nat.le_refl _) _).setCell (Nat.le_refl _) _, by simp; omega⟩
    have KL : Hid (Kl w0.heap.size ((w1.setCell ⟨w.heap.size, 7, none⟩ (.int .i64 cu)).setCell ⟨w.heap.size, 8, none⟩ (.slice sa1 spu.length sc1)) (.slice qa c.skips.length qc) c.skips) := by
      have K9 : Keep (fun k => k < w0.heap.size ∧ k ≠ w.heap.size) w0 ((w1.setCell ⟨w.heap.size, 7, none⟩ (.int .i64 cu)).setCell ⟨w.heap.size, 8, none⟩ (.slice sa1 spu.length sc1)) := ((toKeep b1 fun k hk => hk.1).setCell (p := ⟨w.heap.size, 7, none⟩) (fun h => h.2 rfl) _).setCell (p := ⟨w.heap.size, 8, none⟩) (fun h => h.2 rfl) _
      have := (Rw.keep (B' := w0.heap.size) HLC.out.q (fun b off sp n c e hn => ?_) K9 (Nat.le_refl _))
      · exact this
      · have hV := HLC.out.iq b off sp n c e hn
        have := hv b hV
        exact ⟨by omega, by omega⟩
    have szw2 : w0.heap.size ≤ ((w1.setCell ⟨w.heap.size, 7, none⟩ (.int .i64 cu)).setCell ⟨w.heap.size, 8, none⟩ (.slice sa1 spu.length sc1)).heap.size := by have := b1.size; simp; omega
    clear x7 x8 z7 z8 y7 y8 u7 u8 HS1 HI1 b1 UP
    generalize ((w1.setCell ⟨w.heap.size, 7, none⟩ (.int .i64 cu)).setCell ⟨w.heap.size, 8, none⟩ (.slice sa1 spu.length sc1)) = w2 at *
    obtain ⟨s1, p1, t1, l1, HB2⟩ := HB1
    have HTT : Hid ((overM x c).turn = x.turn) := by show _ = _; rw [HOV2.out]
    have c10 := HB2.cc.cell 10 _ rfl
    clear HOV2
    have hlen : c.skips.length ≤ 9223372036854775807 := by have := Rw.len KL.out; omega
    go_upto_region 6 with fail
    go_loopw [39] (fun i9 wr => ∃ (k : Nat) (s p t l : Value), k ≤ c.skips.length ∧ i9 = .int .i64 k ∧ Hid (RBox V w wr [.int .i64 c.kind, .int .i64 c.tag, .int .i64 c.stream, .int .i64 c.mid, .int .i64 c.part, .bool c.last, .bool c.ordered, .slice da c.data.length dc, .slice ssa c.spans.length ssc, .int .i64 c.room, .slice qa c.skips.length qc] ((c.skips.take k).foldl skipM (overM x c)) s p t l) ∧ Hid (Kl w0.heap.size wr (.slice qa c.skips.length qc) c.skips) ∧ w0.heap.size ≤ wr.heap.size) (fun i9 _ => c.skips.length - (intOf i9).toNat)
    case atStart => exact ⟨0, _, _, _, _, Nat.zero_le _, rfl, by rw [List.take_zero]; exact HB2, KL.out, szw2⟩
    case round =>
      obtain ⟨k, s, p, t, l, hk, rfl, HB, HK, szw⟩ := hrel
      by_cases hlt : k < c.skips.length
      · obtain ⟨b, off, hb, hix, hk0, hk1, hk2⟩ := Kl.at HK.out k hlt
        have HST : Hid ((c.skips.take (k + 1)).foldl skipM (overM x c) = skipM ((c.skips.take k).foldl skipM (overM x c)) c.skips[k]) := by
          show _ = _
          rw [List.take_succ_eq_append_getElem hlt, List.foldl_append]
          rfl
        have HOY : Hid (OkR (K + 32769 * k) ((c.skips.take k).foldl skipM (overM x c))) := skips_ok c.skips (overM x c) HOK.out k
        have HTY : Hid (((c.skips.take k).foldl skipM (overM x c)).turn.length = x.turn.length) := by
          show _ = _
          rw [(skips_keep (c.skips.take k) (overM x c)).1, HTT.out]
        generalize hm2 : (c.skips.take (k + 1)).foldl skipM (overM x c) = y2 at *
        have HM2 := hide hm2
        clear hm2
        generalize (c.skips.take k).foldl skipM (overM x c) = y at *
        generalize c.skips[k] = g at *
        obtain ⟨gs, gm, go⟩ := g
        simp only at hk0 hk1 hk2
        obtain ⟨sy, scy, py, pcy, ty, tcy, ly, lcy, rfl, rfl, rfl, rfl⟩ := HB.out.rv.r.ex
        have szr := HB.out.sz
        have HLT := hide hlt
        have CK3 := Cells.new wr #[.int .i64 gs, .int .i64 gm, .bool go] 98
        have BA := box_below wr (.cells #[.int .i64 gs, .int .i64 gm, .bool go] 98)
        have HB1 := hide (HB.out.below BA)
        have HK1 : Hid (Kl w0.heap.size (wr.alloc (.cells #[.int .i64 gs, .int .i64 gm, .bool go] 98)) (.slice qa c.skips.length qc) c.skips) := HK.out.below BA szw
        have b10 := HB1.out.cx.cell 10 _ rfl
        have g0 := CK3.cell 0 _ rfl
        have g1 := CK3.cell 1 _ rfl
        have g2 := CK3.cell 2 _ rfl
        have hty : y.turn.length ≤ 2147483647 := by rw [HTY.out]; exact htn
        have szK : wr.heap.size < (wr.alloc (.cells #[.int .i64 gs, .int .i64 gm, .bool go] 98)).heap.size := by simp
        have HCK := hide CK3
        have HSK : Hid (skipM y ⟨gs, gm, go⟩ = if hasM y gs then (if go = true then turnsM (passM y gs (nearM (turnAt y gs) gm)) gs else dropM y ⟨gs, gm, false⟩) else y) := rfl
        clear CK3 BA HB HK
        go_upto_region 8 with fail
        clear hk0 hk1 hk2 hix hb
        generalize wr.alloc (.cells #[.int .i64 gs, .int .i64 gm, .bool go] 98) = w3 at *
        generalize wr.heap.size = K0 at *
        by_cases h1 : gs < 0
        · have HNH : Hid (skipM y ⟨gs, gm, go⟩ = y) := by
            show _ = _
            rw [HSK.out, if_neg]
            rintro ⟨h, _⟩
            omega
          have HB2 := hide HB1
          have HK2 := hide HK1
          clear HB1 HK1
          go_wp2_with fail
          go_roundw
          case rel => exact ⟨k + 1, _, _, _, _, HLT.out, by go_num, by rw [HM2.out, HST.out, HNH.out]; exact HB2.out, HK2.out, by omega⟩
          case measure => have := HLT.out; simp [intOf]; omega
        · by_cases h2 : (y.turn.length : Int) ≤ gs
          · have HNH : Hid (skipM y ⟨gs, gm, go⟩ = y) := by
              show _ = _
              rw [HSK.out, if_neg]
              rintro ⟨_, h⟩
              omega
            have HB2 := hide HB1
            have HK2 := hide HK1
            clear HB1 HK1
            go_wp2_with fail
            go_roundw
            case rel => exact ⟨k + 1, _, _, _, _, HLT.out, by go_num, by rw [HM2.out, HST.out, HNH.out]; exact HB2.out, HK2.out, by omega⟩
            case measure => have := HLT.out; simp [intOf]; omega
          · have hhas : hasM y gs := ⟨by omega, by omega⟩
            cases go with
            | false =>
              have HNH : Hid (skipM y ⟨gs, gm, false⟩ = { y with pieces := restM ⟨gs, gm, false⟩ y.pieces }) := by
                show _ = _
                rw [HSK.out, if_pos hhas]
                rfl
              have b9 := HB1.out.cx.cell 9 _ rfl
              have f9 := HB1.out.cx.fz 9
              have AP := apart_any' (fun k => (V k ∨ w.heap.size + 3 ≤ k) ∧ k < w3.heap.size) (.slice py y.pieces.length pcy) y.pieces ⟨0, 0, gs, gm, 0, false, false, [], [], 0, []⟩ none none none 0 0 0 0 0 0 w3 (HB1.out.rv.lt.pcs fun k hk => hk.2) (fun k hk => hk.2) HOY.out.fit.n
              have hw3 : w.heap.size < w3.heap.size := by omega
              clear HSK
              go_upto_region 11 with (go_at_call 69; refine AP.mono ?_; rintro e w4 ⟨a1, ca1, a2, ca2, rfl, r1, r2, b4⟩; have y9 := (b4.cell (p := ⟨w.heap.size, 9, none⟩) hw3).trans b9; have u9 := (b4.frozen (p := ⟨w.heap.size, 9, none⟩) hw3).trans f9)
              have HB5 := hide ((HB1.out.below b4).pcs hv r2 (fun k hk => hk.1) (by omega))
              have KK : Keep (fun k => k < w0.heap.size ∧ k ≠ w.heap.size) w3 (w4.setCell ⟨w.heap.size, 9, none⟩ (.slice a2 (restM ⟨gs, gm, false⟩ y.pieces).length ca2)) := (toKeep b4 fun k hk => by omega).setCell (p := ⟨w.heap.size, 9, none⟩) (fun h => h.2 rfl) _
              have HK5 : Hid (Kl w0.heap.size (w4.setCell ⟨w.heap.size, 9, none⟩ (.slice a2 (restM ⟨gs, gm, false⟩ y.pieces).length ca2)) (.slice qa c.skips.length qc) c.skips) := by
                have := Rw.keep (B' := w0.heap.size) HK1.out (fun b off sp n c e hn => ?_) KK (Nat.le_refl _)
                · exact this
                · have hV := HLC.out.iq b off sp n c e hn
                  have := hv b hV
                  exact ⟨by omega, by omega⟩
              have s5 : K0 < (w4.setCell ⟨w.heap.size, 9, none⟩ (.slice a2 (restM ⟨gs, gm, false⟩ y.pieces).length ca2)).heap.size := by have := b4.size; simp; omega
              have HB6 := hide HB5
              have HK6 := hide HK5
              clear KK b9 f9 AP r1 r2 b4 HB1 HK1 HB5 HK5
              go_wp2_with fail
              go_roundw
              case rel => exact ⟨k + 1, _, _, _, _, HLT.out, by go_num, by rw [HM2.out, HST.out, HNH.out]; exact HB6.out.out, HK6.out, by omega⟩
              case measure => have := HLT.out; simp [intOf]; omega
            | true =>
              obtain ⟨i, rfl⟩ : ∃ i : Nat, gs = i := ⟨gs.toNat, by omega⟩
              have hil : i < y.turn.length := by omega
              have hat := HOY.out.at hhas
              have hkk : (k : Int) + 1 ≤ c.skips.length := by have := HLT.out; omega
              obtain ⟨tb, toff, htb, hix2, ct⟩ := HB1.out.rv.r.turnAt hil
              have hnb2 := near_bd' (turnAt y i) gm
              have NE2 := fun wx => rnear_any (turnAt y i) gm wx (by omega) (by omega)
              have HPS := hide (HOY.out.pass hhas hnb2.2)
              have HNH : Hid (skipM y ⟨i, gm, true⟩ = turnsM (passM y i (nearM (turnAt y i) gm)) i) := by
                show _ = _
                rw [HSK.out, if_pos hhas]
                rfl
              have HPA : Hid (passM y i (nearM (turnAt y i) gm) = if nearM (turnAt y i) gm < turnAt y i then y else setTurn (goneN i (nearM (turnAt y i) gm - turnAt y i + 1).toNat y (turnAt y i)) i (nearM (turnAt y i) gm + 1)) := rfl
              have HSS : Hid (setTurn y i (turnAt y i) = y) := set_self y i hhas
              have HFG : Hid (∀ j : Nat, FitR (goneN i j y (turnAt y i))) := fun j => (HOY.out.goneN i j (turnAt y i)).fit
              have HTG : Hid (∀ j : Nat, (goneN i j y (turnAt y i)).turn = y.turn) := fun j => (goneN_turn i j y (turnAt y i)).1
              generalize nearM (turnAt y i) gm = last at *
              generalize turnAt y (i : Int) = a at *
              clear HSK
              have hK0 : K0 < w3.heap.size := szK
              go_upto_region 12 with fail
              refine wp_region_late (fun w' => w'.cell? ⟨w.heap.size, 10, none⟩ = some (.slice ty y.turn.length tcy) ∧ w'.cell? ⟨K0, 0, none⟩ = some (.int .i64 (i : Int)) ∧ w'.cell? ⟨tb, toff, none⟩ = some (.int .i64 a) ∧ w'.cell? ⟨K0, 1, none⟩ = some (.int .i64 gm)) [] (by kernel_rfl) ?_
              have hS0 := (⟨b10, g0, ct, g1⟩ : (fun w' : World => w'.cell? ⟨w.heap.size, 10, none⟩ = some (.slice ty y.turn.length tcy) ∧ w'.cell? ⟨K0, 0, none⟩ = some (.int .i64 (i : Int)) ∧ w'.cell? ⟨tb, toff, none⟩ = some (.int .i64 a) ∧ w'.cell? ⟨K0, 1, none⟩ = some (.int .i64 gm)) w3.drew)
              refine wpAnyL_take (i := 0) (oi := ({ dst := some 70, op := Op.fieldAddr 47 (Operand.tmp 2) 4, type := 0, pos := "ref.go:364", after := #[], guard := none } : Oper)) (v := ?vv1x1) [1, 4, 5, 8, 9] rfl (by kernel_rfl) (by kernel_rfl) (by kernel_rfl) (by kernel_rfl) (by kernel_rfl) (fun _ _ _ h => h) (Or.inl ⟨by rfl, ?hv1x1⟩) hS0 ?_
              case hv1x1 => (intro w hSw; have q1 := hSw.1; have q2 := hSw.2.1; have q3 := hSw.2.2.1; have q4 := hSw.2.2.2; go_simp; try with_reducible rfl)
              try simp only [Act.put, List.setIfInBounds_toArray, List.set_cons_zero, List.set_cons_succ]
              refine wpAnyL_take (i := 1) (oi := ({ dst := some 71, op := Op.load 31 (Operand.tmp 70), type := 31, pos := "ref.go:364", after := #[{ on := 0, ground := Ground.data }], guard := none } : Oper)) (v := ?vv1x2) [4, 5, 8, 9] rfl (by kernel_rfl) (by kernel_rfl) (by kernel_rfl) (by kernel_rfl) (by kernel_rfl) (fun _ _ _ h => h) (Or.inl ⟨by rfl, ?hv1x2⟩) hS0 ?_
              case hv1x2 => (intro w hSw; have q1 := hSw.1; have q2 := hSw.2.1; have q3 := hSw.2.2.1; have q4 := hSw.2.2.2; go_simp; try with_reducible rfl)
              try simp only [Act.put, List.setIfInBounds_toArray, List.set_cons_zero, List.set_cons_succ]
              refine wpAnyL_take (i := 2) (oi := ({ dst := some 72, op := Op.fieldAddr 98 (Operand.tmp 7) 0, type := 0, pos := "ref.go:364", after := #[], guard := none } : Oper)) (v := ?vv1x3) [3, 4, 5, 8, 9] rfl (by kernel_rfl) (by kernel_rfl) (by kernel_rfl) (by kernel_rfl) (by kernel_rfl) (fun _ _ _ h => h) (Or.inl ⟨by rfl, ?hv1x3⟩) hS0 ?_
              case hv1x3 => (intro w hSw; have q1 := hSw.1; have q2 := hSw.2.1; have q3 := hSw.2.2.1; have q4 := hSw.2.2.2; go_simp; try with_reducible rfl)
              try simp only [Act.put, List.setIfInBounds_toArray, List.set_cons_zero, List.set_cons_succ]
              refine wpAnyL_take (i := 3) (oi := ({ dst := some 73, op := Op.load 3 (Operand.tmp 72), type := 3, pos := "ref.go:364", after := #[{ on := 2, ground := Ground.data }], guard := none } : Oper)) (v := ?vv1x4) [4, 5, 8, 9] rfl (by kernel_rfl) (by kernel_rfl) (by kernel_rfl) (by kernel_rfl) (by kernel_rfl) (fun _ _ _ h => h) (Or.inl ⟨by rfl, ?hv1x4⟩) hS0 ?_
              case hv1x4 => (intro w hSw; have q1 := hSw.1; have q2 := hSw.2.1; have q3 := hSw.2.2.1; have q4 := hSw.2.2.2; go_simp; try with_reducible rfl)
              try simp only [Act.put, List.setIfInBounds_toArray, List.set_cons_zero, List.set_cons_succ]
              refine wpAnyL_take (i := 4) (oi := ({ dst := some 74, op := Op.indexAddr 31 (Operand.tmp 71) (Operand.tmp 73), type := 0, pos := "ref.go:364", after := #[{ on := 1, ground := Ground.data }, { on := 3, ground := Ground.data }], guard := none } : Oper)) (v := ?vv1x5) [5, 8, 9] rfl (by kernel_rfl) (by kernel_rfl) (by kernel_rfl) (by kernel_rfl) (by kernel_rfl) (fun _ _ _ h => h) (Or.inl ⟨by rfl, ?hv1x5⟩) hS0 ?_
              case hv1x5 => (intro w hSw; have q1 := hSw.1; have q2 := hSw.2.1; have q3 := hSw.2.2.1; have q4 := hSw.2.2.2; go_simp; try with_reducible rfl)
              try simp only [Act.put, List.setIfInBounds_toArray, List.set_cons_zero, List.set_cons_succ]
              refine wpAnyL_take (i := 5) (oi := ({ dst := some 75, op := Op.load 3 (Operand.tmp 74), type := 3, pos := "ref.go:364", after := #[{ on := 4, ground := Ground.data }], guard := none } : Oper)) (v := ?vv1x6) [8, 9] rfl (by kernel_rfl) (by kernel_rfl) (by kernel_rfl) (by kernel_rfl) (by kernel_rfl) (fun _ _ _ h => h) (Or.inl ⟨by rfl, ?hv1x6⟩) hS0 ?_
              case hv1x6 => (intro w hSw; have q1 := hSw.1; have q2 := hSw.2.1; have q3 := hSw.2.2.1; have q4 := hSw.2.2.2; go_simp; try with_reducible rfl)
              try simp only [Act.put, List.setIfInBounds_toArray, List.set_cons_zero, List.set_cons_succ]
              refine wpAnyL_take (i := 6) (oi := ({ dst := some 76, op := Op.fieldAddr 98 (Operand.tmp 7) 1, type := 0, pos := "ref.go:364", after := #[], guard := none } : Oper)) (v := ?vv1x7) [7, 8, 9] rfl (by kernel_rfl) (by kernel_rfl) (by kernel_rfl) (by kernel_rfl) (by kernel_rfl) (fun _ _ _ h => h) (Or.inl ⟨by rfl, ?hv1x7⟩) hS0 ?_
              case hv1x7 => (intro w hSw; have q1 := hSw.1; have q2 := hSw.2.1; have q3 := hSw.2.2.1; have q4 := hSw.2.2.2; go_simp; try with_reducible rfl)
              try simp only [Act.put, List.setIfInBounds_toArray, List.set_cons_zero, List.set_cons_succ]
              refine wpAnyL_take (i := 7) (oi := ({ dst := some 77, op := Op.load 3 (Operand.tmp 76), type := 3, pos := "ref.go:364", after := #[{ on := 6, ground := Ground.data }], guard := none } : Oper)) (v := ?vv1x8) [8, 9] rfl (by kernel_rfl) (by kernel_rfl) (by kernel_rfl) (by kernel_rfl) (by kernel_rfl) (fun _ _ _ h => h) (Or.inl ⟨by rfl, ?hv1x8⟩) hS0 ?_
              case hv1x8 => (intro w hSw; have q1 := hSw.1; have q2 := hSw.2.1; have q3 := hSw.2.2.1; have q4 := hSw.2.2.2; go_simp; try with_reducible rfl)
              try simp only [Act.put, List.setIfInBounds_toArray, List.set_cons_zero, List.set_cons_succ]
              refine wpAnyL_takeQ (i := 8) (oi := ({ dst := some 78, op := Op.call { callee := Callee.value (Operand.func 61), args := #[Operand.tmp 75, Operand.tmp 77], argTypes := #[3, 3] }, type := 3, pos := "ref.go:364", after := #[{ on := 5, ground := Ground.data }, { on := 7, ground := Ground.data }], guard := none } : Oper)) (v := .int .i64 last) [9] rfl (by kernel_rfl) (by kernel_rfl) (by kernel_rfl) (by kernel_rfl) (by kernel_rfl) (fun _ _ _ h => h) (YieldsQ.call (by rfl) 61 [.tmp 75, .tmp 77] #[3, 3] rfl [.int .i64 a, .int .i64 gm] rfl rfl enters_rnear (fun wx hSw => NE2 wx)) hS0 ?_
              try simp only [Act.put, List.setIfInBounds_toArray, List.set_cons_zero, List.set_cons_succ]
              refine wpAnyL_take (i := 9) (oi := ({ dst := some 10, op := Op.assign (Operand.tmp 78), type := 3, pos := "ref.go:364", after := #[{ on := 8, ground := Ground.data }, { on := 8, ground := Ground.chain }, { on := 0, ground := Ground.phase }, { on := 1, ground := Ground.phase }, { on := 2, ground := Ground.phase }, { on := 3, ground := Ground.phase }, { on := 4, ground := Ground.phase }, { on := 5, ground := Ground.phase }, { on := 6, ground := Ground.phase }, { on := 7, ground := Ground.phase }, { on := 8, ground := Ground.phase }], guard := none } : Oper)) (v := ?vv1x9) [] rfl (by kernel_rfl) (by kernel_rfl) (by kernel_rfl) (by kernel_rfl) (by kernel_rfl) (fun _ _ _ h => h) (Or.inl ⟨by rfl, ?hv1x9⟩) hS0 ?_
              case hv1x9 => (intro w hSw; go_simp; try with_reducible rfl)
              try simp only [Act.put, List.setIfInBounds_toArray, List.set_cons_zero, List.set_cons_succ]
              refine wpAnyL_done (by kernel_rfl) ?_ _
              go_upto_region 13 with fail
              have BD : Below w3.heap.size w3 w3.drew := below_drew' (Below.refl _ _)
              have HB4 := hide (HB1.out.below BD)
              have HC4 := hide (HCK.out.below BD hK0)
              have HK4 : Hid (Kl w0.heap.size w3.drew (.slice qa c.skips.length qc) c.skips) := HK1.out.below BD (by omega)
              have y10 := HB4.out.cx.cell 10 _ rfl
              have d0 := HC4.out.cell 0 _ rfl
              have ct4 : w3.drew.cell? ⟨tb, toff, none⟩ = some (.int .i64 a) := ct
              have sz4 : K0 < w3.drew.heap.size := hK0
              clear hS0 b10 g0 g1 g2 ct HB1 HCK HK1 NE2 BD hK0 szK
              generalize w3.drew = w4 at *
              go_upto_region 14 with fail
              clear y10 d0 ct4 hix2 htb
              have hws4 : w0.heap.size ≤ w4.heap.size := by omega
              go_loopw [11] (fun kk wr2 => ∃ (j : Nat) (s p t l : Value), kk = .int .i64 (a + j) ∧ (j : Int) ≤ max (last - a + 1) 0 ∧ Hid (RBox V w wr2 [.int .i64 c.kind, .int .i64 c.tag, .int .i64 c.stream, .int .i64 c.mid, .int .i64 c.part, .bool c.last, .bool c.ordered, .slice da c.data.length dc, .slice ssa c.spans.length ssc, .int .i64 c.room, .slice qa c.skips.length qc] (setTurn (goneN i j y a) i (a + j)) s p t l) ∧ Hid (Kl w0.heap.size wr2 (.slice qa c.skips.length qc) c.skips) ∧ Hid (Cells K0 wr2 [.int .i64 (i : Int), .int .i64 gm, .bool true]) ∧ K0 < wr2.heap.size ∧ w0.heap.size ≤ wr2.heap.size) (fun kk _ => (last + 1 - intOf kk).toNat)
              case atStart => exact ⟨0, _, _, _, _, by go_num, by omega, by rw [goneN, show a + ((0 : Nat) : Int) = a by omega, HSS.out]; exact HB4.out, HK4.out, HC4.out, sz4, hws4⟩
              case round =>
                obtain ⟨j, s5, p5, t5, l5, rfl, hj, HB5, HK5, HC5, hK5, hws5⟩ := hrel
                have HGS : Hid (setTurn (goneM (setTurn (goneN i j y a) i (a + j)) (numM i (a + j))) i (a + j + 1) = setTurn (goneN i (j + 1) y a) i (a + ((j + 1 : Nat) : Int))) := by
                  show _ = _
                  rw [gone_set, set_set, goneN_snoc, show a + (j : Int) + 1 = a + ((j + 1 : Nat) : Int) by omega]
                have HFZ : Hid (FitR (setTurn (goneN i j y a) i (a + j))) := by
                  have := HFG.out j
                  exact ⟨this.n, this.d, this.l, this.a⟩
                have HTZ : Hid ((setTurn (goneN i j y a) i (a + j)).turn.length = x.turn.length) := by
                  show _ = _
                  rw [← HTY.out]
                  show (List.set _ _ _).length = _
                  rw [List.length_set, HTG.out]
                by_cases hle : a + j ≤ last
                · generalize hz : setTurn (goneN i j y a) i (a + j) = z at *
                  clear hz
                  obtain ⟨sz_, scz, pz, pcz, tz, tcz, lz, lcz, rfl, rfl, rfl, rfl⟩ := HB5.out.rv.r.ex
                  have sz5 := HB5.out.sz
                  have DEL : Calls Try.prog 66 #[.agg #[.int .i64 z.cf.streams, .int .i64 z.cf.part, .int .i64 z.cf.packet, .int .i64 z.cf.paths, .int .i64 z.cf.turns, .int .i64 z.cf.waiting, .int .i64 z.cf.first, .int .i64 z.cum, .slice sz_ z.spans.length scz, .slice pz z.pieces.length pcz, .slice tz z.turn.length tcz, .slice lz z.log.length lcz], .agg #[.int .i64 0, .int .i64 0, .int .i64 (i : Int), .int .i64 ((a + j) % 65536), .int .i64 0, .bool false, .bool true, .slice none 0 0, .slice none 0 0, .int .i64 0, .slice none 0 0], .bool true] wr.drew fun e w' => ∃ v, e = .returned v ∧ ∃ s' p' t' l', v = .tuple #[.agg #[.int .i64 (goneM z (numM i (a + j))).cf.streams, .int .i64 (goneM z (numM i (a + j))).cf.part, .int .i64 (goneM z (numM i (a + j))).cf.packet, .int .i64 (goneM z (numM i (a + j))).cf.paths, .int .i64 (goneM z (numM i (a + j))).cf.turns, .int .i64 (goneM z (numM i (a + j))).cf.waiting, .int .i64 (goneM z (numM i (a + j))).cf.first, .int .i64 (goneM z (numM i (a + j))).cum, s', p', t', l'], .bool (wholeM z (numM i (a + j)))] ∧ RvI (fun k => ((V k ∨ w.heap.size + 3 ≤ k) ∧ k < wr.heap.size) ∨ wr.drew.heap.size ≤ k) w' (goneM z (numM i (a + j))) s' p' t' l' ∧ Below wr.drew.heap.size wr.drew w' := by
                    have := rdeliver_in (fun k => (V k ∨ w.heap.size + 3 ≤ k) ∧ k < wr.heap.size) z _ _ _ _ ⟨0, 0, i, (a + j) % 65536, 0, false, true, [], [], 0, []⟩ none none none 0 0 0 0 0 0 true wr.drew (HB5.out.old (below_drew' (Below.refl _ _))) (fun k hk => hk.2) HFZ.out
                    refine this.mono ?_
                    rintro e w' ⟨s', p', t', l', rfl, h1, h2⟩
                    exact ⟨_, rfl, s', p', t', l', rfl, h1, h2⟩
                  generalize hz2 : goneM z (numM i (a + j)) = z2 at *
                  have HZ2 := hide hz2
                  clear hz2
                  have HT2 : Hid (z2.turn.length = x.turn.length) := by
                    show _ = _
                    rw [← HZ2.out, (gone_turn z _).1, HTZ.out]
                  generalize wholeM z (numM i (a + j)) = wh at *
                  have RNG5 := HB5.out.cx.range
                  have d0 := HC5.out.cell 0 _ rfl
                  have hwr : w.heap.size < wr.heap.size := by omega
                  have TH5 := HB5.out.cx.there
                  have HS6 : ∀ wx, Below wr.drew.heap.size wr.drew wx → (wx.rangeAt w.heap.size 0 [.int .i64 z.cf.streams, .int .i64 z.cf.part, .int .i64 z.cf.packet, .int .i64 z.cf.paths, .int .i64 z.cf.turns, .int .i64 z.cf.waiting, .int .i64 z.cf.first, .int .i64 z.cum, .slice sz_ z.spans.length scz, .slice pz z.pieces.length pcz, .slice tz z.turn.length tcz, .slice lz z.log.length lcz] ∧ wx.cell? ⟨K0, 0, none⟩ = some (.int .i64 (i : Int))) := fun wx b => ⟨(HB5.out.cx.below ((below_drew' (Below.refl wr.heap.size wr)).trans b) hwr).range, (b.cell (p := ⟨K0, 0, none⟩) hK5).trans d0⟩
                  go_upto_region 16 with fail
                  refine wp_region_late (fun w' => w'.rangeAt w.heap.size 0 [.int .i64 z.cf.streams, .int .i64 z.cf.part, .int .i64 z.cf.packet, .int .i64 z.cf.paths, .int .i64 z.cf.turns, .int .i64 z.cf.waiting, .int .i64 z.cf.first, .int .i64 z.cum, .slice sz_ z.spans.length scz, .slice pz z.pieces.length pcz, .slice tz z.turn.length tcz, .slice lz z.log.length lcz] ∧ w'.cell? ⟨K0, 0, none⟩ = some (.int .i64 (i : Int))) [7, 8, 9, 10] (by kernel_rfl) ?_
                  have hS0 := (HS6 wr.drew (Below.refl _ _))
                  refine wpAnyL_take (i := 0) (oi := ({ dst := some 91, op := Op.load 47 (Operand.tmp 2), type := 47, pos := "ref.go:366", after := #[], guard := none } : Oper)) (v := .agg #[.int .i64 z.cf.streams, .int .i64 z.cf.part, .int .i64 z.cf.packet, .int .i64 z.cf.paths, .int .i64 z.cf.turns, .int .i64 z.cf.waiting, .int .i64 z.cf.first, .int .i64 z.cum, .slice sz_ z.spans.length scz, .slice pz z.pieces.length pcz, .slice tz z.turn.length tcz, .slice lz z.log.length lcz]) [6, 7, 8, 9, 10] rfl (by kernel_rfl) (by kernel_rfl) (by kernel_rfl) (by kernel_rfl) (by kernel_rfl) (fun _ _ _ h => h) (yieldsIf_load_mid (by rfl) 47 (.tmp 2) rfl w.heap.size 0 rfl [.int .i64 z.cf.streams, .int .i64 z.cf.part, .int .i64 z.cf.packet, .int .i64 z.cf.paths, .int .i64 z.cf.turns, .int .i64 z.cf.waiting, .int .i64 z.cf.first, .int .i64 z.cum, .slice sz_ z.spans.length scz, .slice pz z.pieces.length pcz, .slice tz z.turn.length tcz, .slice lz z.log.length lcz] _ (fun _ hSw => hSw.1) Try.underlying47 rfl Try.sizeRv) hS0 ?_
                  try simp only [Act.put, List.setIfInBounds_toArray, List.set_cons_zero, List.set_cons_succ]
                  refine wpAnyL_take (i := 1) (oi := ({ dst := some 92, op := Op.fieldAddr 98 (Operand.tmp 7) 0, type := 0, pos := "ref.go:366", after := #[], guard := none } : Oper)) (v := ?vv2x1) [2, 5, 6, 7, 8, 9, 10] rfl (by kernel_rfl) (by kernel_rfl) (by kernel_rfl) (by kernel_rfl) (by kernel_rfl) (fun _ _ _ h => h) (Or.inl ⟨by rfl, ?hv2x1⟩) hS0 ?_
                  case hv2x1 => (intro w hSw; have q2 := hSw.2; go_simp; try with_reducible rfl)
                  try simp only [Act.put, List.setIfInBounds_toArray, List.set_cons_zero, List.set_cons_succ]
                  refine wpAnyL_take (i := 2) (oi := ({ dst := some 93, op := Op.load 3 (Operand.tmp 92), type := 3, pos := "ref.go:366", after := #[{ on := 1, ground := Ground.data }], guard := none } : Oper)) (v := ?vv2x2) [5, 6, 7, 8, 9, 10] rfl (by kernel_rfl) (by kernel_rfl) (by kernel_rfl) (by kernel_rfl) (by kernel_rfl) (fun _ _ _ h => h) (Or.inl ⟨by rfl, ?hv2x2⟩) hS0 ?_
                  case hv2x2 => (intro w hSw; have q2 := hSw.2; go_simp; try with_reducible rfl)
                  try simp only [Act.put, List.setIfInBounds_toArray, List.set_cons_zero, List.set_cons_succ]
                  refine wpAnyL_take (i := 3) (oi := ({ dst := some 94, op := Op.move (Operand.tmp 11), type := 3, pos := "ref.go:366", after := #[], guard := none } : Oper)) (v := ?vv2x3) [4, 5, 6, 7, 8, 9, 10] rfl (by kernel_rfl) (by kernel_rfl) (by kernel_rfl) (by kernel_rfl) (by kernel_rfl) (fun _ _ _ h => h) (Or.inl ⟨by rfl, ?hv2x3⟩) hS0 ?_
                  case hv2x3 => (intro w hSw; have q2 := hSw.2; go_simp; try with_reducible rfl)
                  try simp only [Act.put, List.setIfInBounds_toArray, List.set_cons_zero, List.set_cons_succ]
                  refine wpAnyL_takeQ (i := 4) (oi := ({ dst := some 95, op := Op.call { callee := Callee.value (Operand.func 38), args := #[Operand.tmp 94], argTypes := #[3] }, type := 3, pos := "ref.go:366", after := #[{ on := 3, ground := Ground.data }], guard := none } : Oper)) (v := .int .i64 ((a + j) % 65536)) [5, 6, 7, 8, 9, 10] rfl (by kernel_rfl) (by kernel_rfl) (by kernel_rfl) (by kernel_rfl) (by kernel_rfl) (fun _ _ _ h => h) (YieldsQ.call (by rfl) 38 [.tmp 94] #[3] rfl [.int .i64 (a + j)] rfl rfl enters_rtag (fun wx hSw => rtag_any (a + j) wx)) hS0 ?_
                  try simp only [Act.put, List.setIfInBounds_toArray, List.set_cons_zero, List.set_cons_succ]
                  refine wpAnyL_take (i := 5) (oi := ({ dst := some 96, op := Op.build 42 #[(2, Operand.tmp 93), (3, Operand.tmp 95), (6, Operand.const (Value.bool true))], type := 42, pos := "ref.go:366", after := #[{ on := 2, ground := Ground.data }, { on := 4, ground := Ground.data }], guard := none } : Oper)) (v := ?vv2x4) [6, 7, 8, 9, 10] rfl (by kernel_rfl) (by kernel_rfl) (by kernel_rfl) (by kernel_rfl) (by kernel_rfl) (fun _ _ _ h => h) (Or.inl ⟨by rfl, ?hv2x4⟩) hS0 ?_
                  case hv2x4 => (intro w hSw; have q2 := hSw.2; go_simp; try with_reducible rfl)
                  try simp only [Act.put, List.setIfInBounds_toArray, List.set_cons_zero, List.set_cons_succ]
                  refine wpAnyL_one (i := 6) (o := ({ dst := some 97, op := Op.call { callee := Callee.value (Operand.func 66), args := #[Operand.tmp 91, Operand.tmp 96, Operand.const (Value.bool true)], argTypes := #[47, 42, 4] }, type := 95, pos := "ref.go:366", after := #[{ on := 0, ground := Ground.data }, { on := 5, ground := Ground.data }, { on := 4, ground := Ground.chain }], guard := none } : Oper)) (by kernel_rfl) rfl (fun K hK => ?_)
                  refine step_call3 rfl 66 (.tmp 91) (.tmp 96) (.const (.bool true)) #[47, 42, 4] rfl _ _ _ rfl rfl rfl rfl enters_rdeliver _ DEL ?_
                  rintro _ w6 ⟨s6, p6, t6, l6, rfl, hr6, b6⟩
                  have hS6 := (HS6 w6 b6)
                  refine hK _ _ ⟨fun _ => hS6, ?_⟩
                  clear hK K
                  try simp only [Act.put, List.setIfInBounds_toArray, List.set_cons_zero, List.set_cons_succ]
                  obtain ⟨sz2, scz2, pz2, pcz2, tz2, tcz2, lz2, lcz2, rfl, rfl, rfl, rfl⟩ := hr6.r.ex
                  refine wpAnyL_takeP (i := 7) (oi := ({ dst := some 90, op := Op.move (Operand.tmp 97), type := 95, pos := "ref.go:366", after := #[{ on := 6, ground := Ground.data }], guard := none } : Oper)) (v := ?vv2x5) (by decide) rfl (by kernel_rfl) (by kernel_rfl) (by kernel_rfl) (fun _ _ _ h => h) (Or.inl ⟨by rfl, ?hv2x5⟩) ?_
                  case hv2x5 => (intro w; go_simp; try with_reducible rfl)
                  try simp only [Act.put, List.setIfInBounds_toArray, List.set_cons_zero, List.set_cons_succ]
                  refine wpAnyL_takeP (i := 8) (oi := ({ dst := some 98, op := Op.extract (Operand.tmp 90) 0, type := 47, pos := "ref.go:366", after := #[{ on := 7, ground := Ground.data }], guard := none } : Oper)) (v := ?vv2x6) (by decide) rfl (by kernel_rfl) (by kernel_rfl) (by kernel_rfl) (fun _ _ _ h => h) (Or.inl ⟨by rfl, ?hv2x6⟩) ?_
                  case hv2x6 => (intro w; go_simp; try with_reducible rfl)
                  try simp only [Act.put, List.setIfInBounds_toArray, List.set_cons_zero, List.set_cons_succ]
                  refine wpAnyL_takeP (i := 9) (oi := ({ dst := some 99, op := Op.extract (Operand.tmp 90) 1, type := 4, pos := "ref.go:366", after := #[{ on := 7, ground := Ground.data }, { on := 10, ground := Ground.gcOnly Departure.lateStores }], guard := none } : Oper)) (v := ?vv2x7) (by decide) rfl (by kernel_rfl) (by kernel_rfl) (by kernel_rfl) (fun _ _ _ h => h) (Or.inl ⟨by rfl, ?hv2x7⟩) ?_
                  case hv2x7 => (intro w; go_simp; try with_reducible rfl)
                  try simp only [Act.put, List.setIfInBounds_toArray, List.set_cons_zero, List.set_cons_succ]
                  have B6 : Below wr.heap.size wr w6 := (below_drew' (Below.refl _ _)).trans b6
                  have HB6 := hide (HB5.out.below B6)
                  refine wpAnyL_one (i := 10) (o := ({ dst := none, op := Op.store 47 (Operand.tmp 2) (Operand.tmp 98), type := 0, pos := "ref.go:366", after := #[{ on := 8, ground := Ground.data }, { on := 6, ground := Ground.chain }, { on := 0, ground := Ground.phase }, { on := 1, ground := Ground.phase }, { on := 2, ground := Ground.phase }, { on := 3, ground := Ground.phase }, { on := 4, ground := Ground.phase }, { on := 5, ground := Ground.phase }, { on := 6, ground := Ground.phase }, { on := 7, ground := Ground.phase }, { on := 8, ground := Ground.phase }, { on := 9, ground := Ground.textOnly Departure.lateStores }], guard := none } : Oper)) (by kernel_rfl) rfl (fun K hK => ?_)
                  refine step_stN 47 12 Try.sizeRv rfl (.tmp 2) (.tmp 98) rfl w.heap.size 0 rfl [.int .i64 z2.cf.streams, .int .i64 z2.cf.part, .int .i64 z2.cf.packet, .int .i64 z2.cf.paths, .int .i64 z2.cf.turns, .int .i64 z2.cf.waiting, .int .i64 z2.cf.first, .int .i64 z2.cum, .slice sz2 z2.spans.length scz2, .slice pz2 z2.pieces.length pcz2, .slice tz2 z2.turn.length tcz2, .slice lz2 z2.log.length lcz2] rfl rfl rfl HB6.out.cx.there ?_
                  refine hK _ _ ⟨fun h => absurd (by simp) h, ?_⟩
                  clear hK K
                  try simp only [Act.put]
                  refine wpAnyL_done (by kernel_rfl) ?_ _
                  go_upto_region 17 with fail
                  have HB7 := hide (HB6.out.put hv (hr6.mono fun k hk => hk.elim (fun h => h.1) fun h => .inr (Nat.le_trans sz5 h)))
                  have KS : Keep (fun k => k ≠ w.heap.size) w6 (w6.setCells w.heap.size 0 [.int .i64 z2.cf.streams, .int .i64 z2.cf.part, .int .i64 z2.cf.packet, .int .i64 z2.cf.paths, .int .i64 z2.cf.turns, .int .i64 z2.cf.waiting, .int .i64 z2.cf.first, .int .i64 z2.cum, .slice sz2 z2.spans.length scz2, .slice pz2 z2.pieces.length pcz2, .slice tz2 z2.turn.length tcz2, .slice lz2 z2.log.length lcz2]) := Keep.setCells (fun h => h rfl) _ _ (Keep.refl _ _)
                  have sz6 := B6.size
                  have sz7 := KS.size
                  have HC7 := hide ((HC5.out.below B6 hK5).keep KS (by omega))
                  have HK7 : Hid (Kl w0.heap.size (w6.setCells w.heap.size 0 [.int .i64 z2.cf.streams, .int .i64 z2.cf.part, .int .i64 z2.cf.packet, .int .i64 z2.cf.paths, .int .i64 z2.cf.turns, .int .i64 z2.cf.waiting, .int .i64 z2.cf.first, .int .i64 z2.cum, .slice sz2 z2.spans.length scz2, .slice pz2 z2.pieces.length pcz2, .slice tz2 z2.turn.length tcz2, .slice lz2 z2.log.length lcz2]) (.slice qa c.skips.length qc) c.skips) := by
                    have := Rw.keep (B' := w0.heap.size) HK5.out (fun b off sp n c e hn => ?_) ((toKeep B6 (S := fun k => k < w0.heap.size ∧ k ≠ w.heap.size) fun k hk => by omega).trans (KS.mono fun k hk => hk.2)) (Nat.le_refl _)
                    · exact this
                    · have hV := HLC.out.iq b off sp n c e hn
                      have := hv b hV
                      exact ⟨by omega, by omega⟩
                  clear KS HB6 hr6 b6 B6 HS6 RNG5 TH5 HB5 DEL
                  generalize w6.setCells w.heap.size 0 [.int .i64 z2.cf.streams, .int .i64 z2.cf.part, .int .i64 z2.cf.packet, .int .i64 z2.cf.paths, .int .i64 z2.cf.turns, .int .i64 z2.cf.waiting, .int .i64 z2.cf.first, .int .i64 z2.cum, .slice sz2 z2.spans.length scz2, .slice pz2 z2.pieces.length pcz2, .slice tz2 z2.turn.length tcz2, .slice lz2 z2.log.length lcz2] = w7 at *
                  have x10 := HB7.out.cx.cell 10 _ rfl
                  have f10 := HB7.out.cx.fz 10
                  have hw7 : w.heap.size < w7.heap.size := by omega
                  have htz : z2.turn.length ≤ 2147483647 := by rw [HT2.out]; exact htn
                  have hi2 : i < z2.turn.length := by rw [HT2.out, ← HTY.out]; exact hil
                  have OA : (w7.alloc (.cells #[] 3)).ownsRow w7.heap.size 3 1 (.slice (some ⟨w7.heap.size, 0, none⟩) 0 0) 0 [] := World.ownsRow_made w7 #[] 0 (Nat.le_refl _) (Nat.zero_le _) (by simp)
                  have LA := HB7.out.rv.r.t.1.below (box_below w7 (.cells #[] 3)) (Nat.le_refl _)
                  go_upto_region 18 with (at_builtin; refine wpList_append_rw Try.underlying31 Try.info3 rfl (by decide) _ rfl (.tmp 100) (.tmp 102) rfl w7.heap.size (.slice (some ⟨w7.heap.size, 0, none⟩) 0 0) 0 [] rfl OA w7.heap.size z2.turn.length (cellsI z2.turn) _ rfl LA (cellsI_one _) (by unfold maxLen; omega) (by omega) (by simp) ?_; intro v8 w8 o8 gr8 at8; have b8 : Below w7.heap.size w7 w8 := (box_below w7 _).grown gr8 (by simp) (fun j hj => by simp [Value.ownBlock] at hj; omega); have y10 := (b8.cell (p := ⟨w.heap.size, 10, none⟩) hw7).trans x10; have u10 := (b8.frozen (p := ⟨w.heap.size, 10, none⟩) hw7).trans f10; rw [Nat.zero_add, List.nil_append] at o8; obtain ⟨a8, c8, rfl⟩ := own_form o8)
                  have sz8 := b8.size
                  obtain ⟨g, rfl⟩ : ∃ g, a8 = some ⟨g, 0, none⟩ := by
                    rcases o8.2 with ⟨_, h0⟩ | ⟨g, c, cur, e, -⟩
                    · omega
                    · simp only [Value.slice.injEq] at e; exact ⟨g, e.1⟩
                  have hg := o8.lt g rfl
                  have hix9 := run_int_at g z2.turn.length c8 i hi2
                  have KR : Keep (fun k => k ≠ w.heap.size) w8 (w8.setCell ⟨w.heap.size, 10, none⟩ (.slice (some ⟨g, 0, none⟩) z2.turn.length c8)) := Keep.setCell (Keep.refl _ w8) (p := ⟨w.heap.size, 10, none⟩) (fun h => h rfl) _
                  have o9 := own_of_block o8 fun k hk => KR.block k (by have := (o8.lt k hk).1; omega)
                  have ct9 : (w8.setCell ⟨w.heap.size, 10, none⟩ (.slice (some ⟨g, 0, none⟩) z2.turn.length c8)).cell? ⟨g, i, none⟩ = some (.int .i64 z2.turn[i]) := by
                    rw [o9.cellAt i (by omega), cellsI_get _ _ hi2]
                  have ft9 := o9.frozenAt i
                  have c9 := ((HB7.out.below b8).cx.set 10 (.slice (some ⟨g, 0, none⟩) z2.turn.length c8) (by simp)).cell 10 _ rfl
                  have HC9 := (HC7.out.below b8 (by omega)).keep KR (by omega)
                  have d9 := HC9.cell 0 _ rfl
                  have KG : Keep (fun k => k ≠ g) (w8.setCell ⟨w.heap.size, 10, none⟩ (.slice (some ⟨g, 0, none⟩) z2.turn.length c8)) ((w8.setCell ⟨w.heap.size, 10, none⟩ (.slice (some ⟨g, 0, none⟩) z2.turn.length c8)).setCell ⟨g, i, none⟩ (.int .i64 (a + j + 1))) := Keep.setCell (Keep.refl _ _) (p := ⟨g, i, none⟩) (fun h => h rfl) _
                  have HB10 := hide (hide (HB7.out.turned hv b8 o8 i (a + j + 1) ⟨by omega, by omega⟩))
                  have HC10 := hide (hide (HC9.keep KG (by omega)))
                  have HK10 := hide (hide (show Kl w0.heap.size ((w8.setCell ⟨w.heap.size, 10, none⟩ (.slice (some ⟨g, 0, none⟩) z2.turn.length c8)).setCell ⟨g, i, none⟩ (.int .i64 (a + j + 1))) (.slice qa c.skips.length qc) c.skips from by
                    have := Rw.keep (B' := w0.heap.size) HK7.out (fun b off sp n c e hn => ?_) (((toKeep b8 (S := fun k => k < w0.heap.size ∧ k ≠ w.heap.size) fun k hk => by omega).trans (KR.mono fun k hk => hk.2)).trans (KG.mono fun k hk => by omega)) (Nat.le_refl _)
                    · exact this
                    · have hV := HLC.out.iq b off sp n c e hn
                      have := hv b hV
                      exact ⟨by omega, by omega⟩))
                  have s10 : w8.heap.size = ((w8.setCell ⟨w.heap.size, 10, none⟩ (.slice (some ⟨g, 0, none⟩) z2.turn.length c8)).setCell ⟨g, i, none⟩ (.int .i64 (a + j + 1))).heap.size := by simp
                  have HLE := hide hle
                  have w1 : IntKind.i64.wrap (a + j + 1) = a + j + 1 := by simp [IntKind.wrap, IntKind.signed, IntKind.bits]; omega
                  clear KR KG HB7 HC7 HK7 HC9 o8 o9 b8 gr8 at8 y10 u10 x10 f10 OA LA
                  go_wp2_with fail
                  go_roundw
                  case rel => exact ⟨j + 1, _, _, _, _, by congr 1; omega, by have := HLE.out; omega, by rw [← HGS.out]; exact HB10.out.out, HK10.out.out, HC10.out.out, by omega, by omega⟩
                  case measure => have := HLE.out; simp [intOf]; omega
                · have HZP : setTurn (goneN i j y a) i (a + j) = passM y i last := by
                    rw [HPA.out]
                    by_cases hla : last < a
                    · have hj0 : j = 0 := by omega
                      subst hj0
                      rw [if_pos hla, goneN, show a + ((0 : Nat) : Int) = a by omega, HSS.out]
                    · rw [if_neg hla, show (last - a + 1).toNat = j by omega, show last + 1 = a + (j : Int) by omega]
                  rw [HZP] at HB5 HTZ
                  clear HGS HFZ HZP HSS HPA HFG HTG
                  generalize passM y i last = zp at *
                  obtain ⟨sz_, scz, pz, pcz, tz, tcz, lz, lcz, rfl, rfl, rfl, rfl⟩ := HB5.out.rv.r.ex
                  have sz5 := HB5.out.sz
                  have TU := rturns_in _ _ zp i _ _ _ _ wr HB5.out.rv.lt (fun k hk => hk.2) HPS.out (by rw [HTZ.out, ← HTY.out]; exact hil) (by omega) (by rw [HTZ.out]; exact htn)
                  generalize turnsM zp i = zt at *
                  have RNG5 := HB5.out.cx.range
                  have d0 := HC5.out.cell 0 _ rfl
                  have HHK := hide hK5
                  go_wp2_with (refine wpList_ldR rfl (.tmp 2) rfl w.heap.size 0 rfl zp _ _ _ _ (by with_reducible exact RNG5) ?_)
                  refine TU.mono ?_
                  rintro e w6 ⟨s6, p6, t6, l6, rfl, hr6, b6⟩
                  dsimp only
                  rename_i KK aKK
                  refine aKK _ _ ?_
                  clear aKK KK
                  obtain ⟨sz2, scz2, pz2, pcz2, tz2, tcz2, lz2, lcz2, rfl, rfl, rfl, rfl⟩ := hr6.r.ex
                  have HB6 := hide (HB5.out.below b6)
                  have TH6 : w6.there w.heap.size 0 12 := HB6.out.cx.there
                  have sz6 := b6.size
                  have HB7 := hide (hide (HB6.out.put hv (hr6.mono fun k hk => hk.elim (fun h => h.1) fun h => .inr (by omega))))
                  have KS : Keep (fun k => k ≠ w.heap.size) w6 (w6.setCells w.heap.size 0 [.int .i64 zt.cf.streams, .int .i64 zt.cf.part, .int .i64 zt.cf.packet, .int .i64 zt.cf.paths, .int .i64 zt.cf.turns, .int .i64 zt.cf.waiting, .int .i64 zt.cf.first, .int .i64 zt.cum, .slice sz2 zt.spans.length scz2, .slice pz2 zt.pieces.length pcz2, .slice tz2 zt.turn.length tcz2, .slice lz2 zt.log.length lcz2]) := Keep.setCells (fun h => h rfl) _ _ (Keep.refl _ _)
                  have sz7 := KS.size
                  have HK7 := hide (hide (show Kl w0.heap.size (w6.setCells w.heap.size 0 [.int .i64 zt.cf.streams, .int .i64 zt.cf.part, .int .i64 zt.cf.packet, .int .i64 zt.cf.paths, .int .i64 zt.cf.turns, .int .i64 zt.cf.waiting, .int .i64 zt.cf.first, .int .i64 zt.cum, .slice sz2 zt.spans.length scz2, .slice pz2 zt.pieces.length pcz2, .slice tz2 zt.turn.length tcz2, .slice lz2 zt.log.length lcz2]) (.slice qa c.skips.length qc) c.skips from by
                    have := Rw.keep (B' := w0.heap.size) HK5.out (fun b off sp n c e hn => ?_) ((toKeep b6 (S := fun k => k < w0.heap.size ∧ k ≠ w.heap.size) fun k hk => by omega).trans (KS.mono fun k hk => hk.2)) (Nat.le_refl _)
                    · exact this
                    · have hV := HLC.out.iq b off sp n c e hn
                      have := hv b hV
                      exact ⟨by omega, by omega⟩))
                  clear KS hr6 b6 HB5 TU RNG5
                  refine wpList_srN 47 12 Try.sizeRv rfl (.tmp 2) (.tmp 115) rfl w.heap.size 0 rfl [.int .i64 zt.cf.streams, .int .i64 zt.cf.part, .int .i64 zt.cf.packet, .int .i64 zt.cf.paths, .int .i64 zt.cf.turns, .int .i64 zt.cf.waiting, .int .i64 zt.cf.first, .int .i64 zt.cum, .slice sz2 zt.spans.length scz2, .slice pz2 zt.pieces.length pcz2, .slice tz2 zt.turn.length tcz2, .slice lz2 zt.log.length lcz2] rfl rfl rfl TH6 ?_
                  go_wp2_with fail
                  go_roundw
                  case rel => exact ⟨k + 1, _, _, _, _, HLT.out, by go_num, by rw [HM2.out, HST.out, HNH.out]; exact HB7.out.out, HK7.out.out, by omega⟩
                  case measure => have := HLT.out; simp [intOf]; omega
      · have hke : k = c.skips.length := by omega
        subst hke
        have HE : Hid (forwM x c = (c.skips.take c.skips.length).foldl skipM (overM x c)) := by show _ = _; rw [HFW.out, List.take_length]
        generalize (c.skips.take c.skips.length).foldl skipM (overM x c) = y at *
        obtain ⟨sy, scy, py, pcy, ty, tcy, ly, lcy, rfl, rfl, rfl, rfl⟩ := HB.out.rv.r.ex
        have szr := HB.out.sz
        have RNGR := HB.out.cx.range
        have THR : wr.there (w.heap.size + 2) 0 12 := HB.out.ct.there
        have CE := HB.out.ct.setAll [.int .i64 y.cf.streams, .int .i64 y.cf.part, .int .i64 y.cf.packet, .int .i64 y.cf.paths, .int .i64 y.cf.turns, .int .i64 y.cf.waiting, .int .i64 y.cf.first, .int .i64 y.cum, .slice sy y.spans.length scy, .slice py y.pieces.length pcy, .slice ty y.turn.length tcy, .slice ly y.log.length lcy] rfl
        have e0 := CE.cell 0 _ rfl
        have e1 := CE.cell 1 _ rfl
        have e2 := CE.cell 2 _ rfl
        have e3 := CE.cell 3 _ rfl
        have e4 := CE.cell 4 _ rfl
        have e5 := CE.cell 5 _ rfl
        have e6 := CE.cell 6 _ rfl
        have e7 := CE.cell 7 _ rfl
        have e8 := CE.cell 8 _ rfl
        have e9 := CE.cell 9 _ rfl
        have e10 := CE.cell 10 _ rfl
        have e11 := CE.cell 11 _ rfl
        have KE : Keep (fun k => k ≠ w.heap.size + 2) wr (wr.setCells (w.heap.size + 2) 0 [.int .i64 y.cf.streams, .int .i64 y.cf.part, .int .i64 y.cf.packet, .int .i64 y.cf.paths, .int .i64 y.cf.turns, .int .i64 y.cf.waiting, .int .i64 y.cf.first, .int .i64 y.cum, .slice sy y.spans.length scy, .slice py y.pieces.length pcy, .slice ty y.turn.length tcy, .slice ly y.log.length lcy]) := Keep.setCells (fun h => h rfl) _ _ (Keep.refl _ _)
        have BE : Below w.heap.size w (wr.setCells (w.heap.size + 2) 0 [.int .i64 y.cf.streams, .int .i64 y.cf.part, .int .i64 y.cf.packet, .int .i64 y.cf.paths, .int .i64 y.cf.turns, .int .i64 y.cf.waiting, .int .i64 y.cf.first, .int .i64 y.cum, .slice sy y.spans.length scy, .slice py y.pieces.length pcy, .slice ty y.turn.length tcy, .slice ly y.log.length lcy]) := Below.setCells (by omega) _ _ HB.out.be
        have FIN := hide ((HB.out.rv.keep (KE.mono fun k hk => hk.elim (fun h => by have := hv k h; omega) fun h => by omega)).mono (V' := fun k => V k ∨ w.heap.size ≤ k) fun k hk => hk.elim .inl fun h => .inr (by omega))
        clear CE KE
        go_wp2_with (first
          | refine wpList_ldR rfl (.tmp 2) rfl w.heap.size 0 rfl y _ _ _ _ (by with_reducible exact RNGR) ?_
          | refine wpList_srN 47 12 Try.sizeRv rfl (.tmp 4) (.tmp 117) rfl (w.heap.size + 2) 0 rfl [.int .i64 y.cf.streams, .int .i64 y.cf.part, .int .i64 y.cf.packet, .int .i64 y.cf.paths, .int .i64 y.cf.turns, .int .i64 y.cf.waiting, .int .i64 y.cf.first, .int .i64 y.cum, .slice sy y.spans.length scy, .slice py y.pieces.length pcy, .slice ty y.turn.length tcy, .slice ly y.log.length lcy] rfl rfl rfl (by with_reducible exact THR) ?_)
        generalize (wr.setCells (w.heap.size + 2) 0 [.int .i64 y.cf.streams, .int .i64 y.cf.part, .int .i64 y.cf.packet, .int .i64 y.cf.paths, .int .i64 y.cf.turns, .int .i64 y.cf.waiting, .int .i64 y.cf.first, .int .i64 y.cum, .slice sy y.spans.length scy, .slice py y.pieces.length pcy, .slice ty y.turn.length tcy, .slice ly y.log.length lcy]) = w9 at *
        refine bodyPost_ret (v := .agg #[.int .i64 y.cf.streams, .int .i64 y.cf.part, .int .i64 y.cf.packet, .int .i64 y.cf.paths, .int .i64 y.cf.turns, .int .i64 y.cf.waiting, .int .i64 y.cf.first, .int .i64 y.cum, .slice sy y.spans.length scy, .slice py y.pieces.length pcy, .slice ty y.turn.length tcy, .slice ly y.log.length lcy]) (by simp [results, Try.results31, go_sem, e0, e1, e2, e3, e4, e5, e6, e7, e8, e9, e10, e11]) rfl ?_
        rw [HE.out]
        exact ⟨_, _, _, _, rfl, FIN.out, BE⟩
end Go.Proofs.Ytnddejdndipddad
