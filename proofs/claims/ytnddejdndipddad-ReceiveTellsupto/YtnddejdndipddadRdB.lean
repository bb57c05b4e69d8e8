/- The document's receivers: deliver. -/
import Derived.Test.YtnddejdndipddadRdA
import Derived.Test.YtnddejdndipddadRcP
import Derived.Test.YtnddejdndipddadRA
set_option maxRecDepth 20000
namespace Go.Proofs.Ytnddejdndipddad
open Go.RowKit

/-- It is delivered, if it is whole; whole or not, if that is so, it goes. -/
def delM (any : Bool) (x : Rc) (m : Ms) : Rc := if any = true then goneM x m else delivM x m
theorem delM_whole {any : Bool} {x : Rc} {m : Ms} (h : wholeM x m = true) : delM any x m = { x with log := x.log ++ [⟨m.stream, m.mid, m.ordered, joinD (mineM m x.pieces)⟩], pieces := restM m x.pieces } := by
  unfold delM goneM
  rw [if_pos h, ite_self, delivM, if_pos h]
  rfl
theorem delM_any {x : Rc} {m : Ms} (h : wholeM x m = false) : delM true x m = { x with pieces := restM m x.pieces } := by
  unfold delM goneM
  simp only [h, if_true]
  rfl
theorem delM_stays {x : Rc} {m : Ms} (h : wholeM x m = false) : delM false x m = x := by
  unfold delM delivM
  simp [h]
/-- Its pieces are others, in a row of the call's own. -/
theorem RvI.withP {V V' : Nat → Prop} {base : Nat} {w : World} {x : Rc} {s p t l p' : Value} {L : List Pc} (h : RvI V w x s p t l) (row : PcRow V base w p' L) (hV : ∀ k, V k → V' k) (hb : ∀ k, base ≤ k → V' k) : RvI V' w { x with pieces := L } s p' t l := by
  have h' := h.mono hV
  have r := row.s
  obtain ⟨vs, a1, a2⟩ := row
  exact ⟨⟨h'.r.s, r, h'.r.t, h'.r.l⟩, h'.si, InS.blk (fun k hk => hb k (a2.lt k hk).1), h'.ti, h'.li, ⟨vs, a1.imp fun _ _ h => PcI.holds.mono h hV, Rw.own a2 (all2_flatH PcI.holds a1).1⟩, h'.l⟩
/-- Its log is another, in a row of the call's own. -/
theorem RvI.withL {V V' S : Nat → Prop} {base : Nat} {w : World} {x : Rc} {s p t l l' : Value} {L : List Av} (h : RvI V w x s p t l) (row : AvRow S base w l' L) (hV : ∀ k, V k → V' k) (hS : ∀ k, S k → V' k) (hb : ∀ k, base ≤ k → V' k) : RvI V' w { x with log := L } s p t l' := by
  have h' := h.mono hV
  have r := row.s
  obtain ⟨vs, a1, a2⟩ := row
  exact ⟨⟨h'.r.s, h'.r.p, h'.r.t, r⟩, h'.si, h'.pi, h'.ti, InS.blk (fun k hk => hb k (a2.lt k hk).1), h'.p, ⟨vs, a1.imp fun _ _ h => AvI.holds.mono h hS, Rw.own a2 (all2_flatH AvI.holds a1).1⟩⟩

set_option maxHeartbeats 4000000 in
theorem rdeliver_in (V : Nat → Prop) (x : Rc) (s p t l : Value) (c : Ck) (da ssa qa : Option Addr) (dn dc sn ssc qn qc : Nat) (any : Bool) (w : World) (h : RvI V w x s p t l) (hv : ∀ k, V k → k < w.heap.size) (hf : FitR x) :
    Calls Try.prog 66 #[.agg #[.int .i64 x.cf.streams, .int .i64 x.cf.part, .int .i64 x.cf.packet, .int .i64 x.cf.paths, .int .i64 x.cf.turns, .int .i64 x.cf.waiting, .int .i64 x.cf.first, .int .i64 x.cum, s, p, t, l], .agg #[.int .i64 c.kind, .int .i64 c.tag, .int .i64 c.stream, .int .i64 c.mid, .int .i64 c.part, .bool c.last, .bool c.ordered, .slice da dn dc, .slice ssa sn ssc, .int .i64 c.room, .slice qa qn qc], .bool any] w fun e w' => ∃ s' p' t' l', e = .returned (.tuple #[.agg #[.int .i64 (delM any x ⟨c.stream, c.mid, c.ordered⟩).cf.streams, .int .i64 (delM any x ⟨c.stream, c.mid, c.ordered⟩).cf.part, .int .i64 (delM any x ⟨c.stream, c.mid, c.ordered⟩).cf.packet, .int .i64 (delM any x ⟨c.stream, c.mid, c.ordered⟩).cf.paths, .int .i64 (delM any x ⟨c.stream, c.mid, c.ordered⟩).cf.turns, .int .i64 (delM any x ⟨c.stream, c.mid, c.ordered⟩).cf.waiting, .int .i64 (delM any x ⟨c.stream, c.mid, c.ordered⟩).cf.first, .int .i64 (delM any x ⟨c.stream, c.mid, c.ordered⟩).cum, s', p', t', l'], .bool (wholeM x ⟨c.stream, c.mid, c.ordered⟩)]) ∧ RvI (fun k => V k ∨ w.heap.size ≤ k) w' (delM any x ⟨c.stream, c.mid, c.ordered⟩) s' p' t' l' ∧ Below w.heap.size w w' := by
  obtain ⟨sa, sc, pa, pc, ta, tc, la, lc, rfl, rfl, rfl, rfl⟩ := h.r.ex
  have B0 := three_below w (.cells #[.int .i64 x.cf.streams, .int .i64 x.cf.part, .int .i64 x.cf.packet, .int .i64 x.cf.paths, .int .i64 x.cf.turns, .int .i64 x.cf.waiting, .int .i64 x.cf.first, .int .i64 x.cum, .slice sa x.spans.length sc, .slice pa x.pieces.length pc, .slice ta x.turn.length tc, .slice la x.log.length lc] 47) (.cells #[.int .i64 c.kind, .int .i64 c.tag, .int .i64 c.stream, .int .i64 c.mid, .int .i64 c.part, .bool c.last, .bool c.ordered, .slice da dn dc, .slice ssa sn ssc, .int .i64 c.room, .slice qa qn qc] 42) (.cells #[.int .i64 0, .int .i64 0, .int .i64 0, .int .i64 0, .int .i64 0, .int .i64 0, .int .i64 0, .int .i64 0, .slice none 0 0, .slice none 0 0, .slice none 0 0, .slice none 0 0] 47)
  have CX : Cells w.heap.size (((w.alloc (.cells #[.int .i64 x.cf.streams, .int .i64 x.cf.part, .int .i64 x.cf.packet, .int .i64 x.cf.paths, .int .i64 x.cf.turns, .int .i64 x.cf.waiting, .int .i64 x.cf.first, .int .i64 x.cum, .slice sa x.spans.length sc, .slice pa x.pieces.length pc, .slice ta x.turn.length tc, .slice la x.log.length lc] 47)).alloc (.cells #[.int .i64 c.kind, .int .i64 c.tag, .int .i64 c.stream, .int .i64 c.mid, .int .i64 c.part, .bool c.last, .bool c.ordered, .slice da dn dc, .slice ssa sn ssc, .int .i64 c.room, .slice qa qn qc] 42)).alloc (.cells #[.int .i64 0, .int .i64 0, .int .i64 0, .int .i64 0, .int .i64 0, .int .i64 0, .int .i64 0, .int .i64 0, .slice none 0 0, .slice none 0 0, .slice none 0 0, .slice none 0 0] 47)) [.int .i64 x.cf.streams, .int .i64 x.cf.part, .int .i64 x.cf.packet, .int .i64 x.cf.paths, .int .i64 x.cf.turns, .int .i64 x.cf.waiting, .int .i64 x.cf.first, .int .i64 x.cum, .slice sa x.spans.length sc, .slice pa x.pieces.length pc, .slice ta x.turn.length tc, .slice la x.log.length lc] := ((Cells.new w #[.int .i64 x.cf.streams, .int .i64 x.cf.part, .int .i64 x.cf.packet, .int .i64 x.cf.paths, .int .i64 x.cf.turns, .int .i64 x.cf.waiting, .int .i64 x.cf.first, .int .i64 x.cum, .slice sa x.spans.length sc, .slice pa x.pieces.length pc, .slice ta x.turn.length tc, .slice la x.log.length lc] 47).alloc (by simp) _).alloc (by simp; omega) _
  have CC : Cells (w.heap.size + 1) (((w.alloc (.cells #[.int .i64 x.cf.streams, .int .i64 x.cf.part, .int .i64 x.cf.packet, .int .i64 x.cf.paths, .int .i64 x.cf.turns, .int .i64 x.cf.waiting, .int .i64 x.cf.first, .int .i64 x.cum, .slice sa x.spans.length sc, .slice pa x.pieces.length pc, .slice ta x.turn.length tc, .slice la x.log.length lc] 47)).alloc (.cells #[.int .i64 c.kind, .int .i64 c.tag, .int .i64 c.stream, .int .i64 c.mid, .int .i64 c.part, .bool c.last, .bool c.ordered, .slice da dn dc, .slice ssa sn ssc, .int .i64 c.room, .slice qa qn qc] 42)).alloc (.cells #[.int .i64 0, .int .i64 0, .int .i64 0, .int .i64 0, .int .i64 0, .int .i64 0, .int .i64 0, .int .i64 0, .slice none 0 0, .slice none 0 0, .slice none 0 0, .slice none 0 0] 47)) [.int .i64 c.kind, .int .i64 c.tag, .int .i64 c.stream, .int .i64 c.mid, .int .i64 c.part, .bool c.last, .bool c.ordered, .slice da dn dc, .slice ssa sn ssc, .int .i64 c.room, .slice qa qn qc] := (Cells.new' (w := w.alloc (.cells #[.int .i64 x.cf.streams, .int .i64 x.cf.part, .int .i64 x.cf.packet, .int .i64 x.cf.paths, .int .i64 x.cf.turns, .int .i64 x.cf.waiting, .int .i64 x.cf.first, .int .i64 x.cum, .slice sa x.spans.length sc, .slice pa x.pieces.length pc, .slice ta x.turn.length tc, .slice la x.log.length lc] 47)) #[.int .i64 c.kind, .int .i64 c.tag, .int .i64 c.stream, .int .i64 c.mid, .int .i64 c.part, .bool c.last, .bool c.ordered, .slice da dn dc, .slice ssa sn ssc, .int .i64 c.room, .slice qa qn qc] 42 (by simp)).alloc (by simp) _
  have CT : Cells (w.heap.size + 2) (((w.alloc (.cells #[.int .i64 x.cf.streams, .int .i64 x.cf.part, .int .i64 x.cf.packet, .int .i64 x.cf.paths, .int .i64 x.cf.turns, .int .i64 x.cf.waiting, .int .i64 x.cf.first, .int .i64 x.cum, .slice sa x.spans.length sc, .slice pa x.pieces.length pc, .slice ta x.turn.length tc, .slice la x.log.length lc] 47)).alloc (.cells #[.int .i64 c.kind, .int .i64 c.tag, .int .i64 c.stream, .int .i64 c.mid, .int .i64 c.part, .bool c.last, .bool c.ordered, .slice da dn dc, .slice ssa sn ssc, .int .i64 c.room, .slice qa qn qc] 42)).alloc (.cells #[.int .i64 0, .int .i64 0, .int .i64 0, .int .i64 0, .int .i64 0, .int .i64 0, .int .i64 0, .int .i64 0, .slice none 0 0, .slice none 0 0, .slice none 0 0, .slice none 0 0] 47)) [.int .i64 0, .int .i64 0, .int .i64 0, .int .i64 0, .int .i64 0, .int .i64 0, .int .i64 0, .int .i64 0, .slice none 0 0, .slice none 0 0, .slice none 0 0, .slice none 0 0] := Cells.new' #[.int .i64 0, .int .i64 0, .int .i64 0, .int .i64 0, .int .i64 0, .int .i64 0, .int .i64 0, .int .i64 0, .slice none 0 0, .slice none 0 0, .slice none 0 0, .slice none 0 0] 47 (by simp)
  have HZ : w.heap.size + 3 = (((w.alloc (.cells #[.int .i64 x.cf.streams, .int .i64 x.cf.part, .int .i64 x.cf.packet, .int .i64 x.cf.paths, .int .i64 x.cf.turns, .int .i64 x.cf.waiting, .int .i64 x.cf.first, .int .i64 x.cum, .slice sa x.spans.length sc, .slice pa x.pieces.length pc, .slice ta x.turn.length tc, .slice la x.log.length lc] 47)).alloc (.cells #[.int .i64 c.kind, .int .i64 c.tag, .int .i64 c.stream, .int .i64 c.mid, .int .i64 c.part, .bool c.last, .bool c.ordered, .slice da dn dc, .slice ssa sn ssc, .int .i64 c.room, .slice qa qn qc] 42)).alloc (.cells #[.int .i64 0, .int .i64 0, .int .i64 0, .int .i64 0, .int .i64 0, .int .i64 0, .int .i64 0, .int .i64 0, .slice none 0 0, .slice none 0 0, .slice none 0 0, .slice none 0 0] 47)).heap.size := by simp
  have HH : Hid _ := h
  obtain ⟨m, hm⟩ : ∃ m : Ms, m = ⟨c.stream, c.mid, c.ordered⟩ := ⟨_, rfl⟩
  have HM : Hid (m = ⟨c.stream, c.mid, c.ordered⟩) := hm
  rw [← hm]
  clear h
  go_enter Try.func66, Try.ntmps66
  go_upto_region 1 with fail
  generalize (((w.alloc (.cells #[.int .i64 x.cf.streams, .int .i64 x.cf.part, .int .i64 x.cf.packet, .int .i64 x.cf.paths, .int .i64 x.cf.turns, .int .i64 x.cf.waiting, .int .i64 x.cf.first, .int .i64 x.cum, .slice sa x.spans.length sc, .slice pa x.pieces.length pc, .slice ta x.turn.length tc, .slice la x.log.length lc] 47)).alloc (.cells #[.int .i64 c.kind, .int .i64 c.tag, .int .i64 c.stream, .int .i64 c.mid, .int .i64 c.part, .bool c.last, .bool c.ordered, .slice da dn dc, .slice ssa sn ssc, .int .i64 c.room, .slice qa qn qc] 42)).alloc (.cells #[.int .i64 0, .int .i64 0, .int .i64 0, .int .i64 0, .int .i64 0, .int .i64 0, .int .i64 0, .int .i64 0, .slice none 0 0, .slice none 0 0, .slice none 0 0, .slice none 0 0] 47)) = w0 at *
  have h0 := HH.out.keep (toKeep B0 fun k hk => hv k hk)
  have AP := apart_any' V (.slice pa x.pieces.length pc) x.pieces c da ssa qa dn dc sn ssc qn qc w0 (h0.pcs fun k hk => by have := hv k hk; omega) (fun k hk => by have := hv k hk; omega) hf.n
  rw [← hm] at AP
  clear hm
  have c9 := CX.cell 9 _ rfl
  have RNGC := CC.range
  go_upto_region 2 with (first
    | refine wpList_ldC rfl (.tmp 4) rfl (w.heap.size + 1) 0 rfl c _ _ _ (by with_reducible exact RNGC) ?_
    | (go_at_call 69; refine AP.mono ?_; rintro e w1 ⟨a1, c1, a2, c2, rfl, r1, r2, b1⟩))
  have s1 := b1.size
  have B1 : Below w.heap.size w w1 := B0.trans (b1.mono (by omega))
  have HX1 : Hid (Cells w.heap.size w1 [.int .i64 x.cf.streams, .int .i64 x.cf.part, .int .i64 x.cf.packet, .int .i64 x.cf.paths, .int .i64 x.cf.turns, .int .i64 x.cf.waiting, .int .i64 x.cf.first, .int .i64 x.cum, .slice sa x.spans.length sc, .slice pa x.pieces.length pc, .slice ta x.turn.length tc, .slice la x.log.length lc]) := CX.below b1 (by omega)
  have HC1 : Hid (Cells (w.heap.size + 1) w1 [.int .i64 c.kind, .int .i64 c.tag, .int .i64 c.stream, .int .i64 c.mid, .int .i64 c.part, .bool c.last, .bool c.ordered, .slice da dn dc, .slice ssa sn ssc, .int .i64 c.room, .slice qa qn qc]) := CC.below b1 (by omega)
  have HT1 : Hid (Cells (w.heap.size + 2) w1 [.int .i64 0, .int .i64 0, .int .i64 0, .int .i64 0, .int .i64 0, .int .i64 0, .int .i64 0, .int .i64 0, .slice none 0 0, .slice none 0 0, .slice none 0 0, .slice none 0 0]) := CT.below b1 (by omega)
  have R2 : Hid (PcRow V w0.heap.size w1 (.slice a2 (restM m x.pieces).length c2) (restM m x.pieces)) := r2
  have JO := rjoin_in _ (mineM m x.pieces) w1 r1.s (Nat.le_trans (mine_len m x.pieces) hf.n) (fun p hp => (hf.d p (List.mem_filter.1 hp).1).2)
  have HW : Hid (wholeM x m = joinB (mineM m x.pieces)) := rfl
  have hlog := hf.l
  clear AP c9 RNGC CX CC CT r1 r2 h0 b1 B0
  go_upto_region 3 with (go_at_call 81; refine JO.mono ?_; rintro e w2 ⟨v2, rfl, by2, b2, in2⟩; obtain ⟨ja, jc, rfl, -, -⟩ := by2.ex)
  have s2 := b2.size
  have B2 : Below w.heap.size w w2 := B1.trans (b2.mono (by omega))
  have HX2 : Hid (Cells w.heap.size w2 [.int .i64 x.cf.streams, .int .i64 x.cf.part, .int .i64 x.cf.packet, .int .i64 x.cf.paths, .int .i64 x.cf.turns, .int .i64 x.cf.waiting, .int .i64 x.cf.first, .int .i64 x.cum, .slice sa x.spans.length sc, .slice pa x.pieces.length pc, .slice ta x.turn.length tc, .slice la x.log.length lc]) := HX1.out.below b2 (by omega)
  have HC2 : Hid (Cells (w.heap.size + 1) w2 [.int .i64 c.kind, .int .i64 c.tag, .int .i64 c.stream, .int .i64 c.mid, .int .i64 c.part, .bool c.last, .bool c.ordered, .slice da dn dc, .slice ssa sn ssc, .int .i64 c.room, .slice qa qn qc]) := HC1.out.below b2 (by omega)
  have HT2 : Hid (Cells (w.heap.size + 2) w2 [.int .i64 0, .int .i64 0, .int .i64 0, .int .i64 0, .int .i64 0, .int .i64 0, .int .i64 0, .int .i64 0, .slice none 0 0, .slice none 0 0, .slice none 0 0, .slice none 0 0]) := HT1.out.below b2 (by omega)
  have hw1 : w.heap.size + 3 ≤ w1.heap.size := by omega
  have R22 : Hid (PcRow V w0.heap.size w2 (.slice a2 (restM m x.pieces).length c2) (restM m x.pieces)) := GRow.keep PcI.holds R2.out (toKeep b2 fun k hk => by have := hv k hk; omega) (fun k hk => b2.block k (R2.out.lt hk).2)
  have hr2 := fun k => (fun hk => R22.out.lt (k := k) hk)
  have hw0 : w.heap.size + 3 ≤ w0.heap.size := by omega
  clear JO HX1 HC1 HT1 R2 B1 b2
  have BYJ : Hid (By w2.heap.size w2 (.slice ja (joinD (mineM m x.pieces)).length jc) (joinD (mineM m x.pieces))) := by2
  have INJ : Hid (InS (fun k => w1.heap.size ≤ k) (.slice ja (joinD (mineM m x.pieces)).length jc)) := in2
  clear by2 in2
  generalize hjd : joinD (mineM m x.pieces) = jd at *
  have HJD : Hid (joinD (mineM m x.pieces) = jd) := hjd
  clear hjd
  cases hj : joinB (mineM m x.pieces) with
  | false =>
    have HWH : Hid (wholeM x m = false) := by show _ = _; rw [HW.out, hj]
    cases any with
    | false =>
      have RNG := HX2.out.range
      have TH : w2.there (w.heap.size + 2) 0 12 := HT2.out.there
      have CE := HT2.out.setAll [.int .i64 x.cf.streams, .int .i64 x.cf.part, .int .i64 x.cf.packet, .int .i64 x.cf.paths, .int .i64 x.cf.turns, .int .i64 x.cf.waiting, .int .i64 x.cf.first, .int .i64 x.cum, .slice sa x.spans.length sc, .slice pa x.pieces.length pc, .slice ta x.turn.length tc, .slice la x.log.length lc] rfl
      have e0 := CE.cell 0 _ rfl
      have e1 := CE.cell 1 _ rfl
      have e2 := CE.cell 2 _ rfl
      have e3 := CE.cell 3 _ rfl
      have e4 := CE.cell 4 _ rfl
      have e5 := CE.cell 5 _ rfl
      have e6 := CE.cell 6 _ rfl
      have e7 := CE.cell 7 _ rfl
      have e8 := CE.cell 8 _ rfl
      have e9 := CE.cell 9 _ rfl
      have e10 := CE.cell 10 _ rfl
      have e11 := CE.cell 11 _ rfl
      have KE : Keep (fun k => k ≠ w.heap.size + 2) w2 (w2.setCells (w.heap.size + 2) 0 [.int .i64 x.cf.streams, .int .i64 x.cf.part, .int .i64 x.cf.packet, .int .i64 x.cf.paths, .int .i64 x.cf.turns, .int .i64 x.cf.waiting, .int .i64 x.cf.first, .int .i64 x.cum, .slice sa x.spans.length sc, .slice pa x.pieces.length pc, .slice ta x.turn.length tc, .slice la x.log.length lc]) := Keep.setCells (fun h => h rfl) _ _ (Keep.refl _ _)
      have BE : Below w.heap.size w (w2.setCells (w.heap.size + 2) 0 [.int .i64 x.cf.streams, .int .i64 x.cf.part, .int .i64 x.cf.packet, .int .i64 x.cf.paths, .int .i64 x.cf.turns, .int .i64 x.cf.waiting, .int .i64 x.cf.first, .int .i64 x.cum, .slice sa x.spans.length sc, .slice pa x.pieces.length pc, .slice ta x.turn.length tc, .slice la x.log.length lc]) := Below.setCells (by omega) _ _ B2
      have FIN : Hid (RvI (fun k => V k ∨ w.heap.size ≤ k) (w2.setCells (w.heap.size + 2) 0 [.int .i64 x.cf.streams, .int .i64 x.cf.part, .int .i64 x.cf.packet, .int .i64 x.cf.paths, .int .i64 x.cf.turns, .int .i64 x.cf.waiting, .int .i64 x.cf.first, .int .i64 x.cum, .slice sa x.spans.length sc, .slice pa x.pieces.length pc, .slice ta x.turn.length tc, .slice la x.log.length lc]) x (.slice sa x.spans.length sc) (.slice pa x.pieces.length pc) (.slice ta x.turn.length tc) (.slice la x.log.length lc)) := (HH.out.keep ((toKeep B2 fun k hk => hv k hk).trans (KE.mono fun k hk => by have := hv k hk; omega))).mono fun _ hk => .inl hk
      clear CE KE
      go_wp2_with (first
        | refine wpList_ldR rfl (.tmp 3) rfl w.heap.size 0 rfl x _ _ _ _ (by with_reducible exact RNG) ?_
        | refine wpList_srN 47 12 Try.sizeRv rfl (.tmp 6) (.tmp 46) rfl (w.heap.size + 2) 0 rfl [.int .i64 x.cf.streams, .int .i64 x.cf.part, .int .i64 x.cf.packet, .int .i64 x.cf.paths, .int .i64 x.cf.turns, .int .i64 x.cf.waiting, .int .i64 x.cf.first, .int .i64 x.cum, .slice sa x.spans.length sc, .slice pa x.pieces.length pc, .slice ta x.turn.length tc, .slice la x.log.length lc] rfl rfl rfl (by with_reducible exact TH) ?_)
      generalize w2.setCells (w.heap.size + 2) 0 [.int .i64 x.cf.streams, .int .i64 x.cf.part, .int .i64 x.cf.packet, .int .i64 x.cf.paths, .int .i64 x.cf.turns, .int .i64 x.cf.waiting, .int .i64 x.cf.first, .int .i64 x.cum, .slice sa x.spans.length sc, .slice pa x.pieces.length pc, .slice ta x.turn.length tc, .slice la x.log.length lc] = w9 at *
      refine bodyPost_ret (v := .tuple #[.agg #[.int .i64 x.cf.streams, .int .i64 x.cf.part, .int .i64 x.cf.packet, .int .i64 x.cf.paths, .int .i64 x.cf.turns, .int .i64 x.cf.waiting, .int .i64 x.cf.first, .int .i64 x.cum, .slice sa x.spans.length sc, .slice pa x.pieces.length pc, .slice ta x.turn.length tc, .slice la x.log.length lc], .bool false]) (by simp [results, Try.results66, go_sem, e0, e1, e2, e3, e4, e5, e6, e7, e8, e9, e10, e11]) rfl ?_
      rw [delM_stays HWH.out, HWH.out]
      exact ⟨_, _, _, _, rfl, FIN.out, BE⟩
    | true =>
      have KP := Keep.setCell (Keep.refl (fun k => k ≠ w.heap.size) w2) (p := ⟨w.heap.size, 9, none⟩) (fun h => h rfl) (.slice a2 (restM m x.pieces).length c2)
      have HX3 : Hid (Cells w.heap.size (w2.setCell ⟨w.heap.size, 9, none⟩ (.slice a2 (restM m x.pieces).length c2)) [.int .i64 x.cf.streams, .int .i64 x.cf.part, .int .i64 x.cf.packet, .int .i64 x.cf.paths, .int .i64 x.cf.turns, .int .i64 x.cf.waiting, .int .i64 x.cf.first, .int .i64 x.cum, .slice sa x.spans.length sc, .slice a2 (restM m x.pieces).length c2, .slice ta x.turn.length tc, .slice la x.log.length lc]) := HX2.out.set 9 (.slice a2 (restM m x.pieces).length c2) (by simp)
      have HT3 : Hid (Cells (w.heap.size + 2) (w2.setCell ⟨w.heap.size, 9, none⟩ (.slice a2 (restM m x.pieces).length c2)) [.int .i64 0, .int .i64 0, .int .i64 0, .int .i64 0, .int .i64 0, .int .i64 0, .int .i64 0, .int .i64 0, .slice none 0 0, .slice none 0 0, .slice none 0 0, .slice none 0 0]) := HT2.out.keep KP (by omega)
      have R23 : Hid (PcRow V w0.heap.size (w2.setCell ⟨w.heap.size, 9, none⟩ (.slice a2 (restM m x.pieces).length c2)) (.slice a2 (restM m x.pieces).length c2) (restM m x.pieces)) := GRow.keep PcI.holds R22.out (KP.mono fun k hk => by have := hv k hk; omega) (fun k hk => KP.block k (by have := (R22.out.lt hk).1; omega))
      have B3 : Below w.heap.size w (w2.setCell ⟨w.heap.size, 9, none⟩ (.slice a2 (restM m x.pieces).length c2)) := B2.setCell (Nat.le_refl _) _
      have x9 := HX2.out.cell 9 _ rfl
      have g9 := HX2.out.fz 9
      clear KP HX2 HT2 R22 HC2 B2 hr2
      go_upto_region 7 with fail
      generalize w2.setCell ⟨w.heap.size, 9, none⟩ (.slice a2 (restM m x.pieces).length c2) = w3 at *
      clear x9 g9
      have RNG := HX3.out.range
      have TH : w3.there (w.heap.size + 2) 0 12 := HT3.out.there
      have CE := HT3.out.setAll [.int .i64 x.cf.streams, .int .i64 x.cf.part, .int .i64 x.cf.packet, .int .i64 x.cf.paths, .int .i64 x.cf.turns, .int .i64 x.cf.waiting, .int .i64 x.cf.first, .int .i64 x.cum, .slice sa x.spans.length sc, .slice a2 (restM m x.pieces).length c2, .slice ta x.turn.length tc, .slice la x.log.length lc] rfl
      have e0 := CE.cell 0 _ rfl
      have e1 := CE.cell 1 _ rfl
      have e2 := CE.cell 2 _ rfl
      have e3 := CE.cell 3 _ rfl
      have e4 := CE.cell 4 _ rfl
      have e5 := CE.cell 5 _ rfl
      have e6 := CE.cell 6 _ rfl
      have e7 := CE.cell 7 _ rfl
      have e8 := CE.cell 8 _ rfl
      have e9 := CE.cell 9 _ rfl
      have e10 := CE.cell 10 _ rfl
      have e11 := CE.cell 11 _ rfl
      have KE : Keep (fun k => k ≠ w.heap.size + 2) w3 (w3.setCells (w.heap.size + 2) 0 [.int .i64 x.cf.streams, .int .i64 x.cf.part, .int .i64 x.cf.packet, .int .i64 x.cf.paths, .int .i64 x.cf.turns, .int .i64 x.cf.waiting, .int .i64 x.cf.first, .int .i64 x.cum, .slice sa x.spans.length sc, .slice a2 (restM m x.pieces).length c2, .slice ta x.turn.length tc, .slice la x.log.length lc]) := Keep.setCells (fun h => h rfl) _ _ (Keep.refl _ _)
      have BE : Below w.heap.size w (w3.setCells (w.heap.size + 2) 0 [.int .i64 x.cf.streams, .int .i64 x.cf.part, .int .i64 x.cf.packet, .int .i64 x.cf.paths, .int .i64 x.cf.turns, .int .i64 x.cf.waiting, .int .i64 x.cf.first, .int .i64 x.cum, .slice sa x.spans.length sc, .slice a2 (restM m x.pieces).length c2, .slice ta x.turn.length tc, .slice la x.log.length lc]) := Below.setCells (by omega) _ _ B3
      have FIN : Hid (RvI (fun k => V k ∨ w.heap.size ≤ k) (w3.setCells (w.heap.size + 2) 0 [.int .i64 x.cf.streams, .int .i64 x.cf.part, .int .i64 x.cf.packet, .int .i64 x.cf.paths, .int .i64 x.cf.turns, .int .i64 x.cf.waiting, .int .i64 x.cf.first, .int .i64 x.cum, .slice sa x.spans.length sc, .slice a2 (restM m x.pieces).length c2, .slice ta x.turn.length tc, .slice la x.log.length lc]) { x with pieces := restM m x.pieces } (.slice sa x.spans.length sc) (.slice a2 (restM m x.pieces).length c2) (.slice ta x.turn.length tc) (.slice la x.log.length lc)) := (HH.out.keep ((toKeep B3 fun k hk => hv k hk).trans (KE.mono fun k hk => by have := hv k hk; omega))).withP (GRow.keep PcI.holds R23.out (KE.mono fun k hk => by have := hv k hk; omega) (fun k hk => KE.block k (by have := (R23.out.lt hk).1; omega))) (fun _ hk => .inl hk) (fun _ hk => .inr (by omega))
      clear CE KE
      go_wp2_with (first
        | refine wpList_ldR rfl (.tmp 3) rfl w.heap.size 0 rfl x _ _ _ _ (by with_reducible exact RNG) ?_
        | refine wpList_srN 47 12 Try.sizeRv rfl (.tmp 6) (.tmp 46) rfl (w.heap.size + 2) 0 rfl [.int .i64 x.cf.streams, .int .i64 x.cf.part, .int .i64 x.cf.packet, .int .i64 x.cf.paths, .int .i64 x.cf.turns, .int .i64 x.cf.waiting, .int .i64 x.cf.first, .int .i64 x.cum, .slice sa x.spans.length sc, .slice a2 (restM m x.pieces).length c2, .slice ta x.turn.length tc, .slice la x.log.length lc] rfl rfl rfl (by with_reducible exact TH) ?_)
      generalize w3.setCells (w.heap.size + 2) 0 [.int .i64 x.cf.streams, .int .i64 x.cf.part, .int .i64 x.cf.packet, .int .i64 x.cf.paths, .int .i64 x.cf.turns, .int .i64 x.cf.waiting, .int .i64 x.cf.first, .int .i64 x.cum, .slice sa x.spans.length sc, .slice a2 (restM m x.pieces).length c2, .slice ta x.turn.length tc, .slice la x.log.length lc] = w9 at *
      refine bodyPost_ret (v := .tuple #[.agg #[.int .i64 x.cf.streams, .int .i64 x.cf.part, .int .i64 x.cf.packet, .int .i64 x.cf.paths, .int .i64 x.cf.turns, .int .i64 x.cf.waiting, .int .i64 x.cf.first, .int .i64 x.cum, .slice sa x.spans.length sc, .slice a2 (restM m x.pieces).length c2, .slice ta x.turn.length tc, .slice la x.log.length lc], .bool false]) (by simp [results, Try.results66, go_sem, e0, e1, e2, e3, e4, e5, e6, e7, e8, e9, e10, e11]) rfl ?_
      rw [delM_any HWH.out, HWH.out]
      exact ⟨_, _, _, _, rfl, FIN.out, BE⟩
  | true =>
    have HWH : Hid (wholeM x m = true) := by show _ = _; rw [HW.out, hj]
    have hrv := HH.out.keep (toKeep B2 fun k hk => hv k hk)
    obtain ⟨us, hu1, hu2⟩ := hrv.l
    have HU : Hid (All2 (AvI V w2) us x.log) := hu1
    have one : ∀ u ∈ flatV us, u.oneCell' = true := by
      have := flatV_one (c := 4) (R := fun _ _ v x => AvI V w2 v x) (B := 0) (w := w2) (fun v x h => AvI.holds.one h) hu1
      exact this
    have hul := (all2_flatH AvI.holds hu1).1
    have BD : Below w2.heap.size w2 w2.drew := below_drew' (Below.refl _ _)
    have hln : x.log.length + 1 ≤ 2097153 := by omega
    have FINAL : Hid (∀ (v5 : Value) (w5 : World), w5.ownsRow w2.heap.size 59 4 v5 (x.log.length + 1) (flatV us ++ [.int .i64 c.stream, .int .i64 c.mid, .bool c.ordered, .slice ja jd.length jc]) → Below w2.heap.size w2 w5 → ∃ (a5 : Option Addr) (c5 : Nat), v5 = .slice a5 (x.log.length + 1) c5 ∧ AvRow (fun k => V k ∨ w.heap.size ≤ k ∧ k < w2.heap.size ∧ k ≠ w.heap.size ∧ k ≠ w.heap.size + 2) w2.heap.size (w5.setCell ⟨w.heap.size, 11, none⟩ (.slice a5 (x.log.length + 1) c5)) (.slice a5 (x.log.length + 1) c5) (x.log ++ [⟨m.stream, m.mid, m.ordered, jd⟩]) ∧ Cells w.heap.size (w5.setCell ⟨w.heap.size, 11, none⟩ (.slice a5 (x.log.length + 1) c5)) [.int .i64 x.cf.streams, .int .i64 x.cf.part, .int .i64 x.cf.packet, .int .i64 x.cf.paths, .int .i64 x.cf.turns, .int .i64 x.cf.waiting, .int .i64 x.cf.first, .int .i64 x.cum, .slice sa x.spans.length sc, .slice pa x.pieces.length pc, .slice ta x.turn.length tc, .slice a5 (x.log.length + 1) c5] ∧ Cells (w.heap.size + 2) (w5.setCell ⟨w.heap.size, 11, none⟩ (.slice a5 (x.log.length + 1) c5)) [.int .i64 0, .int .i64 0, .int .i64 0, .int .i64 0, .int .i64 0, .int .i64 0, .int .i64 0, .int .i64 0, .slice none 0 0, .slice none 0 0, .slice none 0 0, .slice none 0 0] ∧ PcRow V w0.heap.size (w5.setCell ⟨w.heap.size, 11, none⟩ (.slice a5 (x.log.length + 1) c5)) (.slice a2 (restM m x.pieces).length c2) (restM m x.pieces) ∧ Below w.heap.size w (w5.setCell ⟨w.heap.size, 11, none⟩ (.slice a5 (x.log.length + 1) c5)) ∧ w5.cell? ⟨w.heap.size, 11, none⟩ = some (.slice la x.log.length lc) ∧ w5.frozen? ⟨w.heap.size, 11, none⟩ = false) := fun v5 w5 o5 b5 => by
      obtain ⟨a5, c5, rfl⟩ := own_form o5
      have s5 := b5.size
      have KS := Keep.setCell (Keep.refl (fun k => k ≠ w.heap.size) w5) (p := ⟨w.heap.size, 11, none⟩) (fun h => h rfl) (.slice a5 (x.log.length + 1) c5)
      have HX5 := HX2.out.below b5 (by omega)
      have hA : All2 (AvI (fun k => V k ∨ w.heap.size ≤ k ∧ k < w2.heap.size ∧ k ≠ w.heap.size ∧ k ≠ w.heap.size + 2) w5) (us ++ [avVal ⟨m.stream, m.mid, m.ordered, jd⟩ (.slice ja jd.length jc)]) (x.log ++ [⟨m.stream, m.mid, m.ordered, jd⟩]) := All2.append (HU.out.imp fun _ _ h => AvI.holds.mono (AvI.holds.keep h (toKeep b5 fun k hk => by have := hv k hk; omega)) fun _ hk => .inl hk) ⟨⟨_, rfl, (By.below BYJ.out b5 (Nat.le_refl _)).mono s5, fun b off sp n cc e hn => .inr ⟨by have := INJ.out b off sp n cc e hn; omega, (BYJ.out.1.ins) b off sp n cc e hn, by have := INJ.out b off sp n cc e hn; omega, by have := INJ.out b off sp n cc e hn; omega⟩⟩, trivial⟩
      have row : AvRow (fun k => V k ∨ w.heap.size ≤ k ∧ k < w2.heap.size ∧ k ≠ w.heap.size ∧ k ≠ w.heap.size + 2) w2.heap.size w5 (.slice a5 (x.log.length + 1) c5) (x.log ++ [⟨m.stream, m.mid, m.ordered, jd⟩]) := by
        refine ⟨_, hA, ?_⟩
        rw [flatV_append, List.length_append, show flatV [avVal ⟨m.stream, m.mid, m.ordered, jd⟩ (.slice ja jd.length jc)] = [.int .i64 c.stream, .int .i64 c.mid, .bool c.ordered, .slice ja jd.length jc] by rw [HM.out]; simp [flatV, avVal, Value.cells]]
        exact o5
      refine ⟨a5, c5, rfl, GRow.keep AvI.holds row (KS.mono fun k hk => hk.elim (fun h => by have := hv k h; omega) fun h => h.2.2.1) (fun k hk => KS.block k (by have := (row.lt hk).1; omega)), HX5.set 11 _ (by simp), (HT2.out.below b5 (by omega)).keep KS (by omega), GRow.keep PcI.holds (GRow.keep PcI.holds R22.out (toKeep b5 fun k hk => by have := hv k hk; omega) (fun k hk => b5.block k (R22.out.lt hk).2)) (KS.mono fun k hk => by have := hv k hk; omega) (fun k hk => KS.block k (by have := (R22.out.lt hk).1; omega)), (B2.trans (b5.mono B2.size)).setCell (Nat.le_refl _) _, HX5.cell 11 _ rfl, HX5.fz 11⟩
    have x11 := HX2.out.cell 11 _ rfl
    have m0 := HC2.out.cell 2 _ rfl
    have m1 := HC2.out.cell 3 _ rfl
    have m2 := HC2.out.cell 6 _ rfl
    have hxw : w.heap.size < w2.heap.size := by omega
    have hcw : w.heap.size + 1 < w2.heap.size := by omega
    have HU2 : Hid (Rw 4 w2.heap.size w2 (.slice la x.log.length lc) x.log.length (flatV us)) := hu2
    have HON : Hid (∀ u ∈ flatV us, u.oneCell' = true) := one
    clear hu1 hu2 hrv one
    go_upto_region 4 with fail
    refine wp_region_late (fun w' => w'.cell? ⟨w.heap.size, 11, none⟩ = some (.slice la x.log.length lc) ∧ w'.cell? ⟨w.heap.size + 1, 2, none⟩ = some (.int .i64 c.stream) ∧ w'.cell? ⟨w.heap.size + 1, 3, none⟩ = some (.int .i64 c.mid) ∧ w'.cell? ⟨w.heap.size + 1, 6, none⟩ = some (.bool c.ordered)) [15] (by kernel_rfl) ?_
    have hS0 := (⟨x11, m0, m1, m2⟩ : (fun w' : World => w'.cell? ⟨w.heap.size, 11, none⟩ = some (.slice la x.log.length lc) ∧ w'.cell? ⟨w.heap.size + 1, 2, none⟩ = some (.int .i64 c.stream) ∧ w'.cell? ⟨w.heap.size + 1, 3, none⟩ = some (.int .i64 c.mid) ∧ w'.cell? ⟨w.heap.size + 1, 6, none⟩ = some (.bool c.ordered)) w2.drew)
    refine wpAnyL_take (i := 1) (oi := ({ dst := some 26, op := Op.fieldAddr 47 (Operand.tmp 3) 5, type := 0, pos := "ref.go:309", after := #[], guard := none } : Oper)) (v := ?vb1) [2, 3, 13, 14, 15] rfl (by kernel_rfl) (by kernel_rfl) (by kernel_rfl) (by kernel_rfl) (by kernel_rfl) (fun _ _ _ h => h) (Or.inl ⟨by rfl, ?hb1⟩) hS0 ?_
    case hb1 => (intro w hSw; have q1 := hSw.1; have q2 := hSw.2.1; have q3 := hSw.2.2.1; have q4 := hSw.2.2.2; go_simp; try with_reducible rfl)
    try simp only [Act.put, List.setIfInBounds_toArray, List.set_cons_zero, List.set_cons_succ]
    refine wpAnyL_take (i := 2) (oi := ({ dst := some 27, op := Op.load 45 (Operand.tmp 26), type := 45, pos := "ref.go:309", after := #[{ on := 1, ground := Ground.data }], guard := none } : Oper)) (v := ?vb2) [3, 13, 14, 15] rfl (by kernel_rfl) (by kernel_rfl) (by kernel_rfl) (by kernel_rfl) (by kernel_rfl) (fun _ _ _ h => h) (Or.inl ⟨by rfl, ?hb2⟩) hS0 ?_
    case hb2 => (intro w hSw; have q1 := hSw.1; have q2 := hSw.2.1; have q3 := hSw.2.2.1; have q4 := hSw.2.2.2; go_simp; try with_reducible rfl)
    try simp only [Act.put, List.setIfInBounds_toArray, List.set_cons_zero, List.set_cons_succ]
    refine wpAnyL_take (i := 4) (oi := ({ dst := some 29, op := Op.fieldAddr 42 (Operand.tmp 4) 2, type := 0, pos := "ref.go:309", after := #[], guard := none } : Oper)) (v := ?vb3) [5, 11, 12, 13, 14, 15] rfl (by kernel_rfl) (by kernel_rfl) (by kernel_rfl) (by kernel_rfl) (by kernel_rfl) (fun _ _ _ h => h) (Or.inl ⟨by rfl, ?hb3⟩) hS0 ?_
    case hb3 => (intro w hSw; have q1 := hSw.1; have q2 := hSw.2.1; have q3 := hSw.2.2.1; have q4 := hSw.2.2.2; go_simp; try with_reducible rfl)
    try simp only [Act.put, List.setIfInBounds_toArray, List.set_cons_zero, List.set_cons_succ]
    refine wpAnyL_take (i := 5) (oi := ({ dst := some 30, op := Op.load 3 (Operand.tmp 29), type := 3, pos := "ref.go:309", after := #[{ on := 4, ground := Ground.data }], guard := none } : Oper)) (v := ?vb4) [11, 12, 13, 14, 15] rfl (by kernel_rfl) (by kernel_rfl) (by kernel_rfl) (by kernel_rfl) (by kernel_rfl) (fun _ _ _ h => h) (Or.inl ⟨by rfl, ?hb4⟩) hS0 ?_
    case hb4 => (intro w hSw; have q1 := hSw.1; have q2 := hSw.2.1; have q3 := hSw.2.2.1; have q4 := hSw.2.2.2; go_simp; try with_reducible rfl)
    try simp only [Act.put, List.setIfInBounds_toArray, List.set_cons_zero, List.set_cons_succ]
    refine wpAnyL_take (i := 6) (oi := ({ dst := some 31, op := Op.fieldAddr 42 (Operand.tmp 4) 3, type := 0, pos := "ref.go:309", after := #[], guard := none } : Oper)) (v := ?vb5) [7, 11, 12, 13, 14, 15] rfl (by kernel_rfl) (by kernel_rfl) (by kernel_rfl) (by kernel_rfl) (by kernel_rfl) (fun _ _ _ h => h) (Or.inl ⟨by rfl, ?hb5⟩) hS0 ?_
    case hb5 => (intro w hSw; have q1 := hSw.1; have q2 := hSw.2.1; have q3 := hSw.2.2.1; have q4 := hSw.2.2.2; go_simp; try with_reducible rfl)
    try simp only [Act.put, List.setIfInBounds_toArray, List.set_cons_zero, List.set_cons_succ]
    refine wpAnyL_take (i := 7) (oi := ({ dst := some 32, op := Op.load 3 (Operand.tmp 31), type := 3, pos := "ref.go:309", after := #[{ on := 6, ground := Ground.data }], guard := none } : Oper)) (v := ?vb6) [11, 12, 13, 14, 15] rfl (by kernel_rfl) (by kernel_rfl) (by kernel_rfl) (by kernel_rfl) (by kernel_rfl) (fun _ _ _ h => h) (Or.inl ⟨by rfl, ?hb6⟩) hS0 ?_
    case hb6 => (intro w hSw; have q1 := hSw.1; have q2 := hSw.2.1; have q3 := hSw.2.2.1; have q4 := hSw.2.2.2; go_simp; try with_reducible rfl)
    try simp only [Act.put, List.setIfInBounds_toArray, List.set_cons_zero, List.set_cons_succ]
    refine wpAnyL_take (i := 8) (oi := ({ dst := some 33, op := Op.fieldAddr 42 (Operand.tmp 4) 6, type := 0, pos := "ref.go:309", after := #[], guard := none } : Oper)) (v := ?vb7) [9, 11, 12, 13, 14, 15] rfl (by kernel_rfl) (by kernel_rfl) (by kernel_rfl) (by kernel_rfl) (by kernel_rfl) (fun _ _ _ h => h) (Or.inl ⟨by rfl, ?hb7⟩) hS0 ?_
    case hb7 => (intro w hSw; have q1 := hSw.1; have q2 := hSw.2.1; have q3 := hSw.2.2.1; have q4 := hSw.2.2.2; go_simp; try with_reducible rfl)
    try simp only [Act.put, List.setIfInBounds_toArray, List.set_cons_zero, List.set_cons_succ]
    refine wpAnyL_take (i := 9) (oi := ({ dst := some 34, op := Op.load 4 (Operand.tmp 33), type := 4, pos := "ref.go:309", after := #[{ on := 8, ground := Ground.data }], guard := none } : Oper)) (v := ?vb8) [11, 12, 13, 14, 15] rfl (by kernel_rfl) (by kernel_rfl) (by kernel_rfl) (by kernel_rfl) (by kernel_rfl) (fun _ _ _ h => h) (Or.inl ⟨by rfl, ?hb8⟩) hS0 ?_
    case hb8 => (intro w hSw; have q1 := hSw.1; have q2 := hSw.2.1; have q3 := hSw.2.2.1; have q4 := hSw.2.2.2; go_simp; try with_reducible rfl)
    try simp only [Act.put, List.setIfInBounds_toArray, List.set_cons_zero, List.set_cons_succ]
    refine wpAnyL_take (i := 10) (oi := ({ dst := some 35, op := Op.move (Operand.tmp 10), type := 38, pos := "ref.go:309", after := #[], guard := none } : Oper)) (v := ?vb9) [11, 12, 13, 14, 15] rfl (by kernel_rfl) (by kernel_rfl) (by kernel_rfl) (by kernel_rfl) (by kernel_rfl) (fun _ _ _ h => h) (Or.inl ⟨by rfl, ?hb9⟩) hS0 ?_
    case hb9 => (intro w hSw; have q1 := hSw.1; have q2 := hSw.2.1; have q3 := hSw.2.2.1; have q4 := hSw.2.2.2; go_simp; try with_reducible rfl)
    try simp only [Act.put, List.setIfInBounds_toArray, List.set_cons_zero, List.set_cons_succ]
    refine wpAnyL_take (i := 11) (oi := ({ dst := some 36, op := Op.build 59 #[(0, Operand.tmp 30), (1, Operand.tmp 32), (2, Operand.tmp 34), (3, Operand.tmp 35)], type := 59, pos := "ref.go:309", after := #[{ on := 5, ground := Ground.data }, { on := 7, ground := Ground.data }, { on := 9, ground := Ground.data }, { on := 10, ground := Ground.data }], guard := none } : Oper)) (v := ?vb10) [12, 13, 14, 15] rfl (by kernel_rfl) (by kernel_rfl) (by kernel_rfl) (by kernel_rfl) (by kernel_rfl) (fun _ _ _ h => h) (Or.inl ⟨by rfl, ?hb10⟩) hS0 ?_
    case hb10 => (intro w hSw; have q1 := hSw.1; have q2 := hSw.2.1; have q3 := hSw.2.2.1; have q4 := hSw.2.2.2; go_simp; try with_reducible rfl)
    try simp only [Act.put, List.setIfInBounds_toArray, List.set_cons_zero, List.set_cons_succ]
    refine seg_app2 (T := 45) (E := 59) (k := 4) Try.underlying45 Try.infoAv rfl (by decide) 2 0 3 12 13 25 28 37 38 ({ dst := some 25, op := Op.buildSlice 45 0 #[], type := 45, pos := "ref.go:309", after := #[], guard := none } : Oper) ({ dst := some 28, op := Op.call { callee := Callee.builtin Builtin.append, args := #[Operand.tmp 25, Operand.tmp 27], argTypes := #[45, 45] }, type := 45, pos := "ref.go:309", after := #[{ on := 0, ground := Ground.data }, { on := 2, ground := Ground.data }], guard := none } : Oper) ({ dst := some 37, op := Op.buildSlice 45 1 #[(0, Operand.tmp 36)], type := 45, pos := "ref.go:309", after := #[{ on := 11, ground := Ground.data }], guard := none } : Oper) ({ dst := some 38, op := Op.call { callee := Callee.builtin Builtin.append, args := #[Operand.tmp 28, Operand.tmp 37], argTypes := #[45, 45] }, type := 45, pos := "ref.go:309", after := #[{ on := 3, ground := Ground.data }, { on := 12, ground := Ground.data }, { on := 3, ground := Ground.chain }], guard := none } : Oper) ⟨rfl, rfl, rfl, rfl⟩ (.tmp 27) ⟨rfl, rfl, rfl, rfl⟩ (.tmp 36) ⟨rfl, rfl, rfl, rfl⟩ ⟨rfl, rfl, rfl, rfl⟩ (by kernel_rfl) rfl (by decide) (by simp) (by simp) (by kernel_rfl) ⟨by kernel_rfl, by kernel_rfl⟩ _ rfl x.log.length (flatV us) (HU2.out.below BD (Nat.le_refl _)) HON.out _ rfl [.int .i64 c.stream, .int .i64 c.mid, .bool c.ordered, .slice ja jd.length jc] rfl (List.all_eq_true.1 rfl) (by unfold maxLen; omega) (by omega) (fun wx => by go_simp) (fun wx => by go_simp) (fun w' b => ⟨(b.cell (p := ⟨w.heap.size, 11, none⟩) hxw).trans x11, (b.cell (p := ⟨w.heap.size + 1, 2, none⟩) hcw).trans m0, (b.cell (p := ⟨w.heap.size + 1, 3, none⟩) hcw).trans m1, (b.cell (p := ⟨w.heap.size + 1, 6, none⟩) hcw).trans m2⟩) ?_
    clear hS0
    intro vA v1 vB v5 w5 own5 b5
    try simp only [Act.put, List.setIfInBounds_toArray, List.set_cons_zero, List.set_cons_succ]
    obtain ⟨a5, c5, rfl, f1, f2, f3, f4, f5, f6, f7⟩ := FINAL.out v5 w5 own5 (BD.trans b5)
    have ST : (Instr.storeAt 45 (.pointer (some ⟨w.heap.size, 11, none⟩)) (.slice a5 (x.log.length + 1) c5)).run Try.prog w5 = .ok () (w5.setCell ⟨w.heap.size, 11, none⟩ (.slice a5 (x.log.length + 1) c5)) := by go_simp
    have HF1 : Hid (AvRow (fun k => V k ∨ w.heap.size ≤ k ∧ k < w2.heap.size ∧ k ≠ w.heap.size ∧ k ≠ w.heap.size + 2) w2.heap.size (w5.setCell ⟨w.heap.size, 11, none⟩ (.slice a5 (x.log.length + 1) c5)) (.slice a5 (x.log.length + 1) c5) (x.log ++ [⟨m.stream, m.mid, m.ordered, jd⟩])) := f1
    have HF2 : Hid (Cells w.heap.size (w5.setCell ⟨w.heap.size, 11, none⟩ (.slice a5 (x.log.length + 1) c5)) [.int .i64 x.cf.streams, .int .i64 x.cf.part, .int .i64 x.cf.packet, .int .i64 x.cf.paths, .int .i64 x.cf.turns, .int .i64 x.cf.waiting, .int .i64 x.cf.first, .int .i64 x.cum, .slice sa x.spans.length sc, .slice pa x.pieces.length pc, .slice ta x.turn.length tc, .slice a5 (x.log.length + 1) c5]) := f2
    have HF3 : Hid (Cells (w.heap.size + 2) (w5.setCell ⟨w.heap.size, 11, none⟩ (.slice a5 (x.log.length + 1) c5)) [.int .i64 0, .int .i64 0, .int .i64 0, .int .i64 0, .int .i64 0, .int .i64 0, .int .i64 0, .int .i64 0, .slice none 0 0, .slice none 0 0, .slice none 0 0, .slice none 0 0]) := f3
    have HF4 : Hid (PcRow V w0.heap.size (w5.setCell ⟨w.heap.size, 11, none⟩ (.slice a5 (x.log.length + 1) c5)) (.slice a2 (restM m x.pieces).length c2) (restM m x.pieces)) := f4
    have HST : Hid _ := ST
    have hs5 := f5.size
    have y11 := x11
    have n0 := m0
    have n1 := m1
    have n2 := m2
    clear f1 f2 f3 f4 f6 f7 ST x11 m0 m1 m2
    have hS5 : (w5.cell? ⟨w.heap.size, 11, none⟩ = some (.slice la x.log.length lc) ∧ w5.cell? ⟨w.heap.size + 1, 2, none⟩ = some (.int .i64 c.stream) ∧ w5.cell? ⟨w.heap.size + 1, 3, none⟩ = some (.int .i64 c.mid) ∧ w5.cell? ⟨w.heap.size + 1, 6, none⟩ = some (.bool c.ordered)) := ⟨(b5.cell (p := ⟨w.heap.size, 11, none⟩) hxw).trans y11, (b5.cell (p := ⟨w.heap.size + 1, 2, none⟩) hcw).trans n0, (b5.cell (p := ⟨w.heap.size + 1, 3, none⟩) hcw).trans n1, (b5.cell (p := ⟨w.heap.size + 1, 6, none⟩) hcw).trans n2⟩
    refine wpAnyL_take (i := 14) (oi := ({ dst := some 39, op := Op.fieldAddr 47 (Operand.tmp 3) 5, type := 0, pos := "ref.go:309", after := #[{ on := 0, ground := Ground.phase }, { on := 1, ground := Ground.phase }, { on := 2, ground := Ground.phase }, { on := 3, ground := Ground.phase }, { on := 4, ground := Ground.phase }, { on := 5, ground := Ground.phase }, { on := 6, ground := Ground.phase }, { on := 7, ground := Ground.phase }, { on := 8, ground := Ground.phase }, { on := 9, ground := Ground.phase }, { on := 10, ground := Ground.phase }, { on := 11, ground := Ground.phase }, { on := 12, ground := Ground.phase }, { on := 13, ground := Ground.phase }], guard := none } : Oper)) (v := ?vc1) [15] rfl (by kernel_rfl) (by kernel_rfl) (by kernel_rfl) (by kernel_rfl) (by kernel_rfl) (fun _ _ _ h => h) (Or.inl ⟨by rfl, ?hc1⟩) hS5 ?_
    case hc1 => (intro w hSw; go_simp; try with_reducible rfl)
    try simp only [Act.put, List.setIfInBounds_toArray, List.set_cons_zero, List.set_cons_succ]
    refine wpAnyL_one (i := 15) (o := ({ dst := none, op := Op.store 45 (Operand.tmp 39) (Operand.tmp 38), type := 0, pos := "ref.go:309", after := #[{ on := 14, ground := Ground.data }, { on := 13, ground := Ground.data }, { on := 13, ground := Ground.chain }, { on := 0, ground := Ground.phase }, { on := 1, ground := Ground.phase }, { on := 2, ground := Ground.phase }, { on := 3, ground := Ground.phase }, { on := 4, ground := Ground.phase }, { on := 5, ground := Ground.phase }, { on := 6, ground := Ground.phase }, { on := 7, ground := Ground.phase }, { on := 8, ground := Ground.phase }, { on := 9, ground := Ground.phase }, { on := 10, ground := Ground.phase }, { on := 11, ground := Ground.phase }, { on := 12, ground := Ground.phase }, { on := 13, ground := Ground.phase }], guard := none } : Oper)) (by kernel_rfl) rfl (fun K hK => ?_)
    refine step_st (by rfl) 45 (.tmp 39) (.tmp 38) rfl _ _ rfl rfl HST.out ?_
    refine hK _ _ ⟨fun h => absurd (by simp) h, ?_⟩
    clear hK K
    try simp only [Act.put]
    refine wpAnyL_done (by kernel_rfl) ?_ _
    clear HST
    generalize w5.setCell ⟨w.heap.size, 11, none⟩ (.slice a5 (x.log.length + 1) c5) = w6 at *
    have KP := Keep.setCell (Keep.refl (fun k => k ≠ w.heap.size) w6) (p := ⟨w.heap.size, 9, none⟩) (fun h => h rfl) (.slice a2 (restM m x.pieces).length c2)
    have HX7 : Hid (Cells w.heap.size (w6.setCell ⟨w.heap.size, 9, none⟩ (.slice a2 (restM m x.pieces).length c2)) [.int .i64 x.cf.streams, .int .i64 x.cf.part, .int .i64 x.cf.packet, .int .i64 x.cf.paths, .int .i64 x.cf.turns, .int .i64 x.cf.waiting, .int .i64 x.cf.first, .int .i64 x.cum, .slice sa x.spans.length sc, .slice a2 (restM m x.pieces).length c2, .slice ta x.turn.length tc, .slice a5 (x.log.length + 1) c5]) := HF2.out.set 9 (.slice a2 (restM m x.pieces).length c2) (by simp)
    have HT7 : Hid (Cells (w.heap.size + 2) (w6.setCell ⟨w.heap.size, 9, none⟩ (.slice a2 (restM m x.pieces).length c2)) [.int .i64 0, .int .i64 0, .int .i64 0, .int .i64 0, .int .i64 0, .int .i64 0, .int .i64 0, .int .i64 0, .slice none 0 0, .slice none 0 0, .slice none 0 0, .slice none 0 0]) := HF3.out.keep KP (by omega)
    have HP7 : Hid (PcRow V w0.heap.size (w6.setCell ⟨w.heap.size, 9, none⟩ (.slice a2 (restM m x.pieces).length c2)) (.slice a2 (restM m x.pieces).length c2) (restM m x.pieces)) := GRow.keep PcI.holds HF4.out (KP.mono fun k hk => by have := hv k hk; omega) (fun k hk => KP.block k (by have := (HF4.out.lt hk).1; omega))
    have HL7 : Hid (AvRow (fun k => V k ∨ w.heap.size ≤ k ∧ k < w2.heap.size ∧ k ≠ w.heap.size ∧ k ≠ w.heap.size + 2) w2.heap.size (w6.setCell ⟨w.heap.size, 9, none⟩ (.slice a2 (restM m x.pieces).length c2)) (.slice a5 (x.log.length + 1) c5) (x.log ++ [⟨m.stream, m.mid, m.ordered, jd⟩])) := GRow.keep AvI.holds HF1.out (KP.mono fun k hk => hk.elim (fun h => by have := hv k h; omega) fun h => h.2.2.1) (fun k hk => KP.block k (by have := (HF1.out.lt hk).1; omega))
    have B7 : Below w.heap.size w (w6.setCell ⟨w.heap.size, 9, none⟩ (.slice a2 (restM m x.pieces).length c2)) := f5.setCell (Nat.le_refl _) _
    have x9 := HF2.out.cell 9 _ rfl
    have g9 := HF2.out.fz 9
    clear KP HX2 HC2 HT2 R22 B2 hr2 FINAL HF1 HF2 HF3 HF4 f5 b5 own5
    go_upto_region 7 with fail
    generalize w6.setCell ⟨w.heap.size, 9, none⟩ (.slice a2 (restM m x.pieces).length c2) = w7 at *
    clear x9 g9
    have RNG := HX7.out.range
    have TH : w7.there (w.heap.size + 2) 0 12 := HT7.out.there
    have CE := HT7.out.setAll [.int .i64 x.cf.streams, .int .i64 x.cf.part, .int .i64 x.cf.packet, .int .i64 x.cf.paths, .int .i64 x.cf.turns, .int .i64 x.cf.waiting, .int .i64 x.cf.first, .int .i64 x.cum, .slice sa x.spans.length sc, .slice a2 (restM m x.pieces).length c2, .slice ta x.turn.length tc, .slice a5 (x.log.length + 1) c5] rfl
    have e0 := CE.cell 0 _ rfl
    have e1 := CE.cell 1 _ rfl
    have e2 := CE.cell 2 _ rfl
    have e3 := CE.cell 3 _ rfl
    have e4 := CE.cell 4 _ rfl
    have e5 := CE.cell 5 _ rfl
    have e6 := CE.cell 6 _ rfl
    have e7 := CE.cell 7 _ rfl
    have e8 := CE.cell 8 _ rfl
    have e9 := CE.cell 9 _ rfl
    have e10 := CE.cell 10 _ rfl
    have e11 := CE.cell 11 _ rfl
    have KE : Keep (fun k => k ≠ w.heap.size + 2) w7 (w7.setCells (w.heap.size + 2) 0 [.int .i64 x.cf.streams, .int .i64 x.cf.part, .int .i64 x.cf.packet, .int .i64 x.cf.paths, .int .i64 x.cf.turns, .int .i64 x.cf.waiting, .int .i64 x.cf.first, .int .i64 x.cum, .slice sa x.spans.length sc, .slice a2 (restM m x.pieces).length c2, .slice ta x.turn.length tc, .slice a5 (x.log.length + 1) c5]) := Keep.setCells (fun h => h rfl) _ _ (Keep.refl _ _)
    have BE : Below w.heap.size w (w7.setCells (w.heap.size + 2) 0 [.int .i64 x.cf.streams, .int .i64 x.cf.part, .int .i64 x.cf.packet, .int .i64 x.cf.paths, .int .i64 x.cf.turns, .int .i64 x.cf.waiting, .int .i64 x.cf.first, .int .i64 x.cum, .slice sa x.spans.length sc, .slice a2 (restM m x.pieces).length c2, .slice ta x.turn.length tc, .slice a5 (x.log.length + 1) c5]) := Below.setCells (by omega) _ _ B7
    have FIN : Hid (RvI (fun k => V k ∨ w.heap.size ≤ k) (w7.setCells (w.heap.size + 2) 0 [.int .i64 x.cf.streams, .int .i64 x.cf.part, .int .i64 x.cf.packet, .int .i64 x.cf.paths, .int .i64 x.cf.turns, .int .i64 x.cf.waiting, .int .i64 x.cf.first, .int .i64 x.cum, .slice sa x.spans.length sc, .slice a2 (restM m x.pieces).length c2, .slice ta x.turn.length tc, .slice a5 (x.log.length + 1) c5]) { x with log := x.log ++ [⟨m.stream, m.mid, m.ordered, jd⟩], pieces := restM m x.pieces } (.slice sa x.spans.length sc) (.slice a2 (restM m x.pieces).length c2) (.slice ta x.turn.length tc) (.slice a5 (x.log.length + 1) c5)) := by
      have r0 : RvI V (w7.setCells (w.heap.size + 2) 0 [.int .i64 x.cf.streams, .int .i64 x.cf.part, .int .i64 x.cf.packet, .int .i64 x.cf.paths, .int .i64 x.cf.turns, .int .i64 x.cf.waiting, .int .i64 x.cf.first, .int .i64 x.cum, .slice sa x.spans.length sc, .slice a2 (restM m x.pieces).length c2, .slice ta x.turn.length tc, .slice a5 (x.log.length + 1) c5]) x (.slice sa x.spans.length sc) (.slice pa x.pieces.length pc) (.slice ta x.turn.length tc) (.slice la x.log.length lc) := HH.out.keep ((toKeep B7 fun k hk => hv k hk).trans (KE.mono fun k hk => by have := hv k hk; omega))
      have r1 := r0.withP (V' := fun k => V k ∨ w.heap.size ≤ k) (GRow.keep PcI.holds HP7.out (KE.mono fun k hk => by have := hv k hk; omega) (fun k hk => KE.block k (by have := (HP7.out.lt hk).1; omega))) (fun _ hk => .inl hk) (fun _ hk => .inr (by omega))
      have r2 := r1.withL (V' := fun k => V k ∨ w.heap.size ≤ k) (GRow.keep AvI.holds HL7.out (KE.mono fun k hk => hk.elim (fun h => by have := hv k h; omega) fun h => h.2.2.2) (fun k hk => KE.block k (by have := (HL7.out.lt hk).1; omega))) (fun _ hk => hk) (fun k hk => hk.elim .inl fun h => .inr h.1) (fun _ hk => .inr (by omega))
      exact r2
    have hLL : (x.log ++ [(⟨m.stream, m.mid, m.ordered, jd⟩ : Av)]).length = x.log.length + 1 := by simp
    clear CE KE
    go_wp2_with (first
      | refine wpList_ldR rfl (.tmp 3) rfl w.heap.size 0 rfl x _ _ _ _ (by with_reducible exact RNG) ?_
      | refine wpList_srN 47 12 Try.sizeRv rfl (.tmp 6) (.tmp 46) rfl (w.heap.size + 2) 0 rfl [.int .i64 x.cf.streams, .int .i64 x.cf.part, .int .i64 x.cf.packet, .int .i64 x.cf.paths, .int .i64 x.cf.turns, .int .i64 x.cf.waiting, .int .i64 x.cf.first, .int .i64 x.cum, .slice sa x.spans.length sc, .slice a2 (restM m x.pieces).length c2, .slice ta x.turn.length tc, .slice a5 (x.log.length + 1) c5] rfl rfl rfl (by with_reducible exact TH) ?_)
    generalize w7.setCells (w.heap.size + 2) 0 [.int .i64 x.cf.streams, .int .i64 x.cf.part, .int .i64 x.cf.packet, .int .i64 x.cf.paths, .int .i64 x.cf.turns, .int .i64 x.cf.waiting, .int .i64 x.cf.first, .int .i64 x.cum, .slice sa x.spans.length sc, .slice a2 (restM m x.pieces).length c2, .slice ta x.turn.length tc, .slice a5 (x.log.length + 1) c5] = w9 at *
    refine bodyPost_ret (v := .tuple #[.agg #[.int .i64 x.cf.streams, .int .i64 x.cf.part, .int .i64 x.cf.packet, .int .i64 x.cf.paths, .int .i64 x.cf.turns, .int .i64 x.cf.waiting, .int .i64 x.cf.first, .int .i64 x.cum, .slice sa x.spans.length sc, .slice a2 (restM m x.pieces).length c2, .slice ta x.turn.length tc, .slice a5 (x.log.length + 1) c5], .bool true]) (by simp [results, Try.results66, go_sem, e0, e1, e2, e3, e4, e5, e6, e7, e8, e9, e10, e11]) rfl ?_
    rw [delM_whole HWH.out, HWH.out, HJD.out]
    exact ⟨_, _, _, _, rfl, FIN.out, BE⟩
end Go.Proofs.Ytnddejdndipddad
