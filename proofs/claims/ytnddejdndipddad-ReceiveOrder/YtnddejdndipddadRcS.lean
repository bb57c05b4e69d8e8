/- The contract of the document's SameReceiver, of two that are the same. -/
import Derived.Test.YtnddejdndipddadRcI
import Derived.BigQuiet
set_option maxRecDepth 20000
namespace Go.Proofs.Ytnddejdndipddad
open Go.RowKit

theorem run_neq_cf (a b c d e f g : Int) (wx : World) : (binOp .neq 36 (.agg #[.int .i64 a, .int .i64 b, .int .i64 c, .int .i64 d, .int .i64 e, .int .i64 f, .int .i64 g]) (.agg #[.int .i64 a, .int .i64 b, .int .i64 c, .int .i64 d, .int .i64 e, .int .i64 f, .int .i64 g])).run Try.prog wx = .ok (.bool false) wx := by
  go_simp
theorem pcells_below {B b off : Nat} {w w' : World} {u0 u1 u2 u3 u4 u5 u6 u7 u8 u9 u10 u11 : Value} (hb : Below B w w') (h : b < B)
    (x : w.cell? ⟨b, off, none⟩ = some u0 ∧ w.cell? ⟨b, off + 1, none⟩ = some u1 ∧ w.cell? ⟨b, off + 2, none⟩ = some u2 ∧ w.cell? ⟨b, off + 3, none⟩ = some u3 ∧ w.cell? ⟨b, off + 4, none⟩ = some u4 ∧ w.cell? ⟨b, off + 5, none⟩ = some u5 ∧ w.cell? ⟨b, off + 6, none⟩ = some u6 ∧ w.cell? ⟨b, off + 7, none⟩ = some u7 ∧ w.cell? ⟨b, off + 8, none⟩ = some u8 ∧ w.cell? ⟨b, off + 9, none⟩ = some u9 ∧ w.cell? ⟨b, off + 10, none⟩ = some u10 ∧ w.cell? ⟨b, off + 11, none⟩ = some u11) :
    w'.cell? ⟨b, off, none⟩ = some u0 ∧ w'.cell? ⟨b, off + 1, none⟩ = some u1 ∧ w'.cell? ⟨b, off + 2, none⟩ = some u2 ∧ w'.cell? ⟨b, off + 3, none⟩ = some u3 ∧ w'.cell? ⟨b, off + 4, none⟩ = some u4 ∧ w'.cell? ⟨b, off + 5, none⟩ = some u5 ∧ w'.cell? ⟨b, off + 6, none⟩ = some u6 ∧ w'.cell? ⟨b, off + 7, none⟩ = some u7 ∧ w'.cell? ⟨b, off + 8, none⟩ = some u8 ∧ w'.cell? ⟨b, off + 9, none⟩ = some u9 ∧ w'.cell? ⟨b, off + 10, none⟩ = some u10 ∧ w'.cell? ⟨b, off + 11, none⟩ = some u11 :=
  ⟨(hb.cell (p := ⟨b, _, none⟩) h).trans x.1, (hb.cell (p := ⟨b, _, none⟩) h).trans x.2.1, (hb.cell (p := ⟨b, _, none⟩) h).trans x.2.2.1, (hb.cell (p := ⟨b, _, none⟩) h).trans x.2.2.2.1, (hb.cell (p := ⟨b, _, none⟩) h).trans x.2.2.2.2.1, (hb.cell (p := ⟨b, _, none⟩) h).trans x.2.2.2.2.2.1, (hb.cell (p := ⟨b, _, none⟩) h).trans x.2.2.2.2.2.2.1, (hb.cell (p := ⟨b, _, none⟩) h).trans x.2.2.2.2.2.2.2.1, (hb.cell (p := ⟨b, _, none⟩) h).trans x.2.2.2.2.2.2.2.2.1, (hb.cell (p := ⟨b, _, none⟩) h).trans x.2.2.2.2.2.2.2.2.2.1, (hb.cell (p := ⟨b, _, none⟩) h).trans x.2.2.2.2.2.2.2.2.2.2.1, (hb.cell (p := ⟨b, _, none⟩) h).trans x.2.2.2.2.2.2.2.2.2.2.2⟩
theorem cellsDr {X : Nat} {w : World} {l : List Value} (h : Cells X w l) : Cells X w.drew l := ⟨h.cell, h.fz⟩
/-- A place in a slice of messages that were delivered. -/
theorem AvS.at {B : Nat} {w : World} {a : Option Addr} {n cap : Nat} {l : List Av} (h : AvS B w (.slice a n cap) l) (k : Nat) (hk : k < l.length) :
    ∃ b off d, b < B ∧ (∀ wx, (Instr.indexAt 45 (.slice a n cap) (.int .i64 (k : Int))).run Try.prog wx = .ok (.pointer (some ⟨b, off, none⟩)) wx) ∧ By B w d l[k].data ∧
      w.cell? ⟨b, off, none⟩ = some (.int .i64 l[k].stream) ∧ w.cell? ⟨b, off + 1, none⟩ = some (.int .i64 l[k].mid) ∧ w.cell? ⟨b, off + 2, none⟩ = some (.bool l[k].ordered) ∧ w.cell? ⟨b, off + 3, none⟩ = some d := by
  obtain ⟨b, off, v, hb, rfl, rfl, ⟨d, rfl, hd⟩, e⟩ := SlG.at AvV.bears h k hk
  refine ⟨b, off + k * 4, d, hb, fun wx => ?_, hd, e 0 _ (by omega) rfl, e 1 _ (by omega) rfl, e 2 _ (by omega) rfl, e 3 _ (by omega) rfl⟩
  have : (k : Int) < l.length := by omega
  obtain ⟨_, _, rfl, _⟩ := hd.ex
  go_simp

set_option maxHeartbeats 4000000 in
theorem sameRecv_any (x : Rc) (s p t l s2 p2 t2 l2 : Value) (w : World) (h : RvS w.heap.size w x s p t l) (h2 : RvS w.heap.size w x s2 p2 t2 l2) :
    Calls Try.prog 22 #[.agg #[.int .i64 x.cf.streams, .int .i64 x.cf.part, .int .i64 x.cf.packet, .int .i64 x.cf.paths, .int .i64 x.cf.turns, .int .i64 x.cf.waiting, .int .i64 x.cf.first, .int .i64 x.cum, s, p, t, l], .agg #[.int .i64 x.cf.streams, .int .i64 x.cf.part, .int .i64 x.cf.packet, .int .i64 x.cf.paths, .int .i64 x.cf.turns, .int .i64 x.cf.waiting, .int .i64 x.cf.first, .int .i64 x.cum, s2, p2, t2, l2]] w fun e w' => e = .returned (.bool true) ∧ Below w.heap.size w w' := by
  have H := h
  have H2 := h2
  obtain ⟨sa, sc, pa, pc, ta, tc, la, lc, rfl, rfl, rfl, rfl⟩ := h.ex
  obtain ⟨sa2, sc2, pa2, pc2, ta2, tc2, la2, lc2, rfl, rfl, rfl, rfl⟩ := h2.ex
  have bp : x.pieces.length ≤ 9223372036854775807 := by obtain ⟨_, _, -, g1, g2⟩ := h.p.ex; omega
  have bt : x.turn.length ≤ 9223372036854775807 := by obtain ⟨_, _, -, g1, g2⟩ := h.t.ex; omega
  have bl : x.log.length ≤ 9223372036854775807 := by obtain ⟨_, _, -, g1, g2⟩ := h.l.ex; omega
  clear h h2
  have B0 := two_below w (.cells #[.int .i64 x.cf.streams, .int .i64 x.cf.part, .int .i64 x.cf.packet, .int .i64 x.cf.paths, .int .i64 x.cf.turns, .int .i64 x.cf.waiting, .int .i64 x.cf.first, .int .i64 x.cum, .slice sa x.spans.length sc, .slice pa x.pieces.length pc, .slice ta x.turn.length tc, .slice la x.log.length lc] 47) (.cells #[.int .i64 x.cf.streams, .int .i64 x.cf.part, .int .i64 x.cf.packet, .int .i64 x.cf.paths, .int .i64 x.cf.turns, .int .i64 x.cf.waiting, .int .i64 x.cf.first, .int .i64 x.cum, .slice sa2 x.spans.length sc2, .slice pa2 x.pieces.length pc2, .slice ta2 x.turn.length tc2, .slice la2 x.log.length lc2] 47)
  have CX : Cells w.heap.size ((w.alloc (.cells #[.int .i64 x.cf.streams, .int .i64 x.cf.part, .int .i64 x.cf.packet, .int .i64 x.cf.paths, .int .i64 x.cf.turns, .int .i64 x.cf.waiting, .int .i64 x.cf.first, .int .i64 x.cum, .slice sa x.spans.length sc, .slice pa x.pieces.length pc, .slice ta x.turn.length tc, .slice la x.log.length lc] 47)).alloc (.cells #[.int .i64 x.cf.streams, .int .i64 x.cf.part, .int .i64 x.cf.packet, .int .i64 x.cf.paths, .int .i64 x.cf.turns, .int .i64 x.cf.waiting, .int .i64 x.cf.first, .int .i64 x.cum, .slice sa2 x.spans.length sc2, .slice pa2 x.pieces.length pc2, .slice ta2 x.turn.length tc2, .slice la2 x.log.length lc2] 47)) [.int .i64 x.cf.streams, .int .i64 x.cf.part, .int .i64 x.cf.packet, .int .i64 x.cf.paths, .int .i64 x.cf.turns, .int .i64 x.cf.waiting, .int .i64 x.cf.first, .int .i64 x.cum, .slice sa x.spans.length sc, .slice pa x.pieces.length pc, .slice ta x.turn.length tc, .slice la x.log.length lc] := (Cells.new w #[.int .i64 x.cf.streams, .int .i64 x.cf.part, .int .i64 x.cf.packet, .int .i64 x.cf.paths, .int .i64 x.cf.turns, .int .i64 x.cf.waiting, .int .i64 x.cf.first, .int .i64 x.cum, .slice sa x.spans.length sc, .slice pa x.pieces.length pc, .slice ta x.turn.length tc, .slice la x.log.length lc] 47).alloc (by simp) _
  have CY : Cells (w.heap.size + 1) ((w.alloc (.cells #[.int .i64 x.cf.streams, .int .i64 x.cf.part, .int .i64 x.cf.packet, .int .i64 x.cf.paths, .int .i64 x.cf.turns, .int .i64 x.cf.waiting, .int .i64 x.cf.first, .int .i64 x.cum, .slice sa x.spans.length sc, .slice pa x.pieces.length pc, .slice ta x.turn.length tc, .slice la x.log.length lc] 47)).alloc (.cells #[.int .i64 x.cf.streams, .int .i64 x.cf.part, .int .i64 x.cf.packet, .int .i64 x.cf.paths, .int .i64 x.cf.turns, .int .i64 x.cf.waiting, .int .i64 x.cf.first, .int .i64 x.cum, .slice sa2 x.spans.length sc2, .slice pa2 x.pieces.length pc2, .slice ta2 x.turn.length tc2, .slice la2 x.log.length lc2] 47)) [.int .i64 x.cf.streams, .int .i64 x.cf.part, .int .i64 x.cf.packet, .int .i64 x.cf.paths, .int .i64 x.cf.turns, .int .i64 x.cf.waiting, .int .i64 x.cf.first, .int .i64 x.cum, .slice sa2 x.spans.length sc2, .slice pa2 x.pieces.length pc2, .slice ta2 x.turn.length tc2, .slice la2 x.log.length lc2] := Cells.new' #[.int .i64 x.cf.streams, .int .i64 x.cf.part, .int .i64 x.cf.packet, .int .i64 x.cf.paths, .int .i64 x.cf.turns, .int .i64 x.cf.waiting, .int .i64 x.cf.first, .int .i64 x.cum, .slice sa2 x.spans.length sc2, .slice pa2 x.pieces.length pc2, .slice ta2 x.turn.length tc2, .slice la2 x.log.length lc2] 47 (by simp)
  have hz : w.heap.size + 2 ≤ ((w.alloc (.cells #[.int .i64 x.cf.streams, .int .i64 x.cf.part, .int .i64 x.cf.packet, .int .i64 x.cf.paths, .int .i64 x.cf.turns, .int .i64 x.cf.waiting, .int .i64 x.cf.first, .int .i64 x.cum, .slice sa x.spans.length sc, .slice pa x.pieces.length pc, .slice ta x.turn.length tc, .slice la x.log.length lc] 47)).alloc (.cells #[.int .i64 x.cf.streams, .int .i64 x.cf.part, .int .i64 x.cf.packet, .int .i64 x.cf.paths, .int .i64 x.cf.turns, .int .i64 x.cf.waiting, .int .i64 x.cf.first, .int .i64 x.cum, .slice sa2 x.spans.length sc2, .slice pa2 x.pieces.length pc2, .slice ta2 x.turn.length tc2, .slice la2 x.log.length lc2] 47)).heap.size := by simp
  have SP := same_any _ _ x.spans x.spans ((w.alloc (.cells #[.int .i64 x.cf.streams, .int .i64 x.cf.part, .int .i64 x.cf.packet, .int .i64 x.cf.paths, .int .i64 x.cf.turns, .int .i64 x.cf.waiting, .int .i64 x.cf.first, .int .i64 x.cum, .slice sa x.spans.length sc, .slice pa x.pieces.length pc, .slice ta x.turn.length tc, .slice la x.log.length lc] 47)).alloc (.cells #[.int .i64 x.cf.streams, .int .i64 x.cf.part, .int .i64 x.cf.packet, .int .i64 x.cf.paths, .int .i64 x.cf.turns, .int .i64 x.cf.waiting, .int .i64 x.cf.first, .int .i64 x.cum, .slice sa2 x.spans.length sc2, .slice pa2 x.pieces.length pc2, .slice ta2 x.turn.length tc2, .slice la2 x.log.length lc2] 47)) (H.s.size B0 (Nat.le_refl _)) (H2.s.size B0 (Nat.le_refl _))
  rw [show decide (x.spans = x.spans) = true by simp] at SP
  have NEQ := run_neq_cf x.cf.streams x.cf.part x.cf.packet x.cf.paths x.cf.turns x.cf.waiting x.cf.first
  have n0 : (x.cum != x.cum) = false := by simp
  go_enter Try.func22, Try.ntmps22
  go_upto_region 1 with fail
  have A := CX.cell
  have A0 := A 0 _ rfl
  have A1 := A 1 _ rfl
  have A2 := A 2 _ rfl
  have A3 := A 3 _ rfl
  have A4 := A 4 _ rfl
  have A5 := A 5 _ rfl
  have A6 := A 6 _ rfl
  have A7 := A 7 _ rfl
  have A8 := A 8 _ rfl
  have Y := CY.cell
  have Y0 := Y 0 _ rfl
  have Y1 := Y 1 _ rfl
  have Y2 := Y 2 _ rfl
  have Y3 := Y 3 _ rfl
  have Y4 := Y 4 _ rfl
  have Y5 := Y 5 _ rfl
  have Y6 := Y 6 _ rfl
  have Y7 := Y 7 _ rfl
  have Y8 := Y 8 _ rfl
  clear A Y
  generalize ((w.alloc (.cells #[.int .i64 x.cf.streams, .int .i64 x.cf.part, .int .i64 x.cf.packet, .int .i64 x.cf.paths, .int .i64 x.cf.turns, .int .i64 x.cf.waiting, .int .i64 x.cf.first, .int .i64 x.cum, .slice sa x.spans.length sc, .slice pa x.pieces.length pc, .slice ta x.turn.length tc, .slice la x.log.length lc] 47)).alloc (.cells #[.int .i64 x.cf.streams, .int .i64 x.cf.part, .int .i64 x.cf.packet, .int .i64 x.cf.paths, .int .i64 x.cf.turns, .int .i64 x.cf.waiting, .int .i64 x.cf.first, .int .i64 x.cum, .slice sa2 x.spans.length sc2, .slice pa2 x.pieces.length pc2, .slice ta2 x.turn.length tc2, .slice la2 x.log.length lc2] 47)) = w0 at *
  go_upto_region 1 with fail
  have HX : Hid _ := CX
  have HY : Hid _ := CY
  clear CX CY
  go_wp2_with (go_at_call 44; refine SP.mono ?_; rintro e w1 ⟨rfl, b1⟩; have HX1 : Hid _ := HX.out.below b1 (by omega); have HY1 : Hid _ := HY.out.below b1 (by omega); have X9 := HX1.out.cell 9 _ rfl; have X10 := HX1.out.cell 10 _ rfl; have X11 := HX1.out.cell 11 _ rfl; have Z9 := HY1.out.cell 9 _ rfl; have Z10 := HY1.out.cell 10 _ rfl; have Z11 := HY1.out.cell 11 _ rfl)
  have BW1 : Below w.heap.size w w1 := B0.trans (b1.mono (by omega))
  have sz1 := b1.size
  clear A0 A1 A2 A3 A4 A5 A6 A7 A8 Y0 Y1 Y2 Y3 Y4 Y5 Y6 Y7 Y8 X9 X10 X11 Z9 Z10 Z11 NEQ n0 SP HX HY B0
  have hw1 : w.heap.size + 2 ≤ w1.heap.size := by omega
  have H1 := H.below BW1 (Nat.le_refl _)
  have H21 := H2.below BW1 (Nat.le_refl _)
  clear H H2 b1 sz1 hz
  go_loopw [60] (fun i wr => ∃ (j : Nat), j ≤ x.pieces.length ∧ i = .int .i64 j ∧ Below w1.heap.size w1 wr) (fun i _ => x.pieces.length - (intOf i).toNat)
  case atStart => exact ⟨0, Nat.zero_le _, rfl, Below.refl _ _⟩
  case round =>
    obtain ⟨j, hj, rfl, BR⟩ := hrel
    have szr := BR.size
    have HXr : Hid _ := HX1.out.below BR (by omega)
    have HYr : Hid _ := HY1.out.below BR (by omega)
    by_cases hlt : j < x.pieces.length
    · obtain ⟨b, off, d, s, q, hbb, hix, hcv, -, -, -, xx⟩ := PcS.at (H1.below BR (by omega)).p j hlt
      obtain ⟨b', off', d', s', q', hbb', hix', hcv', -, -, -, yy⟩ := PcS.at (H21.below BR (by omega)).p j hlt
      obtain ⟨_, _, _, e, hd, hs, hq⟩ := hcv
      simp only [pcVal, Value.agg.injEq, Array.mk.injEq, List.cons.injEq, and_true, true_and] at e
      obtain ⟨rfl, rfl, rfl⟩ := e
      obtain ⟨_, _, _, e, hd', hs', hq'⟩ := hcv'
      simp only [pcVal, Value.agg.injEq, Array.mk.injEq, List.cons.injEq, and_true, true_and] at e
      obtain ⟨rfl, rfl, rfl⟩ := e
      have BD : Below wr.heap.size wr wr.drew := ⟨rfl, rfl, rfl, Nat.le_refl _, fun _ _ => rfl⟩
      have hdz : wr.drew.heap.size = wr.heap.size := rfl
      have SM := sameChunk_same (ckVal x.pieces[j].ck d s q) (ckVal x.pieces[j].ck d' s' q') x.pieces[j].ck wr.drew ⟨_, _, _, rfl, (hd.mono (by omega)).below BD (Nat.le_refl _), (hs.mono (by omega)).below BD (Nat.le_refl _), Rw.below (Rw.mono hq (by omega)) BD (Nat.le_refl _)⟩ ⟨_, _, _, rfl, (hd'.mono (by omega)).below BD (Nat.le_refl _), (hs'.mono (by omega)).below BD (Nat.le_refl _), Rw.below (Rw.mono hq' (by omega)) BD (Nat.le_refl _)⟩
      simp only [ckVal] at SM
      have bx : (wr.cell? ⟨w.heap.size, 9, none⟩ = some (.slice pa x.pieces.length pc) ∧ wr.cell? ⟨w.heap.size + 1, 9, none⟩ = some (.slice pa2 x.pieces.length pc2)) := ⟨HXr.out.cell 9 _ rfl, HYr.out.cell 9 _ rfl⟩
      have BX : ∀ w', Below wr.heap.size wr w' → (w'.cell? ⟨w.heap.size, 9, none⟩ = some (.slice pa x.pieces.length pc) ∧ w'.cell? ⟨w.heap.size + 1, 9, none⟩ = some (.slice pa2 x.pieces.length pc2)) := fun w' hb => ⟨(hb.cell (p := ⟨w.heap.size, 9, none⟩) (by show w.heap.size < _; omega)).trans bx.1, (hb.cell (p := ⟨w.heap.size + 1, 9, none⟩) (by show w.heap.size + 1 < _; omega)).trans bx.2⟩
      clear hd hs hq hd' hs' hq'
      have hbr : b < wr.heap.size := by omega
      have hbr' : b' < wr.heap.size := by omega
      generalize x.pieces[j] = y at *
      have ny : (y.number != y.number) = false := by simp
      go_upto_region 6 with fail
      go_cut [91] from 63 to 90 (fun s91 wx => s91 = .bool false ∧ Below wr.heap.size wr wx)
      case first =>
        go_region_held3 (fun w' => (w'.cell? ⟨w.heap.size, 9, none⟩ = some (.slice pa x.pieces.length pc) ∧ w'.cell? ⟨w.heap.size + 1, 9, none⟩ = some (.slice pa2 x.pieces.length pc2)) ∧
          (w'.cell? ⟨b, off, none⟩ = some (.int .i64 y.number) ∧ w'.cell? ⟨b, off + 1, none⟩ = some (.int .i64 y.ck.kind) ∧ w'.cell? ⟨b, off + 2, none⟩ = some (.int .i64 y.ck.tag) ∧ w'.cell? ⟨b, off + 3, none⟩ = some (.int .i64 y.ck.stream) ∧ w'.cell? ⟨b, off + 4, none⟩ = some (.int .i64 y.ck.mid) ∧ w'.cell? ⟨b, off + 5, none⟩ = some (.int .i64 y.ck.part) ∧ w'.cell? ⟨b, off + 6, none⟩ = some (.bool y.ck.last) ∧ w'.cell? ⟨b, off + 7, none⟩ = some (.bool y.ck.ordered) ∧ w'.cell? ⟨b, off + 8, none⟩ = some (d) ∧ w'.cell? ⟨b, off + 9, none⟩ = some (s) ∧ w'.cell? ⟨b, off + 10, none⟩ = some (.int .i64 y.ck.room) ∧ w'.cell? ⟨b, off + 11, none⟩ = some (q)) ∧
          (w'.cell? ⟨b', off', none⟩ = some (.int .i64 y.number) ∧ w'.cell? ⟨b', off' + 1, none⟩ = some (.int .i64 y.ck.kind) ∧ w'.cell? ⟨b', off' + 2, none⟩ = some (.int .i64 y.ck.tag) ∧ w'.cell? ⟨b', off' + 3, none⟩ = some (.int .i64 y.ck.stream) ∧ w'.cell? ⟨b', off' + 4, none⟩ = some (.int .i64 y.ck.mid) ∧ w'.cell? ⟨b', off' + 5, none⟩ = some (.int .i64 y.ck.part) ∧ w'.cell? ⟨b', off' + 6, none⟩ = some (.bool y.ck.last) ∧ w'.cell? ⟨b', off' + 7, none⟩ = some (.bool y.ck.ordered) ∧ w'.cell? ⟨b', off' + 8, none⟩ = some (d') ∧ w'.cell? ⟨b', off' + 9, none⟩ = some (s') ∧ w'.cell? ⟨b', off' + 10, none⟩ = some (.int .i64 y.ck.room) ∧ w'.cell? ⟨b', off' + 11, none⟩ = some (q'))) (first | exact ⟨bx, xx, yy⟩ | exact ⟨BX _ BD, pcells_below BD hbr xx, pcells_below BD hbr' yy⟩ | exact XY | fail) (first
          | (go_at_call 32; refine SM.mono ?_; rintro e w2 ⟨rfl, b2⟩; have B2 := BD.trans (b2.mono (Nat.le_refl _)); have XY := And.intro (BX _ B2) (And.intro (pcells_below B2 hbr xx) (pcells_below B2 hbr' yy))))
        all_goals (
          go_wp2_with fail
          go_meet
          exact ⟨by simp, B2⟩)
      case rest =>
        obtain ⟨rfl, B2⟩ := hcut
        have BE := BR.trans (B2.mono szr)
        clear xx yy SM bx BX
        go_wp2_with fail
        go_roundw
        case rel => exact ⟨j + 1, by omega, by go_num, BE⟩
        case measure => simp [intOf]; omega
    · have hjl : j = x.pieces.length := by omega
      subst hjl
      have X10 := HXr.out.cell 10 _ rfl
      go_wp2_with fail
      have BW2 : Below w.heap.size w wr := BW1.trans (BR.mono (by omega))
      have H3 := H1.below BR (by omega)
      have H23 := H21.below BR (by omega)
      have hw2 : w.heap.size + 2 ≤ wr.heap.size := by omega
      clear H1 H21 hw1 X10
      generalize wr = w2 at *
      go_loopw [96] (fun i wr => ∃ (j : Nat), j ≤ x.turn.length ∧ i = .int .i64 j ∧ Below w2.heap.size w2 wr) (fun i _ => x.turn.length - (intOf i).toNat)
      case atStart => exact ⟨0, Nat.zero_le _, rfl, Below.refl _ _⟩
      case round =>
        obtain ⟨j, hj, rfl, BS⟩ := hrel
        have HX2 := HXr.out.below BS (by omega)
        have HY2 := HYr.out.below BS (by omega)
        by_cases hlt : j < x.turn.length
        · obtain ⟨b, off, hbb, hix, hc⟩ := In.at (H3.below BS (by omega)).t j hlt
          obtain ⟨b', off', hbb', hix', hc'⟩ := In.at (H23.below BS (by omega)).t j hlt
          have X10 := HX2.cell 10 _ rfl
          have Z10 := HY2.cell 10 _ rfl
          have hlt' : (j : Int) < (x.turn.length : Int) := by omega
          generalize x.turn[j] = z at *
          have nz : (z != z) = false := by simp
          have hbr : b < wr.heap.size := by have := BS.size; omega
          have hbr' : b' < wr.heap.size := by have := BS.size; omega
          go_upto_region 12 with fail
          go_quiet (fail)
          have BQ : Below w2.heap.size w2 (wr.drewN nq) := BS.trans ⟨rfl, rfl, rfl, Nat.le_refl _, fun _ _ => rfl⟩
          go_wp2_with fail
          go_roundw
          case rel => exact ⟨j + 1, by omega, by go_num, BQ⟩
          case measure => simp [intOf]; omega
        · have hjl : j = x.turn.length := by omega
          subst hjl
          have X11 := HX2.cell 11 _ rfl
          go_wp2_with fail
          have BW3 : Below w.heap.size w wr := BW2.trans (BS.mono (by omega))
          have H4 := H3.below BS (by omega)
          have H24 := H23.below BS (by omega)
          have hw3 : w.heap.size + 2 ≤ wr.heap.size := by have := BS.size; omega
          have HX3 : Hid _ := HX2
          have HY3 : Hid _ := HY2
          clear H3 H23 hw2 X11 HX2 HY2
          generalize wr = w3 at *
          go_loopw [114] (fun i wr => ∃ (j : Nat), j ≤ x.log.length ∧ i = .int .i64 j ∧ Below w3.heap.size w3 wr) (fun i _ => x.log.length - (intOf i).toNat)
          case atStart => exact ⟨0, Nat.zero_le _, rfl, Below.refl _ _⟩
          case round =>
            obtain ⟨j, hj, rfl, BT⟩ := hrel
            have sz3 := BT.size
            have HX4 := HX3.out.below BT (by omega)
            have HY4 := HY3.out.below BT (by omega)
            by_cases hlt : j < x.log.length
            · obtain ⟨b, off, d, hbb, hix, hd, c0, c1, c2, c3⟩ := AvS.at (H4.below BT (by omega)).l j hlt
              obtain ⟨b', off', d', hbb', hix', hd', e0, e1, e2, e3⟩ := AvS.at (H24.below BT (by omega)).l j hlt
              have X11 := HX4.cell 11 _ rfl
              have Z11 := HY4.cell 11 _ rfl
              have hlt' : (j : Int) < (x.log.length : Int) := by omega
              have hbr : b < wr.heap.size := by omega
              have hbr' : b' < wr.heap.size := by omega
              have hxw : w.heap.size < wr.heap.size := by omega
              have hyw : w.heap.size + 1 < wr.heap.size := by omega
              have hds := fun wx (hx : Below wr.heap.size wr wx) => (hd.below hx (by omega)).str
              have hds' := fun wx (hx : Below wr.heap.size wr wx) => (hd'.below hx (by omega)).str
              obtain ⟨ad, cd, rfl, -, -⟩ := hd.ex
              obtain ⟨ad', cd', rfl, -, -⟩ := hd'.ex
              clear hd hd'
              generalize x.log[j] = y at *
              go_upto_region 18 with fail
              go_cut [8, 9] from 117 to 126 (fun s8 s9 wx => ∃ b8 b9 : Nat, s8 = .pointer (some ⟨b8, 0, none⟩) ∧ s9 = .pointer (some ⟨b9, 0, none⟩) ∧ Cells b8 wx [.int .i64 y.stream, .int .i64 y.mid, .bool y.ordered, .slice ad y.data.length cd] ∧ Cells b9 wx [.int .i64 y.stream, .int .i64 y.mid, .bool y.ordered, .slice ad' y.data.length cd'] ∧ Below wr.heap.size wr wx)
              case first =>
                go_region
                all_goals (
                  go_wp2_with fail
                  go_meet
                  first
                    | exact ⟨_, _, rfl, rfl, cellsDr ((Cells.new wr #[.int .i64 y.stream, .int .i64 y.mid, .bool y.ordered, .slice ad y.data.length cd] 59).alloc (by simp) _), cellsDr (Cells.new' #[.int .i64 y.stream, .int .i64 y.mid, .bool y.ordered, .slice ad' y.data.length cd'] 59 (by simp)), below_drew' (two_below wr _ _)⟩
                    | exact ⟨_, _, rfl, rfl, cellsDr (Cells.new' #[.int .i64 y.stream, .int .i64 y.mid, .bool y.ordered, .slice ad y.data.length cd] 59 (by simp)), cellsDr ((Cells.new wr #[.int .i64 y.stream, .int .i64 y.mid, .bool y.ordered, .slice ad' y.data.length cd'] 59).alloc (by simp) _), below_drew' (two_below wr _ _)⟩)
              case rest =>
                obtain ⟨b8, b9, rfl, rfl, C8, C9, B4⟩ := hcut
                have S1 := hds _ B4
                have S2 := hds' _ B4
                have BE := BT.trans (B4.mono sz3)
                have k0 := C8.cell 0 _ rfl
                have k1 := C8.cell 1 _ rfl
                have k2 := C8.cell 2 _ rfl
                have k3 := C8.cell 3 _ rfl
                have l0 := C9.cell 0 _ rfl
                have l1 := C9.cell 1 _ rfl
                have l2 := C9.cell 2 _ rfl
                have l3 := C9.cell 3 _ rfl
                have n0 : (y.stream != y.stream) = false := by simp
                have n1 : (y.mid != y.mid) = false := by simp
                have n2 : (y.ordered != y.ordered) = false := by simp
                clear C8 C9 hds hds'
                go_wp2_with fail
                go_roundw
                case rel => exact ⟨j + 1, by omega, by go_num, BE⟩
                case measure => simp [intOf]; omega
            · have hjl : j = x.log.length := by omega
              subst hjl
              go_wp2_with fail
              go_ret
              exact ⟨rfl, BW3.trans (BT.mono (by omega))⟩
end Go.Proofs.Ytnddejdndipddad
