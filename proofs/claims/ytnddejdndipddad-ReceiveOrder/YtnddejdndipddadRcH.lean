/- The contracts of receive's next and pass. -/
import Derived.Test.YtnddejdndipddadRcG
set_option maxRecDepth 20000
namespace Go.Proofs.Ytnddejdndipddad
open Go.RowKit

/-- A receiver as it is read: each stream's turn. -/
theorem RvS.turnAt {B : Nat} {w : World} {x : Rc} {s p l : Value} {a : Option Addr} {n c : Nat} (h : RvS B w x s p (.slice a n c) l) {i : Nat} (hi : i < x.turn.length) : ∃ b off, b < B ∧ (∀ wx, (Instr.indexAt 31 (.slice a n c) (.int .i64 (i : Int))).run Try.prog wx = .ok (.pointer (some ⟨b, off, none⟩)) wx) ∧ w.cell? ⟨b, off, none⟩ = some (.int .i64 (turnAt x i)) := by
  obtain ⟨b, off, hb, hix, hc⟩ := h.t.at i hi
  refine ⟨b, off, hb, hix, ?_⟩
  rw [hc]
  simp [Go.Proofs.Ytnddejdndipddad.turnAt, hi]

set_option maxHeartbeats 1000000 in
/-- The next message that is passed. -/
theorem next_any (x : Rc) (s p t l : Value) (i : Nat) (last : Int) (w : World) (h : RvS w.heap.size w x s p t l) (hi : i < x.turn.length) (h1 : 0 ≤ turnAt x i) (h2 : turnAt x i ≤ 1099511627776) (hn : x.pieces.length ≤ 1048576) :
    Calls Try.prog 82 #[.agg #[.int .i64 x.cf.streams, .int .i64 x.cf.part, .int .i64 x.cf.packet, .int .i64 x.cf.paths, .int .i64 x.cf.turns, .int .i64 x.cf.waiting, .int .i64 x.cf.first, .int .i64 x.cum, s, p, t, l], .int .i64 (i : Int), .int .i64 last] w fun e w' => e = .returned (.tuple #[.agg #[.int .i64 (i : Int), .int .i64 ((nextF i (turnAt x i) last x.pieces).1 % 65536), .bool true], .bool (nextF i (turnAt x i) last x.pieces).2]) ∧ Below w.heap.size w w' := by
  have H := h
  obtain ⟨sa, sc, pa, pc, ta, tc, la, lc, rfl, rfl, rfl, rfl⟩ := h.ex
  clear h
  have HE := enters_of1
  have B0 := two_below w (.cells #[.int .i64 x.cf.streams, .int .i64 x.cf.part, .int .i64 x.cf.packet, .int .i64 x.cf.paths, .int .i64 x.cf.turns, .int .i64 x.cf.waiting, .int .i64 x.cf.first, .int .i64 x.cum, .slice sa x.spans.length sc, .slice pa x.pieces.length pc, .slice ta x.turn.length tc, .slice la x.log.length lc] 47) (.cells #[.int .i64 0, .int .i64 0, .bool false] 91)
  have CX : Cells w.heap.size ((w.alloc (.cells #[.int .i64 x.cf.streams, .int .i64 x.cf.part, .int .i64 x.cf.packet, .int .i64 x.cf.paths, .int .i64 x.cf.turns, .int .i64 x.cf.waiting, .int .i64 x.cf.first, .int .i64 x.cum, .slice sa x.spans.length sc, .slice pa x.pieces.length pc, .slice ta x.turn.length tc, .slice la x.log.length lc] 47)).alloc (.cells #[.int .i64 0, .int .i64 0, .bool false] 91)) [.int .i64 x.cf.streams, .int .i64 x.cf.part, .int .i64 x.cf.packet, .int .i64 x.cf.paths, .int .i64 x.cf.turns, .int .i64 x.cf.waiting, .int .i64 x.cf.first, .int .i64 x.cum, .slice sa x.spans.length sc, .slice pa x.pieces.length pc, .slice ta x.turn.length tc, .slice la x.log.length lc] := (Cells.new w #[.int .i64 x.cf.streams, .int .i64 x.cf.part, .int .i64 x.cf.packet, .int .i64 x.cf.paths, .int .i64 x.cf.turns, .int .i64 x.cf.waiting, .int .i64 x.cf.first, .int .i64 x.cum, .slice sa x.spans.length sc, .slice pa x.pieces.length pc, .slice ta x.turn.length tc, .slice la x.log.length lc] 47).alloc (by simp) _
  have CR : Cells (w.heap.size + 1) ((w.alloc (.cells #[.int .i64 x.cf.streams, .int .i64 x.cf.part, .int .i64 x.cf.packet, .int .i64 x.cf.paths, .int .i64 x.cf.turns, .int .i64 x.cf.waiting, .int .i64 x.cf.first, .int .i64 x.cum, .slice sa x.spans.length sc, .slice pa x.pieces.length pc, .slice ta x.turn.length tc, .slice la x.log.length lc] 47)).alloc (.cells #[.int .i64 0, .int .i64 0, .bool false] 91)) [.int .i64 0, .int .i64 0, .bool false] := Cells.new' #[.int .i64 0, .int .i64 0, .bool false] 91 (by simp)
  have hz : w.heap.size + 2 ≤ ((w.alloc (.cells #[.int .i64 x.cf.streams, .int .i64 x.cf.part, .int .i64 x.cf.packet, .int .i64 x.cf.paths, .int .i64 x.cf.turns, .int .i64 x.cf.waiting, .int .i64 x.cf.first, .int .i64 x.cum, .slice sa x.spans.length sc, .slice pa x.pieces.length pc, .slice ta x.turn.length tc, .slice la x.log.length lc] 47)).alloc (.cells #[.int .i64 0, .int .i64 0, .bool false] 91)).heap.size := by simp
  have H0 := H.below B0 (Nat.le_refl _)
  obtain ⟨tb, tof, htb, hix, ct⟩ := H0.turnAt hi
  have c9 := CX.cell 9 _ rfl
  have c10 := CX.cell 10 _ rfl
  generalize hT : turnAt x (i : Int) = tn at *
  go_enter Try.func82, Try.ntmps82
  go_wp2_with fail
  generalize ((w.alloc (.cells #[.int .i64 x.cf.streams, .int .i64 x.cf.part, .int .i64 x.cf.packet, .int .i64 x.cf.paths, .int .i64 x.cf.turns, .int .i64 x.cf.waiting, .int .i64 x.cf.first, .int .i64 x.cum, .slice sa x.spans.length sc, .slice pa x.pieces.length pc, .slice ta x.turn.length tc, .slice la x.log.length lc] 47)).alloc (.cells #[.int .i64 0, .int .i64 0, .bool false] 91)) = w0 at *
  go_loopw [9, 10, 24] (fun s9 s10 j wr => ∃ k : Nat, k ≤ x.pieces.length ∧ j = .int .i64 k ∧ s9 = .int .i64 (nextF i tn last (x.pieces.take k)).1 ∧ s10 = .bool (nextF i tn last (x.pieces.take k)).2 ∧ Below w0.heap.size w0 wr) (fun _ _ j _ => x.pieces.length - (intOf j).toNat)
  case atStart => exact ⟨0, Nat.zero_le _, rfl, rfl, rfl, Below.refl _ _⟩
  case round =>
    obtain ⟨k, hk, rfl, rfl, rfl, BR⟩ := hrel
    have szr := BR.size
    by_cases hlt : k < x.pieces.length
    · obtain ⟨b, off, da, dc, sa', sc', qa, qc, hb, hixp, -, -, -, hat⟩ := PcS.range (H0.below BR (by omega)).p k hlt
      have HNX : Hid (nextF i tn last (x.pieces.take (k + 1)) = nextS i tn (nextF i tn last (x.pieces.take k)) x.pieces[k]) := nextF_snoc i tn last x.pieces k hlt
      generalize x.pieces[k] = y at *
      generalize nextF i tn last (x.pieces.take k) = st at *
      obtain ⟨lo, so⟩ := st
      simp only
      have HNS : Hid (nextS i tn (lo, so) y = if numAt tn y ≤ lo ∧ isM (numM i (numAt tn y)) y = true then (numAt tn y, true) else (lo, so)) := rfl
      have AX := Cells.new wr #[.int .i64 y.number, .int .i64 y.ck.kind, .int .i64 y.ck.tag, .int .i64 y.ck.stream, .int .i64 y.ck.mid, .int .i64 y.ck.part, .bool y.ck.last, .bool y.ck.ordered, .slice da y.ck.data.length dc, .slice sa' y.ck.spans.length sc', .int .i64 y.ck.room, .slice qa y.ck.skips.length qc] 71
      have szX : wr.heap.size < (wr.alloc (.cells #[.int .i64 y.number, .int .i64 y.ck.kind, .int .i64 y.ck.tag, .int .i64 y.ck.stream, .int .i64 y.ck.mid, .int .i64 y.ck.part, .bool y.ck.last, .bool y.ck.ordered, .slice da y.ck.data.length dc, .slice sa' y.ck.spans.length sc', .int .i64 y.ck.room, .slice qa y.ck.skips.length qc] 71)).heap.size := by simp
      have bX := box_below wr (.cells #[.int .i64 y.number, .int .i64 y.ck.kind, .int .i64 y.ck.tag, .int .i64 y.ck.stream, .int .i64 y.ck.mid, .int .i64 y.ck.part, .bool y.ck.last, .bool y.ck.ordered, .slice da y.ck.data.length dc, .slice sa' y.ck.spans.length sc', .int .i64 y.ck.room, .slice qa y.ck.skips.length qc] 71)
      have TA1 := tag_any y.ck.mid
      have TA2 := tag_any (y.ck.mid % 65536 - tn)
      have x4 := AX.cell 4 _ rfl
      have wr1 : IntKind.i64.wrap (y.ck.mid % 65536 - tn) = y.ck.mid % 65536 - tn := by simp [IntKind.wrap, IntKind.signed, IntKind.bits]; omega
      have tk1 : True := trivial
      have tk2 : True := trivial
      go_wp2_with (first
        | refine wpList_ldP rfl (.tmp 26) rfl b off rfl y _ _ _ (by with_reducible exact hat) ?_
        | refine wpList_stN 71 12 Try.sizePc rfl (.tmp 12) (.tmp 27) rfl wr _ rfl rfl rfl [.int .i64 y.number, .int .i64 y.ck.kind, .int .i64 y.ck.tag, .int .i64 y.ck.stream, .int .i64 y.ck.mid, .int .i64 y.ck.part, .bool y.ck.last, .bool y.ck.ordered, .slice da y.ck.data.length dc, .slice sa' y.ck.spans.length sc', .int .i64 y.ck.room, .slice qa y.ck.skips.length qc] rfl rfl rfl ?_
        | (go_at_call 70; have t := tk1; refine (TA1 _).mono ?_; rintro e w' ⟨rfl, rfl⟩; clear tk1 t)
        | (go_at_call 70; have t := tk2; refine (TA2 _).mono ?_; rintro e w' ⟨rfl, rfl⟩; clear tk2 t))
      generalize wr.alloc (.cells #[.int .i64 y.number, .int .i64 y.ck.kind, .int .i64 y.ck.tag, .int .i64 y.ck.stream, .int .i64 y.ck.mid, .int .i64 y.ck.part, .bool y.ck.last, .bool y.ck.ordered, .slice da y.ck.data.length dc, .slice sa' y.ck.spans.length sc', .int .i64 y.ck.room, .slice qa y.ck.skips.length qc] 71) = wx at *
      have HNN : Hid (tn + (y.ck.mid - tn) % 65536 = numAt tn y) := by show _ = _; unfold numAt; omega
      generalize tn + (y.ck.mid - tn) % 65536 = nn at *
      have NU := numbered_any (i : Int) nn
      have OFA : ∀ wx, Calls Try.prog 79 #[.agg #[.int .i64 (i : Int), .int .i64 (nn % 65536), .bool true]] wx fun e w' => e = .returned (.func (.func 85) #[] #[.pointer (some ⟨wx.heap.size, 0, none⟩)]) ∧ MsAt w' wx.heap.size (numM i nn) ∧ Below wx.heap.size wx w' ∧ wx.heap.size < w'.heap.size := fun wx => of_any (numM i nn) wx
      refine (NU _).mono ?_
      rintro e w1 ⟨rfl, b1⟩
      go_wp2_with fail
      refine (OFA w1).mono ?_
      rintro e w2 ⟨rfl, hm, b2, hl2⟩
      have sz1 := b1.size
      have sz2 := b2.size
      have B2 : Below wr.heap.size wr w2 := bX.trans ((b1.mono (by omega)).trans (b2.mono (by omega)))
      have AX2 := (AX.below b1 (by omega)).below b2 (by omega)
      have AS := of1_any y da y.ck.data.length dc sa' y.ck.spans.length sc' qa y.ck.skips.length qc w1.heap.size (numM i nn) w2 hm hl2
      generalize w1.heap.size = N1 at *
      have BW2 : Below w0.heap.size w0 w2 := BR.trans (B2.mono (by omega))
      clear TA1 TA2 NU OFA hat AX wr1 x4 hixp
      by_cases hle : nn ≤ lo
      · have hd : decide (nn ≤ lo) = true := decide_eq_true hle
        have y0 := AX2.cell 0 _ rfl
        have y1 := AX2.cell 1 _ rfl
        have y2 := AX2.cell 2 _ rfl
        have y3 := AX2.cell 3 _ rfl
        have y4 := AX2.cell 4 _ rfl
        have y5 := AX2.cell 5 _ rfl
        have y6 := AX2.cell 6 _ rfl
        have y7 := AX2.cell 7 _ rfl
        have y8 := AX2.cell 8 _ rfl
        have y9 := AX2.cell 9 _ rfl
        have y10 := AX2.cell 10 _ rfl
        have y11 := AX2.cell 11 _ rfl
        clear AX2
        go_wp2_with fail
        refine AS.mono ?_
        rintro e w3 ⟨rfl, b3⟩
        have BW3 : Below w0.heap.size w0 w3 := BW2.trans (b3.mono (by omega))
        clear y0 y1 y2 y3 y4 y5 y6 y7 y8 y9 y10 y11 AS
        cases hq : isM (numM i nn) y with
        | true =>
          have HE2 : Hid (nextF i tn last (x.pieces.take (k + 1)) = (nn, true)) := by
            show _ = _
            rw [HNX.out, HNS.out, ← HNN.out, if_pos ⟨hle, hq⟩]
          go_wp2_with fail
          go_roundw
          case rel => exact ⟨k + 1, by omega, by go_num, by rw [HE2.out], by rw [HE2.out], BW3⟩
          case measure => simp [intOf]; omega
        | false =>
          have HE2 : Hid (nextF i tn last (x.pieces.take (k + 1)) = (lo, so)) := by
            show _ = _
            rw [HNX.out, HNS.out, ← HNN.out, if_neg (fun h => by rw [hq] at h; simp at h)]
          go_wp2_with fail
          go_roundw
          case rel => exact ⟨k + 1, by omega, by go_num, by rw [HE2.out], by rw [HE2.out], BW3⟩
          case measure => simp [intOf]; omega
      · have hd : decide (nn ≤ lo) = false := decide_eq_false hle
        have HE2 : Hid (nextF i tn last (x.pieces.take (k + 1)) = (lo, so)) := by
          show _ = _
          rw [HNX.out, HNS.out, if_neg]
          rw [← HNN.out]
          exact fun h => hle h.1
        clear AS
        go_wp2_with fail
        go_roundw
        case rel => exact ⟨k + 1, by omega, by go_num, by rw [HE2.out], by rw [HE2.out], BW2⟩
        case measure => simp [intOf]; omega
    · have hkl : k = x.pieces.length := by omega
      subst hkl
      rw [List.take_length]
      generalize hst : nextF i tn last x.pieces = st
      obtain ⟨lo, so⟩ := st
      have HST : Hid (nextF i tn last x.pieces = (lo, so)) := hst
      clear hst
      simp only
      have NU := numbered_any (i : Int) lo wr
      go_wp2_with fail
      refine NU.mono ?_
      rintro e w1 ⟨rfl, b1⟩
      have BE : Below w.heap.size w w1 := B0.trans ((BR.mono (by omega)).trans (b1.mono (by omega)))
      have CR1 := (CR.below BR (by omega)).below b1 (by omega)
      have r0 := CR1.cell 0 _ rfl
      have r1 := CR1.cell 1 _ rfl
      have r2 := CR1.cell 2 _ rfl
      have g0 := CR1.fz 0
      have g1 := CR1.fz 1
      have g2 := CR1.fz 2
      clear NU
      go_wp2_with fail
      have CE := ((CR1.set 0 (.int .i64 (i : Int)) (by simp)).set 1 (.int .i64 (lo % 65536)) (by simp)).set 2 (.bool true) (by simp)
      have e0 := CE.cell 0 _ rfl
      have e1 := CE.cell 1 _ rfl
      have e2 := CE.cell 2 _ rfl
      refine bodyPost_ret (v := .tuple #[.agg #[.int .i64 (i : Int), .int .i64 (lo % 65536), .bool true], .bool so]) (by simp [results, Try.results82, go_sem, e0, e1, e2]) rfl ⟨by rw [HST.out], ?_⟩
      exact ((BE.setCell (by show _ ≤ _ + 1; omega) _).setCell (by show _ ≤ _ + 1; omega) _).setCell (by show _ ≤ _ + 1; omega) _

set_option maxHeartbeats 2000000 in
/-- All up to a number are passed. -/
theorem pass_any (S : Nat → Prop) (base R : Nat) (K : Int) (x : Rc) (i : Nat) (last : Int) (w : World) (h : RvX S base w R x) (hok : OkR K x) (hi : i < x.turn.length) (hK : K ≤ 1099511627776) (hl : last ≤ turnAt x i + 32768) : Calls Try.prog 67 #[.pointer (some ⟨R, 0, none⟩), .int .i64 (i : Int), .int .i64 last] w fun e w' => (∃ r, e = .returned r) ∧ RvX S base w' R (passM x i last) ∧ Keep S w w' ∧ Below base w w' := by
  obtain ⟨s, p, t, l, hx⟩ := h
  have hS := hx.eo
  have hrw : base ≤ w.heap.size := by have := hx.rb; have := hx.rlt; omega
  have hs : hasM x (i : Int) := ⟨by omega, by omega⟩
  have hat := hok.at hs
  have HP : Hid (passM x i last = if last < turnAt x i then x else setTurn (goneN i (last - turnAt x i + 1).toNat x (turnAt x i)) i (last + 1)) := rfl
  obtain ⟨g, c, rfl, hix, ct, -⟩ := hx.turnAt hi
  have c10 := hx.cells.cell 10 _ rfl
  have HX : Hid (RvX S base w R x) := ⟨_, _, _, _, hx⟩
  have hn := hok.fit.n
  have NX : ∀ (y : Rc) (wx : World) (s p t l : Value), RvM S base wx R y s p t l → y.turn = x.turn → OkR K y → Calls Try.prog 82 #[.agg #[.int .i64 y.cf.streams, .int .i64 y.cf.part, .int .i64 y.cf.packet, .int .i64 y.cf.paths, .int .i64 y.cf.turns, .int .i64 y.cf.waiting, .int .i64 y.cf.first, .int .i64 y.cum, s, p, t, l], .int .i64 (i : Int), .int .i64 last] wx fun e w' => e = .returned (.tuple #[.agg #[.int .i64 (i : Int), .int .i64 ((nextF i (turnAt x i) last y.pieces).1 % 65536), .bool true], .bool (nextF i (turnAt x i) last y.pieces).2]) ∧ Below wx.heap.size wx w' := fun y wx s p t l hy e1 ho => by
    have e2 : turnAt y (i : Int) = turnAt x i := by show y.turn.getD _ 0 = x.turn.getD _ 0; rw [e1]
    have := next_any y s p t l i last wx hy.rvs (by rw [e1]; exact hi) (by omega) (by omega) ho.fit.n
    rw [e2] at this
    exact this
  go_enter Try.func67, Try.ntmps67
  by_cases hlt : last < turnAt x i
  · have HE : Hid (passM x i last = x) := by show _ = _; rw [HP.out, if_pos hlt]
    have hd : decide (last < turnAt x i) = true := decide_eq_true hlt
    clear NX hx hS
    go_wp2_with fail
    refine bodyPost_ret (v := .tuple #[]) (by simp [results, Try.results67, go_sem]) rfl ?_
    rw [HE.out]
    exact ⟨⟨_, rfl⟩, HX.out, Keep.refl _ _, Below.refl _ _⟩
  · have HE : Hid (passM x i last = setTurn (goneN i (last - turnAt x i + 1).toNat x (turnAt x i)) i (last + 1)) := by show _ = _; rw [HP.out, if_neg hlt]
    have hd : decide (last < turnAt x i) = false := decide_eq_false hlt
    have NX0 := NX x w s p _ l hx rfl hok
    have RNG := hx.cells.range
    have HSP : Hid (∀ y : Rc, (nextF i (turnAt x i) last y.pieces).2 = true → ∃ k : Nat, (nextF i (turnAt x i) last y.pieces).1 = turnAt x i + k ∧ k < (last - turnAt x i + 1).toNat ∧ (∃ q ∈ y.pieces, isM (numM i (nextF i (turnAt x i) last y.pieces).1) q = true) ∧ ∀ n, turnAt x i ≤ n → n < turnAt x i + k → ∀ q ∈ y.pieces, isM (numM i n) q = false) := fun y hy => by
      obtain ⟨g1, g2, -⟩ := next_spec (i : Int) (turnAt x i) last (by omega) y.pieces
      obtain ⟨g3, g4, g5⟩ := g2 hy
      refine ⟨((nextF i (turnAt x i) last y.pieces).1 - turnAt x i).toNat, by omega, by omega, g4, fun n h1 h2 => g5 n h1 (by omega)⟩
    have HSN : Hid (∀ y : Rc, (nextF i (turnAt x i) last y.pieces).2 = false → goneN i (last - turnAt x i + 1).toNat y (turnAt x i) = y) := fun y hy => by
      obtain ⟨-, -, g2⟩ := next_spec (i : Int) (turnAt x i) last (by omega) y.pieces
      exact goneN_none _ y _ fun n h1 h2 => (g2 hy).2 n h1 (by omega)
    have hcnt : (last - turnAt x i + 1).toNat ≤ 65536 := by omega
    have hSw : ∀ k, S k → k < w.heap.size := fun k hk => (hS k hk).1
    generalize (last - turnAt x i + 1).toNat = cnt at *
    go_wp2_with (refine wpList_ldR rfl (.tmp 19) rfl R 0 rfl x _ _ _ _ (by with_reducible exact RNG) ?_)
    refine NX0.mono ?_
    rintro e w1 ⟨rfl, b1⟩
    have BM := box_below w1 (.cells #[.int .i64 (i : Int), .int .i64 ((nextF i (turnAt x i) last x.pieces).1 % 65536), .bool true] 91)
    have CM : MsAt (w1.alloc (.cells #[.int .i64 (i : Int), .int .i64 ((nextF i (turnAt x i) last x.pieces).1 % 65536), .bool true] 91)) w1.heap.size (numM i (nextF i (turnAt x i) last x.pieces).1) := Cells.new w1 #[.int .i64 (i : Int), .int .i64 ((nextF i (turnAt x i) last x.pieces).1 % 65536), .bool true] 91
    have szM : w1.heap.size < (w1.alloc (.cells #[.int .i64 (i : Int), .int .i64 ((nextF i (turnAt x i) last x.pieces).1 % 65536), .bool true] 91)).heap.size := by simp
    have sz1 := b1.size
    have RX2 : RvX (fun k => S k ∨ k = w1.heap.size) base (w1.alloc (.cells #[.int .i64 (i : Int), .int .i64 ((nextF i (turnAt x i) last x.pieces).1 % 65536), .bool true] 91)) R x := ⟨_, _, _, _, hx.more (b1.trans (BM.mono (by omega))) (by omega) szM⟩
    have BW2 := (b1.mono hrw).trans (BM.mono (by omega : base ≤ w1.heap.size))
    have KW2 := (toKeep b1 hSw).trans (toKeep (S := S) BM fun k hk => by have := hSw k hk; omega)
    clear NX0 RNG
    go_wp2_with fail
    generalize w1.alloc (.cells #[.int .i64 (i : Int), .int .i64 ((nextF i (turnAt x i) last x.pieces).1 % 65536), .bool true] 91) = w2 at *
    go_loopw [6, 7] (fun s6 s7 wr => ∃ (y : Rc) (b : Nat), s6 = .pointer (some ⟨b, 0, none⟩) ∧ s7 = .bool (nextF i (turnAt x i) last y.pieces).2 ∧ RvX (fun k => S k ∨ k = b) base wr R y ∧ MsAt wr b (numM i (nextF i (turnAt x i) last y.pieces).1) ∧ Hid (goneN i cnt y (turnAt x i) = goneN i cnt x (turnAt x i)) ∧ Hid (OkR K y) ∧ Hid (y.turn = x.turn) ∧ Keep S w wr ∧ Below base w wr) (fun _ _ wr => lenAt wr R)
    case atStart => exact ⟨x, w1.heap.size, rfl, rfl, RX2, CM, rfl, hok, rfl, KW2, BW2⟩
    case round =>
      obtain ⟨y, b, rfl, rfl, RX, CB, HG, HO, HT, KR, BR⟩ := hrel
      have hbw := BR.size
      have HLY : Hid (lenAt wr R = y.pieces.length) := by obtain ⟨s', p', t', l', hy⟩ := RX; exact hy.lenAt
      have hwx : base ≤ wr.heap.size := by omega
      clear c10 ct hix hx RX2 CM BW2 KW2 BM szM b1 sz1
      cases hso : (nextF i (turnAt x i) last y.pieces).2 with
      | false =>
        have HY : Hid (goneN i cnt x (turnAt x i) = y) := by show _ = _; rw [← HG.out]; exact HSN.out y hso
        obtain ⟨s', p', t', l', hy0⟩ := RX
        have hy := hy0.less (E' := S) fun k hk => .inl hk
        have hyl : i < y.turn.length := by rw [HT.out]; exact hi
        obtain ⟨g', c', rfl, hix', ct', ft'⟩ := hy.turnAt hyl
        have d10 := hy.cells.cell 10 _ rfl
        have HQ : Hid (RvM S base (wr.setCell ⟨g', i, none⟩ (.int .i64 (last + 1))) R (setTurn y i (last + 1)) s' p' (.slice (some ⟨g', 0, none⟩) y.turn.length c') l') := hy.turned i (last + 1) ⟨by omega, by omega⟩
        have BW3 : Below base w (wr.setCell ⟨g', i, none⟩ (.int .i64 (last + 1))) := BR.setCell (hy.tn.lt g' rfl).1 _
        have KW3 : Hid (Keep S w (wr.setCell ⟨g', i, none⟩ (.int .i64 (last + 1)))) := KR.setCell (p := ⟨g', i, none⟩) (fun hk => (hy.eo g' hk).2.2.2.1 rfl) _
        clear hy hy0 NX
        go_wp2_with fail
        go_end0
        rw [HE.out, HY.out]
        exact ⟨⟨_, rfl⟩, ⟨_, _, _, _, HQ.out⟩, KW3.out, BW3⟩
      | true =>
        obtain ⟨k, hk1, hk2, hk3, hk4⟩ := HSP.out y hso
        have HG1 : Hid (goneN i cnt (goneM y (numM i (turnAt x i + k))) (turnAt x i) = goneN i cnt x (turnAt x i)) := by show _ = _; rw [goneN_one hk2 hk4 hcnt]; exact HG.out
        have HF : Hid ((goneM y (numM i (turnAt x i + k))).pieces.length < y.pieces.length) := by rw [hk1] at hk3; exact gone_fewer hk3
        have HO1 : Hid (OkR K (goneM y (numM i (turnAt x i + k)))) := HO.out.gone _
        have HT1 : Hid ((goneM y (numM i (turnAt x i + k))).turn = x.turn) := (gone_turn y _).1.trans HT.out
        have HGO : Hid (goneM y (numM i (turnAt x i + k)) = if wholeM y (numM i (turnAt x i + k)) = true then delivM y (numM i (turnAt x i + k)) else dropM y (numM i (turnAt x i + k))) := rfl
        have HDV : Hid (wholeM y (numM i (turnAt x i + k)) = false → delivM y (numM i (turnAt x i + k)) = y) := fun h => by rw [delivM, if_neg (by simp [h])]
        rw [hk1] at CB
        have k0 : wr.cell? ⟨b, 0, none⟩ = some (.int .i64 (i : Int)) := CB.cell 0 _ rfl
        have k1 : wr.cell? ⟨b, 1, none⟩ = some (.int .i64 ((turnAt x i + k) % 65536)) := CB.cell 1 _ rfl
        have k2 : wr.cell? ⟨b, 2, none⟩ = some (.bool true) := CB.cell 2 _ rfl
        have DE : Calls Try.prog 59 #[.pointer (some ⟨R, 0, none⟩), .agg #[.int .i64 (i : Int), .int .i64 ((turnAt x i + k) % 65536), .bool true]] wr _ := deliver_any (fun k => S k ∨ k = b) base R y (numM i (turnAt x i + k)) wr RX HO.out.fit
        have DR : ∀ wx, RvX (fun k => S k ∨ k = b) base wx R y → Calls Try.prog 68 #[.pointer (some ⟨R, 0, none⟩), .agg #[.int .i64 (i : Int), .int .i64 ((turnAt x i + k) % 65536), .bool true]] wx fun e w' => (∃ r, e = .returned r) ∧ RvX (fun k => S k ∨ k = b) base w' R (dropM y (numM i (turnAt x i + k))) ∧ Keep (fun k => S k ∨ k = b) wx w' ∧ Below base wx w' := fun wx hx => drop_any (fun k => S k ∨ k = b) base R y (numM i (turnAt x i + k)) wx hx
        have HSr : Hid (∀ k, S k → k < wr.heap.size) := by obtain ⟨s', p', t', l', hy⟩ := RX; exact fun k hk => (hy.eo k (.inl hk)).1
        clear hk1 hk3 hk4 hso HSP HSN HG HO HT RX
        generalize turnAt x (i : Int) + (k : Int) = lo at *
        go_wp2_with fail
        refine DE.mono ?_
        rintro e w3 ⟨rfl, RX3, K3, B3⟩
        have CB3 : MsAt w3 b (numM i lo) := CB.keep K3 (.inr rfl)
        cases hw : wholeM y (numM i lo) with
        | false =>
          have RX3' : RvX (fun k => S k ∨ k = b) base w3 R y := by rw [HDV.out hw] at RX3; exact RX3
          have q0 : w3.cell? ⟨b, 0, none⟩ = some (.int .i64 (i : Int)) := CB3.cell 0 _ rfl
          have q1 : w3.cell? ⟨b, 1, none⟩ = some (.int .i64 (lo % 65536)) := CB3.cell 1 _ rfl
          have q2 : w3.cell? ⟨b, 2, none⟩ = some (.bool true) := CB3.cell 2 _ rfl
          have DR3 := DR w3 RX3'
          have HGE : Hid (goneM y (numM i lo) = dropM y (numM i lo)) := by show _ = _; rw [HGO.out, hw]; rfl
          clear DE DR RX3 RX3' k0 k1 k2
          go_wp2_with fail
          refine DR3.mono ?_
          rintro e wc ⟨⟨r4, rfl⟩, RX4, K4, B4⟩
          rw [← HGE.out] at RX4
          have HR : Hid _ := RX4
          have HC : Hid (MsAt wc b (numM i lo)) := CB3.keep K4 (.inr rfl)
          have HK : Hid _ := K3.trans K4
          have HB : Hid _ := B3.trans B4
          clear RX4 DR3 q0 q1 q2 CB3 CB K3 K4 B3 B4 HGO HDV HGE
          obtain ⟨s', p', t', l', hz0⟩ := HR.out
          have hz := hz0.less (E' := S) fun k hk => .inl hk
          have j0 : wc.cell? ⟨b, 0, none⟩ = some (.int .i64 (i : Int)) := HC.out.cell 0 _ rfl
          have j1 : wc.cell? ⟨b, 1, none⟩ = some (.int .i64 (lo % 65536)) := HC.out.cell 1 _ rfl
          have j2 : wc.cell? ⟨b, 2, none⟩ = some (.bool true) := HC.out.cell 2 _ rfl
          have BM := box_below wc (.cells #[.int .i64 (i : Int), .int .i64 (lo % 65536), .bool true] 91)
          have CM : MsAt (wc.alloc (.cells #[.int .i64 (i : Int), .int .i64 (lo % 65536), .bool true] 91)) wc.heap.size (numM i lo) := Cells.new wc #[.int .i64 (i : Int), .int .i64 (lo % 65536), .bool true] 91
          have szM : wc.heap.size < (wc.alloc (.cells #[.int .i64 (i : Int), .int .i64 (lo % 65536), .bool true] 91)).heap.size := by simp
          have hz5 := hz.below BM
          have NX5 := NX (goneM y (numM i lo)) _ s' p' t' l' hz5 HT1.out HO1.out
          have RNG := hz5.cells.range
          have HZ : Hid (RvM S base wc R (goneM y (numM i lo)) s' p' t' l') := hz
          obtain ⟨sa', sc', pa', pc', ta', tc', la', lc', rfl, rfl, rfl, rfl⟩ := hz.form
          have hszc := HB.out.size
          clear hz hz0 hz5 NX
          generalize goneM y (numM i lo) = z at *
          go_wp2_with (refine wpList_ldR rfl (.tmp 29) rfl R 0 rfl z _ _ _ _ (by with_reducible exact RNG) ?_)
          refine NX5.mono ?_
          rintro e w6 ⟨rfl, b6⟩
          generalize wc.alloc (.cells #[.int .i64 (i : Int), .int .i64 (lo % 65536), .bool true] 91) = w5 at *
          have CM6 := CM.below b6 szM
          have sz6 := b6.size
          have r0 := CM6.cell 0 _ rfl
          have r1 := CM6.cell 1 _ rfl
          have r2 := CM6.cell 2 _ rfl
          have f0 := CM6.fz 0
          have f1 := CM6.fz 1
          have f2 := CM6.fz 2
          have B6 : Below wc.heap.size wc w6 := BM.trans (b6.mono (by omega))
          clear NX5 RNG j0 j1 j2
          generalize hlo2 : (nextF i (turnAt x i) last z.pieces).1 = lo2 at *
          generalize hso2 : (nextF i (turnAt x i) last z.pieces).2 = so2 at *
          have HL2 : Hid ((nextF i (turnAt x i) last z.pieces).1 = lo2) := hlo2
          have HS2 : Hid ((nextF i (turnAt x i) last z.pieces).2 = so2) := hso2
          clear hlo2 hso2
          have CE := ((CM6.set 0 (.int .i64 (i : Int)) (by simp)).set 1 (.int .i64 (lo2 % 65536)) (by simp)).set 2 (.bool true) (by simp)
          have BE : Below wc.heap.size wc (((w6.setCell ⟨wc.heap.size, 0, none⟩ (.int .i64 (i : Int))).setCell ⟨wc.heap.size, 1, none⟩ (.int .i64 (lo2 % 65536))).setCell ⟨wc.heap.size, 2, none⟩ (.bool true)) := ((B6.setCell (Nat.le_refl _) _).setCell (Nat.le_refl _) _).setCell (Nat.le_refl _) _
          have HCE : Hid _ := CE
          have HBE : Hid _ := BE
          have szE : wc.heap.size < (((w6.setCell ⟨wc.heap.size, 0, none⟩ (.int .i64 (i : Int))).setCell ⟨wc.heap.size, 1, none⟩ (.int .i64 (lo2 % 65536))).setCell ⟨wc.heap.size, 2, none⟩ (.bool true)).heap.size := by simp; omega
          clear CE BE CM CM6
          go_wp2_with fail
          generalize ((w6.setCell ⟨wc.heap.size, 0, none⟩ (.int .i64 (i : Int))).setCell ⟨wc.heap.size, 1, none⟩ (.int .i64 (lo2 % 65536))).setCell ⟨wc.heap.size, 2, none⟩ (.bool true) = w7 at *
          go_roundw
          case rel =>
            refine ⟨z, wc.heap.size, rfl, by rw [HS2.out], ⟨_, _, _, _, HZ.out.more HBE.out (Nat.le_refl _) szE⟩, by rw [HL2.out]; exact HCE.out, HG1, HO1, HT1, ?_, ?_⟩
            · exact KR.trans ((HK.out.mono fun k hk => .inl hk).trans (toKeep HBE.out fun k hk => (HZ.out.eo k hk).1))
            · exact BR.trans (HB.out.trans (HBE.out.mono (by omega)))
          case measure =>
            have e1 := (HZ.out.below HBE.out).lenAt
            have e2 := HLY.out
            have e3 := HF.out
            omega
        | true =>
          have HR : Hid (RvX (fun k => S k ∨ k = b) base w3 R (goneM y (numM i lo))) := by rw [HGO.out, hw]; exact RX3
          have HC : Hid _ := CB3
          have HK : Hid _ := K3
          have HB : Hid _ := B3
          clear DE DR RX3 k0 k1 k2 CB3 K3 B3 CB HGO HDV
          obtain ⟨s', p', t', l', hz0⟩ := HR.out
          have hz := hz0.less (E' := S) fun k hk => .inl hk
          have j0 : w3.cell? ⟨b, 0, none⟩ = some (.int .i64 (i : Int)) := HC.out.cell 0 _ rfl
          have j1 : w3.cell? ⟨b, 1, none⟩ = some (.int .i64 (lo % 65536)) := HC.out.cell 1 _ rfl
          have j2 : w3.cell? ⟨b, 2, none⟩ = some (.bool true) := HC.out.cell 2 _ rfl
          have BM := box_below w3 (.cells #[.int .i64 (i : Int), .int .i64 (lo % 65536), .bool true] 91)
          have CM : MsAt (w3.alloc (.cells #[.int .i64 (i : Int), .int .i64 (lo % 65536), .bool true] 91)) w3.heap.size (numM i lo) := Cells.new w3 #[.int .i64 (i : Int), .int .i64 (lo % 65536), .bool true] 91
          have szM : w3.heap.size < (w3.alloc (.cells #[.int .i64 (i : Int), .int .i64 (lo % 65536), .bool true] 91)).heap.size := by simp
          have hz5 := hz.below BM
          have NX5 := NX (goneM y (numM i lo)) _ s' p' t' l' hz5 HT1.out HO1.out
          have RNG := hz5.cells.range
          have HZ : Hid (RvM S base w3 R (goneM y (numM i lo)) s' p' t' l') := hz
          obtain ⟨sa', sc', pa', pc', ta', tc', la', lc', rfl, rfl, rfl, rfl⟩ := hz.form
          have hszc := HB.out.size
          clear hz hz0 hz5 NX
          generalize goneM y (numM i lo) = z at *
          go_wp2_with (refine wpList_ldR rfl (.tmp 29) rfl R 0 rfl z _ _ _ _ (by with_reducible exact RNG) ?_)
          refine NX5.mono ?_
          rintro e w6 ⟨rfl, b6⟩
          generalize w3.alloc (.cells #[.int .i64 (i : Int), .int .i64 (lo % 65536), .bool true] 91) = w5 at *
          have CM6 := CM.below b6 szM
          have sz6 := b6.size
          have r0 := CM6.cell 0 _ rfl
          have r1 := CM6.cell 1 _ rfl
          have r2 := CM6.cell 2 _ rfl
          have f0 := CM6.fz 0
          have f1 := CM6.fz 1
          have f2 := CM6.fz 2
          have B6 : Below w3.heap.size w3 w6 := BM.trans (b6.mono (by omega))
          clear NX5 RNG j0 j1 j2
          generalize hlo2 : (nextF i (turnAt x i) last z.pieces).1 = lo2 at *
          generalize hso2 : (nextF i (turnAt x i) last z.pieces).2 = so2 at *
          have HL2 : Hid ((nextF i (turnAt x i) last z.pieces).1 = lo2) := hlo2
          have HS2 : Hid ((nextF i (turnAt x i) last z.pieces).2 = so2) := hso2
          clear hlo2 hso2
          have CE := ((CM6.set 0 (.int .i64 (i : Int)) (by simp)).set 1 (.int .i64 (lo2 % 65536)) (by simp)).set 2 (.bool true) (by simp)
          have BE : Below w3.heap.size w3 (((w6.setCell ⟨w3.heap.size, 0, none⟩ (.int .i64 (i : Int))).setCell ⟨w3.heap.size, 1, none⟩ (.int .i64 (lo2 % 65536))).setCell ⟨w3.heap.size, 2, none⟩ (.bool true)) := ((B6.setCell (Nat.le_refl _) _).setCell (Nat.le_refl _) _).setCell (Nat.le_refl _) _
          have HCE : Hid _ := CE
          have HBE : Hid _ := BE
          have szE : w3.heap.size < (((w6.setCell ⟨w3.heap.size, 0, none⟩ (.int .i64 (i : Int))).setCell ⟨w3.heap.size, 1, none⟩ (.int .i64 (lo2 % 65536))).setCell ⟨w3.heap.size, 2, none⟩ (.bool true)).heap.size := by simp; omega
          clear CE BE CM CM6
          go_wp2_with fail
          generalize ((w6.setCell ⟨w3.heap.size, 0, none⟩ (.int .i64 (i : Int))).setCell ⟨w3.heap.size, 1, none⟩ (.int .i64 (lo2 % 65536))).setCell ⟨w3.heap.size, 2, none⟩ (.bool true) = w7 at *
          go_roundw
          case rel =>
            refine ⟨z, w3.heap.size, rfl, by rw [HS2.out], ⟨_, _, _, _, HZ.out.more HBE.out (Nat.le_refl _) szE⟩, by rw [HL2.out]; exact HCE.out, HG1, HO1, HT1, ?_, ?_⟩
            · exact KR.trans ((HK.out.mono fun k hk => .inl hk).trans (toKeep HBE.out fun k hk => (HZ.out.eo k hk).1))
            · exact BR.trans (HB.out.trans (HBE.out.mono (by omega)))
          case measure =>
            have e1 := (HZ.out.below HBE.out).lenAt
            have e2 := HLY.out
            have e3 := HF.out
            omega
end Go.Proofs.Ytnddejdndipddad
