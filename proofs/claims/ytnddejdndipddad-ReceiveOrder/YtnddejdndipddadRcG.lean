/- The contracts of receive's takeTurns, next and pass. -/
import Derived.Test.YtnddejdndipddadRcF
set_option maxRecDepth 20000
namespace Go.Proofs.Ytnddejdndipddad
open Go.RowKit

theorem enters_numbered (args : Array Value) (wx : World) : (callFunc 78 args).run Try.prog wx = .ok (.enter 78 args) wx := enters_body Try.func78 (by kernel_rfl) rfl args wx
/-- How many pieces there are. -/
def lenAt (w : World) (R : Nat) : Nat := match w.cell? ⟨R, 9, none⟩ with
  | some (.slice _ n _) => n
  | _ => 0
theorem RvM.lenAt {E : Nat → Prop} {base : Nat} {w : World} {R : Nat} {x : Rc} {s p t l : Value} (h : RvM E base w R x s p t l) : lenAt w R = x.pieces.length := by
  obtain ⟨pa, pc, e⟩ := h.pc.form
  have := h.cells.cell 9 _ rfl
  rw [Go.Proofs.Ytnddejdndipddad.lenAt, this, e]
theorem run_int_at (g n c k : Nat) (h : k < n) (wx : World) : (Instr.indexAt 31 (.slice (some ⟨g, 0, none⟩) n c) (.int .i64 (k : Int))).run Try.prog wx = .ok (.pointer (some ⟨g, k, none⟩)) wx := by
  have : (k : Int) < n := by omega
  go_simp
/-- A stream's turn in memory. -/
theorem RvM.turnAt {E : Nat → Prop} {base : Nat} {w : World} {R : Nat} {x : Rc} {s p t l : Value} (h : RvM E base w R x s p t l) {i : Nat} (hi : i < x.turn.length) : ∃ g c, t = .slice (some ⟨g, 0, none⟩) x.turn.length c ∧ (∀ wx, (Instr.indexAt 31 (.slice (some ⟨g, 0, none⟩) x.turn.length c) (.int .i64 (i : Int))).run Try.prog wx = .ok (.pointer (some ⟨g, i, none⟩)) wx) ∧ w.cell? ⟨g, i, none⟩ = some (.int .i64 (turnAt x i)) ∧ w.frozen? ⟨g, i, none⟩ = false := by
  have ht := h.tn
  rcases h.tn.2 with ⟨_, h0⟩ | ⟨g, c, cur, rfl, -⟩
  · omega
  · refine ⟨g, c, rfl, run_int_at g _ c i hi, ?_, ht.frozenAt i⟩
    rw [ht.cellAt i (by omega), cellsI_get _ _ hi]
    simp [Go.Proofs.Ytnddejdndipddad.turnAt, hi]

set_option maxHeartbeats 2000000 in
/-- A stream's turns. -/
theorem takeTurns_any (S : Nat → Prop) (base R : Nat) (K : Int) (x : Rc) (i : Nat) (w : World) (h : RvX S base w R x) (hok : OkR K x) (hi : i < x.turn.length) (hK : K ≤ 1099511627776) : Calls Try.prog 58 #[.pointer (some ⟨R, 0, none⟩), .int .i64 (i : Int)] w fun e w' => (∃ r, e = .returned r) ∧ RvX S base w' R (turnsM x i) ∧ Keep S w w' ∧ Below base w w' := by
  have hrw : base ≤ w.heap.size := by obtain ⟨s, p, t, l, h⟩ := h; have := h.rb; have := h.rlt; omega
  have hSw : ∀ k, S k → k < w.heap.size := by obtain ⟨s, p, t, l, h⟩ := h; exact fun k hk => (h.eo k hk).1
  go_enter Try.func58, Try.ntmps58
  go_wp2_with fail
  go_loopw [14] (fun _ wr => ∃ y, RvX S base wr R y ∧ Hid (turnsM y i = turnsM x i) ∧ Hid (OkR K y) ∧ Hid (y.turn.length = x.turn.length) ∧ Keep S w wr ∧ Below base w wr) (fun _ wr => lenAt wr R)
  case atStart => exact ⟨x, h, rfl, hok, rfl, Keep.refl _ _, Below.refl _ _⟩
  case round =>
    obtain ⟨y, ⟨s, p, t, l, hy⟩, HT, HO, HL, KR, BR⟩ := hrel
    have hi' : i < y.turn.length := by rw [HL.out]; exact hi
    have hs : hasM y (i : Int) := ⟨by omega, by omega⟩
    have hat := HO.out.at hs
    have HM : Hid (lenAt wr R = y.pieces.length) := hy.lenAt
    have HST : Hid (wholeM y (numM i (turnAt y i)) = false → turnsM y i = y ∧ delivM y (numM i (turnAt y i)) = y) := fun hw => ⟨turnsM_stop hw, by rw [delivM, if_neg (by simp [hw])]⟩
    have HGO : Hid (wholeM y (numM i (turnAt y i)) = true → turnsM (setTurn (delivM y (numM i (turnAt y i))) i (turnAt y i + 1)) i = turnsM y i ∧ OkR K (setTurn (delivM y (numM i (turnAt y i))) i (turnAt y i + 1)) ∧ (delivM y (numM i (turnAt y i))).pieces.length < y.pieces.length) := fun hw => ⟨(turnsM_go hw).symm, HO.out.step hs hw, deliv_len hw⟩
    have HDT : Hid ((delivM y (numM i (turnAt y i))).turn = y.turn) := (deliv_turn y _).1
    obtain ⟨g, c, rfl, hix, ct, -⟩ := hy.turnAt hi'
    have c10 := hy.cells.cell 10 _ rfl
    have NU := numbered_any (i : Int) (turnAt y i) wr
    have DE : ∀ wx, Below wr.heap.size wr wx → Calls Try.prog 59 #[.pointer (some ⟨R, 0, none⟩), .agg #[.int .i64 (i : Int), .int .i64 (turnAt y i % 65536), .bool true]] wx fun e w' => e = .returned (.bool (wholeM y (numM i (turnAt y i)))) ∧ RvX S base w' R (delivM y (numM i (turnAt y i))) ∧ Keep S wx w' ∧ Below base wx w' := fun wx hb => deliver_any S base R y (numM i (turnAt y i)) wx ⟨_, _, _, _, hy.below hb⟩ HO.out.fit
    have hTN : turnAt (delivM y (numM i (turnAt y i))) i = turnAt y i := by
      have e := HDT.out
      show (delivM y (numM i (turnAt y i))).turn.getD _ 0 = y.turn.getD _ 0
      rw [e]
    have HTN : Hid (turnAt (delivM y (numM i (turnAt y i))) i = turnAt y i) := hTN
    clear hTN
    generalize delivM y (numM i (turnAt y i)) = z at *
    generalize wholeM y (numM i (turnAt y i)) = wh at *
    generalize turnAt y (i : Int) = tn at *
    have hSr : ∀ k, S k → k < wr.heap.size := fun k hk => (hy.eo k hk).1
    clear hy h
    have hbw := BR.size
    have hb0 : base ≤ wr.heap.size := by omega
    go_wp2_with fail
    refine NU.mono ?_
    rintro e w1 ⟨rfl, b1⟩
    go_wp2_with fail
    refine (DE w1 b1).mono ?_
    rintro e w2 ⟨rfl, ⟨s', p', t', l', hz⟩, k2, b2⟩
    have KW2 : Keep S w w2 := KR.trans ((toKeep b1 hSr).trans k2)
    have BW2 : Below base w w2 := BR.trans ((b1.mono hb0).trans b2)
    cases wh with
    | false =>
      obtain ⟨g1, g2⟩ := HST.out rfl
      have HE : Hid (turnsM x i = z) := by show _ = _; rw [← HT.out, g1, g2]
      have RX : Hid (RvX S base w2 R z) := ⟨_, _, _, _, hz⟩
      clear NU DE HST HGO g1 g2 hz
      go_wp2_with fail
      go_end0
      rw [HE.out]
      exact ⟨⟨_, rfl⟩, RX.out, KW2, BW2⟩
    | true =>
      obtain ⟨g1, g2, g3⟩ := HGO.out rfl
      have hzl : i < z.turn.length := by rw [HDT.out]; exact hi'
      obtain ⟨g', c', rfl, hix', ct', ft'⟩ := hz.turnAt hzl
      rw [HTN.out] at ct'
      have d10 := hz.cells.cell 10 _ rfl
      have HQ : Hid (RvM S base (w2.setCell ⟨g', i, none⟩ (.int .i64 (tn + 1))) R (setTurn z i (tn + 1)) s' p' (.slice (some ⟨g', 0, none⟩) z.turn.length c') l') := hz.turned i (tn + 1) ⟨by omega, by omega⟩
      have hgb : base ≤ g' := (hz.tn.lt g' rfl).1
      have BW3 : Below base w (w2.setCell ⟨g', i, none⟩ (.int .i64 (tn + 1))) := BW2.setCell hgb _
      have G1 : Hid _ := g1
      have G2 : Hid _ := g2
      have G3 : Hid _ := g3
      have HZL : Hid (z.turn.length = x.turn.length) := by show _ = _; rw [HDT.out]; exact HL.out
      have w1 : IntKind.i64.wrap (tn + 1) = tn + 1 := by simp [IntKind.wrap, IntKind.signed, IntKind.bits]; omega
      have KW3 : Hid (Keep S w (w2.setCell ⟨g', i, none⟩ (.int .i64 (tn + 1)))) := KW2.setCell (p := ⟨g', i, none⟩) (fun hk => (hz.eo g' hk).2.2.2.1 rfl) _
      clear NU DE HST HGO g1 g2 g3 hz
      go_wp2_with fail
      go_roundw
      case rel => exact ⟨setTurn z i (tn + 1), ⟨_, _, _, _, HQ.out⟩, G1.out.trans HT.out, G2, by show _ = _; simp [setTurn]; exact HZL.out, KW3.out, BW3⟩
      case measure =>
        have e1 := HQ.out.lenAt
        have e2 := HM.out
        have e3 : (setTurn z i (tn + 1)).pieces.length = z.pieces.length := rfl
        have e4 := G3.out
        omega
end Go.Proofs.Ytnddejdndipddad
