/- The document's Parse: its beginning. -/
import Derived.Test.YtnddejdndipddabCrD
set_option maxRecDepth 20000
namespace Go.Proofs.Ytnddejdndipddab
open Go.RowKit

theorem getD_drop (l : List Int) (d i : Nat) : (l.drop d).getD i 0 = l.getD (d + i) 0 := by simp [List.getD_eq_getElem?_getD]
theorem read_bad {k : Int} {l : List Int} (h : k < 1 ∨ 3 < k) : readM k l = (1, Ck.zero) := read_0 l (by omega) (by omega) (by omega)

/-- How it stands when the reader is made, and the chunk lies in block X with these cells. -/
structure PS (w : World) (X : Nat) (cells : List Value) (l : List Int) (ok : Bool) (wx : World) : Prop where
  ch : Cells X wx cells
  z : Cells w.heap.size wx zeroL
  rd : RdS (w.heap.size + 1) wx l ok
  bel : Below w.heap.size w wx
  ne : w.heap.size + 1 < X

theorem PS.lt {w : World} {X : Nat} {u : Value} {cells : List Value} {l : List Int} {ok : Bool} {wx : World} (h : PS w X (u :: cells) l ok wx) : X < wx.heap.size := World.block_lt_of_cell? _ _ (h.ch.cell 0 _ rfl)

/-- A call of the reader. -/
theorem PS.read {w : World} {X : Nat} {cells : List Value} {l l' : List Int} {ok ok' : Bool} {wx wy : World} (h : PS w X cells l ok wx) (rd : RdS (w.heap.size + 1) wy l' ok') (kp : Keep (SN (w.heap.size + 1)) wx wy) : PS w X cells l' ok' wy :=
  ⟨h.ch.keep kp (by have := h.ne; unfold SN; omega), h.z.keep kp (by unfold SN; omega), rd, h.bel.trans (kp.below fun k hk => by unfold SN; omega), h.ne⟩
/-- A store into the chunk. -/
theorem PS.set {w : World} {X : Nat} {cells : List Value} {l : List Int} {ok : Bool} {wx : World} (h : PS w X cells l ok wx) (i : Nat) (u : Value) (hi : i < cells.length) : PS w X (cells.set i u) l ok (wx.setCell ⟨X, i, none⟩ u) := by
  have hne := h.ne
  have kp : Keep (fun k => k ≠ X) wx (wx.setCell ⟨X, i, none⟩ u) := (Keep.refl _ wx).setCell (by simp) _
  exact ⟨h.ch.set i u hi, h.z.keep kp (by omega), h.rd.keep kp (fun k hk => by omega), h.bel.trans (kp.below fun k hk => by omega), h.ne⟩
theorem PS.heap {w : World} {X : Nat} {cells : List Value} {l : List Int} {ok : Bool} {wx : World} (h : PS w X cells l ok wx) : PS w X cells l ok wx.drew :=
  ⟨⟨h.ch.cell, h.ch.fz⟩, ⟨h.z.cell, h.z.fz⟩, ⟨h.rd.ex, h.rd.ok, h.rd.f0, h.rd.f1⟩, h.bel.drew, h.ne⟩

theorem PS.bad {w : World} {X : Nat} {cells : List Value} {l : List Int} {ok : Bool} {wx : World} (h : PS w X cells l ok wx) : PS w X cells l false (wx.setCell ⟨w.heap.size + 1, 1, none⟩ (.bool false)) := by
  have hne := h.ne
  have kp : Keep (SN (w.heap.size + 1)) wx (wx.setCell ⟨w.heap.size + 1, 1, none⟩ (.bool false)) := (Keep.refl _ wx).setCell (by unfold SN; simp) _
  refine h.read ?_ kp
  obtain ⟨⟨a, cap, h1, h2⟩, h3, h4, h5⟩ := h.rd
  refine ⟨⟨a, cap, ?_, h2.below (kp.below fun k hk => by unfold SN; omega) (Nat.le_refl _)⟩, World.cell?_setCell_same' _ _ _ (by rw [h3]; rfl), by simpa using h4, by simpa using h5⟩
  rw [World.cell?_setCell_other _ _ _ _ (by simp)]; exact h1
theorem PS.kept {S : Nat → Prop} {w : World} {X : Nat} {u : Value} {cells : List Value} {l : List Int} {ok : Bool} {wx wy : World} (h : PS w X (u :: cells) l ok wx) (kp : Keep S wx wy) (hS : ∀ k, k < wx.heap.size → S k) : PS w X (u :: cells) l ok wy := by
  have h1 := h.lt
  have h2 := h.ne
  have h3 := h.bel.size
  exact ⟨h.ch.keep kp (hS _ h1), h.z.keep kp (hS _ (by omega)), h.rd.keep kp (fun k hk => hS k (by omega)), h.bel.trans (kp.below fun k hk => hS k (by omega)), h.ne⟩

set_option maxRecDepth 20000 in
set_option maxHeartbeats 1000000 in
theorem rparse_low (v : Value) (bs : List Int) (w : World) (hv : By w.heap.size w v bs) (hlow : (bs.length < 2 ∨ (bs.length : Int) - 2 < bs.getD 1 0) ∨ (bs.getD 0 0 < 1 ∨ 3 < bs.getD 0 0)) :
    Calls Try.prog 32 #[v] w fun e w' => ∃ c d s k, IsSl d ∧ IsSl s ∧ IsSl k ∧ e = .returned (.tuple #[ckVal c d s k, .int .i64 (parseM bs).2.2, .int .i64 (parseM bs).1]) ∧ CkOwn w.heap.size w' (ckVal c d s k) (parseM bs).2.1 ∧ Below w.heap.size w w' := by
  have HV := hv
  obtain ⟨a, cap, rfl, h1, h2⟩ := hv.ex
  have HB := fun o => box_below w o
  by_cases g : bs.length < 2
  · have HP : Hid _ := parse_end (.inl g)
    clear hv hlow
    go_enter Try.func32, Try.ntmps32
    go_wp2_with fail
    refine bodyPost_ret_by (results_cell3 rfl _ _ _ ⟨w.heap.size, 0, none⟩ zeroV rfl ?_) rfl ?_
    · go_simp
      rfl
    rw [HP.out]
    first | exact ⟨Ck.zero, _, _, _, isl, isl, isl, rfl, CkOwn.zero _ _, HB _⟩ | exact ⟨Ck.zero, _, isl, _, isl, _, isl, rfl, CkOwn.zero _ _, HB _⟩
  · obtain ⟨b1, o1, hb1, hix1, hc1⟩ := HV.at 1 (by omega)
    obtain ⟨b0, o0, hb0, hix0, hc0⟩ := HV.at 0 (by omega)
    have ix1 : ∀ wx, (Instr.indexAt 23 (.slice a bs.length cap) (.int .i64 1)).run Try.prog wx = .ok (.pointer (some ⟨b1, o1, none⟩)) wx := hix1
    have ix0 : ∀ wx, (Instr.indexAt 23 (.slice a bs.length cap) (.int .i64 0)).run Try.prog wx = .ok (.pointer (some ⟨b0, o0, none⟩)) wx := hix0
    clear hix1 hix0
    have r1 := HV.2.get 1 (by omega)
    have r0 := HV.2.get 0 (by omega)
    have e1 : bs.getD 1 0 = bs[1] := by simp [show 1 < bs.length by omega]
    have e0 : bs.getD 0 0 = bs[0] := by simp [show 0 < bs.length by omega]
    have C1 := fun o => new_at hc1 o
    have C0 := fun o => new_at hc0 o
    by_cases g2 : (bs.length : Int) - 2 < bs.getD 1 0
    · have HP : Hid _ := parse_end (.inr g2)
      rw [e1] at g2
      clear e1 e0 hlow
      generalize bs[1] = x1 at *
      clear hv
      go_enter Try.func32, Try.ntmps32
      go_wp2_with fail
      refine bodyPost_ret_by (results_cell3 rfl _ _ _ ⟨w.heap.size, 0, none⟩ zeroV rfl ?_) rfl ?_
      · go_simp
        rfl
      rw [HP.out]
      first | exact ⟨Ck.zero, _, _, _, isl, isl, isl, rfl, CkOwn.zero _ _, HB _⟩ | exact ⟨Ck.zero, _, isl, _, isl, _, isl, rfl, CkOwn.zero _ _, HB _⟩
    · have g3 : bs.getD 0 0 < 1 ∨ 3 < bs.getD 0 0 := by
        rcases hlow with (h | h) | h
        · exact absurd h g
        · exact absurd h g2
        · exact h
      have HP : Hid (parseM bs = (1, Ck.zero, 0)) := by
        show _ = _
        rw [parse_read (not_or.2 ⟨g, g2⟩), read_bad g3]
        rfl
      rw [e1] at g2
      rw [e0] at g3
      clear e1 e0 hlow
      generalize bs[1] = x1 at *
      generalize bs[0] = x0 at *
      clear hv
      have HG : Hid (x0 < 1 ∨ 3 < x0) := g3
      clear g3
      go_enter Try.func32, Try.ntmps32
      go_upto_region 3 with fail
      have ra := r0.1
      have rb := r0.2
      rcases HG.out with g3 | g3
      · go_wp2_with fail
        refine bodyPost_ret_by (results_cell3 rfl _ _ _ ⟨w.heap.size, 0, none⟩ zeroV rfl ?_) rfl ?_
        · go_simp
          rfl
        rw [HP.out]
        first | exact ⟨Ck.zero, _, _, _, isl, isl, isl, rfl, CkOwn.zero _ _, HB _⟩ | exact ⟨Ck.zero, _, isl, _, isl, _, isl, rfl, CkOwn.zero _ _, HB _⟩
      · have b3 : decide (x0 < 1) = false := by simp; omega
        go_wp2_with fail
        refine bodyPost_ret_by (results_cell3 rfl _ _ _ ⟨w.heap.size, 0, none⟩ zeroV rfl ?_) rfl ?_
        · go_simp
          rfl
        rw [HP.out]
        first | exact ⟨Ck.zero, _, _, _, isl, isl, isl, rfl, CkOwn.zero _ _, HB _⟩ | exact ⟨Ck.zero, _, isl, _, isl, _, isl, rfl, CkOwn.zero _ _, HB _⟩
end Go.Proofs.Ytnddejdndipddab
