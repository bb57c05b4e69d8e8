/- What is asked first of sched's statements: alive. -/
import Derived.Test.YtnddejdndipddacScF
set_option maxRecDepth 20000
namespace Go.Proofs.Ytnddejdndipddac
open Go.RowKit

/-- A message of a stream, else zero. -/
def msgQ (id stream : Int) : Qd := ⟨id, 0, 0, 0, 0, stream, false, 0, 0⟩
abbrev msgA (id stream : Int) : Array Value := #[.int .i64 id, .int .i64 0, .int .i64 0, .int .i64 0, .int .i64 0, .int .i64 stream, .bool false, .int .i64 0, .int .i64 0, .slice none 0 0]

set_option maxHeartbeats 400000 in
theorem msg_any (id stream : Int) (w : World) : Calls Try.prog 11 #[.int .i64 id, .int .i64 stream] w fun e w' => e = .returned (.agg (msgA id stream)) ∧ w' = w.alloc (.cells (msgA id stream) 31) := by
  go_enter Try.func11, Try.ntmps11
  go_wp2
  exact bodyPost_ret (v := .agg (msgA id stream)) (by simp [results, Try.results11, go_sem]) rfl ⟨rfl, rfl⟩

theorem fore2 {n : Nat} {f : Int → Int} {s0 s1 : Int} (h0 : isSt n s0) (h1 : isSt n s1) : (ahead f s0 s1 → Foremost n f [s0, s1] 0) ∧ (ahead f s1 s0 → Foremost n f [s0, s1] 1) := by
  refine ⟨fun h => .inr ⟨0, s0, rfl, rfl, h0, fun j s hs _ => ?_⟩, fun h => .inr ⟨1, s1, rfl, rfl, h1, fun j s hs _ => ?_⟩⟩
  · match j, hs with
    | 0, hs => simp at hs; subst hs; exact .inl ⟨rfl, Nat.le_refl _⟩
    | 1, hs => simp at hs; subst hs; exact .inr h
    | j + 2, hs => simp at hs
  · match j, hs with
    | 0, hs => simp at hs; subst hs; exact .inr h
    | 1, hs => simp at hs; subst hs; exact .inl ⟨rfl, Nat.le_refl _⟩
    | j + 2, hs => simp at hs
theorem run_field2 (x y : Value) (a : Option Addr) (n c : Nat) (w : World) : (Instr.field 24 (.agg #[x, y, .slice a n c]) 2).run Try.prog w = .ok (.slice a n c) w := by kernel_rfl
theorem st20 : isSt 2 0 := by unfold isSt; omega
theorem st21 : isSt 2 1 := by unfold isSt; omega
theorem alive1 {k : Int} (h : NextIs 1 1 (-1) [0, 0] [0, 1] [1, 0] k) : k = 0 := h.uniq (next_else (by simp) (by omega))
theorem alive4 {k : Int} (h : NextIs 4 1 (-1) [0, 0] [0, 1] [1, 0] k) : k = 1 := h.uniq (next_rank (by simp) rfl ((fore2 st21 st20).2 (.inr ⟨rfl, by omega⟩)))
theorem alive2 {k : Int} (h : NextIs 2 1 (-1) [0, 0] [0, 1] [1, 0] k) : k = 1 := h.uniq (next_round (by simp) (.inr ⟨rfl, by simp⟩) ((fore2 st21 st20).2 (by unfold ahead fBehind; simp)))
theorem alive3 {k : Int} (h : NextIs 3 0 (-1) [5, 0] [0, 1] [1, 0] k) : k = 0 := h.uniq (next_round (by simp) (.inl rfl) ((fore2 st21 st20).1 (by unfold ahead fBehind; simp)))

set_option maxHeartbeats 2000000 in
theorem alive_any (w : World) : Calls Try.prog 9 #[] w fun e w' => e = .returned (.bool true) ∧ Below w.heap.size w w' := by
  have NW : ∀ wx, Calls Try.prog 12 #[.int .i64 2] wx fun e w' => ∃ O, e = .returned (.agg #[.int .i64 1, .int .i64 (-1), .slice (some ⟨O, 0, none⟩) 2 2]) ∧ Cells O w' (cellsI [0, 0]) ∧ wx.heap.size ≤ O ∧ O < w'.heap.size ∧ Below wx.heap.size wx w' := fun wx => new_any 2 wx (by omega)
  go_enter Try.func9, Try.ntmps9
  go_wp2_with (go_at_call 11; refine (msg_any _ _ _).mono ?_; rintro e w' ⟨rfl, rfl⟩)
  have BQ : Below w.heap.size w (((w.alloc (.cells (msgA 0 1) 31)).alloc (.cells (msgA 1 0) 31)).alloc (.cells #[.int .i64 0, .int .i64 0, .int .i64 0, .int .i64 0, .int .i64 0, .int .i64 1, .bool false, .int .i64 0, .int .i64 0, .slice none 0 0, .int .i64 1, .int .i64 0, .int .i64 0, .int .i64 0, .int .i64 0, .int .i64 0, .bool false, .int .i64 0, .int .i64 0, .slice none 0 0] 31)) := (two_below w _ _).alloc (by simp; omega) _
  have CQ : Cells (w.heap.size + 1 + 1) (((w.alloc (.cells (msgA 0 1) 31)).alloc (.cells (msgA 1 0) 31)).alloc (.cells #[.int .i64 0, .int .i64 0, .int .i64 0, .int .i64 0, .int .i64 0, .int .i64 1, .bool false, .int .i64 0, .int .i64 0, .slice none 0 0, .int .i64 1, .int .i64 0, .int .i64 0, .int .i64 0, .int .i64 0, .int .i64 0, .bool false, .int .i64 0, .int .i64 0, .slice none 0 0] 31)) [.int .i64 0, .int .i64 0, .int .i64 0, .int .i64 0, .int .i64 0, .int .i64 1, .bool false, .int .i64 0, .int .i64 0, .slice none 0 0, .int .i64 1, .int .i64 0, .int .i64 0, .int .i64 0, .int .i64 0, .int .i64 0, .bool false, .int .i64 0, .int .i64 0, .slice none 0 0] := Cells.new' #[.int .i64 0, .int .i64 0, .int .i64 0, .int .i64 0, .int .i64 0, .int .i64 1, .bool false, .int .i64 0, .int .i64 0, .slice none 0 0, .int .i64 1, .int .i64 0, .int .i64 0, .int .i64 0, .int .i64 0, .int .i64 0, .bool false, .int .i64 0, .int .i64 0, .slice none 0 0] 31 (by simp)
  have hq : w.heap.size + 1 + 1 < (((w.alloc (.cells (msgA 0 1) 31)).alloc (.cells (msgA 1 0) 31)).alloc (.cells #[.int .i64 0, .int .i64 0, .int .i64 0, .int .i64 0, .int .i64 0, .int .i64 1, .bool false, .int .i64 0, .int .i64 0, .slice none 0 0, .int .i64 1, .int .i64 0, .int .i64 0, .int .i64 0, .int .i64 0, .int .i64 0, .bool false, .int .i64 0, .int .i64 0, .slice none 0 0] 31)).heap.size := by simp
  generalize (((w.alloc (.cells (msgA 0 1) 31)).alloc (.cells (msgA 1 0) 31)).alloc (.cells #[.int .i64 0, .int .i64 0, .int .i64 0, .int .i64 0, .int .i64 0, .int .i64 1, .bool false, .int .i64 0, .int .i64 0, .slice none 0 0, .int .i64 1, .int .i64 0, .int .i64 0, .int .i64 0, .int .i64 0, .int .i64 0, .bool false, .int .i64 0, .int .i64 0, .slice none 0 0] 31)) = w2 at *
  refine (NW _).mono ?_
  rintro e w3 ⟨O, rfl, CO, hO1, hO2, b3⟩
  have B4 : Below w2.heap.size w2 (w3.alloc (.cells #[.int .i64 1, .int .i64 (-1), .slice (some ⟨O, 0, none⟩) 2 2] 24)) := b3.alloc b3.size _
  have CS := Cells.new w3 #[.int .i64 1, .int .i64 (-1), .slice (some ⟨O, 0, none⟩) 2 2] 24
  have CO4 := CO.alloc hO2 (.cells #[.int .i64 1, .int .i64 (-1), .slice (some ⟨O, 0, none⟩) 2 2] 24)
  have CQ4 := CQ.below B4 hq
  have hq4 : w.heap.size + 1 + 1 < (w3.alloc (.cells #[.int .i64 1, .int .i64 (-1), .slice (some ⟨O, 0, none⟩) 2 2] 24)).heap.size := by have := b3.size; simp; omega
  have hs4 : w3.heap.size < (w3.alloc (.cells #[.int .i64 1, .int .i64 (-1), .slice (some ⟨O, 0, none⟩) 2 2] 24)).heap.size := by simp
  have hO4 : O < (w3.alloc (.cells #[.int .i64 1, .int .i64 (-1), .slice (some ⟨O, 0, none⟩) 2 2] 24)).heap.size := by simp; omega
  have BW := BQ.trans (B4.mono BQ.size)
  go_wp2_with fail
  generalize hS : w3.heap.size = S at *
  generalize (w3.alloc (.cells #[.int .i64 1, .int .i64 (-1), .slice (some ⟨O, 0, none⟩) 2 2] 24)) = w4 at *
  have SD : SdV w4.heap.size w4 (.agg #[.int .i64 1, .int .i64 (-1), .slice (some ⟨O, 0, none⟩) 2 2]) ⟨1, -1, [0, 0]⟩ := ⟨_, rfl, In.block CO4 hO4 rfl (by simp) (fun z hz => by simp at hz; subst hz; unfold I64; omega)⟩
  have QS : QdS w4.heap.size w4 (.slice (some ⟨w.heap.size + 1 + 1, 0, none⟩) 2 2) [msgQ 0 1, msgQ 1 0] := SlG.cells (vs := [.agg (msgA 0 1), .agg (msgA 1 0)]) ⟨⟨_, rfl, isl⟩, ⟨_, rfl, isl⟩, trivial⟩ rfl CQ4 hq4 rfl (Nat.le_refl _) (by omega)
  have KX : ∀ wx, Below w4.heap.size w4 wx → wx.cell? ⟨S, 0, none⟩ = some (.int .i64 1) ∧ wx.cell? ⟨S, 1, none⟩ = some (.int .i64 (-1)) ∧ wx.cell? ⟨S, 2, none⟩ = some (.slice (some ⟨O, 0, none⟩) 2 2) ∧ wx.cell? ⟨w.heap.size + 1 + 1, 10, none⟩ = some (.int .i64 1) ∧ wx.cell? ⟨w.heap.size + 1 + 1, 11, none⟩ = some (.int .i64 0) ∧ wx.cell? ⟨w.heap.size + 1 + 1, 12, none⟩ = some (.int .i64 0) ∧ wx.cell? ⟨w.heap.size + 1 + 1, 13, none⟩ = some (.int .i64 0) ∧ wx.cell? ⟨w.heap.size + 1 + 1, 14, none⟩ = some (.int .i64 0) ∧ wx.cell? ⟨w.heap.size + 1 + 1, 15, none⟩ = some (.int .i64 0) ∧ wx.cell? ⟨w.heap.size + 1 + 1, 16, none⟩ = some (.bool false) ∧ wx.cell? ⟨w.heap.size + 1 + 1, 17, none⟩ = some (.int .i64 0) ∧ wx.cell? ⟨w.heap.size + 1 + 1, 18, none⟩ = some (.int .i64 0) ∧ wx.cell? ⟨w.heap.size + 1 + 1, 19, none⟩ = some (.slice none 0 0) := fun wx hx => by
    have h := CS.below hx hs4
    have h' := CQ4.below hx hq4
    exact ⟨h.cell 0 _ rfl, h.cell 1 _ rfl, h.cell 2 _ rfl, h'.cell 10 _ rfl, h'.cell 11 _ rfl, h'.cell 12 _ rfl, h'.cell 13 _ rfl, h'.cell 14 _ rfl, h'.cell 15 _ rfl, h'.cell 16 _ rfl, h'.cell 17 _ rfl, h'.cell 18 _ rfl, h'.cell 19 _ rfl⟩
  have X0 := KX _ (Below.refl _ _)
  have HA := had_any _ _ (msgQ 1 0) none 0 0 5 true _ (SD.size (drew_below w4.heap.size w4) (Nat.le_refl _)) (by simp)
  have BZ : Below w4.heap.size w4 (w4.alloc (.cells #[.int .i64 0, .int .i64 0, .slice none 0 0] 24)).drew := (box_below w4 _).trans (drew_below _ _)
  have HB := had_any _ _ (msgQ 1 0) none 0 0 5 true _ (SD.size BZ (Nat.le_refl _)) (by simp)
  have CZ : Cells w4.heap.size (w4.alloc (.cells #[.int .i64 0, .int .i64 0, .slice none 0 0] 24)).drew [.int .i64 0, .int .i64 0, .slice none 0 0] := (Cells.new w4 #[.int .i64 0, .int .i64 0, .slice none 0 0] 24).below (drew_below (w4.heap.size + 1) _) (by omega)
  have hz4 : w4.heap.size < (w4.alloc (.cells #[.int .i64 0, .int .i64 0, .slice none 0 0] 24)).drew.heap.size := by simp
  have HM : hadM ⟨1, -1, [0, 0]⟩ (msgQ 1 0) 5 true = ⟨0, -1, [5, 0]⟩ := by simp [hadM, msgQ, hadL, isSt, wrap64]
  rw [HM] at HA HB
  simp only [qdVal, msgQ] at HA HB
  clear CO CO4 CQ CQ4 CS b3 BQ B4 NW
  go_cut [3] from 12 to 16 (fun s3 wx => ∃ (T : Nat) (d5 : Value), s3 = .pointer (some ⟨T, 0, none⟩) ∧ In wx.heap.size wx d5 [5, 0] ∧ Cells T wx [.int .i64 0, .int .i64 (-1), d5] ∧ T < wx.heap.size ∧ Below w4.heap.size w4 wx)
  case first =>
    go_region_held3 (fun wx => wx.cell? ⟨S, 0, none⟩ = some (.int .i64 1) ∧ wx.cell? ⟨S, 1, none⟩ = some (.int .i64 (-1)) ∧ wx.cell? ⟨S, 2, none⟩ = some (.slice (some ⟨O, 0, none⟩) 2 2) ∧ wx.cell? ⟨w.heap.size + 1 + 1, 10, none⟩ = some (.int .i64 1) ∧ wx.cell? ⟨w.heap.size + 1 + 1, 11, none⟩ = some (.int .i64 0) ∧ wx.cell? ⟨w.heap.size + 1 + 1, 12, none⟩ = some (.int .i64 0) ∧ wx.cell? ⟨w.heap.size + 1 + 1, 13, none⟩ = some (.int .i64 0) ∧ wx.cell? ⟨w.heap.size + 1 + 1, 14, none⟩ = some (.int .i64 0) ∧ wx.cell? ⟨w.heap.size + 1 + 1, 15, none⟩ = some (.int .i64 0) ∧ wx.cell? ⟨w.heap.size + 1 + 1, 16, none⟩ = some (.bool false) ∧ wx.cell? ⟨w.heap.size + 1 + 1, 17, none⟩ = some (.int .i64 0) ∧ wx.cell? ⟨w.heap.size + 1 + 1, 18, none⟩ = some (.int .i64 0) ∧ wx.cell? ⟨w.heap.size + 1 + 1, 19, none⟩ = some (.slice none 0 0)) (first | exact X0 | exact X1 | exact XZ | exact KX _ (B5.alloc B5.size _) | exact KX _ (box_below w4 _) | exact KX _ BZ | exact KX _ (((B6.setCell (Nat.le_refl _) _).setCell (Nat.le_refl _) _).setCell (Nat.le_refl _) _)) (first
      | (go_at_call 13; refine HA.mono ?_; rintro e w5 ⟨d5, rfl, in5, is5, b5⟩; have IN5 := in5; obtain ⟨a5, c5, rfl, -, -⟩ := in5.ex; have B5 : Below w4.heap.size w4 w5 := (drew_below _ w4).trans b5; have X1 := KX _ B5)
      | (go_at_call 13; refine HB.mono ?_; rintro e w6 ⟨d5, rfl, in5, is5, b6⟩; have IN5 := in5; obtain ⟨a5, c5, rfl, -, -⟩ := in5.ex; have B6 : Below w4.heap.size w4 w6 := BZ.trans (b6.mono BZ.size); have XZ := KX _ B6; have C6 := CZ.below b6 hz4; have u0 := C6.cell 0 _ rfl; have u1 := C6.cell 1 _ rfl; have u2 := C6.cell 2 _ rfl; have f0 := C6.fz 0; have f1 := C6.fz 1; have f2 := C6.fz 2))
    all_goals
      go_wp2_with fail
      go_meet
      first
        | exact ⟨w5.heap.size, _, rfl, IN5.size (box_below w5 _) (Nat.le_refl _), Cells.new w5 _ _, by simp, B5.alloc B5.size _⟩
        | exact ⟨w4.heap.size, .slice a5 2 c5, rfl, IN5.keep (is5.mono fun k hk => by show k ≠ w4.heap.size; omega) (((Keep.refl (fun k => k ≠ w4.heap.size) _).setCell (p := ⟨w4.heap.size, 0, none⟩) (fun h => h rfl) _).setCell (p := ⟨w4.heap.size, 1, none⟩) (fun h => h rfl) _ |>.setCell (p := ⟨w4.heap.size, 2, none⟩) (fun h => h rfl) _) (by simp), ((C6.set 0 _ (by simp)).set 1 _ (by simp)).set 2 _ (by simp), by have := b6.size; simp; omega, ((B6.setCell (Nat.le_refl _) _).setCell (Nat.le_refl _) _).setCell (Nat.le_refl _) _⟩
  case rest =>
    obtain ⟨T, d5, rfl, IN5, CT, hT, B5⟩ := hcut
    have IN5' := IN5
    obtain ⟨a5, c5, rfl, -, -⟩ := IN5'.ex
    have NX : ∀ (turns r : Int), (∀ k, NextIs turns 1 (-1) [0, 0] [0, 1] [1, 0] k → k = r) → ∀ wx, Below w4.heap.size w4 wx → Calls Try.prog 10 #[.int .i64 turns, .agg #[.int .i64 1, .int .i64 (-1), .slice (some ⟨O, 0, none⟩) 2 2], .slice (some ⟨w.heap.size + 1 + 1, 0, none⟩) 2 2] wx fun e w' => e = .returned (.int .i64 r) ∧ Below wx.heap.size wx w' := fun turns r hr wx hx =>
      (next_any turns _ _ ⟨1, -1, [0, 0]⟩ [msgQ 0 1, msgQ 1 0] wx (SD.size hx (Nat.le_refl _)) (SlG.size QdV.bears QS hx (Nat.le_refl _))).mono fun e w' ⟨k, e1, hk, hb⟩ => ⟨by rw [e1, hr k hk], hb⟩
    have NT : ∀ wx, Below wc.heap.size wc wx → Calls Try.prog 10 #[.int .i64 3, .agg #[.int .i64 0, .int .i64 (-1), .slice a5 2 c5], .slice (some ⟨w.heap.size + 1 + 1, 0, none⟩) 2 2] wx fun e w' => e = .returned (.int .i64 0) ∧ Below wx.heap.size wx w' := fun wx hx =>
      (next_any 3 _ _ ⟨0, -1, [5, 0]⟩ [msgQ 0 1, msgQ 1 0] wx ⟨_, rfl, IN5.size hx (Nat.le_refl _)⟩ (SlG.size QdV.bears QS (B5.trans (hx.mono B5.size)) (Nat.le_refl _))).mono fun e w' ⟨k, e1, hk, hb⟩ => ⟨by rw [e1, alive3 hk], hb⟩
    have OT : ∀ wx, Below wc.heap.size wc wx → Calls Try.prog 27 #[.agg #[.int .i64 0, .int .i64 (-1), .slice a5 2 c5]] wx fun e w' => ∃ a c, e = .returned (.agg #[.int .i64 0, .int .i64 (-1), .slice a 2 c]) ∧ Below wx.heap.size wx w' := fun wx hx =>
      (own_any _ ⟨0, -1, [5, 0]⟩ wx ⟨_, rfl, IN5.size hx (Nat.le_refl _)⟩ (by simp)).mono fun e w' ⟨a, c, e1, _, hb⟩ => ⟨a, c, e1, hb⟩
    have KS : ∀ wx, Below w4.heap.size w4 wx → wx.cell? ⟨S, 0, none⟩ = some (.int .i64 1) ∧ wx.cell? ⟨S, 1, none⟩ = some (.int .i64 (-1)) ∧ wx.cell? ⟨S, 2, none⟩ = some (.slice (some ⟨O, 0, none⟩) 2 2) := fun wx hx => ⟨(KX wx hx).1, (KX wx hx).2.1, (KX wx hx).2.2.1⟩
    have KT : ∀ wx, Below wc.heap.size wc wx → wx.cell? ⟨T, 0, none⟩ = some (.int .i64 0) ∧ wx.cell? ⟨T, 1, none⟩ = some (.int .i64 (-1)) ∧ wx.cell? ⟨T, 2, none⟩ = some (.slice a5 2 c5) := fun wx hx => by
      have h := CT.below hx hT
      exact ⟨h.cell 0 _ rfl, h.cell 1 _ rfl, h.cell 2 _ rfl⟩
    obtain ⟨z5, o5, hz5, hi5, hc5⟩ := IN5.at 0 (by simp)
    have hi5' : ∀ wx, (Instr.indexAt 22 (.slice a5 2 c5) (.int .i64 0)).run Try.prog wx = .ok (.pointer (some ⟨z5, o5, none⟩)) wx := hi5
    have hc5' : wc.cell? ⟨z5, o5, none⟩ = some (.int .i64 5) := hc5
    have KI : ∀ wx, Below wc.heap.size wc wx → wx.cell? ⟨z5, o5, none⟩ = some (.int .i64 5) := fun wx hx => (hx.cell (p := ⟨z5, o5, none⟩) hz5).trans hc5'
    clear X0 KX HA HB CZ hi5 hc5 hc5'
    obtain ⟨s0, s1, s2⟩ := KS _ B5
    go_wp2_with fail
    refine (NX 1 0 (fun k h => alive1 h) _ B5).mono ?_
    rintro e w6 ⟨rfl, b6⟩
    have B6 := B5.trans (b6.mono B5.size)
    clear s0 s1 s2
    obtain ⟨s0, s1, s2⟩ := KS _ B6
    go_wp2_with fail
    refine (NX 4 1 (fun k h => alive4 h) _ B6).mono ?_
    rintro e w7 ⟨rfl, b7⟩
    have b57 := b6.trans (b7.mono b6.size)
    have B7 := B5.trans (b57.mono B5.size)
    clear s0 s1 s2
    obtain ⟨s0, s1, s2⟩ := KS _ B7
    go_wp2_with fail
    refine (NX 2 1 (fun k h => alive2 h) _ B7).mono ?_
    rintro e w8 ⟨rfl, b8⟩
    have b58 := b57.trans (b8.mono b57.size)
    clear s0 s1 s2
    obtain ⟨s0, s1, s2⟩ := KT _ b58
    go_wp2_with fail
    refine (NT _ b58).mono ?_
    rintro e w9 ⟨rfl, b9⟩
    have b59 := b58.trans (b9.mono b58.size)
    clear s0 s1 s2
    obtain ⟨s0, s1, s2⟩ := KT _ b59
    have i5 := KI _ b59
    go_wp2_with fail
    refine (OT _ b59).mono ?_
    rintro e w10 ⟨a10, c10, rfl, b10⟩
    have b510 := b59.trans (b10.mono b59.size)
    have BE := BW.trans ((B5.trans (b510.mono B5.size)).mono BW.size)
    clear s0 s1 s2 i5
    have hfd := run_field2
    go_wp2_with fail
    go_ret
    exact ⟨ret_bool (by simp), BE⟩
end Go.Proofs.Ytnddejdndipddac
