/- The contract of receive.Own. -/
import Derived.Test.YtnddejdndipddadRcM
import Derived.Deep.RegionLawGrows
set_option maxRecDepth 20000
namespace Go.Proofs.Ytnddejdndipddad
open Go.RowKit

theorem enters_cOwn (args : Array Value) (wx : World) : (callFunc 50 args).run Try.prog wx = .ok (.enter 50 args) wx := enters_body Try.func50 (by kernel_rfl) rfl args wx
theorem run_av_at (g n c k : Nat) (h : k < n) (wx : World) : (Instr.indexAt 45 (.slice (some ⟨g, 0, none⟩) n c) (.int .i64 (k : Int))).run Try.prog wx = .ok (.pointer (some ⟨g, k * 4, none⟩)) wx := by
  have : (k : Int) < n := by omega
  go_simp
theorem pc_setCells {w : World} {g o : Nat} {p : Pc} {d s k : Value} (h : w.cell? ⟨g, o, none⟩ = some (.int .i64 p.number)) : w.setCells g o (pcVal p d s k).cells.toList = w.setCells g (o + 1) [.int .i64 p.ck.kind, .int .i64 p.ck.tag, .int .i64 p.ck.stream, .int .i64 p.ck.mid, .int .i64 p.ck.part, .bool p.ck.last, .bool p.ck.ordered, d, s, .int .i64 p.ck.room, k] := by
  have e : (pcVal p d s k).cells.toList = .int .i64 p.number :: [.int .i64 p.ck.kind, .int .i64 p.ck.tag, .int .i64 p.ck.stream, .int .i64 p.ck.mid, .int .i64 p.ck.part, .bool p.ck.last, .bool p.ck.ordered, d, s, .int .i64 p.ck.room, k] := rfl
  rw [e, World.setCells, setCell_id h]
theorem av_setCells {w : World} {g o : Nat} {a : Av} {d : Value} (h0 : w.cell? ⟨g, o, none⟩ = some (.int .i64 a.stream)) (h1 : w.cell? ⟨g, o + 1, none⟩ = some (.int .i64 a.mid)) (h2 : w.cell? ⟨g, o + 2, none⟩ = some (.bool a.ordered)) : w.setCells g o (avVal a d).cells.toList = w.setCell ⟨g, o + 3, none⟩ d := by
  have e : (avVal a d).cells.toList = [.int .i64 a.stream, .int .i64 a.mid, .bool a.ordered, d] := rfl
  rw [e, World.setCells, setCell_id h0, World.setCells, setCell_id h1, World.setCells, setCell_id h2]
  rfl
/-- What is in a receiver's lists may be copied. -/
structure SzR (x : Rc) : Prop where
  fit : FitR x
  sp : x.spans.length ≤ 1099511627776
  tn : x.turn.length ≤ 2147483647

set_option maxHeartbeats 2000000 in
/-- A copy, which shares no list. -/
theorem rown_any (x : Rc) (s p t l : Value) (V : Nat → Prop) (w : World) (h : RvI V w x s p t l) (hv : ∀ k, V k → k < w.heap.size) (hf : SzR x) :
    Calls Try.prog 25 #[.agg #[.int .i64 x.cf.streams, .int .i64 x.cf.part, .int .i64 x.cf.packet, .int .i64 x.cf.paths, .int .i64 x.cf.turns, .int .i64 x.cf.waiting, .int .i64 x.cf.first, .int .i64 x.cum, s, p, t, l]] w fun e w' => ∃ s' p' t' l', e = .returned (.agg #[.int .i64 x.cf.streams, .int .i64 x.cf.part, .int .i64 x.cf.packet, .int .i64 x.cf.paths, .int .i64 x.cf.turns, .int .i64 x.cf.waiting, .int .i64 x.cf.first, .int .i64 x.cum, s', p', t', l']) ∧ RvB (fun k => V k ∨ w.heap.size + 2 ≤ k) (w.heap.size + 2) w' x s' p' t' l' ∧ Below w.heap.size w w' := by
  have H := h.r
  obtain ⟨sa, sc, pa, pc, ta, tc, la, lc, rfl, rfl, rfl, rfl⟩ := h.r.ex
  have HIP : Hid _ := h.p
  have HIL : Hid _ := h.l
  clear h
  have hn1 := hf.sp
  have hn2 := hf.tn
  have hn3 := hf.fit.n
  have hn4 := hf.fit.l
  have B0 := two_below w (.cells #[.int .i64 x.cf.streams, .int .i64 x.cf.part, .int .i64 x.cf.packet, .int .i64 x.cf.paths, .int .i64 x.cf.turns, .int .i64 x.cf.waiting, .int .i64 x.cf.first, .int .i64 x.cum, .slice sa x.spans.length sc, .slice pa x.pieces.length pc, .slice ta x.turn.length tc, .slice la x.log.length lc] 47) (.cells #[.int .i64 0, .int .i64 0, .int .i64 0, .int .i64 0, .int .i64 0, .int .i64 0, .int .i64 0, .int .i64 0, .slice none 0 0, .slice none 0 0, .slice none 0 0, .slice none 0 0] 47)
  have CX : Cells w.heap.size ((w.alloc (.cells #[.int .i64 x.cf.streams, .int .i64 x.cf.part, .int .i64 x.cf.packet, .int .i64 x.cf.paths, .int .i64 x.cf.turns, .int .i64 x.cf.waiting, .int .i64 x.cf.first, .int .i64 x.cum, .slice sa x.spans.length sc, .slice pa x.pieces.length pc, .slice ta x.turn.length tc, .slice la x.log.length lc] 47)).alloc (.cells #[.int .i64 0, .int .i64 0, .int .i64 0, .int .i64 0, .int .i64 0, .int .i64 0, .int .i64 0, .int .i64 0, .slice none 0 0, .slice none 0 0, .slice none 0 0, .slice none 0 0] 47)) [.int .i64 x.cf.streams, .int .i64 x.cf.part, .int .i64 x.cf.packet, .int .i64 x.cf.paths, .int .i64 x.cf.turns, .int .i64 x.cf.waiting, .int .i64 x.cf.first, .int .i64 x.cum, .slice sa x.spans.length sc, .slice pa x.pieces.length pc, .slice ta x.turn.length tc, .slice la x.log.length lc] := (Cells.new w #[.int .i64 x.cf.streams, .int .i64 x.cf.part, .int .i64 x.cf.packet, .int .i64 x.cf.paths, .int .i64 x.cf.turns, .int .i64 x.cf.waiting, .int .i64 x.cf.first, .int .i64 x.cum, .slice sa x.spans.length sc, .slice pa x.pieces.length pc, .slice ta x.turn.length tc, .slice la x.log.length lc] 47).alloc (by simp) _
  have CR : Cells (w.heap.size + 1) ((w.alloc (.cells #[.int .i64 x.cf.streams, .int .i64 x.cf.part, .int .i64 x.cf.packet, .int .i64 x.cf.paths, .int .i64 x.cf.turns, .int .i64 x.cf.waiting, .int .i64 x.cf.first, .int .i64 x.cum, .slice sa x.spans.length sc, .slice pa x.pieces.length pc, .slice ta x.turn.length tc, .slice la x.log.length lc] 47)).alloc (.cells #[.int .i64 0, .int .i64 0, .int .i64 0, .int .i64 0, .int .i64 0, .int .i64 0, .int .i64 0, .int .i64 0, .slice none 0 0, .slice none 0 0, .slice none 0 0, .slice none 0 0] 47)) [.int .i64 0, .int .i64 0, .int .i64 0, .int .i64 0, .int .i64 0, .int .i64 0, .int .i64 0, .int .i64 0, .slice none 0 0, .slice none 0 0, .slice none 0 0, .slice none 0 0] := Cells.new' #[.int .i64 0, .int .i64 0, .int .i64 0, .int .i64 0, .int .i64 0, .int .i64 0, .int .i64 0, .int .i64 0, .slice none 0 0, .slice none 0 0, .slice none 0 0, .slice none 0 0] 47 (by simp)
  have HZ : Hid (((w.alloc (.cells #[.int .i64 x.cf.streams, .int .i64 x.cf.part, .int .i64 x.cf.packet, .int .i64 x.cf.paths, .int .i64 x.cf.turns, .int .i64 x.cf.waiting, .int .i64 x.cf.first, .int .i64 x.cum, .slice sa x.spans.length sc, .slice pa x.pieces.length pc, .slice ta x.turn.length tc, .slice la x.log.length lc] 47)).alloc (.cells #[.int .i64 0, .int .i64 0, .int .i64 0, .int .i64 0, .int .i64 0, .int .i64 0, .int .i64 0, .int .i64 0, .slice none 0 0, .slice none 0 0, .slice none 0 0, .slice none 0 0] 47)).heap.size = w.heap.size + 2) := by show _ = _; simp
  go_enter Try.func25, Try.ntmps25
  go_wp2_with fail
  generalize ((w.alloc (.cells #[.int .i64 x.cf.streams, .int .i64 x.cf.part, .int .i64 x.cf.packet, .int .i64 x.cf.paths, .int .i64 x.cf.turns, .int .i64 x.cf.waiting, .int .i64 x.cf.first, .int .i64 x.cum, .slice sa x.spans.length sc, .slice pa x.pieces.length pc, .slice ta x.turn.length tc, .slice la x.log.length lc] 47)).alloc (.cells #[.int .i64 0, .int .i64 0, .int .i64 0, .int .i64 0, .int .i64 0, .int .i64 0, .int .i64 0, .int .i64 0, .slice none 0 0, .slice none 0 0, .slice none 0 0, .slice none 0 0] 47)) = w0 at *
  have hz := HZ.out
  have hz1 : w.heap.size + 2 ≤ w0.heap.size := by omega
  clear hz
  have H0 := H.below B0 (Nat.le_refl _)
  have BD : Below w0.heap.size w0 w0.drew := below_drew' (Below.refl _ _)
  have C1 : Calls Try.prog 46 #[.slice sa x.spans.length sc] w0.drew fun e w' => ∃ v, e = .returned v ∧ ∃ a c, v = .slice a x.spans.length c ∧ w'.ownsRow w0.heap.size 75 2 (.slice a x.spans.length c) x.spans.length (flat x.spans) ∧ Below w0.heap.size w0 w' :=
    (clone_spans _ _ _ w0.drew ((H0.s.rw'.below BD (by omega)).mono (by show w.heap.size ≤ w0.heap.size; omega)) (flat_one _) (by omega)).mono fun e w' ⟨a, c, e1, o1, b1⟩ => ⟨_, e1, a, c, rfl, o1, BD.trans b1⟩
  have C2 : ∀ wx, Below w0.heap.size w0 wx → Calls Try.prog 47 #[.slice ta x.turn.length tc] wx fun e w' => ∃ v, e = .returned v ∧ ∃ a c, v = .slice a x.turn.length c ∧ w'.ownsRow wx.heap.size 3 1 (.slice a x.turn.length c) x.turn.length (cellsI x.turn) ∧ Below wx.heap.size wx w' := fun wx hx =>
    (clone_is _ _ _ wx ((H0.t.1.below hx (by omega)).mono (by have := hx.size; omega)) (cellsI_one _) (by omega)).mono fun e w' ⟨a, c, e1, o1, b1⟩ => ⟨_, e1, a, c, rfl, o1, b1⟩
  have HCX : Hid _ := CX
  have HCR : Hid _ := CR
  have HH0 : Hid (RvS w.heap.size w0 x _ _ _ _) := H0
  have c8 := CX.cell 8 _ rfl
  have c10 := CX.cell 10 _ rfl
  have HB0 : Hid _ := B0
  clear CX CR H0 H B0
  go_cut [12] from 5 to 12 (fun s12 wx => ∃ a1 c1 a2 c2, s12 = .pointer (some ⟨w.heap.size, 10, none⟩) ∧ Hid (wx.ownsRow w0.heap.size 75 2 (.slice a1 x.spans.length c1) x.spans.length (flat x.spans)) ∧ Hid (wx.ownsRow w0.heap.size 3 1 (.slice a2 x.turn.length c2) x.turn.length (cellsI x.turn)) ∧ Hid (∀ k, (Value.slice a2 x.turn.length c2).ownBlock = some k → (Value.slice a1 x.spans.length c1).ownBlock ≠ some k) ∧ Hid (Cells w.heap.size wx [.int .i64 x.cf.streams, .int .i64 x.cf.part, .int .i64 x.cf.packet, .int .i64 x.cf.paths, .int .i64 x.cf.turns, .int .i64 x.cf.waiting, .int .i64 x.cf.first, .int .i64 x.cum, .slice a1 x.spans.length c1, .slice pa x.pieces.length pc, .slice a2 x.turn.length c2, .slice la x.log.length lc]) ∧ Hid (Keep (fun k => k < w0.heap.size ∧ k ≠ w.heap.size) w0 wx))
  case first =>
    go_region_law (first
      | (refine step_call1 rfl 46 (.tmp 6) 39 rfl (.slice sa x.spans.length sc) rfl rfl enters_clone_spans _ C1 ?_; rintro _ w1 ⟨a1, c1, rfl, o1, b1⟩; have y10 := (HCX.out.below b1 (by omega)).cell 10 _ rfl)
      | (refine step_call1 rfl 47 (.tmp 9) 31 rfl (.slice ta x.turn.length tc) rfl rfl enters_clone_is _ (C2 _ b1) ?_; rintro _ w2 ⟨a2, c2, rfl, o2, b2⟩; have B2 : Below w0.heap.size w0 w2 := b1.trans (b2.mono b1.size); have C2X := HCX.out.below B2 (by omega); have y8 := C2X.cell 8 _ rfl; have z10 := C2X.cell 10 _ rfl; have f8 := C2X.fz 8; have f10 := C2X.fz 10))
    all_goals
      have HC2X : Hid _ := C2X
      have HO1 : Hid _ := own_of_block o1 fun k hk => b2.block k (o1.lt k hk).2
      have HO2 : Hid _ := own_low o2 b1.size
      have HNE : Hid (∀ k, (Value.slice a2 x.turn.length c2).ownBlock = some k → (Value.slice a1 x.spans.length c1).ownBlock ≠ some k) := fun k h1 h2 => by have := (o2.lt k h1).1; have := (o1.lt k h2).2; omega
      clear C2X o1 o2 C1 C2
      go_wp2_with fail
      go_meet
      refine ⟨a1, c1, a2, c2, rfl, own_set (own_set HO1.out (by show w.heap.size < _; omega) _) (by show w.heap.size < _; omega) _, own_set (own_set HO2.out (by show w.heap.size < _; omega) _) (by show w.heap.size < _; omega) _, HNE, (HC2X.out.set 8 _ (by simp)).set 10 _ (by simp), ?_⟩
      exact Keep.setCell (Keep.setCell (toKeep B2 fun k hk => hk.1) (p := ⟨w.heap.size, 8, none⟩) (fun h => h.2 rfl) _) (p := ⟨w.heap.size, 10, none⟩) (fun h => h.2 rfl) _
  case rest =>
    obtain ⟨a1, c1, a2, c2, rfl, HO1, HO2, HNE, HX1, HK1⟩ := hcut
    obtain ⟨w1, rfl⟩ : ∃ w1, w1 = wc := ⟨wc, rfl⟩
    have hk1 := HK1.out.size
    have HCR1 : Hid (Cells (w.heap.size + 1) w1 _) := HCR.out.keep HK1.out ⟨by omega, by omega⟩
    have hBl : ∀ k, k < w.heap.size → k < w0.heap.size ∧ k ≠ w.heap.size := fun k hk => ⟨by omega, by omega⟩
    have BB1 : Below w.heap.size w0 w1 := HK1.out.below hBl
    have BW1 : Below w.heap.size w w1 := HB0.out.trans BB1
    have KV1 : Keep V w w1 := toKeep BW1 fun k hk => hv k hk
    have H1 := HH0.out.below BB1 (Nat.le_refl _)
    have BD : Below w1.heap.size w1 w1.drew := below_drew' (Below.refl _ _)
    obtain ⟨us, hA0, hRp0⟩ := HIP.out
    obtain ⟨vs, hG0, hRl0⟩ := HIL.out
    have hRp := hRp0.below BW1 (Nat.le_refl _)
    have hRl := hRl0.below BW1 (Nat.le_refl _)
    have hA : All2 (PcI V w1) us x.pieces := hA0.imp fun _ _ h => PcI.holds.keep h KV1
    have hG : All2 (AvI V w1) vs x.log := hG0.imp fun _ _ h => AvI.holds.keep h KV1
    have oneg : ∀ {c : Nat} {α : Type} {R : Value → α → Prop} (_ : ∀ v x, R v x → ∀ u ∈ v.cells.toList, u.oneCell' = true) {vs : List Value} {l : List α}, All2 R vs l → ∀ u ∈ flatV vs, u.oneCell' = true := fun {c α R} hr {vs l} hA => by
      have := flatV_one (c := c) (R := fun _ _ v x => R v x) (B := 0) (w := w) hr hA
      exact this
    have hone1 : ∀ u ∈ flatV us, u.oneCell' = true := oneg (c := 12) (fun v x h => PcI.holds.one h) hA
    have hone2 : ∀ u ∈ flatV vs, u.oneCell' = true := oneg (c := 4) (fun v x h => AvI.holds.one h) hG
    have C3 : Calls Try.prog 48 #[.slice pa x.pieces.length pc] w1.drew fun e w' => ∃ v, e = .returned v ∧ ∃ a c, v = .slice a x.pieces.length c ∧ w'.ownsRow w1.heap.size 71 12 (.slice a x.pieces.length c) x.pieces.length (flatV us) ∧ Below w1.heap.size w1 w' :=
      (clone_pcs _ _ _ w1.drew ((hRp.below BD (by omega)).mono (by show w.heap.size ≤ w1.heap.size; omega)) hone1 (by omega)).mono fun e w' ⟨a, c, e1, o1, b1⟩ => ⟨_, e1, a, c, rfl, o1, BD.trans b1⟩
    have C4 : ∀ wx, Below w1.heap.size w1 wx → Calls Try.prog 49 #[.slice la x.log.length lc] wx fun e w' => ∃ v, e = .returned v ∧ ∃ a c, v = .slice a x.log.length c ∧ w'.ownsRow wx.heap.size 59 4 (.slice a x.log.length c) x.log.length (flatV vs) ∧ Below wx.heap.size wx w' := fun wx hx =>
      (clone_avs _ _ _ wx ((hRl.below hx (by omega)).mono (by have := hx.size; omega)) hone2 (by omega)).mono fun e w' ⟨a, c, e1, o1, b1⟩ => ⟨_, e1, a, c, rfl, o1, b1⟩
    have HA : Hid _ := hA
    have HGG : Hid _ := hG
    have c9 := HX1.out.cell 9 _ rfl
    have c11 := HX1.out.cell 11 _ rfl
    have HIS : Hid (IsI x.turn) := H1.t.2
    have HFT : Hid (Fit x.spans) := by obtain ⟨_, _, _, _, _, _, h, _⟩ := H1.s; exact h
    clear hA hG H1 hRp hRl c8 c10 C1 C2 hone1 hone2 oneg hA0 hG0 hRp0 hRl0 HIP HIL BW1 KV1
    go_wp2_with fail
    go_cut [20] from 13 to 20 (fun s20 wx => ∃ a3 c3 a4 c4, s20 = .pointer (some ⟨w.heap.size, 11, none⟩) ∧ Hid (RvB (fun k => V k ∨ w.heap.size + 2 ≤ k) (w.heap.size + 2) wx x (.slice a1 x.spans.length c1) (.slice a3 x.pieces.length c3) (.slice a2 x.turn.length c2) (.slice a4 x.log.length c4)) ∧ Hid (Cells w.heap.size wx [.int .i64 x.cf.streams, .int .i64 x.cf.part, .int .i64 x.cf.packet, .int .i64 x.cf.paths, .int .i64 x.cf.turns, .int .i64 x.cf.waiting, .int .i64 x.cf.first, .int .i64 x.cum, .slice a1 x.spans.length c1, .slice a3 x.pieces.length c3, .slice a2 x.turn.length c2, .slice a4 x.log.length c4]) ∧ Hid (Keep (fun k => k < w1.heap.size ∧ k ≠ w.heap.size) w1 wx))
    case first =>
      go_region_law (first
        | (refine step_call1 rfl 48 (.tmp 14) 44 rfl (.slice pa x.pieces.length pc) rfl rfl enters_clone_pcs _ C3 ?_; rintro _ w2 ⟨a3, c3, rfl, o3, b3⟩; have y11 := (HX1.out.below b3 (by omega)).cell 11 _ rfl)
        | (refine step_call1 rfl 49 (.tmp 17) 45 rfl (.slice la x.log.length lc) rfl rfl enters_clone_avs _ (C4 _ b3) ?_; rintro _ w3 ⟨a4, c4, rfl, o4, b4⟩; have B3 : Below w1.heap.size w1 w3 := b3.trans (b4.mono b3.size); have C3X := HX1.out.below B3 (by omega); have y9 := C3X.cell 9 _ rfl; have z11 := C3X.cell 11 _ rfl; have f9 := C3X.fz 9; have f11 := C3X.fz 11))
      all_goals
        have HC3X : Hid _ := C3X
        have HO3 : Hid (w3.ownsRow w1.heap.size 71 12 (.slice a3 x.pieces.length c3) x.pieces.length (flatV us)) := own_of_block o3 fun k hk => b4.block k (o3.lt k hk).2
        have HO4 : Hid (w3.ownsRow w2.heap.size 59 4 (.slice a4 x.log.length c4) x.log.length (flatV vs)) := o4
        have HP4 : Hid (∀ k, (Value.slice a3 x.pieces.length c3).ownBlock = some k → (Value.slice a4 x.log.length c4).ownBlock ≠ some k) := fun k h1 h2 => by have := (o4.lt k h2).1; have := (o3.lt k h1).2; omega
        have HKX : Hid (Keep (fun k => k ≠ w.heap.size) w3 ((w3.setCell ⟨w.heap.size, 9, none⟩ (.slice a3 x.pieces.length c3)).setCell ⟨w.heap.size, 11, none⟩ (.slice a4 x.log.length c4))) := Keep.setCell (Keep.setCell (Keep.refl _ _) (p := ⟨w.heap.size, 9, none⟩) (fun h => h rfl) _) (p := ⟨w.heap.size, 11, none⟩) (fun h => h rfl) _
        have szw2 := b3.size
        clear C3X o3 o4 C3 C4
        go_wp2_with fail
        go_meet
        refine ⟨a3, c3, a4, c4, rfl, ?_, (HC3X.out.set 9 _ (by simp)).set 11 _ (by simp), (toKeep B3 fun k hk => hk.1).trans (HKX.out.mono fun k hk => hk.2)⟩
        have szB := B3.size
        have hlt3 := HO3.out.lt
        have hlt4 := HO4.out.lt
        have hlt1 := HO1.out.lt
        have hlt2 := HO2.out.lt
        have nX : ∀ {v : Value} {e : TypeId} {c n : Nat} {xs : List Value} {b' : Nat}, w3.ownsRow b' e c v n xs → w.heap.size < b' → ((w3.setCell ⟨w.heap.size, 9, none⟩ (.slice a3 x.pieces.length c3)).setCell ⟨w.heap.size, 11, none⟩ (.slice a4 x.log.length c4)).ownsRow b' e c v n xs := fun ho hb => own_of_block ho fun k hk => HKX.out.block k (by have := (ho.lt k hk).1; show k ≠ _; omega)
        have O1' := nX (own_of_block HO1.out fun k hk => B3.block k (HO1.out.lt k hk).2) (by omega)
        have O2' := nX (own_of_block HO2.out fun k hk => B3.block k (HO2.out.lt k hk).2) (by omega)
        have O3' := nX HO3.out (by omega)
        have O4' := nX HO4.out (by omega)
        have kB : Keep V w1 ((w3.setCell ⟨w.heap.size, 9, none⟩ (.slice a3 x.pieces.length c3)).setCell ⟨w.heap.size, 11, none⟩ (.slice a4 x.log.length c4)) := (toKeep B3 fun k hk => by have := hv k hk; omega).trans (HKX.out.mono fun k hk => by have := hv k hk; show k ≠ _; omega)
        have mo : ∀ k, V k → (V k ∨ w.heap.size + 2 ≤ k) ∧ OutB (.slice a3 x.pieces.length c3) (.slice a2 x.turn.length c2) (.slice a4 x.log.length c4) ((w3.setCell ⟨w.heap.size, 9, none⟩ (.slice a3 x.pieces.length c3)).setCell ⟨w.heap.size, 11, none⟩ (.slice a4 x.log.length c4)) k := fun k hk => by
          have hk' := hv k hk
          exact ⟨.inl hk, by simp; omega, fun e => by have := (hlt3 k e).1; omega, fun e => by have := (hlt2 k e).1; omega, fun e => by have := (hlt4 k e).1; omega⟩
        refine ⟨Sl.own O1' HFT.out, fun b off sp n c e hn => ?_, ⟨us, HA.out.imp fun v x h => PcI.holds.mono (PcI.holds.keep h kB) mo, own_low O3' (by omega)⟩, own_low O2' (by omega), HIS.out, ⟨vs, HGG.out.imp fun v x h => AvI.holds.mono (AvI.holds.keep h kB) mo, own_low O4' (by omega)⟩, fun k h1 h2 => by have := (hlt3 k h1).1; have := (hlt2 k h2).2; omega, HP4.out, fun k h1 h2 => by have := (hlt4 k h2).1; have := (hlt2 k h1).2; omega⟩
        have eb : (Value.slice a1 x.spans.length c1).ownBlock = some b := by rw [e]; rfl
        have hb1 := hlt1 b eb
        exact ⟨.inr (by omega), by simp; omega, fun e' => by have := (hlt3 b e').1; omega, fun e' => HNE.out b e' eb, fun e' => by have := (hlt4 b e').1; omega⟩
    case rest =>
      obtain ⟨a3, c3, a4, c4, rfl, HR, HX2, HK2⟩ := hcut
      obtain ⟨w2, rfl⟩ : ∃ w2, w2 = wc := ⟨wc, rfl⟩
      have hk2 := HK2.out.size
      have HCR2 : Hid (Cells (w.heap.size + 1) w2 _) := HCR1.out.keep HK2.out ⟨by omega, by omega⟩
      have BW2 : Below w.heap.size w w2 := HB0.out.trans ((HK1.out.below fun k hk => ⟨by omega, by omega⟩).trans (HK2.out.below fun k hk => ⟨by omega, by omega⟩))
      clear c9 c11 C3 C4 HA HGG HO1 HO2 HNE HX1 HK1 HK2 HCR1 HCR HCX HH0 HB0 BB1 BD hBl HIS HFT
      have c9 := HX2.out.cell 9 _ rfl
      have hwl : w.heap.size + 2 ≤ w2.heap.size := by omega
      go_wp2_with fail
      go_loopw [24] (fun i wr => ∃ k : Nat, k ≤ x.pieces.length ∧ i = .int .i64 k ∧ Hid (RvB (fun k => V k ∨ w.heap.size + 2 ≤ k) (w.heap.size + 2) wr x (.slice a1 x.spans.length c1) (.slice a3 x.pieces.length c3) (.slice a2 x.turn.length c2) (.slice a4 x.log.length c4)) ∧ Hid (Keep (fun k => k < w.heap.size + 2) w2 wr)) (fun i _ => x.pieces.length - (intOf i).toNat)
      case atStart => exact ⟨0, Nat.zero_le _, rfl, HR, Keep.refl _ _⟩
      case round =>
        obtain ⟨k, hk, rfl, HRr, HKr⟩ := hrel
        have szr := HKr.out.size
        have CXr := HX2.out.keep HKr.out (by omega)
        have x9 := CXr.cell 9 _ rfl
        by_cases hlt : k < x.pieces.length
        · obtain ⟨g, cap, u, he, hbg, hg1, hc1, hc2, ⟨d, ss, q, rfl, hl⟩, hrng, hfz⟩ := GRow.at PcI.holds HRr.out.pc k hlt
          simp only [Value.slice.injEq] at he
          obtain ⟨rfl, -, rfl⟩ := he
          obtain ⟨da, dc, sa', sc', qa, qc, rfl, rfl, rfl⟩ := hl.ex
          have hix := run_pc_at g x.pieces.length c3 k hlt
          have HFI : Hid (CkFit x.pieces[k].ck) := (hf.fit.d _ (List.getElem_mem hlt)).1
          have HSE : Hid (x.pieces.set k x.pieces[k] = x.pieces) := List.set_getElem_self hlt
          have BDr : Below wr.heap.size wr wr.drew := below_drew' (Below.refl _ _)
          have CO : Calls Try.prog 50 #[.agg #[.int .i64 x.pieces[k].ck.kind, .int .i64 x.pieces[k].ck.tag, .int .i64 x.pieces[k].ck.stream, .int .i64 x.pieces[k].ck.mid, .int .i64 x.pieces[k].ck.part, .bool x.pieces[k].ck.last, .bool x.pieces[k].ck.ordered, .slice da x.pieces[k].ck.data.length dc, .slice sa' x.pieces[k].ck.spans.length sc', .int .i64 x.pieces[k].ck.room, .slice qa x.pieces[k].ck.skips.length qc]] wr.drew fun e w' => ∃ v, e = .returned v ∧ ∃ da dc sa sc qa qc, v = .agg #[.int .i64 x.pieces[k].ck.kind, .int .i64 x.pieces[k].ck.tag, .int .i64 x.pieces[k].ck.stream, .int .i64 x.pieces[k].ck.mid, .int .i64 x.pieces[k].ck.part, .bool x.pieces[k].ck.last, .bool x.pieces[k].ck.ordered, .slice da x.pieces[k].ck.data.length dc, .slice sa x.pieces[k].ck.spans.length sc, .int .i64 x.pieces[k].ck.room, .slice qa x.pieces[k].ck.skips.length qc] ∧ SnL (fun j => wr.heap.size ≤ j ∧ j < w'.heap.size) w' x.pieces[k].ck (.slice da x.pieces[k].ck.data.length dc) (.slice sa x.pieces[k].ck.spans.length sc) (.slice qa x.pieces[k].ck.skips.length qc) ∧ Below wr.heap.size wr w' := by
            refine (ckOwn_any x.pieces[k].ck _ _ _ wr.drew (hl.d.below BDr (Nat.le_refl _)) (hl.s.below BDr (Nat.le_refl _)) (Rw.below hl.q BDr (Nat.le_refl _)) HFI.out).mono ?_
            rintro e w' ⟨v, rfl, hv, hb⟩
            obtain ⟨d', s', q', rfl, hl'⟩ := SnL.own hv
            obtain ⟨da', dc', sa'', sc'', qa', qc', rfl, rfl, rfl⟩ := hl'.ex
            exact ⟨_, rfl, da', dc', sa'', sc'', qa', qc', rfl, hl', BDr.trans hb⟩
          have HSET : Hid (∀ w3 da' dc' sa'' sc'' qa' qc', SnL (fun j => wr.heap.size ≤ j ∧ j < w3.heap.size) w3 x.pieces[k].ck (.slice da' x.pieces[k].ck.data.length dc') (.slice sa'' x.pieces[k].ck.spans.length sc'') (.slice qa' x.pieces[k].ck.skips.length qc') → Below wr.heap.size wr w3 → RvB (fun k => V k ∨ w.heap.size + 2 ≤ k) (w.heap.size + 2) (w3.setCells g (k * 12 + 1) [.int .i64 x.pieces[k].ck.kind, .int .i64 x.pieces[k].ck.tag, .int .i64 x.pieces[k].ck.stream, .int .i64 x.pieces[k].ck.mid, .int .i64 x.pieces[k].ck.part, .bool x.pieces[k].ck.last, .bool x.pieces[k].ck.ordered, .slice da' x.pieces[k].ck.data.length dc', .slice sa'' x.pieces[k].ck.spans.length sc'', .int .i64 x.pieces[k].ck.room, .slice qa' x.pieces[k].ck.skips.length qc']) x (.slice a1 x.spans.length c1) (.slice (some ⟨g, 0, none⟩) x.pieces.length c3) (.slice a2 x.turn.length c2) (.slice a4 x.log.length c4)) := by
            intro w3 da' dc' sa'' sc'' qa' qc' hl3 b3
            have h3 := HRr.out.below b3
            have sz3 := b3.size
            have hl3' : SnL (fun k' => (V k' ∨ w.heap.size + 2 ≤ k') ∧ OutB (.slice (some ⟨g, 0, none⟩) x.pieces.length c3) (.slice a2 x.turn.length c2) (.slice a4 x.log.length c4) w3 k') w3 x.pieces[k].ck _ _ _ := hl3.mono fun j hj => ⟨.inr (by omega), hj.2, fun e => by have := (HRr.out.pc.lt e).2; omega, fun e => by have := (HRr.out.tn.lt _ e).2; omega, fun e => by have := (HRr.out.lg.lt e).2; omega⟩
            have r3 := GRow.set PcI.holds h3.pc (fun hh => hh.2.2.1 rfl) k hlt (u := pcVal x.pieces[k] _ _ _) (x := x.pieces[k]) ⟨_, _, _, rfl, hl3'⟩
            rw [HSE.out] at r3
            have hnum : w3.cell? ⟨g, k * 12, none⟩ = some (.int .i64 x.pieces[k].number) := (b3.cell (p := ⟨g, k * 12, none⟩) hg1).trans (hrng 0 _ rfl)
            rw [pc_setCells hnum] at r3
            have k3 : Keep (fun j => j < w3.heap.size ∧ (Value.slice (some ⟨g, 0, none⟩) x.pieces.length c3).ownBlock ≠ some j) w3 (w3.setCells g (k * 12 + 1) [.int .i64 x.pieces[k].ck.kind, .int .i64 x.pieces[k].ck.tag, .int .i64 x.pieces[k].ck.stream, .int .i64 x.pieces[k].ck.mid, .int .i64 x.pieces[k].ck.part, .bool x.pieces[k].ck.last, .bool x.pieces[k].ck.ordered, .slice da' x.pieces[k].ck.data.length dc', .slice sa'' x.pieces[k].ck.spans.length sc'', .int .i64 x.pieces[k].ck.room, .slice qa' x.pieces[k].ck.skips.length qc']) := Keep.setCells (fun hh => hh.2 rfl) _ _ (Keep.refl _ _)
            exact h3.inP k3 (GRow.mono PcI.holds r3 fun j hj => ⟨hj.1, hj.2.mono k3.size⟩)
          have HFZ : Hid (∀ w3, Below wr.heap.size wr w3 → Cells w.heap.size w3 [.int .i64 x.cf.streams, .int .i64 x.cf.part, .int .i64 x.cf.packet, .int .i64 x.cf.paths, .int .i64 x.cf.turns, .int .i64 x.cf.waiting, .int .i64 x.cf.first, .int .i64 x.cum, .slice a1 x.spans.length c1, .slice (some ⟨g, 0, none⟩) x.pieces.length c3, .slice a2 x.turn.length c2, .slice a4 x.log.length c4] ∧ w3.rangeAt g (k * 12) [.int .i64 x.pieces[k].number, .int .i64 x.pieces[k].ck.kind, .int .i64 x.pieces[k].ck.tag, .int .i64 x.pieces[k].ck.stream, .int .i64 x.pieces[k].ck.mid, .int .i64 x.pieces[k].ck.part, .bool x.pieces[k].ck.last, .bool x.pieces[k].ck.ordered, .slice da x.pieces[k].ck.data.length dc, .slice sa' x.pieces[k].ck.spans.length sc', .int .i64 x.pieces[k].ck.room, .slice qa x.pieces[k].ck.skips.length qc] ∧ ∀ j, w3.frozen? ⟨g, j, none⟩ = false) := fun w3 b3 => ⟨CXr.below b3 (by omega), fun j u hu => (b3.cell (p := ⟨g, k * 12 + j, none⟩) hg1).trans (hrng j u hu), fun j => (b3.frozen (p := ⟨g, j, none⟩) hg1).trans (hfz j)⟩
          have y1 := hrng 1 _ rfl
          have y2 := hrng 2 _ rfl
          have y3 := hrng 3 _ rfl
          have y4 := hrng 4 _ rfl
          have y5 := hrng 5 _ rfl
          have y6 := hrng 6 _ rfl
          have y7 := hrng 7 _ rfl
          have y8 := hrng 8 _ rfl
          have y9 := hrng 9 _ rfl
          have y10 := hrng 10 _ rfl
          have y11 := hrng 11 _ rfl
          clear hrng hl CXr hfz hc1
          generalize x.pieces[k] = y at *
          generalize hoff : k * 12 = off at *
          have HOFF : Hid (k * 12 = off) := hoff
          clear hoff
          go_upto_region 6 with fail
          go_region_law (refine step_call1 rfl 50 (.tmp 35) 42 rfl (.agg #[.int .i64 y.ck.kind, .int .i64 y.ck.tag, .int .i64 y.ck.stream, .int .i64 y.ck.mid, .int .i64 y.ck.part, .bool y.ck.last, .bool y.ck.ordered, .slice da y.ck.data.length dc, .slice sa' y.ck.spans.length sc', .int .i64 y.ck.room, .slice qa y.ck.skips.length qc]) rfl rfl enters_cOwn _ CO ?_; rintro _ w3 ⟨da', dc', sa'', sc'', qa', qc', rfl, hl3, b3⟩; obtain ⟨CX3, R3, F3⟩ := HFZ.out w3 b3; have u9 := CX3.cell 9 _ rfl; have v1 := R3 1 _ rfl; have v2 := R3 2 _ rfl; have v3 := R3 3 _ rfl; have v4 := R3 4 _ rfl; have v5 := R3 5 _ rfl; have v6 := R3 6 _ rfl; have v7 := R3 7 _ rfl; have v8 := R3 8 _ rfl; have v9 := R3 9 _ rfl; have v10 := R3 10 _ rfl; have v11 := R3 11 _ rfl; have f1 := F3 (off + 1); have f2 := F3 (off + 2); have f3 := F3 (off + 3); have f4 := F3 (off + 4); have f5 := F3 (off + 5); have f6 := F3 (off + 6); have f7 := F3 (off + 7); have f8 := F3 (off + 8); have f9 := F3 (off + 9); have f10 := F3 (off + 10); have f11 := F3 (off + 11); have HQ : Hid _ := HSET.out w3 da' dc' sa'' sc'' qa' qc' hl3 b3; clear CX3 R3 F3 hl3)
          all_goals
            have HK3 : Hid (Keep (fun k => k < w.heap.size + 2) w2 (w3.setCells g (off + 1) [.int .i64 y.ck.kind, .int .i64 y.ck.tag, .int .i64 y.ck.stream, .int .i64 y.ck.mid, .int .i64 y.ck.part, .bool y.ck.last, .bool y.ck.ordered, .slice da' y.ck.data.length dc', .slice sa'' y.ck.spans.length sc'', .int .i64 y.ck.room, .slice qa' y.ck.skips.length qc'])) := Keep.setCells (b := g) (fun hh => by omega) _ (off + 1) (HKr.out.trans (toKeep b3 fun j hj => by omega))
            simp only [World.setCells, Nat.add_assoc, Nat.reduceAdd] at HQ HK3
            go_wp2_with fail
            go_roundw
            case rel => exact ⟨k + 1, by omega, by go_num, HQ, HK3⟩
            case measure => simp [intOf]; omega
        · have hke : k = x.pieces.length := by omega
          subst hke
          have x11 := CXr.cell 11 _ rfl
          clear c9 x9 hlt CXr HR
          go_wp2_with fail
          go_loopw [43] (fun i wr => ∃ k : Nat, k ≤ x.log.length ∧ i = .int .i64 k ∧ Hid (RvB (fun k => V k ∨ w.heap.size + 2 ≤ k) (w.heap.size + 2) wr x (.slice a1 x.spans.length c1) (.slice a3 x.pieces.length c3) (.slice a2 x.turn.length c2) (.slice a4 x.log.length c4)) ∧ Hid (Keep (fun k => k < w.heap.size + 2) w2 wr)) (fun i _ => x.log.length - (intOf i).toNat)
          case atStart => exact ⟨0, Nat.zero_le _, rfl, HRr, HKr⟩
          clear x11 szr HRr HKr hk
          case round =>
            obtain ⟨k, hk, rfl, HRr, HKr⟩ := hrel
            have szr := HKr.out.size
            have CXr := HX2.out.keep HKr.out (by omega)
            have x11 := CXr.cell 11 _ rfl
            by_cases hlt : k < x.log.length
            · obtain ⟨g, cap, u, he, hbg, hg1, hc1, hc2, ⟨d, rfl, hby, hin⟩, hrng, hfz⟩ := GRow.at AvI.holds HRr.out.lg k hlt
              simp only [Value.slice.injEq] at he
              obtain ⟨rfl, -, rfl⟩ := he
              obtain ⟨da, dc, rfl, -, -⟩ := hby.ex
              have hix := run_av_at g x.log.length c4 k hlt
              have hdl := hf.fit.a _ (List.getElem_mem hlt)
              have HSE : Hid (x.log.set k x.log[k] = x.log) := List.set_getElem_self hlt
              have BDr : Below wr.heap.size wr wr.drew := below_drew' (Below.refl _ _)
              have CO : Calls Try.prog 51 #[.slice da x.log[k].data.length dc] wr.drew fun e w' => ∃ v, e = .returned v ∧ ∃ a c, v = .slice a x.log[k].data.length c ∧ By w'.heap.size w' (.slice a x.log[k].data.length c) x.log[k].data ∧ InS (fun j => wr.heap.size ≤ j ∧ j < w'.heap.size) (.slice a x.log[k].data.length c) ∧ Below wr.heap.size wr w' := by
                refine (clone_bytes _ _ _ wr.drew (hby.1.below BDr (Nat.le_refl _)) (cellsB_one _) (by omega)).mono ?_
                rintro e w' ⟨a, c, rfl, ho, hb⟩
                exact ⟨_, rfl, a, c, rfl, ⟨Rw.own ho (by rw [cellsB_length, Nat.mul_one]), hby.2⟩, InS.own ho, BDr.trans hb⟩
              have HSET : Hid (∀ w3 a' c', By w3.heap.size w3 (.slice a' x.log[k].data.length c') x.log[k].data → InS (fun j => wr.heap.size ≤ j ∧ j < w3.heap.size) (.slice a' x.log[k].data.length c') → Below wr.heap.size wr w3 → RvB (fun k => V k ∨ w.heap.size + 2 ≤ k) (w.heap.size + 2) (w3.setCell ⟨g, k * 4 + 3, none⟩ (.slice a' x.log[k].data.length c')) x (.slice a1 x.spans.length c1) (.slice a3 x.pieces.length c3) (.slice a2 x.turn.length c2) (.slice (some ⟨g, 0, none⟩) x.log.length c4)) := by
                intro w3 a' c' hy3 hi3 b3
                have h3 := HRr.out.below b3
                have sz3 := b3.size
                have hi3' : InS (fun k' => (V k' ∨ w.heap.size + 2 ≤ k') ∧ OutB (.slice a3 x.pieces.length c3) (.slice a2 x.turn.length c2) (.slice (some ⟨g, 0, none⟩) x.log.length c4) w3 k') (.slice a' x.log[k].data.length c') := hi3.mono fun j hj => ⟨.inr (by omega), hj.2, fun e => by have := (HRr.out.pc.lt e).2; omega, fun e => by have := (HRr.out.tn.lt _ e).2; omega, fun e => by have := (HRr.out.lg.lt e).2; omega⟩
                have r3 := GRow.set AvI.holds h3.lg (fun hh => hh.2.2.2.2 rfl) k hlt (u := avVal x.log[k] (.slice a' x.log[k].data.length c')) (x := x.log[k]) ⟨_, rfl, hy3, hi3'⟩
                have cc : ∀ j u, (avVal x.log[k] (.slice da x.log[k].data.length dc)).cells.toList[j]? = some u → w3.cell? ⟨g, k * 4 + j, none⟩ = some u := fun j u hu => (b3.cell (p := ⟨g, k * 4 + j, none⟩) hg1).trans (hrng j u hu)
                rw [HSE.out, av_setCells (o := k * 4) (cc 0 _ rfl) (cc 1 _ rfl) (cc 2 _ rfl)] at r3
                have k3 : Keep (fun j => j < w3.heap.size ∧ (Value.slice (some ⟨g, 0, none⟩) x.log.length c4).ownBlock ≠ some j) w3 (w3.setCell ⟨g, k * 4 + 3, none⟩ (.slice a' x.log[k].data.length c')) := Keep.setCell (Keep.refl _ _) (p := ⟨g, k * 4 + 3, none⟩) (fun hh => hh.2 rfl) _
                exact h3.inL k3 (GRow.mono AvI.holds r3 fun j hj => ⟨hj.1, hj.2.mono k3.size⟩)
              have HFZ : Hid (∀ w3, Below wr.heap.size wr w3 → w3.cell? ⟨w.heap.size, 11, none⟩ = some (.slice (some ⟨g, 0, none⟩) x.log.length c4) ∧ w3.cell? ⟨g, k * 4 + 3, none⟩ = some (.slice da x.log[k].data.length dc) ∧ w3.frozen? ⟨g, k * 4 + 3, none⟩ = false) := fun w3 b3 => ⟨(CXr.below b3 (by omega)).cell 11 _ rfl, (b3.cell (p := ⟨g, k * 4 + 3, none⟩) hg1).trans (hrng 3 _ rfl), (b3.frozen (p := ⟨g, k * 4 + 3, none⟩) hg1).trans (hfz _)⟩
              have y3 := hrng 3 _ rfl
              clear hrng hby hin CXr hfz hc1
              generalize x.log[k] = y at *
              generalize hoff : k * 4 = off at *
              have HOFF : Hid (k * 4 = off) := hoff
              clear hoff
              go_upto_region 11 with fail
              go_region_law (refine step_call1 rfl 51 (.tmp 54) 38 rfl (.slice da y.data.length dc) rfl rfl enters_clone_bytes _ CO ?_; rintro _ w3 ⟨a', c', rfl, hy3, hi3, b3⟩; obtain ⟨u11, v3, f3⟩ := HFZ.out w3 b3; have HQ : Hid _ := HSET.out w3 a' c' hy3 hi3 b3; clear hy3 hi3)
              all_goals
                have HK3 : Hid (Keep (fun k => k < w.heap.size + 2) w2 (w3.setCell ⟨g, off + 3, none⟩ (.slice a' y.data.length c'))) := Keep.setCell (HKr.out.trans (toKeep b3 fun j hj => by omega)) (p := ⟨g, off + 3, none⟩) (fun hh => by have hh' : g < w.heap.size + 2 := hh; omega) _
                go_wp2_with fail
                go_roundw
                case rel => exact ⟨k + 1, by omega, by go_num, HQ, HK3⟩
                case measure => simp [intOf]; omega
            · have hke : k = x.log.length := by omega
              subst hke
              have CRr := HCR2.out.keep HKr.out (by omega)
              have RNG := CXr.range
              have TH : wr.there (w.heap.size + 1) 0 12 := CRr.there
              have BE : Below w.heap.size w wr := BW2.trans (HKr.out.below fun k hk => by omega)
              have CE := CRr.setAll [.int .i64 x.cf.streams, .int .i64 x.cf.part, .int .i64 x.cf.packet, .int .i64 x.cf.paths, .int .i64 x.cf.turns, .int .i64 x.cf.waiting, .int .i64 x.cf.first, .int .i64 x.cum, .slice a1 x.spans.length c1, .slice a3 x.pieces.length c3, .slice a2 x.turn.length c2, .slice a4 x.log.length c4] rfl
              have HFIN : Hid (RvB (fun k => V k ∨ w.heap.size + 2 ≤ k) (w.heap.size + 2) (wr.setCells (w.heap.size + 1) 0 [.int .i64 x.cf.streams, .int .i64 x.cf.part, .int .i64 x.cf.packet, .int .i64 x.cf.paths, .int .i64 x.cf.turns, .int .i64 x.cf.waiting, .int .i64 x.cf.first, .int .i64 x.cum, .slice a1 x.spans.length c1, .slice a3 x.pieces.length c3, .slice a2 x.turn.length c2, .slice a4 x.log.length c4]) x (.slice a1 x.spans.length c1) (.slice a3 x.pieces.length c3) (.slice a2 x.turn.length c2) (.slice a4 x.log.length c4)) := by
                refine HRr.out.keep (Keep.setCells (fun hh => ?_) _ _ (Keep.refl _ _))
                rcases hh.2 with hh | hh | hh | hh
                · rcases hh with hh | hh
                  · have := hv _ hh; omega
                  · omega
                · have := (HRr.out.pc.lt hh).1; omega
                · have := (HRr.out.tn.lt _ hh).1; omega
                · have := (HRr.out.lg.lt hh).1; omega
              have BE2 : Below w.heap.size w (wr.setCells (w.heap.size + 1) 0 [.int .i64 x.cf.streams, .int .i64 x.cf.part, .int .i64 x.cf.packet, .int .i64 x.cf.paths, .int .i64 x.cf.turns, .int .i64 x.cf.waiting, .int .i64 x.cf.first, .int .i64 x.cum, .slice a1 x.spans.length c1, .slice a3 x.pieces.length c3, .slice a2 x.turn.length c2, .slice a4 x.log.length c4]) := Below.setCells (by omega) _ _ BE
              have e0 := CE.cell 0 _ rfl
              have e1 := CE.cell 1 _ rfl
              have e2 := CE.cell 2 _ rfl
              have e3 := CE.cell 3 _ rfl
              have e4 := CE.cell 4 _ rfl
              have e5 := CE.cell 5 _ rfl
              have e6 := CE.cell 6 _ rfl
              have e7 := CE.cell 7 _ rfl
              have e8 := CE.cell 8 _ rfl
              have e9 := CE.cell 9 _ rfl
              have e10 := CE.cell 10 _ rfl
              have e11 := CE.cell 11 _ rfl
              clear x11 CXr CRr CE
              go_wp2_with (first
                | refine wpList_ldR rfl (.tmp 1) rfl w.heap.size 0 rfl x _ _ _ _ (by with_reducible exact RNG) ?_
                | refine wpList_srN 47 12 Try.sizeRv rfl (.tmp 2) (.tmp 59) rfl (w.heap.size + 1) 0 rfl [.int .i64 x.cf.streams, .int .i64 x.cf.part, .int .i64 x.cf.packet, .int .i64 x.cf.paths, .int .i64 x.cf.turns, .int .i64 x.cf.waiting, .int .i64 x.cf.first, .int .i64 x.cum, .slice a1 x.spans.length c1, .slice a3 x.pieces.length c3, .slice a2 x.turn.length c2, .slice a4 x.log.length c4] rfl rfl rfl (by with_reducible exact TH) ?_)
              generalize wr.setCells (w.heap.size + 1) 0 [.int .i64 x.cf.streams, .int .i64 x.cf.part, .int .i64 x.cf.packet, .int .i64 x.cf.paths, .int .i64 x.cf.turns, .int .i64 x.cf.waiting, .int .i64 x.cf.first, .int .i64 x.cum, .slice a1 x.spans.length c1, .slice a3 x.pieces.length c3, .slice a2 x.turn.length c2, .slice a4 x.log.length c4] = w9 at *
              exact bodyPost_ret (v := .agg #[.int .i64 x.cf.streams, .int .i64 x.cf.part, .int .i64 x.cf.packet, .int .i64 x.cf.paths, .int .i64 x.cf.turns, .int .i64 x.cf.waiting, .int .i64 x.cf.first, .int .i64 x.cum, .slice a1 x.spans.length c1, .slice a3 x.pieces.length c3, .slice a2 x.turn.length c2, .slice a4 x.log.length c4]) (by simp [results, Try.results25, go_sem, e0, e1, e2, e3, e4, e5, e6, e7, e8, e9, e10, e11]) rfl ⟨_, _, _, _, rfl, HFIN.out, BE2⟩
end Go.Proofs.Ytnddejdndipddad
