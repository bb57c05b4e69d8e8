/- The document's receivers: Tells. -/
import Derived.Test.YtnddejdndipddadRdD
import Derived.Test.YtnddejdndipddadRdE
set_option maxRecDepth 20000
namespace Go.Proofs.Ytnddejdndipddad
open Go.RowKit

/-- A load of a whole chunk, whatever its cells. -/
theorem wpList_ldC2 {ops : Array Oper} {rest : List Oper} {op : Oper} {a : Act} {w : World} {Q : Exit → Act → World → Prop} (hgd : op.guard = none) (y : Operand) (ho : op.op = .load 42 y) (b o : Nat) (hx : a.eval y = .pointer (some ⟨b, o, none⟩)) (cs : List Value) (hl : cs.length = 11) (hc : w.rangeAt b o cs) (h : wpList Try.prog ops Q rest (a.put op.dst (.agg cs.toArray)) w) : wpList Try.prog ops Q (op :: rest) a w :=
  wpList_load_mid hgd 42 y ho b o hx cs _ hc Try.underlying42 rfl (by rw [Try.sizeCk, hl]) h

set_option maxHeartbeats 4000000 in
theorem rtells_any (x : Rc) (s p t l : Value) (w : World) (h : RvS w.heap.size w x s p t l) (hf : FitR x) (hw : ∀ q ∈ x.spans, I64 (q.1 - x.cum) ∧ I64 (q.2 - x.cum)) :
    Calls Try.prog 34 #[.agg #[.int .i64 x.cf.streams, .int .i64 x.cf.part, .int .i64 x.cf.packet, .int .i64 x.cf.paths, .int .i64 x.cf.turns, .int .i64 x.cf.waiting, .int .i64 x.cf.first, .int .i64 x.cum, s, p, t, l]] w fun e w' => ∃ sp, e = .returned (ckVal (tellM x) (.slice none 0 0) sp (.slice none 0 0)) ∧ Sl w'.heap.size w' sp (tellM x).spans ∧ Below w.heap.size w w' := by
  have hh := hf.held
  obtain ⟨sa, sc, pa, pc, ta, tc, la, lc, rfl, rfl, rfl, rfl⟩ := h.ex
  have hln : x.spans.length ≤ 9223372036854775807 := by have := h.s.len; omega
  have B0 := two_below w (.cells #[.int .i64 x.cf.streams, .int .i64 x.cf.part, .int .i64 x.cf.packet, .int .i64 x.cf.paths, .int .i64 x.cf.turns, .int .i64 x.cf.waiting, .int .i64 x.cf.first, .int .i64 x.cum, .slice sa x.spans.length sc, .slice pa x.pieces.length pc, .slice ta x.turn.length tc, .slice la x.log.length lc] 47) (.cells #[.int .i64 0, .int .i64 0, .int .i64 0, .int .i64 0, .int .i64 0, .bool false, .bool false, .slice none 0 0, .slice none 0 0, .int .i64 0, .slice none 0 0] 42)
  have CX : Cells w.heap.size ((w.alloc (.cells #[.int .i64 x.cf.streams, .int .i64 x.cf.part, .int .i64 x.cf.packet, .int .i64 x.cf.paths, .int .i64 x.cf.turns, .int .i64 x.cf.waiting, .int .i64 x.cf.first, .int .i64 x.cum, .slice sa x.spans.length sc, .slice pa x.pieces.length pc, .slice ta x.turn.length tc, .slice la x.log.length lc] 47)).alloc (.cells #[.int .i64 0, .int .i64 0, .int .i64 0, .int .i64 0, .int .i64 0, .bool false, .bool false, .slice none 0 0, .slice none 0 0, .int .i64 0, .slice none 0 0] 42)) [.int .i64 x.cf.streams, .int .i64 x.cf.part, .int .i64 x.cf.packet, .int .i64 x.cf.paths, .int .i64 x.cf.turns, .int .i64 x.cf.waiting, .int .i64 x.cf.first, .int .i64 x.cum, .slice sa x.spans.length sc, .slice pa x.pieces.length pc, .slice ta x.turn.length tc, .slice la x.log.length lc] := (Cells.new w #[.int .i64 x.cf.streams, .int .i64 x.cf.part, .int .i64 x.cf.packet, .int .i64 x.cf.paths, .int .i64 x.cf.turns, .int .i64 x.cf.waiting, .int .i64 x.cf.first, .int .i64 x.cum, .slice sa x.spans.length sc, .slice pa x.pieces.length pc, .slice ta x.turn.length tc, .slice la x.log.length lc] 47).alloc (by simp) _
  have CT : Cells (w.heap.size + 1) ((w.alloc (.cells #[.int .i64 x.cf.streams, .int .i64 x.cf.part, .int .i64 x.cf.packet, .int .i64 x.cf.paths, .int .i64 x.cf.turns, .int .i64 x.cf.waiting, .int .i64 x.cf.first, .int .i64 x.cum, .slice sa x.spans.length sc, .slice pa x.pieces.length pc, .slice ta x.turn.length tc, .slice la x.log.length lc] 47)).alloc (.cells #[.int .i64 0, .int .i64 0, .int .i64 0, .int .i64 0, .int .i64 0, .bool false, .bool false, .slice none 0 0, .slice none 0 0, .int .i64 0, .slice none 0 0] 42)) [.int .i64 0, .int .i64 0, .int .i64 0, .int .i64 0, .int .i64 0, .bool false, .bool false, .slice none 0 0, .slice none 0 0, .int .i64 0, .slice none 0 0] := Cells.new' #[.int .i64 0, .int .i64 0, .int .i64 0, .int .i64 0, .int .i64 0, .bool false, .bool false, .slice none 0 0, .slice none 0 0, .int .i64 0, .slice none 0 0] 42 (by simp)
  have HZ : w.heap.size + 2 ≤ ((w.alloc (.cells #[.int .i64 x.cf.streams, .int .i64 x.cf.part, .int .i64 x.cf.packet, .int .i64 x.cf.paths, .int .i64 x.cf.turns, .int .i64 x.cf.waiting, .int .i64 x.cf.first, .int .i64 x.cum, .slice sa x.spans.length sc, .slice pa x.pieces.length pc, .slice ta x.turn.length tc, .slice la x.log.length lc] 47)).alloc (.cells #[.int .i64 0, .int .i64 0, .int .i64 0, .int .i64 0, .int .i64 0, .bool false, .bool false, .slice none 0 0, .slice none 0 0, .int .i64 0, .slice none 0 0] 42)).heap.size := by simp
  have H0 := hide (h.below B0 (Nat.le_refl _))
  have HF := hide hf
  have HW := hide hw
  have HTL : Hid (tellM x = ⟨2, x.cum % 65536, 0, 0, 0, false, false, [], tellK x.cum x.spans x.spans.length, max (400 - (heldM x.pieces : Int)) 0, []⟩) := by
    show _ = _
    rw [tellK_all]
    rfl
  clear h hf hw
  go_enter Try.func34, Try.ntmps34
  go_upto_region 1 with fail
  generalize ((w.alloc (.cells #[.int .i64 x.cf.streams, .int .i64 x.cf.part, .int .i64 x.cf.packet, .int .i64 x.cf.paths, .int .i64 x.cf.turns, .int .i64 x.cf.waiting, .int .i64 x.cf.first, .int .i64 x.cum, .slice sa x.spans.length sc, .slice pa x.pieces.length pc, .slice ta x.turn.length tc, .slice la x.log.length lc] 47)).alloc (.cells #[.int .i64 0, .int .i64 0, .int .i64 0, .int .i64 0, .int .i64 0, .bool false, .bool false, .slice none 0 0, .slice none 0 0, .int .i64 0, .slice none 0 0] 42)) = w0 at *
  have x7 := CX.cell 7 _ rfl
  have TA := rtag_any x.cum w0
  go_wp2_with fail
  refine TA.mono ?_
  rintro e w' ⟨rfl, hw'⟩
  subst w'
  dsimp only
  rename_i KK aKK
  refine aKK _ _ ?_
  clear aKK KK TA
  go_upto_region 2 with (refine wpList_stN 42 11 Try.sizeCk rfl (.tmp 3) (.tmp 10) rfl w0 _ rfl rfl rfl [.int .i64 2, .int .i64 (x.cum % 65536), .int .i64 0, .int .i64 0, .int .i64 0, .bool false, .bool false, .slice none 0 0, .slice none 0 0, .int .i64 0, .slice none 0 0] rfl rfl rfl ?_)
  have b1 := box_below w0 (.cells #[.int .i64 2, .int .i64 (x.cum % 65536), .int .i64 0, .int .i64 0, .int .i64 0, .bool false, .bool false, .slice none 0 0, .slice none 0 0, .int .i64 0, .slice none 0 0] 42)
  have CC1 := Cells.new w0 #[.int .i64 2, .int .i64 (x.cum % 65536), .int .i64 0, .int .i64 0, .int .i64 0, .bool false, .bool false, .slice none 0 0, .slice none 0 0, .int .i64 0, .slice none 0 0] 42
  have CX1 := CX.below b1 (by omega)
  have CT1 := CT.below b1 (by omega)
  have H1 := hide (H0.out.below b1 (by omega))
  have hz1 : w0.heap.size + 1 ≤ (w0.alloc (.cells #[.int .i64 2, .int .i64 (x.cum % 65536), .int .i64 0, .int .i64 0, .int .i64 0, .bool false, .bool false, .slice none 0 0, .slice none 0 0, .int .i64 0, .slice none 0 0] 42)).heap.size := by simp
  have hX : ∃ X, X = w0.heap.size := ⟨_, rfl⟩
  obtain ⟨X, hX⟩ := hX
  rw [← hX] at CC1 ⊢
  have hX1 : w0.heap.size ≤ X := by omega
  have hX3 : X ≤ w0.heap.size := by omega
  clear hX
  clear x7
  generalize w0.alloc (.cells #[.int .i64 2, .int .i64 (x.cum % 65536), .int .i64 0, .int .i64 0, .int .i64 0, .bool false, .bool false, .slice none 0 0, .slice none 0 0, .int .i64 0, .slice none 0 0] 42) = w1 at *
  have RNG := CX1.range
  have HE := rheld_any x _ _ _ _ w1 ((H1.out).mono (by omega)) HF.out
  go_wp2_with (refine wpList_ldR rfl (.tmp 1) rfl w.heap.size 0 rfl x _ _ _ _ (by with_reducible exact RNG) ?_)
  refine HE.mono ?_
  rintro e w2 ⟨rfl, b2⟩
  have sz2 := b2.size
  have CC2 := CC1.below b2 (by omega)
  have CX2 := hide (CX1.below b2 (by omega))
  have CT2 := hide (CT1.below b2 (by omega))
  have H2 := hide ((H1.out.below b2 (by omega)))
  have BW2 : Below w.heap.size w w2 := B0.trans ((b1.mono (by omega)).trans (b2.mono (by omega)))
  generalize heldM x.pieces = hp at *
  have WF : IntKind.i64.wrap (400 - (hp : Int)) = 400 - (hp : Int) := by simp [IntKind.wrap, IntKind.signed, IntKind.bits]; omega
  clear HE CX1 CT1 CC1 H1 RNG
  go_upto_region 3 with fail
  clear WF
  obtain ⟨z, hz⟩ : ∃ z, z = 400 - (hp : Int) := ⟨_, rfl⟩
  rw [← hz] at HTL ⊢
  clear hz
  have c9 := CC2.cell 9 _ rfl
  have f9 := CC2.fz 9
  have HCC2 := hide CC2
  clear CC2
  go_upto_if 15 with fail
  go_cut [4] from 16 to 17 (fun s4 wx => s4 = .int .i64 z ∧ Hid (Cells X wx [.int .i64 2, .int .i64 (x.cum % 65536), .int .i64 0, .int .i64 0, .int .i64 0, .bool false, .bool false, .slice none 0 0, .slice none 0 0, .int .i64 (max z 0), .slice none 0 0]) ∧ Keep (fun k => k ≠ X) w2 wx)
  case first =>
    by_cases hr : 0 < z
    · have HC3 : Hid (Cells X (w2.setCell ⟨X, 9, none⟩ (.int .i64 z)) [.int .i64 2, .int .i64 (x.cum % 65536), .int .i64 0, .int .i64 0, .int .i64 0, .bool false, .bool false, .slice none 0 0, .slice none 0 0, .int .i64 (max z 0), .slice none 0 0]) := by
        have := HCC2.out.set 9 (.int .i64 z) (by simp)
        rw [show max z 0 = z by omega]
        exact this
      have K3 := Keep.setCell (Keep.refl (fun k => k ≠ X) w2) (p := ⟨X, 9, none⟩) (fun h => h rfl) (.int .i64 z)
      have HC4 := hide HC3
      have K4 := hide K3
      clear HC3 K3
      go_wp2_with fail
      go_meet
      first | exact ⟨rfl, HC4.out, K4.out⟩ | exact ⟨HC4.out, K4.out⟩ | (trace_state; fail)
    · have HC3 : Hid (Cells X w2 [.int .i64 2, .int .i64 (x.cum % 65536), .int .i64 0, .int .i64 0, .int .i64 0, .bool false, .bool false, .slice none 0 0, .slice none 0 0, .int .i64 (max z 0), .slice none 0 0]) := by
        rw [show max z 0 = 0 by omega]
        exact HCC2.out
      have K3 := Keep.refl (fun k => k ≠ X) w2
      have HC4 := hide HC3
      have K4 := hide K3
      clear HC3 K3
      go_wp2_with fail
      go_meet
      first | exact ⟨rfl, HC4.out, K4.out⟩ | exact ⟨HC4.out, K4.out⟩ | (trace_state; fail)
  case rest =>
  obtain ⟨rfl, HC3, K3⟩ := hcut
  have sz3 := K3.size
  have CX3 := hide (CX2.out.keep K3 (by omega))
  have CT3 := hide (CT2.out.keep K3 (by omega))
  have BW3 : Below w.heap.size w wc := BW2.trans (K3.below fun k hk => by omega)
  have HIN : InS (fun k => k < w.heap.size) (.slice sa x.spans.length sc) := H2.out.s.rw'.ins
  have H3 := hide ((H2.out.s.mono (show w.heap.size ≤ w2.heap.size by omega)).keepS HIN (K3.mono fun k hk => by omega))
  have x8 := CX3.out.cell 8 _ rfl
  have hXw : w.heap.size + 2 ≤ X := by omega
  have hX2 : X < wc.heap.size := by omega
  clear H2 CX2 CT2 K3 HCC2
  go_upto_region 6 with fail
  have ET0 : tellK x.cum x.spans 0 = [] := by simp [tellK]
  go_loopw [21] (fun i wr => ∃ (k : Nat) (so : Option Addr) (sc2 : Nat), k ≤ x.spans.length ∧ i = .int .i64 k ∧ Hid (Cells X wr [.int .i64 2, .int .i64 (x.cum % 65536), .int .i64 0, .int .i64 0, .int .i64 0, .bool false, .bool false, .slice none 0 0, .slice so (tellK x.cum x.spans k).length sc2, .int .i64 (max z 0), .slice none 0 0]) ∧ Hid (wr.ownsRow wc.heap.size 75 2 (.slice so (tellK x.cum x.spans k).length sc2) (tellK x.cum x.spans k).length (flat (tellK x.cum x.spans k))) ∧ Hid (Fit (tellK x.cum x.spans k)) ∧ Keep (fun k => k < wc.heap.size ∧ k ≠ X) wc wr) (fun i _ => x.spans.length - (intOf i).toNat)
  case atStart => exact ⟨0, none, 0, Nat.zero_le _, rfl, by rw [ET0]; exact HC3, by rw [ET0]; exact World.ownsRow_nil _ _ _ _, by rw [ET0]; exact (fun s hs => by simp at hs), Keep.refl _ _⟩
  case round =>
    obtain ⟨k, so, sc2, hk, rfl, HC, HO, HFT, KR⟩ := hrel
    have szr := KR.size
    have CXr := hide (CX3.out.keep KR ⟨by omega, by omega⟩)
    have CTr := hide (CT3.out.keep KR ⟨by omega, by omega⟩)
    have BWr : Below w.heap.size w wr := BW3.trans (KR.below fun k hk => ⟨by omega, by omega⟩)
    have hlen6 := tellK_len x.cum x.spans k
    by_cases hlt : k < x.spans.length
    · skip
      have HIX := Sl.at (H3.out.keepS HIN (KR.mono fun k hk => by omega)) k hlt
      obtain ⟨b, off, hb, hix, hx0, hx1⟩ := HIX
      have hq := HW.out x.spans[k] (List.getElem_mem _)
      have SPK := fun h6 => tellK_more x.cum x.spans k hlt h6
      have SPS := fun h6 => tellK_same x.cum x.spans k h6
      have HSPK := hide SPK
      have HSPS := hide SPS
      have x7 := CXr.out.cell 7 _ rfl
      have x8 := HC.out.cell 8 _ rfl
      have f8 := HC.out.fz 8
      have hr1 : w.heap.size < wr.heap.size := by omega
      have hrX : X < wr.heap.size := by omega
      clear SPK SPS
      have HLT := hide hlt
      generalize x.spans[k] = q at *
      obtain ⟨q1, q2⟩ := q
      simp only at hx0 hx1 hq HSPK
      have W1 : IntKind.i64.wrap (q1 - x.cum) = q1 - x.cum := by have := hq.1; unfold I64 at this; simp [IntKind.wrap, IntKind.signed, IntKind.bits]; omega
      have W2 : IntKind.i64.wrap (q2 - x.cum) = q2 - x.cum := by have := hq.2; unfold I64 at this; simp [IntKind.wrap, IntKind.signed, IntKind.bits]; omega
      have HQ := hide hq
      clear hq
      by_cases h6 : k < 6
      · have e6 := HSPK.out h6
        have HE6 := hide e6
        clear e6
        generalize hm2 : tellK x.cum x.spans (k + 1) = m2 at *
        have HM2 := hide hm2
        clear hm2
        generalize tellK x.cum x.spans k = m at *
        have s1 := box_below wr (.cells #[.int .i64 q1, .int .i64 q2] 75)
        have KA : Keep (fun k => k < wc.heap.size ∧ k ≠ X) wc ((wr.alloc (.cells #[.int .i64 q1, .int .i64 q2] 75)).alloc (.cells #[.int .i64 (q1 - x.cum), .int .i64 (q2 - x.cum)] 75)) := (KR.alloc (fun k hk => by omega) _).alloc (fun k hk => by simp; omega) _
        have OA : ((wr.alloc (.cells #[.int .i64 q1, .int .i64 q2] 75)).alloc (.cells #[.int .i64 (q1 - x.cum), .int .i64 (q2 - x.cum)] 75)).ownsRow wc.heap.size 75 2 (.slice so m.length sc2) m.length (flat m) := own_new (own_new HO.out _) _
        have HOA := hide OA
        have HKA := hide KA
        have ONE := Sl.one (wr.alloc (.cells #[.int .i64 q1, .int .i64 q2] 75)) (q1 - x.cum) (q2 - x.cum) HQ.out.1 HQ.out.2
        have hz2 : (wr.alloc (.cells #[.int .i64 q1, .int .i64 q2] 75)).heap.size = wr.heap.size + 1 := by simp
        rw [hz2] at ONE
        have hbs : wc.heap.size ≤ ((wr.alloc (.cells #[.int .i64 q1, .int .i64 q2] 75)).alloc (.cells #[.int .i64 (q1 - x.cum), .int .i64 (q2 - x.cum)] 75)).heap.size := by simp; omega
        have HNX : Hid (∀ j, Value.ownBlock (.slice so m.length sc2) = some j → j ≠ X) := fun j hj => by have := (HO.out.lt j hj).1; omega
        have HBJ : Hid (∀ j, Value.ownBlock (.slice so m.length sc2) = some j → wc.heap.size ≤ j) := fun j hj => (HO.out.lt j hj).1
        have HCA := hide ((HC.out.alloc hrX (.cells #[.int .i64 q1, .int .i64 q2] 75)).alloc (by simp; omega) (.cells #[.int .i64 (q1 - x.cum), .int .i64 (q2 - x.cum)] 75))
        have hXA : X < ((wr.alloc (.cells #[.int .i64 q1, .int .i64 q2] 75)).alloc (.cells #[.int .i64 (q1 - x.cum), .int .i64 (q2 - x.cum)] 75)).heap.size := by simp; omega
        clear OA KA hz2
        go_wp2_with (at_builtin; refine wpList_append_sp _ rfl (.tmp 29) (.tmp 41) rfl wc.heap.size (.slice so m.length sc2) m.length (flat m) rfl HOA.out (wr.heap.size + 1 + 1) [(q1 - x.cum, q2 - x.cum)] (.slice (some ⟨wr.heap.size + 1, 0, none⟩) 1 1) rfl ONE (by simp; omega) hbs ?_; intro v' w4 own4 gr4; obtain ⟨a4, c4, rfl⟩ := own_form own4; have KG : Keep (fun k => k = X) ((wr.alloc (.cells #[.int .i64 q1, .int .i64 q2] 75)).alloc (.cells #[.int .i64 (q1 - x.cum), .int .i64 (q2 - x.cum)] 75)) w4 := (Keep.refl _ _).grown gr4 (fun k hk => by omega) (fun j hj hk => HNX.out j hj hk); have HC4 := hide (HCA.out.keep KG rfl); have y8 := HC4.out.cell 8 _ rfl; have g8 := HC4.out.fz 8; have K4 := hide (HKA.out.grown gr4 (fun k hk => by simp; omega) (fun j hj hk => by have := HBJ.out j hj; omega)); have OW4 := hide own4; have sz4 := gr4.size; clear own4 gr4 KG)
        have K5 := hide (K4.out.setCell (p := ⟨X, 8, none⟩) (fun h => h.2 rfl) (.slice a4 (m.length + 1) c4))
        have HC5 := hide (HC4.out.set 8 (.slice a4 (m.length + 1) c4) (by simp))
        have KX : Keep (fun j => j ≠ X) w4 (w4.setCell ⟨X, 8, none⟩ (.slice a4 (m.length + 1) c4)) := Keep.setCell (Keep.refl _ _) (p := ⟨X, 8, none⟩) (fun h => h rfl) _
        have OW5 := hide (own_of_block OW4.out fun j hj => KX.block j (by have := (OW4.out.lt j hj).1; omega))
        have OW6 := hide (own_snoc (s := (q1 - x.cum, q2 - x.cum)) OW5.out)
        have HF5 := hide (fit_snoc (s := (q1 - x.cum, q2 - x.cum)) HFT.out HQ.out)
        clear KX OW5
        go_roundw
        case rel => exact ⟨k + 1, a4, c4, HLT.out, by go_num, by rw [HM2.out, HE6.out, List.length_append]; exact HC5.out, by rw [HM2.out, HE6.out, List.length_append]; have h := OW6.out; rw [List.length_append] at h; exact h, by rw [HM2.out, HE6.out]; exact HF5.out, K5.out⟩
        case measure => have := HLT.out; simp [intOf]; omega
      · have e6 := HSPS.out h6
        have K1 : Keep (fun k => k < wc.heap.size ∧ k ≠ X) wc (wr.alloc (.cells #[.int .i64 q1, .int .i64 q2] 75)) := KR.alloc (fun k hk => by omega) _
        have HC1 := hide (HC.out.alloc hrX (.cells #[.int .i64 q1, .int .i64 q2] 75))
        have HO1 := hide (own_new HO.out (.cells #[.int .i64 q1, .int .i64 q2] 75))
        rw [← e6] at HC1 HO1 HFT
        have HC2 := hide HC1
        have HO2 := hide HO1
        have HF2 := hide HFT
        have K2 := hide K1
        clear HC1 HO1 HFT K1 e6
        go_wp2_with fail
        go_roundw
        case rel => exact ⟨k + 1, so, sc2, HLT.out, by go_num, HC2.out, HO2.out, HF2.out, K2.out⟩
        case measure => have := HLT.out; simp [intOf]; omega
    · have hke : k = x.spans.length := by omega
      subst hke
      have RNG := HC.out.range
      have TH : wr.there (w.heap.size + 1) 0 11 := CTr.out.there
      have CE := CTr.out.setAll [.int .i64 2, .int .i64 (x.cum % 65536), .int .i64 0, .int .i64 0, .int .i64 0, .bool false, .bool false, .slice none 0 0, .slice so (tellK x.cum x.spans x.spans.length).length sc2, .int .i64 (max z 0), .slice none 0 0] rfl
      have e0 := CE.cell 0 _ rfl
      have e1 := CE.cell 1 _ rfl
      have e2 := CE.cell 2 _ rfl
      have e3 := CE.cell 3 _ rfl
      have e4 := CE.cell 4 _ rfl
      have e5 := CE.cell 5 _ rfl
      have e6 := CE.cell 6 _ rfl
      have e7 := CE.cell 7 _ rfl
      have e8 := CE.cell 8 _ rfl
      have e9 := CE.cell 9 _ rfl
      have e10 := CE.cell 10 _ rfl
      have KE : Keep (fun k => k ≠ w.heap.size + 1) wr (wr.setCells (w.heap.size + 1) 0 [.int .i64 2, .int .i64 (x.cum % 65536), .int .i64 0, .int .i64 0, .int .i64 0, .bool false, .bool false, .slice none 0 0, .slice so (tellK x.cum x.spans x.spans.length).length sc2, .int .i64 (max z 0), .slice none 0 0]) := Keep.setCells (fun h => h rfl) _ _ (Keep.refl _ _)
      have BE : Below w.heap.size w (wr.setCells (w.heap.size + 1) 0 [.int .i64 2, .int .i64 (x.cum % 65536), .int .i64 0, .int .i64 0, .int .i64 0, .bool false, .bool false, .slice none 0 0, .slice so (tellK x.cum x.spans x.spans.length).length sc2, .int .i64 (max z 0), .slice none 0 0]) := Below.setCells (by omega) _ _ BWr
      have OE : (wr.setCells (w.heap.size + 1) 0 [.int .i64 2, .int .i64 (x.cum % 65536), .int .i64 0, .int .i64 0, .int .i64 0, .bool false, .bool false, .slice none 0 0, .slice so (tellK x.cum x.spans x.spans.length).length sc2, .int .i64 (max z 0), .slice none 0 0]).ownsRow wc.heap.size 75 2 (.slice so (tellK x.cum x.spans x.spans.length).length sc2) (tellK x.cum x.spans x.spans.length).length (flat (tellK x.cum x.spans x.spans.length)) := own_of_block HO.out fun j hj => KE.block j (by have := (HO.out.lt j hj).1; omega)
      have FIN := hide (Sl.own OE HFT.out)
      clear CE KE OE HO HFT
      go_wp2_with (first
        | refine wpList_ldC2 rfl (.tmp 3) rfl X 0 rfl [.int .i64 2, .int .i64 (x.cum % 65536), .int .i64 0, .int .i64 0, .int .i64 0, .bool false, .bool false, .slice none 0 0, .slice so (tellK x.cum x.spans x.spans.length).length sc2, .int .i64 (max z 0), .slice none 0 0] rfl (by with_reducible exact RNG) ?_
        | refine wpList_srN 42 11 Try.sizeCk rfl (.tmp 2) (.tmp 45) rfl (w.heap.size + 1) 0 rfl [.int .i64 2, .int .i64 (x.cum % 65536), .int .i64 0, .int .i64 0, .int .i64 0, .bool false, .bool false, .slice none 0 0, .slice so (tellK x.cum x.spans x.spans.length).length sc2, .int .i64 (max z 0), .slice none 0 0] rfl rfl rfl (by with_reducible exact TH) ?_)
      generalize wr.setCells (w.heap.size + 1) 0 [.int .i64 2, .int .i64 (x.cum % 65536), .int .i64 0, .int .i64 0, .int .i64 0, .bool false, .bool false, .slice none 0 0, .slice so (tellK x.cum x.spans x.spans.length).length sc2, .int .i64 (max z 0), .slice none 0 0] = w9 at *
      refine bodyPost_ret (v := .agg #[.int .i64 2, .int .i64 (x.cum % 65536), .int .i64 0, .int .i64 0, .int .i64 0, .bool false, .bool false, .slice none 0 0, .slice so (tellK x.cum x.spans x.spans.length).length sc2, .int .i64 (max z 0), .slice none 0 0]) (by simp [results, Try.results34, go_sem, e0, e1, e2, e3, e4, e5, e6, e7, e8, e9, e10]) rfl ?_
      rw [HTL.out]
      exact ⟨_, rfl, FIN.out, BE⟩
end Go.Proofs.Ytnddejdndipddad
