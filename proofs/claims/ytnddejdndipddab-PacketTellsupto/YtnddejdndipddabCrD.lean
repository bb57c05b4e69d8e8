/- The document's Bytes: forwards; and whole. -/
import Derived.Test.YtnddejdndipddabCrC
set_option maxRecDepth 20000
namespace Go.Proofs.Ytnddejdndipddab
open Go.RowKit

set_option maxHeartbeats 1000000 in
theorem rbytes_forward (v : Value) (c : Ck) (w : World) (hv : CkV w.heap.size w v c) (hw : wrongM c = 0) (k1 : c.kind = 3) :
    Calls Try.prog 30 #[v] w fun e w' => ∃ v', e = .returned (.tuple #[v', .int .i64 0]) ∧ By w'.heap.size w' v' (bytesM c) ∧ Below w.heap.size w w' := by
  have g := goodF hw k1
  have HV := fun o => hv.boxed o
  obtain ⟨d, s, k, rfl, -, -, hs⟩ := hv
  have HB := fun o => box_below w o
  obtain ⟨as', cs, rfl, q1, q2⟩ := hs.ex
  simp only [ckVal] at HV ⊢
  have HM : Hid (bytesM c = 3 :: ((2 + 4 * c.skips.length : Nat) : Int) :: (two16 c.tag ++ c.skips.flatMap skipB)) := by
    show _ = _
    simp [-List.length_flatMap, bytesM, k1, bodyM, two16, skipB_len]
    omega
  obtain ⟨kind, tag, stream, mid, part, last, ordered, data, spans, room, skips⟩ := c
  dsimp only at *
  subst k1
  obtain ⟨⟨t1, t2⟩, l2, hgood⟩ := g
  dsimp only at *
  have hsp := skips_all hgood
  clear hgood
  go_enter Try.func30, Try.ntmps30
  go_wp2_with fail
  refine (rwrong_any _ _ _ (HV _)).mono ?_
  rintro e w1 ⟨rfl, hb⟩
  rw [hw]
  have hb1 := (HB _).trans (hb.mono (by simp))
  have hX : w.heap.size < w1.heap.size := by have := hb.size; simp at this; omega
  have CX1 := (Cells.new w #[.int .i64 3, .int .i64 tag, .int .i64 stream, .int .i64 mid, .int .i64 part, .bool last, .bool ordered, d, s, .int .i64 room, .slice as' skips.length cs] 45).below hb (by simp)
  have x1 := CX1.cell 1 _ rfl
  clear HV
  go_wp2_with fail
  refine (rtwo_any tag _ t1 t2).mono ?_
  rintro e w2 ⟨rfl, rfl⟩
  have R2 := RwO.lit w1 (tag / 256) (tag % 256) (by omega) (by omega)
  have CX2 := CX1.alloc hX (.cells #[.int .u8 (tag / 256), .int .u8 (tag % 256)] 5)
  have x0 := CX2.cell 0 _ rfl
  clear x1
  have x10 := CX2.cell 10 _ rfl
  have hs3 : Kl w.heap.size (w1.alloc (.cells #[.int .u8 (tag / 256), .int .u8 (tag % 256)] 5)) (.slice as' skips.length cs) skips := (hs.below hb1 (Nat.le_refl _)).below (box_below w1 _) (Nat.le_of_lt hX)
  have KW3 := (Keep.refl (fun k => k < w1.heap.size) w1).alloc (fun _ hk => hk) (.cells #[.int .u8 (tag / 256), .int .u8 (tag % 256)] 5)
  go_wp2
  generalize w1.alloc (.cells #[.int .u8 (tag / 256), .int .u8 (tag % 256)] 5) = w3 at *
  go_loopw [5, 24] (fun vb i wr => ∃ (j : Nat) (ab : Option Addr) (cb : Nat), j ≤ skips.length ∧ i = .int .i64 j ∧ vb = .slice ab (2 + 4 * j) cb ∧ RwO (fun k => k < w1.heap.size) wr (.slice ab (2 + 4 * j) cb) ([tag / 256, tag % 256] ++ (skips.take j).flatMap skipB) ∧ Keep (fun k => k < w1.heap.size) w3 wr) (fun _ i _ => skips.length - (intOf i).toNat)
  case atStart => exact ⟨0, _, _, Nat.zero_le _, rfl, rfl, by simpa using R2, Keep.refl _ _⟩
  case round =>
    obtain ⟨j, ab, cb, hj, rfl, rfl, Rr, Kr⟩ := hrel
    have hlp : ([tag / 256, tag % 256] ++ (skips.take j).flatMap skipB).length = 2 + 4 * j := by simp [-List.length_flatMap, skipB_len]; omega
    by_cases hlt : j < skips.length
    · obtain ⟨b, off, hbb, hix, hx0, hx1, hx2⟩ := (hs3.below (Kr.below (B := w1.heap.size) fun k hk => hk) (Nat.le_of_lt hX)).at j hlt
      have hr := hsp skips[j] (List.getElem_mem hlt)
      have HN : Hid ((skips.take (j + 1)).flatMap skipB = (skips.take j).flatMap skipB ++ skipB skips[j]) := by show _ = _; rw [List.take_succ_eq_append_getElem hlt, List.flatMap_append, List.flatMap_singleton]
      obtain ⟨fr, hfr⟩ : ∃ x, x = skips[j].stream := ⟨_, rfl⟩
      obtain ⟨tt, hto⟩ : ∃ x, x = skips[j].mid := ⟨_, rfl⟩
      obtain ⟨oo, hoo⟩ : ∃ x, x = skips[j].ordered := ⟨_, rfl⟩
      have HSB : Hid (skipB skips[j] = [fr, flagV oo 1] ++ [tt / 256, tt % 256]) := by show _ = _; rw [hfr, hto, hoo]; rfl
      rw [← hfr] at hx0 hr
      rw [← hto] at hx1 hr
      rw [← hoo] at hx2
      clear hfr hto hoo
      have fb : 0 ≤ flagV oo 1 ∧ flagV oo 1 < 256 := by cases oo <;> decide
      have TC := three_cells wr (.int .i64 fr) (.int .i64 tt) (.bool oo) 89
      have RY := Rr.alloc (.cells #[.int .i64 fr, .int .i64 tt, .bool oo] 89)
      have KY : Keep (fun k => k < w1.heap.size) w3 (wr.alloc (.cells #[.int .i64 fr, .int .i64 tt, .bool oo] 89)) := Kr.alloc Rr.lt _
      have W1 := wrap8 (n := fr) (by omega)
      have W2 := wrap8 fb
      clear x10 x0
      go_upto_region 10 with fail
      generalize hwy : wr.alloc (.cells #[.int .i64 fr, .int .i64 tt, .bool oo] 89) = wy at *
      have RYn := fun o => (RY.new o).drew
      have HIf : IsB [fr, flagV oo 1] := by intro z hz; simp only [List.mem_cons, List.not_mem_nil, or_false] at hz; rcases hz with rfl | rfl <;> omega
      have HIt : IsB [tt / 256, tt % 256] := by intro z hz; simp at hz; omega
      have HLf := Rw.lit2b wy fr (flagV oo 1)
      have KA := fun o => And.intro (new_at TC.1 o) (And.intro (new_at TC.2.1 o) (new_at TC.2.2 o))
      have hl4 : ([tag / 256, tag % 256] ++ (skips.take j).flatMap skipB ++ [fr, flagV oo 1]).length = 2 + 4 * j + 2 := by rw [List.length_append, hlp]; rfl
      go_region_held3 (fun w' => w'.cell? ⟨wr.heap.size, 0, none⟩ = some (.int .i64 fr) ∧ w'.cell? ⟨wr.heap.size, 1, none⟩ = some (.int .i64 tt) ∧ w'.cell? ⟨wr.heap.size, 2, none⟩ = some (.bool oo)) (first | exact TC | exact KQ5 | exact KQ4 | (simp only [World.cell?_drew]; with_reducible exact KA _) | (with_reducible exact KQ4' _)) (first
        | (go_at_call 53; refine (rflag_any _ _ _).mono ?_; rintro e w' ⟨rfl, rfl⟩)
        | (go_at_call 52; refine (rtwo_any tt w4 (by omega) (by omega)).mono ?_; rintro e w' ⟨rfl, rfl⟩)
        | (refine step_append_rw Try.underlying23 Try.info5 rfl (by decide) rfl (.tmp 28) (.tmp 37) rfl 0 (.slice ab (2 + 4 * j) cb) (2 + 4 * j) (cellsB ([tag / 256, tag % 256] ++ (skips.take j).flatMap skipB)) rfl ((RYn _).len _ hlp) (wy.heap.size + 1) 2 (cellsB [fr, flagV oo 1]) (.slice (some ⟨wy.heap.size, 0, none⟩) 2 2) rfl HLf (cellsB_one _) (by unfold maxLen; omega) (by omega) (Nat.zero_le _) ?_; intro v4 w4 o4 g4 at4; rw [← hlp] at o4; obtain ⟨R4, K4⟩ := (RYn _).app HIf o4 g4 at4; have KQ4 := And.intro ((K4.cell (p := ⟨wr.heap.size, 0, none⟩) (.inr rfl)).trans (KA _).1) (And.intro ((K4.cell (p := ⟨wr.heap.size, 1, none⟩) (.inr rfl)).trans (KA _).2.1) ((K4.cell (p := ⟨wr.heap.size, 2, none⟩) (.inr rfl)).trans (KA _).2.2)); have KQ4' := fun o => And.intro (new_at KQ4.1 o) (And.intro (new_at KQ4.2.1 o) (new_at KQ4.2.2 o)); have HLt := Rw.lit2b w4 (tt / 256) (tt % 256); obtain ⟨a4, c4, e4⟩ := own_form (R4.len _ hl4); subst e4; clear o4 g4 at4)
        | (refine step_append_rw Try.underlying23 Try.info5 rfl (by decide) rfl (.tmp 38) (.tmp 41) rfl 0 (.slice a4 (2 + 4 * j + 2) c4) (2 + 4 * j + 2) (cellsB ([tag / 256, tag % 256] ++ (skips.take j).flatMap skipB ++ [fr, flagV oo 1])) rfl ((R4.new _).len _ hl4) (w4.heap.size + 1) 2 (cellsB [tt / 256, tt % 256]) (.slice (some ⟨w4.heap.size, 0, none⟩) 2 2) rfl HLt (cellsB_one _) (by unfold maxLen; omega) (by omega) (Nat.zero_le _) ?_; intro v5 w5 o5 g5 at5; rw [← hl4] at o5; obtain ⟨R5, K5⟩ := (R4.new _).app HIt o5 g5 at5; have KQ5 := And.intro ((K5.cell (p := ⟨wr.heap.size, 0, none⟩) (.inr rfl)).trans (KQ4' _).1) (And.intro ((K5.cell (p := ⟨wr.heap.size, 1, none⟩) (.inr rfl)).trans (KQ4' _).2.1) ((K5.cell (p := ⟨wr.heap.size, 2, none⟩) (.inr rfl)).trans (KQ4' _).2.2)); clear o5 g5 at5))
      have hl5 : ([tag / 256, tag % 256] ++ (skips.take j).flatMap skipB ++ [fr, flagV oo 1] ++ [tt / 256, tt % 256]).length = 2 + 4 * (j + 1) := by rw [List.length_append, hl4]; simp; omega
      obtain ⟨a5, c5, e5⟩ := own_form (R5.len _ hl5)
      subst e5
      have R6 : RwO (fun k => k < w1.heap.size) w5 (.slice a5 (2 + 4 * (j + 1)) c5) ([tag / 256, tag % 256] ++ (skips.take (j + 1)).flatMap skipB) := by
        have := R5.mono (S' := fun k => k < w1.heap.size) fun _ hk => .inl hk
        rw [HN.out, HSB.out]
        simp only [List.append_assoc] at this ⊢
        exact this
      have K6 : Keep (fun k => k < w1.heap.size) w3 w5 := ((KY.trans (((Keep.refl _ wy).alloc (fun k hk => RY.lt k (.inl hk)) _).drew)).trans (K4.mono fun _ hk => .inl hk)).trans (((Keep.refl _ w4).alloc (fun k hk => R4.lt k (.inl hk)) _).trans (K5.mono fun _ hk => .inl hk))
      clear R4 R5 K4 K5 KQ4 KQ4' KQ5 HLt HLf RYn RY KA TC KY hl4 hl5
      go_wp2
      go_roundw
      case rel => exact ⟨j + 1, a5, c5, by omega, by go_num, rfl, R6, K6⟩
      case measure => simp [intOf]; omega
    · have hjn : j = skips.length := by omega
      subst hjn
      rw [List.take_length] at Rr hlp
      have CX6 := CX2.keep Kr hX
      clear x0
      have x0 := CX6.cell 0 _ rfl
      have hm2 : 2 ≤ maxLen := by unfold maxLen; omega
      have OW6 := World.ownsRow_lit wr #[.int .u8 3, .int .u8 (2 + 4 * (skips.length : Int))] 2 (e := 5) (size := 1) (base := wr.heap.size) (Nat.le_refl _) hm2 rfl
      have SR6 : Rw 1 (wr.alloc (.cells #[.int .u8 3, .int .u8 (2 + 4 * (skips.length : Int))] 5)).heap.size (wr.alloc (.cells #[.int .u8 3, .int .u8 (2 + 4 * (skips.length : Int))] 5)) (.slice ab (2 + 4 * skips.length) cb) (2 + 4 * skips.length) (cellsB ([tag / 256, tag % 256] ++ skips.flatMap skipB)) := Rw.own (own_len (Rr.own.alloc _) hlp) (by rw [cellsB_length, hlp, Nat.mul_one])
      clear x10
      go_wp2_with (first
        | (at_builtin; refine wpList_append_rw Try.underlying23 Try.info5 rfl (by decide) _ rfl (.tmp 107) (.tmp 108) rfl wr.heap.size (.slice (some ⟨wr.heap.size, 0, none⟩) 2 2) 2 [.int .u8 3, .int .u8 (2 + 4 * (skips.length : Int))] rfl OW6 _ (2 + 4 * skips.length) (cellsB ([tag / 256, tag % 256] ++ skips.flatMap skipB)) (.slice ab (2 + 4 * skips.length) cb) rfl SR6 (cellsB_one _) (by unfold maxLen; omega) (by omega) (by simp) ?_; intro v7 w7 o7 g7 at7; clear at7)
        | fail)
      go_ret2
      have hE := rbytes_end (x := 3) (y := 2 + 4 * (skips.length : Int)) Rr (by omega) (by omega) (by rw [hlp]; exact o7) g7
      refine ⟨_, rfl, ?_, ?_⟩
      · rw [HM.out]
        have := hE.1
        rw [show ((2 + 4 * skips.length : Nat) : Int) = 2 + 4 * (skips.length : Int) by omega]
        simpa [two16] using this
      · exact (hb1.trans ((KW3.trans Kr).below fun k hk => by omega)).trans (hE.2.mono (by have := KW3.size; have := Kr.size; omega))

theorem rbytes_any (v : Value) (c : Ck) (w : World) (hv : CkV w.heap.size w v c) (hw : wrongM c = 0) :
    Calls Try.prog 30 #[v] w fun e w' => ∃ v', e = .returned (.tuple #[v', .int .i64 0]) ∧ By w'.heap.size w' v' (bytesM c) ∧ Below w.heap.size w w' := by
  rcases wrong_kind hw with k | k | k
  · exact rbytes_data v c w hv hw k
  · exact rbytes_sack v c w hv hw k
  · exact rbytes_forward v c w hv hw k
end Go.Proofs.Ytnddejdndipddab
