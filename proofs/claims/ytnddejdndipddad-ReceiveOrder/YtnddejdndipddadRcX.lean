/- What is asked first of the statements about chapter 8: alive. -/
import Derived.Test.YtnddejdndipddadRcW
import Derived.Test.YtnddejdndipddadRcS
set_option maxRecDepth 20000
namespace Go.Proofs.Ytnddejdndipddad
open Go.RowKit

theorem hcB (wx : World) (b : Value) : (convert 38 38 (.slice (some ⟨wx.heap.size, 0, none⟩) 1 1)).run Try.prog (wx.alloc (.cells #[b] 5)) = .ok (.slice (some ⟨wx.heap.size, 0, none⟩) 1 1) (wx.alloc (.cells #[b] 5 (1, 2))) := by
  have := Lib.run_convert_bytes_const (P := Try.prog) wx 38 5 #[b] 1 1 Try.underlying38 Try.underlying5
  simpa using this
theorem StR.run {n k b : Nat} {x : Rc} (h : RunR n k b x) (hk : k ≤ 1048576) (hn : n ≤ 2147483647) : StR x := by
  obtain ⟨a1, a2, a3, a4, a5⟩ := h.st hk hn
  exact ⟨⟨a1, a2, a3⟩, a4, a5⟩

theorem rB_str : ∃ h : 1 < rB.log.length, (rB.log[1]).data = [98] := by
  have h : 1 < rB.log.length := by rw [rB_log]; decide
  refine ⟨h, ?_⟩
  have e := rB_data
  rw [List.getElem?_eq_getElem h] at e
  simpa using e
theorem tA_tag : (tellM rA).tag = 6 := by show rA.cum % 65536 = 6; rw [rA_cum]; rfl
theorem tA_spans : (tellM rA).spans.length = 1 := by
  show ((rA.spans.take 6).map _).length = 1
  rw [rA_spans]
  rfl
theorem str98 : strOfNums [98] = ⟨#[98]⟩ := by kernel_rfl

theorem run_field5 (a0 a1 a2 a3 a4 a5 a6 a7 : Int) (s p t l : Value) (wx : World) : (Instr.field 47 (.agg #[.int .i64 a0, .int .i64 a1, .int .i64 a2, .int .i64 a3, .int .i64 a4, .int .i64 a5, .int .i64 a6, .int .i64 a7, s, p, t, l]) 5).run Try.prog wx = .ok l wx := by
  kernel_rfl

set_option maxHeartbeats 4000000 in
theorem alive8_any (w : World) : Calls Try.prog 35 #[] w fun e w' => e = .returned (.bool true) ∧ Below w.heap.size w w' := by
  obtain ⟨r0, r1, r2, r3⟩ := runA
  obtain ⟨f1, f2, f3⟩ := fitA
  have OA := (r0.recv (by decide) f1 (by decide)).1
  have OB := (r1.recv (by decide) f2 (by decide)).1
  have OF := (r1.forw (c := ckF)).1
  have SA := StR.run r0 (by decide) (by decide)
  have SB := StR.run r1 (by decide) (by decide)
  have SC := StR.run r2 (by decide) (by decide)
  have DA := fun s p t l d w h hd => rdata_any _ (newM cfO) ckA s p t l d (.slice none 0 0) (.slice none 0 0) w h hd (Sl.nil' _ _) (Rw.nil 3 _ _) f1 (by decide) SA OA (by decide)
  have DB := fun s p t l d w h hd => rdata_any _ rA ckB s p t l d (.slice none 0 0) (.slice none 0 0) w h hd (Sl.nil' _ _) (Rw.nil 3 _ _) f2 (by decide) SB OB (by decide)
  have DF := fun s p t l q w h hq => rforw_any _ rA ckF s p t l (.slice none 0 0) (.slice none 0 0) q w h (By.nil _ _) (Sl.nil' _ _) hq f3 SB OF (by decide)
  have hsp : ∀ q ∈ rA.spans, I64 (q.1 - rA.cum) ∧ I64 (q.2 - rA.cum) := by rw [rA_spans, rA_cum]; intro q hq; simp at hq; subst hq; exact ⟨⟨by decide, by decide⟩, ⟨by decide, by decide⟩⟩
  have DS := fun s p t l w h => sack_any rA s p t l w h SB.sz.fit hsp
  have DH := fun s p t l w h => held_any rA s p t l w h SB.sz.fit
  have DO := fun s p t l (w : World) (h : RvS w.heap.size w rB s p t l) => rown_any rB s p t l _ w (RvI.of h (Nat.le_refl _)) (fun _ hk => hk) SC.sz
  change ∀ (s p t l d : Value) (w : World), _ → _ → Calls _ _ _ _ fun e w' => ∃ s' p' t' l', e = .returned (.agg #[.int .i64 rA.cf.streams, .int .i64 rA.cf.part, .int .i64 rA.cf.packet, .int .i64 rA.cf.paths, .int .i64 rA.cf.turns, .int .i64 rA.cf.waiting, .int .i64 rA.cf.first, .int .i64 rA.cum, s', p', t', l']) ∧ RvS w'.heap.size w' rA s' p' t' l' ∧ Below w.heap.size w w' at DA
  change ∀ (s p t l d : Value) (w : World), _ → _ → Calls _ _ _ _ fun e w' => ∃ s' p' t' l', e = .returned (.agg #[.int .i64 rB.cf.streams, .int .i64 rB.cf.part, .int .i64 rB.cf.packet, .int .i64 rB.cf.paths, .int .i64 rB.cf.turns, .int .i64 rB.cf.waiting, .int .i64 rB.cf.first, .int .i64 rB.cum, s', p', t', l']) ∧ RvS w'.heap.size w' rB s' p' t' l' ∧ Below w.heap.size w w' at DB
  change ∀ (s p t l q : Value) (w : World), _ → _ → Calls _ _ _ _ fun e w' => ∃ s' p' t' l', e = .returned (.agg #[.int .i64 rF.cf.streams, .int .i64 rF.cf.part, .int .i64 rF.cf.packet, .int .i64 rF.cf.paths, .int .i64 rF.cf.turns, .int .i64 rF.cf.waiting, .int .i64 rF.cf.first, .int .i64 rF.cum, s', p', t', l']) ∧ RvS w'.heap.size w' rF s' p' t' l' ∧ Below w.heap.size w w' at DF
  have q1 : ((rA.log.length : Int) == 0) = true := by rw [rA_log]; rfl
  have q2 : ((rB.log.length : Int) == 2) = true := by rw [rB_log]; rfl
  have q3 : (rB.cum == 8) = true := by rw [rB_cum]; rfl
  have q4 : ((rF.log.length : Int) == 1) = true := by rw [rF_log]; rfl
  have q5 : (((heldM rA.pieces : Nat) : Int) == 1) = true := by rw [rA_held]; rfl
  have q6 : ((tellM rA).tag == 6) = true := by rw [tA_tag]; rfl
  have q7 : (((tellM rA).spans.length : Int) == 1) = true := by rw [tA_spans]; rfl
  obtain ⟨q8, q9⟩ := rB_str
  clear r0 r1 r2 r3 OA OB OF SA SB SC f1 f2 f3 hsp
  generalize rA = ra at *
  generalize rB = rb at *
  generalize rF = rf at *
  generalize tellM ra = ta at *
  go_enter Try.func35, Try.ntmps35
  go_wp2_with fail
  refine (config_any w).mono ?_
  rintro e w1 ⟨rfl, b1⟩
  go_wp2_with fail
  refine (rnew_any cfO 2 w1 rfl (by decide) (by decide) (by decide)).mono ?_
  rintro e w2 ⟨s0, p0, t0, l0, rfl, h0, b2⟩
  obtain ⟨xsa, xsc, xpa, xpc, xta, xtc, xla, xlc, rfl, rfl, rfl, rfl⟩ := h0.ex
  have HC := hcB w2 (.int .u8 98)
  have B2 : Below w.heap.size w w2 := b1.trans (b2.mono b1.size)
  have BK : Below w2.heap.size w2 (w2.alloc (.cells #[.int .u8 98] 5 (1, 2))) := box_below w2 _
  have BY := By.lit w2 w2.heap.size #[.int .u8 98] [98] (1, 2) rfl rfl (IsB.small rfl) (by simp)
  have CALL := DA _ _ _ _ _ _ (h0.size BK (Nat.le_refl _)) BY
  have BW2 : Below w.heap.size w (w2.alloc (.cells #[.int .u8 98] 5 (1, 2))) := B2.trans (BK.mono B2.size)
  clear BK BY h0 DA
  go_wp2_with (go_at_call 28; refine CALL.mono ?_)
  rintro e w3 ⟨_, _, _, _, rfl, h1, b3⟩
  obtain ⟨asa, asc, apa, apc, ata, atc, ala, alc, rfl, rfl, rfl, rfl⟩ := h1.ex
  have B3 : Below w.heap.size w w3 := BW2.trans (b3.mono BW2.size)
  have AC := Cells.new w3 #[.int .i64 ra.cf.streams, .int .i64 ra.cf.part, .int .i64 ra.cf.packet, .int .i64 ra.cf.paths, .int .i64 ra.cf.turns, .int .i64 ra.cf.waiting, .int .i64 ra.cf.first, .int .i64 ra.cum, .slice asa ra.spans.length asc, .slice apa ra.pieces.length apc, .slice ata ra.turn.length atc, .slice ala ra.log.length alc] 47
  have AB : Below w3.heap.size w3 (w3.alloc (.cells #[.int .i64 ra.cf.streams, .int .i64 ra.cf.part, .int .i64 ra.cf.packet, .int .i64 ra.cf.paths, .int .i64 ra.cf.turns, .int .i64 ra.cf.waiting, .int .i64 ra.cf.first, .int .i64 ra.cum, .slice asa ra.spans.length asc, .slice apa ra.pieces.length apc, .slice ata ra.turn.length atc, .slice ala ra.log.length alc] 47)) := box_below w3 _
  have asz : w3.heap.size < (w3.alloc (.cells #[.int .i64 ra.cf.streams, .int .i64 ra.cf.part, .int .i64 ra.cf.packet, .int .i64 ra.cf.paths, .int .i64 ra.cf.turns, .int .i64 ra.cf.waiting, .int .i64 ra.cf.first, .int .i64 ra.cum, .slice asa ra.spans.length asc, .slice apa ra.pieces.length apc, .slice ata ra.turn.length atc, .slice ala ra.log.length alc] 47)).heap.size := by simp
  clear HC CALL BW2 B2 b1 b2 b3
  dsimp only
  rename_i KK aKK
  refine aKK _ _ ?_
  clear aKK KK
  go_upto_region 2 with (refine wpList_stN 47 12 Try.sizeRv rfl (.tmp 1) (.tmp 10) rfl w3 _ rfl rfl rfl [.int .i64 ra.cf.streams, .int .i64 ra.cf.part, .int .i64 ra.cf.packet, .int .i64 ra.cf.paths, .int .i64 ra.cf.turns, .int .i64 ra.cf.waiting, .int .i64 ra.cf.first, .int .i64 ra.cum, .slice asa ra.spans.length asc, .slice apa ra.pieces.length apc, .slice ata ra.turn.length atc, .slice ala ra.log.length alc] rfl rfl rfl ?_)
  generalize w3.alloc (.cells #[.int .i64 ra.cf.streams, .int .i64 ra.cf.part, .int .i64 ra.cf.packet, .int .i64 ra.cf.paths, .int .i64 ra.cf.turns, .int .i64 ra.cf.waiting, .int .i64 ra.cf.first, .int .i64 ra.cum, .slice asa ra.spans.length asc, .slice apa ra.pieces.length apc, .slice ata ra.turn.length atc, .slice ala ra.log.length alc] 47) = w4 at *
  have B4 : Below w.heap.size w w4 := B3.trans (AB.mono B3.size)
  have HA : Hid _ := AC
  have h4 := h1.below AB (Nat.le_refl _)
  have HC := hcB w4 (.int .u8 97)
  have BK : Below w4.heap.size w4 (w4.alloc (.cells #[.int .u8 97] 5 (1, 2))) := box_below w4 _
  have BY := By.lit w4 w4.heap.size #[.int .u8 97] [97] (1, 2) rfl rfl (IsB.small rfl) (by simp)
  have CALL := DB _ _ _ _ _ _ ((h4.below BK (by omega)).mono (by have := BK.size; omega)) BY
  have BW := B4.trans (BK.mono B4.size)
  have hs4 : w4.heap.size ≤ (w4.alloc (.cells #[.int .u8 97] 5 (1, 2))).heap.size := BK.size
  have RNG := AC.range
  clear AC BY DB AB h1 B3
  go_upto_region 3 with (first | refine wpList_ldR rfl (.tmp 1) rfl w3.heap.size 0 rfl ra _ _ _ _ (by with_reducible exact RNG) ?_ | (go_at_call 28; refine CALL.mono ?_; rintro e w5 ⟨_, _, _, _, rfl, h2, b5⟩; obtain ⟨bsa, bsc, bpa, bpc, bta, btc, bla, blc, rfl, rfl, rfl, rfl⟩ := h2.ex) | refine wpList_stN 47 12 Try.sizeRv rfl (.tmp 2) (.tmp 15) rfl w5 _ rfl rfl rfl [.int .i64 rb.cf.streams, .int .i64 rb.cf.part, .int .i64 rb.cf.packet, .int .i64 rb.cf.paths, .int .i64 rb.cf.turns, .int .i64 rb.cf.waiting, .int .i64 rb.cf.first, .int .i64 rb.cum, .slice bsa rb.spans.length bsc, .slice bpa rb.pieces.length bpc, .slice bta rb.turn.length btc, .slice bla rb.log.length blc] rfl rfl rfl ?_)
  have B5 : Below w4.heap.size w4 w5 := BK.trans (b5.mono hs4)
  have BC := Cells.new w5 #[.int .i64 rb.cf.streams, .int .i64 rb.cf.part, .int .i64 rb.cf.packet, .int .i64 rb.cf.paths, .int .i64 rb.cf.turns, .int .i64 rb.cf.waiting, .int .i64 rb.cf.first, .int .i64 rb.cum, .slice bsa rb.spans.length bsc, .slice bpa rb.pieces.length bpc, .slice bta rb.turn.length btc, .slice bla rb.log.length blc] 47
  have BB : Below w5.heap.size w5 (w5.alloc (.cells #[.int .i64 rb.cf.streams, .int .i64 rb.cf.part, .int .i64 rb.cf.packet, .int .i64 rb.cf.paths, .int .i64 rb.cf.turns, .int .i64 rb.cf.waiting, .int .i64 rb.cf.first, .int .i64 rb.cum, .slice bsa rb.spans.length bsc, .slice bpa rb.pieces.length bpc, .slice bta rb.turn.length btc, .slice bla rb.log.length blc] 47)) := box_below w5 _
  have bsz : w5.heap.size < (w5.alloc (.cells #[.int .i64 rb.cf.streams, .int .i64 rb.cf.part, .int .i64 rb.cf.packet, .int .i64 rb.cf.paths, .int .i64 rb.cf.turns, .int .i64 rb.cf.waiting, .int .i64 rb.cf.first, .int .i64 rb.cum, .slice bsa rb.spans.length bsc, .slice bpa rb.pieces.length bpc, .slice bta rb.turn.length btc, .slice bla rb.log.length blc] 47)).heap.size := by simp
  generalize w5.alloc (.cells #[.int .i64 rb.cf.streams, .int .i64 rb.cf.part, .int .i64 rb.cf.packet, .int .i64 rb.cf.paths, .int .i64 rb.cf.turns, .int .i64 rb.cf.waiting, .int .i64 rb.cf.first, .int .i64 rb.cum, .slice bsa rb.spans.length bsc, .slice bpa rb.pieces.length bpc, .slice bta rb.turn.length btc, .slice bla rb.log.length blc] 47) = w6 at *
  have s45 := B5.size
  have BW6 : Below w.heap.size w w6 := (B4.trans (B5.mono B4.size)).trans (BB.mono (by have := B4.size; omega))
  have B46 : Below w4.heap.size w4 w6 := B5.trans (BB.mono s45)
  have HA6 : Hid _ := HA.out.below B46 (by omega)
  have h6 := h4.below B46 (by omega)
  have s46 := B46.size
  have h26 := h2.below BB (Nat.le_refl _)
  have HB6 : Hid _ := BC
  clear BC BB h2 h4 HA BK b5 CALL HC BW RNG hs4 B5 B46 B4
  have BK : Below w6.heap.size w6 (w6.alloc (.cells #[.int .i64 0, .int .i64 0, .bool true] 98)) := box_below w6 _
  have KQ : Kl (w6.heap.size + 1) (w6.alloc (.cells #[.int .i64 0, .int .i64 0, .bool true] 98)) (.slice (some ⟨w6.heap.size, 0, none⟩) 1 1) ckF.skips := Rw.oneN w6 [.int .i64 0, .int .i64 0, .bool true] 98 3 rfl
  have hs6 : w6.heap.size + 1 = (w6.alloc (.cells #[.int .i64 0, .int .i64 0, .bool true] 98)).heap.size := by simp
  have CALL := DF _ _ _ _ _ _ ((h6.below BK (by omega)).mono (by omega)) (Rw.mono KQ (Nat.le_of_eq hs6))
  have RNG := HA6.out.range
  have BKs := BK.size
  clear KQ hs6 DF
  go_upto_region 4 with (first | refine wpList_ldR rfl (.tmp 1) rfl w3.heap.size 0 rfl ra _ _ _ _ (by with_reducible exact RNG) ?_ | (go_at_call 30; refine CALL.mono ?_; rintro e w7 ⟨_, _, _, _, rfl, h3, b7⟩; obtain ⟨fsa, fsc, fpa, fpc, fta, ftc, fla, flc, rfl, rfl, rfl, rfl⟩ := h3.ex) | refine wpList_stN 47 12 Try.sizeRv rfl (.tmp 3) (.tmp 20) rfl w7 _ rfl rfl rfl [.int .i64 rf.cf.streams, .int .i64 rf.cf.part, .int .i64 rf.cf.packet, .int .i64 rf.cf.paths, .int .i64 rf.cf.turns, .int .i64 rf.cf.waiting, .int .i64 rf.cf.first, .int .i64 rf.cum, .slice fsa rf.spans.length fsc, .slice fpa rf.pieces.length fpc, .slice fta rf.turn.length ftc, .slice fla rf.log.length flc] rfl rfl rfl ?_)
  have B7 : Below w6.heap.size w6 w7 := BK.trans (b7.mono BKs)
  have FC := Cells.new w7 #[.int .i64 rf.cf.streams, .int .i64 rf.cf.part, .int .i64 rf.cf.packet, .int .i64 rf.cf.paths, .int .i64 rf.cf.turns, .int .i64 rf.cf.waiting, .int .i64 rf.cf.first, .int .i64 rf.cum, .slice fsa rf.spans.length fsc, .slice fpa rf.pieces.length fpc, .slice fta rf.turn.length ftc, .slice fla rf.log.length flc] 47
  have FB : Below w7.heap.size w7 (w7.alloc (.cells #[.int .i64 rf.cf.streams, .int .i64 rf.cf.part, .int .i64 rf.cf.packet, .int .i64 rf.cf.paths, .int .i64 rf.cf.turns, .int .i64 rf.cf.waiting, .int .i64 rf.cf.first, .int .i64 rf.cum, .slice fsa rf.spans.length fsc, .slice fpa rf.pieces.length fpc, .slice fta rf.turn.length ftc, .slice fla rf.log.length flc] 47)) := box_below w7 _
  have fsz : w7.heap.size < (w7.alloc (.cells #[.int .i64 rf.cf.streams, .int .i64 rf.cf.part, .int .i64 rf.cf.packet, .int .i64 rf.cf.paths, .int .i64 rf.cf.turns, .int .i64 rf.cf.waiting, .int .i64 rf.cf.first, .int .i64 rf.cum, .slice fsa rf.spans.length fsc, .slice fpa rf.pieces.length fpc, .slice fta rf.turn.length ftc, .slice fla rf.log.length flc] 47)).heap.size := by simp
  generalize w7.alloc (.cells #[.int .i64 rf.cf.streams, .int .i64 rf.cf.part, .int .i64 rf.cf.packet, .int .i64 rf.cf.paths, .int .i64 rf.cf.turns, .int .i64 rf.cf.waiting, .int .i64 rf.cf.first, .int .i64 rf.cum, .slice fsa rf.spans.length fsc, .slice fpa rf.pieces.length fpc, .slice fta rf.turn.length ftc, .slice fla rf.log.length flc] 47) = w8 at *
  have s67 := B7.size
  have BW8 : Below w.heap.size w w8 := (BW6.trans (B7.mono BW6.size)).trans (FB.mono (by have := BW6.size; omega))
  have B68 : Below w6.heap.size w6 w8 := B7.trans (FB.mono s67)
  have HA8 : Hid _ := HA6.out.below B68 (by omega)
  have HB8 : Hid _ := HB6.out.below B68 (by omega)
  have HF8 : Hid _ := FC
  have s68 := B68.size
  have h8 := h6.below B68 (by omega)
  have h28 := h26.below B68 (by omega)
  clear FC FB h3 h6 h26 HA6 HB6 BK b7 CALL BW6 RNG BKs B7 B68
  have CALL := DS _ _ _ _ _ (h8.mono (by omega))
  have RNG := HA8.out.range
  go_upto_region 5 with (first | refine wpList_ldR rfl (.tmp 1) rfl w3.heap.size 0 rfl ra _ _ _ _ (by with_reducible exact RNG) ?_ | (go_at_call 33; refine CALL.mono ?_; rintro e w9 ⟨vs9, rfl, h9, b9⟩; obtain ⟨tsa, tsc, rfl⟩ := h9.ex; simp only [ckVal]) | refine wpList_stN 42 11 Try.sizeCk rfl (.tmp 4) (.tmp 22) rfl w9 _ rfl rfl rfl [.int .i64 ta.kind, .int .i64 ta.tag, .int .i64 ta.stream, .int .i64 ta.mid, .int .i64 ta.part, .bool ta.last, .bool ta.ordered, .slice none 0 0, .slice tsa ta.spans.length tsc, .int .i64 ta.room, .slice none 0 0] rfl rfl rfl ?_)
  have TC := Cells.new w9 #[.int .i64 ta.kind, .int .i64 ta.tag, .int .i64 ta.stream, .int .i64 ta.mid, .int .i64 ta.part, .bool ta.last, .bool ta.ordered, .slice none 0 0, .slice tsa ta.spans.length tsc, .int .i64 ta.room, .slice none 0 0] 42
  have TB : Below w9.heap.size w9 (w9.alloc (.cells #[.int .i64 ta.kind, .int .i64 ta.tag, .int .i64 ta.stream, .int .i64 ta.mid, .int .i64 ta.part, .bool ta.last, .bool ta.ordered, .slice none 0 0, .slice tsa ta.spans.length tsc, .int .i64 ta.room, .slice none 0 0] 42)) := box_below w9 _
  have tsz : w9.heap.size < (w9.alloc (.cells #[.int .i64 ta.kind, .int .i64 ta.tag, .int .i64 ta.stream, .int .i64 ta.mid, .int .i64 ta.part, .bool ta.last, .bool ta.ordered, .slice none 0 0, .slice tsa ta.spans.length tsc, .int .i64 ta.room, .slice none 0 0] 42)).heap.size := by simp
  generalize w9.alloc (.cells #[.int .i64 ta.kind, .int .i64 ta.tag, .int .i64 ta.stream, .int .i64 ta.mid, .int .i64 ta.part, .bool ta.last, .bool ta.ordered, .slice none 0 0, .slice tsa ta.spans.length tsc, .int .i64 ta.room, .slice none 0 0] 42) = w10 at *
  have s89 := b9.size
  have BWA : Below w.heap.size w w10 := (BW8.trans (b9.mono BW8.size)).trans (TB.mono (by have := BW8.size; omega))
  have B8A : Below w8.heap.size w8 w10 := b9.trans (TB.mono s89)
  have HA : Hid _ := HA8.out.below B8A (by omega)
  have HB : Hid _ := HB8.out.below B8A (by omega)
  have HF : Hid _ := HF8.out.below B8A (by omega)
  have HT : Hid _ := TC
  have s8A := B8A.size
  have hA := h8.below B8A (by omega)
  have hB := h28.below B8A (by omega)
  clear TC TB h9 h8 h28 HA8 HB8 HF8 b9 CALL BW8 RNG B8A
  have a5 := HA.out.cell 11 _ rfl
  have a7 := HB.out.cell 11 _ rfl
  have a8 := HB.out.cell 7 _ rfl
  have a9 := HF.out.cell 11 _ rfl
  have a10 := HT.out.cell 1 _ rfl
  have a11 := HT.out.cell 8 _ rfl
  obtain ⟨b, off, d, hbb, hix, hd, c0, c1, c2, c3⟩ := AvS.at hB.l 1 q8
  have hix1 : ∀ wx, (Instr.indexAt 45 (.slice bla rb.log.length blc) (.int .i64 1)).run Try.prog wx = .ok (.pointer (some ⟨b, off, none⟩)) wx := hix
  rw [q9] at hd
  have T1 := hd.str
  rw [str98] at T1
  obtain ⟨dda, ddc, rfl, -, -⟩ := hd.ex
  rw [show ([98] : List Int).length = 1 from rfl] at T1 c3
  have CALL := DH _ _ _ _ w10 (hA.mono (by omega))
  have g0 := HA.out.cell 0 _ rfl
  have g1 := HA.out.cell 1 _ rfl
  have g2 := HA.out.cell 2 _ rfl
  have g3 := HA.out.cell 3 _ rfl
  have g4 := HA.out.cell 4 _ rfl
  have g5 := HA.out.cell 5 _ rfl
  have g6 := HA.out.cell 6 _ rfl
  have g7 := HA.out.cell 7 _ rfl
  have g8 := HA.out.cell 8 _ rfl
  have g9 := HA.out.cell 9 _ rfl
  have g10 := HA.out.cell 10 _ rfl
  go_wp2_with (first | (go_at_call 26; refine CALL.mono ?_; rintro e wH ⟨rfl, bH⟩; have HTH := HT.out.below bH (by omega); have HBH := HB.out.below bH (by omega); have i1 := HTH.cell 1 _ rfl; have i8 := HTH.cell 8 _ rfl; have k0 := HBH.cell 0 _ rfl; have k1 := HBH.cell 1 _ rfl; have k2 := HBH.cell 2 _ rfl; have k3 := HBH.cell 3 _ rfl; have k4 := HBH.cell 4 _ rfl; have k5 := HBH.cell 5 _ rfl; have k6 := HBH.cell 6 _ rfl; have k7 := HBH.cell 7 _ rfl; have k8 := HBH.cell 8 _ rfl; have k9 := HBH.cell 9 _ rfl; have k10 := HBH.cell 10 _ rfl; have k11 := HBH.cell 11 _ rfl; have sH := bH.size; have CALL2 := DO _ _ _ _ wH ((hB.below bH (by omega)).mono (by omega))) | (go_at_call 25; refine CALL2.mono ?_; rintro e wO ⟨s', p', t', l', rfl, hO, bO⟩; obtain ⟨o1, o2, o3, o4, o5, o6, l1, l2, rfl, rfl, rfl, rfl⟩ := hO.form; have FE := fun wx => run_field5 rb.cf.streams rb.cf.part rb.cf.packet rb.cf.paths rb.cf.turns rb.cf.waiting rb.cf.first rb.cum (.slice o1 rb.spans.length o2) (.slice o3 rb.pieces.length o4) (.slice o5 rb.turn.length o6) (.slice l1 rb.log.length l2) wx))
  go_ret
  exact ⟨rfl, (BWA.trans (bH.mono BWA.size)).trans (bO.mono (by have := BWA.size; omega))⟩
end Go.Proofs.Ytnddejdndipddad
