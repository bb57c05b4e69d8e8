/- The document's receivers: Held, apart. -/
import Derived.Test.YtnddejdndipddadRcY
import Derived.Test.YtnddejdndipddadPaY
set_option maxRecDepth 20000
namespace Go.Proofs.Ytnddejdndipddad
open Go.RowKit

set_option maxHeartbeats 1000000 in
theorem rheld_any (x : Rc) (s p t l : Value) (w : World) (h : RvS w.heap.size w x s p t l) (hf : FitR x) : Calls Try.prog 27 #[.agg #[.int .i64 x.cf.streams, .int .i64 x.cf.part, .int .i64 x.cf.packet, .int .i64 x.cf.paths, .int .i64 x.cf.turns, .int .i64 x.cf.waiting, .int .i64 x.cf.first, .int .i64 x.cum, s, p, t, l]] w fun e w' => e = .returned (.int .i64 (heldM x.pieces : Nat)) ∧ Below w.heap.size w w' := by
  have H := h
  have hh := hf.held
  obtain ⟨sa, sc, pa, pc, ta, tc, la, lc, rfl, rfl, rfl, rfl⟩ := h.ex
  have B0 := box_below w (.cells #[.int .i64 x.cf.streams, .int .i64 x.cf.part, .int .i64 x.cf.packet, .int .i64 x.cf.paths, .int .i64 x.cf.turns, .int .i64 x.cf.waiting, .int .i64 x.cf.first, .int .i64 x.cum, .slice sa x.spans.length sc, .slice pa x.pieces.length pc, .slice ta x.turn.length tc, .slice la x.log.length lc] 47)
  have H0 := H.below B0 (Nat.le_refl _)
  have hpn := hf.n
  have hs0 : w.heap.size ≤ (w.alloc (.cells #[.int .i64 x.cf.streams, .int .i64 x.cf.part, .int .i64 x.cf.packet, .int .i64 x.cf.paths, .int .i64 x.cf.turns, .int .i64 x.cf.waiting, .int .i64 x.cf.first, .int .i64 x.cum, .slice sa x.spans.length sc, .slice pa x.pieces.length pc, .slice ta x.turn.length tc, .slice la x.log.length lc] 47)).heap.size := by simp
  clear h H hf
  go_enter Try.func27, Try.ntmps27
  go_wp2_with fail
  generalize w.alloc (.cells #[.int .i64 x.cf.streams, .int .i64 x.cf.part, .int .i64 x.cf.packet, .int .i64 x.cf.paths, .int .i64 x.cf.turns, .int .i64 x.cf.waiting, .int .i64 x.cf.first, .int .i64 x.cum, .slice sa x.spans.length sc, .slice pa x.pieces.length pc, .slice ta x.turn.length tc, .slice la x.log.length lc] 47) = w0 at *
  go_loopw [3, 9] (fun s3 j wr => ∃ k : Nat, k ≤ x.pieces.length ∧ j = .int .i64 k ∧ s3 = .int .i64 (heldM (x.pieces.take k) : Nat) ∧ Below w0.heap.size w0 wr) (fun _ j _ => x.pieces.length - (intOf j).toNat)
  case atStart => exact ⟨0, Nat.zero_le _, rfl, rfl, Below.refl _ _⟩
  case round =>
    obtain ⟨k, hk, rfl, rfl, BR⟩ := hrel
    have szr := BR.size
    by_cases hlt : k < x.pieces.length
    · obtain ⟨b, off, da, dc, sa', sc', qa, qc, hb, hixp, -, -, -, hat⟩ := PcS.range (H0.below BR (by omega)).p k hlt
      have HS : Hid (heldM (x.pieces.take (k + 1)) = heldM (x.pieces.take k) + x.pieces[k].ck.data.length) := held_snoc x.pieces k hlt
      have h1 := held_take x.pieces (k + 1)
      rw [HS.out] at h1
      generalize x.pieces[k] = y at *
      generalize heldM (x.pieces.take k) = hk' at *
      have AX := Cells.new wr #[.int .i64 y.number, .int .i64 y.ck.kind, .int .i64 y.ck.tag, .int .i64 y.ck.stream, .int .i64 y.ck.mid, .int .i64 y.ck.part, .bool y.ck.last, .bool y.ck.ordered, .slice da y.ck.data.length dc, .slice sa' y.ck.spans.length sc', .int .i64 y.ck.room, .slice qa y.ck.skips.length qc] 71
      have bX := box_below wr (.cells #[.int .i64 y.number, .int .i64 y.ck.kind, .int .i64 y.ck.tag, .int .i64 y.ck.stream, .int .i64 y.ck.mid, .int .i64 y.ck.part, .bool y.ck.last, .bool y.ck.ordered, .slice da y.ck.data.length dc, .slice sa' y.ck.spans.length sc', .int .i64 y.ck.room, .slice qa y.ck.skips.length qc] 71)
      have x8 := AX.cell 8 _ rfl
      have BW : Below w0.heap.size w0 (wr.alloc (.cells #[.int .i64 y.number, .int .i64 y.ck.kind, .int .i64 y.ck.tag, .int .i64 y.ck.stream, .int .i64 y.ck.mid, .int .i64 y.ck.part, .bool y.ck.last, .bool y.ck.ordered, .slice da y.ck.data.length dc, .slice sa' y.ck.spans.length sc', .int .i64 y.ck.room, .slice qa y.ck.skips.length qc] 71)) := BR.trans (bX.mono szr)
      go_wp2_with (first
        | refine wpList_ldP rfl (.tmp 11) rfl b off rfl y _ _ _ (by with_reducible exact hat) ?_
        | refine wpList_stN 71 12 Try.sizePc rfl (.tmp 5) (.tmp 12) rfl wr _ rfl rfl rfl [.int .i64 y.number, .int .i64 y.ck.kind, .int .i64 y.ck.tag, .int .i64 y.ck.stream, .int .i64 y.ck.mid, .int .i64 y.ck.part, .bool y.ck.last, .bool y.ck.ordered, .slice da y.ck.data.length dc, .slice sa' y.ck.spans.length sc', .int .i64 y.ck.room, .slice qa y.ck.skips.length qc] rfl rfl rfl ?_)
      go_roundw
      case rel => exact ⟨k + 1, by omega, by go_num, by rw [HS.out]; go_num, BW⟩
      case measure => simp [intOf]; omega
    · have hkl : k = x.pieces.length := by omega
      subst hkl
      rw [List.take_length]
      go_wp2_with fail
      go_ret
      exact ⟨rfl, B0.trans (BR.mono hs0)⟩


/-- Pieces as they are read, whose lists lie in blocks of V, all of them ahead of B. -/
def PcB (V : Nat → Prop) (B : Nat) (w : World) (v : Value) (p : Pc) : Prop := PcI V w v p ∧ ∀ k, V k → k < B
theorem PcB.bears (V : Nat → Prop) : Bears 12 (PcB V) where
  cells := by rintro B w v x ⟨h, -⟩; exact PcI.holds.cells h
  below := by rintro B B' w w' v x ⟨h, hv⟩ hb hB; exact ⟨PcI.holds.keep h (toKeep hb fun k hk => Nat.lt_of_lt_of_le (hv k hk) hB), fun k hk => hv k hk⟩
  mono := by rintro B B' w v x ⟨h, hv⟩ hB; exact ⟨h, fun k hk => Nat.lt_of_lt_of_le (hv k hk) hB⟩
abbrev PcsV (V : Nat → Prop) (B : Nat) (w : World) (v : Value) (l : List Pc) : Prop := SlG 12 (PcB V) B w v l
theorem PcsV.at {V : Nat → Prop} {B : Nat} {w : World} {a : Option Addr} {n cap : Nat} {l : List Pc} (h : PcsV V B w (.slice a n cap) l) (k : Nat) (hk : k < l.length) :
    ∃ b off da dc sa sc qa qc, b < B ∧ (∀ wx, (Instr.indexAt 44 (.slice a n cap) (.int .i64 (k : Int))).run Try.prog wx = .ok (.pointer (some ⟨b, off, none⟩)) wx) ∧ SnL V w l[k].ck (.slice da l[k].ck.data.length dc) (.slice sa l[k].ck.spans.length sc) (.slice qa l[k].ck.skips.length qc) ∧
      w.rangeAt b off (pcVal l[k] (.slice da l[k].ck.data.length dc) (.slice sa l[k].ck.spans.length sc) (.slice qa l[k].ck.skips.length qc)).cells.toList := by
  obtain ⟨b, off, v, hb, rfl, rfl, ⟨⟨d, s, q, rfl, hl⟩, -⟩, e⟩ := SlG.at (PcB.bears V) h k hk
  obtain ⟨da, dc, sa, sc, qa, qc, rfl, rfl, rfl⟩ := hl.ex
  refine ⟨b, off + k * 12, da, dc, sa, sc, qa, qc, hb, fun wx => ?_, hl, fun j u hu => ?_⟩
  · have : (k : Int) < l.length := by omega
    go_simp
  · have hj : j < 12 := by have := (List.getElem?_eq_some_iff.1 hu).1; simpa [pcVal, Value.cells] using this
    exact e j u hj hu
theorem RvI.pcs {V : Nat → Prop} {w : World} {x : Rc} {s p t l : Value} (h : RvI V w x s p t l) (hv : ∀ k, V k → k < w.heap.size) : PcsV V w.heap.size w p x.pieces := by
  obtain ⟨vs, a1, a2⟩ := h.p
  exact ⟨vs, a1.imp fun _ _ h => ⟨h, hv⟩, a2⟩
theorem rest_snoc (m : Ms) (l : List Pc) (k : Nat) (h : k < l.length) : restM m (l.take (k + 1)) = restM m (l.take k) ++ (if isM m l[k] = true then [] else [l[k]]) := restM_snoc m l k h

set_option maxHeartbeats 4000000 in
/-- Pieces of a message, and all others. -/
theorem apart_any' (V : Nat → Prop) (v : Value) (l : List Pc) (c : Ck) (da sa qa : Option Addr) (dn dc sn sc qn qc : Nat) (w : World) (hp : PcsV V w.heap.size w v l) (hv : ∀ k, V k → k < w.heap.size) (hn : l.length ≤ 1048576) :
    Calls Try.prog 69 #[v, .agg #[.int .i64 c.kind, .int .i64 c.tag, .int .i64 c.stream, .int .i64 c.mid, .int .i64 c.part, .bool c.last, .bool c.ordered, .slice da dn dc, .slice sa sn sc, .int .i64 c.room, .slice qa qn qc]] w fun e w' => ∃ a1 c1 a2 c2, e = .returned (.tuple #[.slice a1 (mineM ⟨c.stream, c.mid, c.ordered⟩ l).length c1, .slice a2 (restM ⟨c.stream, c.mid, c.ordered⟩ l).length c2]) ∧ PcRow V w.heap.size w' (.slice a1 (mineM ⟨c.stream, c.mid, c.ordered⟩ l).length c1) (mineM ⟨c.stream, c.mid, c.ordered⟩ l) ∧ PcRow V w.heap.size w' (.slice a2 (restM ⟨c.stream, c.mid, c.ordered⟩ l).length c2) (restM ⟨c.stream, c.mid, c.ordered⟩ l) ∧ Below w.heap.size w w' := by
  obtain ⟨a, cap, rfl, -, -⟩ := hp.ex
  have HP : Hid _ := hp
  have B0 := box_below w (.cells #[.int .i64 c.kind, .int .i64 c.tag, .int .i64 c.stream, .int .i64 c.mid, .int .i64 c.part, .bool c.last, .bool c.ordered, .slice da dn dc, .slice sa sn sc, .int .i64 c.room, .slice qa qn qc] 42)
  have CC := Cells.new w #[.int .i64 c.kind, .int .i64 c.tag, .int .i64 c.stream, .int .i64 c.mid, .int .i64 c.part, .bool c.last, .bool c.ordered, .slice da dn dc, .slice sa sn sc, .int .i64 c.room, .slice qa qn qc] 42
  have hz0 : w.heap.size < (w.alloc (.cells #[.int .i64 c.kind, .int .i64 c.tag, .int .i64 c.stream, .int .i64 c.mid, .int .i64 c.part, .bool c.last, .bool c.ordered, .slice da dn dc, .slice sa sn sc, .int .i64 c.room, .slice qa qn qc] 42)).heap.size := by simp
  clear hp
  obtain ⟨m, hm⟩ : ∃ m : Ms, m = ⟨c.stream, c.mid, c.ordered⟩ := ⟨_, rfl⟩
  have HM : Hid (m = ⟨c.stream, c.mid, c.ordered⟩) := hm
  rw [← hm]
  clear hm
  go_enter Try.func69, Try.ntmps69
  go_wp2_with fail
  generalize w.alloc (.cells #[.int .i64 c.kind, .int .i64 c.tag, .int .i64 c.stream, .int .i64 c.mid, .int .i64 c.part, .bool c.last, .bool c.ordered, .slice da dn dc, .slice sa sn sc, .int .i64 c.room, .slice qa qn qc] 42) = w0 at *
  have HC0 : Hid _ := CC
  clear CC
  go_loopw [6, 7, 12] (fun s6 s7 i wr => ∃ (k : Nat) (a1 : Option Addr) (c1 : Nat) (a2 : Option Addr) (c2 : Nat), k ≤ l.length ∧ i = .int .i64 k ∧ s6 = .slice a1 (mineM m (l.take k)).length c1 ∧ s7 = .slice a2 (restM m (l.take k)).length c2 ∧ Hid (PcRow V w0.heap.size wr (.slice a1 (mineM m (l.take k)).length c1) (mineM m (l.take k))) ∧ Hid (PcRow V w0.heap.size wr (.slice a2 (restM m (l.take k)).length c2) (restM m (l.take k))) ∧ Hid (∀ j, (Value.slice a1 (mineM m (l.take k)).length c1).ownBlock = some j → (Value.slice a2 (restM m (l.take k)).length c2).ownBlock ≠ some j) ∧ Below w0.heap.size w0 wr) (fun _ _ i _ => l.length - (intOf i).toNat)
  case atStart => exact ⟨0, none, 0, none, 0, Nat.zero_le _, rfl, rfl, rfl, GRow.nil, GRow.nil, fun j h => by simp [Value.ownBlock] at h, Below.refl _ _⟩
  case round =>
    obtain ⟨k, a1, c1, a2, c2, hk, rfl, rfl, rfl, R1, R2, HNE, BR⟩ := hrel
    have szr := BR.size
    by_cases hlt : k < l.length
    · obtain ⟨b, off, pda, pdc, psa, psc, pqa, pqc, hbb, hix, hl, hrng⟩ := PcsV.at (SlG.below (PcB.bears V) HP.out (B0.trans (BR.mono (by omega))) (Nat.le_refl _)) k hlt
      have HMS : Hid (mineM m (l.take (k + 1)) = mineM m (l.take k) ++ (if isM m l[k] = true then [l[k]] else [])) := mine_snoc m l k hlt
      have HRS : Hid (restM m (l.take (k + 1)) = restM m (l.take k) ++ (if isM m l[k] = true then [] else [l[k]])) := rest_snoc m l k hlt
      have HLM : (mineM m (l.take k)).length ≤ k := by have := mine_len m (l.take k); simp at this; omega
      have HLR : (restM m (l.take k)).length ≤ k := by have := rest_le m (l.take k); simp at this; omega
      have HIS : Hid (isM m l[k] = (l[k].ck.stream == c.stream && l[k].ck.mid == c.mid && l[k].ck.ordered == c.ordered)) := by show _ = _; rw [HM.out]; rfl
      generalize l[k] = y at *
      have hrng' : wr.rangeAt b off [.int .i64 y.number, .int .i64 y.ck.kind, .int .i64 y.ck.tag, .int .i64 y.ck.stream, .int .i64 y.ck.mid, .int .i64 y.ck.part, .bool y.ck.last, .bool y.ck.ordered, .slice pda y.ck.data.length pdc, .slice psa y.ck.spans.length psc, .int .i64 y.ck.room, .slice pqa y.ck.skips.length pqc] := hrng
      have BX : Below wr.heap.size wr (wr.alloc (.cells #[.int .i64 y.number, .int .i64 y.ck.kind, .int .i64 y.ck.tag, .int .i64 y.ck.stream, .int .i64 y.ck.mid, .int .i64 y.ck.part, .bool y.ck.last, .bool y.ck.ordered, .slice pda y.ck.data.length pdc, .slice psa y.ck.spans.length psc, .int .i64 y.ck.room, .slice pqa y.ck.skips.length pqc] 71)) := box_below wr _
      have AX := Cells.new wr #[.int .i64 y.number, .int .i64 y.ck.kind, .int .i64 y.ck.tag, .int .i64 y.ck.stream, .int .i64 y.ck.mid, .int .i64 y.ck.part, .bool y.ck.last, .bool y.ck.ordered, .slice pda y.ck.data.length pdc, .slice psa y.ck.spans.length psc, .int .i64 y.ck.room, .slice pqa y.ck.skips.length pqc] 71
      have hzX : wr.heap.size < (wr.alloc (.cells #[.int .i64 y.number, .int .i64 y.ck.kind, .int .i64 y.ck.tag, .int .i64 y.ck.stream, .int .i64 y.ck.mid, .int .i64 y.ck.part, .bool y.ck.last, .bool y.ck.ordered, .slice pda y.ck.data.length pdc, .slice psa y.ck.spans.length psc, .int .i64 y.ck.room, .slice pqa y.ck.skips.length pqc] 71)).heap.size := by simp
      have CCr := HC0.out.below (BR.mono (Nat.le_refl _)) (by omega)
      have HL : Hid _ := hl
      generalize hmm : mineM m (l.take k) = mm at *
      generalize hrr : restM m (l.take k) = rr at *
      clear hmm hrr hl hrng
      go_upto_region 5 with (first
        | refine wpList_ldP rfl (.tmp 14) rfl b off rfl y _ _ _ (by with_reducible exact hrng') ?_
        | refine wpList_stN 71 12 Try.sizePc rfl (.tmp 9) (.tmp 15) rfl wr _ rfl rfl rfl [.int .i64 y.number, .int .i64 y.ck.kind, .int .i64 y.ck.tag, .int .i64 y.ck.stream, .int .i64 y.ck.mid, .int .i64 y.ck.part, .bool y.ck.last, .bool y.ck.ordered, .slice pda y.ck.data.length pdc, .slice psa y.ck.spans.length psc, .int .i64 y.ck.room, .slice pqa y.ck.skips.length pqc] rfl rfl rfl ?_)
      generalize wr.alloc (.cells #[.int .i64 y.number, .int .i64 y.ck.kind, .int .i64 y.ck.tag, .int .i64 y.ck.stream, .int .i64 y.ck.mid, .int .i64 y.ck.part, .bool y.ck.last, .bool y.ck.ordered, .slice pda y.ck.data.length pdc, .slice psa y.ck.spans.length psc, .int .i64 y.ck.room, .slice pqa y.ck.skips.length pqc] 71) = wx at *
      have CCx := CCr.below BX (by omega)
      have KV : Keep V wr wx := toKeep BX fun j hj => by have := hv j hj; have := B0.size; omega
      have hlx : SnL V wx y.ck _ _ _ := HL.out.keep KV
      have R1x : Hid (PcRow V w0.heap.size wx (.slice a1 mm.length c1) mm) := GRow.keep PcI.holds R1.out KV (fun j hj => BX.block j (R1.out.lt hj).2)
      have R2x : Hid (PcRow V w0.heap.size wx (.slice a2 rr.length c2) rr) := GRow.keep PcI.holds R2.out KV (fun j hj => BX.block j (R2.out.lt hj).2)
      have BWx : Below w0.heap.size w0 wx := BR.trans (BX.mono szr)
      have x3 := AX.cell 3 _ rfl
      have x4 := AX.cell 4 _ rfl
      have x7 := AX.cell 7 _ rfl
      have k2 := CCx.cell 2 _ rfl
      have k3 := CCx.cell 3 _ rfl
      have k6 := CCx.cell 6 _ rfl
      go_simp
      go_cut [37] from 16 to 37 (fun s37 wy => s37 = .bool (isM m y) ∧ wy = wx)
      case first =>
        cases h1 : (y.ck.stream == c.stream) with
        | false =>
          go_wp2_with fail
          go_meet
          exact ⟨by rw [HIS.out, h1]; simp, rfl⟩
        | true =>
          cases h2 : (y.ck.mid == c.mid) with
          | false =>
            go_wp2_with fail
            go_meet
            exact ⟨by rw [HIS.out, h1, h2]; simp, rfl⟩
          | true =>
            cases h3 : (y.ck.ordered == c.ordered) with
            | false =>
              go_wp2_with fail
              go_meet
              exact ⟨by rw [HIS.out, h1, h2, h3]; simp, rfl⟩
            | true =>
              go_wp2_with fail
              go_meet
              exact ⟨by rw [HIS.out, h1, h2, h3]; simp, rfl⟩
      case rest =>
      obtain ⟨rfl, rfl⟩ := hcut
      clear x3 x4 x7 k2 k3 k6 HIS CCx CCr
      obtain ⟨wx, hwx⟩ : ∃ wx, wx = wc := ⟨wc, rfl⟩
      subst hwx
      cases hq : isM m y with
      | true =>
        have AXR := AX.range
        have HO : ∀ j, V j → j < wx.heap.size ∧ (Value.slice a1 mm.length c1).ownBlock ≠ some j := fun j hj => ⟨by have := hv j hj; have := BX.size; have := B0.size; omega, fun e => by have := (R1x.out.lt e).1; have := hv j hj; omega⟩
        have HE1 : Hid (mineM m (l.take (k + 1)) = mm ++ [y]) := by show _ = _; rw [HMS.out, hq]; simp
        have HE2 : Hid (restM m (l.take (k + 1)) = rr) := by show _ = _; rw [HRS.out, hq]; simp
        have row1 := R1x.out
        go_wp2_with (first
          | refine wpList_ldP rfl (.tmp 9) rfl wr.heap.size 0 rfl y _ _ _ (by with_reducible exact AXR) ?_
          | (at_builtin; refine wpList_appP rfl (.tmp 38) (.tmp 40) rfl wx V w0.heap.size (.slice a1 mm.length c1) mm y _ _ _ wx.heap.size rfl rfl rfl (by with_reducible exact row1) hlx HO (by omega) (by omega) ?_; intro v3 w3 row3 kp3 ho3; obtain ⟨va3, vc3, rfl⟩ := row3.form))
        have row2 : PcRow V w0.heap.size w3 (.slice a2 rr.length c2) rr := GRow.keep PcI.holds R2x.out (kp3.mono fun j hj => HO j hj) (fun j hj => kp3.block j ⟨(R2x.out.lt hj).2, fun e => HNE.out j e hj⟩)
        have HN3 : Hid (∀ j, (Value.slice va3 (mm ++ [y]).length vc3).ownBlock = some j → (Value.slice a2 rr.length c2).ownBlock ≠ some j) := fun j h1 h2 => by
          rcases ho3 with g | ⟨i, g, hi⟩
          · exact HNE.out j (g ▸ h1) h2
          · rw [g] at h1
            simp only [Option.some.injEq] at h1
            have := (R2x.out.lt h2).2
            omega
        have B3 : Below w0.heap.size w0 w3 := BWx.trans (kp3.below fun j hj => ⟨by omega, fun e => by have := (R1x.out.lt e).1; omega⟩)
        clear AXR HO row1
        go_roundw
        case rel => exact ⟨k + 1, va3, vc3, a2, c2, by omega, by go_num, by rw [HE1.out, List.length_append]; rfl, by rw [HE2.out], by rw [HE1.out]; exact row3, by rw [HE2.out]; exact row2, by rw [HE1.out, HE2.out]; exact HN3.out, B3⟩
        case measure => simp [intOf]; omega
      | false =>
        have AXR := AX.range
        have HO : ∀ j, V j → j < wx.heap.size ∧ (Value.slice a2 rr.length c2).ownBlock ≠ some j := fun j hj => ⟨by have := hv j hj; have := BX.size; have := B0.size; omega, fun e => by have := (R2x.out.lt e).1; have := hv j hj; omega⟩
        have HE1 : Hid (mineM m (l.take (k + 1)) = mm) := by show _ = _; rw [HMS.out, hq]; simp
        have HE2 : Hid (restM m (l.take (k + 1)) = rr ++ [y]) := by show _ = _; rw [HRS.out, hq]; simp
        have row1 := R2x.out
        go_wp2_with (first
          | refine wpList_ldP rfl (.tmp 9) rfl wr.heap.size 0 rfl y _ _ _ (by with_reducible exact AXR) ?_
          | (at_builtin; refine wpList_appP rfl (.tmp 42) (.tmp 44) rfl wx V w0.heap.size (.slice a2 rr.length c2) rr y _ _ _ wx.heap.size rfl rfl rfl (by with_reducible exact row1) hlx HO (by omega) (by omega) ?_; intro v3 w3 row3 kp3 ho3; obtain ⟨va3, vc3, rfl⟩ := row3.form))
        have row2 : PcRow V w0.heap.size w3 (.slice a1 mm.length c1) mm := GRow.keep PcI.holds R1x.out (kp3.mono fun j hj => HO j hj) (fun j hj => kp3.block j ⟨(R1x.out.lt hj).2, fun e => HNE.out j hj e⟩)
        have HN3 : Hid (∀ j, (Value.slice a1 mm.length c1).ownBlock = some j → (Value.slice va3 (rr ++ [y]).length vc3).ownBlock ≠ some j) := fun j h1 h2 => by
          rcases ho3 with g | ⟨i, g, hi⟩
          · exact HNE.out j h1 (g ▸ h2)
          · rw [g] at h2
            simp only [Option.some.injEq] at h2
            have := (R1x.out.lt h1).2
            omega
        have B3 : Below w0.heap.size w0 w3 := BWx.trans (kp3.below fun j hj => ⟨by omega, fun e => by have := (R2x.out.lt e).1; omega⟩)
        clear AXR HO row1
        go_roundw
        case rel => exact ⟨k + 1, a1, c1, va3, vc3, by omega, by go_num, by rw [HE1.out], by rw [HE2.out, List.length_append]; rfl, by rw [HE1.out]; exact row2, by rw [HE2.out]; exact row3, by rw [HE1.out, HE2.out]; exact HN3.out, B3⟩
        case measure => simp [intOf]; omega
    · have hke : k = l.length := by omega
      subst hke
      rw [List.take_length] at R1 R2 ⊢
      go_wp2_with fail
      go_ret2
      refine ⟨a1, c1, a2, c2, rfl, ?_, ?_, B0.trans (BR.mono (by omega))⟩
      · obtain ⟨vs, g1, g2⟩ := R1.out; exact ⟨vs, g1, own_low g2 (by omega)⟩
      · obtain ⟨vs, g1, g2⟩ := R2.out; exact ⟨vs, g1, own_low g2 (by omega)⟩
end Go.Proofs.Ytnddejdndipddad
