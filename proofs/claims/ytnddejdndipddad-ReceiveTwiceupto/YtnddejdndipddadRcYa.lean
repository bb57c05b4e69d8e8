/- The walk of ReceiveTwice. -/
import Derived.Test.YtnddejdndipddadRcY
set_option maxRecDepth 20000
namespace Go.Proofs.Ytnddejdndipddad
open Go.RowKit

theorem prefix_get {l m : List Av} (h : l <+: m) (k : Nat) (hk : k < l.length) : ∃ hm : k < m.length, m[k] = l[k] := by
  obtain ⟨r, rfl⟩ := h
  exact ⟨by simp; omega, List.getElem_append_left hk⟩

set_option maxHeartbeats 8000000 in
theorem twice_walk (c : Cf) (vl : Value) (l : List Ck) (w : World) (hl : CksS w.heap.size w vl l) (hf : ∀ c ∈ l, CkFit c ∧ c.data.length ≤ 1048576) (hn : l.length ≤ 1048576) (hs : skN l ≤ 1048576) :
    Calls Try.prog 7 #[.agg #[.int .i64 c.streams, .int .i64 c.part, .int .i64 c.packet, .int .i64 c.paths, .int .i64 c.turns, .int .i64 c.waiting, .int .i64 c.first], vl] w fun e w' => e = .returned (.bool true) ∧ Below w.heap.size w w' := by
  obtain ⟨la, lcap, rfl, -, -⟩ := hl.ex
  have HL : Hid _ := hl
  have B0 := box_below w (.cells #[.int .i64 c.streams, .int .i64 c.part, .int .i64 c.packet, .int .i64 c.paths, .int .i64 c.turns, .int .i64 c.waiting, .int .i64 c.first] 36)
  have CB := Cells.new w #[.int .i64 c.streams, .int .i64 c.part, .int .i64 c.packet, .int .i64 c.paths, .int .i64 c.turns, .int .i64 c.waiting, .int .i64 c.first] 36
  have hz0 : w.heap.size < (w.alloc (.cells #[.int .i64 c.streams, .int .i64 c.part, .int .i64 c.packet, .int .i64 c.paths, .int .i64 c.turns, .int .i64 c.waiting, .int .i64 c.first] 36)).heap.size := by simp
  clear hl
  go_enter Try.func7, Try.ntmps7
  go_upto_region 1 with fail
  generalize w.alloc (.cells #[.int .i64 c.streams, .int .i64 c.part, .int .i64 c.packet, .int .i64 c.paths, .int .i64 c.turns, .int .i64 c.waiting, .int .i64 c.first] 36) = w0 at *
  go_wp2_with fail
  refine (alive8_any _).mono ?_
  rintro e w1 ⟨rfl, b1⟩
  have CB1 := CB.below b1 hz0
  have BW1 : Below w.heap.size w w1 := B0.trans (b1.mono (by omega))
  have a0 := CB1.cell 0 _ rfl
  have a1 := CB1.cell 1 _ rfl
  have a2 := CB1.cell 2 _ rfl
  have a3 := CB1.cell 3 _ rfl
  have a4 := CB1.cell 4 _ rfl
  have a5 := CB1.cell 5 _ rfl
  have a6 := CB1.cell 6 _ rfl
  have hz1 : w.heap.size < w1.heap.size := by have := b1.size; omega
  clear CB B0 b1 hz0
  go_wp2_with fail
  refine (fine_any c w1).mono ?_
  rintro e w2 ⟨rfl, b2⟩
  have CB2 := CB1.below b2 hz1
  have BW2 : Below w.heap.size w w2 := BW1.trans (b2.mono (by omega))
  clear a0 a1 a2 a3 a4 a5 a6 CB1 BW1
  cases hfi : fineB c with
  | false =>
    go_wp2_with fail
    go_ret
    exact ⟨rfl, BW2⟩
  | true =>
    have hfi' : 1 ≤ c.streams ∧ c.streams ≤ 4 ∧ 0 ≤ c.first ∧ c.first < 65536 := by
      simp only [fineB, Bool.and_eq_true, decide_eq_true_eq] at hfi
      omega
    obtain ⟨n, hcn⟩ : ∃ n : Nat, c.streams = (n : Int) := ⟨c.streams.toNat, by omega⟩
    have HCN : Hid (c.streams = (n : Int)) := hcn
    have hn4 : n ≤ 4 := by omega
    have a0 := CB2.cell 0 _ rfl
    have a1 := CB2.cell 1 _ rfl
    have a2 := CB2.cell 2 _ rfl
    have a3 := CB2.cell 3 _ rfl
    have a4 := CB2.cell 4 _ rfl
    have a5 := CB2.cell 5 _ rfl
    have a6 := CB2.cell 6 _ rfl
    have NW := rnew_any c n w2 HCN.out (by omega) (by omega) (by omega)
    have HR0 : Hid (RunR n 0 (skN (l.take 0)) (newM c)) := by
      have := RunR.new HCN.out hfi'.2.2.1 (by omega)
      show RunR n 0 (skN (l.take 0)) (newM c)
      simpa [skN] using this
    clear hcn hfi hfi' CB2
    generalize newM c = x0 at *
    go_upto_region 6 with (first | (go_at_call 23; refine NW.mono ?_; rintro e w3 ⟨_, _, _, _, rfl, h3, b3⟩; obtain ⟨xsa, xsc, xpa, xpc, xta, xtc, xla, xlc, rfl, rfl, rfl, rfl⟩ := h3.ex) | refine wpList_stN 47 12 Try.sizeRv rfl (.tmp 5) (.tmp 19) rfl w3 _ rfl rfl rfl [.int .i64 x0.cf.streams, .int .i64 x0.cf.part, .int .i64 x0.cf.packet, .int .i64 x0.cf.paths, .int .i64 x0.cf.turns, .int .i64 x0.cf.waiting, .int .i64 x0.cf.first, .int .i64 x0.cum, .slice xsa x0.spans.length xsc, .slice xpa x0.pieces.length xpc, .slice xta x0.turn.length xtc, .slice xla x0.log.length xlc] rfl rfl rfl ?_)
    have BW3 : Below w.heap.size w w3 := BW2.trans (b3.mono (by have := BW2.size; omega))
    have RC : Cells w3.heap.size (w3.alloc (.cells #[.int .i64 x0.cf.streams, .int .i64 x0.cf.part, .int .i64 x0.cf.packet, .int .i64 x0.cf.paths, .int .i64 x0.cf.turns, .int .i64 x0.cf.waiting, .int .i64 x0.cf.first, .int .i64 x0.cum, .slice xsa x0.spans.length xsc, .slice xpa x0.pieces.length xpc, .slice xta x0.turn.length xtc, .slice xla x0.log.length xlc] 47)) [.int .i64 x0.cf.streams, .int .i64 x0.cf.part, .int .i64 x0.cf.packet, .int .i64 x0.cf.paths, .int .i64 x0.cf.turns, .int .i64 x0.cf.waiting, .int .i64 x0.cf.first, .int .i64 x0.cum, .slice xsa x0.spans.length xsc, .slice xpa x0.pieces.length xpc, .slice xta x0.turn.length xtc, .slice xla x0.log.length xlc] := Cells.new w3 #[.int .i64 x0.cf.streams, .int .i64 x0.cf.part, .int .i64 x0.cf.packet, .int .i64 x0.cf.paths, .int .i64 x0.cf.turns, .int .i64 x0.cf.waiting, .int .i64 x0.cf.first, .int .i64 x0.cum, .slice xsa x0.spans.length xsc, .slice xpa x0.pieces.length xpc, .slice xta x0.turn.length xtc, .slice xla x0.log.length xlc] 47
    have RB : Below w3.heap.size w3 (w3.alloc (.cells #[.int .i64 x0.cf.streams, .int .i64 x0.cf.part, .int .i64 x0.cf.packet, .int .i64 x0.cf.paths, .int .i64 x0.cf.turns, .int .i64 x0.cf.waiting, .int .i64 x0.cf.first, .int .i64 x0.cum, .slice xsa x0.spans.length xsc, .slice xpa x0.pieces.length xpc, .slice xta x0.turn.length xtc, .slice xla x0.log.length xlc] 47)) := box_below w3 _
    have hz4 : w3.heap.size < (w3.alloc (.cells #[.int .i64 x0.cf.streams, .int .i64 x0.cf.part, .int .i64 x0.cf.packet, .int .i64 x0.cf.paths, .int .i64 x0.cf.turns, .int .i64 x0.cf.waiting, .int .i64 x0.cf.first, .int .i64 x0.cum, .slice xsa x0.spans.length xsc, .slice xpa x0.pieces.length xpc, .slice xta x0.turn.length xtc, .slice xla x0.log.length xlc] 47)).heap.size := by simp
    have HI0 : Hid (RvI (fun j => j < (w3.alloc (.cells #[.int .i64 x0.cf.streams, .int .i64 x0.cf.part, .int .i64 x0.cf.packet, .int .i64 x0.cf.paths, .int .i64 x0.cf.turns, .int .i64 x0.cf.waiting, .int .i64 x0.cf.first, .int .i64 x0.cum, .slice xsa x0.spans.length xsc, .slice xpa x0.pieces.length xpc, .slice xta x0.turn.length xtc, .slice xla x0.log.length xlc] 47)).heap.size ∧ j ≠ w3.heap.size) (w3.alloc (.cells #[.int .i64 x0.cf.streams, .int .i64 x0.cf.part, .int .i64 x0.cf.packet, .int .i64 x0.cf.paths, .int .i64 x0.cf.turns, .int .i64 x0.cf.waiting, .int .i64 x0.cf.first, .int .i64 x0.cum, .slice xsa x0.spans.length xsc, .slice xpa x0.pieces.length xpc, .slice xta x0.turn.length xtc, .slice xla x0.log.length xlc] 47)) x0 (.slice xsa x0.spans.length xsc) (.slice xpa x0.pieces.length xpc) (.slice xta x0.turn.length xtc) (.slice xla x0.log.length xlc)) := ((RvI.of h3 (Nat.le_refl _)).keep (toKeep RB fun _ hk => hk)).mono fun k hk => ⟨by have : k < w3.heap.size := hk; omega, by have : k < w3.heap.size := hk; omega⟩
    have HRC : Hid _ := RC
    clear NW a0 a1 a2 a3 a4 a5 a6 h3 b3 RC BW2 hz1 b2
    generalize w3.alloc (.cells #[.int .i64 x0.cf.streams, .int .i64 x0.cf.part, .int .i64 x0.cf.packet, .int .i64 x0.cf.paths, .int .i64 x0.cf.turns, .int .i64 x0.cf.waiting, .int .i64 x0.cf.first, .int .i64 x0.cum, .slice xsa x0.spans.length xsc, .slice xpa x0.pieces.length xpc, .slice xta x0.turn.length xtc, .slice xla x0.log.length xlc] 47) = w4 at *
    have hw3 : w.heap.size ≤ w3.heap.size := BW3.size
    go_wp2_with fail
    go_loopw [22] (fun i wr => ∃ (k : Nat) (x : Rc) (xsa : Option Addr) (xsc : Nat) (xpa : Option Addr) (xpc : Nat) (xta : Option Addr) (xtc : Nat) (xla : Option Addr) (xlc : Nat), k ≤ l.length ∧ i = .int .i64 k ∧ Hid (RunR n k (skN (l.take k)) x) ∧ Hid (Cells w3.heap.size wr [.int .i64 x.cf.streams, .int .i64 x.cf.part, .int .i64 x.cf.packet, .int .i64 x.cf.paths, .int .i64 x.cf.turns, .int .i64 x.cf.waiting, .int .i64 x.cf.first, .int .i64 x.cum, .slice xsa x.spans.length xsc, .slice xpa x.pieces.length xpc, .slice xta x.turn.length xtc, .slice xla x.log.length xlc]) ∧ Hid (RvI (fun j => j < wr.heap.size ∧ j ≠ w3.heap.size) wr x (.slice xsa x.spans.length xsc) (.slice xpa x.pieces.length xpc) (.slice xta x.turn.length xtc) (.slice xla x.log.length xlc)) ∧ Below w3.heap.size w3 wr) (fun i _ => l.length - (intOf i).toNat)
    case atStart => exact ⟨0, x0, _, _, _, _, _, _, _, _, Nat.zero_le _, rfl, HR0, HRC, HI0, RB⟩
    case round =>
      obtain ⟨k, x, xsa, xsc, xpa, xpc, xta, xtc, xla, xlc, hk, rfl, HRU, HC, HI, BR⟩ := hrel
      have szr := BR.size
      have BWR : Below w.heap.size w wr := BW3.trans (BR.mono hw3)
      have hRlt : w3.heap.size < wr.heap.size := World.block_lt_of_cell? _ _ (HC.out.cell 0 _ rfl)
      clear HR0 HRC HI0 RB
      by_cases hlt : k < l.length
      · obtain ⟨b, off, kda, kdc, ksa, ksc, kqa, kqc, hbb, hix, kd, ks, kq, hrng⟩ := CksS.at (SlG.below CkV.bears HL.out BWR (Nat.le_refl _)) k hlt
        obtain ⟨hfc, hdl⟩ := hf _ (List.getElem_mem hlt)
        have HSN : Hid (skN (l.take (k + 1)) = skN (l.take k) + l[k].skips.length) := skN_snoc l k hlt
        have hsl := skN_le l k hlt
        have hk1 : k + 1 ≤ 1048576 := by omega
        have RN : RunR n (k + 1) (skN (l.take (k + 1))) (doM x l[k]) := by rw [HSN.out]; exact HRU.out.step hk1 hfc hdl
        have RN' : RunR n (k + 1) (skN (l.take k) + l[k].skips.length) (doM x l[k]) := by rw [← HSN.out]; exact RN
        obtain ⟨HTW, HCU, HPR⟩ := do_twice HRU.out.inv l[k]
        have HAG : ¬ l[k].kind = 3 → ¬ takesM (doM x l[k]) l[k] := fun h3 => by rw [doM, if_neg h3]; exact recv_again HRU.out.inv _
        -- the chunk's box
        have KD := kd
        have KS := ks
        have KQ := kq
        generalize l[k] = ck at *
        have BA : Below wr.heap.size wr (wr.alloc (.cells #[.int .i64 ck.kind, .int .i64 ck.tag, .int .i64 ck.stream, .int .i64 ck.mid, .int .i64 ck.part, .bool ck.last, .bool ck.ordered, .slice kda ck.data.length kdc, .slice ksa ck.spans.length ksc, .int .i64 ck.room, .slice kqa ck.skips.length kqc] 42)) := box_below wr _
        have QC := Cells.new wr #[.int .i64 ck.kind, .int .i64 ck.tag, .int .i64 ck.stream, .int .i64 ck.mid, .int .i64 ck.part, .bool ck.last, .bool ck.ordered, .slice kda ck.data.length kdc, .slice ksa ck.spans.length ksc, .int .i64 ck.room, .slice kqa ck.skips.length kqc] 42
        have hzA : wr.heap.size < (wr.alloc (.cells #[.int .i64 ck.kind, .int .i64 ck.tag, .int .i64 ck.stream, .int .i64 ck.mid, .int .i64 ck.part, .bool ck.last, .bool ck.ordered, .slice kda ck.data.length kdc, .slice ksa ck.spans.length ksc, .int .i64 ck.room, .slice kqa ck.skips.length kqc] 42)).heap.size := by simp
        go_upto_region 9 with (first
          | refine wpList_ldC rfl (.tmp 24) rfl b off rfl ck _ _ _ (by with_reducible exact hrng) ?_
          | refine wpList_stN 42 11 Try.sizeCk rfl (.tmp 7) (.tmp 25) rfl wr _ rfl rfl rfl [.int .i64 ck.kind, .int .i64 ck.tag, .int .i64 ck.stream, .int .i64 ck.mid, .int .i64 ck.part, .bool ck.last, .bool ck.ordered, .slice kda ck.data.length kdc, .slice ksa ck.spans.length ksc, .int .i64 ck.room, .slice kqa ck.skips.length kqc] rfl rfl rfl ?_)
        generalize wr.alloc (.cells #[.int .i64 ck.kind, .int .i64 ck.tag, .int .i64 ck.stream, .int .i64 ck.mid, .int .i64 ck.part, .bool ck.last, .bool ck.ordered, .slice kda ck.data.length kdc, .slice ksa ck.spans.length ksc, .int .i64 ck.room, .slice kqa ck.skips.length kqc] 42) = wa at *
        have hQlt : wr.heap.size < wa.heap.size := hzA
        have BRA : Below w3.heap.size w3 wa := BR.trans (BA.mono szr)
        have HCa : Hid _ := HC.out.below BA hRlt
        have HIa : (RvI (fun j => j < wr.heap.size ∧ j ≠ w3.heap.size) wa x (.slice xsa x.spans.length xsc) (.slice xpa x.pieces.length xpc) (.slice xta x.turn.length xtc) (.slice xla x.log.length xlc)) := HI.out.keep (toKeep BA fun _ hj => hj.1)
        have hba : b < wr.heap.size := by have := BWR.size; omega
        have kd1 : By wa.heap.size wa _ ck.data := (KD.below BA BWR.size).mono (by have := BWR.size; omega)
        have ks1 : Sl wa.heap.size wa _ ck.spans := (KS.below BA BWR.size).mono (by have := BWR.size; omega)
        have kq1 : Kl wa.heap.size wa _ ck.skips := Rw.mono (Rw.below KQ BA BWR.size) (by have := BWR.size; omega)
        have HKD : Hid (By wa.heap.size wa (.slice kda ck.data.length kdc) ck.data) := kd1
        have HKS : Hid (Sl wa.heap.size wa (.slice ksa ck.spans.length ksc) ck.spans) := ks1
        have HKQ : Hid (Kl wa.heap.size wa (.slice kqa ck.skips.length kqc) ck.skips) := kq1
        have HQC : Hid _ := QC
        have HIA : Hid _ := HIa
        have q0 := QC.cell 0 _ rfl
        have x11 := HCa.out.cell 11 _ rfl
        clear kd ks kq KD KS KQ kd1 ks1 kq1 QC HIa HI HC
        cases hk3 : (ck.kind == 3) with
        | true =>
          have HK3 : Hid (ck.kind = 3) := by show _ = _; simpa using hk3
          go_upto_region 13 with fail
          have CALL := do_in 30 (fun j => j < wr.heap.size ∧ j ≠ w3.heap.size) n k (skN (l.take k)) x ck _ _ _ _ kda ksa kqa kdc ksc kqc wa (.inl ⟨HK3.out, rfl⟩) HIA.out (fun j hj => by have := hj.1; omega) HKD.out HKS.out HKQ.out hfc hdl HRU.out (by omega) hn4 (by omega) (fun _ => hk1)
          have RNGR := HCa.out.range
          have RNGQ := HQC.out.range
          clear x11 q0
          obtain ⟨y, hy⟩ : ∃ y, y = doM x ck := ⟨_, rfl⟩
          rw [← hy] at CALL HTW HCU HPR RN RN' HAG
          clear hy
          go_upto_region 14 with (first
            | refine wpList_ldR rfl (.tmp 5) rfl w3.heap.size 0 rfl x _ _ _ _ (by with_reducible exact RNGR) ?_
            | refine wpList_ldC rfl (.tmp 7) rfl wr.heap.size 0 rfl ck _ _ _ (by with_reducible exact RNGQ) ?_
            | (go_at_call 30; refine CALL.mono ?_; rintro e w5 ⟨ysa, ypa, yta, yla, ysc, ypc, ytc, ylc, rfl, hIy, b5⟩)
            | refine wpList_stN 47 12 Try.sizeRv rfl (.tmp 10) (.tmp 35) rfl w5 _ rfl rfl rfl [.int .i64 y.cf.streams, .int .i64 y.cf.part, .int .i64 y.cf.packet, .int .i64 y.cf.paths, .int .i64 y.cf.turns, .int .i64 y.cf.waiting, .int .i64 y.cf.first, .int .i64 y.cum, .slice ysa y.spans.length ysc, .slice ypa y.pieces.length ypc, .slice yta y.turn.length ytc, .slice yla y.log.length ylc] rfl rfl rfl ?_)
          have s5 := b5.size
          have YC := Cells.new w5 #[.int .i64 y.cf.streams, .int .i64 y.cf.part, .int .i64 y.cf.packet, .int .i64 y.cf.paths, .int .i64 y.cf.turns, .int .i64 y.cf.waiting, .int .i64 y.cf.first, .int .i64 y.cum, .slice ysa y.spans.length ysc, .slice ypa y.pieces.length ypc, .slice yta y.turn.length ytc, .slice yla y.log.length ylc] 47
          have YB : Below w5.heap.size w5 (w5.alloc (.cells #[.int .i64 y.cf.streams, .int .i64 y.cf.part, .int .i64 y.cf.packet, .int .i64 y.cf.paths, .int .i64 y.cf.turns, .int .i64 y.cf.waiting, .int .i64 y.cf.first, .int .i64 y.cum, .slice ysa y.spans.length ysc, .slice ypa y.pieces.length ypc, .slice yta y.turn.length ytc, .slice yla y.log.length ylc] 47)) := box_below w5 _
          have hz6 : w5.heap.size < (w5.alloc (.cells #[.int .i64 y.cf.streams, .int .i64 y.cf.part, .int .i64 y.cf.packet, .int .i64 y.cf.paths, .int .i64 y.cf.turns, .int .i64 y.cf.waiting, .int .i64 y.cf.first, .int .i64 y.cum, .slice ysa y.spans.length ysc, .slice ypa y.pieces.length ypc, .slice yta y.turn.length ytc, .slice yla y.log.length ylc] 47)).heap.size := by simp
          have HY6 := hIy.low.keep (toKeep YB fun _ hj => hj.2)
          generalize w5.alloc (.cells #[.int .i64 y.cf.streams, .int .i64 y.cf.part, .int .i64 y.cf.packet, .int .i64 y.cf.paths, .int .i64 y.cf.turns, .int .i64 y.cf.waiting, .int .i64 y.cf.first, .int .i64 y.cum, .slice ysa y.spans.length ysc, .slice ypa y.pieces.length ypc, .slice yta y.turn.length ytc, .slice yla y.log.length ylc] 47) = w6 at *
          have Ba6 : Below wa.heap.size wa w6 := b5.trans (YB.mono s5)
          have HC6 : Hid _ := HCa.out.below Ba6 (by omega)
          have HQ6 : Hid _ := HQC.out.below Ba6 (by omega)
          have HYC6 : Hid _ := YC
          have HYI6 : Hid _ := HY6
          have kd6 : By w6.heap.size w6 _ ck.data := (By.below HKD.out Ba6 (Nat.le_refl _)).mono (by omega)
          have ks6 : Sl w6.heap.size w6 _ ck.spans := (Sl.below HKS.out Ba6 (Nat.le_refl _)).mono (by omega)
          have kq6 : Kl w6.heap.size w6 _ ck.skips := Rw.mono (Rw.below HKQ.out Ba6 (Nat.le_refl _)) (by omega)
          have CALL2 := do_in 30 _ n (k + 1) (skN (l.take k) + ck.skips.length) y ck _ _ _ _ kda ksa kqa kdc ksc kqc w6 (.inl ⟨HK3.out, rfl⟩) HY6 (fun j hj => by have := hj.2; omega) kd6 ks6 kq6 hfc hdl RN' (by omega) hn4 (by omega) (fun ht => by
            by_cases h3 : ck.kind = 3
            · have := ht.1; omega
            · exact absurd ht (HAG h3))
          rw [HTW] at CALL2
          have RNGY := YC.range
          have RNGQ := HQ6.out.range
          clear CALL RNGR YC HY6 hIy kd6 ks6 kq6 HAG b5 RN' YB HKD HKS HKQ HTW
          go_upto_region 15 with (first
            | refine wpList_ldR rfl (.tmp 10) rfl w5.heap.size 0 rfl y _ _ _ _ (by with_reducible exact RNGY) ?_
            | refine wpList_ldC rfl (.tmp 7) rfl wr.heap.size 0 rfl ck _ _ _ (by with_reducible exact RNGQ) ?_
            | (go_at_call 30; refine CALL2.mono ?_; rintro e w7 ⟨zsa, zpa, zta, zla, zsc, zpc, ztc, zlc, rfl, hIz, b7⟩)
            | refine wpList_stN 47 12 Try.sizeRv rfl (.tmp 11) (.tmp 39) rfl w7 _ rfl rfl rfl [.int .i64 y.cf.streams, .int .i64 y.cf.part, .int .i64 y.cf.packet, .int .i64 y.cf.paths, .int .i64 y.cf.turns, .int .i64 y.cf.waiting, .int .i64 y.cf.first, .int .i64 y.cum, .slice zsa y.spans.length zsc, .slice zpa y.pieces.length zpc, .slice zta y.turn.length ztc, .slice zla y.log.length zlc] rfl rfl rfl ?_)
          have s7 := b7.size
          have ZC := Cells.new w7 #[.int .i64 y.cf.streams, .int .i64 y.cf.part, .int .i64 y.cf.packet, .int .i64 y.cf.paths, .int .i64 y.cf.turns, .int .i64 y.cf.waiting, .int .i64 y.cf.first, .int .i64 y.cum, .slice zsa y.spans.length zsc, .slice zpa y.pieces.length zpc, .slice zta y.turn.length ztc, .slice zla y.log.length zlc] 47
          have ZB : Below w7.heap.size w7 (w7.alloc (.cells #[.int .i64 y.cf.streams, .int .i64 y.cf.part, .int .i64 y.cf.packet, .int .i64 y.cf.paths, .int .i64 y.cf.turns, .int .i64 y.cf.waiting, .int .i64 y.cf.first, .int .i64 y.cum, .slice zsa y.spans.length zsc, .slice zpa y.pieces.length zpc, .slice zta y.turn.length ztc, .slice zla y.log.length zlc] 47)) := box_below w7 _
          have hz8 : w7.heap.size < (w7.alloc (.cells #[.int .i64 y.cf.streams, .int .i64 y.cf.part, .int .i64 y.cf.packet, .int .i64 y.cf.paths, .int .i64 y.cf.turns, .int .i64 y.cf.waiting, .int .i64 y.cf.first, .int .i64 y.cum, .slice zsa y.spans.length zsc, .slice zpa y.pieces.length zpc, .slice zta y.turn.length ztc, .slice zla y.log.length zlc] 47)).heap.size := by simp
          have HZ8 := hIz.low.keep (toKeep ZB fun _ hj => hj.2)
          generalize w7.alloc (.cells #[.int .i64 y.cf.streams, .int .i64 y.cf.part, .int .i64 y.cf.packet, .int .i64 y.cf.paths, .int .i64 y.cf.turns, .int .i64 y.cf.waiting, .int .i64 y.cf.first, .int .i64 y.cum, .slice zsa y.spans.length zsc, .slice zpa y.pieces.length zpc, .slice zta y.turn.length ztc, .slice zla y.log.length zlc] 47) = w8 at *
          have B68 : Below w6.heap.size w6 w8 := b7.trans (ZB.mono s7)
          have HC8 : Hid _ := HC6.out.below B68 (by omega)
          have HYC8 : Hid _ := HYC6.out.below B68 (by omega)
          have HY8 := HYI6.out.keep (toKeep B68 fun j hj => by have := hj.2; omega)
          have SR := sameRecv_any y _ _ _ _ _ _ _ _ w8 HY8.r HZ8.r
          have hlen : ¬ ((y.log.length : Int) < (x.log.length : Int)) := by have := HPR.length_le; omega
          have hcum : ¬ (y.cum < x.cum) := by omega
          have x7 := HC8.out.cell 7 _ rfl
          have y0 := HYC8.out.cell 0 _ rfl
          have y1 := HYC8.out.cell 1 _ rfl
          have y2 := HYC8.out.cell 2 _ rfl
          have y3 := HYC8.out.cell 3 _ rfl
          have y4 := HYC8.out.cell 4 _ rfl
          have y5 := HYC8.out.cell 5 _ rfl
          have y6 := HYC8.out.cell 6 _ rfl
          have y7 := HYC8.out.cell 7 _ rfl
          have y8 := HYC8.out.cell 8 _ rfl
          have y9 := HYC8.out.cell 9 _ rfl
          have y10 := HYC8.out.cell 10 _ rfl
          have y11 := HYC8.out.cell 11 _ rfl
          have z0 := ZC.cell 0 _ rfl
          have z1 := ZC.cell 1 _ rfl
          have z2 := ZC.cell 2 _ rfl
          have z3 := ZC.cell 3 _ rfl
          have z4 := ZC.cell 4 _ rfl
          have z5 := ZC.cell 5 _ rfl
          have z6 := ZC.cell 6 _ rfl
          have z7 := ZC.cell 7 _ rfl
          have z8 := ZC.cell 8 _ rfl
          have z9 := ZC.cell 9 _ rfl
          have z10 := ZC.cell 10 _ rfl
          have z11 := ZC.cell 11 _ rfl
          have BR8 : Below w3.heap.size w3 w8 := (BRA.trans (Ba6.mono BRA.size)).trans (B68.mono (by have := BRA.size; omega))
          have HY8' : Hid _ := HY8
          clear CALL2 RNGY RNGQ hIz HZ8 HYI6 HC6 HYC6 HQ6 b7 ZB ZC HY8
          go_wp2_with (go_at_call 22; refine SR.mono ?_; rintro e w9 ⟨rfl, b9⟩)
          have s8 := B68.size
          have HX8 : Hid _ := HIA.out.keep (toKeep (Ba6.trans (B68.mono (by omega))) fun j hj => by have := hj.1; omega)
          have s9 := b9.size
          have HC9 : Hid _ := HC8.out.below b9 (by omega)
          have HYC9 : Hid _ := HYC8.out.below b9 (by omega)
          have HX9 : Hid _ := HX8.out.keep (toKeep b9 fun j hj => by have := hj.1; omega)
          have HY9 : Hid _ := HY8'.out.keep (toKeep b9 fun j hj => by have := hj.2; omega)
          have hxl : x.log.length ≤ 9223372036854775807 := by obtain ⟨_, _, -, g1, g2⟩ := HX9.out.r.l.ex; omega
          have BR9 : Below w3.heap.size w3 w9 := BR8.trans (b9.mono (by have := BR8.size; omega))
          clear y0 y1 y2 y3 y4 y5 y6 y7 y8 y9 y10 y11 z0 z1 z2 z3 z4 z5 z6 z7 z8 z9 z10 z11 x7 SR HIA HX8 HY8' HC8 HYC8 hlen hcum b9 BR8 B68 Ba6 BRA
          generalize wr.heap.size = N at *
          go_loopw [65] (fun i wq => ∃ j : Nat, j ≤ x.log.length ∧ i = .int .i64 j ∧ Below w9.heap.size w9 wq) (fun i _ => x.log.length - (intOf i).toNat)
          case atStart => exact ⟨0, Nat.zero_le _, rfl, Below.refl _ _⟩
          case round =>
            obtain ⟨j, hj, rfl, BS⟩ := hrel
            have sq := BS.size
            have HCq := HC9.out.below BS (by omega)
            have HYq := HYC9.out.below BS (by omega)
            have HXI := HX9.out.keep (toKeep BS fun j hj => by have := hj.1; omega)
            have HYI := HY9.out.keep (toKeep BS fun j hj => by have := hj.2; omega)
            by_cases hlj : j < x.log.length
            · obtain ⟨hjy, heq⟩ := prefix_get HPR j hlj
              obtain ⟨pb, po, pd, hpb, hpx, hpd, p0, p1, p2, p3⟩ := AvS.at HYI.r.l j hjy
              obtain ⟨qb, qo, qd, hqb, hqx, hqd, r0, r1, r2, r3⟩ := AvS.at HXI.r.l j hlj
              rw [heq] at hpd p0 p1 p2
              have T1 : ∀ nq, _ := fun nq => (hpd.below (drewN_below wr.heap.size wr nq) (Nat.le_refl _)).str
              have T2 : ∀ nq, _ := fun nq => (hqd.below (drewN_below wr.heap.size wr nq) (Nat.le_refl _)).str
              obtain ⟨pda, pdc, rfl, -, -⟩ := hpd.ex
              obtain ⟨qda, qdc, rfl, -, -⟩ := hqd.ex
              have x11 := HCq.cell 11 _ rfl
              have y11 := HYq.cell 11 _ rfl
              have hj1 : (j : Int) < (x.log.length : Int) := by omega
              have hj2 : (j : Int) < (y.log.length : Int) := by omega
              clear heq hpd hqd HYI HXI
              generalize x.log[j] = q at *
              have n1 : (q.mid != q.mid) = false := by simp
              have hne1 : ¬ w5.heap.size = w3.heap.size := by omega
              go_upto_region 20 with fail
              go_quiet (fail)
              have BQ : Below w9.heap.size w9 (wr.drewN nq) := BS.trans (drewN_below _ _ _)
              go_wp2_with fail
              go_roundw
              case rel => exact ⟨j + 1, by omega, by go_num, BQ⟩
              case measure => simp [intOf]; omega
            · have hje : j = x.log.length := by omega
              subst hje
              have RNG := HYq.range
              have TH : wr.there w3.heap.size 0 12 := HCq.there
              have CE : Cells w3.heap.size (wr.setCells w3.heap.size 0 [.int .i64 y.cf.streams, .int .i64 y.cf.part, .int .i64 y.cf.packet, .int .i64 y.cf.paths, .int .i64 y.cf.turns, .int .i64 y.cf.waiting, .int .i64 y.cf.first, .int .i64 y.cum, .slice ysa y.spans.length ysc, .slice ypa y.pieces.length ypc, .slice yta y.turn.length ytc, .slice yla y.log.length ylc]) [.int .i64 y.cf.streams, .int .i64 y.cf.part, .int .i64 y.cf.packet, .int .i64 y.cf.paths, .int .i64 y.cf.turns, .int .i64 y.cf.waiting, .int .i64 y.cf.first, .int .i64 y.cum, .slice ysa y.spans.length ysc, .slice ypa y.pieces.length ypc, .slice yta y.turn.length ytc, .slice yla y.log.length ylc] := HCq.setAll _ rfl
              have BE : Below w3.heap.size w3 (wr.setCells w3.heap.size 0 [.int .i64 y.cf.streams, .int .i64 y.cf.part, .int .i64 y.cf.packet, .int .i64 y.cf.paths, .int .i64 y.cf.turns, .int .i64 y.cf.waiting, .int .i64 y.cf.first, .int .i64 y.cum, .slice ysa y.spans.length ysc, .slice ypa y.pieces.length ypc, .slice yta y.turn.length ytc, .slice yla y.log.length ylc]) := Below.setCells (Nat.le_refl _) _ _ (BR9.trans (BS.mono (by have := BR9.size; omega)))
              have KE : Keep (fun k => k ≠ w3.heap.size) wr (wr.setCells w3.heap.size 0 [.int .i64 y.cf.streams, .int .i64 y.cf.part, .int .i64 y.cf.packet, .int .i64 y.cf.paths, .int .i64 y.cf.turns, .int .i64 y.cf.waiting, .int .i64 y.cf.first, .int .i64 y.cum, .slice ysa y.spans.length ysc, .slice ypa y.pieces.length ypc, .slice yta y.turn.length ytc, .slice yla y.log.length ylc]) := Keep.setCells (fun h => h rfl) _ _ (Keep.refl _ _)
              have sE : (wr.setCells w3.heap.size 0 [.int .i64 y.cf.streams, .int .i64 y.cf.part, .int .i64 y.cf.packet, .int .i64 y.cf.paths, .int .i64 y.cf.turns, .int .i64 y.cf.waiting, .int .i64 y.cf.first, .int .i64 y.cum, .slice ysa y.spans.length ysc, .slice ypa y.pieces.length ypc, .slice yta y.turn.length ytc, .slice yla y.log.length ylc]).heap.size = wr.heap.size := size_setCells _ _ _ _
              have YNE : ∀ k, (((k < N ∧ k ≠ w3.heap.size) ∨ wa.heap.size ≤ k) ∧ k < w5.heap.size) → k ≠ w3.heap.size := fun k hk => by rcases hk.1 with h | h <;> omega
              have IE : RvI (fun j => j < (wr.setCells w3.heap.size 0 [.int .i64 y.cf.streams, .int .i64 y.cf.part, .int .i64 y.cf.packet, .int .i64 y.cf.paths, .int .i64 y.cf.turns, .int .i64 y.cf.waiting, .int .i64 y.cf.first, .int .i64 y.cum, .slice ysa y.spans.length ysc, .slice ypa y.pieces.length ypc, .slice yta y.turn.length ytc, .slice yla y.log.length ylc]).heap.size ∧ j ≠ w3.heap.size) (wr.setCells w3.heap.size 0 [.int .i64 y.cf.streams, .int .i64 y.cf.part, .int .i64 y.cf.packet, .int .i64 y.cf.paths, .int .i64 y.cf.turns, .int .i64 y.cf.waiting, .int .i64 y.cf.first, .int .i64 y.cum, .slice ysa y.spans.length ysc, .slice ypa y.pieces.length ypc, .slice yta y.turn.length ytc, .slice yla y.log.length ylc]) y (.slice ysa y.spans.length ysc) (.slice ypa y.pieces.length ypc) (.slice yta y.turn.length ytc) (.slice yla y.log.length ylc) := (HYI.mono fun k hk => ⟨by rw [sE]; have := hk.2; omega, YNE k hk⟩).keep (KE.mono fun k hk => hk.2)
              have HCE : Hid _ := CE
              have HIE : Hid _ := IE
              clear CE IE HCq HYq HXI HYI
              go_wp2_with (first
                | refine wpList_ldR rfl (.tmp 10) rfl w5.heap.size 0 rfl y _ _ _ _ (by with_reducible exact RNG) ?_
                | refine wpList_srN 47 12 Try.sizeRv rfl (.tmp 5) (.tmp 99) rfl w3.heap.size 0 rfl [.int .i64 y.cf.streams, .int .i64 y.cf.part, .int .i64 y.cf.packet, .int .i64 y.cf.paths, .int .i64 y.cf.turns, .int .i64 y.cf.waiting, .int .i64 y.cf.first, .int .i64 y.cum, .slice ysa y.spans.length ysc, .slice ypa y.pieces.length ypc, .slice yta y.turn.length ytc, .slice yla y.log.length ylc] rfl rfl rfl (by with_reducible exact TH) ?_)
              generalize wr.setCells w3.heap.size 0 [.int .i64 y.cf.streams, .int .i64 y.cf.part, .int .i64 y.cf.packet, .int .i64 y.cf.paths, .int .i64 y.cf.turns, .int .i64 y.cf.waiting, .int .i64 y.cf.first, .int .i64 y.cum, .slice ysa y.spans.length ysc, .slice ypa y.pieces.length ypc, .slice yta y.turn.length ytc, .slice yla y.log.length ylc] = wE at *
              go_roundw
              case rel => exact ⟨k + 1, y, _, _, _, _, _, _, _, _, by omega, by go_num, RN, HCE, HIE, BE⟩
              case measure => simp [intOf]; omega
        | false =>
          have HK3 : Hid (¬ ck.kind = 3) := by show ¬ _; simpa using hk3
          go_upto_region 13 with fail
          have CALL := do_in 28 (fun j => j < wr.heap.size ∧ j ≠ w3.heap.size) n k (skN (l.take k)) x ck _ _ _ _ kda ksa kqa kdc ksc kqc wa (.inr ⟨HK3.out, rfl⟩) HIA.out (fun j hj => by have := hj.1; omega) HKD.out HKS.out HKQ.out hfc hdl HRU.out (by omega) hn4 (by omega) (fun _ => hk1)
          have RNGR := HCa.out.range
          have RNGQ := HQC.out.range
          clear x11 q0
          obtain ⟨y, hy⟩ : ∃ y, y = doM x ck := ⟨_, rfl⟩
          rw [← hy] at CALL HTW HCU HPR RN RN' HAG
          clear hy
          go_upto_region 14 with (first
            | refine wpList_ldR rfl (.tmp 5) rfl w3.heap.size 0 rfl x _ _ _ _ (by with_reducible exact RNGR) ?_
            | refine wpList_ldC rfl (.tmp 7) rfl wr.heap.size 0 rfl ck _ _ _ (by with_reducible exact RNGQ) ?_
            | (go_at_call 28; refine CALL.mono ?_; rintro e w5 ⟨ysa, ypa, yta, yla, ysc, ypc, ytc, ylc, rfl, hIy, b5⟩)
            | refine wpList_stN 47 12 Try.sizeRv rfl (.tmp 10) (.tmp 35) rfl w5 _ rfl rfl rfl [.int .i64 y.cf.streams, .int .i64 y.cf.part, .int .i64 y.cf.packet, .int .i64 y.cf.paths, .int .i64 y.cf.turns, .int .i64 y.cf.waiting, .int .i64 y.cf.first, .int .i64 y.cum, .slice ysa y.spans.length ysc, .slice ypa y.pieces.length ypc, .slice yta y.turn.length ytc, .slice yla y.log.length ylc] rfl rfl rfl ?_)
          have s5 := b5.size
          have YC := Cells.new w5 #[.int .i64 y.cf.streams, .int .i64 y.cf.part, .int .i64 y.cf.packet, .int .i64 y.cf.paths, .int .i64 y.cf.turns, .int .i64 y.cf.waiting, .int .i64 y.cf.first, .int .i64 y.cum, .slice ysa y.spans.length ysc, .slice ypa y.pieces.length ypc, .slice yta y.turn.length ytc, .slice yla y.log.length ylc] 47
          have YB : Below w5.heap.size w5 (w5.alloc (.cells #[.int .i64 y.cf.streams, .int .i64 y.cf.part, .int .i64 y.cf.packet, .int .i64 y.cf.paths, .int .i64 y.cf.turns, .int .i64 y.cf.waiting, .int .i64 y.cf.first, .int .i64 y.cum, .slice ysa y.spans.length ysc, .slice ypa y.pieces.length ypc, .slice yta y.turn.length ytc, .slice yla y.log.length ylc] 47)) := box_below w5 _
          have hz6 : w5.heap.size < (w5.alloc (.cells #[.int .i64 y.cf.streams, .int .i64 y.cf.part, .int .i64 y.cf.packet, .int .i64 y.cf.paths, .int .i64 y.cf.turns, .int .i64 y.cf.waiting, .int .i64 y.cf.first, .int .i64 y.cum, .slice ysa y.spans.length ysc, .slice ypa y.pieces.length ypc, .slice yta y.turn.length ytc, .slice yla y.log.length ylc] 47)).heap.size := by simp
          have HY6 := hIy.low.keep (toKeep YB fun _ hj => hj.2)
          generalize w5.alloc (.cells #[.int .i64 y.cf.streams, .int .i64 y.cf.part, .int .i64 y.cf.packet, .int .i64 y.cf.paths, .int .i64 y.cf.turns, .int .i64 y.cf.waiting, .int .i64 y.cf.first, .int .i64 y.cum, .slice ysa y.spans.length ysc, .slice ypa y.pieces.length ypc, .slice yta y.turn.length ytc, .slice yla y.log.length ylc] 47) = w6 at *
          have Ba6 : Below wa.heap.size wa w6 := b5.trans (YB.mono s5)
          have HC6 : Hid _ := HCa.out.below Ba6 (by omega)
          have HQ6 : Hid _ := HQC.out.below Ba6 (by omega)
          have HYC6 : Hid _ := YC
          have HYI6 : Hid _ := HY6
          have kd6 : By w6.heap.size w6 _ ck.data := (By.below HKD.out Ba6 (Nat.le_refl _)).mono (by omega)
          have ks6 : Sl w6.heap.size w6 _ ck.spans := (Sl.below HKS.out Ba6 (Nat.le_refl _)).mono (by omega)
          have kq6 : Kl w6.heap.size w6 _ ck.skips := Rw.mono (Rw.below HKQ.out Ba6 (Nat.le_refl _)) (by omega)
          have CALL2 := do_in 28 _ n (k + 1) (skN (l.take k) + ck.skips.length) y ck _ _ _ _ kda ksa kqa kdc ksc kqc w6 (.inr ⟨HK3.out, rfl⟩) HY6 (fun j hj => by have := hj.2; omega) kd6 ks6 kq6 hfc hdl RN' (by omega) hn4 (by omega) (fun ht => by
            by_cases h3 : ck.kind = 3
            · have := ht.1; omega
            · exact absurd ht (HAG h3))
          rw [HTW] at CALL2
          have RNGY := YC.range
          have RNGQ := HQ6.out.range
          clear CALL RNGR YC HY6 hIy kd6 ks6 kq6 HAG b5 RN' YB HKD HKS HKQ HTW
          go_upto_region 15 with (first
            | refine wpList_ldR rfl (.tmp 10) rfl w5.heap.size 0 rfl y _ _ _ _ (by with_reducible exact RNGY) ?_
            | refine wpList_ldC rfl (.tmp 7) rfl wr.heap.size 0 rfl ck _ _ _ (by with_reducible exact RNGQ) ?_
            | (go_at_call 28; refine CALL2.mono ?_; rintro e w7 ⟨zsa, zpa, zta, zla, zsc, zpc, ztc, zlc, rfl, hIz, b7⟩)
            | refine wpList_stN 47 12 Try.sizeRv rfl (.tmp 11) (.tmp 39) rfl w7 _ rfl rfl rfl [.int .i64 y.cf.streams, .int .i64 y.cf.part, .int .i64 y.cf.packet, .int .i64 y.cf.paths, .int .i64 y.cf.turns, .int .i64 y.cf.waiting, .int .i64 y.cf.first, .int .i64 y.cum, .slice zsa y.spans.length zsc, .slice zpa y.pieces.length zpc, .slice zta y.turn.length ztc, .slice zla y.log.length zlc] rfl rfl rfl ?_)
          have s7 := b7.size
          have ZC := Cells.new w7 #[.int .i64 y.cf.streams, .int .i64 y.cf.part, .int .i64 y.cf.packet, .int .i64 y.cf.paths, .int .i64 y.cf.turns, .int .i64 y.cf.waiting, .int .i64 y.cf.first, .int .i64 y.cum, .slice zsa y.spans.length zsc, .slice zpa y.pieces.length zpc, .slice zta y.turn.length ztc, .slice zla y.log.length zlc] 47
          have ZB : Below w7.heap.size w7 (w7.alloc (.cells #[.int .i64 y.cf.streams, .int .i64 y.cf.part, .int .i64 y.cf.packet, .int .i64 y.cf.paths, .int .i64 y.cf.turns, .int .i64 y.cf.waiting, .int .i64 y.cf.first, .int .i64 y.cum, .slice zsa y.spans.length zsc, .slice zpa y.pieces.length zpc, .slice zta y.turn.length ztc, .slice zla y.log.length zlc] 47)) := box_below w7 _
          have hz8 : w7.heap.size < (w7.alloc (.cells #[.int .i64 y.cf.streams, .int .i64 y.cf.part, .int .i64 y.cf.packet, .int .i64 y.cf.paths, .int .i64 y.cf.turns, .int .i64 y.cf.waiting, .int .i64 y.cf.first, .int .i64 y.cum, .slice zsa y.spans.length zsc, .slice zpa y.pieces.length zpc, .slice zta y.turn.length ztc, .slice zla y.log.length zlc] 47)).heap.size := by simp
          have HZ8 := hIz.low.keep (toKeep ZB fun _ hj => hj.2)
          generalize w7.alloc (.cells #[.int .i64 y.cf.streams, .int .i64 y.cf.part, .int .i64 y.cf.packet, .int .i64 y.cf.paths, .int .i64 y.cf.turns, .int .i64 y.cf.waiting, .int .i64 y.cf.first, .int .i64 y.cum, .slice zsa y.spans.length zsc, .slice zpa y.pieces.length zpc, .slice zta y.turn.length ztc, .slice zla y.log.length zlc] 47) = w8 at *
          have B68 : Below w6.heap.size w6 w8 := b7.trans (ZB.mono s7)
          have HC8 : Hid _ := HC6.out.below B68 (by omega)
          have HYC8 : Hid _ := HYC6.out.below B68 (by omega)
          have HY8 := HYI6.out.keep (toKeep B68 fun j hj => by have := hj.2; omega)
          have SR := sameRecv_any y _ _ _ _ _ _ _ _ w8 HY8.r HZ8.r
          have hlen : ¬ ((y.log.length : Int) < (x.log.length : Int)) := by have := HPR.length_le; omega
          have hcum : ¬ (y.cum < x.cum) := by omega
          have x7 := HC8.out.cell 7 _ rfl
          have y0 := HYC8.out.cell 0 _ rfl
          have y1 := HYC8.out.cell 1 _ rfl
          have y2 := HYC8.out.cell 2 _ rfl
          have y3 := HYC8.out.cell 3 _ rfl
          have y4 := HYC8.out.cell 4 _ rfl
          have y5 := HYC8.out.cell 5 _ rfl
          have y6 := HYC8.out.cell 6 _ rfl
          have y7 := HYC8.out.cell 7 _ rfl
          have y8 := HYC8.out.cell 8 _ rfl
          have y9 := HYC8.out.cell 9 _ rfl
          have y10 := HYC8.out.cell 10 _ rfl
          have y11 := HYC8.out.cell 11 _ rfl
          have z0 := ZC.cell 0 _ rfl
          have z1 := ZC.cell 1 _ rfl
          have z2 := ZC.cell 2 _ rfl
          have z3 := ZC.cell 3 _ rfl
          have z4 := ZC.cell 4 _ rfl
          have z5 := ZC.cell 5 _ rfl
          have z6 := ZC.cell 6 _ rfl
          have z7 := ZC.cell 7 _ rfl
          have z8 := ZC.cell 8 _ rfl
          have z9 := ZC.cell 9 _ rfl
          have z10 := ZC.cell 10 _ rfl
          have z11 := ZC.cell 11 _ rfl
          have BR8 : Below w3.heap.size w3 w8 := (BRA.trans (Ba6.mono BRA.size)).trans (B68.mono (by have := BRA.size; omega))
          have HY8' : Hid _ := HY8
          clear CALL2 RNGY RNGQ hIz HZ8 HYI6 HC6 HYC6 HQ6 b7 ZB ZC HY8
          go_wp2_with (go_at_call 22; refine SR.mono ?_; rintro e w9 ⟨rfl, b9⟩)
          have s8 := B68.size
          have HX8 : Hid _ := HIA.out.keep (toKeep (Ba6.trans (B68.mono (by omega))) fun j hj => by have := hj.1; omega)
          have s9 := b9.size
          have HC9 : Hid _ := HC8.out.below b9 (by omega)
          have HYC9 : Hid _ := HYC8.out.below b9 (by omega)
          have HX9 : Hid _ := HX8.out.keep (toKeep b9 fun j hj => by have := hj.1; omega)
          have HY9 : Hid _ := HY8'.out.keep (toKeep b9 fun j hj => by have := hj.2; omega)
          have hxl : x.log.length ≤ 9223372036854775807 := by obtain ⟨_, _, -, g1, g2⟩ := HX9.out.r.l.ex; omega
          have BR9 : Below w3.heap.size w3 w9 := BR8.trans (b9.mono (by have := BR8.size; omega))
          clear y0 y1 y2 y3 y4 y5 y6 y7 y8 y9 y10 y11 z0 z1 z2 z3 z4 z5 z6 z7 z8 z9 z10 z11 x7 SR HIA HX8 HY8' HC8 HYC8 hlen hcum b9 BR8 B68 Ba6 BRA
          generalize wr.heap.size = N at *
          go_loopw [65] (fun i wq => ∃ j : Nat, j ≤ x.log.length ∧ i = .int .i64 j ∧ Below w9.heap.size w9 wq) (fun i _ => x.log.length - (intOf i).toNat)
          case atStart => exact ⟨0, Nat.zero_le _, rfl, Below.refl _ _⟩
          case round =>
            obtain ⟨j, hj, rfl, BS⟩ := hrel
            have sq := BS.size
            have HCq := HC9.out.below BS (by omega)
            have HYq := HYC9.out.below BS (by omega)
            have HXI := HX9.out.keep (toKeep BS fun j hj => by have := hj.1; omega)
            have HYI := HY9.out.keep (toKeep BS fun j hj => by have := hj.2; omega)
            by_cases hlj : j < x.log.length
            · obtain ⟨hjy, heq⟩ := prefix_get HPR j hlj
              obtain ⟨pb, po, pd, hpb, hpx, hpd, p0, p1, p2, p3⟩ := AvS.at HYI.r.l j hjy
              obtain ⟨qb, qo, qd, hqb, hqx, hqd, r0, r1, r2, r3⟩ := AvS.at HXI.r.l j hlj
              rw [heq] at hpd p0 p1 p2
              have T1 : ∀ nq, _ := fun nq => (hpd.below (drewN_below wr.heap.size wr nq) (Nat.le_refl _)).str
              have T2 : ∀ nq, _ := fun nq => (hqd.below (drewN_below wr.heap.size wr nq) (Nat.le_refl _)).str
              obtain ⟨pda, pdc, rfl, -, -⟩ := hpd.ex
              obtain ⟨qda, qdc, rfl, -, -⟩ := hqd.ex
              have x11 := HCq.cell 11 _ rfl
              have y11 := HYq.cell 11 _ rfl
              have hj1 : (j : Int) < (x.log.length : Int) := by omega
              have hj2 : (j : Int) < (y.log.length : Int) := by omega
              clear heq hpd hqd HYI HXI
              generalize x.log[j] = q at *
              have n1 : (q.mid != q.mid) = false := by simp
              have hne1 : ¬ w5.heap.size = w3.heap.size := by omega
              go_upto_region 20 with fail
              go_quiet (fail)
              have BQ : Below w9.heap.size w9 (wr.drewN nq) := BS.trans (drewN_below _ _ _)
              go_wp2_with fail
              go_roundw
              case rel => exact ⟨j + 1, by omega, by go_num, BQ⟩
              case measure => simp [intOf]; omega
            · have hje : j = x.log.length := by omega
              subst hje
              have RNG := HYq.range
              have TH : wr.there w3.heap.size 0 12 := HCq.there
              have CE : Cells w3.heap.size (wr.setCells w3.heap.size 0 [.int .i64 y.cf.streams, .int .i64 y.cf.part, .int .i64 y.cf.packet, .int .i64 y.cf.paths, .int .i64 y.cf.turns, .int .i64 y.cf.waiting, .int .i64 y.cf.first, .int .i64 y.cum, .slice ysa y.spans.length ysc, .slice ypa y.pieces.length ypc, .slice yta y.turn.length ytc, .slice yla y.log.length ylc]) [.int .i64 y.cf.streams, .int .i64 y.cf.part, .int .i64 y.cf.packet, .int .i64 y.cf.paths, .int .i64 y.cf.turns, .int .i64 y.cf.waiting, .int .i64 y.cf.first, .int .i64 y.cum, .slice ysa y.spans.length ysc, .slice ypa y.pieces.length ypc, .slice yta y.turn.length ytc, .slice yla y.log.length ylc] := HCq.setAll _ rfl
              have BE : Below w3.heap.size w3 (wr.setCells w3.heap.size 0 [.int .i64 y.cf.streams, .int .i64 y.cf.part, .int .i64 y.cf.packet, .int .i64 y.cf.paths, .int .i64 y.cf.turns, .int .i64 y.cf.waiting, .int .i64 y.cf.first, .int .i64 y.cum, .slice ysa y.spans.length ysc, .slice ypa y.pieces.length ypc, .slice yta y.turn.length ytc, .slice yla y.log.length ylc]) := Below.setCells (Nat.le_refl _) _ _ (BR9.trans (BS.mono (by have := BR9.size; omega)))
              have KE : Keep (fun k => k ≠ w3.heap.size) wr (wr.setCells w3.heap.size 0 [.int .i64 y.cf.streams, .int .i64 y.cf.part, .int .i64 y.cf.packet, .int .i64 y.cf.paths, .int .i64 y.cf.turns, .int .i64 y.cf.waiting, .int .i64 y.cf.first, .int .i64 y.cum, .slice ysa y.spans.length ysc, .slice ypa y.pieces.length ypc, .slice yta y.turn.length ytc, .slice yla y.log.length ylc]) := Keep.setCells (fun h => h rfl) _ _ (Keep.refl _ _)
              have sE : (wr.setCells w3.heap.size 0 [.int .i64 y.cf.streams, .int .i64 y.cf.part, .int .i64 y.cf.packet, .int .i64 y.cf.paths, .int .i64 y.cf.turns, .int .i64 y.cf.waiting, .int .i64 y.cf.first, .int .i64 y.cum, .slice ysa y.spans.length ysc, .slice ypa y.pieces.length ypc, .slice yta y.turn.length ytc, .slice yla y.log.length ylc]).heap.size = wr.heap.size := size_setCells _ _ _ _
              have YNE : ∀ k, (((k < N ∧ k ≠ w3.heap.size) ∨ wa.heap.size ≤ k) ∧ k < w5.heap.size) → k ≠ w3.heap.size := fun k hk => by rcases hk.1 with h | h <;> omega
              have IE : RvI (fun j => j < (wr.setCells w3.heap.size 0 [.int .i64 y.cf.streams, .int .i64 y.cf.part, .int .i64 y.cf.packet, .int .i64 y.cf.paths, .int .i64 y.cf.turns, .int .i64 y.cf.waiting, .int .i64 y.cf.first, .int .i64 y.cum, .slice ysa y.spans.length ysc, .slice ypa y.pieces.length ypc, .slice yta y.turn.length ytc, .slice yla y.log.length ylc]).heap.size ∧ j ≠ w3.heap.size) (wr.setCells w3.heap.size 0 [.int .i64 y.cf.streams, .int .i64 y.cf.part, .int .i64 y.cf.packet, .int .i64 y.cf.paths, .int .i64 y.cf.turns, .int .i64 y.cf.waiting, .int .i64 y.cf.first, .int .i64 y.cum, .slice ysa y.spans.length ysc, .slice ypa y.pieces.length ypc, .slice yta y.turn.length ytc, .slice yla y.log.length ylc]) y (.slice ysa y.spans.length ysc) (.slice ypa y.pieces.length ypc) (.slice yta y.turn.length ytc) (.slice yla y.log.length ylc) := (HYI.mono fun k hk => ⟨by rw [sE]; have := hk.2; omega, YNE k hk⟩).keep (KE.mono fun k hk => hk.2)
              have HCE : Hid _ := CE
              have HIE : Hid _ := IE
              clear CE IE HCq HYq HXI HYI
              go_wp2_with (first
                | refine wpList_ldR rfl (.tmp 10) rfl w5.heap.size 0 rfl y _ _ _ _ (by with_reducible exact RNG) ?_
                | refine wpList_srN 47 12 Try.sizeRv rfl (.tmp 5) (.tmp 99) rfl w3.heap.size 0 rfl [.int .i64 y.cf.streams, .int .i64 y.cf.part, .int .i64 y.cf.packet, .int .i64 y.cf.paths, .int .i64 y.cf.turns, .int .i64 y.cf.waiting, .int .i64 y.cf.first, .int .i64 y.cum, .slice ysa y.spans.length ysc, .slice ypa y.pieces.length ypc, .slice yta y.turn.length ytc, .slice yla y.log.length ylc] rfl rfl rfl (by with_reducible exact TH) ?_)
              generalize wr.setCells w3.heap.size 0 [.int .i64 y.cf.streams, .int .i64 y.cf.part, .int .i64 y.cf.packet, .int .i64 y.cf.paths, .int .i64 y.cf.turns, .int .i64 y.cf.waiting, .int .i64 y.cf.first, .int .i64 y.cum, .slice ysa y.spans.length ysc, .slice ypa y.pieces.length ypc, .slice yta y.turn.length ytc, .slice yla y.log.length ylc] = wE at *
              go_roundw
              case rel => exact ⟨k + 1, y, _, _, _, _, _, _, _, _, by omega, by go_num, RN, HCE, HIE, BE⟩
              case measure => simp [intOf]; omega
      · have hke : k = l.length := by omega
        subst hke
        go_wp2_with fail
        go_ret
        exact ⟨rfl, BWR⟩

end Go.Proofs.Ytnddejdndipddad
