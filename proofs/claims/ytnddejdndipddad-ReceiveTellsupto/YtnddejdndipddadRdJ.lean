/- The document's receiver, of whatever chunks. -/
import Derived.Test.YtnddejdndipddadRdI
import Derived.Test.YtnddejdndipddadRdC
set_option maxRecDepth 20000
namespace Go.Proofs.Ytnddejdndipddad
open Go.RowKit

/-- A receiver behind these chunks. -/
def buildM (x : Rc) (l : List Ck) : Rc := l.foldl doM x
theorem buildM_snoc (x : Rc) (l : List Ck) (k : Nat) (h : k < l.length) : buildM x (l.take (k + 1)) = doM (buildM x (l.take k)) l[k] := by
  unfold buildM
  rw [List.take_succ_eq_append_getElem h, List.foldl_append]
  rfl
theorem build_run {n : Nat} {c : Cf} (hc : c.streams = (n : Int)) (h0 : 0 ≤ c.first) (h1 : c.first < 65536) (l : List Ck) (hf : ∀ c ∈ l, CkFit c ∧ c.data.length ≤ 1048576) (hn : l.length ≤ 1048576) : ∀ k ≤ l.length, RunR n k (skN (l.take k)) (buildM (newM c) (l.take k))
  | 0, _ => by
    have := RunR.new hc h0 (by omega)
    simpa [skN, buildM] using this
  | k + 1, hk => by
    have ih := build_run hc h0 h1 l hf hn k (by omega)
    obtain ⟨hfc, hdl⟩ := hf _ (List.getElem_mem (show k < l.length by omega))
    rw [buildM_snoc _ _ _ (by omega), skN_snoc l k (by omega)]
    exact ih.step (by omega) hfc hdl

set_option maxHeartbeats 8000000 in
theorem build_any (c : Cf) (n : Nat) (vl : Value) (l : List Ck) (w : World) (hcn : c.streams = (n : Int)) (hn1 : 1 ≤ n) (hn4 : n ≤ 4) (hf0 : 0 ≤ c.first) (hf1 : c.first < 65536) (hl : CksS w.heap.size w vl l) (hf : ∀ c ∈ l, CkFit c ∧ c.data.length ≤ 1048576) (hn : l.length ≤ 1048576) (hs : skN l ≤ 1048576) :
    Calls Try.prog 21 #[.agg #[.int .i64 c.streams, .int .i64 c.part, .int .i64 c.packet, .int .i64 c.paths, .int .i64 c.turns, .int .i64 c.waiting, .int .i64 c.first], vl] w fun e w' => ∃ s p t l', e = .returned (.agg #[.int .i64 (buildM (newM c) l).cf.streams, .int .i64 (buildM (newM c) l).cf.part, .int .i64 (buildM (newM c) l).cf.packet, .int .i64 (buildM (newM c) l).cf.paths, .int .i64 (buildM (newM c) l).cf.turns, .int .i64 (buildM (newM c) l).cf.waiting, .int .i64 (buildM (newM c) l).cf.first, .int .i64 (buildM (newM c) l).cum, s, p, t, l']) ∧ RvI (fun k => k < w'.heap.size) w' (buildM (newM c) l) s p t l' ∧ Below w.heap.size w w' := by
  obtain ⟨la, lcap, rfl, -, -⟩ := hl.ex
  have HL : Hid _ := hl
  have HCN : Hid (c.streams = (n : Int)) := hcn
  have B0 := two_below w (.cells #[.int .i64 c.streams, .int .i64 c.part, .int .i64 c.packet, .int .i64 c.paths, .int .i64 c.turns, .int .i64 c.waiting, .int .i64 c.first] 36) (.cells #[.int .i64 0, .int .i64 0, .int .i64 0, .int .i64 0, .int .i64 0, .int .i64 0, .int .i64 0, .int .i64 0, .slice none 0 0, .slice none 0 0, .slice none 0 0, .slice none 0 0] 47)
  have CB : Cells w.heap.size ((w.alloc (.cells #[.int .i64 c.streams, .int .i64 c.part, .int .i64 c.packet, .int .i64 c.paths, .int .i64 c.turns, .int .i64 c.waiting, .int .i64 c.first] 36)).alloc (.cells #[.int .i64 0, .int .i64 0, .int .i64 0, .int .i64 0, .int .i64 0, .int .i64 0, .int .i64 0, .int .i64 0, .slice none 0 0, .slice none 0 0, .slice none 0 0, .slice none 0 0] 47)) [.int .i64 c.streams, .int .i64 c.part, .int .i64 c.packet, .int .i64 c.paths, .int .i64 c.turns, .int .i64 c.waiting, .int .i64 c.first] := (Cells.new w #[.int .i64 c.streams, .int .i64 c.part, .int .i64 c.packet, .int .i64 c.paths, .int .i64 c.turns, .int .i64 c.waiting, .int .i64 c.first] 36).alloc (by simp) _
  have CT : Cells (w.heap.size + 1) ((w.alloc (.cells #[.int .i64 c.streams, .int .i64 c.part, .int .i64 c.packet, .int .i64 c.paths, .int .i64 c.turns, .int .i64 c.waiting, .int .i64 c.first] 36)).alloc (.cells #[.int .i64 0, .int .i64 0, .int .i64 0, .int .i64 0, .int .i64 0, .int .i64 0, .int .i64 0, .int .i64 0, .slice none 0 0, .slice none 0 0, .slice none 0 0, .slice none 0 0] 47)) [.int .i64 0, .int .i64 0, .int .i64 0, .int .i64 0, .int .i64 0, .int .i64 0, .int .i64 0, .int .i64 0, .slice none 0 0, .slice none 0 0, .slice none 0 0, .slice none 0 0] := Cells.new' (w := w.alloc (.cells #[.int .i64 c.streams, .int .i64 c.part, .int .i64 c.packet, .int .i64 c.paths, .int .i64 c.turns, .int .i64 c.waiting, .int .i64 c.first] 36)) #[.int .i64 0, .int .i64 0, .int .i64 0, .int .i64 0, .int .i64 0, .int .i64 0, .int .i64 0, .int .i64 0, .slice none 0 0, .slice none 0 0, .slice none 0 0, .slice none 0 0] 47 (by simp)
  have hz0 : w.heap.size + 2 ≤ ((w.alloc (.cells #[.int .i64 c.streams, .int .i64 c.part, .int .i64 c.packet, .int .i64 c.paths, .int .i64 c.turns, .int .i64 c.waiting, .int .i64 c.first] 36)).alloc (.cells #[.int .i64 0, .int .i64 0, .int .i64 0, .int .i64 0, .int .i64 0, .int .i64 0, .int .i64 0, .int .i64 0, .slice none 0 0, .slice none 0 0, .slice none 0 0, .slice none 0 0] 47)).heap.size := by simp
  have HRUN : Hid (∀ k ≤ l.length, RunR n k (skN (l.take k)) (buildM (newM c) (l.take k))) := build_run hcn hf0 hf1 l hf hn
  clear hl hcn
  go_enter Try.func21, Try.ntmps21
  go_upto_region 1 with fail
  generalize (w.alloc (.cells #[.int .i64 c.streams, .int .i64 c.part, .int .i64 c.packet, .int .i64 c.paths, .int .i64 c.turns, .int .i64 c.waiting, .int .i64 c.first] 36)).alloc (.cells #[.int .i64 0, .int .i64 0, .int .i64 0, .int .i64 0, .int .i64 0, .int .i64 0, .int .i64 0, .int .i64 0, .slice none 0 0, .slice none 0 0, .slice none 0 0, .slice none 0 0] 47) = w0 at *
  have a0 := CB.cell 0 _ rfl
  have a1 := CB.cell 1 _ rfl
  have a2 := CB.cell 2 _ rfl
  have a3 := CB.cell 3 _ rfl
  have a4 := CB.cell 4 _ rfl
  have a5 := CB.cell 5 _ rfl
  have a6 := CB.cell 6 _ rfl
  have NW := rnewr_any c n w0 HCN.out (by omega) (by omega) (by omega) (by omega)
  have eb : buildM (newM c) (l.take 0) = newM c := rfl
  obtain ⟨x0, hx0⟩ : ∃ x0, x0 = newM c := ⟨_, rfl⟩
  rw [← hx0] at NW HRUN eb
  have HX0 : Hid (x0 = newM c) := hx0
  clear hx0
  go_upto_region 2 with (first | (go_at_call 24; refine NW.mono ?_; rintro e w3 ⟨_, _, _, _, rfl, h3, b3⟩; obtain ⟨xsa, xsc, xpa, xpc, xta, xtc, xla, xlc, rfl, rfl, rfl, rfl⟩ := h3.r.ex) | refine wpList_stN 47 12 Try.sizeRv rfl (.tmp 5) (.tmp 9) rfl w3 _ rfl rfl rfl [.int .i64 x0.cf.streams, .int .i64 x0.cf.part, .int .i64 x0.cf.packet, .int .i64 x0.cf.paths, .int .i64 x0.cf.turns, .int .i64 x0.cf.waiting, .int .i64 x0.cf.first, .int .i64 x0.cum, .slice xsa x0.spans.length xsc, .slice xpa x0.pieces.length xpc, .slice xta x0.turn.length xtc, .slice xla x0.log.length xlc] rfl rfl rfl ?_)
  have s3 := b3.size
  have BW3 : Below w.heap.size w w3 := B0.trans (b3.mono (by omega))
  have CT3 := CT.below b3 (by omega)
  have RC : Cells w3.heap.size (w3.alloc (.cells #[.int .i64 x0.cf.streams, .int .i64 x0.cf.part, .int .i64 x0.cf.packet, .int .i64 x0.cf.paths, .int .i64 x0.cf.turns, .int .i64 x0.cf.waiting, .int .i64 x0.cf.first, .int .i64 x0.cum, .slice xsa x0.spans.length xsc, .slice xpa x0.pieces.length xpc, .slice xta x0.turn.length xtc, .slice xla x0.log.length xlc] 47)) [.int .i64 x0.cf.streams, .int .i64 x0.cf.part, .int .i64 x0.cf.packet, .int .i64 x0.cf.paths, .int .i64 x0.cf.turns, .int .i64 x0.cf.waiting, .int .i64 x0.cf.first, .int .i64 x0.cum, .slice xsa x0.spans.length xsc, .slice xpa x0.pieces.length xpc, .slice xta x0.turn.length xtc, .slice xla x0.log.length xlc] := Cells.new w3 #[.int .i64 x0.cf.streams, .int .i64 x0.cf.part, .int .i64 x0.cf.packet, .int .i64 x0.cf.paths, .int .i64 x0.cf.turns, .int .i64 x0.cf.waiting, .int .i64 x0.cf.first, .int .i64 x0.cum, .slice xsa x0.spans.length xsc, .slice xpa x0.pieces.length xpc, .slice xta x0.turn.length xtc, .slice xla x0.log.length xlc] 47
  have RB : Below w3.heap.size w3 (w3.alloc (.cells #[.int .i64 x0.cf.streams, .int .i64 x0.cf.part, .int .i64 x0.cf.packet, .int .i64 x0.cf.paths, .int .i64 x0.cf.turns, .int .i64 x0.cf.waiting, .int .i64 x0.cf.first, .int .i64 x0.cum, .slice xsa x0.spans.length xsc, .slice xpa x0.pieces.length xpc, .slice xta x0.turn.length xtc, .slice xla x0.log.length xlc] 47)) := box_below w3 _
  have hz4 : w3.heap.size < (w3.alloc (.cells #[.int .i64 x0.cf.streams, .int .i64 x0.cf.part, .int .i64 x0.cf.packet, .int .i64 x0.cf.paths, .int .i64 x0.cf.turns, .int .i64 x0.cf.waiting, .int .i64 x0.cf.first, .int .i64 x0.cum, .slice xsa x0.spans.length xsc, .slice xpa x0.pieces.length xpc, .slice xta x0.turn.length xtc, .slice xla x0.log.length xlc] 47)).heap.size := by simp
  have HI0 : Hid (RvI (fun j => j < (w3.alloc (.cells #[.int .i64 x0.cf.streams, .int .i64 x0.cf.part, .int .i64 x0.cf.packet, .int .i64 x0.cf.paths, .int .i64 x0.cf.turns, .int .i64 x0.cf.waiting, .int .i64 x0.cf.first, .int .i64 x0.cum, .slice xsa x0.spans.length xsc, .slice xpa x0.pieces.length xpc, .slice xta x0.turn.length xtc, .slice xla x0.log.length xlc] 47)).heap.size ∧ j ≠ w3.heap.size ∧ j ≠ w.heap.size + 1) (w3.alloc (.cells #[.int .i64 x0.cf.streams, .int .i64 x0.cf.part, .int .i64 x0.cf.packet, .int .i64 x0.cf.paths, .int .i64 x0.cf.turns, .int .i64 x0.cf.waiting, .int .i64 x0.cf.first, .int .i64 x0.cum, .slice xsa x0.spans.length xsc, .slice xpa x0.pieces.length xpc, .slice xta x0.turn.length xtc, .slice xla x0.log.length xlc] 47)) x0 (.slice xsa x0.spans.length xsc) (.slice xpa x0.pieces.length xpc) (.slice xta x0.turn.length xtc) (.slice xla x0.log.length xlc)) := (h3.low.keep (toKeep RB fun _ hk => hk.2)).mono fun k hk => ⟨by have := hk.2; omega, by have := hk.2; omega, by have := hk.1; omega⟩
  have HRC : Hid _ := RC
  have HCT : Hid _ := CT3.below RB (by omega)
  clear NW a0 a1 a2 a3 a4 a5 a6 h3 b3 RC CB CT CT3 B0
  generalize w3.alloc (.cells #[.int .i64 x0.cf.streams, .int .i64 x0.cf.part, .int .i64 x0.cf.packet, .int .i64 x0.cf.paths, .int .i64 x0.cf.turns, .int .i64 x0.cf.waiting, .int .i64 x0.cf.first, .int .i64 x0.cum, .slice xsa x0.spans.length xsc, .slice xpa x0.pieces.length xpc, .slice xta x0.turn.length xtc, .slice xla x0.log.length xlc] 47) = w4 at *
  obtain ⟨X, hX⟩ : ∃ X, X = w3.heap.size := ⟨_, rfl⟩
  have hwX : w.heap.size + 2 ≤ X := by omega
  have BW4 : Hid (Below w.heap.size w w4) := BW3.trans (RB.mono (by omega))
  rw [← hX] at HRC HI0 hz4
  rw [← hX]
  clear hX BW3 RB hz0 s3
  go_wp2_with fail
  go_loopw [12] (fun i wr => ∃ (k : Nat) (xsa : Option Addr) (xsc : Nat) (xpa : Option Addr) (xpc : Nat) (xta : Option Addr) (xtc : Nat) (xla : Option Addr) (xlc : Nat), k ≤ l.length ∧ i = .int .i64 k ∧ ∃ x, Hid (x = buildM x0 (l.take k)) ∧ Hid (Cells X wr [.int .i64 x.cf.streams, .int .i64 x.cf.part, .int .i64 x.cf.packet, .int .i64 x.cf.paths, .int .i64 x.cf.turns, .int .i64 x.cf.waiting, .int .i64 x.cf.first, .int .i64 x.cum, .slice xsa x.spans.length xsc, .slice xpa x.pieces.length xpc, .slice xta x.turn.length xtc, .slice xla x.log.length xlc]) ∧ Hid (Cells (w.heap.size + 1) wr [.int .i64 0, .int .i64 0, .int .i64 0, .int .i64 0, .int .i64 0, .int .i64 0, .int .i64 0, .int .i64 0, .slice none 0 0, .slice none 0 0, .slice none 0 0, .slice none 0 0]) ∧ Hid (RvI (fun j => j < wr.heap.size ∧ j ≠ X ∧ j ≠ w.heap.size + 1) wr x (.slice xsa x.spans.length xsc) (.slice xpa x.pieces.length xpc) (.slice xta x.turn.length xtc) (.slice xla x.log.length xlc)) ∧ Hid (Below w.heap.size w wr)) (fun i _ => l.length - (intOf i).toNat)
  case atStart => exact ⟨0, _, _, _, _, _, _, _, _, Nat.zero_le _, rfl, x0, rfl, HRC, HCT, HI0, BW4⟩
  case round =>
    obtain ⟨k, xsa, xsc, xpa, xpc, xta, xtc, xla, xlc, hk, rfl, x, HXE, HC, HT, HI, BR⟩ := hrel
    have BWR := BR.out
    have szr := BWR.size
    have hRlt : X < wr.heap.size := World.block_lt_of_cell? _ _ (HC.out.cell 0 _ rfl)
    have HRU : Hid (RunR n k (skN (l.take k)) x) := by rw [HXE.out]; exact HRUN.out k hk
    clear HRC HI0 HCT BW4
    by_cases hlt : k < l.length
    · obtain ⟨b, off, kda, kdc, ksa, ksc, kqa, kqc, hbb, hix, kd, ks, kq, hrng⟩ := CksS.at (SlG.below CkV.bears HL.out BWR (Nat.le_refl _)) k hlt
      obtain ⟨hfc, hdl⟩ := hf _ (List.getElem_mem hlt)
      have HSN : Hid (skN (l.take (k + 1)) = skN (l.take k) + l[k].skips.length) := skN_snoc l k hlt
      have hsl := skN_le l k hlt
      have HNX : Hid (doM x l[k] = buildM x0 (l.take (k + 1))) := by rw [HXE.out]; exact (buildM_snoc _ _ _ hlt).symm
      have HSL : Hid (SnL (fun j => j < wr.heap.size ∧ j ≠ X ∧ j ≠ w.heap.size + 1) wr l[k] (.slice kda l[k].data.length kdc) (.slice ksa l[k].spans.length ksc) (.slice kqa l[k].skips.length kqc)) := (SnL.of kd ks kq (by omega)).mono fun j hj => ⟨by omega, by omega, by omega⟩
      clear kd ks kq HXE
      generalize l[k] = ck at *
      have BA : Below wr.heap.size wr (wr.alloc (.cells #[.int .i64 ck.kind, .int .i64 ck.tag, .int .i64 ck.stream, .int .i64 ck.mid, .int .i64 ck.part, .bool ck.last, .bool ck.ordered, .slice kda ck.data.length kdc, .slice ksa ck.spans.length ksc, .int .i64 ck.room, .slice kqa ck.skips.length kqc] 42)) := box_below wr _
      have QC := Cells.new wr #[.int .i64 ck.kind, .int .i64 ck.tag, .int .i64 ck.stream, .int .i64 ck.mid, .int .i64 ck.part, .bool ck.last, .bool ck.ordered, .slice kda ck.data.length kdc, .slice ksa ck.spans.length ksc, .int .i64 ck.room, .slice kqa ck.skips.length kqc] 42
      have hzA : wr.heap.size < (wr.alloc (.cells #[.int .i64 ck.kind, .int .i64 ck.tag, .int .i64 ck.stream, .int .i64 ck.mid, .int .i64 ck.part, .bool ck.last, .bool ck.ordered, .slice kda ck.data.length kdc, .slice ksa ck.spans.length ksc, .int .i64 ck.room, .slice kqa ck.skips.length kqc] 42)).heap.size := by simp
      go_upto_region 5 with (first
        | refine wpList_ldC rfl (.tmp 14) rfl b off rfl ck _ _ _ (by with_reducible exact hrng) ?_
        | refine wpList_stN 42 11 Try.sizeCk rfl (.tmp 7) (.tmp 15) rfl wr _ rfl rfl rfl [.int .i64 ck.kind, .int .i64 ck.tag, .int .i64 ck.stream, .int .i64 ck.mid, .int .i64 ck.part, .bool ck.last, .bool ck.ordered, .slice kda ck.data.length kdc, .slice ksa ck.spans.length ksc, .int .i64 ck.room, .slice kqa ck.skips.length kqc] rfl rfl rfl ?_)
      generalize wr.alloc (.cells #[.int .i64 ck.kind, .int .i64 ck.tag, .int .i64 ck.stream, .int .i64 ck.mid, .int .i64 ck.part, .bool ck.last, .bool ck.ordered, .slice kda ck.data.length kdc, .slice ksa ck.spans.length ksc, .int .i64 ck.room, .slice kqa ck.skips.length kqc] 42) = wa at *
      have hQlt : wr.heap.size < wa.heap.size := hzA
      have HCa : Hid _ := HC.out.below BA hRlt
      have HTa : Hid _ := HT.out.below BA (by omega)
      have HIA : Hid (RvI (fun j => j < wr.heap.size ∧ j ≠ X ∧ j ≠ w.heap.size + 1) wa x (.slice xsa x.spans.length xsc) (.slice xpa x.pieces.length xpc) (.slice xta x.turn.length xtc) (.slice xla x.log.length xlc)) := HI.out.keep (toKeep BA fun _ hj => hj.1)
      have HSA : Hid _ := HSL.out.keep (toKeep BA fun _ hj => hj.1)
      have BRA : Hid (Below w.heap.size w wa) := BWR.trans (BA.mono szr)
      have HQC : Hid _ := QC
      have q0 := QC.cell 0 _ rfl
      clear QC HI HC HT HSL BA BR BWR hbb hix hrng
      cases hk3 : (ck.kind == 3) with
      | true =>
        have HK3 : Hid (ck.kind = 3) := by show _ = _; simpa using hk3
        go_upto_region 6 with fail
        have CALL := rdo2_in 31 (fun j => j < wr.heap.size ∧ j ≠ X ∧ j ≠ w.heap.size + 1) n k (skN (l.take k)) x ck _ _ _ _ _ _ _ wa (.inl ⟨HK3.out, rfl⟩) HIA.out (fun j hj => by have := hj.1; omega) HSA.out hfc hdl HRU.out (by omega) hn4 (by omega) (fun _ => by omega)
        have RNGR := HCa.out.range
        have RNGQ := HQC.out.range
        have TH : ∀ w5, Below wa.heap.size wa w5 → w5.there X 0 12 := fun w5 b5 => (HCa.out.below b5 (by omega)).there
        clear q0
        obtain ⟨y, hy⟩ : ∃ y, y = doM x ck := ⟨_, rfl⟩
        rw [← hy] at CALL HNX
        clear hy
        go_upto_region 8 with (first
          | refine wpList_ldR rfl (.tmp 5) rfl X 0 rfl x _ _ _ _ (by with_reducible exact RNGR) ?_
          | refine wpList_ldC rfl (.tmp 7) rfl wr.heap.size 0 rfl ck _ _ _ (by with_reducible exact RNGQ) ?_
          | (go_at_call 31; refine CALL.mono ?_; rintro e w5 ⟨_, _, _, _, rfl, hIy, b5⟩; obtain ⟨ysa, ysc, ypa, ypc, yta, ytc, yla, ylc, rfl, rfl, rfl, rfl⟩ := hIy.r.ex)
          | refine wpList_srN 47 12 Try.sizeRv rfl (.tmp 5) (.tmp 21) rfl X 0 rfl [.int .i64 y.cf.streams, .int .i64 y.cf.part, .int .i64 y.cf.packet, .int .i64 y.cf.paths, .int .i64 y.cf.turns, .int .i64 y.cf.waiting, .int .i64 y.cf.first, .int .i64 y.cum, .slice ysa y.spans.length ysc, .slice ypa y.pieces.length ypc, .slice yta y.turn.length ytc, .slice yla y.log.length ylc] rfl rfl rfl (by with_reducible exact TH _ b5) ?_)
        have s5 := b5.size
        have KE : Keep (fun k => k ≠ X) w5 (w5.setCells X 0 [.int .i64 y.cf.streams, .int .i64 y.cf.part, .int .i64 y.cf.packet, .int .i64 y.cf.paths, .int .i64 y.cf.turns, .int .i64 y.cf.waiting, .int .i64 y.cf.first, .int .i64 y.cum, .slice ysa y.spans.length ysc, .slice ypa y.pieces.length ypc, .slice yta y.turn.length ytc, .slice yla y.log.length ylc]) := Keep.setCells (fun h => h rfl) _ _ (Keep.refl _ _)
        have sE : (w5.setCells X 0 [.int .i64 y.cf.streams, .int .i64 y.cf.part, .int .i64 y.cf.packet, .int .i64 y.cf.paths, .int .i64 y.cf.turns, .int .i64 y.cf.waiting, .int .i64 y.cf.first, .int .i64 y.cum, .slice ysa y.spans.length ysc, .slice ypa y.pieces.length ypc, .slice yta y.turn.length ytc, .slice yla y.log.length ylc]).heap.size = w5.heap.size := size_setCells _ _ _ _
        have HCE : Hid _ := (HCa.out.below b5 (by omega)).setAll [.int .i64 y.cf.streams, .int .i64 y.cf.part, .int .i64 y.cf.packet, .int .i64 y.cf.paths, .int .i64 y.cf.turns, .int .i64 y.cf.waiting, .int .i64 y.cf.first, .int .i64 y.cum, .slice ysa y.spans.length ysc, .slice ypa y.pieces.length ypc, .slice yta y.turn.length ytc, .slice yla y.log.length ylc] rfl
        have HTE : Hid _ := (HTa.out.below b5 (by omega)).keep KE (by omega)
        have HIE : Hid (RvI (fun j => j < (w5.setCells X 0 [.int .i64 y.cf.streams, .int .i64 y.cf.part, .int .i64 y.cf.packet, .int .i64 y.cf.paths, .int .i64 y.cf.turns, .int .i64 y.cf.waiting, .int .i64 y.cf.first, .int .i64 y.cum, .slice ysa y.spans.length ysc, .slice ypa y.pieces.length ypc, .slice yta y.turn.length ytc, .slice yla y.log.length ylc]).heap.size ∧ j ≠ X ∧ j ≠ w.heap.size + 1) (w5.setCells X 0 [.int .i64 y.cf.streams, .int .i64 y.cf.part, .int .i64 y.cf.packet, .int .i64 y.cf.paths, .int .i64 y.cf.turns, .int .i64 y.cf.waiting, .int .i64 y.cf.first, .int .i64 y.cum, .slice ysa y.spans.length ysc, .slice ypa y.pieces.length ypc, .slice yta y.turn.length ytc, .slice yla y.log.length ylc]) y (.slice ysa y.spans.length ysc) (.slice ypa y.pieces.length ypc) (.slice yta y.turn.length ytc) (.slice yla y.log.length ylc)) := (hIy.low.mono fun k hk => ⟨by rw [sE]; exact hk.2, by rcases hk.1 with h | h <;> omega, by rcases hk.1 with h | h <;> omega⟩).keep (KE.mono fun k hk => hk.2.1)
        have BE : Hid (Below w.heap.size w (w5.setCells X 0 [.int .i64 y.cf.streams, .int .i64 y.cf.part, .int .i64 y.cf.packet, .int .i64 y.cf.paths, .int .i64 y.cf.turns, .int .i64 y.cf.waiting, .int .i64 y.cf.first, .int .i64 y.cum, .slice ysa y.spans.length ysc, .slice ypa y.pieces.length ypc, .slice yta y.turn.length ytc, .slice yla y.log.length ylc])) := Below.setCells (by omega) _ _ (BRA.out.trans (b5.mono (by have := BRA.out.size; omega)))
        clear CALL RNGR RNGQ TH hIy KE sE HCa HTa HIA HSA HQC BRA HRU b5
        generalize w5.setCells X 0 [.int .i64 y.cf.streams, .int .i64 y.cf.part, .int .i64 y.cf.packet, .int .i64 y.cf.paths, .int .i64 y.cf.turns, .int .i64 y.cf.waiting, .int .i64 y.cf.first, .int .i64 y.cum, .slice ysa y.spans.length ysc, .slice ypa y.pieces.length ypc, .slice yta y.turn.length ytc, .slice yla y.log.length ylc] = wE at *
        go_wp2_with fail
        go_roundw
        case rel => exact ⟨k + 1, _, _, _, _, _, _, _, _, by omega, by go_num, y, HNX, HCE, HTE, HIE, BE⟩
        case measure => simp [intOf]; omega
      | false =>
        have HK3 : Hid (¬ ck.kind = 3) := by show ¬ _; simpa using hk3
        go_upto_region 7 with fail
        have CALL := rdo2_in 29 (fun j => j < wr.heap.size ∧ j ≠ X ∧ j ≠ w.heap.size + 1) n k (skN (l.take k)) x ck _ _ _ _ _ _ _ wa (.inr ⟨HK3.out, rfl⟩) HIA.out (fun j hj => by have := hj.1; omega) HSA.out hfc hdl HRU.out (by omega) hn4 (by omega) (fun _ => by omega)
        have RNGR := HCa.out.range
        have RNGQ := HQC.out.range
        have TH : ∀ w5, Below wa.heap.size wa w5 → w5.there X 0 12 := fun w5 b5 => (HCa.out.below b5 (by omega)).there
        clear q0
        obtain ⟨y, hy⟩ : ∃ y, y = doM x ck := ⟨_, rfl⟩
        rw [← hy] at CALL HNX
        clear hy
        go_upto_region 8 with (first
          | refine wpList_ldR rfl (.tmp 5) rfl X 0 rfl x _ _ _ _ (by with_reducible exact RNGR) ?_
          | refine wpList_ldC rfl (.tmp 7) rfl wr.heap.size 0 rfl ck _ _ _ (by with_reducible exact RNGQ) ?_
          | (go_at_call 29; refine CALL.mono ?_; rintro e w5 ⟨_, _, _, _, rfl, hIy, b5⟩; obtain ⟨ysa, ysc, ypa, ypc, yta, ytc, yla, ylc, rfl, rfl, rfl, rfl⟩ := hIy.r.ex)
          | refine wpList_srN 47 12 Try.sizeRv rfl (.tmp 5) (.tmp 24) rfl X 0 rfl [.int .i64 y.cf.streams, .int .i64 y.cf.part, .int .i64 y.cf.packet, .int .i64 y.cf.paths, .int .i64 y.cf.turns, .int .i64 y.cf.waiting, .int .i64 y.cf.first, .int .i64 y.cum, .slice ysa y.spans.length ysc, .slice ypa y.pieces.length ypc, .slice yta y.turn.length ytc, .slice yla y.log.length ylc] rfl rfl rfl (by with_reducible exact TH _ b5) ?_)
        have s5 := b5.size
        have KE : Keep (fun k => k ≠ X) w5 (w5.setCells X 0 [.int .i64 y.cf.streams, .int .i64 y.cf.part, .int .i64 y.cf.packet, .int .i64 y.cf.paths, .int .i64 y.cf.turns, .int .i64 y.cf.waiting, .int .i64 y.cf.first, .int .i64 y.cum, .slice ysa y.spans.length ysc, .slice ypa y.pieces.length ypc, .slice yta y.turn.length ytc, .slice yla y.log.length ylc]) := Keep.setCells (fun h => h rfl) _ _ (Keep.refl _ _)
        have sE : (w5.setCells X 0 [.int .i64 y.cf.streams, .int .i64 y.cf.part, .int .i64 y.cf.packet, .int .i64 y.cf.paths, .int .i64 y.cf.turns, .int .i64 y.cf.waiting, .int .i64 y.cf.first, .int .i64 y.cum, .slice ysa y.spans.length ysc, .slice ypa y.pieces.length ypc, .slice yta y.turn.length ytc, .slice yla y.log.length ylc]).heap.size = w5.heap.size := size_setCells _ _ _ _
        have HCE : Hid _ := (HCa.out.below b5 (by omega)).setAll [.int .i64 y.cf.streams, .int .i64 y.cf.part, .int .i64 y.cf.packet, .int .i64 y.cf.paths, .int .i64 y.cf.turns, .int .i64 y.cf.waiting, .int .i64 y.cf.first, .int .i64 y.cum, .slice ysa y.spans.length ysc, .slice ypa y.pieces.length ypc, .slice yta y.turn.length ytc, .slice yla y.log.length ylc] rfl
        have HTE : Hid _ := (HTa.out.below b5 (by omega)).keep KE (by omega)
        have HIE : Hid (RvI (fun j => j < (w5.setCells X 0 [.int .i64 y.cf.streams, .int .i64 y.cf.part, .int .i64 y.cf.packet, .int .i64 y.cf.paths, .int .i64 y.cf.turns, .int .i64 y.cf.waiting, .int .i64 y.cf.first, .int .i64 y.cum, .slice ysa y.spans.length ysc, .slice ypa y.pieces.length ypc, .slice yta y.turn.length ytc, .slice yla y.log.length ylc]).heap.size ∧ j ≠ X ∧ j ≠ w.heap.size + 1) (w5.setCells X 0 [.int .i64 y.cf.streams, .int .i64 y.cf.part, .int .i64 y.cf.packet, .int .i64 y.cf.paths, .int .i64 y.cf.turns, .int .i64 y.cf.waiting, .int .i64 y.cf.first, .int .i64 y.cum, .slice ysa y.spans.length ysc, .slice ypa y.pieces.length ypc, .slice yta y.turn.length ytc, .slice yla y.log.length ylc]) y (.slice ysa y.spans.length ysc) (.slice ypa y.pieces.length ypc) (.slice yta y.turn.length ytc) (.slice yla y.log.length ylc)) := (hIy.low.mono fun k hk => ⟨by rw [sE]; exact hk.2, by rcases hk.1 with h | h <;> omega, by rcases hk.1 with h | h <;> omega⟩).keep (KE.mono fun k hk => hk.2.1)
        have BE : Hid (Below w.heap.size w (w5.setCells X 0 [.int .i64 y.cf.streams, .int .i64 y.cf.part, .int .i64 y.cf.packet, .int .i64 y.cf.paths, .int .i64 y.cf.turns, .int .i64 y.cf.waiting, .int .i64 y.cf.first, .int .i64 y.cum, .slice ysa y.spans.length ysc, .slice ypa y.pieces.length ypc, .slice yta y.turn.length ytc, .slice yla y.log.length ylc])) := Below.setCells (by omega) _ _ (BRA.out.trans (b5.mono (by have := BRA.out.size; omega)))
        clear CALL RNGR RNGQ TH hIy KE sE HCa HTa HIA HSA HQC BRA HRU b5
        generalize w5.setCells X 0 [.int .i64 y.cf.streams, .int .i64 y.cf.part, .int .i64 y.cf.packet, .int .i64 y.cf.paths, .int .i64 y.cf.turns, .int .i64 y.cf.waiting, .int .i64 y.cf.first, .int .i64 y.cum, .slice ysa y.spans.length ysc, .slice ypa y.pieces.length ypc, .slice yta y.turn.length ytc, .slice yla y.log.length ylc] = wE at *
        go_wp2_with fail
        go_roundw
        case rel => exact ⟨k + 1, _, _, _, _, _, _, _, _, by omega, by go_num, y, HNX, HCE, HTE, HIE, BE⟩
        case measure => simp [intOf]; omega
    · have hke : k = l.length := by omega
      subst hke
      have HE : x = buildM x0 l := by have := HXE.out; rwa [List.take_length] at this
      have RNG := HC.out.range
      have TH : wr.there (w.heap.size + 1) 0 12 := HT.out.there
      have CE : Cells (w.heap.size + 1) (wr.setCells (w.heap.size + 1) 0 [.int .i64 x.cf.streams, .int .i64 x.cf.part, .int .i64 x.cf.packet, .int .i64 x.cf.paths, .int .i64 x.cf.turns, .int .i64 x.cf.waiting, .int .i64 x.cf.first, .int .i64 x.cum, .slice xsa x.spans.length xsc, .slice xpa x.pieces.length xpc, .slice xta x.turn.length xtc, .slice xla x.log.length xlc]) [.int .i64 x.cf.streams, .int .i64 x.cf.part, .int .i64 x.cf.packet, .int .i64 x.cf.paths, .int .i64 x.cf.turns, .int .i64 x.cf.waiting, .int .i64 x.cf.first, .int .i64 x.cum, .slice xsa x.spans.length xsc, .slice xpa x.pieces.length xpc, .slice xta x.turn.length xtc, .slice xla x.log.length xlc] := HT.out.setAll _ rfl
      have BE : Below w.heap.size w (wr.setCells (w.heap.size + 1) 0 [.int .i64 x.cf.streams, .int .i64 x.cf.part, .int .i64 x.cf.packet, .int .i64 x.cf.paths, .int .i64 x.cf.turns, .int .i64 x.cf.waiting, .int .i64 x.cf.first, .int .i64 x.cum, .slice xsa x.spans.length xsc, .slice xpa x.pieces.length xpc, .slice xta x.turn.length xtc, .slice xla x.log.length xlc]) := Below.setCells (Nat.le_succ _) _ _ BWR
      have KE : Keep (fun k => k ≠ w.heap.size + 1) wr (wr.setCells (w.heap.size + 1) 0 [.int .i64 x.cf.streams, .int .i64 x.cf.part, .int .i64 x.cf.packet, .int .i64 x.cf.paths, .int .i64 x.cf.turns, .int .i64 x.cf.waiting, .int .i64 x.cf.first, .int .i64 x.cum, .slice xsa x.spans.length xsc, .slice xpa x.pieces.length xpc, .slice xta x.turn.length xtc, .slice xla x.log.length xlc]) := Keep.setCells (fun h => h rfl) _ _ (Keep.refl _ _)
      have sE : (wr.setCells (w.heap.size + 1) 0 [.int .i64 x.cf.streams, .int .i64 x.cf.part, .int .i64 x.cf.packet, .int .i64 x.cf.paths, .int .i64 x.cf.turns, .int .i64 x.cf.waiting, .int .i64 x.cf.first, .int .i64 x.cum, .slice xsa x.spans.length xsc, .slice xpa x.pieces.length xpc, .slice xta x.turn.length xtc, .slice xla x.log.length xlc]).heap.size = wr.heap.size := size_setCells _ _ _ _
      have IE : RvI (fun j => j < (wr.setCells (w.heap.size + 1) 0 [.int .i64 x.cf.streams, .int .i64 x.cf.part, .int .i64 x.cf.packet, .int .i64 x.cf.paths, .int .i64 x.cf.turns, .int .i64 x.cf.waiting, .int .i64 x.cf.first, .int .i64 x.cum, .slice xsa x.spans.length xsc, .slice xpa x.pieces.length xpc, .slice xta x.turn.length xtc, .slice xla x.log.length xlc]).heap.size) (wr.setCells (w.heap.size + 1) 0 [.int .i64 x.cf.streams, .int .i64 x.cf.part, .int .i64 x.cf.packet, .int .i64 x.cf.paths, .int .i64 x.cf.turns, .int .i64 x.cf.waiting, .int .i64 x.cf.first, .int .i64 x.cum, .slice xsa x.spans.length xsc, .slice xpa x.pieces.length xpc, .slice xta x.turn.length xtc, .slice xla x.log.length xlc]) x (.slice xsa x.spans.length xsc) (.slice xpa x.pieces.length xpc) (.slice xta x.turn.length xtc) (.slice xla x.log.length xlc) := (HI.out.keep (KE.mono fun k hk => hk.2.2)).mono fun k hk => by rw [sE]; exact hk.1
      have HCE : Hid _ := CE
      have HIE : Hid _ := IE
      have HBE : Hid _ := BE
      have RE := CE.range
      have HEH : Hid (x = buildM (newM c) l) := by rw [← HX0.out]; exact HE
      clear CE IE BE KE HC HT HI sE HE HXE HRU
      go_wp2_with (first
        | refine wpList_ldR rfl (.tmp 5) rfl X 0 rfl x _ _ _ _ (by with_reducible exact RNG) ?_
        | refine wpList_srN 47 12 Try.sizeRv rfl (.tmp 4) (.tmp 26) rfl (w.heap.size + 1) 0 rfl [.int .i64 x.cf.streams, .int .i64 x.cf.part, .int .i64 x.cf.packet, .int .i64 x.cf.paths, .int .i64 x.cf.turns, .int .i64 x.cf.waiting, .int .i64 x.cf.first, .int .i64 x.cum, .slice xsa x.spans.length xsc, .slice xpa x.pieces.length xpc, .slice xta x.turn.length xtc, .slice xla x.log.length xlc] rfl rfl rfl (by with_reducible exact TH) ?_)
      generalize wr.setCells (w.heap.size + 1) 0 [.int .i64 x.cf.streams, .int .i64 x.cf.part, .int .i64 x.cf.packet, .int .i64 x.cf.paths, .int .i64 x.cf.turns, .int .i64 x.cf.waiting, .int .i64 x.cf.first, .int .i64 x.cum, .slice xsa x.spans.length xsc, .slice xpa x.pieces.length xpc, .slice xta x.turn.length xtc, .slice xla x.log.length xlc] = wE at *
      have e0 := HCE.out.cell 0 _ rfl
      have e1 := HCE.out.cell 1 _ rfl
      have e2 := HCE.out.cell 2 _ rfl
      have e3 := HCE.out.cell 3 _ rfl
      have e4 := HCE.out.cell 4 _ rfl
      have e5 := HCE.out.cell 5 _ rfl
      have e6 := HCE.out.cell 6 _ rfl
      have e7 := HCE.out.cell 7 _ rfl
      have e8 := HCE.out.cell 8 _ rfl
      have e9 := HCE.out.cell 9 _ rfl
      have e10 := HCE.out.cell 10 _ rfl
      have e11 := HCE.out.cell 11 _ rfl
      refine bodyPost_ret (v := .agg #[.int .i64 x.cf.streams, .int .i64 x.cf.part, .int .i64 x.cf.packet, .int .i64 x.cf.paths, .int .i64 x.cf.turns, .int .i64 x.cf.waiting, .int .i64 x.cf.first, .int .i64 x.cum, .slice xsa x.spans.length xsc, .slice xpa x.pieces.length xpc, .slice xta x.turn.length xtc, .slice xla x.log.length xlc]) (by simp [results, Try.results21, go_sem, e0, e1, e2, e3, e4, e5, e6, e7, e8, e9, e10, e11]) rfl ?_
      rw [← HEH.out]
      exact ⟨_, _, _, _, rfl, HIE.out, HBE.out⟩

end Go.Proofs.Ytnddejdndipddad
