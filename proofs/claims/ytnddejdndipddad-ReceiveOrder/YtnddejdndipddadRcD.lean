/- The contract of slices.DeleteFunc, of pieces: those of a message go. -/
import Derived.Test.YtnddejdndipddadRcC
set_option maxRecDepth 20000
namespace Go.Proofs.Ytnddejdndipddad
open Go.RowKit

/-- The first piece of a message, or -1. -/
def FirstM (l : List Pc) (m : Ms) (k : Int) : Prop := (k = -1 ∧ ∀ x ∈ l, isM m x = false) ∨ ∃ i : Nat, k = (i : Int) ∧ ∃ h : i < l.length, isM m l[i] = true ∧ ∀ x ∈ l.take i, isM m x = false
/-- A piece at a place, written out. -/
theorem PcS.range {B : Nat} {w : World} {a : Option Addr} {n cap : Nat} {l : List Pc} (h : PcS B w (.slice a n cap) l) (k : Nat) (hk : k < l.length) :
    ∃ b off da dc sa sc qa qc, b < B ∧ (∀ wx, (Instr.indexAt 44 (.slice a n cap) (.int .i64 (k : Int))).run Try.prog wx = .ok (.pointer (some ⟨b, off, none⟩)) wx) ∧
      By B w (.slice da l[k].ck.data.length dc) l[k].ck.data ∧ Sl B w (.slice sa l[k].ck.spans.length sc) l[k].ck.spans ∧ Kl B w (.slice qa l[k].ck.skips.length qc) l[k].ck.skips ∧
      w.rangeAt b off [.int .i64 l[k].number, .int .i64 l[k].ck.kind, .int .i64 l[k].ck.tag, .int .i64 l[k].ck.stream, .int .i64 l[k].ck.mid, .int .i64 l[k].ck.part, .bool l[k].ck.last, .bool l[k].ck.ordered, .slice da l[k].ck.data.length dc, .slice sa l[k].ck.spans.length sc, .int .i64 l[k].ck.room, .slice qa l[k].ck.skips.length qc] := by
  obtain ⟨b, off, v, hb, rfl, rfl, hc, e⟩ := SlG.at PcV.bears h k hk
  obtain ⟨d, s, q, rfl, h1, h2, h3⟩ := hc
  obtain ⟨da, dc, rfl, -, -⟩ := h1.ex
  obtain ⟨sa, sc, rfl⟩ := h2.ex
  obtain ⟨qa, qc, rfl, -, -⟩ := h3.ex
  refine ⟨b, off + k * 12, da, dc, sa, sc, qa, qc, hb, fun wx => ?_, h1, h2, h3, fun j u hu => ?_⟩
  · have : (k : Int) < l.length := by omega
    go_simp
  · exact e j u (by have := (List.getElem?_eq_some_iff.1 hu).1; exact this) hu

set_option maxHeartbeats 1000000 in
theorem indexPc_any (N : Nat) (m : Ms) (v : Value) (l : List Pc) (w : World) (hv : PcS w.heap.size w v l) (hN : MsAt w N m) (hNlt : N < w.heap.size) :
    Calls Try.prog 88 #[v, .func (.func 85) #[] #[.pointer (some ⟨N, 0, none⟩)]] w fun e w' => ∃ k, e = .returned (.int .i64 k) ∧ FirstM l m k ∧ Below w.heap.size w w' := by
  have HV := hv
  obtain ⟨a, cap, rfl, h1, h2⟩ := hv.ex
  have HE := enters_of1
  go_enter Try.func88, Try.ntmps88
  go_wp2_with fail
  go_loopw [8] (fun i wr => ∃ k : Nat, k ≤ l.length ∧ i = .int .i64 k ∧ (∀ x ∈ l.take k, isM m x = false) ∧ Below w.heap.size w wr) (fun i _ => l.length - (intOf i).toNat)
  case atStart => exact ⟨0, Nat.zero_le _, rfl, fun x hx => by simp at hx, Below.refl _ _⟩
  case round =>
    obtain ⟨k, hk, rfl, hno, BR⟩ := hrel
    have HNO : Hid (∀ x ∈ l.take k, isM m x = false) := hno
    clear hno
    by_cases hlt : k < l.length
    · obtain ⟨b, off, da, dc, sa, sc, qa, qc, hb, hix, -, -, -, hat⟩ := PcS.range (SlG.below PcV.bears HV BR (Nat.le_refl _)) k hlt
      have szr := BR.size
      have AS := of1_any l[k] da l[k].ck.data.length dc sa l[k].ck.spans.length sc qa l[k].ck.skips.length qc N m wr (hN.below BR hNlt) (by omega)
      have HX : Hid (l.take (k + 1) = l.take k ++ [l[k]]) := List.take_succ_eq_append_getElem hlt
      have HI : Hid (isM m l[k] = true → FirstM l m (k : Int)) := fun h => .inr ⟨k, rfl, hlt, h, HNO.out⟩
      generalize l[k] = x at *
      go_wp2_with (refine wpList_ldP rfl (.tmp 14) rfl b off rfl x _ _ _ (by with_reducible exact hat) ?_)
      refine AS.mono ?_
      rintro e w1 ⟨rfl, b1⟩
      have B1 := BR.trans (b1.mono BR.size)
      cases hq : isM m x with
      | true =>
        have FI := HI.out hq
        go_wp2_with fail
        go_ret
        exact ⟨_, rfl, FI, B1⟩
      | false =>
        have HN2 : Hid (∀ y ∈ l.take (k + 1), isM m y = false) := fun y hy => by
          rw [HX.out, List.mem_append] at hy
          rcases hy with hy | hy
          · exact HNO.out y hy
          · simp at hy; subst hy; exact hq
        go_wp2_with fail
        go_roundw
        case rel => exact ⟨k + 1, by omega, by go_num, HN2.out, B1⟩
        case measure => simp [intOf]; omega
    · have hkl : k = l.length := by omega
      subst hkl
      have FI : FirstM l m (-1) := .inl ⟨rfl, by have := HNO.out; rwa [List.take_of_length_le (Nat.le_refl _)] at this⟩
      go_wp2_with fail
      go_ret
      exact ⟨_, rfl, FI, BR⟩

theorem run_clear_pcs (w : World) (b o n c : Nat) (hn : 0 < n) (hc : ∀ j, j < n * 12 → (w.cell? ⟨b, o + j, none⟩).isSome = true) (hf : ∀ j, j < n * 12 → w.frozen? ⟨b, o + j, none⟩ = false) :
    ∃ zs : List Value, zs.length = n * 12 ∧ ∀ ty, (Builtin.clear_ #[44] ty #[.slice (some ⟨b, o, none⟩) n c]).run Try.prog w = .ok (.tuple #[]) (w.setCells b o zs) := by
  generalize hz : (Value.agg #[.int .i64 0, .int .i64 0, .int .i64 0, .int .i64 0, .int .i64 0, .int .i64 0, .bool false, .bool false, .slice none 0 0, .slice none 0 0, .int .i64 0, .slice none 0 0]) = z
  have hv : ∀ w, (zeroValue 71).run Try.prog w = .ok z w := fun w => by rw [← hz]; exact Try.zeroValue71 w
  have h20 : z.cells.size = 12 := by rw [← hz]; rfl
  have h1a : ∀ u ∈ z.cells.toList, u.oneCell' = true := by rw [← hz]; exact List.all_eq_true.1 rfl
  have h1c : ∀ i, i < 12 → (z.cells[i]!).oneCell' = true := by
    intro i hi
    rw [getElem!_pos z.cells i (by omega)]
    exact h1a _ (by simp)
  have hl : (Builtin.zeroCells z.cells n).toList.length = n * 12 := by simp [Builtin.zeroCells, h20]
  have hst := run_storeCells_cells (P := Try.prog) b o (Builtin.zeroCells z.cells n).toList 0 w (by rw [hl]; simpa using hc) (by rw [hl]; simpa using hf) (by
    intro v hv'
    simp only [Builtin.zeroCells, Array.toList_map, List.mem_map, h20] at hv'
    obtain ⟨i, _, rfl⟩ := hv'
    exact h1c _ (Nat.mod_lt _ (by decide)))
  simp only [Nat.add_zero] at hst
  refine ⟨_, hl, fun ty => ?_⟩
  obtain ⟨m, rfl⟩ : ∃ m, n = m + 1 := ⟨n - 1, by omega⟩
  simp [Builtin.clear_, run_underlying Try.underlying44, hv, hst]
theorem run_pc_lo (g n c lo : Nat) (h : lo < n) (hc : n ≤ c) (wx : World) : (Instr.slice 44 (.slice (some ⟨g, 0, none⟩) n c) (some (.int .i64 lo)) none none).run Try.prog wx = .ok (.slice (some ⟨g, lo * 12, none⟩) (n - lo) (c - lo)) wx := by
  have h1 : ¬ c = lo := by omega
  have h2 : lo ≤ n := by omega
  go_simp
theorem run_pc_hi (g n c hi : Nat) (h : hi ≤ c) (wx : World) : (Instr.slice 44 (.slice (some ⟨g, 0, none⟩) n c) none (some (.int .i64 hi)) none).run Try.prog wx = .ok (.slice (some ⟨g, 0, none⟩) hi c) wx := by
  have h1 : (0 : Int) ≤ hi := by omega
  have h2 : (hi : Int) ≤ c := by omega
  rw [run_slice_h wx 44 (some ⟨g, 0, none⟩) n c Try.underlying44 .i64 (hi : Int) h1 h2]
  go_simp
theorem run_pc_at (g n c k : Nat) (h : k < n) (wx : World) : (Instr.indexAt 44 (.slice (some ⟨g, 0, none⟩) n c) (.int .i64 (k : Int))).run Try.prog wx = .ok (.pointer (some ⟨g, k * 12, none⟩)) wx := by
  have : (k : Int) < n := by omega
  go_simp

/-- Those left so far lie first, those that are to come where they were. -/
structure DelP (m : Ms) (l L : List Pc) (J : Nat) : Prop where
  len : L.length = l.length
  lo : L.take (restM m (l.take J)).length = restM m (l.take J)
  hi : L.drop J = l.drop J
  lt : (restM m (l.take J)).length < J
theorem restM_snoc (m : Ms) (l : List Pc) (J : Nat) (h : J < l.length) : restM m (l.take (J + 1)) = restM m (l.take J) ++ (if isM m l[J] = true then [] else [l[J]]) := by
  rw [List.take_succ_eq_append_getElem h, restM, restM, List.filter_append]
  congr 1
  cases e : isM m l[J] <;> simp [e]
theorem DelP.at {m : Ms} {l L : List Pc} {J : Nat} (h : DelP m l L J) (hJ : J < l.length) : L[J]? = some l[J] := by
  have := congrArg (·[0]?) h.hi
  simpa [hJ] using this
theorem DelP.drop {m : Ms} {l L : List Pc} {J : Nat} (h : DelP m l L J) (hJ : J < l.length) (hd : isM m l[J] = true) : DelP m l L (J + 1) := by
  have e := restM_snoc m l J hJ
  rw [if_pos hd, List.append_nil] at e
  have ht := congrArg (·.drop 1) h.hi
  exact ⟨h.len, by rw [e]; exact h.lo, by simpa [List.drop_drop, Nat.add_comm] using ht, by rw [e]; have := h.lt; omega⟩
theorem DelP.keep {m : Ms} {l L : List Pc} {J : Nat} (h : DelP m l L J) (hJ : J < l.length) (hd : isM m l[J] = false) : DelP m l (L.set (restM m (l.take J)).length l[J]) (J + 1) ∧ (restM m (l.take (J + 1))).length = (restM m (l.take J)).length + 1 := by
  have e := restM_snoc m l J hJ
  rw [if_neg (by simp [hd])] at e
  have hlt := h.lt
  have hlen := h.len
  have e2 : (restM m (l.take (J + 1))).length = (restM m (l.take J)).length + 1 := by rw [e]; simp
  refine ⟨⟨by simp [hlen], ?_, ?_, by omega⟩, e2⟩
  · rw [e2, List.take_succ_eq_append_getElem (by simp; omega), e]
    congr 1
    · rw [List.take_set_of_le (Nat.le_refl _)]
      exact h.lo
    · simp
  · have ht := congrArg (·.drop 1) h.hi
    rw [List.drop_set_of_lt (by omega)]
    simpa [List.drop_drop, Nat.add_comm] using ht
theorem DelP.start {m : Ms} {l : List Pc} {i : Nat} (hi : i < l.length) (h1 : isM m l[i] = true) (h2 : ∀ x ∈ l.take i, isM m x = false) : DelP m l l (i + 1) ∧ (restM m (l.take (i + 1))).length = i := by
  have e0 : restM m (l.take i) = l.take i := List.filter_eq_self.2 fun x hx => by simp [h2 x hx]
  have e := restM_snoc m l i hi
  rw [if_pos h1, List.append_nil, e0] at e
  have el : (restM m (l.take (i + 1))).length = i := by rw [e]; simp; omega
  exact ⟨⟨rfl, by rw [el, e], rfl, by omega⟩, el⟩

set_option maxHeartbeats 2000000 in
/-- The pieces of a message go. -/
theorem deletePc_any (S : Nat → Prop) (N : Nat) (m : Ms) (base : Nat) (v : Value) (l : List Pc) (w : World) (hr : PcRow S base w v l) (hS : ∀ k, S k → k < w.heap.size) (hSv : ∀ k, v.ownBlock = some k → ¬ S k) (hN : MsAt w N m) (hNlt : N < w.heap.size) (hNv : v.ownBlock ≠ some N) :
    Calls Try.prog 83 #[v, .func (.func 85) #[] #[.pointer (some ⟨N, 0, none⟩)]] w fun e w' => ∃ a' c', e = .returned (.slice a' (restM m l).length c') ∧ PcRow S base w' (.slice a' (restM m l).length c') (restM m l) ∧ Keep (fun k => k < w.heap.size ∧ v.ownBlock ≠ some k) w w' ∧ (Value.slice a' (restM m l).length c').ownBlock = v.ownBlock := by
  have IX := indexPc_any N m v l w hr.s hN hNlt
  have HE := enters_of1
  obtain ⟨a, c, rfl⟩ := hr.form
  go_enter Try.func83, Try.ntmps83
  go_wp2_with fail
  refine IX.mono ?_
  rintro e w1 ⟨k, rfl, FI, b1⟩
  have sz1 := b1.size
  have k1 : Keep (fun k => k < w.heap.size ∧ (Value.slice a l.length c).ownBlock ≠ some k) w w1 := ⟨b1.os, b1.tape, b1.output, b1.size, fun i hi => b1.block i hi.1⟩
  have row1 : PcRow S base w1 (.slice a l.length c) l := GRow.keep PcI.holds hr ⟨b1.os, b1.tape, b1.output, b1.size, fun i hi => b1.block i (hS i hi)⟩ (fun k hk => b1.block k (hr.lt hk).2)
  rcases FI with ⟨rfl, hno⟩ | ⟨i, rfl, hi, hle, hno⟩
  · have HL : Hid (restM m l = l) := List.filter_eq_self.2 fun x hx => by simp [hno x hx]
    have RS : Hid (PcRow S base w1 (.slice a l.length c) l) := row1
    clear IX hr hno row1
    go_wp2_with fail
    go_ret
    rw [HL.out]
    exact ⟨_, _, rfl, RS.out, k1, rfl⟩
  · obtain ⟨g, cap, u, he, hbg, hg1, hc1, hc2, -, -, -⟩ := GRow.at PcI.holds row1 i hi
    simp only [Value.slice.injEq] at he
    obtain ⟨rfl, -, rfl⟩ := he
    have hSg : ¬ S g := hSv g rfl
    have hNg : N ≠ g := fun e => hNv (by simp [Value.ownBlock, e])
    obtain ⟨DS, hil⟩ := DelP.start hi hle hno
    have gne : ((i : Int) == -1) = false := by simp
    have HDS : Hid (DelP m l l (i + 1)) := DS
    have HIL : Hid ((restM m (l.take (i + 1))).length = i) := hil
    clear IX DS hil hno hr hSv hNv
    have K1 : Hid (Keep (fun k => k < w.heap.size ∧ g ≠ k) w w1) := ⟨b1.os, b1.tape, b1.output, b1.size, fun i hi => b1.block i hi.1⟩
    have hob : ∀ n c, (Value.slice (some ⟨g, 0, none⟩) n c).ownBlock = some g := fun n c => rfl
    go_wp2_with fail
    go_loopw [5, 6] (fun si sj wr => ∃ (J : Nat) (L : List Pc), J ≤ l.length ∧ si = .int .i64 ((restM m (l.take J)).length : Nat) ∧ sj = .int .i64 J ∧ Hid (DelP m l L J) ∧ PcRow S base wr (.slice (some ⟨g, 0, none⟩) l.length c) L ∧ Hid (Keep (fun k => k < w.heap.size ∧ g ≠ k) w wr)) (fun _ j _ => l.length - (intOf j).toNat)
    case atStart => exact ⟨i + 1, l, by omega, by rw [HIL.out], by go_num, HDS, row1, K1⟩
    case round =>
      obtain ⟨J, L, hJ, rfl, rfl, HD, row, KR⟩ := hrel
      have hIJ := HD.out.lt
      have hszr := KR.out.size
      have glt : g < wr.heap.size := (row.lt rfl).2
      by_cases hlt : J < l.length
      · have hLl : L.length = l.length := HD.out.len
        obtain ⟨g', cap', u, he, -, -, -, -, ⟨d, s, q, rfl, hl⟩, hrng, hfz⟩ := GRow.at PcI.holds row J (by omega)
        simp only [Value.slice.injEq, Option.some.injEq, Addr.mk.injEq, and_true] at he
        obtain ⟨rfl, -, rfl⟩ := he
        have hLJ : L[J]'(by omega) = l[J] := by have := HD.out.at hlt; rw [List.getElem?_eq_getElem (by omega)] at this; simpa using this
        rw [hLJ] at hl hrng
        obtain ⟨da, dc, sa, sc, qa, qc, rfl, rfl, rfl⟩ := hl.ex
        have hix := run_pc_at g l.length c J hlt
        have HDR : Hid (isM m l[J] = true → DelP m l L (J + 1) ∧ (restM m (l.take (J + 1))).length = (restM m (l.take J)).length) := fun h => ⟨HD.out.drop hlt h, by rw [restM_snoc m l J hlt, if_pos h, List.append_nil]⟩
        have HKE : Hid (isM m l[J] = false → DelP m l (L.set (restM m (l.take J)).length l[J]) (J + 1) ∧ (restM m (l.take (J + 1))).length = (restM m (l.take J)).length + 1) := fun h => HD.out.keep hlt h
        generalize hI : (restM m (l.take J)).length = I at *
        have hixI := run_pc_at g l.length c I (by omega)
        generalize l[J] = x at *
        have AX := Cells.new wr #[.int .i64 x.number, .int .i64 x.ck.kind, .int .i64 x.ck.tag, .int .i64 x.ck.stream, .int .i64 x.ck.mid, .int .i64 x.ck.part, .bool x.ck.last, .bool x.ck.ordered, .slice da x.ck.data.length dc, .slice sa x.ck.spans.length sc, .int .i64 x.ck.room, .slice qa x.ck.skips.length qc] 71
        have szX : (wr.alloc (.cells #[.int .i64 x.number, .int .i64 x.ck.kind, .int .i64 x.ck.tag, .int .i64 x.ck.stream, .int .i64 x.ck.mid, .int .i64 x.ck.part, .bool x.ck.last, .bool x.ck.ordered, .slice da x.ck.data.length dc, .slice sa x.ck.spans.length sc, .int .i64 x.ck.room, .slice qa x.ck.skips.length qc] 71)).heap.size = wr.heap.size + 1 := by simp
        have bX := box_below wr (.cells #[.int .i64 x.number, .int .i64 x.ck.kind, .int .i64 x.ck.tag, .int .i64 x.ck.stream, .int .i64 x.ck.mid, .int .i64 x.ck.part, .bool x.ck.last, .bool x.ck.ordered, .slice da x.ck.data.length dc, .slice sa x.ck.spans.length sc, .int .i64 x.ck.room, .slice qa x.ck.skips.length qc] 71)
        have hNr : MsAt wr N m := hN.keep KR.out ⟨hNlt, fun e => hNg e.symm⟩
        have AS := of1_any x da x.ck.data.length dc sa x.ck.spans.length sc qa x.ck.skips.length qc N m _ (hNr.below bX (by omega)) (by rw [szX]; omega)
        have hrng' : wr.rangeAt g (J * 12) [.int .i64 x.number, .int .i64 x.ck.kind, .int .i64 x.ck.tag, .int .i64 x.ck.stream, .int .i64 x.ck.mid, .int .i64 x.ck.part, .bool x.ck.last, .bool x.ck.ordered, .slice da x.ck.data.length dc, .slice sa x.ck.spans.length sc, .int .i64 x.ck.room, .slice qa x.ck.skips.length qc] := hrng
        have AXR := AX.range
        go_wp2_with (first
          | refine wpList_ldP rfl (.tmp 24) rfl g (J * 12) rfl x _ _ _ (by with_reducible exact hrng') ?_
          | refine wpList_stN 71 12 Try.sizePc rfl (.tmp 7) (.tmp 25) rfl wr _ rfl rfl rfl [.int .i64 x.number, .int .i64 x.ck.kind, .int .i64 x.ck.tag, .int .i64 x.ck.stream, .int .i64 x.ck.mid, .int .i64 x.ck.part, .bool x.ck.last, .bool x.ck.ordered, .slice da x.ck.data.length dc, .slice sa x.ck.spans.length sc, .int .i64 x.ck.room, .slice qa x.ck.skips.length qc] rfl rfl rfl ?_
          | refine wpList_ldP rfl (.tmp 7) rfl wr.heap.size 0 rfl x _ _ _ (by with_reducible exact AXR) ?_)
        generalize wr.alloc (.cells #[.int .i64 x.number, .int .i64 x.ck.kind, .int .i64 x.ck.tag, .int .i64 x.ck.stream, .int .i64 x.ck.mid, .int .i64 x.ck.part, .bool x.ck.last, .bool x.ck.ordered, .slice da x.ck.data.length dc, .slice sa x.ck.spans.length sc, .int .i64 x.ck.room, .slice qa x.ck.skips.length qc] 71) = wx at *
        refine AS.mono ?_
        rintro e w2 ⟨rfl, b2⟩
        have B2 : Below wr.heap.size wr w2 := bX.trans (b2.mono (by omega))
        have KW2 : Hid (Keep (fun k => k < w.heap.size ∧ g ≠ k) w w2) := KR.out.trans ⟨B2.os, B2.tape, B2.output, B2.size, fun i hi => B2.block i (by have := hi.1; omega)⟩
        have sz2 := B2.size
        have KS2 : Keep S wr w2 := ⟨B2.os, B2.tape, B2.output, B2.size, fun i hi => B2.block i (by have := hS i hi; omega)⟩
        have row2 : PcRow S base w2 (.slice (some ⟨g, 0, none⟩) l.length c) L := GRow.keep PcI.holds row KS2 (fun k hk => B2.block k (row.lt hk).2)
        cases hq : isM m x with
        | true =>
          obtain ⟨D2, e2⟩ := HDR.out hq
          have HD2 : Hid (DelP m l L (J + 1)) := D2
          have HE2 : Hid ((restM m (l.take (J + 1))).length = I) := e2
          clear AS HDR HKE D2 e2 hrng hrng' AX AXR
          go_wp2_with fail
          go_roundw
          case rel => exact ⟨J + 1, L, by omega, by rw [HE2.out], by go_num, HD2, row2, KW2⟩
          case measure => simp [intOf]; omega
        | false =>
          obtain ⟨D2, e2⟩ := HKE.out hq
          have HD2 : Hid (DelP m l (L.set I x) (J + 1)) := D2
          have HE2 : Hid ((((restM m (l.take (J + 1))).length : Nat) : Int) = (I : Int) + 1) := by show _ = _; rw [e2]; omega
          have AX2 := (AX.below b2 (by omega)).range
          have TH : w2.there g (I * 12) 12 := GRow.there PcI.holds row2 I (by omega)
          have row3 : PcRow S base (w2.setCells g (I * 12) [.int .i64 x.number, .int .i64 x.ck.kind, .int .i64 x.ck.tag, .int .i64 x.ck.stream, .int .i64 x.ck.mid, .int .i64 x.ck.part, .bool x.ck.last, .bool x.ck.ordered, .slice da x.ck.data.length dc, .slice sa x.ck.spans.length sc, .int .i64 x.ck.room, .slice qa x.ck.skips.length qc]) (.slice (some ⟨g, 0, none⟩) l.length c) (L.set I x) :=
            GRow.set PcI.holds row2 hSg I (by omega) (u := pcVal x (.slice da x.ck.data.length dc) (.slice sa x.ck.spans.length sc) (.slice qa x.ck.skips.length qc)) ⟨_, _, _, rfl, hl.keep KS2⟩
          have KW3 : Hid (Keep (fun k => k < w.heap.size ∧ g ≠ k) w (w2.setCells g (I * 12) [.int .i64 x.number, .int .i64 x.ck.kind, .int .i64 x.ck.tag, .int .i64 x.ck.stream, .int .i64 x.ck.mid, .int .i64 x.ck.part, .bool x.ck.last, .bool x.ck.ordered, .slice da x.ck.data.length dc, .slice sa x.ck.spans.length sc, .int .i64 x.ck.room, .slice qa x.ck.skips.length qc])) := Keep.setCells (fun h => h.2 rfl) _ _ KW2.out
          clear AS HDR HKE D2 e2 hrng hrng' AX AXR
          dsimp only
          go_wp2_with (first
            | refine wpList_ldP rfl (.tmp 7) rfl wr.heap.size 0 rfl x _ _ _ (by with_reducible exact AX2) ?_
            | refine wpList_srN 71 12 Try.sizePc rfl (.tmp 33) (.tmp 32) rfl g (I * 12) rfl [.int .i64 x.number, .int .i64 x.ck.kind, .int .i64 x.ck.tag, .int .i64 x.ck.stream, .int .i64 x.ck.mid, .int .i64 x.ck.part, .bool x.ck.last, .bool x.ck.ordered, .slice da x.ck.data.length dc, .slice sa x.ck.spans.length sc, .int .i64 x.ck.room, .slice qa x.ck.skips.length qc] rfl rfl rfl (by with_reducible exact TH) ?_)
          go_roundw
          case rel => exact ⟨J + 1, L.set I x, by omega, by rw [HE2.out], by go_num, HD2, row3, KW3⟩
          case measure => simp [intOf]; omega
      · have hJl : J = l.length := by omega
        subst hJl
        have HLE : Hid (restM m (l.take l.length) = restM m l) := by show _ = _; rw [List.take_of_length_le (Nat.le_refl _)]
        have HLO : Hid (L.take (restM m l).length = restM m l) := by have := HD.out.lo; rw [HLE.out] at this; exact this
        have hLl : L.length = l.length := HD.out.len
        rw [HLE.out] at hIJ ⊢
        generalize hI : (restM m l).length = I at *
        have hlo := run_pc_lo g l.length c I hIJ hc1
        have hhi := run_pc_hi g l.length c I (by omega)
        have TH : ∀ j, j < (l.length - I) * 12 → (wr.cell? ⟨g, I * 12 + j, none⟩).isSome = true := fun j hj => by
          have hk : (I * 12 + j) / 12 < L.length := by omega
          have := (GRow.there PcI.holds row ((I * 12 + j) / 12) hk ((I * 12 + j) % 12) (Nat.mod_lt _ (by decide))).1
          rwa [show (I * 12 + j) / 12 * 12 + (I * 12 + j) % 12 = I * 12 + j by omega] at this
        have hfz : ∀ j, wr.frozen? ⟨g, j, none⟩ = false := by
          obtain ⟨g', cap', u, he, -, -, -, -, -, -, hfz⟩ := GRow.at PcI.holds row I (by omega)
          simp only [Value.slice.injEq, Option.some.injEq, Addr.mk.injEq, and_true] at he
          obtain ⟨rfl, -, rfl⟩ := he
          exact hfz
        obtain ⟨zs, hzl, hcl⟩ := run_clear_pcs wr g (I * 12) (l.length - I) (c - I) (by omega) TH (fun j _ => hfz _)
        have ROW : Hid (PcRow S base (wr.setCells g (I * 12) zs) (.slice (some ⟨g, 0, none⟩) I c) (restM m l)) := by
          have := GRow.cut PcI.holds row hSg (m := I) (by omega) zs
          rw [HLO.out] at this
          exact this
        have KWZ : Hid (Keep (fun k => k < w.heap.size ∧ g ≠ k) w (wr.setCells g (I * 12) zs)) := Keep.setCells (fun h => h.2 rfl) _ _ KR.out
        have HI2 : Hid ((restM m l).length = I) := hI
        clear TH hI hfz
        go_wp2_with fail
        go_ret
        rw [HI2.out]
        exact ⟨some ⟨g, 0, none⟩, c, rfl, ROW.out, KWZ.out.mono fun k h => ⟨h.1, fun e => h.2 (by rw [hob, e])⟩, rfl⟩
end Go.Proofs.Ytnddejdndipddad
