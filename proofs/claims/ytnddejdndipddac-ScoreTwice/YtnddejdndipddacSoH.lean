/- The contract of slices.DeleteFunc, of parts, with Sack's question. -/
import Derived.Test.YtnddejdndipddacSoG
set_option maxRecDepth 20000
namespace Go.Proofs.Ytnddejdndipddac
open Go.RowKit

theorem enters_del (args : Array Value) (wx : World) : (callFunc 44 args).run Try.prog wx = .ok (.enter 44 args) wx := enters_body Try.func44 (by kernel_rfl) rfl args wx

set_option maxHeartbeats 400000 in
theorem del_any (x : Sn) (da : Option Addr) (dn dc : Nat) (sa : Option Addr) (sn sc : Nat) (qa : Option Addr) (qn qc : Nat) (N : Nat) (n : Int) (w : World) (hN : w.cell? ⟨N, 0, none⟩ = some (.int .i64 n)) :
    Calls Try.prog 44 #[snVal x (.slice da dn dc) (.slice sa sn sc) (.slice qa qn qc), .pointer (some ⟨N, 0, none⟩)] w fun e w' => e = .returned (.bool (decide (x.number ≤ n))) ∧ Below w.heap.size w w' := by
  have HB := fun o => box_below w o
  have HC := fun o => new_at hN o
  obtain ⟨number, id, state, path, missed, times, came, life, tries, kind, tag, stream, mid, part, last, ordered, data, spans, room, skips⟩ := x
  simp only [snVal]
  go_enter Try.func44, Try.ntmps44
  go_wp2
  go_ret
  exact ⟨rfl, HB _⟩

/-- The first part up to a number, or -1. -/
def FirstLe (l : List Sn) (n : Int) (k : Int) : Prop := (k = -1 ∧ ∀ x ∈ l, n < x.number) ∨ ∃ i : Nat, k = (i : Int) ∧ ∃ h : i < l.length, l[i].number ≤ n ∧ ∀ x ∈ l.take i, n < x.number

set_option maxHeartbeats 1000000 in
theorem indexSn_any (N : Nat) (n : Int) (v : Value) (l : List Sn) (w : World) (hv : SnS w.heap.size w v l) (hN : w.cell? ⟨N, 0, none⟩ = some (.int .i64 n)) :
    Calls Try.prog 63 #[v, .func (.func 44) #[] #[.pointer (some ⟨N, 0, none⟩)]] w fun e w' => ∃ k, e = .returned (.int .i64 k) ∧ FirstLe l n k ∧ Below w.heap.size w w' := by
  have HV := hv
  obtain ⟨a, cap, rfl, h1, h2⟩ := hv.ex
  have hNlt := World.block_lt_of_cell? _ _ hN
  simp only at hNlt
  have HE := enters_del
  go_enter Try.func63, Try.ntmps63
  go_wp2_with fail
  go_loopw [8] (fun i wr => ∃ k : Nat, k ≤ l.length ∧ i = .int .i64 k ∧ (∀ x ∈ l.take k, n < x.number) ∧ Below w.heap.size w wr) (fun i _ => l.length - (intOf i).toNat)
  case atStart => exact ⟨0, Nat.zero_le _, rfl, fun x hx => by simp at hx, Below.refl _ _⟩
  case round =>
    obtain ⟨k, hk, rfl, hno, BR⟩ := hrel
    have HNO : Hid (∀ x ∈ l.take k, n < x.number) := hno
    clear hno
    by_cases hlt : k < l.length
    · obtain ⟨b, off, da, dc, sa, sc, qa, qc, hb, hix, -, -, -, hat⟩ := SnS.at (SlG.below SnV.bears HV BR (Nat.le_refl _)) k hlt
      have hN1 : wr.cell? ⟨N, 0, none⟩ = some (.int .i64 n) := (BR.cell (p := ⟨N, 0, none⟩) hNlt).trans hN
      have AS := del_any l[k] da l[k].ck.data.length dc sa l[k].ck.spans.length sc qa l[k].ck.skips.length qc N n wr hN1
      simp only [snVal] at AS
      have HX : Hid (l.take (k + 1) = l.take k ++ [l[k]]) := List.take_succ_eq_append_getElem hlt
      have HI : Hid (l[k].number ≤ n → FirstLe l n (k : Int)) := fun h => .inr ⟨k, rfl, hlt, h, HNO.out⟩
      generalize l[k] = x at *
      go_wp2_with (refine wpList_ld rfl (.tmp 14) rfl b off rfl x _ _ _ (by with_reducible exact hat) ?_)
      refine AS.mono ?_
      rintro e w1 ⟨rfl, b1⟩
      have B1 := BR.trans (b1.mono BR.size)
      cases hq : decide (x.number ≤ n) with
      | true =>
        have FI := HI.out (of_decide_eq_true hq)
        go_wp2_with fail
        go_ret
        exact ⟨_, rfl, FI, B1⟩
      | false =>
        have HN2 : Hid (∀ y ∈ l.take (k + 1), n < y.number) := fun y hy => by
          rw [HX.out, List.mem_append] at hy
          rcases hy with hy | hy
          · exact HNO.out y hy
          · simp at hy; subst hy; have := of_decide_eq_false hq; omega
        go_wp2_with fail
        go_roundw
        case rel => exact ⟨k + 1, by omega, by go_num, HN2.out, B1⟩
        case measure => simp [intOf]; omega
    · have hkl : k = l.length := by omega
      subst hkl
      have FI : FirstLe l n (-1) := .inl ⟨rfl, by have := HNO.out; rwa [List.take_of_length_le (Nat.le_refl _)] at this⟩
      go_wp2_with fail
      go_ret
      exact ⟨_, rfl, FI, BR⟩

theorem run_clear_sents (w : World) (b o n c : Nat) (hn : 0 < n) (hc : ∀ j, j < n * 20 → (w.cell? ⟨b, o + j, none⟩).isSome = true) (hf : ∀ j, j < n * 20 → w.frozen? ⟨b, o + j, none⟩ = false) :
    ∃ zs : List Value, zs.length = n * 20 ∧ ∀ ty, (Builtin.clear_ #[38] ty #[.slice (some ⟨b, o, none⟩) n c]).run Try.prog w = .ok (.tuple #[]) (w.setCells b o zs) := by
  generalize hz : (Value.agg #[.int .i64 0, .int .i64 0, .int .i64 0, .int .i64 0, .int .i64 0, .int .i64 0, .int .i64 0, .int .i64 0, .int .i64 0, .int .i64 0, .int .i64 0, .int .i64 0, .int .i64 0, .int .i64 0, .bool false, .bool false, .slice none 0 0, .slice none 0 0, .int .i64 0, .slice none 0 0]) = z
  have hv : ∀ w, (zeroValue 53).run Try.prog w = .ok z w := fun w => by rw [← hz]; exact Try.zeroValue53 w
  have h20 : z.cells.size = 20 := by rw [← hz]; rfl
  have h1a : ∀ u ∈ z.cells.toList, u.oneCell' = true := by rw [← hz]; exact List.all_eq_true.1 rfl
  have h1c : ∀ i, i < 20 → (z.cells[i]!).oneCell' = true := by
    intro i hi
    rw [getElem!_pos z.cells i (by omega)]
    exact h1a _ (by simp)
  have hl : (Builtin.zeroCells z.cells n).toList.length = n * 20 := by simp [Builtin.zeroCells, h20]
  have hst := run_storeCells_cells (P := Try.prog) b o (Builtin.zeroCells z.cells n).toList 0 w (by rw [hl]; simpa using hc) (by rw [hl]; simpa using hf) (by
    intro v hv'
    simp only [Builtin.zeroCells, Array.toList_map, List.mem_map, h20] at hv'
    obtain ⟨i, _, rfl⟩ := hv'
    exact h1c _ (Nat.mod_lt _ (by decide)))
  simp only [Nat.add_zero] at hst
  refine ⟨_, hl, fun ty => ?_⟩
  obtain ⟨m, rfl⟩ : ∃ m, n = m + 1 := ⟨n - 1, by omega⟩
  simp [Builtin.clear_, run_underlying Try.underlying38, hv, hst]

theorem run_sn_lo (g n c lo : Nat) (h : lo < n) (hc : n ≤ c) (wx : World) : (Instr.slice 38 (.slice (some ⟨g, 0, none⟩) n c) (some (.int .i64 lo)) none none).run Try.prog wx = .ok (.slice (some ⟨g, lo * 20, none⟩) (n - lo) (c - lo)) wx := by
  have h1 : ¬ c = lo := by omega
  have h2 : lo ≤ n := by omega
  go_simp
theorem run_sn_hi (g n c hi : Nat) (h : hi ≤ c) (wx : World) : (Instr.slice 38 (.slice (some ⟨g, 0, none⟩) n c) none (some (.int .i64 hi)) none).run Try.prog wx = .ok (.slice (some ⟨g, 0, none⟩) hi c) wx := by
  have h1 : (0 : Int) ≤ hi := by omega
  have h2 : (hi : Int) ≤ c := by omega
  rw [run_slice_h wx 38 (some ⟨g, 0, none⟩) n c Try.underlying38 .i64 (hi : Int) h1 h2]
  go_simp

theorem RowP.cut {U : Nat → Prop} {g : Nat} {w : World} {L : List Sn} (h : RowP U g w L) (m : Nat) (zs : List Value) : RowP U g (w.setCells g (m * 20) zs) (L.take m) := by
  refine ⟨by rw [size_setCells]; exact h.lt, fun j => by rw [World.frozen?_setCells]; exact h.fz j, fun k x hx => ?_⟩
  rw [List.getElem?_take] at hx
  split at hx
  · next hk =>
    obtain ⟨d, s, q, h1, h2⟩ := h.pt k x hx
    refine ⟨d, s, q, h1.eq fun j g1 g2 => World.cell?_setCells_out g zs (m * 20) w ⟨g, j, none⟩ (fun _ _ => .inl (by show j < m * 20; omega)), ?_⟩
    rw [size_setCells]
    exact h2.keep (Keep.setCells (fun hb => hb.2.1 rfl) zs (m * 20) (Keep.refl _ w))
  · simp at hx

/-- Those left so far lie first, those that are to come where they were. -/
structure DelS (n : Int) (l L : List Sn) (J : Nat) : Prop where
  len : L.length = l.length
  lo : L.take (leftM n (l.take J)).length = leftM n (l.take J)
  hi : L.drop J = l.drop J
  lt : (leftM n (l.take J)).length < J
theorem leftM_snoc (n : Int) (l : List Sn) (J : Nat) (h : J < l.length) : leftM n (l.take (J + 1)) = leftM n (l.take J) ++ (if l[J].number ≤ n then [] else [l[J]]) := by
  rw [List.take_succ_eq_append_getElem h, leftM, leftM, List.filter_append]
  congr 1
  by_cases e : l[J].number ≤ n <;> simp [e]
theorem DelS.at {n : Int} {l L : List Sn} {J : Nat} (h : DelS n l L J) (hJ : J < l.length) : L[J]? = some l[J] := by
  have := congrArg (·[0]?) h.hi
  simpa [hJ] using this
theorem DelS.drop {n : Int} {l L : List Sn} {J : Nat} (h : DelS n l L J) (hJ : J < l.length) (hd : l[J].number ≤ n) : DelS n l L (J + 1) := by
  have e := leftM_snoc n l J hJ
  rw [if_pos hd, List.append_nil] at e
  have ht := congrArg (·.drop 1) h.hi
  exact ⟨h.len, by rw [e]; exact h.lo, by simpa [List.drop_drop, Nat.add_comm] using ht, by rw [e]; have := h.lt; omega⟩
theorem DelS.keep {n : Int} {l L : List Sn} {J : Nat} (h : DelS n l L J) (hJ : J < l.length) (hd : ¬ l[J].number ≤ n) : DelS n l (L.set (leftM n (l.take J)).length l[J]) (J + 1) ∧ (leftM n (l.take (J + 1))).length = (leftM n (l.take J)).length + 1 := by
  have e := leftM_snoc n l J hJ
  rw [if_neg hd] at e
  have hlt := h.lt
  have hlen := h.len
  have e2 : (leftM n (l.take (J + 1))).length = (leftM n (l.take J)).length + 1 := by rw [e]; simp
  refine ⟨⟨by simp [hlen], ?_, ?_, by omega⟩, e2⟩
  · rw [e2, List.take_succ_eq_append_getElem (by simp; omega), e]
    congr 1
    · rw [List.take_set_of_le (Nat.le_refl _)]
      exact h.lo
    · simp
  · have ht := congrArg (·.drop 1) h.hi
    rw [List.drop_set_of_lt (by omega)]
    simpa [List.drop_drop, Nat.add_comm] using ht
theorem DelS.start {n : Int} {l : List Sn} {i : Nat} (hi : i < l.length) (h1 : l[i].number ≤ n) (h2 : ∀ x ∈ l.take i, n < x.number) : DelS n l l (i + 1) ∧ (leftM n (l.take (i + 1))).length = i := by
  have e0 : leftM n (l.take i) = l.take i := List.filter_eq_self.2 fun x hx => by simpa using h2 x hx
  have e := leftM_snoc n l i hi
  rw [if_pos h1, List.append_nil, e0] at e
  have el : (leftM n (l.take (i + 1))).length = i := by rw [e]; simp; omega
  exact ⟨⟨rfl, by rw [el, e], rfl, by omega⟩, el⟩

set_option maxHeartbeats 1000000 in
/-- Those up to a number are gone. -/
theorem delete_any (U : Nat → Prop) (N : Nat) (n : Int) (base : Nat) (a : Option Addr) (c : Nat) (l : List Sn) (w : World) (hr : SnRes U base w a c l) (hN : w.cell? ⟨N, 0, none⟩ = some (.int .i64 n)) (hNb : N < base) (hbw : base ≤ w.heap.size) (hU : ∀ k, base ≤ k → U k) :
    Calls Try.prog 42 #[.slice a l.length c, .func (.func 44) #[] #[.pointer (some ⟨N, 0, none⟩)]] w fun e w' => ∃ a' c', e = .returned (.slice a' (leftM n l).length c') ∧ SnRes U base w' a' c' (leftM n l) ∧ Below base w w' := by
  have IX := indexSn_any N n _ l w hr.s hN
  have HE := enters_del
  go_enter Try.func42, Try.ntmps42
  go_wp2_with fail
  refine IX.mono ?_
  rintro e w1 ⟨k, rfl, FI, b1⟩
  have sz1 := b1.size
  rcases FI with ⟨rfl, hno⟩ | ⟨i, rfl, hi, hle, hno⟩
  · have HL : Hid (leftM n l = l) := List.filter_eq_self.2 fun x hx => by simpa using hno x hx
    have RS : Hid (SnRes U base w1 a c l) := by
      rcases hr with h | ⟨g, h1, h2, row, h3, h4⟩
      · exact .inl h
      · exact .inr ⟨g, h1, h2, row.keep (hU g h2) ⟨b1.os, b1.tape, b1.output, b1.size, fun i hi => b1.block i hi.1⟩, h3, h4⟩
    clear IX hr hno
    go_wp2_with fail
    go_ret
    rw [HL.out]
    exact ⟨_, _, rfl, RS.out, b1.mono hbw⟩
  · rcases hr with ⟨rfl, -, -⟩ | ⟨g, rfl, hg, row, hc1, hc2⟩
    · simp at hi
    · have row1 : RowP U g w1 l := row.keep (hU g hg) ⟨b1.os, b1.tape, b1.output, b1.size, fun i hi => b1.block i hi.1⟩
      obtain ⟨DS, hil⟩ := DelS.start hi hle hno
      have gne : ((i : Int) == -1) = false := by simp
      have HDS : Hid (DelS n l l (i + 1)) := DS
      have HIL : Hid ((leftM n (l.take (i + 1))).length = i) := hil
      clear IX DS hil hno row
      have BB : Below base w w1 := b1.mono hbw
      go_wp2_with fail
      go_loopw [5, 6] (fun si sj wr => ∃ (J : Nat) (L : List Sn), J ≤ l.length ∧ si = .int .i64 ((leftM n (l.take J)).length : Nat) ∧ sj = .int .i64 J ∧ Hid (DelS n l L J) ∧ RowP U g wr L ∧ Below base w wr) (fun _ j _ => l.length - (intOf j).toNat)
      case atStart => exact ⟨i + 1, l, by omega, by rw [HIL.out], by go_num, HDS, row1, BB⟩
      case round =>
        obtain ⟨J, L, hJ, rfl, rfl, HD, row, BR⟩ := hrel
        have hIJ := HD.out.lt
        have hszr := BR.size
        have glt := row.lt
        by_cases hlt : J < l.length
        · obtain ⟨d, s, q, hat, hl⟩ := row.pt J l[J] (HD.out.at hlt)
          obtain ⟨da, dc, sa, sc, qa, qc, rfl, rfl, rfl⟩ := hl.ex
          have hix := run_sn_at g l.length c J hlt
          have HDR : Hid (l[J].number ≤ n → DelS n l L (J + 1) ∧ (leftM n (l.take (J + 1))).length = (leftM n (l.take J)).length) := fun h => ⟨HD.out.drop hlt h, by rw [leftM_snoc n l J hlt, if_pos h, List.append_nil]⟩
          have HKE : Hid (n < l[J].number → DelS n l (L.set (leftM n (l.take J)).length l[J]) (J + 1) ∧ (leftM n (l.take (J + 1))).length = (leftM n (l.take J)).length + 1) := fun h => HD.out.keep hlt (by omega)
          have hLl : L.length = l.length := HD.out.len
          generalize hI : (leftM n (l.take J)).length = I at *
          have hixI := run_sn_at g l.length c I (by omega)
          generalize l[J] = x at *
          have hN1 : wr.cell? ⟨N, 0, none⟩ = some (.int .i64 n) := (BR.cell (p := ⟨N, 0, none⟩) hNb).trans hN
          have AX := SnAt.new wr x (.slice da x.ck.data.length dc) (.slice sa x.ck.spans.length sc) (.slice qa x.ck.skips.length qc)
          have AS := del_any x da x.ck.data.length dc sa x.ck.spans.length sc qa x.ck.skips.length qc N n _ (new_at hN1 (.cells #[.int .i64 x.number, .int .i64 x.id, .int .i64 x.state, .int .i64 x.path, .int .i64 x.missed, .int .i64 x.times, .int .i64 x.came, .int .i64 x.life, .int .i64 x.tries, .int .i64 x.ck.kind, .int .i64 x.ck.tag, .int .i64 x.ck.stream, .int .i64 x.ck.mid, .int .i64 x.ck.part, .bool x.ck.last, .bool x.ck.ordered, .slice da x.ck.data.length dc, .slice sa x.ck.spans.length sc, .int .i64 x.ck.room, .slice qa x.ck.skips.length qc] 53))
          simp only [snVal] at AS
          have bX := box_below wr (.cells #[.int .i64 x.number, .int .i64 x.id, .int .i64 x.state, .int .i64 x.path, .int .i64 x.missed, .int .i64 x.times, .int .i64 x.came, .int .i64 x.life, .int .i64 x.tries, .int .i64 x.ck.kind, .int .i64 x.ck.tag, .int .i64 x.ck.stream, .int .i64 x.ck.mid, .int .i64 x.ck.part, .bool x.ck.last, .bool x.ck.ordered, .slice da x.ck.data.length dc, .slice sa x.ck.spans.length sc, .int .i64 x.ck.room, .slice qa x.ck.skips.length qc] 53)
          have szX : (wr.alloc (.cells #[.int .i64 x.number, .int .i64 x.id, .int .i64 x.state, .int .i64 x.path, .int .i64 x.missed, .int .i64 x.times, .int .i64 x.came, .int .i64 x.life, .int .i64 x.tries, .int .i64 x.ck.kind, .int .i64 x.ck.tag, .int .i64 x.ck.stream, .int .i64 x.ck.mid, .int .i64 x.ck.part, .bool x.ck.last, .bool x.ck.ordered, .slice da x.ck.data.length dc, .slice sa x.ck.spans.length sc, .int .i64 x.ck.room, .slice qa x.ck.skips.length qc] 53)).heap.size = wr.heap.size + 1 := by simp
          go_wp2_with (first
            | refine wpList_ld rfl (.tmp 24) rfl g (J * 20) rfl x _ _ _ (by with_reducible exact hat) ?_
            | refine wpList_st rfl (.tmp 7) (.tmp 25) rfl wr _ rfl rfl rfl [.int .i64 x.number, .int .i64 x.id, .int .i64 x.state, .int .i64 x.path, .int .i64 x.missed, .int .i64 x.times, .int .i64 x.came, .int .i64 x.life, .int .i64 x.tries, .int .i64 x.ck.kind, .int .i64 x.ck.tag, .int .i64 x.ck.stream, .int .i64 x.ck.mid, .int .i64 x.ck.part, .bool x.ck.last, .bool x.ck.ordered, .slice da x.ck.data.length dc, .slice sa x.ck.spans.length sc, .int .i64 x.ck.room, .slice qa x.ck.skips.length qc] rfl rfl rfl ?_
            | refine wpList_ld rfl (.tmp 7) rfl wr.heap.size 0 rfl x _ _ _ (by with_reducible exact AX) ?_)
          generalize wr.alloc (.cells #[.int .i64 x.number, .int .i64 x.id, .int .i64 x.state, .int .i64 x.path, .int .i64 x.missed, .int .i64 x.times, .int .i64 x.came, .int .i64 x.life, .int .i64 x.tries, .int .i64 x.ck.kind, .int .i64 x.ck.tag, .int .i64 x.ck.stream, .int .i64 x.ck.mid, .int .i64 x.ck.part, .bool x.ck.last, .bool x.ck.ordered, .slice da x.ck.data.length dc, .slice sa x.ck.spans.length sc, .int .i64 x.ck.room, .slice qa x.ck.skips.length qc] 53) = wx at *
          refine AS.mono ?_
          rintro e w2 ⟨rfl, b2⟩
          have B2 : Below wr.heap.size wr w2 := bX.trans (b2.mono (by omega))
          have BW2 : Below base w w2 := BR.trans (B2.mono (by omega))
          have sz2 := B2.size
          have row2 : RowP U g w2 L := row.keep (hU g hg) ⟨B2.os, B2.tape, B2.output, B2.size, fun i hi => B2.block i hi.1⟩
          cases hq : decide (x.number ≤ n) with
          | true =>
            obtain ⟨D2, e2⟩ := HDR.out (of_decide_eq_true hq)
            have HD2 : Hid (DelS n l L (J + 1)) := D2
            have HE2 : Hid ((leftM n (l.take (J + 1))).length = I) := e2
            clear AS HDR HKE D2 e2 hat AX
            go_wp2_with fail
            go_roundw
            case rel => exact ⟨J + 1, L, by omega, by rw [HE2.out], by go_num, HD2, row2, BW2⟩
            case measure => simp [intOf]; omega
          | false =>
            obtain ⟨D2, e2⟩ := HKE.out (by have := of_decide_eq_false hq; omega)
            have HD2 : Hid (DelS n l (L.set I x) (J + 1)) := D2
            have HE2 : Hid ((((leftM n (l.take (J + 1))).length : Nat) : Int) = (I : Int) + 1) := by show _ = _; rw [e2]; omega
            have AX2 := AX.below b2 (by omega)
            have TH : w2.there g (I * 20) 20 := fun j hj => by
              obtain ⟨y, hy⟩ : ∃ y, L[I]? = some y := ⟨L[I]'(by omega), by simp⟩
              obtain ⟨d', s', q', h1, -⟩ := row2.pt I y hy
              refine ⟨?_, row2.fz _⟩
              have := h1.range.isSome j (by simpa using hj)
              exact this
            have row3 : RowP U g (w2.setCells g (I * 20) [.int .i64 x.number, .int .i64 x.id, .int .i64 x.state, .int .i64 x.path, .int .i64 x.missed, .int .i64 x.times, .int .i64 x.came, .int .i64 x.life, .int .i64 x.tries, .int .i64 x.ck.kind, .int .i64 x.ck.tag, .int .i64 x.ck.stream, .int .i64 x.ck.mid, .int .i64 x.ck.part, .bool x.ck.last, .bool x.ck.ordered, .slice da x.ck.data.length dc, .slice sa x.ck.spans.length sc, .int .i64 x.ck.room, .slice qa x.ck.skips.length qc]) (L.set I x) := by
              have lt2 := hl.keep (w' := w2) ⟨B2.os, B2.tape, B2.output, B2.size, fun i hi => B2.block i hi.1⟩
              refine row2.upd I (d := .slice da x.ck.data.length dc) (s := .slice sa x.ck.spans.length sc) (q := .slice qa x.ck.skips.length qc) (Keep.setCells (fun hb => hb.2.1 rfl) _ _ (Keep.refl _ _)) (fun j => by rw [World.frozen?_setCells]; exact row2.fz j) (fun j hj => World.cell?_setCells_out g _ (I * 20) w2 ⟨g, j, none⟩ (fun _ _ => by show j < I * 20 ∨ I * 20 + 20 ≤ j; omega)) ?_ ?_
              · exact SnAt.of fun j u hj hu => World.rangeAt_setCells_same w2 g (I * 20) [.int .i64 x.number, .int .i64 x.id, .int .i64 x.state, .int .i64 x.path, .int .i64 x.missed, .int .i64 x.times, .int .i64 x.came, .int .i64 x.life, .int .i64 x.tries, .int .i64 x.ck.kind, .int .i64 x.ck.tag, .int .i64 x.ck.stream, .int .i64 x.ck.mid, .int .i64 x.ck.part, .bool x.ck.last, .bool x.ck.ordered, .slice da x.ck.data.length dc, .slice sa x.ck.spans.length sc, .int .i64 x.ck.room, .slice qa x.ck.skips.length qc] TH j u hu
              · rw [size_setCells]
                exact (lt2.mono fun b hb => ⟨by omega, hb.2⟩).keep (Keep.setCells (fun hb => hb.2.1 rfl) _ _ (Keep.refl _ _))
            have BW3 : Below base w (w2.setCells g (I * 20) [.int .i64 x.number, .int .i64 x.id, .int .i64 x.state, .int .i64 x.path, .int .i64 x.missed, .int .i64 x.times, .int .i64 x.came, .int .i64 x.life, .int .i64 x.tries, .int .i64 x.ck.kind, .int .i64 x.ck.tag, .int .i64 x.ck.stream, .int .i64 x.ck.mid, .int .i64 x.ck.part, .bool x.ck.last, .bool x.ck.ordered, .slice da x.ck.data.length dc, .slice sa x.ck.spans.length sc, .int .i64 x.ck.room, .slice qa x.ck.skips.length qc]) := Below.setCells hg _ _ BW2
            clear AS HDR HKE D2 e2 hat AX
            dsimp only
            go_wp2_with (first
              | refine wpList_ld rfl (.tmp 7) rfl wr.heap.size 0 rfl x _ _ _ (by with_reducible exact AX2) ?_
              | refine wpList_sr rfl (.tmp 33) (.tmp 32) rfl g (I * 20) rfl [.int .i64 x.number, .int .i64 x.id, .int .i64 x.state, .int .i64 x.path, .int .i64 x.missed, .int .i64 x.times, .int .i64 x.came, .int .i64 x.life, .int .i64 x.tries, .int .i64 x.ck.kind, .int .i64 x.ck.tag, .int .i64 x.ck.stream, .int .i64 x.ck.mid, .int .i64 x.ck.part, .bool x.ck.last, .bool x.ck.ordered, .slice da x.ck.data.length dc, .slice sa x.ck.spans.length sc, .int .i64 x.ck.room, .slice qa x.ck.skips.length qc] rfl rfl rfl (by with_reducible exact TH) ?_)
            go_roundw
            case rel => exact ⟨J + 1, L.set I x, by omega, by rw [HE2.out], by go_num, HD2, row3, BW3⟩
            case measure => simp [intOf]; omega
        · have hJl : J = l.length := by omega
          subst hJl
          have HLE : Hid (leftM n (l.take l.length) = leftM n l) := by show _ = _; rw [List.take_of_length_le (Nat.le_refl _)]
          have HLO : Hid (L.take (leftM n l).length = leftM n l) := by have := HD.out.lo; rw [HLE.out] at this; exact this
          have hLl : L.length = l.length := HD.out.len
          rw [HLE.out] at hIJ ⊢
          generalize hI : (leftM n l).length = I at *
          have hlo := run_sn_lo g l.length c I hIJ hc1
          have hhi := run_sn_hi g l.length c I (by omega)
          have TH : ∀ j, j < (l.length - I) * 20 → (wr.cell? ⟨g, I * 20 + j, none⟩).isSome = true := fun j hj => by
            have hk : (I * 20 + j) / 20 < L.length := by omega
            obtain ⟨d', s', q', h1, -⟩ := row.pt ((I * 20 + j) / 20) (L[(I * 20 + j) / 20]) (by simp [hk])
            have := h1.range.isSome ((I * 20 + j) % 20) (by show _ < 20; omega)
            rwa [show (I * 20 + j) / 20 * 20 + (I * 20 + j) % 20 = I * 20 + j by omega] at this
          obtain ⟨zs, hzl, hcl⟩ := run_clear_sents wr g (I * 20) (l.length - I) (c - I) (by omega) TH (fun j _ => row.fz _)
          have ROW : Hid (RowP U g (wr.setCells g (I * 20) zs) (leftM n l)) := by
            have := row.cut I zs
            rw [HLO.out] at this
            exact this
          have BWZ : Below base w (wr.setCells g (I * 20) zs) := Below.setCells hg _ _ BR
          have HI2 : Hid ((leftM n l).length = I) := hI
          clear TH hI
          go_wp2_with fail
          go_ret
          exact ⟨some ⟨g, 0, none⟩, c, by rw [HI2.out]; rfl, .inr ⟨g, rfl, hg, ROW.out, by rw [HI2.out]; omega, hc2⟩, BWZ⟩
end Go.Proofs.Ytnddejdndipddac
