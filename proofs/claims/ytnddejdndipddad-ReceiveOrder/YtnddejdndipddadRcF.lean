/- The contracts of receive's drop and deliver. -/
import Derived.Test.YtnddejdndipddadRcE
import Derived.Test.YtnddejdndipddadRcK
import Derived.Deep.RegionLawGrows
set_option maxRecDepth 20000
namespace Go.Proofs.Ytnddejdndipddad
open Go.RowKit

theorem enters_of (args : Array Value) (wx : World) : (callFunc 79 args).run Try.prog wx = .ok (.enter 79 args) wx := enters_body Try.func79 (by kernel_rfl) rfl args wx
theorem enters_delPc (args : Array Value) (wx : World) : (callFunc 83 args).run Try.prog wx = .ok (.enter 83 args) wx := enters_body Try.func83 (by kernel_rfl) rfl args wx

set_option maxHeartbeats 1000000 in
/-- The pieces of a message go. -/
theorem drop_any (S : Nat → Prop) (base R : Nat) (x : Rc) (m : Ms) (w : World) (h : RvX S base w R x) : Calls Try.prog 68 #[.pointer (some ⟨R, 0, none⟩), .agg #[.int .i64 m.stream, .int .i64 m.mid, .bool m.ordered]] w fun e w' => (∃ r, e = .returned r) ∧ RvX S base w' R (dropM x m) ∧ Keep S w w' ∧ Below base w w' := by
  obtain ⟨s, p, t, l, h⟩ := h
  have hS := h.eo
  have B0 := box_below w (.cells #[.int .i64 m.stream, .int .i64 m.mid, .bool m.ordered] 91)
  have CM := Cells.new w #[.int .i64 m.stream, .int .i64 m.mid, .bool m.ordered] 91
  have hs0 : w.heap.size < (w.alloc (.cells #[.int .i64 m.stream, .int .i64 m.mid, .bool m.ordered] 91)).heap.size := by simp
  have h0 := h.below B0
  have hrw : base ≤ w.heap.size := by have := h.rb; have := h.rlt; omega
  obtain ⟨sa, sc, pa, pc, ta, tc, la, lc, e1, e2, e3, e4⟩ := h0.form
  go_enter Try.func68, Try.ntmps68
  go_wp2_with fail
  generalize (w.alloc (.cells #[.int .i64 m.stream, .int .i64 m.mid, .bool m.ordered] 91)) = w0 at *
  have BD : Below w0.heap.size w0 w0.drew := below_drew' (Below.refl _ _)
  have OF : Calls Try.prog 79 #[.agg #[.int .i64 m.stream, .int .i64 m.mid, .bool m.ordered]] w0.drew fun e w' => ∃ v, e = .returned v ∧ v = .func (.func 85) #[] #[.pointer (some ⟨w0.heap.size, 0, none⟩)] ∧ MsAt w' w0.heap.size m ∧ Below w0.heap.size w0 w' ∧ w0.heap.size < w'.heap.size := (of_any m w0.drew).mono fun e w' ⟨h1, h2, h3, h4⟩ => ⟨_, h1, rfl, h2, BD.trans h3, h4⟩
  have m0 := CM.cell 0 _ rfl
  have m1 := CM.cell 1 _ rfl
  have m2 := CM.cell 2 _ rfl
  have c9 := h0.cells.cell 9 _ rfl
  have DE : ∀ w1, MsAt w1 w0.heap.size m → Below w0.heap.size w0 w1 → w0.heap.size < w1.heap.size → Calls Try.prog 83 #[p, .func (.func 85) #[] #[.pointer (some ⟨w0.heap.size, 0, none⟩)]] w1 fun e w' => ∃ v, e = .returned v ∧ ∃ a' c', v = .slice a' (restM m x.pieces).length c' ∧ w'.cell? ⟨R, 9, none⟩ = some p ∧ w'.frozen? ⟨R, 9, none⟩ = false ∧ RvM S base (w'.setCell ⟨R, 9, none⟩ (.slice a' (restM m x.pieces).length c')) R (dropM x m) s (.slice a' (restM m x.pieces).length c') t l ∧ Below base w (w'.setCell ⟨R, 9, none⟩ (.slice a' (restM m x.pieces).length c')) ∧ Keep S w (w'.setCell ⟨R, 9, none⟩ (.slice a' (restM m x.pieces).length c')) := by
    intro w1 hm b1 hlt
    have h1 := h0.below b1
    refine (deletePc_any _ w0.heap.size m base p x.pieces w1 h1.pc (fun k hk => hk.1.1) (fun k hk h => h.1.2.2.1 hk) hm hlt (fun e => by have := (h0.pc.lt e).2; omega)).mono ?_
    rintro e w' ⟨a', c', rfl, row, kp, ho⟩
    have hc := h1.cells.keep kp ⟨h1.rlt, h1.pR⟩
    have hsz := kp.size
    have hb1 := b1.size
    refine ⟨_, rfl, a', c', rfl, hc.cell 9 _ rfl, hc.fz 9, h1.pieces kp row (.inl ho), ?_, ?_⟩
    · refine Below.setCell ?_ (by show base ≤ R; exact h.rb) _
      exact (B0.mono hrw).trans ((b1.mono (by omega)).trans (kp.below fun k hk => ⟨by omega, fun e => by have := (h1.pc.lt e).1; omega⟩))
    · refine Keep.setCell ?_ (p := ⟨R, 9, none⟩) (fun hk => (hS R hk).2.1 rfl) _
      exact ((toKeep B0 fun k hk => (hS k hk).1).trans (toKeep b1 fun k hk => by have := (hS k hk).1; omega)).trans (kp.mono fun k hk => ⟨by have := (hS k hk).1; omega, (hS k hk).2.2.1⟩)
  subst e2
  go_region_law (first
    | (refine step_call1 rfl 79 (.tmp 9) 91 rfl (.agg #[.int .i64 m.stream, .int .i64 m.mid, .bool m.ordered]) rfl rfl enters_of _ OF ?_; rintro _ w1 ⟨rfl, hm1, b1, hl1⟩; have y9 := (h0.below b1).cells.cell 9 _ rfl)
    | (refine step_call2 rfl 83 (.tmp 8) (.tmp 10) _ rfl (.slice pa x.pieces.length pc) (.func (.func 85) #[] #[.pointer (some ⟨w0.heap.size, 0, none⟩)]) rfl rfl rfl enters_delPc _ (DE w1 hm1 b1 hl1) ?_; rintro _ w2 ⟨a', c', rfl, z9, f9, RM, BE, KE⟩))
  all_goals
    go_wp2_with fail
    go_end0
    exact ⟨⟨_, rfl⟩, ⟨_, _, _, _, RM⟩, KE, BE⟩

theorem mine_len (m : Ms) (l : List Pc) : (mineM m l).length ≤ l.length := List.length_filter_le _ _
theorem mine_snoc (m : Ms) (l : List Pc) (k : Nat) (h : k < l.length) : mineM m (l.take (k + 1)) = mineM m (l.take k) ++ (if isM m l[k] = true then [l[k]] else []) := by
  rw [List.take_succ_eq_append_getElem h, mineM, mineM, List.filter_append]
  congr 1
  cases e : isM m l[k] <;> simp [e]
theorem SnL.low {S : Nat → Prop} {w : World} {c : Ck} {d s q : Value} (h : SnL S w c d s q) (hs : ∀ k, S k → k < w.heap.size) : SnL (fun k => k < w.heap.size) w c d s q := h.mono hs

set_option maxHeartbeats 4000000 in
/-- A message is delivered, if it is whole. -/
theorem deliver_any (S : Nat → Prop) (base R : Nat) (x : Rc) (m : Ms) (w : World) (h : RvX S base w R x) (hf : FitR x) : Calls Try.prog 59 #[.pointer (some ⟨R, 0, none⟩), .agg #[.int .i64 m.stream, .int .i64 m.mid, .bool m.ordered]] w fun e w' => e = .returned (.bool (wholeM x m)) ∧ RvX S base w' R (delivM x m) ∧ Keep S w w' ∧ Below base w w' := by
  obtain ⟨s, p, t, l, h⟩ := h
  have HS : Hid (∀ k, S k → OutE R p t l w k) := h.eo
  have B0 := box_below w (.cells #[.int .i64 m.stream, .int .i64 m.mid, .bool m.ordered] 91)
  have CM := Cells.new w #[.int .i64 m.stream, .int .i64 m.mid, .bool m.ordered] 91
  have hs0 : w.heap.size < (w.alloc (.cells #[.int .i64 m.stream, .int .i64 m.mid, .bool m.ordered] 91)).heap.size := by simp
  have h0 := h.below B0
  have hrw : base ≤ w.heap.size := by have := h.rb; have := h.rlt; omega
  obtain ⟨sa, sc, pa, pc, ta, tc, la, lc, e1, e2, e3, e4⟩ := h.form
  have HE := enters_of1
  go_enter Try.func59, Try.ntmps59
  have OF := of_any m (w.alloc (.cells #[.int .i64 m.stream, .int .i64 m.mid, .bool m.ordered] 91))
  go_wp2_with fail
  generalize (w.alloc (.cells #[.int .i64 m.stream, .int .i64 m.mid, .bool m.ordered] 91)) = w0 at *
  refine OF.mono ?_
  rintro e w1 ⟨rfl, HN, b1, hl1⟩
  have h1 := h0.below b1
  have B1 : Below w.heap.size w w1 := B0.trans (b1.mono (by omega))
  have CM1 : MsAt w1 w.heap.size m := CM.below b1 hs0
  have c9 := h1.cells.cell 9 _ rfl
  generalize w0.heap.size = N at *
  have hML : w.heap.size < w1.heap.size := by have := B1.size; have := b1.size; omega
  clear OF CM b1
  subst e2
  go_wp2_with fail
  go_loopw [5, 18] (fun s5 i wr => ∃ (k : Nat) (va : Option Addr) (vc : Nat), k ≤ x.pieces.length ∧ i = .int .i64 k ∧ s5 = .slice va (mineM m (x.pieces.take k)).length vc ∧ PcRow (fun j => j < w1.heap.size) w1.heap.size wr (.slice va (mineM m (x.pieces.take k)).length vc) (mineM m (x.pieces.take k)) ∧ Below w1.heap.size w1 wr) (fun _ i _ => x.pieces.length - (intOf i).toNat)
  case atStart => exact ⟨0, none, 0, Nat.zero_le _, rfl, rfl, GRow.nil, Below.refl _ _⟩
  case round =>
    obtain ⟨k, va, vc, hk, rfl, rfl, row, BR⟩ := hrel
    have hr := h1.below BR
    have szr := BR.size
    have hp1 : PcRow (OutR S R (.slice pa x.pieces.length pc) t l w1) base wr (.slice pa x.pieces.length pc) x.pieces := GRow.keep PcI.holds h1.pc ⟨BR.os, BR.tape, BR.output, BR.size, fun i hi => BR.block i hi.1.1⟩ (fun k hk => BR.block k (h1.pc.lt hk).2)
    by_cases hlt : k < x.pieces.length
    · obtain ⟨g, cap, u, he, hbg, hg1, hc1, hc2, ⟨d, ss, q, rfl, hl⟩, hrng, hfz⟩ := GRow.at PcI.holds hp1 k hlt
      simp only [Value.slice.injEq] at he
      obtain ⟨rfl, -, rfl⟩ := he
      obtain ⟨da, dc, sa', sc', qa, qc, rfl, rfl, rfl⟩ := hl.ex
      have hix := run_pc_at g x.pieces.length pc k hlt
      have HMI : Hid (mineM m (x.pieces.take (k + 1)) = mineM m (x.pieces.take k) ++ (if isM m x.pieces[k] = true then [x.pieces[k]] else [])) := mine_snoc m x.pieces k hlt
      have HML : (mineM m (x.pieces.take k)).length ≤ k := by have := mine_len m (x.pieces.take k); simp at this; omega
      have hpn := hf.n
      generalize x.pieces[k] = y at *
      have hl1' : SnL (fun j => j < w1.heap.size) wr y.ck (.slice da y.ck.data.length dc) (.slice sa' y.ck.spans.length sc') (.slice qa y.ck.skips.length qc) := hl.mono fun k hk => hk.1.1
      have AX := Cells.new wr #[.int .i64 y.number, .int .i64 y.ck.kind, .int .i64 y.ck.tag, .int .i64 y.ck.stream, .int .i64 y.ck.mid, .int .i64 y.ck.part, .bool y.ck.last, .bool y.ck.ordered, .slice da y.ck.data.length dc, .slice sa' y.ck.spans.length sc', .int .i64 y.ck.room, .slice qa y.ck.skips.length qc] 71
      have szX : wr.heap.size < (wr.alloc (.cells #[.int .i64 y.number, .int .i64 y.ck.kind, .int .i64 y.ck.tag, .int .i64 y.ck.stream, .int .i64 y.ck.mid, .int .i64 y.ck.part, .bool y.ck.last, .bool y.ck.ordered, .slice da y.ck.data.length dc, .slice sa' y.ck.spans.length sc', .int .i64 y.ck.room, .slice qa y.ck.skips.length qc] 71)).heap.size := by simp
      have bX := box_below wr (.cells #[.int .i64 y.number, .int .i64 y.ck.kind, .int .i64 y.ck.tag, .int .i64 y.ck.stream, .int .i64 y.ck.mid, .int .i64 y.ck.part, .bool y.ck.last, .bool y.ck.ordered, .slice da y.ck.data.length dc, .slice sa' y.ck.spans.length sc', .int .i64 y.ck.room, .slice qa y.ck.skips.length qc] 71)
      have AS := of1_any y da y.ck.data.length dc sa' y.ck.spans.length sc' qa y.ck.skips.length qc N m _ ((HN.below BR hl1).below bX (by omega)) (by omega)
      have hrng' : wr.rangeAt g (k * 12) [.int .i64 y.number, .int .i64 y.ck.kind, .int .i64 y.ck.tag, .int .i64 y.ck.stream, .int .i64 y.ck.mid, .int .i64 y.ck.part, .bool y.ck.last, .bool y.ck.ordered, .slice da y.ck.data.length dc, .slice sa' y.ck.spans.length sc', .int .i64 y.ck.room, .slice qa y.ck.skips.length qc] := hrng
      have AXR := AX.range
      generalize hmm : mineM m (x.pieces.take k) = mm at *
      go_wp2_with (first
        | refine wpList_ldP rfl (.tmp 20) rfl g (k * 12) rfl y _ _ _ (by with_reducible exact hrng') ?_
        | refine wpList_stN 71 12 Try.sizePc rfl (.tmp 8) (.tmp 21) rfl wr _ rfl rfl rfl [.int .i64 y.number, .int .i64 y.ck.kind, .int .i64 y.ck.tag, .int .i64 y.ck.stream, .int .i64 y.ck.mid, .int .i64 y.ck.part, .bool y.ck.last, .bool y.ck.ordered, .slice da y.ck.data.length dc, .slice sa' y.ck.spans.length sc', .int .i64 y.ck.room, .slice qa y.ck.skips.length qc] rfl rfl rfl ?_
        | refine wpList_ldP rfl (.tmp 8) rfl wr.heap.size 0 rfl y _ _ _ (by with_reducible exact AXR) ?_)
      generalize wr.alloc (.cells #[.int .i64 y.number, .int .i64 y.ck.kind, .int .i64 y.ck.tag, .int .i64 y.ck.stream, .int .i64 y.ck.mid, .int .i64 y.ck.part, .bool y.ck.last, .bool y.ck.ordered, .slice da y.ck.data.length dc, .slice sa' y.ck.spans.length sc', .int .i64 y.ck.room, .slice qa y.ck.skips.length qc] 71) = wx at *
      refine AS.mono ?_
      rintro e w2 ⟨rfl, b2⟩
      have B2 : Below wr.heap.size wr w2 := bX.trans (b2.mono (by omega))
      have BW2 : Below w1.heap.size w1 w2 := BR.trans (B2.mono (by omega))
      have sz2 := B2.size
      have KS2 : Keep (fun j => j < w1.heap.size) wr w2 := ⟨B2.os, B2.tape, B2.output, B2.size, fun i hi => B2.block i (by omega)⟩
      have row2 : PcRow (fun j => j < w1.heap.size) w1.heap.size w2 (.slice va mm.length vc) mm := GRow.keep PcI.holds row KS2 (fun k hk => B2.block k (row.lt hk).2)
      cases hq : isM m y with
      | false =>
        have HE2 : Hid (mineM m (x.pieces.take (k + 1)) = mm) := by show _ = _; rw [HMI.out, hq]; simp
        clear AS hrng hrng' AX AXR HMI
        go_wp2_with fail
        go_roundw
        case rel => exact ⟨k + 1, va, vc, by omega, by go_num, by rw [HE2.out], by rw [HE2.out]; exact row2, BW2⟩
        case measure => simp [intOf]; omega
      | true =>
        have HE2 : Hid (mineM m (x.pieces.take (k + 1)) = mm ++ [y]) := by show _ = _; rw [HMI.out, hq]; simp
        have AX2 := (AX.below b2 (by omega)).range
        have HO : ∀ j, (fun j => j < w1.heap.size) j → j < w2.heap.size ∧ (Value.slice va mm.length vc).ownBlock ≠ some j := fun j hj => ⟨by have : j < w1.heap.size := hj; omega, fun e => by have := (row2.lt e).1; have : j < w1.heap.size := hj; omega⟩
        clear AS hrng hrng' AX AXR HMI
        dsimp only
        go_wp2_with (first
          | refine wpList_ldP rfl (.tmp 8) rfl wr.heap.size 0 rfl y _ _ _ (by with_reducible exact AX2) ?_
          | (at_builtin; refine wpList_appP rfl (.tmp 25) (.tmp 27) rfl w2 (fun j => j < w1.heap.size) w1.heap.size (.slice va mm.length vc) mm y _ _ _ w2.heap.size rfl rfl rfl (by with_reducible exact row2) (hl1'.keep KS2) HO (by omega) (by omega) ?_; intro v3 w3 row3 kp3 ho3; obtain ⟨va3, vc3, rfl⟩ := row3.form))
        have BW3 : Below w1.heap.size w1 w3 := BW2.trans (kp3.below fun j hj => HO j hj)
        have HLE : Hid ((mm ++ [y]).length = mm.length + 1) := by show _ = _; simp
        go_roundw
        case rel => exact ⟨k + 1, va3, vc3, by omega, by go_num, by rw [HE2.out, HLE.out], by rw [HE2.out]; exact row3, BW3⟩
        case measure => simp [intOf]; omega
    · have hke : k = x.pieces.length := by omega
      subst hke
      rw [List.take_of_length_le (Nat.le_refl _)] at row ⊢
      clear hp1
      have JO := join_in _ (mineM m x.pieces) wr row.s (Nat.le_trans (mine_len m x.pieces) hf.n) (fun p hp => (hf.d p (List.mem_filter.1 hp).1).2)
      have HW : Hid (wholeM x m = joinB (mineM m x.pieces)) := rfl
      have HDE : Hid (delivM x m = if joinB (mineM m x.pieces) = true then dropM (loggedM x m) m else x) := rfl
      have HLG : Hid (loggedM x m = { x with log := x.log ++ [⟨m.stream, m.mid, m.ordered, joinD (mineM m x.pieces)⟩] }) := rfl
      have HLN : Hid (joinB (mineM m x.pieces) = true → x.log.length + 1 ≤ 2097153) := fun _ => by have := hf.l; omega
      go_wp2_with fail
      refine JO.mono ?_
      rintro e w3 ⟨v3, rfl, by3, b3, in3⟩
      have h3 := hr.below b3
      have sz3 := b3.size
      have BW3 : Below w1.heap.size w1 w3 := BR.trans (b3.mono szr)
      obtain ⟨a3, c3, e3', -, -⟩ := by3.ex
      subst e3'
      generalize joinD (mineM m x.pieces) = jd at *
      generalize hn3 : jd.length = n3 at *
      cases hj : joinB (mineM m x.pieces) with
      | false =>
        have HD2 : Hid (delivM x m = x) := by show _ = _; rw [HDE.out, hj]; simp
        have HW2 : Hid (wholeM x m = false) := by show _ = _; rw [HW.out, hj]
        have BE : Below base w w3 := (B1.mono hrw).trans (BW3.mono (by omega))
        have hbs1 := B1.size
        have hbs3 := BW3.size
        have KE : Keep S w w3 := (toKeep B1 fun k hk => (HS.out k hk).1).trans (toKeep BW3 fun k hk => by have := (HS.out k hk).1; omega)
        have RX : Hid (RvX S base w3 R x) := ⟨_, _, _, _, h3⟩
        clear JO HDE HW row h3
        go_wp2_with fail
        go_ret
        rw [HD2.out, HW2.out]
        exact ⟨rfl, RX.out, KE, BE⟩
      | true =>
        have HD2 : Hid (delivM x m = dropM (loggedM x m) m) := by show _ = _; rw [HDE.out, hj]; simp
        have HW2 : Hid (wholeM x m = true) := by show _ = _; rw [HW.out, hj]
        have hln := HLN.out hj
        clear JO HDE HW row HLN
        have BD : Below w3.heap.size w3 w3.drew := below_drew' (Below.refl _ _)
        have hd := h3.below BD
        have CM3 : MsAt w3 w.heap.size m := CM1.below BW3 hML
        have c11 := h3.cells.cell 11 _ rfl
        have m0 := CM3.cell 0 _ rfl
        have m1 := CM3.cell 1 _ rfl
        have m2 := CM3.cell 2 _ rfl
        have n11 := fun o => new_at c11 o
        obtain ⟨vs, hA, hO⟩ := hd.lg
        have hu : AvI (OutR S R (.slice pa x.pieces.length pc) t l w3.drew) w3.drew (avVal ⟨m.stream, m.mid, m.ordered, jd⟩ (.slice a3 n3 c3)) ⟨m.stream, m.mid, m.ordered, jd⟩ := ⟨_, rfl, by3.below BD (Nat.le_refl _), fun b off sp n c e hn => by
          have g1 := in3 b off sp n c e hn
          have g2 : b < w3.heap.size := by3.1.ins b off sp n c e hn
          exact ⟨⟨g2, fun e' => by have := hr.rlt; omega, fun e' => by have := (hr.pc.lt e').2; omega, fun e' => by have := (hr.tn.lt _ e').2; omega, fun e' => by have := (hr.lg.lt e').2; omega⟩, fun e' => by have := (hr.eo b e').1; omega⟩⟩
        have PUSH : ∀ v5 w5, w5.ownsRow base 59 4 v5 (x.log.length + 1) (flatV vs ++ [.int .i64 m.stream, .int .i64 m.mid, .bool m.ordered, .slice a3 n3 c3]) → (w3.drew.alloc (.cells #[.int .i64 m.stream, .int .i64 m.mid, .bool m.ordered, .slice a3 n3 c3] 59)).grownBy w5 l.ownBlock → (v5.ownBlock = l.ownBlock ∨ v5.ownBlock = some (w3.drew.alloc (.cells #[.int .i64 m.stream, .int .i64 m.mid, .bool m.ordered, .slice a3 n3 c3] 59)).heap.size) →
            RvM S base (w5.setCell ⟨R, 11, none⟩ v5) R (loggedM x m) s (.slice pa x.pieces.length pc) t v5 ∧ w5.cell? ⟨R, 11, none⟩ = some l ∧ w5.frozen? ⟨R, 11, none⟩ = false ∧ MsAt (w5.setCell ⟨R, 11, none⟩ v5) w.heap.size m ∧ Below base w (w5.setCell ⟨R, 11, none⟩ v5) ∧ Keep S w (w5.setCell ⟨R, 11, none⟩ v5) := by
          intro v5 w5 o5 g5 a5
          obtain ⟨row5, kp5, ho5⟩ := GRow.grown AvI.holds hA hu (fun k hk => ⟨hk.1.1, hk.1.2.2.2.2⟩) (by exact o5) g5 a5
          have hc := hd.cells.keep kp5 ⟨hd.rlt, hd.lR⟩
          have hsz : w3.heap.size ≤ w5.heap.size := kp5.size
          have hbs1 := B1.size
          have hbs3 := BW3.size
          refine ⟨?_, hc.cell 11 _ rfl, hc.fz 11, ?_, ?_, ?_⟩
          · rw [HLG.out]
            exact hd.logged kp5 row5 ho5
          · refine Cells.past (Y := R) ?_ 11 v5 (by have := h.rlt; omega)
            exact (CM3.below BD (by omega)).keep kp5 ⟨by show w.heap.size < w3.heap.size; omega, fun e => by have := (h.lg.lt e).2; omega⟩
          · refine Below.setCell ?_ (by show base ≤ R; exact h.rb) _
            exact ((B1.mono hrw).trans (BW3.mono (by omega))).trans ((BD.mono (by omega)).trans (kp5.below fun k hk => ⟨by show k < w3.heap.size; omega, fun e => by have := (h.lg.lt e).1; omega⟩))
          · refine Keep.setCell ?_ (p := ⟨R, 11, none⟩) (fun hk => (HS.out R hk).2.1 rfl) _
            exact (((toKeep B1 fun k hk => (HS.out k hk).1).trans (toKeep BW3 fun k hk => by have := (HS.out k hk).1; omega)).trans (toKeep BD fun k hk => by have := (HS.out k hk).1; omega)).trans (kp5.mono fun k hk => ⟨by have := (HS.out k hk).1; show k < w3.heap.size; omega, (HS.out k hk).2.2.2.2⟩)
        have OW : (w3.drew.alloc (.cells #[.int .i64 m.stream, .int .i64 m.mid, .bool m.ordered, .slice a3 n3 c3] 59)).ownsRow base 59 4 l x.log.length (flatV vs) := own_of_block hO fun k hk => (box_below w3.drew _).block k (hO.lt k hk).2
        have hL : Rw 4 (w3.heap.size + 1) (w3.drew.alloc (.cells #[.int .i64 m.stream, .int .i64 m.mid, .bool m.ordered, .slice a3 n3 c3] 59)) (.slice (some ⟨w3.heap.size, 0, none⟩) 1 1) 1 [.int .i64 m.stream, .int .i64 m.mid, .bool m.ordered, .slice a3 n3 c3] := Rw.oneN w3.drew [.int .i64 m.stream, .int .i64 m.mid, .bool m.ordered, .slice a3 n3 c3] 59 4 rfl
        have hone : ∀ u ∈ [Value.int .i64 m.stream, .int .i64 m.mid, .bool m.ordered, .slice a3 n3 c3], u.oneCell' = true := List.all_eq_true.1 rfl
        have hbs : base ≤ (w3.drew.alloc (.cells #[.int .i64 m.stream, .int .i64 m.mid, .bool m.ordered, .slice a3 n3 c3] 59)).heap.size := by simp; omega
        have hl1' : x.log.length + 1 ≤ maxLen := by unfold maxLen; omega
        have hl2' : (x.log.length + 1) * 48 ≤ 140737488355328 := by omega
        have HLN2 : Hid (FitR x) := hf
        subst e4
        have PUSH' : Hid _ := PUSH
        have OW' : Hid _ := OW
        have hL' : Hid _ := hL
        have hone' : Hid _ := hone
        clear PUSH OW hL hone e1 e3 HE HN CM1 CM3 B1
        clear hA hO hu hd BD HLG h3 by3 in3 hf BR BW3 hr h1 h0 h HS
        go_upto_region 11 with fail
        go_cut [50] from 36 to 52 (fun s50 wx => ∃ a6 c6, s50 = .slice a6 (x.log.length + 1) c6 ∧ Hid (RvM S base wx R (loggedM x m) s (.slice pa x.pieces.length pc) t (.slice a6 (x.log.length + 1) c6)) ∧ Hid (MsAt wx w.heap.size m) ∧ Hid (Below base w wx) ∧ Hid (Keep S w wx))
        case first =>
          go_region_law (refine step_append_rw Try.underlying45 Try.infoAv rfl (by decide) rfl (.tmp 40) (.tmp 49) rfl base (.slice la x.log.length lc) x.log.length (flatV vs) rfl OW'.out _ 1 _ _ rfl hL'.out hone'.out hl1' hl2' hbs ?_; intro v5 w5 o5 g5 a5; obtain ⟨RM, z11, f11, CM5, BE5, KO5⟩ := PUSH'.out v5 w5 o5 g5 a5; obtain ⟨a6, c6, rfl⟩ := own_form o5; have HQ : Hid _ := RM; have HK : Hid _ := KO5; clear RM KO5 o5 g5 a5)
          all_goals
            go_wp2_with fail
            go_meet
            exact ⟨_, _, rfl, HQ, CM5, BE5, HK⟩
        case rest =>
          obtain ⟨a6, c6, rfl, HQ, CM5, BE5, HK⟩ := hcut
          clear PUSH' OW' hL' hone' hbs c11 n11 m0 m1 m2
          have k0 := CM5.out.cell 0 _ rfl
          have k1 := CM5.out.cell 1 _ rfl
          have k2 := CM5.out.cell 2 _ rfl
          have DR := drop_any S base R (loggedM x m) m wc ⟨_, _, _, _, HQ.out⟩
          go_wp2_with fail
          refine DR.mono ?_
          rintro e w6 ⟨⟨r6, rfl⟩, RX, k6, b6⟩
          have KE : Keep S w w6 := HK.out.trans k6
          have BE : Below base w w6 := BE5.out.trans (b6.mono (Nat.le_refl _))
          clear DR
          go_wp2_with fail
          go_ret
          rw [HD2.out, HW2.out]
          exact ⟨rfl, RX, KE, BE⟩
end Go.Proofs.Ytnddejdndipddad
