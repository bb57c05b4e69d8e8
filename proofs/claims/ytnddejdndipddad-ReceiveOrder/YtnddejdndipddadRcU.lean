/- The contract of receive.Sack. -/
import Derived.Test.YtnddejdndipddadRcL
import Derived.Deep.RegionLawGrows
set_option maxRecDepth 20000
namespace Go.Proofs.Ytnddejdndipddad
open Go.RowKit

/-- A span as a value: it holds no list. -/
def SpI (_ : Nat → Prop) (_ : World) (v : Value) (s : Sp) : Prop := v = .agg #[.int .i64 s.1, .int .i64 s.2]
theorem SpI.holds : Holds 2 SpI where
  cells := by rintro S w v x rfl; rfl
  one := by rintro S w v x rfl; exact List.all_eq_true.1 rfl
  keep := by rintro S w w' v x h _; exact h
  mono := by rintro S S' w v x h _; exact h
abbrev SpRow (base : Nat) (w : World) (v : Value) (l : List Sp) : Prop := GRow 75 2 SpI (fun _ => False) base w v l
theorem flat_flatV (l : List Sp) : flat l = flatV (l.map fun s => .agg #[.int .i64 s.1, .int .i64 s.2]) := by
  induction l with
  | nil => rfl
  | cons s l ih => rw [List.map_cons, flatV_cons, ← ih]; rfl
theorem SpRow.own {base : Nat} {w : World} {v : Value} {l : List Sp} (h : w.ownsRow base 75 2 v l.length (flat l)) : SpRow base w v l :=
  ⟨l.map fun s => .agg #[.int .i64 s.1, .int .i64 s.2], All2.of (by simp) fun k v x e e' => by rw [List.getElem?_map, e'] at e; simp at e; exact e.symm, by rw [flat_flatV] at h; exact h⟩
theorem SpRow.flat {base : Nat} {w : World} {v : Value} {l : List Sp} (h : SpRow base w v l) : w.ownsRow base 75 2 v l.length (Go.Proofs.Ytnddejdndipddad.flat l) := by
  obtain ⟨vs, h1, h2⟩ := h
  have e : ∀ {vs : List Value} {l : List Sp}, All2 (SpI (fun _ => False) w) vs l → flatV vs = Go.Proofs.Ytnddejdndipddad.flat l := by
    intro vs
    induction vs with
    | nil => intro l h; cases l with
      | nil => rfl
      | cons => exact h.elim
    | cons v vs ih => intro l h; cases l with
      | nil => exact h.elim
      | cons s l =>
        rw [flatV_cons, ih h.2, show v = _ from h.1]
        rfl
  rw [e h1] at h2
  exact h2
theorem fst_set {w : World} {g o : Nat} {a b : Value} (h : w.cell? ⟨g, o + 1, none⟩ = some b) : w.setCells g o [a, b] = w.setCell ⟨g, o, none⟩ a := by
  show (w.setCell ⟨g, o, none⟩ a).setCell ⟨g, o + 1, none⟩ b = _
  exact setCell_id (by rw [World.cell?_setCell_other _ _ _ _ (by simp)]; exact h)
theorem snd_set {w : World} {g o : Nat} {a b : Value} (h : w.cell? ⟨g, o, none⟩ = some a) : w.setCells g o [a, b] = w.setCell ⟨g, o + 1, none⟩ b := by
  show (w.setCell ⟨g, o, none⟩ a).setCell ⟨g, o + 1, none⟩ b = _
  rw [setCell_id h]
theorem enters_stag (args : Array Value) (wx : World) : (callFunc 70 args).run Try.prog wx = .ok (.enter 70 args) wx := enters_body Try.func70 (by kernel_rfl) rfl args wx
theorem enters_rheld (args : Array Value) (wx : World) : (callFunc 26 args).run Try.prog wx = .ok (.enter 26 args) wx := enters_body Try.func26 (by kernel_rfl) rfl args wx
/-- The first k of them less c. -/
def lessK (c : Int) (l : List Sp) (k : Nat) : List Sp := (l.take k).map (fun s => (s.1 - c, s.2 - c)) ++ l.drop k
theorem lessK_len (c : Int) (l : List Sp) (k : Nat) : (lessK c l k).length = l.length := by simp [lessK]; omega
theorem lessK_get (c : Int) (l : List Sp) (k : Nat) (h : k < l.length) : (lessK c l k)[k]? = some l[k] := by
  rw [lessK, List.getElem?_append_right (by simp; omega)]
  simp [Nat.min_eq_left (Nat.le_of_lt h), h]
theorem lessK_set (c : Int) (l : List Sp) (k : Nat) (h : k < l.length) : (lessK c l k).set k (l[k].1 - c, l[k].2 - c) = lessK c l (k + 1) := by
  have hl : ((l.take k).map fun s : Sp => (s.1 - c, s.2 - c)).length = k := by simp; omega
  rw [lessK, lessK, List.take_succ_eq_append_getElem h, List.map_append, List.set_append_right _ _ (by omega), hl, Nat.sub_self, List.drop_eq_getElem_cons h, List.append_assoc]
  rfl
theorem run_span_at (g n c k : Nat) (h : k < n) (wx : World) : (Instr.indexAt 39 (.slice (some ⟨g, 0, none⟩) n c) (.int .i64 (k : Int))).run Try.prog wx = .ok (.pointer (some ⟨g, k * 2, none⟩)) wx := by
  have : (k : Int) < n := by omega
  go_simp
theorem run_sp_hi (a : Option Addr) (n c hi : Nat) (h : hi ≤ n) (hc : n ≤ c) (wx : World) : (Instr.slice 39 (.slice a n c) none (some (.int .i64 (hi : Int))) none).run Try.prog wx = .ok (.slice a hi c) wx := run_sl_h a n c hi h hc wx

set_option maxHeartbeats 4000000 in
theorem sack_any (x : Rc) (s p t l : Value) (w : World) (h : RvS w.heap.size w x s p t l) (hf : FitR x) (hw : ∀ q ∈ x.spans, I64 (q.1 - x.cum) ∧ I64 (q.2 - x.cum)) :
    Calls Try.prog 33 #[.agg #[.int .i64 x.cf.streams, .int .i64 x.cf.part, .int .i64 x.cf.packet, .int .i64 x.cf.paths, .int .i64 x.cf.turns, .int .i64 x.cf.waiting, .int .i64 x.cf.first, .int .i64 x.cum, s, p, t, l]] w fun e w' => ∃ sp, e = .returned (ckVal (tellM x) (.slice none 0 0) sp (.slice none 0 0)) ∧ Sl w'.heap.size w' sp (tellM x).spans ∧ Below w.heap.size w w' := by
  have H := h
  have hh := hf.held
  obtain ⟨sa, sc, pa, pc, ta, tc, la, lc, rfl, rfl, rfl, rfl⟩ := h.ex
  clear h
  have B0 := two_below w (.cells #[.int .i64 x.cf.streams, .int .i64 x.cf.part, .int .i64 x.cf.packet, .int .i64 x.cf.paths, .int .i64 x.cf.turns, .int .i64 x.cf.waiting, .int .i64 x.cf.first, .int .i64 x.cum, .slice sa x.spans.length sc, .slice pa x.pieces.length pc, .slice ta x.turn.length tc, .slice la x.log.length lc] 47) (.cells #[.int .i64 0, .int .i64 0, .int .i64 0, .int .i64 0, .int .i64 0, .bool false, .bool false, .slice none 0 0, .slice none 0 0, .int .i64 0, .slice none 0 0] 42)
  have CX : Cells w.heap.size ((w.alloc (.cells #[.int .i64 x.cf.streams, .int .i64 x.cf.part, .int .i64 x.cf.packet, .int .i64 x.cf.paths, .int .i64 x.cf.turns, .int .i64 x.cf.waiting, .int .i64 x.cf.first, .int .i64 x.cum, .slice sa x.spans.length sc, .slice pa x.pieces.length pc, .slice ta x.turn.length tc, .slice la x.log.length lc] 47)).alloc (.cells #[.int .i64 0, .int .i64 0, .int .i64 0, .int .i64 0, .int .i64 0, .bool false, .bool false, .slice none 0 0, .slice none 0 0, .int .i64 0, .slice none 0 0] 42)) [.int .i64 x.cf.streams, .int .i64 x.cf.part, .int .i64 x.cf.packet, .int .i64 x.cf.paths, .int .i64 x.cf.turns, .int .i64 x.cf.waiting, .int .i64 x.cf.first, .int .i64 x.cum, .slice sa x.spans.length sc, .slice pa x.pieces.length pc, .slice ta x.turn.length tc, .slice la x.log.length lc] := (Cells.new w #[.int .i64 x.cf.streams, .int .i64 x.cf.part, .int .i64 x.cf.packet, .int .i64 x.cf.paths, .int .i64 x.cf.turns, .int .i64 x.cf.waiting, .int .i64 x.cf.first, .int .i64 x.cum, .slice sa x.spans.length sc, .slice pa x.pieces.length pc, .slice ta x.turn.length tc, .slice la x.log.length lc] 47).alloc (by simp) _
  have CR : Cells (w.heap.size + 1) ((w.alloc (.cells #[.int .i64 x.cf.streams, .int .i64 x.cf.part, .int .i64 x.cf.packet, .int .i64 x.cf.paths, .int .i64 x.cf.turns, .int .i64 x.cf.waiting, .int .i64 x.cf.first, .int .i64 x.cum, .slice sa x.spans.length sc, .slice pa x.pieces.length pc, .slice ta x.turn.length tc, .slice la x.log.length lc] 47)).alloc (.cells #[.int .i64 0, .int .i64 0, .int .i64 0, .int .i64 0, .int .i64 0, .bool false, .bool false, .slice none 0 0, .slice none 0 0, .int .i64 0, .slice none 0 0] 42)) [.int .i64 0, .int .i64 0, .int .i64 0, .int .i64 0, .int .i64 0, .bool false, .bool false, .slice none 0 0, .slice none 0 0, .int .i64 0, .slice none 0 0] := Cells.new' #[.int .i64 0, .int .i64 0, .int .i64 0, .int .i64 0, .int .i64 0, .bool false, .bool false, .slice none 0 0, .slice none 0 0, .int .i64 0, .slice none 0 0] 42 (by simp)
  have hz : w.heap.size + 2 ≤ ((w.alloc (.cells #[.int .i64 x.cf.streams, .int .i64 x.cf.part, .int .i64 x.cf.packet, .int .i64 x.cf.paths, .int .i64 x.cf.turns, .int .i64 x.cf.waiting, .int .i64 x.cf.first, .int .i64 x.cum, .slice sa x.spans.length sc, .slice pa x.pieces.length pc, .slice ta x.turn.length tc, .slice la x.log.length lc] 47)).alloc (.cells #[.int .i64 0, .int .i64 0, .int .i64 0, .int .i64 0, .int .i64 0, .bool false, .bool false, .slice none 0 0, .slice none 0 0, .int .i64 0, .slice none 0 0] 42)).heap.size := by simp
  obtain ⟨m, hm⟩ : ∃ m, min x.spans.length 6 = m := ⟨_, rfl⟩
  have HM : Hid (min x.spans.length 6 = m) := hm
  have hm1 : m ≤ x.spans.length := by omega
  have hm6 : m ≤ 6 := by omega
  have HTK : Hid (x.spans.take 6 = x.spans.take m) := by
    show _ = _
    by_cases hq : x.spans.length ≤ 6
    · rw [List.take_of_length_le hq, List.take_of_length_le (by omega)]
    · rw [show m = 6 by omega]
  have hmin : min (x.spans.length : Int) 6 = (m : Int) := by omega
  clear hm
  have hcap := H.s.len
  have hix := run_sp_hi sa x.spans.length sc m hm1 hcap.2.1
  have hsl := H.s.head m hm1
  have CL : ∀ wx, Below ((w.alloc (.cells #[.int .i64 x.cf.streams, .int .i64 x.cf.part, .int .i64 x.cf.packet, .int .i64 x.cf.paths, .int .i64 x.cf.turns, .int .i64 x.cf.waiting, .int .i64 x.cf.first, .int .i64 x.cum, .slice sa x.spans.length sc, .slice pa x.pieces.length pc, .slice ta x.turn.length tc, .slice la x.log.length lc] 47)).alloc (.cells #[.int .i64 0, .int .i64 0, .int .i64 0, .int .i64 0, .int .i64 0, .bool false, .bool false, .slice none 0 0, .slice none 0 0, .int .i64 0, .slice none 0 0] 42)).heap.size ((w.alloc (.cells #[.int .i64 x.cf.streams, .int .i64 x.cf.part, .int .i64 x.cf.packet, .int .i64 x.cf.paths, .int .i64 x.cf.turns, .int .i64 x.cf.waiting, .int .i64 x.cf.first, .int .i64 x.cum, .slice sa x.spans.length sc, .slice pa x.pieces.length pc, .slice ta x.turn.length tc, .slice la x.log.length lc] 47)).alloc (.cells #[.int .i64 0, .int .i64 0, .int .i64 0, .int .i64 0, .int .i64 0, .bool false, .bool false, .slice none 0 0, .slice none 0 0, .int .i64 0, .slice none 0 0] 42)) wx → Calls Try.prog 46 #[.slice sa m sc] wx fun e w' => ∃ a c, e = .returned (.slice a m c) ∧ w'.ownsRow wx.heap.size 75 2 (.slice a m c) m (flat (x.spans.take m)) ∧ Below wx.heap.size wx w' := fun wx hx => by
    have hr := (hsl.rw'.below B0 (Nat.le_refl _)).below hx (by omega)
    rw [show (x.spans.take m).length = m by simp; omega] at hr
    exact clone_spans _ _ _ wx (hr.mono (by have := hx.size; omega)) (flat_one _) (by omega)
  have c8 := CX.cell 8 _ rfl
  go_enter Try.func33, Try.ntmps33
  go_upto_region 1 with fail
  generalize ((w.alloc (.cells #[.int .i64 x.cf.streams, .int .i64 x.cf.part, .int .i64 x.cf.packet, .int .i64 x.cf.paths, .int .i64 x.cf.turns, .int .i64 x.cf.waiting, .int .i64 x.cf.first, .int .i64 x.cum, .slice sa x.spans.length sc, .slice pa x.pieces.length pc, .slice ta x.turn.length tc, .slice la x.log.length lc] 47)).alloc (.cells #[.int .i64 0, .int .i64 0, .int .i64 0, .int .i64 0, .int .i64 0, .bool false, .bool false, .slice none 0 0, .slice none 0 0, .int .i64 0, .slice none 0 0] 42)) = w0 at *
  go_cut [3] from 5 to 12 (fun s3 wx => ∃ a1 c1, s3 = .slice a1 m c1 ∧ Hid (wx.ownsRow w0.heap.size 75 2 (.slice a1 m c1) m (flat (x.spans.take m))) ∧ Below w0.heap.size w0 wx)
  case first =>
    go_wp2_with fail
    · obtain rfl : m = 6 := by omega
      refine (CL w0 (Below.refl _ _)).mono ?_
      rintro e w1 ⟨a1, c1, rfl, o1, b1⟩
      have HO1 : Hid _ := o1
      go_wp2_with fail
      go_meet
      exact ⟨a1, c1, rfl, HO1, b1⟩
    · obtain rfl : m = x.spans.length := by omega
      refine (CL w0 (Below.refl _ _)).mono ?_
      rintro e w1 ⟨a1, c1, rfl, o1, b1⟩
      have HO1 : Hid _ := o1
      go_wp2_with fail
      go_meet
      exact ⟨a1, c1, rfl, HO1, b1⟩
  case rest =>
  obtain ⟨a1, c1, rfl, HO1, b1⟩ := hcut
  obtain ⟨w1, rfl⟩ : ∃ w1, w1 = wc := ⟨wc, rfl⟩
  have o1 := HO1.out
  have HO : Hid (w1.ownsRow w0.heap.size 75 2 (.slice a1 m c1) m (flat (x.spans.take m))) := o1
  have HX : Hid _ := CX
  have HR : Hid _ := CR
  have hlm : (x.spans.take m).length = m := by simp; omega
  have HLM : Hid ((x.spans.take m).length = m) := hlm
  have HROW : Hid (SpRow w0.heap.size w1 (.slice a1 m c1) (lessK x.cum (x.spans.take m) 0)) := by
    refine SpRow.own ?_
    rw [lessK_len, HLM.out]
    simpa [lessK] using o1
  clear CL c8 CX CR o1 hix hmin hlm
  go_wp2_with fail
  go_loopw [15] (fun i wr => ∃ k : Nat, k ≤ m ∧ i = .int .i64 k ∧ Hid (SpRow w0.heap.size wr (.slice a1 m c1) (lessK x.cum (x.spans.take m) k)) ∧ Below w0.heap.size w0 wr) (fun i _ => m - (intOf i).toNat)
  case atStart => exact ⟨0, Nat.zero_le _, rfl, HROW, b1⟩
  case round =>
    obtain ⟨k, hk, rfl, HRO, BR⟩ := hrel
    have CXr := HX.out.below BR (by omega)
    have x7 := CXr.cell 7 _ rfl
    by_cases hlt : k < m
    · have hkl : k < (lessK x.cum (x.spans.take m) k).length := by rw [lessK_len, HLM.out]; exact hlt
      obtain ⟨g, cap, u, he, hbg, hg1, hc1, hc2, hu, hrng, hfz⟩ := GRow.at SpI.holds HRO.out k hkl
      simp only [Value.slice.injEq] at he
      obtain ⟨rfl, -, rfl⟩ := he
      have hlk : k < (x.spans.take m).length := by rw [HLM.out]; exact hlt
      have hge : (lessK x.cum (x.spans.take m) k)[k] = (x.spans.take m)[k] := by have := lessK_get x.cum (x.spans.take m) k hlk; rw [List.getElem?_eq_getElem hkl] at this; simpa using this
      have HSET : Hid ((lessK x.cum (x.spans.take m) k).set k ((x.spans.take m)[k].1 - x.cum, (x.spans.take m)[k].2 - x.cum) = lessK x.cum (x.spans.take m) (k + 1)) := lessK_set x.cum _ k hlk
      have hwk := hw _ (List.mem_of_mem_take (List.getElem_mem hlk))
      rw [hge] at hu
      generalize (x.spans.take m)[k] = q at *
      have hu' : u = .agg #[.int .i64 q.1, .int .i64 q.2] := hu
      subst hu'
      have y0 := hrng 0 _ rfl
      have y1 := hrng 1 _ rfl
      have hixk := run_span_at g m c1 k hlt
      have f0 := hfz (k * 2)
      have f1 := hfz (k * 2 + 1)
      have W1 : IntKind.i64.wrap (q.1 - x.cum) = q.1 - x.cum := by have := hwk.1; unfold I64 at this; simp [IntKind.wrap, IntKind.signed, IntKind.bits]; omega
      have W2 : IntKind.i64.wrap (q.2 - x.cum) = q.2 - x.cum := by have := hwk.2; unfold I64 at this; simp [IntKind.wrap, IntKind.signed, IntKind.bits]; omega
      have FS : ∀ wy, Below wr.heap.size wr wy → SpRow w0.heap.size (wy.setCell ⟨g, k * 2, none⟩ (.int .i64 (q.1 - x.cum))) (.slice (some ⟨g, 0, none⟩) m c1) ((lessK x.cum (x.spans.take m) k).set k (q.1 - x.cum, q.2)) := fun wy hy => by
        have r1 : SpRow w0.heap.size wy (.slice (some ⟨g, 0, none⟩) m c1) (lessK x.cum (x.spans.take m) k) := GRow.keep SpI.holds HRO.out ⟨hy.os, hy.tape, hy.output, hy.size, fun i hi => hi.elim⟩ (fun j hj => hy.block j (HRO.out.lt hj).2)
        have r2 := GRow.set SpI.holds r1 (fun hh => hh.elim) k hkl (u := .agg #[.int .i64 (q.1 - x.cum), .int .i64 q.2]) (x := (q.1 - x.cum, q.2)) rfl
        have e : wy.setCells g (k * 2) (Value.agg #[.int .i64 (q.1 - x.cum), .int .i64 q.2]).cells.toList = wy.setCell ⟨g, k * 2, none⟩ (.int .i64 (q.1 - x.cum)) := fst_set ((hy.cell (p := ⟨g, k * 2 + 1, none⟩) hg1).trans y1)
        rw [e] at r2
        exact r2
      have hgX : ¬ g = w.heap.size := by omega
      have hXg : ¬ w.heap.size = g := by omega
      have FIN : Hid (SpRow w0.heap.size ((wr.drew.setCell ⟨g, k * 2, none⟩ (.int .i64 (q.1 - x.cum))).drew.setCell ⟨g, k * 2 + 1, none⟩ (.int .i64 (q.2 - x.cum))) (.slice (some ⟨g, 0, none⟩) m c1) (lessK x.cum (x.spans.take m) (k + 1))) := by
        have r1 := FS wr.drew (below_drew' (Below.refl _ _))
        have bd : Below (wr.drew.setCell ⟨g, k * 2, none⟩ (.int .i64 (q.1 - x.cum))).heap.size (wr.drew.setCell ⟨g, k * 2, none⟩ (.int .i64 (q.1 - x.cum))) (wr.drew.setCell ⟨g, k * 2, none⟩ (.int .i64 (q.1 - x.cum))).drew := below_drew' (Below.refl _ _)
        have r2 := GRow.keep SpI.holds r1 ⟨bd.os, bd.tape, bd.output, bd.size, fun i hi => hi.elim⟩ (fun j hj => bd.block j (r1.lt hj).2)
        have r3 := GRow.set SpI.holds r2 (fun hh => hh.elim) k (by rw [List.length_set]; exact hkl) (u := .agg #[.int .i64 (q.1 - x.cum), .int .i64 (q.2 - x.cum)]) (x := (q.1 - x.cum, q.2 - x.cum)) rfl
        have hc0 : (wr.drew.setCell ⟨g, k * 2, none⟩ (.int .i64 (q.1 - x.cum))).drew.cell? ⟨g, k * 2, none⟩ = some (.int .i64 (q.1 - x.cum)) := by
          rw [World.cell?_drew]
          exact World.cell?_setCell_same' _ _ _ (by rw [World.cell?_drew]; have := y0; rw [Nat.add_zero] at this; rw [this]; rfl)
        have e : (wr.drew.setCell ⟨g, k * 2, none⟩ (.int .i64 (q.1 - x.cum))).drew.setCells g (k * 2) (Value.agg #[.int .i64 (q.1 - x.cum), .int .i64 (q.2 - x.cum)]).cells.toList = ((wr.drew.setCell ⟨g, k * 2, none⟩ (.int .i64 (q.1 - x.cum))).drew.setCell ⟨g, k * 2 + 1, none⟩ (.int .i64 (q.2 - x.cum))) := snd_set hc0
        rw [e, List.set_set, HSET.out] at r3
        exact r3
      have BR2 : Below w0.heap.size w0 ((wr.drew.setCell ⟨g, k * 2, none⟩ (.int .i64 (q.1 - x.cum))).drew.setCell ⟨g, k * 2 + 1, none⟩ (.int .i64 (q.2 - x.cum))) := Below.setCell (below_drew' (Below.setCell (below_drew' BR) hbg _)) hbg _
      clear FS hrng hfz HSET hkl hge hlk
      rw [Nat.add_zero] at y0
      go_upto_region 5 with fail
      go_region_law (fail)
      all_goals
        go_upto_region 6 with fail
        go_region_law (fail)
      all_goals
        go_wp2_with fail
        go_roundw
        case rel => exact ⟨k + 1, by omega, by go_num, FIN, BR2⟩
        case measure => simp [intOf]; omega
    · have hke : k = m := by omega
      subst hke
      have szr := BR.size
      have BDr : Below wr.heap.size wr wr.drew := below_drew' (Below.refl _ _)
      have TA : Calls Try.prog 70 #[.int .i64 x.cum] wr.drew fun e w' => ∃ v, e = .returned v ∧ v = .int .i64 (x.cum % 65536) ∧ w' = wr.drew := (tag_any x.cum wr.drew).mono fun e w' ⟨h1, h2⟩ => ⟨_, h1, rfl, h2⟩
      have HE : Calls Try.prog 26 #[.agg #[.int .i64 x.cf.streams, .int .i64 x.cf.part, .int .i64 x.cf.packet, .int .i64 x.cf.paths, .int .i64 x.cf.turns, .int .i64 x.cf.waiting, .int .i64 x.cf.first, .int .i64 x.cum, .slice sa x.spans.length sc, .slice pa x.pieces.length pc, .slice ta x.turn.length tc, .slice la x.log.length lc]] wr.drew fun e w' => ∃ v, e = .returned v ∧ v = .int .i64 (heldM x.pieces : Nat) ∧ Below wr.heap.size wr w' := (held_any x _ _ _ _ wr.drew (((H.below B0 (Nat.le_refl _)).below (BR.trans (BDr.mono szr)) (by omega)).mono (by show w.heap.size ≤ wr.heap.size; omega)) hf).mono fun e w' ⟨h1, h2⟩ => ⟨_, h1, rfl, BDr.trans h2⟩
      have HTL : Hid (tellM x = ⟨2, x.cum % 65536, 0, 0, 0, false, false, [], lessK x.cum (x.spans.take k) k, max (400 - (heldM x.pieces : Int)) 0, []⟩) := by
        show _ = _
        unfold tellM
        rw [HTK.out]
        congr 1
        rw [lessK, List.take_of_length_le (Nat.le_of_eq HLM.out), List.drop_of_length_le (Nat.le_of_eq HLM.out), List.append_nil]
      have HLL : Hid ((lessK x.cum (x.spans.take k) k).length = k) := by show _ = _; rw [lessK_len]; exact HLM.out
      have HFT : Hid (Fit (lessK x.cum (x.spans.take k) k)) := fun q hq => by
        rw [lessK, List.take_of_length_le (Nat.le_of_eq HLM.out), List.drop_of_length_le (Nat.le_of_eq HLM.out), List.append_nil] at hq
        obtain ⟨q', hq', rfl⟩ := List.mem_map.1 hq
        exact hw q' (List.mem_of_mem_take hq')
      have HRO : SpRow w0.heap.size wr (.slice a1 k c1) (lessK x.cum (x.spans.take k) k) := HRO.out
      have HRO : Hid (SpRow w0.heap.size wr (.slice a1 k c1) (lessK x.cum (x.spans.take k) k)) := HRO
      have z0 := CXr.cell 0 _ rfl
      have z1 := CXr.cell 1 _ rfl
      have z2 := CXr.cell 2 _ rfl
      have z3 := CXr.cell 3 _ rfl
      have z4 := CXr.cell 4 _ rfl
      have z5 := CXr.cell 5 _ rfl
      have z6 := CXr.cell 6 _ rfl
      have z7 := CXr.cell 7 _ rfl
      have z8 := CXr.cell 8 _ rfl
      have z9 := CXr.cell 9 _ rfl
      have z10 := CXr.cell 10 _ rfl
      have z11 := CXr.cell 11 _ rfl
      clear x7 CXr
      rcases (by omega : (heldM x.pieces : Int) < 400 ∨ 400 < (heldM x.pieces : Int) ∨ (heldM x.pieces : Int) = 400) with hq | hq | hq
      · have HRM : Hid (max (400 - (heldM x.pieces : Int)) 0 = 400 - (heldM x.pieces : Int)) := by show _ = _; omega
        have hq2 : ¬ 400 - (heldM x.pieces : Int) < 0 := by omega
        have hq3 : ¬ 400 - (heldM x.pieces : Int) ≤ 0 ∨ True := .inr trivial
        have WQ : IntKind.i64.wrap (400 - (heldM x.pieces : Int)) = 400 - (heldM x.pieces : Int) := by simp [IntKind.wrap, IntKind.signed, IntKind.bits]; omega
        have hq4 : 0 < 400 - (heldM x.pieces : Int) := by omega
        go_upto_region 8 with fail
        go_region_law (first
          | (refine step_call1 rfl 70 (.tmp 40) _ rfl (.int .i64 x.cum) rfl rfl enters_stag _ TA ?_; rintro _ w4 ⟨rfl, hw4⟩; subst w4)
          | (refine step_call1 rfl 26 (.tmp 42) _ rfl (.agg #[.int .i64 x.cf.streams, .int .i64 x.cf.part, .int .i64 x.cf.packet, .int .i64 x.cf.paths, .int .i64 x.cf.turns, .int .i64 x.cf.waiting, .int .i64 x.cf.first, .int .i64 x.cum, .slice sa x.spans.length sc, .slice pa x.pieces.length pc, .slice ta x.turn.length tc, .slice la x.log.length lc]) rfl rfl enters_rheld _ HE ?_; rintro _ w5 ⟨rfl, b5⟩; have B5 : Below w0.heap.size w0 w5 := BR.trans (b5.mono (by omega)); have HR5 : Hid _ := HR.out.below B5 (by omega); have HR2 : Hid (SpRow w0.heap.size w5 (.slice a1 k c1) _) := GRow.keep SpI.holds HRO.out ⟨b5.os, b5.tape, b5.output, b5.size, fun i hi => hi.elim⟩ (fun j hj => b5.block j (HRO.out.lt hj).2); have r0 := HR5.out.cell 0 _ rfl; have g0 := HR5.out.fz 0; have r1 := HR5.out.cell 1 _ rfl; have g1 := HR5.out.fz 1; have r2 := HR5.out.cell 2 _ rfl; have g2 := HR5.out.fz 2; have r3 := HR5.out.cell 3 _ rfl; have g3 := HR5.out.fz 3; have r4 := HR5.out.cell 4 _ rfl; have g4 := HR5.out.fz 4; have r5 := HR5.out.cell 5 _ rfl; have g5 := HR5.out.fz 5; have r6 := HR5.out.cell 6 _ rfl; have g6 := HR5.out.fz 6; have r7 := HR5.out.cell 7 _ rfl; have g7 := HR5.out.fz 7; have r8 := HR5.out.cell 8 _ rfl; have g8 := HR5.out.fz 8; have r9 := HR5.out.cell 9 _ rfl; have g9 := HR5.out.fz 9; have r10 := HR5.out.cell 10 _ rfl; have g10 := HR5.out.fz 10))
        all_goals
          go_wp2_with fail
          have CE := (((((((((((HR5.out.set 0 (.int .i64 2) (by simp)).set 1 (.int .i64 (x.cum % 65536)) (by simp)).set 2 (.int .i64 0) (by simp)).set 3 (.int .i64 0) (by simp)).set 4 (.int .i64 0) (by simp)).set 5 (.bool false) (by simp)).set 6 (.bool false) (by simp)).set 7 (.slice none 0 0) (by simp)).set 8 (.slice a1 k c1) (by simp)).set 9 (.int .i64 (400 - (heldM x.pieces : Int))) (by simp)).set 10 (.slice none 0 0) (by simp))
          have e0 := CE.cell 0 _ rfl
          have e1 := CE.cell 1 _ rfl
          have e2 := CE.cell 2 _ rfl
          have e3 := CE.cell 3 _ rfl
          have e4 := CE.cell 4 _ rfl
          have e5 := CE.cell 5 _ rfl
          have e6 := CE.cell 6 _ rfl
          have e7 := CE.cell 7 _ rfl
          have e8 := CE.cell 8 _ rfl
          have e9 := CE.cell 9 _ rfl
          have e10 := CE.cell 10 _ rfl
          have BE : Below w.heap.size w (((((((((((w5.setCell ⟨w.heap.size + 1, 0, none⟩ (.int .i64 2)).setCell ⟨w.heap.size + 1, 1, none⟩ (.int .i64 (x.cum % 65536))).setCell ⟨w.heap.size + 1, 2, none⟩ (.int .i64 0)).setCell ⟨w.heap.size + 1, 3, none⟩ (.int .i64 0)).setCell ⟨w.heap.size + 1, 4, none⟩ (.int .i64 0)).setCell ⟨w.heap.size + 1, 5, none⟩ (.bool false)).setCell ⟨w.heap.size + 1, 6, none⟩ (.bool false)).setCell ⟨w.heap.size + 1, 7, none⟩ (.slice none 0 0)).setCell ⟨w.heap.size + 1, 8, none⟩ (.slice a1 k c1)).setCell ⟨w.heap.size + 1, 9, none⟩ (.int .i64 (400 - (heldM x.pieces : Int)))).setCell ⟨w.heap.size + 1, 10, none⟩ (.slice none 0 0)) := Below.setCell (Below.setCell (Below.setCell (Below.setCell (Below.setCell (Below.setCell (Below.setCell (Below.setCell (Below.setCell (Below.setCell (Below.setCell (B0.trans (B5.mono (by omega))) (by show w.heap.size ≤ w.heap.size + 1; omega) _) (by show w.heap.size ≤ w.heap.size + 1; omega) _) (by show w.heap.size ≤ w.heap.size + 1; omega) _) (by show w.heap.size ≤ w.heap.size + 1; omega) _) (by show w.heap.size ≤ w.heap.size + 1; omega) _) (by show w.heap.size ≤ w.heap.size + 1; omega) _) (by show w.heap.size ≤ w.heap.size + 1; omega) _) (by show w.heap.size ≤ w.heap.size + 1; omega) _) (by show w.heap.size ≤ w.heap.size + 1; omega) _) (by show w.heap.size ≤ w.heap.size + 1; omega) _) (by show w.heap.size ≤ w.heap.size + 1; omega) _
          have KO : Keep (fun j => j ≠ w.heap.size + 1) w5 (((((((((((w5.setCell ⟨w.heap.size + 1, 0, none⟩ (.int .i64 2)).setCell ⟨w.heap.size + 1, 1, none⟩ (.int .i64 (x.cum % 65536))).setCell ⟨w.heap.size + 1, 2, none⟩ (.int .i64 0)).setCell ⟨w.heap.size + 1, 3, none⟩ (.int .i64 0)).setCell ⟨w.heap.size + 1, 4, none⟩ (.int .i64 0)).setCell ⟨w.heap.size + 1, 5, none⟩ (.bool false)).setCell ⟨w.heap.size + 1, 6, none⟩ (.bool false)).setCell ⟨w.heap.size + 1, 7, none⟩ (.slice none 0 0)).setCell ⟨w.heap.size + 1, 8, none⟩ (.slice a1 k c1)).setCell ⟨w.heap.size + 1, 9, none⟩ (.int .i64 (400 - (heldM x.pieces : Int)))).setCell ⟨w.heap.size + 1, 10, none⟩ (.slice none 0 0)) := Keep.setCell (Keep.setCell (Keep.setCell (Keep.setCell (Keep.setCell (Keep.setCell (Keep.setCell (Keep.setCell (Keep.setCell (Keep.setCell (Keep.setCell (Keep.refl _ w5) (p := ⟨w.heap.size + 1, 0, none⟩) (fun h => h rfl) _) (p := ⟨w.heap.size + 1, 1, none⟩) (fun h => h rfl) _) (p := ⟨w.heap.size + 1, 2, none⟩) (fun h => h rfl) _) (p := ⟨w.heap.size + 1, 3, none⟩) (fun h => h rfl) _) (p := ⟨w.heap.size + 1, 4, none⟩) (fun h => h rfl) _) (p := ⟨w.heap.size + 1, 5, none⟩) (fun h => h rfl) _) (p := ⟨w.heap.size + 1, 6, none⟩) (fun h => h rfl) _) (p := ⟨w.heap.size + 1, 7, none⟩) (fun h => h rfl) _) (p := ⟨w.heap.size + 1, 8, none⟩) (fun h => h rfl) _) (p := ⟨w.heap.size + 1, 9, none⟩) (fun h => h rfl) _) (p := ⟨w.heap.size + 1, 10, none⟩) (fun h => h rfl) _
          have SLE := Sl.own (own_of_block (SpRow.flat HR2.out) fun j hj => KO.block j (by have := (HR2.out.lt hj).1; show j ≠ _; omega)) HFT.out
          refine bodyPost_ret (v := .agg #[.int .i64 2, .int .i64 (x.cum % 65536), .int .i64 0, .int .i64 0, .int .i64 0, .bool false, .bool false, .slice none 0 0, .slice a1 k c1, .int .i64 (400 - (heldM x.pieces : Int)), .slice none 0 0]) (by simp [results, Try.results33, go_sem, e0, e1, e2, e3, e4, e5, e6, e7, e8, e9, e10]) rfl ⟨.slice a1 k c1, ?_, ?_, BE⟩
          · rw [HTL.out]; simp only [ckVal]; rw [HRM.out]
          · rw [HTL.out]; exact SLE
      · have HRM : Hid (max (400 - (heldM x.pieces : Int)) 0 = 0) := by show _ = _; omega
        have hq2 : 400 - (heldM x.pieces : Int) < 0 := by omega
        have WQ : IntKind.i64.wrap (400 - (heldM x.pieces : Int)) = 400 - (heldM x.pieces : Int) := by simp [IntKind.wrap, IntKind.signed, IntKind.bits]; omega
        have hq4 : ¬ 0 < 400 - (heldM x.pieces : Int) := by omega
        go_upto_region 8 with fail
        go_region_law (first
          | (refine step_call1 rfl 70 (.tmp 40) _ rfl (.int .i64 x.cum) rfl rfl enters_stag _ TA ?_; rintro _ w4 ⟨rfl, hw4⟩; subst w4)
          | (refine step_call1 rfl 26 (.tmp 42) _ rfl (.agg #[.int .i64 x.cf.streams, .int .i64 x.cf.part, .int .i64 x.cf.packet, .int .i64 x.cf.paths, .int .i64 x.cf.turns, .int .i64 x.cf.waiting, .int .i64 x.cf.first, .int .i64 x.cum, .slice sa x.spans.length sc, .slice pa x.pieces.length pc, .slice ta x.turn.length tc, .slice la x.log.length lc]) rfl rfl enters_rheld _ HE ?_; rintro _ w5 ⟨rfl, b5⟩; have B5 : Below w0.heap.size w0 w5 := BR.trans (b5.mono (by omega)); have HR5 : Hid _ := HR.out.below B5 (by omega); have HR2 : Hid (SpRow w0.heap.size w5 (.slice a1 k c1) _) := GRow.keep SpI.holds HRO.out ⟨b5.os, b5.tape, b5.output, b5.size, fun i hi => hi.elim⟩ (fun j hj => b5.block j (HRO.out.lt hj).2); have r0 := HR5.out.cell 0 _ rfl; have g0 := HR5.out.fz 0; have r1 := HR5.out.cell 1 _ rfl; have g1 := HR5.out.fz 1; have r2 := HR5.out.cell 2 _ rfl; have g2 := HR5.out.fz 2; have r3 := HR5.out.cell 3 _ rfl; have g3 := HR5.out.fz 3; have r4 := HR5.out.cell 4 _ rfl; have g4 := HR5.out.fz 4; have r5 := HR5.out.cell 5 _ rfl; have g5 := HR5.out.fz 5; have r6 := HR5.out.cell 6 _ rfl; have g6 := HR5.out.fz 6; have r7 := HR5.out.cell 7 _ rfl; have g7 := HR5.out.fz 7; have r8 := HR5.out.cell 8 _ rfl; have g8 := HR5.out.fz 8; have r9 := HR5.out.cell 9 _ rfl; have g9 := HR5.out.fz 9; have r10 := HR5.out.cell 10 _ rfl; have g10 := HR5.out.fz 10))
        all_goals
          go_wp2_with fail
          have CE := (((((((((((HR5.out.set 0 (.int .i64 2) (by simp)).set 1 (.int .i64 (x.cum % 65536)) (by simp)).set 2 (.int .i64 0) (by simp)).set 3 (.int .i64 0) (by simp)).set 4 (.int .i64 0) (by simp)).set 5 (.bool false) (by simp)).set 6 (.bool false) (by simp)).set 7 (.slice none 0 0) (by simp)).set 8 (.slice a1 k c1) (by simp)).set 9 (.int .i64 (0)) (by simp)).set 10 (.slice none 0 0) (by simp))
          have e0 := CE.cell 0 _ rfl
          have e1 := CE.cell 1 _ rfl
          have e2 := CE.cell 2 _ rfl
          have e3 := CE.cell 3 _ rfl
          have e4 := CE.cell 4 _ rfl
          have e5 := CE.cell 5 _ rfl
          have e6 := CE.cell 6 _ rfl
          have e7 := CE.cell 7 _ rfl
          have e8 := CE.cell 8 _ rfl
          have e9 := CE.cell 9 _ rfl
          have e10 := CE.cell 10 _ rfl
          have BE : Below w.heap.size w (((((((((((w5.setCell ⟨w.heap.size + 1, 0, none⟩ (.int .i64 2)).setCell ⟨w.heap.size + 1, 1, none⟩ (.int .i64 (x.cum % 65536))).setCell ⟨w.heap.size + 1, 2, none⟩ (.int .i64 0)).setCell ⟨w.heap.size + 1, 3, none⟩ (.int .i64 0)).setCell ⟨w.heap.size + 1, 4, none⟩ (.int .i64 0)).setCell ⟨w.heap.size + 1, 5, none⟩ (.bool false)).setCell ⟨w.heap.size + 1, 6, none⟩ (.bool false)).setCell ⟨w.heap.size + 1, 7, none⟩ (.slice none 0 0)).setCell ⟨w.heap.size + 1, 8, none⟩ (.slice a1 k c1)).setCell ⟨w.heap.size + 1, 9, none⟩ (.int .i64 (0))).setCell ⟨w.heap.size + 1, 10, none⟩ (.slice none 0 0)) := Below.setCell (Below.setCell (Below.setCell (Below.setCell (Below.setCell (Below.setCell (Below.setCell (Below.setCell (Below.setCell (Below.setCell (Below.setCell (B0.trans (B5.mono (by omega))) (by show w.heap.size ≤ w.heap.size + 1; omega) _) (by show w.heap.size ≤ w.heap.size + 1; omega) _) (by show w.heap.size ≤ w.heap.size + 1; omega) _) (by show w.heap.size ≤ w.heap.size + 1; omega) _) (by show w.heap.size ≤ w.heap.size + 1; omega) _) (by show w.heap.size ≤ w.heap.size + 1; omega) _) (by show w.heap.size ≤ w.heap.size + 1; omega) _) (by show w.heap.size ≤ w.heap.size + 1; omega) _) (by show w.heap.size ≤ w.heap.size + 1; omega) _) (by show w.heap.size ≤ w.heap.size + 1; omega) _) (by show w.heap.size ≤ w.heap.size + 1; omega) _
          have KO : Keep (fun j => j ≠ w.heap.size + 1) w5 (((((((((((w5.setCell ⟨w.heap.size + 1, 0, none⟩ (.int .i64 2)).setCell ⟨w.heap.size + 1, 1, none⟩ (.int .i64 (x.cum % 65536))).setCell ⟨w.heap.size + 1, 2, none⟩ (.int .i64 0)).setCell ⟨w.heap.size + 1, 3, none⟩ (.int .i64 0)).setCell ⟨w.heap.size + 1, 4, none⟩ (.int .i64 0)).setCell ⟨w.heap.size + 1, 5, none⟩ (.bool false)).setCell ⟨w.heap.size + 1, 6, none⟩ (.bool false)).setCell ⟨w.heap.size + 1, 7, none⟩ (.slice none 0 0)).setCell ⟨w.heap.size + 1, 8, none⟩ (.slice a1 k c1)).setCell ⟨w.heap.size + 1, 9, none⟩ (.int .i64 (0))).setCell ⟨w.heap.size + 1, 10, none⟩ (.slice none 0 0)) := Keep.setCell (Keep.setCell (Keep.setCell (Keep.setCell (Keep.setCell (Keep.setCell (Keep.setCell (Keep.setCell (Keep.setCell (Keep.setCell (Keep.setCell (Keep.refl _ w5) (p := ⟨w.heap.size + 1, 0, none⟩) (fun h => h rfl) _) (p := ⟨w.heap.size + 1, 1, none⟩) (fun h => h rfl) _) (p := ⟨w.heap.size + 1, 2, none⟩) (fun h => h rfl) _) (p := ⟨w.heap.size + 1, 3, none⟩) (fun h => h rfl) _) (p := ⟨w.heap.size + 1, 4, none⟩) (fun h => h rfl) _) (p := ⟨w.heap.size + 1, 5, none⟩) (fun h => h rfl) _) (p := ⟨w.heap.size + 1, 6, none⟩) (fun h => h rfl) _) (p := ⟨w.heap.size + 1, 7, none⟩) (fun h => h rfl) _) (p := ⟨w.heap.size + 1, 8, none⟩) (fun h => h rfl) _) (p := ⟨w.heap.size + 1, 9, none⟩) (fun h => h rfl) _) (p := ⟨w.heap.size + 1, 10, none⟩) (fun h => h rfl) _
          have SLE := Sl.own (own_of_block (SpRow.flat HR2.out) fun j hj => KO.block j (by have := (HR2.out.lt hj).1; show j ≠ _; omega)) HFT.out
          refine bodyPost_ret (v := .agg #[.int .i64 2, .int .i64 (x.cum % 65536), .int .i64 0, .int .i64 0, .int .i64 0, .bool false, .bool false, .slice none 0 0, .slice a1 k c1, .int .i64 (0), .slice none 0 0]) (by simp [results, Try.results33, go_sem, e0, e1, e2, e3, e4, e5, e6, e7, e8, e9, e10]) rfl ⟨.slice a1 k c1, ?_, ?_, BE⟩
          · rw [HTL.out]; simp only [ckVal]; rw [HRM.out]
          · rw [HTL.out]; exact SLE
      · have HRM : Hid (max (400 - (heldM x.pieces : Int)) 0 = 400 - (heldM x.pieces : Int)) := by show _ = _; omega
        have hq2 : ¬ 400 - (heldM x.pieces : Int) < 0 := by omega
        have WQ : IntKind.i64.wrap (400 - (heldM x.pieces : Int)) = 400 - (heldM x.pieces : Int) := by simp [IntKind.wrap, IntKind.signed, IntKind.bits]; omega
        have hq4 : ¬ 0 < 400 - (heldM x.pieces : Int) := by omega
        have hq6 : Hid ((heldM x.pieces : Int) = 400) := hq
        clear hq
        go_upto_region 8 with fail
        go_region_law (first
          | (refine step_call1 rfl 70 (.tmp 40) _ rfl (.int .i64 x.cum) rfl rfl enters_stag _ TA ?_; rintro _ w4 ⟨rfl, hw4⟩; subst w4)
          | (refine step_call1 rfl 26 (.tmp 42) _ rfl (.agg #[.int .i64 x.cf.streams, .int .i64 x.cf.part, .int .i64 x.cf.packet, .int .i64 x.cf.paths, .int .i64 x.cf.turns, .int .i64 x.cf.waiting, .int .i64 x.cf.first, .int .i64 x.cum, .slice sa x.spans.length sc, .slice pa x.pieces.length pc, .slice ta x.turn.length tc, .slice la x.log.length lc]) rfl rfl enters_rheld _ HE ?_; rintro _ w5 ⟨rfl, b5⟩; have B5 : Below w0.heap.size w0 w5 := BR.trans (b5.mono (by omega)); have HR5 : Hid _ := HR.out.below B5 (by omega); have HR2 : Hid (SpRow w0.heap.size w5 (.slice a1 k c1) _) := GRow.keep SpI.holds HRO.out ⟨b5.os, b5.tape, b5.output, b5.size, fun i hi => hi.elim⟩ (fun j hj => b5.block j (HRO.out.lt hj).2); have r0 := HR5.out.cell 0 _ rfl; have g0 := HR5.out.fz 0; have r1 := HR5.out.cell 1 _ rfl; have g1 := HR5.out.fz 1; have r2 := HR5.out.cell 2 _ rfl; have g2 := HR5.out.fz 2; have r3 := HR5.out.cell 3 _ rfl; have g3 := HR5.out.fz 3; have r4 := HR5.out.cell 4 _ rfl; have g4 := HR5.out.fz 4; have r5 := HR5.out.cell 5 _ rfl; have g5 := HR5.out.fz 5; have r6 := HR5.out.cell 6 _ rfl; have g6 := HR5.out.fz 6; have r7 := HR5.out.cell 7 _ rfl; have g7 := HR5.out.fz 7; have r8 := HR5.out.cell 8 _ rfl; have g8 := HR5.out.fz 8; have r9 := HR5.out.cell 9 _ rfl; have g9 := HR5.out.fz 9; have r10 := HR5.out.cell 10 _ rfl; have g10 := HR5.out.fz 10))
        all_goals
          go_wp2_with fail
          have CE := (((((((((((HR5.out.set 0 (.int .i64 2) (by simp)).set 1 (.int .i64 (x.cum % 65536)) (by simp)).set 2 (.int .i64 0) (by simp)).set 3 (.int .i64 0) (by simp)).set 4 (.int .i64 0) (by simp)).set 5 (.bool false) (by simp)).set 6 (.bool false) (by simp)).set 7 (.slice none 0 0) (by simp)).set 8 (.slice a1 k c1) (by simp)).set 9 (.int .i64 (400 - (heldM x.pieces : Int))) (by simp)).set 10 (.slice none 0 0) (by simp))
          have e0 := CE.cell 0 _ rfl
          have e1 := CE.cell 1 _ rfl
          have e2 := CE.cell 2 _ rfl
          have e3 := CE.cell 3 _ rfl
          have e4 := CE.cell 4 _ rfl
          have e5 := CE.cell 5 _ rfl
          have e6 := CE.cell 6 _ rfl
          have e7 := CE.cell 7 _ rfl
          have e8 := CE.cell 8 _ rfl
          have e9 := CE.cell 9 _ rfl
          have e10 := CE.cell 10 _ rfl
          have BE : Below w.heap.size w (((((((((((w5.setCell ⟨w.heap.size + 1, 0, none⟩ (.int .i64 2)).setCell ⟨w.heap.size + 1, 1, none⟩ (.int .i64 (x.cum % 65536))).setCell ⟨w.heap.size + 1, 2, none⟩ (.int .i64 0)).setCell ⟨w.heap.size + 1, 3, none⟩ (.int .i64 0)).setCell ⟨w.heap.size + 1, 4, none⟩ (.int .i64 0)).setCell ⟨w.heap.size + 1, 5, none⟩ (.bool false)).setCell ⟨w.heap.size + 1, 6, none⟩ (.bool false)).setCell ⟨w.heap.size + 1, 7, none⟩ (.slice none 0 0)).setCell ⟨w.heap.size + 1, 8, none⟩ (.slice a1 k c1)).setCell ⟨w.heap.size + 1, 9, none⟩ (.int .i64 (400 - (heldM x.pieces : Int)))).setCell ⟨w.heap.size + 1, 10, none⟩ (.slice none 0 0)) := Below.setCell (Below.setCell (Below.setCell (Below.setCell (Below.setCell (Below.setCell (Below.setCell (Below.setCell (Below.setCell (Below.setCell (Below.setCell (B0.trans (B5.mono (by omega))) (by show w.heap.size ≤ w.heap.size + 1; omega) _) (by show w.heap.size ≤ w.heap.size + 1; omega) _) (by show w.heap.size ≤ w.heap.size + 1; omega) _) (by show w.heap.size ≤ w.heap.size + 1; omega) _) (by show w.heap.size ≤ w.heap.size + 1; omega) _) (by show w.heap.size ≤ w.heap.size + 1; omega) _) (by show w.heap.size ≤ w.heap.size + 1; omega) _) (by show w.heap.size ≤ w.heap.size + 1; omega) _) (by show w.heap.size ≤ w.heap.size + 1; omega) _) (by show w.heap.size ≤ w.heap.size + 1; omega) _) (by show w.heap.size ≤ w.heap.size + 1; omega) _
          have KO : Keep (fun j => j ≠ w.heap.size + 1) w5 (((((((((((w5.setCell ⟨w.heap.size + 1, 0, none⟩ (.int .i64 2)).setCell ⟨w.heap.size + 1, 1, none⟩ (.int .i64 (x.cum % 65536))).setCell ⟨w.heap.size + 1, 2, none⟩ (.int .i64 0)).setCell ⟨w.heap.size + 1, 3, none⟩ (.int .i64 0)).setCell ⟨w.heap.size + 1, 4, none⟩ (.int .i64 0)).setCell ⟨w.heap.size + 1, 5, none⟩ (.bool false)).setCell ⟨w.heap.size + 1, 6, none⟩ (.bool false)).setCell ⟨w.heap.size + 1, 7, none⟩ (.slice none 0 0)).setCell ⟨w.heap.size + 1, 8, none⟩ (.slice a1 k c1)).setCell ⟨w.heap.size + 1, 9, none⟩ (.int .i64 (400 - (heldM x.pieces : Int)))).setCell ⟨w.heap.size + 1, 10, none⟩ (.slice none 0 0)) := Keep.setCell (Keep.setCell (Keep.setCell (Keep.setCell (Keep.setCell (Keep.setCell (Keep.setCell (Keep.setCell (Keep.setCell (Keep.setCell (Keep.setCell (Keep.refl _ w5) (p := ⟨w.heap.size + 1, 0, none⟩) (fun h => h rfl) _) (p := ⟨w.heap.size + 1, 1, none⟩) (fun h => h rfl) _) (p := ⟨w.heap.size + 1, 2, none⟩) (fun h => h rfl) _) (p := ⟨w.heap.size + 1, 3, none⟩) (fun h => h rfl) _) (p := ⟨w.heap.size + 1, 4, none⟩) (fun h => h rfl) _) (p := ⟨w.heap.size + 1, 5, none⟩) (fun h => h rfl) _) (p := ⟨w.heap.size + 1, 6, none⟩) (fun h => h rfl) _) (p := ⟨w.heap.size + 1, 7, none⟩) (fun h => h rfl) _) (p := ⟨w.heap.size + 1, 8, none⟩) (fun h => h rfl) _) (p := ⟨w.heap.size + 1, 9, none⟩) (fun h => h rfl) _) (p := ⟨w.heap.size + 1, 10, none⟩) (fun h => h rfl) _
          have SLE := Sl.own (own_of_block (SpRow.flat HR2.out) fun j hj => KO.block j (by have := (HR2.out.lt hj).1; show j ≠ _; omega)) HFT.out
          refine bodyPost_ret (v := .agg #[.int .i64 2, .int .i64 (x.cum % 65536), .int .i64 0, .int .i64 0, .int .i64 0, .bool false, .bool false, .slice none 0 0, .slice a1 k c1, .int .i64 (400 - (heldM x.pieces : Int)), .slice none 0 0]) (by simp [results, Try.results33, go_sem, e0, e1, e2, e3, e4, e5, e6, e7, e8, e9, e10]) rfl ⟨.slice a1 k c1, ?_, ?_, BE⟩
          · rw [HTL.out]; simp only [ckVal]; rw [HRM.out]
          · rw [HTL.out]; exact SLE
end Go.Proofs.Ytnddejdndipddad
