/- The contract of score's each, with whatever function. -/
import Derived.Test.YtnddejdndipddacSoDa
set_option maxRecDepth 20000
namespace Go.Proofs.Ytnddejdndipddac
open Go.RowKit

/-- What a function does to a part: its state alone; J is what it keeps besides. -/
def Chg (f : FuncId) (caps : Array Value) (fS : Sn → Sn) (U : Nat → Prop) (J : Nat → World → Prop) (B0 : Nat) (l : List Sn) : Prop :=
  ∀ (g k : Nat) (x : Sn) (da : Option Addr) (dc : Nat) (sa : Option Addr) (sc : Nat) (qa : Option Addr) (qc : Nat) (wx : World), l[k]? = some x → B0 ≤ g → g < wx.heap.size → B0 ≤ wx.heap.size → J k wx →
    SnAt wx g (k * 20) x (.slice da x.ck.data.length dc) (.slice sa x.ck.spans.length sc) (.slice qa x.ck.skips.length qc) → SnL (fun b => b < wx.heap.size ∧ b ≠ g ∧ U b) wx x.ck (.slice da x.ck.data.length dc) (.slice sa x.ck.spans.length sc) (.slice qa x.ck.skips.length qc) → (∀ j, wx.frozen? ⟨g, j, none⟩ = false) →
    Calls Try.prog f (#[.pointer (some ⟨g, k * 20, none⟩)] ++ caps) wx fun e w' => (∃ r, e = .returned r) ∧ J (k + 1) w' ∧ Keep (fun b => b < wx.heap.size ∧ b ≠ g ∧ U b) wx w' ∧ (∀ j, w'.frozen? ⟨g, j, none⟩ = false) ∧ (∀ j, j ≠ k * 20 + 2 → w'.cell? ⟨g, j, none⟩ = wx.cell? ⟨g, j, none⟩) ∧ w'.cell? ⟨g, k * 20 + 2, none⟩ = some (.int .i64 (fS x).state)

/-- Up to a place changed, behind it not yet. -/
def halfM (fS : Sn → Sn) (l : List Sn) (k : Nat) : List Sn := (l.take k).map fS ++ l.drop k
theorem halfM_zero (fS : Sn → Sn) (l : List Sn) : halfM fS l 0 = l := by simp [halfM]
theorem halfM_end (fS : Sn → Sn) (l : List Sn) : halfM fS l l.length = l.map fS := by simp [halfM]
theorem halfM_get (fS : Sn → Sn) (l : List Sn) (k : Nat) (hk : k < l.length) : (halfM fS l k)[k]? = some l[k] := by
  unfold halfM
  rw [List.getElem?_append_right (by simp; omega)]
  simp [hk, Nat.min_eq_left (Nat.le_of_lt hk)]
theorem halfM_succ (fS : Sn → Sn) (l : List Sn) (k : Nat) (hk : k < l.length) : (halfM fS l k).set k (fS l[k]) = halfM fS l (k + 1) := by
  unfold halfM
  have h1 : ((l.take k).map fS).length = k := by simp; omega
  rw [List.set_append_right _ _ (by omega), h1, Nat.sub_self, List.drop_eq_getElem_cons hk, List.set_cons_zero, List.take_succ_eq_append_getElem hk, List.map_append, List.append_assoc]
  rfl

/-- Parts of the call's own. -/
def SnRes (U : Nat → Prop) (base : Nat) (w : World) (a : Option Addr) (c : Nat) (l : List Sn) : Prop := (l = [] ∧ (a = none → c = 0) ∧ c ≤ 9223372036854775807) ∨ ∃ g, a = some ⟨g, 0, none⟩ ∧ base ≤ g ∧ RowP U g w l ∧ l.length ≤ c ∧ c ≤ 9223372036854775807
theorem SnRes.s {U : Nat → Prop} {base : Nat} {w : World} {a : Option Addr} {c : Nat} {l : List Sn} (h : SnRes U base w a c l) : SnS w.heap.size w (.slice a l.length c) l := by
  rcases h with ⟨rfl, h1, h2⟩ | ⟨g, rfl, hg, row, h1, h2⟩
  · exact ⟨[], trivial, rfl, a, c, rfl, Nat.zero_le _, h2, h1, fun h => absurd rfl h⟩
  · exact row.s rfl h1 h2
theorem own_empty {w : World} {base k : Nat} {e : TypeId} {a : Option Addr} {c : Nat} {xs : List Value} (h : w.ownsRow base e k (.slice a 0 c) 0 xs) : (a = none → c = 0) ∧ c ≤ 9223372036854775807 := by
  rcases h.2 with ⟨h1, _⟩ | ⟨g, cap, cur, e1, h3, h4, h5, h6, _⟩
  · simp only [Value.slice.injEq] at h1
    rw [h1.2.2]; exact ⟨fun _ => rfl, by omega⟩
  · simp only [Value.slice.injEq] at e1
    rw [e1.1, e1.2.2]; exact ⟨fun h => by simp at h, by unfold maxLen at h6; omega⟩

theorem run_sn_at (O n c i : Nat) (h : i < n) (wx : World) : (Instr.indexAt 38 (.slice (some ⟨O, 0, none⟩) n c) (.int .i64 (i : Int))).run Try.prog wx = .ok (.pointer (some ⟨O, i * 20, none⟩)) wx := by
  have : (i : Int) < n := by omega
  go_simp

set_option maxHeartbeats 2000000 in
theorem each_any (f : FuncId) (caps : Array Value) (fS : Sn → Sn) (U : Nat → Prop) (J : Nat → World → Prop) (B : Nat) (v : Value) (l : List Sn) (w : World) (hv : SnS B w v l) (hB : B ≤ w.heap.size) (hUB : ∀ k, k < B → U k) (hUN : ∀ k, w.heap.size ≤ k → U k)
    (hfit : FitL l) (hlen : l.length * 200 ≤ 140737488351232) (hent : ∀ args wx, (callFunc f args).run Try.prog wx = .ok (.enter f args) wx) (hS : ∀ x, fS x = x.put (fS x).state) (hJ0 : J 0 w) (hJ : ∀ k wx wy, J k wx → Below w.heap.size wx wy → J k wy)
    (chg : Chg f caps fS U J w.heap.size l) :
    Calls Try.prog 43 #[v, .func (.func f) #[] caps] w fun e w' => ∃ a c, e = .returned (.slice a l.length c) ∧ SnRes U w.heap.size w' a c (l.map fS) ∧ J l.length w' ∧ Keep (fun b => b < w.heap.size ∧ U b) w w' := by
  obtain ⟨vs, hA, hr⟩ := hv
  have HR := hr.mono hB
  obtain ⟨-, a, cap, rfl, h1, h2, -⟩ := hr
  have CL := clone_sents _ _ _ w HR (flatV_one (c := 20) (fun v x h => SnV.one v x h) hA) (by omega)
  clear HR
  go_enter Try.func43, Try.ntmps43
  go_wp2_with fail
  refine CL.mono ?_
  rintro e w1 ⟨a1, c1, rfl, own1, b1⟩
  have K1 : Keep (fun b => b < w.heap.size ∧ U b) w w1 := ⟨b1.os, b1.tape, b1.output, b1.size, fun i hi => b1.block i hi.1⟩
  by_cases h0 : l.length = 0
  · have e : l = [] := List.eq_nil_of_length_eq_zero h0
    subst e
    go_wp2_with fail
    go_loopw [11] (fun i wr => i = .int .i64 0 ∧ wr = w1) (fun i _ => 0)
    case atStart => exact ⟨rfl, rfl⟩
    case round =>
      obtain ⟨rfl, rfl⟩ := hrel
      go_wp2_with fail
      go_ret
      exact ⟨_, _, rfl, .inl ⟨rfl, own_empty own1⟩, hJ _ _ _ hJ0 b1, K1⟩
  · obtain ⟨g, rfl, hg, row1, hc1, hc2⟩ := RowP.new (U := U) hA hB hUB b1 own1 (by omega)
    have gU := hUN g hg
    rw [← halfM_zero fS l] at row1
    have hJ1 := hJ _ _ _ hJ0 b1
    go_wp2_with fail
    go_loopw [11] (fun i wr => ∃ k : Nat, k ≤ l.length ∧ i = .int .i64 k ∧ RowP U g wr (halfM fS l k) ∧ J k wr ∧ Keep (fun b => b < w.heap.size ∧ U b) w wr) (fun i _ => l.length - (intOf i).toNat)
    case atStart => exact ⟨0, Nat.zero_le _, rfl, row1, hJ1, K1⟩
    case round =>
      obtain ⟨k, hk, rfl, row, hj, kp⟩ := hrel
      by_cases hlt : k < l.length
      · obtain ⟨d, s, q, hat, hl⟩ := row.pt k l[k] (halfM_get fS l k hlt)
        obtain ⟨da, dc, sa, sc, qa, qc, rfl, rfl, rfl⟩ := hl.ex
        have hix := run_sn_at g l.length c1 k hlt
        have CO := ckOwn_any l[k].ck _ _ _ wr hl.d hl.s hl.q (hfit.get k hlt).1
        simp only [ckVal] at CO
        have HAT : Hid _ := hat
        obtain ⟨x0, x1, x2, x3, x4, x5, x6, x7, x8, x9, x10, x11, x12, x13, x14, x15, x16, x17, x18, x19⟩ := hat
        generalize hx : l[k] = x at *
        generalize hoff : k * 20 = off at *
        go_wp2_with fail
        refine CO.mono ?_
        rintro e w2 ⟨v2, rfl, own2, b2⟩
        obtain ⟨d2, s2, q2, rfl, hl2⟩ := SnL.own own2
        obtain ⟨da2, dc2, sa2, sc2, qa2, qc2, rfl, rfl, rfl⟩ := hl2.ex
        simp only [ckVal]
        have at2 := SnAt.below HAT.out b2 row.lt
        obtain ⟨_, _, _, _, _, _, _, _, _, y9, y10, y11, y12, y13, y14, y15, y16, y17, y18, y19⟩ := at2
        have fz2 : ∀ j, w2.frozen? ⟨g, j, none⟩ = false := fun j => (b2.frozen (p := ⟨g, j, none⟩) row.lt).trans (row.fz j)
        have z9 := fz2 (off + 9)
        have z10 := fz2 (off + 10)
        have z11 := fz2 (off + 11)
        have z12 := fz2 (off + 12)
        have z13 := fz2 (off + 13)
        have z14 := fz2 (off + 14)
        have z15 := fz2 (off + 15)
        have z16 := fz2 (off + 16)
        have z17 := fz2 (off + 17)
        have z18 := fz2 (off + 18)
        have z19 := fz2 (off + 19)
        go_wp2_with fail
        have sz2 := b2.size
        have kps := kp.size
        have gw := row.lt
        have at3 := SnAt.chunk (d' := .slice da2 x.ck.data.length dc2) (s' := .slice sa2 x.ck.spans.length sc2) (q' := .slice qa2 x.ck.skips.length qc2) (SnAt.below HAT.out b2 row.lt)
        have B3 : Below w.heap.size wr (w2.setCells g (off + 9) [.int .i64 x.ck.kind, .int .i64 x.ck.tag, .int .i64 x.ck.stream, .int .i64 x.ck.mid, .int .i64 x.ck.part, .bool x.ck.last, .bool x.ck.ordered, .slice da2 x.ck.data.length dc2, .slice sa2 x.ck.spans.length sc2, .int .i64 x.ck.room, .slice qa2 x.ck.skips.length qc2]) := Below.setCells hg _ _ (b2.mono kps)
        have sz3 := size_setCells g [.int .i64 x.ck.kind, .int .i64 x.ck.tag, .int .i64 x.ck.stream, .int .i64 x.ck.mid, .int .i64 x.ck.part, .bool x.ck.last, .bool x.ck.ordered, .slice da2 x.ck.data.length dc2, .slice sa2 x.ck.spans.length sc2, .int .i64 x.ck.room, .slice qa2 x.ck.skips.length qc2] (off + 9) w2
        have K3 : Keep (fun b => b < wr.heap.size ∧ b ≠ g ∧ U b) wr (w2.setCells g (off + 9) [.int .i64 x.ck.kind, .int .i64 x.ck.tag, .int .i64 x.ck.stream, .int .i64 x.ck.mid, .int .i64 x.ck.part, .bool x.ck.last, .bool x.ck.ordered, .slice da2 x.ck.data.length dc2, .slice sa2 x.ck.spans.length sc2, .int .i64 x.ck.room, .slice qa2 x.ck.skips.length qc2]) := Keep.setCells (fun h => h.2.1 rfl) _ _ ⟨b2.os, b2.tape, b2.output, b2.size, fun i hi => b2.block i hi.1⟩
        have hl3 := hl2.keep (Keep.setCells (b := g) (fun h => by omega) [.int .i64 x.ck.kind, .int .i64 x.ck.tag, .int .i64 x.ck.stream, .int .i64 x.ck.mid, .int .i64 x.ck.part, .bool x.ck.last, .bool x.ck.ordered, .slice da2 x.ck.data.length dc2, .slice sa2 x.ck.spans.length sc2, .int .i64 x.ck.room, .slice qa2 x.ck.skips.length qc2] (off + 9) (Keep.refl _ w2))
        have hout : ∀ j, j < off ∨ off + 20 ≤ j → (w2.setCells g (off + 9) [.int .i64 x.ck.kind, .int .i64 x.ck.tag, .int .i64 x.ck.stream, .int .i64 x.ck.mid, .int .i64 x.ck.part, .bool x.ck.last, .bool x.ck.ordered, .slice da2 x.ck.data.length dc2, .slice sa2 x.ck.spans.length sc2, .int .i64 x.ck.room, .slice qa2 x.ck.skips.length qc2]).cell? ⟨g, j, none⟩ = wr.cell? ⟨g, j, none⟩ := fun j hj => (World.cell?_setCells_out g _ (off + 9) w2 ⟨g, j, none⟩ (fun _ _ => by show j < off + 9 ∨ off + 9 + 11 ≤ j; omega)).trans (b2.cell (p := ⟨g, j, none⟩) gw)
        have fz3 : ∀ j, (w2.setCells g (off + 9) [.int .i64 x.ck.kind, .int .i64 x.ck.tag, .int .i64 x.ck.stream, .int .i64 x.ck.mid, .int .i64 x.ck.part, .bool x.ck.last, .bool x.ck.ordered, .slice da2 x.ck.data.length dc2, .slice sa2 x.ck.spans.length sc2, .int .i64 x.ck.room, .slice qa2 x.ck.skips.length qc2]).frozen? ⟨g, j, none⟩ = false := fun j => by rw [World.frozen?_setCells]; exact fz2 j
        generalize hw3 : w2.setCells g (off + 9) [.int .i64 x.ck.kind, .int .i64 x.ck.tag, .int .i64 x.ck.stream, .int .i64 x.ck.mid, .int .i64 x.ck.part, .bool x.ck.last, .bool x.ck.ordered, .slice da2 x.ck.data.length dc2, .slice sa2 x.ck.spans.length sc2, .int .i64 x.ck.room, .slice qa2 x.ck.skips.length qc2] = w3 at *
        change Calls _ _ _ (w2.setCells g (off + 9) [.int .i64 x.ck.kind, .int .i64 x.ck.tag, .int .i64 x.ck.stream, .int .i64 x.ck.mid, .int .i64 x.ck.part, .bool x.ck.last, .bool x.ck.ordered, .slice da2 x.ck.data.length dc2, .slice sa2 x.ck.spans.length sc2, .int .i64 x.ck.room, .slice qa2 x.ck.skips.length qc2]) _
        rw [hw3]
        clear y9 y10 y11 y12 y13 y14 y15 y16 y17 y18 y19 z9 z10 z11 z12 z13 z14 z15 z16 z17 z18 z19 x0 x1 x2 x3 x4 x5 x6 x7 x8 x9 x10 x11 x12 x13 x14 x15 x16 x17 x18 x19 hw3
        subst hoff
        have hl4 : SnL (fun b => b < w3.heap.size ∧ b ≠ g ∧ U b) w3 x.ck (.slice da2 x.ck.data.length dc2) (.slice sa2 x.ck.spans.length sc2) (.slice qa2 x.ck.skips.length qc2) := hl3.mono fun b hb => ⟨by omega, by omega, hUN b (by omega)⟩
        have CH := chg g k x da2 dc2 sa2 sc2 qa2 qc2 w3 (by rw [← hx]; simp [hlt]) hg (by omega) (by omega) (hJ _ _ _ hj B3) at3 hl4 fz3
        clear CO
        refine CH.mono ?_
        rintro e w4 ⟨⟨r, rfl⟩, j4, k4, f4, o4, s4⟩
        have sz4 := k4.size
        have ROW : RowP U g w4 (halfM fS l (k + 1)) := by
          rw [← halfM_succ fS l k hlt, hx, hS x]
          exact row.upd k (K3.trans (k4.mono fun b hb => ⟨by omega, hb.2⟩)) f4 (fun j hj => (o4 j (by omega)).trans (hout j hj)) (SnAt.put at3 o4 s4) ((hl4.keep k4).mono fun b hb => ⟨by omega, hb.2⟩)
        have KP : Keep (fun b => b < w.heap.size ∧ U b) w w4 := kp.trans ((K3.mono fun b hb => ⟨by omega, by omega, hb.2⟩).trans (k4.mono fun b hb => ⟨by omega, by omega, hb.2⟩))
        clear CH chg
        go_wp2_with fail
        go_roundw
        case rel => exact ⟨k + 1, by omega, by go_num, ROW, j4, KP⟩
        case measure => simp [intOf]; omega
      · have hkl : k = l.length := by omega
        subst hkl
        rw [halfM_end] at row
        go_wp2_with fail
        go_ret
        exact ⟨_, _, rfl, .inr ⟨g, rfl, hg, row, by simpa using hc1, hc2⟩, hj, kp⟩
end Go.Proofs.Ytnddejdndipddac
