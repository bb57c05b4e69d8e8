/- The contract of score's Point. -/
import Derived.Test.YtnddejdndipddacSoJ
set_option maxRecDepth 20000
namespace Go.Proofs.Ytnddejdndipddac
open Go.RowKit

theorem SkOwn.kl {base : Nat} {w : World} {a : Option Addr} {c : Nat} {ks : List Sk} (h : SkOwn base w a c ks) : Kl w.heap.size w (.slice a ks.length c) ks := Rw.own h (cellsK_length _)

set_option maxHeartbeats 2000000 in
theorem point_any (v : Value) (l : List Sn) (cum : Int) (w : World) (hv : SnS w.heap.size w v l) :
    Calls Try.prog 21 #[v, .int .i64 cum] w fun e w' => ∃ a c, e = .returned (.tuple #[.int .i64 (pointF cum [] l).1, .slice a (pointF cum [] l).2.length c]) ∧ Kl w'.heap.size w' (.slice a (pointF cum [] l).2.length c) (pointF cum [] l).2 ∧ Below w.heap.size w w' := by
  have HV := hv
  obtain ⟨a, cap, rfl, h1, h2⟩ := hv.ex
  go_enter Try.func21, Try.ntmps21
  go_wp2_with fail
  go_loopw [1, 6, 12] (fun sc sk i wr => ∃ (k : Nat) (cu : Int) (ks : List Sk) (ak : Option Addr) (ck : Nat), k ≤ l.length ∧ i = .int .i64 k ∧ sc = .int .i64 cu ∧ sk = .slice ak ks.length ck ∧ Hid (pointF cum [] l = pointF cu ks (l.drop k)) ∧ ks.length ≤ 8 ∧ SkOwn w.heap.size wr ak ck ks ∧ Below w.heap.size w wr) (fun _ _ i _ => l.length - (intOf i).toNat)
  case atStart => exact ⟨0, cum, [], none, 0, Nat.zero_le _, rfl, rfl, rfl, by show _ = _; rw [List.drop_zero], by simp, World.ownsRow_nil _ _ _ _, Below.refl _ _⟩
  case round =>
    obtain ⟨k, cu, ks, ak, ck, hk, rfl, rfl, rfl, HP, hks, SO, BR⟩ := hrel
    have SOH : Hid (SkOwn w.heap.size wr ak ck ks) := SO
    have KLH := SO.kl
    clear SO
    by_cases hlt : k < l.length
    · obtain ⟨b, off, da, dc, sa, sc, qa, qc, hb, hix, -, -, -, hat⟩ := SnS.at (SlG.below SnV.bears HV BR (Nat.le_refl _)) k hlt
      have HD : Hid (pointF cum [] l = pointF cu ks (l[k] :: l.drop (k + 1))) := by show _ = _; rw [HP.out, List.drop_eq_getElem_cons hlt]
      generalize l[k] = x at *
      have AX := SnAt.new wr x (.slice da x.ck.data.length dc) (.slice sa x.ck.spans.length sc) (.slice qa x.ck.skips.length qc)
      have BX := box_below wr (.cells #[.int .i64 x.number, .int .i64 x.id, .int .i64 x.state, .int .i64 x.path, .int .i64 x.missed, .int .i64 x.times, .int .i64 x.came, .int .i64 x.life, .int .i64 x.tries, .int .i64 x.ck.kind, .int .i64 x.ck.tag, .int .i64 x.ck.stream, .int .i64 x.ck.mid, .int .i64 x.ck.part, .bool x.ck.last, .bool x.ck.ordered, .slice da x.ck.data.length dc, .slice sa x.ck.spans.length sc, .int .i64 x.ck.room, .slice qa x.ck.skips.length qc] 53)
      have szX : (wr.alloc (.cells #[.int .i64 x.number, .int .i64 x.id, .int .i64 x.state, .int .i64 x.path, .int .i64 x.missed, .int .i64 x.times, .int .i64 x.came, .int .i64 x.life, .int .i64 x.tries, .int .i64 x.ck.kind, .int .i64 x.ck.tag, .int .i64 x.ck.stream, .int .i64 x.ck.mid, .int .i64 x.ck.part, .bool x.ck.last, .bool x.ck.ordered, .slice da x.ck.data.length dc, .slice sa x.ck.spans.length sc, .int .i64 x.ck.room, .slice qa x.ck.skips.length qc] 53)).heap.size = wr.heap.size + 1 := by simp
      have hszr := BR.size
      have BWX := BR.trans (BX.mono hszr)
      rcases Classical.em (x.state = 4) with h4' | h4'
      · have h4 : Hid (x.state = 4) := h4'
        have hs4 : (x.state == 4) = true := by simpa using h4'
        clear h4'
        have SK := skip_any w.heap.size ak ck ks x.ck da x.ck.data.length dc sa x.ck.spans.length sc qa x.ck.skips.length qc (wr.alloc (.cells #[.int .i64 x.number, .int .i64 x.id, .int .i64 x.state, .int .i64 x.path, .int .i64 x.missed, .int .i64 x.times, .int .i64 x.came, .int .i64 x.life, .int .i64 x.tries, .int .i64 x.ck.kind, .int .i64 x.ck.tag, .int .i64 x.ck.stream, .int .i64 x.ck.mid, .int .i64 x.ck.part, .bool x.ck.last, .bool x.ck.ordered, .slice da x.ck.data.length dc, .slice sa x.ck.spans.length sc, .int .i64 x.ck.room, .slice qa x.ck.skips.length qc] 53)) (SOH.out.alloc _) (by omega) hks
        simp only [ckVal] at SK
        have HPA : Hid (8 < (skipF ks x.ck).length → pointF cum [] l = (cu, ks)) := fun h => by rw [HD.out, pointF, if_pos h4.out, if_pos h]
        have HPB : Hid (¬ 8 < (skipF ks x.ck).length → pointF cum [] l = pointF x.number (skipF ks x.ck) (l.drop (k + 1))) := fun h => by rw [HD.out, pointF, if_pos h4.out, if_neg h]
        have hsl : (skipF ks x.ck).length = ks.length ∨ (skipF ks x.ck).length = ks.length + 1 := by unfold skipF; split <;> simp
        have c0 := AX.1
        clear HD HP
        go_wp2_with (first
          | refine wpList_ld rfl (.tmp 14) rfl b off rfl x _ _ _ (by with_reducible exact hat) ?_
          | refine wpList_st rfl (.tmp 8) (.tmp 15) rfl wr _ rfl rfl rfl [.int .i64 x.number, .int .i64 x.id, .int .i64 x.state, .int .i64 x.path, .int .i64 x.missed, .int .i64 x.times, .int .i64 x.came, .int .i64 x.life, .int .i64 x.tries, .int .i64 x.ck.kind, .int .i64 x.ck.tag, .int .i64 x.ck.stream, .int .i64 x.ck.mid, .int .i64 x.ck.part, .bool x.ck.last, .bool x.ck.ordered, .slice da x.ck.data.length dc, .slice sa x.ck.spans.length sc, .int .i64 x.ck.room, .slice qa x.ck.skips.length qc] rfl rfl rfl ?_)
        generalize (wr.alloc (.cells #[.int .i64 x.number, .int .i64 x.id, .int .i64 x.state, .int .i64 x.path, .int .i64 x.missed, .int .i64 x.times, .int .i64 x.came, .int .i64 x.life, .int .i64 x.tries, .int .i64 x.ck.kind, .int .i64 x.ck.tag, .int .i64 x.ck.stream, .int .i64 x.ck.mid, .int .i64 x.ck.part, .bool x.ck.last, .bool x.ck.ordered, .slice da x.ck.data.length dc, .slice sa x.ck.spans.length sc, .int .i64 x.ck.room, .slice qa x.ck.skips.length qc] 53)) = wx at *
        refine SK.mono ?_
        rintro e w2 ⟨a2, c2, rfl, SO2, b2, OLD⟩
        have b2' := b2.below (B := w.heap.size) fun k hk => ⟨by omega, fun e => by have := (SOH.out.lt k e).1; omega⟩
        have BW2 : Below w.heap.size w w2 := BWX.trans b2'
        have S2 : Hid (SkOwn w.heap.size w2 a2 c2 (skipF ks x.ck)) := SO2
        by_cases h9 : 8 < (skipF ks x.ck).length
        · have E9 : Hid (pointF cum [] l = (cu, ks)) := HPA.out h9
          have K9 : Hid (Kl w2.heap.size w2 (.slice ak ks.length ck) ks) := OLD (by omega)
          have g9 : ((skipF ks x.ck).length : Int) > 8 := by omega
          clear HPA HPB SK SO2 OLD
          generalize (skipF ks x.ck).length = m at *
          go_wp2_with fail
          go_ret2
          rw [E9.out]
          exact ⟨ak, ck, rfl, K9.out, BW2⟩
        · have E9 : Hid (pointF cum [] l = pointF x.number (skipF ks x.ck) (l.drop (k + 1))) := HPB.out h9
          have g9 : ¬ ((skipF ks x.ck).length : Int) > 8 := by omega
          have hlo : (skipF ks x.ck).length ≤ 8 := by omega
          have cX0 : w2.cell? ⟨wr.heap.size, 0, none⟩ = some (.int .i64 x.number) := (b2.cell (p := ⟨wr.heap.size, 0, none⟩) ⟨by show wr.heap.size < _; omega, fun e => by have h := (SOH.out.lt wr.heap.size e).2; omega⟩).trans c0
          clear HPA HPB SK SO2 OLD
          go_wp2_with fail
          go_roundw
          case rel => exact ⟨k + 1, x.number, skipF ks x.ck, a2, c2, by omega, by go_num, rfl, rfl, E9, hlo, S2.out, BW2⟩
          case measure => simp [intOf]; omega
      · have h4 : Hid (¬ x.state = 4) := h4'
        have hs4 : (x.state == 4) = false := by simpa using h4'
        clear h4'
        rcases Classical.em (x.state = 2) with h2' | h2'
        · have hs2 : (x.state != 2) = false := by simp [h2']
          have HE : Hid (pointF cum [] l = pointF x.number ks (l.drop (k + 1))) := by show _ = _; rw [HD.out, pointF, if_neg h4.out, if_pos h2']
          clear h2'
          have SO3 : Hid (SkOwn w.heap.size (wr.alloc (.cells #[.int .i64 x.number, .int .i64 x.id, .int .i64 x.state, .int .i64 x.path, .int .i64 x.missed, .int .i64 x.times, .int .i64 x.came, .int .i64 x.life, .int .i64 x.tries, .int .i64 x.ck.kind, .int .i64 x.ck.tag, .int .i64 x.ck.stream, .int .i64 x.ck.mid, .int .i64 x.ck.part, .bool x.ck.last, .bool x.ck.ordered, .slice da x.ck.data.length dc, .slice sa x.ck.spans.length sc, .int .i64 x.ck.room, .slice qa x.ck.skips.length qc] 53)) ak ck ks) := SOH.out.alloc _
          clear HD HP
          go_wp2_with (first
            | refine wpList_ld rfl (.tmp 14) rfl b off rfl x _ _ _ (by with_reducible exact hat) ?_
            | refine wpList_st rfl (.tmp 8) (.tmp 15) rfl wr _ rfl rfl rfl [.int .i64 x.number, .int .i64 x.id, .int .i64 x.state, .int .i64 x.path, .int .i64 x.missed, .int .i64 x.times, .int .i64 x.came, .int .i64 x.life, .int .i64 x.tries, .int .i64 x.ck.kind, .int .i64 x.ck.tag, .int .i64 x.ck.stream, .int .i64 x.ck.mid, .int .i64 x.ck.part, .bool x.ck.last, .bool x.ck.ordered, .slice da x.ck.data.length dc, .slice sa x.ck.spans.length sc, .int .i64 x.ck.room, .slice qa x.ck.skips.length qc] rfl rfl rfl ?_)
          go_roundw
          case rel => exact ⟨k + 1, x.number, ks, ak, ck, by omega, by go_num, rfl, rfl, HE, hks, SO3.out, BWX⟩
          case measure => simp [intOf]; omega
        · have hs2 : (x.state != 2) = true := by simpa [bne] using h2'
          have HE : Hid (pointF cum [] l = (cu, ks)) := by show _ = _; rw [HD.out, pointF, if_neg h4.out, if_neg h2']
          clear h2'
          have K3 : Hid (Kl (wr.heap.size + 1) (wr.alloc (.cells #[.int .i64 x.number, .int .i64 x.id, .int .i64 x.state, .int .i64 x.path, .int .i64 x.missed, .int .i64 x.times, .int .i64 x.came, .int .i64 x.life, .int .i64 x.tries, .int .i64 x.ck.kind, .int .i64 x.ck.tag, .int .i64 x.ck.stream, .int .i64 x.ck.mid, .int .i64 x.ck.part, .bool x.ck.last, .bool x.ck.ordered, .slice da x.ck.data.length dc, .slice sa x.ck.spans.length sc, .int .i64 x.ck.room, .slice qa x.ck.skips.length qc] 53)) (.slice ak ks.length ck) ks) := (KLH.below BX (Nat.le_refl _)).mono (by omega)
          clear HD HP
          go_wp2_with (first
            | refine wpList_ld rfl (.tmp 14) rfl b off rfl x _ _ _ (by with_reducible exact hat) ?_
            | refine wpList_st rfl (.tmp 8) (.tmp 15) rfl wr _ rfl rfl rfl [.int .i64 x.number, .int .i64 x.id, .int .i64 x.state, .int .i64 x.path, .int .i64 x.missed, .int .i64 x.times, .int .i64 x.came, .int .i64 x.life, .int .i64 x.tries, .int .i64 x.ck.kind, .int .i64 x.ck.tag, .int .i64 x.ck.stream, .int .i64 x.ck.mid, .int .i64 x.ck.part, .bool x.ck.last, .bool x.ck.ordered, .slice da x.ck.data.length dc, .slice sa x.ck.spans.length sc, .int .i64 x.ck.room, .slice qa x.ck.skips.length qc] rfl rfl rfl ?_)
          go_ret2
          rw [HE.out]
          exact ⟨ak, ck, rfl, by rw [szX]; exact K3.out, BWX⟩
    · have hkl : k = l.length := by omega
      subst hkl
      have HE : Hid (pointF cum [] l = (cu, ks)) := by show _ = _; rw [HP.out, List.drop_length]; rfl
      clear HP
      go_wp2_with fail
      go_ret2
      rw [HE.out]
      exact ⟨ak, ck, rfl, KLH, BR⟩
end Go.Proofs.Ytnddejdndipddac
