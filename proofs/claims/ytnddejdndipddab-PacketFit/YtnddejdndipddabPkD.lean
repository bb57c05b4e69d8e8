/- The contract of Parse, of package packet. -/
import Derived.Test.YtnddejdndipddabPkB
set_option maxRecDepth 20000
namespace Go.Proofs.Ytnddejdndipddab
open Go.RowKit

theorem Try.info45 : (Try.prog.info? 45).map (fun i => (i.zero, i.size, i.bytes)) = some (some (.agg #[.int .i64 0, .int .i64 0, .int .i64 0, .int .i64 0, .int .i64 0, .bool false, .bool false, .slice none 0 0, .slice none 0 0, .int .i64 0, .slice none 0 0]), 11, 128) := by kernel_rfl

theorem Rw.lit11 (w : World) (u0 u1 u2 u3 u4 u5 u6 u7 u8 u9 u10 : Value) (t : TypeId) : Rw 11 (w.heap.size + 1) (w.alloc (.cells #[u0, u1, u2, u3, u4, u5, u6, u7, u8, u9, u10] t)) (.slice (some ⟨w.heap.size, 0, none⟩) 1 1) 1 [u0, u1, u2, u3, u4, u5, u6, u7, u8, u9, u10] := by
  refine ⟨rfl, some ⟨w.heap.size, 0, none⟩, 1, rfl, Nat.le_refl _, by omega, fun h => by simp at h, fun _ => ⟨w.heap.size, 0, rfl, by omega, fun j q hq => ?_⟩⟩
  rw [World.cell?_alloc_at _ _ _ _ rfl, Nat.zero_add, ← hq]
  simp

/-- A slice value's length. -/
def lenV : Value → Nat
  | .slice _ n _ => n
  | _ => 0

/-- The chunks so far, as they lie, and a chunk more of the call's own, in a later world. -/
theorem PkRow.add {w wr w2 w4 : World} {o : Value} {acc : List Ck} {u : Value} {m : Ck} (h : PkRow w.heap.size wr o acc) (b2 : Below wr.heap.size wr w2) (own : CkOwn wr.heap.size w2 u m) (BR : Below w.heap.size w wr) (B3 : Below w2.heap.size w2 w4) :
    ∃ vs, w4.ownsRow w.heap.size 45 11 o acc.length (flatA vs) ∧ w.heap.size ≤ w4.heap.size ∧ ∀ v' w', w'.ownsRow w.heap.size 45 11 v' (acc.length + 1) (flatA vs ++ u.cells.toList) → w4.grownBy w' o.ownBlock → (v'.ownBlock = o.ownBlock ∨ v'.ownBlock = some w4.heap.size) →
      PkRow w.heap.size w' v' (acc ++ [m]) ∧ Below w.heap.size w w' := by
  have B4 : Below wr.heap.size wr w4 := b2.trans (B3.mono b2.size)
  have hlt : ∀ k, o.ownBlock = some k → k < wr.heap.size := by
    obtain ⟨vs, h1, _⟩ := h
    exact fun k hk => (h1.lt k hk).2
  obtain ⟨vs, h1, h2⟩ := h.below B4
  have B5 : Below w.heap.size w w4 := BR.trans (B4.mono BR.size)
  refine ⟨vs, h1, B5.size, fun v' w' ho hg ha => ⟨PkRow.push h2 ?_ ho hg ha, B5.grown hg B5.size fun k hk => (h1.lt k hk).1⟩⟩
  refine ((CkI.of own).keep ⟨B3.os, B3.tape, B3.output, B3.size, fun i hi => B3.block i hi.2⟩).mono fun k hk => ⟨Nat.lt_of_lt_of_le hk.2 B3.size, fun e => ?_⟩
  have := hlt k e
  omega

set_option maxHeartbeats 2000000 in
theorem pparse_any (v : Value) (bs : List Int) (w : World) (hv : By w.heap.size w v bs) (hl : bs.length ≤ 1099511627776) :
    Calls Try.prog 13 #[v] w fun e w' => ∃ v', e = .returned (.tuple #[v', .int .i64 (packetM bs).1]) ∧ CkS w'.heap.size w' v' (packetM bs).2 ∧ Below w.heap.size w w' := by
  have HV := hv
  obtain ⟨a, cap, rfl, h1, h2⟩ := hv.ex
  clear hv
  by_cases h0 : bs.length = 0
  · have HP : Hid (packetM bs = (5, [])) := by show _ = _; rw [packetM, if_pos h0]
    go_enter Try.func13, Try.ntmps13
    go_wp2
    go_ret2
    rw [HP.out]
    exact ⟨_, rfl, CkS.nil _ _, Below.refl _ _⟩
  · have HP : Hid (packetM bs = packsM bs.length bs) := by show _ = _; rw [packetM, if_neg h0]
    have hsm : ∀ n : Nat, 4 * n ≤ bs.length → n + 1 ≤ maxLen ∧ (n + 1) * 128 ≤ 140737488355328 := fun n hn => by unfold maxLen; omega
    have h0' : ((bs.length : Int) == 0) = false := beq_eq_false_iff_ne.2 (by omega)
    clear hl
    go_enter Try.func13, Try.ntmps13
    go_wp2
    go_loopw [0, 4] (fun b o wr => ∃ (rest : List Int) (m : Nat) (acc : List Ck) (a' : Option Addr) (c' : Nat) (ao : Option Addr) (co : Nat), b = .slice a' rest.length c' ∧ o = .slice ao acc.length co ∧ By w.heap.size w (.slice a' rest.length c') rest ∧ PkRow w.heap.size wr (.slice ao acc.length co) acc ∧ Below w.heap.size w wr ∧ rest.length ≤ m ∧ 4 * acc.length + rest.length ≤ bs.length ∧ Hid (packsM bs.length bs = aheadM acc (packsM m rest))) (fun b _ _ => lenV b)
    case atStart =>
      refine ⟨bs, bs.length, [], a, cap, none, 0, rfl, rfl, HV, PkRow.nil _, Below.refl _ _, Nat.le_refl _, by simp, ?_⟩
      show _ = _
      rw [join_nil]
      rcases packs_back bs.length bs HV.2 (Nat.le_refl _) with h | h
      · exact .inr h.2
      · exact .inl h.1
    case round =>
      obtain ⟨rest, m, acc, a', c', ao, co, rfl, rfl, hb, PR, BR, hm, hacc, HS⟩ := hrel
      obtain ⟨-, q1, q2, -⟩ := hb.1.len
      by_cases hlt : 0 < rest.length
      · have PA := parse_any _ rest wr ((hb.below BR (Nat.le_refl _)).mono BR.size)
        have hlt' : (0 : Int) < rest.length := by omega
        have hn := @parse_n rest hb.2
        go_wp2_with fail
        refine PA.mono ?_
        rintro e w2 ⟨c, d, s, k, ⟨ad, nd, cd, rfl⟩, ⟨as', ns, cs, rfl⟩, ⟨ak, nk, ck, rfl⟩, rfl, own2, b2⟩
        have PADD := fun o1 o2 => PR.add b2 own2 BR (two_below w2 o1 o2)
        have BE : Below w.heap.size w w2 := BR.trans (b2.mono BR.size)
        simp only [ckVal] at PADD ⊢
        by_cases hz : (parseM rest).1 = 0
        · obtain ⟨n1, n2, n3, n4⟩ := hn hz
          have HN : Hid (packsM bs.length bs = aheadM (acc ++ [(parseM rest).2.1]) (packsM (m - 1) (rest.drop (parseM rest).2.2.toNat))) := by
            show _ = _
            rw [HS.out, packs_good m rest hm hlt hz, join_join]
          obtain ⟨nn, hnn⟩ : ∃ nn : Nat, (parseM rest).2.2 = (nn : Int) := ⟨(parseM rest).2.2.toNat, by omega⟩
          rw [hnn] at HN n3 n4 ⊢
          rw [hz]
          rw [Int.toNat_natCast] at HN
          have hre := run_re_l a' rest.length c' nn (by omega)
          have hb' := hb.re nn (rest.length - nn) (by omega)
          have hdl : (rest.drop nn).length = rest.length - nn := by simp
          rw [show (rest.drop nn).take (rest.length - nn) = rest.drop nn by rw [List.take_of_length_le (by simp)]] at hb'
          obtain ⟨vs, OW, hsz, PUSH⟩ := PADD (.cells #[.int .i64 c.kind, .int .i64 c.tag, .int .i64 c.stream, .int .i64 c.mid, .int .i64 c.part, .bool c.last, .bool c.ordered, .slice ad nd cd, .slice as' ns cs, .int .i64 c.room, .slice ak nk ck] 45) (.cells #[.int .i64 c.kind, .int .i64 c.tag, .int .i64 c.stream, .int .i64 c.mid, .int .i64 c.part, .bool c.last, .bool c.ordered, .slice ad nd cd, .slice as' ns cs, .int .i64 c.room, .slice ak nk ck] 45)
          have hL := Rw.lit11 (w2.alloc (.cells #[.int .i64 c.kind, .int .i64 c.tag, .int .i64 c.stream, .int .i64 c.mid, .int .i64 c.part, .bool c.last, .bool c.ordered, .slice ad nd cd, .slice as' ns cs, .int .i64 c.room, .slice ak nk ck] 45)) (.int .i64 c.kind) (.int .i64 c.tag) (.int .i64 c.stream) (.int .i64 c.mid) (.int .i64 c.part) (.bool c.last) (.bool c.ordered) (.slice ad nd cd) (.slice as' ns cs) (.int .i64 c.room) (.slice ak nk ck) 45
          rw [show (w2.alloc (.cells #[.int .i64 c.kind, .int .i64 c.tag, .int .i64 c.stream, .int .i64 c.mid, .int .i64 c.part, .bool c.last, .bool c.ordered, .slice ad nd cd, .slice as' ns cs, .int .i64 c.room, .slice ak nk ck] 45)).heap.size = w2.heap.size + 1 by simp] at hL
          have hone : ∀ u ∈ [Value.int .i64 c.kind, .int .i64 c.tag, .int .i64 c.stream, .int .i64 c.mid, .int .i64 c.part, .bool c.last, .bool c.ordered, .slice ad nd cd, .slice as' ns cs, .int .i64 c.room, .slice ak nk ck], u.oneCell' = true := by intro u hu; simp at hu; rcases hu with rfl | rfl | rfl | rfl | rfl | rfl | rfl | rfl | rfl | rfl | rfl <;> rfl
          obtain ⟨hs1, hs2⟩ := hsm acc.length (by omega)
          clear hz hn PA own2 PADD HS hnn
          go_wp2_with (at_builtin; refine wpList_append_rw Try.underlying22 Try.info45 rfl (by decide) _ rfl (.tmp 23) (.tmp 25) rfl w.heap.size (.slice ao acc.length co) acc.length (flatA vs) rfl OW _ 1 _ _ rfl hL hone hs1 hs2 hsz ?_; intro v5 w5 o5 g5 a5; obtain ⟨P5, B5⟩ := PUSH v5 w5 o5 g5 a5; obtain ⟨a6, c6, rfl⟩ := own_form o5; clear o5 g5 a5)
          go_roundw
          case rel =>
            refine ⟨rest.drop nn, m - 1, acc ++ [(parseM rest).2.1], reK 1 a' c' nn, c' - nn, a6, c6, ?_, ?_, ?_, ?_, B5, ?_, ?_, HN⟩
            · rw [hdl]
            · rw [List.length_append]; rfl
            · rw [hdl]; exact hb'
            · rw [List.length_append]; exact P5
            · rw [hdl]; omega
            · rw [hdl, List.length_append]; simp; omega
          case measure =>
            simp [lenV]; omega
        · have hzn : ((parseM rest).1 != 0) = true := by simpa using hz
          have HE : Hid (packetM bs = ((parseM rest).1, [])) := by
            show _ = _
            rw [HP.out, HS.out, packs_bad m rest hm hlt hz, aheadM, if_neg hz]
          clear PA own2 PADD HS HP hn hz
          go_wp2_with fail
          go_ret2
          rw [HE.out]
          exact ⟨_, rfl, CkS.nil _ _, BE.alloc BE.size _⟩
      · have hr : rest.length = 0 := by omega
        have HE : Hid (packetM bs = (0, acc)) := by
          show _ = _
          rw [HP.out, HS.out, packs_nil m rest hr]
          simp [aheadM]
        have hr' : (rest.length : Int) = 0 := by omega
        have CE := PR.s
        clear HS HP
        go_wp2_with fail
        go_ret2
        rw [HE.out]
        exact ⟨_, rfl, CE, BR⟩
end Go.Proofs.Ytnddejdndipddab
