/- The contracts of the document's Packet and SameChunks. -/
import Derived.Test.YtnddejdndipddabPkD
import Derived.Test.YtnddejdndipddabCrJ
set_option maxRecDepth 20000
namespace Go.Proofs.Ytnddejdndipddab
open Go.RowKit

/-- Eleven cells, in a later world. -/
theorem cells_below {B b off : Nat} {w w' : World} {u0 u1 u2 u3 u4 u5 u6 u7 u8 u9 u10 : Value} (hb : Below B w w') (h : b < B)
    (x : w.cell? ⟨b, off, none⟩ = some u0 ∧ w.cell? ⟨b, off + 1, none⟩ = some u1 ∧ w.cell? ⟨b, off + 2, none⟩ = some u2 ∧ w.cell? ⟨b, off + 3, none⟩ = some u3 ∧ w.cell? ⟨b, off + 4, none⟩ = some u4 ∧ w.cell? ⟨b, off + 5, none⟩ = some u5 ∧ w.cell? ⟨b, off + 6, none⟩ = some u6 ∧ w.cell? ⟨b, off + 7, none⟩ = some u7 ∧ w.cell? ⟨b, off + 8, none⟩ = some u8 ∧ w.cell? ⟨b, off + 9, none⟩ = some u9 ∧ w.cell? ⟨b, off + 10, none⟩ = some u10) :
    w'.cell? ⟨b, off, none⟩ = some u0 ∧ w'.cell? ⟨b, off + 1, none⟩ = some u1 ∧ w'.cell? ⟨b, off + 2, none⟩ = some u2 ∧ w'.cell? ⟨b, off + 3, none⟩ = some u3 ∧ w'.cell? ⟨b, off + 4, none⟩ = some u4 ∧ w'.cell? ⟨b, off + 5, none⟩ = some u5 ∧ w'.cell? ⟨b, off + 6, none⟩ = some u6 ∧ w'.cell? ⟨b, off + 7, none⟩ = some u7 ∧ w'.cell? ⟨b, off + 8, none⟩ = some u8 ∧ w'.cell? ⟨b, off + 9, none⟩ = some u9 ∧ w'.cell? ⟨b, off + 10, none⟩ = some u10 := by
  have e : ∀ o, w'.cell? ⟨b, o, none⟩ = w.cell? ⟨b, o, none⟩ := fun o => hb.cell (p := ⟨b, o, none⟩) h
  simp only [e]
  exact x

set_option maxHeartbeats 2000000 in
theorem rpacket_any (v : Value) (bs : List Int) (w : World) (hv : By w.heap.size w v bs) (hl : bs.length ≤ 1099511627776) :
    Calls Try.prog 14 #[v] w fun e w' => ∃ v', e = .returned (.tuple #[v', .int .i64 (packetM bs).1]) ∧ CkS w'.heap.size w' v' (packetM bs).2 ∧ Below w.heap.size w w' := by
  have HV := hv
  obtain ⟨a, cap, rfl, h1, h2⟩ := hv.ex
  clear hv
  by_cases h0 : bs.length = 0
  · have HP : Hid (packetM bs = (5, [])) := by show _ = _; rw [packetM, if_pos h0]
    go_enter Try.func14, Try.ntmps14
    go_wp2
    go_ret2
    rw [HP.out]
    exact ⟨_, rfl, CkS.nil _ _, Below.refl _ _⟩
  · have HP : Hid (packetM bs = packsM bs.length bs) := by show _ = _; rw [packetM, if_neg h0]
    have hsm : ∀ n : Nat, 4 * n ≤ bs.length → n + 1 ≤ maxLen ∧ (n + 1) * 128 ≤ 140737488355328 := fun n hn => by unfold maxLen; omega
    have h0' : ((bs.length : Int) == 0) = false := beq_eq_false_iff_ne.2 (by omega)
    clear hl
    go_enter Try.func14, Try.ntmps14
    go_wp2
    go_loopw [0, 4] (fun b o wr => ∃ (rest : List Int) (m : Nat) (acc : List Ck) (a' : Option Addr) (c' : Nat) (ao : Option Addr) (co : Nat), b = .slice a' rest.length c' ∧ o = .slice ao acc.length co ∧ By w.heap.size w (.slice a' rest.length c') rest ∧ PkRow w.heap.size wr (.slice ao acc.length co) acc ∧ Below w.heap.size w wr ∧ rest.length ≤ m ∧ 4 * acc.length + rest.length ≤ bs.length ∧ Hid (packsM bs.length bs = aheadM acc (packsM m rest))) (fun b _ _ => lenV b)
    case atStart =>
      refine ⟨bs, bs.length, [], a, cap, none, 0, rfl, rfl, HV, PkRow.nil _, Below.refl _ _, Nat.le_refl _, by simp, ?_⟩
      show _ = _
      rw [join_nil]
      rcases packs_back bs.length bs HV.2 (Nat.le_refl _) with h | h
      · exact .inr h.2
      · exact .inl h.1
    case round =>
      obtain ⟨rest, m, acc, a', c', ao, co, rfl, rfl, hb, PR, BR, hm, hacc, HS⟩ := hrel
      obtain ⟨-, q1, q2, -⟩ := hb.1.len
      by_cases hlt : 0 < rest.length
      · have PA := rparse_any _ rest wr ((hb.below BR (Nat.le_refl _)).mono BR.size)
        have hlt' : (0 : Int) < rest.length := by omega
        have hn := @parse_n rest hb.2
        go_wp2_with fail
        refine PA.mono ?_
        rintro e w2 ⟨c, d, s, k, ⟨ad, nd, cd, rfl⟩, ⟨as', ns, cs, rfl⟩, ⟨ak, nk, ck, rfl⟩, rfl, own2, b2⟩
        have PADD := fun o1 o2 => PR.add b2 own2 BR (w4 := (w2.alloc o1).drew.alloc o2) (((box_below w2 o1).drew).alloc (by simp) o2)
        have BE : Below w.heap.size w w2 := BR.trans (b2.mono BR.size)
        simp only [ckVal] at PADD ⊢
        by_cases hz : (parseM rest).1 = 0
        · obtain ⟨n1, n2, n3, n4⟩ := hn hz
          have HN : Hid (packsM bs.length bs = aheadM (acc ++ [(parseM rest).2.1]) (packsM (m - 1) (rest.drop (parseM rest).2.2.toNat))) := by
            show _ = _
            rw [HS.out, packs_good m rest hm hlt hz, join_join]
          obtain ⟨nn, hnn⟩ : ∃ nn : Nat, (parseM rest).2.2 = (nn : Int) := ⟨(parseM rest).2.2.toNat, by omega⟩
          rw [hnn] at HN n3 n4 ⊢
          rw [hz]
          rw [Int.toNat_natCast] at HN
          have hre := run_re_l a' rest.length c' nn (by omega)
          have hb' := hb.re nn (rest.length - nn) (by omega)
          have hdl : (rest.drop nn).length = rest.length - nn := by simp
          rw [show (rest.drop nn).take (rest.length - nn) = rest.drop nn by rw [List.take_of_length_le (by simp)]] at hb'
          obtain ⟨vs, OW, hsz, PUSH⟩ := PADD (.cells #[.int .i64 c.kind, .int .i64 c.tag, .int .i64 c.stream, .int .i64 c.mid, .int .i64 c.part, .bool c.last, .bool c.ordered, .slice ad nd cd, .slice as' ns cs, .int .i64 c.room, .slice ak nk ck] 45) (.cells #[.int .i64 c.kind, .int .i64 c.tag, .int .i64 c.stream, .int .i64 c.mid, .int .i64 c.part, .bool c.last, .bool c.ordered, .slice ad nd cd, .slice as' ns cs, .int .i64 c.room, .slice ak nk ck] 45)
          have hL := Rw.lit11 (w2.alloc (.cells #[.int .i64 c.kind, .int .i64 c.tag, .int .i64 c.stream, .int .i64 c.mid, .int .i64 c.part, .bool c.last, .bool c.ordered, .slice ad nd cd, .slice as' ns cs, .int .i64 c.room, .slice ak nk ck] 45)).drew (.int .i64 c.kind) (.int .i64 c.tag) (.int .i64 c.stream) (.int .i64 c.mid) (.int .i64 c.part) (.bool c.last) (.bool c.ordered) (.slice ad nd cd) (.slice as' ns cs) (.int .i64 c.room) (.slice ak nk ck) 45
          rw [show (w2.alloc (.cells #[.int .i64 c.kind, .int .i64 c.tag, .int .i64 c.stream, .int .i64 c.mid, .int .i64 c.part, .bool c.last, .bool c.ordered, .slice ad nd cd, .slice as' ns cs, .int .i64 c.room, .slice ak nk ck] 45)).drew.heap.size = w2.heap.size + 1 by simp] at hL
          have hone : ∀ u ∈ [Value.int .i64 c.kind, .int .i64 c.tag, .int .i64 c.stream, .int .i64 c.mid, .int .i64 c.part, .bool c.last, .bool c.ordered, .slice ad nd cd, .slice as' ns cs, .int .i64 c.room, .slice ak nk ck], u.oneCell' = true := by intro u hu; simp at hu; rcases hu with rfl | rfl | rfl | rfl | rfl | rfl | rfl | rfl | rfl | rfl | rfl <;> rfl
          obtain ⟨hs1, hs2⟩ := hsm acc.length (by omega)
          clear hz hn PA own2 PADD HS hnn
          go_upto_region 8 with fail
          go_region_law (refine step_append_rw Try.underlying22 Try.info45 rfl (by decide) rfl (.tmp 23) (.tmp 25) rfl w.heap.size (.slice ao acc.length co) acc.length (flatA vs) rfl OW _ 1 _ _ rfl hL hone hs1 hs2 hsz ?_; intro v5 w5 o5 g5 a5; obtain ⟨P5, B5⟩ := PUSH v5 w5 o5 g5 a5; obtain ⟨a6, c6, rfl⟩ := own_form o5; clear o5 g5 a5)
          all_goals go_wp2
          go_simp
          refine ⟨⟨_, _, _, _, ⟨rest.drop nn, m - 1, acc ++ [(parseM rest).2.1], reK 1 a' c' nn, c' - nn, ?_, a6, c6, ?_, ?_, ?_, ?_, ?_, HN⟩, rfl, rfl, rfl, rfl⟩, ?_⟩
          · rw [hdl]
          · rw [List.length_append]; rfl
          · rw [hdl]; exact hb'
          · rw [List.length_append]; exact P5
          · rw [hdl]; omega
          · rw [hdl, List.length_append]; simp; omega
          · simp [lenV]; omega
        · have hzn : ((parseM rest).1 != 0) = true := by simpa using hz
          have HE : Hid (packetM bs = ((parseM rest).1, [])) := by
            show _ = _
            rw [HP.out, HS.out, packs_bad m rest hm hlt hz, aheadM, if_neg hz]
          clear PA own2 PADD HS HP hn hz
          go_wp2_with fail
          go_ret2
          rw [HE.out]
          exact ⟨_, rfl, CkS.nil _ _, BE.alloc BE.size _⟩
      · have hr : rest.length = 0 := by omega
        have HE : Hid (packetM bs = (0, acc)) := by
          show _ = _
          rw [HP.out, HS.out, packs_nil m rest hr]
          simp [aheadM]
        have hr' : (rest.length : Int) = 0 := by omega
        have CE := PR.s
        clear HS HP
        go_wp2_with fail
        go_ret2
        rw [HE.out]
        exact ⟨_, rfl, CE, BR⟩

set_option maxHeartbeats 1000000 in
theorem sameChunks_same (v v' : Value) (l : List Ck) (w : World) (hv : CkS w.heap.size w v l) (hv' : CkS w.heap.size w v' l) :
    Calls Try.prog 15 #[v, v'] w fun e w' => e = .returned (.bool true) ∧ Below w.heap.size w w' := by
  have HV := hv
  have HV' := hv'
  obtain ⟨a, cap, rfl, h1, h2⟩ := hv.ex
  obtain ⟨a', cap', rfl, h1', h2'⟩ := hv'.ex
  clear hv hv'
  go_enter Try.func15, Try.ntmps15
  go_wp2
  go_loopw [13] (fun i wr => ∃ (j : Nat), j ≤ l.length ∧ i = .int .i64 j ∧ Below w.heap.size w wr) (fun i _ => l.length - (intOf i).toNat)
  case atStart => exact ⟨0, Nat.zero_le _, rfl, Below.refl _ _⟩
  case round =>
    obtain ⟨j, hj, rfl, BR⟩ := hrel
    by_cases hlt : j < l.length
    · obtain ⟨b, off, d, s, q, hbb, hix, hcv, -, -, -, x⟩ := (HV.below BR (Nat.le_refl _)).at j hlt
      obtain ⟨b', off', d', s', q', hbb', hix', hcv', -, -, -, y⟩ := (HV'.below BR (Nat.le_refl _)).at j hlt
      have i1 : (0 : Int) ≤ (j : Int) := by omega
      have i2 : (j : Int) < (l.length : Int) := by omega
      have hC := (hcv.mono BR.size).below (w' := wr.drew) (B' := wr.heap.size) ⟨rfl, rfl, rfl, Nat.le_refl _, fun _ _ => rfl⟩ (Nat.le_refl _)
      have hC' := (hcv'.mono BR.size).below (w' := wr.drew) (B' := wr.heap.size) ⟨rfl, rfl, rfl, Nat.le_refl _, fun _ _ => rfl⟩ (Nat.le_refl _)
      have SM := sameChunk_same _ _ l[j] wr.drew hC hC'
      have BD : Below wr.heap.size wr wr.drew := ⟨rfl, rfl, rfl, Nat.le_refl _, fun _ _ => rfl⟩
      simp only [ckVal] at SM
      clear hC hC' hcv hcv'
      generalize l[j] = c at *
      go_upto_region 6 with fail
      go_cut [25] from 16 to 24 (fun s25 wx => s25 = .bool false ∧ Below wr.heap.size wr wx)
      case first =>
        go_region_held3 (fun w' => (w'.cell? ⟨b, off, none⟩ = some (.int .i64 c.kind) ∧ w'.cell? ⟨b, off + 1, none⟩ = some (.int .i64 c.tag) ∧ w'.cell? ⟨b, off + 2, none⟩ = some (.int .i64 c.stream) ∧ w'.cell? ⟨b, off + 3, none⟩ = some (.int .i64 c.mid) ∧ w'.cell? ⟨b, off + 4, none⟩ = some (.int .i64 c.part) ∧
       w'.cell? ⟨b, off + 5, none⟩ = some (.bool c.last) ∧ w'.cell? ⟨b, off + 6, none⟩ = some (.bool c.ordered) ∧ w'.cell? ⟨b, off + 7, none⟩ = some d ∧ w'.cell? ⟨b, off + 8, none⟩ = some s ∧ w'.cell? ⟨b, off + 9, none⟩ = some (.int .i64 c.room) ∧ w'.cell? ⟨b, off + 10, none⟩ = some q) ∧
       (w'.cell? ⟨b', off', none⟩ = some (.int .i64 c.kind) ∧ w'.cell? ⟨b', off' + 1, none⟩ = some (.int .i64 c.tag) ∧ w'.cell? ⟨b', off' + 2, none⟩ = some (.int .i64 c.stream) ∧ w'.cell? ⟨b', off' + 3, none⟩ = some (.int .i64 c.mid) ∧ w'.cell? ⟨b', off' + 4, none⟩ = some (.int .i64 c.part) ∧
       w'.cell? ⟨b', off' + 5, none⟩ = some (.bool c.last) ∧ w'.cell? ⟨b', off' + 6, none⟩ = some (.bool c.ordered) ∧ w'.cell? ⟨b', off' + 7, none⟩ = some d' ∧ w'.cell? ⟨b', off' + 8, none⟩ = some s' ∧ w'.cell? ⟨b', off' + 9, none⟩ = some (.int .i64 c.room) ∧ w'.cell? ⟨b', off' + 10, none⟩ = some q')) (first | exact ⟨x, y⟩ | exact XY) (first
          | (go_at_call 33; refine SM.mono ?_; rintro e w2 ⟨rfl, b2⟩; have B2 := BD.trans (b2.mono (Nat.le_refl _)); have XY := And.intro (cells_below B2 (Nat.lt_of_lt_of_le hbb BR.size) x) (cells_below B2 (Nat.lt_of_lt_of_le hbb' BR.size) y)))
        all_goals (
          go_wp2_with fail
          go_meet
          exact ⟨by simp, B2⟩)
      case rest =>
        obtain ⟨rfl, B2⟩ := hcut
        have BE := BR.trans (B2.mono BR.size)
        clear x y SM
        go_wp2
        go_roundw
        case rel => exact ⟨j + 1, by omega, by go_num, BE⟩
        case measure => simp [intOf]; omega
    · go_wp2
      go_ret
      exact ⟨rfl, BR⟩
end Go.Proofs.Ytnddejdndipddab
