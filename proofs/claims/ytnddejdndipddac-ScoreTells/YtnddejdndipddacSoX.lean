/- The contract of the document's Point. -/
import Derived.Test.YtnddejdndipddacSoW
set_option maxRecDepth 20000
namespace Go.Proofs.Ytnddejdndipddac
open Go.RowKit

/-- A place of a row of skips of one's own. -/
theorem skAt {base : Nat} {w : World} {v : Value} {ks : List Sk} {n : Nat} (hn : n = ks.length) (O : w.ownsRow base 60 3 v n (cellsK ks)) (i : Nat) (hi : i < ks.length) :
    ∃ g cp, v = .slice (some ⟨g, 0, none⟩) n cp ∧ base ≤ g ∧ n ≤ cp ∧ cp ≤ 9223372036854775807 ∧ (∀ wx, (Instr.indexAt 40 (.slice (some ⟨g, 0, none⟩) n cp) (.int .i64 (i : Int))).run Try.prog wx = .ok (.pointer (some ⟨g, i * 3, none⟩)) wx) ∧
      w.cell? ⟨g, i * 3, none⟩ = some (.int .i64 ks[i].stream) ∧ w.cell? ⟨g, i * 3 + 1, none⟩ = some (.int .i64 ks[i].mid) ∧ w.cell? ⟨g, i * 3 + 2, none⟩ = some (.bool ks[i].ordered) ∧
      w.frozen? ⟨g, i * 3, none⟩ = false ∧ w.frozen? ⟨g, i * 3 + 1, none⟩ = false ∧ w.frozen? ⟨g, i * 3 + 2, none⟩ = false ∧
      ∀ s : Sk, (((w.setCell ⟨g, i * 3, none⟩ (.int .i64 s.stream)).setCell ⟨g, i * 3 + 1, none⟩ (.int .i64 s.mid)).setCell ⟨g, i * 3 + 2, none⟩ (.bool s.ordered)).ownsRow base 60 3 (.slice (some ⟨g, 0, none⟩) n cp) n (cellsK (ks.set i s)) := by
  subst hn
  rcases O.2 with ⟨_, h0⟩ | ⟨g, cap, cur, rfl, h3, h4, h5, h6, h7, h8⟩
  · omega
  · have gi : ((i : Nat) : Int) < (ks.length : Int) := by omega
    have hg2 : ¬ ((i : Nat) : Int) < 0 := by omega
    have hg := cellsK_get ks i hi
    have hl3 := cellsK_length ks
    refine ⟨g, cap, rfl, (O.lt g rfl).1, h5, by unfold maxLen at h6; omega, fun wx => by go_simp, (O.cellAt (i * 3) (by omega)).trans hg.1, (O.cellAt (i * 3 + 1) (by omega)).trans hg.2.1, (O.cellAt (i * 3 + 2) (by omega)).trans hg.2.2, O.frozenAt _, O.frozenAt _, O.frozenAt _, fun s => ?_⟩
    have s3 := (((O.stored (i * 3) (.int .i64 s.stream)).1.stored (i * 3 + 1) (.int .i64 s.mid)).1.stored (i * 3 + 2) (.bool s.ordered)).1
    rw [← cellsK_set ks i s hi] at s3
    exact s3

set_option maxHeartbeats 2000000 in
theorem rpoint_any (v : Value) (l : List Sn) (cum : Int) (w : World) (hv : SnS w.heap.size w v l) (hr : RisesM cum l) (hc1 : -1 ≤ cum) (hc2 : cum < 1000000) (hlen : l.length * 200 ≤ 140737488351232) :
    Calls Try.prog 22 #[v, .int .i64 cum] w fun e w' => ∃ a c, e = .returned (.tuple #[.int .i64 (pointF cum [] l).1, .slice a (pointF cum [] l).2.length c]) ∧ Kl w'.heap.size w' (.slice a (pointF cum [] l).2.length c) (pointF cum [] l).2 ∧ Below w.heap.size w w' := by
  have HV := hv
  have HR : Hid (RisesM cum l) := hr
  clear hr
  obtain ⟨a, cap, rfl, h1, h2⟩ := hv.ex
  go_enter Try.func22, Try.ntmps22
  go_wp2_with fail
  go_loopw [1, 6, 16] (fun sc sk i wr => ∃ (k : Nat) (ks : List Sk) (ak : Option Addr) (ck : Nat), k ≤ l.length ∧ i = .int .i64 k ∧ sc = .int .i64 (cum + k) ∧ sk = .slice ak ks.length ck ∧ Hid (pointF cum [] l = pointF (cum + k) ks (l.drop k)) ∧ ks.length ≤ 8 ∧ Hid (DistK ks) ∧ Kl wr.heap.size wr (.slice ak ks.length ck) ks ∧ Below w.heap.size w wr) (fun _ _ i _ => l.length - (intOf i).toNat)
  case atStart => exact ⟨0, [], none, 0, Nat.zero_le _, rfl, by simp, rfl, by show _ = _; rw [List.drop_zero]; simp, by simp, DistK.nil, Rw.nil _ _ _, Below.refl _ _⟩
  case round =>
    obtain ⟨k, ks, ak, ck, hk, rfl, rfl, rfl, HP, hks, DK, KLR, BR⟩ := hrel
    by_cases hlt : k < l.length
    · obtain ⟨b, off, da, dc, sa, sc, qa, qc, hb, hix, -, -, -, hat⟩ := SnS.at (SlG.below SnV.bears HV BR (Nat.le_refl _)) k hlt
      have HD : Hid (pointF cum [] l = pointF (cum + k) ks (l[k] :: l.drop (k + 1))) := by show _ = _; rw [HP.out, List.drop_eq_getElem_cons hlt]
      have HN : Hid (l[k].number = cum + k + 1) := by show _ = _; have := HR.out k l[k] (by simp [hlt]); omega
      generalize l[k] = x at *
      have BX := box_below wr (.cells #[.int .i64 x.number, .int .i64 x.id, .int .i64 x.state, .int .i64 x.path, .int .i64 x.missed, .int .i64 x.times, .int .i64 x.came, .int .i64 x.life, .int .i64 x.tries, .int .i64 x.ck.kind, .int .i64 x.ck.tag, .int .i64 x.ck.stream, .int .i64 x.ck.mid, .int .i64 x.ck.part, .bool x.ck.last, .bool x.ck.ordered, .slice da x.ck.data.length dc, .slice sa x.ck.spans.length sc, .int .i64 x.ck.room, .slice qa x.ck.skips.length qc] 53)
      have szX : (wr.alloc (.cells #[.int .i64 x.number, .int .i64 x.id, .int .i64 x.state, .int .i64 x.path, .int .i64 x.missed, .int .i64 x.times, .int .i64 x.came, .int .i64 x.life, .int .i64 x.tries, .int .i64 x.ck.kind, .int .i64 x.ck.tag, .int .i64 x.ck.stream, .int .i64 x.ck.mid, .int .i64 x.ck.part, .bool x.ck.last, .bool x.ck.ordered, .slice da x.ck.data.length dc, .slice sa x.ck.spans.length sc, .int .i64 x.ck.room, .slice qa x.ck.skips.length qc] 53)).heap.size = wr.heap.size + 1 := by simp
      have hszr := BR.size
      have BWX := BR.trans (BX.mono hszr)
      have hn : (x.number != cum + k + 1) = false := by simp [HN.out]
      rcases Classical.em (x.state = 4) with h4' | h4'
      · have h4 : Hid (x.state = 4) := h4'
        have hs4 : (x.state != 4) = false := by simp [h4']
        have hs4' : (x.state == 4) = true := by simpa using h4'
        clear h4'
        have BXX := two_below wr (.cells #[.int .i64 x.number, .int .i64 x.id, .int .i64 x.state, .int .i64 x.path, .int .i64 x.missed, .int .i64 x.times, .int .i64 x.came, .int .i64 x.life, .int .i64 x.tries, .int .i64 x.ck.kind, .int .i64 x.ck.tag, .int .i64 x.ck.stream, .int .i64 x.ck.mid, .int .i64 x.ck.part, .bool x.ck.last, .bool x.ck.ordered, .slice da x.ck.data.length dc, .slice sa x.ck.spans.length sc, .int .i64 x.ck.room, .slice qa x.ck.skips.length qc] 53) (.cells #[.int .i64 x.ck.kind, .int .i64 x.ck.tag, .int .i64 x.ck.stream, .int .i64 x.ck.mid, .int .i64 x.ck.part, .bool x.ck.last, .bool x.ck.ordered, .slice da x.ck.data.length dc, .slice sa x.ck.spans.length sc, .int .i64 x.ck.room, .slice qa x.ck.skips.length qc] 42)
        have CX := Cells.new' (w := wr.alloc (.cells #[.int .i64 x.number, .int .i64 x.id, .int .i64 x.state, .int .i64 x.path, .int .i64 x.missed, .int .i64 x.times, .int .i64 x.came, .int .i64 x.life, .int .i64 x.tries, .int .i64 x.ck.kind, .int .i64 x.ck.tag, .int .i64 x.ck.stream, .int .i64 x.ck.mid, .int .i64 x.ck.part, .bool x.ck.last, .bool x.ck.ordered, .slice da x.ck.data.length dc, .slice sa x.ck.spans.length sc, .int .i64 x.ck.room, .slice qa x.ck.skips.length qc] 53)) (X := wr.heap.size + 1) #[.int .i64 x.ck.kind, .int .i64 x.ck.tag, .int .i64 x.ck.stream, .int .i64 x.ck.mid, .int .i64 x.ck.part, .bool x.ck.last, .bool x.ck.ordered, .slice da x.ck.data.length dc, .slice sa x.ck.spans.length sc, .int .i64 x.ck.room, .slice qa x.ck.skips.length qc] 42 (by simp)
        have HPA : Hid (ks.findIdx (skIs x.ck) = 8 → pointF cum [] l = (cum + k, ks)) := fun h => by
          rw [HD.out, pointF, if_pos h4.out, if_pos]
          unfold skipF
          rw [if_neg (by omega)]
          have := List.findIdx_le_length (p := skIs x.ck) (xs := ks)
          simp; omega
        have HPB : Hid (ks.findIdx (skIs x.ck) ≠ 8 → pointF cum [] l = pointF (cum + (k + 1 : Nat)) (skipF ks x.ck) (l.drop (k + 1)) ∧ (skipF ks x.ck).length ≤ 8) := fun h => by
          have hl8 : (skipF ks x.ck).length ≤ 8 := by
            have := List.findIdx_le_length (p := skIs x.ck) (xs := ks)
            unfold skipF
            split
            · simpa using hks
            · simp; omega
          refine ⟨?_, hl8⟩
          rw [HD.out, pointF, if_pos h4.out, if_neg (by omega), HN.out]
          congr 1
          omega
        have HSK : Hid (skipF ks x.ck = if ks.findIdx (skIs x.ck) < ks.length then ks.set (ks.findIdx (skIs x.ck)) (skOf x.ck) else ks ++ [skOf x.ck]) := rfl
        have DK2 : Hid (DistK (skipF ks x.ck)) := DK.out.skip x.ck
        have hzz : ((wr.alloc (.cells #[.int .i64 x.number, .int .i64 x.id, .int .i64 x.state, .int .i64 x.path, .int .i64 x.missed, .int .i64 x.times, .int .i64 x.came, .int .i64 x.life, .int .i64 x.tries, .int .i64 x.ck.kind, .int .i64 x.ck.tag, .int .i64 x.ck.stream, .int .i64 x.ck.mid, .int .i64 x.ck.part, .bool x.ck.last, .bool x.ck.ordered, .slice da x.ck.data.length dc, .slice sa x.ck.spans.length sc, .int .i64 x.ck.room, .slice qa x.ck.skips.length qc] 53)).alloc (.cells #[.int .i64 x.ck.kind, .int .i64 x.ck.tag, .int .i64 x.ck.stream, .int .i64 x.ck.mid, .int .i64 x.ck.part, .bool x.ck.last, .bool x.ck.ordered, .slice da x.ck.data.length dc, .slice sa x.ck.spans.length sc, .int .i64 x.ck.room, .slice qa x.ck.skips.length qc] 42)).heap.size = wr.heap.size + 2 := by simp
        have KLX : Kl ((wr.alloc (.cells #[.int .i64 x.number, .int .i64 x.id, .int .i64 x.state, .int .i64 x.path, .int .i64 x.missed, .int .i64 x.times, .int .i64 x.came, .int .i64 x.life, .int .i64 x.tries, .int .i64 x.ck.kind, .int .i64 x.ck.tag, .int .i64 x.ck.stream, .int .i64 x.ck.mid, .int .i64 x.ck.part, .bool x.ck.last, .bool x.ck.ordered, .slice da x.ck.data.length dc, .slice sa x.ck.spans.length sc, .int .i64 x.ck.room, .slice qa x.ck.skips.length qc] 53)).alloc (.cells #[.int .i64 x.ck.kind, .int .i64 x.ck.tag, .int .i64 x.ck.stream, .int .i64 x.ck.mid, .int .i64 x.ck.part, .bool x.ck.last, .bool x.ck.ordered, .slice da x.ck.data.length dc, .slice sa x.ck.spans.length sc, .int .i64 x.ck.room, .slice qa x.ck.skips.length qc] 42)).heap.size ((wr.alloc (.cells #[.int .i64 x.number, .int .i64 x.id, .int .i64 x.state, .int .i64 x.path, .int .i64 x.missed, .int .i64 x.times, .int .i64 x.came, .int .i64 x.life, .int .i64 x.tries, .int .i64 x.ck.kind, .int .i64 x.ck.tag, .int .i64 x.ck.stream, .int .i64 x.ck.mid, .int .i64 x.ck.part, .bool x.ck.last, .bool x.ck.ordered, .slice da x.ck.data.length dc, .slice sa x.ck.spans.length sc, .int .i64 x.ck.room, .slice qa x.ck.skips.length qc] 53)).alloc (.cells #[.int .i64 x.ck.kind, .int .i64 x.ck.tag, .int .i64 x.ck.stream, .int .i64 x.ck.mid, .int .i64 x.ck.part, .bool x.ck.last, .bool x.ck.ordered, .slice da x.ck.data.length dc, .slice sa x.ck.spans.length sc, .int .i64 x.ck.room, .slice qa x.ck.skips.length qc] 42)) (.slice ak ks.length ck) ks := (KLR.below BXX (Nat.le_refl _)).mono BXX.size
        clear HD HP
        go_wp2_with (first
          | refine wpList_ld rfl (.tmp 18) rfl b off rfl x _ _ _ (by with_reducible exact hat) ?_
          | refine wpList_st rfl (.tmp 8) (.tmp 19) rfl wr _ rfl rfl rfl [.int .i64 x.number, .int .i64 x.id, .int .i64 x.state, .int .i64 x.path, .int .i64 x.missed, .int .i64 x.times, .int .i64 x.came, .int .i64 x.life, .int .i64 x.tries, .int .i64 x.ck.kind, .int .i64 x.ck.tag, .int .i64 x.ck.stream, .int .i64 x.ck.mid, .int .i64 x.ck.part, .bool x.ck.last, .bool x.ck.ordered, .slice da x.ck.data.length dc, .slice sa x.ck.spans.length sc, .int .i64 x.ck.room, .slice qa x.ck.skips.length qc] rfl rfl rfl ?_)
        have szq : wr.heap.size + 2 ≤ ((wr.alloc (.cells #[.int .i64 x.number, .int .i64 x.id, .int .i64 x.state, .int .i64 x.path, .int .i64 x.missed, .int .i64 x.times, .int .i64 x.came, .int .i64 x.life, .int .i64 x.tries, .int .i64 x.ck.kind, .int .i64 x.ck.tag, .int .i64 x.ck.stream, .int .i64 x.ck.mid, .int .i64 x.ck.part, .bool x.ck.last, .bool x.ck.ordered, .slice da x.ck.data.length dc, .slice sa x.ck.spans.length sc, .int .i64 x.ck.room, .slice qa x.ck.skips.length qc] 53)).alloc (.cells #[.int .i64 x.ck.kind, .int .i64 x.ck.tag, .int .i64 x.ck.stream, .int .i64 x.ck.mid, .int .i64 x.ck.part, .bool x.ck.last, .bool x.ck.ordered, .slice da x.ck.data.length dc, .slice sa x.ck.spans.length sc, .int .i64 x.ck.room, .slice qa x.ck.skips.length qc] 42)).heap.size := by omega
        have BWW : Below w.heap.size w ((wr.alloc (.cells #[.int .i64 x.number, .int .i64 x.id, .int .i64 x.state, .int .i64 x.path, .int .i64 x.missed, .int .i64 x.times, .int .i64 x.came, .int .i64 x.life, .int .i64 x.tries, .int .i64 x.ck.kind, .int .i64 x.ck.tag, .int .i64 x.ck.stream, .int .i64 x.ck.mid, .int .i64 x.ck.part, .bool x.ck.last, .bool x.ck.ordered, .slice da x.ck.data.length dc, .slice sa x.ck.spans.length sc, .int .i64 x.ck.room, .slice qa x.ck.skips.length qc] 53)).alloc (.cells #[.int .i64 x.ck.kind, .int .i64 x.ck.tag, .int .i64 x.ck.stream, .int .i64 x.ck.mid, .int .i64 x.ck.part, .bool x.ck.last, .bool x.ck.ordered, .slice da x.ck.data.length dc, .slice sa x.ck.spans.length sc, .int .i64 x.ck.room, .slice qa x.ck.skips.length qc] 42)) := BR.trans (BXX.mono hszr)
        clear BX szX BWX hzz
        generalize (wr.alloc (.cells #[.int .i64 x.number, .int .i64 x.id, .int .i64 x.state, .int .i64 x.path, .int .i64 x.missed, .int .i64 x.times, .int .i64 x.came, .int .i64 x.life, .int .i64 x.tries, .int .i64 x.ck.kind, .int .i64 x.ck.tag, .int .i64 x.ck.stream, .int .i64 x.ck.mid, .int .i64 x.ck.part, .bool x.ck.last, .bool x.ck.ordered, .slice da x.ck.data.length dc, .slice sa x.ck.spans.length sc, .int .i64 x.ck.room, .slice qa x.ck.skips.length qc] 53)).alloc (.cells #[.int .i64 x.ck.kind, .int .i64 x.ck.tag, .int .i64 x.ck.stream, .int .i64 x.ck.mid, .int .i64 x.ck.part, .bool x.ck.last, .bool x.ck.ordered, .slice da x.ck.data.length dc, .slice sa x.ck.spans.length sc, .int .i64 x.ck.room, .slice qa x.ck.skips.length qc] 42) = wx at *
        have c2 := CX.cell 2 _ rfl
        have c3 := CX.cell 3 _ rfl
        have c6 := CX.cell 6 _ rfl
        clear CX hat BXX KLR BR
        generalize wr.heap.size = N at *
        go_loopw [10, 46] (fun s10 i wq => ∃ (j z : Nat), j ≤ ks.length ∧ s10 = .int .i64 z ∧ i = .int .i64 j ∧ Hid (z = atM x.ck ks j) ∧ Below wx.heap.size wx wq) (fun _ i _ => ks.length - (intOf i).toNat)
        case atStart => exact ⟨0, ks.length, Nat.zero_le _, rfl, rfl, (atM_zero _ _).symm, Below.refl _ _⟩
        case round =>
          obtain ⟨j, z, hj, rfl, rfl, HZ, BQ⟩ := hrel
          have d2 := (BQ.cell (p := ⟨N + 1, 2, none⟩) (by show N + 1 < _; omega)).trans c2
          have d3 := (BQ.cell (p := ⟨N + 1, 3, none⟩) (by show N + 1 < _; omega)).trans c3
          have d6 := (BQ.cell (p := ⟨N + 1, 6, none⟩) (by show N + 1 < _; omega)).trans c6
          have szQ := BQ.size
          by_cases hjl : j < ks.length
          · obtain ⟨b2, off2, hb2, hix2, y0, y1, y2⟩ := (KLX.below BQ (Nat.le_refl _)).at j hjl
            have HY : Hid (toldK x.ck ks[j] = true → atM x.ck ks (j + 1) = j) := atM_yes DK.out j hjl
            have HNO : Hid (toldK x.ck ks[j] = false → atM x.ck ks (j + 1) = atM x.ck ks j) := atM_no j hjl
            have HT : Hid (toldK x.ck ks[j] = (ks[j].stream == x.ck.stream && ks[j].ordered == x.ck.ordered && (ks[j].ordered || ks[j].mid == x.ck.mid))) := rfl
            generalize ks[j] = s at *
            obtain ⟨st, mi, o⟩ := s
            simp only at *
            have BQ2 := BQ.trans ((box_below wr (.cells #[.int .i64 st, .int .i64 mi, .bool o] 60)).mono szQ)
            have n2 := fun o => new_at d2 o
            have n3 := fun o => new_at d3 o
            have n6 := fun o => new_at d6 o
            cases e1 : (st == x.ck.stream) with
            | false =>
              have HA : Hid (z = atM x.ck ks (j + 1)) := HZ.out.trans (HNO.out (by rw [HT.out, e1]; rfl)).symm
              clear HY HNO HT
              go_wp2_with fail
              go_roundw
              case rel => exact ⟨j + 1, z, by omega, rfl, by go_num, HA, BQ2⟩
              case measure => simp [intOf]; omega
            | true =>
              cases o with
              | false =>
                cases hco : x.ck.ordered with
                | true =>
                  rw [hco] at d6 n6
                  have HA : Hid (z = atM x.ck ks (j + 1)) := HZ.out.trans (HNO.out (by rw [HT.out, e1, hco]; rfl)).symm
                  clear HY HNO HT
                  go_wp2_with fail
                  go_roundw
                  case rel => exact ⟨j + 1, z, by omega, rfl, by go_num, HA, BQ2⟩
                  case measure => simp [intOf]; omega
                | false =>
                  rw [hco] at d6 n6
                  cases e3 : (mi == x.ck.mid) with
                  | false =>
                    have HA : Hid (z = atM x.ck ks (j + 1)) := HZ.out.trans (HNO.out (by rw [HT.out, e1, hco, e3]; rfl)).symm
                    clear HY HNO HT
                    go_wp2_with fail
                    go_roundw
                    case rel => exact ⟨j + 1, z, by omega, rfl, by go_num, HA, BQ2⟩
                    case measure => simp [intOf]; omega
                  | true =>
                    have HA : Hid (j = atM x.ck ks (j + 1)) := (HY.out (by rw [HT.out, e1, hco, e3]; rfl)).symm
                    clear HY HNO HT
                    go_wp2_with fail
                    go_roundw
                    case rel => exact ⟨j + 1, j, by omega, rfl, by go_num, HA, BQ2⟩
                    case measure => simp [intOf]; omega
              | true =>
                cases hco : x.ck.ordered with
                | false =>
                  rw [hco] at d6 n6
                  have HA : Hid (z = atM x.ck ks (j + 1)) := HZ.out.trans (HNO.out (by rw [HT.out, e1, hco]; rfl)).symm
                  clear HY HNO HT
                  go_wp2_with fail
                  go_roundw
                  case rel => exact ⟨j + 1, z, by omega, rfl, by go_num, HA, BQ2⟩
                  case measure => simp [intOf]; omega
                | true =>
                  rw [hco] at d6 n6
                  have HA : Hid (j = atM x.ck ks (j + 1)) := (HY.out (by rw [HT.out, e1, hco]; rfl)).symm
                  clear HY HNO HT
                  go_wp2_with fail
                  go_roundw
                  case rel => exact ⟨j + 1, j, by omega, rfl, by go_num, HA, BQ2⟩
                  case measure => simp [intOf]; omega
          · have hje : j = ks.length := by omega
            have HZ2 : Hid (z = ks.findIdx (skIs x.ck)) := by show _ = _; rw [HZ.out, hje, atM_all]
            subst hje
            have hzl : z ≤ ks.length := by rw [HZ2.out]; exact List.findIdx_le_length
            have KQ := (KLX.below BQ (Nat.le_refl _)).mono szQ
            have BWQ := BWW.trans (BQ.mono (by omega))
            clear HZ c2 c3 c6 KLX
            by_cases h8 : z = 8
            · have E8 : Hid (pointF cum [] l = (cum + k, ks)) := HPA.out (by rw [← HZ2.out]; exact h8)
              clear HPA HPB HSK DK2 HZ2
              subst h8
              go_wp2_with fail
              go_ret2
              rw [E8.out]
              exact ⟨ak, ck, rfl, KQ, BWQ⟩
            · have EL := HPB.out (by rw [← HZ2.out]; exact h8)
              have E8 : Hid (pointF cum [] l = pointF (cum + (k + 1 : Nat)) (skipF ks x.ck) (l.drop (k + 1))) := EL.1
              have L8 : Hid ((skipF ks x.ck).length ≤ 8) := EL.2
              clear EL HPA HPB
              have h0 : (wr.alloc (.cells #[] 60)).ownsRow wr.heap.size 60 3 (.slice (some ⟨wr.heap.size, 0, none⟩) 0 0) 0 [] := World.ownsRow_lit wr #[] 0 (Nat.le_refl _) (by unfold maxLen; omega) rfl
              have hx : Rw 3 wr.heap.size (wr.alloc (.cells #[] 60)) (.slice ak ks.length ck) ks.length (cellsK ks) := KQ.below (box_below wr (.cells #[] 60)) (Nat.le_refl _)
              have HQ : ∀ v' w1, w1.ownsRow wr.heap.size 60 3 v' (0 + ks.length) ([] ++ cellsK ks) → (wr.alloc (.cells #[] 60)).grownBy w1 (Value.slice (some ⟨wr.heap.size, 0, none⟩) 0 0).ownBlock → w1.ownsRow wr.heap.size 60 3 v' ks.length (cellsK ks) ∧ Below wr.heap.size wr w1 := by
                intro v' w1 o g
                rw [List.nil_append, Nat.zero_add] at o
                exact ⟨o, (box_below wr (.cells #[] 60)).grown g (by simp) (fun k hk => by simp [Value.ownBlock] at hk; omega)⟩
              have g8 : ¬ (z : Int) = 8 := by omega
              by_cases hze : z = ks.length
              · have HS : Hid (skipF ks x.ck = (ks ++ [(⟨0, 0, false⟩ : Sk)]).set ks.length (skOf x.ck)) := by show _ = _; rw [HSK.out, if_neg (by rw [← HZ2.out]; omega)]; simp
                have OL : ∀ w3 : World, Rw 3 (w3.alloc (.cells #[.int .i64 0, .int .i64 0, .bool false] 60)).heap.size (w3.alloc (.cells #[.int .i64 0, .int .i64 0, .bool false] 60)) (.slice (some ⟨w3.heap.size, 0, none⟩) 1 1) 1 [.int .i64 0, .int .i64 0, .bool false] := fun w3 => Rw.own (World.ownsRow_lit w3 #[.int .i64 0, .int .i64 0, .bool false] 1 (e := 60) (size := 3) (base := w3.heap.size) (Nat.le_refl _) (by unfold maxLen; omega) rfl) rfl
                have HQ2 : ∀ (w3 : World) (a3 : Option Addr) (c3 : Nat) (v' : Value) (w4 : World), w3.ownsRow wr.heap.size 60 3 (.slice a3 ks.length c3) ks.length (cellsK ks) → Below wr.heap.size wr w3 → w4.ownsRow wr.heap.size 60 3 v' (ks.length + 1) (cellsK ks ++ [.int .i64 0, .int .i64 0, .bool false]) → (w3.alloc (.cells #[.int .i64 0, .int .i64 0, .bool false] 60)).grownBy w4 (Value.slice a3 ks.length c3).ownBlock → w4.ownsRow wr.heap.size 60 3 v' (ks.length + 1) (cellsK (ks ++ [(⟨0, 0, false⟩ : Sk)])) ∧ Below wr.heap.size wr w4 := by
                  intro w3 a3 c3 v' w4 o3 b3 o g
                  refine ⟨by rw [cellsK_append]; exact o, (b3.alloc b3.size _).grown g (by have := b3.size; simp; omega) (fun k hk => (o3.lt k hk).1)⟩
                clear HSK HZ2
                subst hze
                go_wp2_with (first
                  | (at_builtin; refine wpList_append_rw Try.underlying40 Try.info60 rfl (by decide) _ rfl (.tmp 80) (.tmp 81) rfl wr.heap.size (.slice (some ⟨wr.heap.size, 0, none⟩) 0 0) 0 [] rfl h0 _ ks.length (cellsK ks) _ rfl hx (cellsK_one _) (by unfold maxLen; omega) (by omega) (by simp) ?_; intro v3 w3 own3 grow3 at3; obtain ⟨O3, B3⟩ := HQ _ w3 own3 grow3; obtain ⟨a3, c3, rfl⟩ := own_form O3; clear own3 grow3 at3)
                  | (at_builtin; refine wpList_append_rw Try.underlying40 Try.info60 rfl (by decide) _ rfl (.tmp 87) (.tmp 89) rfl wr.heap.size (.slice a3 ks.length c3) ks.length (cellsK ks) rfl (O3.alloc _) _ 1 [.int .i64 0, .int .i64 0, .bool false] _ rfl (OL w3) (List.all_eq_true.1 rfl) (by unfold maxLen; omega) (by omega) (by have := B3.size; simp; omega) ?_; intro v4 w4 own4 grow4 at4; obtain ⟨O4, B4⟩ := HQ2 w3 a3 c3 _ w4 O3 B3 own4 grow4; obtain ⟨g, cp, rfl, hg1, hcp, hcp2, hixg, q0, q1, q2, r0, r1, r2, ST⟩ := skAt (by simp) O4 ks.length (by simp); have t2 := (B4.cell (p := ⟨N + 1, 2, none⟩) (by show N + 1 < _; omega)).trans d2; have t3 := (B4.cell (p := ⟨N + 1, 3, none⟩) (by show N + 1 < _; omega)).trans d3; have t6 := (B4.cell (p := ⟨N + 1, 6, none⟩) (by show N + 1 < _; omega)).trans d6; clear own4 grow4 at4))
                have OH : Hid _ := ST (skOf x.ck)
                have BF := BWQ.trans (((((B4.setCell (p := ⟨g, ks.length * 3, none⟩) (by show wr.heap.size ≤ g; omega) (.int .i64 x.ck.stream)).setCell (p := ⟨g, ks.length * 3 + 1, none⟩) (by show wr.heap.size ≤ g; omega) (.int .i64 x.ck.mid)).setCell (p := ⟨g, ks.length * 3 + 2, none⟩) (by show wr.heap.size ≤ g; omega) (.bool x.ck.ordered))).mono (by have := BWQ.size; omega))
                have HL : Hid ((skipF ks x.ck).length = ks.length + 1) := by show _ = _; rw [HS.out]; simp
                have KF : Hid (Kl (((w4.setCell ⟨g, ks.length * 3, none⟩ (.int .i64 x.ck.stream)).setCell ⟨g, ks.length * 3 + 1, none⟩ (.int .i64 x.ck.mid)).setCell ⟨g, ks.length * 3 + 2, none⟩ (.bool x.ck.ordered)).heap.size (((w4.setCell ⟨g, ks.length * 3, none⟩ (.int .i64 x.ck.stream)).setCell ⟨g, ks.length * 3 + 1, none⟩ (.int .i64 x.ck.mid)).setCell ⟨g, ks.length * 3 + 2, none⟩ (.bool x.ck.ordered)) (.slice (some ⟨g, 0, none⟩) (skipF ks x.ck).length cp) (skipF ks x.ck)) := by
                  have h := Rw.own OH.out (by rw [cellsK_length]; simp)
                  show Rw 3 _ _ _ _ _
                  rw [HL.out, HS.out]
                  exact h
                go_roundw
                case rel => exact ⟨k + 1, skipF ks x.ck, some ⟨g, 0, none⟩, cp, by omega, by go_num, by go_num, by rw [HL.out], E8, L8.out, DK2, KF.out, BF⟩
                case measure => simp [intOf]; omega
              · have hzlt : z < ks.length := by omega
                have gz : ¬ (z : Int) = (ks.length : Int) := by omega
                have HS : Hid (skipF ks x.ck = ks.set z (skOf x.ck)) := by show _ = _; rw [HSK.out, ← HZ2.out, if_pos hzlt]
                clear HSK HZ2
                go_wp2_with (at_builtin; refine wpList_append_rw Try.underlying40 Try.info60 rfl (by decide) _ rfl (.tmp 80) (.tmp 81) rfl wr.heap.size (.slice (some ⟨wr.heap.size, 0, none⟩) 0 0) 0 [] rfl h0 _ ks.length (cellsK ks) _ rfl hx (cellsK_one _) (by unfold maxLen; omega) (by omega) (by simp) ?_; intro v3 w3 own3 grow3 at3; obtain ⟨O3, B3⟩ := HQ _ w3 own3 grow3; obtain ⟨g, cp, rfl, hg1, hcp, hcp2, hixg, q0, q1, q2, r0, r1, r2, ST⟩ := skAt rfl O3 z hzlt; have t2 := (B3.cell (p := ⟨N + 1, 2, none⟩) (by show N + 1 < _; omega)).trans d2; have t3 := (B3.cell (p := ⟨N + 1, 3, none⟩) (by show N + 1 < _; omega)).trans d3; have t6 := (B3.cell (p := ⟨N + 1, 6, none⟩) (by show N + 1 < _; omega)).trans d6; clear own3 grow3 at3)
                have OH : Hid _ := ST (skOf x.ck)
                have BF := BWQ.trans (((((B3.setCell (p := ⟨g, z * 3, none⟩) (by show wr.heap.size ≤ g; omega) (.int .i64 x.ck.stream)).setCell (p := ⟨g, z * 3 + 1, none⟩) (by show wr.heap.size ≤ g; omega) (.int .i64 x.ck.mid)).setCell (p := ⟨g, z * 3 + 2, none⟩) (by show wr.heap.size ≤ g; omega) (.bool x.ck.ordered))).mono (by have := BWQ.size; omega))
                have HL : Hid ((skipF ks x.ck).length = ks.length) := by show _ = _; rw [HS.out]; simp
                have KF : Hid (Kl (((w3.setCell ⟨g, z * 3, none⟩ (.int .i64 x.ck.stream)).setCell ⟨g, z * 3 + 1, none⟩ (.int .i64 x.ck.mid)).setCell ⟨g, z * 3 + 2, none⟩ (.bool x.ck.ordered)).heap.size (((w3.setCell ⟨g, z * 3, none⟩ (.int .i64 x.ck.stream)).setCell ⟨g, z * 3 + 1, none⟩ (.int .i64 x.ck.mid)).setCell ⟨g, z * 3 + 2, none⟩ (.bool x.ck.ordered)) (.slice (some ⟨g, 0, none⟩) (skipF ks x.ck).length cp) (skipF ks x.ck)) := by
                  have h := Rw.own OH.out (by rw [cellsK_length]; simp)
                  show Rw 3 _ _ _ _ _
                  rw [HL.out, HS.out]
                  exact h
                go_roundw
                case rel => exact ⟨k + 1, skipF ks x.ck, some ⟨g, 0, none⟩, cp, by omega, by go_num, by go_num, by rw [HL.out], E8, L8.out, DK2, KF.out, BF⟩
                case measure => simp [intOf]; omega
      · have h4 : Hid (¬ x.state = 4) := h4'
        have hs4 : (x.state != 4) = true := by simpa [bne] using h4'
        have hs4' : (x.state == 4) = false := by simpa using h4'
        clear h4'
        have KLX : Hid (Kl (wr.alloc (.cells #[.int .i64 x.number, .int .i64 x.id, .int .i64 x.state, .int .i64 x.path, .int .i64 x.missed, .int .i64 x.times, .int .i64 x.came, .int .i64 x.life, .int .i64 x.tries, .int .i64 x.ck.kind, .int .i64 x.ck.tag, .int .i64 x.ck.stream, .int .i64 x.ck.mid, .int .i64 x.ck.part, .bool x.ck.last, .bool x.ck.ordered, .slice da x.ck.data.length dc, .slice sa x.ck.spans.length sc, .int .i64 x.ck.room, .slice qa x.ck.skips.length qc] 53)).heap.size (wr.alloc (.cells #[.int .i64 x.number, .int .i64 x.id, .int .i64 x.state, .int .i64 x.path, .int .i64 x.missed, .int .i64 x.times, .int .i64 x.came, .int .i64 x.life, .int .i64 x.tries, .int .i64 x.ck.kind, .int .i64 x.ck.tag, .int .i64 x.ck.stream, .int .i64 x.ck.mid, .int .i64 x.ck.part, .bool x.ck.last, .bool x.ck.ordered, .slice da x.ck.data.length dc, .slice sa x.ck.spans.length sc, .int .i64 x.ck.room, .slice qa x.ck.skips.length qc] 53)) (.slice ak ks.length ck) ks) := (KLR.below BX (Nat.le_refl _)).mono BX.size
        rcases Classical.em (x.state = 2) with h2' | h2'
        · have hs2 : (x.state != 2) = false := by simp [h2']
          have HE : Hid (pointF cum [] l = pointF (cum + (k + 1 : Nat)) ks (l.drop (k + 1))) := by
            show _ = _
            rw [HD.out, pointF, if_neg h4.out, if_pos h2', HN.out]
            congr 1
            omega
          clear h2' HD HP
          go_wp2_with (first
          | refine wpList_ld rfl (.tmp 18) rfl b off rfl x _ _ _ (by with_reducible exact hat) ?_
          | refine wpList_st rfl (.tmp 8) (.tmp 19) rfl wr _ rfl rfl rfl [.int .i64 x.number, .int .i64 x.id, .int .i64 x.state, .int .i64 x.path, .int .i64 x.missed, .int .i64 x.times, .int .i64 x.came, .int .i64 x.life, .int .i64 x.tries, .int .i64 x.ck.kind, .int .i64 x.ck.tag, .int .i64 x.ck.stream, .int .i64 x.ck.mid, .int .i64 x.ck.part, .bool x.ck.last, .bool x.ck.ordered, .slice da x.ck.data.length dc, .slice sa x.ck.spans.length sc, .int .i64 x.ck.room, .slice qa x.ck.skips.length qc] rfl rfl rfl ?_)
          go_roundw
          case rel => exact ⟨k + 1, ks, ak, ck, by omega, by go_num, by go_num, rfl, HE, hks, DK, KLX.out, BWX⟩
          case measure => simp [intOf]; omega
        · have hs2 : (x.state != 2) = true := by simpa [bne] using h2'
          have HE : Hid (pointF cum [] l = (cum + k, ks)) := by show _ = _; rw [HD.out, pointF, if_neg h4.out, if_neg h2']
          clear h2' HD HP
          go_wp2_with (first
          | refine wpList_ld rfl (.tmp 18) rfl b off rfl x _ _ _ (by with_reducible exact hat) ?_
          | refine wpList_st rfl (.tmp 8) (.tmp 19) rfl wr _ rfl rfl rfl [.int .i64 x.number, .int .i64 x.id, .int .i64 x.state, .int .i64 x.path, .int .i64 x.missed, .int .i64 x.times, .int .i64 x.came, .int .i64 x.life, .int .i64 x.tries, .int .i64 x.ck.kind, .int .i64 x.ck.tag, .int .i64 x.ck.stream, .int .i64 x.ck.mid, .int .i64 x.ck.part, .bool x.ck.last, .bool x.ck.ordered, .slice da x.ck.data.length dc, .slice sa x.ck.spans.length sc, .int .i64 x.ck.room, .slice qa x.ck.skips.length qc] rfl rfl rfl ?_)
          go_ret2
          rw [HE.out]
          exact ⟨ak, ck, rfl, KLX.out, BWX⟩
    · have hkl : k = l.length := by omega
      subst hkl
      have HE : Hid (pointF cum [] l = (cum + (l.length : Nat), ks)) := by show _ = _; rw [HP.out, List.drop_length]; rfl
      clear HP
      go_wp2_with fail
      go_ret2
      rw [HE.out]
      exact ⟨ak, ck, rfl, KLR, BR⟩
end Go.Proofs.Ytnddejdndipddac
