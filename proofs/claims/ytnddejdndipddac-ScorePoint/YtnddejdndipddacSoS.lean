/- ScorePoint's walk. -/
import Derived.Test.YtnddejdndipddacSoR
set_option maxRecDepth 20000
namespace Go.Proofs.Ytnddejdndipddac
open Go.RowKit

def toldB (c : Ck) (k : Sk) : Bool := k.stream == c.stream && k.ordered == c.ordered && (k.ordered || k.mid == c.mid)
theorem toldB_of {c : Ck} {k : Sk} (h : toldM c k) : toldB c k = true := by
  obtain ⟨h1, h2, h3⟩ := h
  simp only [toldB, Bool.and_eq_true, Bool.or_eq_true, beq_iff_eq]
  exact ⟨⟨h1, h2⟩, h3⟩
theorem any_snoc {α : Type} (f : α → Bool) (l : List α) (j : Nat) (h : j < l.length) : (l.take (j + 1)).any f = ((l.take j).any f || f l[j]) := by
  rw [List.take_succ_eq_append_getElem h, List.any_append]; simp

set_option maxHeartbeats 4000000 in
theorem scorePoint_walk (v : Value) (l : List Sn) (cum : Int) (w : World) (hv : SnS w.heap.size w v l) (hlen : l.length * 200 ≤ 140737488351232) :
    Calls Try.prog 8 #[v, .int .i64 cum] w fun e w' => e = .returned (.bool true) ∧ Below w.heap.size w w' := by
  have HV := hv
  obtain ⟨a, cap, rfl, h1, h2⟩ := hv.ex
  go_enter Try.func8, Try.ntmps8
  go_wp2_with fail
  refine (alive_any _).mono ?_
  rintro e w1 ⟨rfl, b1⟩
  have RA := right_any _ l cum 2 w1 (SlG.size SnV.bears HV b1 (Nat.le_refl _)) hlen
  go_wp2_with fail
  refine RA.mono ?_
  rintro e w2 ⟨⟨r, rfl, hr⟩, b2⟩
  have B2 := b1.trans (b2.mono b1.size)
  cases r with
  | false =>
    clear RA hr
    go_wp2_with fail
    go_ret
    exact ⟨rfl, B2⟩
  | true =>
    have R := hr rfl
    obtain ⟨p1, p2, p3, -, p5⟩ := point_told l cum [] R.ris (by simp)
    have q1 := R.c1
    have q2 := R.c2
    have PO := point_any _ l cum w2 (SlG.size SnV.bears HV B2 (Nat.le_refl _))
    have HP5 : Hid (∀ s ∈ l, s.number ≤ (pointF cum [] l).1 → s.state = 2 ∨ (s.state = 4 ∧ ∃ k ∈ (pointF cum [] l).2, toldM s.ck k)) := p5
    clear RA hr p5 R
    generalize (pointF cum [] l).1 = n at *
    generalize (pointF cum [] l).2 = ks at *
    go_wp2_with fail
    refine PO.mono ?_
    rintro e w3 ⟨ak, ck, rfl, KK, b3⟩
    have B3 := B2.trans (b3.mono B2.size)
    have KL : Hid (Kl w3.heap.size w3 (.slice ak ks.length ck) ks) := KK
    have g1 : decide (n < cum) = false := decide_eq_false (by omega)
    have g2 : ¬ n < cum := by omega
    have g3 : ¬ n > cum + (l.length : Int) := by omega
    have g4 : ¬ (ks.length : Int) > 8 := by omega
    clear PO KK
    go_wp2_with fail
    go_loopw [42] (fun i wr => ∃ k : Nat, k ≤ l.length ∧ i = .int .i64 k ∧ Below w3.heap.size w3 wr) (fun i _ => l.length - (intOf i).toNat)
    case atStart => exact ⟨0, Nat.zero_le _, rfl, Below.refl _ _⟩
    case round =>
      obtain ⟨k, hk, rfl, BR⟩ := hrel
      have BW := B3.trans (BR.mono B3.size)
      by_cases hlt : k < l.length
      · obtain ⟨b, off, da, dc, sa, sc, qa, qc, hb, hix, -, -, -, hat⟩ := SnS.at (SlG.below SnV.bears HV BW (Nat.le_refl _)) k hlt
        have HX : Hid (l[k].number ≤ n → l[k].state = 2 ∨ (l[k].state = 4 ∧ ∃ k' ∈ ks, toldM l[k].ck k')) := fun h => HP5.out _ (List.getElem_mem hlt) h
        generalize l[k] = x at *
        have bX := box_below wr (.cells #[.int .i64 x.number, .int .i64 x.id, .int .i64 x.state, .int .i64 x.path, .int .i64 x.missed, .int .i64 x.times, .int .i64 x.came, .int .i64 x.life, .int .i64 x.tries, .int .i64 x.ck.kind, .int .i64 x.ck.tag, .int .i64 x.ck.stream, .int .i64 x.ck.mid, .int .i64 x.ck.part, .bool x.ck.last, .bool x.ck.ordered, .slice da x.ck.data.length dc, .slice sa x.ck.spans.length sc, .int .i64 x.ck.room, .slice qa x.ck.skips.length qc] 53)
        have BX : Below w3.heap.size w3 (wr.alloc (.cells #[.int .i64 x.number, .int .i64 x.id, .int .i64 x.state, .int .i64 x.path, .int .i64 x.missed, .int .i64 x.times, .int .i64 x.came, .int .i64 x.life, .int .i64 x.tries, .int .i64 x.ck.kind, .int .i64 x.ck.tag, .int .i64 x.ck.stream, .int .i64 x.ck.mid, .int .i64 x.ck.part, .bool x.ck.last, .bool x.ck.ordered, .slice da x.ck.data.length dc, .slice sa x.ck.spans.length sc, .int .i64 x.ck.room, .slice qa x.ck.skips.length qc] 53)) := BR.trans (bX.mono BR.size)
        have BWX := B3.trans (BX.mono B3.size)
        by_cases hn : x.number > n
        · go_wp2_with (first
            | refine wpList_ld rfl (.tmp 44) rfl b off rfl x _ _ _ (by with_reducible exact hat) ?_
            | refine wpList_st rfl (.tmp 8) (.tmp 45) rfl wr _ rfl rfl rfl [.int .i64 x.number, .int .i64 x.id, .int .i64 x.state, .int .i64 x.path, .int .i64 x.missed, .int .i64 x.times, .int .i64 x.came, .int .i64 x.life, .int .i64 x.tries, .int .i64 x.ck.kind, .int .i64 x.ck.tag, .int .i64 x.ck.stream, .int .i64 x.ck.mid, .int .i64 x.ck.part, .bool x.ck.last, .bool x.ck.ordered, .slice da x.ck.data.length dc, .slice sa x.ck.spans.length sc, .int .i64 x.ck.room, .slice qa x.ck.skips.length qc] rfl rfl rfl ?_)
          go_ret
          exact ⟨rfl, BWX⟩
        · have HS := HX.out (by omega)
          have hst : Hid ((x.state == 2) = true ∨ (x.state == 4) = true) := by rcases HS with h | h; exact .inl (by simpa using h); exact .inr (by simpa using h.1)
          have HFIN : Hid (((x.state == 2) || ks.any (toldB x.ck)) = true) := by
            show _ = _
            rcases HS with h | ⟨_, k', hk', ht⟩
            · simp [h]
            · rw [Bool.or_eq_true]; exact .inr (List.any_eq_true.2 ⟨k', hk', toldB_of ht⟩)
          have hs4 : (x.state != 4) = true → (x.state != 2) = false := fun h => by
            rcases hst.out with h' | h'
            · simpa [bne] using h'
            · rw [bne, h'] at h; simp at h
          have AX := SnAt.new wr x (.slice da x.ck.data.length dc) (.slice sa x.ck.spans.length sc) (.slice qa x.ck.skips.length qc)
          have szX : (wr.alloc (.cells #[.int .i64 x.number, .int .i64 x.id, .int .i64 x.state, .int .i64 x.path, .int .i64 x.missed, .int .i64 x.times, .int .i64 x.came, .int .i64 x.life, .int .i64 x.tries, .int .i64 x.ck.kind, .int .i64 x.ck.tag, .int .i64 x.ck.stream, .int .i64 x.ck.mid, .int .i64 x.ck.part, .bool x.ck.last, .bool x.ck.ordered, .slice da x.ck.data.length dc, .slice sa x.ck.spans.length sc, .int .i64 x.ck.room, .slice qa x.ck.skips.length qc] 53)).heap.size = wr.heap.size + 1 := by simp
          clear HS HX
          -- the skips
          cases h4 : (x.state != 4) with
          | true =>
            have h2' := hs4 h4
            clear hs4
            go_wp2_with (first
              | refine wpList_ld rfl (.tmp 44) rfl b off rfl x _ _ _ (by with_reducible exact hat) ?_
              | refine wpList_st rfl (.tmp 8) (.tmp 45) rfl wr _ rfl rfl rfl [.int .i64 x.number, .int .i64 x.id, .int .i64 x.state, .int .i64 x.path, .int .i64 x.missed, .int .i64 x.times, .int .i64 x.came, .int .i64 x.life, .int .i64 x.tries, .int .i64 x.ck.kind, .int .i64 x.ck.tag, .int .i64 x.ck.stream, .int .i64 x.ck.mid, .int .i64 x.ck.part, .bool x.ck.last, .bool x.ck.ordered, .slice da x.ck.data.length dc, .slice sa x.ck.spans.length sc, .int .i64 x.ck.room, .slice qa x.ck.skips.length qc] rfl rfl rfl ?_)
            generalize (wr.alloc (.cells #[.int .i64 x.number, .int .i64 x.id, .int .i64 x.state, .int .i64 x.path, .int .i64 x.missed, .int .i64 x.times, .int .i64 x.came, .int .i64 x.life, .int .i64 x.tries, .int .i64 x.ck.kind, .int .i64 x.ck.tag, .int .i64 x.ck.stream, .int .i64 x.ck.mid, .int .i64 x.ck.part, .bool x.ck.last, .bool x.ck.ordered, .slice da x.ck.data.length dc, .slice sa x.ck.spans.length sc, .int .i64 x.ck.room, .slice qa x.ck.skips.length qc] 53)) = wx at *
            generalize wr.heap.size = X8 at *
            go_loopw [9, 63] (fun t i wy => ∃ j : Nat, j ≤ ks.length ∧ i = .int .i64 j ∧ t = .bool ((x.state == 2) || (ks.take j).any (toldB x.ck)) ∧ Below wx.heap.size wx wy) (fun _ i _ => ks.length - (intOf i).toNat)
            case atStart => exact ⟨0, Nat.zero_le _, rfl, by simp, Below.refl _ _⟩
            case round =>
              obtain ⟨j, hj, rfl, rfl, BY⟩ := hrel
              have BXY := BX.trans (BY.mono BX.size)
              by_cases hjl : j < ks.length
              · obtain ⟨kb, ko, hkb, hkx, k0, k1, k2⟩ := (KL.out.below BXY (Nat.le_refl _)).at j hjl
                have HA : Hid (((x.state == 2) || (ks.take (j + 1)).any (toldB x.ck)) = (((x.state == 2) || (ks.take j).any (toldB x.ck)) || toldB x.ck ks[j])) := by show _ = _; rw [any_snoc _ _ _ hjl, Bool.or_assoc]
                have HT : Hid (toldB x.ck ks[j] = (ks[j].stream == x.ck.stream && ks[j].ordered == x.ck.ordered && (ks[j].ordered || ks[j].mid == x.ck.mid))) := rfl
                generalize ks[j] = sk at *
                generalize ((x.state == 2) || (ks.take j).any (toldB x.ck)) = t at *
                have ay := AX.below BY (by omega)
                have c11 := ay.2.2.2.2.2.2.2.2.2.2.2.1
                have c12 := ay.2.2.2.2.2.2.2.2.2.2.2.2.1
                have c15 := ay.2.2.2.2.2.2.2.2.2.2.2.2.2.2.2.1
                simp only [Nat.zero_add] at c11 c12 c15
                have d11 := fun o => new_at c11 o
                have d12 := fun o => new_at c12 o
                have d15 := fun o => new_at c15 o
                have BZ : ∀ o, Below wx.heap.size wx (wr.alloc o) := fun o => BY.alloc BY.size o
                obtain ⟨kst, kmi, kor⟩ := sk
                simp only at *
                clear ay AX
                cases t with
                | true =>
                  go_wp2_with fail
                  go_roundw
                  case rel => exact ⟨j + 1, by omega, by go_num, by rw [HA.out]; rfl, BZ _⟩
                  case measure => simp [intOf]; omega
                | false =>
                  cases e1 : (kst == x.ck.stream) with
                  | false =>
                    have HF : Hid (toldB x.ck ⟨kst, kmi, kor⟩ = false) := by show _ = _; rw [HT.out, e1]; rfl
                    go_wp2_with fail
                    go_roundw
                    case rel => exact ⟨j + 1, by omega, by go_num, by rw [HA.out, HF.out]; rfl, BZ _⟩
                    case measure => simp [intOf]; omega
                  | true =>
                    cases e2 : (kor == x.ck.ordered) with
                    | false =>
                      have HF : Hid (toldB x.ck ⟨kst, kmi, kor⟩ = false) := by show _ = _; rw [HT.out, e1, e2]; rfl
                      go_wp2_with fail
                      go_roundw
                      case rel => exact ⟨j + 1, by omega, by go_num, by rw [HA.out, HF.out]; rfl, BZ _⟩
                      case measure => simp [intOf]; omega
                    | true =>
                      cases hk3 : kor with
                      | true =>
                        have HF : Hid (toldB x.ck ⟨kst, kmi, true⟩ = true) := by show _ = _; rw [← hk3, HT.out, e1, e2, hk3]; rfl
                        rw [hk3] at k2 e2 HA
                        go_wp2_with fail
                        go_roundw
                        case rel => exact ⟨j + 1, by omega, by go_num, by rw [HA.out, HF.out]; rfl, BZ _⟩
                        case measure => simp [intOf]; omega
                      | false =>
                        have HF : Hid (toldB x.ck ⟨kst, kmi, false⟩ = (kmi == x.ck.mid)) := by show _ = _; rw [← hk3, HT.out, e1, e2, hk3]; rfl
                        rw [hk3] at k2 e2 HA
                        go_wp2_with fail
                        go_roundw
                        case rel => exact ⟨j + 1, by omega, by go_num, by rw [HA.out, HF.out]; rfl, BZ _⟩
                        case measure => simp [intOf]; omega
              · have hje : j = ks.length := by omega
                subst hje
                rw [List.take_of_length_le (Nat.le_refl _), HFIN.out]
                go_wp2_with fail
                go_roundw
                case rel => exact ⟨k + 1, by omega, by go_num, BXY⟩
                case measure => simp [intOf]; omega
          | false =>
            clear hs4
            go_wp2_with (first
              | refine wpList_ld rfl (.tmp 44) rfl b off rfl x _ _ _ (by with_reducible exact hat) ?_
              | refine wpList_st rfl (.tmp 8) (.tmp 45) rfl wr _ rfl rfl rfl [.int .i64 x.number, .int .i64 x.id, .int .i64 x.state, .int .i64 x.path, .int .i64 x.missed, .int .i64 x.times, .int .i64 x.came, .int .i64 x.life, .int .i64 x.tries, .int .i64 x.ck.kind, .int .i64 x.ck.tag, .int .i64 x.ck.stream, .int .i64 x.ck.mid, .int .i64 x.ck.part, .bool x.ck.last, .bool x.ck.ordered, .slice da x.ck.data.length dc, .slice sa x.ck.spans.length sc, .int .i64 x.ck.room, .slice qa x.ck.skips.length qc] rfl rfl rfl ?_)
            generalize (wr.alloc (.cells #[.int .i64 x.number, .int .i64 x.id, .int .i64 x.state, .int .i64 x.path, .int .i64 x.missed, .int .i64 x.times, .int .i64 x.came, .int .i64 x.life, .int .i64 x.tries, .int .i64 x.ck.kind, .int .i64 x.ck.tag, .int .i64 x.ck.stream, .int .i64 x.ck.mid, .int .i64 x.ck.part, .bool x.ck.last, .bool x.ck.ordered, .slice da x.ck.data.length dc, .slice sa x.ck.spans.length sc, .int .i64 x.ck.room, .slice qa x.ck.skips.length qc] 53)) = wx at *
            generalize wr.heap.size = X8 at *
            go_loopw [9, 63] (fun t i wy => ∃ j : Nat, j ≤ ks.length ∧ i = .int .i64 j ∧ t = .bool ((x.state == 2) || (ks.take j).any (toldB x.ck)) ∧ Below wx.heap.size wx wy) (fun _ i _ => ks.length - (intOf i).toNat)
            case atStart => exact ⟨0, Nat.zero_le _, rfl, by simp, Below.refl _ _⟩
            case round =>
              obtain ⟨j, hj, rfl, rfl, BY⟩ := hrel
              have BXY := BX.trans (BY.mono BX.size)
              by_cases hjl : j < ks.length
              · obtain ⟨kb, ko, hkb, hkx, k0, k1, k2⟩ := (KL.out.below BXY (Nat.le_refl _)).at j hjl
                have HA : Hid (((x.state == 2) || (ks.take (j + 1)).any (toldB x.ck)) = (((x.state == 2) || (ks.take j).any (toldB x.ck)) || toldB x.ck ks[j])) := by show _ = _; rw [any_snoc _ _ _ hjl, Bool.or_assoc]
                have HT : Hid (toldB x.ck ks[j] = (ks[j].stream == x.ck.stream && ks[j].ordered == x.ck.ordered && (ks[j].ordered || ks[j].mid == x.ck.mid))) := rfl
                generalize ks[j] = sk at *
                generalize ((x.state == 2) || (ks.take j).any (toldB x.ck)) = t at *
                have ay := AX.below BY (by omega)
                have c11 := ay.2.2.2.2.2.2.2.2.2.2.2.1
                have c12 := ay.2.2.2.2.2.2.2.2.2.2.2.2.1
                have c15 := ay.2.2.2.2.2.2.2.2.2.2.2.2.2.2.2.1
                simp only [Nat.zero_add] at c11 c12 c15
                have d11 := fun o => new_at c11 o
                have d12 := fun o => new_at c12 o
                have d15 := fun o => new_at c15 o
                have BZ : ∀ o, Below wx.heap.size wx (wr.alloc o) := fun o => BY.alloc BY.size o
                obtain ⟨kst, kmi, kor⟩ := sk
                simp only at *
                clear ay AX
                cases t with
                | true =>
                  go_wp2_with fail
                  go_roundw
                  case rel => exact ⟨j + 1, by omega, by go_num, by rw [HA.out]; rfl, BZ _⟩
                  case measure => simp [intOf]; omega
                | false =>
                  cases e1 : (kst == x.ck.stream) with
                  | false =>
                    have HF : Hid (toldB x.ck ⟨kst, kmi, kor⟩ = false) := by show _ = _; rw [HT.out, e1]; rfl
                    go_wp2_with fail
                    go_roundw
                    case rel => exact ⟨j + 1, by omega, by go_num, by rw [HA.out, HF.out]; rfl, BZ _⟩
                    case measure => simp [intOf]; omega
                  | true =>
                    cases e2 : (kor == x.ck.ordered) with
                    | false =>
                      have HF : Hid (toldB x.ck ⟨kst, kmi, kor⟩ = false) := by show _ = _; rw [HT.out, e1, e2]; rfl
                      go_wp2_with fail
                      go_roundw
                      case rel => exact ⟨j + 1, by omega, by go_num, by rw [HA.out, HF.out]; rfl, BZ _⟩
                      case measure => simp [intOf]; omega
                    | true =>
                      cases hk3 : kor with
                      | true =>
                        have HF : Hid (toldB x.ck ⟨kst, kmi, true⟩ = true) := by show _ = _; rw [← hk3, HT.out, e1, e2, hk3]; rfl
                        rw [hk3] at k2 e2 HA
                        go_wp2_with fail
                        go_roundw
                        case rel => exact ⟨j + 1, by omega, by go_num, by rw [HA.out, HF.out]; rfl, BZ _⟩
                        case measure => simp [intOf]; omega
                      | false =>
                        have HF : Hid (toldB x.ck ⟨kst, kmi, false⟩ = (kmi == x.ck.mid)) := by show _ = _; rw [← hk3, HT.out, e1, e2, hk3]; rfl
                        rw [hk3] at k2 e2 HA
                        go_wp2_with fail
                        go_roundw
                        case rel => exact ⟨j + 1, by omega, by go_num, by rw [HA.out, HF.out]; rfl, BZ _⟩
                        case measure => simp [intOf]; omega
              · have hje : j = ks.length := by omega
                subst hje
                rw [List.take_of_length_le (Nat.le_refl _), HFIN.out]
                go_wp2_with fail
                go_roundw
                case rel => exact ⟨k + 1, by omega, by go_num, BXY⟩
                case measure => simp [intOf]; omega
      · go_wp2_with fail
        go_ret
        exact ⟨rfl, BW⟩
end Go.Proofs.Ytnddejdndipddac
