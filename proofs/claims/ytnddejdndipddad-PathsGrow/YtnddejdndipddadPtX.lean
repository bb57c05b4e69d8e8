/- The walk of PathsGrow. -/
import Derived.Test.YtnddejdndipddadPtV
set_option maxRecDepth 20000
namespace Go.Proofs.Ytnddejdndipddad
open Go.RowKit

set_option maxHeartbeats 4000000 in
theorem pgrow_walk (n : Int) (v : Value) (l : List Int) (w : World) (hv : In w.heap.size w v l) : Calls Try.prog 4 #[.int .i64 n, v] w fun e w' => e = .returned (.bool true) ∧ Below w.heap.size w w' := by
  have AL := aliveP_any
  have HV := hv
  obtain ⟨a, cap, rfl, hc1, hc2⟩ := hv.ex
  go_enter Try.func4, Try.ntmps4
  go_wp2_with fail
  refine (AL _).mono ?_
  rintro e w1 ⟨rfl, b1⟩
  by_cases h1 : n < 1
  · go_wp2_with fail
    go_ret
    exact ⟨rfl, b1⟩
  by_cases h2 : n > 16
  · go_wp2_with fail
    go_ret
    exact ⟨rfl, b1⟩
  by_cases h3 : (l.length : Int) > 1000
  · go_wp2_with fail
    go_ret
    exact ⟨rfl, b1⟩
  have hn1 : 1 ≤ n := by omega
  have hn2 : n ≤ 16 := by omega
  have hl1 : l.length ≤ 1000 := by omega
  have NW := fun wx => newP_any n wx hn1 hn2
  have W0 := GrowOk.new hn1 hn2
  generalize newP n = p0 at *
  obtain ⟨window, slow, part, flight, errors, alarm, wait⟩ := p0
  simp only [ptVal] at NW
  go_wp2_with fail
  refine (NW _).mono ?_
  rintro e w2 ⟨rfl, b2⟩
  have B2 := (b1.trans (b2.mono b1.size)).alloc (b1.trans (b2.mono b1.size)).size (.cells #[.int .i64 window, .int .i64 slow, .int .i64 part, .int .i64 flight, .int .i64 errors, .int .i64 alarm, .int .i64 wait] 23)
  have C2 : PtAt w2.heap.size (w2.alloc (.cells #[.int .i64 window, .int .i64 slow, .int .i64 part, .int .i64 flight, .int .i64 errors, .int .i64 alarm, .int .i64 wait] 23)) ⟨window, slow, part, flight, errors, alarm, wait⟩ := PtAt.new w2 ⟨window, slow, part, flight, errors, alarm, wait⟩
  have hX : w.heap.size ≤ w2.heap.size := (b1.trans (b2.mono b1.size)).size
  have l2 : w2.heap.size < (w2.alloc (.cells #[.int .i64 window, .int .i64 slow, .int .i64 part, .int .i64 flight, .int .i64 errors, .int .i64 alarm, .int .i64 wait] 23)).heap.size := by simp
  go_wp2_with fail
  generalize (w2.alloc (.cells #[.int .i64 window, .int .i64 slow, .int .i64 part, .int .i64 flight, .int .i64 errors, .int .i64 alarm, .int .i64 wait] 23)) = w3 at *
  clear NW b2 AL
  generalize w2.heap.size = X at *
  go_loopw [26] (fun i wr => ∃ (k : Nat) (p : Pt), k ≤ l.length ∧ i = .int .i64 k ∧ GrowOk n k p ∧ PtAt X wr p ∧ X < wr.heap.size ∧ Below w.heap.size w wr) (fun i _ => l.length - (intOf i).toNat)
  case atStart => exact ⟨0, ⟨window, slow, part, flight, errors, alarm, wait⟩, Nat.zero_le _, rfl, W0, C2, l2, B2⟩
  case round =>
    obtain ⟨k, p, hk, rfl, WO, CR, lR, BR⟩ := hrel
    clear W0 C2 l2 B2
    by_cases hlt : k < l.length
    · obtain ⟨b, off, hb, hix, x0⟩ := (HV.below BR (Nat.le_refl _)).at k hlt
      generalize l[k] = z at *
      have BQ := BR.alloc BR.size (.cells #[.int .i64 p.window, .int .i64 p.slow, .int .i64 p.part, .int .i64 p.flight, .int .i64 p.errors, .int .i64 p.alarm, .int .i64 p.wait] 23)
      have CX := CR.below (box_below wr (.cells #[.int .i64 p.window, .int .i64 p.slow, .int .i64 p.part, .int .i64 p.flight, .int .i64 p.errors, .int .i64 p.alarm, .int .i64 p.wait] 23)) lR
      have CY := PtAt.new wr p
      have lX : X < (wr.alloc (.cells #[.int .i64 p.window, .int .i64 p.slow, .int .i64 p.part, .int .i64 p.flight, .int .i64 p.errors, .int .i64 p.alarm, .int .i64 p.wait] 23)).heap.size := by simp; omega
      have lY : wr.heap.size < (wr.alloc (.cells #[.int .i64 p.window, .int .i64 p.slow, .int .i64 p.part, .int .i64 p.flight, .int .i64 p.errors, .int .i64 p.alarm, .int .i64 p.wait] 23)).heap.size := by simp
      have nXY : X ≠ wr.heap.size := by omega
      have hY : w.heap.size ≤ wr.heap.size := BR.size
      have OK := WO.ok hn1 (by omega)
      have hw0 : 0 ≤ p.window := OK.w0
      have hw1 : p.window ≤ 10000000 := OK.w1
      obtain ⟨c0, c1, c4, c6⟩ := CR.c7
      obtain ⟨y0, y1, y4, y6⟩ := CX.c7
      obtain ⟨v0, v1, v4, v6⟩ := CY.c7
      clear BR lR
      cases z1 : (z == -1) with
      | true =>
        obtain rfl : z = -1 := by simpa using z1
        obtain ⟨WN, hh1, hh2⟩ := WO.halved hn1 hn2
        by_cases hm : 4 * n < p.window
        · have hM : min p.window (4 * n) = 4 * n := by omega
          rw [hM] at hh2
          clear hM
          have LA := halved_any p n (wr.alloc (.cells #[.int .i64 p.window, .int .i64 p.slow, .int .i64 p.part, .int .i64 p.flight, .int .i64 p.errors, .int .i64 p.alarm, .int .i64 p.wait] 23)) OK.w0 OK.w1 hn1 hn2
          generalize halvedP p n = q at *
          have hq1 : n ≤ q.window := WN.w0
          have hq2 : 4 * n ≤ q.slow := WN.s0
          have WN' : Hid (GrowOk n (k + 1) q) := WN
          clear WN WO
          simp only [ptVal] at LA
          go_wp2_with (first
            | refine wpList_ldP rfl (.tmp 5) rfl X rfl p (by with_reducible exact CR) ?_
            | refine wpList_ldP rfl (.tmp 5) rfl X rfl p (by with_reducible exact CX) ?_)
          generalize (wr.alloc (.cells #[.int .i64 p.window, .int .i64 p.slow, .int .i64 p.part, .int .i64 p.flight, .int .i64 p.errors, .int .i64 p.alarm, .int .i64 p.wait] 23)) = w4 at *
          generalize wr.heap.size = Y at *
          refine LA.mono ?_
          rintro e w5 ⟨rfl, b5⟩
          have B5 := BQ.trans (b5.mono BQ.size)
          have C5 := CX.below b5 lX
          have D5 := CY.below b5 lY
          have l5 : X < w5.heap.size := Nat.lt_of_lt_of_le lX b5.size
          clear LA CX CY CR x0 y0 y1 y4 y6 c0 c1 c4 c6 BQ b5
          dsimp only
          rename_i K9 aK9
          refine aK9 _ _ ?_
          refine wpList_stP rfl (.tmp 8) (.tmp 36) rfl Y rfl q rfl p D5 ?_
          intro w6 D6 K6 S6
          have C6 := C5.past K6 nXY
          have B6 := K6.past_below B5 hY
          have l6 : X < w6.heap.size := by rw [S6]; exact l5
          obtain ⟨y0, y1, y4, y6⟩ := C6.c7
          obtain ⟨z0, z1, z4, z6⟩ := D6.c7
          clear C5 D5 K6 S6 B5 l5
          go_wp2_with (first
            | refine wpList_ldP rfl (.tmp 8) rfl Y rfl q (by with_reducible exact D6) ?_
            | (refine wpList_stP rfl (.tmp 5) (.tmp 103) rfl X rfl q rfl p (by with_reducible exact C6) ?_; intro w7 C7 K7 S7; have B7 := K7.past_below B6 hX; have l7 : X < w7.heap.size := by (rw [S7]; exact l6)))
          go_roundw
          case rel => exact ⟨k + 1, q, by omega, by go_num, WN'.out, C7, l7, B7⟩
          case measure => simp [intOf]; omega
        · have hM : min p.window (4 * n) = p.window := by omega
          rw [hM] at hh2
          clear hM
          have LA := halved_any p n (wr.alloc (.cells #[.int .i64 p.window, .int .i64 p.slow, .int .i64 p.part, .int .i64 p.flight, .int .i64 p.errors, .int .i64 p.alarm, .int .i64 p.wait] 23)) OK.w0 OK.w1 hn1 hn2
          generalize halvedP p n = q at *
          have hq1 : n ≤ q.window := WN.w0
          have hq2 : 4 * n ≤ q.slow := WN.s0
          have WN' : Hid (GrowOk n (k + 1) q) := WN
          clear WN WO
          simp only [ptVal] at LA
          go_wp2_with (first
            | refine wpList_ldP rfl (.tmp 5) rfl X rfl p (by with_reducible exact CR) ?_
            | refine wpList_ldP rfl (.tmp 5) rfl X rfl p (by with_reducible exact CX) ?_)
          generalize (wr.alloc (.cells #[.int .i64 p.window, .int .i64 p.slow, .int .i64 p.part, .int .i64 p.flight, .int .i64 p.errors, .int .i64 p.alarm, .int .i64 p.wait] 23)) = w4 at *
          generalize wr.heap.size = Y at *
          refine LA.mono ?_
          rintro e w5 ⟨rfl, b5⟩
          have B5 := BQ.trans (b5.mono BQ.size)
          have C5 := CX.below b5 lX
          have D5 := CY.below b5 lY
          have l5 : X < w5.heap.size := Nat.lt_of_lt_of_le lX b5.size
          clear LA CX CY CR x0 y0 y1 y4 y6 c0 c1 c4 c6 BQ b5
          dsimp only
          rename_i K9 aK9
          refine aK9 _ _ ?_
          refine wpList_stP rfl (.tmp 8) (.tmp 36) rfl Y rfl q rfl p D5 ?_
          intro w6 D6 K6 S6
          have C6 := C5.past K6 nXY
          have B6 := K6.past_below B5 hY
          have l6 : X < w6.heap.size := by rw [S6]; exact l5
          obtain ⟨y0, y1, y4, y6⟩ := C6.c7
          obtain ⟨z0, z1, z4, z6⟩ := D6.c7
          clear C5 D5 K6 S6 B5 l5
          go_wp2_with (first
            | refine wpList_ldP rfl (.tmp 8) rfl Y rfl q (by with_reducible exact D6) ?_
            | (refine wpList_stP rfl (.tmp 5) (.tmp 103) rfl X rfl q rfl p (by with_reducible exact C6) ?_; intro w7 C7 K7 S7; have B7 := K7.past_below B6 hX; have l7 : X < w7.heap.size := by (rw [S7]; exact l6)))
          go_roundw
          case rel => exact ⟨k + 1, q, by omega, by go_num, WN'.out, C7, l7, B7⟩
          case measure => simp [intOf]; omega
      | false =>
      cases z2 : (z == -2) with
      | true =>
        obtain rfl : z = -2 := by simpa using z2
        have WN := WO.late (n := n)
        have hh1 : (lateP p n).window = n := rfl
        have LA := late_any p n (wr.alloc (.cells #[.int .i64 p.window, .int .i64 p.slow, .int .i64 p.part, .int .i64 p.flight, .int .i64 p.errors, .int .i64 p.alarm, .int .i64 p.wait] 23)) OK hn1 hn2
        generalize lateP p n = q at *
        have hq1 : n ≤ q.window := WN.w0
        have hq2 : 4 * n ≤ q.slow := WN.s0
        have WN' : Hid (GrowOk n (k + 1) q) := WN
        clear WN WO
        simp only [ptVal] at LA
        go_wp2_with (first
          | refine wpList_ldP rfl (.tmp 5) rfl X rfl p (by with_reducible exact CR) ?_
          | refine wpList_ldP rfl (.tmp 5) rfl X rfl p (by with_reducible exact CX) ?_)
        generalize (wr.alloc (.cells #[.int .i64 p.window, .int .i64 p.slow, .int .i64 p.part, .int .i64 p.flight, .int .i64 p.errors, .int .i64 p.alarm, .int .i64 p.wait] 23)) = w4 at *
        generalize wr.heap.size = Y at *
        refine LA.mono ?_
        rintro e w5 ⟨rfl, b5⟩
        have B5 := BQ.trans (b5.mono BQ.size)
        have C5 := CX.below b5 lX
        have D5 := CY.below b5 lY
        have l5 : X < w5.heap.size := Nat.lt_of_lt_of_le lX b5.size
        clear LA CX CY CR x0 y0 y1 y4 y6 c0 c1 c4 c6 BQ b5
        dsimp only
        rename_i K9 aK9
        refine aK9 _ _ ?_
        refine wpList_stP rfl (.tmp 8) (.tmp 57) rfl Y rfl q rfl p D5 ?_
        intro w6 D6 K6 S6
        have C6 := C5.past K6 nXY
        have B6 := K6.past_below B5 hY
        have l6 : X < w6.heap.size := by rw [S6]; exact l5
        obtain ⟨y0, y1, y4, y6⟩ := C6.c7
        obtain ⟨z0, z1, z4, z6⟩ := D6.c7
        clear C5 D5 K6 S6 B5 l5
        go_wp2_with (first
          | refine wpList_ldP rfl (.tmp 8) rfl Y rfl q (by with_reducible exact D6) ?_
          | (refine wpList_stP rfl (.tmp 5) (.tmp 103) rfl X rfl q rfl p (by with_reducible exact C6) ?_; intro w7 C7 K7 S7; have B7 := K7.past_below B6 hX; have l7 : X < w7.heap.size := by (rw [S7]; exact l6)))
        go_roundw
        case rel => exact ⟨k + 1, q, by omega, by go_num, WN'.out, C7, l7, B7⟩
        case measure => simp [intOf]; omega
      | false =>
      by_cases z3 : z ≥ 0
      · by_cases z4 : z ≤ 1000
        · obtain ⟨WN, hh1, hh2⟩ := WO.acked hn1 hn2 (by omega) z4
          have hh3 : (ackedP p z n true).window ≤ 10000000 := by have := WN.w1; omega
          have LA := acked_any p z n true (wr.alloc (.cells #[.int .i64 p.window, .int .i64 p.slow, .int .i64 p.part, .int .i64 p.flight, .int .i64 p.errors, .int .i64 p.alarm, .int .i64 p.wait] 23)) OK hn1 hn2 (by omega) (by omega)
          generalize ackedP p z n true = q at *
          have hq1 : n ≤ q.window := WN.w0
          have hq2 : 4 * n ≤ q.slow := WN.s0
          have WN' : Hid (GrowOk n (k + 1) q) := WN
          clear WN WO
          simp only [ptVal] at LA
          go_wp2_with (first
            | refine wpList_ldP rfl (.tmp 5) rfl X rfl p (by with_reducible exact CR) ?_
            | refine wpList_ldP rfl (.tmp 5) rfl X rfl p (by with_reducible exact CX) ?_)
          generalize (wr.alloc (.cells #[.int .i64 p.window, .int .i64 p.slow, .int .i64 p.part, .int .i64 p.flight, .int .i64 p.errors, .int .i64 p.alarm, .int .i64 p.wait] 23)) = w4 at *
          generalize wr.heap.size = Y at *
          refine LA.mono ?_
          rintro e w5 ⟨rfl, b5⟩
          have B5 := BQ.trans (b5.mono BQ.size)
          have C5 := CX.below b5 lX
          have D5 := CY.below b5 lY
          have l5 : X < w5.heap.size := Nat.lt_of_lt_of_le lX b5.size
          clear LA CX CY CR x0 y0 y1 y4 y6 c0 c1 c4 c6 BQ b5
          dsimp only
          rename_i K9 aK9
          refine aK9 _ _ ?_
          refine wpList_stP rfl (.tmp 8) (.tmp 72) rfl Y rfl q rfl p D5 ?_
          intro w6 D6 K6 S6
          have C6 := C5.past K6 nXY
          have B6 := K6.past_below B5 hY
          have l6 : X < w6.heap.size := by rw [S6]; exact l5
          obtain ⟨y0, y1, y4, y6⟩ := C6.c7
          obtain ⟨z0, z1, z4, z6⟩ := D6.c7
          clear C5 D5 K6 S6 B5 l5
          go_wp2_with (first
            | refine wpList_ldP rfl (.tmp 8) rfl Y rfl q (by with_reducible exact D6) ?_
            | (refine wpList_stP rfl (.tmp 5) (.tmp 103) rfl X rfl q rfl p (by with_reducible exact C6) ?_; intro w7 C7 K7 S7; have B7 := K7.past_below B6 hX; have l7 : X < w7.heap.size := by (rw [S7]; exact l6)))
          go_roundw
          case rel => exact ⟨k + 1, q, by omega, by go_num, WN'.out, C7, l7, B7⟩
          case measure => simp [intOf]; omega
        · have WN' : Hid (GrowOk n (k + 1) p) := WO.next
          have hq1 : n ≤ p.window := WO.w0
          have hq2 : 4 * n ≤ p.slow := WO.s0
          clear WO
          go_wp2_with (first
            | refine wpList_ldP rfl (.tmp 5) rfl X rfl p (by with_reducible exact CR) ?_
            | refine wpList_ldP rfl (.tmp 8) rfl wr.heap.size rfl p (by with_reducible exact CY) ?_
            | (refine wpList_stP rfl (.tmp 5) (.tmp 103) rfl X rfl p rfl p (by with_reducible exact CX) ?_; intro w7 C7 K7 S7; have B7 := K7.past_below BQ hX; have l7 : X < w7.heap.size := by (rw [S7]; exact lX)))
          go_roundw
          case rel => exact ⟨k + 1, p, by omega, by go_num, WN'.out, C7, l7, B7⟩
          case measure => simp [intOf]; omega
      · have WN' : Hid (GrowOk n (k + 1) p) := WO.next
        have hq1 : n ≤ p.window := WO.w0
        have hq2 : 4 * n ≤ p.slow := WO.s0
        clear WO
        go_wp2_with (first
          | refine wpList_ldP rfl (.tmp 5) rfl X rfl p (by with_reducible exact CR) ?_
          | refine wpList_ldP rfl (.tmp 8) rfl wr.heap.size rfl p (by with_reducible exact CY) ?_
          | (refine wpList_stP rfl (.tmp 5) (.tmp 103) rfl X rfl p rfl p (by with_reducible exact CX) ?_; intro w7 C7 K7 S7; have B7 := K7.past_below BQ hX; have l7 : X < w7.heap.size := by (rw [S7]; exact lX)))
        go_roundw
        case rel => exact ⟨k + 1, p, by omega, by go_num, WN'.out, C7, l7, B7⟩
        case measure => simp [intOf]; omega
    · have hkm : k = l.length := by omega
      subst hkm
      go_wp2_with fail
      go_ret
      exact ⟨rfl, BR⟩
end Go.Proofs.Ytnddejdndipddad
