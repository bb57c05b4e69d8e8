/- The walk of PathsWait. -/
import Derived.Test.YtnddejdndipddadPtH
set_option maxRecDepth 20000
namespace Go.Proofs.Ytnddejdndipddad
open Go.RowKit

theorem PtF7 {X : Nat} {w : World} {l : List Value} (h : Cells X w l) : w.frozen? ⟨X, 0, none⟩ = false ∧ w.frozen? ⟨X, 1, none⟩ = false ∧ w.frozen? ⟨X, 2, none⟩ = false ∧ w.frozen? ⟨X, 3, none⟩ = false ∧ w.frozen? ⟨X, 4, none⟩ = false ∧ w.frozen? ⟨X, 5, none⟩ = false ∧ w.frozen? ⟨X, 6, none⟩ = false :=
  ⟨h.fz 0, h.fz 1, h.fz 2, h.fz 3, h.fz 4, h.fz 5, h.fz 6⟩

set_option maxHeartbeats 4000000 in
theorem pwait_walk (n t : Int) (w : World) : Calls Try.prog 5 #[.int .i64 n, .int .i64 t] w fun e w' => e = .returned (.bool true) ∧ Below w.heap.size w w' := by
  have AL := aliveP_any
  go_enter Try.func5, Try.ntmps5
  go_wp2_with fail
  refine (AL _).mono ?_
  rintro e w1 ⟨rfl, b1⟩
  by_cases h1 : n < 1
  · go_wp2_with fail
    go_ret
    exact ⟨rfl, b1⟩
  by_cases h2 : n > 16
  · go_wp2_with fail
    go_ret
    exact ⟨rfl, b1⟩
  by_cases h3 : t < 0
  · go_wp2_with fail
    go_ret
    exact ⟨rfl, b1⟩
  by_cases h4 : t > 30
  · go_wp2_with fail
    go_ret
    exact ⟨rfl, b1⟩
  have hn1 : 1 ≤ n := by omega
  have hn2 : n ≤ 16 := by omega
  have NW := fun wx => newP_any n wx hn1 hn2
  have W0 := WaitsOk.new hn1 hn2
  generalize newP n = p0 at *
  obtain ⟨m, rfl⟩ := Int.eq_ofNat_of_zero_le (show 0 ≤ t by omega)
  obtain ⟨window, slow, part, flight, errors, alarm, wait⟩ := p0
  simp only [ptVal] at NW
  go_wp2_with fail
  refine (NW _).mono ?_
  rintro e w2 ⟨rfl, b2⟩
  have B2 := (b1.trans (b2.mono b1.size)).alloc (b1.trans (b2.mono b1.size)).size (.cells #[.int .i64 window, .int .i64 slow, .int .i64 part, .int .i64 flight, .int .i64 errors, .int .i64 alarm, .int .i64 wait] 23)
  have C2 : Cells w2.heap.size (w2.alloc (.cells #[.int .i64 window, .int .i64 slow, .int .i64 part, .int .i64 flight, .int .i64 errors, .int .i64 alarm, .int .i64 wait] 23)) (ptA ⟨window, slow, part, flight, errors, alarm, wait⟩).toList := Cells.new w2 #[.int .i64 window, .int .i64 slow, .int .i64 part, .int .i64 flight, .int .i64 errors, .int .i64 alarm, .int .i64 wait] 23
  have hX : w.heap.size ≤ w2.heap.size := (b1.trans (b2.mono b1.size)).size
  have l2 : w2.heap.size < (w2.alloc (.cells #[.int .i64 window, .int .i64 slow, .int .i64 part, .int .i64 flight, .int .i64 errors, .int .i64 alarm, .int .i64 wait] 23)).heap.size := by simp
  go_wp2_with fail
  generalize (w2.alloc (.cells #[.int .i64 window, .int .i64 slow, .int .i64 part, .int .i64 flight, .int .i64 errors, .int .i64 alarm, .int .i64 wait] 23)) = w3 at *
  clear NW b2 AL
  generalize w2.heap.size = X at *
  go_loopw [6, 27] (fun z i wr => ∃ (k : Nat) (p : Pt), k ≤ m ∧ i = .int .i64 k ∧ z = .int .i64 (waitK k) ∧ WaitsOk n k p ∧ Cells X wr (ptA p).toList ∧ X < wr.heap.size ∧ Below w.heap.size w wr) (fun _ i _ => m - (intOf i).toNat)
  case atStart => exact ⟨0, ⟨window, slow, part, flight, errors, alarm, wait⟩, Nat.zero_le _, rfl, rfl, W0, C2, l2, B2⟩
  case round =>
    obtain ⟨k, p, hk, rfl, rfl, WO, CR, lR, BR⟩ := hrel
    obtain ⟨c0, c1, c2, c3, c4, c5, c6⟩ := PtC7 CR
    by_cases hlt : k < m
    · have LA := late_any p n wr (WO.ok (by omega)) hn1 hn2
      have WN := WO.late hn1 hn2
      generalize lateP p n = q at *
      have wb := waitK_bd k
      obtain ⟨wb1, wb2⟩ := wb
      have hqe : q.errors = (k : Int) + 1 := by have := WN.e0; omega
      have hqt : q.wait = waitK (k + 1) := WN.t0
      have hk1 : waitK (k + 1) = min (2 * waitK k) 24 := rfl
      rw [hk1] at hqt
      have WN' : Hid (WaitsOk n (k + 1) q) := WN
      clear WN WO W0
      obtain ⟨window, slow, part, flight, errors, alarm, wait⟩ := p
      obtain ⟨qw, qs, qp, qf, qe, qa, qt⟩ := q
      simp only [ptVal] at LA
      simp only at hqe hqt c0 c1 c2 c3 c4 c5 c6
      subst hqe
      by_cases hg : 24 < 2 * waitK k
      · have hM : min (2 * waitK k) 24 = 24 := by omega
        rw [hM] at hqt hk1
        subst hqt
        have HK : Hid (waitK (k + 1) = 24) := hk1
        clear hk1 hM
        generalize waitK k = y at *
        go_wp2_with fail
        refine LA.mono ?_
        rintro e w5 ⟨rfl, b5⟩
        have C5 := CR.below b5 lR
        obtain ⟨r0, r1, r2, r3, r4, r5, r6⟩ := PtC7 (p := ⟨window, slow, part, flight, errors, alarm, wait⟩) C5
        obtain ⟨f0, f1, f2, f3, f4, f5, f6⟩ := PtF7 C5
        simp only at r0 r1 r2 r3 r4 r5 r6
        have C6 := put7_cells C5 rfl ⟨qw, qs, qp, qf, (k : Int) + 1, qa, 24⟩
        have B6 := put7_below (BR.trans (b5.mono BR.size)) (X := X) hX ⟨qw, qs, qp, qf, (k : Int) + 1, qa, 24⟩
        have l6 : X < (put7 X w5 ⟨qw, qs, qp, qf, (k : Int) + 1, qa, 24⟩).heap.size := by have := b5.size; simp [put7]; omega
        simp only [put7] at C6 B6 l6
        clear c0 c1 c2 c3 c4 c5 c6
        go_wp2_with fail
        all_goals try omega
        all_goals
          go_roundw
          case rel => exact ⟨k + 1, _, by omega, by go_num, by rw [HK.out], WN'.out, C6, l6, B6⟩
          case measure => simp [intOf]; omega
      · have hM : min (2 * waitK k) 24 = 2 * waitK k := by omega
        rw [hM] at hqt hk1
        subst hqt
        have HK : Hid (waitK (k + 1) = 2 * waitK k) := hk1
        clear hk1 hM
        generalize waitK k = y at *
        go_wp2_with fail
        refine LA.mono ?_
        rintro e w5 ⟨rfl, b5⟩
        have C5 := CR.below b5 lR
        obtain ⟨r0, r1, r2, r3, r4, r5, r6⟩ := PtC7 (p := ⟨window, slow, part, flight, errors, alarm, wait⟩) C5
        obtain ⟨f0, f1, f2, f3, f4, f5, f6⟩ := PtF7 C5
        simp only at r0 r1 r2 r3 r4 r5 r6
        have C6 := put7_cells C5 rfl ⟨qw, qs, qp, qf, (k : Int) + 1, qa, 2 * y⟩
        have B6 := put7_below (BR.trans (b5.mono BR.size)) (X := X) hX ⟨qw, qs, qp, qf, (k : Int) + 1, qa, 2 * y⟩
        have l6 : X < (put7 X w5 ⟨qw, qs, qp, qf, (k : Int) + 1, qa, 2 * y⟩).heap.size := by have := b5.size; simp [put7]; omega
        simp only [put7] at C6 B6 l6
        clear c0 c1 c2 c3 c4 c5 c6
        go_wp2_with fail
        all_goals try omega
        all_goals
          go_roundw
          case rel => exact ⟨k + 1, _, by omega, by go_num, by rw [HK.out], WN'.out, C6, l6, B6⟩
          case measure => simp [intOf]; omega
    · have hkm : k = m := by omega
      subst hkm
      have AK := acked_any p 1 n true wr (WO.ok (by omega)) hn1 hn2 (by omega) (by omega)
      have hE : (ackedP p 1 n true).errors = 0 ∧ (ackedP p 1 n true).wait = 3 := by
        unfold ackedP
        rw [if_neg (by simp)]
        split
        · exact ⟨rfl, rfl⟩
        · split
          · exact ⟨rfl, rfl⟩
          · split
            · exact ⟨rfl, rfl⟩
            · exact ⟨rfl, rfl⟩
      generalize ackedP p 1 n true = q at *
      obtain ⟨hqe, hqt⟩ := hE
      clear WO W0
      obtain ⟨window, slow, part, flight, errors, alarm, wait⟩ := p
      obtain ⟨qw, qs, qp, qf, qe, qa, qt⟩ := q
      simp only [ptVal] at AK
      simp only at hqe hqt c0 c1 c2 c3 c4 c5 c6
      subst hqe hqt
      generalize waitK k = y at *
      go_wp2_with fail
      refine AK.mono ?_
      rintro e w5 ⟨rfl, b5⟩
      have C5 := CR.below b5 lR
      obtain ⟨r0, r1, r2, r3, r4, r5, r6⟩ := PtC7 (p := ⟨window, slow, part, flight, errors, alarm, wait⟩) C5
      obtain ⟨f0, f1, f2, f3, f4, f5, f6⟩ := PtF7 C5
      simp only at r0 r1 r2 r3 r4 r5 r6
      have B6 := put7_below (BR.trans (b5.mono BR.size)) (X := X) hX ⟨qw, qs, qp, qf, 0, qa, 3⟩
      simp only [put7] at B6
      clear c0 c1 c2 c3 c4 c5 c6
      go_wp2_with fail
      go_ret
      exact ⟨rfl, B6⟩
end Go.Proofs.Ytnddejdndipddad
