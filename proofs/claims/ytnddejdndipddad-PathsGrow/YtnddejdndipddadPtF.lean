/- The contract of the document's Late. -/
import Derived.Test.YtnddejdndipddadPtE
set_option maxRecDepth 20000
namespace Go.Proofs.Ytnddejdndipddad
open Go.RowKit

theorem Cells.past' {X Y : Nat} {w : World} {l : List Value} (h : Cells X w l) (j : Nat) (u : Value) (hne : X ≠ Y) : Cells X (w.setCell ⟨Y, j, none⟩ u) l :=
  h.keep (S := fun k => k ≠ Y) (Keep.setCell (Keep.refl _ _) (p := ⟨Y, j, none⟩) (fun e => e rfl) u) hne

set_option maxHeartbeats 1000000 in
theorem rlate_any (p : Pt) (n : Int) (w : World) (hp : PtOk p) (h1 : 1 ≤ n) (h2 : n ≤ 16) : Calls Try.prog 15 #[ptVal p, .int .i64 n] w fun e w' => e = .returned (ptVal (lateP p n)) ∧ Below w.heap.size w w' := by
  obtain ⟨w0, w1, p0, p1, e0, e1, t0, t1⟩ := hp
  have HA := fun wx => rhalved_any p n wx w0 w1 h1 h2
  obtain ⟨window, slow, part, flight, errors, alarm, wait⟩ := p
  have hS : (lateP ⟨window, slow, part, flight, errors, alarm, wait⟩ n) = ⟨n, slowP window n, 0, 0, errors + 1, 0, min (2 * wait) 24⟩ := rfl
  have hT : (halvedP ⟨window, slow, part, flight, errors, alarm, wait⟩ n) = ⟨min window (slowP window n), slowP window n, 0, flight, errors, alarm, wait⟩ := rfl
  rw [hS]
  rw [hT] at HA
  clear hS hT
  generalize slowP window n = z at *
  generalize min window z = x at *
  simp only [ptVal] at *
  have B2 := two_below' w (.cells #[.int .i64 window, .int .i64 slow, .int .i64 part, .int .i64 flight, .int .i64 errors, .int .i64 alarm, .int .i64 wait] 23) (.cells #[.int .i64 0, .int .i64 0, .int .i64 0, .int .i64 0, .int .i64 0, .int .i64 0, .int .i64 0] 23)
  have CP := (Cells.new w #[.int .i64 window, .int .i64 slow, .int .i64 part, .int .i64 flight, .int .i64 errors, .int .i64 alarm, .int .i64 wait] 23).alloc (by simp) (.cells #[.int .i64 0, .int .i64 0, .int .i64 0, .int .i64 0, .int .i64 0, .int .i64 0, .int .i64 0] 23)
  have CX : Cells (w.heap.size + 1) ((w.alloc (.cells #[.int .i64 window, .int .i64 slow, .int .i64 part, .int .i64 flight, .int .i64 errors, .int .i64 alarm, .int .i64 wait] 23)).alloc (.cells #[.int .i64 0, .int .i64 0, .int .i64 0, .int .i64 0, .int .i64 0, .int .i64 0, .int .i64 0] 23)) _ := Cells.new' #[.int .i64 0, .int .i64 0, .int .i64 0, .int .i64 0, .int .i64 0, .int .i64 0, .int .i64 0] 23 (by simp)
  have hz : ((w.alloc (.cells #[.int .i64 window, .int .i64 slow, .int .i64 part, .int .i64 flight, .int .i64 errors, .int .i64 alarm, .int .i64 wait] 23)).alloc (.cells #[.int .i64 0, .int .i64 0, .int .i64 0, .int .i64 0, .int .i64 0, .int .i64 0, .int .i64 0] 23)).heap.size = w.heap.size + 2 := by simp
  have HA2 := HA ((w.alloc (.cells #[.int .i64 window, .int .i64 slow, .int .i64 part, .int .i64 flight, .int .i64 errors, .int .i64 alarm, .int .i64 wait] 23)).alloc (.cells #[.int .i64 0, .int .i64 0, .int .i64 0, .int .i64 0, .int .i64 0, .int .i64 0, .int .i64 0] 23))
  clear HA
  go_enter Try.func15, Try.ntmps15
  go_wp2_with fail
  generalize ((w.alloc (.cells #[.int .i64 window, .int .i64 slow, .int .i64 part, .int .i64 flight, .int .i64 errors, .int .i64 alarm, .int .i64 wait] 23)).alloc (.cells #[.int .i64 0, .int .i64 0, .int .i64 0, .int .i64 0, .int .i64 0, .int .i64 0, .int .i64 0] 23)) = w2 at *
  refine HA2.mono ?_
  rintro e w3 ⟨rfl, b3⟩
  have B3 := B2.trans (b3.mono B2.size)
  have CP3 := CP.below b3 (by omega)
  have CX3 := CX.below b3 (by omega)
  have hs3 : w.heap.size + 2 ≤ w3.heap.size := by have := b3.size; omega
  have y4 := CP3.cell 4 _ rfl
  have y6 := CP3.cell 6 _ rfl
  have ny1 : ¬ w.heap.size = w3.heap.size := by omega
  have ny2 : ¬ w3.heap.size = w.heap.size := by omega
  have hlp : w.heap.size < w3.heap.size := by omega
  have CX4 : Cells (w.heap.size + 1) (w3.alloc (.cells #[.int .i64 n, .int .i64 z, .int .i64 0, .int .i64 0, .int .i64 (errors + 1), .int .i64 0, .int .i64 (2 * wait)] 23)).drew [.int .i64 0, .int .i64 0, .int .i64 0, .int .i64 0, .int .i64 0, .int .i64 0, .int .i64 0] := (CX3.alloc (by omega) _).below (below_drew (Below.refl _ _)) (Nat.lt_of_lt_of_le (by omega) (box_below w3 (.cells #[.int .i64 n, .int .i64 z, .int .i64 0, .int .i64 0, .int .i64 (errors + 1), .int .i64 0, .int .i64 (2 * wait)] 23)).size)
  have CQ4 : Cells w3.heap.size (w3.alloc (.cells #[.int .i64 n, .int .i64 z, .int .i64 0, .int .i64 0, .int .i64 (errors + 1), .int .i64 0, .int .i64 (2 * wait)] 23)).drew [.int .i64 n, .int .i64 z, .int .i64 0, .int .i64 0, .int .i64 (errors + 1), .int .i64 0, .int .i64 (2 * wait)] := (Cells.new w3 #[.int .i64 n, .int .i64 z, .int .i64 0, .int .i64 0, .int .i64 (errors + 1), .int .i64 0, .int .i64 (2 * wait)] 23).below (B := w3.heap.size + 1) (below_drew (Below.refl _ _)) (Nat.lt_succ_self _)
  have B4 : Below w.heap.size w (w3.alloc (.cells #[.int .i64 n, .int .i64 z, .int .i64 0, .int .i64 0, .int .i64 (errors + 1), .int .i64 0, .int .i64 (2 * wait)] 23)).drew := below_drew (B3.alloc B3.size _)
  have n35 : w.heap.size + 1 ≠ w3.heap.size := by omega
  have l3 : w.heap.size ≤ w3.heap.size := by omega
  clear CP CX HA2
  go_wp2_with fail
  go_region
  clear y4 y6 ny1 ny2 hlp CP3 CX3 B3 b3 B2
  generalize (w3.alloc (.cells #[.int .i64 n, .int .i64 z, .int .i64 0, .int .i64 0, .int .i64 (errors + 1), .int .i64 0, .int .i64 (2 * wait)] 23)).drew = w4 at *
  generalize w3.heap.size = Y at *
  have n53 : ¬ Y = w.heap.size + 1 := fun h => n35 h.symm
  have n54 : ¬ w.heap.size + 1 = Y := n35
  have r0 := CX4.cell 0 _ rfl
  have r1 := CX4.cell 1 _ rfl
  have r2 := CX4.cell 2 _ rfl
  have r3 := CX4.cell 3 _ rfl
  have r4 := CX4.cell 4 _ rfl
  have r5 := CX4.cell 5 _ rfl
  have r6 := CX4.cell 6 _ rfl
  have f0 := CX4.fz 0
  have f1 := CX4.fz 1
  have f2 := CX4.fz 2
  have f3 := CX4.fz 3
  have f4 := CX4.fz 4
  have f5 := CX4.fz 5
  have f6 := CX4.fz 6
  have q0 := CQ4.cell 0 _ rfl
  have q1 := CQ4.cell 1 _ rfl
  have q2 := CQ4.cell 2 _ rfl
  have q3 := CQ4.cell 3 _ rfl
  have q4 := CQ4.cell 4 _ rfl
  have q5 := CQ4.cell 5 _ rfl
  have q6 := CQ4.cell 6 _ rfl
  have fq6 := CQ4.fz 6
  by_cases hg : 2 * wait > 24
  · have hM : Hid (min (2 * wait) 24 = 24) := by show _ = _; omega
    have ZZ := put7_ret (CX4.past' (Y := Y) 6 (.int .i64 24) n35) rfl ⟨n, z, 0, 0, errors + 1, 0, 24⟩
    have BZ := put7_below (B4.setCell (p := ⟨Y, 6, none⟩) l3 (.int .i64 24)) (X := w.heap.size + 1) (Nat.le_succ _) ⟨n, z, 0, 0, errors + 1, 0, 24⟩
    simp only [put7] at ZZ BZ
    obtain ⟨z0, z1, z2, z3, z4, z5, z6⟩ := ZZ
    go_wp2_with fail
    exact bodyPost_ret (v := .agg #[.int .i64 n, .int .i64 z, .int .i64 0, .int .i64 0, .int .i64 (errors + 1), .int .i64 0, .int .i64 24]) (by simp [results, Try.results15, go_sem, z0, z1, z2, z3, z4, z5, z6]) rfl ⟨by rw [hM.out], BZ⟩
  · have hM : Hid (min (2 * wait) 24 = 2 * wait) := by show _ = _; omega
    have ZZ := put7_ret CX4 rfl ⟨n, z, 0, 0, errors + 1, 0, 2 * wait⟩
    have BZ := put7_below B4 (X := w.heap.size + 1) (Nat.le_succ _) ⟨n, z, 0, 0, errors + 1, 0, 2 * wait⟩
    simp only [put7] at ZZ BZ
    obtain ⟨z0, z1, z2, z3, z4, z5, z6⟩ := ZZ
    go_wp2_with fail
    exact bodyPost_ret (v := .agg #[.int .i64 n, .int .i64 z, .int .i64 0, .int .i64 0, .int .i64 (errors + 1), .int .i64 0, .int .i64 (2 * wait)]) (by simp [results, Try.results15, go_sem, z0, z1, z2, z3, z4, z5, z6]) rfl ⟨by rw [hM.out], BZ⟩
end Go.Proofs.Ytnddejdndipddad
