/- The contract of receive.New. -/
import Derived.Test.YtnddejdndipddadRcL
set_option maxRecDepth 20000
namespace Go.Proofs.Ytnddejdndipddad
open Go.RowKit

theorem enters_rnoughts (args : Array Value) (wx : World) : (callFunc 45 args).run Try.prog wx = .ok (.enter 45 args) wx := enters_body Try.func45 (by kernel_rfl) rfl args wx
set_option maxHeartbeats 4000000 in
theorem rnew_any (c : Cf) (n : Nat) (w : World) (hn : c.streams = n) (hn2 : n ≤ 2147483647) (h1 : 0 ≤ c.first) (h2 : c.first ≤ 65536) :
    Calls Try.prog 23 #[.agg #[.int .i64 c.streams, .int .i64 c.part, .int .i64 c.packet, .int .i64 c.paths, .int .i64 c.turns, .int .i64 c.waiting, .int .i64 c.first]] w fun e w' => ∃ s p t l, e = .returned (.agg #[.int .i64 (newM c).cf.streams, .int .i64 (newM c).cf.part, .int .i64 (newM c).cf.packet, .int .i64 (newM c).cf.paths, .int .i64 (newM c).cf.turns, .int .i64 (newM c).cf.waiting, .int .i64 (newM c).cf.first, .int .i64 (newM c).cum, s, p, t, l]) ∧ RvS w'.heap.size w' (newM c) s p t l ∧ Below w.heap.size w w' := by
  have B0 := two_below w (.cells #[.int .i64 c.streams, .int .i64 c.part, .int .i64 c.packet, .int .i64 c.paths, .int .i64 c.turns, .int .i64 c.waiting, .int .i64 c.first] 36) (.cells #[.int .i64 0, .int .i64 0, .int .i64 0, .int .i64 0, .int .i64 0, .int .i64 0, .int .i64 0, .int .i64 0, .slice none 0 0, .slice none 0 0, .slice none 0 0, .slice none 0 0] 47)
  have CX : Cells w.heap.size ((w.alloc (.cells #[.int .i64 c.streams, .int .i64 c.part, .int .i64 c.packet, .int .i64 c.paths, .int .i64 c.turns, .int .i64 c.waiting, .int .i64 c.first] 36)).alloc (.cells #[.int .i64 0, .int .i64 0, .int .i64 0, .int .i64 0, .int .i64 0, .int .i64 0, .int .i64 0, .int .i64 0, .slice none 0 0, .slice none 0 0, .slice none 0 0, .slice none 0 0] 47)) [.int .i64 c.streams, .int .i64 c.part, .int .i64 c.packet, .int .i64 c.paths, .int .i64 c.turns, .int .i64 c.waiting, .int .i64 c.first] := (Cells.new w #[.int .i64 c.streams, .int .i64 c.part, .int .i64 c.packet, .int .i64 c.paths, .int .i64 c.turns, .int .i64 c.waiting, .int .i64 c.first] 36).alloc (by simp) _
  have CR : Cells (w.heap.size + 1) ((w.alloc (.cells #[.int .i64 c.streams, .int .i64 c.part, .int .i64 c.packet, .int .i64 c.paths, .int .i64 c.turns, .int .i64 c.waiting, .int .i64 c.first] 36)).alloc (.cells #[.int .i64 0, .int .i64 0, .int .i64 0, .int .i64 0, .int .i64 0, .int .i64 0, .int .i64 0, .int .i64 0, .slice none 0 0, .slice none 0 0, .slice none 0 0, .slice none 0 0] 47)) [.int .i64 0, .int .i64 0, .int .i64 0, .int .i64 0, .int .i64 0, .int .i64 0, .int .i64 0, .int .i64 0, .slice none 0 0, .slice none 0 0, .slice none 0 0, .slice none 0 0] := Cells.new' #[.int .i64 0, .int .i64 0, .int .i64 0, .int .i64 0, .int .i64 0, .int .i64 0, .int .i64 0, .int .i64 0, .slice none 0 0, .slice none 0 0, .slice none 0 0, .slice none 0 0] 47 (by simp)
  have hz : w.heap.size + 2 ≤ ((w.alloc (.cells #[.int .i64 c.streams, .int .i64 c.part, .int .i64 c.packet, .int .i64 c.paths, .int .i64 c.turns, .int .i64 c.waiting, .int .i64 c.first] 36)).alloc (.cells #[.int .i64 0, .int .i64 0, .int .i64 0, .int .i64 0, .int .i64 0, .int .i64 0, .int .i64 0, .int .i64 0, .slice none 0 0, .slice none 0 0, .slice none 0 0, .slice none 0 0] 47)).heap.size := by simp
  have HNN : Hid (c.streams = n) := hn
  have HNM : Hid (newM c = ⟨c, c.first - 1, [], [], List.replicate n 0, []⟩) := by show _ = _; rw [newM, hn]; simp
  clear hn
  go_enter Try.func23, Try.ntmps23
  go_wp2_with fail
  generalize ((w.alloc (.cells #[.int .i64 c.streams, .int .i64 c.part, .int .i64 c.packet, .int .i64 c.paths, .int .i64 c.turns, .int .i64 c.waiting, .int .i64 c.first] 36)).alloc (.cells #[.int .i64 0, .int .i64 0, .int .i64 0, .int .i64 0, .int .i64 0, .int .i64 0, .int .i64 0, .int .i64 0, .slice none 0 0, .slice none 0 0, .slice none 0 0, .slice none 0 0] 47)) = w0 at *
  have BD : Below w0.heap.size w0 w0.drew := below_drew' (Below.refl _ _)
  have NO : Calls Try.prog 45 #[.int .i64 c.streams] w0.drew fun e w' => ∃ v, e = .returned v ∧ v = .slice (some ⟨w0.heap.size, 0, none⟩) n n ∧ Cells w0.heap.size w' (cellsI (List.replicate n 0)) ∧ w0.heap.size < w'.heap.size ∧ Below w0.heap.size w0 w' := by
    rw [HNN.out]
    refine (rnoughts_any n w0.drew hn2).mono ?_
    rintro e w' ⟨rfl, rfl⟩
    refine ⟨_, rfl, rfl, ?_, by simp, BD.trans (box_below w0.drew _)⟩
    have CC := Cells.new w0.drew (madeCells #[.int .i64 0] n) 3
    rw [toList_madeCells_one] at CC
    simpa [cellsI] using CC
  have x0 := CX.cell 0 _ rfl
  have x1 := CX.cell 1 _ rfl
  have x2 := CX.cell 2 _ rfl
  have x3 := CX.cell 3 _ rfl
  have x4 := CX.cell 4 _ rfl
  have x5 := CX.cell 5 _ rfl
  have x6 := CX.cell 6 _ rfl
  have HCX : Hid _ := CX
  have HCR : Hid _ := CR
  have w3 : IntKind.i64.wrap (c.first - 1) = c.first - 1 := by simp [IntKind.wrap, IntKind.signed, IntKind.bits]; omega
  clear CX CR
  go_region_law (refine step_call1 rfl 45 (.tmp 8) _ rfl (.int .i64 c.streams) rfl rfl enters_rnoughts _ NO ?_; rintro _ w1 ⟨rfl, CO, hlt, b1⟩; have CX1 := HCX.out.below b1 (by omega); have CR1 := HCR.out.below b1 (by omega); have y0 := CX1.cell 0 _ rfl; have y1 := CX1.cell 1 _ rfl; have y2 := CX1.cell 2 _ rfl; have y3 := CX1.cell 3 _ rfl; have y4 := CX1.cell 4 _ rfl; have y5 := CX1.cell 5 _ rfl; have y6 := CX1.cell 6 _ rfl; have r0 := CR1.cell 0 _ rfl; have g0 := CR1.fz 0; have r1 := CR1.cell 1 _ rfl; have g1 := CR1.fz 1; have r2 := CR1.cell 2 _ rfl; have g2 := CR1.fz 2; have r3 := CR1.cell 3 _ rfl; have g3 := CR1.fz 3; have r4 := CR1.cell 4 _ rfl; have g4 := CR1.fz 4; have r5 := CR1.cell 5 _ rfl; have g5 := CR1.fz 5; have r6 := CR1.cell 6 _ rfl; have g6 := CR1.fz 6; have r7 := CR1.cell 7 _ rfl; have g7 := CR1.fz 7; have r8 := CR1.cell 8 _ rfl; have g8 := CR1.fz 8; have r9 := CR1.cell 9 _ rfl; have g9 := CR1.fz 9; have r10 := CR1.cell 10 _ rfl; have g10 := CR1.fz 10; have r11 := CR1.cell 11 _ rfl; have g11 := CR1.fz 11; have HCO : Hid _ := CO; have HC1 : Hid _ := CR1; clear CX1 CR1 CO)
  all_goals
    go_wp2_with fail
    have CE := ((((((((((((HC1.out.set 0 (.int .i64 c.streams) (by simp)).set 1 (.int .i64 c.part) (by simp)).set 2 (.int .i64 c.packet) (by simp)).set 3 (.int .i64 c.paths) (by simp)).set 4 (.int .i64 c.turns) (by simp)).set 5 (.int .i64 c.waiting) (by simp)).set 6 (.int .i64 c.first) (by simp)).set 7 (.int .i64 (c.first - 1)) (by simp)).set 8 (.slice none 0 0) (by simp)).set 9 (.slice none 0 0) (by simp)).set 10 (.slice (some ⟨w0.heap.size, 0, none⟩) n n) (by simp)).set 11 (.slice none 0 0) (by simp))
    have e0 := CE.cell 0 _ rfl
    have e1 := CE.cell 1 _ rfl
    have e2 := CE.cell 2 _ rfl
    have e3 := CE.cell 3 _ rfl
    have e4 := CE.cell 4 _ rfl
    have e5 := CE.cell 5 _ rfl
    have e6 := CE.cell 6 _ rfl
    have e7 := CE.cell 7 _ rfl
    have e8 := CE.cell 8 _ rfl
    have e9 := CE.cell 9 _ rfl
    have e10 := CE.cell 10 _ rfl
    have e11 := CE.cell 11 _ rfl
    have BE : Below w.heap.size w ((((((((((((w1.setCell ⟨w.heap.size + 1, 0, none⟩ (.int .i64 c.streams)).setCell ⟨w.heap.size + 1, 1, none⟩ (.int .i64 c.part)).setCell ⟨w.heap.size + 1, 2, none⟩ (.int .i64 c.packet)).setCell ⟨w.heap.size + 1, 3, none⟩ (.int .i64 c.paths)).setCell ⟨w.heap.size + 1, 4, none⟩ (.int .i64 c.turns)).setCell ⟨w.heap.size + 1, 5, none⟩ (.int .i64 c.waiting)).setCell ⟨w.heap.size + 1, 6, none⟩ (.int .i64 c.first)).setCell ⟨w.heap.size + 1, 7, none⟩ (.int .i64 (c.first - 1))).setCell ⟨w.heap.size + 1, 8, none⟩ (.slice none 0 0)).setCell ⟨w.heap.size + 1, 9, none⟩ (.slice none 0 0)).setCell ⟨w.heap.size + 1, 10, none⟩ (.slice (some ⟨w0.heap.size, 0, none⟩) n n)).setCell ⟨w.heap.size + 1, 11, none⟩ (.slice none 0 0)) := Below.setCell (Below.setCell (Below.setCell (Below.setCell (Below.setCell (Below.setCell (Below.setCell (Below.setCell (Below.setCell (Below.setCell (Below.setCell (Below.setCell (B0.trans (b1.mono (by omega))) (by show w.heap.size ≤ w.heap.size + 1; omega) _) (by show w.heap.size ≤ w.heap.size + 1; omega) _) (by show w.heap.size ≤ w.heap.size + 1; omega) _) (by show w.heap.size ≤ w.heap.size + 1; omega) _) (by show w.heap.size ≤ w.heap.size + 1; omega) _) (by show w.heap.size ≤ w.heap.size + 1; omega) _) (by show w.heap.size ≤ w.heap.size + 1; omega) _) (by show w.heap.size ≤ w.heap.size + 1; omega) _) (by show w.heap.size ≤ w.heap.size + 1; omega) _) (by show w.heap.size ≤ w.heap.size + 1; omega) _) (by show w.heap.size ≤ w.heap.size + 1; omega) _) (by show w.heap.size ≤ w.heap.size + 1; omega) _
    have KO : Keep (fun k => k ≠ w.heap.size + 1) w1 ((((((((((((w1.setCell ⟨w.heap.size + 1, 0, none⟩ (.int .i64 c.streams)).setCell ⟨w.heap.size + 1, 1, none⟩ (.int .i64 c.part)).setCell ⟨w.heap.size + 1, 2, none⟩ (.int .i64 c.packet)).setCell ⟨w.heap.size + 1, 3, none⟩ (.int .i64 c.paths)).setCell ⟨w.heap.size + 1, 4, none⟩ (.int .i64 c.turns)).setCell ⟨w.heap.size + 1, 5, none⟩ (.int .i64 c.waiting)).setCell ⟨w.heap.size + 1, 6, none⟩ (.int .i64 c.first)).setCell ⟨w.heap.size + 1, 7, none⟩ (.int .i64 (c.first - 1))).setCell ⟨w.heap.size + 1, 8, none⟩ (.slice none 0 0)).setCell ⟨w.heap.size + 1, 9, none⟩ (.slice none 0 0)).setCell ⟨w.heap.size + 1, 10, none⟩ (.slice (some ⟨w0.heap.size, 0, none⟩) n n)).setCell ⟨w.heap.size + 1, 11, none⟩ (.slice none 0 0)) := Keep.setCell (Keep.setCell (Keep.setCell (Keep.setCell (Keep.setCell (Keep.setCell (Keep.setCell (Keep.setCell (Keep.setCell (Keep.setCell (Keep.setCell (Keep.setCell (Keep.refl _ w1) (p := ⟨w.heap.size + 1, 0, none⟩) (fun h => h rfl) _) (p := ⟨w.heap.size + 1, 1, none⟩) (fun h => h rfl) _) (p := ⟨w.heap.size + 1, 2, none⟩) (fun h => h rfl) _) (p := ⟨w.heap.size + 1, 3, none⟩) (fun h => h rfl) _) (p := ⟨w.heap.size + 1, 4, none⟩) (fun h => h rfl) _) (p := ⟨w.heap.size + 1, 5, none⟩) (fun h => h rfl) _) (p := ⟨w.heap.size + 1, 6, none⟩) (fun h => h rfl) _) (p := ⟨w.heap.size + 1, 7, none⟩) (fun h => h rfl) _) (p := ⟨w.heap.size + 1, 8, none⟩) (fun h => h rfl) _) (p := ⟨w.heap.size + 1, 9, none⟩) (fun h => h rfl) _) (p := ⟨w.heap.size + 1, 10, none⟩) (fun h => h rfl) _) (p := ⟨w.heap.size + 1, 11, none⟩) (fun h => h rfl) _
    have COE := HCO.out.keep KO (by omega)
    refine bodyPost_ret (v := .agg #[.int .i64 c.streams, .int .i64 c.part, .int .i64 c.packet, .int .i64 c.paths, .int .i64 c.turns, .int .i64 c.waiting, .int .i64 c.first, .int .i64 (c.first - 1), .slice none 0 0, .slice none 0 0, .slice (some ⟨w0.heap.size, 0, none⟩) n n, .slice none 0 0]) (by simp [results, Try.results23, go_sem, e0, e1, e2, e3, e4, e5, e6, e7, e8, e9, e10, e11]) rfl ?_
    rw [HNM.out]
    refine ⟨_, _, _, _, rfl, ⟨Sl.nil' _ _, SlG.nil _ _ _ _, In.block COE (by simp; omega) (by simp) (by simp; omega) (fun z hz => by have := (List.mem_replicate.1 hz).2; subst this; exact ⟨by omega, by omega⟩), SlG.nil _ _ _ _⟩, BE⟩
end Go.Proofs.Ytnddejdndipddad
