/- What is asked first of paths' statements: alive. -/
import Derived.Test.YtnddejdndipddadPtF
set_option maxRecDepth 20000
namespace Go.Proofs.Ytnddejdndipddad
open Go.RowKit

/-- A path's seven cells. -/
theorem PtC7 {X : Nat} {w : World} {p : Pt} (h : Cells X w (ptA p).toList) : w.cell? ⟨X, 0, none⟩ = some (.int .i64 p.window) ∧ w.cell? ⟨X, 1, none⟩ = some (.int .i64 p.slow) ∧ w.cell? ⟨X, 2, none⟩ = some (.int .i64 p.part) ∧ w.cell? ⟨X, 3, none⟩ = some (.int .i64 p.flight) ∧ w.cell? ⟨X, 4, none⟩ = some (.int .i64 p.errors) ∧ w.cell? ⟨X, 5, none⟩ = some (.int .i64 p.alarm) ∧ w.cell? ⟨X, 6, none⟩ = some (.int .i64 p.wait) :=
  ⟨h.cell 0 _ rfl, h.cell 1 _ rfl, h.cell 2 _ rfl, h.cell 3 _ rfl, h.cell 4 _ rfl, h.cell 5 _ rfl, h.cell 6 _ rfl⟩

set_option maxHeartbeats 1000000 in
theorem aliveP_any (w : World) : Calls Try.prog 19 #[] w fun e w' => e = .returned (.bool true) ∧ Below w.heap.size w w' := by
  have e1 : newP 4 = ⟨8, 128, 0, 0, 0, 0, 3⟩ := by rfl
  have e2 : ackedP ⟨8, 128, 0, 0, 0, 0, 3⟩ 8 4 true = ⟨12, 128, 0, 0, 0, 0, 3⟩ := by rfl
  have e3 : lateP ⟨12, 128, 0, 0, 0, 0, 3⟩ 4 = ⟨4, 16, 0, 0, 1, 0, 6⟩ := by rfl
  have e4 : halvedP ⟨12, 128, 0, 0, 0, 0, 3⟩ 4 = ⟨12, 16, 0, 0, 0, 0, 3⟩ := by rfl
  have e5 : chooseP [⟨0, 0, 0, 0, 9, 0, 0⟩, ⟨0, 0, 0, 0, 0, 0, 0⟩] = 1 := by rfl
  have N1 := fun wx => newP_any 4 wx (by decide) (by decide)
  have A1 := fun wx => acked_any ⟨8, 128, 0, 0, 0, 0, 3⟩ 8 4 true wx (by constructor <;> decide) (by decide) (by decide) (by decide) (by decide)
  have L1 := fun wx => late_any ⟨12, 128, 0, 0, 0, 0, 3⟩ 4 wx (by constructor <;> decide) (by decide) (by decide)
  have H1 := fun wx => halved_any ⟨12, 128, 0, 0, 0, 0, 3⟩ 4 wx (by decide) (by decide) (by decide) (by decide)
  have O1 := fun wx => open_any ⟨8, 128, 0, 0, 0, 0, 3⟩ wx
  rw [e1] at N1
  rw [e2] at A1
  rw [e3] at L1
  rw [e4] at H1
  simp only [ptVal] at N1 A1 L1 H1 O1
  go_enter Try.func19, Try.ntmps19
  go_wp2_with fail
  refine (N1 _).mono ?_
  rintro e w1 ⟨rfl, b1⟩
  have B1 := b1.alloc b1.size (.cells #[.int .i64 8, .int .i64 128, .int .i64 0, .int .i64 0, .int .i64 0, .int .i64 0, .int .i64 3] 23)
  have C1 := Cells.new w1 #[.int .i64 8, .int .i64 128, .int .i64 0, .int .i64 0, .int .i64 0, .int .i64 0, .int .i64 3] 23
  have l1 : w1.heap.size < (w1.alloc (.cells #[.int .i64 8, .int .i64 128, .int .i64 0, .int .i64 0, .int .i64 0, .int .i64 0, .int .i64 3] 23)).heap.size := by simp
  go_wp2_with fail
  generalize (w1.alloc (.cells #[.int .i64 8, .int .i64 128, .int .i64 0, .int .i64 0, .int .i64 0, .int .i64 0, .int .i64 3] 23)) = w2 at *
  generalize w1.heap.size = X at *
  clear b1
  refine (A1 _).mono ?_
  rintro e w3 ⟨rfl, b3⟩
  have B3 := (B1.trans (b3.mono B1.size)).alloc (B1.trans (b3.mono B1.size)).size (.cells #[.int .i64 12, .int .i64 128, .int .i64 0, .int .i64 0, .int .i64 0, .int .i64 0, .int .i64 3] 23)
  have C3 := (C1.below b3 l1).alloc (Nat.lt_of_lt_of_le l1 b3.size) (.cells #[.int .i64 12, .int .i64 128, .int .i64 0, .int .i64 0, .int .i64 0, .int .i64 0, .int .i64 3] 23)
  have D3 := Cells.new w3 #[.int .i64 12, .int .i64 128, .int .i64 0, .int .i64 0, .int .i64 0, .int .i64 0, .int .i64 3] 23
  have l3 : X < (w3.alloc (.cells #[.int .i64 12, .int .i64 128, .int .i64 0, .int .i64 0, .int .i64 0, .int .i64 0, .int .i64 3] 23)).heap.size := by have := b3.size; simp; omega
  have m3 : w3.heap.size < (w3.alloc (.cells #[.int .i64 12, .int .i64 128, .int .i64 0, .int .i64 0, .int .i64 0, .int .i64 0, .int .i64 3] 23)).heap.size := by simp
  go_wp2_with fail
  generalize (w3.alloc (.cells #[.int .i64 12, .int .i64 128, .int .i64 0, .int .i64 0, .int .i64 0, .int .i64 0, .int .i64 3] 23)) = w4 at *
  generalize w3.heap.size = Y at *
  clear b3 C1
  refine (L1 _).mono ?_
  rintro e w5 ⟨rfl, b5⟩
  have B5 := (B3.trans (b5.mono B3.size)).alloc (B3.trans (b5.mono B3.size)).size (.cells #[.int .i64 4, .int .i64 16, .int .i64 0, .int .i64 0, .int .i64 1, .int .i64 0, .int .i64 6] 23)
  have C5 := (C3.below b5 l3).alloc (Nat.lt_of_lt_of_le l3 b5.size) (.cells #[.int .i64 4, .int .i64 16, .int .i64 0, .int .i64 0, .int .i64 1, .int .i64 0, .int .i64 6] 23)
  have D5 := (D3.below b5 m3).alloc (Nat.lt_of_lt_of_le m3 b5.size) (.cells #[.int .i64 4, .int .i64 16, .int .i64 0, .int .i64 0, .int .i64 1, .int .i64 0, .int .i64 6] 23)
  have E5 := Cells.new w5 #[.int .i64 4, .int .i64 16, .int .i64 0, .int .i64 0, .int .i64 1, .int .i64 0, .int .i64 6] 23
  have l5 : X < (w5.alloc (.cells #[.int .i64 4, .int .i64 16, .int .i64 0, .int .i64 0, .int .i64 1, .int .i64 0, .int .i64 6] 23)).heap.size := by have := b5.size; simp; omega
  have m5 : Y < (w5.alloc (.cells #[.int .i64 4, .int .i64 16, .int .i64 0, .int .i64 0, .int .i64 1, .int .i64 0, .int .i64 6] 23)).heap.size := by have := b5.size; simp; omega
  have n5 : w5.heap.size < (w5.alloc (.cells #[.int .i64 4, .int .i64 16, .int .i64 0, .int .i64 0, .int .i64 1, .int .i64 0, .int .i64 6] 23)).heap.size := by simp
  have x5 := C5.cell 0 _ rfl
  have y5 := D5.cell 0 _ rfl
  have y51 := D5.cell 1 _ rfl
  have y52 := D5.cell 2 _ rfl
  have y53 := D5.cell 3 _ rfl
  have y54 := D5.cell 4 _ rfl
  have y55 := D5.cell 5 _ rfl
  have y56 := D5.cell 6 _ rfl
  have z5 := E5.cell 0 _ rfl
  have z54 := E5.cell 4 _ rfl
  go_wp2_with fail
  generalize (w5.alloc (.cells #[.int .i64 4, .int .i64 16, .int .i64 0, .int .i64 0, .int .i64 1, .int .i64 0, .int .i64 6] 23)) = w6 at *
  generalize w5.heap.size = Z at *
  have B6 := B5
  refine (H1 _).mono ?_
  rintro e w7 ⟨rfl, b7⟩
  have B7 := B6.trans (b7.mono B6.size)
  have C7 := C5.below b7 l5
  have x70 := C7.cell 0 _ rfl
  have x71 := C7.cell 1 _ rfl
  have x72 := C7.cell 2 _ rfl
  have x73 := C7.cell 3 _ rfl
  have x74 := C7.cell 4 _ rfl
  have x75 := C7.cell 5 _ rfl
  have x76 := C7.cell 6 _ rfl
  clear x5 y5 y51 y52 y53 y54 y55 y56 z5 z54
  have hf1 : ∀ (a b c d f g : Value) (wx : World), (Instr.field 23 (.agg #[a, .int .i64 16, b, c, d, f, g]) 1).run Try.prog wx = .ok (.int .i64 16) wx := fun a b c d f g wx => by kernel_rfl
  go_wp2_with fail
  refine (O1 _).mono ?_
  rintro e w8 ⟨rfl, b8⟩
  have B8 := B7.trans (b8.mono B7.size)
  clear x70 x71 x72 x73 x74 x75 x76
  have hd : decide ((0 : Int) < 8) = true := rfl
  rw [hd]
  have PS : PtS (w8.alloc (.cells #[.int .i64 0, .int .i64 0, .int .i64 0, .int .i64 0, .int .i64 9, .int .i64 0, .int .i64 0, .int .i64 0, .int .i64 0, .int .i64 0, .int .i64 0, .int .i64 0, .int .i64 0, .int .i64 0] 23)).heap.size (w8.alloc (.cells #[.int .i64 0, .int .i64 0, .int .i64 0, .int .i64 0, .int .i64 9, .int .i64 0, .int .i64 0, .int .i64 0, .int .i64 0, .int .i64 0, .int .i64 0, .int .i64 0, .int .i64 0, .int .i64 0] 23)) (.slice (some ⟨w8.heap.size, 0, none⟩) 2 2) [⟨0, 0, 0, 0, 9, 0, 0⟩, ⟨0, 0, 0, 0, 0, 0, 0⟩] :=
    SlG.cells (vs := [ptVal ⟨0, 0, 0, 0, 9, 0, 0⟩, ptVal ⟨0, 0, 0, 0, 0, 0, 0⟩]) ⟨rfl, rfl, trivial⟩ rfl (Cells.new w8 #[.int .i64 0, .int .i64 0, .int .i64 0, .int .i64 0, .int .i64 9, .int .i64 0, .int .i64 0, .int .i64 0, .int .i64 0, .int .i64 0, .int .i64 0, .int .i64 0, .int .i64 0, .int .i64 0] 23) (by simp) rfl (Nat.le_refl _) (by omega)
  have CH := choose_any _ _ _ PS
  rw [e5] at CH
  have B9 := B8.alloc B8.size (.cells #[.int .i64 0, .int .i64 0, .int .i64 0, .int .i64 0, .int .i64 9, .int .i64 0, .int .i64 0, .int .i64 0, .int .i64 0, .int .i64 0, .int .i64 0, .int .i64 0, .int .i64 0, .int .i64 0] 23)
  go_wp2_with fail
  refine CH.mono ?_
  rintro e w10 ⟨rfl, b10⟩
  have B10 := B9.trans (b10.mono B9.size)
  go_wp2_with fail
  go_ret
  exact ⟨rfl, B10⟩
end Go.Proofs.Ytnddejdndipddad
