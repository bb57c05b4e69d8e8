/- The contract of paths' Late. -/
import Derived.Test.YtnddejdndipddadPtB
set_option maxRecDepth 20000
namespace Go.Proofs.Ytnddejdndipddad
open Go.RowKit

theorem put7_past {X Y : Nat} {w : World} {l : List Value} (h : Cells X w l) (hne : X ≠ Y) (p : Pt) : Cells X (put7 Y w p) l :=
  h.keep (S := fun k => k ≠ Y) (((((((Keep.setCell (Keep.refl _ _) (p := ⟨Y, 0, none⟩) (fun e => e rfl) _).setCell (p := ⟨Y, 1, none⟩) (fun e => e rfl) _).setCell (p := ⟨Y, 2, none⟩) (fun e => e rfl) _).setCell (p := ⟨Y, 3, none⟩) (fun e => e rfl) _).setCell (p := ⟨Y, 4, none⟩) (fun e => e rfl) _).setCell (p := ⟨Y, 5, none⟩) (fun e => e rfl) _).setCell (p := ⟨Y, 6, none⟩) (fun e => e rfl) _) hne
theorem below_drew {B : Nat} {w w' : World} (h : Below B w w') : Below B w w'.drew := ⟨h.os, h.tape, h.output, h.size, h.block⟩

set_option maxHeartbeats 1000000 in
theorem late_any (p : Pt) (n : Int) (w : World) (hp : PtOk p) (h1 : 1 ≤ n) (h2 : n ≤ 16) : Calls Try.prog 14 #[ptVal p, .int .i64 n] w fun e w' => e = .returned (ptVal (lateP p n)) ∧ Below w.heap.size w w' := by
  obtain ⟨w0, w1, p0, p1, e0, e1, t0, t1⟩ := hp
  have SL := fun wx => slower_any p n wx w0 w1 h1 h2
  have LO := fun wx => longer_any p.wait wx t0 t1
  obtain ⟨window, slow, part, flight, errors, alarm, wait⟩ := p
  have hS : (lateP ⟨window, slow, part, flight, errors, alarm, wait⟩ n) = ⟨n, slowP window n, 0, 0, errors + 1, 0, min (2 * wait) 24⟩ := rfl
  rw [hS]
  clear hS
  simp only at SL LO
  generalize slowP window n = z at *
  generalize min (2 * wait) 24 = y at *
  simp only [ptVal] at *
  have B2 := two_below' w (.cells #[.int .i64 window, .int .i64 slow, .int .i64 part, .int .i64 flight, .int .i64 errors, .int .i64 alarm, .int .i64 wait] 23) (.cells #[.int .i64 0, .int .i64 0, .int .i64 0, .int .i64 0, .int .i64 0, .int .i64 0, .int .i64 0] 23)
  have CP := (Cells.new w #[.int .i64 window, .int .i64 slow, .int .i64 part, .int .i64 flight, .int .i64 errors, .int .i64 alarm, .int .i64 wait] 23).alloc (by simp) (.cells #[.int .i64 0, .int .i64 0, .int .i64 0, .int .i64 0, .int .i64 0, .int .i64 0, .int .i64 0] 23)
  have CX : Cells (w.heap.size + 1) ((w.alloc (.cells #[.int .i64 window, .int .i64 slow, .int .i64 part, .int .i64 flight, .int .i64 errors, .int .i64 alarm, .int .i64 wait] 23)).alloc (.cells #[.int .i64 0, .int .i64 0, .int .i64 0, .int .i64 0, .int .i64 0, .int .i64 0, .int .i64 0] 23)) _ := Cells.new' #[.int .i64 0, .int .i64 0, .int .i64 0, .int .i64 0, .int .i64 0, .int .i64 0, .int .i64 0] 23 (by simp)
  have hz : ((w.alloc (.cells #[.int .i64 window, .int .i64 slow, .int .i64 part, .int .i64 flight, .int .i64 errors, .int .i64 alarm, .int .i64 wait] 23)).alloc (.cells #[.int .i64 0, .int .i64 0, .int .i64 0, .int .i64 0, .int .i64 0, .int .i64 0, .int .i64 0] 23)).heap.size = w.heap.size + 2 := by simp
  go_enter Try.func14, Try.ntmps14
  go_wp2_with fail
  generalize ((w.alloc (.cells #[.int .i64 window, .int .i64 slow, .int .i64 part, .int .i64 flight, .int .i64 errors, .int .i64 alarm, .int .i64 wait] 23)).alloc (.cells #[.int .i64 0, .int .i64 0, .int .i64 0, .int .i64 0, .int .i64 0, .int .i64 0, .int .i64 0] 23)) = w2 at *
  have KX : ∀ wx, Below w2.heap.size w2 wx → (wx.cell? ⟨w.heap.size, 0, none⟩ = some (.int .i64 window) ∧ wx.cell? ⟨w.heap.size, 1, none⟩ = some (.int .i64 slow) ∧ wx.cell? ⟨w.heap.size, 2, none⟩ = some (.int .i64 part) ∧ wx.cell? ⟨w.heap.size, 3, none⟩ = some (.int .i64 flight) ∧ wx.cell? ⟨w.heap.size, 4, none⟩ = some (.int .i64 errors) ∧ wx.cell? ⟨w.heap.size, 5, none⟩ = some (.int .i64 alarm) ∧ wx.cell? ⟨w.heap.size, 6, none⟩ = some (.int .i64 wait)) := fun wx hx => by
    have h := CP.below hx (by omega)
    exact ⟨h.cell 0 _ rfl, h.cell 1 _ rfl, h.cell 2 _ rfl, h.cell 3 _ rfl, h.cell 4 _ rfl, h.cell 5 _ rfl, h.cell 6 _ rfl⟩
  have KQ : ∀ wx w3, Below w2.heap.size w2 wx → Below wx.heap.size wx w3 → Below w2.heap.size w2 w3 ∧ Cells (w.heap.size + 1) w3 [.int .i64 0, .int .i64 0, .int .i64 0, .int .i64 0, .int .i64 0, .int .i64 0, .int .i64 0] := fun wx w3 hx h3 =>
    ⟨hx.trans (h3.mono hx.size), CX.below (hx.trans (h3.mono hx.size)) (by omega)⟩
  have X0 := KX _ (Below.refl _ _)
  have SB : ∀ wx, Calls Try.prog 40 #[.agg #[.int .i64 window, .int .i64 slow, .int .i64 part, .int .i64 flight, .int .i64 errors, .int .i64 alarm, .int .i64 wait], .int .i64 n] wx fun e w' => e = .returned (.int .i64 z) ∧ Below wx.heap.size wx w' := fun wx => (SL wx).mono fun e w' ⟨h, h'⟩ => ⟨h, h' ▸ box_below _ _⟩
  have KZ : ∀ wx (q : Pt), Below w2.heap.size w2 wx → ((put7 (w.heap.size + 1) wx q).cell? ⟨w.heap.size, 0, none⟩ = some (.int .i64 window) ∧ (put7 (w.heap.size + 1) wx q).cell? ⟨w.heap.size, 1, none⟩ = some (.int .i64 slow) ∧ (put7 (w.heap.size + 1) wx q).cell? ⟨w.heap.size, 2, none⟩ = some (.int .i64 part) ∧ (put7 (w.heap.size + 1) wx q).cell? ⟨w.heap.size, 3, none⟩ = some (.int .i64 flight) ∧ (put7 (w.heap.size + 1) wx q).cell? ⟨w.heap.size, 4, none⟩ = some (.int .i64 errors) ∧ (put7 (w.heap.size + 1) wx q).cell? ⟨w.heap.size, 5, none⟩ = some (.int .i64 alarm) ∧ (put7 (w.heap.size + 1) wx q).cell? ⟨w.heap.size, 6, none⟩ = some (.int .i64 wait)) := fun wx q hx => by
    have h := put7_past (CP.below hx (by omega)) (Y := w.heap.size + 1) (by omega) q
    exact ⟨h.cell 0 _ rfl, h.cell 1 _ rfl, h.cell 2 _ rfl, h.cell 3 _ rfl, h.cell 4 _ rfl, h.cell 5 _ rfl, h.cell 6 _ rfl⟩
  simp only [put7] at KZ
  clear CP SL CX
  go_region_held3 (fun w' => w'.cell? ⟨w.heap.size, 0, none⟩ = some (.int .i64 window) ∧ w'.cell? ⟨w.heap.size, 1, none⟩ = some (.int .i64 slow) ∧ w'.cell? ⟨w.heap.size, 2, none⟩ = some (.int .i64 part) ∧ w'.cell? ⟨w.heap.size, 3, none⟩ = some (.int .i64 flight) ∧ w'.cell? ⟨w.heap.size, 4, none⟩ = some (.int .i64 errors) ∧ w'.cell? ⟨w.heap.size, 5, none⟩ = some (.int .i64 alarm) ∧ w'.cell? ⟨w.heap.size, 6, none⟩ = some (.int .i64 wait)) (first | with_reducible exact X0 | with_reducible exact X1 | (simp only [World.cell?_drew]; with_reducible exact X0) | (simp only [World.cell?_drew]; with_reducible exact X1) | exact KZ _ ⟨n, z, 0, 0, IntKind.i64.wrap (errors + 1), 0, y⟩ B3) (first
    | (go_at_call 40; refine (SB _).mono ?_; rintro e w3 ⟨rfl, b3⟩; obtain ⟨B3, C3⟩ := KQ _ w3 (by repeat (first | with_reducible exact Below.refl _ _ | with_reducible refine below_drew ?_)) b3; have X1 := KX _ B3; have r0 := C3.cell 0 _ rfl; have r1 := C3.cell 1 _ rfl; have r2 := C3.cell 2 _ rfl; have r3 := C3.cell 3 _ rfl; have r4 := C3.cell 4 _ rfl; have r5 := C3.cell 5 _ rfl; have r6 := C3.cell 6 _ rfl; have f0 := C3.fz 0; have f1 := C3.fz 1; have f2 := C3.fz 2; have f3 := C3.fz 3; have f4 := C3.fz 4; have f5 := C3.fz 5; have f6 := C3.fz 6)
    | (go_at_call 41; refine (LO _).mono ?_; rintro e w4 ⟨rfl, rfl⟩))
  have hwr : IntKind.i64.wrap (errors + 1) = errors + 1 := by simp [IntKind.wrap, IntKind.signed, IntKind.bits]; omega
  have CE := put7_cells C3 rfl ⟨n, z, 0, 0, errors + 1, 0, y⟩
  have z0 := CE.cell 0 _ rfl
  have z1 := CE.cell 1 _ rfl
  have z2 := CE.cell 2 _ rfl
  have z3 := CE.cell 3 _ rfl
  have z4 := CE.cell 4 _ rfl
  have z5 := CE.cell 5 _ rfl
  have z6 := CE.cell 6 _ rfl
  simp only [put7] at z0 z1 z2 z3 z4 z5 z6
  go_wp2_with fail
  refine bodyPost_ret (v := .agg #[.int .i64 n, .int .i64 z, .int .i64 0, .int .i64 0, .int .i64 (errors + 1), .int .i64 0, .int .i64 y]) (by simp [results, Try.results14, go_sem, z0, z1, z2, z3, z4, z5, z6]) rfl ⟨rfl, put7_below (p := ⟨n, z, 0, 0, errors + 1, 0, y⟩) (B2.trans (B3.mono B2.size)) (Nat.le_succ _)⟩
/-- A path in a block, as values. -/
theorem put7_ret {X : Nat} {w : World} {l : List Value} (h : Cells X w l) (hl : l.length = 7) (p : Pt) : (put7 X w p).cell? ⟨X, 0, none⟩ = some (.int .i64 p.window) ∧ (put7 X w p).cell? ⟨X, 1, none⟩ = some (.int .i64 p.slow) ∧ (put7 X w p).cell? ⟨X, 2, none⟩ = some (.int .i64 p.part) ∧ (put7 X w p).cell? ⟨X, 3, none⟩ = some (.int .i64 p.flight) ∧ (put7 X w p).cell? ⟨X, 4, none⟩ = some (.int .i64 p.errors) ∧ (put7 X w p).cell? ⟨X, 5, none⟩ = some (.int .i64 p.alarm) ∧ (put7 X w p).cell? ⟨X, 6, none⟩ = some (.int .i64 p.wait) := by
  have c := put7_cells h hl p
  exact ⟨c.cell 0 _ rfl, c.cell 1 _ rfl, c.cell 2 _ rfl, c.cell 3 _ rfl, c.cell 4 _ rfl, c.cell 5 _ rfl, c.cell 6 _ rfl⟩
end Go.Proofs.Ytnddejdndipddad
