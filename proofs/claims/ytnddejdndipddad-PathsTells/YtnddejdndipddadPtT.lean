/- The walk of PathsTells. -/
import Derived.Test.YtnddejdndipddadPtH
set_option maxRecDepth 20000
namespace Go.Proofs.Ytnddejdndipddad
open Go.RowKit

theorem run_eql_pt (a b c d f g h : Int) (wx : World) : (binOp .eql 23 (.agg #[.int .i64 a, .int .i64 b, .int .i64 c, .int .i64 d, .int .i64 f, .int .i64 g, .int .i64 h]) (.agg #[.int .i64 a, .int .i64 b, .int .i64 c, .int .i64 d, .int .i64 f, .int .i64 g, .int .i64 h])).run Try.prog wx = .ok (.bool true) wx := by
  go_simp

set_option maxHeartbeats 8000000 in
theorem ptells_walk (p : Pt) (bytes n : Int) (moved : Bool) (v : Value) (l : List Pt) (w : World) (hv : PtS w.heap.size w v l) : Calls Try.prog 3 #[ptVal p, .int .i64 bytes, .int .i64 n, .bool moved, v] w fun e w' => e = .returned (.bool true) ∧ Below w.heap.size w w' := by
  have HV := hv
  obtain ⟨a, cap, rfl, hc1, hc2⟩ := hv.ex
  have CH : ∀ wx, Below w.heap.size w wx → Calls Try.prog 17 #[.slice a l.length cap] wx fun e w' => e = .returned (.int .i64 (chooseP l)) ∧ Below wx.heap.size wx w' := fun wx hx => choose_any _ l wx (SlG.size PtV.bears HV hx (Nat.le_refl _))
  have RC : ∀ wx, Below w.heap.size w wx → Calls Try.prog 18 #[.slice a l.length cap] wx fun e w' => e = .returned (.int .i64 (chooseP l)) ∧ Below wx.heap.size wx w' := fun wx hx => rchoose_any _ l wx (SlG.size PtV.bears HV hx (Nat.le_refl _))
  generalize chooseP l = ch at *
  have OP := fun wx => open_any p wx
  have AK := fun hp h1 h2 b1 b2 wx => acked_any p bytes n moved wx hp h1 h2 b1 b2
  have RA := fun hp h1 h2 b1 b2 wx => racked_any p bytes n moved wx hp h1 h2 b1 b2
  have HA := fun h0 h0' h1 h2 wx => halved_any p n wx h0 h0' h1 h2
  have RH := fun h0 h0' h1 h2 wx => rhalved_any p n wx h0 h0' h1 h2
  have LA := fun hp h1 h2 wx => late_any p n wx hp h1 h2
  have RL := fun hp h1 h2 wx => rlate_any p n wx hp h1 h2
  have NW := fun h1 h2 wx => newP_any n wx h1 h2
  generalize ackedP p bytes n moved = qa at *
  generalize halvedP p n = qh at *
  generalize lateP p n = ql at *
  have hN : newP n = ⟨2 * n, 32 * n, 0, 0, 0, 0, 3⟩ := rfl
  rw [hN] at NW
  clear hN
  obtain ⟨window, slow, part, flight, errors, alarm, wait⟩ := p
  simp only [ptVal] at OP AK RA HA RH LA RL NW ⊢
  have B0 := box_below w (.cells #[.int .i64 window, .int .i64 slow, .int .i64 part, .int .i64 flight, .int .i64 errors, .int .i64 alarm, .int .i64 wait] 23)
  have CP := Cells.new w #[.int .i64 window, .int .i64 slow, .int .i64 part, .int .i64 flight, .int .i64 errors, .int .i64 alarm, .int .i64 wait] 23
  have l0 : w.heap.size < (w.alloc (.cells #[.int .i64 window, .int .i64 slow, .int .i64 part, .int .i64 flight, .int .i64 errors, .int .i64 alarm, .int .i64 wait] 23)).heap.size := by simp
  go_enter Try.func3, Try.ntmps3
  by_cases p0 : n < 1
  · go_wp2_with fail
    go_ret
    exact ⟨rfl, B0⟩
  by_cases p1 : n > 16
  · go_wp2_with fail
    go_ret
    exact ⟨rfl, B0⟩
  by_cases p2 : bytes < 0
  · go_wp2_with fail
    go_ret
    exact ⟨rfl, B0⟩
  by_cases p3 : bytes > 100000
  · go_wp2_with fail
    go_ret
    exact ⟨rfl, B0⟩
  by_cases p4 : window < 0
  · go_wp2_with fail
    go_ret
    exact ⟨rfl, B0⟩
  by_cases p5 : window > 1000000
  · go_wp2_with fail
    go_ret
    exact ⟨rfl, B0⟩
  by_cases p6 : part < 0
  · go_wp2_with fail
    go_ret
    exact ⟨rfl, B0⟩
  by_cases p7 : part > 1000000
  · go_wp2_with fail
    go_ret
    exact ⟨rfl, B0⟩
  by_cases p8 : wait < 0
  · go_wp2_with fail
    go_ret
    exact ⟨rfl, B0⟩
  by_cases p9 : wait > 1000000
  · go_wp2_with fail
    go_ret
    exact ⟨rfl, B0⟩
  by_cases p10 : errors < 0
  · go_wp2_with fail
    go_ret
    exact ⟨rfl, B0⟩
  by_cases p11 : errors > 1000000
  · go_wp2_with fail
    go_ret
    exact ⟨rfl, B0⟩
  have OK : PtOk ⟨window, slow, part, flight, errors, alarm, wait⟩ := by constructor <;> simp only <;> omega
  have AK := AK OK (by omega) (by omega) (by omega) (by omega)
  have RA := RA OK (by omega) (by omega) (by omega) (by omega)
  have HA := HA (by omega) (by omega) (by omega) (by omega)
  have RH := RH (by omega) (by omega) (by omega) (by omega)
  have LA := LA OK (by omega) (by omega)
  have RL := RL OK (by omega) (by omega)
  have NW := NW (by omega) (by omega)
  have EQ := run_eql_pt
  have W1 : IntKind.i64.wrap (2 * n) = 2 * n := by simp [IntKind.wrap, IntKind.signed, IntKind.bits]; omega
  have W2 : IntKind.i64.wrap (32 * n) = 32 * n := by simp [IntKind.wrap, IntKind.signed, IntKind.bits]; omega
  go_wp2_with fail
  generalize (w.alloc (.cells #[.int .i64 window, .int .i64 slow, .int .i64 part, .int .i64 flight, .int .i64 errors, .int .i64 alarm, .int .i64 wait] 23)) = w0 at *
  have KX : ∀ wx, Below w0.heap.size w0 wx → wx.cell? ⟨w.heap.size, 0, none⟩ = some (.int .i64 window) ∧ wx.cell? ⟨w.heap.size, 1, none⟩ = some (.int .i64 slow) ∧ wx.cell? ⟨w.heap.size, 2, none⟩ = some (.int .i64 part) ∧ wx.cell? ⟨w.heap.size, 3, none⟩ = some (.int .i64 flight) ∧ wx.cell? ⟨w.heap.size, 4, none⟩ = some (.int .i64 errors) ∧ wx.cell? ⟨w.heap.size, 5, none⟩ = some (.int .i64 alarm) ∧ wx.cell? ⟨w.heap.size, 6, none⟩ = some (.int .i64 wait) := fun wx hx => by
    have h := CP.below hx l0
    exact ⟨h.cell 0 _ rfl, h.cell 1 _ rfl, h.cell 2 _ rfl, h.cell 3 _ rfl, h.cell 4 _ rfl, h.cell 5 _ rfl, h.cell 6 _ rfl⟩
  have X0 := KX _ (Below.refl _ _)
  have BD : Below w0.heap.size w0 w0.drew := below_drew (Below.refl _ _)
  have Xd := KX _ BD
  have WB : ∀ {wx}, Below w0.heap.size w0 wx → Below w.heap.size w wx := fun h => B0.trans (h.mono B0.size)
  clear CP OK
  go_region_held3 (fun wx => wx.cell? ⟨w.heap.size, 0, none⟩ = some (.int .i64 window) ∧ wx.cell? ⟨w.heap.size, 1, none⟩ = some (.int .i64 slow) ∧ wx.cell? ⟨w.heap.size, 2, none⟩ = some (.int .i64 part) ∧ wx.cell? ⟨w.heap.size, 3, none⟩ = some (.int .i64 flight) ∧ wx.cell? ⟨w.heap.size, 4, none⟩ = some (.int .i64 errors) ∧ wx.cell? ⟨w.heap.size, 5, none⟩ = some (.int .i64 alarm) ∧ wx.cell? ⟨w.heap.size, 6, none⟩ = some (.int .i64 wait)) (first | with_reducible exact X0 | with_reducible exact Xd | with_reducible exact X1 | with_reducible exact X2 | with_reducible exact X3 | with_reducible exact X4 | with_reducible exact X5 | with_reducible exact X6 | with_reducible exact X7 | with_reducible exact X8 | with_reducible exact X9 | with_reducible exact X10 | fail) (first
    | (go_at_call 9; refine (NW _).mono ?_; rintro e w1 ⟨rfl, b1⟩; have B1 := BD.trans b1; have X1 := KX _ B1)
    | (go_at_call 10; refine (AK _).mono ?_; rintro e w2 ⟨rfl, b2⟩; have B2 := B1.trans (b2.mono B1.size); have X2 := KX _ B2)
    | (go_at_call 11; refine (RA _).mono ?_; rintro e w3 ⟨rfl, b3⟩; have B3 := B2.trans (b3.mono B2.size); have X3 := KX _ B3)
    | (go_at_call 12; refine (HA _).mono ?_; rintro e w4 ⟨rfl, b4⟩; have B4 := B3.trans (b4.mono B3.size); have X4 := KX _ B4)
    | (go_at_call 13; refine (RH _).mono ?_; rintro e w5 ⟨rfl, b5⟩; have B5 := B4.trans (b5.mono B4.size); have X5 := KX _ B5)
    | (go_at_call 14; refine (LA _).mono ?_; rintro e w6 ⟨rfl, b6⟩; have B6 := B5.trans (b6.mono B5.size); have X6 := KX _ B6)
    | (go_at_call 15; refine (RL _).mono ?_; rintro e w7 ⟨rfl, b7⟩; have B7 := B6.trans (b7.mono B6.size); have X7 := KX _ B7)
    | (go_at_call 16; refine (OP _).mono ?_; rintro e w8 ⟨rfl, b8⟩; have B8 := B7.trans (b8.mono B7.size); have X8 := KX _ B8)
    | (go_at_call 17; refine (CH _ (WB B8)).mono ?_; rintro e w9 ⟨rfl, b9⟩; have B9 := B8.trans (b9.mono B8.size); have X9 := KX _ B9)
    | (go_at_call 18; refine (RC _ (WB B9)).mono ?_; rintro e w10 ⟨rfl, b10⟩; have B10 := B9.trans (b10.mono B9.size); have X10 := KX _ B10))
  all_goals
    go_wp2_with fail
    go_ret
    exact ⟨ret_bool (by simp), WB B10⟩
end Go.Proofs.Ytnddejdndipddad
