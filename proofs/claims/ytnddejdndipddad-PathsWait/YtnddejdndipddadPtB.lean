/- The contracts of paths' functions. -/
import Derived.Test.YtnddejdndipddadPtG
set_option maxRecDepth 20000
namespace Go.Proofs.Ytnddejdndipddad
open Go.RowKit

/-- A path, written whole into a block. -/
def put7 (X : Nat) (w : World) (p : Pt) : World := ((((((w.setCell ⟨X, 0, none⟩ (.int .i64 p.window)).setCell ⟨X, 1, none⟩ (.int .i64 p.slow)).setCell ⟨X, 2, none⟩ (.int .i64 p.part)).setCell ⟨X, 3, none⟩ (.int .i64 p.flight)).setCell ⟨X, 4, none⟩ (.int .i64 p.errors)).setCell ⟨X, 5, none⟩ (.int .i64 p.alarm)).setCell ⟨X, 6, none⟩ (.int .i64 p.wait)
theorem put7_cells {X : Nat} {w : World} {l : List Value} (h : Cells X w l) (hl : l.length = 7) (p : Pt) : Cells X (put7 X w p) (ptA p).toList := by
  match l, hl with
  | [c0, c1, c2, c3, c4, c5, c6], _ =>
    exact ((((((h.set 0 (.int .i64 p.window) (by simp)).set 1 (.int .i64 p.slow) (by simp)).set 2 (.int .i64 p.part) (by simp)).set 3 (.int .i64 p.flight) (by simp)).set 4 (.int .i64 p.errors) (by simp)).set 5 (.int .i64 p.alarm) (by simp)).set 6 (.int .i64 p.wait) (by simp)
theorem put7_below {X B : Nat} {w0 w : World} (h : Below B w0 w) (hX : B ≤ X) (p : Pt) : Below B w0 (put7 X w p) :=
  ((((((h.setCell (p := ⟨X, 0, none⟩) hX _).setCell (p := ⟨X, 1, none⟩) hX _).setCell (p := ⟨X, 2, none⟩) hX _).setCell (p := ⟨X, 3, none⟩) hX _).setCell (p := ⟨X, 4, none⟩) hX _).setCell (p := ⟨X, 5, none⟩) hX _).setCell (p := ⟨X, 6, none⟩) hX _
theorem two_below' (w : World) (o o' : Obj) : Below w.heap.size w ((w.alloc o).alloc o') := (box_below w o).alloc (by simp) _

set_option maxHeartbeats 400000 in
theorem newP_any (n : Int) (w : World) (h1 : 1 ≤ n) (h2 : n ≤ 16) : Calls Try.prog 9 #[.int .i64 n] w fun e w' => e = .returned (ptVal (newP n)) ∧ Below w.heap.size w w' := by
  have HB := fun o => box_below w o
  go_enter Try.func9, Try.ntmps9
  go_wp2
  exact bodyPost_ret (v := ptVal (newP n)) (by simp [results, Try.results9, go_sem, ptVal, newP]) rfl ⟨rfl, HB _⟩

set_option maxHeartbeats 400000 in
theorem slower_any (p : Pt) (n : Int) (w : World) (hw : 0 ≤ p.window) (hw2 : p.window ≤ 10000000) (h1 : 1 ≤ n) (h2 : n ≤ 16) : Calls Try.prog 40 #[ptVal p, .int .i64 n] w fun e w' => e = .returned (.int .i64 (slowP p.window n)) ∧ w' = w.alloc (.cells (ptA p) 23) := by
  obtain ⟨window, slow, part, flight, errors, alarm, wait⟩ := p
  simp only [ptVal] at *
  go_enter Try.func40, Try.ntmps40
  go_wp2
  all_goals (go_ret; exact ⟨ret_int (by unfold slowP; omega), rfl⟩)

set_option maxHeartbeats 400000 in
theorem longer_any (x : Int) (w : World) (h1 : 0 ≤ x) (h2 : x ≤ 10000000) : Calls Try.prog 41 #[.int .i64 x] w fun e w' => e = .returned (.int .i64 (min (2 * x) 24)) ∧ w' = w := by
  by_cases h : 24 < x
  · go_enter Try.func41, Try.ntmps41
    go_wp2
    all_goals (go_ret; exact ⟨ret_int (by omega), rfl⟩)
  · go_enter Try.func41, Try.ntmps41
    go_wp2
    all_goals (go_ret; exact ⟨ret_int (by omega), rfl⟩)

def gatherP (p : Pt) (bytes n : Int) : Pt := if p.part + bytes < p.window then ⟨p.window, p.slow, p.part + bytes, p.flight, p.errors, p.alarm, p.wait⟩ else ⟨p.window + n, p.slow, p.part + bytes - p.window, p.flight, p.errors, p.alarm, p.wait⟩

set_option maxHeartbeats 400000 in
theorem gathered_any (p : Pt) (bytes n : Int) (w : World) (hp : PtOk p) (h1 : 1 ≤ n) (h2 : n ≤ 16) (b1 : 0 ≤ bytes) (b2 : bytes ≤ 100000) : Calls Try.prog 39 #[ptVal p, .int .i64 bytes, .int .i64 n] w fun e w' => e = .returned (ptVal (gatherP p bytes n)) ∧ Below w.heap.size w w' := by
  have HB := fun o o' => two_below' w o o'
  obtain ⟨w0, w1, p0, p1, e0, e1, t0, t1⟩ := hp
  by_cases h : bytes < p.window - p.part
  · have hE : gatherP p bytes n = ⟨p.window, p.slow, p.part + bytes, p.flight, p.errors, p.alarm, p.wait⟩ := if_pos (by omega)
    rw [hE]
    clear hE
    obtain ⟨window, slow, part, flight, errors, alarm, wait⟩ := p
    simp only [ptVal] at *
    go_enter Try.func39, Try.ntmps39
    go_wp2
    exact bodyPost_ret (v := ptVal ⟨window, slow, part + bytes, flight, errors, alarm, wait⟩) (by simp [results, Try.results39, go_sem, ptVal]) rfl ⟨rfl, HB _ _⟩
  · have hE : gatherP p bytes n = ⟨p.window + n, p.slow, bytes - (p.window - p.part), p.flight, p.errors, p.alarm, p.wait⟩ := by rw [gatherP, if_neg (by omega)]; congr 1; omega
    rw [hE]
    clear hE
    obtain ⟨window, slow, part, flight, errors, alarm, wait⟩ := p
    simp only [ptVal] at *
    go_enter Try.func39, Try.ntmps39
    go_wp2
    exact bodyPost_ret (v := ptVal ⟨window + n, slow, bytes - (window - part), flight, errors, alarm, wait⟩) (by simp [results, Try.results39, go_sem, ptVal]) rfl ⟨rfl, HB _ _⟩

set_option maxHeartbeats 400000 in
theorem acked_any (p : Pt) (bytes n : Int) (moved : Bool) (w : World) (hp : PtOk p) (h1 : 1 ≤ n) (h2 : n ≤ 16) (b1 : 0 ≤ bytes) (b2 : bytes ≤ 100000) : Calls Try.prog 10 #[ptVal p, .int .i64 bytes, .int .i64 n, .bool moved] w fun e w' => e = .returned (ptVal (ackedP p bytes n moved)) ∧ Below w.heap.size w w' := by
  have HB := fun o o' => two_below' w o o'
  have GA := fun (q : Pt) wx hq => gathered_any q bytes n wx hq h1 h2 b1 b2
  have HP := hp
  obtain ⟨w0, w1, p0, p1, e0, e1, t0, t1⟩ := hp
  cases moved with
  | false =>
    have hE : ackedP p bytes n false = p := rfl
    rw [hE]
    clear hE GA HP
    obtain ⟨window, slow, part, flight, errors, alarm, wait⟩ := p
    simp only [ptVal] at *
    go_enter Try.func10, Try.ntmps10
    go_wp2_with fail
    exact bodyPost_ret (v := ptVal ⟨window, slow, part, flight, errors, alarm, wait⟩) (by simp [results, Try.results10, go_sem, ptVal]) rfl ⟨rfl, HB _ _⟩
  | true =>
  cases hb : (bytes == 0) with
  | true =>
    have hE : ackedP p bytes n true = ⟨p.window, p.slow, p.part, p.flight, 0, 0, 3⟩ := by rw [ackedP, if_neg (by simp), if_pos (by simpa using hb)]
    rw [hE]
    clear hE GA HP
    obtain ⟨window, slow, part, flight, errors, alarm, wait⟩ := p
    simp only [ptVal] at *
    go_enter Try.func10, Try.ntmps10
    go_wp2_with fail
    exact bodyPost_ret (v := ptVal ⟨window, slow, part, flight, 0, 0, 3⟩) (by simp [results, Try.results10, go_sem, ptVal]) rfl ⟨rfl, HB _ _⟩
  | false =>
  have hb0 : ¬ bytes = 0 := by simpa using hb
  by_cases hs : p.window ≤ p.slow
  · have hE : ackedP p bytes n true = ⟨p.window + min bytes n, p.slow, p.part, p.flight, 0, 0, 3⟩ := by rw [ackedP, if_neg (by simp), if_neg hb0, if_pos hs]
    rw [hE]
    clear hE GA HP
    obtain ⟨window, slow, part, flight, errors, alarm, wait⟩ := p
    simp only [ptVal] at *
    by_cases hm : bytes < n
    · have hM : min bytes n = bytes := by omega
      rw [hM]
      clear hM
      go_enter Try.func10, Try.ntmps10
      go_wp2_with fail
      all_goals first
        | exact bodyPost_ret (v := ptVal ⟨window + bytes, slow, part, flight, 0, 0, 3⟩) (by simp [results, Try.results10, go_sem, ptVal]) rfl ⟨rfl, HB _ _⟩
        | omega
    · have hM : min bytes n = n := by omega
      rw [hM]
      clear hM
      go_enter Try.func10, Try.ntmps10
      go_wp2_with fail
      all_goals first
        | exact bodyPost_ret (v := ptVal ⟨window + n, slow, part, flight, 0, 0, 3⟩) (by simp [results, Try.results10, go_sem, ptVal] <;> omega) rfl ⟨rfl, HB _ _⟩
        | omega
  · have hE : ackedP p bytes n true = gatherP ⟨p.window, p.slow, p.part, p.flight, 0, 0, 3⟩ bytes n := by rw [ackedP, if_neg (by simp), if_neg hb0, if_neg hs]; rfl
    rw [hE]
    clear hE
    have GQ := fun wx => GA ⟨p.window, p.slow, p.part, p.flight, 0, 0, 3⟩ wx ⟨w0, w1, p0, p1, by simp, by simp, by simp, by simp⟩
    clear GA HP
    generalize hG : gatherP ⟨p.window, p.slow, p.part, p.flight, 0, 0, 3⟩ bytes n = r at *
    clear hG
    obtain ⟨window, slow, part, flight, errors, alarm, wait⟩ := p
    obtain ⟨rw', rs, rp, rf, re, ra, rt⟩ := r
    simp only [ptVal] at *
    have B2 := HB (.cells #[.int .i64 window, .int .i64 slow, .int .i64 part, .int .i64 flight, .int .i64 0, .int .i64 0, .int .i64 3] 23) (.cells #[.int .i64 0, .int .i64 0, .int .i64 0, .int .i64 0, .int .i64 0, .int .i64 0, .int .i64 0] 23)
    have CX : Cells (w.heap.size + 1) ((w.alloc (.cells #[.int .i64 window, .int .i64 slow, .int .i64 part, .int .i64 flight, .int .i64 0, .int .i64 0, .int .i64 3] 23)).alloc (.cells #[.int .i64 0, .int .i64 0, .int .i64 0, .int .i64 0, .int .i64 0, .int .i64 0, .int .i64 0] 23)) _ := Cells.new' #[.int .i64 0, .int .i64 0, .int .i64 0, .int .i64 0, .int .i64 0, .int .i64 0, .int .i64 0] 23 (by simp)
    have hz : w.heap.size + 1 < ((w.alloc (.cells #[.int .i64 window, .int .i64 slow, .int .i64 part, .int .i64 flight, .int .i64 0, .int .i64 0, .int .i64 3] 23)).alloc (.cells #[.int .i64 0, .int .i64 0, .int .i64 0, .int .i64 0, .int .i64 0, .int .i64 0, .int .i64 0] 23)).heap.size := by simp
    have GQ2 := GQ ((w.alloc (.cells #[.int .i64 window, .int .i64 slow, .int .i64 part, .int .i64 flight, .int .i64 0, .int .i64 0, .int .i64 3] 23)).alloc (.cells #[.int .i64 0, .int .i64 0, .int .i64 0, .int .i64 0, .int .i64 0, .int .i64 0, .int .i64 0] 23))
    clear GQ
    go_enter Try.func10, Try.ntmps10
    go_wp2_with fail
    generalize ((w.alloc (.cells #[.int .i64 window, .int .i64 slow, .int .i64 part, .int .i64 flight, .int .i64 0, .int .i64 0, .int .i64 3] 23)).alloc (.cells #[.int .i64 0, .int .i64 0, .int .i64 0, .int .i64 0, .int .i64 0, .int .i64 0, .int .i64 0] 23)) = w2 at *
    refine GQ2.mono ?_
    rintro e w3 ⟨rfl, b3⟩
    have CX3 := CX.below b3 hz
    have B3 := B2.trans (b3.mono B2.size)
    have r0 := CX3.cell 0 _ rfl
    have r1 := CX3.cell 1 _ rfl
    have r2 := CX3.cell 2 _ rfl
    have r3 := CX3.cell 3 _ rfl
    have r4 := CX3.cell 4 _ rfl
    have r5 := CX3.cell 5 _ rfl
    have r6 := CX3.cell 6 _ rfl
    have f0 := CX3.fz 0
    have f1 := CX3.fz 1
    have f2 := CX3.fz 2
    have f3 := CX3.fz 3
    have f4 := CX3.fz 4
    have f5 := CX3.fz 5
    have f6 := CX3.fz 6
    go_wp2_with fail
    have CE := put7_cells CX3 rfl ⟨rw', rs, rp, rf, re, ra, rt⟩
    have z0 := CE.cell 0 _ rfl
    have z1 := CE.cell 1 _ rfl
    have z2 := CE.cell 2 _ rfl
    have z3 := CE.cell 3 _ rfl
    have z4 := CE.cell 4 _ rfl
    have z5 := CE.cell 5 _ rfl
    have z6 := CE.cell 6 _ rfl
    simp only [put7] at z0 z1 z2 z3 z4 z5 z6
    refine bodyPost_ret (v := .agg #[.int .i64 rw', .int .i64 rs, .int .i64 rp, .int .i64 rf, .int .i64 re, .int .i64 ra, .int .i64 rt]) (by simp [results, Try.results10, go_sem, z0, z1, z2, z3, z4, z5, z6]) rfl ⟨rfl, put7_below (p := ⟨rw', rs, rp, rf, re, ra, rt⟩) B3 (Nat.le_succ _)⟩

set_option maxHeartbeats 400000 in
theorem halved_any (p : Pt) (n : Int) (w : World) (hw : 0 ≤ p.window) (hw2 : p.window ≤ 10000000) (h1 : 1 ≤ n) (h2 : n ≤ 16) : Calls Try.prog 12 #[ptVal p, .int .i64 n] w fun e w' => e = .returned (ptVal (halvedP p n)) ∧ Below w.heap.size w w' := by
  have HB := fun o o' o'' => (two_below' w o o').alloc (o := o'') (by simp; omega)
  have SL := fun wx => slower_any p n wx hw hw2 h1 h2
  obtain ⟨window, slow, part, flight, errors, alarm, wait⟩ := p
  have hS : (halvedP ⟨window, slow, part, flight, errors, alarm, wait⟩ n) = ⟨min window (slowP window n), slowP window n, 0, flight, errors, alarm, wait⟩ := rfl
  rw [hS]
  clear hS
  simp only at SL
  generalize slowP window n = z at *
  simp only [ptVal] at *
  by_cases hm : z < window
  · have hM : min window z = z := by omega
    rw [hM]
    clear hM
    go_enter Try.func12, Try.ntmps12
    go_wp2_with (go_at_call 40; refine (SL _).mono ?_; rintro e w' ⟨rfl, rfl⟩)
    all_goals first
      | exact bodyPost_ret (v := ptVal ⟨z, z, 0, flight, errors, alarm, wait⟩) (by simp [results, Try.results12, go_sem, ptVal]) rfl ⟨rfl, HB _ _ _⟩
      | omega
  · have hM : min window z = window := by omega
    rw [hM]
    clear hM
    go_enter Try.func12, Try.ntmps12
    go_wp2_with (go_at_call 40; refine (SL _).mono ?_; rintro e w' ⟨rfl, rfl⟩)
    all_goals first
      | exact bodyPost_ret (v := ptVal ⟨window, z, 0, flight, errors, alarm, wait⟩) (by simp [results, Try.results12, go_sem, ptVal]) rfl ⟨rfl, HB _ _ _⟩
      | omega
end Go.Proofs.Ytnddejdndipddad
