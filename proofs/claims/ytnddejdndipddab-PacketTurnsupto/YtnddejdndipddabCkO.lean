/- Data chunks, read. -/
import Derived.Test.YtnddejdndipddabCkN
set_option maxRecDepth 20000
namespace Go.Proofs.Ytnddejdndipddab
open Go.RowKit

/-- The zero chunk's value. -/
abbrev zeroV : Value := ckVal Ck.zero (.slice none 0 0) (.slice none 0 0) (.slice none 0 0)

theorem and1 (f : Int) (h0 : 0 ≤ f) (h3 : f ≤ 3) : (bits .and .i64 f 1 != 0) = decide (f % 2 = 1) := by
  rcases (show f = 0 ∨ f = 1 ∨ f = 2 ∨ f = 3 by omega) with rfl | rfl | rfl | rfl <;> rfl
theorem and2 (f : Int) (h0 : 0 ≤ f) (h3 : f ≤ 3) : (bits .and .i64 f 2 != 0) = decide (f / 2 = 1) := by
  rcases (show f = 0 ∨ f = 1 ∨ f = 2 ∨ f = 3 by omega) with rfl | rfl | rfl | rfl <;> rfl

theorem run_re_l (a : Option Addr) (n cap lo : Nat) (h : lo ≤ n) (wx : World) : (Instr.slice 23 (.slice a n cap) (some (.int .i64 lo)) none none).run Try.prog wx = .ok (.slice (reK 1 a cap lo) (n - lo) (cap - lo)) wx := by
  go_simp
  simp [reK]

theorem By.re_end {B : Nat} {w : World} {a : Option Addr} {n cap : Nat} {bs : List Int} (h : By B w (.slice a n cap) bs) (lo : Nat) (h2 : lo ≤ bs.length) : By B w (.slice (reK 1 a cap lo) (bs.length - lo) (cap - lo)) (bs.drop lo) := by
  have := h.re lo (bs.length - lo) (by omega)
  rwa [List.take_of_length_le (by simp)] at this

/-- A slice value. -/
def IsSl (v : Value) : Prop := ∃ a n c, v = .slice a n c
theorem isl {a : Option Addr} {n c : Nat} : IsSl (.slice a n c) := ⟨a, n, c, rfl⟩

/-- A value that is this chunk; its lists are the call's own, from block base on. -/
def CkOwn (base : Nat) (w : World) (v : Value) (c : Ck) : Prop :=
  ∃ d s k, v = ckVal c d s k ∧ w.ownsRow base 5 1 d c.data.length (cellsB c.data) ∧ w.ownsRow base 87 2 s c.spans.length (flat c.spans) ∧ w.ownsRow base 89 3 k c.skips.length (cellsK c.skips) ∧ IsB c.data ∧ Fit c.spans
theorem CkOwn.v {base : Nat} {w : World} {v : Value} {c : Ck} (h : CkOwn base w v c) : CkV w.heap.size w v c := by
  obtain ⟨d, s, k, rfl, h1, h2, h3, h4, h5⟩ := h
  exact ⟨d, s, k, rfl, ⟨Rw.own h1 (by simp [cellsB]), h4⟩, Sl.of_rw (Rw.own h2 (flat_length _)) h5, Rw.own h3 (cellsK_length _)⟩
theorem CkOwn.keep {base : Nat} {S : Nat → Prop} {w w' : World} {v : Value} {c : Ck} (h : CkOwn base w v c) (kp : Keep S w w') (hS : ∀ k, base ≤ k → S k) : CkOwn base w' v c := by
  obtain ⟨d, s, k, rfl, h1, h2, h3, h4, h5⟩ := h
  exact ⟨d, s, k, rfl, own_of_block h1 fun j hj => kp.block j (hS j (h1.lt j hj).1), own_of_block h2 fun j hj => kp.block j (hS j (h2.lt j hj).1), own_of_block h3 fun j hj => kp.block j (hS j (h3.lt j hj).1), h4, h5⟩
theorem own_low {w : World} {base base' : Nat} {e : TypeId} {size : Nat} {v : Value} {n : Nat} {xs : List Value} (h : w.ownsRow base e size v n xs) (hb : base' ≤ base) : w.ownsRow base' e size v n xs := by
  refine ⟨h.1, ?_⟩
  rcases h.2 with h2 | ⟨g, cap, cur, h2, h3, h4⟩
  · exact .inl h2
  · exact .inr ⟨g, cap, cur, h2, Nat.le_trans hb h3, h4⟩
theorem CkOwn.low {base base' : Nat} {w : World} {v : Value} {c : Ck} (h : CkOwn base w v c) (hb : base' ≤ base) : CkOwn base' w v c := by
  obtain ⟨d, s, k, rfl, h1, h2, h3, h4, h5⟩ := h
  exact ⟨d, s, k, rfl, own_low h1 hb, own_low h2 hb, own_low h3 hb, h4, h5⟩
theorem CkOwn.zero (base : Nat) (w : World) : CkOwn base w zeroV Ck.zero :=
  ⟨_, _, _, rfl, World.ownsRow_nil _ _ _ _, World.ownsRow_nil _ _ _ _, World.ownsRow_nil _ _ _ _, fun z hz => by simp [Ck.zero] at hz, fun z hz => by simp [Ck.zero] at hz⟩

/-- The cells of a block, none of them frozen. -/
structure Cells (X : Nat) (w : World) (l : List Value) : Prop where
  cell : ∀ j u, l[j]? = some u → w.cell? ⟨X, j, none⟩ = some u
  fz : ∀ j, w.frozen? ⟨X, j, none⟩ = false
theorem Cells.below {X B : Nat} {w w' : World} {l : List Value} (h : Cells X w l) (hb : Below B w w') (hX : X < B) : Cells X w' l :=
  ⟨fun j u hu => (hb.cell (p := ⟨X, j, none⟩) hX).trans (h.cell j u hu), fun j => (hb.frozen (p := ⟨X, j, none⟩) hX).trans (h.fz j)⟩
theorem Cells.keep {S : Nat → Prop} {X : Nat} {w w' : World} {l : List Value} (h : Cells X w l) (hb : Keep S w w') (hX : S X) : Cells X w' l :=
  ⟨fun j u hu => (hb.cell (p := ⟨X, j, none⟩) hX).trans (h.cell j u hu), fun j => (hb.frozen (p := ⟨X, j, none⟩) hX).trans (h.fz j)⟩
theorem Cells.new (w : World) (cs : Array Value) (t : TypeId) : Cells w.heap.size (w.alloc (.cells cs t)) cs.toList :=
  ⟨fun j u hu => by rw [World.cell?_alloc_at _ _ _ _ rfl]; simpa using hu, fun j => World.frozen?_alloc_at _ _ _ _ rfl⟩
theorem Cells.alloc {X : Nat} {w : World} {l : List Value} (h : Cells X w l) (hX : X < w.heap.size) (o : Obj) : Cells X (w.alloc o) l :=
  h.below (box_below w o) hX

set_option maxHeartbeats 1000000 in
theorem readData_any (v : Value) (bs : List Int) (w : World) (hv : By w.heap.size w v bs) (hl : bs.length ≤ 255) :
    Calls Try.prog 69 #[v] w fun e w' => ∃ c d s k, IsSl d ∧ IsSl s ∧ IsSl k ∧ e = .returned (.tuple #[ckVal c d s k, .bool (formD bs)]) ∧ (formD bs = true → CkOwn w.heap.size w' (ckVal c d s k) (dataM bs)) ∧ Below w.heap.size w w' := by
  have hv' := hv
  obtain ⟨a, cap, rfl, h1, h2⟩ := hv.ex
  have HB := fun o => box_below w o
  by_cases hlen : bs.length < 7
  · have HF : Hid (formD bs = false) := by show _ = _; simp [formD]; omega
    clear hv
    go_enter Try.func69, Try.ntmps69
    go_wp2
    refine bodyPost_ret_by (results_cell2 rfl _ _ _ ⟨w.heap.size, 0, none⟩ zeroV rfl (by go_simp; rfl)) rfl ?_
    rw [HF.out]
    exact ⟨Ck.zero, _, _, _, isl, isl, isl, rfl, (fun h => absurd h (by decide)), HB _⟩
  · have HF : Hid (formD bs = decide (bs.getD 3 0 ≤ 3)) := by show _ = _; simp [formD]; intro; omega
    have HBy : ∀ wx, Below w.heap.size w wx → By w.heap.size wx (.slice a bs.length cap) bs := fun wx hx => hv'.below hx (Nat.le_refl _)
    have b3 := hv'.2.get 3 (by omega)
    have e3 : bs.getD 3 0 = bs[3] := by simp [show 3 < bs.length by omega]
    clear hv
    go_enter Try.func69, Try.ntmps69
    go_wp2_with (go_at_call 77; refine (numbers_any _ _ a bs.length cap rfl).mono ?_; rintro e w' ⟨rfl, rfl⟩)
    refine (twoX (w.heap.size + 1) (w.heap.size + 1 + 1) (w.heap.size + 1 + 1 + 1) w.heap.size (.slice a bs.length cap) bs 0 _ (by go_simp) (by go_simp) (by go_simp) (by go_simp) (HBy _ (by repeat (first | exact Below.refl _ _ | refine Below.alloc ?_ (by simp <;> omega) _))) (by omega) (by omega) (by omega) (by omega)).mono ?_
    rintro e w' ⟨rfl, rfl⟩
    go_wp2_with fail
    refine (oneX (w.heap.size + 1) (w.heap.size + 1 + 1 + 1) w.heap.size (.slice a bs.length cap) bs 2 _ (by go_simp) (by go_simp) (by go_simp) (HBy _ (by repeat (first | exact Below.refl _ _ | refine Below.alloc ?_ (by simp <;> omega) _))) (by omega) (by omega) (by omega)).mono ?_
    rintro e w' ⟨rfl, rfl⟩
    go_wp2_with fail
    refine (oneX (w.heap.size + 1) (w.heap.size + 1 + 1 + 1) w.heap.size (.slice a bs.length cap) bs 3 _ (by go_simp) (by go_simp) (by go_simp) (HBy _ (by repeat (first | exact Below.refl _ _ | refine Below.alloc ?_ (by simp <;> omega) _))) (by omega) (by omega) (by omega)).mono ?_
    rintro e w' ⟨rfl, rfl⟩
    have HD : Hid (dataM bs = ⟨1, be bs 0, bs[2]?.getD 0, be bs 4, bs[6]?.getD 0, decide (bs.getD 3 0 % 2 = 1), decide (bs.getD 3 0 / 2 = 1), bs.drop 7, [], 0, []⟩) := by show _ = _; simp [dataM]
    have r3 : 0 ≤ bs.getD 3 0 := by rw [e3]; exact b3.1
    generalize bs.getD 3 0 = f3 at *
    clear e3 b3
    go_wp2_with fail
    refine (twoX (w.heap.size + 1) (w.heap.size + 1 + 1) (w.heap.size + 1 + 1 + 1) w.heap.size (.slice a bs.length cap) bs 4 _ (by go_simp) (by go_simp) (by go_simp) (by go_simp) (HBy _ (by repeat (first | exact Below.refl _ _ | refine Below.alloc ?_ (by simp <;> omega) _))) (by omega) (by omega) (by omega) (by omega)).mono ?_
    rintro e w' ⟨rfl, rfl⟩
    go_wp2_with fail
    refine (oneX (w.heap.size + 1) (w.heap.size + 1 + 1 + 1) w.heap.size (.slice a bs.length cap) bs 6 _ (by go_simp) (by go_simp) (by go_simp) (HBy _ (by repeat (first | exact Below.refl _ _ | refine Below.alloc ?_ (by simp <;> omega) _))) (by omega) (by omega) (by omega)).mono ?_
    rintro e w' ⟨rfl, rfl⟩
    have hsl : ∀ wx, (Instr.slice 23 (.slice a bs.length cap) (some (.int .i64 7)) none none).run Try.prog wx = .ok (.slice (reK 1 a cap 7) (bs.length - 7) (cap - 7)) wx := run_re_l a bs.length cap 7 (by omega)
    go_wp2_with fail
    refine (clone_any _ (bs.drop 7) _ ((HBy _ (by repeat (first | exact Below.refl _ _ | refine Below.alloc ?_ (by simp <;> omega) _))).re_end 7 (by omega) |>.mono (by simp <;> omega)) (by simp; omega)).mono ?_
    rintro e w9 ⟨v9, rfl, own9, b9⟩
    obtain ⟨a9, cap9, rfl⟩ := own_form own9
    have B9 : Below w.heap.size w w9 := Below.trans (by repeat (first | exact Below.refl _ _ | refine Below.alloc ?_ (by simp <;> omega) _)) (b9.mono (by simp <;> omega))
    rw [show (bs.drop 7).length = bs.length - 7 by simp] at own9 ⊢
    have C1 := (Cells.new ((((w.alloc (.cells #[.int .i64 0, .int .i64 0, .int .i64 0, .int .i64 0, .int .i64 0, .bool false, .bool false, .slice none 0 0, .slice none 0 0, .int .i64 0, .slice none 0 0] 45)).alloc (.cells #[.slice a bs.length cap] 23)).alloc (.cells #[oneR (w.heap.size + 1)] 96)).alloc (.cells #[.int .i64 7] 3))
      #[.int .i64 1, .int .i64 (be bs 0), .int .i64 (bs[2]?.getD 0), .int .i64 (be bs 4), .int .i64 (bs[6]?.getD 0), .bool (bits BinOp.and IntKind.i64 f3 1 != 0), .bool (bits BinOp.and IntKind.i64 f3 2 != 0), .slice none 0 0, .slice none 0 0, .int .i64 0, .slice none 0 0] 45).below b9 (by simp)
    have C0 := ((((((Cells.new w #[.int .i64 0, .int .i64 0, .int .i64 0, .int .i64 0, .int .i64 0, .bool false, .bool false, .slice none 0 0, .slice none 0 0, .int .i64 0, .slice none 0 0] 45).alloc (by simp) (.cells #[.slice a bs.length cap] 23)).alloc (by simp; omega) (.cells #[oneR (w.heap.size + 1)] 96)).alloc (by simp; omega) (.cells #[.int .i64 7] 3)).alloc (by simp; omega) _)).below b9 (by simp; omega)
    have f7 := C1.fz 7
    have x0 := C1.cell 0 _ rfl
    have z0 := C0.cell 0 _ rfl
    have g0 := C0.fz 0
    have x1 := C1.cell 1 _ rfl
    have z1 := C0.cell 1 _ rfl
    have g1 := C0.fz 1
    have x2 := C1.cell 2 _ rfl
    have z2 := C0.cell 2 _ rfl
    have g2 := C0.fz 2
    have x3 := C1.cell 3 _ rfl
    have z3 := C0.cell 3 _ rfl
    have g3 := C0.fz 3
    have x4 := C1.cell 4 _ rfl
    have z4 := C0.cell 4 _ rfl
    have g4 := C0.fz 4
    have x5 := C1.cell 5 _ rfl
    have z5 := C0.cell 5 _ rfl
    have g5 := C0.fz 5
    have x6 := C1.cell 6 _ rfl
    have z6 := C0.cell 6 _ rfl
    have g6 := C0.fz 6
    have x7 := C1.cell 7 _ rfl
    have z7 := C0.cell 7 _ rfl
    have g7 := C0.fz 7
    have x8 := C1.cell 8 _ rfl
    have z8 := C0.cell 8 _ rfl
    have g8 := C0.fz 8
    have x9 := C1.cell 9 _ rfl
    have z9 := C0.cell 9 _ rfl
    have g9 := C0.fz 9
    have x10 := C1.cell 10 _ rfl
    have z10 := C0.cell 10 _ rfl
    have g10 := C0.fz 10
    clear C1 C0
    simp only [World.size_alloc] at x0 x1 x2 x3 x4 x5 x6 x7 x8 x9 x10 f7 own9
    have HI : Hid (IsB (bs.drop 7)) := hv'.2.drop 7
    go_wp2_with fail
    refine bodyPost_ret_by (results_cell2 rfl _ _ _ ⟨w.heap.size, 0, none⟩ (ckVal ⟨1, be bs 0, bs[2]?.getD 0, be bs 4, bs[6]?.getD 0, (bits BinOp.and IntKind.i64 f3 1 != 0), (bits BinOp.and IntKind.i64 f3 2 != 0), bs.drop 7, [], 0, []⟩ (.slice a9 (bs.length - 7) cap9) (.slice none 0 0) (.slice none 0 0)) rfl ?_) rfl ?_
    · go_simp
      rfl
    refine ⟨⟨1, be bs 0, bs[2]?.getD 0, be bs 4, bs[6]?.getD 0, (bits BinOp.and IntKind.i64 f3 1 != 0), (bits BinOp.and IntKind.i64 f3 2 != 0), bs.drop 7, [], 0, []⟩, _, _, _, isl, isl, isl, by rw [HF.out]; rfl, ?_, ?_⟩
    · intro hf
      rw [HF.out] at hf
      have hf3 : f3 ≤ 3 := by simpa using hf
      rw [HD.out, and1 f3 r3 hf3, and2 f3 r3 hf3]
      refine ⟨_, _, _, rfl, ?_, World.ownsRow_nil _ _ _ _, World.ownsRow_nil _ _ _ _, HI.out, fun z hz => by simp at hz⟩
      dsimp only
      rw [show (bs.drop 7).length = bs.length - 7 by simp]
      refine own_low (own_of_block own9 fun k hk => ?_) (by omega)
      have hk5 := (own9.lt k hk).1
      refine Keep.block (S := fun j => j ≠ w.heap.size ∧ j ≠ w.heap.size + 4) ?_ k (by omega)
      repeat refine Keep.setCell ?_ (by simp) _
      exact Keep.refl _ _
    · repeat refine Below.setCell ?_ (by simp <;> omega) _
      exact B9
end Go.Proofs.Ytnddejdndipddab
