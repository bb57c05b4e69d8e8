/- The contract of read, of package chunk. -/
import Derived.Test.YtnddejdndipddabCkR
set_option maxRecDepth 20000
namespace Go.Proofs.Ytnddejdndipddab
open Go.RowKit

/-- What read makes of the answer of one of the three. -/
theorem read_form {kind : Int} {bs : List Int} (form : Bool) (m : Ck) (h : readM kind bs = if form = true then (0, m) else (2, Ck.zero)) : readM kind bs = (if form = true then 0 else 2, if form = true then m else Ck.zero) := by
  rw [h]; cases form <;> rfl

theorem read_1 (bs : List Int) : readM 1 bs = if formD bs = true then (0, dataM bs) else (2, Ck.zero) := rfl
theorem read_2 (bs : List Int) : readM 2 bs = if formS bs = true then (0, sackM bs) else (2, Ck.zero) := rfl
theorem read_3 (bs : List Int) : readM 3 bs = if formF bs = true then (0, forwardM bs) else (2, Ck.zero) := rfl
theorem read_0 {kind : Int} (bs : List Int) (h1 : kind ≠ 1) (h2 : kind ≠ 2) (h3 : kind ≠ 3) : readM kind bs = (1, Ck.zero) := by rw [readM, if_neg h1, if_neg h2, if_neg h3]

set_option maxHeartbeats 1000000 in
theorem read_some (kind : Int) (v : Value) (bs : List Int) (w : World) (hv : By w.heap.size w v bs) (F : FuncId) (form : Bool) (m : Ck) (hk : readM kind bs = if form = true then (0, m) else (2, Ck.zero))
    (hw : (kind = 1 ∧ F = 69) ∨ (kind = 2 ∧ F = 70) ∨ (kind = 3 ∧ F = 71))
    (hc : ∀ wx, By wx.heap.size wx v bs → Calls Try.prog F #[v] wx fun e w' => ∃ c d s k, IsSl d ∧ IsSl s ∧ IsSl k ∧ e = .returned (.tuple #[ckVal c d s k, .bool form]) ∧ (form = true → CkOwn wx.heap.size w' (ckVal c d s k) m) ∧ Below wx.heap.size wx w') :
    Calls Try.prog 54 #[.int .i64 kind, v] w fun e w' => ∃ c d s k, IsSl d ∧ IsSl s ∧ IsSl k ∧ e = .returned (.tuple #[ckVal c d s k, .int .i64 (readM kind bs).1]) ∧ CkOwn w.heap.size w' (ckVal c d s k) (readM kind bs).2 ∧ Below w.heap.size w w' := by
  have HR : Hid _ := read_form form m hk
  obtain ⟨a, cap, rfl, -, -⟩ := hv.ex
  have hc2 := hc ((w.alloc (.cells #[.int .i64 0, .int .i64 0, .int .i64 0, .int .i64 0, .int .i64 0, .bool false, .bool false, .slice none 0 0, .slice none 0 0, .int .i64 0, .slice none 0 0] 45)).alloc (.cells #[.int .i64 0, .int .i64 0, .int .i64 0, .int .i64 0, .int .i64 0, .bool false, .bool false, .slice none 0 0, .slice none 0 0, .int .i64 0, .slice none 0 0] 45))
    ((hv.below (two_below w _ _) (Nat.le_refl _)).mono (by simp; omega))
  have CA := Cells.new' (w := w.alloc (.cells #[.int .i64 0, .int .i64 0, .int .i64 0, .int .i64 0, .int .i64 0, .bool false, .bool false, .slice none 0 0, .slice none 0 0, .int .i64 0, .slice none 0 0] 45)) (X := w.heap.size + 1) #[.int .i64 0, .int .i64 0, .int .i64 0, .int .i64 0, .int .i64 0, .bool false, .bool false, .slice none 0 0, .slice none 0 0, .int .i64 0, .slice none 0 0] 45 (by simp)
  have CZ := (Cells.new w #[.int .i64 0, .int .i64 0, .int .i64 0, .int .i64 0, .int .i64 0, .bool false, .bool false, .slice none 0 0, .slice none 0 0, .int .i64 0, .slice none 0 0] 45).alloc (by simp) (.cells #[.int .i64 0, .int .i64 0, .int .i64 0, .int .i64 0, .int .i64 0, .bool false, .bool false, .slice none 0 0, .slice none 0 0, .int .i64 0, .slice none 0 0] 45)
  have HB2 := two_below w (.cells #[.int .i64 0, .int .i64 0, .int .i64 0, .int .i64 0, .int .i64 0, .bool false, .bool false, .slice none 0 0, .slice none 0 0, .int .i64 0, .slice none 0 0] 45) (.cells #[.int .i64 0, .int .i64 0, .int .i64 0, .int .i64 0, .int .i64 0, .bool false, .bool false, .slice none 0 0, .slice none 0 0, .int .i64 0, .slice none 0 0] 45)
  clear hc hk hv
  rcases hw with ⟨rfl, rfl⟩ | ⟨rfl, rfl⟩ | ⟨rfl, rfl⟩
  all_goals (
    go_enter Try.func54, Try.ntmps54
    go_wp2_with fail
    refine hc2.mono ?_
    rintro e w2 ⟨c, d, s, k, ⟨ad, nd, cd, rfl⟩, ⟨as', ns, cs, rfl⟩, ⟨ak, nk, ck, rfl⟩, rfl, hown, b2⟩
    have CA2 := CA.below b2 (by simp)
    have CZ2 := CZ.below b2 (by simp; omega)
    have B2 : Below w.heap.size w w2 := HB2.trans (b2.mono (by simp; omega))
    clear hc2 CA CZ HB2 b2
    have y0 := CA2.cell 0 _ rfl
    have yg0 := CA2.fz 0
    have z0 := CZ2.cell 0 _ rfl
    have zg0 := CZ2.fz 0
    have y1 := CA2.cell 1 _ rfl
    have yg1 := CA2.fz 1
    have z1 := CZ2.cell 1 _ rfl
    have zg1 := CZ2.fz 1
    have y2 := CA2.cell 2 _ rfl
    have yg2 := CA2.fz 2
    have z2 := CZ2.cell 2 _ rfl
    have zg2 := CZ2.fz 2
    have y3 := CA2.cell 3 _ rfl
    have yg3 := CA2.fz 3
    have z3 := CZ2.cell 3 _ rfl
    have zg3 := CZ2.fz 3
    have y4 := CA2.cell 4 _ rfl
    have yg4 := CA2.fz 4
    have z4 := CZ2.cell 4 _ rfl
    have zg4 := CZ2.fz 4
    have y5 := CA2.cell 5 _ rfl
    have yg5 := CA2.fz 5
    have z5 := CZ2.cell 5 _ rfl
    have zg5 := CZ2.fz 5
    have y6 := CA2.cell 6 _ rfl
    have yg6 := CA2.fz 6
    have z6 := CZ2.cell 6 _ rfl
    have zg6 := CZ2.fz 6
    have y7 := CA2.cell 7 _ rfl
    have yg7 := CA2.fz 7
    have z7 := CZ2.cell 7 _ rfl
    have zg7 := CZ2.fz 7
    have y8 := CA2.cell 8 _ rfl
    have yg8 := CA2.fz 8
    have z8 := CZ2.cell 8 _ rfl
    have zg8 := CZ2.fz 8
    have y9 := CA2.cell 9 _ rfl
    have yg9 := CA2.fz 9
    have z9 := CZ2.cell 9 _ rfl
    have zg9 := CZ2.fz 9
    have y10 := CA2.cell 10 _ rfl
    have yg10 := CA2.fz 10
    have z10 := CZ2.cell 10 _ rfl
    have zg10 := CZ2.fz 10
    clear CA2 CZ2
    simp only [ckVal]
    cases form with
    | false =>
      go_wp2_with fail
      refine bodyPost_ret_by (results_cell2 rfl _ _ _ ⟨w.heap.size, 0, none⟩ zeroV rfl ?_) rfl ?_
      · go_simp
        rfl
      rw [HR.out]
      refine ⟨Ck.zero, _, _, _, isl, isl, isl, rfl, CkOwn.zero _ _, ?_⟩
      repeat refine Below.setCell ?_ (by simp) _
      exact B2
    | true =>
      have hown2 := (hown rfl).low (base' := w.heap.size + 2) (by simp)
      go_wp2_with fail
      refine bodyPost_ret_by (results_cell2 rfl _ _ _ ⟨w.heap.size, 0, none⟩ (ckVal c (.slice ad nd cd) (.slice as' ns cs) (.slice ak nk ck)) rfl ?_) rfl ?_
      · go_simp
        rfl
      rw [HR.out]
      refine ⟨c, _, isl, _, isl, _, isl, rfl, ?_, ?_⟩
      · refine CkOwn.low (CkOwn.keep (S := fun j => j ≠ w.heap.size ∧ j ≠ w.heap.size + 1) hown2 ?_ (fun j hj => by omega)) (by omega)
        repeat refine Keep.setCell ?_ (by simp) _
        exact Keep.refl _ _
      · repeat refine Below.setCell ?_ (by simp) _
        exact B2)

set_option maxHeartbeats 400000 in
theorem read_any (kind : Int) (v : Value) (bs : List Int) (w : World) (hv : By w.heap.size w v bs) (hl : bs.length ≤ 255) :
    Calls Try.prog 54 #[.int .i64 kind, v] w fun e w' => ∃ c d s k, IsSl d ∧ IsSl s ∧ IsSl k ∧ e = .returned (.tuple #[ckVal c d s k, .int .i64 (readM kind bs).1]) ∧ CkOwn w.heap.size w' (ckVal c d s k) (readM kind bs).2 ∧ Below w.heap.size w w' := by
  by_cases h1 : kind = 1
  · subst h1
    exact read_some 1 v bs w hv _ _ _ (read_1 bs) (.inl ⟨rfl, rfl⟩) fun wx h => readData_any v bs wx h hl
  by_cases h2 : kind = 2
  · subst h2
    exact read_some 2 v bs w hv _ _ _ (read_2 bs) (.inr (.inl ⟨rfl, rfl⟩)) fun wx h => readSack_any v bs wx h hl
  by_cases h3 : kind = 3
  · subst h3
    exact read_some 3 v bs w hv _ _ _ (read_3 bs) (.inr (.inr ⟨rfl, rfl⟩)) fun wx h => readForward_any v bs wx h hl
  have HR : Hid _ := read_0 bs h1 h2 h3
  have HB2 := fun o o' => two_below w o o'
  obtain ⟨a, cap, rfl, -, -⟩ := hv.ex
  have b1 : (kind == 1) = false := by simpa using h1
  have b2 : (kind == 2) = false := by simpa using h2
  have b3 : (kind == 3) = false := by simpa using h3
  clear hv
  go_enter Try.func54, Try.ntmps54
  go_wp2_with fail
  refine bodyPost_ret_by (results_cell2 rfl _ _ _ ⟨w.heap.size, 0, none⟩ zeroV rfl ?_) rfl ?_
  · go_simp
    rfl
  rw [HR.out]
  exact ⟨Ck.zero, _, _, _, isl, isl, isl, rfl, CkOwn.zero _ _, HB2 _ _⟩
end Go.Proofs.Ytnddejdndipddab
