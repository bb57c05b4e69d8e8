/- alive, of the statements about chapter 2. -/
import Derived.Test.YtnddejdndipddaaCkW
import Derived.Lib.SlBytesConst
set_option maxRecDepth 20000
namespace Go.Proofs.Ytnddejdndipddaa
open Go.RowKit

/-- The chunk that alive asks of. -/
def aliveC : Ck := ⟨1, 300, 2, 7, 1, true, false, [97, 98], [], 0, []⟩
theorem alive_wrong : wrongM aliveC = 0 := by decide
theorem alive_parse : parseM (bytesM aliveC) = (0, aliveC, 11) := by
  have := turn_there alive_wrong []
  rw [List.append_nil] at this
  exact this
theorem alive_len : (bytesM aliveC).length = 11 := by decide

theorem alive_v (w : World) : CkV ((w.alloc (.cells #[.int .u8 97, .int .u8 98] 5 (2, 3))).alloc (.cells #[.int .i64 1, .int .i64 300, .int .i64 2, .int .i64 7, .int .i64 1, .bool true, .bool false, .slice (some ⟨w.heap.size, 0, none⟩) 2 2, .slice none 0 0, .int .i64 0, .slice none 0 0] 39)).heap.size
    ((w.alloc (.cells #[.int .u8 97, .int .u8 98] 5 (2, 3))).alloc (.cells #[.int .i64 1, .int .i64 300, .int .i64 2, .int .i64 7, .int .i64 1, .bool true, .bool false, .slice (some ⟨w.heap.size, 0, none⟩) 2 2, .slice none 0 0, .int .i64 0, .slice none 0 0] 39))
    (.agg #[.int .i64 1, .int .i64 300, .int .i64 2, .int .i64 7, .int .i64 1, .bool true, .bool false, .slice (some ⟨w.heap.size, 0, none⟩) 2 2, .slice none 0 0, .int .i64 0, .slice none 0 0]) aliveC := by
  refine ⟨.slice (some ⟨w.heap.size, 0, none⟩) 2 2, .slice none 0 0, .slice none 0 0, rfl, ⟨?_, ?_⟩, Sl.nil' _ _, Kl.nil _ _⟩
  · refine ⟨rfl, some ⟨w.heap.size, 0, none⟩, 2, rfl, Nat.le_refl _, by omega, fun h => by simp at h, fun _ => ⟨w.heap.size, 0, rfl, by simp; omega, fun q u hu => ?_⟩⟩
    rw [World.cell?_alloc_past _ _ _ (by simp), World.cell?_alloc_mark]
    match q, hu with
    | 0, hu => exact hu
    | 1, hu => exact hu
  · intro z hz
    simp [aliveC] at hz
    omega

set_option maxHeartbeats 1000000 in
theorem alive2_any (w : World) : Calls Try.prog 30 #[] w fun e w' => e = .returned (.bool true) ∧ Below w.heap.size w w' := by
  have AV := alive_v w
  have hcs : (convert 36 36 (.slice (some ⟨w.heap.size, 0, none⟩) 2 2)).run Try.prog (w.alloc (.cells #[.int .u8 97, .int .u8 98] 5)) = .ok (.slice (some ⟨w.heap.size, 0, none⟩) 2 2) (w.alloc (.cells #[.int .u8 97, .int .u8 98] 5 (2, 3))) := Lib.run_convert_bytes_const w 36 5 #[.int .u8 97, .int .u8 98] 2 2 Try.underlying36 Try.underlying5
  have BY := bytes_any _ _ _ AV alive_wrong
  have CA := Cells.new' (w := w.alloc (.cells #[.int .u8 97, .int .u8 98] 5 (2, 3))) (X := w.heap.size + 1) #[.int .i64 1, .int .i64 300, .int .i64 2, .int .i64 7, .int .i64 1, .bool true, .bool false, .slice (some ⟨w.heap.size, 0, none⟩) 2 2, .slice none 0 0, .int .i64 0, .slice none 0 0] 39 (by simp)
  have B0 := two_below w (.cells #[.int .u8 97, .int .u8 98] 5 (2, 3)) (.cells #[.int .i64 1, .int .i64 300, .int .i64 2, .int .i64 7, .int .i64 1, .bool true, .bool false, .slice (some ⟨w.heap.size, 0, none⟩) 2 2, .slice none 0 0, .int .i64 0, .slice none 0 0] 39)
  go_enter Try.func30, Try.ntmps30
  go_wp2_with fail
  refine BY.mono ?_
  rintro e w1 ⟨v1, rfl, by1, b1⟩
  have AV1 := AV.size b1 (Nat.le_refl _)
  have CA1 := CA.below b1 (by simp)
  have B1 := B0.trans (b1.mono B0.size)
  obtain ⟨a1, cap1, rfl, -, -⟩ := by1.ex
  have PA := parse_any _ _ _ by1
  rw [alive_parse] at PA
  rw [alive_len] at PA ⊢
  clear AV CA B0 BY b1
  go_wp2_with fail
  refine PA.mono ?_
  rintro e w2 ⟨c, d, s, k, ⟨ad, nd, cd, rfl⟩, ⟨as', ns, cs, rfl⟩, ⟨ak, nk, ck, rfl⟩, rfl, own2, b2⟩
  have AV2 := AV1.size b2 (Nat.le_refl _)
  have CA2 := CA1.below b2 (World.block_lt_of_cell? _ _ (CA1.cell 0 _ rfl))
  have B2 := B1.trans (b2.mono B1.size)
  have hX2 : w.heap.size + 1 < w2.heap.size := World.block_lt_of_cell? _ _ (CA2.cell 0 _ rfl)
  have AV3 := fun o => AV2.boxed o
  have OV3 := fun o => (own2.alloc o).v
  have HB3 := fun o => box_below w2 o
  simp only [ckVal] at OV3 ⊢
  have CA3 := fun o => CA2.alloc hX2 o
  have x0 := fun o => (CA3 o).cell 0 _ rfl
  have x1 := fun o => (CA3 o).cell 1 _ rfl
  have x2 := fun o => (CA3 o).cell 2 _ rfl
  have x3 := fun o => (CA3 o).cell 3 _ rfl
  have x4 := fun o => (CA3 o).cell 4 _ rfl
  have x5 := fun o => (CA3 o).cell 5 _ rfl
  have x6 := fun o => (CA3 o).cell 6 _ rfl
  have x7 := fun o => (CA3 o).cell 7 _ rfl
  have x8 := fun o => (CA3 o).cell 8 _ rfl
  have x9 := fun o => (CA3 o).cell 9 _ rfl
  have x10 := fun o => (CA3 o).cell 10 _ rfl
  clear AV1 CA1 PA by1 own2
  go_wp2_with (first | (go_at_call 26; refine (size_any 2 _ (by omega) (by omega)).mono ?_; rintro e w' ⟨rfl, rfl⟩) | fail)
  refine (sameChunk_same _ _ aliveC _ (AV3 _) (OV3 _)).mono ?_
  rintro e w4 ⟨rfl, b4⟩
  have CA4 := (CA3 _).below b4 (by simp; omega)
  have AV4 := (AV3 _).size b4 (Nat.le_refl _)
  have B4 := B2.trans (((HB3 _).trans (b4.mono (HB3 _).size)).mono B2.size)
  clear x0 x1 x2 x3 x4 x5 x6 x7 x8 x9 x10
  have x0 := CA4.cell 0 _ rfl
  have x1 := CA4.cell 1 _ rfl
  have x2 := CA4.cell 2 _ rfl
  have x3 := CA4.cell 3 _ rfl
  have x4 := CA4.cell 4 _ rfl
  have x5 := CA4.cell 5 _ rfl
  have x6 := CA4.cell 6 _ rfl
  have x7 := CA4.cell 7 _ rfl
  have x8 := CA4.cell 8 _ rfl
  have x9 := CA4.cell 9 _ rfl
  have x10 := CA4.cell 10 _ rfl
  clear CA3 AV3 OV3 HB3
  go_wp2_with fail
  refine (wrong_any _ aliveC _ AV4).mono ?_
  rintro e w5 ⟨rfl, b5⟩
  rw [alive_wrong]
  have B5 := B4.trans (b5.mono B4.size)
  go_wp2
  go_ret
  exact ⟨rfl, B5⟩
end Go.Proofs.Ytnddejdndipddaa
