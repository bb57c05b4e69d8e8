/- alive, of the statements about chapter 2. -/
import Derived.Test.YtnddejdndipddabCkW
import Derived.Lib.SlBytesConst
set_option maxRecDepth 20000
namespace Go.Proofs.Ytnddejdndipddab
open Go.RowKit

/-- The chunk that alive asks of. -/
def aliveC : Ck := ⟨1, 300, 2, 7, 1, true, false, [97, 98], [], 0, []⟩
theorem alive_wrong : wrongM aliveC = 0 := by decide
theorem alive_parse : parseM (bytesM aliveC) = (0, aliveC, 11) := by
  have := turn_there alive_wrong []
  rw [List.append_nil] at this
  exact this
theorem alive_len : (bytesM aliveC).length = 11 := by decide

theorem alive_v (w : World) : CkV ((w.alloc (.cells #[.int .u8 97, .int .u8 98] 5 (2, 3))).alloc (.cells #[.int .i64 1, .int .i64 300, .int .i64 2, .int .i64 7, .int .i64 1, .bool true, .bool false, .slice (some ⟨w.heap.size, 0, none⟩) 2 2, .slice none 0 0, .int .i64 0, .slice none 0 0] 45)).heap.size
    ((w.alloc (.cells #[.int .u8 97, .int .u8 98] 5 (2, 3))).alloc (.cells #[.int .i64 1, .int .i64 300, .int .i64 2, .int .i64 7, .int .i64 1, .bool true, .bool false, .slice (some ⟨w.heap.size, 0, none⟩) 2 2, .slice none 0 0, .int .i64 0, .slice none 0 0] 45))
    (.agg #[.int .i64 1, .int .i64 300, .int .i64 2, .int .i64 7, .int .i64 1, .bool true, .bool false, .slice (some ⟨w.heap.size, 0, none⟩) 2 2, .slice none 0 0, .int .i64 0, .slice none 0 0]) aliveC := by
  refine ⟨.slice (some ⟨w.heap.size, 0, none⟩) 2 2, .slice none 0 0, .slice none 0 0, rfl, ⟨?_, ?_⟩, Sl.nil' _ _, Kl.nil _ _⟩
  · refine ⟨rfl, some ⟨w.heap.size, 0, none⟩, 2, rfl, Nat.le_refl _, by omega, fun h => by simp at h, fun _ => ⟨w.heap.size, 0, rfl, by simp; omega, fun q u hu => ?_⟩⟩
    rw [World.cell?_alloc_past _ _ _ (by simp), World.cell?_alloc_mark]
    match q, hu with
    | 0, hu => exact hu
    | 1, hu => exact hu
  · intro z hz
    simp [aliveC] at hz
    omega

end Go.Proofs.Ytnddejdndipddab
