/- The walk of ChunkTells. -/
import Derived.Test.YtnddejdndipddabCkY
import Derived.Test.YtnddejdndipddabCrH
import Derived.Test.YtnddejdndipddabCrI
set_option maxRecDepth 20000
namespace Go.Proofs.Ytnddejdndipddab
open Go.RowKit

theorem rparse_any (v : Value) (bs : List Int) (w : World) (hv : By w.heap.size w v bs) :
    Calls Try.prog 32 #[v] w fun e w' => ∃ c d s k, IsSl d ∧ IsSl s ∧ IsSl k ∧ e = .returned (.tuple #[ckVal c d s k, .int .i64 (parseM bs).2.2, .int .i64 (parseM bs).1]) ∧ CkOwn w.heap.size w' (ckVal c d s k) (parseM bs).2.1 ∧ Below w.heap.size w w' := by
  by_cases g : bs.length < 2 ∨ (bs.length : Int) - 2 < bs.getD 1 0
  · exact rparse_low v bs w hv (.inl g)
  · by_cases h : bs.getD 0 0 < 1 ∨ 3 < bs.getD 0 0
    · exact rparse_low v bs w hv (.inr h)
    · rcases (show bs.getD 0 0 = 1 ∨ bs.getD 0 0 = 2 ∨ bs.getD 0 0 = 3 by omega) with k | k | k
      · exact rparse_data v bs w hv g k
      · exact rparse_sack v bs w hv g k
      · exact rparse_forward v bs w hv g k

/-- Both Bytes: an errno and bytes, the same. -/
theorem bytes_both (v : Value) (c : Ck) (w : World) (hv : CkV w.heap.size w v c) :
    Calls Try.prog 29 #[v] w fun e w' => ∃ v', e = .returned (.tuple #[v', .int .i64 (wrongM c)]) ∧ By w'.heap.size w' v' (if wrongM c = 0 then bytesM c else []) ∧ Below w.heap.size w w' := by
  by_cases h : wrongM c = 0
  · rw [if_pos h, h]
    exact bytes_any v c w hv h
  · rw [if_neg h]
    exact (bytes_bad v c w hv h).mono fun e w' hh => ⟨_, hh.1, By.nil _ _, hh.2⟩
theorem rbytes_both (v : Value) (c : Ck) (w : World) (hv : CkV w.heap.size w v c) :
    Calls Try.prog 30 #[v] w fun e w' => ∃ v', e = .returned (.tuple #[v', .int .i64 (wrongM c)]) ∧ By w'.heap.size w' v' (if wrongM c = 0 then bytesM c else []) ∧ Below w.heap.size w w' := by
  by_cases h : wrongM c = 0
  · rw [if_pos h, h]
    exact rbytes_any v c w hv h
  · rw [if_neg h]
    exact (rbytes_bad v c w hv h).mono fun e w' hh => ⟨_, hh.1, By.nil _ _, hh.2⟩

end Go.Proofs.Ytnddejdndipddab
