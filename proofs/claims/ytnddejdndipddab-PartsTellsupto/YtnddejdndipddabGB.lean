/- Bulk: a part's is no more than the whole's. -/
import Derived.Test.YtnddejdndipddabLB
set_option maxRecDepth 20000
namespace Go.Proofs.Ytnddejdndipddab

theorem bulk_mem {H : Type} {d : DataW H} {l : List (DataW H)} (h : d ∈ l) : Rows.uptoBulk d ≤ Rows.uptoBulkAll l := by
  induction l with
  | nil => simp at h
  | cons x r ih =>
    simp only [Rows.uptoBulkAll]
    rcases List.mem_cons.1 h with rfl | h
    · omega
    · have := ih h; omega
end Go.Proofs.Ytnddejdndipddab
