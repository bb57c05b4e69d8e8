/- What a bound on the bulk of what came in says of lengths. -/
import Derived.Test.YtnddejdndipddabRows
set_option maxRecDepth 20000
namespace Go.Proofs.Ytnddejdndipddab

theorem bulk_one {H : Type} (d : DataW H) : 1 ≤ Rows.uptoBulk d := by
  cases d with
  | lit l => cases l <;> simp [Rows.uptoBulk]
  | _ => simp [Rows.uptoBulk]
theorem bulk_all {H : Type} (l : List (DataW H)) : l.length ≤ Rows.uptoBulkAll l := by
  induction l with
  | nil => simp [Rows.uptoBulkAll]
  | cons x r ih => have := bulk_one x; simp only [Rows.uptoBulkAll, List.length_cons]; omega
theorem bulk_slice {H : Type} (es sp : List (DataW H)) : es.length + sp.length + 1 ≤ Rows.uptoBulk (.slice es sp) := by
  have := bulk_all es
  have := bulk_all sp
  simp only [Rows.uptoBulk]
  omega
end Go.Proofs.Ytnddejdndipddab
