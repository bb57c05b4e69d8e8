/- The contract of Up, of package serial. -/
import Derived.Test.YtnddejdndipddaaE
set_option maxRecDepth 20000
namespace Go.Proofs.Ytnddejdndipddaa
open Go.RowKit

/-- What Up tells. -/
def upM (l : List Sp) (c : Int) : Int × List Sp := ((scan soUp c l).2, l.drop (scan soUp c l).1)

set_option maxHeartbeats 400000 in
theorem up_any (v : Value) (l : List Sp) (c : Int) (w : World) (hv : Sl w.heap.size w v l) (hc : I64 c) (hl : l.length * 16 ≤ 140737488355328) :
    Calls Try.prog 14 #[v, .int .i64 c] w fun e w' => ∃ v', e = .returned (.tuple #[.int .i64 (upM l c).1, v']) ∧ Sl w'.heap.size w' v' (upM l c).2 ∧ Below w.heap.size w w' := by
  have hmf : ∀ (fn : Fn) (first cap : Array Value) (w : World), (Instr.makeFunc fn first cap).run Try.prog w = .ok (.func fn first cap) w := fun _ _ _ _ => rfl
  have hv' := hv
  obtain ⟨a, cap, rfl, h1, h2, h0, h3, h4⟩ := hv
  clear h4 h0
  go_enter Try.func14, Try.ntmps14
  go_wp2_with fail
  refine (first_any 32 w.heap.size _ l soUp I64 c _ (hv'.below (box_below w _) (Nat.le_refl _)) (by simp) (box_cell _ _ _) (box_frozen _ _ _) hc enters_Up_1 (asks_up _ _ h3)).mono ?_
  rintro e w1 ⟨rfl, hI1, hc1, hf1, hb⟩
  have hle := scan_le soUp l c
  have hb2 := (box_below w (.cells #[.int .i64 c] 3)).trans hb
  have hv2 := hv'.below hb2 (Nat.le_refl _)
  have hp := hv2.piece (scan soUp c l).1 l.length hle (Nat.le_refl _)
  rw [List.take_length] at hp
  have HP : Hid (Sl w.heap.size w1 (sliced a (scan soUp c l).1 l.length cap 2) (l.drop (scan soUp c l).1)) := hp
  clear hp hv' hv2 hmf
  generalize hk : (scan soUp c l).1 = k at *
  go_wp2
  go_region_law (refine step_append_sp rfl (.const (.slice none 0 0)) (.tmp 13) rfl w1.heap.size (.slice none 0 0) 0 [] (by simp [Act.eval]) (World.ownsRow_nil _ _ _ _) w.heap.size (l.drop k) (sliced a k l.length cap 2) (by simp [Act.eval, Act.put, sliced]) (by exact HP.out) (by simp; omega) (by simp) ?_; intro v' w2 hown hgrow; have hc2 : w2.cell? ⟨w.heap.size, 0, none⟩ = some (.int .i64 (scan soUp c l).2) := hgrow.cell (by exact hc1) (by simp [Value.ownBlock]))
  all_goals (try go_wp2)
  all_goals go_ret2
  all_goals
    rw [Nat.zero_add, List.nil_append] at hown
    refine ⟨v', rfl, ?_, hb2.drew.grown hgrow (by have := hb2.size; simpa using this) (fun k hk => by simp [Value.ownBlock] at hk)⟩
    show Sl _ _ _ (l.drop (scan soUp c l).1)
    rw [hk]
    exact Sl.own hown (h3.drop _)
end Go.Proofs.Ytnddejdndipddaa
