/- SameChunk, of the document's answer, where the two are the same. -/
import Derived.Test.YtnddejdndipddabCkU
set_option maxRecDepth 20000
namespace Go.Proofs.Ytnddejdndipddab
open Go.RowKit

theorem run_neq_sk (s : Sk) (wx : World) : (binOp .neq 89 (.agg #[.int .i64 s.stream, .int .i64 s.mid, .bool s.ordered]) (.agg #[.int .i64 s.stream, .int .i64 s.mid, .bool s.ordered])).run Try.prog wx = .ok (.bool false) wx := by
  go_simp

set_option maxHeartbeats 1000000 in
theorem sameChunk_same (v v' : Value) (c : Ck) (w : World) (hv : CkV w.heap.size w v c) (hv' : CkV w.heap.size w v' c) :
    Calls Try.prog 33 #[v, v'] w fun e w' => e = .returned (.bool true) ∧ Below w.heap.size w w' := by
  obtain ⟨d, s, k, rfl, hd, hs, hk⟩ := hv
  obtain ⟨d', s', k', rfl, hd', hs', hk'⟩ := hv'
  have HB2 := fun o o' => two_below w o o'
  have S1 := fun o o' => (hd.below (HB2 o o') (Nat.le_refl _)).str
  have S2 := fun o o' => (hd'.below (HB2 o o') (Nat.le_refl _)).str
  have hs2 := fun o o' => (hs.below (HB2 o o') (Nat.le_refl _)).mono (HB2 o o').size
  have hs2' := fun o o' => (hs'.below (HB2 o o') (Nat.le_refl _)).mono (HB2 o o').size
  obtain ⟨ad, cd, rfl, -, -⟩ := hd.ex
  obtain ⟨asp, cs, rfl⟩ := hs.ex
  obtain ⟨ak, ck, rfl, k1, k2⟩ := hk.ex
  obtain ⟨ad', cd', rfl, -, -⟩ := hd'.ex
  obtain ⟨asp', cs', rfl⟩ := hs'.ex
  obtain ⟨ak', ck', rfl, k1', k2'⟩ := hk'.ex
  simp only [ckVal]
  have SM := fun o o' => same_any _ _ c.spans c.spans _ (hs2 o o') (hs2' o o')
  simp only [decide_true] at SM
  clear hd hd' hs hs' hs2 hs2'
  go_enter Try.func33, Try.ntmps33
  go_wp2_with fail
  refine (SM _ _).mono ?_
  rintro e w1 ⟨rfl, b1⟩
  have CA := ((Cells.new w #[.int .i64 c.kind, .int .i64 c.tag, .int .i64 c.stream, .int .i64 c.mid, .int .i64 c.part, .bool c.last, .bool c.ordered, .slice ad c.data.length cd, .slice asp c.spans.length cs, .int .i64 c.room, .slice ak c.skips.length ck] 45).alloc (by simp) (.cells #[.int .i64 c.kind, .int .i64 c.tag, .int .i64 c.stream, .int .i64 c.mid, .int .i64 c.part, .bool c.last, .bool c.ordered, .slice ad' c.data.length cd', .slice asp' c.spans.length cs', .int .i64 c.room, .slice ak' c.skips.length ck'] 45)).below b1 (by simp; omega)
  have CB := (Cells.new' (w := w.alloc (.cells #[.int .i64 c.kind, .int .i64 c.tag, .int .i64 c.stream, .int .i64 c.mid, .int .i64 c.part, .bool c.last, .bool c.ordered, .slice ad c.data.length cd, .slice asp c.spans.length cs, .int .i64 c.room, .slice ak c.skips.length ck] 45)) (X := w.heap.size + 1) #[.int .i64 c.kind, .int .i64 c.tag, .int .i64 c.stream, .int .i64 c.mid, .int .i64 c.part, .bool c.last, .bool c.ordered, .slice ad' c.data.length cd', .slice asp' c.spans.length cs', .int .i64 c.room, .slice ak' c.skips.length ck'] 45 (by simp)).below b1 (by simp)
  have p1 := CA.cell 10 _ rfl
  have p2 := CB.cell 10 _ rfl
  have B1 := (HB2 _ _).trans (b1.mono (HB2 _ _).size)
  clear CA CB SM S1 S2
  go_wp2
  go_loopw [89] (fun i wr => ∃ (j : Nat), j ≤ c.skips.length ∧ i = .int .i64 j ∧ Below w1.heap.size w1 wr) (fun i _ => c.skips.length - (intOf i).toNat)
  case atStart => exact ⟨0, Nat.zero_le _, rfl, Below.refl _ _⟩
  case round =>
    obtain ⟨j, hj, rfl, hbel⟩ := hrel
    by_cases hlt : j < c.skips.length
    · have BL : Below w.heap.size w wr := B1.trans (hbel.mono B1.size)
      obtain ⟨b, off, hb, hix, hx0, hx1, hx2⟩ := (hk.below BL (Nat.le_refl _)).at j hlt
      obtain ⟨b', off', hb', hix', hy0, hy1, hy2⟩ := (hk'.below BL (Nat.le_refl _)).at j hlt
      have q1 := (hbel.cell (p := ⟨w.heap.size, 10, none⟩) (World.block_lt_of_cell? _ _ p1)).trans p1
      have q2 := (hbel.cell (p := ⟨w.heap.size + 1, 10, none⟩) (World.block_lt_of_cell? _ _ p2)).trans p2
      have hq := run_neq_sk c.skips[j]
      clear p1 p2
      go_wp2
      go_quiet (fail)
      go_wp2
      go_roundw
      case rel => exact ⟨j + 1, by omega, by go_num, below_drewN hbel _⟩
      case measure => simp [intOf]; omega
    · have BL : Below w.heap.size w wr := B1.trans (hbel.mono B1.size)
      go_wp2
      go_ret
      exact ⟨rfl, BL⟩
end Go.Proofs.Ytnddejdndipddab
