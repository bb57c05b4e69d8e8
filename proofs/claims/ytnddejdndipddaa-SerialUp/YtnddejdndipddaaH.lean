/- The contract of alive: a closed fact. -/
import Derived.Test.YtnddejdndipddaaG
set_option maxRecDepth 20000
namespace Go.Proofs.Ytnddejdndipddaa
open Go.RowKit

theorem e_add1 : addM [(3, 4)] 6 = [(3, 4), (6, 6)] := by decide
theorem e_add2 : addM [(3, 4), (6, 6)] 5 = [(3, 6)] := by decide
theorem e_up : upM [(3, 6)] 2 = (6, []) := by decide
theorem e_has5 : inM [(3, 6)] 5 = true := by decide
theorem e_has7 : inM [(3, 6)] 7 = false := by decide
theorem e_near : nearM 65530 3 = 65539 := by decide

/-- A contract's world: nothing old has turned, and a slice of spans. -/
theorem Sl.size {B : Nat} {w w' : World} {v : Value} {l : List Sp} (h : Sl w.heap.size w v l) (hb : Below B w w') (hB : w.heap.size ≤ B) : Sl w'.heap.size w' v l := (h.below hb hB).mono hb.size

set_option maxHeartbeats 400000 in
theorem alive_any (w : World) : Calls Try.prog 21 #[] w fun e w' => e = .returned (.bool true) ∧ Below w.heap.size w w' := by
  have s0 := Sl.one w 3 4 (by unfold I64; omega) (by unfold I64; omega)
  go_enter Try.func21, Try.ntmps21
  go_wp2_with fail
  refine (add_any _ [(3, 4)] 6 _ (by simpa using s0) (by unfold I64; omega) (by decide)).mono ?_
  rintro e w1 ⟨v1, rfl, s1, b1⟩
  rw [e_add1] at s1
  go_wp2_with fail
  refine (add_any _ [(3, 4), (6, 6)] 5 _ s1 (by unfold I64; omega) (by decide)).mono ?_
  rintro e w2 ⟨v2, rfl, s2, b2⟩
  rw [e_add2] at s2
  go_wp2_with fail
  refine (up_any _ [(3, 6)] 2 _ s2 (by unfold I64; omega) (by decide)).mono ?_
  rintro e w3 ⟨v3, rfl, s3, b3⟩
  rw [e_up] at s3 ⊢
  have s2' := s2.size b3 (Nat.le_refl _)
  have s2k := s2'
  obtain ⟨a2, c2, rfl, g2⟩ := s2'
  have g3 := s3
  obtain ⟨a3, c3, rfl, g3⟩ := g3
  obtain ⟨b, off, hb, hix, hx0, hx1⟩ := s2k.at 0 (by simp)
  simp only [List.getElem_cons_zero, Int.natCast_zero, List.length_cons, List.length_nil, Nat.zero_add] at hix hx0 hx1
  have hb13 : Below w.heap.size w w3 := (((box_below w _).trans (b1.mono (by simp))).trans (b2.mono (by have := b1.size; simp at this; omega))).trans (b3.mono (by have := b1.size; have := b2.size; simp at *; omega))
  clear g2 g3 s0 s1 s2 s3 b1 b2 b3
  go_wp2_with fail
  refine (tag_any 65537 _).mono ?_
  rintro e w' ⟨rfl, rfl⟩
  go_wp2_with fail
  refine (near_any 65530 3 _ (by omega) (by omega)).mono ?_
  rintro e w' ⟨rfl, rfl⟩
  rw [e_near]
  go_wp2_with fail
  refine (has_any _ [(3, 6)] 5 _ s2k).mono ?_
  rintro e w4 ⟨rfl, b4⟩
  rw [e_has5]
  go_wp2_with fail
  refine (has_any _ [(3, 6)] 7 _ (s2k.size b4 (Nat.le_refl _))).mono ?_
  rintro e w5 ⟨rfl, b5⟩
  rw [e_has7]
  go_wp2
  go_ret
  exact ⟨rfl, (hb13.trans (b4.mono hb13.size)).trans (b5.mono (by have := hb13.size; have := b4.size; omega))⟩
end Go.Proofs.Ytnddejdndipddaa
