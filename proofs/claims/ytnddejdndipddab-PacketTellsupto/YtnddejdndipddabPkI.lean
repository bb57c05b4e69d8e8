/- The walk of PacketTells. -/
import Derived.Test.YtnddejdndipddabPkE
import Derived.Test.YtnddejdndipddabPkF
set_option maxRecDepth 20000
namespace Go.Proofs.Ytnddejdndipddab
open Go.RowKit

set_option maxHeartbeats 2000000 in
theorem ptells_walk (v vb : Value) (l : List Ck) (most : Int) (bs : List Int) (w : World) (hv : CkS w.heap.size w v l) (hb : By w.heap.size w vb bs) (hm1 : -9223372036854775808 ≤ most) (hm2 : most ≤ 9223372036854775807) (hl : l.length ≤ 1048576) (hbl : bs.length ≤ 1048576) :
    Calls Try.prog 3 #[v, .int .i64 most, vb] w fun e w' => e = .returned (.bool true) ∧ Below w.heap.size w w' := by
  have HV := hv
  have HB := hb
  obtain ⟨a, cap, rfl, h1, h2⟩ := hv.ex
  obtain ⟨ab, cb, rfl, h3, h4⟩ := hb.ex
  clear hv hb
  have Q1 := fun wx (hx : Below w.heap.size w wx) => pbytes_any _ l most wx (HV.size hx (Nat.le_refl _)) (by omega)
  have Q2 := fun wx (hx : Below w.heap.size w wx) => rpbytes_any _ l most wx (HV.size hx (Nat.le_refl _)) (by omega)
  have Q3 := fun wx (hx : Below w.heap.size w wx) => pfit_any _ l most wx (HV.size hx (Nat.le_refl _)) hm1 hm2
  have Q4 := fun wx (hx : Below w.heap.size w wx) => rfit_any _ l most wx (HV.size hx (Nat.le_refl _)) (by omega)
  have Q5 := fun wx (hx : Below w.heap.size w wx) => pparse_any _ bs wx (HB.size hx (Nat.le_refl _)) (by omega)
  have Q6 := fun wx (hx : Below w.heap.size w wx) => rpacket_any _ bs wx (HB.size hx (Nat.le_refl _)) (by omega)
  clear hl hbl
  generalize packM l most = pm at *
  generalize fitM l most = fm at *
  generalize packetM bs = qm at *
  go_enter Try.func3, Try.ntmps3
  go_wp2_with fail
  refine (Q1 _ (Below.refl _ _)).mono ?_
  rintro e w1 ⟨v1, rfl, by1, B1⟩
  obtain ⟨a1, cap1, rfl, -, -⟩ := by1.ex
  go_wp2_with fail
  refine (Q2 _ B1).mono ?_
  rintro e w2 ⟨v2, rfl, by2, b2⟩
  have B2 := B1.trans (b2.mono B1.size)
  have T1 := (by1.below b2 (Nat.le_refl _)).str
  have T2 := by2.str
  obtain ⟨a2, cap2, rfl, -, -⟩ := by2.ex
  clear by1 by2 Q1 Q2
  go_wp2_with fail
  refine (Q3 _ B2).mono ?_
  rintro e w3 ⟨rfl, b3⟩
  have B3 := B2.trans (b3.mono B2.size)
  clear T1 T2
  go_wp2_with fail
  refine (Q4 _ B3).mono ?_
  rintro e w4 ⟨rfl, b4⟩
  have B4 := B3.trans (b4.mono B3.size)
  clear Q3 Q4
  go_wp2_with fail
  refine (Q5 _ B4).mono ?_
  rintro e w5 ⟨v5, rfl, ck5, b5⟩
  have B5 := B4.trans (b5.mono B4.size)
  obtain ⟨a5, cap5, rfl, -, -⟩ := ck5.ex
  go_wp2_with fail
  refine (Q6 _ B5).mono ?_
  rintro e w6 ⟨v6, rfl, ck6, b6⟩
  have B6 := B5.trans (b6.mono B5.size)
  obtain ⟨a6, cap6, rfl, -, -⟩ := ck6.ex
  have SM := sameChunks_same _ _ _ _ (ck5.size b6 (Nat.le_refl _)) ck6
  clear Q5 Q6 ck5 ck6
  go_wp2_with fail
  refine SM.mono ?_
  rintro e w7 ⟨rfl, b7⟩
  have B7 := B6.trans (b7.mono B6.size)
  go_wp2_with fail
  go_ret
  exact ⟨ret_bool (by simp), B7⟩
end Go.Proofs.Ytnddejdndipddab
