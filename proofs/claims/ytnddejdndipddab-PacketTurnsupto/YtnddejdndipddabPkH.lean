/- The walk of PacketTurns. -/
import Derived.Test.YtnddejdndipddabPkG
set_option maxRecDepth 20000
namespace Go.Proofs.Ytnddejdndipddab
open Go.RowKit

set_option maxHeartbeats 2000000 in
theorem pturns_walk (v vb : Value) (l : List Ck) (bs : List Int) (w : World) (hv : CkS w.heap.size w v l) (hb : By w.heap.size w vb bs) (hl : l.length ≤ 1048576) (hbl : bs.length ≤ 1048576) :
    Calls Try.prog 4 #[v, vb] w fun e w' => e = .returned (.bool true) ∧ Below w.heap.size w w' := by
  have HV := hv
  have HB := hb
  obtain ⟨a, cap, rfl, h1, h2⟩ := hv.ex
  obtain ⟨ab, cb, rfl, h3, h4⟩ := hb.ex
  clear hv hb
  have PP := fun wx (hx : Below w.heap.size w wx) => pparse_any _ bs wx (HB.size hx (Nat.le_refl _)) (by omega)
  have ST := fun wx (hx : Below w.heap.size w wx) => (HB.below hx (Nat.le_refl _)).str
  have PBK := packet_back HB.2
  have HL : Hid (l.length * 36 ≤ 140737488355328 ∧ (packetM bs).2.length * 36 ≤ 140737488355328) := by have PL := packet_len HB.2; exact ⟨by omega, by omega⟩
  clear hl hbl
  go_enter Try.func4, Try.ntmps4
  go_wp2_with fail
  refine (alive3_any _).mono ?_
  rintro e w1 ⟨rfl, B1⟩
  go_wp2_with fail
  refine (pbytes_any _ l 1000000 _ (HV.size B1 (Nat.le_refl _)) HL.out.1).mono ?_
  rintro e w2 ⟨v2, rfl, by2, b2⟩
  have B2 := B1.trans (b2.mono B1.size)
  have by2e := by2.ex
  obtain ⟨a2, cap2, rfl, -, -⟩ := by2e
  clear b2
  by_cases hz : (packM l 1000000).1 = 0
  case' pos =>
    obtain ⟨t1, t2, t3, t4, t5, t6⟩ := packet_there hz
    rw [t1] at by2 ⊢
    have by3 := by2
    rw [hz]
    have HX : Hid (((allM l).length : Int) ≤ 1000000) := t5
    clear by2 hz t1 t5 t6
    generalize allM l = xs at *
    have T2 : ∀ wx, Below w2.heap.size w2 wx → _ := fun wx hx => (by3.below hx (Nat.le_refl _)).str
    have PA := pparse_any _ xs _ by3 (by have := HX.out; omega)
    rw [t2] at PA
    have HT : Hid (packM (l.map normM) (xs.length : Int) = (0, xs)) := t3
    clear t2 t3 t4
    go_wp2_with fail
    refine PA.mono ?_
    rintro e w3 ⟨v3, rfl, ck3, b3⟩
    have B3 := B2.trans (b3.mono B2.size)
    have PM := pbytes_any _ (l.map normM) (xs.length : Int) _ ck3 (by rw [List.length_map]; exact HL.out.1)
    rw [HT.out] at PM
    obtain ⟨a3, cap3, rfl, -, -⟩ := ck3.ex
    rw [List.length_map] at PM ⊢
    clear PA HT ck3
    go_wp2_with fail
    refine PM.mono ?_
    rintro e w4 ⟨v4, rfl, by4, b4⟩
    have B4 := B3.trans (b4.mono B3.size)
    have T3 := T2 _ (b3.trans (b4.mono b3.size))
    have T4 := by4.str
    obtain ⟨a4, cap4, rfl, -, -⟩ := by4.ex
    clear PM T2 by4 by3
    go_wp2_with fail
    have BA := B4
    clear B4 B3 B2 B1 b3 b4 T3 T4
  case' neg =>
    have hzb : ((packM l 1000000).1 == 0) = false := by simpa using hz
    clear by2
    go_wp2_with fail
    have BA := B2
    clear B2 B1
  all_goals (
    refine (PP _ BA).mono ?_
    rintro e w5 ⟨v5, rfl, ck5, b5⟩
    have B5 := BA.trans (b5.mono BA.size)
    obtain ⟨a5, cap5, rfl, -, -⟩ := ck5.ex
    rcases PBK with ⟨g1, g2⟩ | ⟨g1, g2⟩
    · have g1n : ((packetM bs).1 != 0) = true := by simpa using g1
      rw [g2]
      clear ck5
      go_wp2_with fail
      go_ret
      exact ⟨rfl, B5⟩
    · rw [g1]
      have PM := pbytes_any _ _ (bs.length : Int) _ ck5 HL.out.2
      rw [g2] at PM
      clear ck5 g1 g2
      go_wp2_with fail
      refine PM.mono ?_
      rintro e w6 ⟨v6, rfl, by6, b6⟩
      have B6 := B5.trans (b6.mono B5.size)
      have T6 := by6.str
      have T7 := ST _ B6
      obtain ⟨a6, cap6, rfl, -, -⟩ := by6.ex
      clear PM by6
      go_wp2_with fail
      go_ret
      exact ⟨ret_bool (by simp), B6⟩)
end Go.Proofs.Ytnddejdndipddab
