/- alive, of the statements about chapter 3, and the walk of PacketFit. -/
import Derived.Test.YtnddejdndipddabPkC
import Derived.Test.YtnddejdndipddabPkD
set_option maxRecDepth 20000
namespace Go.Proofs.Ytnddejdndipddab
open Go.RowKit

/-- The chunks that alive asks of. -/
def al3 : List Ck := [⟨2, 1, 0, 0, 0, false, false, [], [], 0, []⟩, ⟨3, 2, 0, 0, 0, false, false, [], [], 0, []⟩]
theorem al3_pack : packM al3 40 = (0, [2, 4, 0, 1, 0, 0, 3, 2, 0, 2]) := by decide
theorem al3_fit : fitM al3 7 = 1 := by decide
theorem al3_packet : packetM [2, 4, 0, 1, 0, 0, 3, 2, 0, 2] = (0, al3) := by
  have := (packet_there (l := al3) (most := 40) (by rw [al3_pack])).2.1
  exact this
theorem al3_v (w : World) : CkS (w.alloc (.cells #[.int .i64 2, .int .i64 1, .int .i64 0, .int .i64 0, .int .i64 0, .bool false, .bool false, .slice none 0 0, .slice none 0 0, .int .i64 0, .slice none 0 0, .int .i64 3, .int .i64 2, .int .i64 0, .int .i64 0, .int .i64 0, .bool false, .bool false, .slice none 0 0, .slice none 0 0, .int .i64 0, .slice none 0 0] 45)).heap.size
    (w.alloc (.cells #[.int .i64 2, .int .i64 1, .int .i64 0, .int .i64 0, .int .i64 0, .bool false, .bool false, .slice none 0 0, .slice none 0 0, .int .i64 0, .slice none 0 0, .int .i64 3, .int .i64 2, .int .i64 0, .int .i64 0, .int .i64 0, .bool false, .bool false, .slice none 0 0, .slice none 0 0, .int .i64 0, .slice none 0 0] 45))
    (.slice (some ⟨w.heap.size, 0, none⟩) 2 2) al3 := by
  refine ⟨[ckVal ⟨2, 1, 0, 0, 0, false, false, [], [], 0, []⟩ (.slice none 0 0) (.slice none 0 0) (.slice none 0 0), ckVal ⟨3, 2, 0, 0, 0, false, false, [], [], 0, []⟩ (.slice none 0 0) (.slice none 0 0) (.slice none 0 0)], ⟨⟨_, _, _, rfl, By.nil _ _, Sl.nil' _ _, Kl.nil _ _⟩, ⟨_, _, _, rfl, By.nil _ _, Sl.nil' _ _, Kl.nil _ _⟩, trivial⟩, rfl, some ⟨w.heap.size, 0, none⟩, 2, rfl, Nat.le_refl _, by omega, fun h => by simp at h, fun _ => ⟨w.heap.size, 0, rfl, by simp, fun q u hu => ?_⟩⟩
  rw [World.cell?_alloc_at _ _ _ _ rfl, Nat.zero_add, ← hu]
  simp [flatA, ckVal, Value.cells]

set_option maxHeartbeats 1000000 in
theorem alive3_any (w : World) : Calls Try.prog 16 #[] w fun e w' => e = .returned (.bool true) ∧ Below w.heap.size w w' := by
  have AV := al3_v w
  have B0 := box_below w (.cells #[.int .i64 2, .int .i64 1, .int .i64 0, .int .i64 0, .int .i64 0, .bool false, .bool false, .slice none 0 0, .slice none 0 0, .int .i64 0, .slice none 0 0, .int .i64 3, .int .i64 2, .int .i64 0, .int .i64 0, .int .i64 0, .bool false, .bool false, .slice none 0 0, .slice none 0 0, .int .i64 0, .slice none 0 0] 45)
  have PB := pbytes_any _ _ 40 _ AV (by decide)
  rw [al3_pack] at PB
  go_enter Try.func16, Try.ntmps16
  go_wp2_with fail
  refine PB.mono ?_
  rintro e w1 ⟨v1, rfl, by1, b1⟩
  have AV1 := AV.size b1 (Nat.le_refl _)
  have B1 := B0.trans (b1.mono B0.size)
  have PA := pparse_any _ _ _ by1 (by decide)
  rw [al3_packet] at PA
  obtain ⟨a1, cap1, rfl, -, -⟩ := by1.ex
  clear AV B0 b1 PB by1
  go_wp2_with fail
  refine PA.mono ?_
  rintro e w2 ⟨v2, rfl, ck2, b2⟩
  have AV2 := AV1.size b2 (Nat.le_refl _)
  have B2 := B1.trans (b2.mono B1.size)
  obtain ⟨a2, cap2, rfl, -, -⟩ := ck2.ex
  obtain ⟨b, off, d, s, q, hbb, hix, -, -, -, -, -, x1, -⟩ := ck2.at 1 (by decide)
  have ix1 : ∀ wx, (Instr.indexAt 22 (.slice a2 2 cap2) (.int .i64 1)).run Try.prog wx = .ok (.pointer (some ⟨b, off, none⟩)) wx := hix
  have x1' : w2.cell? ⟨b, off + 1, none⟩ = some (.int .i64 2) := x1
  have PF := pfit_any _ al3 7 _ AV2 (by omega) (by omega)
  rw [al3_fit] at PF
  clear PA AV1 hix x1 ck2
  rw [show al3.length = 2 from rfl]
  go_wp2_with fail
  refine PF.mono ?_
  rintro e w3 ⟨rfl, b3⟩
  have B3 := B2.trans (b3.mono B2.size)
  go_wp2
  go_ret
  exact ⟨rfl, B3⟩

theorem run_re_hc' (a : Option Addr) (n cap hi : Nat) (z : Int) (hz : z = (hi : Int)) (h : hi ≤ n) (h' : n ≤ cap) (wx : World) : (Instr.slice 22 (.slice a n cap) none (some (.int .i64 z)) none).run Try.prog wx = .ok (.slice a hi cap) wx := by
  subst hz
  have h1 : (0 : Int) ≤ hi := by omega
  have h2 : (hi : Int) ≤ cap := by omega
  rw [run_slice_h wx 22 a n cap Try.underlying22 .i64 (hi : Int) h1 h2]
  go_simp

set_option maxHeartbeats 1000000 in
theorem pfit_walk (v : Value) (l : List Ck) (most : Int) (w : World) (hv : CkS w.heap.size w v l) (hl : l.length * 36 ≤ 140737488355328) (hm1 : -9223372036854775808 ≤ most) (hm2 : most ≤ 9223372036854775807) :
    Calls Try.prog 5 #[v, .int .i64 most] w fun e w' => e = .returned (.bool true) ∧ Below w.heap.size w w' := by
  have HV := hv
  obtain ⟨a, cap, rfl, h1, h2⟩ := hv.ex
  clear hv
  have FL := fit_le l most
  have FP := fit_pack l most
  have PF := fun wx (hb : Below w.heap.size w wx) => pfit_any _ l most wx (HV.size hb (Nat.le_refl _)) hm1 hm2
  have PB := fun wx (hb : Below w.heap.size w wx) (d : Nat) (hd : d ≤ l.length) => pbytes_any _ (l.take d) most wx ((HV.size hb (Nat.le_refl _)).head d hd) (by simp; omega)
  have RE := run_re_hc' a l.length cap
  generalize fitM l most = k at *
  go_enter Try.func5, Try.ntmps5
  go_wp2_with fail
  refine (alive3_any _).mono ?_
  rintro e w1 ⟨rfl, B1⟩
  go_wp2_with fail
  refine (PF _ B1).mono ?_
  rintro e w2 ⟨rfl, b2⟩
  have B2 := B1.trans (b2.mono B1.size)
  clear PF b2
  have i0 : ¬ (k : Int) < 0 := by omega
  have i1 : ¬ (l.length : Int) < (k : Int) := by omega
  have TAIL : ∀ (wx : World) (hb : Below w.heap.size w wx), k < l.length → Calls Try.prog 9 #[.slice a (k + 1) cap, .int .i64 most] wx fun e w' => ∃ v' x, e = .returned (.tuple #[v', .int .i64 x]) ∧ IsSl v' ∧ (x != 0) = true ∧ Below w.heap.size w w' := by
    intro wx hb hk
    refine (PB wx hb (k + 1) (by omega)).mono ?_
    rintro e w3 ⟨v3, rfl, by3, b3⟩
    obtain ⟨a3, cap3, rfl, -, -⟩ := by3.ex
    refine ⟨_, _, rfl, isl, ?_, hb.trans (b3.mono hb.size)⟩
    simp only [bne_iff_ne, ne_eq]
    intro e
    have := (FP (k + 1) (by omega) (by omega)).1 e
    omega
  have HEAD : ∀ (wx : World) (hb : Below w.heap.size w wx), 0 < k → Calls Try.prog 9 #[.slice a k cap, .int .i64 most] wx fun e w' => ∃ v', e = .returned (.tuple #[v', .int .i64 0]) ∧ IsSl v' ∧ Below w.heap.size w w' := by
    intro wx hb hk
    refine (PB wx hb k FL).mono ?_
    rintro e w3 ⟨v3, rfl, by3, b3⟩
    obtain ⟨a3, cap3, rfl, -, -⟩ := by3.ex
    rw [(FP k hk FL).2 (Nat.le_refl _)]
    exact ⟨_, rfl, isl, hb.trans (b3.mono hb.size)⟩
  clear PB FP
  by_cases hk0 : 0 < k
  · have r1 := RE k k rfl FL h1
    go_wp2_with fail
    refine (HEAD _ B2 hk0).mono ?_
    rintro e w3 ⟨v3, rfl, ⟨a3, n3, c3, rfl⟩, B3⟩
    by_cases hkl : k < l.length
    · have r2 := RE (k + 1) ((k : Int) + 1) (by omega) (by omega) h1
      have i2 : ¬ (k : Int) = (l.length : Int) := by omega
      go_wp2_with fail
      refine (TAIL _ B3 hkl).mono ?_
      rintro e w4 ⟨v4, x, rfl, ⟨a4, n4, c4, rfl⟩, hx, B4⟩
      go_wp2_with fail
      go_ret
      exact ⟨rfl, B4⟩
    · have hke : k = l.length := by omega
      subst hke
      go_wp2_with fail
      go_ret
      exact ⟨rfl, B3⟩
  · by_cases hkl : k < l.length
    · have r2 := RE (k + 1) ((k : Int) + 1) (by omega) (by omega) h1
      have i2 : ¬ (k : Int) = (l.length : Int) := by omega
      have i3 : ¬ (0 : Int) < (k : Int) := by omega
      go_wp2_with fail
      refine (TAIL _ B2 hkl).mono ?_
      rintro e w4 ⟨v4, x, rfl, ⟨a4, n4, c4, rfl⟩, hx, B4⟩
      go_wp2_with fail
      go_ret
      exact ⟨rfl, B4⟩
    · have hke : k = l.length := by omega
      subst hke
      go_wp2_with fail
      go_ret
      exact ⟨rfl, B2⟩
end Go.Proofs.Ytnddejdndipddab
