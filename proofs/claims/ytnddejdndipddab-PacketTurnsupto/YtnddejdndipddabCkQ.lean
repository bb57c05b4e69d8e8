/- Sacks, read: the walk. -/
import Derived.Test.YtnddejdndipddabCkP
import Derived.Deep.RegionLawGrows
set_option maxRecDepth 20000
namespace Go.Proofs.Ytnddejdndipddab
open Go.RowKit

theorem enters_N2 (args : Array Value) (wx : World) : (callFunc 82 args).run Try.prog wx = .ok (.enter 82 args) wx := enters_body Try.func82 (by kernel_rfl) rfl args wx

theorem new_at {w : World} {X j : Nat} {u : Value} (h : w.cell? ⟨X, j, none⟩ = some u) (o : Obj) : (w.alloc o).cell? ⟨X, j, none⟩ = some u := by
  rw [World.cell?_alloc_past _ _ _ (World.block_lt_of_cell? _ _ h)]; exact h
theorem twoR_c (s : Nat) (v : Value) (bs : List Int) (k : Nat) (w : World) (h : Rd s w v bs k) (hk : k + 1 < bs.length) :
    Calls Try.prog 82 #[.pointer (some ⟨s + 1, 0, none⟩)] w fun e w' => ∃ u, e = .returned u ∧ (u = .int .i64 (be bs k) ∧ Rd s w' v bs (k + 2) ∧ Keep (SR s) w w') :=
  (twoR_any s v bs k w h hk).mono fun _ _ h => ⟨_, h.1, rfl, h.2⟩

set_option maxHeartbeats 1000000 in
theorem readSack_any (v : Value) (bs : List Int) (w : World) (hv : By w.heap.size w v bs) (hl : bs.length ≤ 255) :
    Calls Try.prog 70 #[v] w fun e w' => ∃ c d s k, IsSl d ∧ IsSl s ∧ IsSl k ∧ e = .returned (.tuple #[ckVal c d s k, .bool (formS bs)]) ∧ (formS bs = true → CkOwn w.heap.size w' (ckVal c d s k) (sackM bs)) ∧ Below w.heap.size w w' := by
  have hv' := hv
  obtain ⟨a, cap, rfl, h1, h2⟩ := hv.ex
  have HB := fun o => box_below w o
  have hwh : decide ((4 : Int) ≤ (bs.length : Int) ∧ ((bs.length : Int) - 4) % 4 = 0) = formS bs := by
    unfold formS
    rw [decide_eq_decide]
    omega
  cases hf : formS bs with
  | false =>
    clear hv
    rw [hf] at hwh
    go_enter Try.func70, Try.ntmps70
    go_wp2_with (go_at_call 78; refine (whole_any _ _ _ _ (by omega) (by omega) (by omega) (by omega) rfl).mono ?_; rintro e w' ⟨rfl, rfl⟩; rw [hwh])
    refine bodyPost_ret_by (results_cell2 rfl _ _ _ ⟨w.heap.size, 0, none⟩ zeroV rfl ?_) rfl ?_
    · go_simp
      rfl
    · exact ⟨Ck.zero, _, _, _, isl, isl, isl, rfl, (fun h => absurd h (by decide)), HB _⟩
  | true =>
    have hf4 : 4 ≤ bs.length ∧ (bs.length - 4) % 4 = 0 := by simpa [formS] using hf
    obtain ⟨n, hn⟩ : ∃ n, bs.length = 4 + 4 * n := ⟨(bs.length - 4) / 4, by omega⟩
    have HBy : ∀ wx, Below w.heap.size w wx → By w.heap.size wx (.slice a bs.length cap) bs := fun wx hx => hv'.below hx (Nat.le_refl _)
    have HN : Hid (bs.length = 4 + 4 * n) := hn
    have hq : ((bs.length : Int) - 4).tdiv 4 = (n : Int) := by rw [hn, Int.tdiv_eq_ediv_of_nonneg (by omega)]; omega
    have hn4 : 4 ≤ bs.length := hf4.1
    have hnl : n ≤ 63 := by omega
    rw [hf] at hwh
    clear hv hf4 hn
    go_enter Try.func70, Try.ntmps70
    go_wp2_with (first | (go_at_call 78; refine (whole_any _ _ _ _ (by omega) (by omega) (by omega) (by omega) rfl).mono ?_; rintro e w' ⟨rfl, rfl⟩; rw [hwh]) | (go_at_call 77; refine (numbers_any _ _ a bs.length cap rfl).mono ?_; rintro e w' ⟨rfl, rfl⟩))
    refine (twoX (w.heap.size + 1) (w.heap.size + 1 + 1) (w.heap.size + 1 + 1 + 1) w.heap.size (.slice a bs.length cap) bs 0 _ (by go_simp) (by go_simp) (by go_simp) (by go_simp) (HBy _ (by repeat (first | exact Below.refl _ _ | refine Below.alloc ?_ (by simp <;> omega) _))) (by omega) (by omega) (by omega) (by omega)).mono ?_
    rintro e w' ⟨rfl, rfl⟩
    go_wp2_with fail
    refine (twoX (w.heap.size + 1) (w.heap.size + 1 + 1) (w.heap.size + 1 + 1 + 1) w.heap.size (.slice a bs.length cap) bs 2 _ (by go_simp) (by go_simp) (by go_simp) (by go_simp) (HBy _ (by repeat (first | exact Below.refl _ _ | refine Below.alloc ?_ (by simp <;> omega) _))) (by omega) (by omega) (by omega) (by omega)).mono ?_
    rintro e w' ⟨rfl, rfl⟩
    clear hwh
    go_wp2
    have S0 : SackR w (.slice a bs.length cap) bs 0 none 0 (((((w.alloc (.cells #[.int .i64 0, .int .i64 0, .int .i64 0, .int .i64 0, .int .i64 0, .bool false, .bool false, .slice none 0 0, .slice none 0 0, .int .i64 0, .slice none 0 0] 45)).alloc (.cells #[.slice a bs.length cap] 23)).alloc (.cells #[oneR (w.heap.size + 1)] 96)).alloc (.cells #[.int .i64 4] 3)).alloc
        (.cells #[.int .i64 2, .int .i64 (be bs 0), .int .i64 0, .int .i64 0, .int .i64 0, .bool false, .bool false, .slice none 0 0, .slice none 0 0, .int .i64 (be bs 2), .slice none 0 0] 45)) := by
      refine ⟨⟨by go_simp, by go_simp, by go_simp, by go_simp, (HBy _ (by repeat (first | exact Below.refl _ _ | refine Below.alloc ?_ (by simp <;> omega) _))).mono (by omega), by omega⟩, ?_, World.ownsRow_nil _ _ _ _, ?_, by repeat (first | exact Below.refl _ _ | refine Below.alloc ?_ (by simp <;> omega) _)⟩
      · exact Cells.new' _ _ (by simp)
      · exact ((((Cells.new w _ _).alloc (by simp) _).alloc (by simp; omega) _).alloc (by simp; omega) _).alloc (by simp; omega) _
    go_loopw [26] (fun i wr => ∃ (j : Nat) (av : Option Addr) (cv : Nat), j ≤ n ∧ i = .int .i64 j ∧ SackR w (.slice a bs.length cap) bs j av cv wr) (fun i _ => n - (intOf i).toNat)
    case atStart => exact ⟨0, none, 0, Nat.zero_le _, rfl, S0⟩
    case round =>
      obtain ⟨j, av, cv, hj, rfl, R⟩ := hrel
      have HX := hn4
      by_cases hlt : j < n
      · have hk1 : 4 + 4 * j + 1 < bs.length := by have := HN.out; omega
        have hk2 : 4 + 4 * j + 2 + 1 < bs.length := by have := HN.out; omega
        have l0 := R.ch.cell 8 _ rfl
        have rd0 : Rd (w.heap.size + 1) wr.drew (.slice a bs.length cap) bs (4 + 4 * j) := R.rd.heap rfl rfl rfl rfl
        clear S0
        go_upto_region 7 with fail
        go_region_law (first
          | (refine step_call0 rfl 32 rfl 82 #[.pointer (some ⟨w.heap.size + 1 + 1, 0, none⟩)] rfl enters_N2 _ (twoR_c (w.heap.size + 1) (.slice a bs.length cap) bs (4 + 4 * j + 2) _ rd1 hk2) ?_; rintro _ w2 ⟨rfl, rd2, kp2⟩; have l2 := (kp2.cell (p := ⟨w.heap.size + 4, 8, none⟩) (by unfold SR; simp)).trans l1; have l3 := fun o => new_at l2 o; have ST := sack_step R (kp1.trans kp2) rd2)
          | (refine step_call0 rfl 30 rfl 82 #[.pointer (some ⟨w.heap.size + 1 + 1, 0, none⟩)] rfl enters_N2 _ (twoR_c (w.heap.size + 1) (.slice a bs.length cap) bs (4 + 4 * j) _ rd0 hk1) ?_; rintro _ w1 ⟨rfl, rd1, kp1'⟩; have kp1 : Keep (SR (w.heap.size + 1)) wr w1 := ⟨kp1'.os, kp1'.tape, kp1'.output, kp1'.size, kp1'.block⟩; have l1 := (kp1.cell (p := ⟨w.heap.size + 4, 8, none⟩) (by unfold SR; simp)).trans l0)
          | (refine step_append_rw Try.underlying42 Try.info87 rfl (by decide) rfl (.tmp 29) (.tmp 35) rfl (w.heap.size + 5) (.slice av j cv) j (flat (spansN bs j)) rfl (ST _).1 (w2.heap.size + 1) 1 [.int .i64 (be bs (4 + 4 * j)), .int .i64 (be bs (4 + 4 * j + 2))] (.slice (some ⟨w2.heap.size, 0, none⟩) 1 1) rfl (Rw.lit2 _ _ _ _) (by intro u hu; simp at hu; rcases hu with rfl | rfl <;> rfl) (by unfold maxLen; omega) (by omega) (ST _).2.1 ?_; intro v' w4 o4 g4 _; obtain ⟨a4, c4, rfl, c8, f8, R4⟩ := (ST _).2.2 v' w4 o4 g4; clear o4 g4))
        all_goals (
          go_wp2
          go_roundw
          case rel => exact ⟨j + 1, a4, c4, by omega, by go_num, R4⟩
          case measure => simp [intOf]; omega)
      · have hjn : j = n := by omega
        subst hjn
        have x0 := R.ch.cell 0 _ rfl
        have z0 := R.z.cell 0 _ rfl
        have g0 := R.z.fz 0
        have x1 := R.ch.cell 1 _ rfl
        have z1 := R.z.cell 1 _ rfl
        have g1 := R.z.fz 1
        have x2 := R.ch.cell 2 _ rfl
        have z2 := R.z.cell 2 _ rfl
        have g2 := R.z.fz 2
        have x3 := R.ch.cell 3 _ rfl
        have z3 := R.z.cell 3 _ rfl
        have g3 := R.z.fz 3
        have x4 := R.ch.cell 4 _ rfl
        have z4 := R.z.cell 4 _ rfl
        have g4 := R.z.fz 4
        have x5 := R.ch.cell 5 _ rfl
        have z5 := R.z.cell 5 _ rfl
        have g5 := R.z.fz 5
        have x6 := R.ch.cell 6 _ rfl
        have z6 := R.z.cell 6 _ rfl
        have g6 := R.z.fz 6
        have x7 := R.ch.cell 7 _ rfl
        have z7 := R.z.cell 7 _ rfl
        have g7 := R.z.fz 7
        have x8 := R.ch.cell 8 _ rfl
        have z8 := R.z.cell 8 _ rfl
        have g8 := R.z.fz 8
        have x9 := R.ch.cell 9 _ rfl
        have z9 := R.z.cell 9 _ rfl
        have g9 := R.z.fz 9
        have x10 := R.ch.cell 10 _ rfl
        have z10 := R.z.cell 10 _ rfl
        have g10 := R.z.fz 10
        clear S0
        have HS : Hid (sackM bs = ⟨2, be bs 0, 0, 0, 0, false, false, [], spansN bs j, be bs 2, []⟩) := by show _ = _; rw [sackM, spansN_eq bs j HN.out]
        have HI : Hid (Fit (spansN bs j)) := spansN_fit hv'.2 j
        go_wp2_with fail
        refine bodyPost_ret_by (results_cell2 rfl _ _ _ ⟨w.heap.size, 0, none⟩ (ckVal ⟨2, be bs 0, 0, 0, 0, false, false, [], spansN bs j, be bs 2, []⟩ (.slice none 0 0) (.slice av j cv) (.slice none 0 0)) rfl ?_) rfl ?_
        · go_simp
          rfl
        refine ⟨⟨2, be bs 0, 0, 0, 0, false, false, [], spansN bs j, be bs 2, []⟩, _, _, _, isl, isl, isl, rfl, fun _ => ?_, ?_⟩
        · rw [HS.out]
          refine ⟨_, _, _, rfl, World.ownsRow_nil _ _ _ _, ?_, World.ownsRow_nil _ _ _ _, fun z hz => by simp at hz, HI.out⟩
          dsimp only
          rw [spansN_len]
          refine own_low (own_of_block R.own fun k hk => ?_) (by omega)
          have hk5 := (R.own.lt k hk).1
          refine Keep.block (S := fun j => j ≠ w.heap.size) ?_ k (by omega)
          repeat refine Keep.setCell ?_ (by simp) _
          exact Keep.refl _ _
        · repeat refine Below.setCell ?_ (by simp) _
          exact R.bel
end Go.Proofs.Ytnddejdndipddab
