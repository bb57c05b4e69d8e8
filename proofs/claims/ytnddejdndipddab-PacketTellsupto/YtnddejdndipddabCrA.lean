/- The document's small ones: two bytes of a number; reading one byte, and two. -/
import Derived.Test.YtnddejdndipddabCkU
set_option maxRecDepth 20000
namespace Go.Proofs.Ytnddejdndipddab
open Go.RowKit

set_option maxHeartbeats 400000 in
theorem rtwo_any (n : Int) (w : World) (h1 : 0 ≤ n) (h2 : n < 65536) : Calls Try.prog 52 #[.int .i64 n] w fun e w' => e = .returned (.slice (some ⟨w.heap.size, 0, none⟩) 2 2) ∧ w' = w.alloc (.cells #[.int .u8 (n / 256), .int .u8 (n % 256)] 5) := by
  have e1 : n.tdiv 256 = n / 256 := Int.tdiv_eq_ediv_of_nonneg h1
  have e2 : n.tmod 256 = n % 256 := Int.tmod_eq_emod_of_nonneg h1
  have a1 : 0 ≤ n / 256 := by omega
  have a2 : n / 256 < 256 := by omega
  have a3 : 0 ≤ n % 256 := by omega
  have a4 : n % 256 < 256 := by omega
  go_enter Try.func52, Try.ntmps52
  go_wp2
  go_ret
  exact ⟨rfl, rfl⟩

/-- A reader in block R: what is left, and whether all was well. -/
structure RdS (R : Nat) (w : World) (l : List Int) (ok : Bool) : Prop where
  ex : ∃ a cap, w.cell? ⟨R, 0, none⟩ = some (.slice a l.length cap) ∧ By R w (.slice a l.length cap) l
  ok : w.cell? ⟨R, 1, none⟩ = some (.bool ok)
  f0 : w.frozen? ⟨R, 0, none⟩ = false
  f1 : w.frozen? ⟨R, 1, none⟩ = false

theorem RdS.keep {S : Nat → Prop} {R : Nat} {w w' : World} {l : List Int} {ok : Bool} (h : RdS R w l ok) (hk : Keep S w w') (hS : ∀ k, k ≤ R → S k) : RdS R w' l ok := by
  obtain ⟨⟨a, cap, h1, h2⟩, h3, h4, h5⟩ := h
  exact ⟨⟨a, cap, (hk.cell (p := ⟨R, 0, none⟩) (hS R (Nat.le_refl _))).trans h1, h2.below (hk.below fun k hk => hS k (by omega)) (Nat.le_refl _)⟩, (hk.cell (p := ⟨R, 1, none⟩) (hS R (Nat.le_refl _))).trans h3, (hk.frozen (p := ⟨R, 0, none⟩) (hS R (Nat.le_refl _))).trans h4, (hk.frozen (p := ⟨R, 1, none⟩) (hS R (Nat.le_refl _))).trans h5⟩
theorem RdS.lt {R : Nat} {w : World} {l : List Int} {ok : Bool} (h : RdS R w l ok) : R < w.heap.size := World.block_lt_of_cell? _ _ h.ok
theorem RdS.alloc {R : Nat} {w : World} {l : List Int} {ok : Bool} (h : RdS R w l ok) (o : Obj) : RdS R (w.alloc o) l ok :=
  h.keep (S := fun k => k < w.heap.size) ((Keep.refl _ w).alloc (fun k hk => hk) o) fun k hk => by have := h.lt; omega

/-- The other blocks. -/
def SN (R : Nat) : Nat → Prop := fun k => k ≠ R

set_option maxHeartbeats 400000 in
theorem rone_any (R : Nat) (l : List Int) (ok : Bool) (w : World) (h : RdS R w l ok) :
    Calls Try.prog 56 #[.pointer (some ⟨R, 0, none⟩)] w fun e w' => e = .returned (.int .i64 (l.getD 0 0)) ∧ RdS R w' (l.drop 1) (ok && decide (1 ≤ l.length)) ∧ Keep (SN R) w w' := by
  obtain ⟨⟨a, cap, h1, h2⟩, h3, h4, h5⟩ := h
  obtain ⟨l1, l2, l3, l4⟩ := h2.1.len
  cases l with
  | nil =>
    have kp : Keep (SN R) w (w.setCell ⟨R, 1, none⟩ (.bool false)) := (Keep.refl _ w).setCell (by unfold SN; simp) _
    have rd : RdS R (w.setCell ⟨R, 1, none⟩ (.bool false)) [] false := by
      refine ⟨⟨a, cap, ?_, h2.below (kp.below fun k hk => by unfold SN; omega) (Nat.le_refl _)⟩, World.cell?_setCell_same' _ _ _ (by rw [h3]; rfl), by simpa using h4, by simpa using h5⟩
      rw [World.cell?_setCell_other _ _ _ _ (by simp)]; exact h1
    have HQ : Hid _ := And.intro rd kp
    clear rd kp h2 l1 l4
    simp only [List.length_nil] at h1
    go_enter Try.func56, Try.ntmps56
    go_wp2
    go_ret
    exact ⟨rfl, by simpa using HQ.out.1, HQ.out.2⟩
  | cons z r =>
    obtain ⟨b, off, hb, hix, hcell⟩ := h2.at 0 (by simp)
    have ix : ∀ wx, (Instr.indexAt 23 (.slice a (z :: r).length cap) (.int .i64 0)).run Try.prog wx = .ok (.pointer (some ⟨b, off, none⟩)) wx := hix
    have hc : w.cell? ⟨b, off, none⟩ = some (.int .u8 z) := hcell
    have hz := h2.2.of.1
    have z1 := hz.1
    have z2 := hz.2
    have hsl : ∀ wx, (Instr.slice 23 (.slice a (z :: r).length cap) (some (.int .i64 1)) none none).run Try.prog wx = .ok (.slice (reK 1 a cap 1) ((z :: r).length - 1) (cap - 1)) wx := run_re_l a _ cap 1 (by simp)
    have kp : Keep (SN R) w (w.setCell ⟨R, 0, none⟩ (.slice (reK 1 a cap 1) ((z :: r).length - 1) (cap - 1))) := (Keep.refl _ w).setCell (by unfold SN; simp) _
    have rd : RdS R (w.setCell ⟨R, 0, none⟩ (.slice (reK 1 a cap 1) ((z :: r).length - 1) (cap - 1))) r ok := by
      refine ⟨⟨reK 1 a cap 1, cap - 1, ?_, ?_⟩, ?_, by simpa using h4, by simpa using h5⟩
      · rw [World.cell?_setCell_same' _ _ _ (by rw [h1]; rfl)]; rfl
      · exact (h2.re_end 1 (by simp)).below (kp.below (B := R) fun k hk => by unfold SN; omega) (Nat.le_refl _)
      · rw [World.cell?_setCell_other _ _ _ _ (by simp)]; exact h3
    have HQ : Hid _ := And.intro rd kp
    have hne : (((z :: r).length : Int) == 0) = false := by simp; omega
    have hne2 : ((z :: r).length == 0) = false := by simp
    generalize hn : (z :: r).length = n at *
    have hnp : 0 < n := by rw [← hn]; simp
    clear rd kp h2 l1 l4 hix hcell hz
    go_enter Try.func56, Try.ntmps56
    go_wp2
    go_ret
    refine ⟨rfl, ?_, HQ.out.2⟩
    rw [show (ok && decide (1 ≤ n)) = ok by rw [decide_eq_true (show 1 ≤ n from hnp)]; simp]
    exact HQ.out.1

theorem RdS.isB {R : Nat} {w : World} {l : List Int} {ok : Bool} (h : RdS R w l ok) : IsB l := by
  obtain ⟨⟨a, cap, _, h2⟩, _, _, _⟩ := h
  exact h2.2
theorem getD_bd {l : List Int} (h : IsB l) (i : Nat) : 0 ≤ l.getD i 0 ∧ l.getD i 0 < 256 := by
  rw [List.getD_eq_getElem?_getD]
  rcases Nat.lt_or_ge i l.length with hj | hj
  · have := h.get i hj
    simpa [hj] using this
  · simp [List.getElem?_eq_none hj]

set_option maxHeartbeats 400000 in
theorem rtwoR_any (R : Nat) (l : List Int) (ok : Bool) (w : World) (h : RdS R w l ok) :
    Calls Try.prog 55 #[.pointer (some ⟨R, 0, none⟩)] w fun e w' => e = .returned (.int .i64 (be l 0)) ∧ RdS R w' (l.drop 2) (ok && decide (2 ≤ l.length)) ∧ Keep (SN R) w w' := by
  have b0 := getD_bd h.isB 0
  have b1 := getD_bd h.isB 1
  have HE : Hid (be l 0 = 256 * l.getD 0 0 + l.getD 1 0) := rfl
  have hd1 : (l.drop 1).getD 0 0 = l.getD 1 0 := by simp [List.getD_eq_getElem?_getD]
  have HK : Hid ((ok && decide (1 ≤ l.length) && decide (1 ≤ (l.drop 1).length)) = (ok && decide (2 ≤ l.length))) := by
    show _ = _
    cases ok with
    | false => rfl
    | true => rw [Bool.true_and, Bool.true_and, List.length_drop, ← Bool.decide_and, decide_eq_decide]; omega
  have c1 := b0.1
  have c2 := b0.2
  have c3 := b1.1
  have c4 := b1.2
  clear b0 b1
  go_enter Try.func55, Try.ntmps55
  go_wp2_with fail
  refine (rone_any R l ok _ h).mono ?_
  rintro e w1 ⟨rfl, rd1, kp1⟩
  have O2 := rone_any R _ _ _ rd1
  rw [hd1, List.drop_drop, HK.out] at O2
  clear hd1 HK rd1
  generalize l.getD 0 0 = x at *
  generalize l.getD 1 0 = y at *
  go_wp2_with fail
  refine O2.mono ?_
  rintro e w2 ⟨rfl, rd2, kp2⟩
  clear O2
  go_wp2
  go_ret
  exact ⟨ret_int HE.out.symm, rd2, kp1.trans kp2⟩
end Go.Proofs.Ytnddejdndipddab
