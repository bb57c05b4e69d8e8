/- The contracts of Count and Split, of package parts, and of slices.Clone of bytes. -/
import Derived.Test.YtnddejdndipddabPaB
import Derived.Lib.SliceRun
set_option maxRecDepth 20000
namespace Go.Proofs.Ytnddejdndipddab
open Go.RowKit

set_option maxHeartbeats 400000 in
theorem count_any (n p : Int) (w : World) (hn : n ≤ 9223372036854775807) :
    Calls Try.prog 20 #[.int .i64 n, .int .i64 p] w fun e w' => e = .returned (.int .i64 (countM n p)) ∧ w' = w := by
  by_cases h1 : n < 1
  · have HC : Hid (countM n p = 0) := countM_none (.inl h1)
    go_enter Try.func20, Try.ntmps20
    go_wp2
    go_ret
    exact ⟨ret_int HC.out.symm, rfl⟩
  · by_cases h2 : p < 1
    · have HC : Hid (countM n p = 0) := countM_none (.inr h2)
      go_enter Try.func20, Try.ntmps20
      go_wp2
      go_ret
      exact ⟨ret_int HC.out.symm, rfl⟩
    · have HC : Hid (countM n p = (n - 1) / p + 1) := by show _ = _; rw [countM, if_neg (by omega)]
      have d0 : 0 ≤ (n - 1) / p := Int.ediv_nonneg (by omega) (by omega)
      have d1 : (n - 1) / p ≤ n - 1 := Int.ediv_le_self _ (by omega)
      have p0 : ¬ p = 0 := by omega
      go_enter Try.func20, Try.ntmps20
      go_wp2
      go_ret
      exact ⟨ret_int HC.out.symm, rfl⟩

set_option maxHeartbeats 1000000 in
theorem clone_any (v : Value) (bs : List Int) (w : World) (hv : By w.heap.size w v bs) (hl : bs.length ≤ 140737488355328) :
    Calls Try.prog 37 #[v] w fun e w' => ∃ v', e = .returned v' ∧ By w'.heap.size w' v' bs ∧ InS (fun k => w.heap.size ≤ k) v' ∧ Below w.heap.size w w' := by
  have HV := hv
  obtain ⟨a, cap, rfl, h1, h2⟩ := hv.ex
  have q23 : ∀ (w : World) (a : Option Addr) (n c n' c' : Nat), (binOp .eql 23 (.slice a n c) (.slice none n' c')).run Try.prog w = .ok (.bool a.isNone) w := fun w a n c n' c' => Lib.run_eql_slice_nil w _ _ a n c n' c' Try.underlying23
  cases a with
  | none =>
    have hc : bs = [] := by
      obtain ⟨⟨_, a', cap', he, g1, g2, g0, _⟩, _⟩ := HV
      simp only [Value.slice.injEq] at he
      obtain ⟨rfl, _, rfl⟩ := he
      have := g0 rfl
      exact List.eq_nil_of_length_eq_zero (by omega)
    subst hc
    go_enter Try.func37, Try.ntmps37
    go_wp2
    go_ret
    exact ⟨_, rfl, By.nil _ _, fun b off sp n cap e hn => by simp at e, Below.refl _ _⟩
  | some ad =>
    have HB := fun o => box_below w o
    have HR := fun o => HV.1.below (box_below w o) (Nat.le_refl _)
    go_enter Try.func37, Try.ntmps37
    go_wp2_with (at_builtin; refine wpList_append_rw Try.underlying23 Try.info5 rfl (by decide) _ rfl (.tmp 5) (.tmp 6) rfl w.heap.size (.slice (some ⟨w.heap.size, 0, none⟩) 0 0) 0 [] rfl (World.ownsRow_made w #[] 0 (Nat.le_refl _) (Nat.zero_le _) rfl) w.heap.size bs.length (cellsB bs) _ rfl (HR _) (cellsB_one _) (by unfold maxLen; omega) (by omega) (by simp) ?_; intro v3 w3 own3 grow3 at3)
    rw [List.nil_append, Nat.zero_add] at own3
    have BE : Below w.heap.size w w3 := (HB _).grown grow3 (by simp) (by intro k hk; simp [Value.ownBlock] at hk; omega)
    have BY : By w3.heap.size w3 v3 bs := ⟨Rw.own own3 (by simp [cellsB]), HV.2⟩
    have IN : InS (fun k => w.heap.size ≤ k) v3 := (InS.own own3).mono fun k hk => hk.1
    obtain ⟨a3, cap3, rfl⟩ := own_form own3
    clear own3 grow3 at3 HR HB
    go_wp2
    go_ret
    exact ⟨_, rfl, BY, IN, BE⟩

/-- A slice of bytes, among blocks of S. -/
theorem By.keep {B B' : Nat} {S : Nat → Prop} {w w' : World} {v : Value} {bs : List Int} (h : By B w v bs) (hi : InS S v) (kp : Keep S w w') (hB : B ≤ B') : By B' w' v bs := ⟨h.1.keep hi kp hB, h.2⟩
theorem By.drop {B : Nat} {w : World} {a : Option Addr} {n cap : Nat} {bs : List Int} (h : By B w (.slice a n cap) bs) (d : Nat) (h2 : d ≤ bs.length) : By B w (.slice (reK 1 a cap d) (bs.length - d) (cap - d)) (bs.drop d) := by
  have := h.re d (bs.length - d) (by omega)
  rwa [List.take_of_length_le (by simp)] at this
theorem run_re_h1 (a : Option Addr) (n cap hi : Nat) (h : hi ≤ cap) (wx : World) : (Instr.slice 23 (.slice a n cap) none (some (.int .i64 hi)) none).run Try.prog wx = .ok (.slice a hi cap) wx := by
  have h1 : (0 : Int) ≤ hi := by omega
  have h2 : (hi : Int) ≤ cap := by omega
  rw [run_slice_h wx 23 a n cap Try.underlying23 .i64 (hi : Int) h1 h2]
  go_simp

set_option maxHeartbeats 1000000 in
/-- What Split's function does: the bytes that are left are in block X, the size of parts in block Y. -/
theorem cut_any (X Y B : Nat) (p : Int) (v : Value) (bs : List Int) (w : World) (hp : 1 ≤ p) (hX : X < w.heap.size) (hB : B ≤ X) (hl : bs.length ≤ 140737488355328)
    (cY : w.cell? ⟨Y, 0, none⟩ = some (.int .i64 p)) (cX : w.cell? ⟨X, 0, none⟩ = some v) (fX : w.frozen? ⟨X, 0, none⟩ = false) (hv : By B w v bs) :
    Calls Try.prog 36 #[.pointer (some ⟨Y, 0, none⟩), .pointer (some ⟨X, 0, none⟩)] w fun e w' => ∃ v' v2, e = .returned v' ∧ By w'.heap.size w' v' (bs.take p.toNat) ∧ InS (fun k => w.heap.size ≤ k) v' ∧
      w'.cell? ⟨X, 0, none⟩ = some v2 ∧ w'.frozen? ⟨X, 0, none⟩ = false ∧ By B w' v2 (bs.drop p.toNat) ∧ Keep (fun k => k < w.heap.size ∧ k ≠ X) w w' := by
  have HV := hv
  obtain ⟨a, cap, rfl, h1, h2⟩ := hv.ex
  have KB : ∀ {w1 : World}, Below w.heap.size w w1 → ∀ u, Keep (fun k => k < w.heap.size ∧ k ≠ X) w (w1.setCell ⟨X, 0, none⟩ u) := fun b u => Keep.setCell ⟨b.os, b.tape, b.output, b.size, fun i hi => b.block i hi.1⟩ (p := ⟨X, 0, none⟩) (fun h => h.2 rfl) u
  have KC : ∀ {w1 : World}, Below w.heap.size w w1 → w1.cell? ⟨X, 0, none⟩ = some (.slice a bs.length cap) ∧ w1.frozen? ⟨X, 0, none⟩ = false := fun b => ⟨(b.cell (p := ⟨X, 0, none⟩) hX).trans cX, (b.frozen (p := ⟨X, 0, none⟩) hX).trans fX⟩
  have BB : ∀ {w1 : World} {v1 : Value} {l : List Int} (u : Value), By w1.heap.size w1 v1 l → InS (fun k => w.heap.size ≤ k) v1 → By (w1.setCell ⟨X, 0, none⟩ u).heap.size (w1.setCell ⟨X, 0, none⟩ u) v1 l := fun {w1 v1 l} u h hi =>
    h.keep hi (S := fun k => w.heap.size ≤ k) (Keep.setCell (Keep.refl _ _) (p := ⟨X, 0, none⟩) (by show ¬ w.heap.size ≤ X; omega) u) (by simp [World.setCell])
  have BD : ∀ {w1 : World} {v1 : Value} {l : List Int} (u : Value), Below w.heap.size w w1 → By B w v1 l → By B (w1.setCell ⟨X, 0, none⟩ u) v1 l := fun {w1 v1 l} u b h => h.below (B' := B) ((b.mono (by omega)).setCell (p := ⟨X, 0, none⟩) hB u) (Nat.le_refl _)
  by_cases hlt : (bs.length : Int) < p
  · rw [List.take_of_length_le (by omega), List.drop_of_length_le (by omega)]
    have R1 := run_re_h1 a bs.length cap bs.length (by omega)
    have R2 := run_re_l a bs.length cap bs.length (Nat.le_refl _)
    have CL := clone_any _ bs w (HV.mono (by omega)) hl
    have HD := HV.drop bs.length (Nat.le_refl _)
    rw [List.drop_length, Nat.sub_self] at HD
    go_enter Try.func36, Try.ntmps36
    go_wp2_with fail
    refine CL.mono ?_
    rintro e w1 ⟨v1, rfl, by1, in1, b1⟩
    obtain ⟨c1, f1⟩ := KC b1
    obtain ⟨a1, cap1, rfl, -, -⟩ := by1.ex
    go_wp2
    go_ret
    exact ⟨_, _, rfl, BB _ by1 in1, in1, World.cell?_setCell_same' _ _ _ (by rw [c1]; rfl), by simp [f1], BD _ b1 HD, KB b1 _⟩
  · obtain ⟨d, rfl⟩ := Int.eq_ofNat_of_zero_le (show 0 ≤ p by omega)
    have hdl : d ≤ bs.length := by omega
    rw [Int.toNat_natCast]
    have R1 := run_re_h1 a bs.length cap d (by omega)
    have R2 := run_re_l a bs.length cap d hdl
    have HH : By w.heap.size w (.slice a d cap) (bs.take d) := (HV.head d hdl).mono (by omega)
    have CL := clone_any _ _ w HH (by simp; omega)
    have HD := HV.drop d hdl
    go_enter Try.func36, Try.ntmps36
    go_wp2_with fail
    refine CL.mono ?_
    rintro e w1 ⟨v1, rfl, by1, in1, b1⟩
    obtain ⟨c1, f1⟩ := KC b1
    obtain ⟨a1, cap1, rfl, -, -⟩ := by1.ex
    rw [show (bs.take d).length = d by simp; omega] at by1 in1 ⊢
    go_wp2
    go_ret
    exact ⟨_, _, rfl, BB _ by1 in1, in1, World.cell?_setCell_same' _ _ _ (by rw [c1]; rfl), by simp [f1], BD _ b1 HD, KB b1 _⟩
end Go.Proofs.Ytnddejdndipddab
