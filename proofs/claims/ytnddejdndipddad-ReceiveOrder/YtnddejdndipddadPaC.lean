/- The contracts of Count and Split, of package parts, and of slices.Clone of bytes. -/
import Derived.Test.YtnddejdndipddadPaB
import Derived.Lib.SliceRun
set_option maxRecDepth 20000
namespace Go.Proofs.Ytnddejdndipddad
open Go.RowKit

set_option maxHeartbeats 1000000 in
theorem clone_any (v : Value) (bs : List Int) (w : World) (hv : By w.heap.size w v bs) (hl : bs.length ≤ 140737488355328) :
    Calls Try.prog 51 #[v] w fun e w' => ∃ v', e = .returned v' ∧ By w'.heap.size w' v' bs ∧ InS (fun k => w.heap.size ≤ k) v' ∧ Below w.heap.size w w' := by
  have HV := hv
  obtain ⟨a, cap, rfl, h1, h2⟩ := hv.ex
  have q23 : ∀ (w : World) (a : Option Addr) (n c n' c' : Nat), (binOp .eql 38 (.slice a n c) (.slice none n' c')).run Try.prog w = .ok (.bool a.isNone) w := fun w a n c n' c' => Lib.run_eql_slice_nil w _ _ a n c n' c' Try.underlying38
  cases a with
  | none =>
    have hc : bs = [] := by
      obtain ⟨⟨_, a', cap', he, g1, g2, g0, _⟩, _⟩ := HV
      simp only [Value.slice.injEq] at he
      obtain ⟨rfl, _, rfl⟩ := he
      have := g0 rfl
      exact List.eq_nil_of_length_eq_zero (by omega)
    subst hc
    go_enter Try.func51, Try.ntmps51
    go_wp2
    go_ret
    exact ⟨_, rfl, By.nil _ _, fun b off sp n cap e hn => by simp at e, Below.refl _ _⟩
  | some ad =>
    have HB := fun o => box_below w o
    have HR := fun o => HV.1.below (box_below w o) (Nat.le_refl _)
    go_enter Try.func51, Try.ntmps51
    go_wp2_with (at_builtin; refine wpList_append_rw Try.underlying38 Try.info5 rfl (by decide) _ rfl (.tmp 5) (.tmp 6) rfl w.heap.size (.slice (some ⟨w.heap.size, 0, none⟩) 0 0) 0 [] rfl (World.ownsRow_made w #[] 0 (Nat.le_refl _) (Nat.zero_le _) rfl) w.heap.size bs.length (cellsB bs) _ rfl (HR _) (cellsB_one _) (by unfold maxLen; omega) (by omega) (by simp) ?_; intro v3 w3 own3 grow3 at3)
    rw [List.nil_append, Nat.zero_add] at own3
    have BE : Below w.heap.size w w3 := (HB _).grown grow3 (by simp) (by intro k hk; simp [Value.ownBlock] at hk; omega)
    have BY : By w3.heap.size w3 v3 bs := ⟨Rw.own own3 (by simp [cellsB]), HV.2⟩
    have IN : InS (fun k => w.heap.size ≤ k) v3 := (InS.own own3).mono fun k hk => hk.1
    obtain ⟨a3, cap3, rfl⟩ := own_form own3
    clear own3 grow3 at3 HR HB
    go_wp2
    go_ret
    exact ⟨_, rfl, BY, IN, BE⟩

/-- A slice of bytes, among blocks of S. -/
theorem By.keep {B B' : Nat} {S : Nat → Prop} {w w' : World} {v : Value} {bs : List Int} (h : By B w v bs) (hi : InS S v) (kp : Keep S w w') (hB : B ≤ B') : By B' w' v bs := ⟨h.1.keep hi kp hB, h.2⟩
theorem By.drop {B : Nat} {w : World} {a : Option Addr} {n cap : Nat} {bs : List Int} (h : By B w (.slice a n cap) bs) (d : Nat) (h2 : d ≤ bs.length) : By B w (.slice (reK 1 a cap d) (bs.length - d) (cap - d)) (bs.drop d) := by
  have := h.re d (bs.length - d) (by omega)
  rwa [List.take_of_length_le (by simp)] at this
theorem run_re_h1 (a : Option Addr) (n cap hi : Nat) (h : hi ≤ cap) (wx : World) : (Instr.slice 38 (.slice a n cap) none (some (.int .i64 hi)) none).run Try.prog wx = .ok (.slice a hi cap) wx := by
  have h1 : (0 : Int) ≤ hi := by omega
  have h2 : (hi : Int) ≤ cap := by omega
  rw [run_slice_h wx 38 a n cap Try.underlying38 .i64 (hi : Int) h1 h2]
  go_simp

end Go.Proofs.Ytnddejdndipddad
