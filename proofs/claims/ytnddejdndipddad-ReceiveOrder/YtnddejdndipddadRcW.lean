/- What is asked first of the statements about chapter 8: config, fine, alive. -/
import Derived.Test.YtnddejdndipddadRcU
import Derived.Test.YtnddejdndipddadRcV
import Derived.Test.YtnddejdndipddadRcQ
import Derived.Test.YtnddejdndipddadRcR
import Derived.Lib.SlBytesConst
set_option maxRecDepth 20000
namespace Go.Proofs.Ytnddejdndipddad
open Go.RowKit

/-- A literal's bytes, marked. -/
theorem By.lit (w : World) (X : Nat) (cs : Array Value) (bs : List Int) (m : Nat × Nat) (hX : X = w.heap.size) (hc : cs.toList = cellsB bs) (hb : IsB bs) (hl : bs.length ≤ 9223372036854775807) : By (w.alloc (.cells cs 5 m)).heap.size (w.alloc (.cells cs 5 m)) (.slice (some ⟨X, 0, none⟩) bs.length bs.length) bs := by
  subst hX
  refine ⟨⟨by simp [cellsB], some ⟨w.heap.size, 0, none⟩, bs.length, rfl, Nat.le_refl _, hl, fun h => by simp at h, fun _ => ⟨w.heap.size, 0, rfl, by simp, fun j u hu => ?_⟩⟩, hb⟩
  rw [World.cell?_alloc_mark, Nat.zero_add, ← hu, ← hc]
  simp
theorem IsB.small {l : List Int} (h : l.all (fun z => decide (0 ≤ z ∧ z < 256)) = true) : IsB l := fun z hz => of_decide_eq_true (List.all_eq_true.1 h z hz)
def cfO : Cf := ⟨2, 4, 60, 1, 1, 5, 7⟩
theorem config_any (w : World) : Calls Try.prog 37 #[] w fun e w' => e = .returned (.agg #[.int .i64 2, .int .i64 4, .int .i64 60, .int .i64 1, .int .i64 1, .int .i64 5, .int .i64 7]) ∧ Below w.heap.size w w' := by
  have B0 : Below w.heap.size w (w.alloc (.cells #[.int .i64 2, .int .i64 4, .int .i64 60, .int .i64 1, .int .i64 1, .int .i64 5, .int .i64 7] 36)) := box_below w _
  go_enter Try.func37, Try.ntmps37
  go_wp2
  exact bodyPost_ret (v := .agg #[.int .i64 2, .int .i64 4, .int .i64 60, .int .i64 1, .int .i64 1, .int .i64 5, .int .i64 7]) (by simp [results, Try.results37, go_sem]) rfl ⟨rfl, B0⟩
/-- May the config be? -/
def fineB (c : Cf) : Bool := decide (1 ≤ c.streams) && decide (c.streams ≤ 4) && decide (0 ≤ c.first) && decide (c.first < 65536)
theorem fine_any (c : Cf) (w : World) : Calls Try.prog 20 #[.agg #[.int .i64 c.streams, .int .i64 c.part, .int .i64 c.packet, .int .i64 c.paths, .int .i64 c.turns, .int .i64 c.waiting, .int .i64 c.first]] w fun e w' => e = .returned (.bool (fineB c)) ∧ Below w.heap.size w w' := by
  have HB := fun o => box_below w o
  have go : ∀ (b1 b2 b3 b4 : Bool), decide (1 ≤ c.streams) = b1 → decide (c.streams ≤ 4) = b2 → decide (0 ≤ c.first) = b3 → decide (c.first < 65536) = b4 → Calls Try.prog 20 #[.agg #[.int .i64 c.streams, .int .i64 c.part, .int .i64 c.packet, .int .i64 c.paths, .int .i64 c.turns, .int .i64 c.waiting, .int .i64 c.first]] w fun e w' => e = .returned (.bool (b1 && b2 && b3 && b4)) ∧ Below w.heap.size w w' := by
    intro b1 b2 b3 b4 h1 h2 h3 h4
    have h1' : decide (c.streams ≥ 1) = b1 := h1
    have h3' : decide (c.first ≥ 0) = b3 := h3
    cases b1
    · go_enter Try.func20, Try.ntmps20
      go_wp2
      go_ret
      exact ⟨by simp, HB _⟩
    cases b2
    · go_enter Try.func20, Try.ntmps20
      go_wp2
      go_ret
      exact ⟨by simp, HB _⟩
    cases b3
    · go_enter Try.func20, Try.ntmps20
      go_wp2
      go_ret
      exact ⟨by simp, HB _⟩
    cases b4
    · go_enter Try.func20, Try.ntmps20
      go_wp2
      go_ret
      exact ⟨by simp, HB _⟩
    · go_enter Try.func20, Try.ntmps20
      go_wp2
      go_ret
      exact ⟨by simp, HB _⟩
  exact go _ _ _ _ rfl rfl rfl rfl

def ckA : Ck := ⟨1, 8, 0, 1, 0, true, true, [98], [], 0, []⟩
def ckB : Ck := ⟨1, 7, 0, 0, 0, true, true, [97], [], 0, []⟩
def ckF : Ck := ⟨3, 7, 0, 0, 0, false, false, [], [], 0, [⟨0, 0, true⟩]⟩
def rA : Rc := recvM (newM cfO) ckA
def rB : Rc := recvM rA ckB
def rF : Rc := forwM rA ckF
theorem rA_log : rA.log.length = 0 := by kernel_rfl
theorem rB_log : rB.log.length = 2 := by kernel_rfl
theorem rB_data : (rB.log[1]?).map Av.data = some [98] := by kernel_rfl
theorem rB_cum : rB.cum = 8 := by kernel_rfl
theorem rF_log : rF.log.length = 1 := by kernel_rfl
theorem rA_held : heldM rA.pieces = 1 := by kernel_rfl
theorem rA_cum : rA.cum = 6 := by kernel_rfl
theorem rA_spans : rA.spans = [(8, 8)] := by kernel_rfl
theorem fitA : CkFit ckA ∧ CkFit ckB ∧ CkFit ckF := by
  refine ⟨⟨?_, ?_, ?_⟩, ⟨?_, ?_, ?_⟩, ?_, ?_, ?_⟩ <;> decide
theorem runA : RunR 2 0 0 (newM cfO) ∧ RunR 2 1 0 rA ∧ RunR 2 2 0 rB ∧ RunR 2 2 1 rF := by
  have h0 : RunR 2 0 0 (newM cfO) := RunR.new (by decide) (by decide) (by decide)
  have h1 : RunR 2 1 0 rA := (h0.recv (by decide) fitA.1 (by decide)).2
  have h2 : RunR 2 2 0 rB := (h1.recv (by decide) fitA.2.1 (by decide)).2
  have h3 : RunR 2 2 1 rF := (h1.forw (c := ckF)).2
  exact ⟨h0, h1, h2, h3⟩
end Go.Proofs.Ytnddejdndipddad
