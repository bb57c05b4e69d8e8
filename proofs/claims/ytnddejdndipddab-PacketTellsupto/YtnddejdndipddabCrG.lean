/- The document's Parse: what a round of its loops leaves. -/
import Derived.Test.YtnddejdndipddabCrF
set_option maxRecDepth 20000
namespace Go.Proofs.Ytnddejdndipddab
open Go.RowKit

/-- A call of a plain function with one argument, as a step of a region. -/
theorem step_call1 {ops : Array Oper} {o : Oper} {a : Act} {w : World} {K : Act → World → Prop} {Q : Exit → Act → World → Prop} {E : Prop} (hg : o.guard = none) (f : FuncId) (x : Operand) (t : TypeId)
    (hop : o.op = Op.call { callee := Callee.value (.func f), args := #[x], argTypes := #[t] }) (u : Value) (hu : a.eval x = u) (hf : a.eval (.func f) = .func (.func f) #[] #[])
    (hent : ∀ (args : Array Value) (wx : World), (callFunc f args).run Try.prog wx = .ok (.enter f args) wx) (R : Value → World → Prop) (hc : Calls Try.prog f #[u] w fun e w' => ∃ v, e = .returned v ∧ R v w')
    (hK : ∀ v w', R v w' → K (a.put o.dst v) w') : if Region.wanted o (yielded ops a.tmps) = true then Oper.wp Try.prog o a w K Q else E := by
  have hw : Region.wanted o (yielded ops a.tmps) = true := by simp [Region.wanted, hg]
  rw [if_pos hw]
  unfold Oper.wp
  simp [execOp, hop, resolve, invoke, hf, hu, hent, Deferred.ofValue, Oper.upon]
  refine hc.mono ?_
  rintro e w' ⟨v, rfl, hr⟩
  exact hK v w' hr

theorem rtwoR_c (R : Nat) (l : List Int) (ok : Bool) (w : World) (h : RdS R w l ok) :
    Calls Try.prog 55 #[.pointer (some ⟨R, 0, none⟩)] w fun e w' => ∃ u, e = .returned u ∧ (u = .int .i64 (be l 0) ∧ RdS R w' (l.drop 2) (ok && decide (2 ≤ l.length)) ∧ Keep (SN R) w w') :=
  (rtwoR_any R l ok w h).mono fun _ _ h => ⟨_, h.1, rfl, h.2⟩
theorem enters_RT (args : Array Value) (wx : World) : (callFunc 55 args).run Try.prog wx = .ok (.enter 55 args) wx := enters_body Try.func55 (by kernel_rfl) rfl args wx

/-- How much is left to read. -/
def leftR (R : Nat) (w : World) : Nat := match w.cell? ⟨R, 0, none⟩ with | some (.slice _ n _) => n | _ => 0
theorem RdS.left {R : Nat} {w : World} {l : List Int} {ok : Bool} (h : RdS R w l ok) : leftR R w = l.length := by
  obtain ⟨⟨a, cap, h1, _⟩, _, _, _⟩ := h
  unfold leftR
  rw [h1]

/-- A round's append onto a field of the chunk. -/
theorem row_step {w wr w2 : World} {X base i n : Nat} {E : TypeId} {k : Nat} {av : Option Addr} {cv : Nat} {xs ys : List Value} {u : Value} {cells : List Value} {l l2 : List Int} {ok ok2 : Bool}
    (h : PS w X (u :: cells) l ok wr) (own : wr.ownsRow base E k (.slice av n cv) n xs) (hbase : X < base) (hbs : base ≤ wr.heap.size) {S : Nat → Prop} (kp : Keep S wr w2) (hS : ∀ j, j ≠ w.heap.size + 1 → j < wr.heap.size → S j) (rd : RdS (w.heap.size + 1) w2 l2 ok2)
    (hi : (u :: cells)[i]? = some (.slice av n cv)) :
    ∀ o, (w2.alloc o).ownsRow base E k (.slice av n cv) n xs ∧ base ≤ (w2.alloc o).heap.size ∧
      ∀ v' w4, w4.ownsRow base E k v' (n + 1) (xs ++ ys) → (w2.alloc o).grownBy w4 (Value.slice av n cv).ownBlock →
        ∃ a4 c4, v' = .slice a4 (n + 1) c4 ∧ w4.cell? ⟨X, i, none⟩ = some (.slice av n cv) ∧ w4.frozen? ⟨X, i, none⟩ = false ∧ PS w X ((u :: cells).set i (.slice a4 (n + 1) c4)) l2 ok2 (w4.setCell ⟨X, i, none⟩ (.slice a4 (n + 1) c4)) ∧
          (w4.setCell ⟨X, i, none⟩ (.slice a4 (n + 1) c4)).ownsRow base E k (.slice a4 (n + 1) c4) (n + 1) (xs ++ ys) ∧ base ≤ (w4.setCell ⟨X, i, none⟩ (.slice a4 (n + 1) c4)).heap.size := by
  intro o
  have hX := h.lt
  have hne := h.ne
  have hbel := h.bel.size
  have hsz := kp.size
  have own2 : w2.ownsRow base E k (.slice av n cv) n xs := own_of_block own fun j hj => kp.block j (hS j (by have := (own.lt j hj).1; omega) (own.lt j hj).2)
  refine ⟨own2.alloc o, by simp; omega, fun v' w4 o4 g4 => ?_⟩
  obtain ⟨a4, c4, rfl⟩ := own_form o4
  have kp2 : Keep (fun j => j < base) w2 w4 := ((Keep.refl _ w2).alloc (fun j hj => by omega) o).grown g4 (fun j hj => by simp; omega) (fun j hj => by have := (own.lt j hj).1; omega)
  have ch2 := (h.ch.keep kp (hS _ (by omega) hX)).keep kp2 hbase
  have PS4 : PS w X (u :: cells) l2 ok2 w4 := ⟨ch2, (h.z.keep kp (hS _ (by omega) (by omega))).keep kp2 (by omega), rd.keep kp2 (fun j hj => by omega), (h.bel.trans (kp.below fun j hj => hS j (by omega) (by omega))).trans (kp2.below fun j hj => by omega), h.ne⟩
  have hil : i < (u :: cells).length := (List.getElem?_eq_some_iff.1 hi).1
  refine ⟨a4, c4, rfl, ch2.cell i _ hi, ch2.fz i, PS4.set i _ hil, own_of_block o4 fun j hj => Below.heap_setCell _ _ _ _ (by have := (o4.lt j hj).1; show j ≠ X; omega), ?_⟩
  have := kp2.size
  simp [World.setCell]
  omega

theorem spansM_nil {l : List Int} (h : l.length = 0) : spansM l = [] := by have := List.eq_nil_of_length_eq_zero h; subst this; rfl
theorem spansM_cons {l : List Int} (h : 4 ≤ l.length) : spansM l = (be l 0, be (l.drop 2) 0) :: spansM (l.drop 4) := by
  match l, h with
  | a :: b :: c :: d :: r, _ => rfl
theorem skipsM_cons {l : List Int} (h : 4 ≤ l.length) : skipsM l = ⟨l.getD 0 0, be (l.drop 2) 0, decide (l.getD 1 0 = 1)⟩ :: skipsM (l.drop 4) := by
  match l, h with
  | a :: b :: c :: d :: r, _ => rfl
theorem flagsOk_cons {l : List Int} (h : 4 ≤ l.length) : flagsOk l = (decide (l.getD 1 0 ≤ 1) && flagsOk (l.drop 4)) := by
  match l, h with
  | a :: b :: c :: d :: r, _ => rfl
end Go.Proofs.Ytnddejdndipddab
