/- Sacks, read. -/
import Derived.Test.YtnddejdndipddabCkO
set_option maxRecDepth 20000
namespace Go.Proofs.Ytnddejdndipddab
open Go.RowKit

def spansN (bs : List Int) (i : Nat) : List Sp := (List.range i).map fun j => (be bs (4 + 4 * j), be bs (4 + 4 * j + 2))
theorem spansN_len (bs : List Int) (i : Nat) : (spansN bs i).length = i := by simp [spansN]
theorem spansN_succ (bs : List Int) (i : Nat) : spansN bs (i + 1) = spansN bs i ++ [(be bs (4 + 4 * i), be bs (4 + 4 * i + 2))] := by simp [spansN, List.range_succ]

theorem be_drop (bs : List Int) (d i : Nat) : be (bs.drop d) i = be bs (d + i) := by
  simp only [be, List.getD_eq_getElem?_getD, List.getElem?_drop]
  rfl
theorem spansM_eq (l : List Int) : ∀ n, l.length = 4 * n → spansM l = (List.range n).map fun j => (be l (4 * j), be l (4 * j + 2)) := by
  intro n
  induction n generalizing l with
  | zero => intro h; have := List.eq_nil_of_length_eq_zero h; subst this; rfl
  | succ n ih =>
    intro h
    match l, h with
    | a :: b :: c :: d :: r, h =>
      have hr : r.length = 4 * n := by simp at h; omega
      rw [spansM, ih r hr, List.range_succ_eq_map, List.map_cons, List.map_map]
      congr 1
theorem spansN_eq (bs : List Int) (n : Nat) (h : bs.length = 4 + 4 * n) : spansM (bs.drop 4) = spansN bs n := by
  rw [spansM_eq (bs.drop 4) n (by simp; omega), spansN]
  apply List.map_congr_left
  intro j _
  rw [be_drop, be_drop, Nat.add_assoc]
theorem be_bd {bs : List Int} (h : IsB bs) (i : Nat) : 0 ≤ be bs i ∧ be bs i < 65536 := by
  have : ∀ j, 0 ≤ bs.getD j 0 ∧ bs.getD j 0 < 256 := by
    intro j
    rw [List.getD_eq_getElem?_getD]
    rcases Nat.lt_or_ge j bs.length with hj | hj
    · have := h.get j hj
      simpa [hj] using this
    · simp [List.getElem?_eq_none hj]
  have a := this i
  have b := this (i + 1)
  unfold be
  omega
theorem spansN_fit {bs : List Int} (h : IsB bs) (i : Nat) : Fit (spansN bs i) := by
  intro s hs
  simp only [spansN, List.mem_map] at hs
  obtain ⟨j, _, rfl⟩ := hs
  have a := be_bd h (4 + 4 * j)
  have b := be_bd h (4 + 4 * j + 2)
  exact ⟨by unfold I64; dsimp only; omega, by unfold I64; dsimp only; omega⟩

/-- The zero chunk's cells. -/
abbrev zeroL : List Value := [.int .i64 0, .int .i64 0, .int .i64 0, .int .i64 0, .int .i64 0, .bool false, .bool false, .slice none 0 0, .slice none 0 0, .int .i64 0, .slice none 0 0]

/-- How it stands behind i spans. -/
structure SackR (w : World) (v : Value) (bs : List Int) (i : Nat) (av : Option Addr) (cv : Nat) (wr : World) : Prop where
  rd : Rd (w.heap.size + 1) wr v bs (4 + 4 * i)
  ch : Cells (w.heap.size + 4) wr [.int .i64 2, .int .i64 (be bs 0), .int .i64 0, .int .i64 0, .int .i64 0, .bool false, .bool false, .slice none 0 0, .slice av i cv, .int .i64 (be bs 2), .slice none 0 0]
  own : wr.ownsRow (w.heap.size + 5) 87 2 (.slice av i cv) i (flat (spansN bs i))
  z : Cells w.heap.size wr zeroL
  bel : Below w.heap.size w wr

theorem Rd.heap {s : Nat} {w w' : World} {v : Value} {bs : List Int} {k : Nat} (h : Rd s w v bs k) (e : w'.heap = w.heap) (e1 : w'.os = w.os) (e2 : w'.tape = w.tape) (e3 : w'.output = w.output) : Rd s w' v bs k :=
  h.below (B := w.heap.size) ⟨e1, e2, e3, by rw [e]; exact Nat.le_refl _, fun k _ => by rw [e]⟩ h.lt

theorem Cells.new' {w : World} {X : Nat} (cs : Array Value) (t : TypeId) (h : X = w.heap.size) : Cells X (w.alloc (.cells cs t)) cs.toList := by
  subst h
  exact Cells.new w cs t
theorem Cells.set {X : Nat} {w : World} {l : List Value} (h : Cells X w l) (i : Nat) (u : Value) (hi : i < l.length) : Cells X (w.setCell ⟨X, i, none⟩ u) (l.set i u) := by
  refine ⟨fun j x hx => ?_, fun j => by simpa using h.fz j⟩
  rw [List.getElem?_set] at hx
  by_cases hj : i = j
  · subst hj
    rw [if_pos rfl, if_pos hi] at hx
    simp only [Option.some.injEq] at hx
    subst hx
    exact World.cell?_setCell_same' _ _ _ (by rw [h.cell i l[i] (by simp [hi])]; rfl)
  · rw [if_neg hj] at hx
    rw [World.cell?_setCell_other _ _ _ _ (by simp <;> omega)]
    exact h.cell j x hx

theorem sack_step {w wr w2 : World} {v : Value} {bs : List Int} {i : Nat} {av : Option Addr} {cv : Nat} (h : SackR w v bs i av cv wr) (kp : Keep (SR (w.heap.size + 1)) wr w2) (rd : Rd (w.heap.size + 1) w2 v bs (4 + 4 * i + 4)) :
    ∀ o, (w2.alloc o).ownsRow (w.heap.size + 5) 87 2 (.slice av i cv) i (flat (spansN bs i)) ∧ w.heap.size + 5 ≤ (w2.alloc o).heap.size ∧
      ∀ v' w4, w4.ownsRow (w.heap.size + 5) 87 2 v' (i + 1) (flat (spansN bs i) ++ [.int .i64 (be bs (4 + 4 * i)), .int .i64 (be bs (4 + 4 * i + 2))]) → (w2.alloc o).grownBy w4 (Value.slice av i cv).ownBlock →
        ∃ a4 c4, v' = .slice a4 (i + 1) c4 ∧ w4.cell? ⟨w.heap.size + 4, 8, none⟩ = some (.slice av i cv) ∧ w4.frozen? ⟨w.heap.size + 4, 8, none⟩ = false ∧ SackR w v bs (i + 1) a4 c4 (w4.setCell ⟨w.heap.size + 4, 8, none⟩ (.slice a4 (i + 1) c4)) := by
  intro o
  have hX : w.heap.size + 4 < w2.heap.size := by have := World.block_lt_of_cell? _ _ (h.ch.cell 0 _ rfl); have := kp.size; simp at *; omega
  have own2 : w2.ownsRow (w.heap.size + 5) 87 2 (.slice av i cv) i (flat (spansN bs i)) := own_of_block h.own fun k hk => kp.block k (by have := (h.own.lt k hk).1; unfold SR; omega)
  refine ⟨own2.alloc o, by simp; omega, fun v' w4 o4 g4 => ?_⟩
  obtain ⟨a4, c4, rfl⟩ := own_form o4
  have hrow : ∀ k, (Value.slice av i cv).ownBlock = some k → w.heap.size + 5 ≤ k := fun k hk => (h.own.lt k hk).1
  have kp2 : Keep (fun k => k < w.heap.size + 5) w2 w4 := ((Keep.refl _ w2).alloc (fun k hk => by omega) o).grown g4 (fun k hk => by simp; omega) (fun k hk => by have := hrow k hk; omega)
  have ch2 := (h.ch.keep kp (by unfold SR; omega)).keep kp2 (by omega)
  have z2 := (h.z.keep kp (by unfold SR; omega)).keep kp2 (by omega)
  have rd4 := rd.keep kp2 (fun j hj => by omega)
  have kp5 : Keep (fun k => k ≠ w.heap.size + 4) w4 (w4.setCell ⟨w.heap.size + 4, 8, none⟩ (.slice a4 (i + 1) c4)) := (Keep.refl _ w4).setCell (by simp) _
  refine ⟨a4, c4, rfl, ch2.cell 8 _ rfl, ch2.fz 8, ⟨?_, ?_, ?_, ?_, ?_⟩⟩
  · have := rd4.keep kp5 (fun j hj => by omega)
    rw [show 4 + 4 * (i + 1) = 4 + 4 * i + 4 by omega]
    exact this
  · exact ch2.set 8 _ (by simp)
  · rw [spansN_succ, flat_append]
    exact own_of_block o4 fun k hk => kp5.block k (by have := (o4.lt k hk).1; omega)
  · exact z2.keep kp5 (by omega)
  · exact h.bel.trans (((kp.below (B := w.heap.size) (fun k hk => by unfold SR; omega)).trans (kp2.below (B := w.heap.size) (fun k hk => by omega))).trans (kp5.below fun k hk => by omega))

/-- A call of a function value without arguments, as a step of a region. -/
theorem step_call0 {ops : Array Oper} {o : Oper} {a : Act} {w : World} {K : Act → World → Prop} {Q : Exit → Act → World → Prop} {E : Prop} (hg : o.guard = none) (t : Tmp)
    (hop : o.op = Op.call { callee := Callee.value (.tmp t), args := #[], argTypes := #[] }) (f : FuncId) (caps : Array Value) (hf : a.eval (.tmp t) = .func (.func f) #[] caps)
    (hent : ∀ (args : Array Value) (wx : World), (callFunc f args).run Try.prog wx = .ok (.enter f args) wx) (R : Value → World → Prop) (hc : Calls Try.prog f caps w fun e w' => ∃ v, e = .returned v ∧ R v w')
    (hK : ∀ v w', R v w' → K (a.put o.dst v) w') : if Region.wanted o (yielded ops a.tmps) = true then Oper.wp Try.prog o a w K Q else E := by
  have hw : Region.wanted o (yielded ops a.tmps) = true := by simp [Region.wanted, hg]
  rw [if_pos hw]
  unfold Oper.wp
  simp [execOp, hop, resolve, invoke, hf, hent, Deferred.ofValue, Oper.upon]
  refine hc.mono ?_
  rintro e w' ⟨v, rfl, hr⟩
  exact hK v w' hr

theorem Rw.lit2 (w : World) (u x : Value) (t : TypeId) : Rw 2 (w.heap.size + 1) (w.alloc (.cells #[u, x] t)) (.slice (some ⟨w.heap.size, 0, none⟩) 1 1) 1 [u, x] := by
  refine ⟨rfl, some ⟨w.heap.size, 0, none⟩, 1, rfl, Nat.le_refl _, by omega, fun h => by simp at h, fun _ => ⟨w.heap.size, 0, rfl, by omega, fun j y hy => ?_⟩⟩
  match j, hy with
  | 0, hy => simp at hy; subst hy; rw [World.cell?_alloc_at _ _ _ _ rfl]; rfl
  | 1, hy => simp at hy; subst hy; rw [World.cell?_alloc_at _ _ _ _ rfl]; rfl
end Go.Proofs.Ytnddejdndipddab
