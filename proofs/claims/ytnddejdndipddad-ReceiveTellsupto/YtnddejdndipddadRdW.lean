/- The document's receivers: one in its box, beside a chunk and a result. -/
import Derived.Test.YtnddejdndipddadRdF
set_option maxRecDepth 20000
namespace Go.Proofs.Ytnddejdndipddad
open Go.RowKit

abbrev rvL (y : Rc) (s p t l : Value) : List Value := [.int .i64 y.cf.streams, .int .i64 y.cf.part, .int .i64 y.cf.packet, .int .i64 y.cf.paths, .int .i64 y.cf.turns, .int .i64 y.cf.waiting, .int .i64 y.cf.first, .int .i64 y.cum, s, p, t, l]
abbrev zrL : List Value := [.int .i64 0, .int .i64 0, .int .i64 0, .int .i64 0, .int .i64 0, .int .i64 0, .int .i64 0, .int .i64 0, .slice none 0 0, .slice none 0 0, .slice none 0 0, .slice none 0 0]
/-- A receiver in the box that is new at w, a chunk behind it, a result behind that. -/
structure RBox (V : Nat → Prop) (w wr : World) (CL : List Value) (y : Rc) (s p t l : Value) : Prop where
  cx : Cells w.heap.size wr (rvL y s p t l)
  cc : Cells (w.heap.size + 1) wr CL
  ct : Cells (w.heap.size + 2) wr zrL
  rv : RvI (fun k => V k ∨ w.heap.size + 3 ≤ k) wr y s p t l
  be : Below w.heap.size w wr
  sz : w.heap.size + 3 ≤ wr.heap.size
section
variable {V : Nat → Prop} {w wr w2 : World} {CL : List Value} {y z : Rc} {s p t l s2 p2 t2 l2 : Value}
theorem RBox.below (h : RBox V w wr CL y s p t l) (b : Below wr.heap.size wr w2) : RBox V w w2 CL y s p t l := by
  have sz := h.sz
  have bs := b.size
  exact ⟨h.cx.below b (by omega), h.cc.below b (by omega), h.ct.below b (by omega), (h.rv.lt.keep (toKeep b fun _ hk => hk.2)).mono fun _ hk => hk.1, h.be.trans (b.mono (by omega)), by omega⟩
/-- Its lists, ahead of what is new since. -/
theorem RBox.old (h : RBox V w wr CL y s p t l) (b : Below wr.heap.size wr w2) : RvI (fun k => (V k ∨ w.heap.size + 3 ≤ k) ∧ k < wr.heap.size) w2 y s p t l := h.rv.lt.keep (toKeep b fun _ hk => hk.2)
/-- Another one is stored into the box. -/
theorem RBox.put (h : RBox V w w2 CL y s p t l) (hv : ∀ k, V k → k < w.heap.size) (hr : RvI (fun k => V k ∨ w.heap.size + 3 ≤ k) w2 z s2 p2 t2 l2) : RBox V w (w2.setCells w.heap.size 0 (rvL z s2 p2 t2 l2)) CL z s2 p2 t2 l2 := by
  have sz := h.sz
  have KE : Keep (fun k => k ≠ w.heap.size) w2 (w2.setCells w.heap.size 0 (rvL z s2 p2 t2 l2)) := Keep.setCells (fun h => h rfl) _ _ (Keep.refl _ _)
  have ks := KE.size
  exact ⟨h.cx.setAll _ rfl, h.cc.keep KE (by omega), h.ct.keep KE (by omega), hr.keep (KE.mono fun k hk => hk.elim (fun h => by have := hv k h; omega) fun h => by omega), Below.setCells (Nat.le_refl _) _ _ h.be, by omega⟩
/-- Its pieces are others. -/
theorem RBox.pcs {base : Nat} {V' : Nat → Prop} {p' : Value} {L : List Pc} (h : RBox V w w2 CL y s p t l) (hv : ∀ k, V k → k < w.heap.size) (row : PcRow V' base w2 p' L) (hV' : ∀ k, V' k → V k ∨ w.heap.size + 3 ≤ k) (hb : w.heap.size + 3 ≤ base) : RBox V w (w2.setCell ⟨w.heap.size, 9, none⟩ p') CL { y with pieces := L } s p' t l := by
  have sz := h.sz
  have KE : Keep (fun k => k ≠ w.heap.size) w2 (w2.setCell ⟨w.heap.size, 9, none⟩ p') := Keep.setCell (Keep.refl _ _) (p := ⟨w.heap.size, 9, none⟩) (fun h => h rfl) _
  have ks := KE.size
  have hn : ∀ k, V k ∨ w.heap.size + 3 ≤ k → k ≠ w.heap.size := fun k hk => hk.elim (fun h => by have := hv k h; omega) fun h => by omega
  have row2 : PcRow V' base (w2.setCell ⟨w.heap.size, 9, none⟩ p') p' L := GRow.keep PcI.holds row (KE.mono fun k hk => hn k (hV' k hk)) (fun k hk => KE.block k (by have := (row.lt hk).1; omega))
  have r0 : RvI (fun k => V k ∨ w.heap.size + 3 ≤ k) (w2.setCell ⟨w.heap.size, 9, none⟩ p') y s p t l := h.rv.keep (KE.mono fun k hk => hn k hk)
  obtain ⟨vs, a1, a2⟩ := row2
  have row3 : PcRow (fun k => V k ∨ w.heap.size + 3 ≤ k) base (w2.setCell ⟨w.heap.size, 9, none⟩ p') p' L := ⟨vs, a1.imp fun _ _ h => PcI.holds.mono h hV', a2⟩
  exact ⟨h.cx.set 9 p' (by simp), h.cc.keep KE (by omega), h.ct.keep KE (by omega), r0.withP row3 (fun _ hk => hk) (fun k hk => .inr (by omega)), h.be.setCell (Nat.le_refl _) _, by omega⟩
/-- A stream's turn is set, in a row that is new. -/
theorem RBox.turned {g n c : Nat} (h : RBox V w wr CL y s p t l) (hv : ∀ k, V k → k < w.heap.size) (b : Below wr.heap.size wr w2) (own : w2.ownsRow wr.heap.size 3 1 (.slice (some ⟨g, 0, none⟩) n c) n (cellsI y.turn)) (i : Nat) (v : Int) (hi : I64 v) :
    RBox V w ((w2.setCell ⟨w.heap.size, 10, none⟩ (.slice (some ⟨g, 0, none⟩) n c)).setCell ⟨g, i, none⟩ (.int .i64 v)) CL { y with turn := y.turn.set i v } s p (.slice (some ⟨g, 0, none⟩) n c) l := by
  have sz := h.sz
  have h2 := h.below b
  have hg := own.lt g rfl
  have K1 : Keep (fun k => k ≠ w.heap.size) w2 (w2.setCell ⟨w.heap.size, 10, none⟩ (.slice (some ⟨g, 0, none⟩) n c)) := Keep.setCell (Keep.refl _ _) (p := ⟨w.heap.size, 10, none⟩) (fun h => h rfl) _
  have own1 := own_of_block own fun k hk => K1.block k (by have := (own.lt k hk).1; omega)
  have K2 : Keep (fun k => k ≠ g) (w2.setCell ⟨w.heap.size, 10, none⟩ (.slice (some ⟨g, 0, none⟩) n c)) ((w2.setCell ⟨w.heap.size, 10, none⟩ (.slice (some ⟨g, 0, none⟩) n c)).setCell ⟨g, i, none⟩ (.int .i64 v)) := Keep.setCell (Keep.refl _ _) (p := ⟨g, i, none⟩) (fun h => h rfl) _
  have own2 := (own1.stored i (.int .i64 v)).1
  rw [← cellsI_set] at own2
  have hln : n = y.turn.length := by have := own.1; simpa [cellsI] using this.symm
  have r0 := ((h.old b).keep ((K1.mono (S' := fun k => (V k ∨ w.heap.size + 3 ≤ k) ∧ k < wr.heap.size) fun k hk => hk.1.elim (fun h => by have := hv k h; omega) fun h => by omega).trans (K2.mono fun k hk => by have := hk.2; omega))).mono (V' := fun k => V k ∨ w.heap.size + 3 ≤ k) fun k hk => hk.1
  have hI : IsI (y.turn.set i v) := h.rv.r.t.2.set i hi
  refine ⟨(h2.cx.set 10 (.slice (some ⟨g, 0, none⟩) n c) (by simp)).keep K2 (by omega), (h2.cc.keep K1 (by omega)).keep K2 (by omega), (h2.ct.keep K1 (by omega)).keep K2 (by omega), r0.withT (In.own own2 (by simpa using hln) hI) (fun b off sp n' c' e _ => by simp only [Value.slice.injEq, Option.some.injEq, Addr.mk.injEq] at e; exact .inr (by omega)), (h2.be.setCell (Nat.le_refl _) _).setCell (by show _ ≤ g; omega) _, by simp; omega⟩
end
/-- What is set stays, whatever goes. -/
theorem gone_set (x : Rc) (s v : Int) (m : Ms) : goneM (setTurn x s v) m = setTurn (goneM x m) s v := by
  unfold goneM delivM dropM loggedM
  have e : wholeM (setTurn x s v) m = wholeM x m := rfl
  simp only [e]
  split <;> rfl
theorem goneN_snoc (s : Int) : ∀ (j : Nat) (x : Rc) (a : Int), goneN s (j + 1) x a = goneM (goneN s j x a) (numM s (a + j))
  | 0, x, a => by simp [goneN]
  | j + 1, x, a => by
    rw [goneN, goneN_snoc s j _ _, goneN, show a + 1 + (j : Int) = a + ((j + 1 : Nat) : Int) by omega]
theorem set_set (x : Rc) (s u v : Int) : setTurn (setTurn x s u) s v = setTurn x s v := by simp [setTurn]
theorem set_self (x : Rc) (s : Int) (hs : hasM x s) : setTurn x s (turnAt x s) = x := by
  unfold setTurn turnAt
  have h : s.toNat < x.turn.length := by have := hs.1; have := hs.2; omega
  have : x.turn.set s.toNat (x.turn.getD s.toNat 0) = x.turn := by
    rw [List.getD_eq_getElem?_getD, List.getElem?_eq_getElem h, Option.getD_some, List.set_getElem_self]
  rw [this]
end Go.Proofs.Ytnddejdndipddad
