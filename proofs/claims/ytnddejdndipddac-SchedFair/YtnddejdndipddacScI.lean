/- SchedFair: plain, and what its rounds keep. -/
import Derived.Test.YtnddejdndipddacScG
set_option maxRecDepth 20000
namespace Go.Proofs.Ytnddejdndipddac
open Go.RowKit

theorem Rw.cells {w : World} {O m c k : Nat} {xs : List Value} (h : Cells O w xs) (hO : O < w.heap.size) (hx : xs.length = m * k) (hc : m ≤ c) (h2 : c ≤ 9223372036854775807) : Rw k w.heap.size w (.slice (some ⟨O, 0, none⟩) m c) m xs :=
  ⟨hx, some ⟨O, 0, none⟩, c, rfl, hc, h2, fun h => by simp at h, fun _ => ⟨O, 0, rfl, hO, fun j u hu => by rw [Nat.zero_add]; exact h.cell j u hu⟩⟩
theorem Try.infoQd : (Try.prog.info? 31).map (fun i => (i.zero, i.size, i.bytes)) = some (some (.agg #[.int .i64 0, .int .i64 0, .int .i64 0, .int .i64 0, .int .i64 0, .int .i64 0, .bool false, .int .i64 0, .int .i64 0, .slice none 0 0]), 10, 96) := by kernel_rfl

/-- A call of a plain function with four arguments, as a step of a region. -/
theorem step_call4 {ops : Array Oper} {o : Oper} {a : Act} {w : World} {K : Act → World → Prop} {Q : Exit → Act → World → Prop} {E : Prop} (hg : o.guard = none) (f : FuncId) (x0 x1 x2 x3 : Operand) (ts : Array TypeId)
    (hop : o.op = Op.call { callee := Callee.value (.func f), args := #[x0, x1, x2, x3], argTypes := ts }) (u0 u1 u2 u3 : Value) (h0 : a.eval x0 = u0) (h1 : a.eval x1 = u1) (h2 : a.eval x2 = u2) (h3 : a.eval x3 = u3) (hf : a.eval (.func f) = .func (.func f) #[] #[])
    (hent : ∀ (args : Array Value) (wx : World), (callFunc f args).run Try.prog wx = .ok (.enter f args) wx) (R : Value → World → Prop) (hc : Calls Try.prog f #[u0, u1, u2, u3] w fun e w' => ∃ v, e = .returned v ∧ R v w')
    (hK : ∀ v w', R v w' → K (a.put o.dst v) w') : if Region.wanted o (yielded ops a.tmps) = true then Oper.wp Try.prog o a w K Q else E := by
  have hw : Region.wanted o (yielded ops a.tmps) = true := by simp [Region.wanted, hg]
  rw [if_pos hw]
  unfold Oper.wp
  simp [execOp, hop, resolve, invoke, hf, h0, h1, h2, h3, hent, Deferred.ofValue, Oper.upon]
  refine hc.mono ?_
  rintro e w' ⟨v, rfl, hr⟩
  exact hK v w' hr

/-- Messages, one of each stream. -/
def msgsQ (n : Nat) : List Qd := (List.range n).map fun j : Nat => msgQ j j
def msgsV (n : Nat) : List Value := (List.range n).map fun j : Nat => .agg (msgA j j)
theorem msgsV_succ (n : Nat) : flatV (msgsV (n + 1)) = flatV (msgsV n) ++ (msgA n n).toList := by
  simp [msgsV, List.range_succ, flatV, Value.cells]
theorem msgsQ_len (n : Nat) : (msgsQ n).length = n := by simp [msgsQ]
theorem msgs_all (n : Nat) (B : Nat) (w : World) : All2 (QdV B w) (msgsV n) (msgsQ n) := by
  refine All2.of (by simp [msgsV, msgsQ]) fun k v c e e' => ?_
  have hk : k < n := by simpa [msgsV] using (List.getElem?_eq_some_iff.1 e).1
  simp [msgsV, msgsQ, hk] at e e'
  subst e e'
  exact ⟨_, rfl, isl⟩
theorem msgsQ_strs (n : Nat) : strs (msgsQ n) = rankM n := by simp [strs, msgsQ, rankM, msgQ]
theorem msgsQ_get {n m : Nat} (h : m < (msgsQ n).length) : (msgsQ n)[m] = msgQ m m := by simp [msgsQ]

/-- What each stream has had. -/
def hadsM (n t : Nat) (p : Int) : List Int := (List.range n).map fun x : Nat => (cntM n t x : Nat) * p
def cntsM (n t : Nat) : List Int := (List.range n).map fun x : Nat => ((cntM n t x : Nat) : Int)
theorem hadsM_len (n t : Nat) (p : Int) : (hadsM n t p).length = n := by simp [hadsM]
theorem cntsM_len (n t : Nat) : (cntsM n t).length = n := by simp [cntsM]
theorem hadsM_get {n t : Nat} {p : Int} {x : Nat} (h : x < n) : (hadsM n t p).getD x 0 = (cntM n t x : Nat) * p := by simp [hadsM, h]
theorem hadsM_zero (n : Nat) (p : Int) : hadsM n 0 p = List.replicate n 0 := by
  apply List.ext_getElem (by simp [hadsM])
  intro x h1 h2
  have hx : x < n := by simpa [hadsM] using h1
  simp [hadsM, cnt_zero n x hx]
theorem cntsM_zero (n : Nat) : cntsM n 0 = List.replicate n 0 := by
  apply List.ext_getElem (by simp [cntsM])
  intro x h1 h2
  have hx : x < n := by simpa [cntsM] using h1
  simp [cntsM, cnt_zero n x hx]
theorem cntsM_step (n t : Nat) (h1 : 0 < n) (hn : n ≤ 4) : cntsM n (t + 1) = (cntsM n t).set (t % n) ((cntM n t (t % n) : Nat) + 1) := by
  apply List.ext_getElem (by simp [cntsM])
  intro x g1 g2
  have hx : x < n := by simpa [cntsM] using g1
  rw [List.getElem_set]
  simp only [cntsM, List.getElem_map, List.getElem_range, cnt_succ n t x h1 hn hx]
  by_cases e : x = t % n
  · rw [if_pos e, if_pos e.symm, e]; omega
  · rw [if_neg e, if_neg (fun h => e h.symm)]
theorem cnt_mul_bd (n t x : Nat) (p : Int) (h1 : 0 < n) (hn : n ≤ 4) (ht : t ≤ 100) (p1 : 1 ≤ p) (p2 : p ≤ 16) : 0 ≤ ((cntM n t x : Nat) : Int) * p ∧ ((cntM n t x : Nat) : Int) * p ≤ 1648 := by
  have := cnt_le n t x h1 hn
  have c : ((cntM n t x : Nat) : Int) ≤ 103 := by omega
  constructor
  · exact Int.mul_nonneg (by omega) (by omega)
  · have := Int.mul_le_mul c p2 (by omega) (by omega)
    omega
theorem hadsM_isI (n t : Nat) (p : Int) (h1 : 0 < n) (hn : n ≤ 4) (ht : t ≤ 100) (p1 : 1 ≤ p) (p2 : p ≤ 16) : IsI (hadsM n t p) := fun z hz => by
  obtain ⟨x, _, rfl⟩ := List.mem_map.1 hz
  have := cnt_mul_bd n t x p h1 hn ht p1 p2
  unfold I64
  omega
theorem hadsM_step (n t : Nat) (p : Int) (h1 : 0 < n) (hn : n ≤ 4) (ht : t < 100) (p1 : 1 ≤ p) (p2 : p ≤ 16) : hadL (hadsM n t p) ((t % n : Nat) : Int) p = hadsM n (t + 1) p := by
  have hm : t % n < n := Nat.mod_lt _ h1
  rw [hadL, if_pos ⟨by omega, by rw [hadsM_len]; omega⟩, Int.toNat_natCast, hadsM_get hm]
  apply List.ext_getElem (by simp [hadsM])
  intro x g1 g2
  have hx : x < n := by simpa [hadsM] using g2
  rw [List.getElem_set]
  simp only [hadsM, List.getElem_map, List.getElem_range, cnt_succ n t x h1 hn hx]
  by_cases e : x = t % n
  · rw [if_pos e.symm, if_pos e]
    subst e
    have := cnt_mul_bd n t (t % n) p h1 hn (by omega) p1 p2
    rw [Int.natCast_add, Int.add_mul]
    generalize ((cntM n t (t % n) : Nat) : Int) * p = y at *
    simp only [wrap64]
    omega
  · rw [if_neg (fun h => e h.symm), if_neg e]

/-- Whose turn it is: in turn. -/
theorem fair_turn {n t : Nat} {p hand k : Int} {byBytes : Bool} {ids : List Int} (h1 : 0 < n) (hn : n ≤ 4) (p1 : 1 ≤ p) (h : NextIs (if byBytes then 5 else 3) (lastM n t : Nat) hand (hadsM n t p) ids (rankM n) k) : k = ((t % n : Nat) : Int) := by
  have hno : ¬ ((rankM n).length = 0 ∨ (hadsM n t p).length = 0) := by rw [rankM_len, hadsM_len]; omega
  cases byBytes with
  | true => exact h.uniq (next_fair hno rfl (by rw [hadsM_len]; exact fair_bytes n t p _ h1 hn (by omega) fun x hx => hadsM_get hx))
  | false => exact h.uniq (next_round hno (.inl rfl) (by rw [hadsM_len]; exact fair_parts n t h1 hn))

/-- What the rounds keep: s in block S, the turns in block H. -/
structure FrSt (wB : World) (S H n : Nat) (p : Int) (t : Nat) (wr : World) : Prop where
  bel : Below wB.heap.size wB wr
  s : ∃ hand a c, Cells S wr [.int .i64 (lastM n t : Nat), .int .i64 hand, .slice a n c] ∧ In wr.heap.size wr (.slice a n c) (hadsM n t p) ∧ InS (fun k => k ≠ S ∧ k ≠ H) (.slice a n c)
  h : Cells H wr (cellsI (cntsM n t))
  ltS : S < wr.heap.size
  ltH : H < wr.heap.size

theorem FrSt.below {wB : World} {S H n : Nat} {p : Int} {t : Nat} {wr w2 : World} (f : FrSt wB S H n p t wr) (b : Below wr.heap.size wr w2) : FrSt wB S H n p t w2 := by
  obtain ⟨hand, a, c, h1, h2, h3⟩ := f.s
  exact ⟨f.bel.trans (b.mono f.bel.size), ⟨hand, a, c, h1.below b f.ltS, h2.size b (Nat.le_refl _), h3⟩, f.h.below b f.ltH, Nat.lt_of_lt_of_le f.ltS b.size, Nat.lt_of_lt_of_le f.ltH b.size⟩
theorem fair_start {wr w2 : World} {O k : Nat} {p : Int} (h1 : 0 < k) (CO : Cells O w2 (cellsI (List.replicate k 0))) (hO2 : O < w2.heap.size) (b2 : Below wr.heap.size wr w2) (hk : k ≤ 4) :
    FrSt wr w2.heap.size (w2.heap.size + 1) k p 0 ((w2.alloc (.cells #[.int .i64 ((k : Int) - 1), .int .i64 (-1), .slice (some ⟨O, 0, none⟩) k k] 24)).alloc (.cells (madeCells #[.int .i64 0] k) 3)) := by
  have e0 : ((lastM k 0 : Nat) : Int) = (k : Int) - 1 := by
    unfold lastM
    rw [Nat.zero_add, Nat.mod_eq_of_lt (by omega)]
    omega
  have B := two_below w2 (.cells #[.int .i64 ((k : Int) - 1), .int .i64 (-1), .slice (some ⟨O, 0, none⟩) k k] 24) (.cells (madeCells #[.int .i64 0] k) 3)
  refine ⟨b2.trans (B.mono b2.size), ⟨-1, some ⟨O, 0, none⟩, k, ?_, ?_, ?_⟩, ?_, by simp; omega, by simp⟩
  · rw [e0]
    exact (Cells.new w2 #[.int .i64 ((k : Int) - 1), .int .i64 (-1), .slice (some ⟨O, 0, none⟩) k k] 24).alloc (by simp) _
  · rw [hadsM_zero]
    refine In.block (CO.below B hO2) (by simp; omega) (by simp) (by simp; omega) fun z hz => ?_
    obtain ⟨-, rfl⟩ := List.mem_replicate.1 hz
    unfold I64; omega
  · intro b off sp n cap e hn
    simp only [Value.slice.injEq, Option.some.injEq, Addr.mk.injEq] at e
    omega
  · rw [cntsM_zero]
    have := Cells.new' (w := w2.alloc (.cells #[.int .i64 ((k : Int) - 1), .int .i64 (-1), .slice (some ⟨O, 0, none⟩) k k] 24)) (X := w2.heap.size + 1) (madeCells #[.int .i64 0] k) 3 (by simp)
    rw [toList_madeCells_one] at this
    simpa [cellsI] using this
/-- A turn more. -/
theorem FrSt.step {wB : World} {S H n : Nat} {p : Int} {t : Nat} {wr w4 : World} {hand : Int} {a : Option Addr} {c : Nat} (f : FrSt wB S H n p t wr) (h1 : 0 < n) (hn : n ≤ 4) (hSH : wB.heap.size ≤ S ∧ wB.heap.size ≤ H ∧ S ≠ H)
    (b : Below wr.heap.size (wr.setCell ⟨H, t % n, none⟩ (.int .i64 (((cntM n t (t % n) : Nat) : Int) + 1))) w4) (hin : In w4.heap.size w4 (.slice a n c) (hadsM n (t + 1) p)) (his : InS (fun k => wr.heap.size ≤ k) (.slice a n c)) :
    FrSt wB S H n p (t + 1) (((w4.setCell ⟨S, 0, none⟩ (.int .i64 ((t % n : Nat) : Int))).setCell ⟨S, 1, none⟩ (.int .i64 hand)).setCell ⟨S, 2, none⟩ (.slice a n c)) := by
  obtain ⟨x1, x2, x3⟩ := hSH
  have hm : t % n < n := Nat.mod_lt _ h1
  obtain ⟨hand0, a0, c0, g1, g2, g3⟩ := f.s
  have lS := f.ltS
  have lH := f.ltH
  have hsz := b.size
  have hz : (wr.setCell ⟨H, t % n, none⟩ (.int .i64 (((cntM n t (t % n) : Nat) : Int) + 1))).heap.size = wr.heap.size := by simp
  have KS : Keep (fun k => k ≠ S) w4 (((w4.setCell ⟨S, 0, none⟩ (.int .i64 ((t % n : Nat) : Int))).setCell ⟨S, 1, none⟩ (.int .i64 hand)).setCell ⟨S, 2, none⟩ (.slice a n c)) := (((Keep.refl _ _).setCell (p := ⟨S, 0, none⟩) (fun h => h rfl) _).setCell (p := ⟨S, 1, none⟩) (fun h => h rfl) _).setCell (p := ⟨S, 2, none⟩) (fun h => h rfl) _
  have hz2 : (((w4.setCell ⟨S, 0, none⟩ (.int .i64 ((t % n : Nat) : Int))).setCell ⟨S, 1, none⟩ (.int .i64 hand)).setCell ⟨S, 2, none⟩ (.slice a n c)).heap.size = w4.heap.size := by simp
  have CS4 := ((((g1.past (Y := H) (t % n) (.int .i64 (((cntM n t (t % n) : Nat) : Int) + 1)) x3).below b lS).set 0 (.int .i64 ((t % n : Nat) : Int)) (by simp)).set 1 (.int .i64 hand) (by simp)).set 2 (.slice a n c) (by simp)
  have CH4 := (f.h.set (t % n) (.int .i64 (((cntM n t (t % n) : Nat) : Int) + 1)) (by rw [cellsI_length, cntsM_len]; exact hm)).below b lH
  rw [← cellsI_set, ← cntsM_step n t h1 hn] at CH4
  refine ⟨?_, ⟨hand, a, c, ?_, hin.keep (his.mono fun k hk => by show k ≠ S; omega) KS (by omega), his.mono fun k hk => ⟨by omega, by omega⟩⟩, CH4.keep KS (fun e => x3 e.symm), by omega, by omega⟩
  · exact (((((f.bel.setCell (p := ⟨H, t % n, none⟩) x2 _).trans (b.mono f.bel.size)).setCell (p := ⟨S, 0, none⟩) x1 _).setCell (p := ⟨S, 1, none⟩) x1 _).setCell (p := ⟨S, 2, none⟩) x1 _)
  · rw [last_succ n t h1 hn]
    exact CS4

/-- A round's call of Had. -/
theorem fair_had {S H n : Nat} {p : Int} {t : Nat} {w3 : World} {hand : Int} {a3 : Option Addr} {c3 : Nat} (h1 : 0 < n) (hn : n ≤ 4) (ht : t < 100) (p1 : 1 ≤ p) (p2 : p ≤ 16)
    (hin : In w3.heap.size w3 (.slice a3 n c3) (hadsM n t p)) (his : InS (fun k => k ≠ S ∧ k ≠ H) (.slice a3 n c3)) (da : Option Addr) (dn dc : Nat) :
    Calls Try.prog 13 #[.agg #[.int .i64 (lastM n t : Nat), .int .i64 hand, .slice a3 n c3], .agg #[.int .i64 ((t % n : Nat) : Int), .int .i64 0, .int .i64 0, .int .i64 0, .int .i64 0, .int .i64 ((t % n : Nat) : Int), .bool false, .int .i64 0, .int .i64 0, .slice da dn dc], .int .i64 p, .bool false] (w3.setCell ⟨H, t % n, none⟩ (.int .i64 (((cntM n t (t % n) : Nat) : Int) + 1))).drew fun e w' => ∃ v, e = .returned v ∧
      ∃ a c, v = .agg #[.int .i64 ((t % n : Nat) : Int), .int .i64 ((t % n : Nat) : Int), .slice a n c] ∧ In w'.heap.size w' (.slice a n c) (hadsM n (t + 1) p) ∧ InS (fun k => w3.heap.size ≤ k) (.slice a n c) ∧ Below w3.heap.size (w3.setCell ⟨H, t % n, none⟩ (.int .i64 (((cntM n t (t % n) : Nat) : Int) + 1))) w' := by
  have hz : (w3.setCell ⟨H, t % n, none⟩ (.int .i64 (((cntM n t (t % n) : Nat) : Int) + 1))).drew.heap.size = w3.heap.size := by simp
  have IN4 : In (w3.setCell ⟨H, t % n, none⟩ (.int .i64 (((cntM n t (t % n) : Nat) : Int) + 1))).drew.heap.size (w3.setCell ⟨H, t % n, none⟩ (.int .i64 (((cntM n t (t % n) : Nat) : Int) + 1))).drew (.slice a3 n c3) (hadsM n t p) := hin.keep his ((Keep.setCell (Keep.refl _ _) (p := ⟨H, t % n, none⟩) (fun h => h.2 rfl) _).drew) (by omega)
  have HL := hadsM_step n t p h1 hn ht p1 p2
  refine (had_any _ ⟨lastM n t, hand, hadsM n t p⟩ (msgQ (t % n : Nat) (t % n : Nat)) da dn dc p false _ ⟨_, rfl, IN4⟩ (by show (hadsM n t p).length * 8 ≤ _; rw [hadsM_len]; omega)).mono ?_
  rintro e w' ⟨d', rfl, i1, i2, b⟩
  have e1 : (hadM ⟨lastM n t, hand, hadsM n t p⟩ (msgQ (t % n : Nat) (t % n : Nat)) p false).had = hadsM n (t + 1) p := HL
  rw [e1] at i1
  obtain ⟨a, c, rfl, -, -⟩ := i1.ex
  rw [hadsM_len] at i1 i2 ⊢
  rw [hz] at i2 b
  exact ⟨_, rfl, a, c, rfl, i1, i2, (drew_below _ _).trans b⟩
end Go.Proofs.Ytnddejdndipddac
