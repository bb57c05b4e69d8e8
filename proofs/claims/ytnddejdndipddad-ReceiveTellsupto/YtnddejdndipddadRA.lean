/- append(append([]T{}, xs...), T{..}) in a region that draws: one law. -/
import Derived.Test.YtnddejdndipddadRG
import Derived.Test.YtnddejdndipddadRcE
set_option maxRecDepth 20000
namespace Go.Proofs.Ytnddejdndipddad
open Go.RowKit

theorem hide {p : Prop} (h : p) : Hid p := h
/-- A literal, as a step. -/
theorem step_mk {ops : Array Oper} {o : Oper} {a : Act} {w w' : World} {K : Act → World → Prop} {Q : Exit → Act → World → Prop} {X : Prop} (hg : o.guard = none) (T : TypeId) (n : Nat) (parts : Array (Nat × Operand)) (hop : o.op = Op.buildSlice T n parts) (ps : Array (Nat × Value)) (hp : parts.map (fun (i, x) => (i, a.eval x)) = ps) (v : Value)
    (hr : (Instr.buildSlice T n ps).run Try.prog w = .ok v w') (hK : K (a.put o.dst v) w') : if Region.wanted o (yielded ops a.tmps) = true then Oper.wp Try.prog o a w K Q else X := by
  have hw : Region.wanted o (yielded ops a.tmps) = true := by simp [Region.wanted, hg]
  rw [if_pos hw]
  unfold Oper.wp
  simp only [execOp, hop, hp, hr, Sem.run_bind, Sem.run_pure, Result.andThen_ok]
  exact hK

/-- A store of a whole struct, as a step. -/
theorem step_stN {ops : Array Oper} {o : Oper} {a : Act} {w : World} {K : Act → World → Prop} {Q : Exit → Act → World → Prop} {X : Prop} (T : TypeId) (N : Nat) (hN : (Try.prog.info? T).map (·.size) = some N) (hg : o.guard = none) (y z : Operand) (hop : o.op = .store T y z)
    (b off : Nat) (hx : a.eval y = .pointer (some ⟨b, off, none⟩)) (vs : List Value) (hy : a.eval z = .agg vs.toArray) (hv : vs.length = N) (h1 : vs.all (·.oneCell') = true) (ht : w.there b off N) (hK : K (a.put o.dst undef) (w.setCells b off vs)) :
    if Region.wanted o (yielded ops a.tmps) = true then Oper.wp Try.prog o a w K Q else X := by
  have hw : Region.wanted o (yielded ops a.tmps) = true := by simp [Region.wanted, hg]
  have hr := run_storeAt_mid (P := Try.prog) w b off T vs.toArray (by simpa [hv] using ht) (by rw [hN]; simp [hv]) (by simpa using h1)
  rw [if_pos hw]
  unfold Oper.wp
  simp only [execOp, hop, hx, hy, hr, Sem.run_bind, Sem.run_pure, Result.andThen_ok]
  exact hK

/-- An operation that yields a value, as a step. -/
theorem step_val {ops : Array Oper} {o : Oper} {a : Act} {w : World} {K : Act → World → Prop} {Q : Exit → Act → World → Prop} {X : Prop} (hg : o.guard = none) (v : Value) (hr : (execOp a.eval o).run Try.prog w = .ok (.value v) w) (hK : K (a.put o.dst v) w) :
    if Region.wanted o (yielded ops a.tmps) = true then Oper.wp Try.prog o a w K Q else X := by
  have hw : Region.wanted o (yielded ops a.tmps) = true := by simp [Region.wanted, hg]
  rw [if_pos hw]
  unfold Oper.wp
  rw [hr]
  exact hK
/-- A call of a function with one operand, as a step that may be guarded. -/
theorem step_call1w {ops : Array Oper} {o : Oper} {a : Act} {w : World} {K : Act → World → Prop} {Q : Exit → Act → World → Prop} {E : Prop} (hw : Region.wanted o (yielded ops a.tmps) = true) (f : FuncId) (x : Operand) (t : TypeId)
    (hop : o.op = Op.call { callee := Callee.value (.func f), args := #[x], argTypes := #[t] }) (u : Value) (hu : a.eval x = u) (hf : a.eval (.func f) = .func (.func f) #[] #[])
    (hent : ∀ (args : Array Value) (wx : World), (callFunc f args).run Try.prog wx = .ok (.enter f args) wx) (R : Value → World → Prop) (hc : Calls Try.prog f #[u] w fun e w' => ∃ v, e = .returned v ∧ R v w')
    (hK : ∀ v w', R v w' → K (a.put o.dst v) w') : if Region.wanted o (yielded ops a.tmps) = true then Oper.wp Try.prog o a w K Q else E := by
  rw [if_pos hw]
  unfold Oper.wp
  simp [execOp, hop, resolve, invoke, hf, hu, hent, Deferred.ofValue, Oper.upon]
  refine hc.mono ?_
  rintro e w' ⟨v, rfl, hr⟩
  exact hK v w' hr
theorem near_bd' (cum tag : Int) : cum - 32768 ≤ nearM cum tag ∧ nearM cum tag ≤ cum + 32768 := by
  unfold nearM
  simp only
  split <;> omega
theorem cell_oth' {w : World} {b j c i : Nat} {u : Value} (h : b ≠ c ∨ j ≠ i) : (w.setCell ⟨b, j, none⟩ u).cell? ⟨c, i, none⟩ = w.cell? ⟨c, i, none⟩ :=
  World.cell?_setCell_other _ _ _ _ fun e => by simp only [Addr.mk.injEq, and_true] at e; omega

section
variable {ops : Array Oper} {Q : Exit → Act → World → Prop} {S : World → Prop} {late : List Nat} {listed : Array Bool} {a : Act} {w : World} {fuel : Nat}

structure App2J (B : Nat) (w : World) (E : TypeId) (k m : Nat) (us vals : List Value) (iA i1 iB i2 : Nat) (L : Nat → Bool) (x : Nat → Value) (w' : World) : Prop where
  bel : Below B w w'
  l1 : L i1 = true → L iA = true
  l2 : L i2 = true → L i1 = true ∧ L iB = true
  rA : L iA = true → L i1 = false → w'.ownsRow B E k (x iA) 0 []
  r1 : L i1 = true → L i2 = false → w'.ownsRow B E k (x i1) m us
  rB : L iB = true → L i2 = false → ∃ g, x iB = .slice (some ⟨g, 0, none⟩) 1 1 ∧ g < w'.heap.size ∧ Rw k w'.heap.size w' (x iB) 1 vals ∧ (L iA = true → L i1 = false → (x iA).ownBlock ≠ some g) ∧ (L i1 = true → (x i1).ownBlock ≠ some g)
  r2 : L i2 = true → w'.ownsRow B E k (x i2) (m + 1) (us ++ vals)

theorem own_new {w : World} {base : Nat} {e : TypeId} {size : Nat} {v : Value} {n : Nat} {xs : List Value} (h : w.ownsRow base e size v n xs) (o : Obj) : (w.alloc o).ownsRow base e size v n xs :=
  own_of_block h fun k hk => (box_below w o).block k (h.lt k hk).2

theorem seg_app2 {T E : TypeId} {k bytes : Nat} {zero : Value} (hT : Try.prog.underlying T = some (.slice E)) (hE : (Try.prog.info? E).map (fun i => (i.zero, i.size, i.bytes)) = some (some zero, k, bytes)) (hz : zero.cells.size = k) (hk : 0 < k)
    (rest : Nat) (iA i1 iB i2 : Nat) (tA t1 tB t2 : Tmp) (oA o1 oB o2 : Oper)
    (pA : ops[iA]? = some oA ∧ oA.dst = some tA ∧ oA.guard = none ∧ oA.op = Op.buildSlice T 0 #[])
    (x1 : Operand) (p1 : ops[i1]? = some o1 ∧ o1.dst = some t1 ∧ o1.guard = none ∧ o1.op = Op.call { callee := Callee.builtin Builtin.append, args := #[.tmp tA, x1], argTypes := #[T, T] })
    (xB : Operand) (pB : ops[iB]? = some oB ∧ oB.dst = some tB ∧ oB.guard = none ∧ oB.op = Op.buildSlice T 1 #[(0, xB)])
    (p2 : ops[i2]? = some o2 ∧ o2.dst = some t2 ∧ o2.guard = none ∧ o2.op = Op.call { callee := Callee.builtin Builtin.append, args := #[.tmp t1, .tmp tB], argTypes := #[T, T] })
    (hc : checkJ .any ops listed [(iA, some tA), (i1, some t1), (iB, some tB), (i2, some t2)] = true) (hf : fuel = 4 + rest)
    (hne : (iA ≠ i1 ∧ iA ≠ iB ∧ iA ≠ i2 ∧ i1 ≠ iB ∧ i1 ≠ i2 ∧ iB ≠ i2) ∧ tA ≠ t1 ∧ tA ≠ tB ∧ tA ≠ t2 ∧ t1 ≠ tB ∧ t1 ≠ t2 ∧ tB ≠ t2)
    (hfr : (x1 ≠ .tmp tA ∧ x1 ≠ .tmp t1 ∧ x1 ≠ .tmp tB ∧ x1 ≠ .tmp t2) ∧ xB ≠ .tmp tA ∧ xB ≠ .tmp t1 ∧ xB ≠ .tmp tB ∧ xB ≠ .tmp t2) (hsz : tA < a.tmps.size ∧ t1 < a.tmps.size ∧ tB < a.tmps.size)
    (d1 : (o1.after.any (fun e => Region.binds .any e && e.on == iA)) = true) (d2 : (o2.after.any (fun e => Region.binds .any e && e.on == i1)) = true ∧ (o2.after.any (fun e => Region.binds .any e && e.on == iB)) = true)
    (y : Value) (hy : a.eval x1 = y) (m : Nat) (us : List Value) (hus : Rw k w.heap.size w y m us) (hone : ∀ u ∈ us, u.oneCell' = true)
    (val : Value) (hv : a.eval xB = val) (vals : List Value) (hvals : vals.length = k) (hvone : ∀ u ∈ vals, u.oneCell' = true)
    (hlen : m + 1 ≤ maxLen) (hbytes : (m + 1) * bytes ≤ 140737488355328)
    (mA : ∀ wx : World, (Instr.buildSlice T 0 #[]).run Try.prog wx = .ok (.slice (some ⟨wx.heap.size, 0, none⟩) 0 0) (wx.alloc (.cells #[] E)))
    (mB : ∀ wx : World, (Instr.buildSlice T 1 #[(0, val)]).run Try.prog wx = .ok (.slice (some ⟨wx.heap.size, 0, none⟩) 1 1) (wx.alloc (.cells vals.toArray E)))
    (hS : ∀ w', Below w.heap.size w w' → S w')
    (hend : ∀ vA v1 vB v2 w', w'.ownsRow w.heap.size E k v2 (m + 1) (us ++ vals) → Below w.heap.size w w' →
      wpAnyL Try.prog .any ops Q S late rest (setAll [(iA, some tA), (i1, some t1), (iB, some tB), (i2, some t2)] listed) ((((a.put (some tA) vA).put (some t1) v1).put (some tB) vB).put (some t2) v2) w') :
    wpAnyL Try.prog .any ops Q S late fuel listed a w := by
  obtain ⟨⟨n1, n2, n3, n4, n5, n6⟩, m1, m2, m3, m4, m5, m6⟩ := hne
  obtain ⟨⟨f1, f2, f3, f4⟩, g1, g2, g3, g4⟩ := hfr
  have nA : oA.dst = some tA := pA.2.1
  have at1 : ∀ xs, (putAll xs [(iA, some tA), (i1, some t1), (iB, some tB), (i2, some t2)] a).eval x1 = y := fun xs => by
    simp only [putAll]
    rw [Act.eval_put fun d hd e => f4 (by cases hd; exact e), Act.eval_put fun d hd e => f3 (by cases hd; exact e), Act.eval_put fun d hd e => f2 (by cases hd; exact e), Act.eval_put fun d hd e => f1 (by cases hd; exact e), hy]
  have atB : ∀ xs, (putAll xs [(iA, some tA), (i1, some t1), (iB, some tB), (i2, some t2)] a).eval xB = val := fun xs => by
    simp only [putAll]
    rw [Act.eval_put fun d hd e => g4 (by cases hd; exact e), Act.eval_put fun d hd e => g3 (by cases hd; exact e), Act.eval_put fun d hd e => g2 (by cases hd; exact e), Act.eval_put fun d hd e => g1 (by cases hd; exact e), hv]
  have nd2 : ((([(iA, some tA), (i1, some t1), (iB, some tB), (i2, some t2)] : List (Nat × Option Tmp)).map (·.2)).filter (·.isSome)).Nodup := (checkJ_spec hc).n2
  have ev : ∀ xs i t, (i, some t) ∈ [(iA, some tA), (i1, some t1), (iB, some tB), (i2, some t2)] → t < a.tmps.size → (putAll xs [(iA, some tA), (i1, some t1), (iB, some tB), (i2, some t2)] a).eval (.tmp t) = xs i := fun xs i t hm ht => by
    have := putAll_at xs t i _ a nd2 hm
    rw [if_pos ht] at this
    simp only [Act.eval, Array.getD_eq_getD_getElem?, this, Option.getD_some]
  refine wpAnyL_seg [(iA, some tA), (i1, some t1), (iB, some tB), (i2, some t2)] rest (App2J w.heap.size w E k m us vals iA i1 iB i2) hc (by simpa using hf) ?_ ?_ ?_
  · exact ⟨Below.refl _ _, fun h => (by cases h), fun h => (by cases h), fun h => (by cases h), fun h => (by cases h), fun h => (by cases h), fun h => (by cases h)⟩
  · refine AllJ.cons pA.1 ?_ (AllJ.cons p1.1 ?_ (AllJ.cons pB.1 ?_ (AllJ.cons p2.1 ?_ AllJ.nil)))
    · intro L x w' hL hd J K hK
      have hL1 : L i1 = false := by cases h : L i1 with | false => rfl | true => rw [J.l1 h] at hL; cases hL
      have hL2 : L i2 = false := by cases h : L i2 with | false => rfl | true => rw [(J.l2 h).1] at hL1; cases hL1
      have hsz' := J.bel.size
      refine step_mk pA.2.2.1 T 0 #[] pA.2.2.2 #[] (by simp) _ (mA w') (hK _ _ ?_)
      have hb : Below w.heap.size w (w'.alloc (.cells #[] E)) := J.bel.alloc hsz' _
      refine ⟨fun _ => hS _ hb, hb, fun _ => by simp [upd], fun h => ?_, fun _ _ => ?_, fun h => ?_, fun h h2 => ?_, fun h => ?_⟩
      · simp [upd, n3.symm, hL2] at h
      · simp only [upd, if_true]
        exact World.ownsRow_made w' #[] 0 hsz' (Nat.zero_le _) (by simp)
      · simp [upd, n1.symm, hL1] at h
      · have h' : L iB = true := by simpa [upd, n2.symm] using h
        obtain ⟨g, q1, q2, q3, q4, q5⟩ := J.rB h' hL2
        have e : upd x iA (.slice (some ⟨w'.heap.size, 0, none⟩) 0 0) iB = x iB := by simp [upd, n2.symm]
        rw [e]
        refine ⟨g, q1, by simp; omega, (q3.below (box_below w' _) (Nat.le_refl _)).mono (by simp), fun _ _ => ?_, fun h => ?_⟩
        · simp [upd, Value.ownBlock]; omega
        · simp [upd, n1.symm, hL1] at h
      · simp [upd, n3.symm, hL2] at h
    · intro L x w' hL hd J K hK
      have hLA : L iA = true := StepJ.dep hd iA (by rw [d1]; simp)
      have hL2 : L i2 = false := by cases h : L i2 with | false => rfl | true => rw [(J.l2 h).1] at hL; cases hL
      have hsz' := J.bel.size
      refine step_append_rw hT hE hz hk p1.2.2.1 (.tmp tA) x1 p1.2.2.2 w.heap.size (x iA) 0 [] (ev x iA tA (by simp) hsz.1) (J.rA hLA hL) w.heap.size m us y (at1 x) (hus.below J.bel (Nat.le_refl _)) hone (by omega) (by rw [Nat.zero_add]; exact Nat.le_trans (Nat.mul_le_mul_right _ (Nat.le_succ _)) hbytes) hsz' ?_
      intro v' w2 o2 gr at2
      rw [Nat.zero_add, List.nil_append] at o2
      have hb : Below w.heap.size w w2 := J.bel.grown gr hsz' (fun j hj => ((J.rA hLA hL).lt j hj).1)
      have hs2 := gr.size
      refine hK _ _ ⟨fun _ => hS _ hb, hb, fun _ => by simp [upd, n1, hLA], fun h => ?_, fun _ h => ?_, fun _ _ => ?_, fun h h2 => ?_, fun h => ?_⟩
      · simp [upd, n5.symm, hL2] at h
      · simp [upd] at h
      · simp only [upd, if_true]; exact o2
      · have h' : L iB = true := by simpa [upd, n4.symm] using h
        obtain ⟨g, q1, q2, q3, q4, q5⟩ := J.rB h' hL2
        have q4' := q4 hLA hL
        have e : upd x i1 v' iB = x iB := by simp [upd, n4.symm]
        rw [e]
        have kp : Keep (fun j => j = g) w' w2 := (Keep.refl _ _).grown gr (fun j hj => by omega) (fun j hj hk => q4' (by rw [hj, hk]))
        refine ⟨g, q1, by omega, Rw.keep q3 (fun b off sp n c e _ => by rw [q1] at e; simp only [Value.slice.injEq, Option.some.injEq, Addr.mk.injEq] at e; exact e.1.1.symm) kp hs2, fun _ h => ?_, fun _ => ?_⟩
        · simp [upd] at h
        · simp only [upd, if_true]
          rcases at2 with e | e
          · rw [e]; exact q4'
          · rw [e]; simp; omega
      · simp [upd, n5.symm, hL2] at h
    · intro L x w' hL hd J K hK
      have hL2 : L i2 = false := by cases h : L i2 with | false => rfl | true => rw [(J.l2 h).2] at hL; cases hL
      have hsz' := J.bel.size
      refine step_mk pB.2.2.1 T 1 #[(0, xB)] pB.2.2.2 #[(0, val)] (by simp [atB]) _ (mB w') (hK _ _ ?_)
      have hb : Below w.heap.size w (w'.alloc (.cells vals.toArray E)) := J.bel.alloc hsz' _
      refine ⟨fun _ => hS _ hb, hb, fun h => ?_, fun h => ?_, fun h h1 => ?_, fun h h2 => ?_, fun _ h2 => ?_, fun h => ?_⟩
      · have h' : L i1 = true := by simpa [upd, n4] using h
        simp [upd, n2, J.l1 h']
      · simp [upd, n6.symm, hL2] at h
      · have h' : L iA = true := by simpa [upd, n2] using h
        have h1' : L i1 = false := by simpa [upd, n4] using h1
        have e : upd x iB (.slice (some ⟨w'.heap.size, 0, none⟩) 1 1) iA = x iA := by simp [upd, n2]
        rw [e]
        exact own_new (J.rA h' h1') _
      · have h' : L i1 = true := by simpa [upd, n4] using h
        have e : upd x iB (.slice (some ⟨w'.heap.size, 0, none⟩) 1 1) i1 = x i1 := by simp [upd, n4]
        rw [e]
        exact own_new (J.r1 h' hL2) _
      · have e : upd x iB (.slice (some ⟨w'.heap.size, 0, none⟩) 1 1) iB = .slice (some ⟨w'.heap.size, 0, none⟩) 1 1 := by simp [upd]
        have eA : upd x iB (.slice (some ⟨w'.heap.size, 0, none⟩) 1 1) iA = x iA := by simp [upd, n2]
        have e1 : upd x iB (.slice (some ⟨w'.heap.size, 0, none⟩) 1 1) i1 = x i1 := by simp [upd, n4]
        rw [e, eA, e1]
        refine ⟨w'.heap.size, rfl, by simp, by simpa using Rw.oneN w' vals E k hvals, fun h h1 hx => ?_, fun h hx => ?_⟩
        · have h' : L iA = true := by simpa [upd, n2] using h
          have h1' : L i1 = false := by simpa [upd, n4] using h1
          have := ((J.rA h' h1').lt _ hx).2
          omega
        · have h' : L i1 = true := by simpa [upd, n4] using h
          have := ((J.r1 h' hL2).lt _ hx).2
          omega
      · simp [upd, n6.symm, hL2] at h
    · intro L x w' hL hd J K hK
      have hL1 : L i1 = true := StepJ.dep hd i1 (by rw [d2.1]; simp)
      have hLB : L iB = true := StepJ.dep hd iB (by rw [d2.2]; simp)
      have hsz' := J.bel.size
      obtain ⟨g, q1, q2, q3, q4, q5⟩ := J.rB hLB hL
      refine step_append_rw hT hE hz hk p2.2.2.1 (.tmp t1) (.tmp tB) p2.2.2.2 w.heap.size (x i1) m us (ev x i1 t1 (by simp) hsz.2.1) (J.r1 hL1 hL) w'.heap.size 1 vals (x iB) (ev x iB tB (by simp) hsz.2.2) q3 hvone hlen hbytes hsz' ?_
      intro v' w2 o2 gr at2
      have hb : Below w.heap.size w w2 := J.bel.grown gr hsz' (fun j hj => ((J.r1 hL1 hL).lt j hj).1)
      refine hK _ _ ⟨fun _ => hS _ hb, hb, fun h => ?_, fun _ => ?_, fun h h1 => ?_, fun h h2 => ?_, fun h h2 => ?_, fun _ => ?_⟩
      · have h' : L i1 = true := by simpa [upd, n5] using h
        simp [upd, n3, J.l1 h']
      · simp [upd, n5, n6, hL1, hLB]
      · simp [upd, n5, hL1] at h1
      · simp [upd] at h2
      · simp [upd] at h2
      · simp only [upd, if_true]; exact o2
  · intro xs w' L hL J
    exact hend _ _ _ _ w' (J.r2 (hL (i2, some t2) (by simp))) J.bel
end
end Go.Proofs.Ytnddejdndipddad
