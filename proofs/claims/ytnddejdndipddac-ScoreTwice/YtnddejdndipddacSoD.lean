/- A row of parts of the call's own, place by place; score's small functions. -/
import Derived.Test.YtnddejdndipddacSoC
import Derived.Deep.MidRow
set_option maxRecDepth 20000
namespace Go.Proofs.Ytnddejdndipddac
open Go.RowKit

/-- A part's lists: they are these, and lie in blocks of S. -/
structure SnL (S : Nat → Prop) (w : World) (c : Ck) (vd vs vq : Value) : Prop where
  d : By w.heap.size w vd c.data
  s : Sl w.heap.size w vs c.spans
  q : Kl w.heap.size w vq c.skips
  id : InS S vd
  is : InS S vs
  iq : InS S vq
theorem SnL.keep {S : Nat → Prop} {w w' : World} {c : Ck} {d s q : Value} (h : SnL S w c d s q) (kp : Keep S w w') : SnL S w' c d s q :=
  ⟨⟨h.d.1.keep h.id kp kp.size, h.d.2⟩, Sl.of_rw (h.s.rw'.keep h.is kp kp.size) (by obtain ⟨_, _, _, _, _, _, h, _⟩ := h.s; exact h), Rw.keep h.q h.iq kp kp.size, h.id, h.is, h.iq⟩
theorem SnL.mono {S S' : Nat → Prop} {w : World} {c : Ck} {d s q : Value} (h : SnL S w c d s q) (hs : ∀ k, S k → S' k) : SnL S' w c d s q := ⟨h.d, h.s, h.q, h.id.mono hs, h.is.mono hs, h.iq.mono hs⟩
theorem Rw.ins {k B : Nat} {w : World} {v : Value} {n : Nat} {xs : List Value} (h : Rw k B w v n xs) : InS (fun j => j < B) v := by
  obtain ⟨hl, a, cap, rfl, h1, h2, h0, h4⟩ := h
  rintro b off sp m cap' e hn
  simp only [Value.slice.injEq] at e
  obtain ⟨rfl, rfl, rfl⟩ := e
  obtain ⟨b', off', e, hb, _⟩ := h4 hn
  simp only [Option.some.injEq, Addr.mk.injEq] at e
  obtain ⟨rfl, rfl, rfl⟩ := e
  exact hb
theorem SnL.of {B : Nat} {w : World} {c : Ck} {d s q : Value} (h1 : By B w d c.data) (h2 : Sl B w s c.spans) (h3 : Kl B w q c.skips) (hB : B ≤ w.heap.size) : SnL (fun j => j < B) w c d s q :=
  ⟨h1.mono hB, h2.mono hB, h3.mono hB, h1.1.ins, h2.rw'.ins, Rw.ins h3⟩
theorem SnL.own {base : Nat} {w : World} {c : Ck} {v : Value} (h : CkOwn base w v c) : ∃ d s q, v = ckVal c d s q ∧ SnL (fun k => base ≤ k ∧ k < w.heap.size) w c d s q := by
  obtain ⟨d, s, k, rfl, h1, h2, h3, h4, h5⟩ := h
  exact ⟨d, s, k, rfl, ⟨Rw.own h1 (by simp [cellsB]), h4⟩, Sl.of_rw (Rw.own h2 (flat_length _)) h5, Rw.own h3 (cellsK_length _), InS.own h1, InS.own h2, InS.own h3⟩
/-- Written out. -/
theorem SnL.ex {S : Nat → Prop} {w : World} {c : Ck} {d s q : Value} (h : SnL S w c d s q) : ∃ da dc sa sc qa qc, d = .slice da c.data.length dc ∧ s = .slice sa c.spans.length sc ∧ q = .slice qa c.skips.length qc := by
  obtain ⟨da, dc, rfl, -, -⟩ := h.d.ex
  obtain ⟨sa, sc, rfl⟩ := h.s.ex
  obtain ⟨qa, qc, rfl, -, -⟩ := h.q.ex
  exact ⟨da, dc, sa, sc, qa, qc, rfl, rfl, rfl⟩

/-- A row of parts in block g; nothing that is written to lies among U's blocks, but for g. -/
structure RowP (U : Nat → Prop) (g : Nat) (w : World) (l : List Sn) : Prop where
  lt : g < w.heap.size
  fz : ∀ j, w.frozen? ⟨g, j, none⟩ = false
  pt : ∀ (k : Nat) x, l[k]? = some x → ∃ d s q, SnAt w g (k * 20) x d s q ∧ SnL (fun b => b < w.heap.size ∧ b ≠ g ∧ U b) w x.ck d s q
theorem SnAt.eq {w w' : World} {b off : Nat} {x : Sn} {d s q : Value} (h : SnAt w b off x d s q) (hc : ∀ j, off ≤ j → j < off + 20 → w'.cell? ⟨b, j, none⟩ = w.cell? ⟨b, j, none⟩) : SnAt w' b off x d s q := by
  obtain ⟨h0, h1, h2, h3, h4, h5, h6, h7, h8, h9, h10, h11, h12, h13, h14, h15, h16, h17, h18, h19⟩ := h
  exact ⟨(hc _ (by omega) (by omega)).trans h0, (hc _ (by omega) (by omega)).trans h1, (hc _ (by omega) (by omega)).trans h2, (hc _ (by omega) (by omega)).trans h3, (hc _ (by omega) (by omega)).trans h4, (hc _ (by omega) (by omega)).trans h5, (hc _ (by omega) (by omega)).trans h6, (hc _ (by omega) (by omega)).trans h7, (hc _ (by omega) (by omega)).trans h8, (hc _ (by omega) (by omega)).trans h9, (hc _ (by omega) (by omega)).trans h10, (hc _ (by omega) (by omega)).trans h11, (hc _ (by omega) (by omega)).trans h12, (hc _ (by omega) (by omega)).trans h13, (hc _ (by omega) (by omega)).trans h14, (hc _ (by omega) (by omega)).trans h15, (hc _ (by omega) (by omega)).trans h16, (hc _ (by omega) (by omega)).trans h17, (hc _ (by omega) (by omega)).trans h18, (hc _ (by omega) (by omega)).trans h19⟩
/-- A call of a function with two operands, as a step of a region. -/
theorem step_call2 {ops : Array Oper} {o : Oper} {a : Act} {w : World} {K : Act → World → Prop} {Q : Exit → Act → World → Prop} {E : Prop} (hg : o.guard = none) (f : FuncId) (x y : Operand) (ts : Array TypeId)
    (hop : o.op = Op.call { callee := Callee.value (.func f), args := #[x, y], argTypes := ts }) (u u' : Value) (hu : a.eval x = u) (hu' : a.eval y = u') (hf : a.eval (.func f) = .func (.func f) #[] #[])
    (hent : ∀ (args : Array Value) (wx : World), (callFunc f args).run Try.prog wx = .ok (.enter f args) wx) (R : Value → World → Prop) (hc : Calls Try.prog f #[u, u'] w fun e w' => ∃ v, e = .returned v ∧ R v w')
    (hK : ∀ v w', R v w' → K (a.put o.dst v) w') : if Region.wanted o (yielded ops a.tmps) = true then Oper.wp Try.prog o a w K Q else E := by
  have hw : Region.wanted o (yielded ops a.tmps) = true := by simp [Region.wanted, hg]
  rw [if_pos hw]
  unfold Oper.wp
  simp [execOp, hop, resolve, invoke, hf, hu, hu', hent, Deferred.ofValue, Oper.upon]
  refine hc.mono ?_
  rintro e w' ⟨v, rfl, hr⟩
  exact hK v w' hr
/-- A call of a function with two operands, under a guard, as a step of a region. -/
theorem step_call2w {ops : Array Oper} {o : Oper} {a : Act} {w : World} {K : Act → World → Prop} {Q : Exit → Act → World → Prop} {E : Prop} (hw : Region.wanted o (yielded ops a.tmps) = true) (f : FuncId) (x y : Operand) (ts : Array TypeId)
    (hop : o.op = Op.call { callee := Callee.value (.func f), args := #[x, y], argTypes := ts }) (u u' : Value) (hu : a.eval x = u) (hu' : a.eval y = u') (hf : a.eval (.func f) = .func (.func f) #[] #[])
    (hent : ∀ (args : Array Value) (wx : World), (callFunc f args).run Try.prog wx = .ok (.enter f args) wx) (R : Value → World → Prop) (hc : Calls Try.prog f #[u, u'] w fun e w' => ∃ v, e = .returned v ∧ R v w')
    (hK : ∀ v w', R v w' → K (a.put o.dst v) w') : if Region.wanted o (yielded ops a.tmps) = true then Oper.wp Try.prog o a w K Q else E := by
  rw [if_pos hw]
  unfold Oper.wp
  simp [execOp, hop, resolve, invoke, hf, hu, hu', hent, Deferred.ofValue, Oper.upon]
  refine hc.mono ?_
  rintro e w' ⟨v, rfl, hr⟩
  exact hK v w' hr
/-- A load, a store, as steps of a region. -/
theorem step_ld {ops : Array Oper} {o : Oper} {a : Act} {w : World} {K : Act → World → Prop} {Q : Exit → Act → World → Prop} {E : Prop} (hw : Region.wanted o (yielded ops a.tmps) = true) (ty : TypeId) (x : Operand) (hop : o.op = .load ty x) (p : Value) (hx : a.eval x = p) (v : Value)
    (hr : (Instr.loadAt ty p).run Try.prog w = .ok v w) (hK : K (a.put o.dst v) w) : if Region.wanted o (yielded ops a.tmps) = true then Oper.wp Try.prog o a w K Q else E := by
  rw [if_pos hw]
  unfold Oper.wp
  simp only [execOp, hop, hx, hr, Sem.run_bind, Sem.run_pure, Result.andThen_ok]
  exact hK
theorem step_st {ops : Array Oper} {o : Oper} {a : Act} {w w' : World} {K : Act → World → Prop} {Q : Exit → Act → World → Prop} {E : Prop} (hw : Region.wanted o (yielded ops a.tmps) = true) (ty : TypeId) (x y : Operand) (hop : o.op = .store ty x y) (p v : Value) (hx : a.eval x = p) (hy : a.eval y = v)
    (hr : (Instr.storeAt ty p v).run Try.prog w = .ok () w') (hK : K (a.put o.dst undef) w') : if Region.wanted o (yielded ops a.tmps) = true then Oper.wp Try.prog o a w K Q else E := by
  rw [if_pos hw]
  unfold Oper.wp
  simp only [execOp, hop, hx, hy, hr, Sem.run_bind, Sem.run_pure, Result.andThen_ok]
  exact hK
theorem run_ld3 {w : World} {b j : Nat} {z : Int} (h : w.cell? ⟨b, j, none⟩ = some (.int .i64 z)) : (Instr.loadAt 3 (.pointer (some ⟨b, j, none⟩))).run Try.prog w = .ok (.int .i64 z) w := by
  go_simp
theorem run_st3 {w : World} {b j : Nat} {u : Value} (h : w.cell? ⟨b, j, none⟩ = some u) (hf : w.frozen? ⟨b, j, none⟩ = false) (z : Int) : (Instr.storeAt 3 (.pointer (some ⟨b, j, none⟩)) (.int .i64 z)).run Try.prog w = .ok () (w.setCell ⟨b, j, none⟩ (.int .i64 z)) := by
  go_simp
theorem Below.setCells {B : Nat} {a : World} {b : Nat} (hb : B ≤ b) : ∀ (cs : List Value) (o : Nat) {w : World}, Below B a w → Below B a (w.setCells b o cs)
  | [], _, _, h => h
  | v :: r, o, _, h => Below.setCells hb r (o + 1) (h.setCell (p := ⟨b, o, none⟩) hb v)
theorem size_setCells (b : Nat) : ∀ (cs : List Value) (o : Nat) (w : World), (w.setCells b o cs).heap.size = w.heap.size
  | [], _, _ => rfl
  | v :: r, o, w => by rw [World.setCells, size_setCells b r]; simp
theorem Keep.setCells {S : Nat → Prop} {a : World} {b : Nat} (hb : ¬ S b) : ∀ (cs : List Value) (o : Nat) {w : World}, Keep S a w → Keep S a (w.setCells b o cs)
  | [], _, _, h => h
  | v :: r, o, _, h => Keep.setCells hb r (o + 1) (h.setCell (p := ⟨b, o, none⟩) hb v)
/-- A chunk stored into a part. -/
theorem SnAt.chunk {w : World} {b off : Nat} {x : Sn} {d s q d' s' q' : Value} (h : SnAt w b off x d s q) : SnAt (w.setCells b (off + 9) [.int .i64 x.ck.kind, .int .i64 x.ck.tag, .int .i64 x.ck.stream, .int .i64 x.ck.mid, .int .i64 x.ck.part, .bool x.ck.last, .bool x.ck.ordered, d', s', .int .i64 x.ck.room, q']) b off x d' s' q' := by
  obtain ⟨h0, h1, h2, h3, h4, h5, h6, h7, h8, h9, h10, h11, h12, h13, h14, h15, h16, h17, h18, h19⟩ := h
  have hin := World.cell?_setCells_in b [.int .i64 x.ck.kind, .int .i64 x.ck.tag, .int .i64 x.ck.stream, .int .i64 x.ck.mid, .int .i64 x.ck.part, .bool x.ck.last, .bool x.ck.ordered, d', s', .int .i64 x.ck.room, q'] (off + 9) w (fun j hj => by
    match j, hj with
    | 0, _ => simp only [Nat.add_assoc, Nat.reduceAdd]; first | rw [h9]; rfl | simp [h9]
    | 1, _ => simp only [Nat.add_assoc, Nat.reduceAdd]; first | rw [h10]; rfl | simp [h10]
    | 2, _ => simp only [Nat.add_assoc, Nat.reduceAdd]; first | rw [h11]; rfl | simp [h11]
    | 3, _ => simp only [Nat.add_assoc, Nat.reduceAdd]; first | rw [h12]; rfl | simp [h12]
    | 4, _ => simp only [Nat.add_assoc, Nat.reduceAdd]; first | rw [h13]; rfl | simp [h13]
    | 5, _ => simp only [Nat.add_assoc, Nat.reduceAdd]; first | rw [h14]; rfl | simp [h14]
    | 6, _ => simp only [Nat.add_assoc, Nat.reduceAdd]; first | rw [h15]; rfl | simp [h15]
    | 7, _ => simp only [Nat.add_assoc, Nat.reduceAdd]; first | rw [h16]; rfl | simp [h16]
    | 8, _ => simp only [Nat.add_assoc, Nat.reduceAdd]; first | rw [h17]; rfl | simp [h17]
    | 9, _ => simp only [Nat.add_assoc, Nat.reduceAdd]; first | rw [h18]; rfl | simp [h18]
    | 10, _ => simp only [Nat.add_assoc, Nat.reduceAdd]; first | rw [h19]; rfl | simp [h19])
  exact ⟨(World.cell?_setCells_out b _ (off + 9) w ⟨b, _, none⟩ (fun _ _ => .inl (by dsimp only; omega))).trans h0, (World.cell?_setCells_out b _ (off + 9) w ⟨b, _, none⟩ (fun _ _ => .inl (by dsimp only; omega))).trans h1, (World.cell?_setCells_out b _ (off + 9) w ⟨b, _, none⟩ (fun _ _ => .inl (by dsimp only; omega))).trans h2, (World.cell?_setCells_out b _ (off + 9) w ⟨b, _, none⟩ (fun _ _ => .inl (by dsimp only; omega))).trans h3, (World.cell?_setCells_out b _ (off + 9) w ⟨b, _, none⟩ (fun _ _ => .inl (by dsimp only; omega))).trans h4, (World.cell?_setCells_out b _ (off + 9) w ⟨b, _, none⟩ (fun _ _ => .inl (by dsimp only; omega))).trans h5, (World.cell?_setCells_out b _ (off + 9) w ⟨b, _, none⟩ (fun _ _ => .inl (by dsimp only; omega))).trans h6, (World.cell?_setCells_out b _ (off + 9) w ⟨b, _, none⟩ (fun _ _ => .inl (by dsimp only; omega))).trans h7, (World.cell?_setCells_out b _ (off + 9) w ⟨b, _, none⟩ (fun _ _ => .inl (by dsimp only; omega))).trans h8, hin 0 (by simp), hin 1 (by simp), hin 2 (by simp), hin 3 (by simp), hin 4 (by simp), hin 5 (by simp), hin 6 (by simp), hin 7 (by simp), hin 8 (by simp), hin 9 (by simp), hin 10 (by simp)⟩
/-- A state stored into a part. -/
theorem SnAt.put {w w' : World} {b off : Nat} {x : Sn} {st : Int} {d s q : Value} (h : SnAt w b off x d s q) (hoth : ∀ j, j ≠ off + 2 → w'.cell? ⟨b, j, none⟩ = w.cell? ⟨b, j, none⟩) (hst : w'.cell? ⟨b, off + 2, none⟩ = some (.int .i64 st)) : SnAt w' b off (x.put st) d s q := by
  obtain ⟨h0, h1, h2, h3, h4, h5, h6, h7, h8, h9, h10, h11, h12, h13, h14, h15, h16, h17, h18, h19⟩ := h
  exact ⟨(hoth _ (by omega)).trans h0, (hoth _ (by omega)).trans h1, hst, (hoth _ (by omega)).trans h3, (hoth _ (by omega)).trans h4, (hoth _ (by omega)).trans h5, (hoth _ (by omega)).trans h6, (hoth _ (by omega)).trans h7, (hoth _ (by omega)).trans h8, (hoth _ (by omega)).trans h9, (hoth _ (by omega)).trans h10, (hoth _ (by omega)).trans h11, (hoth _ (by omega)).trans h12, (hoth _ (by omega)).trans h13, (hoth _ (by omega)).trans h14, (hoth _ (by omega)).trans h15, (hoth _ (by omega)).trans h16, (hoth _ (by omega)).trans h17, (hoth _ (by omega)).trans h18, (hoth _ (by omega)).trans h19⟩
theorem RowP.upd {U : Nat → Prop} {g : Nat} {w w' : World} {l : List Sn} (h : RowP U g w l) (k : Nat) {x' : Sn} {d s q : Value} (kp : Keep (fun b => b < w.heap.size ∧ b ≠ g ∧ U b) w w') (hfz : ∀ j, w'.frozen? ⟨g, j, none⟩ = false)
    (hoth : ∀ j, j < k * 20 ∨ k * 20 + 20 ≤ j → w'.cell? ⟨g, j, none⟩ = w.cell? ⟨g, j, none⟩) (hx : SnAt w' g (k * 20) x' d s q) (hl : SnL (fun b => b < w'.heap.size ∧ b ≠ g ∧ U b) w' x'.ck d s q) : RowP U g w' (l.set k x') := by
  refine ⟨Nat.lt_of_lt_of_le h.lt kp.size, hfz, fun i x hi => ?_⟩
  rw [List.getElem?_set] at hi
  by_cases e : k = i
  · subst e
    rw [if_pos rfl] at hi
    split at hi
    · simp only [Option.some.injEq] at hi
      subst hi
      exact ⟨d, s, q, hx, hl⟩
    · simp at hi
  · rw [if_neg e] at hi
    obtain ⟨d', s', q', h1, h2⟩ := h.pt i x hi
    refine ⟨d', s', q', h1.eq fun j g1 g2 => hoth j (by omega), (h2.keep kp).mono fun b hb => ⟨Nat.lt_of_lt_of_le hb.1 kp.size, hb.2⟩⟩
theorem RowP.keep {U : Nat → Prop} {g : Nat} {w w' : World} {l : List Sn} (h : RowP U g w l) (hg : U g) (kp : Keep (fun b => b < w.heap.size ∧ U b) w w') : RowP U g w' l := by
  refine ⟨Nat.lt_of_lt_of_le h.lt kp.size, fun j => (kp.frozen (p := ⟨g, j, none⟩) ⟨h.lt, hg⟩).trans (h.fz j), fun k x hx => ?_⟩
  obtain ⟨d, s, q, h1, h2⟩ := h.pt k x hx
  exact ⟨d, s, q, h1.keep kp ⟨h.lt, hg⟩, (h2.keep (kp.mono fun b hb => ⟨hb.1, hb.2.2⟩)).mono fun b hb => ⟨Nat.lt_of_lt_of_le hb.1 kp.size, hb.2⟩⟩
theorem RowP.mono {U U' : Nat → Prop} {g : Nat} {w : World} {l : List Sn} (h : RowP U g w l) (hu : ∀ k, k < w.heap.size → U k → U' k) : RowP U' g w l :=
  ⟨h.lt, h.fz, fun k x hx => by obtain ⟨d, s, q, h1, h2⟩ := h.pt k x hx; exact ⟨d, s, q, h1, h2.mono fun b hb => ⟨hb.1, hb.2.1, hu b hb.1 hb.2.2⟩⟩⟩
theorem RowP.take {U : Nat → Prop} {g : Nat} {w : World} {l : List Sn} (h : RowP U g w l) (n : Nat) : RowP U g w (l.take n) :=
  ⟨h.lt, h.fz, fun k x hx => h.pt k x (by rw [List.getElem?_take] at hx; split at hx <;> simp_all)⟩
theorem RowP.nil {U : Nat → Prop} {g : Nat} {w : World} (h : g < w.heap.size) (hf : ∀ j, w.frozen? ⟨g, j, none⟩ = false) : RowP U g w [] := ⟨h, hf, fun k x hx => by simp at hx⟩
/-- As it is read. -/
theorem RowP.s {U : Nat → Prop} {g n cap : Nat} {w : World} {l : List Sn} (h : RowP U g w l) (hn : n = l.length) (h1 : n ≤ cap) (h2 : cap ≤ 9223372036854775807) : SnS w.heap.size w (.slice (some ⟨g, 0, none⟩) n cap) l := by
  subst hn
  have each : ∀ i, i < l.length → ∃ v : Value, (∀ x, l[i]? = some x → SnV w.heap.size w v x) ∧ ∀ j u, j < 20 → v.cells.toList[j]? = some u → w.cell? ⟨g, i * 20 + j, none⟩ = some u := by
    intro i hi
    obtain ⟨d, s, q, e1, e2⟩ := h.pt i l[i] (by simp [hi])
    refine ⟨snVal l[i] d s q, fun x hx => ?_, fun j u hj hu => ?_⟩
    · rw [List.getElem?_eq_getElem hi] at hx
      simp only [Option.some.injEq] at hx
      subst hx
      exact ⟨d, s, q, rfl, e2.d, e2.s, e2.q⟩
    · obtain ⟨h0, h1, h2, h3, h4, h5, h6, h7, h8, h9, h10, h11, h12, h13, h14, h15, h16, h17, h18, h19⟩ := e1
      match j, hj, hu with
      | 0, _, hu => rw [← Option.some.inj hu]; exact h0
      | 1, _, hu => rw [← Option.some.inj hu]; exact h1
      | 2, _, hu => rw [← Option.some.inj hu]; exact h2
      | 3, _, hu => rw [← Option.some.inj hu]; exact h3
      | 4, _, hu => rw [← Option.some.inj hu]; exact h4
      | 5, _, hu => rw [← Option.some.inj hu]; exact h5
      | 6, _, hu => rw [← Option.some.inj hu]; exact h6
      | 7, _, hu => rw [← Option.some.inj hu]; exact h7
      | 8, _, hu => rw [← Option.some.inj hu]; exact h8
      | 9, _, hu => rw [← Option.some.inj hu]; exact h9
      | 10, _, hu => rw [← Option.some.inj hu]; exact h10
      | 11, _, hu => rw [← Option.some.inj hu]; exact h11
      | 12, _, hu => rw [← Option.some.inj hu]; exact h12
      | 13, _, hu => rw [← Option.some.inj hu]; exact h13
      | 14, _, hu => rw [← Option.some.inj hu]; exact h14
      | 15, _, hu => rw [← Option.some.inj hu]; exact h15
      | 16, _, hu => rw [← Option.some.inj hu]; exact h16
      | 17, _, hu => rw [← Option.some.inj hu]; exact h17
      | 18, _, hu => rw [← Option.some.inj hu]; exact h18
      | 19, _, hu => rw [← Option.some.inj hu]; exact h19
  obtain ⟨f, hf⟩ := Deep.choose_lt each
  have hA : All2 (SnV w.heap.size w) ((List.range l.length).map f) l := All2.of (by simp) fun k v x e e' => by
    have hk : k < l.length := (List.getElem?_eq_some_iff.1 e').1
    simp [hk] at e
    rw [← e]
    exact (hf k hk).1 x e'
  have hfl := All2.flat (SnV.bears.cells w.heap.size w) hA
  refine ⟨_, hA, hfl.1, some ⟨g, 0, none⟩, cap, rfl, h1, h2, fun h => by simp at h, fun _ => ⟨g, 0, rfl, h.lt, fun k u hu => ?_⟩⟩
  have hkl : k < l.length * 20 := by have := (List.getElem?_eq_some_iff.1 hu).1; rw [hfl.1] at this; exact this
  have hk : k / 20 < l.length := by omega
  have hg := hfl.2.1 (k / 20) (f (k / 20)) (k % 20) (by simp [hk]) (by omega)
  rw [show k / 20 * 20 + k % 20 = k by omega, hu] at hg
  have := (hf (k / 20) hk).2 (k % 20) u (by omega) hg.symm
  rw [Nat.zero_add]
  rwa [show k / 20 * 20 + k % 20 = k by omega] at this
/-- A row that was cloned. -/
theorem RowP.new {U : Nat → Prop} {B base : Nat} {w w' : World} {l : List Sn} {a : Option Addr} {c : Nat} {vs : List Value} (hA : All2 (SnV B w) vs l) (hB : B ≤ w.heap.size) (hU : ∀ k, k < B → U k) (hb : Below w.heap.size w w') (ho : w'.ownsRow w.heap.size base 20 (.slice a l.length c) l.length (flatV vs)) (hn : 0 < l.length) :
    ∃ g, a = some ⟨g, 0, none⟩ ∧ w.heap.size ≤ g ∧ RowP U g w' l ∧ l.length ≤ c ∧ c ≤ 9223372036854775807 := by
  have h' := ho
  rcases ho.2 with ⟨_, h0⟩ | ⟨g, cap, cur, e1, h3, h4, h5, h6, _⟩
  · omega
  · simp only [Value.slice.injEq] at e1
    obtain ⟨rfl, -, rfl⟩ := e1
    refine ⟨g, rfl, h3, ⟨(Array.getElem?_eq_some_iff.1 h4).1, fun j => by simp [World.frozen?, h4], fun k x hx => ?_⟩, h5, by unfold maxLen at h6; omega⟩
    have hfl := All2.flat (SnV.bears.cells B w) hA
    have hk := (List.getElem?_eq_some_iff.1 hx).1
    obtain ⟨v, hv, d, s, q, rfl, g1, g2, g3⟩ := hA.get k hk
    have hxe : l[k] = x := by rw [List.getElem?_eq_getElem hk] at hx; simpa using hx
    rw [hxe] at hv g1 g2 g3
    refine ⟨d, s, q, SnAt.of fun i u hi hu => ?_, ?_⟩
    · have e := (hfl.2.1 k _ i hv hi).trans hu
      have hj : k * 20 + i < (flatV vs).length := (List.getElem?_eq_some_iff.1 e).1
      exact (h'.cellAt _ (by rw [h'.1] at hj; exact hj)).trans e
    · have kp : Keep (fun j => j < B) w w' := ⟨hb.os, hb.tape, hb.output, hb.size, fun i hi => hb.block i (by omega)⟩
      exact ((SnL.of g1 g2 g3 hB).keep kp).mono fun b hb' => ⟨by have := hb.size; omega, by omega, hU b hb'⟩

set_option maxHeartbeats 400000 in
theorem waited_any (x : Sn) (da : Option Addr) (dn dc : Nat) (sa : Option Addr) (sn sc : Nat) (qa : Option Addr) (qn qc : Nat) (w : World) : Calls Try.prog 40 #[snVal x (.slice da dn dc) (.slice sa sn sc) (.slice qa qn qc)] w fun e w' => e = .returned (.bool (waitedM x)) ∧ Below w.heap.size w w' := by
  have HB := fun o => box_below w o
  obtain ⟨number, id, state, path, missed, times, came, life, tries, kind, tag, stream, mid, part, last, ordered, data, spans, room, skips⟩ := x
  simp only [snVal, waitedM]
  cases h : (state == 1) with
  | true =>
    go_enter Try.func40, Try.ntmps40
    go_wp2
    go_ret
    exact ⟨ret_bool (by simp), HB _⟩
  | false =>
    go_enter Try.func40, Try.ntmps40
    go_wp2
    go_ret
    exact ⟨ret_bool (by simp), HB _⟩

set_option maxHeartbeats 400000 in
theorem isOn_any (x : Sn) (da : Option Addr) (dn dc : Nat) (sa : Option Addr) (sn sc : Nat) (qa : Option Addr) (qn qc : Nat) (p : Int) (w : World) : Calls Try.prog 50 #[snVal x (.slice da dn dc) (.slice sa sn sc) (.slice qa qn qc), .int .i64 p] w fun e w' => e = .returned (.bool (onM p x)) ∧ Below w.heap.size w w' := by
  have HB := fun o => box_below w o
  obtain ⟨number, id, state, path, missed, times, came, life, tries, kind, tag, stream, mid, part, last, ordered, data, spans, room, skips⟩ := x
  simp only [snVal, onM]
  cases h : (state == 1) with
  | true =>
    go_enter Try.func50, Try.ntmps50
    go_wp2
    go_ret
    exact ⟨ret_bool (by simp), HB _⟩
  | false =>
    go_enter Try.func50, Try.ntmps50
    go_wp2
    go_ret
    exact ⟨ret_bool (by simp), HB _⟩

theorem enters_isOn (args : Array Value) (wx : World) : (callFunc 50 args).run Try.prog wx = .ok (.enter 50 args) wx := enters_body Try.func50 (by kernel_rfl) rfl args wx
set_option maxHeartbeats 400000 in
theorem last_any (v : Value) (l : List Sn) (cum : Int) (w : World) (hv : SnS w.heap.size w v l) : Calls Try.prog 38 #[v, .int .i64 cum] w fun e w' => e = .returned (.int .i64 (lastM l cum)) ∧ w' = w := by
  have HV := hv
  obtain ⟨a, cap, rfl, h1, h2⟩ := hv.ex
  by_cases h0 : l.length = 0
  · have e : l = [] := List.eq_nil_of_length_eq_zero h0
    subst e
    go_enter Try.func38, Try.ntmps38
    go_wp2
    go_ret
    exact ⟨rfl, rfl⟩
  · obtain ⟨b, off, da, dc, sa, sc, ka, kc, hb, hix, -, -, -, x0, -⟩ := SnS.at HV (l.length - 1) (by omega)
    have HE : Hid (lastM l cum = (l[l.length - 1]'(by omega)).number) := by
      show _ = _
      unfold lastM
      rw [List.getLast?_eq_getElem?, List.getElem?_eq_getElem (by omega)]
    have hix' : ∀ wx, (Instr.indexAt 38 (.slice a l.length cap) (.int .i64 ((l.length : Int) - 1))).run Try.prog wx = .ok (.pointer (some ⟨b, off, none⟩)) wx := by
      have : ((l.length - 1 : Nat) : Int) = (l.length : Int) - 1 := by omega
      rw [this] at hix
      exact hix
    generalize (l[l.length - 1]'(by omega)).number = z at *
    generalize l.length = n at *
    have g0 : ((n : Int) == 0) = false := by simp; omega
    clear hix HV
    go_enter Try.func38, Try.ntmps38
    go_wp2
    go_ret
    exact ⟨ret_int HE.out.symm, rfl⟩

set_option maxHeartbeats 400000 in
theorem noughts_any (n : Nat) (w : World) (hn : n ≤ 2147483647) :
    Calls Try.prog 36 #[.int .i64 (n : Int)] w fun e w' => e = .returned (.slice (some ⟨w.heap.size, 0, none⟩) n n) ∧ w' = w.alloc (.cells (madeCells #[.int .i64 0] n) 3) := by
  have HM := run_mkI n (by omega)
  have g1 : decide ((n : Int) < 0) = false := by simp
  go_enter Try.func36, Try.ntmps36
  go_wp2
  go_ret
  exact ⟨rfl, rfl⟩
end Go.Proofs.Ytnddejdndipddac
