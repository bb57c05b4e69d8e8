/- Maps from numbers to parts, as ScoreComes makes one. -/
import Derived.Test.YtnddejdndipddacSoCa
import Derived.Maps.OwnSet
import Derived.Maps.OwnOps
set_option maxRecDepth 20000
namespace Go.Proofs.Ytnddejdndipddac
open Go.RowKit
open Go.Maps (Keyed)

theorem law3s : Keyed Try.prog 3 := Maps.int_keyed Try.underlying3
/-- How a part in a map is read here: its state. -/
def snElem (v : Value) : Option (DataW Unit × List MemPlace) :=
  match v with
  | .agg cs => if cs.size = 20 ∧ cs.all (·.oneCell') = true then (match (cs.toList[2]? : Option Value) with | some (Value.int .i64 st) => some (.lit (.int .i64 st), []) | _ => none) else none
  | _ => none
theorem snElem_inv {v : Value} {st : Int} {ps : List MemPlace} (h : snElem v = some (.lit (.int .i64 st), ps)) : ∃ cs : List Value, v = .agg cs.toArray ∧ cs.length = 20 ∧ cs.all (·.oneCell') = true ∧ cs[2]? = some (.int .i64 st) := by
  unfold snElem at h
  split at h
  · next cs =>
    split at h
    · next hc =>
      split at h
      · next st' hg =>
        simp only [Option.some.injEq, Prod.mk.injEq] at h
        refine ⟨cs.toList, rfl, by simpa using hc.1, by rw [List.all_eq_true]; intro x hx; exact (Array.all_eq_true_iff_forall_mem.1 hc.2) x (by simpa using hx), ?_⟩
        have e : st' = st := by simpa using h.1
        subst e
        simpa using hg
      · simp at h
    · simp at h
  · simp at h
theorem snElem_of (x : Sn) {d s q : Value} (h1 : d.oneCell' = true) (h2 : s.oneCell' = true) (h3 : q.oneCell' = true) : snElem (.agg #[.int .i64 x.number, .int .i64 x.id, .int .i64 x.state, .int .i64 x.path, .int .i64 x.missed, .int .i64 x.times, .int .i64 x.came, .int .i64 x.life, .int .i64 x.tries, .int .i64 x.ck.kind, .int .i64 x.ck.tag, .int .i64 x.ck.stream, .int .i64 x.ck.mid, .int .i64 x.ck.part, .bool x.ck.last, .bool x.ck.ordered, d, s, .int .i64 x.ck.room, q]) = some (.lit (.int .i64 x.state), []) := by
  unfold snElem
  simp only
  rw [if_pos ⟨rfl, by simp only [Value.oneCell'] at h1 h2 h3; simp [Value.oneCell']; exact ⟨h1, h2, h3⟩⟩]
  rfl
theorem zeroSn (w : World) : (zeroValue 53).run Try.prog w = .ok (.agg #[.int .i64 0, .int .i64 0, .int .i64 0, .int .i64 0, .int .i64 0, .int .i64 0, .int .i64 0, .int .i64 0, .int .i64 0, .int .i64 0, .int .i64 0, .int .i64 0, .int .i64 0, .int .i64 0, .bool false, .bool false, .slice none 0 0, .slice none 0 0, .int .i64 0, .slice none 0 0]) w := by kernel_rfl
/-- The state of the last one of a number, else 0. -/
def stAt (xs : List Sn) (k : Int) : Int := xs.foldl (fun z x => if x.number = k then x.state else z) 0
theorem stAt_app (xs : List Sn) (x : Sn) (k : Int) : stAt (xs ++ [x]) k = if x.number = k then x.state else stAt xs k := by
  unfold stAt
  rw [List.foldl_append]
  rfl
/-- Block b is a map that has just these parts, by their numbers. -/
def MapS (w : World) (b n : Nat) (xs : List Sn) : Prop := ∃ D : DataW Unit, w.ownsMap Try.prog 3 snElem b n D ∧ ∀ k : Int, Maps.has D (.int .i64 k) = decide (k ∈ xs.map Sn.number) ∧ D.atKey (.int .i64 k) (.lit (.int .i64 0)) = .lit (.int .i64 (stAt xs k))
theorem MapS.made (w : World) : MapS (w.alloc (.map #[] 0)) w.heap.size 0 [] := ⟨.map [], World.ownsMap_made w _ _ _, fun k => ⟨by simp [Maps.has], by simp [DataW.atKey, stAt]⟩⟩
theorem MapS.kept {w w' : World} {b n : Nat} {xs : List Sn} (h : MapS w b n xs) (hb : w'.heap[b]? = w.heap[b]?) : MapS w' b n xs := by
  obtain ⟨D, ⟨es, clock, h1, h2⟩, h3⟩ := h
  exact ⟨D, ⟨es, clock, hb.trans h1, h2⟩, h3⟩
/-- A part is put in. -/
theorem wpList_putS {ops : Array Oper} {rest : List Oper} {o : Oper} {a : Act} {w : World} {Q : Exit → Act → World → Prop} (hgd : o.guard = none) (m y z : Operand) (ho : o.op = .mapUpdate 56 m y z)
    (b n : Nat) (xs : List Sn) (x : Sn) (d s q : Value) (hm : a.eval m = .map (some b)) (h : MapS w b n xs) (hn : n < maxLen) (hy : a.eval y = .int .i64 x.number) (hk : I64 x.number) (hz : a.eval z = .agg #[.int .i64 x.number, .int .i64 x.id, .int .i64 x.state, .int .i64 x.path, .int .i64 x.missed, .int .i64 x.times, .int .i64 x.came, .int .i64 x.life, .int .i64 x.tries, .int .i64 x.ck.kind, .int .i64 x.ck.tag, .int .i64 x.ck.stream, .int .i64 x.ck.mid, .int .i64 x.ck.part, .bool x.ck.last, .bool x.ck.ordered, d, s, .int .i64 x.ck.room, q]) (h1 : d.oneCell' = true) (h2 : s.oneCell' = true) (h3 : q.oneCell' = true)
    (hK : ∀ w', MapS w' b (n + 1) (xs ++ [x]) → w.grownBy w' (some b) → wpList Try.prog ops Q rest (a.put o.dst undef) w') : wpList Try.prog ops Q (o :: rest) a w := by
  obtain ⟨D, g1, g2⟩ := h
  refine wpList_mapUpdate_in w hgd m y z 56 ho 3 53 law3s Try.underlying56 snElem b n D hm g1 hn _ _ (.int .i64 x.number) hy hz (Maps.keyOf_int_mk Try.underlying3 (WalkArith.wf_i64 hk)) (.lit (.int .i64 x.state)) [] (snElem_of x h1 h2 h3) fun w' ow tu => hK w' ⟨_, ow, fun k => ?_⟩ tu.grown
  rw [stAt_app]
  by_cases e : k = x.number
  · subst e
    rw [Maps.has_put_same g1.isMap (show WideAt.IsKeyLit (.int .i64 x.number) from trivial), Maps.atKey_put_same g1.isMap (show WideAt.IsKeyLit (.int .i64 x.number) from trivial), if_pos rfl]
    simp
  · rw [Maps.has_put_other (by simpa using e), Maps.atKey_put_other (by simpa using e), (g2 k).1, (g2 k).2, if_neg (fun h => e h.symm)]
    simp [e]
/-- A number is looked up. -/
theorem wpList_lookS {ops : Array Oper} {rest : List Oper} {o : Oper} {a : Act} {w : World} {Q : Exit → Act → World → Prop} (hgd : o.guard = none) (m y : Operand) (ho : o.op = .lookup 56 m y true)
    (b n : Nat) (xs : List Sn) (hm : a.eval m = .map (some b)) (h : MapS w b n xs) (k : Int) (hk : I64 k) (hy : a.eval y = .int .i64 k)
    (hK : ∀ cs : List Value, cs.length = 20 → cs.all (·.oneCell') = true → cs[2]? = some (.int .i64 (stAt xs k)) → wpList Try.prog ops Q rest (a.put o.dst (.tuple #[.agg cs.toArray, .bool (decide (k ∈ xs.map Sn.number))])) w) : wpList Try.prog ops Q (o :: rest) a w := by
  obtain ⟨D, g1, g2⟩ := h
  refine wpList_lookup_own_ok w hgd m y 56 ho 3 53 law3s Try.underlying56 snElem (zeroSn w) (.lit (.int .i64 0)) [] (snElem_of ⟨0, 0, 0, 0, 0, 0, 0, 0, 0, Ck.zero⟩ rfl rfl rfl) b n D hm g1 _ (.int .i64 k) hy (Maps.keyOf_int_mk Try.underlying3 (WalkArith.wf_i64 hk)) fun v ps hv => ?_
  rw [(g2 k).2] at hv
  rw [(g2 k).1]
  obtain ⟨cs, rfl, e1, e2, e3⟩ := snElem_inv hv
  exact hK cs e1 e2 e3
theorem st_fold (k : Int) : ∀ (xs : List Sn) (z : Int), (∃ x ∈ xs, x.number = k ∧ xs.foldl (fun z x => if x.number = k then x.state else z) z = x.state) ∨ ((∀ x ∈ xs, x.number ≠ k) ∧ xs.foldl (fun z x => if x.number = k then x.state else z) z = z)
  | [], z => .inr ⟨fun x hx => by simp at hx, rfl⟩
  | x :: r, z => by
    rw [List.foldl_cons]
    rcases st_fold k r (if x.number = k then x.state else z) with ⟨y, hy, e1, e2⟩ | ⟨h1, h2⟩
    · exact .inl ⟨y, by simp [hy], e1, e2⟩
    · by_cases e : x.number = k
      · rw [if_pos e] at h2
        exact .inl ⟨x, by simp, e, by rw [if_pos e]; exact h2⟩
      · rw [if_neg e] at h2
        refine .inr ⟨fun y hy => ?_, by rw [if_neg e]; exact h2⟩
        rcases List.mem_cons.1 hy with rfl | hy
        · exact e
        · exact h1 y hy
/-- The state of what is there. -/
theorem stAt_mem {xs : List Sn} {k : Int} (h : k ∈ xs.map Sn.number) : ∃ x ∈ xs, x.number = k ∧ stAt xs k = x.state := by
  rcases st_fold k xs 0 with h' | ⟨h1, _⟩
  · exact h'
  · obtain ⟨x, hx, e⟩ := List.mem_map.1 h
    exact absurd e (h1 x hx)
end Go.Proofs.Ytnddejdndipddac
