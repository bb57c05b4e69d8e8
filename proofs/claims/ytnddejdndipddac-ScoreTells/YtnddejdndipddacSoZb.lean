/- Rows of parts that grow: the law of append; what is left, part by part. -/
import Derived.Test.YtnddejdndipddacSoZa
set_option maxRecDepth 20000
namespace Go.Proofs.Ytnddejdndipddac
open Go.RowKit

theorem left_take (n : Int) (sp : List Sp) (l : List Sn) (k : Nat) (hk : k < l.length) : leftM n ((l.take (k + 1)).map (arrM n sp)) = leftM n ((l.take k).map (arrM n sp)) ++ (if l[k].number ≤ n then [] else [arrM n sp l[k]]) := by
  unfold leftM
  rw [List.take_succ_eq_append_getElem hk, List.map_append, List.filter_append]
  congr 1
  simp only [List.map_cons, List.map_nil, List.filter_cons, List.filter_nil, arr_number]
  by_cases h : l[k].number ≤ n
  · simp [h]
  · simp [h]
theorem left_len (n : Int) (sp : List Sp) (l : List Sn) (k : Nat) : (leftM n ((l.take k).map (arrM n sp))).length ≤ l.length := by
  unfold leftM
  refine Nat.le_trans (List.length_filter_le _ _) ?_
  simp
  omega

/-- A row of one part, new. -/
theorem Rw.one20 (w : World) (x : Sn) (d s q : Value) : Rw 20 (w.heap.size + 1) (w.alloc (.cells #[.int .i64 x.number, .int .i64 x.id, .int .i64 x.state, .int .i64 x.path, .int .i64 x.missed, .int .i64 x.times, .int .i64 x.came, .int .i64 x.life, .int .i64 x.tries, .int .i64 x.ck.kind, .int .i64 x.ck.tag, .int .i64 x.ck.stream, .int .i64 x.ck.mid, .int .i64 x.ck.part, .bool x.ck.last, .bool x.ck.ordered, d, s, .int .i64 x.ck.room, q] 53)) (.slice (some ⟨w.heap.size, 0, none⟩) 1 1) 1 (snVal x d s q).cells.toList :=
  ⟨rfl, _, _, rfl, Nat.le_refl _, by decide, fun h => by simp at h, fun _ => ⟨w.heap.size, 0, rfl, Nat.lt_succ_self _, fun j u hu => by rw [Nat.zero_add]; exact (Cells.new w #[.int .i64 x.number, .int .i64 x.id, .int .i64 x.state, .int .i64 x.path, .int .i64 x.missed, .int .i64 x.times, .int .i64 x.came, .int .i64 x.life, .int .i64 x.tries, .int .i64 x.ck.kind, .int .i64 x.ck.tag, .int .i64 x.ck.stream, .int .i64 x.ck.mid, .int .i64 x.ck.part, .bool x.ck.last, .bool x.ck.ordered, d, s, .int .i64 x.ck.room, q] 53).cell j u hu⟩⟩

/-- A part is appended to a row of the call's own. -/
theorem wpList_appS {ops : Array Oper} {rest : List Oper} {o : Oper} {a : Act} {Q : Exit → Act → World → Prop} (hgd : o.guard = none) (s y : Operand)
    (ho : o.op = .call { callee := .builtin .append, args := #[s, y], argTypes := #[38, 38] })
    (w : World) (base B : Nat) (v : Value) (l : List Sn) (x : Sn) (d s' q : Value) (P : Nat) (hP : P = w.heap.size) (hs : a.eval s = v) (hy : a.eval y = .slice (some ⟨P, 0, none⟩) 1 1)
    (hG : SnGrow base B w v l) (hx : SnV B w (snVal x d s' q) x) (h1 : ((snVal x d s' q).cells.toList).all (·.oneCell') = true) (hB : B ≤ base) (hbase : base ≤ w.heap.size) (hlen : (l.length + 1) * 200 ≤ 140737488355328)
    (h : ∀ v' w', SnGrow base B w' v' (l ++ [x]) → Keep (fun k => k < w.heap.size ∧ v.ownBlock ≠ some k) w w' → Below base w w' → (v'.ownBlock = v.ownBlock ∨ v'.ownBlock = some (w.heap.size + 1)) → wpList Try.prog ops Q rest (a.put o.dst v') w') :
    wpList Try.prog ops Q (o :: rest) a (w.alloc (.cells #[.int .i64 x.number, .int .i64 x.id, .int .i64 x.state, .int .i64 x.path, .int .i64 x.missed, .int .i64 x.times, .int .i64 x.came, .int .i64 x.life, .int .i64 x.tries, .int .i64 x.ck.kind, .int .i64 x.ck.tag, .int .i64 x.ck.stream, .int .i64 x.ck.mid, .int .i64 x.ck.part, .bool x.ck.last, .bool x.ck.ordered, d, s', .int .i64 x.ck.room, q] 53)) := by
  subst hP
  obtain ⟨vs, hA, hO⟩ := hG
  have hO' : (w.alloc (.cells #[.int .i64 x.number, .int .i64 x.id, .int .i64 x.state, .int .i64 x.path, .int .i64 x.missed, .int .i64 x.times, .int .i64 x.came, .int .i64 x.life, .int .i64 x.tries, .int .i64 x.ck.kind, .int .i64 x.ck.tag, .int .i64 x.ck.stream, .int .i64 x.ck.mid, .int .i64 x.ck.part, .bool x.ck.last, .bool x.ck.ordered, d, s', .int .i64 x.ck.room, q] 53)).ownsRow base 53 20 v l.length (flatV vs) := own_of_block hO fun k hk => (box_below w _).block k (hO.lt k hk).2
  refine wpList_append_rw Try.underlying38 Try.infoSn rfl (by decide) _ hgd s y ho base v l.length (flatV vs) hs hO' (w.heap.size + 1) 1 _ _ hy (Rw.one20 w x d s' q) (List.all_eq_true.1 h1) (by unfold maxLen; omega) hlen (by simp; omega) ?_
  intro v' w' own g ha
  obtain ⟨g1, g2, g3, g4⟩ := SnGrow.app hB hbase hA hO hx own g ha
  exact h v' w' g1 g2 g3 g4
end Go.Proofs.Ytnddejdndipddac
