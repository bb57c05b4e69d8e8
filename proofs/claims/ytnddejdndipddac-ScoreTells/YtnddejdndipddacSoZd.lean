/- Two rows of the call's own that grow in one loop: parts and numbers; parts and parts. -/
import Derived.Test.YtnddejdndipddacSoZb
set_option maxRecDepth 20000
namespace Go.Proofs.Ytnddejdndipddac
open Go.RowKit

/-- A row of one number, new. -/
theorem Rw.one1 (w : World) (z : Int) : Rw 1 (w.heap.size + 1) (w.alloc (.cells #[.int .i64 z] 3)) (.slice (some ⟨w.heap.size, 0, none⟩) 1 1) 1 [.int .i64 z] :=
  ⟨rfl, _, _, rfl, Nat.le_refl _, by decide, fun h => by simp at h, fun _ => ⟨w.heap.size, 0, rfl, Nat.lt_succ_self _, fun j u hu => by rw [Nat.zero_add]; exact (Cells.new w #[.int .i64 z] 3).cell j u hu⟩⟩
/-- A number is appended to a row of the call's own. -/
theorem wpList_appI {ops : Array Oper} {rest : List Oper} {o : Oper} {a : Act} {Q : Exit → Act → World → Prop} (hgd : o.guard = none) (s y : Operand)
    (ho : o.op = .call { callee := .builtin .append, args := #[s, y], argTypes := #[22, 22] })
    (w : World) (base : Nat) (v : Value) (zs : List Int) (z : Int) (P : Nat) (hP : P = w.heap.size) (hs : a.eval s = v) (hy : a.eval y = .slice (some ⟨P, 0, none⟩) 1 1)
    (hO : w.ownsRow base 3 1 v zs.length (cellsI zs)) (hbase : base ≤ w.heap.size) (hlen : (zs.length + 1) * 8 ≤ 140737488355328)
    (h : ∀ v' w', w'.ownsRow base 3 1 v' (zs ++ [z]).length (cellsI (zs ++ [z])) → Keep (fun k => k < w.heap.size ∧ v.ownBlock ≠ some k) w w' → Below base w w' → (v'.ownBlock = v.ownBlock ∨ v'.ownBlock = some (w.heap.size + 1)) → wpList Try.prog ops Q rest (a.put o.dst v') w') :
    wpList Try.prog ops Q (o :: rest) a (w.alloc (.cells #[.int .i64 z] 3)) := by
  subst hP
  have hO' : (w.alloc (.cells #[.int .i64 z] 3)).ownsRow base 3 1 v zs.length (cellsI zs) := own_of_block hO fun k hk => (box_below w _).block k (hO.lt k hk).2
  refine wpList_append_rw Try.underlying22 Try.info3 rfl (by decide) _ hgd s y ho base v zs.length (cellsI zs) hs hO' (w.heap.size + 1) 1 _ _ hy (Rw.one1 w z) (by simp [Value.oneCell']) (by unfold maxLen; omega) hlen (by simp; omega) ?_
  intro v' w' own g ha
  have hk : Keep (fun k => k < w.heap.size ∧ v.ownBlock ≠ some k) w w' := ((Keep.refl _ w).alloc (fun k h => h.1) _).grown g (fun k h => by have := h.1; simp; omega) (fun k hk h => h.2 hk)
  refine h v' w' ?_ hk (hk.below fun k h => ⟨by omega, fun e => by have := (hO.lt k e).1; omega⟩) (by simpa using ha)
  rw [cellsI_append, List.length_append]
  exact own

/-- Parts and numbers. -/
structure RowSI (base : Nat) (w : World) (g h : Value) (L : List Sn) (zs : List Int) : Prop where
  sg : SnGrow base base w g L
  oh : w.ownsRow base 3 1 h zs.length (cellsI zs)
  ne : ∀ k, g.ownBlock = some k → h.ownBlock ≠ some k
theorem RowSI.nil (base : Nat) (w : World) : RowSI base w (.slice none 0 0) (.slice none 0 0) [] [] := ⟨SnGrow.nil _ _ _, World.ownsRow_nil _ _ _ _, fun k h => by simp [Value.ownBlock] at h⟩
theorem SnGrow.lt {base B : Nat} {w : World} {g : Value} {L : List Sn} (h : SnGrow base B w g L) {k : Nat} (hk : g.ownBlock = some k) : base ≤ k ∧ k < w.heap.size := by
  obtain ⟨vs, h1, h2⟩ := h
  exact h2.lt k hk
theorem RowSI.below {base : Nat} {w w' : World} {g h : Value} {L : List Sn} {zs : List Int} (t : RowSI base w g h L zs) (hb : Below w.heap.size w w') (hs : base ≤ w.heap.size) : RowSI base w' g h L zs :=
  ⟨t.sg.below hb hs, own_of_block t.oh fun k hk => hb.block k (t.oh.lt k hk).2, t.ne⟩
/-- Parts have grown. -/
theorem RowSI.appS {base : Nat} {w w' : World} {g g' h : Value} {L L' : List Sn} {zs : List Int} (t : RowSI base w g h L zs) (sg : SnGrow base base w' g' L') (k : Keep (fun k => k < w.heap.size ∧ g.ownBlock ≠ some k) w w') (ha : g'.ownBlock = g.ownBlock ∨ g'.ownBlock = some (w.heap.size + 1)) : RowSI base w' g' h L' zs :=
  ⟨sg, own_of_block t.oh fun i hi => k.block i ⟨(t.oh.lt i hi).2, fun e => t.ne i e hi⟩, fun i hi e => by
    rcases ha with ha | ha
    · exact t.ne i (ha ▸ hi) e
    · rw [ha] at hi
      have := (t.oh.lt i e).2
      simp at hi
      omega⟩
/-- Numbers have grown. -/
theorem RowSI.appI {base : Nat} {w w' : World} {g h h' : Value} {L : List Sn} {zs zs' : List Int} (t : RowSI base w g h L zs) (hs : base ≤ w.heap.size) (oh : w'.ownsRow base 3 1 h' zs'.length (cellsI zs')) (k : Keep (fun k => k < w.heap.size ∧ h.ownBlock ≠ some k) w w') (ha : h'.ownBlock = h.ownBlock ∨ h'.ownBlock = some (w.heap.size + 1)) : RowSI base w' g h' L zs' :=
  ⟨t.sg.keep k (fun i hi => ⟨by omega, fun e => by have := (t.oh.lt i e).1; omega⟩) (fun i hi => ⟨(t.sg.lt hi).2, t.ne i hi⟩), oh, fun i hi e => by
    rcases ha with ha | ha
    · exact t.ne i hi (ha ▸ e)
    · rw [ha] at e
      have := (t.sg.lt hi).2
      simp at e
      omega⟩

/-- Parts and parts. -/
structure RowSS (base B : Nat) (w : World) (g h : Value) (L M : List Sn) : Prop where
  sg : SnGrow base B w g L
  sh : SnGrow base B w h M
  ne : ∀ k, g.ownBlock = some k → h.ownBlock ≠ some k
theorem RowSS.nil (base B : Nat) (w : World) : RowSS base B w (.slice none 0 0) (.slice none 0 0) [] [] := ⟨SnGrow.nil _ _ _, SnGrow.nil _ _ _, fun k h => by simp [Value.ownBlock] at h⟩
theorem RowSS.below {base B : Nat} {w w' : World} {g h : Value} {L M : List Sn} (t : RowSS base B w g h L M) (hb : Below w.heap.size w w') (hs : B ≤ w.heap.size) : RowSS base B w' g h L M := ⟨t.sg.below hb hs, t.sh.below hb hs, t.ne⟩
theorem RowSS.swap {base B : Nat} {w : World} {g h : Value} {L M : List Sn} (t : RowSS base B w g h L M) : RowSS base B w h g M L := ⟨t.sh, t.sg, fun k hk e => t.ne k e hk⟩
/-- The first row has grown. -/
theorem RowSS.app {base B : Nat} {w w' : World} {g g' h : Value} {L L' M : List Sn} (t : RowSS base B w g h L M) (hB : B ≤ base) (hs : base ≤ w.heap.size) (sg : SnGrow base B w' g' L') (k : Keep (fun k => k < w.heap.size ∧ g.ownBlock ≠ some k) w w') (ha : g'.ownBlock = g.ownBlock ∨ g'.ownBlock = some (w.heap.size + 1)) : RowSS base B w' g' h L' M :=
  ⟨sg, t.sh.keep k (fun i hi => ⟨by omega, fun e => by have := (t.sg.lt e).1; omega⟩) (fun i hi => ⟨(t.sh.lt hi).2, fun e => t.ne i e hi⟩), fun i hi e => by
    rcases ha with ha | ha
    · exact t.ne i (ha ▸ hi) e
    · rw [ha] at hi
      have := (t.sh.lt e).2
      simp at hi
      omega⟩

/-- What is missed, part by part. -/
theorem missed_take (hi : Int) (L : List Sn) (k : Nat) (hk : k < L.length) : (L.take (k + 1)).map (missM hi) = (L.take k).map (missM hi) ++ [missM hi L[k]] := by
  rw [List.take_succ_eq_append_getElem hk, List.map_append]
  rfl
theorem lost_take (hi : Int) (L : List Sn) (k : Nat) (hk : k < L.length) : lostM hi (L.take (k + 1)) = lostM hi (L.take k) ++ (if lostB hi L[k] = true then [L[k].number] else []) := by
  unfold lostM
  rw [List.take_succ_eq_append_getElem hk, List.filter_append, List.map_append]
  congr 1
  by_cases h : lostB hi L[k] = true
  · simp [h]
  · simp [h]
theorem lost_len (hi : Int) (L : List Sn) (k : Nat) : (lostM hi (L.take k)).length ≤ L.length := by
  unfold lostM
  rw [List.length_map]
  refine Nat.le_trans (List.length_filter_le _ _) ?_
  simp
  omega
end Go.Proofs.Ytnddejdndipddac
