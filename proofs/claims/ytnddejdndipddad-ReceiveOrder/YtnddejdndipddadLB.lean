/- A base: laws of slices, bytes, spans, skips, chunks as they are read, and of what came in; none of them names a function of the program. -/
import Derived.Test.YtnddejdndipddadRows
import Derived.WalkKit
import Derived.WalkSpells
import Derived.WalkLawsBesides
import Derived.Deep.RegionLawGrows
import Derived.Deep.QuietTactic
import Derived.BigQuiet
import Derived.ProofKit
import Derived.OpenShut
import Derived.SizedLaws
import Derived.Laws.BytesArg
import Derived.Maps.AppendAt
import Derived.Deep.RegionHeld3
import Derived.Deep.CutRange
import Derived.Laws.EntriesVeiled
import Derived.Laws.BitsAllLaws
import Derived.Lib.SlBytesConst
import Derived.Deep.SlicePairs
set_option maxRecDepth 20000
namespace Go.Proofs.Ytnddejdndipddad
open Go.RowKit

theorem ret_int {k : IntKind} {a b : Int} (h : a = b) : Ending.returned (.int k a) = .returned (.int k b) := by rw [h]
theorem ret_bool {a b : Bool} (h : a = b) : Ending.returned (.bool a) = .returned (.bool b) := by rw [h]

theorem tmod_cases (n : Int) : (0 ≤ n.tmod 65536 ∧ n.tmod 65536 = n % 65536) ∨ (n.tmod 65536 < 0 ∧ n.tmod 65536 = n % 65536 - 65536) := by
  rw [Int.tmod_eq_emod]
  split
  · left; omega
  · right; rw [show (65536 : Int).natAbs = 65536 from rfl]; omega

theorem tmod_bd (n : Int) : -65536 ≤ n.tmod 65536 ∧ n.tmod 65536 < 65536 := by
  have h := tmod_cases n
  generalize n.tmod 65536 = t at h ⊢
  omega

theorem tag_pos {n : Int} (h : 0 ≤ n.tmod 65536) : n.tmod 65536 = n % 65536 := by have := tmod_cases n; omega
theorem tag_neg {n : Int} (h : n.tmod 65536 < 0) : n.tmod 65536 + 65536 = n % 65536 := by have := tmod_cases n; omega

theorem rtag_eq (n : Int) : (n.tmod 65536 + 65536) % 65536 = n % 65536 := by
  have h := tmod_cases n
  omega

/-- The number that Near tells. -/
def nearM (near tag : Int) : Int := let a := (tag - near) % 65536; if 32768 < a then near + (a - 65536) else near + a

end Go.Proofs.Ytnddejdndipddad

namespace Go.Proofs.Ytnddejdndipddad
open Go.RowKit

/-- A span: its two numbers. -/
abbrev Sp := Int × Int

/-- The cells of spans, from an address on. -/
def SpAt (w : World) (b off : Nat) (l : List Sp) : Prop :=
  ∀ k s, l[k]? = some s → w.cell? ⟨b, off + k * 2, none⟩ = some (.int .i64 s.1) ∧ w.cell? ⟨b, off + k * 2 + 1, none⟩ = some (.int .i64 s.2)

end Go.Proofs.Ytnddejdndipddad

namespace Go.Proofs.Ytnddejdndipddad
open Go.RowKit

/-- A number that an int holds. -/
def I64 (n : Int) : Prop := -9223372036854775808 ≤ n ∧ n ≤ 9223372036854775807

/-- Numbers of spans that ints hold. -/
def Fit (l : List Sp) : Prop := ∀ s ∈ l, I64 s.1 ∧ I64 s.2

/-- A slice value that has these spans, below block B. -/
def Sl (B : Nat) (w : World) (v : Value) (l : List Sp) : Prop :=
  ∃ a cap, v = .slice a l.length cap ∧ l.length ≤ cap ∧ cap ≤ 9223372036854775807 ∧ (a = none → cap = 0) ∧ Fit l ∧ (l ≠ [] → ∃ b off, a = some ⟨b, off, none⟩ ∧ b < B ∧ SpAt w b off l)

theorem SpAt.below {w w' : World} {b off B : Nat} {l : List Sp} (h : SpAt w b off l) (hb : b < B) (hbel : Below B w w') : SpAt w' b off l := fun k s hs =>
  ⟨(hbel.cell (p := ⟨b, off + k * 2, none⟩) hb).trans (h k s hs).1, (hbel.cell (p := ⟨b, off + k * 2 + 1, none⟩) hb).trans (h k s hs).2⟩

theorem Sl.below {B B' : Nat} {w w' : World} {v : Value} {l : List Sp} (h : Sl B w v l) (hbel : Below B' w w') (hB : B ≤ B') : Sl B w' v l := by
  obtain ⟨a, cap, rfl, h1, h2, h0, h3, h4⟩ := h
  refine ⟨a, cap, rfl, h1, h2, h0, h3, fun hn => ?_⟩
  obtain ⟨b, off, rfl, hb, hat⟩ := h4 hn
  exact ⟨b, off, rfl, hb, hat.below (by omega) hbel⟩

theorem Sl.mono {B B' : Nat} {w : World} {v : Value} {l : List Sp} (h : Sl B w v l) (hB : B ≤ B') : Sl B' w v l := by
  obtain ⟨a, cap, rfl, h1, h2, h0, h3, h4⟩ := h
  refine ⟨a, cap, rfl, h1, h2, h0, h3, fun hn => ?_⟩
  obtain ⟨b, off, rfl, hb, hat⟩ := h4 hn
  exact ⟨b, off, rfl, by omega, hat⟩

theorem enters_body {f : FuncId} {fn : Func} {c : Code} (hf : Try.prog.funcs[f]? = some fn) (hname : (fn.name == "runtime.NumGoroutine") = false) (hb : fn.body = some c) (args : Array Value) (w : World) :
    (callFunc f args).run Try.prog w = .ok (.enter f args) w := by
  have h1 : fn.name ≠ "runtime.NumGoroutine" := by simpa using hname
  simp [callFunc, hf, h1, hb]

theorem new_cell {w : World} {B : Nat} {o : Obj} {v : Value} (h : w.cell? ⟨B, 0, none⟩ = some v) (hB : B < w.heap.size) : (w.alloc o).cell? ⟨B, 0, none⟩ = some v := by
  rw [World.cell?_alloc_past _ _ _ (by simpa using hB)]; exact h
theorem new_frozen {w : World} {B : Nat} {o : Obj} (h : w.frozen? ⟨B, 0, none⟩ = false) (hB : B < w.heap.size) : (w.alloc o).frozen? ⟨B, 0, none⟩ = false := by
  rw [World.frozen?_alloc_past _ _ _ (by simpa using hB)]; exact h

/-- Has asks: is the number in? -/
def soHas (n : Int) : Int → Sp → Bool × Int := fun c s => (decide (s.1 ≤ n ∧ n ≤ s.2), c)
def soAdd1 (n : Int) : Int → Sp → Bool × Int := fun c s => (!decide (s.2 + 1 < n), c)
def soAdd2 (n : Int) : Int → Sp → Bool × Int := fun c s => (decide (n + 1 < s.1), c)
def soUp : Int → Sp → Bool × Int := fun c s => if c + 1 < s.1 then (true, c) else (false, max c s.2)

theorem up_stored {w : World} {B : Nat} {v : Value} (h : w.cell? ⟨B, 0, none⟩ = some v) (hf : w.frozen? ⟨B, 0, none⟩ = false) (hB : B < w.heap.size) (m : Int) (o : Obj) :
    ((w.setCell ⟨B, 0, none⟩ (.int .i64 m)).alloc o).cell? ⟨B, 0, none⟩ = some (.int .i64 m) ∧ ((w.setCell ⟨B, 0, none⟩ (.int .i64 m)).alloc o).frozen? ⟨B, 0, none⟩ = false ∧ Below B w ((w.setCell ⟨B, 0, none⟩ (.int .i64 m)).alloc o) := by
  have hs : B < (w.setCell ⟨B, 0, none⟩ (.int .i64 m)).heap.size := by simpa [World.setCell] using hB
  refine ⟨new_cell ?_ hs, new_frozen ?_ hs, ?_⟩
  · exact World.cell?_setCell_same' _ _ _ (by rw [h]; rfl)
  · simp [hf]
  · have hb : Below B w (w.setCell ⟨B, 0, none⟩ (.int .i64 m)) := (Below.refl B w).setCell (p := ⟨B, 0, none⟩) (Nat.le_refl _) _
    exact hb.alloc (Nat.le_of_lt hs) _

end Go.Proofs.Ytnddejdndipddad

namespace Go.Proofs.Ytnddejdndipddad
open Go.RowKit

theorem box_cell (w : World) (v : Value) (t : TypeId) : (w.alloc (.cells #[v] t)).cell? ⟨w.heap.size, 0, none⟩ = some v := by
  rw [World.cell?_alloc_at _ _ _ _ rfl]; rfl
theorem box_frozen (w : World) (v : Value) (t : TypeId) : (w.alloc (.cells #[v] t)).frozen? ⟨w.heap.size, 0, none⟩ = false := World.frozen?_alloc_at _ _ _ _ rfl
theorem box_below (w : World) (o : Obj) : Below w.heap.size w (w.alloc o) := (Below.refl _ _).alloc (Nat.le_refl _) _

end Go.Proofs.Ytnddejdndipddad

namespace Go.Proofs.Ytnddejdndipddad
open Go.RowKit

/-- The cells of spans, in a row. -/
def flat (l : List Sp) : List Value := l.flatMap fun s => [.int .i64 s.1, .int .i64 s.2]

theorem flat_nil : flat [] = [] := rfl
theorem flat_cons (s : Sp) (l : List Sp) : flat (s :: l) = .int .i64 s.1 :: .int .i64 s.2 :: flat l := rfl
theorem flat_append (l m : List Sp) : flat (l ++ m) = flat l ++ flat m := by simp [flat]
theorem flat_length (l : List Sp) : (flat l).length = l.length * 2 := by
  induction l with
  | nil => rfl
  | cons s r ih => simp [flat_cons, ih]; omega
theorem flat_one (l : List Sp) : ∀ u ∈ flat l, u.oneCell' = true := by
  intro u hu
  simp only [flat, List.mem_flatMap] at hu
  obtain ⟨s, _, hs⟩ := hu
  simp at hs
  rcases hs with rfl | rfl <;> rfl
theorem flat_get (l : List Sp) (k : Nat) (s : Sp) (h : l[k]? = some s) : (flat l)[k * 2]? = some (.int .i64 s.1) ∧ (flat l)[k * 2 + 1]? = some (.int .i64 s.2) := by
  induction l generalizing k with
  | nil => simp at h
  | cons x r ih =>
    cases k with
    | zero => simp at h; subst h; simp [flat_cons]
    | succ k =>
      simp at h
      have := ih k h
      rw [show (k + 1) * 2 = k * 2 + 1 + 1 by omega]
      simpa [flat_cons] using this

theorem add_plain (b off j : Nat) : (⟨b, off, none⟩ : Addr).add j = ⟨b, off + j, none⟩ := by
  unfold Addr.add
  split
  · simp_all
  · rfl

theorem SpAt.flat {w : World} {b off : Nat} {l : List Sp} (h : SpAt w b off l) : ∀ j u, (flat l)[j]? = some u → w.cell? ((⟨b, off, none⟩ : Addr).add j) = some u := by
  intro j u hu
  have hj : j < l.length * 2 := by rw [← flat_length]; exact (List.getElem?_eq_some_iff.1 hu).1
  have hk : l[j / 2]? = some l[j / 2] := by simp
  have h1 := h (j / 2) _ hk
  have h2 := flat_get l (j / 2) _ hk
  rw [add_plain]
  rcases Nat.mod_two_eq_zero_or_one j with e | e
  · rw [show j / 2 * 2 = j by omega] at h1 h2
    rw [h2.1] at hu
    simp only [Option.some.injEq] at hu
    rw [← hu]; exact h1.1
  · rw [Nat.add_assoc, show j / 2 * 2 + 1 = j by omega] at h1
    rw [show j / 2 * 2 + 1 = j by omega] at h2
    rw [h2.2] at hu
    simp only [Option.some.injEq] at hu
    rw [← hu]; exact h1.2

theorem Fit.take {l : List Sp} (h : Fit l) (k : Nat) : Fit (l.take k) := fun s hs => h s (List.mem_of_mem_take hs)
theorem Fit.drop {l : List Sp} (h : Fit l) (k : Nat) : Fit (l.drop k) := fun s hs => h s (List.mem_of_mem_drop hs)
theorem Fit.append {l m : List Sp} (h : Fit l) (h' : Fit m) : Fit (l ++ m) := fun s hs => (List.mem_append.1 hs).elim (h s) (h' s)

theorem SpAt.piece {w : World} {b off : Nat} {l : List Sp} (h : SpAt w b off l) (lo hi : Nat) : SpAt w b (off + lo * 2) ((l.take hi).drop lo) := by
  intro k s hs
  rw [List.getElem?_drop] at hs
  have hs' := (List.getElem?_eq_some_iff.1 hs)
  have : l[lo + k]? = some s := by
    rw [List.getElem?_take] at hs
    split at hs
    · exact hs
    · cases hs
  have := h (lo + k) s this
  rw [show off + (lo + k) * 2 = off + lo * 2 + k * 2 by omega] at this
  exact this

/-- A piece of a slice. -/
theorem Sl.piece {B : Nat} {w : World} {a : Option Addr} {cap : Nat} {l : List Sp} (h : Sl B w (.slice a l.length cap) l) (lo hi : Nat) (h1 : lo ≤ hi) (h2 : hi ≤ l.length) : Sl B w (sliced a lo hi cap 2) ((l.take hi).drop lo) := by
  obtain ⟨a', cap', he, g1, g2, g0, g3, g4⟩ := h
  simp only [Value.slice.injEq] at he
  obtain ⟨rfl, -, rfl⟩ := he
  have hlen : ((l.take hi).drop lo).length = hi - lo := by simp; omega
  refine ⟨if cap = lo then a else a.map (·.add (lo * 2)), cap - lo, ?_, by omega, by omega, ?_, (g3.take _).drop _, fun hn => ?_⟩
  · rw [hlen]; rfl
  · intro hh
    split at hh
    · have := g0 hh; omega
    · simp at hh; have := g0 hh; omega
  · have hl : l ≠ [] := by rintro rfl; simp at hn
    obtain ⟨b, off, rfl, hb, hat⟩ := g4 hl
    have : lo < hi := by
      rcases Nat.lt_or_ge lo hi with h | h
      · exact h
      · exact absurd (List.eq_nil_of_length_eq_zero (by omega)) hn
    refine ⟨b, off + lo * 2, ?_, hb, hat.piece lo hi⟩
    rw [if_neg (by omega)]
    simp [add_plain]

theorem Try.info75 : (Try.prog.info? 75).map (fun i => (i.zero, i.size, i.bytes)) = some (some (.agg #[.int .i64 0, .int .i64 0]), 2, 16) := by kernel_rfl

/-- What append makes of a row of the call's own and a slice. -/
theorem run_append_sp (w : World) (base : Nat) (ty : TypeId) (v : Value) (n : Nat) (xs : List Value) (hown : w.ownsRow base 75 2 v n xs) (x : Value) (B : Nat) (l : List Sp) (hx : Sl B w x l)
    (hbytes : (n + l.length) * 16 ≤ 140737488355328) (hbase : base ≤ w.heap.size) :
    ∃ v' w', (Builtin.append_ #[39, 39] ty #[v, x]).run Try.prog w = .ok v' w' ∧ w'.ownsRow base 75 2 v' (n + l.length) (xs ++ flat l) ∧ w.grownBy w' v.ownBlock := by
  obtain ⟨i0, hi, hz0, hz1, hz2⟩ := info_parts Try.info75
  obtain ⟨a, cap, rfl, g1, g2, g0, g3, g4⟩ := hx
  have h63 : n + l.length ≤ maxLen := by unfold maxLen; omega
  cases a with
  | none =>
    have hc := g0 rfl
    subst hc
    have hl : l = [] := List.eq_nil_of_length_eq_zero (by omega)
    subst hl
    refine ⟨v, w, run_append_owned_none w base 39 ty 75 i0 2 Try.underlying39 hi v n xs hown, by simpa [flat_nil] using hown, ⟨rfl, rfl, rfl, Nat.le_refl _, fun _ _ _ => rfl⟩⟩
  | some ad =>
    have hc : ∀ j u, (flat l)[j]? = some u → w.cell? (ad.add j) = some u := by
      by_cases hl : l = []
      · subst hl; simp [flat_nil]
      · obtain ⟨b, off, he, hb, hat⟩ := g4 hl
        simp only [Option.some.injEq] at he
        subst he
        exact hat.flat
    obtain ⟨v', w', r1, r2, r3, _⟩ := run_append_own (P := Try.prog) w base 39 ty 75 i0 (.agg #[.int .i64 0, .int .i64 0]) 2 16 Try.underlying39 hi hz0 hz1 hz2 rfl (by decide) v n xs hown ad l.length cap (flat l) (flat_length l) hc (flat_one l) h63 hbytes hbase
    exact ⟨v', w', r1, r2, r3⟩

theorem wpList_append_sp (w : World) {ops : Array Oper} {rest : List Oper} {o : Oper} {a : Act} {Q : Exit → Act → World → Prop} (hgd : o.guard = none) (s x : Operand)
    (ho : o.op = .call { callee := .builtin .append, args := #[s, x], argTypes := #[39, 39] })
    (base : Nat) (v : Value) (n : Nat) (xs : List Value) (hs : a.eval s = v) (hown : w.ownsRow base 75 2 v n xs) (B : Nat) (l : List Sp) (y : Value) (hy : a.eval x = y) (hx : Sl B w y l)
    (hbytes : (n + l.length) * 16 ≤ 140737488355328) (hbase : base ≤ w.heap.size)
    (h : ∀ v' w', w'.ownsRow base 75 2 v' (n + l.length) (xs ++ flat l) → w.grownBy w' v.ownBlock → wpList Try.prog ops Q rest (a.put o.dst v') w') : wpList Try.prog ops Q (o :: rest) a w :=
  wpList_plain hgd fun _ hK => by
    obtain ⟨v', w', hr, h2, h3⟩ := run_append_sp w base o.type v n xs hown y B l hx hbytes hbase
    unfold Oper.wp execOp
    simp only [ho, resolve, invoke, builtin, Sem.run_bind, Sem.run_pure, Result.andThen_ok, List.map_toArray, List.map_cons, List.map_nil, hs, hy, hr]
    exact hK _ _ (h v' w' h2 h3)

/-- There is room: nothing is laid anew. -/
theorem run_append_fit (w : World) (base : Nat) (ty : TypeId) (g n c : Nat) (xs : List Value) (hown : w.ownsRow base 75 2 (.slice (some ⟨g, 0, none⟩) n c) n xs) (x : Value) (B : Nat) (l : List Sp) (hx : Sl B w x l) (hroom : n + l.length ≤ c) :
    ∃ w', (Builtin.append_ #[39, 39] ty #[.slice (some ⟨g, 0, none⟩) n c, x]).run Try.prog w = .ok (.slice (some ⟨g, 0, none⟩) (n + l.length) c) w' ∧ w'.ownsRow base 75 2 (.slice (some ⟨g, 0, none⟩) (n + l.length) c) (n + l.length) (xs ++ flat l) ∧ w.grownBy w' (some g) := by
  obtain ⟨i0, hi, hz0, hz1, hz2⟩ := info_parts Try.info75
  obtain ⟨a, cap, rfl, g1, g2, g0, g3, g4⟩ := hx
  cases a with
  | none =>
    have hc := g0 rfl
    subst hc
    have hl : l = [] := List.eq_nil_of_length_eq_zero (by omega)
    subst hl
    exact ⟨w, run_append_owned_none w base 39 ty 75 i0 2 Try.underlying39 hi _ n xs hown, by simpa [flat_nil] using hown, ⟨rfl, rfl, rfl, Nat.le_refl _, fun _ _ _ => rfl⟩⟩
  | some ad =>
    have hc : ∀ j u, (flat l)[j]? = some u → w.cell? (ad.add j) = some u := by
      by_cases hl : l = []
      · subst hl; simp [flat_nil]
      · obtain ⟨b, off, he, hb, hat⟩ := g4 hl
        simp only [Option.some.injEq] at he
        subst he
        exact hat.flat
    exact run_append_fits (P := Try.prog) w base 39 ty 75 i0 2 Try.underlying39 hi hz1 g n c xs hown ad l.length cap (flat l) (flat_length l) hc (flat_one l) hroom

theorem wpList_append_fit (w : World) {ops : Array Oper} {rest : List Oper} {o : Oper} {a : Act} {Q : Exit → Act → World → Prop} (hgd : o.guard = none) (s x : Operand)
    (ho : o.op = .call { callee := .builtin .append, args := #[s, x], argTypes := #[39, 39] })
    (base g n c : Nat) (xs : List Value) (hs : a.eval s = .slice (some ⟨g, 0, none⟩) n c) (hown : w.ownsRow base 75 2 (.slice (some ⟨g, 0, none⟩) n c) n xs) (B : Nat) (l : List Sp) (y : Value) (hy : a.eval x = y) (hx : Sl B w y l)
    (hroom : n + l.length ≤ c)
    (h : ∀ w', w'.ownsRow base 75 2 (.slice (some ⟨g, 0, none⟩) (n + l.length) c) (n + l.length) (xs ++ flat l) → w.grownBy w' (some g) → wpList Try.prog ops Q rest (a.put o.dst (.slice (some ⟨g, 0, none⟩) (n + l.length) c)) w') : wpList Try.prog ops Q (o :: rest) a w :=
  wpList_plain hgd fun _ hK => by
    obtain ⟨w', hr, h2, h3⟩ := run_append_fit w base o.type g n c xs hown y B l hx hroom
    unfold Oper.wp execOp
    simp only [ho, resolve, invoke, builtin, Sem.run_bind, Sem.run_pure, Result.andThen_ok, List.map_toArray, List.map_cons, List.map_nil, hs, hy, hr]
    exact hK _ _ (h w' h2 h3)

theorem step_append_sp {ops : Array Oper} {o : Oper} {a : Act} {w : World} {K : Act → World → Prop} {Q : Exit → Act → World → Prop} {E : Prop}
    (hg : o.guard = none) (s x : Operand) (hop : o.op = Op.call { callee := Callee.builtin Builtin.append, args := #[s, x], argTypes := #[39, 39] })
    (base : Nat) (v : Value) (n : Nat) (xs : List Value) (hs : a.eval s = v) (hown : w.ownsRow base 75 2 v n xs) (B : Nat) (l : List Sp) (y : Value) (hy : a.eval x = y) (hx : Sl B w y l)
    (hbytes : (n + l.length) * 16 ≤ 140737488355328) (hbase : base ≤ w.heap.size)
    (hK : ∀ v' w', w'.ownsRow base 75 2 v' (n + l.length) (xs ++ flat l) → w.grownBy w' v.ownBlock → K (a.put o.dst v') w') :
    if Region.wanted o (yielded ops a.tmps) = true then Oper.wp Try.prog o a w K Q else E := by
  have hw : Region.wanted o (yielded ops a.tmps) = true := by simp [Region.wanted, hg]
  rw [if_pos hw]
  obtain ⟨v', w', hr, h2, h3⟩ := run_append_sp w base o.type v n xs hown y B l hx hbytes hbase
  unfold Oper.wp
  simp [execOp, hop, resolve, invoke, builtin, hs, hy, hr, Result.andThen]
  exact hK v' w' h2 h3

/-- A row of the call's own is a slice of spans. -/
theorem Sl.own {w : World} {base : Nat} {v : Value} {l : List Sp} (h : w.ownsRow base 75 2 v l.length (flat l)) (hf : Fit l) : Sl w.heap.size w v l := by
  rcases h.2 with ⟨rfl, hn⟩ | ⟨g, cap, cur, rfl, hb, hg, hnc, hcm, hcs, htake⟩
  · have hl : l = [] := List.eq_nil_of_length_eq_zero hn
    subst hl
    exact ⟨none, 0, rfl, by simp, by simp, fun _ => rfl, hf, fun h => absurd rfl h⟩
  · refine ⟨some ⟨g, 0, none⟩, cap, rfl, hnc, by unfold maxLen at hcm; omega, fun h => by simp at h, hf, fun _ => ⟨g, 0, rfl, (Array.getElem?_eq_some_iff.1 hg).1, fun k s hs => ?_⟩⟩
    have hk : k < l.length := (List.getElem?_eq_some_iff.1 hs).1
    have h2 := flat_get l k s hs
    rw [Nat.zero_add]
    exact ⟨(h.cellAt (k * 2) (by omega)).trans h2.1, (h.cellAt (k * 2 + 1) (by omega)).trans h2.2⟩

end Go.Proofs.Ytnddejdndipddad

namespace Go.Proofs.Ytnddejdndipddad
open Go.RowKit

/-- Where a piece of a slice begins. -/
def reA (a : Option Addr) (cap lo : Nat) : Option Addr := if cap = lo then a else a.map (·.add (lo * 2))

/-- A place in a slice of spans. -/
theorem Sl.at {B : Nat} {w : World} {a : Option Addr} {n cap : Nat} {l : List Sp} (h : Sl B w (.slice a n cap) l) (k : Nat) (hk : k < l.length) :
    ∃ b off, b < B ∧ (∀ wx, (Instr.indexAt 39 (.slice a n cap) (.int .i64 (k : Int))).run Try.prog wx = .ok (.pointer (some ⟨b, off, none⟩)) wx) ∧
      w.cell? ⟨b, off, none⟩ = some (.int .i64 l[k].1) ∧ w.cell? ⟨b, off + 1, none⟩ = some (.int .i64 l[k].2) := by
  obtain ⟨a', cap', he, g1, g2, g0, g3, g4⟩ := h
  simp only [Value.slice.injEq] at he
  obtain ⟨rfl, rfl, rfl⟩ := he
  obtain ⟨b, off, rfl, hb, hat⟩ := g4 (by rintro rfl; simp at hk)
  refine ⟨b, off + k * 2, hb, fun wx => ?_, hat k l[k] (by simp)⟩
  have : (k : Int) < l.length := by omega
  go_simp

/-- A piece of a slice, as the walk writes it. -/
theorem Sl.re {B : Nat} {w : World} {a : Option Addr} {n cap : Nat} {l : List Sp} (h : Sl B w (.slice a n cap) l) (lo d : Nat) (h2 : lo + d ≤ l.length) : Sl B w (.slice (reA a cap lo) d (cap - lo)) ((l.drop lo).take d) := by
  obtain ⟨a', cap', he, g⟩ := h
  simp only [Value.slice.injEq] at he
  obtain ⟨rfl, rfl, rfl⟩ := he
  have := Sl.piece ⟨a, cap, rfl, g⟩ lo (lo + d) (by omega) h2
  rw [List.drop_take, show lo + d - lo = d by omega] at this
  simp only [sliced, show lo + d - lo = d by omega] at this
  exact this
theorem Sl.re_end {B : Nat} {w : World} {a : Option Addr} {n cap : Nat} {l : List Sp} (h : Sl B w (.slice a n cap) l) (lo : Nat) (h2 : lo ≤ l.length) : Sl B w (.slice (reA a cap lo) (l.length - lo) (cap - lo)) (l.drop lo) := by
  have := h.re lo (l.length - lo) (by omega)
  rwa [List.take_of_length_le (by simp)] at this
theorem Sl.head {B : Nat} {w : World} {a : Option Addr} {n cap : Nat} {l : List Sp} (h : Sl B w (.slice a n cap) l) (d : Nat) (h2 : d ≤ l.length) : Sl B w (.slice a d cap) (l.take d) := by
  have := h.re 0 d (by omega)
  rw [List.drop_zero, Nat.sub_zero] at this
  have e : reA a cap 0 = a := by simp [reA, Addr.add]
  rwa [e] at this
theorem Sl.len {B : Nat} {w : World} {a : Option Addr} {n cap : Nat} {l : List Sp} (h : Sl B w (.slice a n cap) l) : n = l.length ∧ n ≤ cap ∧ cap ≤ 9223372036854775807 ∧ Fit l := by
  obtain ⟨a', cap', he, g1, g2, g0, g3, g4⟩ := h
  simp only [Value.slice.injEq] at he
  obtain ⟨rfl, rfl, rfl⟩ := he
  exact ⟨rfl, g1, g2, g3⟩

/-- A slice of one span, new. -/
theorem Sl.one (w : World) (x y : Int) (hx : I64 x) (hy : I64 y) : Sl (w.heap.size + 1) (w.alloc (.cells #[.int .i64 x, .int .i64 y] 75)) (.slice (some ⟨w.heap.size, 0, none⟩) 1 1) [(x, y)] := by
  refine ⟨some ⟨w.heap.size, 0, none⟩, 1, rfl, by simp, by omega, fun h => by simp at h, ?_, fun _ => ⟨w.heap.size, 0, rfl, by omega, ?_⟩⟩
  · intro s hs; simp at hs; subst hs; exact ⟨hx, hy⟩
  · intro k s hs
    match k, hs with
    | 0, hs =>
      simp at hs
      subst hs
      constructor <;> (rw [World.cell?_alloc_at _ _ _ _ rfl]; rfl)

end Go.Proofs.Ytnddejdndipddad

namespace Go.Proofs.Ytnddejdndipddad
open Go.RowKit

/-- A contract's world: nothing old has turned, and a slice of spans. -/
theorem Sl.size {B : Nat} {w w' : World} {v : Value} {l : List Sp} (h : Sl w.heap.size w v l) (hb : Below B w w') (hB : w.heap.size ≤ B) : Sl w'.heap.size w' v l := (h.below hb hB).mono hb.size

end Go.Proofs.Ytnddejdndipddad

namespace Go.Proofs.Ytnddejdndipddad
open Go.RowKit

theorem Sl.ex {B : Nat} {w : World} {v : Value} {l : List Sp} (h : Sl B w v l) : ∃ a cap, v = .slice a l.length cap := by
  obtain ⟨a, cap, rfl, _⟩ := h
  exact ⟨a, cap, rfl⟩

end Go.Proofs.Ytnddejdndipddad

namespace Go.Proofs.Ytnddejdndipddad
open Go.ChangeShapes Go.WideShapes Go.ChangeAt Go.RowKit

theorem Try.own : ownKnob Try.prog.godebug = none := by kernel_rfl
theorem Try.laidOut : laidOutB Try.prog = true := by kernel_rfl
theorem Try.cells3 : Try.prog.cellsOf 3 = 1 := by kernel_rfl
theorem wf_I64 {n : Int} (h : (Lit.int .i64 n).wf = true) : I64 n := by
  have := bounds_i64 h
  exact this

end Go.Proofs.Ytnddejdndipddad

namespace Go.Proofs.Ytnddejdndipddad
open Go.RowKit

/-- A slice value of n elements, of k cells each, in all the cells xs, in a block below B. -/
def Rw (k B : Nat) (w : World) (v : Value) (n : Nat) (xs : List Value) : Prop :=
  xs.length = n * k ∧ ∃ a cap, v = .slice a n cap ∧ n ≤ cap ∧ cap ≤ 9223372036854775807 ∧ (a = none → cap = 0) ∧
    (n ≠ 0 → ∃ b off, a = some ⟨b, off, none⟩ ∧ b < B ∧ ∀ j u, xs[j]? = some u → w.cell? ⟨b, off + j, none⟩ = some u)

theorem Rw.below {k B B' : Nat} {w w' : World} {v : Value} {n : Nat} {xs : List Value} (h : Rw k B w v n xs) (hbel : Below B' w w') (hB : B ≤ B') : Rw k B w' v n xs := by
  obtain ⟨hl, a, cap, rfl, h1, h2, h0, h4⟩ := h
  refine ⟨hl, a, cap, rfl, h1, h2, h0, fun hn => ?_⟩
  obtain ⟨b, off, rfl, hb, hat⟩ := h4 hn
  exact ⟨b, off, rfl, hb, fun j u hu => (hbel.cell (p := ⟨b, off + j, none⟩) (by show b < B'; omega)).trans (hat j u hu)⟩

theorem Rw.mono {k B B' : Nat} {w : World} {v : Value} {n : Nat} {xs : List Value} (h : Rw k B w v n xs) (hB : B ≤ B') : Rw k B' w v n xs := by
  obtain ⟨hl, a, cap, rfl, h1, h2, h0, h4⟩ := h
  refine ⟨hl, a, cap, rfl, h1, h2, h0, fun hn => ?_⟩
  obtain ⟨b, off, rfl, hb, hat⟩ := h4 hn
  exact ⟨b, off, rfl, by omega, hat⟩

theorem Rw.nil (k B : Nat) (w : World) : Rw k B w (.slice none 0 0) 0 [] := ⟨by simp, none, 0, rfl, by simp, by simp, fun _ => rfl, fun h => absurd rfl h⟩

/-- Where a piece begins. -/
def reK (k : Nat) (a : Option Addr) (cap lo : Nat) : Option Addr := if cap = lo then a else a.map (·.add (lo * k))

theorem Rw.re {k B : Nat} {w : World} {a : Option Addr} {n cap : Nat} {xs : List Value} (h : Rw k B w (.slice a n cap) n xs) (lo d : Nat) (h2 : lo + d ≤ n) : Rw k B w (.slice (reK k a cap lo) d (cap - lo)) d ((xs.drop (lo * k)).take (d * k)) := by
  obtain ⟨hl, a', cap', he, g1, g2, g0, g4⟩ := h
  simp only [Value.slice.injEq, true_and] at he
  obtain ⟨rfl, rfl⟩ := he
  have hm : lo * k + d * k ≤ n * k := by rw [← Nat.add_mul]; exact Nat.mul_le_mul_right _ h2
  refine ⟨by simp [hl]; omega, reK k a cap lo, cap - lo, rfl, by omega, by omega, ?_, fun hn => ?_⟩
  · intro hh
    unfold reK at hh
    split at hh
    · have := g0 hh; omega
    · simp at hh; have := g0 hh; omega
  · obtain ⟨b, off, rfl, hb, hat⟩ := g4 (by omega)
    refine ⟨b, off + lo * k, ?_, hb, fun j u hu => ?_⟩
    · unfold reK
      rw [if_neg (by omega)]
      simp [add_plain]
    · have hu' : xs[lo * k + j]? = some u := by
        rw [List.getElem?_take] at hu
        split at hu
        · rwa [List.getElem?_drop] at hu
        · cases hu
      have := hat _ u hu'
      rwa [← Nat.add_assoc] at this

theorem Rw.len {k B : Nat} {w : World} {a : Option Addr} {n m cap : Nat} {xs : List Value} (h : Rw k B w (.slice a n cap) m xs) : n = m ∧ n ≤ cap ∧ cap ≤ 9223372036854775807 ∧ xs.length = m * k := by
  obtain ⟨hl, a', cap', he, g1, g2, g0, g4⟩ := h
  simp only [Value.slice.injEq] at he
  obtain ⟨rfl, rfl, rfl⟩ := he
  exact ⟨rfl, g1, g2, hl⟩

/-- A row of the call's own. -/
theorem Rw.own {w : World} {base k : Nat} {t : TypeId} {v : Value} {n : Nat} {xs : List Value} (h : w.ownsRow base t k v n xs) (hx : xs.length = n * k) : Rw k w.heap.size w v n xs := by
  have h' := h
  rcases h.2 with ⟨rfl, hn⟩ | ⟨g, cap, cur, rfl, hb, hg, hnc, hcm, hcs, htake⟩
  · subst hn
    have : xs = [] := List.eq_nil_of_length_eq_zero (by simpa using hx)
    subst this
    exact Rw.nil _ _ _
  · refine ⟨hx, some ⟨g, 0, none⟩, cap, rfl, hnc, by unfold maxLen at hcm; omega, fun h => by simp at h, fun _ => ⟨g, 0, rfl, (Array.getElem?_eq_some_iff.1 hg).1, fun j u hu => ?_⟩⟩
    have hj : j < xs.length := (List.getElem?_eq_some_iff.1 hu).1
    rw [Nat.zero_add]
    exact (h'.cellAt j (by omega)).trans hu

/-- What append makes of a row of the call's own and a slice. -/
theorem run_append_rw {T E : TypeId} {k bytes : Nat} {zero : Value} (hT : Try.prog.underlying T = some (.slice E)) (hE : (Try.prog.info? E).map (fun i => (i.zero, i.size, i.bytes)) = some (some zero, k, bytes))
    (hz : zero.cells.size = k) (hk : 0 < k) (w : World) (base : Nat) (ty : TypeId) (v : Value) (n : Nat) (xs : List Value) (hown : w.ownsRow base E k v n xs) (x : Value) (B m : Nat) (ys : List Value) (hx : Rw k B w x m ys)
    (hone : ∀ u ∈ ys, u.oneCell' = true) (hlen : n + m ≤ maxLen) (hbytes : (n + m) * bytes ≤ 140737488355328) (hbase : base ≤ w.heap.size) :
    ∃ v' w', (Builtin.append_ #[T, T] ty #[v, x]).run Try.prog w = .ok v' w' ∧ w'.ownsRow base E k v' (n + m) (xs ++ ys) ∧ w.grownBy w' v.ownBlock ∧ (v'.ownBlock = v.ownBlock ∨ v'.ownBlock = some w.heap.size) := by
  obtain ⟨i0, hi, hz0, hz1, hz2⟩ := info_parts hE
  obtain ⟨hl, a, cap, rfl, h1, h2, h0, h4⟩ := hx
  cases a with
  | none =>
    have hc := h0 rfl
    subst hc
    have hm : m = 0 := by omega
    subst hm
    have hy : ys = [] := List.eq_nil_of_length_eq_zero (by simpa using hl)
    subst hy
    exact ⟨v, w, run_append_owned_none w base T ty E i0 k hT hi v n xs hown, by simpa using hown, ⟨rfl, rfl, rfl, Nat.le_refl _, fun _ _ _ => rfl⟩, .inl rfl⟩
  | some ad =>
    have hc : ∀ j u, ys[j]? = some u → w.cell? (ad.add j) = some u := by
      by_cases hm : m = 0
      · subst hm
        have hy : ys = [] := List.eq_nil_of_length_eq_zero (by simpa using hl)
        subst hy
        intro j u hu; simp at hu
      · obtain ⟨b, off, he, hb, hat⟩ := h4 hm
        simp only [Option.some.injEq] at he
        subst he
        intro j u hu
        rw [add_plain]
        exact hat j u hu
    obtain ⟨v', w', r1, r2, r3, _, r5⟩ := run_append_own_at (P := Try.prog) w base T ty E i0 zero k bytes hT hi hz0 hz1 hz2 hz hk v n xs hown ad m cap ys hl hc hone hlen hbytes hbase
    exact ⟨v', w', r1, r2, r3, r5⟩

theorem wpList_append_rw {T E : TypeId} {k bytes : Nat} {zero : Value} (hT : Try.prog.underlying T = some (.slice E)) (hE : (Try.prog.info? E).map (fun i => (i.zero, i.size, i.bytes)) = some (some zero, k, bytes))
    (hz : zero.cells.size = k) (hk : 0 < k) (w : World) {ops : Array Oper} {rest : List Oper} {o : Oper} {a : Act} {Q : Exit → Act → World → Prop} (hgd : o.guard = none) (s x : Operand)
    (ho : o.op = .call { callee := .builtin .append, args := #[s, x], argTypes := #[T, T] })
    (base : Nat) (v : Value) (n : Nat) (xs : List Value) (hs : a.eval s = v) (hown : w.ownsRow base E k v n xs) (B m : Nat) (ys : List Value) (y : Value) (hy : a.eval x = y) (hx : Rw k B w y m ys)
    (hone : ∀ u ∈ ys, u.oneCell' = true) (hlen : n + m ≤ maxLen) (hbytes : (n + m) * bytes ≤ 140737488355328) (hbase : base ≤ w.heap.size)
    (h : ∀ v' w', w'.ownsRow base E k v' (n + m) (xs ++ ys) → w.grownBy w' v.ownBlock → (v'.ownBlock = v.ownBlock ∨ v'.ownBlock = some w.heap.size) → wpList Try.prog ops Q rest (a.put o.dst v') w') : wpList Try.prog ops Q (o :: rest) a w :=
  wpList_plain hgd fun _ hK => by
    obtain ⟨v', w', hr, h2, h3, h4⟩ := run_append_rw hT hE hz hk w base o.type v n xs hown y B m ys hx hone hlen hbytes hbase
    unfold Oper.wp execOp
    simp only [ho, resolve, invoke, builtin, Sem.run_bind, Sem.run_pure, Result.andThen_ok, List.map_toArray, List.map_cons, List.map_nil, hs, hy, hr]
    exact hK _ _ (h v' w' h2 h3 h4)

theorem step_append_rw {T E : TypeId} {k bytes : Nat} {zero : Value} (hT : Try.prog.underlying T = some (.slice E)) (hE : (Try.prog.info? E).map (fun i => (i.zero, i.size, i.bytes)) = some (some zero, k, bytes))
    (hz : zero.cells.size = k) (hk : 0 < k) {ops : Array Oper} {o : Oper} {a : Act} {w : World} {K : Act → World → Prop} {Q : Exit → Act → World → Prop} {X : Prop}
    (hg : o.guard = none) (s x : Operand) (hop : o.op = Op.call { callee := Callee.builtin Builtin.append, args := #[s, x], argTypes := #[T, T] })
    (base : Nat) (v : Value) (n : Nat) (xs : List Value) (hs : a.eval s = v) (hown : w.ownsRow base E k v n xs) (B m : Nat) (ys : List Value) (y : Value) (hy : a.eval x = y) (hx : Rw k B w y m ys)
    (hone : ∀ u ∈ ys, u.oneCell' = true) (hlen : n + m ≤ maxLen) (hbytes : (n + m) * bytes ≤ 140737488355328) (hbase : base ≤ w.heap.size)
    (hK : ∀ v' w', w'.ownsRow base E k v' (n + m) (xs ++ ys) → w.grownBy w' v.ownBlock → (v'.ownBlock = v.ownBlock ∨ v'.ownBlock = some w.heap.size) → K (a.put o.dst v') w') :
    if Region.wanted o (yielded ops a.tmps) = true then Oper.wp Try.prog o a w K Q else X := by
  have hw : Region.wanted o (yielded ops a.tmps) = true := by simp [Region.wanted, hg]
  rw [if_pos hw]
  obtain ⟨v', w', hr, h2, h3, h4⟩ := run_append_rw hT hE hz hk w base o.type v n xs hown y B m ys hx hone hlen hbytes hbase
  unfold Oper.wp
  simp [execOp, hop, resolve, invoke, builtin, hs, hy, hr, Result.andThen]
  exact hK v' w' h2 h3 h4

/-- Blocks that are kept as they were. -/
structure Keep (S : Nat → Prop) (w w' : World) : Prop where
  os : w'.os = w.os
  tape : w'.tape = w.tape
  output : w'.output = w.output
  size : w.heap.size ≤ w'.heap.size
  block : ∀ k, S k → w'.heap[k]? = w.heap[k]?

theorem Keep.refl (S : Nat → Prop) (w : World) : Keep S w w := ⟨rfl, rfl, rfl, Nat.le_refl _, fun _ _ => rfl⟩
theorem Keep.trans {S : Nat → Prop} {a b c : World} (h : Keep S a b) (k : Keep S b c) : Keep S a c :=
  ⟨k.os.trans h.os, k.tape.trans h.tape, k.output.trans h.output, Nat.le_trans h.size k.size, fun i hi => (k.block i hi).trans (h.block i hi)⟩
theorem Keep.mono {S S' : Nat → Prop} {a b : World} (h : Keep S a b) (hs : ∀ k, S' k → S k) : Keep S' a b := ⟨h.os, h.tape, h.output, h.size, fun i hi => h.block i (hs i hi)⟩
theorem Keep.cell {S : Nat → Prop} {a b : World} (h : Keep S a b) {p : Addr} (hp : S p.block) : b.cell? p = a.cell? p := World.cell?_of_block (w := a) (h.block p.block hp)
theorem Keep.frozen {S : Nat → Prop} {a b : World} (h : Keep S a b) {p : Addr} (hp : S p.block) : b.frozen? p = a.frozen? p := World.frozen?_of_block (w := a) (h.block p.block hp)
theorem Keep.below {S : Nat → Prop} {a b : World} {B : Nat} (h : Keep S a b) (hs : ∀ k, k < B → S k) : Below B a b := ⟨h.os, h.tape, h.output, h.size, fun i hi => h.block i (hs i hi)⟩
theorem Keep.grown {S : Nat → Prop} {a w w' : World} {row : Option Nat} (h : Keep S a w) (hg : w.grownBy w' row) (hS : ∀ k, S k → k < w.heap.size) (hr : ∀ k, row = some k → ¬ S k) : Keep S a w' :=
  ⟨hg.os.trans h.os, hg.tape.trans h.tape, hg.output.trans h.output, Nat.le_trans h.size hg.size, fun i hi => (hg.block i (hS i hi) (fun e => hr i e.symm hi)).trans (h.block i hi)⟩
theorem Keep.alloc {S : Nat → Prop} {a w : World} (h : Keep S a w) (hS : ∀ k, S k → k < w.heap.size) (o : Obj) : Keep S a (w.alloc o) :=
  ⟨h.os, h.tape, h.output, Nat.le_trans h.size (by simp), fun i hi => (Below.heap_alloc w o i (hS i hi)).trans (h.block i hi)⟩
theorem Keep.setCell {S : Nat → Prop} {a w : World} (h : Keep S a w) {p : Addr} (hp : ¬ S p.block) (u : Value) : Keep S a (w.setCell p u) :=
  ⟨h.os, h.tape, h.output, by simpa [World.setCell] using h.size, fun i hi => (Below.heap_setCell w p u i (fun e => hp (e ▸ hi))).trans (h.block i hi)⟩

/-- Numbers that are bytes. -/
def IsB (bs : List Int) : Prop := ∀ z ∈ bs, 0 ≤ z ∧ z < 256
/-- Bytes as cells. -/
def cellsB (bs : List Int) : List Value := bs.map fun z => .int .u8 z
theorem cellsB_one (bs : List Int) : ∀ u ∈ cellsB bs, u.oneCell' = true := by
  intro u hu
  obtain ⟨z, _, rfl⟩ := List.mem_map.1 hu
  rfl
theorem cellsB_append (a b : List Int) : cellsB (a ++ b) = cellsB a ++ cellsB b := by simp [cellsB]
theorem cellsB_length (a : List Int) : (cellsB a).length = a.length := by simp [cellsB]
theorem cellsB_get (a : List Int) (k : Nat) (h : k < a.length) : (cellsB a)[k]? = some (.int .u8 a[k]) := by simp [cellsB, h]
/-- A slice of bytes. -/
def By (B : Nat) (w : World) (v : Value) (bs : List Int) : Prop := Rw 1 B w v bs.length (cellsB bs) ∧ IsB bs

theorem By.below {B B' : Nat} {w w' : World} {v : Value} {bs : List Int} (h : By B w v bs) (hb : Below B' w w') (hB : B ≤ B') : By B w' v bs := ⟨h.1.below hb hB, h.2⟩
theorem By.mono {B B' : Nat} {w : World} {v : Value} {bs : List Int} (h : By B w v bs) (hB : B ≤ B') : By B' w v bs := ⟨h.1.mono hB, h.2⟩
theorem By.size {B : Nat} {w w' : World} {v : Value} {bs : List Int} (h : By w.heap.size w v bs) (hb : Below B w w') (hB : w.heap.size ≤ B) : By w'.heap.size w' v bs := (h.below hb hB).mono hb.size
theorem By.ex {B : Nat} {w : World} {v : Value} {bs : List Int} (h : By B w v bs) : ∃ a cap, v = .slice a bs.length cap ∧ bs.length ≤ cap ∧ cap ≤ 9223372036854775807 := by
  obtain ⟨⟨_, a, cap, rfl, h1, h2, _⟩, _⟩ := h
  exact ⟨a, cap, rfl, h1, h2⟩
theorem IsB.get {bs : List Int} (h : IsB bs) (k : Nat) (hk : k < bs.length) : 0 ≤ bs[k] ∧ bs[k] < 256 := h _ (List.getElem_mem hk)
theorem IsB.drop {bs : List Int} (h : IsB bs) (k : Nat) : IsB (bs.drop k) := fun z hz => h z (List.mem_of_mem_drop hz)
theorem IsB.take {bs : List Int} (h : IsB bs) (k : Nat) : IsB (bs.take k) := fun z hz => h z (List.mem_of_mem_take hz)
theorem IsB.append {a b : List Int} (h : IsB a) (h' : IsB b) : IsB (a ++ b) := fun z hz => (List.mem_append.1 hz).elim (h z) (h' z)

/-- A place in a slice of bytes. -/
theorem By.at {B : Nat} {w : World} {a : Option Addr} {n cap : Nat} {bs : List Int} (h : By B w (.slice a n cap) bs) (k : Nat) (hk : k < bs.length) :
    ∃ b off, b < B ∧ (∀ wx, (Instr.indexAt 38 (.slice a n cap) (.int .i64 (k : Int))).run Try.prog wx = .ok (.pointer (some ⟨b, off, none⟩)) wx) ∧ w.cell? ⟨b, off, none⟩ = some (.int .u8 bs[k]) := by
  obtain ⟨⟨hl, a', cap', he, g1, g2, g0, g4⟩, _⟩ := h
  simp only [Value.slice.injEq] at he
  obtain ⟨rfl, rfl, rfl⟩ := he
  obtain ⟨b, off, rfl, hb, hat⟩ := g4 (by omega)
  refine ⟨b, off + k, hb, fun wx => ?_, hat k _ (cellsB_get bs k hk)⟩
  have : (k : Int) < bs.length := by omega
  go_simp

theorem By.re {B : Nat} {w : World} {a : Option Addr} {n cap : Nat} {bs : List Int} (h : By B w (.slice a n cap) bs) (lo d : Nat) (h2 : lo + d ≤ bs.length) : By B w (.slice (reK 1 a cap lo) d (cap - lo)) ((bs.drop lo).take d) := by
  have hn := h.1.len.1
  subst hn
  have := h.1.re lo d h2
  refine ⟨?_, (h.2.drop _).take _⟩
  rw [Nat.mul_one, Nat.mul_one] at this
  rw [show ((bs.drop lo).take d).length = d by simp; omega, show cellsB ((bs.drop lo).take d) = ((cellsB bs).drop lo).take d by simp [cellsB]]
  exact this

/-- A slice of bytes as a string. -/
theorem By.str {B : Nat} {w : World} {v : Value} {bs : List Int} (h : By B w v bs) : (convert 38 9 v).run Try.prog w = .ok (.string (strOfNums bs)) w := by
  obtain ⟨⟨hl, a, cap, rfl, g1, g2, g0, g4⟩, _⟩ := h
  cases a with
  | none =>
    have hc := g0 rfl
    have hb : bs = [] := List.eq_nil_of_length_eq_zero (by omega)
    subst hb
    exact run_convert_bytes_nil w 38 5 Try.underlying38 Try.underlying5 _ _ 9 Try.underlying9
  | some ad =>
    by_cases hm : bs = []
    · subst hm
      obtain ⟨b, off, sp⟩ := ad
      rw [run_convert_bytes_string w 38 9 5 _ _ _ Try.underlying38 Try.underlying5 Try.underlying9, run_bytesToString w _ ([] : List Int).length cap [] (by simp [loadCells, loadCellsFrom])]
      rfl
    · obtain ⟨b, off, he, hb, hat⟩ := g4 (by intro e; exact hm (List.eq_nil_of_length_eq_zero e))
      simp only [Option.some.injEq] at he
      subst he
      refine run_convert_bytes_arg w 38 5 Try.underlying38 Try.underlying5 b off bs.length cap bs rfl (fun i hi => ?_) 9 Try.underlying9
      rw [hat i _ (cellsB_get bs i hi)]
      simp [hi]

theorem strOfNums_inj {a b : List Int} (ha : IsB a) (hb : IsB b) : strOfNums a = strOfNums b ↔ a = b := by
  constructor
  · intro h
    have h1 : a.map (fun n => UInt8.ofNat n.toNat) = b.map (fun n => UInt8.ofNat n.toNat) := by rw [← strOfNums_data, ← strOfNums_data, h]
    have h2 : ∀ (a b : List Int), IsB a → IsB b → a.map (fun n => UInt8.ofNat n.toNat) = b.map (fun n => UInt8.ofNat n.toNat) → a = b := by
      intro a
      induction a with
      | nil => intro b _ _ h; simp at h; exact h.symm
      | cons x r ih =>
        intro b ha hb h
        cases b with
        | nil => simp at h
        | cons y q =>
          simp only [List.map_cons, List.cons.injEq] at h
          have hx := ha x (by simp)
          have hy := hb y (by simp)
          have e1 := congrArg UInt8.toNat h.1
          simp only [UInt8.toNat_ofNat'] at e1
          rw [Nat.mod_eq_of_lt (by omega), Nat.mod_eq_of_lt (by omega)] at e1
          rw [ih q (fun z hz => ha z (by simp [hz])) (fun z hz => hb z (by simp [hz])) h.2, show x = y by omega]
    exact h2 a b ha hb h1
  · rintro rfl; rfl

/-- A skip: stream, message, in order. -/
structure Sk where
  stream : Int
  mid : Int
  ordered : Bool
deriving DecidableEq
def cellsK (l : List Sk) : List Value := l.flatMap fun s => [.int .i64 s.stream, .int .i64 s.mid, .bool s.ordered]
theorem cellsK_cons (s : Sk) (l : List Sk) : cellsK (s :: l) = .int .i64 s.stream :: .int .i64 s.mid :: .bool s.ordered :: cellsK l := rfl
theorem cellsK_append (l m : List Sk) : cellsK (l ++ m) = cellsK l ++ cellsK m := by simp [cellsK]
theorem cellsK_length (l : List Sk) : (cellsK l).length = l.length * 3 := by
  induction l with
  | nil => rfl
  | cons s r ih => simp [cellsK_cons, ih]; omega
theorem cellsK_one (l : List Sk) : ∀ u ∈ cellsK l, u.oneCell' = true := by
  intro u hu
  simp only [cellsK, List.mem_flatMap] at hu
  obtain ⟨s, _, hs⟩ := hu
  simp at hs
  rcases hs with rfl | rfl | rfl <;> rfl
theorem cellsK_get (l : List Sk) (k : Nat) (h : k < l.length) : (cellsK l)[k * 3]? = some (.int .i64 l[k].stream) ∧ (cellsK l)[k * 3 + 1]? = some (.int .i64 l[k].mid) ∧ (cellsK l)[k * 3 + 2]? = some (.bool l[k].ordered) := by
  induction l generalizing k with
  | nil => simp at h
  | cons x r ih =>
    cases k with
    | zero => simp [cellsK_cons]
    | succ k =>
      have := ih k (by simpa using h)
      rw [show (k + 1) * 3 = k * 3 + 1 + 1 + 1 by omega]
      simpa [cellsK_cons] using this
/-- A slice of skips. -/
def Kl (B : Nat) (w : World) (v : Value) (l : List Sk) : Prop := Rw 3 B w v l.length (cellsK l)
theorem Kl.below {B B' : Nat} {w w' : World} {v : Value} {l : List Sk} (h : Kl B w v l) (hb : Below B' w w') (hB : B ≤ B') : Kl B w' v l := Rw.below h hb hB
theorem Kl.mono {B B' : Nat} {w : World} {v : Value} {l : List Sk} (h : Kl B w v l) (hB : B ≤ B') : Kl B' w v l := Rw.mono h hB
theorem Kl.ex {B : Nat} {w : World} {v : Value} {l : List Sk} (h : Kl B w v l) : ∃ a cap, v = .slice a l.length cap ∧ l.length ≤ cap ∧ cap ≤ 9223372036854775807 := by
  obtain ⟨_, a, cap, rfl, h1, h2, _⟩ := h
  exact ⟨a, cap, rfl, h1, h2⟩
theorem Kl.at {B : Nat} {w : World} {a : Option Addr} {n cap : Nat} {l : List Sk} (h : Kl B w (.slice a n cap) l) (k : Nat) (hk : k < l.length) :
    ∃ b off, b < B ∧ (∀ wx, (Instr.indexAt 40 (.slice a n cap) (.int .i64 (k : Int))).run Try.prog wx = .ok (.pointer (some ⟨b, off, none⟩)) wx) ∧
      w.cell? ⟨b, off, none⟩ = some (.int .i64 l[k].stream) ∧ w.cell? ⟨b, off + 1, none⟩ = some (.int .i64 l[k].mid) ∧ w.cell? ⟨b, off + 2, none⟩ = some (.bool l[k].ordered) := by
  obtain ⟨hl, a', cap', he, g1, g2, g0, g4⟩ := h
  simp only [Value.slice.injEq] at he
  obtain ⟨rfl, rfl, rfl⟩ := he
  obtain ⟨b, off, rfl, hb, hat⟩ := g4 (by omega)
  have hg := cellsK_get l k hk
  refine ⟨b, off + k * 3, hb, fun wx => ?_, hat _ _ hg.1, ?_, ?_⟩
  · have : (k : Int) < l.length := by omega
    go_simp
  · rw [Nat.add_assoc]; exact hat _ _ hg.2.1
  · rw [Nat.add_assoc]; exact hat _ _ hg.2.2

/-- Spans are rows too. -/
theorem Sl.rw' {B : Nat} {w : World} {v : Value} {l : List Sp} (h : Sl B w v l) : Rw 2 B w v l.length (flat l) := by
  obtain ⟨a, cap, rfl, h1, h2, h0, h3, h4⟩ := h
  refine ⟨flat_length l, a, cap, rfl, h1, h2, h0, fun hn => ?_⟩
  obtain ⟨b, off, rfl, hb, hat⟩ := h4 (by rintro rfl; simp at hn)
  exact ⟨b, off, rfl, hb, fun j u hu => by have := hat.flat j u hu; rwa [add_plain] at this⟩
theorem Sl.of_rw {B : Nat} {w : World} {v : Value} {l : List Sp} (h : Rw 2 B w v l.length (flat l)) (hf : Fit l) : Sl B w v l := by
  obtain ⟨hl, a, cap, rfl, h1, h2, h0, h4⟩ := h
  refine ⟨a, cap, rfl, h1, h2, h0, hf, fun hn => ?_⟩
  obtain ⟨b, off, rfl, hb, hat⟩ := h4 (by intro e; exact hn (List.eq_nil_of_length_eq_zero e))
  refine ⟨b, off, rfl, hb, fun k s hs => ?_⟩
  have := flat_get l k s hs
  exact ⟨hat _ _ this.1, by rw [Nat.add_assoc]; exact hat _ _ this.2⟩
end Go.Proofs.Ytnddejdndipddad

namespace Go.Proofs.Ytnddejdndipddad
open Go.RowKit

/-- A chunk. -/
structure Ck where
  kind : Int
  tag : Int
  stream : Int
  mid : Int
  part : Int
  last : Bool
  ordered : Bool
  data : List Int
  spans : List Sp
  room : Int
  skips : List Sk

def Ck.zero : Ck := ⟨0, 0, 0, 0, 0, false, false, [], [], 0, []⟩

/-- Its fields, as one value. -/
def ckVal (c : Ck) (d s k : Value) : Value := .agg #[.int .i64 c.kind, .int .i64 c.tag, .int .i64 c.stream, .int .i64 c.mid, .int .i64 c.part, .bool c.last, .bool c.ordered, d, s, .int .i64 c.room, k]

/-- A value that is this chunk; its lists lie below block B. -/
def CkV (B : Nat) (w : World) (v : Value) (c : Ck) : Prop :=
  ∃ d s k, v = ckVal c d s k ∧ By B w d c.data ∧ Sl B w s c.spans ∧ Kl B w k c.skips

theorem CkV.below {B B' : Nat} {w w' : World} {v : Value} {c : Ck} (h : CkV B w v c) (hb : Below B' w w') (hB : B ≤ B') : CkV B w' v c := by
  obtain ⟨d, s, k, rfl, h1, h2, h3⟩ := h
  exact ⟨d, s, k, rfl, h1.below hb hB, h2.below hb hB, h3.below hb hB⟩
theorem CkV.mono {B B' : Nat} {w : World} {v : Value} {c : Ck} (h : CkV B w v c) (hB : B ≤ B') : CkV B' w v c := by
  obtain ⟨d, s, k, rfl, h1, h2, h3⟩ := h
  exact ⟨d, s, k, rfl, h1.mono hB, h2.mono hB, h3.mono hB⟩
theorem CkV.size {B : Nat} {w w' : World} {v : Value} {c : Ck} (h : CkV w.heap.size w v c) (hb : Below B w w') (hB : w.heap.size ≤ B) : CkV w'.heap.size w' v c := (h.below hb hB).mono hb.size
theorem By.nil (B : Nat) (w : World) : By B w (.slice none 0 0) [] := ⟨Rw.nil 1 B w, fun z hz => by simp at hz⟩
theorem Kl.nil (B : Nat) (w : World) : Kl B w (.slice none 0 0) [] := Rw.nil 3 B w
theorem Sl.nil' (B : Nat) (w : World) : Sl B w (.slice none 0 0) [] := ⟨none, 0, rfl, by simp, by simp, fun _ => rfl, fun s hs => by simp at hs, fun h => absurd rfl h⟩
theorem CkV.zero (B : Nat) (w : World) : CkV B w (ckVal Ck.zero (.slice none 0 0) (.slice none 0 0) (.slice none 0 0)) Ck.zero := ⟨_, _, _, rfl, By.nil B w, Sl.nil' B w, Kl.nil B w⟩

/-- A small number. -/
def smallM (n : Int) : Bool := decide (0 ≤ n ∧ n < 65536)

/-- Spans that are wrong behind a number. -/
def spansBad : Int → List Sp → Bool
  | _, [] => false
  | a, s :: r => if s.1 < a + 2 ∨ s.2 < s.1 ∨ 65536 ≤ s.2 then true else spansBad s.2 r

def skipBad (s : Sk) : Bool := !(decide (0 ≤ s.stream ∧ s.stream < 4)) || !(smallM s.mid)

def wrongD (c : Ck) : Int := if ¬ (0 ≤ c.stream ∧ c.stream < 4) ∨ smallM c.mid = false ∨ ¬ (0 ≤ c.part ∧ c.part < 256) then 3 else if c.data.length < 1 ∨ 16 < c.data.length then 4 else 0
def wrongS (c : Ck) : Int := if smallM c.room = false then 3 else if 6 < c.spans.length then 5 else if spansBad 0 c.spans = true then 3 else 0
def wrongF (c : Ck) : Int := if 8 < c.skips.length then 5 else if c.skips.any skipBad = true then 3 else 0
/-- What is wrong with a chunk: an errno. -/
def wrongM (c : Ck) : Int :=
  if c.kind < 1 ∨ 3 < c.kind then 1 else if smallM c.tag = false then 3 else if c.kind = 1 then wrongD c else if c.kind = 2 then wrongS c else wrongF c

/-- A flag's number. -/
def flagV (b : Bool) (n : Int) : Int := if b = true then n else 0

end Go.Proofs.Ytnddejdndipddad

namespace Go.Proofs.Ytnddejdndipddad
open Go.RowKit

theorem two_below (w : World) (o o' : Obj) : Below w.heap.size w ((w.alloc o).alloc o') := (box_below w o).alloc (by simp) _

end Go.Proofs.Ytnddejdndipddad

namespace Go.Proofs.Ytnddejdndipddad
open Go.RowKit

theorem CkV.boxed {w : World} {v : Value} {c : Ck} (h : CkV w.heap.size w v c) (o : Obj) : CkV (w.alloc o).heap.size (w.alloc o) v c := h.size (box_below w o) (Nat.le_refl _)

end Go.Proofs.Ytnddejdndipddad

namespace Go.Proofs.Ytnddejdndipddad
open Go.RowKit

theorem own_of_block {w w' : World} {base : Nat} {e : TypeId} {size : Nat} {v : Value} {n : Nat} {xs : List Value} (h : w.ownsRow base e size v n xs) (hb : ∀ k, v.ownBlock = some k → w'.heap[k]? = w.heap[k]?) : w'.ownsRow base e size v n xs := by
  refine ⟨h.1, ?_⟩
  rcases h.2 with h2 | ⟨g, cap, cur, rfl, h3, h4, h5⟩
  · exact .inl h2
  · exact .inr ⟨g, cap, cur, rfl, h3, (hb g rfl).trans h4, h5⟩

theorem own_form {w : World} {base : Nat} {e : TypeId} {size : Nat} {v : Value} {n : Nat} {xs : List Value} (h : w.ownsRow base e size v n xs) : ∃ a cap, v = .slice a n cap := by
  rcases h.2 with ⟨rfl, rfl⟩ | ⟨g, cap, cur, rfl, h3, h4, h5⟩
  · exact ⟨none, 0, rfl⟩
  · exact ⟨_, _, rfl⟩

theorem Try.info5 : (Try.prog.info? 5).map (fun i => (i.zero, i.size, i.bytes)) = some (some (.int .u8 0), 1, 1) := by kernel_rfl

/-- Block O holds a slice of bytes of the call's own, which lies in none of the blocks S. -/
def Buf (S : Nat → Prop) (O : Nat) (w : World) (xs : List Int) : Prop :=
  ∃ v, w.cell? ⟨O, 0, none⟩ = some v ∧ w.frozen? ⟨O, 0, none⟩ = false ∧ w.ownsRow 0 5 1 v xs.length (cellsB xs) ∧ (∀ k, v.ownBlock = some k → ¬ S k ∧ k ≠ O) ∧ ¬ S O ∧ (∀ k, S k → k < w.heap.size) ∧ IsB xs

theorem Buf.mono {S S' : Nat → Prop} {O : Nat} {w : World} {xs : List Int} (h : Buf S O w xs) (hs : ∀ k, S' k → S k) : Buf S' O w xs := by
  obtain ⟨v, h1, h2, h3, h4, h5, h6, h7⟩ := h
  exact ⟨v, h1, h2, h3, fun k hk => ⟨fun h => (h4 k hk).1 (hs k h), (h4 k hk).2⟩, fun h => h5 (hs O h), fun k hk => h6 k (hs k hk), h7⟩

theorem Buf.lt {S : Nat → Prop} {O : Nat} {w : World} {xs : List Int} (h : Buf S O w xs) : O < w.heap.size := by
  obtain ⟨v, h1, _⟩ := h
  exact World.block_lt_of_cell? _ _ h1

/-- A new block is kept too. -/
theorem Buf.alloc {S : Nat → Prop} {O : Nat} {w : World} {xs : List Int} (h : Buf S O w xs) (o : Obj) : Buf (fun k => S k ∨ k = w.heap.size) O (w.alloc o) xs := by
  have hO := h.lt
  obtain ⟨v, h1, h2, h3, h4, h5, h6, h7⟩ := h
  refine ⟨v, ?_, ?_, h3.alloc o, fun k hk => ⟨?_, (h4 k hk).2⟩, ?_, ?_, h7⟩
  · rw [World.cell?_alloc_past _ _ _ hO]; exact h1
  · rw [World.frozen?_alloc_past _ _ _ hO]; exact h2
  · have := (h3.lt k hk).2
    rintro (g | g)
    · exact (h4 k hk).1 g
    · omega
  · rintro (g | g)
    · exact h5 g
    · omega
  · rintro k (g | g)
    · have := h6 k g; simp; omega
    · simp; omega

/-- What is stored behind an append. -/
theorem Buf.put {S : Nat → Prop} {O : Nat} {w w' : World} {xs ys : List Int} {v v' : Value} (hc : w.cell? ⟨O, 0, none⟩ = some v) (hf : w.frozen? ⟨O, 0, none⟩ = false) (hav : ∀ k, v.ownBlock = some k → ¬ S k ∧ k ≠ O) (hO : ¬ S O) (hS : ∀ k, S k → k < w.heap.size) (hb : IsB (xs ++ ys))
    (hown : w'.ownsRow 0 5 1 v' (xs.length + ys.length) (cellsB xs ++ cellsB ys)) (hg : w.grownBy w' v.ownBlock) (hv : v'.ownBlock = v.ownBlock ∨ v'.ownBlock = some w.heap.size) :
    Buf S O (w'.setCell ⟨O, 0, none⟩ v') (xs ++ ys) ∧ Keep S w (w'.setCell ⟨O, 0, none⟩ v') := by
  have hOs : O < w.heap.size := World.block_lt_of_cell? _ _ hc
  have hc' : w'.cell? ⟨O, 0, none⟩ = some v := hg.cell hc (by intro e; exact (hav O e.symm).2 rfl)
  have hf' : w'.frozen? ⟨O, 0, none⟩ = false := (World.frozen?_of_block (hg.block O hOs (by intro e; exact (hav O e.symm).2 rfl))).trans hf
  have hav' : ∀ k, v'.ownBlock = some k → ¬ S k ∧ k ≠ O := by
    intro k hk
    rcases hv with h | h
    · exact hav k (h ▸ hk)
    · rw [hk] at h
      simp only [Option.some.injEq] at h
      subst h
      exact ⟨fun hs => absurd (hS _ hs) (Nat.lt_irrefl _), by omega⟩
  refine ⟨⟨v', ?_, by simpa using hf', ?_, hav', hO, ?_, hb⟩, ?_⟩
  · exact World.cell?_setCell_same' _ _ _ (by rw [hc']; rfl)
  · rw [List.length_append, cellsB_append]
    exact own_of_block hown fun k hk => Below.heap_setCell _ _ _ _ (hav' k hk).2
  · intro k hk
    have := hS k hk
    have := hg.size
    simp [World.setCell]
    omega
  · exact ((Keep.refl S w).grown hg hS fun k hk => (hav k hk).1).setCell hO v'

theorem u8wrap (n : Int) : IntKind.u8.wrap n = n % 256 := by
  simp [IntKind.wrap, IntKind.signed, IntKind.bits]

theorem Rw.lit1 (w : World) (u : Value) (t : TypeId) : Rw 1 (w.heap.size + 1) (w.alloc (.cells #[u] t)) (.slice (some ⟨w.heap.size, 0, none⟩) 1 1) 1 [u] := by
  refine ⟨rfl, some ⟨w.heap.size, 0, none⟩, 1, rfl, Nat.le_refl _, by omega, fun h => by simp at h, fun _ => ⟨w.heap.size, 0, rfl, by omega, fun j x hx => ?_⟩⟩
  match j, hx with
  | 0, hx => simp at hx; subst hx; rw [World.cell?_alloc_at _ _ _ _ rfl]; rfl

end Go.Proofs.Ytnddejdndipddad

namespace Go.Proofs.Ytnddejdndipddad
open Go.RowKit

def flagsM (last ordered : Bool) : Int := flagV last 1 + flagV ordered 2
end Go.Proofs.Ytnddejdndipddad

namespace Go.Proofs.Ytnddejdndipddad
open Go.RowKit

theorem Buf.heap {S : Nat → Prop} {O : Nat} {w w' : World} {xs : List Int} (h : Buf S O w xs) (e : w'.heap = w.heap) : Buf S O w' xs := by
  obtain ⟨v, h1, h2, h3, h4, h5, h6, h7⟩ := h
  have eb : ∀ k : Nat, w'.heap[k]? = w.heap[k]? := fun k => by rw [e]
  refine ⟨v, (World.cell?_of_block (eb _)).trans h1, (World.frozen?_of_block (eb _)).trans h2, own_of_block h3 fun k _ => eb k, h4, h5, fun k hk => by rw [e]; exact h6 k hk, h7⟩
theorem Buf.drew {S : Nat → Prop} {O : Nat} {w : World} {xs : List Int} (h : Buf S O w xs) : Buf S O w.drew xs := h
theorem Keep.drew {S : Nat → Prop} {a w : World} (h : Keep S a w) : Keep S a w.drew := ⟨h.os, h.tape, h.output, h.size, h.block⟩
theorem Keep.drewN {S : Nat → Prop} {a w : World} (h : Keep S a w) (n : Nat) : Keep S a (w.drewN n) := ⟨h.os, h.tape, h.output, h.size, h.block⟩

/-- What an append to the buffer asks, and leaves. -/
theorem Buf.app {S : Nat → Prop} {O : Nat} {w : World} {xs : List Int} (h : Buf S O w xs) : ∃ a cap, w.cell? ⟨O, 0, none⟩ = some (.slice a xs.length cap) ∧ w.ownsRow 0 5 1 (.slice a xs.length cap) xs.length (cellsB xs) ∧
    ∀ ys, IsB ys → ∀ v' w', w'.ownsRow 0 5 1 v' (xs.length + ys.length) (cellsB xs ++ cellsB ys) → w.grownBy w' (Value.slice a xs.length cap).ownBlock → (v'.ownBlock = (Value.slice a xs.length cap).ownBlock ∨ v'.ownBlock = some w.heap.size) →
      w'.cell? ⟨O, 0, none⟩ = some (.slice a xs.length cap) ∧ w'.frozen? ⟨O, 0, none⟩ = false ∧ Buf S O (w'.setCell ⟨O, 0, none⟩ v') (xs ++ ys) ∧ Keep S w (w'.setCell ⟨O, 0, none⟩ v') := by
  have hO := h.lt
  obtain ⟨v, h1, h2, h3, h4, h5, h6, h7⟩ := h
  obtain ⟨a, cap, rfl⟩ := own_form h3
  refine ⟨a, cap, h1, h3, fun ys hy v' w' p q r => ?_⟩
  have := Buf.put (S := S) h1 h2 h4 h5 h6 (h7.append hy) p q r
  exact ⟨q.cell h1 (by intro e; exact (h4 O e.symm).2 rfl), (World.frozen?_of_block (q.block O hO (by intro e; exact (h4 O e.symm).2 rfl))).trans h2, this.1, this.2⟩

theorem fin_slice {S : Nat → Prop} {O : Nat} {w : World} {xs : List Int} {u : Value} {a : Option Addr} {n cap : Nat} (hu : w.cell? ⟨O, 0, none⟩ = some u) (h : Buf S O (w.setCell ⟨O, 0, none⟩ (.slice a n cap)) xs) (hx : xs ≠ []) : ∃ g, a = some ⟨g, 0, none⟩ := by
  obtain ⟨v, h1, h2, h3, -⟩ := h
  rw [World.cell?_setCell_same' _ _ _ (by rw [hu]; rfl)] at h1
  simp only [Option.some.injEq] at h1
  subst h1
  rcases h3.2 with ⟨h, hn⟩ | ⟨g, cap', cur, h, _⟩
  · exact absurd (List.eq_nil_of_length_eq_zero hn) hx
  · simp only [Value.slice.injEq] at h
    exact ⟨g, h.1⟩

theorem flags_eq (last ordered : Bool) : bits BinOp.or IntKind.i64 (flagV last 1) (flagV ordered 2) % 256 = flagsM last ordered := by cases last <;> cases ordered <;> rfl

end Go.Proofs.Ytnddejdndipddad

namespace Go.Proofs.Ytnddejdndipddad
open Go.RowKit

theorem i64_or_nat (a b : Nat) (ha : a < 9223372036854775808) (hb : b < 9223372036854775808) : bits .or .i64 (a : Int) (b : Int) = ((a ||| b : Nat) : Int) := by
  have h : a ||| b < 9223372036854775808 := Nat.or_lt_two_pow (n := 63) ha hb
  have h1 : (BitVec.ofInt 64 (a : Int) ||| BitVec.ofInt 64 (b : Int)).toNat = a ||| b := by
    rw [BitVec.toNat_or, BitVec.ofInt_natCast, BitVec.ofInt_natCast, BitVec.toNat_ofNat, BitVec.toNat_ofNat, Nat.mod_eq_of_lt (by omega), Nat.mod_eq_of_lt (by omega)]
  show IntKind.i64.wrap ((BitVec.ofInt 64 (a : Int) ||| BitVec.ofInt 64 (b : Int)).toNat : Int) = _
  rw [h1]
  simp [IntKind.wrap, IntKind.signed, IntKind.bits]
  omega
theorem be_or (a b : Int) (h1 : 0 ≤ a) (h2 : a < 256) (h3 : 0 ≤ b) (h4 : b < 256) : bits .or .i64 (a * 256) b = 256 * a + b := by
  obtain ⟨x, rfl⟩ := Int.eq_ofNat_of_zero_le h1
  obtain ⟨y, rfl⟩ := Int.eq_ofNat_of_zero_le h3
  have := i64_or_nat (x * 256) y (by omega) (by omega)
  rw [show ((x * 256 : Nat) : Int) = (x : Int) * 256 by simp] at this
  rw [this]
  have h5 := Nat.shiftLeft_add_eq_or_of_lt (i := 8) (b := y) (by omega) x
  rw [Nat.shiftLeft_eq] at h5
  rw [show x * 256 ||| y = x * 256 + y from h5.symm]
  omega

/-- Spans out of bytes. -/
def spansM : List Int → List Sp
  | a :: b :: c :: d :: r => (256 * a + b, 256 * c + d) :: spansM r
  | _ => []
/-- Skips out of bytes. -/
def skipsM : List Int → List Sk
  | a :: f :: b :: c :: r => ⟨a, 256 * b + c, decide (f = 1)⟩ :: skipsM r
  | _ => []
def flagsOk : List Int → Bool
  | _ :: f :: _ :: _ :: r => decide (f ≤ 1) && flagsOk r
  | _ => true
/-- Two bytes, as a number. -/
def be (b : List Int) (i : Nat) : Int := 256 * b.getD i 0 + b.getD (i + 1) 0

def dataM (b : List Int) : Ck := ⟨1, be b 0, b.getD 2 0, be b 4, b.getD 6 0, decide (b.getD 3 0 % 2 = 1), decide (b.getD 3 0 / 2 = 1), b.drop 7, [], 0, []⟩
def sackM (b : List Int) : Ck := ⟨2, be b 0, 0, 0, 0, false, false, [], spansM (b.drop 4), be b 2, []⟩
def forwardM (b : List Int) : Ck := ⟨3, be b 0, 0, 0, 0, false, false, [], [], 0, skipsM (b.drop 2)⟩
def formD (b : List Int) : Bool := decide (7 ≤ b.length ∧ b.getD 3 0 ≤ 3)
def formS (b : List Int) : Bool := decide (4 ≤ b.length ∧ (b.length - 4) % 4 = 0)
def formF (b : List Int) : Bool := decide (2 ≤ b.length ∧ (b.length - 2) % 4 = 0) && flagsOk (b.drop 2)

/-- An errno, and the chunk. -/
def readM (kind : Int) (b : List Int) : Int × Ck :=
  if kind = 1 then (if formD b = true then (0, dataM b) else (2, Ck.zero))
  else if kind = 2 then (if formS b = true then (0, sackM b) else (2, Ck.zero))
  else if kind = 3 then (if formF b = true then (0, forwardM b) else (2, Ck.zero))
  else (1, Ck.zero)

/-- Parse: an errno, the chunk, and how many bytes it has. -/
def parseM (b : List Int) : Int × Ck × Int :=
  if b.length < 2 ∨ (b.length : Int) - 2 < b.getD 1 0 then (8, Ck.zero, 0)
  else
    let r := readM (b.getD 0 0) ((b.drop 2).take (b.getD 1 0).toNat)
    if r.1 ≠ 0 then (r.1, Ck.zero, 0) else if wrongM r.2 ≠ 0 then (wrongM r.2, Ck.zero, 0) else (0, r.2, 2 + b.getD 1 0)

/-- All other blocks. -/
def SR (s : Nat) : Nat → Prop := fun k => k ≠ s + 2
end Go.Proofs.Ytnddejdndipddad

namespace Go.Proofs.Ytnddejdndipddad
open Go.RowKit

theorem setCell_twice (w : World) (p : Addr) (u v : Value) : (w.setCell p u).setCell p v = w.setCell p v := by
  unfold World.setCell
  congr 1
  apply Array.ext_getElem?
  intro k
  simp only [Array.getElem?_modify]
  by_cases hk : p.block = k
  · simp only [hk, if_true]
    cases w.heap[k]? with
    | none => rfl
    | some o =>
      cases o with
      | cells c t f =>
        simp only [Option.map_some]
        congr 2
        split
        · rfl
        · simp [Array.setIfInBounds_setIfInBounds]
      | _ => rfl
  · simp [hk]

/-- A first result that is a variable in memory. -/
theorem results_cell2 {fn : Func} {a u : Tmp} {t : TypeId} (h : fn.results = #[.cell a t, .tmp u]) (tmps : Array Value) (P : Program) (w : World) (ad : Addr) (x : Value) (h1 : tmps.getD a undef = .pointer (some ad)) (h2 : (loadVar t ad).run P w = .ok x w) :
    (results fn tmps).run P w = .ok (.tuple #[x, tmps.getD u undef]) w := by
  have h3 : tmps[a]?.getD undef = .pointer (some ad) := by simpa using h1
  unfold results
  rw [h]
  simp [asAddr, h3, h2]
theorem results_cell3 {fn : Func} {a u z : Tmp} {t : TypeId} (h : fn.results = #[.cell a t, .tmp u, .tmp z]) (tmps : Array Value) (P : Program) (w : World) (ad : Addr) (x : Value) (h1 : tmps.getD a undef = .pointer (some ad)) (h2 : (loadVar t ad).run P w = .ok x w) :
    (results fn tmps).run P w = .ok (.tuple #[x, tmps.getD u undef, tmps.getD z undef]) w := by
  have h3 : tmps[a]?.getD undef = .pointer (some ad) := by simpa using h1
  unfold results
  rw [h]
  simp [asAddr, h3, h2]

end Go.Proofs.Ytnddejdndipddad

namespace Go.Proofs.Ytnddejdndipddad
open Go.RowKit

/-- The zero chunk's value. -/
abbrev zeroV : Value := ckVal Ck.zero (.slice none 0 0) (.slice none 0 0) (.slice none 0 0)

theorem and1 (f : Int) (h0 : 0 ≤ f) (h3 : f ≤ 3) : (bits .and .i64 f 1 != 0) = decide (f % 2 = 1) := by
  rcases (show f = 0 ∨ f = 1 ∨ f = 2 ∨ f = 3 by omega) with rfl | rfl | rfl | rfl <;> rfl
theorem and2 (f : Int) (h0 : 0 ≤ f) (h3 : f ≤ 3) : (bits .and .i64 f 2 != 0) = decide (f / 2 = 1) := by
  rcases (show f = 0 ∨ f = 1 ∨ f = 2 ∨ f = 3 by omega) with rfl | rfl | rfl | rfl <;> rfl

theorem run_re_l (a : Option Addr) (n cap lo : Nat) (h : lo ≤ n) (wx : World) : (Instr.slice 38 (.slice a n cap) (some (.int .i64 lo)) none none).run Try.prog wx = .ok (.slice (reK 1 a cap lo) (n - lo) (cap - lo)) wx := by
  go_simp
  simp [reK]

theorem By.re_end {B : Nat} {w : World} {a : Option Addr} {n cap : Nat} {bs : List Int} (h : By B w (.slice a n cap) bs) (lo : Nat) (h2 : lo ≤ bs.length) : By B w (.slice (reK 1 a cap lo) (bs.length - lo) (cap - lo)) (bs.drop lo) := by
  have := h.re lo (bs.length - lo) (by omega)
  rwa [List.take_of_length_le (by simp)] at this

/-- A slice value. -/
def IsSl (v : Value) : Prop := ∃ a n c, v = .slice a n c
theorem isl {a : Option Addr} {n c : Nat} : IsSl (.slice a n c) := ⟨a, n, c, rfl⟩

/-- A value that is this chunk; its lists are the call's own, from block base on. -/
def CkOwn (base : Nat) (w : World) (v : Value) (c : Ck) : Prop :=
  ∃ d s k, v = ckVal c d s k ∧ w.ownsRow base 5 1 d c.data.length (cellsB c.data) ∧ w.ownsRow base 75 2 s c.spans.length (flat c.spans) ∧ w.ownsRow base 98 3 k c.skips.length (cellsK c.skips) ∧ IsB c.data ∧ Fit c.spans
theorem CkOwn.v {base : Nat} {w : World} {v : Value} {c : Ck} (h : CkOwn base w v c) : CkV w.heap.size w v c := by
  obtain ⟨d, s, k, rfl, h1, h2, h3, h4, h5⟩ := h
  exact ⟨d, s, k, rfl, ⟨Rw.own h1 (by simp [cellsB]), h4⟩, Sl.of_rw (Rw.own h2 (flat_length _)) h5, Rw.own h3 (cellsK_length _)⟩
theorem CkOwn.keep {base : Nat} {S : Nat → Prop} {w w' : World} {v : Value} {c : Ck} (h : CkOwn base w v c) (kp : Keep S w w') (hS : ∀ k, base ≤ k → S k) : CkOwn base w' v c := by
  obtain ⟨d, s, k, rfl, h1, h2, h3, h4, h5⟩ := h
  exact ⟨d, s, k, rfl, own_of_block h1 fun j hj => kp.block j (hS j (h1.lt j hj).1), own_of_block h2 fun j hj => kp.block j (hS j (h2.lt j hj).1), own_of_block h3 fun j hj => kp.block j (hS j (h3.lt j hj).1), h4, h5⟩
theorem own_low {w : World} {base base' : Nat} {e : TypeId} {size : Nat} {v : Value} {n : Nat} {xs : List Value} (h : w.ownsRow base e size v n xs) (hb : base' ≤ base) : w.ownsRow base' e size v n xs := by
  refine ⟨h.1, ?_⟩
  rcases h.2 with h2 | ⟨g, cap, cur, h2, h3, h4⟩
  · exact .inl h2
  · exact .inr ⟨g, cap, cur, h2, Nat.le_trans hb h3, h4⟩
theorem CkOwn.low {base base' : Nat} {w : World} {v : Value} {c : Ck} (h : CkOwn base w v c) (hb : base' ≤ base) : CkOwn base' w v c := by
  obtain ⟨d, s, k, rfl, h1, h2, h3, h4, h5⟩ := h
  exact ⟨d, s, k, rfl, own_low h1 hb, own_low h2 hb, own_low h3 hb, h4, h5⟩
theorem CkOwn.zero (base : Nat) (w : World) : CkOwn base w zeroV Ck.zero :=
  ⟨_, _, _, rfl, World.ownsRow_nil _ _ _ _, World.ownsRow_nil _ _ _ _, World.ownsRow_nil _ _ _ _, fun z hz => by simp [Ck.zero] at hz, fun z hz => by simp [Ck.zero] at hz⟩

/-- The cells of a block, none of them frozen. -/
structure Cells (X : Nat) (w : World) (l : List Value) : Prop where
  cell : ∀ j u, l[j]? = some u → w.cell? ⟨X, j, none⟩ = some u
  fz : ∀ j, w.frozen? ⟨X, j, none⟩ = false
theorem Cells.below {X B : Nat} {w w' : World} {l : List Value} (h : Cells X w l) (hb : Below B w w') (hX : X < B) : Cells X w' l :=
  ⟨fun j u hu => (hb.cell (p := ⟨X, j, none⟩) hX).trans (h.cell j u hu), fun j => (hb.frozen (p := ⟨X, j, none⟩) hX).trans (h.fz j)⟩
theorem Cells.keep {S : Nat → Prop} {X : Nat} {w w' : World} {l : List Value} (h : Cells X w l) (hb : Keep S w w') (hX : S X) : Cells X w' l :=
  ⟨fun j u hu => (hb.cell (p := ⟨X, j, none⟩) hX).trans (h.cell j u hu), fun j => (hb.frozen (p := ⟨X, j, none⟩) hX).trans (h.fz j)⟩
theorem Cells.new (w : World) (cs : Array Value) (t : TypeId) : Cells w.heap.size (w.alloc (.cells cs t)) cs.toList :=
  ⟨fun j u hu => by rw [World.cell?_alloc_at _ _ _ _ rfl]; simpa using hu, fun j => World.frozen?_alloc_at _ _ _ _ rfl⟩
theorem Cells.alloc {X : Nat} {w : World} {l : List Value} (h : Cells X w l) (hX : X < w.heap.size) (o : Obj) : Cells X (w.alloc o) l :=
  h.below (box_below w o) hX

end Go.Proofs.Ytnddejdndipddad

namespace Go.Proofs.Ytnddejdndipddad
open Go.RowKit

def spansN (bs : List Int) (i : Nat) : List Sp := (List.range i).map fun j => (be bs (4 + 4 * j), be bs (4 + 4 * j + 2))
theorem spansN_len (bs : List Int) (i : Nat) : (spansN bs i).length = i := by simp [spansN]
theorem spansN_succ (bs : List Int) (i : Nat) : spansN bs (i + 1) = spansN bs i ++ [(be bs (4 + 4 * i), be bs (4 + 4 * i + 2))] := by simp [spansN, List.range_succ]

theorem be_drop (bs : List Int) (d i : Nat) : be (bs.drop d) i = be bs (d + i) := by
  simp only [be, List.getD_eq_getElem?_getD, List.getElem?_drop]
  rfl
theorem spansM_eq (l : List Int) : ∀ n, l.length = 4 * n → spansM l = (List.range n).map fun j => (be l (4 * j), be l (4 * j + 2)) := by
  intro n
  induction n generalizing l with
  | zero => intro h; have := List.eq_nil_of_length_eq_zero h; subst this; rfl
  | succ n ih =>
    intro h
    match l, h with
    | a :: b :: c :: d :: r, h =>
      have hr : r.length = 4 * n := by simp at h; omega
      rw [spansM, ih r hr, List.range_succ_eq_map, List.map_cons, List.map_map]
      congr 1
theorem spansN_eq (bs : List Int) (n : Nat) (h : bs.length = 4 + 4 * n) : spansM (bs.drop 4) = spansN bs n := by
  rw [spansM_eq (bs.drop 4) n (by simp; omega), spansN]
  apply List.map_congr_left
  intro j _
  rw [be_drop, be_drop, Nat.add_assoc]
theorem be_bd {bs : List Int} (h : IsB bs) (i : Nat) : 0 ≤ be bs i ∧ be bs i < 65536 := by
  have : ∀ j, 0 ≤ bs.getD j 0 ∧ bs.getD j 0 < 256 := by
    intro j
    rw [List.getD_eq_getElem?_getD]
    rcases Nat.lt_or_ge j bs.length with hj | hj
    · have := h.get j hj
      simpa [hj] using this
    · simp [List.getElem?_eq_none hj]
  have a := this i
  have b := this (i + 1)
  unfold be
  omega
theorem spansN_fit {bs : List Int} (h : IsB bs) (i : Nat) : Fit (spansN bs i) := by
  intro s hs
  simp only [spansN, List.mem_map] at hs
  obtain ⟨j, _, rfl⟩ := hs
  have a := be_bd h (4 + 4 * j)
  have b := be_bd h (4 + 4 * j + 2)
  exact ⟨by unfold I64; dsimp only; omega, by unfold I64; dsimp only; omega⟩

/-- The zero chunk's cells. -/
abbrev zeroL : List Value := [.int .i64 0, .int .i64 0, .int .i64 0, .int .i64 0, .int .i64 0, .bool false, .bool false, .slice none 0 0, .slice none 0 0, .int .i64 0, .slice none 0 0]

theorem Cells.new' {w : World} {X : Nat} (cs : Array Value) (t : TypeId) (h : X = w.heap.size) : Cells X (w.alloc (.cells cs t)) cs.toList := by
  subst h
  exact Cells.new w cs t
theorem Cells.set {X : Nat} {w : World} {l : List Value} (h : Cells X w l) (i : Nat) (u : Value) (hi : i < l.length) : Cells X (w.setCell ⟨X, i, none⟩ u) (l.set i u) := by
  refine ⟨fun j x hx => ?_, fun j => by simpa using h.fz j⟩
  rw [List.getElem?_set] at hx
  by_cases hj : i = j
  · subst hj
    rw [if_pos rfl, if_pos hi] at hx
    simp only [Option.some.injEq] at hx
    subst hx
    exact World.cell?_setCell_same' _ _ _ (by rw [h.cell i l[i] (by simp [hi])]; rfl)
  · rw [if_neg hj] at hx
    rw [World.cell?_setCell_other _ _ _ _ (by simp <;> omega)]
    exact h.cell j x hx

/-- A call of a function value without arguments, as a step of a region. -/
theorem step_call0 {ops : Array Oper} {o : Oper} {a : Act} {w : World} {K : Act → World → Prop} {Q : Exit → Act → World → Prop} {E : Prop} (hg : o.guard = none) (t : Tmp)
    (hop : o.op = Op.call { callee := Callee.value (.tmp t), args := #[], argTypes := #[] }) (f : FuncId) (caps : Array Value) (hf : a.eval (.tmp t) = .func (.func f) #[] caps)
    (hent : ∀ (args : Array Value) (wx : World), (callFunc f args).run Try.prog wx = .ok (.enter f args) wx) (R : Value → World → Prop) (hc : Calls Try.prog f caps w fun e w' => ∃ v, e = .returned v ∧ R v w')
    (hK : ∀ v w', R v w' → K (a.put o.dst v) w') : if Region.wanted o (yielded ops a.tmps) = true then Oper.wp Try.prog o a w K Q else E := by
  have hw : Region.wanted o (yielded ops a.tmps) = true := by simp [Region.wanted, hg]
  rw [if_pos hw]
  unfold Oper.wp
  simp [execOp, hop, resolve, invoke, hf, hent, Deferred.ofValue, Oper.upon]
  refine hc.mono ?_
  rintro e w' ⟨v, rfl, hr⟩
  exact hK v w' hr

theorem Rw.lit2 (w : World) (u x : Value) (t : TypeId) : Rw 2 (w.heap.size + 1) (w.alloc (.cells #[u, x] t)) (.slice (some ⟨w.heap.size, 0, none⟩) 1 1) 1 [u, x] := by
  refine ⟨rfl, some ⟨w.heap.size, 0, none⟩, 1, rfl, Nat.le_refl _, by omega, fun h => by simp at h, fun _ => ⟨w.heap.size, 0, rfl, by omega, fun j y hy => ?_⟩⟩
  match j, hy with
  | 0, hy => simp at hy; subst hy; rw [World.cell?_alloc_at _ _ _ _ rfl]; rfl
  | 1, hy => simp at hy; subst hy; rw [World.cell?_alloc_at _ _ _ _ rfl]; rfl
end Go.Proofs.Ytnddejdndipddad

namespace Go.Proofs.Ytnddejdndipddad
open Go.RowKit

theorem new_at {w : World} {X j : Nat} {u : Value} (h : w.cell? ⟨X, j, none⟩ = some u) (o : Obj) : (w.alloc o).cell? ⟨X, j, none⟩ = some u := by
  rw [World.cell?_alloc_past _ _ _ (World.block_lt_of_cell? _ _ h)]; exact h
end Go.Proofs.Ytnddejdndipddad

namespace Go.Proofs.Ytnddejdndipddad
open Go.RowKit

theorem Try.info98 : (Try.prog.info? 98).map (fun i => (i.zero, i.size, i.bytes)) = some (some (.agg #[.int .i64 0, .int .i64 0, .bool false]), 3, 24) := by kernel_rfl

end Go.Proofs.Ytnddejdndipddad

namespace Go.Proofs.Ytnddejdndipddad
open Go.RowKit

theorem run_re_lh (a : Option Addr) (n cap lo d : Nat) (z : Int) (hz : z = (lo : Int) + d) (h : lo + d ≤ n) (h' : n ≤ cap) (wx : World) : (Instr.slice 38 (.slice a n cap) (some (.int .i64 (lo : Int))) (some (.int .i64 z)) none).run Try.prog wx = .ok (.slice (reK 1 a cap lo) d (cap - lo)) wx := by
  subst hz
  have h1 : (0 : Int) ≤ lo := by omega
  have h2 : (lo : Int) ≤ lo + d := by omega
  have h3 : (lo : Int) + d ≤ cap := by omega
  rw [run_slice_lh wx 38 a n cap Try.underlying38 .i64 .i64 (lo : Int) ((lo : Int) + d) h1 h2 h3]
  go_simp
  simp [reK]
  omega

theorem CkOwn.alloc {base : Nat} {w : World} {v : Value} {c : Ck} (h : CkOwn base w v c) (o : Obj) : CkOwn base (w.alloc o) v c := by
  obtain ⟨d, s, k, rfl, h1, h2, h3, h4, h5⟩ := h
  exact ⟨d, s, k, rfl, h1.alloc o, h2.alloc o, h3.alloc o, h4, h5⟩

end Go.Proofs.Ytnddejdndipddad

namespace Go.Proofs.Ytnddejdndipddad

theorem IsB.of {a : Int} {l : List Int} (h : IsB (a :: l)) : (0 ≤ a ∧ a < 256) ∧ IsB l := ⟨h a (by simp), fun z hz => h z (by simp [hz])⟩

end Go.Proofs.Ytnddejdndipddad

namespace Go.Proofs.Ytnddejdndipddad
open Go.RowKit

theorem By.drewN {B : Nat} {w : World} {v : Value} {bs : List Int} (h : By B w v bs) (n : Nat) : By B (w.drewN n) v bs := h.below (B' := B) ⟨rfl, rfl, rfl, Nat.le_refl _, fun _ _ => rfl⟩ (Nat.le_refl _)

theorem By.head {B : Nat} {w : World} {a : Option Addr} {n cap : Nat} {bs : List Int} (h : By B w (.slice a n cap) bs) (d : Nat) (h2 : d ≤ bs.length) : By B w (.slice a d cap) (bs.take d) := by
  have := h.re 0 d (by omega)
  rw [List.drop_zero, Nat.sub_zero] at this
  have e : reK 1 a cap 0 = a := by simp [reK, Addr.add]
  rwa [e] at this

end Go.Proofs.Ytnddejdndipddad

namespace Go.Proofs.Ytnddejdndipddad
open Go.ChangeShapes Go.WideShapes Go.ChangeAt Go.RowKit

theorem Try.cells4 : Try.prog.cellsOf 4 = 1 := by kernel_rfl
theorem Try.cells5 : Try.prog.cellsOf 5 = 1 := by kernel_rfl
theorem Try.bytes5 : Try.prog.bytesOf 5 = 1 := by kernel_rfl
theorem Try.cells38 : Try.prog.cellsOf 38 = 1 := by kernel_rfl
theorem Try.cells39 : Try.prog.cellsOf 39 = 1 := by kernel_rfl
theorem Try.cells40 : Try.prog.cellsOf 40 = 1 := by kernel_rfl
theorem Try.cellsSp : Try.prog.cellsOf 75 = 2 := by kernel_rfl
theorem Try.cells98 : Try.prog.cellsOf 98 = 3 := by kernel_rfl
theorem Try.cells42 : Try.prog.cellsOf 42 = 11 := by kernel_rfl

instance : Inhabited Sk := ⟨⟨0, 0, false⟩⟩
theorem add_add (x : Addr) (p j : Nat) : (x.add p).add j = x.add (p + j) := by
  by_cases hp : p = 0
  · by_cases hj : j = 0
    · simp [Addr.add, hp, hj]
    · simp [Addr.add, hp]
  · by_cases hj : j = 0
    · simp [Addr.add, hj]
    · simp [Addr.add, hp, hj, Nat.add_assoc]

section
variable {H : Type} {enc : TypeId × Value → H} {w : World} {held : Bool}

/-- Bytes that came in, as cells. -/
theorem bytes_in {x : DataW H × List MemPlace} {fuel : Nat} {cs : List Value} (h : DataW.trod enc Try.prog w 0 (fun _ => true) held fuel 38 cs = some x) :
    ∃ v bs, cs = [v] ∧ By w.heap.size w v bs ∧ IsSl v ∧ ∀ B, (∀ es sp, x.1 = .slice es sp → es.length + sp.length ≤ B) → bs.length ≤ B := by
  rcases open_ints Try.underlying38 Try.underlying5 Try.cells5 h with ⟨hcs, _⟩ | ⟨x', l, c, zs, hcs, _, hl, hm, hz, hx, hcell, hwz⟩
  · exact ⟨_, [], hcs, By.nil _ _, isl, fun B _ => Nat.zero_le _⟩
  · simp only [if_true] at hz
    have hlen : (zs.take l).length = l := by simp; omega
    refine ⟨_, zs.take l, hcs, ⟨?_, fun z hz => ?_⟩, isl, ?_⟩
    · rw [hlen]
      refine ⟨by simp [cellsB]; omega, some x', c, rfl, hl, by unfold maxLen at hm; omega, fun h => by simp at h, fun hn => ?_⟩
      have hpos : 0 < zs.length := by omega
      have hlt : x'.block < w.heap.size := by
        have := World.block_lt_of_cell? _ _ (hcell 0 hpos)
        simpa [Addr.add] using this
      obtain ⟨b, off, spot⟩ := x'
      have hspot : spot = none := by simpa [Addr.add] using World.cell?_spot (hcell 0 hpos)
      subst hspot
      refine ⟨b, off, rfl, hlt, fun j u hu => ?_⟩
      have hj : j < l := by have := (List.getElem?_eq_some_iff.1 hu).1; simp [cellsB] at this; omega
      have hc := hcell j (by omega)
      rw [add_plain] at hc
      rw [hc]
      simp only [cellsB, List.getElem?_map, List.getElem?_take, hj, if_true, List.getElem?_eq_getElem (show j < zs.length by omega), Option.map_some, Option.some.injEq] at hu
      rw [← hu, List.getD_eq_getElem?_getD, List.getElem?_eq_getElem (show j < zs.length by omega)]
      rfl
    · have := bounds_u8 (hwz z (List.mem_of_mem_take hz))
      omega
    · intro B hB
      have := hB _ _ (Prod.ext_iff.1 hx).1
      simp [lits] at this
      rw [hlen]
      omega

theorem spans_in {x : DataW H × List MemPlace} {fuel : Nat} {cs : List Value} (h : DataW.trod enc Try.prog w 0 (fun _ => true) held fuel 39 cs = some x) : ∃ v l, cs = [v] ∧ Sl w.heap.size w v l := by
  rcases Deep.open_slice_pairs Try.underlying39 Try.underlying75 Try.cellsSp rfl rfl Try.cells3 Try.cells3 h with ⟨hcs, _⟩ | ⟨x, l, c, m, n, V0, V1, D0, D1, P0, P1, hcs, hb, hl, hm, hmm, hx, hcell⟩
  · exact ⟨_, [], hcs, Sl.nil' _ _⟩
  · simp only [if_true] at hmm
    subst hmm
    have each : ∀ i, i < m → ∃ q : Int × Int, V0 i = .int .i64 q.1 ∧ V1 i = .int .i64 q.2 ∧ I64 q.1 ∧ I64 q.2 := by
      intro i hi
      obtain ⟨_, _, g0, g1⟩ := hcell i hi
      obtain ⟨z0, e0, _, w0⟩ := DataW.trod_int Try.underlying3 g0
      obtain ⟨z1, e1, _, w1⟩ := DataW.trod_int Try.underlying3 g1
      simp at e0 e1
      exact ⟨(z0, z1), e0, e1, wf_I64 w0, wf_I64 w1⟩
    obtain ⟨q, hq⟩ := Deep.choose_lt each
    refine ⟨_, (List.range l).map q, hcs, ⟨some x, m, by simp, by simpa using hl, by unfold maxLen at hm; omega, fun h => by simp at h, ?_, fun hn => ?_⟩⟩
    · intro s hs
      obtain ⟨i, hi, rfl⟩ := List.mem_map.1 hs
      have := hq i (by have := List.mem_range.1 hi; omega)
      exact ⟨this.2.2.1, this.2.2.2⟩
    · have hpos : 0 < l := by
        rcases Nat.eq_zero_or_pos l with h0 | h0
        · subst h0; exact absurd rfl hn
        · exact h0
      have c0 := (hcell 0 (by omega)).1
      rw [Nat.zero_mul] at c0
      obtain ⟨b, off, spot⟩ := x
      have hspot : spot = none := by simpa [Addr.add] using World.cell?_spot c0
      subst hspot
      refine ⟨b, off, rfl, by have := World.block_lt_of_cell? _ _ c0; simpa [Addr.add] using this, fun k s hs => ?_⟩
      have hk : k < l := by simpa using (List.getElem?_eq_some_iff.1 hs).1
      have hks : q k = s := by simpa [hk] using hs
      have g := hcell k (by omega)
      have e := hq k (by omega)
      rw [add_plain, e.1, hks] at g
      rw [add_plain, e.2.1, hks, ← Nat.add_assoc] at g
      exact ⟨g.1, g.2.1⟩

theorem skip_in {x : DataW H × List MemPlace} {fuel : Nat} {cs : List Value} (h : DataW.trod enc Try.prog w 0 (fun _ => true) held fuel 98 cs = some x) : ∃ s : Sk, cs = [.int .i64 s.stream, .int .i64 s.mid, .bool s.ordered] := by
  obtain ⟨xs, m, _, _, hl, hxl, hf⟩ := DataW.trod_struct Try.underlying98 h
  rw [Try.cells98] at hl
  have hxl3 : xs.length = 3 := hxl
  match cs, hl with
  | [c0, c1, c2], _ =>
    have f0 : DataW.trod enc Try.prog w 0 (fun _ => true) held m 3 (([c0, c1, c2].drop 0).take (Try.prog.cellsOf 3)) = xs[0]? := hf 0 _ rfl
    have f1 : DataW.trod enc Try.prog w 0 (fun _ => true) held m 3 (([c0, c1, c2].drop 1).take (Try.prog.cellsOf 3)) = xs[1]? := hf 1 _ rfl
    have f2 : DataW.trod enc Try.prog w 0 (fun _ => true) held m 4 (([c0, c1, c2].drop 2).take (Try.prog.cellsOf 4)) = xs[2]? := hf 2 _ rfl
    rw [Try.cells3] at f0 f1
    rw [Try.cells4] at f2
    rw [List.getElem?_eq_getElem (by omega)] at f0 f1 f2
    obtain ⟨z0, e0, _, _⟩ := DataW.trod_int Try.underlying3 f0
    obtain ⟨z1, e1, _, _⟩ := DataW.trod_int Try.underlying3 f1
    obtain ⟨z2, e2, _⟩ := DataW.trod_bool Try.underlying4 f2
    simp at e0 e1 e2
    exact ⟨⟨z0, z1, z2⟩, by rw [e0, e1, e2]⟩

theorem skips_in {x : DataW H × List MemPlace} {fuel : Nat} {cs : List Value} (h : DataW.trod enc Try.prog w 0 (fun _ => true) held fuel 40 cs = some x) : ∃ v l, cs = [v] ∧ Kl w.heap.size w v l := by
  rcases Deep.open_slice Try.underlying40 h with ⟨hcs, _⟩ | ⟨x, l, c, m, n, D, Pl, hcs, hb, hl, hm, hmm, hx, hcell⟩
  · exact ⟨_, [], hcs, Kl.nil _ _⟩
  · simp only [if_true] at hmm
    subst hmm
    have each : ∀ i, i < m → ∃ s : Sk, ∀ j u, [Value.int .i64 s.stream, .int .i64 s.mid, .bool s.ordered][j]? = some u → w.cell? (x.add (i * 3 + j)) = some u := by
      intro i hi
      obtain ⟨cs', hc, ht⟩ := hcell i hi
      rw [Try.cells98] at hc
      obtain ⟨s, rfl⟩ := skip_in ht
      obtain ⟨_, _, hcc⟩ := World.cells?_some hc
      refine ⟨s, fun j u hu => ?_⟩
      have hj : j < 3 := by have := (List.getElem?_eq_some_iff.1 hu).1; simpa using this
      have := hcc j hj
      rw [hu] at this
      rw [← this, add_add]
    obtain ⟨q, hq⟩ := Deep.choose_lt each
    refine ⟨_, (List.range l).map q, hcs, ⟨?_, some x, m, by simp, by simpa using hl, by unfold maxLen at hm; omega, fun h => by simp at h, fun hn => ?_⟩⟩
    · rw [cellsK_length]
    · have hpos : 0 < l := by simp at hn; omega
      have c0 := hq 0 (by omega) 0 _ rfl
      rw [Nat.zero_mul] at c0
      obtain ⟨b, off, spot⟩ := x
      have hspot : spot = none := by simpa [Addr.add] using World.cell?_spot c0
      subst hspot
      refine ⟨b, off, rfl, by have := World.block_lt_of_cell? _ _ c0; simpa [Addr.add] using this, fun k u hu => ?_⟩
      have hkl : k < l * 3 := by have := (List.getElem?_eq_some_iff.1 hu).1; rw [cellsK_length] at this; simpa using this
      have hk : k / 3 < l := by omega
      have hg := cellsK_get ((List.range l).map q) (k / 3) (by simpa using hk)
      have e : ((List.range l).map q)[k / 3]'(by simpa using hk) = q (k / 3) := by simp
      rw [e] at hg
      have hh := hq (k / 3) (by omega) (k % 3) u
      rw [add_plain, show k / 3 * 3 + k % 3 = k by omega] at hh
      refine hh ?_
      rcases (show k % 3 = 0 ∨ k % 3 = 1 ∨ k % 3 = 2 by omega) with r | r | r
      · rw [r, ← hu, show k = k / 3 * 3 by omega, show k / 3 * 3 / 3 = k / 3 by omega]
        exact hg.1.symm
      · rw [r, ← hu, show k = k / 3 * 3 + 1 by omega, show (k / 3 * 3 + 1) / 3 = k / 3 by omega]
        exact hg.2.1.symm
      · rw [r, ← hu, show k = k / 3 * 3 + 2 by omega, show (k / 3 * 3 + 2) / 3 = k / 3 by omega]
        exact hg.2.2.symm

/-- A chunk that came in. -/
theorem chunk_in {v : Value} {d : DataW H} {p : List MemPlace} (h : DataW.Trod enc Try.prog w 0 (fun _ => true) held 42 v d p) : ∃ c, CkV w.heap.size w v c := by
  obtain ⟨fuel, h⟩ := h
  obtain ⟨xs, m, _, _, hl, hxl, hf⟩ := DataW.trod_struct Try.underlying42 h
  rw [Try.cells42] at hl
  have hxl3 : xs.length = 11 := hxl
  obtain ⟨cs, rfl⟩ : ∃ cs, v = .agg cs := by
    cases v with
    | agg cs => exact ⟨cs, rfl⟩
    | _ => simp [Value.cells] at hl
  have hcl : cs.toList.length = 11 := hl
  obtain ⟨l, rfl⟩ : ∃ l : List Value, cs = l.toArray := ⟨cs.toList, rfl⟩
  match l, hcl with
  | [c0, c1, c2, c3, c4, c5, c6, c7, c8, c9, c10], _ =>
    have f0 : DataW.trod enc Try.prog w 0 (fun _ => true) held m 3 (([c0, c1, c2, c3, c4, c5, c6, c7, c8, c9, c10].drop 0).take (Try.prog.cellsOf 3)) = xs[0]? := hf 0 _ rfl
    have f1 : DataW.trod enc Try.prog w 0 (fun _ => true) held m 3 (([c0, c1, c2, c3, c4, c5, c6, c7, c8, c9, c10].drop 1).take (Try.prog.cellsOf 3)) = xs[1]? := hf 1 _ rfl
    have f2 : DataW.trod enc Try.prog w 0 (fun _ => true) held m 3 (([c0, c1, c2, c3, c4, c5, c6, c7, c8, c9, c10].drop 2).take (Try.prog.cellsOf 3)) = xs[2]? := hf 2 _ rfl
    have f3 : DataW.trod enc Try.prog w 0 (fun _ => true) held m 3 (([c0, c1, c2, c3, c4, c5, c6, c7, c8, c9, c10].drop 3).take (Try.prog.cellsOf 3)) = xs[3]? := hf 3 _ rfl
    have f4 : DataW.trod enc Try.prog w 0 (fun _ => true) held m 3 (([c0, c1, c2, c3, c4, c5, c6, c7, c8, c9, c10].drop 4).take (Try.prog.cellsOf 3)) = xs[4]? := hf 4 _ rfl
    have f5 : DataW.trod enc Try.prog w 0 (fun _ => true) held m 4 (([c0, c1, c2, c3, c4, c5, c6, c7, c8, c9, c10].drop 5).take (Try.prog.cellsOf 4)) = xs[5]? := hf 5 _ rfl
    have f6 : DataW.trod enc Try.prog w 0 (fun _ => true) held m 4 (([c0, c1, c2, c3, c4, c5, c6, c7, c8, c9, c10].drop 6).take (Try.prog.cellsOf 4)) = xs[6]? := hf 6 _ rfl
    have f7 : DataW.trod enc Try.prog w 0 (fun _ => true) held m 38 (([c0, c1, c2, c3, c4, c5, c6, c7, c8, c9, c10].drop 7).take (Try.prog.cellsOf 38)) = xs[7]? := hf 7 _ rfl
    have f8 : DataW.trod enc Try.prog w 0 (fun _ => true) held m 39 (([c0, c1, c2, c3, c4, c5, c6, c7, c8, c9, c10].drop 8).take (Try.prog.cellsOf 39)) = xs[8]? := hf 8 _ rfl
    have f9 : DataW.trod enc Try.prog w 0 (fun _ => true) held m 3 (([c0, c1, c2, c3, c4, c5, c6, c7, c8, c9, c10].drop 9).take (Try.prog.cellsOf 3)) = xs[9]? := hf 9 _ rfl
    have f10 : DataW.trod enc Try.prog w 0 (fun _ => true) held m 40 (([c0, c1, c2, c3, c4, c5, c6, c7, c8, c9, c10].drop 10).take (Try.prog.cellsOf 40)) = xs[10]? := hf 10 _ rfl
    rw [Try.cells3] at f0 f1 f2 f3 f4 f9
    rw [Try.cells4] at f5 f6
    rw [Try.cells38] at f7
    rw [Try.cells39] at f8
    rw [Try.cells40] at f10
    rw [List.getElem?_eq_getElem (by omega)] at f0 f1 f2 f3 f4 f5 f6 f7 f8 f9 f10
    obtain ⟨z0, e0, _, _⟩ := DataW.trod_int Try.underlying3 f0
    obtain ⟨z1, e1, _, _⟩ := DataW.trod_int Try.underlying3 f1
    obtain ⟨z2, e2, _, _⟩ := DataW.trod_int Try.underlying3 f2
    obtain ⟨z3, e3, _, _⟩ := DataW.trod_int Try.underlying3 f3
    obtain ⟨z4, e4, _, _⟩ := DataW.trod_int Try.underlying3 f4
    obtain ⟨z5, e5, _⟩ := DataW.trod_bool Try.underlying4 f5
    obtain ⟨z6, e6, _⟩ := DataW.trod_bool Try.underlying4 f6
    obtain ⟨v7, l7, e7, h7, _, _⟩ := bytes_in f7
    obtain ⟨v8, l8, e8, h8⟩ := spans_in f8
    obtain ⟨z9, e9, _, _⟩ := DataW.trod_int Try.underlying3 f9
    obtain ⟨v10, l10, e10, h10⟩ := skips_in f10
    simp at e0 e1 e2 e3 e4 e5 e6 e7 e8 e9 e10
    subst e0 e1 e2 e3 e4 e5 e6 e7 e8 e9 e10
    exact ⟨⟨z0, z1, z2, z3, z4, z5, z6, l7, l8, z9, l10⟩, _, _, _, rfl, h7, h8, h10⟩
end
end Go.Proofs.Ytnddejdndipddad

namespace Go.Proofs.Ytnddejdndipddad
open Go.RowKit

/-- The cells of values, in a row. -/
def flatA (vs : List Value) : List Value := vs.flatMap fun v => v.cells.toList
theorem flatA_append (a b : List Value) : flatA (a ++ b) = flatA a ++ flatA b := by simp [flatA]
theorem flatA_cons (v : Value) (b : List Value) : flatA (v :: b) = v.cells.toList ++ flatA b := rfl

/-- Values and chunks, in turn. -/
def Each (R : Value → Ck → Prop) : List Value → List Ck → Prop
  | [], [] => True
  | v :: vs, c :: l => R v c ∧ Each R vs l
  | _, _ => False
theorem Each.len {R : Value → Ck → Prop} : ∀ {vs : List Value} {l : List Ck}, Each R vs l → vs.length = l.length
  | [], [], _ => rfl
  | _ :: _, _ :: _, h => by simp [Each.len h.2]
  | [], _ :: _, h => h.elim
  | _ :: _, [], h => h.elim
theorem Each.imp {R R' : Value → Ck → Prop} (hr : ∀ v c, R v c → R' v c) : ∀ {vs : List Value} {l : List Ck}, Each R vs l → Each R' vs l
  | [], [], _ => trivial
  | _ :: _, _ :: _, h => ⟨hr _ _ h.1, Each.imp hr h.2⟩
  | [], _ :: _, h => h.elim
  | _ :: _, [], h => h.elim
theorem Each.append {R : Value → Ck → Prop} : ∀ {vs vs' : List Value} {l l' : List Ck}, Each R vs l → Each R vs' l' → Each R (vs ++ vs') (l ++ l')
  | [], _, [], _, _, h' => h'
  | _ :: _, _, _ :: _, _, h, h' => ⟨h.1, Each.append h.2 h'⟩
  | [], _, _ :: _, _, h, _ => h.elim
  | _ :: _, _, [], _, h, _ => h.elim
theorem Each.take {R : Value → Ck → Prop} : ∀ {vs : List Value} {l : List Ck} (k : Nat), Each R vs l → Each R (vs.take k) (l.take k)
  | _, _, 0, _ => by simp [Each]
  | [], [], _ + 1, _ => trivial
  | _ :: _, _ :: _, k + 1, h => ⟨h.1, Each.take k h.2⟩
  | [], _ :: _, _ + 1, h => h.elim
  | _ :: _, [], _ + 1, h => h.elim
theorem Each.get {R : Value → Ck → Prop} : ∀ {vs : List Value} {l : List Ck} (k : Nat) (_ : k < l.length), Each R vs l → ∃ v, vs[k]? = some v ∧ R v l[k]
  | _ :: _, _ :: _, 0, _, h => ⟨_, rfl, h.1⟩
  | _ :: _, _ :: _, k + 1, hk, h => by
    obtain ⟨v, e, g⟩ := Each.get k (by simpa using hk) h.2
    exact ⟨v, by simpa using e, by simpa using g⟩
  | [], _ :: _, _, _, h => h.elim
  | _, [], _, hk, _ => by simp at hk
theorem Each.of {R : Value → Ck → Prop} : ∀ {vs : List Value} {l : List Ck}, vs.length = l.length → (∀ (k : Nat) v c, vs[k]? = some v → l[k]? = some c → R v c) → Each R vs l
  | [], [], _, _ => trivial
  | _ :: _, _ :: _, h, g => ⟨g 0 _ _ rfl rfl, Each.of (by simpa using h) fun k v c e e' => g (k + 1) v c (by simpa using e) (by simpa using e')⟩
  | [], _ :: _, h, _ => by simp at h
  | _ :: _, [], h, _ => by simp at h

/-- Eleven cells each. -/
theorem Each.flat {R : Value → Ck → Prop} (hr : ∀ v c, R v c → v.cells.toList.length = 11) : ∀ {vs : List Value} {l : List Ck}, Each R vs l → (flatA vs).length = l.length * 11 ∧ (∀ k v i, vs[k]? = some v → i < 11 → (flatA vs)[k * 11 + i]? = v.cells.toList[i]?) ∧ ∀ k, flatA (vs.take k) = (flatA vs).take (k * 11)
  | [], [], _ => ⟨rfl, fun k v i h => by simp at h, fun k => by simp [flatA]⟩
  | v :: vs, c :: l, h => by
    have h1 := hr _ _ h.1
    obtain ⟨g1, g2, g3⟩ := Each.flat hr h.2
    refine ⟨?_, fun k u i e hi => ?_, fun k => ?_⟩
    · rw [flatA_cons, List.length_append, h1, g1, List.length_cons]; omega
    · cases k with
      | zero =>
        simp at e
        subst e
        rw [flatA_cons, List.getElem?_append_left (by omega), Nat.zero_mul, Nat.zero_add]
      | succ k =>
        rw [flatA_cons, List.getElem?_append_right (by omega), h1, show (k + 1) * 11 + i - 11 = k * 11 + i by omega]
        exact g2 k u i (by simpa using e) hi
    · cases k with
      | zero => simp [flatA]
      | succ k =>
        rw [List.take_succ_cons, flatA_cons, flatA_cons, g3 k, List.take_append, h1, show (k + 1) * 11 - 11 = k * 11 by omega, List.take_of_length_le (l := v.cells.toList) (by omega)]
  | [], _ :: _, h => h.elim
  | _ :: _, [], h => h.elim

theorem CkV.eleven {B : Nat} {w : World} (v : Value) (c : Ck) (h : CkV B w v c) : v.cells.toList.length = 11 := by
  obtain ⟨d, s, k, rfl, -⟩ := h
  rfl

/-- A slice value that is these chunks; it and their lists lie below block B. -/
def CkS (B : Nat) (w : World) (v : Value) (l : List Ck) : Prop := ∃ vs, Each (CkV B w) vs l ∧ Rw 11 B w v l.length (flatA vs)

theorem CkS.below {B B' : Nat} {w w' : World} {v : Value} {l : List Ck} (h : CkS B w v l) (hb : Below B' w w') (hB : B ≤ B') : CkS B w' v l := by
  obtain ⟨vs, h1, h2⟩ := h
  exact ⟨vs, h1.imp fun _ _ h => h.below hb hB, h2.below hb hB⟩
theorem CkS.mono {B B' : Nat} {w : World} {v : Value} {l : List Ck} (h : CkS B w v l) (hB : B ≤ B') : CkS B' w v l := by
  obtain ⟨vs, h1, h2⟩ := h
  exact ⟨vs, h1.imp fun _ _ h => h.mono hB, h2.mono hB⟩
theorem CkS.size {B : Nat} {w w' : World} {v : Value} {l : List Ck} (h : CkS w.heap.size w v l) (hb : Below B w w') (hB : w.heap.size ≤ B) : CkS w'.heap.size w' v l := (h.below hb hB).mono hb.size
theorem CkS.nil (B : Nat) (w : World) : CkS B w (.slice none 0 0) [] := ⟨[], trivial, Rw.nil 11 B w⟩
theorem CkS.ex {B : Nat} {w : World} {v : Value} {l : List Ck} (h : CkS B w v l) : ∃ a cap, v = .slice a l.length cap ∧ l.length ≤ cap ∧ cap ≤ 9223372036854775807 := by
  obtain ⟨vs, _, _, a, cap, rfl, h1, h2, _⟩ := h
  exact ⟨a, cap, rfl, h1, h2⟩
theorem CkS.head {B : Nat} {w : World} {a : Option Addr} {n cap : Nat} {l : List Ck} (h : CkS B w (.slice a n cap) l) (d : Nat) (h2 : d ≤ l.length) : CkS B w (.slice a d cap) (l.take d) := by
  obtain ⟨vs, h1, hr⟩ := h
  have hn := hr.len.1
  subst hn
  have hf := Each.flat CkV.eleven h1
  have := hr.re 0 d (by omega)
  rw [Nat.zero_mul, List.drop_zero, Nat.sub_zero, show reK 11 a cap 0 = a by simp [reK, Addr.add], ← hf.2.2 d] at this
  refine ⟨vs.take d, h1.take d, ?_⟩
  rw [show (l.take d).length = d by simp; omega]
  exact this

/-- A place in a slice of chunks. -/
theorem CkS.at {B : Nat} {w : World} {a : Option Addr} {n cap : Nat} {l : List Ck} (h : CkS B w (.slice a n cap) l) (k : Nat) (hk : k < l.length) :
    ∃ b off d s q, b < B ∧ (∀ wx, (Instr.indexAt 37 (.slice a n cap) (.int .i64 (k : Int))).run Try.prog wx = .ok (.pointer (some ⟨b, off, none⟩)) wx) ∧ CkV B w (ckVal l[k] d s q) l[k] ∧ IsSl d ∧ IsSl s ∧ IsSl q ∧
      (w.cell? ⟨b, off, none⟩ = some (.int .i64 l[k].kind) ∧ w.cell? ⟨b, off + 1, none⟩ = some (.int .i64 l[k].tag) ∧ w.cell? ⟨b, off + 2, none⟩ = some (.int .i64 l[k].stream) ∧ w.cell? ⟨b, off + 3, none⟩ = some (.int .i64 l[k].mid) ∧ w.cell? ⟨b, off + 4, none⟩ = some (.int .i64 l[k].part) ∧
       w.cell? ⟨b, off + 5, none⟩ = some (.bool l[k].last) ∧ w.cell? ⟨b, off + 6, none⟩ = some (.bool l[k].ordered) ∧ w.cell? ⟨b, off + 7, none⟩ = some d ∧ w.cell? ⟨b, off + 8, none⟩ = some s ∧ w.cell? ⟨b, off + 9, none⟩ = some (.int .i64 l[k].room) ∧ w.cell? ⟨b, off + 10, none⟩ = some q) := by
  obtain ⟨vs, h1, hl, a', cap', he, g1, g2, g0, g4⟩ := h
  simp only [Value.slice.injEq] at he
  obtain ⟨rfl, rfl, rfl⟩ := he
  have hf := (Each.flat CkV.eleven h1).2.1
  obtain ⟨v, hv, hc⟩ := h1.get k hk
  obtain ⟨b, off, rfl, hb, hat⟩ := g4 (by omega)
  have hc' := hc
  obtain ⟨d, s, q, rfl, hd, hs, hq⟩ := hc'
  have i1 : IsSl d := by obtain ⟨_, _, rfl, _⟩ := hd.ex; exact isl
  have i2 : IsSl s := by obtain ⟨_, _, rfl⟩ := hs.ex; exact isl
  have i3 : IsSl q := by obtain ⟨_, _, rfl, _⟩ := hq.ex; exact isl
  clear hd hs hq
  have e : ∀ i u, i < 11 → (ckVal l[k] d s q).cells.toList[i]? = some u → w.cell? ⟨b, off + k * 11 + i, none⟩ = some u := by
    intro i u hi hu
    rw [Nat.add_assoc]
    exact hat _ _ ((hf k _ i hv hi).trans hu)
  refine ⟨b, off + k * 11, d, s, q, hb, fun wx => ?_, hc, i1, i2, i3, e 0 _ (by omega) rfl, e 1 _ (by omega) rfl, e 2 _ (by omega) rfl, e 3 _ (by omega) rfl, e 4 _ (by omega) rfl, e 5 _ (by omega) rfl, e 6 _ (by omega) rfl, e 7 _ (by omega) rfl, e 8 _ (by omega) rfl, e 9 _ (by omega) rfl, e 10 _ (by omega) rfl⟩
  have : (k : Int) < l.length := by omega
  go_simp

/-- A slice value whose cells lie in blocks of S. -/
def InS (S : Nat → Prop) (v : Value) : Prop := ∀ b off sp n cap, v = .slice (some ⟨b, off, sp⟩) n cap → n ≠ 0 → S b
theorem InS.mono {S S' : Nat → Prop} {v : Value} (h : InS S v) (hs : ∀ k, S k → S' k) : InS S' v := fun b off sp n cap e hn => hs _ (h b off sp n cap e hn)
theorem Rw.keep {k B B' : Nat} {S : Nat → Prop} {w w' : World} {v : Value} {n : Nat} {xs : List Value} (h : Rw k B w v n xs) (hi : InS S v) (kp : Keep S w w') (hB : B ≤ B') : Rw k B' w' v n xs := by
  obtain ⟨hl, a, cap, rfl, h1, h2, h0, h4⟩ := h
  refine ⟨hl, a, cap, rfl, h1, h2, h0, fun hn => ?_⟩
  obtain ⟨b, off, rfl, hb, hat⟩ := h4 hn
  exact ⟨b, off, rfl, by omega, fun j u hu => (kp.cell (p := ⟨b, off + j, none⟩) (hi _ _ _ _ _ rfl hn)).trans (hat j u hu)⟩
theorem InS.own {w : World} {base : Nat} {e : TypeId} {size : Nat} {v : Value} {n : Nat} {xs : List Value} (h : w.ownsRow base e size v n xs) : InS (fun k => base ≤ k ∧ k < w.heap.size) v := by
  rintro b off sp n cap rfl hn
  rcases h.2 with ⟨h2, _⟩ | ⟨g, cap', cur, e, h3⟩
  · simp at h2
  · simp only [Value.slice.injEq, Option.some.injEq, Addr.mk.injEq] at e
    obtain ⟨⟨rfl, rfl, rfl⟩, _, rfl⟩ := e
    exact h.lt b rfl

/-- A value that is this chunk; its lists lie in blocks of S. -/
def CkI (S : Nat → Prop) (w : World) (v : Value) (c : Ck) : Prop := CkV w.heap.size w v c ∧ ∃ d s k, v = ckVal c d s k ∧ InS S d ∧ InS S s ∧ InS S k
theorem CkI.keep {S : Nat → Prop} {w w' : World} {v : Value} {c : Ck} (h : CkI S w v c) (kp : Keep S w w') : CkI S w' v c := by
  obtain ⟨⟨d, s, k, rfl, h1, h2, h3⟩, d', s', k', e, i1, i2, i3⟩ := h
  simp only [ckVal, Value.agg.injEq, Array.mk.injEq, List.cons.injEq, true_and, and_true] at e
  obtain ⟨rfl, rfl, rfl⟩ := e
  exact ⟨⟨d, s, k, rfl, ⟨h1.1.keep i1 kp kp.size, h1.2⟩, Sl.of_rw (h2.rw'.keep i2 kp kp.size) (by obtain ⟨_, _, _, _, _, _, h, _⟩ := h2; exact h), Rw.keep h3 i3 kp kp.size⟩, d, s, k, rfl, i1, i2, i3⟩
theorem CkI.mono {S S' : Nat → Prop} {w : World} {v : Value} {c : Ck} (h : CkI S w v c) (hs : ∀ k, S k → S' k) : CkI S' w v c := by
  obtain ⟨h0, d, s, k, e, i1, i2, i3⟩ := h
  exact ⟨h0, d, s, k, e, i1.mono hs, i2.mono hs, i3.mono hs⟩
theorem CkI.of {base : Nat} {w : World} {v : Value} {c : Ck} (h : CkOwn base w v c) : CkI (fun k => base ≤ k ∧ k < w.heap.size) w v c := by
  have hv := h.v
  obtain ⟨d, s, k, rfl, h1, h2, h3, h4, h5⟩ := h
  exact ⟨hv, d, s, k, rfl, InS.own h1, InS.own h2, InS.own h3⟩

/-- A row of chunks of the call's own. -/
def PkRow (base : Nat) (w : World) (v : Value) (l : List Ck) : Prop := ∃ vs, w.ownsRow base 42 11 v l.length (flatA vs) ∧ Each (CkI (fun k => k < w.heap.size ∧ v.ownBlock ≠ some k) w) vs l
theorem CkI.eleven {S : Nat → Prop} {w : World} (v : Value) (c : Ck) (h : CkI S w v c) : v.cells.toList.length = 11 := CkV.eleven v c h.1
theorem PkRow.s {base : Nat} {w : World} {v : Value} {l : List Ck} (h : PkRow base w v l) : CkS w.heap.size w v l := by
  obtain ⟨vs, h1, h2⟩ := h
  exact ⟨vs, h2.imp fun _ _ h => h.1, Rw.own h1 (Each.flat CkI.eleven h2).1⟩
theorem PkRow.nil (w : World) : PkRow w.heap.size w (.slice none 0 0) [] := ⟨[], ⟨rfl, .inl ⟨rfl, rfl⟩⟩, trivial⟩
theorem PkRow.below {base : Nat} {w w' : World} {v : Value} {l : List Ck} (h : PkRow base w v l) (b : Below w.heap.size w w') : PkRow base w' v l := by
  obtain ⟨vs, h1, h2⟩ := h
  have kp : Keep (fun k => k < w.heap.size ∧ v.ownBlock ≠ some k) w w' := ⟨b.os, b.tape, b.output, b.size, fun i hi => b.block i hi.1⟩
  exact ⟨vs, own_of_block h1 fun k hk => b.block k (h1.lt k hk).2, h2.imp fun _ _ h => (h.keep kp).mono fun k hk => ⟨Nat.lt_of_lt_of_le hk.1 b.size, hk.2⟩⟩
/-- One chunk more. -/
theorem PkRow.push {base : Nat} {w w' : World} {v v' u : Value} {l : List Ck} {c : Ck} {vs : List Value} (h2 : Each (CkI (fun k => k < w.heap.size ∧ v.ownBlock ≠ some k) w) vs l) (hu : CkI (fun k => k < w.heap.size ∧ v.ownBlock ≠ some k) w u c)
    (ho : w'.ownsRow base 42 11 v' (l.length + 1) (flatA vs ++ u.cells.toList)) (hg : w.grownBy w' v.ownBlock) (ha : v'.ownBlock = v.ownBlock ∨ v'.ownBlock = some w.heap.size) :
    PkRow base w' v' (l ++ [c]) := by
  have kp : Keep (fun k => k < w.heap.size ∧ v.ownBlock ≠ some k) w w' := ⟨hg.os, hg.tape, hg.output, hg.size, fun i hi => hg.block i hi.1 (fun e => hi.2 e.symm)⟩
  have hS : ∀ k, (k < w.heap.size ∧ v.ownBlock ≠ some k) → k < w'.heap.size ∧ v'.ownBlock ≠ some k := by
    rintro k ⟨k1, k2⟩
    refine ⟨Nat.lt_of_lt_of_le k1 hg.size, ?_⟩
    rcases ha with e | e
    · rw [e]; exact k2
    · rw [e]; simp; omega
  refine ⟨vs ++ [u], ?_, (Each.append (vs' := [u]) (l' := [c]) h2 ⟨hu, trivial⟩).imp fun _ _ h => (h.keep kp).mono hS⟩
  rw [flatA_append, List.length_append]
  simpa [flatA] using ho
end Go.Proofs.Ytnddejdndipddad

namespace Go.Proofs.Ytnddejdndipddad
open Go.ChangeShapes Go.WideShapes Go.ChangeAt Go.RowKit

theorem Try.bytes42 : Try.prog.bytesOf 42 = 128 := by kernel_rfl
instance : Inhabited Ck := ⟨Ck.zero⟩

section
variable {H : Type} {enc : TypeId × Value → H} {w : World} {held : Bool}

/-- A chunk that came in, as cells. -/
theorem chunk_at {x : DataW H × List MemPlace} {fuel : Nat} {cs : List Value} (h : DataW.trod enc Try.prog w 0 (fun _ => true) held fuel 42 cs = some x) : ∃ v c, cs = v.cells.toList ∧ CkV w.heap.size w v c := by
  obtain ⟨xs, m, _, _, hl, hxl, hf⟩ := DataW.trod_struct Try.underlying42 h
  rw [Try.cells42] at hl
  have hxl3 : xs.length = 11 := hxl
  match cs, hl with
  | [c0, c1, c2, c3, c4, c5, c6, c7, c8, c9, c10], _ =>
    have f0 : DataW.trod enc Try.prog w 0 (fun _ => true) held m 3 (([c0, c1, c2, c3, c4, c5, c6, c7, c8, c9, c10].drop 0).take (Try.prog.cellsOf 3)) = xs[0]? := hf 0 _ rfl
    have f1 : DataW.trod enc Try.prog w 0 (fun _ => true) held m 3 (([c0, c1, c2, c3, c4, c5, c6, c7, c8, c9, c10].drop 1).take (Try.prog.cellsOf 3)) = xs[1]? := hf 1 _ rfl
    have f2 : DataW.trod enc Try.prog w 0 (fun _ => true) held m 3 (([c0, c1, c2, c3, c4, c5, c6, c7, c8, c9, c10].drop 2).take (Try.prog.cellsOf 3)) = xs[2]? := hf 2 _ rfl
    have f3 : DataW.trod enc Try.prog w 0 (fun _ => true) held m 3 (([c0, c1, c2, c3, c4, c5, c6, c7, c8, c9, c10].drop 3).take (Try.prog.cellsOf 3)) = xs[3]? := hf 3 _ rfl
    have f4 : DataW.trod enc Try.prog w 0 (fun _ => true) held m 3 (([c0, c1, c2, c3, c4, c5, c6, c7, c8, c9, c10].drop 4).take (Try.prog.cellsOf 3)) = xs[4]? := hf 4 _ rfl
    have f5 : DataW.trod enc Try.prog w 0 (fun _ => true) held m 4 (([c0, c1, c2, c3, c4, c5, c6, c7, c8, c9, c10].drop 5).take (Try.prog.cellsOf 4)) = xs[5]? := hf 5 _ rfl
    have f6 : DataW.trod enc Try.prog w 0 (fun _ => true) held m 4 (([c0, c1, c2, c3, c4, c5, c6, c7, c8, c9, c10].drop 6).take (Try.prog.cellsOf 4)) = xs[6]? := hf 6 _ rfl
    have f7 : DataW.trod enc Try.prog w 0 (fun _ => true) held m 38 (([c0, c1, c2, c3, c4, c5, c6, c7, c8, c9, c10].drop 7).take (Try.prog.cellsOf 38)) = xs[7]? := hf 7 _ rfl
    have f8 : DataW.trod enc Try.prog w 0 (fun _ => true) held m 39 (([c0, c1, c2, c3, c4, c5, c6, c7, c8, c9, c10].drop 8).take (Try.prog.cellsOf 39)) = xs[8]? := hf 8 _ rfl
    have f9 : DataW.trod enc Try.prog w 0 (fun _ => true) held m 3 (([c0, c1, c2, c3, c4, c5, c6, c7, c8, c9, c10].drop 9).take (Try.prog.cellsOf 3)) = xs[9]? := hf 9 _ rfl
    have f10 : DataW.trod enc Try.prog w 0 (fun _ => true) held m 40 (([c0, c1, c2, c3, c4, c5, c6, c7, c8, c9, c10].drop 10).take (Try.prog.cellsOf 40)) = xs[10]? := hf 10 _ rfl
    rw [Try.cells3] at f0 f1 f2 f3 f4 f9
    rw [Try.cells4] at f5 f6
    rw [Try.cells38] at f7
    rw [Try.cells39] at f8
    rw [Try.cells40] at f10
    rw [List.getElem?_eq_getElem (by omega)] at f0 f1 f2 f3 f4 f5 f6 f7 f8 f9 f10
    obtain ⟨z0, e0, _, _⟩ := DataW.trod_int Try.underlying3 f0
    obtain ⟨z1, e1, _, _⟩ := DataW.trod_int Try.underlying3 f1
    obtain ⟨z2, e2, _, _⟩ := DataW.trod_int Try.underlying3 f2
    obtain ⟨z3, e3, _, _⟩ := DataW.trod_int Try.underlying3 f3
    obtain ⟨z4, e4, _, _⟩ := DataW.trod_int Try.underlying3 f4
    obtain ⟨z5, e5, _⟩ := DataW.trod_bool Try.underlying4 f5
    obtain ⟨z6, e6, _⟩ := DataW.trod_bool Try.underlying4 f6
    obtain ⟨v7, l7, e7, h7, _, _⟩ := bytes_in f7
    obtain ⟨v8, l8, e8, h8⟩ := spans_in f8
    obtain ⟨z9, e9, _, _⟩ := DataW.trod_int Try.underlying3 f9
    obtain ⟨v10, l10, e10, h10⟩ := skips_in f10
    simp at e0 e1 e2 e3 e4 e5 e6 e7 e8 e9 e10
    subst e0 e1 e2 e3 e4 e5 e6 e7 e8 e9 e10
    exact ⟨ckVal ⟨z0, z1, z2, z3, z4, z5, z6, l7, l8, z9, l10⟩ _ _ _, ⟨z0, z1, z2, z3, z4, z5, z6, l7, l8, z9, l10⟩, rfl, ⟨_, _, _, rfl, h7, h8, h10⟩⟩

/-- Chunks that came in, as cells. -/
theorem chunks_in {x : DataW H × List MemPlace} {fuel : Nat} {cs : List Value} (h : DataW.trod enc Try.prog w 0 (fun _ => true) held fuel 37 cs = some x) :
    ∃ v l, cs = [v] ∧ CkS w.heap.size w v l ∧ IsSl v ∧ ∀ B, (∀ es sp, x.1 = .slice es sp → es.length + sp.length ≤ B) → l.length ≤ B := by
  rcases Deep.open_slice Try.underlying37 h with ⟨hcs, _⟩ | ⟨x', l, c, m, n, D, Pl, hcs, hb, hl, hm, hmm, hx, hcell⟩
  · exact ⟨_, [], hcs, CkS.nil _ _, isl, fun B _ => Nat.zero_le _⟩
  · simp only [if_true] at hmm
    subst hmm
    have each : ∀ i, i < m → ∃ q : Value × Ck, CkV w.heap.size w q.1 q.2 ∧ ∀ j u, q.1.cells.toList[j]? = some u → w.cell? (x'.add (i * 11 + j)) = some u := by
      intro i hi
      obtain ⟨cs', hc, ht⟩ := hcell i hi
      rw [Try.cells42] at hc
      obtain ⟨v, c, rfl, hv⟩ := chunk_at ht
      obtain ⟨_, _, hcc⟩ := World.cells?_some hc
      refine ⟨(v, c), hv, fun j u hu => ?_⟩
      have hj : j < 11 := by have := (List.getElem?_eq_some_iff.1 hu).1; rw [CkV.eleven _ _ hv] at this; exact this
      have := hcc j hj
      rw [hu] at this
      rw [← this, add_add]
    obtain ⟨q, hq⟩ := Deep.choose_lt each
    have hE : Each (CkV w.heap.size w) ((List.range l).map fun i => (q i).1) ((List.range l).map fun i => (q i).2) := by
      refine Each.of (by simp) fun k v c e e' => ?_
      have hk : k < l := by simpa using (List.getElem?_eq_some_iff.1 e).1
      simp [hk] at e e'
      rw [← e, ← e']
      exact (hq k (by omega)).1
    have hf := Each.flat CkV.eleven hE
    refine ⟨_, (List.range l).map fun i => (q i).2, hcs, ⟨_, hE, ?_, some x', m, by simp, by simpa using hl, by unfold maxLen at hm; omega, fun h => by simp at h, fun hn => ?_⟩, isl, ?_⟩
    · exact hf.1
    · have hpos : 0 < l := by simp at hn; omega
      have c0 : w.cell? (x'.add (0 * 11 + 0)) = some ((q 0).1.cells.toList[0]'(by rw [CkV.eleven _ _ (hq 0 (by omega)).1]; omega)) := (hq 0 (by omega)).2 0 _ (by simp)
      generalize (q 0).1.cells.toList[0]'_ = u0 at c0
      rw [Nat.zero_mul] at c0
      obtain ⟨b, off, spot⟩ := x'
      have hspot : spot = none := by simpa [Addr.add] using World.cell?_spot c0
      subst hspot
      refine ⟨b, off, rfl, by have := World.block_lt_of_cell? _ _ c0; simpa [Addr.add] using this, fun k u hu => ?_⟩
      have hkl : k < l * 11 := by have := (List.getElem?_eq_some_iff.1 hu).1; rw [hf.1] at this; simpa using this
      have hk : k / 11 < l := by omega
      have hg := hf.2.1 (k / 11) (q (k / 11)).1 (k % 11) (by simp [hk]) (by omega)
      rw [show k / 11 * 11 + k % 11 = k by omega, hu] at hg
      have hh := (hq (k / 11) (by omega)).2 (k % 11) u hg.symm
      rwa [add_plain, show k / 11 * 11 + k % 11 = k by omega] at hh
    · intro B hB
      have := hB _ _ (Prod.ext_iff.1 hx).1
      simp at this
      simp
      omega
end
end Go.Proofs.Ytnddejdndipddad

namespace Go.Proofs.Ytnddejdndipddad

theorem bulk_one {H : Type} (d : DataW H) : 1 ≤ Rows.uptoBulk d := by
  cases d with
  | lit l => cases l <;> simp [Rows.uptoBulk]
  | _ => simp [Rows.uptoBulk]
theorem bulk_all {H : Type} (l : List (DataW H)) : l.length ≤ Rows.uptoBulkAll l := by
  induction l with
  | nil => simp [Rows.uptoBulkAll]
  | cons x r ih => have := bulk_one x; simp only [Rows.uptoBulkAll, List.length_cons]; omega
theorem bulk_slice {H : Type} (es sp : List (DataW H)) : es.length + sp.length + 1 ≤ Rows.uptoBulk (.slice es sp) := by
  have := bulk_all es
  have := bulk_all sp
  simp only [Rows.uptoBulk]
  omega
end Go.Proofs.Ytnddejdndipddad
