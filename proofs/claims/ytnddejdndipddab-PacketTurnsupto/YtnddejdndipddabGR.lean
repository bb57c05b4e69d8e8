/- Slices of whatever elements: their cells in a row, a piece of one, and what append makes of them. -/
import Derived.Test.YtnddejdndipddabJ
import Derived.Deep.RegionLawGrows
import Derived.Laws.BytesArg
import Derived.Maps.AppendAt
set_option maxRecDepth 20000
namespace Go.Proofs.Ytnddejdndipddab
open Go.RowKit

/-- A slice value of n elements, of k cells each, in all the cells xs, in a block below B. -/
def Rw (k B : Nat) (w : World) (v : Value) (n : Nat) (xs : List Value) : Prop :=
  xs.length = n * k ∧ ∃ a cap, v = .slice a n cap ∧ n ≤ cap ∧ cap ≤ 9223372036854775807 ∧ (a = none → cap = 0) ∧
    (n ≠ 0 → ∃ b off, a = some ⟨b, off, none⟩ ∧ b < B ∧ ∀ j u, xs[j]? = some u → w.cell? ⟨b, off + j, none⟩ = some u)

theorem Rw.below {k B B' : Nat} {w w' : World} {v : Value} {n : Nat} {xs : List Value} (h : Rw k B w v n xs) (hbel : Below B' w w') (hB : B ≤ B') : Rw k B w' v n xs := by
  obtain ⟨hl, a, cap, rfl, h1, h2, h0, h4⟩ := h
  refine ⟨hl, a, cap, rfl, h1, h2, h0, fun hn => ?_⟩
  obtain ⟨b, off, rfl, hb, hat⟩ := h4 hn
  exact ⟨b, off, rfl, hb, fun j u hu => (hbel.cell (p := ⟨b, off + j, none⟩) (by show b < B'; omega)).trans (hat j u hu)⟩

theorem Rw.mono {k B B' : Nat} {w : World} {v : Value} {n : Nat} {xs : List Value} (h : Rw k B w v n xs) (hB : B ≤ B') : Rw k B' w v n xs := by
  obtain ⟨hl, a, cap, rfl, h1, h2, h0, h4⟩ := h
  refine ⟨hl, a, cap, rfl, h1, h2, h0, fun hn => ?_⟩
  obtain ⟨b, off, rfl, hb, hat⟩ := h4 hn
  exact ⟨b, off, rfl, by omega, hat⟩

theorem Rw.nil (k B : Nat) (w : World) : Rw k B w (.slice none 0 0) 0 [] := ⟨by simp, none, 0, rfl, by simp, by simp, fun _ => rfl, fun h => absurd rfl h⟩

/-- Where a piece begins. -/
def reK (k : Nat) (a : Option Addr) (cap lo : Nat) : Option Addr := if cap = lo then a else a.map (·.add (lo * k))

theorem Rw.re {k B : Nat} {w : World} {a : Option Addr} {n cap : Nat} {xs : List Value} (h : Rw k B w (.slice a n cap) n xs) (lo d : Nat) (h2 : lo + d ≤ n) : Rw k B w (.slice (reK k a cap lo) d (cap - lo)) d ((xs.drop (lo * k)).take (d * k)) := by
  obtain ⟨hl, a', cap', he, g1, g2, g0, g4⟩ := h
  simp only [Value.slice.injEq, true_and] at he
  obtain ⟨rfl, rfl⟩ := he
  have hm : lo * k + d * k ≤ n * k := by rw [← Nat.add_mul]; exact Nat.mul_le_mul_right _ h2
  refine ⟨by simp [hl]; omega, reK k a cap lo, cap - lo, rfl, by omega, by omega, ?_, fun hn => ?_⟩
  · intro hh
    unfold reK at hh
    split at hh
    · have := g0 hh; omega
    · simp at hh; have := g0 hh; omega
  · obtain ⟨b, off, rfl, hb, hat⟩ := g4 (by omega)
    refine ⟨b, off + lo * k, ?_, hb, fun j u hu => ?_⟩
    · unfold reK
      rw [if_neg (by omega)]
      simp [add_plain]
    · have hu' : xs[lo * k + j]? = some u := by
        rw [List.getElem?_take] at hu
        split at hu
        · rwa [List.getElem?_drop] at hu
        · cases hu
      have := hat _ u hu'
      rwa [← Nat.add_assoc] at this

theorem Rw.len {k B : Nat} {w : World} {a : Option Addr} {n m cap : Nat} {xs : List Value} (h : Rw k B w (.slice a n cap) m xs) : n = m ∧ n ≤ cap ∧ cap ≤ 9223372036854775807 ∧ xs.length = m * k := by
  obtain ⟨hl, a', cap', he, g1, g2, g0, g4⟩ := h
  simp only [Value.slice.injEq] at he
  obtain ⟨rfl, rfl, rfl⟩ := he
  exact ⟨rfl, g1, g2, hl⟩

/-- A row of the call's own. -/
theorem Rw.own {w : World} {base k : Nat} {t : TypeId} {v : Value} {n : Nat} {xs : List Value} (h : w.ownsRow base t k v n xs) (hx : xs.length = n * k) : Rw k w.heap.size w v n xs := by
  have h' := h
  rcases h.2 with ⟨rfl, hn⟩ | ⟨g, cap, cur, rfl, hb, hg, hnc, hcm, hcs, htake⟩
  · subst hn
    have : xs = [] := List.eq_nil_of_length_eq_zero (by simpa using hx)
    subst this
    exact Rw.nil _ _ _
  · refine ⟨hx, some ⟨g, 0, none⟩, cap, rfl, hnc, by unfold maxLen at hcm; omega, fun h => by simp at h, fun _ => ⟨g, 0, rfl, (Array.getElem?_eq_some_iff.1 hg).1, fun j u hu => ?_⟩⟩
    have hj : j < xs.length := (List.getElem?_eq_some_iff.1 hu).1
    rw [Nat.zero_add]
    exact (h'.cellAt j (by omega)).trans hu

/-- What append makes of a row of the call's own and a slice. -/
theorem run_append_rw {T E : TypeId} {k bytes : Nat} {zero : Value} (hT : Try.prog.underlying T = some (.slice E)) (hE : (Try.prog.info? E).map (fun i => (i.zero, i.size, i.bytes)) = some (some zero, k, bytes))
    (hz : zero.cells.size = k) (hk : 0 < k) (w : World) (base : Nat) (ty : TypeId) (v : Value) (n : Nat) (xs : List Value) (hown : w.ownsRow base E k v n xs) (x : Value) (B m : Nat) (ys : List Value) (hx : Rw k B w x m ys)
    (hone : ∀ u ∈ ys, u.oneCell' = true) (hlen : n + m ≤ maxLen) (hbytes : (n + m) * bytes ≤ 140737488355328) (hbase : base ≤ w.heap.size) :
    ∃ v' w', (Builtin.append_ #[T, T] ty #[v, x]).run Try.prog w = .ok v' w' ∧ w'.ownsRow base E k v' (n + m) (xs ++ ys) ∧ w.grownBy w' v.ownBlock ∧ (v'.ownBlock = v.ownBlock ∨ v'.ownBlock = some w.heap.size) := by
  obtain ⟨i0, hi, hz0, hz1, hz2⟩ := info_parts hE
  obtain ⟨hl, a, cap, rfl, h1, h2, h0, h4⟩ := hx
  cases a with
  | none =>
    have hc := h0 rfl
    subst hc
    have hm : m = 0 := by omega
    subst hm
    have hy : ys = [] := List.eq_nil_of_length_eq_zero (by simpa using hl)
    subst hy
    exact ⟨v, w, run_append_owned_none w base T ty E i0 k hT hi v n xs hown, by simpa using hown, ⟨rfl, rfl, rfl, Nat.le_refl _, fun _ _ _ => rfl⟩, .inl rfl⟩
  | some ad =>
    have hc : ∀ j u, ys[j]? = some u → w.cell? (ad.add j) = some u := by
      by_cases hm : m = 0
      · subst hm
        have hy : ys = [] := List.eq_nil_of_length_eq_zero (by simpa using hl)
        subst hy
        intro j u hu; simp at hu
      · obtain ⟨b, off, he, hb, hat⟩ := h4 hm
        simp only [Option.some.injEq] at he
        subst he
        intro j u hu
        rw [add_plain]
        exact hat j u hu
    obtain ⟨v', w', r1, r2, r3, _, r5⟩ := run_append_own_at (P := Try.prog) w base T ty E i0 zero k bytes hT hi hz0 hz1 hz2 hz hk v n xs hown ad m cap ys hl hc hone hlen hbytes hbase
    exact ⟨v', w', r1, r2, r3, r5⟩

theorem wpList_append_rw {T E : TypeId} {k bytes : Nat} {zero : Value} (hT : Try.prog.underlying T = some (.slice E)) (hE : (Try.prog.info? E).map (fun i => (i.zero, i.size, i.bytes)) = some (some zero, k, bytes))
    (hz : zero.cells.size = k) (hk : 0 < k) (w : World) {ops : Array Oper} {rest : List Oper} {o : Oper} {a : Act} {Q : Exit → Act → World → Prop} (hgd : o.guard = none) (s x : Operand)
    (ho : o.op = .call { callee := .builtin .append, args := #[s, x], argTypes := #[T, T] })
    (base : Nat) (v : Value) (n : Nat) (xs : List Value) (hs : a.eval s = v) (hown : w.ownsRow base E k v n xs) (B m : Nat) (ys : List Value) (y : Value) (hy : a.eval x = y) (hx : Rw k B w y m ys)
    (hone : ∀ u ∈ ys, u.oneCell' = true) (hlen : n + m ≤ maxLen) (hbytes : (n + m) * bytes ≤ 140737488355328) (hbase : base ≤ w.heap.size)
    (h : ∀ v' w', w'.ownsRow base E k v' (n + m) (xs ++ ys) → w.grownBy w' v.ownBlock → (v'.ownBlock = v.ownBlock ∨ v'.ownBlock = some w.heap.size) → wpList Try.prog ops Q rest (a.put o.dst v') w') : wpList Try.prog ops Q (o :: rest) a w :=
  wpList_plain hgd fun _ hK => by
    obtain ⟨v', w', hr, h2, h3, h4⟩ := run_append_rw hT hE hz hk w base o.type v n xs hown y B m ys hx hone hlen hbytes hbase
    unfold Oper.wp execOp
    simp only [ho, resolve, invoke, builtin, Sem.run_bind, Sem.run_pure, Result.andThen_ok, List.map_toArray, List.map_cons, List.map_nil, hs, hy, hr]
    exact hK _ _ (h v' w' h2 h3 h4)

theorem step_append_rw {T E : TypeId} {k bytes : Nat} {zero : Value} (hT : Try.prog.underlying T = some (.slice E)) (hE : (Try.prog.info? E).map (fun i => (i.zero, i.size, i.bytes)) = some (some zero, k, bytes))
    (hz : zero.cells.size = k) (hk : 0 < k) {ops : Array Oper} {o : Oper} {a : Act} {w : World} {K : Act → World → Prop} {Q : Exit → Act → World → Prop} {X : Prop}
    (hg : o.guard = none) (s x : Operand) (hop : o.op = Op.call { callee := Callee.builtin Builtin.append, args := #[s, x], argTypes := #[T, T] })
    (base : Nat) (v : Value) (n : Nat) (xs : List Value) (hs : a.eval s = v) (hown : w.ownsRow base E k v n xs) (B m : Nat) (ys : List Value) (y : Value) (hy : a.eval x = y) (hx : Rw k B w y m ys)
    (hone : ∀ u ∈ ys, u.oneCell' = true) (hlen : n + m ≤ maxLen) (hbytes : (n + m) * bytes ≤ 140737488355328) (hbase : base ≤ w.heap.size)
    (hK : ∀ v' w', w'.ownsRow base E k v' (n + m) (xs ++ ys) → w.grownBy w' v.ownBlock → (v'.ownBlock = v.ownBlock ∨ v'.ownBlock = some w.heap.size) → K (a.put o.dst v') w') :
    if Region.wanted o (yielded ops a.tmps) = true then Oper.wp Try.prog o a w K Q else X := by
  have hw : Region.wanted o (yielded ops a.tmps) = true := by simp [Region.wanted, hg]
  rw [if_pos hw]
  obtain ⟨v', w', hr, h2, h3, h4⟩ := run_append_rw hT hE hz hk w base o.type v n xs hown y B m ys hx hone hlen hbytes hbase
  unfold Oper.wp
  simp [execOp, hop, resolve, invoke, builtin, hs, hy, hr, Result.andThen]
  exact hK v' w' h2 h3 h4

/-- Blocks that are kept as they were. -/
structure Keep (S : Nat → Prop) (w w' : World) : Prop where
  os : w'.os = w.os
  tape : w'.tape = w.tape
  output : w'.output = w.output
  size : w.heap.size ≤ w'.heap.size
  block : ∀ k, S k → w'.heap[k]? = w.heap[k]?

theorem Keep.refl (S : Nat → Prop) (w : World) : Keep S w w := ⟨rfl, rfl, rfl, Nat.le_refl _, fun _ _ => rfl⟩
theorem Keep.trans {S : Nat → Prop} {a b c : World} (h : Keep S a b) (k : Keep S b c) : Keep S a c :=
  ⟨k.os.trans h.os, k.tape.trans h.tape, k.output.trans h.output, Nat.le_trans h.size k.size, fun i hi => (k.block i hi).trans (h.block i hi)⟩
theorem Keep.mono {S S' : Nat → Prop} {a b : World} (h : Keep S a b) (hs : ∀ k, S' k → S k) : Keep S' a b := ⟨h.os, h.tape, h.output, h.size, fun i hi => h.block i (hs i hi)⟩
theorem Keep.cell {S : Nat → Prop} {a b : World} (h : Keep S a b) {p : Addr} (hp : S p.block) : b.cell? p = a.cell? p := World.cell?_of_block (w := a) (h.block p.block hp)
theorem Keep.frozen {S : Nat → Prop} {a b : World} (h : Keep S a b) {p : Addr} (hp : S p.block) : b.frozen? p = a.frozen? p := World.frozen?_of_block (w := a) (h.block p.block hp)
theorem Keep.below {S : Nat → Prop} {a b : World} {B : Nat} (h : Keep S a b) (hs : ∀ k, k < B → S k) : Below B a b := ⟨h.os, h.tape, h.output, h.size, fun i hi => h.block i (hs i hi)⟩
theorem Keep.grown {S : Nat → Prop} {a w w' : World} {row : Option Nat} (h : Keep S a w) (hg : w.grownBy w' row) (hS : ∀ k, S k → k < w.heap.size) (hr : ∀ k, row = some k → ¬ S k) : Keep S a w' :=
  ⟨hg.os.trans h.os, hg.tape.trans h.tape, hg.output.trans h.output, Nat.le_trans h.size hg.size, fun i hi => (hg.block i (hS i hi) (fun e => hr i e.symm hi)).trans (h.block i hi)⟩
theorem Keep.alloc {S : Nat → Prop} {a w : World} (h : Keep S a w) (hS : ∀ k, S k → k < w.heap.size) (o : Obj) : Keep S a (w.alloc o) :=
  ⟨h.os, h.tape, h.output, Nat.le_trans h.size (by simp), fun i hi => (Below.heap_alloc w o i (hS i hi)).trans (h.block i hi)⟩
theorem Keep.setCell {S : Nat → Prop} {a w : World} (h : Keep S a w) {p : Addr} (hp : ¬ S p.block) (u : Value) : Keep S a (w.setCell p u) :=
  ⟨h.os, h.tape, h.output, by simpa [World.setCell] using h.size, fun i hi => (Below.heap_setCell w p u i (fun e => hp (e ▸ hi))).trans (h.block i hi)⟩

/-- Numbers that are bytes. -/
def IsB (bs : List Int) : Prop := ∀ z ∈ bs, 0 ≤ z ∧ z < 256
/-- Bytes as cells. -/
def cellsB (bs : List Int) : List Value := bs.map fun z => .int .u8 z
theorem cellsB_one (bs : List Int) : ∀ u ∈ cellsB bs, u.oneCell' = true := by
  intro u hu
  obtain ⟨z, _, rfl⟩ := List.mem_map.1 hu
  rfl
theorem cellsB_append (a b : List Int) : cellsB (a ++ b) = cellsB a ++ cellsB b := by simp [cellsB]
theorem cellsB_length (a : List Int) : (cellsB a).length = a.length := by simp [cellsB]
theorem cellsB_get (a : List Int) (k : Nat) (h : k < a.length) : (cellsB a)[k]? = some (.int .u8 a[k]) := by simp [cellsB, h]
/-- A slice of bytes. -/
def By (B : Nat) (w : World) (v : Value) (bs : List Int) : Prop := Rw 1 B w v bs.length (cellsB bs) ∧ IsB bs

theorem By.below {B B' : Nat} {w w' : World} {v : Value} {bs : List Int} (h : By B w v bs) (hb : Below B' w w') (hB : B ≤ B') : By B w' v bs := ⟨h.1.below hb hB, h.2⟩
theorem By.mono {B B' : Nat} {w : World} {v : Value} {bs : List Int} (h : By B w v bs) (hB : B ≤ B') : By B' w v bs := ⟨h.1.mono hB, h.2⟩
theorem By.size {B : Nat} {w w' : World} {v : Value} {bs : List Int} (h : By w.heap.size w v bs) (hb : Below B w w') (hB : w.heap.size ≤ B) : By w'.heap.size w' v bs := (h.below hb hB).mono hb.size
theorem By.ex {B : Nat} {w : World} {v : Value} {bs : List Int} (h : By B w v bs) : ∃ a cap, v = .slice a bs.length cap ∧ bs.length ≤ cap ∧ cap ≤ 9223372036854775807 := by
  obtain ⟨⟨_, a, cap, rfl, h1, h2, _⟩, _⟩ := h
  exact ⟨a, cap, rfl, h1, h2⟩
theorem IsB.get {bs : List Int} (h : IsB bs) (k : Nat) (hk : k < bs.length) : 0 ≤ bs[k] ∧ bs[k] < 256 := h _ (List.getElem_mem hk)
theorem IsB.drop {bs : List Int} (h : IsB bs) (k : Nat) : IsB (bs.drop k) := fun z hz => h z (List.mem_of_mem_drop hz)
theorem IsB.take {bs : List Int} (h : IsB bs) (k : Nat) : IsB (bs.take k) := fun z hz => h z (List.mem_of_mem_take hz)
theorem IsB.append {a b : List Int} (h : IsB a) (h' : IsB b) : IsB (a ++ b) := fun z hz => (List.mem_append.1 hz).elim (h z) (h' z)

/-- A place in a slice of bytes. -/
theorem By.at {B : Nat} {w : World} {a : Option Addr} {n cap : Nat} {bs : List Int} (h : By B w (.slice a n cap) bs) (k : Nat) (hk : k < bs.length) :
    ∃ b off, b < B ∧ (∀ wx, (Instr.indexAt 23 (.slice a n cap) (.int .i64 (k : Int))).run Try.prog wx = .ok (.pointer (some ⟨b, off, none⟩)) wx) ∧ w.cell? ⟨b, off, none⟩ = some (.int .u8 bs[k]) := by
  obtain ⟨⟨hl, a', cap', he, g1, g2, g0, g4⟩, _⟩ := h
  simp only [Value.slice.injEq] at he
  obtain ⟨rfl, rfl, rfl⟩ := he
  obtain ⟨b, off, rfl, hb, hat⟩ := g4 (by omega)
  refine ⟨b, off + k, hb, fun wx => ?_, hat k _ (cellsB_get bs k hk)⟩
  have : (k : Int) < bs.length := by omega
  go_simp

theorem By.re {B : Nat} {w : World} {a : Option Addr} {n cap : Nat} {bs : List Int} (h : By B w (.slice a n cap) bs) (lo d : Nat) (h2 : lo + d ≤ bs.length) : By B w (.slice (reK 1 a cap lo) d (cap - lo)) ((bs.drop lo).take d) := by
  have hn := h.1.len.1
  subst hn
  have := h.1.re lo d h2
  refine ⟨?_, (h.2.drop _).take _⟩
  rw [Nat.mul_one, Nat.mul_one] at this
  rw [show ((bs.drop lo).take d).length = d by simp; omega, show cellsB ((bs.drop lo).take d) = ((cellsB bs).drop lo).take d by simp [cellsB]]
  exact this

/-- A slice of bytes as a string. -/
theorem By.str {B : Nat} {w : World} {v : Value} {bs : List Int} (h : By B w v bs) : (convert 23 9 v).run Try.prog w = .ok (.string (strOfNums bs)) w := by
  obtain ⟨⟨hl, a, cap, rfl, g1, g2, g0, g4⟩, _⟩ := h
  cases a with
  | none =>
    have hc := g0 rfl
    have hb : bs = [] := List.eq_nil_of_length_eq_zero (by omega)
    subst hb
    exact run_convert_bytes_nil w 23 5 Try.underlying23 Try.underlying5 _ _ 9 Try.underlying9
  | some ad =>
    by_cases hm : bs = []
    · subst hm
      obtain ⟨b, off, sp⟩ := ad
      rw [run_convert_bytes_string w 23 9 5 _ _ _ Try.underlying23 Try.underlying5 Try.underlying9, run_bytesToString w _ ([] : List Int).length cap [] (by simp [loadCells, loadCellsFrom])]
      rfl
    · obtain ⟨b, off, he, hb, hat⟩ := g4 (by intro e; exact hm (List.eq_nil_of_length_eq_zero e))
      simp only [Option.some.injEq] at he
      subst he
      refine run_convert_bytes_arg w 23 5 Try.underlying23 Try.underlying5 b off bs.length cap bs rfl (fun i hi => ?_) 9 Try.underlying9
      rw [hat i _ (cellsB_get bs i hi)]
      simp [hi]

theorem strOfNums_inj {a b : List Int} (ha : IsB a) (hb : IsB b) : strOfNums a = strOfNums b ↔ a = b := by
  constructor
  · intro h
    have h1 : a.map (fun n => UInt8.ofNat n.toNat) = b.map (fun n => UInt8.ofNat n.toNat) := by rw [← strOfNums_data, ← strOfNums_data, h]
    have h2 : ∀ (a b : List Int), IsB a → IsB b → a.map (fun n => UInt8.ofNat n.toNat) = b.map (fun n => UInt8.ofNat n.toNat) → a = b := by
      intro a
      induction a with
      | nil => intro b _ _ h; simp at h; exact h.symm
      | cons x r ih =>
        intro b ha hb h
        cases b with
        | nil => simp at h
        | cons y q =>
          simp only [List.map_cons, List.cons.injEq] at h
          have hx := ha x (by simp)
          have hy := hb y (by simp)
          have e1 := congrArg UInt8.toNat h.1
          simp only [UInt8.toNat_ofNat'] at e1
          rw [Nat.mod_eq_of_lt (by omega), Nat.mod_eq_of_lt (by omega)] at e1
          rw [ih q (fun z hz => ha z (by simp [hz])) (fun z hz => hb z (by simp [hz])) h.2, show x = y by omega]
    exact h2 a b ha hb h1
  · rintro rfl; rfl

/-- A skip: stream, message, in order. -/
structure Sk where
  stream : Int
  mid : Int
  ordered : Bool
deriving DecidableEq
def cellsK (l : List Sk) : List Value := l.flatMap fun s => [.int .i64 s.stream, .int .i64 s.mid, .bool s.ordered]
theorem cellsK_cons (s : Sk) (l : List Sk) : cellsK (s :: l) = .int .i64 s.stream :: .int .i64 s.mid :: .bool s.ordered :: cellsK l := rfl
theorem cellsK_append (l m : List Sk) : cellsK (l ++ m) = cellsK l ++ cellsK m := by simp [cellsK]
theorem cellsK_length (l : List Sk) : (cellsK l).length = l.length * 3 := by
  induction l with
  | nil => rfl
  | cons s r ih => simp [cellsK_cons, ih]; omega
theorem cellsK_one (l : List Sk) : ∀ u ∈ cellsK l, u.oneCell' = true := by
  intro u hu
  simp only [cellsK, List.mem_flatMap] at hu
  obtain ⟨s, _, hs⟩ := hu
  simp at hs
  rcases hs with rfl | rfl | rfl <;> rfl
theorem cellsK_get (l : List Sk) (k : Nat) (h : k < l.length) : (cellsK l)[k * 3]? = some (.int .i64 l[k].stream) ∧ (cellsK l)[k * 3 + 1]? = some (.int .i64 l[k].mid) ∧ (cellsK l)[k * 3 + 2]? = some (.bool l[k].ordered) := by
  induction l generalizing k with
  | nil => simp at h
  | cons x r ih =>
    cases k with
    | zero => simp [cellsK_cons]
    | succ k =>
      have := ih k (by simpa using h)
      rw [show (k + 1) * 3 = k * 3 + 1 + 1 + 1 by omega]
      simpa [cellsK_cons] using this
/-- A slice of skips. -/
def Kl (B : Nat) (w : World) (v : Value) (l : List Sk) : Prop := Rw 3 B w v l.length (cellsK l)
theorem Kl.below {B B' : Nat} {w w' : World} {v : Value} {l : List Sk} (h : Kl B w v l) (hb : Below B' w w') (hB : B ≤ B') : Kl B w' v l := Rw.below h hb hB
theorem Kl.mono {B B' : Nat} {w : World} {v : Value} {l : List Sk} (h : Kl B w v l) (hB : B ≤ B') : Kl B' w v l := Rw.mono h hB
theorem Kl.ex {B : Nat} {w : World} {v : Value} {l : List Sk} (h : Kl B w v l) : ∃ a cap, v = .slice a l.length cap ∧ l.length ≤ cap ∧ cap ≤ 9223372036854775807 := by
  obtain ⟨_, a, cap, rfl, h1, h2, _⟩ := h
  exact ⟨a, cap, rfl, h1, h2⟩
theorem Kl.at {B : Nat} {w : World} {a : Option Addr} {n cap : Nat} {l : List Sk} (h : Kl B w (.slice a n cap) l) (k : Nat) (hk : k < l.length) :
    ∃ b off, b < B ∧ (∀ wx, (Instr.indexAt 43 (.slice a n cap) (.int .i64 (k : Int))).run Try.prog wx = .ok (.pointer (some ⟨b, off, none⟩)) wx) ∧
      w.cell? ⟨b, off, none⟩ = some (.int .i64 l[k].stream) ∧ w.cell? ⟨b, off + 1, none⟩ = some (.int .i64 l[k].mid) ∧ w.cell? ⟨b, off + 2, none⟩ = some (.bool l[k].ordered) := by
  obtain ⟨hl, a', cap', he, g1, g2, g0, g4⟩ := h
  simp only [Value.slice.injEq] at he
  obtain ⟨rfl, rfl, rfl⟩ := he
  obtain ⟨b, off, rfl, hb, hat⟩ := g4 (by omega)
  have hg := cellsK_get l k hk
  refine ⟨b, off + k * 3, hb, fun wx => ?_, hat _ _ hg.1, ?_, ?_⟩
  · have : (k : Int) < l.length := by omega
    go_simp
  · rw [Nat.add_assoc]; exact hat _ _ hg.2.1
  · rw [Nat.add_assoc]; exact hat _ _ hg.2.2

/-- Spans are rows too. -/
theorem Sl.rw' {B : Nat} {w : World} {v : Value} {l : List Sp} (h : Sl B w v l) : Rw 2 B w v l.length (flat l) := by
  obtain ⟨a, cap, rfl, h1, h2, h0, h3, h4⟩ := h
  refine ⟨flat_length l, a, cap, rfl, h1, h2, h0, fun hn => ?_⟩
  obtain ⟨b, off, rfl, hb, hat⟩ := h4 (by rintro rfl; simp at hn)
  exact ⟨b, off, rfl, hb, fun j u hu => by have := hat.flat j u hu; rwa [add_plain] at this⟩
theorem Sl.of_rw {B : Nat} {w : World} {v : Value} {l : List Sp} (h : Rw 2 B w v l.length (flat l)) (hf : Fit l) : Sl B w v l := by
  obtain ⟨hl, a, cap, rfl, h1, h2, h0, h4⟩ := h
  refine ⟨a, cap, rfl, h1, h2, h0, hf, fun hn => ?_⟩
  obtain ⟨b, off, rfl, hb, hat⟩ := h4 (by intro e; exact hn (List.eq_nil_of_length_eq_zero e))
  refine ⟨b, off, rfl, hb, fun k s hs => ?_⟩
  have := flat_get l k s hs
  exact ⟨hat _ _ this.1, by rw [Nat.add_assoc]; exact hat _ _ this.2⟩
end Go.Proofs.Ytnddejdndipddab
