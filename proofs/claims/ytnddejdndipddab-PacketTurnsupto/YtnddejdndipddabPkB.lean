/- Slices of chunks: as they are read, and as they are a call's own. -/
import Derived.Test.YtnddejdndipddabPkA
import Derived.Test.YtnddejdndipddabCkZ
set_option maxRecDepth 20000
namespace Go.Proofs.Ytnddejdndipddab
open Go.RowKit

/-- The cells of values, in a row. -/
def flatA (vs : List Value) : List Value := vs.flatMap fun v => v.cells.toList
theorem flatA_append (a b : List Value) : flatA (a ++ b) = flatA a ++ flatA b := by simp [flatA]
theorem flatA_cons (v : Value) (b : List Value) : flatA (v :: b) = v.cells.toList ++ flatA b := rfl

/-- Values and chunks, in turn. -/
def Each (R : Value → Ck → Prop) : List Value → List Ck → Prop
  | [], [] => True
  | v :: vs, c :: l => R v c ∧ Each R vs l
  | _, _ => False
theorem Each.len {R : Value → Ck → Prop} : ∀ {vs : List Value} {l : List Ck}, Each R vs l → vs.length = l.length
  | [], [], _ => rfl
  | _ :: _, _ :: _, h => by simp [Each.len h.2]
  | [], _ :: _, h => h.elim
  | _ :: _, [], h => h.elim
theorem Each.imp {R R' : Value → Ck → Prop} (hr : ∀ v c, R v c → R' v c) : ∀ {vs : List Value} {l : List Ck}, Each R vs l → Each R' vs l
  | [], [], _ => trivial
  | _ :: _, _ :: _, h => ⟨hr _ _ h.1, Each.imp hr h.2⟩
  | [], _ :: _, h => h.elim
  | _ :: _, [], h => h.elim
theorem Each.append {R : Value → Ck → Prop} : ∀ {vs vs' : List Value} {l l' : List Ck}, Each R vs l → Each R vs' l' → Each R (vs ++ vs') (l ++ l')
  | [], _, [], _, _, h' => h'
  | _ :: _, _, _ :: _, _, h, h' => ⟨h.1, Each.append h.2 h'⟩
  | [], _, _ :: _, _, h, _ => h.elim
  | _ :: _, _, [], _, h, _ => h.elim
theorem Each.take {R : Value → Ck → Prop} : ∀ {vs : List Value} {l : List Ck} (k : Nat), Each R vs l → Each R (vs.take k) (l.take k)
  | _, _, 0, _ => by simp [Each]
  | [], [], _ + 1, _ => trivial
  | _ :: _, _ :: _, k + 1, h => ⟨h.1, Each.take k h.2⟩
  | [], _ :: _, _ + 1, h => h.elim
  | _ :: _, [], _ + 1, h => h.elim
theorem Each.get {R : Value → Ck → Prop} : ∀ {vs : List Value} {l : List Ck} (k : Nat) (_ : k < l.length), Each R vs l → ∃ v, vs[k]? = some v ∧ R v l[k]
  | _ :: _, _ :: _, 0, _, h => ⟨_, rfl, h.1⟩
  | _ :: _, _ :: _, k + 1, hk, h => by
    obtain ⟨v, e, g⟩ := Each.get k (by simpa using hk) h.2
    exact ⟨v, by simpa using e, by simpa using g⟩
  | [], _ :: _, _, _, h => h.elim
  | _, [], _, hk, _ => by simp at hk
theorem Each.of {R : Value → Ck → Prop} : ∀ {vs : List Value} {l : List Ck}, vs.length = l.length → (∀ (k : Nat) v c, vs[k]? = some v → l[k]? = some c → R v c) → Each R vs l
  | [], [], _, _ => trivial
  | _ :: _, _ :: _, h, g => ⟨g 0 _ _ rfl rfl, Each.of (by simpa using h) fun k v c e e' => g (k + 1) v c (by simpa using e) (by simpa using e')⟩
  | [], _ :: _, h, _ => by simp at h
  | _ :: _, [], h, _ => by simp at h

/-- Eleven cells each. -/
theorem Each.flat {R : Value → Ck → Prop} (hr : ∀ v c, R v c → v.cells.toList.length = 11) : ∀ {vs : List Value} {l : List Ck}, Each R vs l → (flatA vs).length = l.length * 11 ∧ (∀ k v i, vs[k]? = some v → i < 11 → (flatA vs)[k * 11 + i]? = v.cells.toList[i]?) ∧ ∀ k, flatA (vs.take k) = (flatA vs).take (k * 11)
  | [], [], _ => ⟨rfl, fun k v i h => by simp at h, fun k => by simp [flatA]⟩
  | v :: vs, c :: l, h => by
    have h1 := hr _ _ h.1
    obtain ⟨g1, g2, g3⟩ := Each.flat hr h.2
    refine ⟨?_, fun k u i e hi => ?_, fun k => ?_⟩
    · rw [flatA_cons, List.length_append, h1, g1, List.length_cons]; omega
    · cases k with
      | zero =>
        simp at e
        subst e
        rw [flatA_cons, List.getElem?_append_left (by omega), Nat.zero_mul, Nat.zero_add]
      | succ k =>
        rw [flatA_cons, List.getElem?_append_right (by omega), h1, show (k + 1) * 11 + i - 11 = k * 11 + i by omega]
        exact g2 k u i (by simpa using e) hi
    · cases k with
      | zero => simp [flatA]
      | succ k =>
        rw [List.take_succ_cons, flatA_cons, flatA_cons, g3 k, List.take_append, h1, show (k + 1) * 11 - 11 = k * 11 by omega, List.take_of_length_le (l := v.cells.toList) (by omega)]
  | [], _ :: _, h => h.elim
  | _ :: _, [], h => h.elim

theorem CkV.eleven {B : Nat} {w : World} (v : Value) (c : Ck) (h : CkV B w v c) : v.cells.toList.length = 11 := by
  obtain ⟨d, s, k, rfl, -⟩ := h
  rfl

/-- A slice value that is these chunks; it and their lists lie below block B. -/
def CkS (B : Nat) (w : World) (v : Value) (l : List Ck) : Prop := ∃ vs, Each (CkV B w) vs l ∧ Rw 11 B w v l.length (flatA vs)

theorem CkS.below {B B' : Nat} {w w' : World} {v : Value} {l : List Ck} (h : CkS B w v l) (hb : Below B' w w') (hB : B ≤ B') : CkS B w' v l := by
  obtain ⟨vs, h1, h2⟩ := h
  exact ⟨vs, h1.imp fun _ _ h => h.below hb hB, h2.below hb hB⟩
theorem CkS.mono {B B' : Nat} {w : World} {v : Value} {l : List Ck} (h : CkS B w v l) (hB : B ≤ B') : CkS B' w v l := by
  obtain ⟨vs, h1, h2⟩ := h
  exact ⟨vs, h1.imp fun _ _ h => h.mono hB, h2.mono hB⟩
theorem CkS.size {B : Nat} {w w' : World} {v : Value} {l : List Ck} (h : CkS w.heap.size w v l) (hb : Below B w w') (hB : w.heap.size ≤ B) : CkS w'.heap.size w' v l := (h.below hb hB).mono hb.size
theorem CkS.nil (B : Nat) (w : World) : CkS B w (.slice none 0 0) [] := ⟨[], trivial, Rw.nil 11 B w⟩
theorem CkS.ex {B : Nat} {w : World} {v : Value} {l : List Ck} (h : CkS B w v l) : ∃ a cap, v = .slice a l.length cap ∧ l.length ≤ cap ∧ cap ≤ 9223372036854775807 := by
  obtain ⟨vs, _, _, a, cap, rfl, h1, h2, _⟩ := h
  exact ⟨a, cap, rfl, h1, h2⟩
theorem CkS.head {B : Nat} {w : World} {a : Option Addr} {n cap : Nat} {l : List Ck} (h : CkS B w (.slice a n cap) l) (d : Nat) (h2 : d ≤ l.length) : CkS B w (.slice a d cap) (l.take d) := by
  obtain ⟨vs, h1, hr⟩ := h
  have hn := hr.len.1
  subst hn
  have hf := Each.flat CkV.eleven h1
  have := hr.re 0 d (by omega)
  rw [Nat.zero_mul, List.drop_zero, Nat.sub_zero, show reK 11 a cap 0 = a by simp [reK, Addr.add], ← hf.2.2 d] at this
  refine ⟨vs.take d, h1.take d, ?_⟩
  rw [show (l.take d).length = d by simp; omega]
  exact this

/-- A place in a slice of chunks. -/
theorem CkS.at {B : Nat} {w : World} {a : Option Addr} {n cap : Nat} {l : List Ck} (h : CkS B w (.slice a n cap) l) (k : Nat) (hk : k < l.length) :
    ∃ b off d s q, b < B ∧ (∀ wx, (Instr.indexAt 22 (.slice a n cap) (.int .i64 (k : Int))).run Try.prog wx = .ok (.pointer (some ⟨b, off, none⟩)) wx) ∧ CkV B w (ckVal l[k] d s q) l[k] ∧ IsSl d ∧ IsSl s ∧ IsSl q ∧
      (w.cell? ⟨b, off, none⟩ = some (.int .i64 l[k].kind) ∧ w.cell? ⟨b, off + 1, none⟩ = some (.int .i64 l[k].tag) ∧ w.cell? ⟨b, off + 2, none⟩ = some (.int .i64 l[k].stream) ∧ w.cell? ⟨b, off + 3, none⟩ = some (.int .i64 l[k].mid) ∧ w.cell? ⟨b, off + 4, none⟩ = some (.int .i64 l[k].part) ∧
       w.cell? ⟨b, off + 5, none⟩ = some (.bool l[k].last) ∧ w.cell? ⟨b, off + 6, none⟩ = some (.bool l[k].ordered) ∧ w.cell? ⟨b, off + 7, none⟩ = some d ∧ w.cell? ⟨b, off + 8, none⟩ = some s ∧ w.cell? ⟨b, off + 9, none⟩ = some (.int .i64 l[k].room) ∧ w.cell? ⟨b, off + 10, none⟩ = some q) := by
  obtain ⟨vs, h1, hl, a', cap', he, g1, g2, g0, g4⟩ := h
  simp only [Value.slice.injEq] at he
  obtain ⟨rfl, rfl, rfl⟩ := he
  have hf := (Each.flat CkV.eleven h1).2.1
  obtain ⟨v, hv, hc⟩ := h1.get k hk
  obtain ⟨b, off, rfl, hb, hat⟩ := g4 (by omega)
  have hc' := hc
  obtain ⟨d, s, q, rfl, hd, hs, hq⟩ := hc'
  have i1 : IsSl d := by obtain ⟨_, _, rfl, _⟩ := hd.ex; exact isl
  have i2 : IsSl s := by obtain ⟨_, _, rfl⟩ := hs.ex; exact isl
  have i3 : IsSl q := by obtain ⟨_, _, rfl, _⟩ := hq.ex; exact isl
  clear hd hs hq
  have e : ∀ i u, i < 11 → (ckVal l[k] d s q).cells.toList[i]? = some u → w.cell? ⟨b, off + k * 11 + i, none⟩ = some u := by
    intro i u hi hu
    rw [Nat.add_assoc]
    exact hat _ _ ((hf k _ i hv hi).trans hu)
  refine ⟨b, off + k * 11, d, s, q, hb, fun wx => ?_, hc, i1, i2, i3, e 0 _ (by omega) rfl, e 1 _ (by omega) rfl, e 2 _ (by omega) rfl, e 3 _ (by omega) rfl, e 4 _ (by omega) rfl, e 5 _ (by omega) rfl, e 6 _ (by omega) rfl, e 7 _ (by omega) rfl, e 8 _ (by omega) rfl, e 9 _ (by omega) rfl, e 10 _ (by omega) rfl⟩
  have : (k : Int) < l.length := by omega
  go_simp

/-- A slice value whose cells lie in blocks of S. -/
def InS (S : Nat → Prop) (v : Value) : Prop := ∀ b off sp n cap, v = .slice (some ⟨b, off, sp⟩) n cap → n ≠ 0 → S b
theorem InS.mono {S S' : Nat → Prop} {v : Value} (h : InS S v) (hs : ∀ k, S k → S' k) : InS S' v := fun b off sp n cap e hn => hs _ (h b off sp n cap e hn)
theorem Rw.keep {k B B' : Nat} {S : Nat → Prop} {w w' : World} {v : Value} {n : Nat} {xs : List Value} (h : Rw k B w v n xs) (hi : InS S v) (kp : Keep S w w') (hB : B ≤ B') : Rw k B' w' v n xs := by
  obtain ⟨hl, a, cap, rfl, h1, h2, h0, h4⟩ := h
  refine ⟨hl, a, cap, rfl, h1, h2, h0, fun hn => ?_⟩
  obtain ⟨b, off, rfl, hb, hat⟩ := h4 hn
  exact ⟨b, off, rfl, by omega, fun j u hu => (kp.cell (p := ⟨b, off + j, none⟩) (hi _ _ _ _ _ rfl hn)).trans (hat j u hu)⟩
theorem InS.own {w : World} {base : Nat} {e : TypeId} {size : Nat} {v : Value} {n : Nat} {xs : List Value} (h : w.ownsRow base e size v n xs) : InS (fun k => base ≤ k ∧ k < w.heap.size) v := by
  rintro b off sp n cap rfl hn
  rcases h.2 with ⟨h2, _⟩ | ⟨g, cap', cur, e, h3⟩
  · simp at h2
  · simp only [Value.slice.injEq, Option.some.injEq, Addr.mk.injEq] at e
    obtain ⟨⟨rfl, rfl, rfl⟩, _, rfl⟩ := e
    exact h.lt b rfl

/-- A value that is this chunk; its lists lie in blocks of S. -/
def CkI (S : Nat → Prop) (w : World) (v : Value) (c : Ck) : Prop := CkV w.heap.size w v c ∧ ∃ d s k, v = ckVal c d s k ∧ InS S d ∧ InS S s ∧ InS S k
theorem CkI.keep {S : Nat → Prop} {w w' : World} {v : Value} {c : Ck} (h : CkI S w v c) (kp : Keep S w w') : CkI S w' v c := by
  obtain ⟨⟨d, s, k, rfl, h1, h2, h3⟩, d', s', k', e, i1, i2, i3⟩ := h
  simp only [ckVal, Value.agg.injEq, Array.mk.injEq, List.cons.injEq, true_and, and_true] at e
  obtain ⟨rfl, rfl, rfl⟩ := e
  exact ⟨⟨d, s, k, rfl, ⟨h1.1.keep i1 kp kp.size, h1.2⟩, Sl.of_rw (h2.rw'.keep i2 kp kp.size) (by obtain ⟨_, _, _, _, _, _, h, _⟩ := h2; exact h), Rw.keep h3 i3 kp kp.size⟩, d, s, k, rfl, i1, i2, i3⟩
theorem CkI.mono {S S' : Nat → Prop} {w : World} {v : Value} {c : Ck} (h : CkI S w v c) (hs : ∀ k, S k → S' k) : CkI S' w v c := by
  obtain ⟨h0, d, s, k, e, i1, i2, i3⟩ := h
  exact ⟨h0, d, s, k, e, i1.mono hs, i2.mono hs, i3.mono hs⟩
theorem CkI.of {base : Nat} {w : World} {v : Value} {c : Ck} (h : CkOwn base w v c) : CkI (fun k => base ≤ k ∧ k < w.heap.size) w v c := by
  have hv := h.v
  obtain ⟨d, s, k, rfl, h1, h2, h3, h4, h5⟩ := h
  exact ⟨hv, d, s, k, rfl, InS.own h1, InS.own h2, InS.own h3⟩

/-- A row of chunks of the call's own. -/
def PkRow (base : Nat) (w : World) (v : Value) (l : List Ck) : Prop := ∃ vs, w.ownsRow base 45 11 v l.length (flatA vs) ∧ Each (CkI (fun k => k < w.heap.size ∧ v.ownBlock ≠ some k) w) vs l
theorem CkI.eleven {S : Nat → Prop} {w : World} (v : Value) (c : Ck) (h : CkI S w v c) : v.cells.toList.length = 11 := CkV.eleven v c h.1
theorem PkRow.s {base : Nat} {w : World} {v : Value} {l : List Ck} (h : PkRow base w v l) : CkS w.heap.size w v l := by
  obtain ⟨vs, h1, h2⟩ := h
  exact ⟨vs, h2.imp fun _ _ h => h.1, Rw.own h1 (Each.flat CkI.eleven h2).1⟩
theorem PkRow.nil (w : World) : PkRow w.heap.size w (.slice none 0 0) [] := ⟨[], ⟨rfl, .inl ⟨rfl, rfl⟩⟩, trivial⟩
theorem PkRow.below {base : Nat} {w w' : World} {v : Value} {l : List Ck} (h : PkRow base w v l) (b : Below w.heap.size w w') : PkRow base w' v l := by
  obtain ⟨vs, h1, h2⟩ := h
  have kp : Keep (fun k => k < w.heap.size ∧ v.ownBlock ≠ some k) w w' := ⟨b.os, b.tape, b.output, b.size, fun i hi => b.block i hi.1⟩
  exact ⟨vs, own_of_block h1 fun k hk => b.block k (h1.lt k hk).2, h2.imp fun _ _ h => (h.keep kp).mono fun k hk => ⟨Nat.lt_of_lt_of_le hk.1 b.size, hk.2⟩⟩
/-- One chunk more. -/
theorem PkRow.push {base : Nat} {w w' : World} {v v' u : Value} {l : List Ck} {c : Ck} {vs : List Value} (h2 : Each (CkI (fun k => k < w.heap.size ∧ v.ownBlock ≠ some k) w) vs l) (hu : CkI (fun k => k < w.heap.size ∧ v.ownBlock ≠ some k) w u c)
    (ho : w'.ownsRow base 45 11 v' (l.length + 1) (flatA vs ++ u.cells.toList)) (hg : w.grownBy w' v.ownBlock) (ha : v'.ownBlock = v.ownBlock ∨ v'.ownBlock = some w.heap.size) :
    PkRow base w' v' (l ++ [c]) := by
  have kp : Keep (fun k => k < w.heap.size ∧ v.ownBlock ≠ some k) w w' := ⟨hg.os, hg.tape, hg.output, hg.size, fun i hi => hg.block i hi.1 (fun e => hi.2 e.symm)⟩
  have hS : ∀ k, (k < w.heap.size ∧ v.ownBlock ≠ some k) → k < w'.heap.size ∧ v'.ownBlock ≠ some k := by
    rintro k ⟨k1, k2⟩
    refine ⟨Nat.lt_of_lt_of_le k1 hg.size, ?_⟩
    rcases ha with e | e
    · rw [e]; exact k2
    · rw [e]; simp; omega
  refine ⟨vs ++ [u], ?_, (Each.append (vs' := [u]) (l' := [c]) h2 ⟨hu, trivial⟩).imp fun _ _ h => (h.keep kp).mono hS⟩
  rw [flatA_append, List.length_append]
  simpa [flatA] using ho
end Go.Proofs.Ytnddejdndipddab
