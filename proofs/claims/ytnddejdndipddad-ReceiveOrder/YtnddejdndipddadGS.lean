/- Slices of whatever things: values and what they are, in turn; as they are read. -/
import Derived.Test.YtnddejdndipddadLB
set_option maxRecDepth 20000
namespace Go.Proofs.Ytnddejdndipddad
open Go.RowKit

/-- The cells of values, in a row. -/
def flatV (vs : List Value) : List Value := vs.flatMap fun v => v.cells.toList
theorem flatV_append (a b : List Value) : flatV (a ++ b) = flatV a ++ flatV b := by simp [flatV]
theorem flatV_cons (v : Value) (b : List Value) : flatV (v :: b) = v.cells.toList ++ flatV b := rfl

/-- Values and things, in turn. -/
def All2 {α : Type} (R : Value → α → Prop) : List Value → List α → Prop
  | [], [] => True
  | v :: vs, c :: l => R v c ∧ All2 R vs l
  | _, _ => False
theorem All2.len {α : Type} {R : Value → α → Prop} : ∀ {vs : List Value} {l : List α}, All2 R vs l → vs.length = l.length
  | [], [], _ => rfl
  | _ :: _, _ :: _, h => by simp [All2.len h.2]
  | [], _ :: _, h => h.elim
  | _ :: _, [], h => h.elim
theorem All2.imp {α : Type} {R R' : Value → α → Prop} (hr : ∀ v c, R v c → R' v c) : ∀ {vs : List Value} {l : List α}, All2 R vs l → All2 R' vs l
  | [], [], _ => trivial
  | _ :: _, _ :: _, h => ⟨hr _ _ h.1, All2.imp hr h.2⟩
  | [], _ :: _, h => h.elim
  | _ :: _, [], h => h.elim
theorem All2.append {α : Type} {R : Value → α → Prop} : ∀ {vs vs' : List Value} {l l' : List α}, All2 R vs l → All2 R vs' l' → All2 R (vs ++ vs') (l ++ l')
  | [], _, [], _, _, h' => h'
  | _ :: _, _, _ :: _, _, h, h' => ⟨h.1, All2.append h.2 h'⟩
  | [], _, _ :: _, _, h, _ => h.elim
  | _ :: _, _, [], _, h, _ => h.elim
theorem All2.take {α : Type} {R : Value → α → Prop} : ∀ {vs : List Value} {l : List α} (k : Nat), All2 R vs l → All2 R (vs.take k) (l.take k)
  | _, _, 0, _ => by simp [All2]
  | [], [], _ + 1, _ => trivial
  | _ :: _, _ :: _, k + 1, h => ⟨h.1, All2.take k h.2⟩
  | [], _ :: _, _ + 1, h => h.elim
  | _ :: _, [], _ + 1, h => h.elim
theorem All2.drop {α : Type} {R : Value → α → Prop} : ∀ {vs : List Value} {l : List α} (k : Nat), All2 R vs l → All2 R (vs.drop k) (l.drop k)
  | _, _, 0, h => by simpa using h
  | [], [], _ + 1, _ => trivial
  | _ :: _, _ :: _, k + 1, h => by simpa using All2.drop k h.2
  | [], _ :: _, _ + 1, h => h.elim
  | _ :: _, [], _ + 1, h => h.elim
theorem All2.get {α : Type} {R : Value → α → Prop} : ∀ {vs : List Value} {l : List α} (k : Nat) (_ : k < l.length), All2 R vs l → ∃ v, vs[k]? = some v ∧ R v l[k]
  | _ :: _, _ :: _, 0, _, h => ⟨_, rfl, h.1⟩
  | _ :: _, _ :: _, k + 1, hk, h => by
    obtain ⟨v, e, g⟩ := All2.get k (by simpa using hk) h.2
    exact ⟨v, by simpa using e, by simpa using g⟩
  | [], _ :: _, _, _, h => h.elim
  | _, [], _, hk, _ => by simp at hk
theorem All2.of {α : Type} {R : Value → α → Prop} : ∀ {vs : List Value} {l : List α}, vs.length = l.length → (∀ (k : Nat) v c, vs[k]? = some v → l[k]? = some c → R v c) → All2 R vs l
  | [], [], _, _ => trivial
  | _ :: _, _ :: _, h, g => ⟨g 0 _ _ rfl rfl, All2.of (by simpa using h) fun k v c e e' => g (k + 1) v c (by simpa using e) (by simpa using e')⟩
  | [], _ :: _, h, _ => by simp at h
  | _ :: _, [], h, _ => by simp at h
theorem All2.set {α : Type} {R : Value → α → Prop} : ∀ {vs : List Value} {l : List α} (k : Nat) {v : Value} {c : α}, R v c → All2 R vs l → All2 R (vs.set k v) (l.set k c)
  | [], [], _, _, _, _, _ => trivial
  | _ :: _, _ :: _, 0, _, _, hr, h => ⟨hr, h.2⟩
  | _ :: _, _ :: _, k + 1, _, _, hr, h => ⟨h.1, All2.set k hr h.2⟩
  | [], _ :: _, _, _, _, _, h => h.elim
  | _ :: _, [], _, _, _, _, h => h.elim

/-- So many cells each. -/
theorem All2.flat {α : Type} {R : Value → α → Prop} {c : Nat} (hr : ∀ v x, R v x → v.cells.toList.length = c) : ∀ {vs : List Value} {l : List α}, All2 R vs l → (flatV vs).length = l.length * c ∧ (∀ k v i, vs[k]? = some v → i < c → (flatV vs)[k * c + i]? = v.cells.toList[i]?) ∧ (∀ k, flatV (vs.take k) = (flatV vs).take (k * c)) ∧ ∀ k, flatV (vs.drop k) = (flatV vs).drop (k * c)
  | [], [], _ => ⟨by simp [flatV], fun k v i h => by simp at h, fun k => by simp [flatV], fun k => by simp [flatV]⟩
  | v :: vs, x :: l, h => by
    have h1 := hr _ _ h.1
    obtain ⟨g1, g2, g3, g4⟩ := All2.flat hr h.2
    refine ⟨?_, fun k u i e hi => ?_, fun k => ?_, fun k => ?_⟩
    · rw [flatV_cons, List.length_append, h1, g1, List.length_cons, Nat.succ_mul, Nat.add_comm]
    · cases k with
      | zero =>
        simp at e
        subst e
        rw [flatV_cons, List.getElem?_append_left (by omega), Nat.zero_mul, Nat.zero_add]
      | succ k =>
        rw [flatV_cons, Nat.succ_mul, List.getElem?_append_right (by omega), h1, show k * c + c + i - c = k * c + i by omega]
        exact g2 k u i (by simpa using e) hi
    · cases k with
      | zero => simp [flatV]
      | succ k =>
        rw [List.take_succ_cons, flatV_cons, flatV_cons, g3 k, List.take_append, h1, Nat.succ_mul, show k * c + c - c = k * c by omega, List.take_of_length_le (l := v.cells.toList) (by omega)]
    · cases k with
      | zero => simp
      | succ k =>
        rw [List.drop_succ_cons, flatV_cons, g4 k, List.drop_append, h1, Nat.succ_mul, show k * c + c - c = k * c by omega, List.drop_of_length_le (l := v.cells.toList) (by omega), List.nil_append]
  | [], _ :: _, h => h.elim
  | _ :: _, [], h => h.elim

/-- A slice value that is these things, of c cells each; it and what they hold lie below block B. -/
def SlG {α : Type} (c : Nat) (R : Nat → World → Value → α → Prop) (B : Nat) (w : World) (v : Value) (l : List α) : Prop := ∃ vs, All2 (R B w) vs l ∧ Rw c B w v l.length (flatV vs)

/-- What a relation must bear: so many cells, a later world, a greater bound. -/
structure Bears {α : Type} (c : Nat) (R : Nat → World → Value → α → Prop) : Prop where
  cells : ∀ B w v x, R B w v x → v.cells.toList.length = c
  below : ∀ {B B' w w' v x}, R B w v x → Below B' w w' → B ≤ B' → R B w' v x
  mono : ∀ {B B' w v x}, R B w v x → B ≤ B' → R B' w v x

section
variable {α : Type} {c : Nat} {R : Nat → World → Value → α → Prop} (hR : Bears c R)
include hR
theorem SlG.below {B B' : Nat} {w w' : World} {v : Value} {l : List α} (h : SlG c R B w v l) (hb : Below B' w w') (hB : B ≤ B') : SlG c R B w' v l := by
  obtain ⟨vs, h1, h2⟩ := h
  exact ⟨vs, h1.imp fun _ _ h => hR.below h hb hB, h2.below hb hB⟩
theorem SlG.mono {B B' : Nat} {w : World} {v : Value} {l : List α} (h : SlG c R B w v l) (hB : B ≤ B') : SlG c R B' w v l := by
  obtain ⟨vs, h1, h2⟩ := h
  exact ⟨vs, h1.imp fun _ _ h => hR.mono h hB, h2.mono hB⟩
theorem SlG.size {B : Nat} {w w' : World} {v : Value} {l : List α} (h : SlG c R w.heap.size w v l) (hb : Below B w w') (hB : w.heap.size ≤ B) : SlG c R w'.heap.size w' v l := SlG.mono hR (SlG.below hR h hb hB) hb.size
theorem SlG.re {B : Nat} {w : World} {a : Option Addr} {n cap : Nat} {l : List α} (h : SlG c R B w (.slice a n cap) l) (lo d : Nat) (h2 : lo + d ≤ l.length) : SlG c R B w (.slice (reK c a cap lo) d (cap - lo)) ((l.drop lo).take d) := by
  obtain ⟨vs, h1, hr⟩ := h
  have hn := hr.len.1
  subst hn
  have hf := All2.flat (hR.cells B w) h1
  have hf2 := All2.flat (hR.cells B w) (h1.drop lo)
  have := hr.re lo d h2
  refine ⟨(vs.drop lo).take d, (h1.drop lo).take d, ?_⟩
  rw [show ((l.drop lo).take d).length = d by simp; omega, hf2.2.2.1 d, hf.2.2.2 lo]
  exact this
/-- A place in a slice of things. -/
theorem SlG.at {B : Nat} {w : World} {a : Option Addr} {n cap : Nat} {l : List α} (h : SlG c R B w (.slice a n cap) l) (k : Nat) (hk : k < l.length) :
    ∃ b off v, b < B ∧ n = l.length ∧ a = some ⟨b, off, none⟩ ∧ R B w v l[k] ∧ ∀ i u, i < c → v.cells.toList[i]? = some u → w.cell? ⟨b, off + k * c + i, none⟩ = some u := by
  obtain ⟨vs, h1, hl, a', cap', he, g1, g2, g0, g4⟩ := h
  simp only [Value.slice.injEq] at he
  obtain ⟨rfl, rfl, rfl⟩ := he
  have hf := (All2.flat (hR.cells B w) h1).2.1
  obtain ⟨v, hv, hc⟩ := h1.get k hk
  obtain ⟨b, off, rfl, hb, hat⟩ := g4 (by omega)
  refine ⟨b, off, v, hb, rfl, rfl, hc, fun i u hi hu => ?_⟩
  rw [Nat.add_assoc]
  exact hat _ _ ((hf k _ i hv hi).trans hu)
end
theorem SlG.nil {α : Type} (c : Nat) (R : Nat → World → Value → α → Prop) (B : Nat) (w : World) : SlG c R B w (.slice none 0 0) [] := ⟨[], trivial, Rw.nil c B w⟩
theorem SlG.ex {α : Type} {c : Nat} {R : Nat → World → Value → α → Prop} {B : Nat} {w : World} {v : Value} {l : List α} (h : SlG c R B w v l) : ∃ a cap, v = .slice a l.length cap ∧ l.length ≤ cap ∧ cap ≤ 9223372036854775807 := by
  obtain ⟨vs, _, _, a, cap, rfl, h1, h2, _⟩ := h
  exact ⟨a, cap, rfl, h1, h2⟩
end Go.Proofs.Ytnddejdndipddad
