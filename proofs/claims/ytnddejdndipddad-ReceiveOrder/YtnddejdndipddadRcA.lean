/- Receivers, plain: what a part that comes, and a forward, make of one. -/
import Derived.Test.YtnddejdndipddadPaA
import Derived.Test.YtnddejdndipddadLD
set_option maxRecDepth 20000
namespace Go.Proofs.Ytnddejdndipddad

structure Av where
  stream : Int
  mid : Int
  ordered : Bool
  data : List Int
structure Cf where
  streams : Int
  part : Int
  packet : Int
  paths : Int
  turns : Int
  waiting : Int
  first : Int
structure Rc where
  cf : Cf
  cum : Int
  spans : List Sp
  pieces : List Pc
  turn : List Int
  log : List Av
structure Ms where
  stream : Int
  mid : Int
  ordered : Bool

def isM (m : Ms) (p : Pc) : Bool := p.ck.stream == m.stream && p.ck.mid == m.mid && p.ck.ordered == m.ordered
def mineM (m : Ms) (l : List Pc) : List Pc := l.filter (isM m)
def restM (m : Ms) (l : List Pc) : List Pc := l.filter fun p => !isM m p
def dropM (x : Rc) (m : Ms) : Rc := { x with pieces := restM m x.pieces }
def wholeM (x : Rc) (m : Ms) : Bool := joinB (mineM m x.pieces)
def loggedM (x : Rc) (m : Ms) : Rc := { x with log := x.log ++ [⟨m.stream, m.mid, m.ordered, joinD (mineM m x.pieces)⟩] }
def delivM (x : Rc) (m : Ms) : Rc := if wholeM x m = true then dropM (loggedM x m) m else x
def goneM (x : Rc) (m : Ms) : Rc := if wholeM x m = true then delivM x m else dropM x m
def numM (s n : Int) : Ms := ⟨s, n % 65536, true⟩
def turnAt (x : Rc) (s : Int) : Int := x.turn.getD s.toNat 0
def setTurn (x : Rc) (s v : Int) : Rc := { x with turn := x.turn.set s.toNat v }
def turnsF : Nat → Rc → Int → Rc
  | 0, x, _ => x
  | n + 1, x, s => if wholeM x (numM s (turnAt x s)) = true then turnsF n (setTurn (delivM x (numM s (turnAt x s))) s (turnAt x s + 1)) s else x
def turnsM (x : Rc) (s : Int) : Rc := turnsF x.pieces.length x s
def hasM (x : Rc) (s : Int) : Prop := 0 ≤ s ∧ s < x.turn.length
instance (x : Rc) (s : Int) : Decidable (hasM x s) := by unfold hasM; infer_instance
def heldM (l : List Pc) : Nat := (l.map fun p => p.ck.data.length).sum
def newM (c : Cf) : Rc := ⟨c, c.first - 1, [], [], List.replicate c.streams.toNat 0, []⟩
/-- Is it taken? -/
def takesM (x : Rc) (c : Ck) : Prop := c.kind = 1 ∧ hasM x c.stream ∧ x.cum < nearM x.cum c.tag ∧ inM x.spans (nearM x.cum c.tag) = false ∧ (nearM x.cum c.tag = x.cum + 1 ∨ heldM x.pieces + c.data.length ≤ 400)
instance (x : Rc) (c : Ck) : Decidable (takesM x c) := by unfold takesM; infer_instance
def keptM (x : Rc) (c : Ck) : Rc := { x with pieces := x.pieces ++ [⟨nearM x.cum c.tag, c⟩], cum := (upM (addM x.spans (nearM x.cum c.tag)) x.cum).1, spans := (upM (addM x.spans (nearM x.cum c.tag)) x.cum).2 }
def recvM (x : Rc) (c : Ck) : Rc := if takesM x c then (if c.ordered = true then turnsM (keptM x c) c.stream else delivM (keptM x c) ⟨c.stream, c.mid, c.ordered⟩) else x
/-- So many messages in turn are gone, from a number on. -/
def goneN (s : Int) : Nat → Rc → Int → Rc
  | 0, x, _ => x
  | n + 1, x, a => goneN s n (goneM x (numM s a)) (a + 1)
def passM (x : Rc) (s last : Int) : Rc := if last < turnAt x s then x else setTurn (goneN s (last - turnAt x s + 1).toNat x (turnAt x s)) s (last + 1)
def skipM (x : Rc) (k : Sk) : Rc := if hasM x k.stream then (if k.ordered = true then turnsM (passM x k.stream (nearM (turnAt x k.stream) k.mid)) k.stream else dropM x ⟨k.stream, k.mid, false⟩) else x
def goesM (x : Rc) (c : Ck) : Prop := c.kind = 3 ∧ x.cum < nearM x.cum c.tag
instance (x : Rc) (c : Ck) : Decidable (goesM x c) := by unfold goesM; infer_instance
def overM (x : Rc) (c : Ck) : Rc := { x with cum := (upM x.spans (nearM x.cum c.tag)).1, spans := (upM x.spans (nearM x.cum c.tag)).2 }
def forwM (x : Rc) (c : Ck) : Rc := if goesM x c then c.skips.foldl skipM (overM x c) else x
def tellM (x : Rc) : Ck := ⟨2, x.cum % 65536, 0, 0, 0, false, false, [], (x.spans.take 6).map fun s => (s.1 - x.cum, s.2 - x.cum), max (400 - (heldM x.pieces : Int)) 0, []⟩

theorem join_nil : joinB [] = false := by simp [joinB]
theorem mine_pos {x : Rc} {m : Ms} (h : wholeM x m = true) : mineM m x.pieces ≠ [] := by
  intro e
  rw [wholeM, e, join_nil] at h
  simp at h
theorem rest_len (m : Ms) (l : List Pc) : (restM m l).length + (mineM m l).length = l.length := by
  unfold restM mineM
  induction l with
  | nil => rfl
  | cons p l ih =>
    simp only [List.filter_cons]
    cases isM m p <;> simp <;> omega
theorem deliv_len {x : Rc} {m : Ms} (h : wholeM x m = true) : (delivM x m).pieces.length < x.pieces.length := by
  have h1 := List.length_pos_iff.2 (mine_pos h)
  have h2 := rest_len m x.pieces
  rw [delivM, if_pos h]
  show (restM m x.pieces).length < _
  omega
theorem turnsF_fuel : ∀ (n : Nat) (x : Rc) (s : Int), x.pieces.length ≤ n → turnsF n x s = turnsF x.pieces.length x s
  | 0, x, s, h => by rw [show x.pieces.length = 0 by omega]
  | n + 1, x, s, h => by
    rw [turnsF]
    by_cases hw : wholeM x (numM s (turnAt x s)) = true
    · have hl := deliv_len hw
      rw [if_pos hw]
      obtain ⟨k, hk⟩ : ∃ k, x.pieces.length = k + 1 := ⟨x.pieces.length - 1, by omega⟩
      have e : (setTurn (delivM x (numM s (turnAt x s))) s (turnAt x s + 1)).pieces.length ≤ k := by show (delivM x (numM s (turnAt x s))).pieces.length ≤ k; omega
      rw [hk, turnsF, if_pos hw, turnsF_fuel n _ s (by omega), turnsF_fuel k _ s e]
    · rw [if_neg hw]
      cases hk : x.pieces.length with
      | zero => rfl
      | succ k => rw [turnsF, if_neg hw]
theorem turnsM_go {x : Rc} {s : Int} (hw : wholeM x (numM s (turnAt x s)) = true) : turnsM x s = turnsM (setTurn (delivM x (numM s (turnAt x s))) s (turnAt x s + 1)) s := by
  have hl := deliv_len hw
  obtain ⟨k, hk⟩ : ∃ k, x.pieces.length = k + 1 := ⟨x.pieces.length - 1, by omega⟩
  rw [turnsM, hk, turnsF, if_pos hw]
  exact turnsF_fuel k _ s (by show (delivM x (numM s (turnAt x s))).pieces.length ≤ k; omega)
theorem turnsM_stop {x : Rc} {s : Int} (hw : wholeM x (numM s (turnAt x s)) = false) : turnsM x s = x := by
  rw [turnsM]
  cases hk : x.pieces.length with
  | zero => rfl
  | succ k => rw [turnsF, if_neg (by simp [hw])]
/-- Whatever is so of each step of the turns is so of all. -/
theorem turnsM_ind {P : Rc → Prop} (s : Int) (hs : ∀ x, P x → wholeM x (numM s (turnAt x s)) = true → P (setTurn (delivM x (numM s (turnAt x s))) s (turnAt x s + 1))) (x : Rc) (h : P x) : P (turnsM x s) := by
  have go : ∀ (n : Nat) (x : Rc), P x → P (turnsF n x s) := by
    intro n
    induction n with
    | zero => intro x h; exact h
    | succ n ih =>
      intro x h
      rw [turnsF]
      by_cases hw : wholeM x (numM s (turnAt x s)) = true
      · rw [if_pos hw]; exact ih _ (hs x h hw)
      · rw [if_neg hw]; exact h
  exact go _ x h
theorem goneN_ind {P : Rc → Prop} (s : Int) (hs : ∀ x m, P x → P (goneM x m)) : ∀ (n : Nat) (x : Rc) (a : Int), P x → P (goneN s n x a)
  | 0, _, _, h => h
  | n + 1, x, _, h => goneN_ind s hs n _ _ (hs x _ h)
theorem foldl_ind {α β : Type} {P : α → Prop} (f : α → β → α) (l : List β) (hs : ∀ x, ∀ b ∈ l, P x → P (f x b)) (x : α) (h : P x) : P (l.foldl f x) := by
  induction l generalizing x with
  | nil => exact h
  | cons b l ih => exact ih (fun x c hc => hs x c (by simp [hc])) _ (hs x b (by simp) h)

/-- What all steps leave as it was. -/
theorem deliv_turn (x : Rc) (m : Ms) : (delivM x m).turn = x.turn ∧ (delivM x m).cum = x.cum ∧ (delivM x m).spans = x.spans ∧ (delivM x m).cf = x.cf := by
  unfold delivM
  split <;> exact ⟨rfl, rfl, rfl, rfl⟩
theorem gone_turn (x : Rc) (m : Ms) : (goneM x m).turn = x.turn ∧ (goneM x m).cum = x.cum ∧ (goneM x m).spans = x.spans ∧ (goneM x m).cf = x.cf := by
  unfold goneM
  split
  · exact deliv_turn x m
  · exact ⟨rfl, rfl, rfl, rfl⟩
theorem goneN_turn (s : Int) (n : Nat) (x : Rc) (a : Int) : (goneN s n x a).turn = x.turn ∧ (goneN s n x a).cum = x.cum ∧ (goneN s n x a).spans = x.spans ∧ (goneN s n x a).cf = x.cf :=
  goneN_ind (P := fun y => y.turn = x.turn ∧ y.cum = x.cum ∧ y.spans = x.spans ∧ y.cf = x.cf) s (fun y m h => by
    obtain ⟨g1, g2, g3, g4⟩ := gone_turn y m
    exact ⟨g1.trans h.1, g2.trans h.2.1, g3.trans h.2.2.1, g4.trans h.2.2.2⟩) n x a ⟨rfl, rfl, rfl, rfl⟩
theorem turns_keep (x : Rc) (s : Int) : (turnsM x s).turn.length = x.turn.length ∧ (turnsM x s).cum = x.cum ∧ (turnsM x s).spans = x.spans ∧ (turnsM x s).cf = x.cf :=
  turnsM_ind (P := fun y => y.turn.length = x.turn.length ∧ y.cum = x.cum ∧ y.spans = x.spans ∧ y.cf = x.cf) s (fun y h _ => by
    obtain ⟨g1, g2, g3, g4⟩ := deliv_turn y (numM s (turnAt y s))
    exact ⟨by show (List.set _ _ _).length = _; rw [List.length_set, g1]; exact h.1, g2.trans h.2.1, g3.trans h.2.2.1, g4.trans h.2.2.2⟩) x ⟨rfl, rfl, rfl, rfl⟩
theorem pass_keep (x : Rc) (s last : Int) : (passM x s last).turn.length = x.turn.length ∧ (passM x s last).cum = x.cum ∧ (passM x s last).spans = x.spans ∧ (passM x s last).cf = x.cf := by
  unfold passM
  split
  · exact ⟨rfl, rfl, rfl, rfl⟩
  · obtain ⟨g1, g2, g3, g4⟩ := goneN_turn s (last - turnAt x s + 1).toNat x (turnAt x s)
    exact ⟨by show (List.set _ _ _).length = _; rw [List.length_set, g1], g2, g3, g4⟩
theorem skip_keep (x : Rc) (k : Sk) : (skipM x k).turn.length = x.turn.length ∧ (skipM x k).cum = x.cum ∧ (skipM x k).spans = x.spans ∧ (skipM x k).cf = x.cf := by
  unfold skipM
  split
  · split
    · obtain ⟨h1, h2, h3, h4⟩ := turns_keep (passM x k.stream (nearM (turnAt x k.stream) k.mid)) k.stream
      obtain ⟨g1, g2, g3, g4⟩ := pass_keep x k.stream (nearM (turnAt x k.stream) k.mid)
      exact ⟨h1.trans g1, h2.trans g2, h3.trans g3, h4.trans g4⟩
    · exact ⟨rfl, rfl, rfl, rfl⟩
  · exact ⟨rfl, rfl, rfl, rfl⟩
theorem skips_keep (l : List Sk) (x : Rc) : (l.foldl skipM x).turn.length = x.turn.length ∧ (l.foldl skipM x).cum = x.cum ∧ (l.foldl skipM x).spans = x.spans ∧ (l.foldl skipM x).cf = x.cf :=
  foldl_ind (P := fun y => y.turn.length = x.turn.length ∧ y.cum = x.cum ∧ y.spans = x.spans ∧ y.cf = x.cf) skipM l (fun y k _ h => by
    obtain ⟨g1, g2, g3, g4⟩ := skip_keep y k
    exact ⟨g1.trans h.1, g2.trans h.2.1, g3.trans h.2.2.1, g4.trans h.2.2.2⟩) x ⟨rfl, rfl, rfl, rfl⟩
end Go.Proofs.Ytnddejdndipddad
