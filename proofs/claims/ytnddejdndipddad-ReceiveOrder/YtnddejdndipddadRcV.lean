/- Plain: what may be of a receiver behind so many chunks. -/
import Derived.Test.YtnddejdndipddadRcT
set_option maxRecDepth 20000
namespace Go.Proofs.Ytnddejdndipddad

def lpR (x : Rc) : Nat := x.log.length + x.pieces.length
theorem deliv_lp (x : Rc) (m : Ms) : lpR (delivM x m) ≤ lpR x ∧ (delivM x m).pieces.length ≤ x.pieces.length := by
  by_cases hw : wholeM x m = true
  · have h := deliv_len hw
    have e : (delivM x m).log.length = x.log.length + 1 := by rw [delivM, if_pos hw]; show (x.log ++ [_]).length = _; simp
    unfold lpR
    omega
  · rw [delivM, if_neg hw]; exact ⟨Nat.le_refl _, Nat.le_refl _⟩
theorem gone_lp (x : Rc) (m : Ms) : lpR (goneM x m) ≤ lpR x ∧ (goneM x m).pieces.length ≤ x.pieces.length := by
  unfold goneM
  split
  · exact deliv_lp x m
  · have := rest_le m x.pieces
    exact ⟨by show x.log.length + (restM m x.pieces).length ≤ x.log.length + _; omega, this⟩
theorem turns_lp (x : Rc) (s : Int) : lpR (turnsM x s) ≤ lpR x ∧ (turnsM x s).pieces.length ≤ x.pieces.length :=
  turnsM_ind (P := fun y => lpR y ≤ lpR x ∧ y.pieces.length ≤ x.pieces.length) s (fun y h _ => ⟨Nat.le_trans (deliv_lp y _).1 h.1, Nat.le_trans (deliv_lp y _).2 h.2⟩) x ⟨Nat.le_refl _, Nat.le_refl _⟩
theorem pass_lp (x : Rc) (s last : Int) : lpR (passM x s last) ≤ lpR x ∧ (passM x s last).pieces.length ≤ x.pieces.length := by
  unfold passM
  split
  · exact ⟨Nat.le_refl _, Nat.le_refl _⟩
  · exact goneN_ind (P := fun y => lpR y ≤ lpR x ∧ y.pieces.length ≤ x.pieces.length) s (fun y m h => ⟨Nat.le_trans (gone_lp y m).1 h.1, Nat.le_trans (gone_lp y m).2 h.2⟩) _ x _ ⟨Nat.le_refl _, Nat.le_refl _⟩
theorem skip_lp (x : Rc) (k : Sk) : lpR (skipM x k) ≤ lpR x ∧ (skipM x k).pieces.length ≤ x.pieces.length := by
  unfold skipM
  split
  · split
    · exact ⟨Nat.le_trans (turns_lp _ _).1 (pass_lp x _ _).1, Nat.le_trans (turns_lp _ _).2 (pass_lp x _ _).2⟩
    · have := rest_le ⟨k.stream, k.mid, false⟩ x.pieces
      exact ⟨by show x.log.length + (restM _ x.pieces).length ≤ x.log.length + _; omega, this⟩
  · exact ⟨Nat.le_refl _, Nat.le_refl _⟩
theorem recv_lp (x : Rc) (c : Ck) : lpR (recvM x c) ≤ lpR x + 1 ∧ (recvM x c).pieces.length ≤ x.pieces.length + 1 := by
  have e : lpR (keptM x c) = lpR x + 1 ∧ (keptM x c).pieces.length = x.pieces.length + 1 := by
    have : (keptM x c).pieces.length = x.pieces.length + 1 := by show (x.pieces ++ [_]).length = _; simp
    exact ⟨by unfold lpR; rw [this]; rfl, this⟩
  unfold recvM
  split
  · split
    · have := turns_lp (keptM x c) c.stream; omega
    · have := deliv_lp (keptM x c) ⟨c.stream, c.mid, c.ordered⟩; omega
  · omega
theorem forw_lp (x : Rc) (c : Ck) : lpR (forwM x c) ≤ lpR x ∧ (forwM x c).pieces.length ≤ x.pieces.length := by
  unfold forwM
  split
  · exact foldl_ind (P := fun y => lpR y ≤ lpR x ∧ y.pieces.length ≤ x.pieces.length) skipM c.skips (fun y k _ h => ⟨Nat.le_trans (skip_lp y k).1 h.1, Nat.le_trans (skip_lp y k).2 h.2⟩) (overM x c) ⟨Nat.le_refl _, Nat.le_refl _⟩
  · exact ⟨Nat.le_refl _, Nat.le_refl _⟩
theorem OkR.kept {K : Int} {x : Rc} (h : OkR K x) {c : Ck} (hn : x.pieces.length + 1 ≤ 1048576) (hl : x.log.length + x.pieces.length + 1 ≤ 2097152) (hf : CkFit c) (hd : c.data.length ≤ 1048576) : OkR (K + 1) (keptM x c) := by
  refine ⟨⟨?_, fun p hp => ?_, ?_, h.fit.a⟩, fun z hz => ?_⟩
  · show (x.pieces ++ [_]).length ≤ _; simp; omega
  · rcases List.mem_append.1 hp with hp | hp
    · exact h.fit.d p hp
    · simp at hp; subst hp; exact ⟨hf, hd⟩
  · show x.log.length + (x.pieces ++ [_]).length ≤ _; simp; omega
  · have := h.turn z hz
    show 0 ≤ z ∧ z + ((x.pieces ++ [_]).length : Int) ≤ _
    simp
    omega
theorem OkR.over {K : Int} {x : Rc} (h : OkR K x) (c : Ck) : OkR K (overM x c) := ⟨⟨h.fit.n, h.fit.d, h.fit.l, h.fit.a⟩, h.turn⟩
theorem OkR.skips {K : Int} : ∀ (l : List Sk) {x : Rc}, OkR K x → OkR (K + 32769 * l.length) (l.foldl skipM x)
  | [], x, h => by simpa using h
  | k :: l, x, h => by
    have := OkR.skips l (h.skip k)
    rw [List.foldl_cons, List.length_cons]
    exact this.mono (by omega)
/-- Behind so many chunks, with so many skips. -/
structure RunR (n k b : Nat) (x : Rc) : Prop where
  inv : InvR x
  c1 : -1 ≤ x.cum
  c2 : x.cum ≤ 65536 + 32768 * (k : Int)
  ok : OkR (32769 * (b : Int) + k) x
  pl : x.pieces.length ≤ k
  ll : lpR x ≤ k
  tl : x.turn.length = n
theorem RunR.new {c : Cf} {n : Nat} (hn : c.streams = n) (h1 : 0 ≤ c.first) (h2 : c.first ≤ 65536) : RunR n 0 0 (newM c) := by
  refine ⟨new_inv c, by show -1 ≤ c.first - 1; omega, by show c.first - 1 ≤ _; omega, ⟨⟨by simp [newM], fun p hp => by simp [newM] at hp, by simp [newM], fun q hq => by simp [newM] at hq⟩, fun z hz => ?_⟩, by simp [newM], by simp [newM, lpR], by simp [newM, hn]⟩
  have : z = 0 := by simp [newM] at hz; exact hz.2
  subst this
  simp [newM]
theorem RunR.st {n k b : Nat} {x : Rc} (h : RunR n k b x) (hk : k ≤ 1048576) (hn : n ≤ 2147483647) : FitR x ∧ x.spans.length ≤ 1099511627776 ∧ x.turn.length ≤ 2147483647 ∧ -1 ≤ x.cum ∧ x.cum ≤ 549755813888 := by
  have h1 := h.c1
  have h2 := h.c2
  have h3 := h.inv.ris.length h.inv.up (by omega)
  exact ⟨h.ok.fit, by omega, by rw [h.tl]; exact hn, h1, by omega⟩
theorem RunR.recv {n k b : Nat} {x : Rc} {c : Ck} (h : RunR n k b x) (hk : k + 1 ≤ 1048576) (hf : CkFit c) (hd : c.data.length ≤ 1048576) : OkR (32769 * (b : Int) + k + 1) (keptM x c) ∧ RunR n (k + 1) b (recvM x c) := by
  have h1 := h.pl
  have h2 := h.ll
  unfold lpR at h2
  have o1 := h.ok.kept (c := c) (by omega) (by omega) hf hd
  obtain ⟨i1, i2, i3, -⟩ := recv_twice h.inv c
  obtain ⟨l1, l2⟩ := recv_lp x c
  have g1 := h.c1
  have g2 := h.c2
  refine ⟨o1, i1, by omega, by omega, ?_, by omega, by have := h.ll; omega, ?_⟩
  · unfold recvM
    split
    next ht =>
      split
      · exact (o1.turns (has_keep ht.2.1 rfl)).mono (by omega)
      · exact (o1.deliv _).mono (by omega)
    next => exact h.ok.mono (by omega)
  · by_cases ht : takesM x c
    · rw [(recv_cum ht).2.2.1]; exact h.tl
    · rw [recvM, if_neg ht]; exact h.tl
theorem RunR.forw {n k b : Nat} {x : Rc} {c : Ck} (h : RunR n k b x) : OkR (32769 * (b : Int) + k) (overM x c) ∧ RunR n (k + 1) (b + c.skips.length) (forwM x c) := by
  have o1 := h.ok.over c
  obtain ⟨i1, i2, i3, -⟩ := forw_twice h.inv c
  obtain ⟨l1, l2⟩ := forw_lp x c
  have g1 := h.c1
  have g2 := h.c2
  have g3 := h.pl
  have g4 := h.ll
  refine ⟨o1, i1, by omega, by omega, ?_, by omega, by omega, ?_⟩
  · unfold forwM
    split
    · exact (OkR.skips c.skips o1).mono (by omega)
    · exact h.ok.mono (by omega)
  · unfold forwM
    split
    · rw [(skips_keep c.skips (overM x c)).1]; exact h.tl
    · exact h.tl
end Go.Proofs.Ytnddejdndipddad
