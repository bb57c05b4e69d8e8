/- Plain: a chunk that comes again does nothing; what was delivered stays. -/
import Derived.Test.YtnddejdndipddadRcK
set_option maxRecDepth 20000
namespace Go.Proofs.Ytnddejdndipddad

/-- Spans lie above, with a gap, and not too far. -/
structure InvR (x : Rc) : Prop where
  ris : Ris (x.cum + 1) x.spans
  up : Upto (x.cum + 32768) x.spans
theorem up_ris : ∀ (l : List Sp) (b c : Int), Ris b l → Ris ((upM l c).1 + 1) (upM l c).2 ∧ c ≤ (upM l c).1 ∧ ∀ k, Upto k l → (c ≤ k → (upM l c).1 ≤ k) ∧ Upto k (upM l c).2
  | [], b, c, _ => by rw [upM_nil]; exact ⟨trivial, Int.le_refl _, fun k _ => ⟨fun h => h, fun s hs => by simp at hs⟩⟩
  | s :: r, b, c, h => by
    by_cases hf : c + 1 < s.1
    · rw [upM_far s r c hf]
      exact ⟨⟨hf, h.2.1, h.2.2⟩, Int.le_refl _, fun k hk => ⟨fun h => h, hk⟩⟩
    · rw [upM_near s r c hf]
      obtain ⟨g1, g2, g3⟩ := up_ris r (s.2 + 1) (max c s.2) h.2.2
      refine ⟨g1, by omega, fun k hk => ?_⟩
      have hs := hk s (by simp)
      obtain ⟨j1, j2⟩ := g3 k fun t ht => hk t (by simp [ht])
      exact ⟨fun hc => j1 (by omega), j2⟩
theorem near_of {c t n : Int} (h : (n - t) % 65536 = 0) (h1 : n - c ≤ 32768) (h2 : c - n < 32768) : nearM c t = n := by
  unfold nearM
  simp only
  split <;> omega
theorem near_is (c t : Int) : (nearM c t - t) % 65536 = 0 ∧ nearM c t - c ≤ 32768 ∧ c - nearM c t < 32768 := by
  unfold nearM
  simp only
  split <;> omega
theorem Upto.mono {c c' : Int} {l : List Sp} (h : Upto c l) (hc : c ≤ c') : Upto c' l := fun s hs => by have := h s hs; omega

theorem recv_cum {x : Rc} {c : Ck} (h : takesM x c) : (recvM x c).cum = (keptM x c).cum ∧ (recvM x c).spans = (keptM x c).spans ∧ (recvM x c).turn.length = x.turn.length ∧ (recvM x c).cf = x.cf := by
  rw [recvM, if_pos h]
  split
  · obtain ⟨h1, h2, h3, h4⟩ := turns_keep (keptM x c) c.stream
    exact ⟨h2, h3, h1, h4⟩
  · obtain ⟨h1, h2, h3, h4⟩ := deliv_turn (keptM x c) ⟨c.stream, c.mid, c.ordered⟩
    exact ⟨h2, h3, by rw [h1]; rfl, h4⟩
theorem kept_inv {x : Rc} {c : Ck} (hx : InvR x) (h : takesM x c) : InvR (keptM x c) ∧ x.cum ≤ (keptM x c).cum ∧ (keptM x c).cum ≤ x.cum + 32768 ∧ (nearM x.cum c.tag ≤ (keptM x c).cum ∨ inM (keptM x c).spans (nearM x.cum c.tag) = true) := by
  have hn := near_is x.cum c.tag
  have hlt := h.2.2.1
  have hr : Ris x.cum x.spans := hx.ris.mono (by omega)
  have ha : Ris x.cum (addM x.spans (nearM x.cum c.tag)) := by rw [addM_eq]; exact addR_ris _ _ _ hr hlt
  have hu : Upto (x.cum + 32768) (addM x.spans (nearM x.cum c.tag)) := by rw [addM_eq]; exact Upto.addR hx.up (by omega)
  obtain ⟨g1, g2, g3⟩ := up_ris _ x.cum x.cum ha
  obtain ⟨g4, g5⟩ := g3 _ hu
  obtain ⟨-, -, -, s4, -⟩ := up_spec _ x.cum ha
  have hc := g4 (by omega)
  refine ⟨⟨g1, g5.mono (by show x.cum + 32768 ≤ (upM _ _).1 + 32768; omega)⟩, g2, hc, ?_⟩
  by_cases hle : nearM x.cum c.tag ≤ (upM (addM x.spans (nearM x.cum c.tag)) x.cum).1
  · exact .inl hle
  · refine .inr ((s4 _).2 ⟨?_, by omega⟩)
    rw [addM_eq]
    exact (addR_mem _ _ _ hr _).2 (.inl rfl)
/-- A part that comes again does nothing. -/
theorem recv_twice {x : Rc} (hx : InvR x) (c : Ck) : InvR (recvM x c) ∧ x.cum ≤ (recvM x c).cum ∧ (recvM x c).cum ≤ x.cum + 32768 ∧ recvM (recvM x c) c = recvM x c := by
  by_cases h : takesM x c
  · obtain ⟨k1, k2, k3, k4⟩ := kept_inv hx h
    obtain ⟨r1, r2, -, -⟩ := recv_cum h
    have hn := near_is x.cum c.tag
    have hlt := h.2.2.1
    refine ⟨⟨by rw [r1, r2]; exact k1.ris, by rw [r1, r2]; exact k1.up⟩, by omega, by omega, ?_⟩
    have e : nearM (recvM x c).cum c.tag = nearM x.cum c.tag := near_of hn.1 (by omega) (by omega)
    have no : ¬ takesM (recvM x c) c := fun g => by
      have g3 := g.2.2.1
      have g4 := g.2.2.2.1
      rw [e] at g3 g4
      rw [r2] at g4
      rcases k4 with k4 | k4
      · omega
      · rw [k4] at g4; simp at g4
    exact if_neg no
  · have e : recvM x c = x := if_neg h
    rw [e]
    exact ⟨hx, by omega, by omega, e⟩
/-- A forward that comes again does nothing. -/
theorem forw_twice {x : Rc} (hx : InvR x) (c : Ck) : InvR (forwM x c) ∧ x.cum ≤ (forwM x c).cum ∧ (forwM x c).cum ≤ x.cum + 32768 ∧ forwM (forwM x c) c = forwM x c := by
  by_cases h : goesM x c
  · have e0 : forwM x c = c.skips.foldl skipM (overM x c) := if_pos h
    obtain ⟨-, s2, s3, -⟩ := skips_keep c.skips (overM x c)
    have hn := near_is x.cum c.tag
    have hlt := h.2
    obtain ⟨g1, g2, g3⟩ := up_ris x.spans _ (nearM x.cum c.tag) hx.ris
    obtain ⟨g4, g5⟩ := g3 _ hx.up
    have hc := g4 (by omega)
    have ec : (forwM x c).cum = (upM x.spans (nearM x.cum c.tag)).1 := by rw [e0, s2]; rfl
    have es : (forwM x c).spans = (upM x.spans (nearM x.cum c.tag)).2 := by rw [e0, s3]; rfl
    refine ⟨⟨by rw [ec, es]; exact g1, by rw [ec, es]; exact g5.mono (by omega)⟩, by omega, by omega, ?_⟩
    have e : nearM (forwM x c).cum c.tag = nearM x.cum c.tag := near_of hn.1 (by omega) (by omega)
    have no : ¬ goesM (forwM x c) c := fun g => by
      have g3 := g.2
      rw [e] at g3
      omega
    exact if_neg no
  · have e : forwM x c = x := if_neg h
    rw [e]
    exact ⟨hx, by omega, by omega, e⟩
theorem new_inv (c : Cf) : InvR (newM c) := ⟨trivial, fun s hs => by simp [newM] at hs⟩

/-- What was delivered stays, in its order. -/
theorem deliv_log (x : Rc) (m : Ms) : x.log <+: (delivM x m).log := by
  unfold delivM
  split
  · exact List.prefix_append _ _
  · exact List.prefix_rfl
theorem gone_log (x : Rc) (m : Ms) : x.log <+: (goneM x m).log := by
  unfold goneM
  split
  · exact deliv_log x m
  · exact List.prefix_rfl
theorem turns_log (x : Rc) (s : Int) : x.log <+: (turnsM x s).log := turnsM_ind (P := fun y => x.log <+: y.log) s (fun y h _ => h.trans (deliv_log y _)) x List.prefix_rfl
theorem pass_log (x : Rc) (s last : Int) : x.log <+: (passM x s last).log := by
  unfold passM
  split
  · exact List.prefix_rfl
  · exact goneN_ind (P := fun y => x.log <+: y.log) s (fun y m h => h.trans (gone_log y m)) _ x _ List.prefix_rfl
theorem skip_log (x : Rc) (k : Sk) : x.log <+: (skipM x k).log := by
  unfold skipM
  split
  · split
    · exact (pass_log x _ _).trans (turns_log _ _)
    · exact List.prefix_rfl
  · exact List.prefix_rfl
theorem recv_log (x : Rc) (c : Ck) : x.log <+: (recvM x c).log := by
  unfold recvM
  split
  · split
    · exact turns_log (keptM x c) _
    · exact deliv_log (keptM x c) _
  · exact List.prefix_rfl
theorem forw_log (x : Rc) (c : Ck) : x.log <+: (forwM x c).log := by
  unfold forwM
  split
  · exact foldl_ind (P := fun y => x.log <+: y.log) skipM c.skips (fun y k _ h => h.trans (skip_log y k)) (overM x c) List.prefix_rfl
  · exact List.prefix_rfl
end Go.Proofs.Ytnddejdndipddad
