/- Plain: the parts of so many messages, as they are sent. -/
import Derived.Test.YtnddejdndipddadRoA
set_option maxRecDepth 20000
namespace Go.Proofs.Ytnddejdndipddad

theorem join_same {l l' : List Pc} (h : l.map (fun p => (p.ck.part, p.ck.last, p.ck.data)) = l'.map (fun p => (p.ck.part, p.ck.last, p.ck.data))) : joinB l = joinB l' ∧ joinD l = joinD l' := by
  have hl : l.length = l'.length := by have := congrArg List.length h; simpa using this
  have hp : l.map Pc.part = l'.map Pc.part := by
    have := congrArg (List.map fun t : Int × Bool × List Int => t.1) h
    rw [List.map_map, List.map_map] at this
    exact this
  have hg : ∀ {a b : List Pc} (n : Nat), a.map (fun p => (p.ck.part, p.ck.last, p.ck.data)) = b.map (fun p => (p.ck.part, p.ck.last, p.ck.data)) → a.map Pc.part = b.map Pc.part → goodN n a → goodN n b := fun {a b} n e ep g => by
    refine ⟨fun p hp => ?_, by rw [← ep]; exact g.2⟩
    have hm : (p.ck.part, p.ck.last, p.ck.data) ∈ a.map (fun p => (p.ck.part, p.ck.last, p.ck.data)) := by rw [e]; exact List.mem_map_of_mem (f := fun p : Pc => (p.ck.part, p.ck.last, p.ck.data)) hp
    obtain ⟨q, hq, e'⟩ := List.mem_map.1 hm
    simp only [Prod.mk.injEq] at e'
    have := g.1 q hq
    unfold stands Pc.part at *
    rw [e'.1, e'.2.1] at this
    exact this
  have hgi : goodN l.length l ↔ goodN l'.length l' := by
    rw [hl]
    exact ⟨hg _ h hp, hg _ h.symm hp.symm⟩
  have hd : ∀ k, dataAt l k = dataAt l' k := fun k => by
    have e : ∀ m : List Pc, dataAt m k = (((m.map (fun p => (p.ck.part, p.ck.last, p.ck.data))).find? fun t => decide (t.1 = (k : Int))).map fun t => t.2.2).getD [] := fun m => by
      rw [List.find?_map]
      unfold dataAt
      have : (fun p : Pc => decide (p.part = (k : Int))) = ((fun t : Int × Bool × List Int => decide (t.1 = (k : Int))) ∘ fun p : Pc => (p.ck.part, p.ck.last, p.ck.data)) := rfl
      rw [← this]
      cases m.find? (fun p : Pc => decide (p.part = (k : Int))) <;> rfl
    rw [e, e, h]
  refine ⟨?_, ?_⟩
  · unfold joinB
    rw [hl] at hgi ⊢
    simp only [hgi]
  · unfold joinD
    rw [hl] at hgi ⊢
    simp only [hgi]
    by_cases g : goodN l'.length l'
    · rw [if_pos g, if_pos g]
      congr 1
      funext k
      exact hd k
    · rw [if_neg g, if_neg g]

def ckO (k t i n : Nat) (d : List Int) : Ck := ⟨1, 7 + t, ((k % 2 : Nat) : Int), ((k / 2 : Nat) : Int), i, decide (i + 1 = n), true, d, [], 0, []⟩
def msgO (p : Int) (k t0 : Nat) (bs : List Int) (j : Nat) : List Ck := (List.range j).map fun i => ckO k (t0 + i) i (splitM bs p).length ((splitM bs p).getD i [])
def allO (p : Int) (ms : List (List Int)) : Nat → List Ck
  | 0 => []
  | k + 1 => allO p ms k ++ msgO p k (allO p ms k).length (ms.getD k []) (splitM (ms.getD k []) p).length
theorem msgO_len (p : Int) (k t0 : Nat) (bs : List Int) (j : Nat) : (msgO p k t0 bs j).length = j := by simp [msgO]
theorem msgO_snoc (p : Int) (k t0 : Nat) (bs : List Int) (j : Nat) : msgO p k t0 bs (j + 1) = msgO p k t0 bs j ++ [ckO k (t0 + j) j (splitM bs p).length ((splitM bs p).getD j [])] := by simp [msgO, List.range_succ]
theorem tags_append {a b : List Ck} (h : a.map Ck.tag = (List.range a.length).map fun i : Nat => 7 + (i : Int)) (hb : b.map Ck.tag = (List.range b.length).map fun i : Nat => 7 + ((a.length + i : Nat) : Int)) : (a ++ b).map Ck.tag = (List.range (a ++ b).length).map fun i : Nat => 7 + (i : Int) := by
  rw [List.map_append, h, hb, List.length_append, List.range_add, List.map_append, List.map_map]
  rfl
theorem allO_tags (p : Int) (ms : List (List Int)) : ∀ k, (allO p ms k).map Ck.tag = (List.range (allO p ms k).length).map fun i : Nat => 7 + (i : Int)
  | 0 => rfl
  | k + 1 => by
    rw [allO]
    refine tags_append (allO_tags p ms k) ?_
    rw [msgO_len]
    simp [msgO, ckO]
theorem split_sum (bs : List Int) (p : Int) (h1 : 1 ≤ bs.length) (h2 : 1 ≤ p) : ((splitM bs p).map List.length).sum = bs.length := by
  have hl := split_len bs p
  have hc := countM_le (n := bs.length) (p := p) (by omega) h2
  have e := split_all bs p.toNat (splitM bs p).length (by
    have h3 : ((splitM bs p).length : Int) = countM bs.length p := by omega
    have h4 : ((bs.length : Int)) ≤ ((splitM bs p).length : Int) * (p.toNat : Int) := by rw [h3, Int.toNat_of_nonneg (by omega)]; exact hc.2.2.2
    exact_mod_cast h4)
  have e2 : splitM bs p = (List.range (splitM bs p).length).map fun k => (bs.drop (k * p.toNat)).take p.toNat := by
    rw [hl]; rfl
  rw [← List.length_flatten]
  conv => lhs; rw [e2]
  rw [← List.flatMap_def]
  rw [e]
theorem getD_map {α : Type} (l : List α) (d : α) : (List.range l.length).map (fun i => l.getD i d) = l := by
  apply List.ext_getElem (by simp)
  intro i h1 h2
  simp [h2]
theorem msgO_sum (p : Int) (k t0 : Nat) (bs : List Int) (h1 : 1 ≤ bs.length) (h2 : 1 ≤ p) : ((msgO p k t0 bs (splitM bs p).length).map fun c => c.data.length).sum = bs.length := by
  have e := split_sum bs p h1 h2
  have : (msgO p k t0 bs (splitM bs p).length).map (fun c => c.data.length) = (splitM bs p).map List.length := by
    unfold msgO
    rw [List.map_map]
    conv => rhs; rw [← getD_map (splitM bs p) [], List.map_map]
    rfl
  rw [this]
  exact e
theorem split_few (bs : List Int) (p : Int) (h1 : 1 ≤ bs.length) (h2 : 1 ≤ p) : 1 ≤ (splitM bs p).length ∧ (splitM bs p).length ≤ bs.length := by
  have hl := split_len bs p
  have hc := countM_le (n := bs.length) (p := p) (by omega) h2
  omega
theorem msgO_join (p : Int) (k t0 : Nat) (bs : List Int) (h1 : 1 ≤ bs.length) (h2 : 1 ≤ p) : joinB ((msgO p k t0 bs (splitM bs p).length).map pcO) = true ∧ joinD ((msgO p k t0 bs (splitM bs p).length).map pcO) = bs := by
  have e := join_same (l := (msgO p k t0 bs (splitM bs p).length).map pcO) (l' := piecesM (splitM bs p) (splitM bs p).length) (by
    unfold msgO piecesM
    rw [List.map_map, List.map_map, List.map_map]
    rfl)
  have g := turn_join (bs := bs) (p := p) h1 h2 (List.Perm.refl _)
  exact ⟨e.1.trans g.1, e.2.trans g.2⟩
theorem msgO_filter (p : Int) (k t0 : Nat) (bs : List Int) (j : Nat) (s m : Int) : (msgO p k t0 bs j).filter (ofO s m) = if ((k % 2 : Nat) : Int) = s ∧ ((k / 2 : Nat) : Int) = m then msgO p k t0 bs j else [] := by
  by_cases h : ((k % 2 : Nat) : Int) = s ∧ ((k / 2 : Nat) : Int) = m
  · rw [if_pos h, List.filter_eq_self]
    intro c hc
    obtain ⟨i, -, rfl⟩ := List.mem_map.1 hc
    simp only [ofO, ckO, h.1, h.2]
    simp
  · rw [if_neg h, List.filter_eq_nil_iff]
    intro c hc
    obtain ⟨i, -, rfl⟩ := List.mem_map.1 hc
    simp only [ofO, ckO, Bool.and_eq_true, beq_iff_eq]
    exact h
theorem allO_filter (p : Int) (ms : List (List Int)) (s m : Int) (h0 : two s) (h1 : 0 ≤ m) : ∀ n, (allO p ms n).filter (ofO s m) = if (2 * m + s).toNat < n then msgO p (2 * m + s).toNat (allO p ms (2 * m + s).toNat).length (ms.getD (2 * m + s).toNat []) (splitM (ms.getD (2 * m + s).toNat []) p).length else []
  | 0 => by simp [allO]
  | n + 1 => by
    rw [allO, List.filter_append, allO_filter p ms s m h0 h1 n, msgO_filter]
    have hs : 0 ≤ s ∧ s < 2 := by rcases h0 with rfl | rfl <;> decide
    by_cases e : (2 * m + s).toNat = n
    · subst e
      rw [if_neg (by omega), if_pos ⟨by omega, by omega⟩, if_pos (by omega), List.nil_append]
    · rw [if_neg (c := ((n % 2 : Nat) : Int) = s ∧ ((n / 2 : Nat) : Int) = m) (by omega), List.append_nil]
      by_cases h : (2 * m + s).toNat < n
      · rw [if_pos h, if_pos (by omega)]
      · rw [if_neg h, if_neg (by omega)]
def datO (ms : List (List Int)) (s m : Int) : List Int := ms.getD (2 * m + s).toNat []
def cntO (n : Nat) (s : Int) : Int := ((n : Int) + 1 - s) / 2
theorem getD_le {ms : List (List Int)} {k b : Nat} (h : ∀ x ∈ ms, x.length ≤ b) : (ms.getD k []).length ≤ b := by
  rw [List.getD_eq_getElem?_getD]
  by_cases hk : k < ms.length
  · rw [List.getElem?_eq_getElem hk]; exact h _ (List.getElem_mem hk)
  · rw [List.getElem?_eq_none (by omega)]; simp
theorem allO_few (p : Int) (ms : List (List Int)) (hm : ∀ x ∈ ms, 1 ≤ x.length ∧ x.length ≤ 30) (hp : 1 ≤ p) : ∀ k, k ≤ ms.length → (allO p ms k).length ≤ 30 * k ∧ ((allO p ms k).map fun c => c.data.length).sum ≤ 30 * k
  | 0, _ => by simp [allO]
  | k + 1, h => by
    obtain ⟨g1, g2⟩ := allO_few p ms hm hp k (by omega)
    have hk : ms.getD k [] ∈ ms := by rw [List.getD_eq_getElem?_getD, List.getElem?_eq_getElem (by omega)]; exact List.getElem_mem _
    have hx := hm _ hk
    have e1 := split_few (ms.getD k []) p hx.1 hp
    have e2 := msgO_sum p k (allO p ms k).length (ms.getD k []) hx.1 hp
    rw [allO, List.length_append, msgO_len, List.map_append, List.sum_append, e2]
    omega
theorem allO_mem (p : Int) (ms : List (List Int)) : ∀ n, ∀ c ∈ allO p ms n, ∃ k t i, k < n ∧ c = ckO k t i (splitM (ms.getD k []) p).length ((splitM (ms.getD k []) p).getD i []) ∧ i < (splitM (ms.getD k []) p).length
  | 0, c, h => by simp [allO] at h
  | n + 1, c, h => by
    rw [allO] at h
    rcases List.mem_append.1 h with h | h
    · obtain ⟨k, t, i, hk, e⟩ := allO_mem p ms n c h
      exact ⟨k, t, i, by omega, e⟩
    · obtain ⟨i, hi, rfl⟩ := List.mem_map.1 h
      rw [List.mem_range] at hi
      exact ⟨n, _, i, by omega, rfl, hi⟩
theorem split_part (bs : List Int) (p : Int) (i : Nat) : ((splitM bs p).getD i []).length ≤ bs.length := by
  rw [List.getD_eq_getElem?_getD]
  by_cases h : i < (splitM bs p).length
  · rw [List.getElem?_eq_getElem h, split_get bs p i h]
    simp
    omega
  · rw [List.getElem?_eq_none (by omega)]; simp
theorem sentO (p : Int) (ms : List (List Int)) (hm : ∀ x ∈ ms, 1 ≤ x.length ∧ x.length ≤ 30) (hp : 1 ≤ p) (hl : ms.length ≤ 8) : SentO (allO p ms ms.length) (cntO ms.length) (datO ms) := by
  obtain ⟨f1, f2⟩ := allO_few p ms hm hp ms.length (Nat.le_refl _)
  refine ⟨fun c hc => ?_, fun s h2 => ?_, by rw [allO_tags], fun s m h2 h1 h3 => ?_, by omega, by omega, fun c hc => ?_, fun s m => ?_⟩
  · obtain ⟨k, t, i, hk, rfl, -⟩ := allO_mem p ms _ c hc
    refine ⟨rfl, rfl, ?_, ?_, ?_⟩
    · show two ((k % 2 : Nat) : Int); unfold two; omega
    · show 0 ≤ ((k / 2 : Nat) : Int); omega
    · show ((k / 2 : Nat) : Int) < ((ms.length : Int) + 1 - ((k % 2 : Nat) : Int)) / 2; omega
  · unfold cntO; rcases h2 with rfl | rfl <;> omega
  · rw [allO_filter p ms s m h2 h1]
    have hlt : (2 * m + s).toNat < ms.length := by unfold cntO at h3; rcases h2 with rfl | rfl <;> omega
    rw [if_pos hlt]
    have hk : ms.getD (2 * m + s).toNat [] ∈ ms := by rw [List.getD_eq_getElem?_getD, List.getElem?_eq_getElem hlt]; exact List.getElem_mem _
    exact msgO_join p _ _ _ (hm _ hk).1 hp
  · obtain ⟨k, t, i, hk, rfl, -⟩ := allO_mem p ms _ c hc
    have h1 := split_part (ms.getD k []) p i
    have h2 := getD_le (k := k) fun x hx => (hm x hx).2
    unfold CkFit
    refine ⟨?_, by simp [ckO], by simp [ckO]⟩
    show ((splitM (ms.getD k []) p).getD i []).length ≤ _
    omega
  · have := getD_le (k := (2 * m + s).toNat) fun x hx => (hm x hx).2
    unfold datO
    omega
end Go.Proofs.Ytnddejdndipddad
