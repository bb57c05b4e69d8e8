/- Plain: no two skips that are told are for the same; so the last one that fits is the first. -/
import Derived.Test.YtnddejdndipddacSoV
set_option maxRecDepth 20000
namespace Go.Proofs.Ytnddejdndipddac
open Go.RowKit

def DistK (ks : List Sk) : Prop := (ks.map keyM).Nodup
theorem DistK.nil : DistK [] := by simp [DistK]
theorem DistK.inj {ks : List Sk} (h : DistK ks) {i j : Nat} (hi : i < ks.length) (hj : j < ks.length) (e : keyM ks[i] = keyM ks[j]) : i = j := by
  have := (List.getElem_inj (h₀ := by simpa using hi) (h₁ := by simpa using hj) h).1 (by simpa using e)
  exact this
theorem DistK.skip {ks : List Sk} (h : DistK ks) (c : Ck) : DistK (skipF ks c) := by
  unfold skipF
  split
  · next hi =>
    have hp := (skIs_key c _).1 (List.findIdx_getElem (p := skIs c) (w := hi))
    show (List.map keyM _).Nodup
    rw [List.map_set, ← hp]
    have : (ks.map keyM).set (ks.findIdx (skIs c)) (keyM ks[ks.findIdx (skIs c)]) = ks.map keyM := by
      have h2 : (ks.map keyM).set (ks.findIdx (skIs c)) ((ks.map keyM)[ks.findIdx (skIs c)]'(by simpa using hi)) = ks.map keyM := List.set_getElem_self _
      rw [List.getElem_map] at h2
      exact h2
    rw [this]
    exact h
  · next hi =>
    show (List.map keyM _).Nodup
    rw [List.map_append, List.nodup_append]
    refine ⟨h, by simp, ?_⟩
    intro a ha b hb e
    simp only [List.map_cons, List.map_nil, List.mem_singleton] at hb
    obtain ⟨k, hk, rfl⟩ := List.mem_map.1 ha
    exact hi (List.findIdx_lt_length_of_exists ⟨k, hk, (skIs_key c k).2 (by rw [e, hb])⟩)
/-- Where the document looks, so far. -/
def atM (c : Ck) (ks : List Sk) (k : Nat) : Nat := if ks.findIdx (skIs c) < k then ks.findIdx (skIs c) else ks.length
theorem atM_zero (c : Ck) (ks : List Sk) : atM c ks 0 = ks.length := by simp [atM]
theorem atM_yes {c : Ck} {ks : List Sk} (h : DistK ks) (k : Nat) (hk : k < ks.length) (ht : toldK c ks[k] = true) : atM c ks (k + 1) = k := by
  rw [toldB_skIs] at ht
  have hi : ks.findIdx (skIs c) < ks.length := List.findIdx_lt_length_of_exists ⟨_, List.getElem_mem hk, ht⟩
  have hp := (skIs_key c _).1 (List.findIdx_getElem (p := skIs c) (w := hi))
  have e := h.inj hi hk (hp.trans ((skIs_key c _).1 ht).symm)
  unfold atM
  rw [e, if_pos (by omega)]
theorem atM_no {c : Ck} {ks : List Sk} (k : Nat) (hk : k < ks.length) (ht : toldK c ks[k] = false) : atM c ks (k + 1) = atM c ks k := by
  rw [toldB_skIs] at ht
  have hne : ks.findIdx (skIs c) ≠ k := fun e => by
    have hi : ks.findIdx (skIs c) < ks.length := by omega
    have hp := List.findIdx_getElem (p := skIs c) (w := hi)
    simp only [e, ht] at hp
    exact absurd hp (by simp)
  unfold atM
  by_cases hlt : ks.findIdx (skIs c) < k
  · rw [if_pos hlt, if_pos (by omega)]
  · rw [if_neg hlt, if_neg (by omega)]
theorem atM_all (c : Ck) (ks : List Sk) : atM c ks ks.length = ks.findIdx (skIs c) := by
  unfold atM
  split
  · rfl
  · next h => have := List.findIdx_le_length (p := skIs c) (xs := ks); omega
end Go.Proofs.Ytnddejdndipddac
