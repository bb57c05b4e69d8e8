/- Packets, of the plain functions: what they come to, and that what is sent is read. -/
import Derived.Test.YtnddejdndipddabCkU
set_option maxRecDepth 20000
namespace Go.Proofs.Ytnddejdndipddab

/-- The first error of chunks. -/
def badM : List Ck → Int
  | [] => 0
  | c :: r => if wrongM c = 0 then badM r else wrongM c
/-- All their bytes, one behind the other. -/
def allM : List Ck → List Int
  | [] => []
  | c :: r => bytesM c ++ allM r
/-- A packet: an errno and bytes. -/
def packM (l : List Ck) (most : Int) : Int × List Int :=
  if l.length = 0 then (5, []) else if badM l = 0 then (if most < (allM l).length then (4, []) else (0, allM l)) else (badM l, [])
/-- How many have room. -/
def fitM : List Ck → Int → Nat
  | [], _ => 0
  | c :: r, m => if wrongM c = 0 ∧ ((bytesM c).length : Int) ≤ m then fitM r (m - (bytesM c).length) + 1 else 0
/-- Chunks ahead of what is read behind them. -/
def aheadM (a : List Ck) (r : Int × List Ck) : Int × List Ck := if r.1 = 0 then (0, a ++ r.2) else (r.1, [])
/-- Chunk by chunk, so many at most. -/
def packsM : Nat → List Int → Int × List Ck
  | 0, _ => (0, [])
  | n + 1, b => if b.length = 0 then (0, []) else if (parseM b).1 = 0 then aheadM [(parseM b).2.1] (packsM n (b.drop (parseM b).2.2.toNat)) else ((parseM b).1, [])
/-- A packet's chunks. -/
def packetM (b : List Int) : Int × List Ck := if b.length = 0 then (5, []) else packsM b.length b

theorem allM_append (a b : List Ck) : allM (a ++ b) = allM a ++ allM b := by
  induction a with
  | nil => rfl
  | cons c r ih => simp [allM, ih]
theorem badM_append (a b : List Ck) (h : badM a = 0) : badM (a ++ b) = badM b := by
  induction a with
  | nil => rfl
  | cons c r ih =>
    simp only [badM] at h
    split at h
    · rename_i hc
      rw [List.cons_append, badM, if_pos hc, ih h]
    · contradiction
theorem badM_zero (l : List Ck) : badM l = 0 ↔ ∀ c ∈ l, wrongM c = 0 := by
  induction l with
  | nil => simp [badM]
  | cons c r ih =>
    rw [badM]
    split
    · rename_i hc
      simp [ih, hc]
    · rename_i hc
      simp [hc]
theorem bytes_len {c : Ck} (h : wrongM c = 0) : 4 ≤ (bytesM c).length ∧ (bytesM c).length ≤ 36 := by
  have h1 := body_len h
  have h2 : 2 ≤ (bodyM c).length := by simp [bodyM, two16]
  simp only [bytesM, List.length_cons]
  omega
theorem allM_len {l : List Ck} (h : badM l = 0) : 4 * l.length ≤ (allM l).length ∧ (allM l).length ≤ 36 * l.length := by
  induction l with
  | nil => simp [allM]
  | cons c r ih =>
    rw [badM] at h
    split at h
    · rename_i hc
      have := ih h
      have := bytes_len hc
      simp only [allM, List.length_append, List.length_cons]
      omega
    · contradiction

theorem parse_n {b : List Int} (hb : IsB b) (h : (parseM b).1 = 0) : wrongM (parseM b).2.1 = 0 ∧ bytesM (parseM b).2.1 = b.take (parseM b).2.2.toNat ∧ 4 ≤ (parseM b).2.2 ∧ (parseM b).2.2 ≤ b.length := by
  rcases turn_back hb with t | ⟨-, t2, t3, t4, t5⟩
  · exact absurd h t.1
  · have := bytes_len t2
    rw [t5, List.length_take] at this
    exact ⟨t2, t5, by omega, t4⟩

theorem join_join (a b : List Ck) (r : Int × List Ck) : aheadM a (aheadM b r) = aheadM (a ++ b) r := by
  unfold aheadM
  split <;> simp_all
theorem join_nil (r : Int × List Ck) (h : r.1 = 0 ∨ r.2 = []) : aheadM [] r = r := by
  unfold aheadM
  obtain ⟨x, l⟩ := r
  split
  · simp_all
  · simp_all
theorem packs_nil (n : Nat) (b : List Int) (h : b.length = 0) : packsM n b = (0, []) := by
  cases n with
  | zero => rfl
  | succ n => rw [packsM, if_pos h]
theorem packs_bad (n : Nat) (b : List Int) (h : b.length ≤ n) (h0 : 0 < b.length) (hp : (parseM b).1 ≠ 0) : packsM n b = ((parseM b).1, []) := by
  cases n with
  | zero => omega
  | succ n => rw [packsM, if_neg (by omega), if_neg hp]
theorem packs_good (n : Nat) (b : List Int) (h : b.length ≤ n) (h0 : 0 < b.length) (hp : (parseM b).1 = 0) : packsM n b = aheadM [(parseM b).2.1] (packsM (n - 1) (b.drop (parseM b).2.2.toNat)) := by
  cases n with
  | zero => omega
  | succ n => rw [packsM, if_neg (by omega), if_pos hp]; rfl

theorem packs_back (n : Nat) : ∀ b : List Int, IsB b → b.length ≤ n → ((packsM n b).1 ≠ 0 ∧ (packsM n b).2 = []) ∨ ((packsM n b).1 = 0 ∧ badM (packsM n b).2 = 0 ∧ allM (packsM n b).2 = b) := by
  induction n with
  | zero =>
    intro b _ h
    have := List.eq_nil_of_length_eq_zero (by omega : b.length = 0)
    subst this
    exact .inr ⟨rfl, rfl, rfl⟩
  | succ n ih =>
    intro b hb h
    rcases Nat.eq_zero_or_pos b.length with h0 | h0
    · have := List.eq_nil_of_length_eq_zero h0
      subst this
      exact .inr ⟨rfl, rfl, rfl⟩
    · by_cases hp : (parseM b).1 = 0
      · rw [packs_good _ b h h0 hp]
        obtain ⟨g1, g2, g3, g4⟩ := parse_n hb hp
        have := ih (b.drop (parseM b).2.2.toNat) (hb.drop _) (by simp; omega)
        rw [Nat.add_sub_cancel]
        generalize packsM n (b.drop (parseM b).2.2.toNat) = r at *
        unfold aheadM
        rcases this with ⟨t1, t2⟩ | ⟨t1, t2, t3⟩
        · rw [if_neg t1]
          exact .inl ⟨t1, rfl⟩
        · rw [if_pos t1]
          refine .inr ⟨rfl, ?_, ?_⟩
          · show badM ((parseM b).2.1 :: r.2) = 0
            rw [badM, if_pos g1, t2]
          · show bytesM (parseM b).2.1 ++ allM r.2 = b
            rw [t3, g2, List.take_append_drop]
      · rw [packs_bad _ b h h0 hp]
        exact .inl ⟨hp, rfl⟩

theorem packs_there (l : List Ck) : ∀ n, badM l = 0 → (allM l).length ≤ n → packsM n (allM l) = (0, l.map normM) := by
  induction l with
  | nil => intro n _ _; exact packs_nil _ _ rfl
  | cons c r ih =>
    intro n h hn
    rw [badM] at h
    split at h
    · rename_i hc
      have hl := bytes_len hc
      have e : parseM (allM (c :: r)) = (0, normM c, ((bytesM c).length : Int)) := turn_there hc (allM r)
      have e2 : (allM (c :: r)).length = (bytesM c).length + (allM r).length := by simp [allM]
      rw [packs_good n _ hn (by omega) (by rw [e]), e]
      have e3 : (allM (c :: r)).drop ((bytesM c).length : Int).toNat = allM r := by simp [allM]
      dsimp only
      rw [e3, ih (n - 1) h (by omega)]
      rfl
    · contradiction

theorem map_norm (l : List Ck) (h : badM l = 0) : badM (l.map normM) = 0 ∧ allM (l.map normM) = allM l := by
  induction l with
  | nil => exact ⟨rfl, rfl⟩
  | cons c r ih =>
    rw [badM] at h
    split at h
    · rename_i hc
      have hn := norm_wrong hc
      have := ih h
      exact ⟨by rw [List.map_cons, badM, if_pos hn.1, this.1], by rw [List.map_cons, allM, allM, hn.2.1, this.2]⟩
    · contradiction

/-- A packet that is made is read. -/
theorem packet_there {l : List Ck} {most : Int} (h : (packM l most).1 = 0) : (packM l most).2 = allM l ∧ packetM (allM l) = (0, l.map normM) ∧ packM (l.map normM) ((allM l).length : Int) = (0, allM l) ∧ 0 < l.length ∧ ((allM l).length : Int) ≤ most ∧ badM l = 0 := by
  unfold packM at h ⊢
  split at h
  · simp at h
  · rename_i h0
    rw [if_neg h0]
    split at h
    · rename_i hb
      rw [if_pos hb]
      have hl := allM_len hb
      split at h
      · simp at h
      · rename_i hm
        rw [if_neg hm]
        have hn := map_norm l hb
        refine ⟨rfl, ?_, ?_, by omega, by omega, hb⟩
        · rw [packetM, if_neg (by omega), packs_there l _ hb (Nat.le_refl _)]
        · rw [if_neg (by simpa using h0), if_pos hn.1, hn.2, if_neg (by omega)]
    · rename_i hb
      exact absurd h hb
/-- A packet that is read is made. -/
theorem packet_back {b : List Int} (hb : IsB b) : ((packetM b).1 ≠ 0 ∧ (packetM b).2 = []) ∨ ((packetM b).1 = 0 ∧ packM (packetM b).2 (b.length : Int) = (0, b)) := by
  unfold packetM
  split
  · exact .inl ⟨by simp, rfl⟩
  · rename_i h0
    rcases packs_back b.length b hb (Nat.le_refl _) with t | ⟨t1, t2, t3⟩
    · exact .inl t
    · refine .inr ⟨t1, ?_⟩
      generalize (packsM b.length b).2 = l at *
      have hl : ¬ l.length = 0 := by
        intro e
        have := List.eq_nil_of_length_eq_zero e
        subst this
        rw [← t3] at h0
        exact h0 rfl
      rw [packM, if_neg hl, if_pos t2, t3, if_neg (by omega)]
theorem packet_len {b : List Int} (hb : IsB b) : 4 * (packetM b).2.length ≤ b.length := by
  rcases packet_back hb with ⟨_, h⟩ | ⟨_, h⟩
  · rw [h]; simp
  · have := packet_there (by rw [h])
    rw [h] at this
    have h2 := allM_len this.2.2.2.2.2
    rw [← this.1] at h2
    exact h2.1

theorem fit_iff (l : List Ck) : ∀ (j : Nat) (m : Int), j ≤ fitM l m ↔ j ≤ l.length ∧ badM (l.take j) = 0 ∧ (j = 0 ∨ ((allM (l.take j)).length : Int) ≤ m) := by
  induction l with
  | nil => intro j m; simp [fitM, badM]; omega
  | cons c r ih =>
    intro j m
    cases j with
    | zero => simp [badM]
    | succ j =>
      rw [fitM, List.take_succ_cons, badM, allM, List.length_append, List.length_cons]
      by_cases hc : wrongM c = 0
      · rw [if_pos hc]
        by_cases hm : ((bytesM c).length : Int) ≤ m
        · rw [if_pos ⟨hc, hm⟩]
          have := ih j (m - (bytesM c).length)
          constructor
          · intro h
            obtain ⟨g1, g2, g3⟩ := this.1 (by omega)
            refine ⟨by omega, g2, .inr ?_⟩
            rcases g3 with rfl | g3
            · simp [allM]; omega
            · omega
          · rintro ⟨g1, g2, g3⟩
            have := this.2 ⟨by omega, g2, .inr (by rcases g3 with g | g <;> omega)⟩
            omega
        · rw [if_neg (fun h => hm h.2)]
          constructor
          · intro h; omega
          · rintro ⟨_, _, g | g⟩ <;> omega
      · rw [if_neg (fun h => hc h.1), if_neg hc]
        constructor
        · intro h; omega
        · rintro ⟨_, g, _⟩; exact absurd g hc
theorem fit_le (l : List Ck) (m : Int) : fitM l m ≤ l.length := ((fit_iff l _ m).1 (Nat.le_refl _)).1
/-- So many chunks make a packet, and no more. -/
theorem fit_pack (l : List Ck) (m : Int) (j : Nat) (h1 : 0 < j) (h2 : j ≤ l.length) : (packM (l.take j) m).1 = 0 ↔ j ≤ fitM l m := by
  rw [fit_iff]
  unfold packM
  have hl : ¬ (l.take j).length = 0 := by rw [List.length_take]; omega
  rw [if_neg hl]
  by_cases hb : badM (l.take j) = 0
  · rw [if_pos hb]
    by_cases hm : m < (allM (l.take j)).length
    · rw [if_pos hm]
      constructor
      · intro h; simp at h
      · rintro ⟨_, _, g | g⟩ <;> omega
    · rw [if_neg hm]
      exact ⟨fun _ => ⟨h2, hb, .inr (by omega)⟩, fun _ => rfl⟩
  · rw [if_neg hb]
    exact ⟨fun h => absurd h hb, fun h => absurd h.2.1 hb⟩

theorem take_get (l : List Ck) (j : Nat) (h : j < l.length) : l.take (j + 1) = l.take j ++ [l[j]] := List.take_succ_eq_append_getElem h
theorem bad_step {l : List Ck} {j : Nat} (h : j < l.length) (hb : badM (l.take j) = 0) : badM (l.take (j + 1)) = wrongM l[j] ∧ allM (l.take (j + 1)) = allM (l.take j) ++ bytesM l[j] ∧ (wrongM l[j] ≠ 0 → badM l = wrongM l[j]) := by
  rw [take_get l j h, badM_append _ _ hb, allM_append]
  refine ⟨?_, by simp [allM], fun hw => ?_⟩
  · simp only [badM]; split <;> simp_all
  · have : badM l = badM (l.take j ++ l.drop j) := by rw [List.take_append_drop]
    rw [this, badM_append _ _ hb, List.drop_eq_getElem_cons h, badM, if_neg hw]
theorem fit_drop {l : List Ck} {j : Nat} (h : j < l.length) (m : Int) : fitM (l.drop j) m = if wrongM l[j] = 0 ∧ ((bytesM l[j]).length : Int) ≤ m then fitM (l.drop (j + 1)) (m - (bytesM l[j]).length) + 1 else 0 := by
  rw [List.drop_eq_getElem_cons h, fitM]
end Go.Proofs.Ytnddejdndipddab
