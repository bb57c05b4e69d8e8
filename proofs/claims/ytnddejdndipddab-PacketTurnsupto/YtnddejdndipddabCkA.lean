/- Chunks as they are read, what is wrong with one, and the small functions of chunk. -/
import Derived.Test.YtnddejdndipddabGR
set_option maxRecDepth 20000
namespace Go.Proofs.Ytnddejdndipddab
open Go.RowKit

/-- A chunk. -/
structure Ck where
  kind : Int
  tag : Int
  stream : Int
  mid : Int
  part : Int
  last : Bool
  ordered : Bool
  data : List Int
  spans : List Sp
  room : Int
  skips : List Sk

def Ck.zero : Ck := ⟨0, 0, 0, 0, 0, false, false, [], [], 0, []⟩

/-- Its fields, as one value. -/
def ckVal (c : Ck) (d s k : Value) : Value := .agg #[.int .i64 c.kind, .int .i64 c.tag, .int .i64 c.stream, .int .i64 c.mid, .int .i64 c.part, .bool c.last, .bool c.ordered, d, s, .int .i64 c.room, k]

/-- A value that is this chunk; its lists lie below block B. -/
def CkV (B : Nat) (w : World) (v : Value) (c : Ck) : Prop :=
  ∃ d s k, v = ckVal c d s k ∧ By B w d c.data ∧ Sl B w s c.spans ∧ Kl B w k c.skips

theorem CkV.below {B B' : Nat} {w w' : World} {v : Value} {c : Ck} (h : CkV B w v c) (hb : Below B' w w') (hB : B ≤ B') : CkV B w' v c := by
  obtain ⟨d, s, k, rfl, h1, h2, h3⟩ := h
  exact ⟨d, s, k, rfl, h1.below hb hB, h2.below hb hB, h3.below hb hB⟩
theorem CkV.mono {B B' : Nat} {w : World} {v : Value} {c : Ck} (h : CkV B w v c) (hB : B ≤ B') : CkV B' w v c := by
  obtain ⟨d, s, k, rfl, h1, h2, h3⟩ := h
  exact ⟨d, s, k, rfl, h1.mono hB, h2.mono hB, h3.mono hB⟩
theorem CkV.size {B : Nat} {w w' : World} {v : Value} {c : Ck} (h : CkV w.heap.size w v c) (hb : Below B w w') (hB : w.heap.size ≤ B) : CkV w'.heap.size w' v c := (h.below hb hB).mono hb.size
theorem By.nil (B : Nat) (w : World) : By B w (.slice none 0 0) [] := ⟨Rw.nil 1 B w, fun z hz => by simp at hz⟩
theorem Kl.nil (B : Nat) (w : World) : Kl B w (.slice none 0 0) [] := Rw.nil 3 B w
theorem Sl.nil' (B : Nat) (w : World) : Sl B w (.slice none 0 0) [] := ⟨none, 0, rfl, by simp, by simp, fun _ => rfl, fun s hs => by simp at hs, fun h => absurd rfl h⟩
theorem CkV.zero (B : Nat) (w : World) : CkV B w (ckVal Ck.zero (.slice none 0 0) (.slice none 0 0) (.slice none 0 0)) Ck.zero := ⟨_, _, _, rfl, By.nil B w, Sl.nil' B w, Kl.nil B w⟩

/-- A small number. -/
def smallM (n : Int) : Bool := decide (0 ≤ n ∧ n < 65536)

/-- Spans that are wrong behind a number. -/
def spansBad : Int → List Sp → Bool
  | _, [] => false
  | a, s :: r => if s.1 < a + 2 ∨ s.2 < s.1 ∨ 65536 ≤ s.2 then true else spansBad s.2 r

def skipBad (s : Sk) : Bool := !(decide (0 ≤ s.stream ∧ s.stream < 4)) || !(smallM s.mid)

def wrongD (c : Ck) : Int := if ¬ (0 ≤ c.stream ∧ c.stream < 4) ∨ smallM c.mid = false ∨ ¬ (0 ≤ c.part ∧ c.part < 256) then 3 else if c.data.length < 1 ∨ 16 < c.data.length then 4 else 0
def wrongS (c : Ck) : Int := if smallM c.room = false then 3 else if 6 < c.spans.length then 5 else if spansBad 0 c.spans = true then 3 else 0
def wrongF (c : Ck) : Int := if 8 < c.skips.length then 5 else if c.skips.any skipBad = true then 3 else 0
/-- What is wrong with a chunk: an errno. -/
def wrongM (c : Ck) : Int :=
  if c.kind < 1 ∨ 3 < c.kind then 1 else if smallM c.tag = false then 3 else if c.kind = 1 then wrongD c else if c.kind = 2 then wrongS c else wrongF c

theorem below_any (n m : Int) (w : World) : Calls Try.prog 72 #[.int .i64 n, .int .i64 m] w fun e w' => e = .returned (.bool (decide (0 ≤ n ∧ n < m))) ∧ w' = w := by
  by_cases h : 0 ≤ n
  · go_enter Try.func72, Try.ntmps72
    go_wp2
    go_ret
    exact ⟨ret_bool (by simp [h]), rfl⟩
  · go_enter Try.func72, Try.ntmps72
    go_wp2
    go_ret
    exact ⟨ret_bool (by simp; omega), rfl⟩

theorem small_any (n : Int) (w : World) : Calls Try.prog 64 #[.int .i64 n] w fun e w' => e = .returned (.bool (smallM n)) ∧ w' = w := by
  go_enter Try.func64, Try.ntmps64
  go_wp2_with (go_at_call 72; refine (below_any _ _ _).mono ?_; rintro e w' ⟨rfl, rfl⟩)
  go_ret
  exact ⟨ret_bool (by simp [smallM]), rfl⟩

theorem known_any (n : Int) (w : World) : Calls Try.prog 63 #[.int .i64 n] w fun e w' => e = .returned (.bool (decide (1 ≤ n ∧ n ≤ 3))) ∧ w' = w := by
  rcases (show n = 1 ∨ n = 2 ∨ n = 3 ∨ (n < 1 ∨ 3 < n) by omega) with h | h | h | h
  · subst h
    go_enter Try.func63, Try.ntmps63
    go_wp2
    go_ret
    exact ⟨rfl, rfl⟩
  · subst h
    go_enter Try.func63, Try.ntmps63
    go_wp2
    go_ret
    exact ⟨rfl, rfl⟩
  · subst h
    go_enter Try.func63, Try.ntmps63
    go_wp2
    go_ret
    exact ⟨rfl, rfl⟩
  · have h1 : ¬ n = 1 := by omega
    have h2 : ¬ n = 2 := by omega
    have h3 : ¬ n = 3 := by omega
    have HF : Hid (decide (1 ≤ n ∧ n ≤ 3) = false) := by show _ = _; simp; omega
    clear h
    go_enter Try.func63, Try.ntmps63
    go_wp2
    go_ret
    rw [HF.out]
    exact ⟨ret_bool (by simp [h1, h2, h3]), rfl⟩

theorem rtagq_any (n : Int) (w : World) : Calls Try.prog 68 #[.int .i64 n] w fun e w' => e = .returned (.bool (smallM n)) ∧ w' = w := by
  by_cases h : 0 ≤ n
  · go_enter Try.func68, Try.ntmps68
    go_wp2
    go_ret
    exact ⟨ret_bool (by simp [smallM, h]; omega), rfl⟩
  · go_enter Try.func68, Try.ntmps68
    go_wp2
    go_ret
    exact ⟨ret_bool (by simp [smallM]; omega), rfl⟩

/-- A flag's number. -/
def flagV (b : Bool) (n : Int) : Int := if b = true then n else 0

theorem flag_any (b : Bool) (n : Int) (w : World) : Calls Try.prog 50 #[.bool b, .int .i64 n] w fun e w' => e = .returned (.int .i64 (flagV b n)) ∧ w' = w := by
  cases b
  · go_enter Try.func50, Try.ntmps50
    go_wp2
    go_ret
    exact ⟨rfl, rfl⟩
  · go_enter Try.func50, Try.ntmps50
    go_wp2
    go_ret
    exact ⟨rfl, rfl⟩

theorem rflag_any (b : Bool) (n : Int) (w : World) : Calls Try.prog 53 #[.bool b, .int .i64 n] w fun e w' => e = .returned (.int .i64 (flagV b n)) ∧ w' = w := by
  cases b
  · go_enter Try.func53, Try.ntmps53
    go_wp2
    go_ret
    exact ⟨rfl, rfl⟩
  · go_enter Try.func53, Try.ntmps53
    go_wp2
    go_ret
    exact ⟨rfl, rfl⟩

theorem whole_any (n f k : Int) (w : World) (h1 : 0 ≤ n) (h2 : n ≤ 1000) (h3 : 0 ≤ f) (h4 : f ≤ 1000) (h5 : k = 4) : Calls Try.prog 78 #[.int .i64 n, .int .i64 f, .int .i64 k] w fun e w' => e = .returned (.bool (decide (f ≤ n ∧ (n - f) % 4 = 0))) ∧ w' = w := by
  subst h5
  by_cases h : f ≤ n
  · have ht : (n - f).tmod 4 = (n - f) % 4 := Int.tmod_eq_emod_of_nonneg (by omega)
    have a1 : 0 ≤ (n - f) % 4 := by omega
    have a2 : (n - f) % 4 < 4 := by omega
    have HT : Hid ((n - f).tmod 4 = (n - f) % 4) := ht
    have a3 : 0 ≤ (n - f).tmod 4 := by omega
    have a4 : (n - f).tmod 4 < 4 := by omega
    clear ht
    go_enter Try.func78, Try.ntmps78
    go_wp2
    go_ret
    exact ⟨ret_bool (by rw [Bool.eq_iff_iff]; simp [h]), rfl⟩
  · go_enter Try.func78, Try.ntmps78
    go_wp2
    go_ret
    exact ⟨ret_bool (by simp; omega), rfl⟩
end Go.Proofs.Ytnddejdndipddab
