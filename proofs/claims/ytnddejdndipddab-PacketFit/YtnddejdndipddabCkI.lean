/- A chunk's bytes, and what holds of a chunk with which nothing is wrong. -/
import Derived.Test.YtnddejdndipddabCkH
set_option maxRecDepth 20000
namespace Go.Proofs.Ytnddejdndipddab
open Go.RowKit

def two16 (n : Int) : List Int := [n / 256, n % 256]
def flagsM (last ordered : Bool) : Int := flagV last 1 + flagV ordered 2
def spanB (s : Sp) : List Int := two16 s.1 ++ two16 s.2
def skipB (s : Sk) : List Int := [s.stream, flagV s.ordered 1] ++ two16 s.mid
/-- What stands behind the first two bytes. -/
def bodyM (c : Ck) : List Int :=
  two16 c.tag ++ (if c.kind = 1 then [c.stream, flagsM c.last c.ordered] ++ two16 c.mid ++ [c.part] ++ c.data else if c.kind = 2 then two16 c.room ++ c.spans.flatMap spanB else c.skips.flatMap skipB)
def bytesM (c : Ck) : List Int := c.kind :: ((bodyM c).length : Int) :: bodyM c

structure GoodD (c : Ck) : Prop where
  tag : 0 ≤ c.tag ∧ c.tag < 65536
  stream : 0 ≤ c.stream ∧ c.stream < 4
  mid : 0 ≤ c.mid ∧ c.mid < 65536
  part : 0 ≤ c.part ∧ c.part < 256
  len : 1 ≤ c.data.length ∧ c.data.length ≤ 16
structure GoodS (c : Ck) : Prop where
  tag : 0 ≤ c.tag ∧ c.tag < 65536
  room : 0 ≤ c.room ∧ c.room < 65536
  len : c.spans.length ≤ 6
  spans : spansBad 0 c.spans = false
structure GoodF (c : Ck) : Prop where
  tag : 0 ≤ c.tag ∧ c.tag < 65536
  len : c.skips.length ≤ 8
  skips : c.skips.any skipBad = false

theorem smallM_iff {n : Int} : smallM n = true ↔ 0 ≤ n ∧ n < 65536 := by simp [smallM]
theorem wrong_kind {c : Ck} (h : wrongM c = 0) : c.kind = 1 ∨ c.kind = 2 ∨ c.kind = 3 := by
  unfold wrongM at h
  split at h
  · cases h
  · omega
theorem wrong_tag {c : Ck} (h : wrongM c = 0) : smallM c.tag = true := by
  unfold wrongM at h
  split at h
  · cases h
  · split at h
    · cases h
    · simpa using ‹¬ smallM c.tag = false›
theorem goodD {c : Ck} (h : wrongM c = 0) (k : c.kind = 1) : GoodD c := by
  have t := wrong_tag h
  rw [wrongM_d k t] at h
  unfold wrongD at h
  split at h
  · cases h
  · split at h
    · cases h
    · rename_i h1 h2
      simp only [not_or, Classical.not_not] at h1
      exact ⟨smallM_iff.1 t, h1.1, smallM_iff.1 (by simpa using h1.2.1), h1.2.2, by omega⟩
theorem goodS {c : Ck} (h : wrongM c = 0) (k : c.kind = 2) : GoodS c := by
  have t := wrong_tag h
  rw [wrongM_s k t] at h
  unfold wrongS at h
  split at h
  · cases h
  · split at h
    · cases h
    · split at h
      · cases h
      · rename_i h1 h2 h3
        exact ⟨smallM_iff.1 t, smallM_iff.1 (by simpa using h1), by omega, by simpa using h3⟩
theorem goodF {c : Ck} (h : wrongM c = 0) (k : c.kind = 3) : GoodF c := by
  have t := wrong_tag h
  rw [wrongM_f k t] at h
  unfold wrongF at h
  split at h
  · cases h
  · split at h
    · cases h
    · rename_i h1 h2
      exact ⟨smallM_iff.1 t, by omega, by simpa using h2⟩

/-- The chunk as it lies in its own block X, and the function value in block F. -/
structure Fr (O F X : Nat) (c : Ck) (d s k : Value) (w : World) : Prop where
  one : w.cell? ⟨F, 0, none⟩ = some (oneV O)
  c0 : w.cell? ⟨X, 0, none⟩ = some (.int .i64 c.kind)
  c1 : w.cell? ⟨X, 1, none⟩ = some (.int .i64 c.tag)
  c2 : w.cell? ⟨X, 2, none⟩ = some (.int .i64 c.stream)
  c3 : w.cell? ⟨X, 3, none⟩ = some (.int .i64 c.mid)
  c4 : w.cell? ⟨X, 4, none⟩ = some (.int .i64 c.part)
  c5 : w.cell? ⟨X, 5, none⟩ = some (.bool c.last)
  c6 : w.cell? ⟨X, 6, none⟩ = some (.bool c.ordered)
  c7 : w.cell? ⟨X, 7, none⟩ = some d
  c8 : w.cell? ⟨X, 8, none⟩ = some s
  c9 : w.cell? ⟨X, 9, none⟩ = some (.int .i64 c.room)
  c10 : w.cell? ⟨X, 10, none⟩ = some k

theorem Fr.keep {S : Nat → Prop} {O F X : Nat} {c : Ck} {d s k : Value} {w w' : World} (h : Fr O F X c d s k w) (hk : Keep S w w') (hF : S F) (hX : S X) : Fr O F X c d s k w' :=
  ⟨(hk.cell (p := ⟨F, 0, none⟩) hF).trans h.one, (hk.cell (p := ⟨X, 0, none⟩) hX).trans h.c0, (hk.cell (p := ⟨X, 1, none⟩) hX).trans h.c1, (hk.cell (p := ⟨X, 2, none⟩) hX).trans h.c2, (hk.cell (p := ⟨X, 3, none⟩) hX).trans h.c3, (hk.cell (p := ⟨X, 4, none⟩) hX).trans h.c4,
   (hk.cell (p := ⟨X, 5, none⟩) hX).trans h.c5, (hk.cell (p := ⟨X, 6, none⟩) hX).trans h.c6, (hk.cell (p := ⟨X, 7, none⟩) hX).trans h.c7, (hk.cell (p := ⟨X, 8, none⟩) hX).trans h.c8, (hk.cell (p := ⟨X, 9, none⟩) hX).trans h.c9, (hk.cell (p := ⟨X, 10, none⟩) hX).trans h.c10⟩

/-- The blocks that Bytes keeps: all that were there ahead of it, and the function value's. -/
def SB (n : Nat) : Nat → Prop := fun k => k < n ∨ k = n + 2

theorem buf_start (w : World) (x : Int) (hx : 0 ≤ x ∧ x < 256) :
    Buf (SB w.heap.size) (w.heap.size + 1) (((w.alloc (.cells #[.int .u8 x, .int .u8 0] 5)).alloc (.cells #[.slice (some ⟨w.heap.size, 0, none⟩) 2 2] 23)).alloc (.cells #[oneV (w.heap.size + 1)] 83)) [x, 0] := by
  have h0 : (w.alloc (.cells #[.int .u8 x, .int .u8 0] 5)).ownsRow 0 5 1 (.slice (some ⟨w.heap.size, 0, none⟩) 2 2) 2 [.int .u8 x, .int .u8 0] := World.ownsRow_lit w #[.int .u8 x, .int .u8 0] 2 (Nat.zero_le _) (by unfold maxLen; omega) rfl
  refine ⟨.slice (some ⟨w.heap.size, 0, none⟩) 2 2, ?_, ?_, (h0.alloc _).alloc _, fun k hk => ?_, ?_, ?_, ?_⟩
  · rw [World.cell?_alloc_past _ _ _ (by simp)]
    simp
  · rw [World.frozen?_alloc_past _ _ _ (by simp)]
    simp
  · simp only [Value.ownBlock, Option.some.injEq] at hk
    subst hk
    exact ⟨by unfold SB; omega, by omega⟩
  · unfold SB; omega
  · intro k hk
    unfold SB at hk
    simp
    omega
  · intro z hz
    simp at hz
    omega

theorem fr_start (w w1 : World) (c : Ck) (d s k : Value) (h : Below (w.heap.size + 1) (w.alloc (.cells #[.int .i64 c.kind, .int .i64 c.tag, .int .i64 c.stream, .int .i64 c.mid, .int .i64 c.part, .bool c.last, .bool c.ordered, d, s, .int .i64 c.room, k] 45)) w1) (o1 o2 : Obj) :
    Fr (w1.heap.size + 1) (w1.heap.size + 2) w.heap.size c d s k (((w1.alloc o1).alloc o2).alloc (.cells #[oneV (w1.heap.size + 1)] 83)) := by
  have hs : w.heap.size < w1.heap.size := by have := h.size; simp at this; omega
  have hX : ∀ j u, (#[.int .i64 c.kind, .int .i64 c.tag, .int .i64 c.stream, .int .i64 c.mid, .int .i64 c.part, .bool c.last, .bool c.ordered, d, s, .int .i64 c.room, k] : Array Value)[j]? = some u →
      (((w1.alloc o1).alloc o2).alloc (.cells #[oneV (w1.heap.size + 1)] 83)).cell? ⟨w.heap.size, j, none⟩ = some u := by
    intro j u hu
    rw [World.cell?_alloc_past _ _ _ (by simp; omega), World.cell?_alloc_past _ _ _ (by simp; omega), World.cell?_alloc_past _ _ _ hs, h.cell (p := ⟨w.heap.size, j, none⟩) (Nat.lt_succ_self _), World.cell?_alloc_at _ _ _ _ rfl]
    exact hu
  refine ⟨?_, hX 0 _ rfl, hX 1 _ rfl, hX 2 _ rfl, hX 3 _ rfl, hX 4 _ rfl, hX 5 _ rfl, hX 6 _ rfl, hX 7 _ rfl, hX 8 _ rfl, hX 9 _ rfl, hX 10 _ rfl⟩
  have := box_cell ((w1.alloc o1).alloc o2) (oneV (w1.heap.size + 1)) 83
  simpa using this

/-- The row's last change: the second byte. -/
theorem Buf.finish {S : Nat → Prop} {O : Nat} {w : World} {x y z : Int} {xs : List Int} (h : Buf S O w (x :: y :: xs)) (hz : 0 ≤ z ∧ z < 256) :
    ∃ g cap, w.cell? ⟨O, 0, none⟩ = some (.slice (some ⟨g, 0, none⟩) (x :: y :: xs).length cap) ∧ (x :: y :: xs).length ≤ cap ∧ cap ≤ 9223372036854775807 ∧ w.cell? ⟨g, 1, none⟩ = some (.int .u8 y) ∧ w.frozen? ⟨g, 1, none⟩ = false ∧ g ≠ O ∧
      By (w.setCell ⟨g, 1, none⟩ (.int .u8 z)).heap.size (w.setCell ⟨g, 1, none⟩ (.int .u8 z)) (.slice (some ⟨g, 0, none⟩) (x :: y :: xs).length cap) (x :: z :: xs) ∧ Keep S w (w.setCell ⟨g, 1, none⟩ (.int .u8 z)) ∧
      (w.setCell ⟨g, 1, none⟩ (.int .u8 z)).cell? ⟨O, 0, none⟩ = some (.slice (some ⟨g, 0, none⟩) (x :: y :: xs).length cap) := by
  obtain ⟨v, h1, h2, h3, h4, h5, h6, h7⟩ := h
  rcases h3.2 with ⟨rfl, hn⟩ | ⟨g, cap, cur, rfl, hb, hg, hnc, hcm, hcs, htake⟩
  · simp at hn
  · have hgO := (h4 g rfl)
    have hst := (h3.stored 1 (.int .u8 z)).1
    have hown : (w.setCell ⟨g, 1, none⟩ (.int .u8 z)).ownsRow 0 5 1 (.slice (some ⟨g, 0, none⟩) (x :: y :: xs).length cap) (x :: y :: xs).length ((cellsB (x :: y :: xs)).set 1 (.int .u8 z)) := hst
    refine ⟨g, cap, h1, hnc, by unfold maxLen at hcm; omega, ?_, h3.frozenAt 1, hgO.2, ⟨?_, ?_⟩, ?_, ?_⟩
    · rw [h3.cellAt 1 (by simp)]; rfl
    · have := Rw.own hown (by simp [cellsB])
      exact this
    · intro q hq
      simp only [List.mem_cons] at hq
      rcases hq with rfl | rfl | hq
      · exact h7 _ (by simp)
      · exact hz
      · exact h7 _ (by simp [hq])
    · exact (Keep.refl S w).setCell hgO.1 _
    · rw [World.cell?_setCell_other _ _ _ _ (by simp)]; exact h1
end Go.Proofs.Ytnddejdndipddab
