/- Pieces as they are read, and slices of bytes' slices. -/
import Derived.Test.YtnddejdndipddadPaA
import Derived.Test.YtnddejdndipddadGS
set_option maxRecDepth 20000
namespace Go.Proofs.Ytnddejdndipddad
open Go.RowKit

/-- A piece's fields, as one value. -/
def pcVal (p : Pc) (d s k : Value) : Value := .agg #[.int .i64 p.number, .int .i64 p.ck.kind, .int .i64 p.ck.tag, .int .i64 p.ck.stream, .int .i64 p.ck.mid, .int .i64 p.ck.part, .bool p.ck.last, .bool p.ck.ordered, d, s, .int .i64 p.ck.room, k]

/-- A value that is this piece; its lists lie below block B. -/
def PcV (B : Nat) (w : World) (v : Value) (p : Pc) : Prop := ∃ d s k, v = pcVal p d s k ∧ By B w d p.ck.data ∧ Sl B w s p.ck.spans ∧ Kl B w k p.ck.skips

theorem PcV.bears : Bears 12 PcV where
  cells := by rintro B w v x ⟨d, s, k, rfl, -⟩; rfl
  below := by
    rintro B B' w w' v x ⟨d, s, k, rfl, h1, h2, h3⟩ hb hB
    exact ⟨d, s, k, rfl, h1.below hb hB, h2.below hb hB, h3.below hb hB⟩
  mono := by
    rintro B B' w v x ⟨d, s, k, rfl, h1, h2, h3⟩ hB
    exact ⟨d, s, k, rfl, h1.mono hB, h2.mono hB, h3.mono hB⟩

/-- A slice of pieces. -/
abbrev PcS (B : Nat) (w : World) (v : Value) (l : List Pc) : Prop := SlG 12 PcV B w v l
theorem By.bears : Bears 1 By where
  cells := by
    rintro B w v x h
    obtain ⟨a, cap, rfl, -⟩ := h.ex
    rfl
  below := fun h hb hB => h.below hb hB
  mono := fun h hB => h.mono hB
/-- A slice of slices of bytes. -/
abbrev BbS (B : Nat) (w : World) (v : Value) (l : List (List Int)) : Prop := SlG 1 By B w v l

/-- A place in a slice of pieces. -/
theorem PcS.at {B : Nat} {w : World} {a : Option Addr} {n cap : Nat} {l : List Pc} (h : PcS B w (.slice a n cap) l) (k : Nat) (hk : k < l.length) :
    ∃ b off d s q, b < B ∧ (∀ wx, (Instr.indexAt 44 (.slice a n cap) (.int .i64 (k : Int))).run Try.prog wx = .ok (.pointer (some ⟨b, off, none⟩)) wx) ∧ PcV B w (pcVal l[k] d s q) l[k] ∧ IsSl d ∧ IsSl s ∧ IsSl q ∧
      (w.cell? ⟨b, off, none⟩ = some (.int .i64 l[k].number) ∧ w.cell? ⟨b, off + 1, none⟩ = some (.int .i64 l[k].ck.kind) ∧ w.cell? ⟨b, off + 2, none⟩ = some (.int .i64 l[k].ck.tag) ∧ w.cell? ⟨b, off + 3, none⟩ = some (.int .i64 l[k].ck.stream) ∧ w.cell? ⟨b, off + 4, none⟩ = some (.int .i64 l[k].ck.mid) ∧ w.cell? ⟨b, off + 5, none⟩ = some (.int .i64 l[k].ck.part) ∧
       w.cell? ⟨b, off + 6, none⟩ = some (.bool l[k].ck.last) ∧ w.cell? ⟨b, off + 7, none⟩ = some (.bool l[k].ck.ordered) ∧ w.cell? ⟨b, off + 8, none⟩ = some d ∧ w.cell? ⟨b, off + 9, none⟩ = some s ∧ w.cell? ⟨b, off + 10, none⟩ = some (.int .i64 l[k].ck.room) ∧ w.cell? ⟨b, off + 11, none⟩ = some q) := by
  obtain ⟨b, off, v, hb, rfl, rfl, hc, e⟩ := SlG.at PcV.bears h k hk
  have hc' := hc
  obtain ⟨d, s, q, rfl, hd, hs, hq⟩ := hc'
  have i1 : IsSl d := by obtain ⟨_, _, rfl, _⟩ := hd.ex; exact isl
  have i2 : IsSl s := by obtain ⟨_, _, rfl⟩ := hs.ex; exact isl
  have i3 : IsSl q := by obtain ⟨_, _, rfl, _⟩ := hq.ex; exact isl
  clear hd hs hq
  refine ⟨b, off + k * 12, d, s, q, hb, fun wx => ?_, hc, i1, i2, i3, e 0 _ (by omega) rfl, e 1 _ (by omega) rfl, e 2 _ (by omega) rfl, e 3 _ (by omega) rfl, e 4 _ (by omega) rfl, e 5 _ (by omega) rfl, e 6 _ (by omega) rfl, e 7 _ (by omega) rfl, e 8 _ (by omega) rfl, e 9 _ (by omega) rfl, e 10 _ (by omega) rfl, e 11 _ (by omega) rfl⟩
  have : (k : Int) < l.length := by omega
  go_simp

/-- A place in a slice of slices of bytes. -/
theorem BbS.at {B : Nat} {w : World} {a : Option Addr} {n cap : Nat} {l : List (List Int)} (h : BbS B w (.slice a n cap) l) (k : Nat) (hk : k < l.length) :
    ∃ b off d, b < B ∧ (∀ wx, (Instr.indexAt 114 (.slice a n cap) (.int .i64 (k : Int))).run Try.prog wx = .ok (.pointer (some ⟨b, off, none⟩)) wx) ∧ By B w d l[k] ∧ w.cell? ⟨b, off, none⟩ = some d := by
  obtain ⟨b, off, d, hb, rfl, rfl, hc, e⟩ := SlG.at By.bears h k hk
  have hc' := hc
  obtain ⟨ad, cd, rfl, -⟩ := hc'.ex
  refine ⟨b, off + k, _, hb, fun wx => ?_, hc, ?_⟩
  · have : (k : Int) < l.length := by omega
    go_simp
  · have := e 0 _ (by omega) rfl
    rwa [Nat.mul_one] at this
end Go.Proofs.Ytnddejdndipddad
