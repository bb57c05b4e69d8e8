/- Slices of numbers, as they are read, and that came in. -/
import Derived.Test.YtnddejdndipddadGZ
set_option maxRecDepth 20000
namespace Go.Proofs.Ytnddejdndipddad
open Go.ChangeShapes Go.WideShapes Go.ChangeAt Go.RowKit

/-- Numbers as cells. -/
def cellsI (zs : List Int) : List Value := zs.map fun z => .int .i64 z
theorem cellsI_one (zs : List Int) : ∀ u ∈ cellsI zs, u.oneCell' = true := by
  intro u hu
  obtain ⟨z, _, rfl⟩ := List.mem_map.1 hu
  rfl
theorem cellsI_append (a b : List Int) : cellsI (a ++ b) = cellsI a ++ cellsI b := by simp [cellsI]
theorem cellsI_length (a : List Int) : (cellsI a).length = a.length := by simp [cellsI]
theorem cellsI_get (a : List Int) (k : Nat) (h : k < a.length) : (cellsI a)[k]? = some (.int .i64 a[k]) := by simp [cellsI, h]
theorem cellsI_set (a : List Int) (k : Nat) (z : Int) : cellsI (a.set k z) = (cellsI a).set k (.int .i64 z) := by simp [cellsI, List.map_set]
/-- Numbers that ints hold. -/
def IsI (zs : List Int) : Prop := ∀ z ∈ zs, I64 z
theorem IsI.nil : IsI [] := fun z hz => by simp at hz
theorem IsI.get {zs : List Int} (h : IsI zs) (k : Nat) (hk : k < zs.length) : I64 zs[k] := h _ (List.getElem_mem hk)
theorem IsI.append {a b : List Int} (h : IsI a) (h' : IsI b) : IsI (a ++ b) := fun z hz => (List.mem_append.1 hz).elim (h z) (h' z)
theorem IsI.snoc {a : List Int} {z : Int} (h : IsI a) (h' : I64 z) : IsI (a ++ [z]) := h.append fun x hx => by simp at hx; subst hx; exact h'
theorem IsI.take {a : List Int} (h : IsI a) (k : Nat) : IsI (a.take k) := fun z hz => h z (List.mem_of_mem_take hz)
theorem IsI.drop {a : List Int} (h : IsI a) (k : Nat) : IsI (a.drop k) := fun z hz => h z (List.mem_of_mem_drop hz)
/-- A slice of ints. -/
def In (B : Nat) (w : World) (v : Value) (zs : List Int) : Prop := Rw 1 B w v zs.length (cellsI zs) ∧ IsI zs
theorem In.below {B B' : Nat} {w w' : World} {v : Value} {zs : List Int} (h : In B w v zs) (hb : Below B' w w') (hB : B ≤ B') : In B w' v zs := ⟨h.1.below hb hB, h.2⟩
theorem In.mono {B B' : Nat} {w : World} {v : Value} {zs : List Int} (h : In B w v zs) (hB : B ≤ B') : In B' w v zs := ⟨h.1.mono hB, h.2⟩
theorem In.size {B : Nat} {w w' : World} {v : Value} {zs : List Int} (h : In w.heap.size w v zs) (hb : Below B w w') (hB : w.heap.size ≤ B) : In w'.heap.size w' v zs := (h.below hb hB).mono hb.size
theorem In.ex {B : Nat} {w : World} {v : Value} {zs : List Int} (h : In B w v zs) : ∃ a cap, v = .slice a zs.length cap ∧ zs.length ≤ cap ∧ cap ≤ 9223372036854775807 := by
  obtain ⟨⟨_, a, cap, rfl, h1, h2, _⟩, _⟩ := h
  exact ⟨a, cap, rfl, h1, h2⟩
theorem In.nil (B : Nat) (w : World) : In B w (.slice none 0 0) [] := ⟨Rw.nil 1 B w, IsI.nil⟩
theorem In.keep {B B' : Nat} {S : Nat → Prop} {w w' : World} {v : Value} {zs : List Int} (h : In B w v zs) (hi : InS S v) (kp : Keep S w w') (hB : B ≤ B') : In B' w' v zs := ⟨h.1.keep hi kp hB, h.2⟩
theorem In.own {w : World} {base : Nat} {t : TypeId} {v : Value} {n : Nat} {zs : List Int} (h : w.ownsRow base t 1 v n (cellsI zs)) (hn : n = zs.length) (hi : IsI zs) : In w.heap.size w v zs := by
  subst hn
  exact ⟨Rw.own h (by simp [cellsI]), hi⟩
/-- A place in a slice of ints. -/
theorem In.at {B : Nat} {w : World} {a : Option Addr} {n cap : Nat} {zs : List Int} (h : In B w (.slice a n cap) zs) (k : Nat) (hk : k < zs.length) :
    ∃ b off, b < B ∧ (∀ wx, (Instr.indexAt 31 (.slice a n cap) (.int .i64 (k : Int))).run Try.prog wx = .ok (.pointer (some ⟨b, off, none⟩)) wx) ∧ w.cell? ⟨b, off, none⟩ = some (.int .i64 zs[k]) := by
  obtain ⟨⟨hl, a', cap', he, g1, g2, g0, g4⟩, _⟩ := h
  simp only [Value.slice.injEq] at he
  obtain ⟨rfl, rfl, rfl⟩ := he
  obtain ⟨b, off, rfl, hb, hat⟩ := g4 (by omega)
  refine ⟨b, off + k, hb, fun wx => ?_, hat k _ (cellsI_get zs k hk)⟩
  have : (k : Int) < zs.length := by omega
  go_simp
theorem Try.info3 : (Try.prog.info? 3).map (fun i => (i.zero, i.size, i.bytes)) = some (some (.int .i64 0), 1, 8) := by kernel_rfl
theorem Try.cellsInts : Try.prog.cellsOf 31 = 1 := by kernel_rfl
/-- make, of ints. -/
theorem run_mkI (n : Nat) (h : n * 8 ≤ 281474976710656) (wx : World) : (Instr.makeSlice 31 (.int .i64 (n : Int)) (.int .i64 (n : Int))).run Try.prog wx = .ok (.slice (some ⟨wx.heap.size, 0, none⟩) n n) (wx.alloc (.cells (madeCells #[.int .i64 0] n) 3)) := by
  obtain ⟨i0, hi, hz0, hz1, hz2⟩ := info_parts Try.info3
  have := run_make (P := Try.prog) wx 31 3 i0 (.int .i64 0) Try.underlying31 hi hz0 .i64 .i64 (n : Int) (n : Int) (by omega) (Int.le_refl _) (by rw [hz2]; omega) (by omega)
  rw [hz1, Int.toNat_natCast, Nat.mul_one] at this
  exact this
/-- A block of ints, new. -/
theorem In.block {w : World} {O n : Nat} {zs : List Int} (h : Cells O w (cellsI zs)) (hO : O < w.heap.size) (hn : n = zs.length) (hl : zs.length ≤ 9223372036854775807) (hi : IsI zs) : In w.heap.size w (.slice (some ⟨O, 0, none⟩) n n) zs := by
  subst hn
  exact ⟨⟨by simp [cellsI], some ⟨O, 0, none⟩, _, rfl, Nat.le_refl _, hl, fun h => by simp at h, fun _ => ⟨O, 0, rfl, hO, fun j u hu => by rw [Nat.zero_add]; exact h.cell j u hu⟩⟩, hi⟩

theorem In.cells {w : World} {O n c : Nat} {zs : List Int} (h : Cells O w (cellsI zs)) (hO : O < w.heap.size) (hn : n = zs.length) (hnc : n ≤ c) (hc : c ≤ 9223372036854775807) (hi : IsI zs) : In w.heap.size w (.slice (some ⟨O, 0, none⟩) n c) zs := by
  subst hn
  exact ⟨⟨by simp [cellsI], some ⟨O, 0, none⟩, _, rfl, hnc, hc, fun h => by simp at h, fun _ => ⟨O, 0, rfl, hO, fun j u hu => by rw [Nat.zero_add]; exact h.cell j u hu⟩⟩, hi⟩
theorem wrap64_I64 (x : Int) : I64 (wrap64 x) := wf_I64 (wrap64_wf x)
theorem IsI.set {zs : List Int} (h : IsI zs) (k : Nat) {z : Int} (hz : I64 z) : IsI (zs.set k z) := fun x hx => by
  rcases List.mem_or_eq_of_mem_set hx with h1 | rfl
  · exact h x h1
  · exact hz

/-- A slice of things in a block. -/
theorem SlG.cells {α : Type} {c : Nat} {R : Nat → World → Value → α → Prop} {B : Nat} {w : World} {O n cap : Nat} {vs : List Value} {l : List α} (hA : All2 (R B w) vs l) (hf : (flatV vs).length = l.length * c) (hc : Cells O w (flatV vs)) (hO : O < B) (hn : n = l.length) (h1 : n ≤ cap) (h2 : cap ≤ 9223372036854775807) : SlG c R B w (.slice (some ⟨O, 0, none⟩) n cap) l := by
  subst hn
  exact ⟨vs, hA, hf, some ⟨O, 0, none⟩, cap, rfl, h1, h2, fun h => by simp at h, fun _ => ⟨O, 0, rfl, hO, fun j u hu => by rw [Nat.zero_add]; exact hc.cell j u hu⟩⟩

/-- A struct's value, out of its cells. -/
theorem agg_of {v : Value} {l : List Value} (h : v.cells.toList = l) (h2 : l.length ≠ 1) : v = .agg l.toArray := by
  cases v with
  | agg cs => subst h; rfl
  | _ => subst h; simp [Value.cells] at h2

section
variable {H : Type} {enc : TypeId × Value → H} {w : World} {held : Bool}
/-- Numbers that came in. -/
theorem ints_in {x : DataW H × List MemPlace} {fuel : Nat} {cs : List Value} (h : DataW.trod enc Try.prog w 0 (fun _ => true) held fuel 31 cs = some x) :
    ∃ v zs, cs = [v] ∧ In w.heap.size w v zs ∧ ∀ B, (∀ es sp, x.1 = .slice es sp → es.length + sp.length ≤ B) → zs.length ≤ B := by
  rcases open_ints Try.underlying31 Try.underlying3 Try.cells3 h with ⟨hcs, _⟩ | ⟨x', l, c, zs, hcs, _, hl, hm, hz, hx, hcell, hwz⟩
  · exact ⟨_, [], hcs, In.nil _ _, fun B _ => Nat.zero_le _⟩
  · simp only [if_true] at hz
    have hlen : (zs.take l).length = l := by simp; omega
    refine ⟨_, zs.take l, hcs, ⟨?_, fun z hz => ?_⟩, ?_⟩
    · rw [hlen]
      refine ⟨by simp [cellsI]; omega, some x', c, rfl, hl, by unfold maxLen at hm; omega, fun h => by simp at h, fun hn => ?_⟩
      have hpos : 0 < zs.length := by omega
      have hlt : x'.block < w.heap.size := by
        have := World.block_lt_of_cell? _ _ (hcell 0 hpos)
        simpa [Addr.add] using this
      obtain ⟨b, off, spot⟩ := x'
      have hspot : spot = none := by simpa [Addr.add] using World.cell?_spot (hcell 0 hpos)
      subst hspot
      refine ⟨b, off, rfl, hlt, fun j u hu => ?_⟩
      have hj : j < l := by have := (List.getElem?_eq_some_iff.1 hu).1; simp [cellsI] at this; omega
      have hc := hcell j (by omega)
      rw [add_plain] at hc
      rw [hc]
      simp only [cellsI, List.getElem?_map, List.getElem?_take, hj, if_true, List.getElem?_eq_getElem (show j < zs.length by omega), Option.map_some, Option.some.injEq] at hu
      rw [← hu, List.getD_eq_getElem?_getD, List.getElem?_eq_getElem (show j < zs.length by omega)]
      rfl
    · exact wf_I64 (hwz z (List.mem_of_mem_take hz))
    · intro B hB
      have := hB _ _ (Prod.ext_iff.1 hx).1
      simp [lits] at this
      rw [hlen]
      omega
end
end Go.Proofs.Ytnddejdndipddad
