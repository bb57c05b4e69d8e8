/- The contract of Join's function, of package parts. -/
import Derived.Test.YtnddejdndipddadPaE
import Derived.RegionTactic
import Derived.BigRegion
set_option maxRecDepth 20000
namespace Go.Proofs.Ytnddejdndipddad
open Go.RowKit

/-- A chunk that is laid: its place is free, and it says rightly whether it is the last one. -/
def laysB (n : Nat) (hs : List Bool) (c : Ck) (q : Nat) : Prop := c.part = (q : Int) ∧ q < n ∧ hs[q]? = some false ∧ c.last = decide ((q : Int) = (n : Int) - 1)

theorem Cells.of_set {X Y : Nat} {w : World} {l : List Value} (h : Cells X w l) (j : Nat) (u : Value) (hne : X ≠ Y) : Cells X (w.setCell ⟨Y, j, none⟩ u) l :=
  h.keep (S := fun k => k ≠ Y) (Keep.setCell (Keep.refl _ _) (p := ⟨Y, j, none⟩) (fun e => e rfl) u) hne

set_option maxHeartbeats 2000000 in
theorem lay_any (L Hd Dt Oh Od n : Nat) (hs : List Bool) (ds : List Value) (c : Ck) (ad as' ak : Option Addr) (nd cd ns cs nk ck : Nat) (w : World)
    (cL : w.cell? ⟨L, 0, none⟩ = some (.int .i64 ((n : Int) - 1))) (cH : w.cell? ⟨Hd, 0, none⟩ = some (.slice (some ⟨Oh, 0, none⟩) n n)) (cD : w.cell? ⟨Dt, 0, none⟩ = some (.slice (some ⟨Od, 0, none⟩) n n))
    (rh : Cells Oh w (hs.map Value.bool)) (rd : Cells Od w ds) (lh : hs.length = n) (ld : ds.length = n) (hOh : Oh < w.heap.size) (hOd : Od < w.heap.size) (hne : Oh ≠ Od)
    (d3 : Hd ≠ Oh) (d4 : Hd ≠ Od) (d5 : Dt ≠ Oh) (d6 : Dt ≠ Od) :
    Calls Try.prog 86 #[ckVal c (.slice ad nd cd) (.slice as' ns cs) (.slice ak nk ck), .pointer (some ⟨L, 0, none⟩), .pointer (some ⟨Hd, 0, none⟩), .pointer (some ⟨Dt, 0, none⟩)] w fun e w' =>
      (∃ q, laysB n hs c q ∧ e = .returned (.bool true) ∧ Cells Oh w' ((hs.set q true).map Value.bool) ∧ Cells Od w' (ds.set q (.slice ad nd cd)) ∧ Keep (fun k => k < w.heap.size ∧ k ≠ Oh ∧ k ≠ Od) w w') ∨
      (e = .returned (.bool false) ∧ Below w.heap.size w w' ∧ ∀ q, ¬ laysB n hs c q) := by
  obtain ⟨kind, tag, stream, mid, part, last, ordered, data, spans, room, skips⟩ := c
  simp only [ckVal]
  have HB := fun o => box_below w o
  have CL := fun o => new_at cL o
  have CH := fun o => new_at cH o
  have CD := fun o => new_at cD o
  by_cases p0 : part < 0
  · have HN : Hid (∀ q, ¬ laysB n hs ⟨kind, tag, stream, mid, part, last, ordered, data, spans, room, skips⟩ q) := by rintro q ⟨h, -⟩; simp only at h; omega
    go_enter Try.func86, Try.ntmps86
    go_wp2
    go_ret
    exact .inr ⟨rfl, HB _, HN.out⟩
  · obtain ⟨q, rfl⟩ := Int.eq_ofNat_of_zero_le (show 0 ≤ part by omega)
    by_cases p1 : (q : Int) > (n : Int) - 1
    · have HN : Hid (∀ q', ¬ laysB n hs ⟨kind, tag, stream, mid, q, last, ordered, data, spans, room, skips⟩ q') := by rintro q' ⟨h, h2, -⟩; simp only at h; omega
      go_enter Try.func86, Try.ntmps86
      go_wp2
      go_ret
      exact .inr ⟨rfl, HB _, HN.out⟩
    · have hq : q < n := by omega
      have HQ := fun o => new_at (rh.cell q (.bool hs[q]) (by simp [lh, hq])) o
      have EQ : Hid (hs[q]? = some hs[q]) := List.getElem?_eq_getElem (by omega)
      generalize hs[q]'(by omega) = hd at *
      cases hd with
      | true =>
        have HN : Hid (∀ q', ¬ laysB n hs ⟨kind, tag, stream, mid, q, last, ordered, data, spans, room, skips⟩ q') := by
          rintro q' ⟨h, h2, h3, -⟩
          simp only at h
          have : q' = q := by omega
          subst this
          rw [EQ.out] at h3
          simp at h3
        go_enter Try.func86, Try.ntmps86
        go_wp2
        go_ret
        exact .inr ⟨rfl, HB _, HN.out⟩
      | false =>
        have HN : last ≠ ((q : Int) == (n : Int) - 1) → Hid (∀ q', ¬ laysB n hs ⟨kind, tag, stream, mid, q, last, ordered, data, spans, room, skips⟩ q') := by
          rintro hne q' ⟨h, h2, h3, h4⟩
          simp only at h h4
          have : q' = q := by omega
          subst this
          refine hne ?_
          rw [h4, Bool.eq_iff_iff]
          simp
        have HY : last = ((q : Int) == (n : Int) - 1) → Hid (laysB n hs ⟨kind, tag, stream, mid, q, last, ordered, data, spans, room, skips⟩ q) := by
          intro he
          refine ⟨rfl, hq, EQ.out, ?_⟩
          show last = _
          rw [he, Bool.eq_iff_iff]
          simp
        have FIN : ∀ (o : Obj), Cells Oh (((w.setCell ⟨Od, q, none⟩ (.slice ad nd cd)).setCell ⟨Oh, q, none⟩ (.bool true)).alloc o) ((hs.set q true).map Value.bool) ∧ Cells Od (((w.setCell ⟨Od, q, none⟩ (.slice ad nd cd)).setCell ⟨Oh, q, none⟩ (.bool true)).alloc o) (ds.set q (.slice ad nd cd)) ∧ Keep (fun k => k < w.heap.size ∧ k ≠ Oh ∧ k ≠ Od) w (((w.setCell ⟨Od, q, none⟩ (.slice ad nd cd)).setCell ⟨Oh, q, none⟩ (.bool true)).alloc o) := by
          intro o
          have hs2 : ((w.setCell ⟨Od, q, none⟩ (.slice ad nd cd)).setCell ⟨Oh, q, none⟩ (.bool true)).heap.size = w.heap.size := by simp
          refine ⟨?_, ?_, ?_⟩
          · have := (rh.of_set (Y := Od) q (.slice ad nd cd) hne).set q (.bool true) (by simp; omega)
            rw [List.map_set]
            exact this.alloc (by omega) o
          · exact ((rd.set q (.slice ad nd cd) (by omega)).of_set (Y := Oh) q (.bool true) (Ne.symm hne)).alloc (by omega) o
          · exact (((Keep.refl _ _).setCell (p := ⟨Od, q, none⟩) (fun h => h.2.2 rfl) _).setCell (p := ⟨Oh, q, none⟩) (fun h => h.2.1 rfl) _).alloc (fun k hk => by rw [hs2]; exact hk.1) o
        have hHd : Hd < w.heap.size := World.block_lt_of_cell? _ _ cH
        have hDt : Dt < w.heap.size := World.block_lt_of_cell? _ _ cD
        have n1 := Ne.symm d3
        have n2 := Ne.symm d4
        have n3 := Ne.symm d5
        have n4 := Ne.symm d6
        have n5 := Ne.symm hne
        have fh := rh.fz q
        have fd := rd.fz q
        have hQ := rh.cell q (.bool false) (by simp [EQ.out])
        have dQ := rd.cell q ds[q] (by simp [ld, hq])
        cases last <;> cases hx : ((q : Int) == (n : Int) - 1)
        case false.true =>
          have HN' := HN (by rw [hx]; simp)
          clear HN HY
          go_enter Try.func86, Try.ntmps86
          go_wp2
          go_ret
          exact .inr ⟨rfl, HB _, HN'.out⟩
        case true.false =>
          have HN' := HN (by rw [hx]; simp)
          clear HN HY
          go_enter Try.func86, Try.ntmps86
          go_wp2
          go_ret
          exact .inr ⟨rfl, HB _, HN'.out⟩
        all_goals
          have HY' := HY hx.symm
          clear HN HY
          go_enter Try.func86, Try.ntmps86
          go_wp2
          go_region
          go_wp2
          go_ret
          obtain ⟨f1, f2, f3⟩ := FIN (.cells #[.int .i64 kind, .int .i64 tag, .int .i64 stream, .int .i64 mid, .int .i64 q, .bool _, .bool ordered, .slice ad nd cd, .slice as' ns cs, .int .i64 room, .slice ak nk ck] 42)
          exact .inl ⟨q, HY'.out, rfl, ⟨f1.cell, f1.fz⟩, ⟨f2.cell, f2.fz⟩, ⟨f3.os, f3.tape, f3.output, f3.size, f3.block⟩⟩
end Go.Proofs.Ytnddejdndipddad
