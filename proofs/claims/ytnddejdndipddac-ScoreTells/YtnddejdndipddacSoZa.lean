/- The document's Sack, where it tells of nothing. -/
import Derived.Test.YtnddejdndipddacSoZ
set_option maxRecDepth 20000
namespace Go.Proofs.Ytnddejdndipddac
open Go.RowKit

set_option maxHeartbeats 2000000 in
theorem rsack_gone (v : Value) (l : List Sn) (cum : Int) (c : Ck) (d s q : Value) (paths : Nat) (w : World) (hv : SnS w.heap.size w v l) (hd : By w.heap.size w d c.data) (hs : Sl w.heap.size w s c.spans) (hq : Kl w.heap.size w q c.skips) (hlen : l.length * 200 ≤ 140737488351232)
    (hris : RisesM cum l) (hc1 : -1 ≤ cum) (hc2 : cum ≤ 1000000) (hp2 : paths ≤ 2) (hor : nearM cum c.tag < cum ∨ lastM l cum < nearM cum c.tag) :
    Calls Try.prog 16 #[v, .int .i64 cum, ckVal c d s q, .int .i64 (paths : Int)] w fun e w' => ∃ u, e = .returned u ∧ SackV w' u (sackF l cum c.tag c.spans paths) ∧ Below w.heap.size w w' := by
  have HV := hv
  obtain ⟨a, cap, rfl, h1, h2⟩ := hv.ex
  obtain ⟨ad, cd, rfl, -, -⟩ := hd.ex
  obtain ⟨asp, csp, rfl⟩ := hs.ex
  obtain ⟨ak, ck, rfl, -, -⟩ := hq.ex
  obtain ⟨kind, tag, stream, mid, part, last, ordered, data, spans, room, skips⟩ := c
  simp only [ckVal] at *
  have NB := near_bd cum tag
  have NE := rnear_any cum tag
  have HE : Hid (sackF l cum tag spans paths = ⟨l, cum, List.replicate paths 0, []⟩) := if_pos hor
  rw [hris.last] at hor
  have HM := run_mkI paths (by omega)
  have g1 : decide ((paths : Int) < 0) = false := by simp
  generalize hn : nearM cum tag = n at *
  have hNw : ∀ wx, Calls Try.prog 46 #[.int .i64 cum, .int .i64 tag] wx fun e w' => e = .returned (.int .i64 n) ∧ w' = wx := fun wx => NE wx (by omega) (by omega)
  have B2 := two_below w (.cells #[.int .i64 kind, .int .i64 tag, .int .i64 stream, .int .i64 mid, .int .i64 part, .bool last, .bool ordered, .slice ad data.length cd, .slice asp spans.length csp, .int .i64 room, .slice ak skips.length ck] 42) (.cells (madeCells #[.int .i64 0] paths) 3)
  have CZ : Cells (w.heap.size + 1) ((w.alloc (.cells #[.int .i64 kind, .int .i64 tag, .int .i64 stream, .int .i64 mid, .int .i64 part, .bool last, .bool ordered, .slice ad data.length cd, .slice asp spans.length csp, .int .i64 room, .slice ak skips.length ck] 42)).alloc (.cells (madeCells #[.int .i64 0] paths) 3)) (cellsI (List.replicate paths 0)) := by
    have h := Cells.new' (w := w.alloc (.cells #[.int .i64 kind, .int .i64 tag, .int .i64 stream, .int .i64 mid, .int .i64 part, .bool last, .bool ordered, .slice ad data.length cd, .slice asp spans.length csp, .int .i64 room, .slice ak skips.length ck] 42)) (X := w.heap.size + 1) (madeCells #[.int .i64 0] paths) 3 (by simp)
    rw [toList_madeCells_one] at h
    simpa [cellsI] using h
  have hz : ((w.alloc (.cells #[.int .i64 kind, .int .i64 tag, .int .i64 stream, .int .i64 mid, .int .i64 part, .bool last, .bool ordered, .slice ad data.length cd, .slice asp spans.length csp, .int .i64 room, .slice ak skips.length ck] 42)).alloc (.cells (madeCells #[.int .i64 0] paths) 3)).heap.size = w.heap.size + 2 := by simp
  have RES : Hid (SackV ((w.alloc (.cells #[.int .i64 kind, .int .i64 tag, .int .i64 stream, .int .i64 mid, .int .i64 part, .bool last, .bool ordered, .slice ad data.length cd, .slice asp spans.length csp, .int .i64 room, .slice ak skips.length ck] 42)).alloc (.cells (madeCells #[.int .i64 0] paths) 3)) (.tuple #[.slice a l.length cap, .int .i64 cum, .slice (some ⟨w.heap.size + 1, 0, none⟩) paths paths, .slice none 0 0]) (sackF l cum tag spans paths)) := by
    show SackV ((w.alloc (.cells #[.int .i64 kind, .int .i64 tag, .int .i64 stream, .int .i64 mid, .int .i64 part, .bool last, .bool ordered, .slice ad data.length cd, .slice asp spans.length csp, .int .i64 room, .slice ak skips.length ck] 42)).alloc (.cells (madeCells #[.int .i64 0] paths) 3)) _ _
    rw [HE.out]
    refine ⟨a, cap, some ⟨w.heap.size + 1, 0, none⟩, paths, none, 0, by simp, SlG.size SnV.bears HV B2 (Nat.le_refl _), ?_, In.nil _ _⟩
    show In _ _ (.slice _ (List.replicate paths 0).length paths) _
    refine In.cells CZ (by omega) rfl (by simp) (by omega) fun z hzm => ?_
    obtain ⟨-, rfl⟩ := List.mem_replicate.1 hzm
    unfold I64; omega
  clear NE hn CZ HE
  by_cases hlt : n < cum
  · have hd1 : decide (n < cum) = true := decide_eq_true hlt
    go_enter Try.func16, Try.ntmps16
    go_wp2_with (go_at_call 46; refine (hNw _).mono ?_; rintro e w' ⟨rfl, rfl⟩)
    refine bodyPost_ret (v := .tuple #[.slice a l.length cap, .int .i64 cum, .slice (some ⟨w.heap.size + 1, 0, none⟩) paths paths, .slice none 0 0]) (by simp [results, Try.results16, go_sem]) rfl ⟨_, rfl, RES.out, B2⟩
  · have hd1 : decide (n < cum) = false := decide_eq_false hlt
    have hgt : n > cum + (l.length : Int) := by omega
    go_enter Try.func16, Try.ntmps16
    go_wp2_with (go_at_call 46; refine (hNw _).mono ?_; rintro e w' ⟨rfl, rfl⟩)
    refine bodyPost_ret (v := .tuple #[.slice a l.length cap, .int .i64 cum, .slice (some ⟨w.heap.size + 1, 0, none⟩) paths paths, .slice none 0 0]) (by simp [results, Try.results16, go_sem]) rfl ⟨_, rfl, RES.out, B2⟩
end Go.Proofs.Ytnddejdndipddac
