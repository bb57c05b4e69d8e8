/- The document's receivers: NewReceiver. -/
import Derived.Test.YtnddejdndipddadRdA
import Derived.Test.YtnddejdndipddadRcS
set_option maxRecDepth 20000
namespace Go.Proofs.Ytnddejdndipddad
open Go.RowKit

set_option maxHeartbeats 4000000 in
theorem rnewr_any (c : Cf) (n : Nat) (w : World) (hn : c.streams = n) (hn1 : 1 ≤ n) (hn2 : n ≤ 1048576) (h1 : 0 ≤ c.first) (h2 : c.first ≤ 65536) :
    Calls Try.prog 24 #[.agg #[.int .i64 c.streams, .int .i64 c.part, .int .i64 c.packet, .int .i64 c.paths, .int .i64 c.turns, .int .i64 c.waiting, .int .i64 c.first]] w fun e w' => ∃ s p t l, e = .returned (.agg #[.int .i64 (newM c).cf.streams, .int .i64 (newM c).cf.part, .int .i64 (newM c).cf.packet, .int .i64 (newM c).cf.paths, .int .i64 (newM c).cf.turns, .int .i64 (newM c).cf.waiting, .int .i64 (newM c).cf.first, .int .i64 (newM c).cum, s, p, t, l]) ∧ RvI (fun k => w.heap.size ≤ k) w' (newM c) s p t l ∧ Below w.heap.size w w' := by
  have HNN : Hid (c.streams = n) := hn
  have B0 := two_below w (.cells #[.int .i64 c.streams, .int .i64 c.part, .int .i64 c.packet, .int .i64 c.paths, .int .i64 c.turns, .int .i64 c.waiting, .int .i64 c.first] 36) (.cells #[.int .i64 0, .int .i64 0, .int .i64 0, .int .i64 0, .int .i64 0, .int .i64 0, .int .i64 0, .int .i64 0, .slice none 0 0, .slice none 0 0, .slice none 0 0, .slice none 0 0] 47)
  obtain ⟨st, hst⟩ : ∃ st, c.streams = st := ⟨_, rfl⟩
  have hs0 : st = (n : Int) := by rw [← hst]; exact hn
  have hmax : max st 0 = (n : Int) := by omega
  have hlt : ¬ st < 0 := by omega
  have MK := run_mkI n (by omega)
  have WF : IntKind.i64.wrap (c.first - 1) = c.first - 1 := by simp [IntKind.wrap, IntKind.signed, IntKind.bits]; omega
  subst hs0
  rw [hst]
  clear hst hn
  go_enter Try.func24, Try.ntmps24
  go_upto_region 1 with fail
  go_region
  go_wp2_with fail
  have CT : Cells (w.heap.size + 1 + 1) (((w.alloc (.cells #[.int .i64 (n : Int), .int .i64 c.part, .int .i64 c.packet, .int .i64 c.paths, .int .i64 c.turns, .int .i64 c.waiting, .int .i64 c.first] 36)).alloc (.cells #[.int .i64 (n : Int), .int .i64 c.part, .int .i64 c.packet, .int .i64 c.paths, .int .i64 c.turns, .int .i64 c.waiting, .int .i64 c.first, .int .i64 (c.first - 1), .slice none 0 0, .slice none 0 0, .slice (some ⟨w.heap.size + 1 + 1, 0, none⟩) n n, .slice none 0 0] 47)).alloc (.cells (madeCells #[.int .i64 0] n) 3)) (madeCells #[.int .i64 0] n).toList := Cells.new' _ 3 (by simp)
  have eT : (madeCells #[.int .i64 0] n).toList = cellsI (List.replicate n 0) := by
    simp only [madeCells, cellsI, List.map_replicate]
    rw [List.eq_replicate_iff]
    refine ⟨by simp, fun b hb => ?_⟩
    simp at hb
    obtain ⟨x, -, rfl⟩ := hb
    simp [Nat.mod_one]
  rw [eT] at CT
  have BE : Below w.heap.size w (((w.alloc (.cells #[.int .i64 (n : Int), .int .i64 c.part, .int .i64 c.packet, .int .i64 c.paths, .int .i64 c.turns, .int .i64 c.waiting, .int .i64 c.first] 36)).alloc (.cells #[.int .i64 (n : Int), .int .i64 c.part, .int .i64 c.packet, .int .i64 c.paths, .int .i64 c.turns, .int .i64 c.waiting, .int .i64 c.first, .int .i64 (c.first - 1), .slice none 0 0, .slice none 0 0, .slice (some ⟨w.heap.size + 1 + 1, 0, none⟩) n n, .slice none 0 0] 47)).alloc (.cells (madeCells #[.int .i64 0] n) 3)).drew := below_drew' ((two_below w _ _).alloc (by simp; omega) _)
  have hsz : (((w.alloc (.cells #[.int .i64 (n : Int), .int .i64 c.part, .int .i64 c.packet, .int .i64 c.paths, .int .i64 c.turns, .int .i64 c.waiting, .int .i64 c.first] 36)).alloc (.cells #[.int .i64 (n : Int), .int .i64 c.part, .int .i64 c.packet, .int .i64 c.paths, .int .i64 c.turns, .int .i64 c.waiting, .int .i64 c.first, .int .i64 (c.first - 1), .slice none 0 0, .slice none 0 0, .slice (some ⟨w.heap.size + 1 + 1, 0, none⟩) n n, .slice none 0 0] 47)).alloc (.cells (madeCells #[.int .i64 0] n) 3)).drew.heap.size = w.heap.size + 3 := by simp
  have CT' : Cells (w.heap.size + 1 + 1) (((w.alloc (.cells #[.int .i64 (n : Int), .int .i64 c.part, .int .i64 c.packet, .int .i64 c.paths, .int .i64 c.turns, .int .i64 c.waiting, .int .i64 c.first] 36)).alloc (.cells #[.int .i64 (n : Int), .int .i64 c.part, .int .i64 c.packet, .int .i64 c.paths, .int .i64 c.turns, .int .i64 c.waiting, .int .i64 c.first, .int .i64 (c.first - 1), .slice none 0 0, .slice none 0 0, .slice (some ⟨w.heap.size + 1 + 1, 0, none⟩) n n, .slice none 0 0] 47)).alloc (.cells (madeCells #[.int .i64 0] n) 3)).drew (cellsI (List.replicate n 0)) := cellsDr CT
  refine bodyPost_ret (v := .agg #[.int .i64 (n : Int), .int .i64 c.part, .int .i64 c.packet, .int .i64 c.paths, .int .i64 c.turns, .int .i64 c.waiting, .int .i64 c.first, .int .i64 (c.first - 1), .slice none 0 0, .slice none 0 0, .slice (some ⟨w.heap.size + 1 + 1, 0, none⟩) n n, .slice none 0 0]) (by simp [results, Try.results24, go_sem]) rfl ?_
  generalize (((w.alloc (.cells #[.int .i64 (n : Int), .int .i64 c.part, .int .i64 c.packet, .int .i64 c.paths, .int .i64 c.turns, .int .i64 c.waiting, .int .i64 c.first] 36)).alloc (.cells #[.int .i64 (n : Int), .int .i64 c.part, .int .i64 c.packet, .int .i64 c.paths, .int .i64 c.turns, .int .i64 c.waiting, .int .i64 c.first, .int .i64 (c.first - 1), .slice none 0 0, .slice none 0 0, .slice (some ⟨w.heap.size + 1 + 1, 0, none⟩) n n, .slice none 0 0] 47)).alloc (.cells (madeCells #[.int .i64 0] n) 3)).drew = wE at *
  refine ⟨.slice none 0 0, .slice none 0 0, .slice (some ⟨w.heap.size + 1 + 1, 0, none⟩) n n, .slice none 0 0, ?_, ?_, BE⟩
  · simp only [newM]
    rw [HNN.out]
  · have ht : In wE.heap.size wE (.slice (some ⟨w.heap.size + 1 + 1, 0, none⟩) n n) (newM c).turn := by
      show In _ _ _ (List.replicate c.streams.toNat 0)
      rw [HNN.out, Int.toNat_natCast]
      exact In.block CT' (by omega) (by simp) (by simp; omega) (fun z hz => by have := (List.mem_replicate.1 hz).2; subst this; exact ⟨by omega, by omega⟩)
    have nil : ∀ {S : Nat → Prop}, InS S (.slice none 0 0) := fun b off sp n c e _ => by simp at e
    refine ⟨⟨Sl.nil' _ _, SlG.nil _ _ _ _, ht, SlG.nil _ _ _ _⟩, nil, nil, ?_, nil, ⟨[], trivial, Rw.nil _ _ _⟩, ⟨[], trivial, Rw.nil _ _ _⟩⟩
    intro b off sp n' c' e _
    simp only [Value.slice.injEq, Option.some.injEq, Addr.mk.injEq] at e
    have := e.1.1
    omega
end Go.Proofs.Ytnddejdndipddad
