/- The walk of SchedWaits. -/
import Derived.Test.YtnddejdndipddacScG
set_option maxRecDepth 20000
namespace Go.Proofs.Ytnddejdndipddac
open Go.RowKit

/-- What is asked of the messages ahead of k. -/
def WaitOk (n : Nat) (hand : Int) (l : List Qd) (k : Nat) : Prop := ∀ (j : Nat) (q : Qd), j < k → l[j]? = some q → isSt n q.stream ∧ (q.id = hand → j = 0)
theorem WaitOk.zero (n : Nat) (hand : Int) (l : List Qd) : WaitOk n hand l 0 := fun j q hj => by omega
theorem WaitOk.next {n : Nat} {hand : Int} {l : List Qd} {k : Nat} (h : WaitOk n hand l k) (hk : k < l.length) (h1 : isSt n l[k].stream) (h2 : l[k].id = hand → k = 0) : WaitOk n hand l (k + 1) := fun j q hj hq => by
  by_cases e : j = k
  · subst e
    rw [List.getElem?_eq_getElem hk] at hq
    simp only [Option.some.injEq] at hq
    subst hq
    exact ⟨h1, h2⟩
  · exact h j q (by omega) hq
theorem WaitOk.use {n : Nat} {hand : Int} {l : List Qd} (h : WaitOk n hand l l.length) : (∀ s ∈ strs l, isSt n s) ∧ ∀ i : Nat, (idsQ l)[i]? = some hand → i = 0 := by
  refine ⟨fun s hs => ?_, fun i hi => ?_⟩
  · obtain ⟨q, hq, rfl⟩ := List.mem_map.1 hs
    obtain ⟨j, hj⟩ := List.getElem?_of_mem hq
    exact (h j q (List.getElem?_eq_some_iff.1 hj).1 hj).1
  · simp only [idsQ, List.getElem?_map, Option.map_eq_some_iff] at hi
    obtain ⟨q, hq, he⟩ := hi
    exact (h i q (List.getElem?_eq_some_iff.1 hq).1 hq).2 he

theorem run_slq_h (a : Option Addr) (n cap hi : Nat) (h : hi ≤ n) (h' : n ≤ cap) (wx : World) : (Instr.slice 25 (.slice a n cap) none (some (.int .i64 (hi : Int))) none).run Try.prog wx = .ok (.slice a hi cap) wx := by
  have h1 : (0 : Int) ≤ hi := by omega
  have h2 : (hi : Int) ≤ cap := by omega
  rw [run_slice_h wx 25 a n cap Try.underlying25 .i64 (hi : Int) h1 h2]
  go_simp

set_option maxHeartbeats 4000000 in
theorem waits_walk (turns : Int) (vs v : Value) (s : Sd) (l : List Qd) (w : World) (hs : SdV w.heap.size w vs s) (hv : QdS w.heap.size w v l) :
    Calls Try.prog 3 #[.int .i64 turns, vs, v] w fun e w' => e = .returned (.bool true) ∧ Below w.heap.size w w' := by
  have HV := hv
  obtain ⟨a, cap, rfl, h1, h2⟩ := hv.ex
  have HS := hs
  obtain ⟨d, rfl, hd⟩ := hs
  obtain ⟨ad, cd, rfl, hc1, hc2⟩ := hd.ex
  obtain ⟨last, hand, had⟩ := s
  simp only at HS hc1 ⊢
  have B0 := box_below w (.cells #[.int .i64 last, .int .i64 hand, .slice ad had.length cd] 24)
  have CX := Cells.new w #[.int .i64 last, .int .i64 hand, .slice ad had.length cd] 24
  have hz : w.heap.size < (w.alloc (.cells #[.int .i64 last, .int .i64 hand, .slice ad had.length cd] 24)).heap.size := by simp
  have NX : ∀ wx, Below w.heap.size w wx → Calls Try.prog 10 #[.int .i64 turns, .agg #[.int .i64 last, .int .i64 hand, .slice ad had.length cd], .slice a l.length cap] wx fun e w' => ∃ k, e = .returned (.int .i64 k) ∧ NextIs turns last hand had (idsQ l) (strs l) k ∧ Below wx.heap.size wx w' := fun wx hx => next_any turns _ _ _ l wx (HS.size hx (Nat.le_refl _)) (SlG.size QdV.bears HV hx (Nat.le_refl _))
  clear HS hd hv
  go_enter Try.func3, Try.ntmps3
  go_wp2_with fail
  generalize (w.alloc (.cells #[.int .i64 last, .int .i64 hand, .slice ad had.length cd] 24)) = w0 at *
  refine (alive_any _).mono ?_
  rintro e w1 ⟨rfl, b1⟩
  have B1 := B0.trans (b1.mono B0.size)
  have CX1 := CX.below b1 hz
  have hz1 : w.heap.size < w1.heap.size := Nat.lt_of_lt_of_le hz b1.size
  have y0 := CX1.cell 0 _ rfl
  have y1 := CX1.cell 1 _ rfl
  have y2 := CX1.cell 2 _ rfl
  cases en : ((had.length : Int) == 0) with
  | true =>
    go_wp2_with fail
    go_ret
    exact ⟨rfl, B1⟩
  | false =>
  by_cases p1 : last < 0
  · go_wp2_with fail
    go_ret
    exact ⟨rfl, B1⟩
  by_cases p2 : last ≥ (had.length : Int)
  · go_wp2_with fail
    go_ret
    exact ⟨rfl, B1⟩
  by_cases p3 : turns < 1
  · go_wp2_with fail
    go_ret
    exact ⟨rfl, B1⟩
  by_cases p4 : turns > 5
  · go_wp2_with fail
    go_ret
    exact ⟨rfl, B1⟩
  have hn0 : 0 < had.length := by rw [beq_eq_false_iff_ne] at en; omega
  have HN0 : Hid (0 < had.length) := hn0
  clear CX b1 hn0
  go_wp2_with fail
  go_loopw [41] (fun i wr => ∃ k : Nat, k ≤ l.length ∧ i = .int .i64 k ∧ WaitOk had.length hand l k ∧ Below w1.heap.size w1 wr) (fun i _ => l.length - (intOf i).toNat)
  case atStart => exact ⟨0, Nat.zero_le _, rfl, WaitOk.zero _ _ _, Below.refl _ _⟩
  case round =>
    obtain ⟨k, hk, rfl, WO, BR⟩ := hrel
    have BW := B1.trans (BR.mono B1.size)
    have hzr : w.heap.size < wr.heap.size := Nat.lt_of_lt_of_le hz1 BR.size
    have CXR := CX1.below BR hz1
    clear y0 y1 y2
    have y0 := CXR.cell 0 _ rfl
    have y1 := CXR.cell 1 _ rfl
    have y2 := CXR.cell 2 _ rfl
    by_cases hlt : k < l.length
    · obtain ⟨b, off, da, dn, dc, hb, hix, x0, x1, x2, x3, x4, x5, x6, x7, x8, x9⟩ := QdS.at (SlG.below QdV.bears HV BW (Nat.le_refl _)) k hlt
      have WN := WO.next hlt
      have HB := fun o => BW.alloc BW.size o
      have HR := fun o => BR.alloc BR.size o
      clear WO
      generalize l[k] = q at *
      by_cases q1 : q.stream < 0
      · go_wp2_with fail
        go_ret
        exact ⟨rfl, HB _⟩
      by_cases q2 : q.stream ≥ (had.length : Int)
      · go_wp2_with fail
        go_ret
        exact ⟨rfl, HB _⟩
      cases q3 : (q.id == hand) with
      | true =>
        by_cases q4 : (k : Int) > 0
        · go_wp2_with fail
          go_ret
          exact ⟨rfl, HB _⟩
        · have W1 := WN ⟨by omega, by omega⟩ (fun _ => by omega)
          clear WN
          go_wp2_with fail
          go_roundw
          case rel => exact ⟨k + 1, by omega, by go_num, W1, HR _⟩
          case measure => simp [intOf]; omega
      | false =>
        have W1 := WN ⟨by omega, by omega⟩ (fun h => by rw [beq_eq_false_iff_ne] at q3; exact absurd h q3)
        clear WN
        go_wp2_with fail
        go_roundw
        case rel => exact ⟨k + 1, by omega, by go_num, W1, HR _⟩
        case measure => simp [intOf]; omega
    · have hkl : k = l.length := by omega
      subst hkl
      obtain ⟨WS, WI⟩ := WO.use
      have NXR := NX _ BW
      clear WO NX
      go_wp2_with fail
      refine NXR.mono ?_
      rintro e w2 ⟨z, rfl, NI, b2⟩
      have B2 := BW.trans (b2.mono BW.size)
      by_cases hl0 : l.length = 0
      · have hz0 : z = -1 := NI.uniq (next_none (.inl (by rw [strs_len]; exact hl0)))
        subst hz0
        have el : ((l.length : Int) == 0) = true := by simp [hl0]
        clear hl0 NXR WS WI
        go_wp2_with fail
        go_ret
        exact ⟨ret_bool (by simp), B2⟩
      · obtain ⟨i, rfl, hi, hno⟩ := NI.waits HN0.out WS WI (by rw [strs_len]; omega)
        rw [strs_len] at hi
        have el : ((l.length : Int) == 0) = false := by rw [beq_eq_false_iff_ne]; omega
        have RS := run_slq_h a l.length cap i (by omega) h1
        have HNO : Hid (∀ (j : Nat) s, j < i → (strs l)[j]? = some s → (strs l)[i]? ≠ some s) := hno
        clear hl0 NXR WS WI hno NI
        have g1 : ¬ (i : Int) < 0 := by omega
        have g2 : ¬ (i : Int) ≥ (l.length : Int) := by omega
        obtain ⟨b5, o5, da5, dn5, dc5, hb5, hix5, -, -, -, -, -, v5, -⟩ := QdS.at (SlG.below QdV.bears HV B2 (Nat.le_refl _)) i hi
        have T5 : ∀ wx, Below w2.heap.size w2 wx → wx.cell? ⟨b5, o5 + 5, none⟩ = some (.int .i64 l[i].stream) := fun wx hx => (hx.cell (p := ⟨b5, o5 + 5, none⟩) (by show b5 < _; have := B2.size; omega)).trans v5
        clear v5
        go_wp2_with fail
        go_loopw [92] (fun t wq => ∃ j : Nat, j ≤ i ∧ t = .int .i64 j ∧ Below w2.heap.size w2 wq) (fun t _ => i - (intOf t).toNat)
        case atStart => exact ⟨0, Nat.zero_le _, rfl, Below.refl _ _⟩
        case round =>
          obtain ⟨j, hj, rfl, BQ⟩ := hrel
          have BWQ := B2.trans (BQ.mono B2.size)
          by_cases hji : j < i
          · have hjl : j < l.length := by omega
            obtain ⟨b, off, da, dn, dc, hb, hix, x0, x1, x2, x3, x4, x5, x6, x7, x8, x9⟩ := QdS.at (l := l.take i) (by have := SlG.re QdV.bears (SlG.below QdV.bears HV BWQ (Nat.le_refl _)) 0 i (by omega); rwa [List.drop_zero, Nat.sub_zero, show reK 10 a cap 0 = a by simp [reK, Addr.add]] at this) j (by simp; omega)
            rw [List.getElem_take] at x0 x1 x2 x3 x4 x5 x6 x7 x8
            have t5 := T5 _ BQ
            have HR := fun o => BQ.alloc BQ.size o
            have HE : (l[j].stream == l[i].stream) = false := by
              rw [beq_eq_false_iff_ne]
              intro e
              refine HNO.out j l[j].stream hji (strs_get hjl) ?_
              rw [strs_get hi, e]
            have lb5 : b5 < wr.heap.size := by have := BWQ.size; omega
            generalize l[j] = q at *
            generalize l[i].stream = si at *
            go_wp2_with fail
            go_quiet (fail)
            go_wp2_with fail
            exact ⟨⟨j + 1, by omega, by go_num, below_drewN (HR _) nq⟩, by simp [intOf]; omega⟩
          · have hje : j = i := by omega
            subst hje
            go_wp2_with fail
            go_ret
            exact ⟨rfl, BWQ⟩
end Go.Proofs.Ytnddejdndipddac
