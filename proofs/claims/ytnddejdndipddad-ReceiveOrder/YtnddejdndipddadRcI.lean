/- The contracts of receive's small functions: Held, hasStream, isNew, hasRoom, noughts, New. -/
import Derived.Test.YtnddejdndipddadRcE
import Derived.Test.YtnddejdndipddadRcK
set_option maxRecDepth 20000
namespace Go.Proofs.Ytnddejdndipddad
open Go.RowKit

theorem held_snoc (l : List Pc) (k : Nat) (h : k < l.length) : heldM (l.take (k + 1)) = heldM (l.take k) + l[k].ck.data.length := by
  rw [List.take_succ_eq_append_getElem h, heldM, heldM, List.map_append, List.sum_append]
  simp
theorem held_le {l : List Pc} {b : Nat} (h : ∀ p ∈ l, p.ck.data.length ≤ b) : heldM l ≤ l.length * b := by
  induction l with
  | nil => simp [heldM]
  | cons p l ih =>
    have h1 := h p (by simp)
    have h2 := ih fun q hq => h q (by simp [hq])
    rw [List.length_cons, Nat.succ_mul]
    simp only [heldM, List.map_cons, List.sum_cons] at *
    omega
theorem FitR.held {x : Rc} (h : FitR x) : heldM x.pieces ≤ 1099511627776 := by
  have h1 := held_le fun p hp => (h.d p hp).2
  have h2 : x.pieces.length * 1048576 ≤ 1048576 * 1048576 := Nat.mul_le_mul_right _ h.n
  omega
theorem held_take (l : List Pc) (k : Nat) : heldM (l.take k) ≤ heldM l := by
  have : heldM l = heldM (l.take k) + heldM (l.drop k) := by
    unfold heldM
    rw [← List.sum_append, ← List.map_append, List.take_append_drop]
  omega

set_option maxHeartbeats 1000000 in
theorem held_any (x : Rc) (s p t l : Value) (w : World) (h : RvS w.heap.size w x s p t l) (hf : FitR x) : Calls Try.prog 26 #[.agg #[.int .i64 x.cf.streams, .int .i64 x.cf.part, .int .i64 x.cf.packet, .int .i64 x.cf.paths, .int .i64 x.cf.turns, .int .i64 x.cf.waiting, .int .i64 x.cf.first, .int .i64 x.cum, s, p, t, l]] w fun e w' => e = .returned (.int .i64 (heldM x.pieces : Nat)) ∧ Below w.heap.size w w' := by
  have H := h
  have hh := hf.held
  obtain ⟨sa, sc, pa, pc, ta, tc, la, lc, rfl, rfl, rfl, rfl⟩ := h.ex
  have B0 := box_below w (.cells #[.int .i64 x.cf.streams, .int .i64 x.cf.part, .int .i64 x.cf.packet, .int .i64 x.cf.paths, .int .i64 x.cf.turns, .int .i64 x.cf.waiting, .int .i64 x.cf.first, .int .i64 x.cum, .slice sa x.spans.length sc, .slice pa x.pieces.length pc, .slice ta x.turn.length tc, .slice la x.log.length lc] 47)
  have H0 := H.below B0 (Nat.le_refl _)
  have hpn := hf.n
  have hs0 : w.heap.size ≤ (w.alloc (.cells #[.int .i64 x.cf.streams, .int .i64 x.cf.part, .int .i64 x.cf.packet, .int .i64 x.cf.paths, .int .i64 x.cf.turns, .int .i64 x.cf.waiting, .int .i64 x.cf.first, .int .i64 x.cum, .slice sa x.spans.length sc, .slice pa x.pieces.length pc, .slice ta x.turn.length tc, .slice la x.log.length lc] 47)).heap.size := by simp
  clear h H hf
  go_enter Try.func26, Try.ntmps26
  go_wp2_with fail
  generalize w.alloc (.cells #[.int .i64 x.cf.streams, .int .i64 x.cf.part, .int .i64 x.cf.packet, .int .i64 x.cf.paths, .int .i64 x.cf.turns, .int .i64 x.cf.waiting, .int .i64 x.cf.first, .int .i64 x.cum, .slice sa x.spans.length sc, .slice pa x.pieces.length pc, .slice ta x.turn.length tc, .slice la x.log.length lc] 47) = w0 at *
  go_loopw [3, 9] (fun s3 j wr => ∃ k : Nat, k ≤ x.pieces.length ∧ j = .int .i64 k ∧ s3 = .int .i64 (heldM (x.pieces.take k) : Nat) ∧ Below w0.heap.size w0 wr) (fun _ j _ => x.pieces.length - (intOf j).toNat)
  case atStart => exact ⟨0, Nat.zero_le _, rfl, rfl, Below.refl _ _⟩
  case round =>
    obtain ⟨k, hk, rfl, rfl, BR⟩ := hrel
    have szr := BR.size
    by_cases hlt : k < x.pieces.length
    · obtain ⟨b, off, da, dc, sa', sc', qa, qc, hb, hixp, -, -, -, hat⟩ := PcS.range (H0.below BR (by omega)).p k hlt
      have HS : Hid (heldM (x.pieces.take (k + 1)) = heldM (x.pieces.take k) + x.pieces[k].ck.data.length) := held_snoc x.pieces k hlt
      have h1 := held_take x.pieces (k + 1)
      rw [HS.out] at h1
      generalize x.pieces[k] = y at *
      generalize heldM (x.pieces.take k) = hk' at *
      have AX := Cells.new wr #[.int .i64 y.number, .int .i64 y.ck.kind, .int .i64 y.ck.tag, .int .i64 y.ck.stream, .int .i64 y.ck.mid, .int .i64 y.ck.part, .bool y.ck.last, .bool y.ck.ordered, .slice da y.ck.data.length dc, .slice sa' y.ck.spans.length sc', .int .i64 y.ck.room, .slice qa y.ck.skips.length qc] 71
      have bX := box_below wr (.cells #[.int .i64 y.number, .int .i64 y.ck.kind, .int .i64 y.ck.tag, .int .i64 y.ck.stream, .int .i64 y.ck.mid, .int .i64 y.ck.part, .bool y.ck.last, .bool y.ck.ordered, .slice da y.ck.data.length dc, .slice sa' y.ck.spans.length sc', .int .i64 y.ck.room, .slice qa y.ck.skips.length qc] 71)
      have x8 := AX.cell 8 _ rfl
      have BW : Below w0.heap.size w0 (wr.alloc (.cells #[.int .i64 y.number, .int .i64 y.ck.kind, .int .i64 y.ck.tag, .int .i64 y.ck.stream, .int .i64 y.ck.mid, .int .i64 y.ck.part, .bool y.ck.last, .bool y.ck.ordered, .slice da y.ck.data.length dc, .slice sa' y.ck.spans.length sc', .int .i64 y.ck.room, .slice qa y.ck.skips.length qc] 71)) := BR.trans (bX.mono szr)
      go_wp2_with (first
        | refine wpList_ldP rfl (.tmp 11) rfl b off rfl y _ _ _ (by with_reducible exact hat) ?_
        | refine wpList_stN 71 12 Try.sizePc rfl (.tmp 5) (.tmp 12) rfl wr _ rfl rfl rfl [.int .i64 y.number, .int .i64 y.ck.kind, .int .i64 y.ck.tag, .int .i64 y.ck.stream, .int .i64 y.ck.mid, .int .i64 y.ck.part, .bool y.ck.last, .bool y.ck.ordered, .slice da y.ck.data.length dc, .slice sa' y.ck.spans.length sc', .int .i64 y.ck.room, .slice qa y.ck.skips.length qc] rfl rfl rfl ?_)
      go_roundw
      case rel => exact ⟨k + 1, by omega, by go_num, by rw [HS.out]; go_num, BW⟩
      case measure => simp [intOf]; omega
    · have hkl : k = x.pieces.length := by omega
      subst hkl
      rw [List.take_length]
      go_wp2_with fail
      go_ret
      exact ⟨rfl, B0.trans (BR.mono hs0)⟩

set_option maxHeartbeats 400000 in
theorem hasStream_any (x : Rc) (sa : Option Addr) (sn sc : Nat) (pa : Option Addr) (pn pc : Nat) (ta : Option Addr) (tc : Nat) (la : Option Addr) (ln lc : Nat) (i : Int) (w : World) : Calls Try.prog 53 #[.agg #[.int .i64 x.cf.streams, .int .i64 x.cf.part, .int .i64 x.cf.packet, .int .i64 x.cf.paths, .int .i64 x.cf.turns, .int .i64 x.cf.waiting, .int .i64 x.cf.first, .int .i64 x.cum, .slice sa sn sc, .slice pa pn pc, .slice ta x.turn.length tc, .slice la ln lc], .int .i64 i] w fun e w' => e = .returned (.bool (decide (hasM x i))) ∧ Below w.heap.size w w' := by
  have HB := fun o => box_below w o
  have HD : Hid (decide (hasM x i) = (decide (0 ≤ i) && decide (i < x.turn.length))) := by show _ = _; by_cases h1 : 0 ≤ i <;> by_cases h2 : i < x.turn.length <;> simp [hasM, h1, h2]
  generalize x.turn.length = tl at *
  by_cases h : 0 ≤ i
  · have hd : decide (0 ≤ i) = true := decide_eq_true h
    go_enter Try.func53, Try.ntmps53
    go_wp2
    go_ret
    exact ⟨ret_bool (by rw [HD.out, hd]; simp), HB _⟩
  · have hd : decide (0 ≤ i) = false := decide_eq_false h
    go_enter Try.func53, Try.ntmps53
    go_wp2
    go_ret
    exact ⟨ret_bool (by rw [HD.out, hd]; rfl), HB _⟩

set_option maxHeartbeats 1000000 in
theorem isNew_any (x : Rc) (s p t l : Value) (n : Int) (w : World) (h : RvS w.heap.size w x s p t l) : Calls Try.prog 54 #[.agg #[.int .i64 x.cf.streams, .int .i64 x.cf.part, .int .i64 x.cf.packet, .int .i64 x.cf.paths, .int .i64 x.cf.turns, .int .i64 x.cf.waiting, .int .i64 x.cf.first, .int .i64 x.cum, s, p, t, l], .int .i64 n] w fun e w' => e = .returned (.bool (decide (x.cum < n) && !inM x.spans n)) ∧ Below w.heap.size w w' := by
  have H := h
  obtain ⟨sa, sc, pa, pc, ta, tc, la, lc, rfl, rfl, rfl, rfl⟩ := h.ex
  have B0 := box_below w (.cells #[.int .i64 x.cf.streams, .int .i64 x.cf.part, .int .i64 x.cf.packet, .int .i64 x.cf.paths, .int .i64 x.cf.turns, .int .i64 x.cf.waiting, .int .i64 x.cf.first, .int .i64 x.cum, .slice sa x.spans.length sc, .slice pa x.pieces.length pc, .slice ta x.turn.length tc, .slice la x.log.length lc] 47)
  have HA := has_any _ x.spans n _ (H.s.size B0 (Nat.le_refl _))
  have HB : w.heap.size ≤ (w.alloc (.cells #[.int .i64 x.cf.streams, .int .i64 x.cf.part, .int .i64 x.cf.packet, .int .i64 x.cf.paths, .int .i64 x.cf.turns, .int .i64 x.cf.waiting, .int .i64 x.cf.first, .int .i64 x.cum, .slice sa x.spans.length sc, .slice pa x.pieces.length pc, .slice ta x.turn.length tc, .slice la x.log.length lc] 47)).heap.size := by simp
  clear h H
  by_cases hq : x.cum < n
  · have hd : decide (x.cum < n) = true := decide_eq_true hq
    have hd' : decide (n > x.cum) = true := decide_eq_true hq
    go_enter Try.func54, Try.ntmps54
    go_wp2_with fail
    refine HA.mono ?_
    rintro e w1 ⟨rfl, b1⟩
    go_wp2_with fail
    go_ret
    exact ⟨ret_bool (by rw [hd]; simp), B0.trans (b1.mono HB)⟩
  · have hd : decide (x.cum < n) = false := decide_eq_false hq
    have hd' : decide (n > x.cum) = false := decide_eq_false hq
    clear HA
    go_enter Try.func54, Try.ntmps54
    go_wp2_with fail
    go_ret
    exact ⟨ret_bool (by first | rfl | (rw [hd]; rfl)), B0⟩

set_option maxHeartbeats 1000000 in
theorem hasRoom_any (x : Rc) (s p t l : Value) (n : Int) (b : Nat) (w : World) (h : RvS w.heap.size w x s p t l) (hf : FitR x) (hb : b ≤ 1099511627776) (h1 : -1 ≤ x.cum) (h2 : x.cum ≤ 1099511627776) : Calls Try.prog 55 #[.agg #[.int .i64 x.cf.streams, .int .i64 x.cf.part, .int .i64 x.cf.packet, .int .i64 x.cf.paths, .int .i64 x.cf.turns, .int .i64 x.cf.waiting, .int .i64 x.cf.first, .int .i64 x.cum, s, p, t, l], .int .i64 n, .int .i64 (b : Int)] w fun e w' => e = .returned (.bool (decide (n = x.cum + 1) || decide (heldM x.pieces + b ≤ 400))) ∧ Below w.heap.size w w' := by
  have H := h
  have hh := hf.held
  obtain ⟨sa, sc, pa, pc, ta, tc, la, lc, rfl, rfl, rfl, rfl⟩ := h.ex
  have B0 := box_below w (.cells #[.int .i64 x.cf.streams, .int .i64 x.cf.part, .int .i64 x.cf.packet, .int .i64 x.cf.paths, .int .i64 x.cf.turns, .int .i64 x.cf.waiting, .int .i64 x.cf.first, .int .i64 x.cum, .slice sa x.spans.length sc, .slice pa x.pieces.length pc, .slice ta x.turn.length tc, .slice la x.log.length lc] 47)
  have CX := Cells.new w #[.int .i64 x.cf.streams, .int .i64 x.cf.part, .int .i64 x.cf.packet, .int .i64 x.cf.paths, .int .i64 x.cf.turns, .int .i64 x.cf.waiting, .int .i64 x.cf.first, .int .i64 x.cum, .slice sa x.spans.length sc, .slice pa x.pieces.length pc, .slice ta x.turn.length tc, .slice la x.log.length lc] 47
  have HA := held_any x _ _ _ _ _ (H.size B0 (Nat.le_refl _)) hf
  have HB : w.heap.size ≤ (w.alloc (.cells #[.int .i64 x.cf.streams, .int .i64 x.cf.part, .int .i64 x.cf.packet, .int .i64 x.cf.paths, .int .i64 x.cf.turns, .int .i64 x.cf.waiting, .int .i64 x.cf.first, .int .i64 x.cum, .slice sa x.spans.length sc, .slice pa x.pieces.length pc, .slice ta x.turn.length tc, .slice la x.log.length lc] 47)).heap.size := by simp
  clear h H hf
  by_cases hq : n = x.cum + 1
  · have hd : (n == x.cum + 1) = true := by simpa using hq
    have HD : Hid (decide (n = x.cum + 1) = true) := decide_eq_true hq
    clear hq HA
    go_enter Try.func55, Try.ntmps55
    go_wp2_with fail
    go_ret
    exact ⟨ret_bool (by rw [HD.out]; rfl), B0⟩
  · have hd : (n == x.cum + 1) = false := by simpa using hq
    have HD : Hid (decide (n = x.cum + 1) = false) := decide_eq_false hq
    clear hq
    go_enter Try.func55, Try.ntmps55
    go_wp2_with fail
    refine HA.mono ?_
    rintro e w1 ⟨rfl, b1⟩
    obtain ⟨hm, hhm⟩ : ∃ hm, heldM x.pieces = hm := ⟨_, rfl⟩
    rw [hhm] at hh ⊢
    have HHM : Hid (heldM x.pieces = hm) := hhm
    clear hhm
    go_wp2_with fail
    go_ret
    exact ⟨ret_bool (by rw [HD.out, HHM.out, Bool.false_or]; by_cases h : hm + b ≤ 400 <;> simp [h] <;> omega), B0.trans (b1.mono HB)⟩

set_option maxHeartbeats 400000 in
theorem rnoughts_any (n : Nat) (w : World) (hn : n ≤ 2147483647) :
    Calls Try.prog 45 #[.int .i64 (n : Int)] w fun e w' => e = .returned (.slice (some ⟨w.heap.size, 0, none⟩) n n) ∧ w' = w.alloc (.cells (madeCells #[.int .i64 0] n) 3) := by
  have HM := run_mkI n (by omega)
  have g1 : decide ((n : Int) < 0) = false := by simp
  go_enter Try.func45, Try.ntmps45
  go_wp2
  go_ret
  exact ⟨rfl, rfl⟩
end Go.Proofs.Ytnddejdndipddad
