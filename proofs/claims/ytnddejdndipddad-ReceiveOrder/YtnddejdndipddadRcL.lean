/- The contracts of slices.Clone (numbers, pieces, messages that were delivered) and receive.Own. -/
import Derived.Test.YtnddejdndipddadRcI
import Derived.Lib.SliceRun
set_option maxRecDepth 20000
namespace Go.Proofs.Ytnddejdndipddad
open Go.RowKit

set_option maxHeartbeats 1000000 in
theorem clone_is (v : Value) (n : Nat) (xs : List Value) (w : World) (hv : Rw 1 w.heap.size w v n xs) (h1c : ∀ u ∈ xs, u.oneCell' = true) (hl : n * 8 ≤ 140737488355328) :
    Calls Try.prog 47 #[v] w fun e w' => ∃ a c, e = .returned (.slice a n c) ∧ w'.ownsRow w.heap.size 3 1 (.slice a n c) n xs ∧ Below w.heap.size w w' := by
  have HV := hv
  obtain ⟨-, a, cap, rfl, h1, h2, -⟩ := hv
  have q23 : ∀ (w : World) (a : Option Addr) (n c n' c' : Nat), (binOp .eql 31 (.slice a n c) (.slice none n' c')).run Try.prog w = .ok (.bool a.isNone) w := fun w a n c n' c' => Lib.run_eql_slice_nil w _ _ a n c n' c' Try.underlying31
  cases a with
  | none =>
    obtain ⟨rfl, rfl, rfl⟩ := HV.none0
    go_enter Try.func47, Try.ntmps47
    go_wp2
    go_ret
    exact ⟨none, 0, rfl, World.ownsRow_nil _ _ _ _, Below.refl _ _⟩
  | some ad =>
    have HB := fun o => box_below w o
    have HR := fun o => HV.below (box_below w o) (Nat.le_refl _)
    go_enter Try.func47, Try.ntmps47
    go_wp2_with (at_builtin; refine wpList_append_rw Try.underlying31 Try.info3 rfl (by decide) _ rfl (.tmp 5) (.tmp 6) rfl w.heap.size (.slice (some ⟨w.heap.size, 0, none⟩) 0 0) 0 [] rfl (World.ownsRow_made w #[] 0 (Nat.le_refl _) (Nat.zero_le _) rfl) w.heap.size n xs _ rfl (HR _) h1c (by unfold maxLen; omega) (by omega) (by simp) ?_; intro v3 w3 own3 grow3 at3)
    rw [List.nil_append, Nat.zero_add] at own3
    have BE : Below w.heap.size w w3 := (HB _).grown grow3 (by simp) (by intro k hk; simp [Value.ownBlock] at hk; omega)
    obtain ⟨a3, cap3, rfl⟩ := own_form own3
    have OW : Hid _ := own3
    clear own3 grow3 at3 HR HB
    go_wp2
    go_ret
    exact ⟨_, _, rfl, OW.out, BE⟩
theorem enters_clone_is (args : Array Value) (wx : World) : (callFunc 47 args).run Try.prog wx = .ok (.enter 47 args) wx := enters_body Try.func47 (by kernel_rfl) rfl args wx

set_option maxHeartbeats 1000000 in
theorem clone_pcs (v : Value) (n : Nat) (xs : List Value) (w : World) (hv : Rw 12 w.heap.size w v n xs) (h1c : ∀ u ∈ xs, u.oneCell' = true) (hl : n * 136 ≤ 140737488355328) :
    Calls Try.prog 48 #[v] w fun e w' => ∃ a c, e = .returned (.slice a n c) ∧ w'.ownsRow w.heap.size 71 12 (.slice a n c) n xs ∧ Below w.heap.size w w' := by
  have HV := hv
  obtain ⟨-, a, cap, rfl, h1, h2, -⟩ := hv
  have q23 : ∀ (w : World) (a : Option Addr) (n c n' c' : Nat), (binOp .eql 44 (.slice a n c) (.slice none n' c')).run Try.prog w = .ok (.bool a.isNone) w := fun w a n c n' c' => Lib.run_eql_slice_nil w _ _ a n c n' c' Try.underlying44
  cases a with
  | none =>
    obtain ⟨rfl, rfl, rfl⟩ := HV.none0
    go_enter Try.func48, Try.ntmps48
    go_wp2
    go_ret
    exact ⟨none, 0, rfl, World.ownsRow_nil _ _ _ _, Below.refl _ _⟩
  | some ad =>
    have HB := fun o => box_below w o
    have HR := fun o => HV.below (box_below w o) (Nat.le_refl _)
    go_enter Try.func48, Try.ntmps48
    go_wp2_with (at_builtin; refine wpList_append_rw Try.underlying44 Try.infoPc rfl (by decide) _ rfl (.tmp 5) (.tmp 6) rfl w.heap.size (.slice (some ⟨w.heap.size, 0, none⟩) 0 0) 0 [] rfl (World.ownsRow_made w #[] 0 (Nat.le_refl _) (Nat.zero_le _) rfl) w.heap.size n xs _ rfl (HR _) h1c (by unfold maxLen; omega) (by omega) (by simp) ?_; intro v3 w3 own3 grow3 at3)
    rw [List.nil_append, Nat.zero_add] at own3
    have BE : Below w.heap.size w w3 := (HB _).grown grow3 (by simp) (by intro k hk; simp [Value.ownBlock] at hk; omega)
    obtain ⟨a3, cap3, rfl⟩ := own_form own3
    have OW : Hid _ := own3
    clear own3 grow3 at3 HR HB
    go_wp2
    go_ret
    exact ⟨_, _, rfl, OW.out, BE⟩
theorem enters_clone_pcs (args : Array Value) (wx : World) : (callFunc 48 args).run Try.prog wx = .ok (.enter 48 args) wx := enters_body Try.func48 (by kernel_rfl) rfl args wx

set_option maxHeartbeats 1000000 in
theorem clone_avs (v : Value) (n : Nat) (xs : List Value) (w : World) (hv : Rw 4 w.heap.size w v n xs) (h1c : ∀ u ∈ xs, u.oneCell' = true) (hl : n * 48 ≤ 140737488355328) :
    Calls Try.prog 49 #[v] w fun e w' => ∃ a c, e = .returned (.slice a n c) ∧ w'.ownsRow w.heap.size 59 4 (.slice a n c) n xs ∧ Below w.heap.size w w' := by
  have HV := hv
  obtain ⟨-, a, cap, rfl, h1, h2, -⟩ := hv
  have q23 : ∀ (w : World) (a : Option Addr) (n c n' c' : Nat), (binOp .eql 45 (.slice a n c) (.slice none n' c')).run Try.prog w = .ok (.bool a.isNone) w := fun w a n c n' c' => Lib.run_eql_slice_nil w _ _ a n c n' c' Try.underlying45
  cases a with
  | none =>
    obtain ⟨rfl, rfl, rfl⟩ := HV.none0
    go_enter Try.func49, Try.ntmps49
    go_wp2
    go_ret
    exact ⟨none, 0, rfl, World.ownsRow_nil _ _ _ _, Below.refl _ _⟩
  | some ad =>
    have HB := fun o => box_below w o
    have HR := fun o => HV.below (box_below w o) (Nat.le_refl _)
    go_enter Try.func49, Try.ntmps49
    go_wp2_with (at_builtin; refine wpList_append_rw Try.underlying45 Try.infoAv rfl (by decide) _ rfl (.tmp 5) (.tmp 6) rfl w.heap.size (.slice (some ⟨w.heap.size, 0, none⟩) 0 0) 0 [] rfl (World.ownsRow_made w #[] 0 (Nat.le_refl _) (Nat.zero_le _) rfl) w.heap.size n xs _ rfl (HR _) h1c (by unfold maxLen; omega) (by omega) (by simp) ?_; intro v3 w3 own3 grow3 at3)
    rw [List.nil_append, Nat.zero_add] at own3
    have BE : Below w.heap.size w w3 := (HB _).grown grow3 (by simp) (by intro k hk; simp [Value.ownBlock] at hk; omega)
    obtain ⟨a3, cap3, rfl⟩ := own_form own3
    have OW : Hid _ := own3
    clear own3 grow3 at3 HR HB
    go_wp2
    go_ret
    exact ⟨_, _, rfl, OW.out, BE⟩
theorem enters_clone_avs (args : Array Value) (wx : World) : (callFunc 49 args).run Try.prog wx = .ok (.enter 49 args) wx := enters_body Try.func49 (by kernel_rfl) rfl args wx

/-- Blocks that hold no rows. -/
def OutB (p t l : Value) (w : World) (k : Nat) : Prop := k < w.heap.size ∧ p.ownBlock ≠ some k ∧ t.ownBlock ≠ some k ∧ l.ownBlock ≠ some k
/-- A receiver's rows, of the call's own; what they hold lies in blocks of V, and in no row. -/
structure RvB (V : Nat → Prop) (base : Nat) (w : World) (x : Rc) (s p t l : Value) : Prop where
  sp : Sl w.heap.size w s x.spans
  si : InS (fun k => V k ∧ OutB p t l w k) s
  pc : PcRow (fun k => V k ∧ OutB p t l w k) base w p x.pieces
  tn : w.ownsRow base 3 1 t x.turn.length (cellsI x.turn)
  ti : IsI x.turn
  lg : AvRow (fun k => V k ∧ OutB p t l w k) base w l x.log
  pt : ∀ k, p.ownBlock = some k → t.ownBlock ≠ some k
  pl : ∀ k, p.ownBlock = some k → l.ownBlock ≠ some k
  tl : ∀ k, t.ownBlock = some k → l.ownBlock ≠ some k
section
variable {V : Nat → Prop} {base : Nat} {w w1 : World} {x : Rc} {s p t l : Value}
theorem RvB.form (h : RvB V base w x s p t l) : ∃ sa sc pa pc ta tc la lc, s = .slice sa x.spans.length sc ∧ p = .slice pa x.pieces.length pc ∧ t = .slice ta x.turn.length tc ∧ l = .slice la x.log.length lc := by
  obtain ⟨sa, sc, e1⟩ := h.sp.ex
  obtain ⟨pa, pc, e2⟩ := h.pc.form
  obtain ⟨ta, tc, e3⟩ := own_form h.tn
  obtain ⟨la, lc, e4⟩ := h.lg.form
  exact ⟨sa, sc, pa, pc, ta, tc, la, lc, e1, e2, e3, e4⟩
theorem OutB.mono {k : Nat} (h : OutB p t l w k) (hs : w.heap.size ≤ w1.heap.size) : OutB p t l w1 k := ⟨Nat.lt_of_lt_of_le h.1 hs, h.2⟩
/-- Where blocks of V, and its rows, are as they were. -/
theorem RvB.keep (h : RvB V base w x s p t l) (kp : Keep (fun k => k < w.heap.size ∧ (V k ∨ p.ownBlock = some k ∨ t.ownBlock = some k ∨ l.ownBlock = some k)) w w1) : RvB V base w1 x s p t l := by
  have kO : Keep (fun k => V k ∧ OutB p t l w k) w w1 := kp.mono fun k hk => ⟨hk.2.1, .inl hk.1⟩
  have mo : ∀ k, V k ∧ OutB p t l w k → V k ∧ OutB p t l w1 k := fun k hk => ⟨hk.1, hk.2.mono kp.size⟩
  exact ⟨h.sp.keepS h.si kO, h.si.mono mo, GRow.mono PcI.holds (GRow.keep PcI.holds h.pc kO fun k hk => kp.block k ⟨(h.pc.lt hk).2, .inr (.inl hk)⟩) mo, own_of_block h.tn fun k hk => kp.block k ⟨(h.tn.lt k hk).2, .inr (.inr (.inl hk))⟩, h.ti, GRow.mono AvI.holds (GRow.keep AvI.holds h.lg kO fun k hk => kp.block k ⟨(h.lg.lt hk).2, .inr (.inr (.inr hk))⟩) mo, h.pt, h.pl, h.tl⟩
theorem RvB.below (h : RvB V base w x s p t l) (hb : Below w.heap.size w w1) : RvB V base w1 x s p t l := h.keep (toKeep hb fun _ hk => hk.1)
/-- Its pieces were written to, in their row. -/
theorem RvB.inP (h : RvB V base w x s p t l) {L : List Pc} (k1 : Keep (fun k => k < w.heap.size ∧ p.ownBlock ≠ some k) w w1) (row : PcRow (fun k => V k ∧ OutB p t l w1 k) base w1 p L) : RvB V base w1 { x with pieces := L } s p t l := by
  have kO : Keep (fun k => V k ∧ OutB p t l w k) w w1 := k1.mono fun k hk => ⟨hk.2.1, hk.2.2.1⟩
  have mo : ∀ k, V k ∧ OutB p t l w k → V k ∧ OutB p t l w1 k := fun k hk => ⟨hk.1, hk.2.mono k1.size⟩
  exact ⟨h.sp.keepS h.si kO, h.si.mono mo, row, own_of_block h.tn fun k hk => k1.block k ⟨(h.tn.lt k hk).2, fun e => h.pt k e hk⟩, h.ti, GRow.mono AvI.holds (GRow.keep AvI.holds h.lg kO fun k hk => k1.block k ⟨(h.lg.lt hk).2, fun e => h.pl k e hk⟩) mo, h.pt, h.pl, h.tl⟩
/-- Its log was written to, in its row. -/
theorem RvB.inL (h : RvB V base w x s p t l) {L : List Av} (k1 : Keep (fun k => k < w.heap.size ∧ l.ownBlock ≠ some k) w w1) (row : AvRow (fun k => V k ∧ OutB p t l w1 k) base w1 l L) : RvB V base w1 { x with log := L } s p t l := by
  have kO : Keep (fun k => V k ∧ OutB p t l w k) w w1 := k1.mono fun k hk => ⟨hk.2.1, hk.2.2.2.2⟩
  have mo : ∀ k, V k ∧ OutB p t l w k → V k ∧ OutB p t l w1 k := fun k hk => ⟨hk.1, hk.2.mono k1.size⟩
  exact ⟨h.sp.keepS h.si kO, h.si.mono mo, GRow.mono PcI.holds (GRow.keep PcI.holds h.pc kO fun k hk => k1.block k ⟨(h.pc.lt hk).2, h.pl k hk⟩) mo, own_of_block h.tn fun k hk => k1.block k ⟨(h.tn.lt k hk).2, h.tl k hk⟩, h.ti, row, h.pt, h.pl, h.tl⟩
/-- It is laid into a box that is no block of V, nor a row. -/
theorem RvB.toM (h : RvB V base w x s p t l) {E : Nat → Prop} {base' R : Nat} {zs : List Value} (hz : Cells R w zs) (hzl : zs.length = 12) (hV : ¬ V R) (hR : R < base) (hRw : R < w.heap.size) (hb : base' ≤ R) (hE : ∀ k, E k → k < base ∧ k < w.heap.size ∧ k ≠ R) (hVE : ∀ k, V k → ¬ E k) : RvM E base' (w.setCells R 0 [.int .i64 x.cf.streams, .int .i64 x.cf.part, .int .i64 x.cf.packet, .int .i64 x.cf.paths, .int .i64 x.cf.turns, .int .i64 x.cf.waiting, .int .i64 x.cf.first, .int .i64 x.cum, s, p, t, l]) R x s p t l := by
  have nR : ∀ {v : Value}, (∀ k, v.ownBlock = some k → base ≤ k) → v.ownBlock ≠ some R := fun h e => by have := h R e; omega
  have pR : p.ownBlock ≠ some R := nR fun k hk => (h.pc.lt hk).1
  have tR : t.ownBlock ≠ some R := nR fun k hk => (h.tn.lt k hk).1
  have lR : l.ownBlock ≠ some R := nR fun k hk => (h.lg.lt hk).1
  have kR : Keep (fun k => k ≠ R) w (w.setCells R 0 [.int .i64 x.cf.streams, .int .i64 x.cf.part, .int .i64 x.cf.packet, .int .i64 x.cf.paths, .int .i64 x.cf.turns, .int .i64 x.cf.waiting, .int .i64 x.cf.first, .int .i64 x.cum, s, p, t, l]) := Keep.setCells (fun h => h rfl) _ _ (Keep.refl _ _)
  have h1 := h.keep (kR.mono fun _ hk e => by
    subst e
    rcases hk.2 with g | g | g | g
    · exact hV g
    · exact pR g
    · exact tR g
    · exact lR g)
  have mo : ∀ k, V k ∧ OutB p t l (w.setCells R 0 [.int .i64 x.cf.streams, .int .i64 x.cf.part, .int .i64 x.cf.packet, .int .i64 x.cf.paths, .int .i64 x.cf.turns, .int .i64 x.cf.waiting, .int .i64 x.cf.first, .int .i64 x.cum, s, p, t, l]) k → OutR E R p t l (w.setCells R 0 [.int .i64 x.cf.streams, .int .i64 x.cf.part, .int .i64 x.cf.packet, .int .i64 x.cf.paths, .int .i64 x.cf.turns, .int .i64 x.cf.waiting, .int .i64 x.cf.first, .int .i64 x.cum, s, p, t, l]) k := fun k hk => ⟨⟨hk.2.1, fun e => hV (e ▸ hk.1), hk.2.2.1, hk.2.2.2.1, hk.2.2.2.2⟩, hVE k hk.1⟩
  exact ⟨hz.setAll _ (by simp [hzl]), hb, by rw [size_setCells]; exact hRw, h1.sp, h1.si.mono mo, GRow.mono PcI.holds (by obtain ⟨vs, a, b⟩ := h1.pc; exact ⟨vs, a, own_low b (by omega)⟩) mo, own_low h1.tn (by omega), h1.ti, GRow.mono AvI.holds (by obtain ⟨vs, a, b⟩ := h1.lg; exact ⟨vs, a, own_low b (by omega)⟩) mo, pR, tR, lR, h1.pt, h1.pl, h1.tl, fun k hk => ⟨by rw [size_setCells]; exact (hE k hk).2.1, (hE k hk).2.2, fun e => by have := (h.pc.lt e).1; have := (hE k hk).1; omega, fun e => by have := (h.tn.lt k e).1; have := (hE k hk).1; omega, fun e => by have := (h.lg.lt e).1; have := (hE k hk).1; omega⟩⟩
/-- As it is read. -/
theorem RvB.rvs (h : RvB V base w x s p t l) : RvS w.heap.size w x s p t l := ⟨h.sp, h.pc.s, In.own h.tn rfl h.ti, h.lg.s⟩
end
theorem setCell_id {w : World} {b j : Nat} {v : Value} (h : w.cell? ⟨b, j, none⟩ = some v) : w.setCell ⟨b, j, none⟩ v = w := by
  unfold World.setCell
  have e : w.heap.modify b (fun
      | .cells c elem frozen => .cells (if (none : Option Nat).isSome then c else c.setIfInBounds j v) elem frozen
      | o => o) = w.heap := by
    apply Array.ext_getElem?
    intro k
    rw [Array.getElem?_modify]
    split
    · rename_i hk
      subst hk
      cases ho : w.heap[b]? with
      | none => rfl
      | some o =>
        cases o with
        | cells c t f =>
          have hc : c[j]? = some v := by simpa [World.cell?, ho] using h
          have : c.setIfInBounds j v = c := by
            apply Array.ext_getElem?
            intro i
            rw [Array.getElem?_setIfInBounds]
            split
            · rename_i hi
              subst hi
              split
              · exact hc.symm
              · rename_i h2
                rw [Array.getElem?_eq_none (by omega)]
            · rfl
          simp [this]
        | _ => rfl
    · rfl
  show { w with heap := w.heap.modify b _ } = w
  exact congrArg (fun x => { w with heap := x }) e
end Go.Proofs.Ytnddejdndipddad
