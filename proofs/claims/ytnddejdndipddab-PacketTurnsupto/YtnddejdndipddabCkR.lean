/- Forwards, read. -/
import Derived.Test.YtnddejdndipddabCkQ
set_option maxRecDepth 20000
namespace Go.Proofs.Ytnddejdndipddab
open Go.RowKit

def skipN (bs : List Int) (k : Nat) : Sk := ⟨bs.getD k 0, be bs (k + 2), decide (bs.getD (k + 1) 0 = 1)⟩
def skipsN (bs : List Int) (i : Nat) : List Sk := (List.range i).map fun j => skipN bs (2 + 4 * j)
theorem skipsN_len (bs : List Int) (i : Nat) : (skipsN bs i).length = i := by simp [skipsN]
theorem skipsN_succ (bs : List Int) (i : Nat) : skipsN bs (i + 1) = skipsN bs i ++ [skipN bs (2 + 4 * i)] := by simp [skipsN, List.range_succ]
theorem skipsM_eq (l : List Int) : ∀ n, l.length = 4 * n → skipsM l = (List.range n).map fun j => skipN l (4 * j) := by
  intro n
  induction n generalizing l with
  | zero => intro h; have := List.eq_nil_of_length_eq_zero h; subst this; rfl
  | succ n ih =>
    intro h
    match l, h with
    | a :: b :: c :: d :: r, h =>
      have hr : r.length = 4 * n := by simp at h; omega
      rw [skipsM, ih r hr, List.range_succ_eq_map, List.map_cons, List.map_map]
      congr 1
theorem skipN_drop (bs : List Int) (d i : Nat) : skipN (bs.drop d) i = skipN bs (d + i) := by
  simp only [skipN, be_drop, List.getD_eq_getElem?_getD, List.getElem?_drop, Nat.add_assoc]
theorem skipsN_eq (bs : List Int) (n : Nat) (h : bs.length = 2 + 4 * n) : skipsM (bs.drop 2) = skipsN bs n := by
  rw [skipsM_eq (bs.drop 2) n (by simp; omega), skipsN]
  apply List.map_congr_left
  intro j _
  rw [skipN_drop]
theorem flagsOk_step (bs : List Int) (k : Nat) (h : k + 3 < bs.length) : flagsOk (bs.drop k) = (decide (bs.getD (k + 1) 0 ≤ 1) && flagsOk (bs.drop (k + 4))) := by
  rw [List.drop_eq_getElem_cons (by omega), List.drop_eq_getElem_cons (by omega), List.drop_eq_getElem_cons (by omega), List.drop_eq_getElem_cons (by omega), flagsOk]
  simp [show k + 1 < bs.length by omega]
theorem flagsOk_end (bs : List Int) (k : Nat) (h : bs.length ≤ k) : flagsOk (bs.drop k) = true := by
  rw [List.drop_eq_nil_of_le h]; rfl

/-- How it stands behind i skips. -/
structure FwdR (w : World) (v : Value) (bs : List Int) (i : Nat) (av : Option Addr) (cv : Nat) (wr : World) : Prop where
  rd : Rd (w.heap.size + 1) wr v bs (2 + 4 * i)
  ch : Cells (w.heap.size + 4) wr [.int .i64 3, .int .i64 (be bs 0), .int .i64 0, .int .i64 0, .int .i64 0, .bool false, .bool false, .slice none 0 0, .slice none 0 0, .int .i64 0, .slice av i cv]
  own : wr.ownsRow (w.heap.size + 5) 89 3 (.slice av i cv) i (cellsK (skipsN bs i))
  z : Cells w.heap.size wr zeroL
  bel : Below w.heap.size w wr

theorem Try.info89 : (Try.prog.info? 89).map (fun i => (i.zero, i.size, i.bytes)) = some (some (.agg #[.int .i64 0, .int .i64 0, .bool false]), 3, 24) := by kernel_rfl

/-- The blocks of a round that stay. -/
def SF (w wr : World) : Nat → Prop := fun k => k ≠ w.heap.size + 3 ∧ k < wr.heap.size

theorem fwd_step {w wr w2 : World} {v : Value} {bs : List Int} {i : Nat} {av : Option Addr} {cv : Nat} (h : FwdR w v bs i av cv wr) (kp : Keep (SF w wr) wr w2) (rd : Rd (w.heap.size + 1) w2 v bs (2 + 4 * i + 4)) :
    ∀ o, (w2.alloc o).ownsRow (w.heap.size + 5) 89 3 (.slice av i cv) i (cellsK (skipsN bs i)) ∧ w.heap.size + 5 ≤ (w2.alloc o).heap.size ∧
      ∀ v' w4, w4.ownsRow (w.heap.size + 5) 89 3 v' (i + 1) (cellsK (skipsN bs i) ++ cellsK [skipN bs (2 + 4 * i)]) → (w2.alloc o).grownBy w4 (Value.slice av i cv).ownBlock →
        ∃ a4 c4, v' = .slice a4 (i + 1) c4 ∧ w4.cell? ⟨w.heap.size + 4, 10, none⟩ = some (.slice av i cv) ∧ w4.frozen? ⟨w.heap.size + 4, 10, none⟩ = false ∧ FwdR w v bs (i + 1) a4 c4 (w4.setCell ⟨w.heap.size + 4, 10, none⟩ (.slice a4 (i + 1) c4)) := by
  intro o
  have hXr : w.heap.size + 4 < wr.heap.size := by have := World.block_lt_of_cell? _ _ (h.ch.cell 0 _ rfl); simpa using this
  have hX : w.heap.size + 4 < w2.heap.size := by have := kp.size; omega
  have own2 : w2.ownsRow (w.heap.size + 5) 89 3 (.slice av i cv) i (cellsK (skipsN bs i)) := own_of_block h.own fun k hk => kp.block k (by have := h.own.lt k hk; unfold SF; omega)
  refine ⟨own2.alloc o, by simp; omega, fun v' w4 o4 g4 => ?_⟩
  obtain ⟨a4, c4, rfl⟩ := own_form o4
  have hrow : ∀ k, (Value.slice av i cv).ownBlock = some k → w.heap.size + 5 ≤ k := fun k hk => (h.own.lt k hk).1
  have kp2 : Keep (fun k => k < w.heap.size + 5) w2 w4 := ((Keep.refl _ w2).alloc (fun k hk => by omega) o).grown g4 (fun k hk => by simp; omega) (fun k hk => by have := hrow k hk; omega)
  have ch2 := (h.ch.keep kp (by unfold SF; omega)).keep kp2 (by omega)
  have z2 := (h.z.keep kp (by unfold SF; omega)).keep kp2 (by omega)
  have rd4 := rd.keep kp2 (fun j hj => by omega)
  have kp5 : Keep (fun k => k ≠ w.heap.size + 4) w4 (w4.setCell ⟨w.heap.size + 4, 10, none⟩ (.slice a4 (i + 1) c4)) := (Keep.refl _ w4).setCell (by simp) _
  refine ⟨a4, c4, rfl, ch2.cell 10 _ rfl, ch2.fz 10, ⟨?_, ?_, ?_, ?_, ?_⟩⟩
  · have := rd4.keep kp5 (fun j hj => by omega)
    rw [show 2 + 4 * (i + 1) = 2 + 4 * i + 4 by omega]
    exact this
  · exact ch2.set 10 _ (by simp)
  · rw [skipsN_succ, cellsK_append]
    exact own_of_block o4 fun k hk => kp5.block k (by have := (o4.lt k hk).1; omega)
  · exact z2.keep kp5 (by omega)
  · exact h.bel.trans (((kp.below (B := w.heap.size) (fun k hk => by unfold SF; omega)).trans (kp2.below (B := w.heap.size) (fun k hk => by omega))).trans (kp5.below fun k hk => by omega))

theorem Rw.lit3 (w : World) (u x y : Value) (t : TypeId) : Rw 3 (w.heap.size + 1) (w.alloc (.cells #[u, x, y] t)) (.slice (some ⟨w.heap.size, 0, none⟩) 1 1) 1 [u, x, y] := by
  refine ⟨rfl, some ⟨w.heap.size, 0, none⟩, 1, rfl, Nat.le_refl _, by omega, fun h => by simp at h, fun _ => ⟨w.heap.size, 0, rfl, by omega, fun j q hq => ?_⟩⟩
  match j, hq with
  | 0, hq => simp at hq; subst hq; rw [World.cell?_alloc_at _ _ _ _ rfl]; rfl
  | 1, hq => simp at hq; subst hq; rw [World.cell?_alloc_at _ _ _ _ rfl]; rfl
  | 2, hq => simp at hq; subst hq; rw [World.cell?_alloc_at _ _ _ _ rfl]; rfl

set_option maxHeartbeats 1000000 in
theorem readForward_any (v : Value) (bs : List Int) (w : World) (hv : By w.heap.size w v bs) (hl : bs.length ≤ 255) :
    Calls Try.prog 71 #[v] w fun e w' => ∃ c d s k, IsSl d ∧ IsSl s ∧ IsSl k ∧ e = .returned (.tuple #[ckVal c d s k, .bool (formF bs)]) ∧ (formF bs = true → CkOwn w.heap.size w' (ckVal c d s k) (forwardM bs)) ∧ Below w.heap.size w w' := by
  have hv' := hv
  obtain ⟨a, cap, rfl, h1, h2⟩ := hv.ex
  have HB := fun o => box_below w o
  cases hf : decide (2 ≤ bs.length ∧ (bs.length - 2) % 4 = 0) with
  | false =>
    have HF : Hid (formF bs = false) := by show _ = _; rw [formF, hf]; rfl
    have hwh : decide ((2 : Int) ≤ (bs.length : Int) ∧ ((bs.length : Int) - 2) % 4 = 0) = false := by rw [← hf, decide_eq_decide]; omega
    clear hv hf
    go_enter Try.func71, Try.ntmps71
    go_wp2_with (go_at_call 78; refine (whole_any _ _ _ _ (by omega) (by omega) (by omega) (by omega) rfl).mono ?_; rintro e w' ⟨rfl, rfl⟩; rw [hwh])
    refine bodyPost_ret_by (results_cell2 rfl _ _ _ ⟨w.heap.size, 0, none⟩ zeroV rfl ?_) rfl ?_
    · go_simp
      rfl
    · rw [HF.out]
      exact ⟨Ck.zero, _, _, _, isl, isl, isl, rfl, (fun h => absurd h (by decide)), HB _⟩
  | true =>
    have hf4 : 2 ≤ bs.length ∧ (bs.length - 2) % 4 = 0 := by simpa using hf
    obtain ⟨n, hn⟩ : ∃ n, bs.length = 2 + 4 * n := ⟨(bs.length - 2) / 4, by omega⟩
    have HF : Hid (formF bs = flagsOk (bs.drop 2)) := by show _ = _; rw [formF, hf]; rfl
    have HBy : ∀ wx, Below w.heap.size w wx → By w.heap.size wx (.slice a bs.length cap) bs := fun wx hx => hv'.below hx (Nat.le_refl _)
    have HN : Hid (bs.length = 2 + 4 * n) := hn
    have hq : ((bs.length : Int) - 2).tdiv 4 = (n : Int) := by rw [hn, Int.tdiv_eq_ediv_of_nonneg (by omega)]; omega
    have hn4 : 2 ≤ bs.length := hf4.1
    have hnl : n ≤ 63 := by omega
    have hwh : decide ((2 : Int) ≤ (bs.length : Int) ∧ ((bs.length : Int) - 2) % 4 = 0) = true := by rw [← hf, decide_eq_decide]; omega
    clear hv hf4 hn hf
    go_enter Try.func71, Try.ntmps71
    go_wp2_with (first | (go_at_call 78; refine (whole_any _ _ _ _ (by omega) (by omega) (by omega) (by omega) rfl).mono ?_; rintro e w' ⟨rfl, rfl⟩; rw [hwh]) | (go_at_call 77; refine (numbers_any _ _ a bs.length cap rfl).mono ?_; rintro e w' ⟨rfl, rfl⟩))
    refine (twoX (w.heap.size + 1) (w.heap.size + 1 + 1) (w.heap.size + 1 + 1 + 1) w.heap.size (.slice a bs.length cap) bs 0 _ (by go_simp) (by go_simp) (by go_simp) (by go_simp) (HBy _ (by repeat (first | exact Below.refl _ _ | refine Below.alloc ?_ (by simp <;> omega) _))) (by omega) (by omega) (by omega) (by omega)).mono ?_
    rintro e w' ⟨rfl, rfl⟩
    clear hwh
    go_wp2
    have S0 : FwdR w (.slice a bs.length cap) bs 0 none 0 (((((w.alloc (.cells #[.int .i64 0, .int .i64 0, .int .i64 0, .int .i64 0, .int .i64 0, .bool false, .bool false, .slice none 0 0, .slice none 0 0, .int .i64 0, .slice none 0 0] 45)).alloc (.cells #[.slice a bs.length cap] 23)).alloc (.cells #[oneR (w.heap.size + 1)] 96)).alloc (.cells #[.int .i64 2] 3)).alloc
        (.cells #[.int .i64 3, .int .i64 (be bs 0), .int .i64 0, .int .i64 0, .int .i64 0, .bool false, .bool false, .slice none 0 0, .slice none 0 0, .int .i64 0, .slice none 0 0] 45)) := by
      refine ⟨⟨by go_simp, by go_simp, by go_simp, by go_simp, (HBy _ (by repeat (first | exact Below.refl _ _ | refine Below.alloc ?_ (by simp <;> omega) _))).mono (by omega), by omega⟩, ?_, World.ownsRow_nil _ _ _ _, ?_, by repeat (first | exact Below.refl _ _ | refine Below.alloc ?_ (by simp <;> omega) _)⟩
      · exact Cells.new' _ _ (by simp)
      · exact ((((Cells.new w _ _).alloc (by simp) _).alloc (by simp; omega) _).alloc (by simp; omega) _).alloc (by simp; omega) _
    go_loopw [26] (fun i wr => ∃ (j : Nat) (av : Option Addr) (cv : Nat), j ≤ n ∧ i = .int .i64 j ∧ FwdR w (.slice a bs.length cap) bs j av cv wr ∧ Hid (flagsOk (bs.drop 2) = flagsOk (bs.drop (2 + 4 * j)))) (fun i _ => n - (intOf i).toNat)
    case atStart => exact ⟨0, none, 0, Nat.zero_le _, rfl, S0, rfl⟩
    case round =>
      obtain ⟨j, av, cv, hj, rfl, R, HFO⟩ := hrel
      by_cases hlt : j < n
      · have hk1 : 2 + 4 * j + 3 < bs.length := by have := HN.out; omega
        clear S0
        have hXr : w.heap.size + 4 < wr.heap.size := by have := World.block_lt_of_cell? _ _ (R.ch.cell 0 _ rfl); simpa using this
        obtain ⟨x0, hx0⟩ : ∃ x, x = bs.getD (2 + 4 * j) 0 := ⟨_, rfl⟩
        obtain ⟨f, hff⟩ : ∃ x, x = bs.getD (2 + 4 * j + 1) 0 := ⟨_, rfl⟩
        obtain ⟨x1, hx1⟩ : ∃ x, x = be bs (2 + 4 * j + 2) := ⟨_, rfl⟩
        have HSk : Hid (cellsK [skipN bs (2 + 4 * j)] = [.int .i64 x0, .int .i64 x1, .bool (f == 1)]) := by
          show _ = _
          rw [hx0, hff, hx1]
          rfl
        have HST : Hid (flagsOk (bs.drop 2) = (decide (f ≤ 1) && flagsOk (bs.drop (2 + 4 * (j + 1))))) := by
          show _ = _
          rw [HFO.out, flagsOk_step bs _ hk1, hff, show 2 + 4 * j + 4 = 2 + 4 * (j + 1) by omega]
        have hY : ∀ (w1 : World), Keep (SR (w.heap.size + 1)) wr w1 → w.heap.size + 4 < w1.heap.size := fun w1 kp => Nat.lt_of_lt_of_le hXr kp.size
        have O1 := oneR_any (w.heap.size + 1) (.slice a bs.length cap) bs (2 + 4 * j) _ R.rd (by omega)
        rw [← hx0] at O1
        clear hx0
        go_wp2_with fail
        refine O1.mono ?_
        rintro e w1 ⟨rfl, rd1, kp1⟩
        have hY1 := hY w1 kp1
        clear O1 hY
        have O2 := fun o => oneR_any (w.heap.size + 1) (.slice a bs.length cap) bs (2 + 4 * j + 1) (w1.alloc o) (rd1.below (box_below w1 o) rd1.lt) (by omega)
        rw [← hff] at O2
        clear hff
        go_wp2_with fail
        refine (O2 _).mono ?_
        rintro e w2 ⟨rfl, rd2, kp2⟩
        clear O2
        have CY := (Cells.new w1 #[.int .i64 x0, .int .i64 0, .bool false] 89).keep kp2 (by unfold SR; omega)
        have kpA : Keep (SF w wr) wr w2 := ((kp1.mono (S' := SF w wr) fun k hk => by unfold SF at hk; unfold SR; omega).alloc (fun k hk => by unfold SF at hk; have := kp1.size; omega) _).trans (kp2.mono fun k hk => by unfold SF at hk; unfold SR; omega)
        have hs2 : w1.heap.size < w2.heap.size := by have := kp2.size; simp at this; omega
        by_cases g : 1 < f
        · have HFF : Hid (formF bs = false) := by
            show _ = _
            rw [HF.out, HST.out, decide_eq_false (by omega)]
            rfl
          have ZC := R.z.keep kpA (by unfold SF; omega)
          have B2 : Below w.heap.size w w2 := R.bel.trans (kpA.below fun k hk => by unfold SF; omega)
          have z0 := ZC.cell 0 _ rfl
          have g0 := ZC.fz 0
          have z1 := ZC.cell 1 _ rfl
          have g1 := ZC.fz 1
          have z2 := ZC.cell 2 _ rfl
          have g2 := ZC.fz 2
          have z3 := ZC.cell 3 _ rfl
          have g3 := ZC.fz 3
          have z4 := ZC.cell 4 _ rfl
          have g4 := ZC.fz 4
          have z5 := ZC.cell 5 _ rfl
          have g5 := ZC.fz 5
          have z6 := ZC.cell 6 _ rfl
          have g6 := ZC.fz 6
          have z7 := ZC.cell 7 _ rfl
          have g7 := ZC.fz 7
          have z8 := ZC.cell 8 _ rfl
          have g8 := ZC.fz 8
          have z9 := ZC.cell 9 _ rfl
          have g9 := ZC.fz 9
          have z10 := ZC.cell 10 _ rfl
          have g10 := ZC.fz 10
          clear CY ZC
          go_wp2_with fail
          refine bodyPost_ret_by (results_cell2 rfl _ _ _ ⟨w.heap.size, 0, none⟩ zeroV rfl ?_) rfl ?_
          · go_simp
            rfl
          rw [HFF.out]
          refine ⟨Ck.zero, _, _, _, isl, isl, isl, rfl, (fun h => absurd h (by decide)), ?_⟩
          repeat refine Below.setCell ?_ (by simp) _
          exact B2
        · have HFO2 : Hid (flagsOk (bs.drop 2) = flagsOk (bs.drop (2 + 4 * (j + 1)))) := by
            show _ = _
            rw [HST.out, decide_eq_true (by omega)]
            rfl
          have y2 := CY.cell 2 _ rfl
          have gy2 := CY.fz 2
          have kpB : Keep (fun k => k ≠ w1.heap.size) w2 (w2.setCell ⟨w1.heap.size, 2, none⟩ (.bool (f == 1))) := (Keep.refl _ w2).setCell (by simp) _
          have CYB : Cells w1.heap.size (w2.setCell ⟨w1.heap.size, 2, none⟩ (.bool (f == 1))) [.int .i64 x0, .int .i64 0, .bool (f == 1)] := CY.set 2 _ (by simp)
          have O3 := twoR_any (w.heap.size + 1) (.slice a bs.length cap) bs (2 + 4 * j + 2) _ (rd2.keep kpB fun k hk => by omega) (by omega)
          rw [← hx1] at O3
          clear hx1
          go_wp2_with fail
          refine O3.mono ?_
          rintro e w3 ⟨rfl, rd3, kp3⟩
          have CY3 := CYB.keep kp3 (by unfold SR; omega)
          have kpC : Keep (SF w wr) wr w3 := (kpA.trans (kpB.mono fun k hk => by unfold SF at hk; have := kp1.size; omega)).trans (kp3.mono fun k hk => by unfold SF at hk; unfold SR; omega)
          have kpD : Keep (fun k => k ≠ w1.heap.size) w3 (w3.setCell ⟨w1.heap.size, 1, none⟩ (.int .i64 x1)) := (Keep.refl _ w3).setCell (by simp) _
          have kpE : Keep (SF w wr) wr (w3.setCell ⟨w1.heap.size, 1, none⟩ (.int .i64 x1)) := kpC.trans (kpD.mono fun k hk => by unfold SF at hk; have := kp1.size; omega)
          have CYE : Cells w1.heap.size (w3.setCell ⟨w1.heap.size, 1, none⟩ (.int .i64 x1)) [.int .i64 x0, .int .i64 x1, .bool (f == 1)] := CY3.set 1 _ (by simp)
          have ST := fwd_step R kpE (rd3.keep kpD fun k hk => by omega)
          rw [HSk.out] at ST
          have y1 := CY3.cell 1 _ rfl
          have gy1 := CY3.fz 1
          have e0 := CYE.cell 0 _ rfl
          have e1 := CYE.cell 1 _ rfl
          have e2 := CYE.cell 2 _ rfl
          have l10 := (R.ch.keep kpE (by unfold SF; omega)).cell 10 _ rfl
          clear O3 CY CYB CY3 CYE y2 gy2 rd1 rd2 rd3 kp1 kp2 kp3 kpA kpB kpC kpD kpE HSk
          have HONE : ∀ u ∈ [Value.int .i64 x0, .int .i64 x1, .bool (f == 1)], u.oneCell' = true := by intro u hu; simp only [List.mem_cons, List.not_mem_nil, or_false] at hu; rcases hu with rfl | rfl | rfl <;> rfl
          have HL3 := Rw.lit3 (w3.setCell ⟨w1.heap.size, 1, none⟩ (.int .i64 x1)) (.int .i64 x0) (.int .i64 x1) (.bool (f == 1)) 89
          rw [show (w3.setCell ⟨w1.heap.size, 1, none⟩ (.int .i64 x1)).heap.size = w3.heap.size by simp [World.setCell]] at HL3
          go_wp2_with (at_builtin; (refine wpList_append_rw Try.underlying43 Try.info89 rfl (by decide) _ rfl (.tmp 43) (.tmp 45) rfl (w.heap.size + 5) (.slice av j cv) j (cellsK (skipsN bs j)) rfl (ST _).1 (w3.heap.size + 1) 1 [.int .i64 x0, .int .i64 x1, .bool (f == 1)] _ rfl HL3 HONE (by unfold maxLen; omega) (by omega) (ST _).2.1 ?_; intro v' w5 o5 g5 _; obtain ⟨a4, c4, rfl, c8, f8, R4⟩ := (ST _).2.2 v' w5 o5 g5; clear o5 g5))
          go_roundw
          case rel => exact ⟨j + 1, a4, c4, by omega, by go_num, R4, HFO2⟩
          case measure => simp [intOf]; omega
      · have hjn : j = n := by omega
        subst hjn
        have HFF : Hid (formF bs = true) := by
          show _ = _
          rw [HF.out, HFO.out, flagsOk_end bs _ (by have := HN.out; omega)]
        have x0 := R.ch.cell 0 _ rfl
        have z0 := R.z.cell 0 _ rfl
        have g0 := R.z.fz 0
        have x1 := R.ch.cell 1 _ rfl
        have z1 := R.z.cell 1 _ rfl
        have g1 := R.z.fz 1
        have x2 := R.ch.cell 2 _ rfl
        have z2 := R.z.cell 2 _ rfl
        have g2 := R.z.fz 2
        have x3 := R.ch.cell 3 _ rfl
        have z3 := R.z.cell 3 _ rfl
        have g3 := R.z.fz 3
        have x4 := R.ch.cell 4 _ rfl
        have z4 := R.z.cell 4 _ rfl
        have g4 := R.z.fz 4
        have x5 := R.ch.cell 5 _ rfl
        have z5 := R.z.cell 5 _ rfl
        have g5 := R.z.fz 5
        have x6 := R.ch.cell 6 _ rfl
        have z6 := R.z.cell 6 _ rfl
        have g6 := R.z.fz 6
        have x7 := R.ch.cell 7 _ rfl
        have z7 := R.z.cell 7 _ rfl
        have g7 := R.z.fz 7
        have x8 := R.ch.cell 8 _ rfl
        have z8 := R.z.cell 8 _ rfl
        have g8 := R.z.fz 8
        have x9 := R.ch.cell 9 _ rfl
        have z9 := R.z.cell 9 _ rfl
        have g9 := R.z.fz 9
        have x10 := R.ch.cell 10 _ rfl
        have z10 := R.z.cell 10 _ rfl
        have g10 := R.z.fz 10
        clear S0
        have HS : Hid (forwardM bs = ⟨3, be bs 0, 0, 0, 0, false, false, [], [], 0, skipsN bs j⟩) := by show _ = _; rw [forwardM, skipsN_eq bs j HN.out]
        go_wp2_with fail
        refine bodyPost_ret_by (results_cell2 rfl _ _ _ ⟨w.heap.size, 0, none⟩ (ckVal ⟨3, be bs 0, 0, 0, 0, false, false, [], [], 0, skipsN bs j⟩ (.slice none 0 0) (.slice none 0 0) (.slice av j cv)) rfl ?_) rfl ?_
        · go_simp
          rfl
        rw [HFF.out]
        refine ⟨⟨3, be bs 0, 0, 0, 0, false, false, [], [], 0, skipsN bs j⟩, _, _, _, isl, isl, isl, rfl, fun _ => ?_, ?_⟩
        · rw [HS.out]
          refine ⟨_, _, _, rfl, World.ownsRow_nil _ _ _ _, World.ownsRow_nil _ _ _ _, ?_, fun z hz => by simp at hz, fun z hz => by simp at hz⟩
          dsimp only
          rw [skipsN_len]
          refine own_low (own_of_block R.own fun k hk => ?_) (by omega)
          have hk5 := (R.own.lt k hk).1
          refine Keep.block (S := fun j => j ≠ w.heap.size) ?_ k (by omega)
          repeat refine Keep.setCell ?_ (by simp) _
          exact Keep.refl _ _
        · repeat refine Below.setCell ?_ (by simp) _
          exact R.bel
end Go.Proofs.Ytnddejdndipddab
