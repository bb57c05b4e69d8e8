/- The contract of score's miss. -/
import Derived.Test.YtnddejdndipddacSoH
set_option maxRecDepth 20000
namespace Go.Proofs.Ytnddejdndipddac
open Go.RowKit

theorem int_app {wr : World} {base k : Nat} {a : Option Addr} {c : Nat} {xs : List Int} {z : Int} (own : wr.ownsRow base 3 1 (.slice a k c) k (cellsI xs)) (hb : base ≤ wr.heap.size) (o : Obj) {v' : Value} {w' : World}
    (ho : w'.ownsRow base 3 1 v' (k + 1) (cellsI xs ++ [.int .i64 z])) (hg : (wr.alloc o).grownBy w' (Value.slice a k c).ownBlock) : w'.ownsRow base 3 1 v' (k + 1) (cellsI (xs ++ [z])) ∧ Below base wr w' ∧ base ≤ w'.heap.size := by
  have hs := hg.size
  have hz : (wr.alloc o).heap.size = wr.heap.size + 1 := by simp
  refine ⟨by rw [cellsI_append]; exact ho, ?_, by omega⟩
  exact ((Below.refl base wr).alloc hb o).grown hg (by omega) fun j hj => (own.lt j hj).1
theorem SnAt.miss {w w' : World} {b off : Nat} {x : Sn} {st m : Int} {d s q : Value} (h : SnAt w b off x d s q) (hoth : ∀ j, j ≠ off + 2 → j ≠ off + 4 → w'.cell? ⟨b, j, none⟩ = w.cell? ⟨b, j, none⟩) (hst : w'.cell? ⟨b, off + 2, none⟩ = some (.int .i64 st)) (hm : w'.cell? ⟨b, off + 4, none⟩ = some (.int .i64 m)) : SnAt w' b off { x with missed := m, state := st } d s q := by
  obtain ⟨h0, h1, h2, h3, h4, h5, h6, h7, h8, h9, h10, h11, h12, h13, h14, h15, h16, h17, h18, h19⟩ := h
  exact ⟨(hoth _ (by omega) (by omega)).trans h0, (hoth _ (by omega) (by omega)).trans h1, hst, (hoth _ (by omega) (by omega)).trans h3, hm, (hoth _ (by omega) (by omega)).trans h5, (hoth _ (by omega) (by omega)).trans h6, (hoth _ (by omega) (by omega)).trans h7, (hoth _ (by omega) (by omega)).trans h8, (hoth _ (by omega) (by omega)).trans h9, (hoth _ (by omega) (by omega)).trans h10, (hoth _ (by omega) (by omega)).trans h11, (hoth _ (by omega) (by omega)).trans h12, (hoth _ (by omega) (by omega)).trans h13, (hoth _ (by omega) (by omega)).trans h14, (hoth _ (by omega) (by omega)).trans h15, (hoth _ (by omega) (by omega)).trans h16, (hoth _ (by omega) (by omega)).trans h17, (hoth _ (by omega) (by omega)).trans h18, (hoth _ (by omega) (by omega)).trans h19⟩
theorem lostM_take (h : Int) (l : List Sn) (k : Nat) (hk : k < l.length) : lostM h (l.take (k + 1)) = lostM h (l.take k) ++ (if lostB h l[k] = true then [l[k].number] else []) := by
  rw [List.take_succ_eq_append_getElem hk, lostM, lostM, List.filter_append, List.map_append]
  congr 1
  by_cases e : lostB h l[k] = true <;> simp [e]
/-- A row under a world in which g alone was written to, and blocks above a bound. -/
theorem RowP.one {U : Nat → Prop} {g B : Nat} {w w' : World} {l : List Sn} (hr : RowP (fun b => b < B ∧ U b) g w l) (k : Nat) {x' : Sn} (hk : k < l.length) (hck : x'.ck = l[k].ck) (kp : Keep (fun b => b < B ∧ b ≠ g) w w') (hfz : ∀ j, w'.frozen? ⟨g, j, none⟩ = false)
    (hoth : ∀ j, j < k * 20 ∨ k * 20 + 20 ≤ j → w'.cell? ⟨g, j, none⟩ = w.cell? ⟨g, j, none⟩) (hx : ∀ d s q, SnAt w g (k * 20) l[k] d s q → SnAt w' g (k * 20) x' d s q) : RowP (fun b => b < B ∧ U b) g w' (l.set k x') := by
  obtain ⟨d, s, q, h1, h2⟩ := hr.pt k l[k] (by simp [hk])
  have kp2 : Keep (fun b => b < w.heap.size ∧ b ≠ g ∧ b < B ∧ U b) w w' := kp.mono fun b hb => ⟨hb.2.2.1, hb.2.1⟩
  refine hr.upd k kp2 hfz hoth (hx d s q h1) ?_
  rw [hck]
  exact (h2.keep kp2).mono fun b hb => ⟨Nat.lt_of_lt_of_le hb.1 kp.size, hb.2⟩

set_option maxHeartbeats 4000000 in
theorem miss_any (U : Nat → Prop) (base : Nat) (h : Int) (a : Option Addr) (c : Nat) (l : List Sn) (w : World) (hr : SnRes U base w a c l) (hlen : l.length * 200 ≤ 140737488351232) (hm : ∀ x ∈ l, 0 ≤ x.missed ∧ x.missed ≤ 2000000) :
    Calls Try.prog 45 #[.slice a l.length c, .int .i64 h] w fun e w' => ∃ al cl, e = .returned (.slice al (lostM h l).length cl) ∧ w'.ownsRow w.heap.size 3 1 (.slice al (lostM h l).length cl) (lostM h l).length (cellsI (lostM h l)) ∧ SnRes U base w' a c (l.map (missM h)) ∧ Below base w w' := by
  rcases hr with ⟨rfl, h1, h2⟩ | ⟨g, rfl, hg, row0, hc1, hc2⟩
  · go_enter Try.func45, Try.ntmps45
    go_wp2_with fail
    go_loopw [5, 10] (fun v i wr => v = .slice none 0 0 ∧ i = .int .i64 0 ∧ wr = w) (fun _ _ _ => 0)
    case atStart => exact ⟨rfl, rfl, rfl⟩
    case round =>
      obtain ⟨rfl, rfl, rfl⟩ := hrel
      go_wp2_with fail
      go_ret
      exact ⟨none, 0, rfl, World.ownsRow_nil _ _ _ _, .inl ⟨rfl, h1, h2⟩, Below.refl _ _⟩
  · have row1 : RowP (fun b => b < w.heap.size ∧ U b) g w (halfM (missM h) l 0) := by rw [halfM_zero]; exact row0.mono fun k hk hu => ⟨hk, hu⟩
    have hgw := row0.lt
    clear row0
    go_enter Try.func45, Try.ntmps45
    go_wp2_with fail
    go_loopw [5, 10] (fun v i wr => ∃ (k : Nat) (al : Option Addr) (cl : Nat), k ≤ l.length ∧ i = .int .i64 k ∧ v = .slice al (lostM h (l.take k)).length cl ∧ RowP (fun b => b < w.heap.size ∧ U b) g wr (halfM (missM h) l k) ∧ wr.ownsRow w.heap.size 3 1 (.slice al (lostM h (l.take k)).length cl) (lostM h (l.take k)).length (cellsI (lostM h (l.take k))) ∧ Keep (fun b => b < w.heap.size ∧ b ≠ g) w wr) (fun _ i _ => l.length - (intOf i).toNat)
    case atStart => exact ⟨0, none, 0, Nat.zero_le _, rfl, rfl, row1, World.ownsRow_nil _ _ _ _, Keep.refl _ _⟩
    case round =>
      obtain ⟨k, al, cl, hk, rfl, rfl, row, own, kp⟩ := hrel
      have hsz := kp.size
      have glt := row.lt
      by_cases hlt : k < l.length
      · have HG := halfM_get (missM h) l k hlt
        obtain ⟨d, s, q, hat, hl⟩ := row.pt k l[k] HG
        have hix := run_sn_at g l.length c k hlt
        obtain ⟨m1, m2⟩ := hm l[k] (List.getElem_mem hlt)
        have HLT := lostM_take h l k hlt
        have HST : Hid ((halfM (missM h) l k).set k (missM h l[k]) = halfM (missM h) l (k + 1)) := halfM_succ (missM h) l k hlt
        have hln : (lostM h (l.take k)).length ≤ k := by
          unfold lostM
          rw [List.length_map]
          exact Nat.le_trans (List.length_filter_le _ _) (by rw [List.length_take]; exact Nat.min_le_left _ _)
        have hHL : k < (halfM (missM h) l k).length := (List.getElem?_eq_some_iff.1 HG).1
        have hHE : (halfM (missM h) l k)[k] = l[k] := (List.getElem?_eq_some_iff.1 HG).2
        have HU : ∀ (x' : Sn) w', x' = missM h l[k] → x'.ck = l[k].ck → Keep (fun b => b < w.heap.size ∧ b ≠ g) wr w' → (∀ j, w'.frozen? ⟨g, j, none⟩ = false) → (∀ j, j < k * 20 ∨ k * 20 + 20 ≤ j → w'.cell? ⟨g, j, none⟩ = wr.cell? ⟨g, j, none⟩) → (∀ d s q, SnAt wr g (k * 20) l[k] d s q → SnAt w' g (k * 20) x' d s q) → Hid (RowP (fun b => b < w.heap.size ∧ U b) g w' (halfM (missM h) l (k + 1))) := fun x' w' e1 e2 k1 f1 o1 s1 => by
          subst e1
          have := RowP.one row k (x' := missM h l[k]) hHL (by rw [hHE]; exact e2) k1 f1 o1 (by rw [hHE]; exact s1)
          rw [HST.out] at this
          exact this
        have x0 := hat.1
        have x2 := hat.2.2.1
        have x4 := hat.2.2.2.2.1
        have z2 := row.fz (k * 20 + 2)
        have z4 := row.fz (k * 20 + 4)
        have HFZ : ∀ j, wr.frozen? ⟨g, j, none⟩ = false := row.fz
        have ROW : Hid (RowP (fun b => b < w.heap.size ∧ U b) g wr (halfM (missM h) l k)) := row
        have HAT : Hid (SnAt wr g (k * 20) l[k] d s q) := hat
        clear row hat HG hl
        generalize hx : l[k] = x at *
        generalize lostM h (l.take k) = lo at *
        cases hs1 : (x.state == 1) with
        | false =>
          have hs2 : (x.state != 1) = true := by simpa [bne] using hs1
          have HB : Hid (missB h x = false) := by show _ = _; simp [missB, hs1]
          have hL : lostM h (l.take (k + 1)) = lo := by rw [HLT, lostB, HB.out]; simp
          have R2 := HU x wr (by rw [missM, if_neg (by rw [HB.out]; simp)]) rfl (Keep.refl _ _) HFZ (fun _ _ => rfl) (fun _ _ _ h => h)
          have HL2 : Hid (lostM h (l.take (k + 1)) = lo) := hL
          clear HU HLT hL
          go_wp2_with fail
          go_roundw
          case rel => exact ⟨k + 1, al, cl, by omega, by go_num, by rw [HL2.out], R2.out, by rw [HL2.out]; exact own, kp⟩
          case measure => simp [intOf]; omega
        | true =>
          have hs2 : (x.state != 1) = false := by simpa [bne] using hs1
          have hs3 : x.state = 1 := by simpa using hs1
          by_cases hn : x.number < h
          · have hn2 : decide (x.number ≥ h) = false := decide_eq_false (by omega)
            have HB : Hid (missB h x = true) := by show _ = _; simp [missB, hs1, hn]
            have HW : Hid (wrap64 (x.missed + 1) = x.missed + 1) := by show _ = _; unfold wrap64; omega
            have NE1 : ∀ (u : Value) j, j ≠ k * 20 + 4 → (wr.setCell ⟨g, k * 20 + 4, none⟩ u).cell? ⟨g, j, none⟩ = wr.cell? ⟨g, j, none⟩ := fun u j hj => cell_oth (.inr (Ne.symm hj))
            by_cases h3 : 3 ≤ x.missed + 1
            · have HM : Hid (missM h x = { x with missed := x.missed + 1, state := 3 }) := by show _ = _; rw [missM, if_pos HB.out, HW.out, if_pos h3]
              have HL2 : Hid (lostM h (l.take (k + 1)) = lo ++ [x.number]) := by show _ = _; rw [HLT, lostB, HB.out, HW.out]; simp [h3]
              have h3' : x.missed + 1 ≥ 3 := by omega
              have KW := ((Keep.refl (fun b => b < w.heap.size ∧ b ≠ g) wr).setCell (p := ⟨g, k * 20 + 4, none⟩) (fun hb => hb.2 rfl) (.int .i64 (x.missed + 1))).setCell (p := ⟨g, k * 20 + 2, none⟩) (fun hb => hb.2 rfl) (.int .i64 3)
              have OW2 := own_set (own_set own (p := ⟨g, k * 20 + 4, none⟩) hgw (.int .i64 (x.missed + 1))) (p := ⟨g, k * 20 + 2, none⟩) hgw (.int .i64 3)
              have NE2 : ∀ j, j ≠ k * 20 + 2 → j ≠ k * 20 + 4 → ((wr.setCell ⟨g, k * 20 + 4, none⟩ (.int .i64 (x.missed + 1))).setCell ⟨g, k * 20 + 2, none⟩ (.int .i64 3)).cell? ⟨g, j, none⟩ = wr.cell? ⟨g, j, none⟩ := fun j h1 h2 => by rw [cell_oth (.inr (Ne.symm h1)), cell_oth (.inr (Ne.symm h2))]
              have E2 : ((wr.setCell ⟨g, k * 20 + 4, none⟩ (.int .i64 (x.missed + 1))).setCell ⟨g, k * 20 + 2, none⟩ (.int .i64 3)).cell? ⟨g, k * 20 + 2, none⟩ = some (.int .i64 3) := World.cell?_setCell_same' _ _ _ (by rw [cell_oth (.inr (by omega)), x2]; rfl)
              have E4 : ((wr.setCell ⟨g, k * 20 + 4, none⟩ (.int .i64 (x.missed + 1))).setCell ⟨g, k * 20 + 2, none⟩ (.int .i64 3)).cell? ⟨g, k * 20 + 4, none⟩ = some (.int .i64 (x.missed + 1)) := by rw [cell_oth (.inr (by omega))]; exact World.cell?_setCell_same' _ _ _ (by rw [x4]; rfl)
              have FZ2 : ∀ j, ((wr.setCell ⟨g, k * 20 + 4, none⟩ (.int .i64 (x.missed + 1))).setCell ⟨g, k * 20 + 2, none⟩ (.int .i64 3)).frozen? ⟨g, j, none⟩ = false := fun j => by simpa using HFZ j
              have sz2 : ((wr.setCell ⟨g, k * 20 + 4, none⟩ (.int .i64 (x.missed + 1))).setCell ⟨g, k * 20 + 2, none⟩ (.int .i64 3)).heap.size = wr.heap.size := by simp
              have Y0 : ((wr.setCell ⟨g, k * 20 + 4, none⟩ (.int .i64 (x.missed + 1))).setCell ⟨g, k * 20 + 2, none⟩ (.int .i64 3)).cell? ⟨g, k * 20, none⟩ = some (.int .i64 x.number) := by rw [NE2 _ (by omega) (by omega)]; exact x0
              have ST := fun v' w' => int_app OW2 (by omega) (.cells #[.int .i64 x.number] 3) (z := x.number) (v' := v') (w' := w')
              have OA := fun o => OW2.alloc o
              have HL := Rw.lit1 ((wr.setCell ⟨g, k * 20 + 4, none⟩ (.int .i64 (x.missed + 1))).setCell ⟨g, k * 20 + 2, none⟩ (.int .i64 3)) (.int .i64 x.number) 3
              rw [sz2] at HL
              clear HLT NE1
              go_wp2_with (at_builtin; refine wpList_append_rw Try.underlying22 Try.info3 rfl (by decide) _ rfl (.tmp 44) (.tmp 49) rfl w.heap.size (.slice al lo.length cl) lo.length _ rfl (OA _) _ 1 [.int .i64 x.number] _ rfl HL (by intro u hu; simp at hu; subst hu; rfl) (by unfold maxLen; omega) (by omega) (by simp; omega) ?_; intro v3 w3 own3 grow3 at3; obtain ⟨p3, q3, -⟩ := ST v3 w3 own3 grow3; obtain ⟨a3, c3, rfl⟩ := own_form own3; clear own3 grow3 at3)
              have K3 := KW.trans (⟨q3.os, q3.tape, q3.output, q3.size, fun i hi => q3.block i hi.1⟩ : Keep (fun b => b < w.heap.size ∧ b ≠ g) _ w3)
              have R2 := HU { x with missed := x.missed + 1, state := 3 } w3 HM.out.symm rfl K3 (fun j => (q3.frozen (p := ⟨g, j, none⟩) hgw).trans (FZ2 j)) (fun j hj => (q3.cell (p := ⟨g, j, none⟩) hgw).trans (NE2 j (by omega) (by omega))) (fun d s q ht => SnAt.miss ht (fun j h1 h2 => (q3.cell (p := ⟨g, j, none⟩) hgw).trans (NE2 j h1 h2)) ((q3.cell (p := ⟨g, k * 20 + 2, none⟩) hgw).trans E2) ((q3.cell (p := ⟨g, k * 20 + 4, none⟩) hgw).trans E4))
              have KF := kp.trans K3
              have HP3 : Hid _ := p3
              clear HU p3
              go_roundw
              case rel => exact ⟨k + 1, a3, c3, by omega, by go_num, by rw [HL2.out]; simp, R2.out, by rw [HL2.out, List.length_append]; exact HP3.out, KF⟩
              case measure => simp [intOf]; omega
            · have HM : Hid (missM h x = { x with missed := x.missed + 1 }) := by show _ = _; rw [missM, if_pos HB.out, HW.out, if_neg h3]
              have HL2 : Hid (lostM h (l.take (k + 1)) = lo) := by show _ = _; rw [HLT, lostB, HB.out, HW.out]; simp [h3]
              have R2 := HU { x with missed := x.missed + 1 } (wr.setCell ⟨g, k * 20 + 4, none⟩ (.int .i64 (x.missed + 1))) HM.out.symm rfl ((Keep.refl _ wr).setCell (p := ⟨g, k * 20 + 4, none⟩) (fun hb => hb.2 rfl) _) (fun j => by simpa using HFZ j) (fun j hj => NE1 _ j (by omega)) (fun d s q ht => by
                have := SnAt.miss (w' := wr.setCell ⟨g, k * 20 + 4, none⟩ (.int .i64 (x.missed + 1))) (st := x.state) (m := x.missed + 1) ht (fun j _ hj => NE1 _ j hj) (by rw [NE1 _ _ (by omega)]; exact ht.2.2.1) (World.cell?_setCell_same' _ _ _ (by rw [ht.2.2.2.2.1]; rfl))
                exact this)
              have KW : Keep (fun b => b < w.heap.size ∧ b ≠ g) w (wr.setCell ⟨g, k * 20 + 4, none⟩ (.int .i64 (x.missed + 1))) := kp.setCell (p := ⟨g, k * 20 + 4, none⟩) (fun hb => hb.2 rfl) _
              have OW : Hid ((wr.setCell ⟨g, k * 20 + 4, none⟩ (.int .i64 (x.missed + 1))).ownsRow w.heap.size 3 1 (.slice al lo.length cl) lo.length (cellsI lo)) := own_set own (by show g < _; exact hgw) _
              have h3' : ¬ x.missed + 1 ≥ 3 := by omega
              clear HU HLT NE1
              go_wp2_with fail
              go_roundw
              case rel => exact ⟨k + 1, al, cl, by omega, by go_num, by rw [HL2.out], R2.out, by rw [HL2.out]; exact OW.out, KW⟩
              case measure => simp [intOf]; omega
          · have hn2 : decide (x.number ≥ h) = true := decide_eq_true (by omega)
            have HB : Hid (missB h x = false) := by show _ = _; simp [missB, hn]
            have hL : lostM h (l.take (k + 1)) = lo := by rw [HLT, lostB, HB.out]; simp
            have R2 := HU x wr (by rw [missM, if_neg (by rw [HB.out]; simp)]) rfl (Keep.refl _ _) HFZ (fun _ _ => rfl) (fun _ _ _ h => h)
            have HL2 : Hid (lostM h (l.take (k + 1)) = lo) := hL
            have hn3 : x.number ≥ h := by omega
            clear HU HLT hL
            go_wp2_with fail
            go_roundw
            case rel => exact ⟨k + 1, al, cl, by omega, by go_num, by rw [HL2.out], R2.out, by rw [HL2.out]; exact own, kp⟩
            case measure => simp [intOf]; omega
      · have hkl : k = l.length := by omega
        subst hkl
        rw [halfM_end] at row
        rw [List.take_of_length_le (Nat.le_refl _)] at own ⊢
        have RH : Hid (SnRes U base wr (some ⟨g, 0, none⟩) c (l.map (missM h))) := .inr ⟨g, rfl, hg, row.mono fun _ _ hu => hu.2, by simpa using hc1, hc2⟩
        have OH : Hid _ := own
        clear row own
        go_wp2_with fail
        go_ret
        exact ⟨al, cl, rfl, OH.out, RH.out, kp.below fun b hb => ⟨by omega, by omega⟩⟩
end Go.Proofs.Ytnddejdndipddac
