/- The document's Parse: forwards. -/
import Derived.Test.YtnddejdndipddabCrG
set_option maxRecDepth 20000
namespace Go.Proofs.Ytnddejdndipddab
open Go.RowKit

set_option maxRecDepth 20000 in
set_option maxHeartbeats 2000000 in
theorem rparse_forward (v : Value) (bs : List Int) (w : World) (hv : By w.heap.size w v bs) (g : ¬ (bs.length < 2 ∨ (bs.length : Int) - 2 < bs.getD 1 0)) (hk : bs.getD 0 0 = 3) :
    Calls Try.prog 32 #[v] w fun e w' => ∃ c d s k, IsSl d ∧ IsSl s ∧ IsSl k ∧ e = .returned (.tuple #[ckVal c d s k, .int .i64 (parseM bs).2.2, .int .i64 (parseM bs).1]) ∧ CkOwn w.heap.size w' (ckVal c d s k) (parseM bs).2.1 ∧ Below w.heap.size w w' := by
  have HV := hv
  obtain ⟨a, cap, rfl, h1, h2⟩ := hv.ex
  have HB := fun o => box_below w o
  have HP : Hid _ := parse_read g
  simp only [not_or] at g
  obtain ⟨g1, g2⟩ := g
  obtain ⟨b1, o1, hb1, hix1, hc1⟩ := HV.at 1 (by omega)
  obtain ⟨b0, o0, hb0, hix0, hc0⟩ := HV.at 0 (by omega)
  have ix1 : ∀ wx, (Instr.indexAt 23 (.slice a bs.length cap) (.int .i64 1)).run Try.prog wx = .ok (.pointer (some ⟨b1, o1, none⟩)) wx := hix1
  have ix0 : ∀ wx, (Instr.indexAt 23 (.slice a bs.length cap) (.int .i64 0)).run Try.prog wx = .ok (.pointer (some ⟨b0, o0, none⟩)) wx := hix0
  clear hix1 hix0
  have r1 := HV.2.get 1 (by omega)
  have e1 : bs.getD 1 0 = bs[1] := by simp [show 1 < bs.length by omega]
  have e0 : bs.getD 0 0 = bs[0] := by simp [show 0 < bs.length by omega]
  have hk0 : bs[0] = 3 := by rw [← e0]; exact hk
  rw [hk0] at hc0
  have C1 := fun o => new_at hc1 o
  have C0 := fun o => new_at hc0 o
  have HY := HV.re 2 (bs.getD 1 0).toNat (by rw [e1] at g2 ⊢; omega)
  have hsl : ∀ wx, (Instr.slice 23 (.slice a bs.length cap) (some (.int .i64 2)) (some (.int .i64 ((2 : Int) + bs[1]))) none).run Try.prog wx = .ok (.slice (reK 1 a cap 2) (bs.getD 1 0).toNat (cap - 2)) wx :=
    run_re_lh a bs.length cap 2 (bs.getD 1 0).toNat ((2 : Int) + bs[1]) (by rw [e1]; omega) (by rw [e1] at g2 ⊢; omega) h1
  have hlb : (((bs.drop 2).take (bs.getD 1 0).toNat)).length = (bs.getD 1 0).toNat := by rw [e1] at g2 ⊢; simp; omega
  have hl2 : (bs.getD 1 0).toNat ≤ 255 := by rw [e1]; omega
  rw [hk] at HP
  rw [e1] at g2 HP HY hsl hlb hl2
  clear e1 e0 hv HV hk hk0
  generalize hbd : (bs.drop 2).take (bs[1]).toNat = bd at *
  clear hbd
  generalize hxn : (bs[1]).toNat = xn at *
  have HXN : Hid (bs[1] = (xn : Int)) := by show _ = _; omega
  generalize bs[1] = x1 at *
  clear hxn
  have ra := r1.1
  have rb := r1.2
  clear r1
  have CX : ∀ wx, Below w.heap.size w wx → wx.cell? ⟨b0, o0, none⟩ = some (.int .u8 3) := fun wx hx => (hx.cell (p := ⟨b0, o0, none⟩) hb0).trans hc0
  have RS0 : ∀ o, RdS (w.heap.size + 1) ((w.alloc o).alloc (.cells #[.slice (reK 1 a cap 2) xn (cap - 2), .bool true] 95)) bd true := by
    intro o
    refine ⟨⟨reK 1 a cap 2, cap - 2, ?_, ?_⟩, ?_, ?_, ?_⟩
    · rw [World.cell?_alloc_at _ _ _ _ (by simp), hlb]; rfl
    · rw [hlb]; exact (HY.below (two_below w o _) (Nat.le_refl _)).mono (by omega)
    · rw [World.cell?_alloc_at _ _ _ _ (by simp)]; rfl
    · exact World.frozen?_alloc_at _ _ _ _ (by simp)
    · exact World.frozen?_alloc_at _ _ _ _ (by simp)
  go_enter Try.func32, Try.ntmps32
  go_upto_region 7 with fail
  go_cut [7] from 47 to 53 (fun s7 wx => ∃ X, s7 = .pointer (some ⟨X, 0, none⟩) ∧ PS w X [.int .i64 3, .int .i64 (be bd 0), .int .i64 0, .int .i64 0, .int .i64 0, .bool false, .bool false, .slice none 0 0, .slice none 0 0, .int .i64 0, .slice none 0 0] (bd.drop 2) (decide (2 ≤ bd.length)) wx)
  case first =>
    have N1 : ¬ b0 = w.heap.size + 1 := by omega
    have N2 : ¬ b0 = w.heap.size + 1 + 1 := by omega
    have RSa := RS0 (.cells #[.int .i64 0, .int .i64 0, .int .i64 0, .int .i64 0, .int .i64 0, .bool false, .bool false, .slice none 0 0, .slice none 0 0, .int .i64 0, .slice none 0 0] 45)
    have BR0 := two_below w (.cells #[.int .i64 0, .int .i64 0, .int .i64 0, .int .i64 0, .int .i64 0, .bool false, .bool false, .slice none 0 0, .slice none 0 0, .int .i64 0, .slice none 0 0] 45) (.cells #[.slice (reK 1 a cap 2) xn (cap - 2), .bool true] 95)
    have CZ0 := (Cells.new w #[.int .i64 0, .int .i64 0, .int .i64 0, .int .i64 0, .int .i64 0, .bool false, .bool false, .slice none 0 0, .slice none 0 0, .int .i64 0, .slice none 0 0] 45).alloc (by simp) (.cells #[.slice (reK 1 a cap 2) xn (cap - 2), .bool true] 95)
    have hsR : ((w.alloc (.cells #[.int .i64 0, .int .i64 0, .int .i64 0, .int .i64 0, .int .i64 0, .bool false, .bool false, .slice none 0 0, .slice none 0 0, .int .i64 0, .slice none 0 0] 45)).alloc (.cells #[.slice (reK 1 a cap 2) xn (cap - 2), .bool true] 95)).heap.size = w.heap.size + 2 := by simp
    clear HP g2 h1 h2 HY hb1 hc1 C1 C0 ix1 RS0 HB
    generalize (w.alloc (.cells #[.int .i64 0, .int .i64 0, .int .i64 0, .int .i64 0, .int .i64 0, .bool false, .bool false, .slice none 0 0, .slice none 0 0, .int .i64 0, .slice none 0 0] 45)).alloc (.cells #[.slice (reK 1 a cap 2) xn (cap - 2), .bool true] 95) = wR at *
    have RSd : RdS (w.heap.size + 1) wR.drew bd true := ⟨RSa.ex, RSa.ok, RSa.f0, RSa.f1⟩
    have RSb := RSa.alloc (.cells #[.int .i64 0, .int .i64 0, .int .i64 0, .int .i64 0, .int .i64 0, .bool false, .bool false, .slice none 0 0, .slice none 0 0, .int .i64 0, .slice none 0 0] 45)
    have RSe : RdS (w.heap.size + 1) (wR.alloc (.cells #[.int .i64 0, .int .i64 0, .int .i64 0, .int .i64 0, .int .i64 0, .bool false, .bool false, .slice none 0 0, .slice none 0 0, .int .i64 0, .slice none 0 0] 45)).drew bd true := ⟨RSb.ex, RSb.ok, RSb.f0, RSb.f1⟩
    have CZb := CZ0.alloc (by omega) (.cells #[.int .i64 0, .int .i64 0, .int .i64 0, .int .i64 0, .int .i64 0, .bool false, .bool false, .slice none 0 0, .slice none 0 0, .int .i64 0, .slice none 0 0] 45)
    have CNb : Cells (w.heap.size + 2) (wR.alloc (.cells #[.int .i64 0, .int .i64 0, .int .i64 0, .int .i64 0, .int .i64 0, .bool false, .bool false, .slice none 0 0, .slice none 0 0, .int .i64 0, .slice none 0 0] 45)) zeroL := Cells.new' _ _ hsR.symm
    have BB0 := BR0.alloc BR0.size (.cells #[.int .i64 0, .int .i64 0, .int .i64 0, .int .i64 0, .int .i64 0, .bool false, .bool false, .slice none 0 0, .slice none 0 0, .int .i64 0, .slice none 0 0] 45)
    have CC1 := CX _ BR0
    have CC2 := CX _ BB0
    have HT : ∀ wx, RdS (w.heap.size + 1) wx bd true → Calls Try.prog 55 #[.pointer (some ⟨w.heap.size + 1, 0, none⟩)] wx fun e w' => e = .returned (.int .i64 (be bd 0)) ∧ RdS (w.heap.size + 1) w' (bd.drop 2) (decide (2 ≤ bd.length)) ∧ Keep (SN (w.heap.size + 1)) wx w' := fun wx h => by
      have := rtwoR_any _ _ _ _ h
      rwa [Bool.true_and] at this
    have F1 : ∀ w2, Keep (SN (w.heap.size + 1)) wR.drew w2 → Below w.heap.size w w2 ∧ Cells w.heap.size w2 zeroL := fun w2 kp => ⟨BR0.trans ⟨kp.os, kp.tape, kp.output, kp.size, fun k hk => kp.block k (by unfold SN; omega)⟩, Cells.keep (S := SN (w.heap.size + 1)) (w := wR.drew) ⟨CZ0.cell, CZ0.fz⟩ kp (by unfold SN; omega)⟩
    have F2 : ∀ w2, Keep (SN (w.heap.size + 1)) (wR.alloc (.cells #[.int .i64 0, .int .i64 0, .int .i64 0, .int .i64 0, .int .i64 0, .bool false, .bool false, .slice none 0 0, .slice none 0 0, .int .i64 0, .slice none 0 0] 45)).drew w2 → Below w.heap.size w w2 ∧ Cells w.heap.size w2 zeroL ∧ Cells (w.heap.size + 2) w2 zeroL := fun w2 kp => ⟨BB0.trans ⟨kp.os, kp.tape, kp.output, kp.size, fun k hk => kp.block k (by unfold SN; omega)⟩, Cells.keep (S := SN (w.heap.size + 1)) (w := (wR.alloc (.cells #[.int .i64 0, .int .i64 0, .int .i64 0, .int .i64 0, .int .i64 0, .bool false, .bool false, .slice none 0 0, .slice none 0 0, .int .i64 0, .slice none 0 0] 45)).drew) ⟨CZb.cell, CZb.fz⟩ kp (by unfold SN; omega), Cells.keep (S := SN (w.heap.size + 1)) (w := (wR.alloc (.cells #[.int .i64 0, .int .i64 0, .int .i64 0, .int .i64 0, .int .i64 0, .bool false, .bool false, .slice none 0 0, .slice none 0 0, .int .i64 0, .slice none 0 0] 45)).drew) ⟨CNb.cell, CNb.fz⟩ kp (by unfold SN; omega)⟩
    clear RSa RSb CZ0 CZb CNb
    go_region_held3 (fun w' => w'.cell? ⟨b0, o0, none⟩ = some (.int .u8 3)) (first | with_reducible exact hc2 | (simp only [World.cell?_drew]; with_reducible exact CC1) | (simp only [World.cell?_drew]; with_reducible exact CC2) | (refine CX _ ?_; (repeat refine Below.setCell ?_ (by simp) _); with_reducible exact B2) | go_keep) (first
      | (go_at_call 55; refine (HT _ ?hrd).mono ?_; (case hrd => with_reducible exact RSd); rintro e w2 ⟨rfl, rd2, kp2⟩; obtain ⟨B2, Z2⟩ := F1 w2 kp2; have hc2 := CX _ B2)
      | (go_at_call 55; refine (HT _ ?hrd).mono ?_; (case hrd => with_reducible exact RSe); rintro e w2 ⟨rfl, rd2, kp2⟩; obtain ⟨B2, Z2, N2b⟩ := F2 w2 kp2; have hc2 := CX _ B2; obtain ⟨y0, y1, y2, y3, y4, y5, y6, y7, y8, y9, y10, yg0, yg1, yg2, yg3, yg4, yg5, yg6, yg7, yg8, yg9, yg10⟩ := cells11 N2b))
    · go_wp2_with fail
      go_meet
      have hR := rd2.lt
      refine ⟨w2.heap.size, rfl, ⟨Cells.new w2 _ _, Z2.alloc (by omega) _, rd2.alloc _, B2.alloc B2.size _, by omega⟩⟩
    · go_wp2_with fail
      go_meet
      refine ⟨w.heap.size + 2, rfl, ⟨?_, ?_, ?_, ?_, by omega⟩⟩
      · exact (((((((((((N2b).set 0 _ (by simp)).set 1 _ (by simp)).set 2 _ (by simp)).set 3 _ (by simp)).set 4 _ (by simp)).set 5 _ (by simp)).set 6 _ (by simp)).set 7 _ (by simp)).set 8 _ (by simp)).set 9 _ (by simp)).set 10 _ (by simp)
      · refine Z2.keep (S := fun k => k ≠ w.heap.size + 2) ?_ (by omega)
        repeat refine Keep.setCell ?_ (by simp) _
        exact Keep.refl _ _
      · refine rd2.keep (S := fun k => k ≠ w.heap.size + 2) ?_ (fun k hk => by omega)
        repeat refine Keep.setCell ?_ (by simp) _
        exact Keep.refl _ _
      · repeat refine Below.setCell ?_ (by simp) _
        exact B2
  case rest =>
    obtain ⟨X, rfl, P0⟩ := hcut
    have HRD0 : Hid (readM 3 bd = if formF bd = true then (0, ⟨3, be bd 0, 0, 0, 0, false, false, [], [], 0, skipsM (bd.drop 2)⟩) else (2, Ck.zero)) := rfl
    clear CX C1 C0 RS0 HB hc1 hc0 ix1 ix0 hsl
    have t0 := P0.ch.cell 0 _ rfl
    have HS0 : Hid ((decide (2 ≤ bd.length) && decide ((bd.drop 2).length % 4 = 0) && flagsOk (bd.drop 2)) = formF bd) := by
      show _ = _
      rw [formF, List.length_drop]
      congr 1
      rw [Bool.eq_iff_iff]
      simp
    go_wp2
    clear t0
    have hXL := P0.lt
    go_loopw [] (fun wr => ∃ (l : List Int) (ok : Bool) (sp : List Sk) (av : Option Addr) (cv : Nat), PS w X [.int .i64 3, .int .i64 (be bd 0), .int .i64 0, .int .i64 0, .int .i64 0, .bool false, .bool false, .slice none 0 0, .slice none 0 0, .int .i64 0, .slice av sp.length cv] l ok wr ∧ wr.ownsRow wc.heap.size 89 3 (.slice av sp.length cv) sp.length (cellsK sp) ∧ wc.heap.size ≤ wr.heap.size ∧ sp.length * 4 + l.length ≤ 260 ∧ Hid ((ok && decide (l.length % 4 = 0) && flagsOk l) = formF bd) ∧ Hid (formF bd = true → sp ++ skipsM l = skipsM (bd.drop 2))) (fun wr => leftR (w.heap.size + 1) wr)
    case atStart => exact ⟨bd.drop 2, _, [], none, 0, P0, World.ownsRow_nil _ _ _ _, Nat.le_refl _, by simp; omega, HS0, (fun _ => by simp)⟩
    case round =>
      obtain ⟨l, ok, sp, av, cv, P, own, hbs, hcnt, HOKL, HSP⟩ := hrel
      obtain ⟨aR, cR, hR0, hRy⟩ := P.rd.ex
      have hIl := P.rd.isB
      by_cases hl0 : l.length = 0
      · rw [hl0] at hR0
        have hln : l = [] := List.eq_nil_of_length_eq_zero hl0
        have HRD : Hid (readM 3 bd = if formF bd = true then (0, ⟨3, be bd 0, 0, 0, 0, false, false, [], [], 0, sp⟩) else (2, Ck.zero)) := by
          show _ = _
          rw [HRD0.out]
          cases hfs : formF bd with
          | false => rfl
          | true => rw [← HSP.out hfs, hln]; simp [skipsM]
        have HOK : Hid (ok = formF bd) := by
          show _ = _
          rw [← HOKL.out, hln]
          simp [flagsOk]
        have PF := P
        have OWN : CkOwn (w.heap.size + 2) wr (ckVal ⟨3, be bd 0, 0, 0, 0, false, false, [], [], 0, sp⟩ (.slice none 0 0) (.slice none 0 0) (.slice av sp.length cv)) ⟨3, be bd 0, 0, 0, 0, false, false, [], [], 0, sp⟩ := by
          have := P0.ne
          exact ⟨_, _, _, rfl, World.ownsRow_nil _ _ _ _, World.ownsRow_nil _ _ _ _, own_low own (by omega), fun z hz => by simp at hz, fun z hz => by simp at hz⟩
        clear HRD0 HSP HOKL own HS0 P0 P hln
        go_upto_region 28 with fail
        have t0 := PF.ch.cell 0 _ rfl
        have u0 := PF.z.cell 0 _ rfl
        have ug0 := PF.z.fz 0
        have t1 := PF.ch.cell 1 _ rfl
        have u1 := PF.z.cell 1 _ rfl
        have ug1 := PF.z.fz 1
        have t2 := PF.ch.cell 2 _ rfl
        have u2 := PF.z.cell 2 _ rfl
        have ug2 := PF.z.fz 2
        have t3 := PF.ch.cell 3 _ rfl
        have u3 := PF.z.cell 3 _ rfl
        have ug3 := PF.z.fz 3
        have t4 := PF.ch.cell 4 _ rfl
        have u4 := PF.z.cell 4 _ rfl
        have ug4 := PF.z.fz 4
        have t5 := PF.ch.cell 5 _ rfl
        have u5 := PF.z.cell 5 _ rfl
        have ug5 := PF.z.fz 5
        have t6 := PF.ch.cell 6 _ rfl
        have u6 := PF.z.cell 6 _ rfl
        have ug6 := PF.z.fz 6
        have t7 := PF.ch.cell 7 _ rfl
        have u7 := PF.z.cell 7 _ rfl
        have ug7 := PF.z.fz 7
        have t8 := PF.ch.cell 8 _ rfl
        have u8 := PF.z.cell 8 _ rfl
        have ug8 := PF.z.fz 8
        have t9 := PF.ch.cell 9 _ rfl
        have u9 := PF.z.cell 9 _ rfl
        have ug9 := PF.z.fz 9
        have t10 := PF.ch.cell 10 _ rfl
        have u10 := PF.z.cell 10 _ rfl
        have ug10 := PF.z.fz 10
        have hok := PF.rd.ok
        rw [HOK.out] at hok
        have PNE := PF.ne
        cases hform : formF bd with
        | false =>
          rw [hform] at hok
          have HP2 : Hid (parseM bs = (2, Ck.zero, 0)) := by show _ = _; rw [HP.out, HRD.out, hform]; rfl
          go_wp2_with fail
          refine bodyPost_ret_by (results_cell3 rfl _ _ _ ⟨w.heap.size, 0, none⟩ zeroV rfl ?_) rfl ?_
          · go_simp
            rfl
          rw [HP2.out]
          first
            | refine ⟨Ck.zero, _, _, _, isl, isl, isl, rfl, CkOwn.zero _ _, ?_⟩
            | refine ⟨Ck.zero, _, isl, _, isl, _, isl, rfl, CkOwn.zero _ _, ?_⟩
          repeat refine Below.setCell ?_ (by simp) _
          exact PF.bel
        | true =>
          rw [hform] at hok
          have HP1 : Hid (parseM bs = if wrongM ⟨3, be bd 0, 0, 0, 0, false, false, [], [], 0, sp⟩ ≠ 0 then (wrongM ⟨3, be bd 0, 0, 0, 0, false, false, [], [], 0, sp⟩, Ck.zero, 0) else (0, ⟨3, be bd 0, 0, 0, 0, false, false, [], [], 0, sp⟩, 2 + x1)) := by show _ = _; rw [HP.out, HRD.out, hform]; rfl
          have HV3 := OWN.v
          simp only [ckVal] at HV3
          go_wp2_with fail
          refine (rwrong_any _ _ _ HV3).mono ?_
          rintro e wq ⟨rfl, bq⟩
          have zz3 := PF.z.below bq (World.block_lt_of_cell? _ _ u0)
          have ch3 := PF.ch.below bq (World.block_lt_of_cell? _ _ t0)
          have bel3 : Below w.heap.size w wq := PF.bel.trans (bq.mono PF.bel.size)
          have own3 := ownBelow OWN bq
          clear t0 u0 ug0 t1 u1 ug1 t2 u2 ug2 t3 u3 ug3 t4 u4 ug4 t5 u5 ug5 t6 u6 ug6 t7 u7 ug7 t8 u8 ug8 t9 u9 ug9 t10 u10 ug10 HV3 hok
          have t0 := ch3.cell 0 _ rfl
          have u0 := zz3.cell 0 _ rfl
          have ug0 := zz3.fz 0
          have t1 := ch3.cell 1 _ rfl
          have u1 := zz3.cell 1 _ rfl
          have ug1 := zz3.fz 1
          have t2 := ch3.cell 2 _ rfl
          have u2 := zz3.cell 2 _ rfl
          have ug2 := zz3.fz 2
          have t3 := ch3.cell 3 _ rfl
          have u3 := zz3.cell 3 _ rfl
          have ug3 := zz3.fz 3
          have t4 := ch3.cell 4 _ rfl
          have u4 := zz3.cell 4 _ rfl
          have ug4 := zz3.fz 4
          have t5 := ch3.cell 5 _ rfl
          have u5 := zz3.cell 5 _ rfl
          have ug5 := zz3.fz 5
          have t6 := ch3.cell 6 _ rfl
          have u6 := zz3.cell 6 _ rfl
          have ug6 := zz3.fz 6
          have t7 := ch3.cell 7 _ rfl
          have u7 := zz3.cell 7 _ rfl
          have ug7 := zz3.fz 7
          have t8 := ch3.cell 8 _ rfl
          have u8 := zz3.cell 8 _ rfl
          have ug8 := zz3.fz 8
          have t9 := ch3.cell 9 _ rfl
          have u9 := zz3.cell 9 _ rfl
          have ug9 := zz3.fz 9
          have t10 := ch3.cell 10 _ rfl
          have u10 := zz3.cell 10 _ rfl
          have ug10 := zz3.fz 10
          generalize hWM : wrongM ⟨3, be bd 0, 0, 0, 0, false, false, [], [], 0, sp⟩ = wm at *
          by_cases hw0 : wm = 0
          · have HP2 : Hid (parseM bs = (0, ⟨3, be bd 0, 0, 0, 0, false, false, [], [], 0, sp⟩, 2 + x1)) := by show _ = _; rw [HP1.out, if_neg (by simpa using hw0)]
            rw [hw0]
            clear HP1 hw0 hWM
            go_wp2_with fail
            refine bodyPost_ret_by (results_cell3 rfl _ _ _ ⟨w.heap.size, 0, none⟩ (ckVal ⟨3, be bd 0, 0, 0, 0, false, false, [], [], 0, sp⟩ (.slice none 0 0) (.slice none 0 0) (.slice av sp.length cv)) rfl ?_) rfl ?_
            · go_simp
              rfl
            rw [HP2.out]
            first
              | refine ⟨⟨3, be bd 0, 0, 0, 0, false, false, [], [], 0, sp⟩, _, _, _, isl, isl, isl, rfl, ?_, ?_⟩
              | refine ⟨⟨3, be bd 0, 0, 0, 0, false, false, [], [], 0, sp⟩, _, isl, _, isl, _, isl, rfl, ?_, ?_⟩
            · refine CkOwn.low (CkOwn.keep (S := fun k => k ≠ w.heap.size) own3 ?_ (fun k hk => by omega)) (by omega)
              repeat refine Keep.setCell ?_ (by simp) _
              exact Keep.refl _ _
            · repeat refine Below.setCell ?_ (by simp) _
              exact bel3
          · have HP2 : Hid (parseM bs = (wm, Ck.zero, 0)) := by show _ = _; rw [HP1.out, if_pos hw0]
            have hwn : (wm != 0) = true := by simpa using hw0
            clear HP1 hWM
            go_wp2_with fail
            refine bodyPost_ret_by (results_cell3 rfl _ _ _ ⟨w.heap.size, 0, none⟩ zeroV rfl ?_) rfl ?_
            · go_simp
              rfl
            rw [HP2.out]
            first
              | refine ⟨Ck.zero, _, _, _, isl, isl, isl, rfl, CkOwn.zero _ _, ?_⟩
              | refine ⟨Ck.zero, _, isl, _, isl, _, isl, rfl, CkOwn.zero _ _, ?_⟩
            repeat refine Below.setCell ?_ (by simp) _
            exact bel3
      · have hpos : 0 < l.length := by omega
        have hposI : (0 : Int) < (l.length : Int) := by omega
        have HMS : Hid (leftR (w.heap.size + 1) wr = l.length) := P.rd.left
        obtain ⟨x0, hx0⟩ : ∃ x, x = l.getD 0 0 := ⟨_, rfl⟩
        obtain ⟨f, hfd0⟩ : ∃ x, x = l.getD 1 0 := ⟨_, rfl⟩
        have HFD : Hid (f = l.getD 1 0) := hfd0
        clear hfd0
        obtain ⟨x2, hx20⟩ : ∃ x, x = be (l.drop 2) 0 := ⟨_, rfl⟩
        have HX2 : Hid (x2 = be (l.drop 2) 0) := hx20
        clear hx20
        have fb := getD_bd hIl 1
        rw [← HFD.out] at fb
        have HS4 : Hid (formF bd = true → (sp ++ [⟨x0, x2, (f == 1)⟩]) ++ skipsM (l.drop 4) = skipsM (bd.drop 2)) := by
          intro hfs
          have h4 := HOKL.out
          rw [hfs, Bool.and_eq_true, Bool.and_eq_true, decide_eq_true_eq] at h4
          rw [← HSP.out hfs, skipsM_cons (l := l) (by omega), List.append_assoc, hx0, HX2.out, HFD.out]
          rfl
        have HONE : ∀ u ∈ [Value.int .i64 x0, .int .i64 x2, .bool (f == 1)], u.oneCell' = true := by intro u hu; simp only [List.mem_cons, List.not_mem_nil, or_false] at hu; rcases hu with rfl | rfl | rfl <;> rfl
        have O1 := rone_any _ _ _ _ P.rd
        rw [← hx0] at O1
        generalize hok1 : (ok && decide (1 ≤ l.length)) = ok1 at O1
        clear HSP HS0 hx0
        go_wp2_with fail
        refine O1.mono ?_
        rintro e w1 ⟨rfl, rd1, kp1⟩
        have P1 := P.read rd1 kp1
        have hX1 := P1.lt
        have hne := P.ne
        clear O1
        have O2 := fun o => rone_any _ _ _ _ (rd1.alloc o)
        rw [show (l.drop 1).getD 0 0 = f from (getD_drop l 1 0).trans HFD.out.symm, List.drop_drop] at O2
        generalize hok2 : (ok1 && decide (1 ≤ (l.drop 1).length)) = ok2 at O2
        go_wp2_with fail
        refine (O2 _).mono ?_
        rintro e w2 ⟨rfl, rd2, kp2⟩
        clear O2
        have KA1 := (Keep.refl (fun j => j < w1.heap.size) w1).alloc (fun _ hk => hk) (.cells #[.int .i64 x0, .int .i64 0, .bool false] 89)
        have P2 := (P1.kept KA1 (fun _ hk => hk)).read rd2 kp2
        have CY2 := (Cells.new w1 #[.int .i64 x0, .int .i64 0, .bool false] 89).keep kp2 (by unfold SN; omega)
        have O3 := rtwoR_any _ _ _ _ P2.rd
        rw [show be (l.drop (1 + 1)) 0 = x2 from HX2.out.symm, List.drop_drop] at O3
        generalize hok3 : (ok2 && decide (2 ≤ (l.drop (1 + 1)).length)) = ok3 at O3
        clear HX2
        go_wp2_with fail
        refine O3.mono ?_
        rintro e w3 ⟨rfl, rd3, kp3⟩
        clear O3
        have P3 := P2.read rd3 kp3
        have CY3 := CY2.keep kp3 (by unfold SN; omega)
        have c2 := CY3.cell 2 _ rfl
        have z2 := CY3.fz 2
        have c1 := CY3.cell 1 _ rfl
        have z1 := CY3.fz 1
        have c0 := CY3.cell 0 _ rfl
        have p10 := P3.ch.cell 10 _ rfl
        have q10 := P3.ch.fz 10
        have rok := P3.rd.ok
        have rf1 := P3.rd.f1
        have hs3 : w1.heap.size < w3.heap.size := World.block_lt_of_cell? _ _ c1
        have CA := (CY3.set 2 (.bool (f == 1)) (by simp)).set 1 (.int .i64 x2) (by simp)
        have kS : Keep (fun j => j ≠ w1.heap.size) w3 ((w3.setCell ⟨w1.heap.size, 2, none⟩ (.bool (f == 1))).setCell ⟨w1.heap.size, 1, none⟩ (.int .i64 x2)) := ((Keep.refl _ w3).setCell (by simp) _).setCell (by simp) _
        have PA : PS w X [.int .i64 3, .int .i64 (be bd 0), .int .i64 0, .int .i64 0, .int .i64 0, .bool false, .bool false, .slice none 0 0, .slice none 0 0, .int .i64 0, .slice av sp.length cv] (l.drop 4) ok3 ((w3.setCell ⟨w1.heap.size, 2, none⟩ (.bool (f == 1))).setCell ⟨w1.heap.size, 1, none⟩ (.int .i64 x2)) :=
          ⟨P3.ch.keep kS (by omega), P3.z.keep kS (by have := P1.bel.size; omega), P3.rd.keep kS (fun k hk => by have := P1.bel.size; omega), P3.bel.trans (kS.below fun k hk => by have := P1.bel.size; omega), P3.ne⟩
        have kA : Keep (fun j => j ≠ w.heap.size + 1 ∧ j < wr.heap.size) wr ((w3.setCell ⟨w1.heap.size, 2, none⟩ (.bool (f == 1))).setCell ⟨w1.heap.size, 1, none⟩ (.int .i64 x2)) := by
          have hw1 := kp1.size
          exact ((((kp1.mono (fun k hk => hk.1)).trans (KA1.mono fun k hk => by omega)).trans (kp2.mono fun k hk => hk.1)).trans (kp3.mono fun k hk => hk.1)).trans (kS.mono fun k hk => by omega)
        clear P1 P2 P3 CY2 CY3 kS KA1 rd1 rd2 rd3 kp2 kp3
        have hY1 : w.heap.size + 1 < w1.heap.size := by omega
        have n1 : ¬ X = w1.heap.size := by omega
        have n2 : ¬ w1.heap.size = X := by omega
        have n3 : ¬ w1.heap.size = w.heap.size + 1 := by omega
        have n4 : ¬ w.heap.size + 1 = w1.heap.size := by omega
        have n5 : ¬ X = w.heap.size + 1 := by omega
        have n6 : ¬ w.heap.size + 1 = X := by omega
        by_cases g3 : 1 < f
        · skip
          have PB := PA.bad
          have kB : Keep (fun j => j ≠ w.heap.size + 1 ∧ j < wr.heap.size) wr (((w3.setCell ⟨w1.heap.size, 2, none⟩ (.bool (f == 1))).setCell ⟨w1.heap.size, 1, none⟩ (.int .i64 x2)).setCell ⟨w.heap.size + 1, 1, none⟩ (.bool false)) := kA.trans (((Keep.refl _ _).setCell (by simp) _))
          have CB : Cells w1.heap.size (((w3.setCell ⟨w1.heap.size, 2, none⟩ (.bool (f == 1))).setCell ⟨w1.heap.size, 1, none⟩ (.int .i64 x2)).setCell ⟨w.heap.size + 1, 1, none⟩ (.bool false)) [.int .i64 x0, .int .i64 x2, .bool (f == 1)] := CA.keep (S := SN (w.heap.size + 1)) ((Keep.refl _ _).setCell (by unfold SN; simp) _) (by unfold SN; omega)
          have ST := row_step (i := 10) (ys := [.int .i64 x0, .int .i64 x2, .bool (f == 1)]) P own hXL hbs kB (fun j h1 h2 => ⟨h1, h2⟩) PB.rd rfl
          have HL3 := Rw.lit3 (((w3.setCell ⟨w1.heap.size, 2, none⟩ (.bool (f == 1))).setCell ⟨w1.heap.size, 1, none⟩ (.int .i64 x2)).setCell ⟨w.heap.size + 1, 1, none⟩ (.bool false)) (.int .i64 x0) (.int .i64 x2) (.bool (f == 1)) 89
          rw [show (((w3.setCell ⟨w1.heap.size, 2, none⟩ (.bool (f == 1))).setCell ⟨w1.heap.size, 1, none⟩ (.int .i64 x2)).setCell ⟨w.heap.size + 1, 1, none⟩ (.bool false)).heap.size = w3.heap.size by simp [World.setCell]] at HL3
          have HON : Hid ((false && decide ((l.drop 4).length % 4 = 0) && flagsOk (l.drop 4)) = formF bd) := by
            show _ = _
            rw [← HOKL.out]
            by_cases h4 : 4 ≤ l.length
            · rw [flagsOk_cons h4, ← HFD.out, decide_eq_false (show ¬ f ≤ 1 by omega), Bool.false_and, Bool.false_and, Bool.and_false]
            · rw [decide_eq_false (show ¬ l.length % 4 = 0 by omega), Bool.false_and, Bool.false_and, Bool.and_false, Bool.false_and]
          clear CA CB PA kA hok1 hok2 hok3 HOKL HFD
          go_wp2_with (at_builtin; refine wpList_append_rw Try.underlying43 Try.info89 rfl (by decide) _ rfl (.tmp 79) (.tmp 81) rfl wc.heap.size (.slice av sp.length cv) sp.length (cellsK sp) rfl (ST _).1 (w3.heap.size + 1) 1 [.int .i64 x0, .int .i64 x2, .bool (f == 1)] _ rfl HL3 HONE (by unfold maxLen; omega) (by omega) (ST _).2.1 ?_; intro v' w5 o5 g5 _; obtain ⟨a4, c4, rfl, c8, f8, P4, own4, hb4⟩ := (ST _).2.2 v' w5 o5 g5; clear o5 g5)
          go_roundw
          case rel =>
            refine ⟨l.drop 4, false, sp ++ [⟨x0, x2, (f == 1)⟩], a4, c4, ?_, ?_, hb4, ?_, HON, HS4⟩
            · rw [show (sp ++ [(⟨x0, x2, (f == 1)⟩ : Sk)]).length = sp.length + 1 by simp]
              exact P4
            · rw [show (sp ++ [(⟨x0, x2, (f == 1)⟩ : Sk)]).length = sp.length + 1 by simp, cellsK_append]
              exact own4
            · simp
              omega
          case measure =>
            rw [P4.rd.left, HMS.out]
            simp
            omega
        · skip
          have PB := PA
          have kB : Keep (fun j => j ≠ w.heap.size + 1 ∧ j < wr.heap.size) wr ((w3.setCell ⟨w1.heap.size, 2, none⟩ (.bool (f == 1))).setCell ⟨w1.heap.size, 1, none⟩ (.int .i64 x2)) := kA
          have CB := CA
          have ST := row_step (i := 10) (ys := [.int .i64 x0, .int .i64 x2, .bool (f == 1)]) P own hXL hbs kB (fun j h1 h2 => ⟨h1, h2⟩) PB.rd rfl
          have HL3 := Rw.lit3 ((w3.setCell ⟨w1.heap.size, 2, none⟩ (.bool (f == 1))).setCell ⟨w1.heap.size, 1, none⟩ (.int .i64 x2)) (.int .i64 x0) (.int .i64 x2) (.bool (f == 1)) 89
          rw [show ((w3.setCell ⟨w1.heap.size, 2, none⟩ (.bool (f == 1))).setCell ⟨w1.heap.size, 1, none⟩ (.int .i64 x2)).heap.size = w3.heap.size by simp [World.setCell]] at HL3
          have HON : Hid ((ok3 && decide ((l.drop 4).length % 4 = 0) && flagsOk (l.drop 4)) = formF bd) := by
            show _ = _
            rw [← HOKL.out, ← hok3, ← hok2, ← hok1]
            simp only [List.length_drop]
            by_cases h4 : 4 ≤ l.length
            · rw [flagsOk_cons h4, ← HFD.out, decide_eq_true (show f ≤ 1 by omega), decide_eq_true (show 1 ≤ l.length by omega), decide_eq_true (show 1 ≤ l.length - 1 by omega), decide_eq_true (show 2 ≤ l.length - (1 + 1) by omega), Bool.and_true, Bool.and_true, Bool.and_true, Bool.true_and, decide_eq_decide.2 (show (l.length - 4) % 4 = 0 ↔ l.length % 4 = 0 by omega)]
            · rw [decide_eq_false (show ¬ l.length % 4 = 0 by omega)]
              cases ok with
              | false => rfl
              | true =>
                rw [Bool.and_false, Bool.false_and]
                rw [show decide (2 ≤ l.length - (1 + 1)) = false from decide_eq_false (by omega), Bool.and_false, Bool.false_and, Bool.false_and]
          clear CA CB PA kA hok1 hok2 hok3 HOKL HFD
          go_wp2_with (at_builtin; refine wpList_append_rw Try.underlying43 Try.info89 rfl (by decide) _ rfl (.tmp 79) (.tmp 81) rfl wc.heap.size (.slice av sp.length cv) sp.length (cellsK sp) rfl (ST _).1 (w3.heap.size + 1) 1 [.int .i64 x0, .int .i64 x2, .bool (f == 1)] _ rfl HL3 HONE (by unfold maxLen; omega) (by omega) (ST _).2.1 ?_; intro v' w5 o5 g5 _; obtain ⟨a4, c4, rfl, c8, f8, P4, own4, hb4⟩ := (ST _).2.2 v' w5 o5 g5; clear o5 g5)
          go_roundw
          case rel =>
            refine ⟨l.drop 4, ok3, sp ++ [⟨x0, x2, (f == 1)⟩], a4, c4, ?_, ?_, hb4, ?_, HON, HS4⟩
            · rw [show (sp ++ [(⟨x0, x2, (f == 1)⟩ : Sk)]).length = sp.length + 1 by simp]
              exact P4
            · rw [show (sp ++ [(⟨x0, x2, (f == 1)⟩ : Sk)]).length = sp.length + 1 by simp, cellsK_append]
              exact own4
            · simp
              omega
          case measure =>
            rw [P4.rd.left, HMS.out]
            simp
            omega
end Go.Proofs.Ytnddejdndipddab
