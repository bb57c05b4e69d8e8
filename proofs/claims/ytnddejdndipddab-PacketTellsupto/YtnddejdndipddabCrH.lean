/- The document's Parse: sacks. -/
import Derived.Test.YtnddejdndipddabCrG
import Derived.Deep.RegionLawGrows
set_option maxRecDepth 20000
namespace Go.Proofs.Ytnddejdndipddab
open Go.RowKit

set_option maxRecDepth 20000 in
set_option maxHeartbeats 2000000 in
theorem rparse_sack (v : Value) (bs : List Int) (w : World) (hv : By w.heap.size w v bs) (g : ¬ (bs.length < 2 ∨ (bs.length : Int) - 2 < bs.getD 1 0)) (hk : bs.getD 0 0 = 2) :
    Calls Try.prog 32 #[v] w fun e w' => ∃ c d s k, IsSl d ∧ IsSl s ∧ IsSl k ∧ e = .returned (.tuple #[ckVal c d s k, .int .i64 (parseM bs).2.2, .int .i64 (parseM bs).1]) ∧ CkOwn w.heap.size w' (ckVal c d s k) (parseM bs).2.1 ∧ Below w.heap.size w w' := by
  have HV := hv
  obtain ⟨a, cap, rfl, h1, h2⟩ := hv.ex
  have HB := fun o => box_below w o
  have HP : Hid _ := parse_read g
  simp only [not_or] at g
  obtain ⟨g1, g2⟩ := g
  obtain ⟨b1, o1, hb1, hix1, hc1⟩ := HV.at 1 (by omega)
  obtain ⟨b0, o0, hb0, hix0, hc0⟩ := HV.at 0 (by omega)
  have ix1 : ∀ wx, (Instr.indexAt 23 (.slice a bs.length cap) (.int .i64 1)).run Try.prog wx = .ok (.pointer (some ⟨b1, o1, none⟩)) wx := hix1
  have ix0 : ∀ wx, (Instr.indexAt 23 (.slice a bs.length cap) (.int .i64 0)).run Try.prog wx = .ok (.pointer (some ⟨b0, o0, none⟩)) wx := hix0
  clear hix1 hix0
  have r1 := HV.2.get 1 (by omega)
  have e1 : bs.getD 1 0 = bs[1] := by simp [show 1 < bs.length by omega]
  have e0 : bs.getD 0 0 = bs[0] := by simp [show 0 < bs.length by omega]
  have hk0 : bs[0] = 2 := by rw [← e0]; exact hk
  rw [hk0] at hc0
  have C1 := fun o => new_at hc1 o
  have C0 := fun o => new_at hc0 o
  have HY := HV.re 2 (bs.getD 1 0).toNat (by rw [e1] at g2 ⊢; omega)
  have hsl : ∀ wx, (Instr.slice 23 (.slice a bs.length cap) (some (.int .i64 2)) (some (.int .i64 ((2 : Int) + bs[1]))) none).run Try.prog wx = .ok (.slice (reK 1 a cap 2) (bs.getD 1 0).toNat (cap - 2)) wx :=
    run_re_lh a bs.length cap 2 (bs.getD 1 0).toNat ((2 : Int) + bs[1]) (by rw [e1]; omega) (by rw [e1] at g2 ⊢; omega) h1
  have hlb : (((bs.drop 2).take (bs.getD 1 0).toNat)).length = (bs.getD 1 0).toNat := by rw [e1] at g2 ⊢; simp; omega
  have hl2 : (bs.getD 1 0).toNat ≤ 255 := by rw [e1]; omega
  rw [hk] at HP
  rw [e1] at g2 HP HY hsl hlb hl2
  clear e1 e0 hv HV hk hk0
  generalize hbd : (bs.drop 2).take (bs[1]).toNat = bd at *
  clear hbd
  generalize hxn : (bs[1]).toNat = xn at *
  have HXN : Hid (bs[1] = (xn : Int)) := by show _ = _; omega
  generalize bs[1] = x1 at *
  clear hxn
  have ra := r1.1
  have rb := r1.2
  clear r1
  have CX : ∀ wx, Below w.heap.size w wx → wx.cell? ⟨b0, o0, none⟩ = some (.int .u8 2) := fun wx hx => (hx.cell (p := ⟨b0, o0, none⟩) hb0).trans hc0
  have RS0 : ∀ o, RdS (w.heap.size + 1) ((w.alloc o).alloc (.cells #[.slice (reK 1 a cap 2) xn (cap - 2), .bool true] 95)) bd true := by
    intro o
    refine ⟨⟨reK 1 a cap 2, cap - 2, ?_, ?_⟩, ?_, ?_, ?_⟩
    · rw [World.cell?_alloc_at _ _ _ _ (by simp), hlb]; rfl
    · rw [hlb]; exact (HY.below (two_below w o _) (Nat.le_refl _)).mono (by omega)
    · rw [World.cell?_alloc_at _ _ _ _ (by simp)]; rfl
    · exact World.frozen?_alloc_at _ _ _ _ (by simp)
    · exact World.frozen?_alloc_at _ _ _ _ (by simp)
  go_enter Try.func32, Try.ntmps32
  go_upto_region 7 with fail
  go_cut [7] from 47 to 53 (fun s7 wx => ∃ X, s7 = .pointer (some ⟨X, 0, none⟩) ∧ PS w X [.int .i64 2, .int .i64 (be bd 0), .int .i64 0, .int .i64 0, .int .i64 0, .bool false, .bool false, .slice none 0 0, .slice none 0 0, .int .i64 0, .slice none 0 0] (bd.drop 2) (decide (2 ≤ bd.length)) wx)
  case first =>
    have N1 : ¬ b0 = w.heap.size + 1 := by omega
    have N2 : ¬ b0 = w.heap.size + 1 + 1 := by omega
    have RSa := RS0 (.cells #[.int .i64 0, .int .i64 0, .int .i64 0, .int .i64 0, .int .i64 0, .bool false, .bool false, .slice none 0 0, .slice none 0 0, .int .i64 0, .slice none 0 0] 45)
    have BR0 := two_below w (.cells #[.int .i64 0, .int .i64 0, .int .i64 0, .int .i64 0, .int .i64 0, .bool false, .bool false, .slice none 0 0, .slice none 0 0, .int .i64 0, .slice none 0 0] 45) (.cells #[.slice (reK 1 a cap 2) xn (cap - 2), .bool true] 95)
    have CZ0 := (Cells.new w #[.int .i64 0, .int .i64 0, .int .i64 0, .int .i64 0, .int .i64 0, .bool false, .bool false, .slice none 0 0, .slice none 0 0, .int .i64 0, .slice none 0 0] 45).alloc (by simp) (.cells #[.slice (reK 1 a cap 2) xn (cap - 2), .bool true] 95)
    have hsR : ((w.alloc (.cells #[.int .i64 0, .int .i64 0, .int .i64 0, .int .i64 0, .int .i64 0, .bool false, .bool false, .slice none 0 0, .slice none 0 0, .int .i64 0, .slice none 0 0] 45)).alloc (.cells #[.slice (reK 1 a cap 2) xn (cap - 2), .bool true] 95)).heap.size = w.heap.size + 2 := by simp
    clear HP g2 h1 h2 HY hb1 hc1 C1 C0 ix1 RS0 HB
    generalize (w.alloc (.cells #[.int .i64 0, .int .i64 0, .int .i64 0, .int .i64 0, .int .i64 0, .bool false, .bool false, .slice none 0 0, .slice none 0 0, .int .i64 0, .slice none 0 0] 45)).alloc (.cells #[.slice (reK 1 a cap 2) xn (cap - 2), .bool true] 95) = wR at *
    have RSd : RdS (w.heap.size + 1) wR.drew bd true := ⟨RSa.ex, RSa.ok, RSa.f0, RSa.f1⟩
    have RSb := RSa.alloc (.cells #[.int .i64 0, .int .i64 0, .int .i64 0, .int .i64 0, .int .i64 0, .bool false, .bool false, .slice none 0 0, .slice none 0 0, .int .i64 0, .slice none 0 0] 45)
    have RSe : RdS (w.heap.size + 1) (wR.alloc (.cells #[.int .i64 0, .int .i64 0, .int .i64 0, .int .i64 0, .int .i64 0, .bool false, .bool false, .slice none 0 0, .slice none 0 0, .int .i64 0, .slice none 0 0] 45)).drew bd true := ⟨RSb.ex, RSb.ok, RSb.f0, RSb.f1⟩
    have CZb := CZ0.alloc (by omega) (.cells #[.int .i64 0, .int .i64 0, .int .i64 0, .int .i64 0, .int .i64 0, .bool false, .bool false, .slice none 0 0, .slice none 0 0, .int .i64 0, .slice none 0 0] 45)
    have CNb : Cells (w.heap.size + 2) (wR.alloc (.cells #[.int .i64 0, .int .i64 0, .int .i64 0, .int .i64 0, .int .i64 0, .bool false, .bool false, .slice none 0 0, .slice none 0 0, .int .i64 0, .slice none 0 0] 45)) zeroL := Cells.new' _ _ hsR.symm
    have BB0 := BR0.alloc BR0.size (.cells #[.int .i64 0, .int .i64 0, .int .i64 0, .int .i64 0, .int .i64 0, .bool false, .bool false, .slice none 0 0, .slice none 0 0, .int .i64 0, .slice none 0 0] 45)
    have CC1 := CX _ BR0
    have CC2 := CX _ BB0
    have HT : ∀ wx, RdS (w.heap.size + 1) wx bd true → Calls Try.prog 55 #[.pointer (some ⟨w.heap.size + 1, 0, none⟩)] wx fun e w' => e = .returned (.int .i64 (be bd 0)) ∧ RdS (w.heap.size + 1) w' (bd.drop 2) (decide (2 ≤ bd.length)) ∧ Keep (SN (w.heap.size + 1)) wx w' := fun wx h => by
      have := rtwoR_any _ _ _ _ h
      rwa [Bool.true_and] at this
    have F1 : ∀ w2, Keep (SN (w.heap.size + 1)) wR.drew w2 → Below w.heap.size w w2 ∧ Cells w.heap.size w2 zeroL := fun w2 kp => ⟨BR0.trans ⟨kp.os, kp.tape, kp.output, kp.size, fun k hk => kp.block k (by unfold SN; omega)⟩, Cells.keep (S := SN (w.heap.size + 1)) (w := wR.drew) ⟨CZ0.cell, CZ0.fz⟩ kp (by unfold SN; omega)⟩
    have F2 : ∀ w2, Keep (SN (w.heap.size + 1)) (wR.alloc (.cells #[.int .i64 0, .int .i64 0, .int .i64 0, .int .i64 0, .int .i64 0, .bool false, .bool false, .slice none 0 0, .slice none 0 0, .int .i64 0, .slice none 0 0] 45)).drew w2 → Below w.heap.size w w2 ∧ Cells w.heap.size w2 zeroL ∧ Cells (w.heap.size + 2) w2 zeroL := fun w2 kp => ⟨BB0.trans ⟨kp.os, kp.tape, kp.output, kp.size, fun k hk => kp.block k (by unfold SN; omega)⟩, Cells.keep (S := SN (w.heap.size + 1)) (w := (wR.alloc (.cells #[.int .i64 0, .int .i64 0, .int .i64 0, .int .i64 0, .int .i64 0, .bool false, .bool false, .slice none 0 0, .slice none 0 0, .int .i64 0, .slice none 0 0] 45)).drew) ⟨CZb.cell, CZb.fz⟩ kp (by unfold SN; omega), Cells.keep (S := SN (w.heap.size + 1)) (w := (wR.alloc (.cells #[.int .i64 0, .int .i64 0, .int .i64 0, .int .i64 0, .int .i64 0, .bool false, .bool false, .slice none 0 0, .slice none 0 0, .int .i64 0, .slice none 0 0] 45)).drew) ⟨CNb.cell, CNb.fz⟩ kp (by unfold SN; omega)⟩
    clear RSa RSb CZ0 CZb CNb
    go_region_held3 (fun w' => w'.cell? ⟨b0, o0, none⟩ = some (.int .u8 2)) (first | with_reducible exact hc2 | (simp only [World.cell?_drew]; with_reducible exact CC1) | (simp only [World.cell?_drew]; with_reducible exact CC2) | (refine CX _ ?_; (repeat refine Below.setCell ?_ (by simp) _); with_reducible exact B2) | go_keep) (first
      | (go_at_call 55; refine (HT _ ?hrd).mono ?_; (case hrd => with_reducible exact RSd); rintro e w2 ⟨rfl, rd2, kp2⟩; obtain ⟨B2, Z2⟩ := F1 w2 kp2; have hc2 := CX _ B2)
      | (go_at_call 55; refine (HT _ ?hrd).mono ?_; (case hrd => with_reducible exact RSe); rintro e w2 ⟨rfl, rd2, kp2⟩; obtain ⟨B2, Z2, N2b⟩ := F2 w2 kp2; have hc2 := CX _ B2; obtain ⟨y0, y1, y2, y3, y4, y5, y6, y7, y8, y9, y10, yg0, yg1, yg2, yg3, yg4, yg5, yg6, yg7, yg8, yg9, yg10⟩ := cells11 N2b))
    · go_wp2_with fail
      go_meet
      have hR := rd2.lt
      refine ⟨w2.heap.size, rfl, ⟨Cells.new w2 _ _, Z2.alloc (by omega) _, rd2.alloc _, B2.alloc B2.size _, by omega⟩⟩
    · go_wp2_with fail
      go_meet
      refine ⟨w.heap.size + 2, rfl, ⟨?_, ?_, ?_, ?_, by omega⟩⟩
      · exact (((((((((((N2b).set 0 _ (by simp)).set 1 _ (by simp)).set 2 _ (by simp)).set 3 _ (by simp)).set 4 _ (by simp)).set 5 _ (by simp)).set 6 _ (by simp)).set 7 _ (by simp)).set 8 _ (by simp)).set 9 _ (by simp)).set 10 _ (by simp)
      · refine Z2.keep (S := fun k => k ≠ w.heap.size + 2) ?_ (by omega)
        repeat refine Keep.setCell ?_ (by simp) _
        exact Keep.refl _ _
      · refine rd2.keep (S := fun k => k ≠ w.heap.size + 2) ?_ (fun k hk => by omega)
        repeat refine Keep.setCell ?_ (by simp) _
        exact Keep.refl _ _
      · repeat refine Below.setCell ?_ (by simp) _
        exact B2
  case rest =>
    obtain ⟨X, rfl, P0⟩ := hcut
    have HRD0 : Hid (readM 2 bd = if formS bd = true then (0, ⟨2, be bd 0, 0, 0, 0, false, false, [], spansM (bd.drop 4), be bd 2, []⟩) else (2, Ck.zero)) := rfl
    have HIB : Hid (IsB bd) := HY.2
    clear CX C1 C0 RS0 HB hc1 hc0 ix1 ix0 hsl
    have t0 := P0.ch.cell 0 _ rfl
    have O1 := rtwoR_any _ _ _ _ P0.rd
    rw [show be (bd.drop 2) 0 = be bd 2 from be_drop bd 2 0, List.drop_drop] at O1
    generalize hok1 : (decide (2 ≤ bd.length) && decide (2 ≤ (bd.drop 2).length)) = ok1 at O1
    go_wp2_with fail
    refine O1.mono ?_
    rintro e w3 ⟨rfl, rd3, kp3⟩
    have P1 := P0.read rd3 kp3
    clear t0 O1 rd3 kp3
    have c9 := P1.ch.cell 9 _ rfl
    have z9 := P1.ch.fz 9
    have P2 := P1.set 9 (.int .i64 (be bd 2)) (by simp)
    change PS w X _ (bd.drop 4) ok1 _ at P2
    have HS0 : Hid ((ok1 && decide ((bd.drop 4).length % 4 = 0)) = formS bd) := by
      show _ = _
      rw [← hok1, formS]
      simp only [List.length_drop]
      rw [Bool.eq_iff_iff]
      simp
      omega
    clear hok1
    generalize hrm : be bd 2 = rm at *
    clear hrm
    go_wp2
    clear c9 z9 P1
    generalize w3.setCell ⟨X, 9, none⟩ (.int .i64 rm) = wL at *
    have hXL := P2.lt
    go_loopw [] (fun wr => ∃ (l : List Int) (ok : Bool) (sp : List Sp) (av : Option Addr) (cv : Nat), PS w X [.int .i64 2, .int .i64 (be bd 0), .int .i64 0, .int .i64 0, .int .i64 0, .bool false, .bool false, .slice none 0 0, .slice av sp.length cv, .int .i64 rm, .slice none 0 0] l ok wr ∧ wr.ownsRow wL.heap.size 87 2 (.slice av sp.length cv) sp.length (flat sp) ∧ wL.heap.size ≤ wr.heap.size ∧ sp.length * 4 + l.length ≤ 260 ∧ Hid (Fit sp) ∧ Hid ((ok && decide (l.length % 4 = 0)) = formS bd) ∧ Hid (formS bd = true → sp ++ spansM l = spansM (bd.drop 4))) (fun wr => leftR (w.heap.size + 1) wr)
    case atStart => exact ⟨bd.drop 4, ok1, [], none, 0, P2, World.ownsRow_nil _ _ _ _, Nat.le_refl _, by simp; omega, (fun z hz => by simp at hz), HS0, (fun _ => by simp)⟩
    case round =>
      obtain ⟨l, ok, sp, av, cv, P, own, hbs, hcnt, HFI, HOKL, HSP⟩ := hrel
      obtain ⟨aR, cR, hR0, hRy⟩ := P.rd.ex
      have hIl := P.rd.isB
      by_cases hl0 : l.length = 0
      · rw [hl0] at hR0
        have HRD : Hid (readM 2 bd = if formS bd = true then (0, ⟨2, be bd 0, 0, 0, 0, false, false, [], sp, rm, []⟩) else (2, Ck.zero)) := by
          show _ = _
          rw [HRD0.out]
          cases hfs : formS bd with
          | false => rfl
          | true => rw [← HSP.out hfs, spansM_nil hl0, List.append_nil]
        have HOK : Hid (ok = formS bd) := by
          show _ = _
          rw [← HOKL.out, hl0]
          simp
        have PF := P
        have OWN : CkOwn (w.heap.size + 2) wr (ckVal ⟨2, be bd 0, 0, 0, 0, false, false, [], sp, rm, []⟩ (.slice none 0 0) (.slice av sp.length cv) (.slice none 0 0)) ⟨2, be bd 0, 0, 0, 0, false, false, [], sp, rm, []⟩ := by
          have := P2.ne
          exact ⟨_, _, _, rfl, World.ownsRow_nil _ _ _ _, own_low own (by omega), World.ownsRow_nil _ _ _ _, fun z hz => by simp at hz, HFI.out⟩
        clear HRD0 HSP HOKL own HS0 P2 P
        go_upto_region 28 with fail
        have t0 := PF.ch.cell 0 _ rfl
        have u0 := PF.z.cell 0 _ rfl
        have ug0 := PF.z.fz 0
        have t1 := PF.ch.cell 1 _ rfl
        have u1 := PF.z.cell 1 _ rfl
        have ug1 := PF.z.fz 1
        have t2 := PF.ch.cell 2 _ rfl
        have u2 := PF.z.cell 2 _ rfl
        have ug2 := PF.z.fz 2
        have t3 := PF.ch.cell 3 _ rfl
        have u3 := PF.z.cell 3 _ rfl
        have ug3 := PF.z.fz 3
        have t4 := PF.ch.cell 4 _ rfl
        have u4 := PF.z.cell 4 _ rfl
        have ug4 := PF.z.fz 4
        have t5 := PF.ch.cell 5 _ rfl
        have u5 := PF.z.cell 5 _ rfl
        have ug5 := PF.z.fz 5
        have t6 := PF.ch.cell 6 _ rfl
        have u6 := PF.z.cell 6 _ rfl
        have ug6 := PF.z.fz 6
        have t7 := PF.ch.cell 7 _ rfl
        have u7 := PF.z.cell 7 _ rfl
        have ug7 := PF.z.fz 7
        have t8 := PF.ch.cell 8 _ rfl
        have u8 := PF.z.cell 8 _ rfl
        have ug8 := PF.z.fz 8
        have t9 := PF.ch.cell 9 _ rfl
        have u9 := PF.z.cell 9 _ rfl
        have ug9 := PF.z.fz 9
        have t10 := PF.ch.cell 10 _ rfl
        have u10 := PF.z.cell 10 _ rfl
        have ug10 := PF.z.fz 10
        have hok := PF.rd.ok
        rw [HOK.out] at hok
        have PNE := PF.ne
        cases hform : formS bd with
        | false =>
          rw [hform] at hok
          have HP2 : Hid (parseM bs = (2, Ck.zero, 0)) := by show _ = _; rw [HP.out, HRD.out, hform]; rfl
          go_wp2_with fail
          refine bodyPost_ret_by (results_cell3 rfl _ _ _ ⟨w.heap.size, 0, none⟩ zeroV rfl ?_) rfl ?_
          · go_simp
            rfl
          rw [HP2.out]
          first
            | refine ⟨Ck.zero, _, _, _, isl, isl, isl, rfl, CkOwn.zero _ _, ?_⟩
            | refine ⟨Ck.zero, _, isl, _, isl, _, isl, rfl, CkOwn.zero _ _, ?_⟩
          repeat refine Below.setCell ?_ (by simp) _
          exact PF.bel
        | true =>
          rw [hform] at hok
          have HP1 : Hid (parseM bs = if wrongM ⟨2, be bd 0, 0, 0, 0, false, false, [], sp, rm, []⟩ ≠ 0 then (wrongM ⟨2, be bd 0, 0, 0, 0, false, false, [], sp, rm, []⟩, Ck.zero, 0) else (0, ⟨2, be bd 0, 0, 0, 0, false, false, [], sp, rm, []⟩, 2 + x1)) := by show _ = _; rw [HP.out, HRD.out, hform]; rfl
          have HV3 := OWN.v
          simp only [ckVal] at HV3
          go_wp2_with fail
          refine (rwrong_any _ _ _ HV3).mono ?_
          rintro e wq ⟨rfl, bq⟩
          have zz3 := PF.z.below bq (World.block_lt_of_cell? _ _ u0)
          have ch3 := PF.ch.below bq (World.block_lt_of_cell? _ _ t0)
          have bel3 : Below w.heap.size w wq := PF.bel.trans (bq.mono PF.bel.size)
          have own3 := ownBelow OWN bq
          clear t0 u0 ug0 t1 u1 ug1 t2 u2 ug2 t3 u3 ug3 t4 u4 ug4 t5 u5 ug5 t6 u6 ug6 t7 u7 ug7 t8 u8 ug8 t9 u9 ug9 t10 u10 ug10 HV3 hok
          have t0 := ch3.cell 0 _ rfl
          have u0 := zz3.cell 0 _ rfl
          have ug0 := zz3.fz 0
          have t1 := ch3.cell 1 _ rfl
          have u1 := zz3.cell 1 _ rfl
          have ug1 := zz3.fz 1
          have t2 := ch3.cell 2 _ rfl
          have u2 := zz3.cell 2 _ rfl
          have ug2 := zz3.fz 2
          have t3 := ch3.cell 3 _ rfl
          have u3 := zz3.cell 3 _ rfl
          have ug3 := zz3.fz 3
          have t4 := ch3.cell 4 _ rfl
          have u4 := zz3.cell 4 _ rfl
          have ug4 := zz3.fz 4
          have t5 := ch3.cell 5 _ rfl
          have u5 := zz3.cell 5 _ rfl
          have ug5 := zz3.fz 5
          have t6 := ch3.cell 6 _ rfl
          have u6 := zz3.cell 6 _ rfl
          have ug6 := zz3.fz 6
          have t7 := ch3.cell 7 _ rfl
          have u7 := zz3.cell 7 _ rfl
          have ug7 := zz3.fz 7
          have t8 := ch3.cell 8 _ rfl
          have u8 := zz3.cell 8 _ rfl
          have ug8 := zz3.fz 8
          have t9 := ch3.cell 9 _ rfl
          have u9 := zz3.cell 9 _ rfl
          have ug9 := zz3.fz 9
          have t10 := ch3.cell 10 _ rfl
          have u10 := zz3.cell 10 _ rfl
          have ug10 := zz3.fz 10
          generalize hWM : wrongM ⟨2, be bd 0, 0, 0, 0, false, false, [], sp, rm, []⟩ = wm at *
          by_cases hw0 : wm = 0
          · have HP2 : Hid (parseM bs = (0, ⟨2, be bd 0, 0, 0, 0, false, false, [], sp, rm, []⟩, 2 + x1)) := by show _ = _; rw [HP1.out, if_neg (by simpa using hw0)]
            rw [hw0]
            clear HP1 hw0 hWM
            go_wp2_with fail
            refine bodyPost_ret_by (results_cell3 rfl _ _ _ ⟨w.heap.size, 0, none⟩ (ckVal ⟨2, be bd 0, 0, 0, 0, false, false, [], sp, rm, []⟩ (.slice none 0 0) (.slice av sp.length cv) (.slice none 0 0)) rfl ?_) rfl ?_
            · go_simp
              rfl
            rw [HP2.out]
            first
              | refine ⟨⟨2, be bd 0, 0, 0, 0, false, false, [], sp, rm, []⟩, _, _, _, isl, isl, isl, rfl, ?_, ?_⟩
              | refine ⟨⟨2, be bd 0, 0, 0, 0, false, false, [], sp, rm, []⟩, _, isl, _, isl, _, isl, rfl, ?_, ?_⟩
            · refine CkOwn.low (CkOwn.keep (S := fun k => k ≠ w.heap.size) own3 ?_ (fun k hk => by omega)) (by omega)
              repeat refine Keep.setCell ?_ (by simp) _
              exact Keep.refl _ _
            · repeat refine Below.setCell ?_ (by simp) _
              exact bel3
          · have HP2 : Hid (parseM bs = (wm, Ck.zero, 0)) := by show _ = _; rw [HP1.out, if_pos hw0]
            have hwn : (wm != 0) = true := by simpa using hw0
            clear HP1 hWM
            go_wp2_with fail
            refine bodyPost_ret_by (results_cell3 rfl _ _ _ ⟨w.heap.size, 0, none⟩ zeroV rfl ?_) rfl ?_
            · go_simp
              rfl
            rw [HP2.out]
            first
              | refine ⟨Ck.zero, _, _, _, isl, isl, isl, rfl, CkOwn.zero _ _, ?_⟩
              | refine ⟨Ck.zero, _, isl, _, isl, _, isl, rfl, CkOwn.zero _ _, ?_⟩
            repeat refine Below.setCell ?_ (by simp) _
            exact bel3
      · have hpos : 0 < l.length := by omega
        have hposI : (0 : Int) < (l.length : Int) := by omega
        have l8 := P.ch.cell 8 _ rfl
        have PD := P.heap
        have hML := P.rd.left
        have HMS : Hid (leftR (w.heap.size + 1) wr = l.length) := hML
        clear hML
        go_upto_region 27 with fail
        have HFn : Hid (Fit (sp ++ [(be l 0, be (l.drop 2) 0)])) := by
          show Fit _
          refine HFI.out.append fun z hz => ?_
          simp only [List.mem_singleton] at hz
          subst hz
          have b1 := be_bd hIl 0
          have b2 := be_bd (hIl.drop 2) 0
          exact ⟨by unfold I64; dsimp only; omega, by unfold I64; dsimp only; omega⟩
        have HO4 : Hid ((ok && decide (2 ≤ l.length) && decide (2 ≤ (l.drop 2).length) && decide ((l.drop 4).length % 4 = 0)) = formS bd) := by
          show _ = _
          rw [← HOKL.out]
          simp only [List.length_drop]
          cases ok with
          | false => rfl
          | true =>
            rw [Bool.eq_iff_iff]
            simp
            omega
        have HS4 : Hid (formS bd = true → (sp ++ [(be l 0, be (l.drop 2) 0)]) ++ spansM (l.drop 4) = spansM (bd.drop 4)) := by
          intro hfs
          have h4 := HOKL.out
          rw [hfs, Bool.and_eq_true, decide_eq_true_eq] at h4
          rw [← HSP.out hfs, spansM_cons (l := l) (by omega), List.append_assoc]
          rfl
        have rd0 := PD.rd
        clear HSP HOKL HS0 HFI
        go_region_law (first
          | (refine step_call1 rfl 55 (.tmp 132) 93 rfl (.pointer (some ⟨w.heap.size + 1, 0, none⟩)) rfl rfl enters_RT _ (rtwoR_c (w.heap.size + 1) _ _ _ rd1) ?_; rintro _ w2 ⟨rfl, rd2, kp2⟩; have l8c := (kp2.cell (p := ⟨X, 8, none⟩) (by unfold SN; show X ≠ _; have := P.ne; omega)).trans l8b; have l8d := fun o => new_at l8c o; have ST := row_step (i := 8) (ys := [.int .i64 (be l 0), .int .i64 (be (l.drop 2) 0)]) P own hXL hbs (kp1.trans kp2) (fun j h1 _ => h1) rd2 rfl)
          | (refine step_call1 rfl 55 (.tmp 130) 93 rfl (.pointer (some ⟨w.heap.size + 1, 0, none⟩)) rfl rfl enters_RT _ (rtwoR_c (w.heap.size + 1) _ _ _ rd0) ?_; rintro _ w1 ⟨rfl, rd1, kp1'⟩; have kp1 : Keep (SN (w.heap.size + 1)) wr w1 := ⟨kp1'.os, kp1'.tape, kp1'.output, kp1'.size, kp1'.block⟩; have l8b := (kp1.cell (p := ⟨X, 8, none⟩) (by unfold SN; show X ≠ _; have := P.ne; omega)).trans l8)
          | (refine step_append_rw Try.underlying42 Try.info87 rfl (by decide) rfl (.tmp 129) (.tmp 135) rfl wL.heap.size (.slice av sp.length cv) sp.length (flat sp) rfl (ST _).1 (w2.heap.size + 1) 1 [.int .i64 (be l 0), .int .i64 (be (l.drop 2) 0)] (.slice (some ⟨w2.heap.size, 0, none⟩) 1 1) rfl (Rw.lit2 _ _ _ _) (by intro u hu; simp at hu; rcases hu with rfl | rfl <;> rfl) (by unfold maxLen; omega) (by omega) (ST _).2.1 ?_; intro v' w4 o4 g4 _; obtain ⟨a4, c4, rfl, c8, f8, P4, own4, hb4⟩ := (ST _).2.2 v' w4 o4 g4; clear o4 g4))
        all_goals (
          go_wp2
          go_roundw
          case rel =>
            refine ⟨(l.drop 2).drop 2, (ok && decide (2 ≤ l.length) && decide (2 ≤ (l.drop 2).length)), sp ++ [(be l 0, be (l.drop 2) 0)], a4, c4, ?_, ?_, hb4, ?_, HFn, ?_, ?_⟩
            · rw [show (sp ++ [(be l 0, be (l.drop 2) 0)]).length = sp.length + 1 by simp]
              exact P4
            · rw [show (sp ++ [(be l 0, be (l.drop 2) 0)]).length = sp.length + 1 by simp, flat_append]
              exact own4
            · simp
              omega
            · rw [List.drop_drop]
              exact HO4
            · rw [List.drop_drop]
              exact HS4
          case measure =>
            rw [P4.rd.left, HMS.out]
            simp
            omega)
end Go.Proofs.Ytnddejdndipddab
