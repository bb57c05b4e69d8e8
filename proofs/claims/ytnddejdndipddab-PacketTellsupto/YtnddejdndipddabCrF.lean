/- The document's Parse: data chunks. -/
import Derived.Test.YtnddejdndipddabCrE
set_option maxRecDepth 20000
namespace Go.Proofs.Ytnddejdndipddab
open Go.RowKit

set_option maxRecDepth 20000 in
set_option maxHeartbeats 2000000 in
theorem rparse_data (v : Value) (bs : List Int) (w : World) (hv : By w.heap.size w v bs) (g : ¬ (bs.length < 2 ∨ (bs.length : Int) - 2 < bs.getD 1 0)) (hk : bs.getD 0 0 = 1) :
    Calls Try.prog 32 #[v] w fun e w' => ∃ c d s k, IsSl d ∧ IsSl s ∧ IsSl k ∧ e = .returned (.tuple #[ckVal c d s k, .int .i64 (parseM bs).2.2, .int .i64 (parseM bs).1]) ∧ CkOwn w.heap.size w' (ckVal c d s k) (parseM bs).2.1 ∧ Below w.heap.size w w' := by
  have HV := hv
  obtain ⟨a, cap, rfl, h1, h2⟩ := hv.ex
  have HB := fun o => box_below w o
  have HP : Hid _ := parse_read g
  simp only [not_or] at g
  obtain ⟨g1, g2⟩ := g
  obtain ⟨b1, o1, hb1, hix1, hc1⟩ := HV.at 1 (by omega)
  obtain ⟨b0, o0, hb0, hix0, hc0⟩ := HV.at 0 (by omega)
  have ix1 : ∀ wx, (Instr.indexAt 23 (.slice a bs.length cap) (.int .i64 1)).run Try.prog wx = .ok (.pointer (some ⟨b1, o1, none⟩)) wx := hix1
  have ix0 : ∀ wx, (Instr.indexAt 23 (.slice a bs.length cap) (.int .i64 0)).run Try.prog wx = .ok (.pointer (some ⟨b0, o0, none⟩)) wx := hix0
  clear hix1 hix0
  have r1 := HV.2.get 1 (by omega)
  have e1 : bs.getD 1 0 = bs[1] := by simp [show 1 < bs.length by omega]
  have e0 : bs.getD 0 0 = bs[0] := by simp [show 0 < bs.length by omega]
  have hk0 : bs[0] = 1 := by rw [← e0]; exact hk
  rw [hk0] at hc0
  have C1 := fun o => new_at hc1 o
  have C0 := fun o => new_at hc0 o
  have HY := HV.re 2 (bs.getD 1 0).toNat (by rw [e1] at g2 ⊢; omega)
  have hsl : ∀ wx, (Instr.slice 23 (.slice a bs.length cap) (some (.int .i64 2)) (some (.int .i64 ((2 : Int) + bs[1]))) none).run Try.prog wx = .ok (.slice (reK 1 a cap 2) (bs.getD 1 0).toNat (cap - 2)) wx :=
    run_re_lh a bs.length cap 2 (bs.getD 1 0).toNat ((2 : Int) + bs[1]) (by rw [e1]; omega) (by rw [e1] at g2 ⊢; omega) h1
  have hlb : (((bs.drop 2).take (bs.getD 1 0).toNat)).length = (bs.getD 1 0).toNat := by rw [e1] at g2 ⊢; simp; omega
  have hl2 : (bs.getD 1 0).toNat ≤ 255 := by rw [e1]; omega
  rw [hk] at HP
  rw [e1] at g2 HP HY hsl hlb hl2
  clear e1 e0 hv HV hk hk0
  generalize hbd : (bs.drop 2).take (bs[1]).toNat = bd at *
  clear hbd
  generalize hxn : (bs[1]).toNat = xn at *
  have HXN : Hid (bs[1] = (xn : Int)) := by show _ = _; omega
  generalize bs[1] = x1 at *
  clear hxn
  have ra := r1.1
  have rb := r1.2
  clear r1
  have CX : ∀ wx, Below w.heap.size w wx → wx.cell? ⟨b0, o0, none⟩ = some (.int .u8 1) := fun wx hx => (hx.cell (p := ⟨b0, o0, none⟩) hb0).trans hc0
  have RS0 : ∀ o, RdS (w.heap.size + 1) ((w.alloc o).alloc (.cells #[.slice (reK 1 a cap 2) xn (cap - 2), .bool true] 95)) bd true := by
    intro o
    refine ⟨⟨reK 1 a cap 2, cap - 2, ?_, ?_⟩, ?_, ?_, ?_⟩
    · rw [World.cell?_alloc_at _ _ _ _ (by simp), hlb]; rfl
    · rw [hlb]; exact (HY.below (two_below w o _) (Nat.le_refl _)).mono (by omega)
    · rw [World.cell?_alloc_at _ _ _ _ (by simp)]; rfl
    · exact World.frozen?_alloc_at _ _ _ _ (by simp)
    · exact World.frozen?_alloc_at _ _ _ _ (by simp)
  go_enter Try.func32, Try.ntmps32
  go_upto_region 7 with fail
  go_cut [7] from 47 to 53 (fun s7 wx => ∃ X, s7 = .pointer (some ⟨X, 0, none⟩) ∧ PS w X [.int .i64 1, .int .i64 (be bd 0), .int .i64 0, .int .i64 0, .int .i64 0, .bool false, .bool false, .slice none 0 0, .slice none 0 0, .int .i64 0, .slice none 0 0] (bd.drop 2) (decide (2 ≤ bd.length)) wx)
  case first =>
    have N1 : ¬ b0 = w.heap.size + 1 := by omega
    have N2 : ¬ b0 = w.heap.size + 1 + 1 := by omega
    have RSa := RS0 (.cells #[.int .i64 0, .int .i64 0, .int .i64 0, .int .i64 0, .int .i64 0, .bool false, .bool false, .slice none 0 0, .slice none 0 0, .int .i64 0, .slice none 0 0] 45)
    have BR0 := two_below w (.cells #[.int .i64 0, .int .i64 0, .int .i64 0, .int .i64 0, .int .i64 0, .bool false, .bool false, .slice none 0 0, .slice none 0 0, .int .i64 0, .slice none 0 0] 45) (.cells #[.slice (reK 1 a cap 2) xn (cap - 2), .bool true] 95)
    have CZ0 := (Cells.new w #[.int .i64 0, .int .i64 0, .int .i64 0, .int .i64 0, .int .i64 0, .bool false, .bool false, .slice none 0 0, .slice none 0 0, .int .i64 0, .slice none 0 0] 45).alloc (by simp) (.cells #[.slice (reK 1 a cap 2) xn (cap - 2), .bool true] 95)
    have hsR : ((w.alloc (.cells #[.int .i64 0, .int .i64 0, .int .i64 0, .int .i64 0, .int .i64 0, .bool false, .bool false, .slice none 0 0, .slice none 0 0, .int .i64 0, .slice none 0 0] 45)).alloc (.cells #[.slice (reK 1 a cap 2) xn (cap - 2), .bool true] 95)).heap.size = w.heap.size + 2 := by simp
    clear HP g2 h1 h2 HY hb1 hc1 C1 C0 ix1 RS0 HB
    generalize (w.alloc (.cells #[.int .i64 0, .int .i64 0, .int .i64 0, .int .i64 0, .int .i64 0, .bool false, .bool false, .slice none 0 0, .slice none 0 0, .int .i64 0, .slice none 0 0] 45)).alloc (.cells #[.slice (reK 1 a cap 2) xn (cap - 2), .bool true] 95) = wR at *
    have RSd : RdS (w.heap.size + 1) wR.drew bd true := ⟨RSa.ex, RSa.ok, RSa.f0, RSa.f1⟩
    have RSb := RSa.alloc (.cells #[.int .i64 0, .int .i64 0, .int .i64 0, .int .i64 0, .int .i64 0, .bool false, .bool false, .slice none 0 0, .slice none 0 0, .int .i64 0, .slice none 0 0] 45)
    have RSe : RdS (w.heap.size + 1) (wR.alloc (.cells #[.int .i64 0, .int .i64 0, .int .i64 0, .int .i64 0, .int .i64 0, .bool false, .bool false, .slice none 0 0, .slice none 0 0, .int .i64 0, .slice none 0 0] 45)).drew bd true := ⟨RSb.ex, RSb.ok, RSb.f0, RSb.f1⟩
    have CZb := CZ0.alloc (by omega) (.cells #[.int .i64 0, .int .i64 0, .int .i64 0, .int .i64 0, .int .i64 0, .bool false, .bool false, .slice none 0 0, .slice none 0 0, .int .i64 0, .slice none 0 0] 45)
    have CNb : Cells (w.heap.size + 2) (wR.alloc (.cells #[.int .i64 0, .int .i64 0, .int .i64 0, .int .i64 0, .int .i64 0, .bool false, .bool false, .slice none 0 0, .slice none 0 0, .int .i64 0, .slice none 0 0] 45)) zeroL := Cells.new' _ _ hsR.symm
    have BB0 := BR0.alloc BR0.size (.cells #[.int .i64 0, .int .i64 0, .int .i64 0, .int .i64 0, .int .i64 0, .bool false, .bool false, .slice none 0 0, .slice none 0 0, .int .i64 0, .slice none 0 0] 45)
    have CC1 := CX _ BR0
    have CC2 := CX _ BB0
    have HT : ∀ wx, RdS (w.heap.size + 1) wx bd true → Calls Try.prog 55 #[.pointer (some ⟨w.heap.size + 1, 0, none⟩)] wx fun e w' => e = .returned (.int .i64 (be bd 0)) ∧ RdS (w.heap.size + 1) w' (bd.drop 2) (decide (2 ≤ bd.length)) ∧ Keep (SN (w.heap.size + 1)) wx w' := fun wx h => by
      have := rtwoR_any _ _ _ _ h
      rwa [Bool.true_and] at this
    have F1 : ∀ w2, Keep (SN (w.heap.size + 1)) wR.drew w2 → Below w.heap.size w w2 ∧ Cells w.heap.size w2 zeroL := fun w2 kp => ⟨BR0.trans ⟨kp.os, kp.tape, kp.output, kp.size, fun k hk => kp.block k (by unfold SN; omega)⟩, Cells.keep (S := SN (w.heap.size + 1)) (w := wR.drew) ⟨CZ0.cell, CZ0.fz⟩ kp (by unfold SN; omega)⟩
    have F2 : ∀ w2, Keep (SN (w.heap.size + 1)) (wR.alloc (.cells #[.int .i64 0, .int .i64 0, .int .i64 0, .int .i64 0, .int .i64 0, .bool false, .bool false, .slice none 0 0, .slice none 0 0, .int .i64 0, .slice none 0 0] 45)).drew w2 → Below w.heap.size w w2 ∧ Cells w.heap.size w2 zeroL ∧ Cells (w.heap.size + 2) w2 zeroL := fun w2 kp => ⟨BB0.trans ⟨kp.os, kp.tape, kp.output, kp.size, fun k hk => kp.block k (by unfold SN; omega)⟩, Cells.keep (S := SN (w.heap.size + 1)) (w := (wR.alloc (.cells #[.int .i64 0, .int .i64 0, .int .i64 0, .int .i64 0, .int .i64 0, .bool false, .bool false, .slice none 0 0, .slice none 0 0, .int .i64 0, .slice none 0 0] 45)).drew) ⟨CZb.cell, CZb.fz⟩ kp (by unfold SN; omega), Cells.keep (S := SN (w.heap.size + 1)) (w := (wR.alloc (.cells #[.int .i64 0, .int .i64 0, .int .i64 0, .int .i64 0, .int .i64 0, .bool false, .bool false, .slice none 0 0, .slice none 0 0, .int .i64 0, .slice none 0 0] 45)).drew) ⟨CNb.cell, CNb.fz⟩ kp (by unfold SN; omega)⟩
    clear RSa RSb CZ0 CZb CNb
    go_region_held3 (fun w' => w'.cell? ⟨b0, o0, none⟩ = some (.int .u8 1)) (first | with_reducible exact hc2 | (simp only [World.cell?_drew]; with_reducible exact CC1) | (simp only [World.cell?_drew]; with_reducible exact CC2) | (refine CX _ ?_; (repeat refine Below.setCell ?_ (by simp) _); with_reducible exact B2) | go_keep) (first
      | (go_at_call 55; refine (HT _ ?hrd).mono ?_; (case hrd => with_reducible exact RSd); rintro e w2 ⟨rfl, rd2, kp2⟩; obtain ⟨B2, Z2⟩ := F1 w2 kp2; have hc2 := CX _ B2)
      | (go_at_call 55; refine (HT _ ?hrd).mono ?_; (case hrd => with_reducible exact RSe); rintro e w2 ⟨rfl, rd2, kp2⟩; obtain ⟨B2, Z2, N2b⟩ := F2 w2 kp2; have hc2 := CX _ B2; obtain ⟨y0, y1, y2, y3, y4, y5, y6, y7, y8, y9, y10, yg0, yg1, yg2, yg3, yg4, yg5, yg6, yg7, yg8, yg9, yg10⟩ := cells11 N2b))
    · go_wp2_with fail
      go_meet
      have hR := rd2.lt
      refine ⟨w2.heap.size, rfl, ⟨Cells.new w2 _ _, Z2.alloc (by omega) _, rd2.alloc _, B2.alloc B2.size _, by omega⟩⟩
    · go_wp2_with fail
      go_meet
      refine ⟨w.heap.size + 2, rfl, ⟨?_, ?_, ?_, ?_, by omega⟩⟩
      · exact (((((((((((N2b).set 0 _ (by simp)).set 1 _ (by simp)).set 2 _ (by simp)).set 3 _ (by simp)).set 4 _ (by simp)).set 5 _ (by simp)).set 6 _ (by simp)).set 7 _ (by simp)).set 8 _ (by simp)).set 9 _ (by simp)).set 10 _ (by simp)
      · refine Z2.keep (S := fun k => k ≠ w.heap.size + 2) ?_ (by omega)
        repeat refine Keep.setCell ?_ (by simp) _
        exact Keep.refl _ _
      · refine rd2.keep (S := fun k => k ≠ w.heap.size + 2) ?_ (fun k hk => by omega)
        repeat refine Keep.setCell ?_ (by simp) _
        exact Keep.refl _ _
      · repeat refine Below.setCell ?_ (by simp) _
        exact B2
  case rest =>
    obtain ⟨X, rfl, P0⟩ := hcut
    obtain ⟨f, hff⟩ : ∃ f, f = bd.getD 3 0 := ⟨_, rfl⟩
    have HRD : Hid (readM 1 bd = if formD bd = true then (0, ⟨1, be bd 0, bd.getD 2 0, be bd 4, bd.getD 6 0, (f % 2 == 1), (f / 2 == 1), bd.drop 7, [], 0, []⟩) else (2, Ck.zero)) := by
      show _ = _
      rw [read_1, hff]
      rfl
    have hIB := P0.rd.isB
    have fb := getD_bd HY.2 3
    rw [← hff] at fb
    have fa := fb.1
    have fc := fb.2
    have tm : f.tmod 2 = f % 2 := Int.tmod_eq_emod_of_nonneg fa
    have td : f.tdiv 2 = f / 2 := Int.tdiv_eq_ediv_of_nonneg fa
    have HIS : Hid (IsB (bd.drop 7)) := HY.2.drop 7
    have HFD : Hid (formD bd = decide (7 ≤ bd.length ∧ f ≤ 3)) := by show _ = _; rw [formD, hff]
    clear fb CX C1 C0 RS0 HB hc1 hc0 ix1 ix0 hsl
    have t0 := P0.ch.cell 0 _ rfl
    have O1 := rone_any _ _ _ _ P0.rd
    rw [show (bd.drop 2).getD 0 0 = bd.getD 2 0 from getD_drop bd 2 0, List.drop_drop] at O1
    generalize hok1 : (decide (2 ≤ bd.length) && decide (1 ≤ (bd.drop 2).length)) = ok1 at O1
    go_wp2_with fail
    refine O1.mono ?_
    rintro e w3 ⟨rfl, rd3, kp3⟩
    have P1 := P0.read rd3 kp3
    clear t0 O1 rd3 kp3
    have c2 := P1.ch.cell 2 _ rfl
    have z2 := P1.ch.fz 2
    have P2 := P1.set 2 (.int .i64 (bd.getD 2 0)) (by simp)
    have O2 := rone_any _ _ _ _ P2.rd
    rw [show (bd.drop (2 + 1)).getD 0 0 = f from (getD_drop bd 3 0).trans hff.symm, List.drop_drop] at O2
    generalize hok2 : (ok1 && decide (1 ≤ (bd.drop (2 + 1)).length)) = ok2 at O2
    clear hff
    generalize bd.getD 2 0 = sv at *
    go_wp2_with fail
    refine O2.mono ?_
    rintro e w4 ⟨rfl, rd4, kp4⟩
    have P3 := P2.read rd4 kp4
    clear O2 rd4 kp4 c2 z2 P1
    have c5 := P3.ch.cell 5 _ rfl
    have z5 := P3.ch.fz 5
    have c6 := P3.ch.cell 6 _ rfl
    have z6 := P3.ch.fz 6
    have P5 := (P3.set 5 (.bool (f % 2 == 1)) (by simp)).set 6 (.bool (f / 2 == 1)) (by simp)
    by_cases g3 : 3 < f
    · have r1 := P5.rd.ok
      have rf1 := P5.rd.f1
      have PB := P5.bad
      have O3 := rtwoR_any _ _ _ _ PB.rd
      rw [show be (bd.drop (2 + 1 + 1)) 0 = be bd 4 from be_drop bd 4 0, List.drop_drop] at O3
      generalize hok3 : (false && decide (2 ≤ (bd.drop (2 + 1 + 1)).length)) = ok3 at O3
      go_wp2_with fail
      refine O3.mono ?_
      rintro e w5 ⟨rfl, rd5, kp5⟩
      have P6 := PB.read rd5 kp5
      clear O3 rd5 kp5
      have O4 := rone_any _ _ _ _ P6.rd
      rw [show (bd.drop (2 + 1 + 1 + 2)).getD 0 0 = bd.getD 6 0 from getD_drop bd 6 0, List.drop_drop] at O4
      generalize hok4 : (ok3 && decide (1 ≤ (bd.drop (2 + 1 + 1 + 2)).length)) = ok4 at O4
      generalize bd.getD 6 0 = pv at *
      generalize be bd 4 = mv at *
      go_wp2_with fail
      refine O4.mono ?_
      rintro e w6 ⟨rfl, rd6, kp6⟩
      have P7 := P6.read rd6 kp6
      clear O4 rd6 kp6 P6
      have d3 := P7.ch.cell 3 _ rfl
      have dz3 := P7.ch.fz 3
      have d4 := P7.ch.cell 4 _ rfl
      have dz4 := P7.ch.fz 4
      have P8 := (P7.set 3 (.int .i64 mv) (by simp)).set 4 (.int .i64 pv) (by simp)
      clear c5 z5 c6 z6
      go_upto_region 23 with fail
      generalize (w6.setCell ⟨X, 3, none⟩ (.int .i64 mv)).setCell ⟨X, 4, none⟩ (.int .i64 pv) = w8 at *
      clear d3 dz3 d4 dz4 P7
      have HL7 : Hid ((bd.drop 7).length = bd.length - 7) := by show _ = _; simp
      change PS w X _ (bd.drop 7) ok4 w8 at P8
      generalize bd.drop 7 = l7 at *
      obtain ⟨aR, cR, hR0, hRy⟩ := P8.rd.ex
      have hlt8 := P8.lt
      have hlR := P8.rd.lt
      have hne8 := P8.ne
      have R0 := new_at hR0
      have h0 : (w8.alloc (.cells #[] 5)).ownsRow w8.heap.size 5 1 (.slice (some ⟨w8.heap.size, 0, none⟩) 0 0) 0 [] := World.ownsRow_lit w8 #[] 0 (Nat.le_refl _) (by unfold maxLen; omega) rfl
      have hx8 := hRy.below (box_below w8 (.cells #[] 5)) (Nat.le_of_lt hlR)
      have hb7 : l7.length ≤ 255 := by have := HL7.out; omega
      have HQ : ∀ v' w9, w9.ownsRow w8.heap.size 5 1 v' (0 + l7.length) ([] ++ cellsB l7) → (w8.alloc (.cells #[] 5)).grownBy w9 (Value.slice (some ⟨w8.heap.size, 0, none⟩) 0 0).ownBlock → w9.ownsRow w8.heap.size 5 1 v' l7.length (cellsB l7) ∧ Keep (fun k => k < w8.heap.size) w8 w9 := by
        intro v' w9 o g
        rw [List.nil_append, Nat.zero_add] at o
        exact ⟨o, ((Keep.refl (fun k => k < w8.heap.size) w8).alloc (fun _ hk => hk) _).grown g (fun k hk => by simp; omega) (fun k hk => by simp [Value.ownBlock] at hk; omega)⟩
      go_upto_region 28 with (at_builtin; refine wpList_append_rw Try.underlying23 Try.info5 rfl (by decide) _ rfl (.tmp 110) (.tmp 114) rfl w8.heap.size (.slice (some ⟨w8.heap.size, 0, none⟩) 0 0) 0 [] rfl h0 _ l7.length (cellsB l7) _ rfl hx8.1 (cellsB_one _) (by unfold maxLen; omega) (by omega) (by simp) ?_; intro v9 w9 own9 grow9 at9; obtain ⟨O9, K9⟩ := HQ _ w9 own9 grow9; obtain ⟨a9, c9, rfl⟩ := own_form O9; have P9 := P8.kept K9 (fun _ hk => hk); have d7 := P9.ch.cell 7 _ rfl; have dz7 := P9.ch.fz 7; clear own9 grow9 at9)
      have PF := P9.set 7 (.slice a9 l7.length c9) (by simp)
      have OWN : CkOwn (w.heap.size + 2) (w9.setCell ⟨X, 7, none⟩ (.slice a9 l7.length c9)) (ckVal ⟨1, be bd 0, sv, mv, pv, (f % 2 == 1), (f / 2 == 1), l7, [], 0, []⟩ (.slice a9 l7.length c9) (.slice none 0 0) (.slice none 0 0)) ⟨1, be bd 0, sv, mv, pv, (f % 2 == 1), (f / 2 == 1), l7, [], 0, []⟩ := by
        refine ⟨_, _, _, rfl, ?_, World.ownsRow_nil _ _ _ _, World.ownsRow_nil _ _ _ _, HIS.out, fun z hz => by simp at hz⟩
        refine own_low (own_of_block O9 fun k hk => Below.heap_setCell _ _ _ _ ?_) (by omega)
        have := (O9.lt k hk).1
        show k ≠ X
        omega
      have HOK : Hid (ok4 = formD bd) := by
        show _ = _
        rw [HFD.out, ← hok4, ← hok3]
        simp
        omega
      generalize w9.setCell ⟨X, 7, none⟩ (.slice a9 l7.length c9) = wz at *
      clear P8 P9 d7 dz7 O9 K9 HQ h0 hx8 hRy hR0 R0 hok1 hok2 hok3 hok4 HFD
      have t0 := PF.ch.cell 0 _ rfl
      have u0 := PF.z.cell 0 _ rfl
      have ug0 := PF.z.fz 0
      have t1 := PF.ch.cell 1 _ rfl
      have u1 := PF.z.cell 1 _ rfl
      have ug1 := PF.z.fz 1
      have t2 := PF.ch.cell 2 _ rfl
      have u2 := PF.z.cell 2 _ rfl
      have ug2 := PF.z.fz 2
      have t3 := PF.ch.cell 3 _ rfl
      have u3 := PF.z.cell 3 _ rfl
      have ug3 := PF.z.fz 3
      have t4 := PF.ch.cell 4 _ rfl
      have u4 := PF.z.cell 4 _ rfl
      have ug4 := PF.z.fz 4
      have t5 := PF.ch.cell 5 _ rfl
      have u5 := PF.z.cell 5 _ rfl
      have ug5 := PF.z.fz 5
      have t6 := PF.ch.cell 6 _ rfl
      have u6 := PF.z.cell 6 _ rfl
      have ug6 := PF.z.fz 6
      have t7 := PF.ch.cell 7 _ rfl
      have u7 := PF.z.cell 7 _ rfl
      have ug7 := PF.z.fz 7
      have t8 := PF.ch.cell 8 _ rfl
      have u8 := PF.z.cell 8 _ rfl
      have ug8 := PF.z.fz 8
      have t9 := PF.ch.cell 9 _ rfl
      have u9 := PF.z.cell 9 _ rfl
      have ug9 := PF.z.fz 9
      have t10 := PF.ch.cell 10 _ rfl
      have u10 := PF.z.cell 10 _ rfl
      have ug10 := PF.z.fz 10
      have hok := PF.rd.ok
      rw [HOK.out] at hok
      have PNE := PF.ne
      cases hform : formD bd with
      | false =>
        rw [hform] at hok
        have HP2 : Hid (parseM bs = (2, Ck.zero, 0)) := by show _ = _; rw [HP.out, HRD.out, hform]; rfl
        go_wp2_with fail
        refine bodyPost_ret_by (results_cell3 rfl _ _ _ ⟨w.heap.size, 0, none⟩ zeroV rfl ?_) rfl ?_
        · go_simp
          rfl
        rw [HP2.out]
        first
          | refine ⟨Ck.zero, _, _, _, isl, isl, isl, rfl, CkOwn.zero _ _, ?_⟩
          | refine ⟨Ck.zero, _, isl, _, isl, _, isl, rfl, CkOwn.zero _ _, ?_⟩
        repeat refine Below.setCell ?_ (by simp) _
        exact PF.bel
      | true =>
        rw [hform] at hok
        have HP1 : Hid (parseM bs = if wrongM ⟨1, be bd 0, sv, mv, pv, (f % 2 == 1), (f / 2 == 1), l7, [], 0, []⟩ ≠ 0 then (wrongM ⟨1, be bd 0, sv, mv, pv, (f % 2 == 1), (f / 2 == 1), l7, [], 0, []⟩, Ck.zero, 0) else (0, ⟨1, be bd 0, sv, mv, pv, (f % 2 == 1), (f / 2 == 1), l7, [], 0, []⟩, 2 + x1)) := by show _ = _; rw [HP.out, HRD.out, hform]; rfl
        have HV3 := OWN.v
        simp only [ckVal] at HV3
        go_wp2_with fail
        refine (rwrong_any _ _ _ HV3).mono ?_
        rintro e wq ⟨rfl, bq⟩
        have zz3 := PF.z.below bq (World.block_lt_of_cell? _ _ u0)
        have ch3 := PF.ch.below bq (World.block_lt_of_cell? _ _ t0)
        have bel3 : Below w.heap.size w wq := PF.bel.trans (bq.mono PF.bel.size)
        have own3 := ownBelow OWN bq
        clear t0 u0 ug0 t1 u1 ug1 t2 u2 ug2 t3 u3 ug3 t4 u4 ug4 t5 u5 ug5 t6 u6 ug6 t7 u7 ug7 t8 u8 ug8 t9 u9 ug9 t10 u10 ug10 HV3 hok
        have t0 := ch3.cell 0 _ rfl
        have u0 := zz3.cell 0 _ rfl
        have ug0 := zz3.fz 0
        have t1 := ch3.cell 1 _ rfl
        have u1 := zz3.cell 1 _ rfl
        have ug1 := zz3.fz 1
        have t2 := ch3.cell 2 _ rfl
        have u2 := zz3.cell 2 _ rfl
        have ug2 := zz3.fz 2
        have t3 := ch3.cell 3 _ rfl
        have u3 := zz3.cell 3 _ rfl
        have ug3 := zz3.fz 3
        have t4 := ch3.cell 4 _ rfl
        have u4 := zz3.cell 4 _ rfl
        have ug4 := zz3.fz 4
        have t5 := ch3.cell 5 _ rfl
        have u5 := zz3.cell 5 _ rfl
        have ug5 := zz3.fz 5
        have t6 := ch3.cell 6 _ rfl
        have u6 := zz3.cell 6 _ rfl
        have ug6 := zz3.fz 6
        have t7 := ch3.cell 7 _ rfl
        have u7 := zz3.cell 7 _ rfl
        have ug7 := zz3.fz 7
        have t8 := ch3.cell 8 _ rfl
        have u8 := zz3.cell 8 _ rfl
        have ug8 := zz3.fz 8
        have t9 := ch3.cell 9 _ rfl
        have u9 := zz3.cell 9 _ rfl
        have ug9 := zz3.fz 9
        have t10 := ch3.cell 10 _ rfl
        have u10 := zz3.cell 10 _ rfl
        have ug10 := zz3.fz 10
        generalize hWM : wrongM ⟨1, be bd 0, sv, mv, pv, (f % 2 == 1), (f / 2 == 1), l7, [], 0, []⟩ = wm at *
        by_cases hw0 : wm = 0
        · have HP2 : Hid (parseM bs = (0, ⟨1, be bd 0, sv, mv, pv, (f % 2 == 1), (f / 2 == 1), l7, [], 0, []⟩, 2 + x1)) := by show _ = _; rw [HP1.out, if_neg (by simpa using hw0)]
          rw [hw0]
          clear HP1 hw0 hWM
          go_wp2_with fail
          refine bodyPost_ret_by (results_cell3 rfl _ _ _ ⟨w.heap.size, 0, none⟩ (ckVal ⟨1, be bd 0, sv, mv, pv, (f % 2 == 1), (f / 2 == 1), l7, [], 0, []⟩ (.slice a9 l7.length c9) (.slice none 0 0) (.slice none 0 0)) rfl ?_) rfl ?_
          · go_simp
            rfl
          rw [HP2.out]
          first
            | refine ⟨⟨1, be bd 0, sv, mv, pv, (f % 2 == 1), (f / 2 == 1), l7, [], 0, []⟩, _, _, _, isl, isl, isl, rfl, ?_, ?_⟩
            | refine ⟨⟨1, be bd 0, sv, mv, pv, (f % 2 == 1), (f / 2 == 1), l7, [], 0, []⟩, _, isl, _, isl, _, isl, rfl, ?_, ?_⟩
          · refine CkOwn.low (CkOwn.keep (S := fun k => k ≠ w.heap.size) own3 ?_ (fun k hk => by omega)) (by omega)
            repeat refine Keep.setCell ?_ (by simp) _
            exact Keep.refl _ _
          · repeat refine Below.setCell ?_ (by simp) _
            exact bel3
        · have HP2 : Hid (parseM bs = (wm, Ck.zero, 0)) := by show _ = _; rw [HP1.out, if_pos hw0]
          have hwn : (wm != 0) = true := by simpa using hw0
          clear HP1 hWM
          go_wp2_with fail
          refine bodyPost_ret_by (results_cell3 rfl _ _ _ ⟨w.heap.size, 0, none⟩ zeroV rfl ?_) rfl ?_
          · go_simp
            rfl
          rw [HP2.out]
          first
            | refine ⟨Ck.zero, _, _, _, isl, isl, isl, rfl, CkOwn.zero _ _, ?_⟩
            | refine ⟨Ck.zero, _, isl, _, isl, _, isl, rfl, CkOwn.zero _ _, ?_⟩
          repeat refine Below.setCell ?_ (by simp) _
          exact bel3
    · have PB := P5
      have O3 := rtwoR_any _ _ _ _ PB.rd
      rw [show be (bd.drop (2 + 1 + 1)) 0 = be bd 4 from be_drop bd 4 0, List.drop_drop] at O3
      generalize hok3 : (ok2 && decide (2 ≤ (bd.drop (2 + 1 + 1)).length)) = ok3 at O3
      go_wp2_with fail
      refine O3.mono ?_
      rintro e w5 ⟨rfl, rd5, kp5⟩
      have P6 := PB.read rd5 kp5
      clear O3 rd5 kp5
      have O4 := rone_any _ _ _ _ P6.rd
      rw [show (bd.drop (2 + 1 + 1 + 2)).getD 0 0 = bd.getD 6 0 from getD_drop bd 6 0, List.drop_drop] at O4
      generalize hok4 : (ok3 && decide (1 ≤ (bd.drop (2 + 1 + 1 + 2)).length)) = ok4 at O4
      generalize bd.getD 6 0 = pv at *
      generalize be bd 4 = mv at *
      go_wp2_with fail
      refine O4.mono ?_
      rintro e w6 ⟨rfl, rd6, kp6⟩
      have P7 := P6.read rd6 kp6
      clear O4 rd6 kp6 P6
      have d3 := P7.ch.cell 3 _ rfl
      have dz3 := P7.ch.fz 3
      have d4 := P7.ch.cell 4 _ rfl
      have dz4 := P7.ch.fz 4
      have P8 := (P7.set 3 (.int .i64 mv) (by simp)).set 4 (.int .i64 pv) (by simp)
      clear c5 z5 c6 z6
      go_upto_region 23 with fail
      generalize (w6.setCell ⟨X, 3, none⟩ (.int .i64 mv)).setCell ⟨X, 4, none⟩ (.int .i64 pv) = w8 at *
      clear d3 dz3 d4 dz4 P7
      have HL7 : Hid ((bd.drop 7).length = bd.length - 7) := by show _ = _; simp
      change PS w X _ (bd.drop 7) ok4 w8 at P8
      generalize bd.drop 7 = l7 at *
      obtain ⟨aR, cR, hR0, hRy⟩ := P8.rd.ex
      have hlt8 := P8.lt
      have hlR := P8.rd.lt
      have hne8 := P8.ne
      have R0 := new_at hR0
      have h0 : (w8.alloc (.cells #[] 5)).ownsRow w8.heap.size 5 1 (.slice (some ⟨w8.heap.size, 0, none⟩) 0 0) 0 [] := World.ownsRow_lit w8 #[] 0 (Nat.le_refl _) (by unfold maxLen; omega) rfl
      have hx8 := hRy.below (box_below w8 (.cells #[] 5)) (Nat.le_of_lt hlR)
      have hb7 : l7.length ≤ 255 := by have := HL7.out; omega
      have HQ : ∀ v' w9, w9.ownsRow w8.heap.size 5 1 v' (0 + l7.length) ([] ++ cellsB l7) → (w8.alloc (.cells #[] 5)).grownBy w9 (Value.slice (some ⟨w8.heap.size, 0, none⟩) 0 0).ownBlock → w9.ownsRow w8.heap.size 5 1 v' l7.length (cellsB l7) ∧ Keep (fun k => k < w8.heap.size) w8 w9 := by
        intro v' w9 o g
        rw [List.nil_append, Nat.zero_add] at o
        exact ⟨o, ((Keep.refl (fun k => k < w8.heap.size) w8).alloc (fun _ hk => hk) _).grown g (fun k hk => by simp; omega) (fun k hk => by simp [Value.ownBlock] at hk; omega)⟩
      go_upto_region 28 with (at_builtin; refine wpList_append_rw Try.underlying23 Try.info5 rfl (by decide) _ rfl (.tmp 110) (.tmp 114) rfl w8.heap.size (.slice (some ⟨w8.heap.size, 0, none⟩) 0 0) 0 [] rfl h0 _ l7.length (cellsB l7) _ rfl hx8.1 (cellsB_one _) (by unfold maxLen; omega) (by omega) (by simp) ?_; intro v9 w9 own9 grow9 at9; obtain ⟨O9, K9⟩ := HQ _ w9 own9 grow9; obtain ⟨a9, c9, rfl⟩ := own_form O9; have P9 := P8.kept K9 (fun _ hk => hk); have d7 := P9.ch.cell 7 _ rfl; have dz7 := P9.ch.fz 7; clear own9 grow9 at9)
      have PF := P9.set 7 (.slice a9 l7.length c9) (by simp)
      have OWN : CkOwn (w.heap.size + 2) (w9.setCell ⟨X, 7, none⟩ (.slice a9 l7.length c9)) (ckVal ⟨1, be bd 0, sv, mv, pv, (f % 2 == 1), (f / 2 == 1), l7, [], 0, []⟩ (.slice a9 l7.length c9) (.slice none 0 0) (.slice none 0 0)) ⟨1, be bd 0, sv, mv, pv, (f % 2 == 1), (f / 2 == 1), l7, [], 0, []⟩ := by
        refine ⟨_, _, _, rfl, ?_, World.ownsRow_nil _ _ _ _, World.ownsRow_nil _ _ _ _, HIS.out, fun z hz => by simp at hz⟩
        refine own_low (own_of_block O9 fun k hk => Below.heap_setCell _ _ _ _ ?_) (by omega)
        have := (O9.lt k hk).1
        show k ≠ X
        omega
      have HOK : Hid (ok4 = formD bd) := by
        show _ = _
        rw [HFD.out, ← hok4, ← hok3, ← hok2, ← hok1]
        simp only [List.length_drop]
        rw [Bool.eq_iff_iff]
        simp
        omega
      generalize w9.setCell ⟨X, 7, none⟩ (.slice a9 l7.length c9) = wz at *
      clear P8 P9 d7 dz7 O9 K9 HQ h0 hx8 hRy hR0 R0 hok1 hok2 hok3 hok4 HFD
      have t0 := PF.ch.cell 0 _ rfl
      have u0 := PF.z.cell 0 _ rfl
      have ug0 := PF.z.fz 0
      have t1 := PF.ch.cell 1 _ rfl
      have u1 := PF.z.cell 1 _ rfl
      have ug1 := PF.z.fz 1
      have t2 := PF.ch.cell 2 _ rfl
      have u2 := PF.z.cell 2 _ rfl
      have ug2 := PF.z.fz 2
      have t3 := PF.ch.cell 3 _ rfl
      have u3 := PF.z.cell 3 _ rfl
      have ug3 := PF.z.fz 3
      have t4 := PF.ch.cell 4 _ rfl
      have u4 := PF.z.cell 4 _ rfl
      have ug4 := PF.z.fz 4
      have t5 := PF.ch.cell 5 _ rfl
      have u5 := PF.z.cell 5 _ rfl
      have ug5 := PF.z.fz 5
      have t6 := PF.ch.cell 6 _ rfl
      have u6 := PF.z.cell 6 _ rfl
      have ug6 := PF.z.fz 6
      have t7 := PF.ch.cell 7 _ rfl
      have u7 := PF.z.cell 7 _ rfl
      have ug7 := PF.z.fz 7
      have t8 := PF.ch.cell 8 _ rfl
      have u8 := PF.z.cell 8 _ rfl
      have ug8 := PF.z.fz 8
      have t9 := PF.ch.cell 9 _ rfl
      have u9 := PF.z.cell 9 _ rfl
      have ug9 := PF.z.fz 9
      have t10 := PF.ch.cell 10 _ rfl
      have u10 := PF.z.cell 10 _ rfl
      have ug10 := PF.z.fz 10
      have hok := PF.rd.ok
      rw [HOK.out] at hok
      have PNE := PF.ne
      cases hform : formD bd with
      | false =>
        rw [hform] at hok
        have HP2 : Hid (parseM bs = (2, Ck.zero, 0)) := by show _ = _; rw [HP.out, HRD.out, hform]; rfl
        go_wp2_with fail
        refine bodyPost_ret_by (results_cell3 rfl _ _ _ ⟨w.heap.size, 0, none⟩ zeroV rfl ?_) rfl ?_
        · go_simp
          rfl
        rw [HP2.out]
        first
          | refine ⟨Ck.zero, _, _, _, isl, isl, isl, rfl, CkOwn.zero _ _, ?_⟩
          | refine ⟨Ck.zero, _, isl, _, isl, _, isl, rfl, CkOwn.zero _ _, ?_⟩
        repeat refine Below.setCell ?_ (by simp) _
        exact PF.bel
      | true =>
        rw [hform] at hok
        have HP1 : Hid (parseM bs = if wrongM ⟨1, be bd 0, sv, mv, pv, (f % 2 == 1), (f / 2 == 1), l7, [], 0, []⟩ ≠ 0 then (wrongM ⟨1, be bd 0, sv, mv, pv, (f % 2 == 1), (f / 2 == 1), l7, [], 0, []⟩, Ck.zero, 0) else (0, ⟨1, be bd 0, sv, mv, pv, (f % 2 == 1), (f / 2 == 1), l7, [], 0, []⟩, 2 + x1)) := by show _ = _; rw [HP.out, HRD.out, hform]; rfl
        have HV3 := OWN.v
        simp only [ckVal] at HV3
        go_wp2_with fail
        refine (rwrong_any _ _ _ HV3).mono ?_
        rintro e wq ⟨rfl, bq⟩
        have zz3 := PF.z.below bq (World.block_lt_of_cell? _ _ u0)
        have ch3 := PF.ch.below bq (World.block_lt_of_cell? _ _ t0)
        have bel3 : Below w.heap.size w wq := PF.bel.trans (bq.mono PF.bel.size)
        have own3 := ownBelow OWN bq
        clear t0 u0 ug0 t1 u1 ug1 t2 u2 ug2 t3 u3 ug3 t4 u4 ug4 t5 u5 ug5 t6 u6 ug6 t7 u7 ug7 t8 u8 ug8 t9 u9 ug9 t10 u10 ug10 HV3 hok
        have t0 := ch3.cell 0 _ rfl
        have u0 := zz3.cell 0 _ rfl
        have ug0 := zz3.fz 0
        have t1 := ch3.cell 1 _ rfl
        have u1 := zz3.cell 1 _ rfl
        have ug1 := zz3.fz 1
        have t2 := ch3.cell 2 _ rfl
        have u2 := zz3.cell 2 _ rfl
        have ug2 := zz3.fz 2
        have t3 := ch3.cell 3 _ rfl
        have u3 := zz3.cell 3 _ rfl
        have ug3 := zz3.fz 3
        have t4 := ch3.cell 4 _ rfl
        have u4 := zz3.cell 4 _ rfl
        have ug4 := zz3.fz 4
        have t5 := ch3.cell 5 _ rfl
        have u5 := zz3.cell 5 _ rfl
        have ug5 := zz3.fz 5
        have t6 := ch3.cell 6 _ rfl
        have u6 := zz3.cell 6 _ rfl
        have ug6 := zz3.fz 6
        have t7 := ch3.cell 7 _ rfl
        have u7 := zz3.cell 7 _ rfl
        have ug7 := zz3.fz 7
        have t8 := ch3.cell 8 _ rfl
        have u8 := zz3.cell 8 _ rfl
        have ug8 := zz3.fz 8
        have t9 := ch3.cell 9 _ rfl
        have u9 := zz3.cell 9 _ rfl
        have ug9 := zz3.fz 9
        have t10 := ch3.cell 10 _ rfl
        have u10 := zz3.cell 10 _ rfl
        have ug10 := zz3.fz 10
        generalize hWM : wrongM ⟨1, be bd 0, sv, mv, pv, (f % 2 == 1), (f / 2 == 1), l7, [], 0, []⟩ = wm at *
        by_cases hw0 : wm = 0
        · have HP2 : Hid (parseM bs = (0, ⟨1, be bd 0, sv, mv, pv, (f % 2 == 1), (f / 2 == 1), l7, [], 0, []⟩, 2 + x1)) := by show _ = _; rw [HP1.out, if_neg (by simpa using hw0)]
          rw [hw0]
          clear HP1 hw0 hWM
          go_wp2_with fail
          refine bodyPost_ret_by (results_cell3 rfl _ _ _ ⟨w.heap.size, 0, none⟩ (ckVal ⟨1, be bd 0, sv, mv, pv, (f % 2 == 1), (f / 2 == 1), l7, [], 0, []⟩ (.slice a9 l7.length c9) (.slice none 0 0) (.slice none 0 0)) rfl ?_) rfl ?_
          · go_simp
            rfl
          rw [HP2.out]
          first
            | refine ⟨⟨1, be bd 0, sv, mv, pv, (f % 2 == 1), (f / 2 == 1), l7, [], 0, []⟩, _, _, _, isl, isl, isl, rfl, ?_, ?_⟩
            | refine ⟨⟨1, be bd 0, sv, mv, pv, (f % 2 == 1), (f / 2 == 1), l7, [], 0, []⟩, _, isl, _, isl, _, isl, rfl, ?_, ?_⟩
          · refine CkOwn.low (CkOwn.keep (S := fun k => k ≠ w.heap.size) own3 ?_ (fun k hk => by omega)) (by omega)
            repeat refine Keep.setCell ?_ (by simp) _
            exact Keep.refl _ _
          · repeat refine Below.setCell ?_ (by simp) _
            exact bel3
        · have HP2 : Hid (parseM bs = (wm, Ck.zero, 0)) := by show _ = _; rw [HP1.out, if_pos hw0]
          have hwn : (wm != 0) = true := by simpa using hw0
          clear HP1 hWM
          go_wp2_with fail
          refine bodyPost_ret_by (results_cell3 rfl _ _ _ ⟨w.heap.size, 0, none⟩ zeroV rfl ?_) rfl ?_
          · go_simp
            rfl
          rw [HP2.out]
          first
            | refine ⟨Ck.zero, _, _, _, isl, isl, isl, rfl, CkOwn.zero _ _, ?_⟩
            | refine ⟨Ck.zero, _, isl, _, isl, _, isl, rfl, CkOwn.zero _ _, ?_⟩
          repeat refine Below.setCell ?_ (by simp) _
          exact bel3
end Go.Proofs.Ytnddejdndipddab
