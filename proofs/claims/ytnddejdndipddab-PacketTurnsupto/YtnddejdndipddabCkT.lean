/- The contract of Parse, of package chunk. -/
import Derived.Test.YtnddejdndipddabCkS
set_option maxRecDepth 20000
namespace Go.Proofs.Ytnddejdndipddab
open Go.RowKit

theorem run_re_lh (a : Option Addr) (n cap lo d : Nat) (z : Int) (hz : z = (lo : Int) + d) (h : lo + d ≤ n) (h' : n ≤ cap) (wx : World) : (Instr.slice 23 (.slice a n cap) (some (.int .i64 (lo : Int))) (some (.int .i64 z)) none).run Try.prog wx = .ok (.slice (reK 1 a cap lo) d (cap - lo)) wx := by
  subst hz
  have h1 : (0 : Int) ≤ lo := by omega
  have h2 : (lo : Int) ≤ lo + d := by omega
  have h3 : (lo : Int) + d ≤ cap := by omega
  rw [run_slice_lh wx 23 a n cap Try.underlying23 .i64 .i64 (lo : Int) ((lo : Int) + d) h1 h2 h3]
  go_simp
  simp [reK]
  omega

theorem parse_end {bs : List Int} (h : bs.length < 2 ∨ (bs.length : Int) - 2 < bs.getD 1 0) : parseM bs = (8, Ck.zero, 0) := by rw [parseM, if_pos h]
theorem parse_read {bs : List Int} (h : ¬ (bs.length < 2 ∨ (bs.length : Int) - 2 < bs.getD 1 0)) : parseM bs = (if (readM (bs.getD 0 0) ((bs.drop 2).take (bs.getD 1 0).toNat)).1 ≠ 0 then ((readM (bs.getD 0 0) ((bs.drop 2).take (bs.getD 1 0).toNat)).1, Ck.zero, 0) else
    if wrongM (readM (bs.getD 0 0) ((bs.drop 2).take (bs.getD 1 0).toNat)).2 ≠ 0 then (wrongM (readM (bs.getD 0 0) ((bs.drop 2).take (bs.getD 1 0).toNat)).2, Ck.zero, 0) else (0, (readM (bs.getD 0 0) ((bs.drop 2).take (bs.getD 1 0).toNat)).2, 2 + bs.getD 1 0)) := by rw [parseM, if_neg h]

theorem cells11 {X : Nat} {w : World} {u0 u1 u2 u3 u4 u5 u6 u7 u8 u9 u10 : Value} (h : Cells X w [u0, u1, u2, u3, u4, u5, u6, u7, u8, u9, u10]) : w.cell? ⟨X, 0, none⟩ = some u0 ∧ w.cell? ⟨X, 1, none⟩ = some u1 ∧ w.cell? ⟨X, 2, none⟩ = some u2 ∧ w.cell? ⟨X, 3, none⟩ = some u3 ∧ w.cell? ⟨X, 4, none⟩ = some u4 ∧ w.cell? ⟨X, 5, none⟩ = some u5 ∧ w.cell? ⟨X, 6, none⟩ = some u6 ∧ w.cell? ⟨X, 7, none⟩ = some u7 ∧ w.cell? ⟨X, 8, none⟩ = some u8 ∧ w.cell? ⟨X, 9, none⟩ = some u9 ∧ w.cell? ⟨X, 10, none⟩ = some u10 ∧ w.frozen? ⟨X, 0, none⟩ = false ∧ w.frozen? ⟨X, 1, none⟩ = false ∧ w.frozen? ⟨X, 2, none⟩ = false ∧ w.frozen? ⟨X, 3, none⟩ = false ∧ w.frozen? ⟨X, 4, none⟩ = false ∧ w.frozen? ⟨X, 5, none⟩ = false ∧ w.frozen? ⟨X, 6, none⟩ = false ∧ w.frozen? ⟨X, 7, none⟩ = false ∧ w.frozen? ⟨X, 8, none⟩ = false ∧ w.frozen? ⟨X, 9, none⟩ = false ∧ w.frozen? ⟨X, 10, none⟩ = false :=
  ⟨h.cell 0 _ rfl, h.cell 1 _ rfl, h.cell 2 _ rfl, h.cell 3 _ rfl, h.cell 4 _ rfl, h.cell 5 _ rfl, h.cell 6 _ rfl, h.cell 7 _ rfl, h.cell 8 _ rfl, h.cell 9 _ rfl, h.cell 10 _ rfl, h.fz 0, h.fz 1, h.fz 2, h.fz 3, h.fz 4, h.fz 5, h.fz 6, h.fz 7, h.fz 8, h.fz 9, h.fz 10⟩

theorem ownBelow {base : Nat} {w w' : World} {v : Value} {c : Ck} (h : CkOwn base w v c) (b : Below w.heap.size w w') : CkOwn base w' v c := by
  obtain ⟨d, s, k, rfl, h1, h2, h3, h4, h5⟩ := h
  exact ⟨d, s, k, rfl, own_of_block h1 fun j hj => b.block j (h1.lt j hj).2, own_of_block h2 fun j hj => b.block j (h2.lt j hj).2, own_of_block h3 fun j hj => b.block j (h3.lt j hj).2, h4, h5⟩
theorem CkOwn.alloc {base : Nat} {w : World} {v : Value} {c : Ck} (h : CkOwn base w v c) (o : Obj) : CkOwn base (w.alloc o) v c := by
  obtain ⟨d, s, k, rfl, h1, h2, h3, h4, h5⟩ := h
  exact ⟨d, s, k, rfl, h1.alloc o, h2.alloc o, h3.alloc o, h4, h5⟩

/-- How it stands when the chunk was read, and lies in block X. -/
structure ParseR (w : World) (X : Nat) (c : Ck) (d s k : Value) (m : Ck) (wx : World) : Prop where
  ch : Cells X wx [.int .i64 c.kind, .int .i64 c.tag, .int .i64 c.stream, .int .i64 c.mid, .int .i64 c.part, .bool c.last, .bool c.ordered, d, s, .int .i64 c.room, k]
  z : Cells w.heap.size wx zeroL
  own : CkOwn (w.heap.size + 1) wx (ckVal c d s k) m
  bel : Below w.heap.size w wx
  ne : w.heap.size < X

set_option maxHeartbeats 2000000 in
theorem parse_any (v : Value) (bs : List Int) (w : World) (hv : By w.heap.size w v bs) :
    Calls Try.prog 31 #[v] w fun e w' => ∃ c d s k, IsSl d ∧ IsSl s ∧ IsSl k ∧ e = .returned (.tuple #[ckVal c d s k, .int .i64 (parseM bs).2.2, .int .i64 (parseM bs).1]) ∧ CkOwn w.heap.size w' (ckVal c d s k) (parseM bs).2.1 ∧ Below w.heap.size w w' := by
  have HV := hv
  obtain ⟨a, cap, rfl, h1, h2⟩ := hv.ex
  have HB := fun o => box_below w o
  by_cases g : bs.length < 2
  · have HP : Hid _ := parse_end (.inl g)
    clear hv
    go_enter Try.func31, Try.ntmps31
    go_wp2_with fail
    refine bodyPost_ret_by (results_cell3 rfl _ _ _ ⟨w.heap.size, 0, none⟩ zeroV rfl ?_) rfl ?_
    · go_simp
      rfl
    rw [HP.out]
    first | exact ⟨Ck.zero, _, _, _, isl, isl, isl, rfl, CkOwn.zero _ _, HB _⟩ | exact ⟨Ck.zero, _, isl, _, isl, _, isl, rfl, CkOwn.zero _ _, HB _⟩
  · obtain ⟨b1, o1, hb1, hix1, hc1⟩ := HV.at 1 (by omega)
    obtain ⟨b0, o0, hb0, hix0, hc0⟩ := HV.at 0 (by omega)
    have ix1 : ∀ wx, (Instr.indexAt 23 (.slice a bs.length cap) (.int .i64 1)).run Try.prog wx = .ok (.pointer (some ⟨b1, o1, none⟩)) wx := hix1
    have ix0 : ∀ wx, (Instr.indexAt 23 (.slice a bs.length cap) (.int .i64 0)).run Try.prog wx = .ok (.pointer (some ⟨b0, o0, none⟩)) wx := hix0
    clear hix1 hix0
    have r1 := HV.2.get 1 (by omega)
    have r0 := HV.2.get 0 (by omega)
    have e1 : bs.getD 1 0 = bs[1] := by simp [show 1 < bs.length by omega]
    have e0 : bs.getD 0 0 = bs[0] := by simp [show 0 < bs.length by omega]
    have ra := r0.1
    have rb := r0.2
    have W0 : IntKind.i64.wrap bs[0] = bs[0] := by simp [IntKind.wrap, IntKind.signed, IntKind.bits]; omega
    have C1 := fun o => new_at hc1 o
    have C0 := fun o => new_at hc0 o
    by_cases g2 : (bs.length : Int) - 2 < bs.getD 1 0
    · have HP : Hid _ := parse_end (.inr g2)
      rw [e1] at g2
      clear e1 e0
      generalize bs[1] = x1 at *
      clear hv
      go_enter Try.func31, Try.ntmps31
      go_wp2_with fail
      refine bodyPost_ret_by (results_cell3 rfl _ _ _ ⟨w.heap.size, 0, none⟩ zeroV rfl ?_) rfl ?_
      · go_simp
        rfl
      rw [HP.out]
      first | exact ⟨Ck.zero, _, _, _, isl, isl, isl, rfl, CkOwn.zero _ _, HB _⟩ | exact ⟨Ck.zero, _, isl, _, isl, _, isl, rfl, CkOwn.zero _ _, HB _⟩
    · have HP : Hid _ := parse_read (not_or.2 ⟨g, g2⟩)
      have HY := HV.re 2 (bs.getD 1 0).toNat (by rw [e1] at g2 ⊢; omega)
      have hsl : ∀ wx, (Instr.slice 23 (.slice a bs.length cap) (some (.int .i64 2)) (some (.int .i64 ((2 : Int) + bs[1]))) none).run Try.prog wx = .ok (.slice (reK 1 a cap 2) (bs.getD 1 0).toNat (cap - 2)) wx :=
        run_re_lh a bs.length cap 2 (bs.getD 1 0).toNat ((2 : Int) + bs[1]) (by rw [e1]; omega) (by rw [e1] at g2 ⊢; omega) h1
      have hlb : (((bs.drop 2).take (bs.getD 1 0).toNat)).length ≤ 255 := by rw [e1]; simp; omega
      have HR := fun wx (hx : Below w.heap.size w wx) => read_any (bs.getD 0 0) _ _ wx ((HY.below hx (Nat.le_refl _)).mono hx.size) hlb
      have CX : ∀ wx, Below w.heap.size w wx → wx.cell? ⟨b0, o0, none⟩ = some (.int .u8 bs[0]) := fun wx hx => (hx.cell (p := ⟨b0, o0, none⟩) hb0).trans hc0
      rw [e1] at g2 HP HY hsl
      rw [e0] at HP
      simp only [e0, e1] at HR
      clear e1 e0 hv HV hlb
      generalize hm : readM bs[0] ((bs.drop 2).take (bs[1]).toNat) = rm at *
      clear hm
      generalize bs[1] = x1 at *
      generalize bs[0] = x0 at *
      go_enter Try.func31, Try.ntmps31
      go_upto_region 4 with fail
      go_cut [6, 7] from 27 to 37 (fun s6 s7 wx => ∃ X c ad nd cd as' ns cs ak nk ck, s6 = .pointer (some ⟨X, 0, none⟩) ∧ s7 = .int .i64 rm.1 ∧ ParseR w X c (.slice ad nd cd) (.slice as' ns cs) (.slice ak nk ck) rm.2 wx)
      case first =>
        have BR := Below.refl w.heap.size w
        have N1 : ¬ b0 = w.heap.size + 1 := by omega
        have N0 : ¬ b0 = w.heap.size := by omega
        clear HP g2 h1 h2 HY hb1 hc1 C1 ix1
        have CN : Cells (w.heap.size + 1) ((w.alloc (.cells #[.int .i64 0, .int .i64 0, .int .i64 0, .int .i64 0, .int .i64 0, .bool false, .bool false, .slice none 0 0, .slice none 0 0, .int .i64 0, .slice none 0 0] 45)).alloc (.cells #[.int .i64 0, .int .i64 0, .int .i64 0, .int .i64 0, .int .i64 0, .bool false, .bool false, .slice none 0 0, .slice none 0 0, .int .i64 0, .slice none 0 0] 45)).drew zeroL := ⟨(Cells.new' _ _ (by simp)).cell, (Cells.new' _ _ (by simp)).fz⟩
        have CZ1 : Cells w.heap.size (w.alloc (.cells #[.int .i64 0, .int .i64 0, .int .i64 0, .int .i64 0, .int .i64 0, .bool false, .bool false, .slice none 0 0, .slice none 0 0, .int .i64 0, .slice none 0 0] 45)).drew zeroL := ⟨(Cells.new w _ _).cell, (Cells.new w _ _).fz⟩
        have CZ2 : Cells w.heap.size ((w.alloc (.cells #[.int .i64 0, .int .i64 0, .int .i64 0, .int .i64 0, .int .i64 0, .bool false, .bool false, .slice none 0 0, .slice none 0 0, .int .i64 0, .slice none 0 0] 45)).alloc (.cells #[.int .i64 0, .int .i64 0, .int .i64 0, .int .i64 0, .int .i64 0, .bool false, .bool false, .slice none 0 0, .slice none 0 0, .int .i64 0, .slice none 0 0] 45)).drew zeroL := ⟨((Cells.new w _ _).alloc (by simp) _).cell, ((Cells.new w _ _).alloc (by simp) _).fz⟩
        have hCN : w.heap.size + 1 < ((w.alloc (.cells #[.int .i64 0, .int .i64 0, .int .i64 0, .int .i64 0, .int .i64 0, .bool false, .bool false, .slice none 0 0, .slice none 0 0, .int .i64 0, .slice none 0 0] 45)).alloc (.cells #[.int .i64 0, .int .i64 0, .int .i64 0, .int .i64 0, .int .i64 0, .bool false, .bool false, .slice none 0 0, .slice none 0 0, .int .i64 0, .slice none 0 0] 45)).drew.heap.size := by simp
        have BA : ∀ o, Below w.heap.size w (w.alloc o).drew := fun o => (HB o).drew
        have BB : ∀ o o', Below w.heap.size w ((w.alloc o).alloc o').drew := fun o o' => (two_below w o o').drew
        go_region_held3 (fun w' => w'.cell? ⟨b0, o0, none⟩ = some (.int .u8 x0)) (first | with_reducible exact hc2 | (simp only [World.cell?_drew]; with_reducible exact C0 _) | (refine CX _ ?_; (repeat refine Below.setCell ?_ (by simp) _); with_reducible exact B2) | go_keep) (first
          | (go_at_call 54; refine (HR _ (BA _)).mono ?_; rintro e w2 ⟨c, d, s, k, ⟨ad, nd, cd, rfl⟩, ⟨as', ns, cs, rfl⟩, ⟨ak, nk, ck, rfl⟩, rfl, own2, b2⟩; have B2 := (BA _).trans (b2.mono (BA _).size); have hc2 := CX _ B2; simp only [ckVal])
          | (go_at_call 54; refine (HR _ (BB _ _)).mono ?_; rintro e w2 ⟨c, d, s, k, ⟨ad, nd, cd, rfl⟩, ⟨as', ns, cs, rfl⟩, ⟨ak, nk, ck, rfl⟩, rfl, own2, b2⟩; have B2 := (BB _ _).trans (b2.mono (BB _ _).size); have hc2 := CX _ B2; obtain ⟨y0, y1, y2, y3, y4, y5, y6, y7, y8, y9, y10, yg0, yg1, yg2, yg3, yg4, yg5, yg6, yg7, yg8, yg9, yg10⟩ := cells11 (CN.below b2 hCN); simp only [ckVal]))
        · go_wp2_with fail
          go_meet
          refine ⟨w2.heap.size, c, ad, nd, cd, as', ns, cs, ak, nk, ck, rfl, rfl, ⟨Cells.new w2 _ _, ?_, (own2.low (by simp)).alloc _, B2.alloc B2.size _, ?_⟩⟩
          · exact (CZ1.below b2 (by simp)).alloc (by have := b2.size; simp at this; omega) _
          · have := b2.size; simp at this; omega
        · go_wp2_with fail
          go_meet
          refine ⟨w.heap.size + 1, c, ad, nd, cd, as', ns, cs, ak, nk, ck, rfl, rfl, ⟨?_, ?_, ?_, ?_, by omega⟩⟩
          · exact (((((((((((CN.below b2 hCN).set 0 _ (by simp)).set 1 _ (by simp)).set 2 _ (by simp)).set 3 _ (by simp)).set 4 _ (by simp)).set 5 _ (by simp)).set 6 _ (by simp)).set 7 _ (by simp)).set 8 _ (by simp)).set 9 _ (by simp)).set 10 _ (by simp)
          · refine (CZ2.below b2 (by simp; omega)).keep (S := fun k => k ≠ w.heap.size + 1) ?_ (by omega)
            repeat refine Keep.setCell ?_ (by simp) _
            exact Keep.refl _ _
          · refine CkOwn.low (CkOwn.keep (S := fun k => k ≠ w.heap.size + 1) (own2.low (base' := w.heap.size + 2) (by simp)) ?_ (fun k hk => by omega)) (by omega)
            repeat refine Keep.setCell ?_ (by simp) _
            exact Keep.refl _ _
          · repeat refine Below.setCell ?_ (by simp) _
            exact B2
      case rest =>
        obtain ⟨X, c, ad, nd, cd, as', ns, cs, ak, nk, ck, rfl, rfl, R⟩ := hcut
        have HV3 := R.own.v
        simp only [ckVal] at HV3
        have x0' := R.ch.cell 0 _ rfl
        have z0 := R.z.cell 0 _ rfl
        have zg0 := R.z.fz 0
        have x1' := R.ch.cell 1 _ rfl
        have z1 := R.z.cell 1 _ rfl
        have zg1 := R.z.fz 1
        have x2' := R.ch.cell 2 _ rfl
        have z2 := R.z.cell 2 _ rfl
        have zg2 := R.z.fz 2
        have x3' := R.ch.cell 3 _ rfl
        have z3 := R.z.cell 3 _ rfl
        have zg3 := R.z.fz 3
        have x4' := R.ch.cell 4 _ rfl
        have z4 := R.z.cell 4 _ rfl
        have zg4 := R.z.fz 4
        have x5' := R.ch.cell 5 _ rfl
        have z5 := R.z.cell 5 _ rfl
        have zg5 := R.z.fz 5
        have x6' := R.ch.cell 6 _ rfl
        have z6 := R.z.cell 6 _ rfl
        have zg6 := R.z.fz 6
        have x7' := R.ch.cell 7 _ rfl
        have z7 := R.z.cell 7 _ rfl
        have zg7 := R.z.fz 7
        have x8' := R.ch.cell 8 _ rfl
        have z8 := R.z.cell 8 _ rfl
        have zg8 := R.z.fz 8
        have x9' := R.ch.cell 9 _ rfl
        have z9 := R.z.cell 9 _ rfl
        have zg9 := R.z.fz 9
        have x10' := R.ch.cell 10 _ rfl
        have z10 := R.z.cell 10 _ rfl
        have zg10 := R.z.fz 10
        cases hz : decide (rm.1 = 0) with
        | false =>
          have hz' : ¬ rm.1 = 0 := by simpa using hz
          have hzb : (rm.1 == 0) = false := by simpa using hz'
          have hzn : (rm.1 != 0) = true := by simpa using hz'
          have HP2 : Hid (parseM bs = (rm.1, Ck.zero, 0)) := by show _ = _; rw [HP.out, if_pos hz']
          clear HP hz
          go_wp2_with fail
          refine bodyPost_ret_by (results_cell3 rfl _ _ _ ⟨w.heap.size, 0, none⟩ zeroV rfl ?_) rfl ?_
          · go_simp
            rfl
          rw [HP2.out]
          first
            | refine ⟨Ck.zero, _, _, _, isl, isl, isl, rfl, CkOwn.zero _ _, ?_⟩
            | refine ⟨Ck.zero, _, isl, _, isl, _, isl, rfl, CkOwn.zero _ _, ?_⟩
          repeat refine Below.setCell ?_ (by simp) _
          exact R.bel
        | true =>
          have hz' : rm.1 = 0 := by simpa using hz
          have HP1 : Hid (parseM bs = if wrongM rm.2 ≠ 0 then (wrongM rm.2, Ck.zero, 0) else (0, rm.2, 2 + x1)) := by show _ = _; rw [HP.out, if_neg (by simpa using hz')]
          rw [hz']
          clear HP hz hz'
          go_wp2_with fail
          refine (wrong_any _ rm.2 _ HV3).mono ?_
          rintro e w3 ⟨rfl, b3⟩
          have hw3 := b3.size
          have z3' := R.z.below b3 (World.block_lt_of_cell? _ _ z0)
          have ch3 := R.ch.below b3 (World.block_lt_of_cell? _ _ x0')
          have bel3 : Below w.heap.size w w3 := R.bel.trans (b3.mono (by have := R.bel.size; omega))
          clear x0' z0 zg0 x1' z1 zg1 x2' z2 zg2 x3' z3 zg3 x4' z4 zg4 x5' z5 zg5 x6' z6 zg6 x7' z7 zg7 x8' z8 zg8 x9' z9 zg9 x10' z10 zg10 HV3
          have x0' := ch3.cell 0 _ rfl
          have z0 := z3'.cell 0 _ rfl
          have zg0 := z3'.fz 0
          have x1' := ch3.cell 1 _ rfl
          have z1 := z3'.cell 1 _ rfl
          have zg1 := z3'.fz 1
          have x2' := ch3.cell 2 _ rfl
          have z2 := z3'.cell 2 _ rfl
          have zg2 := z3'.fz 2
          have x3' := ch3.cell 3 _ rfl
          have z3 := z3'.cell 3 _ rfl
          have zg3 := z3'.fz 3
          have x4' := ch3.cell 4 _ rfl
          have z4 := z3'.cell 4 _ rfl
          have zg4 := z3'.fz 4
          have x5' := ch3.cell 5 _ rfl
          have z5 := z3'.cell 5 _ rfl
          have zg5 := z3'.fz 5
          have x6' := ch3.cell 6 _ rfl
          have z6 := z3'.cell 6 _ rfl
          have zg6 := z3'.fz 6
          have x7' := ch3.cell 7 _ rfl
          have z7 := z3'.cell 7 _ rfl
          have zg7 := z3'.fz 7
          have x8' := ch3.cell 8 _ rfl
          have z8 := z3'.cell 8 _ rfl
          have zg8 := z3'.fz 8
          have x9' := ch3.cell 9 _ rfl
          have z9 := z3'.cell 9 _ rfl
          have zg9 := z3'.fz 9
          have x10' := ch3.cell 10 _ rfl
          have z10 := z3'.cell 10 _ rfl
          have zg10 := z3'.fz 10
          by_cases hw : wrongM rm.2 = 0
          · have HP2 : Hid (parseM bs = (0, rm.2, 2 + x1)) := by show _ = _; rw [HP1.out, if_neg (by simpa using hw)]
            have own3 : CkOwn (w.heap.size + 1) w3 (ckVal c (.slice ad nd cd) (.slice as' ns cs) (.slice ak nk ck)) rm.2 := ownBelow R.own b3
            rw [hw]
            clear HP1 hw
            go_wp2_with fail
            refine bodyPost_ret_by (results_cell3 rfl _ _ _ ⟨w.heap.size, 0, none⟩ (ckVal c (.slice ad nd cd) (.slice as' ns cs) (.slice ak nk ck)) rfl ?_) rfl ?_
            · go_simp
              rfl
            rw [HP2.out]
            first
              | refine ⟨c, _, _, _, isl, isl, isl, rfl, ?_, ?_⟩
              | refine ⟨c, _, isl, _, isl, _, isl, rfl, ?_, ?_⟩
            · refine CkOwn.low (CkOwn.keep (S := fun k => k ≠ w.heap.size) own3 ?_ (fun k hk => by omega)) (by omega)
              repeat refine Keep.setCell ?_ (by simp) _
              exact Keep.refl _ _
            · repeat refine Below.setCell ?_ (by simp) _
              exact bel3
          · have HP2 : Hid (parseM bs = (wrongM rm.2, Ck.zero, 0)) := by show _ = _; rw [HP1.out, if_pos hw]
            have hwn : (wrongM rm.2 != 0) = true := by simpa using hw
            clear HP1
            go_wp2_with fail
            refine bodyPost_ret_by (results_cell3 rfl _ _ _ ⟨w.heap.size, 0, none⟩ zeroV rfl ?_) rfl ?_
            · go_simp
              rfl
            rw [HP2.out]
            first
              | refine ⟨Ck.zero, _, _, _, isl, isl, isl, rfl, CkOwn.zero _ _, ?_⟩
              | refine ⟨Ck.zero, _, isl, _, isl, _, isl, rfl, CkOwn.zero _ _, ?_⟩
            repeat refine Below.setCell ?_ (by simp) _
            exact bel3
end Go.Proofs.Ytnddejdndipddab
