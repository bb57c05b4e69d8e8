/- The walk of ChunkTurns. -/
import Derived.Test.YtnddejdndipddaaCkX
set_option maxRecDepth 20000
namespace Go.Proofs.Ytnddejdndipddaa
open Go.RowKit

theorem CkOwn.eqs {base : Nat} {w : World} {c m : Ck} {d s k : Value} (h : CkOwn base w (ckVal c d s k) m) : c.kind = m.kind ∧ c.tag = m.tag := by
  obtain ⟨d2, s2, k2, e, -⟩ := h
  simp only [ckVal, Value.agg.injEq, Array.mk.injEq, List.cons.injEq, Value.int.injEq, true_and] at e
  exact ⟨e.1, e.2.1⟩

theorem By.drewN {B : Nat} {w : World} {v : Value} {bs : List Int} (h : By B w v bs) (n : Nat) : By B (w.drewN n) v bs := h.below (B' := B) ⟨rfl, rfl, rfl, Nat.le_refl _, fun _ _ => rfl⟩ (Nat.le_refl _)

theorem run_re_h (a : Option Addr) (n cap hi : Nat) (z : Int) (hz : z = (hi : Int)) (h : hi ≤ n) (h' : n ≤ cap) (wx : World) : (Instr.slice 36 (.slice a n cap) none (some (.int .i64 z)) none).run Try.prog wx = .ok (.slice a hi cap) wx := by
  subst hz
  have h1 : (0 : Int) ≤ hi := by omega
  have h2 : (hi : Int) ≤ cap := by omega
  rw [run_slice_h wx 36 a n cap Try.underlying36 .i64 (hi : Int) h1 h2]
  go_simp

theorem By.head {B : Nat} {w : World} {a : Option Addr} {n cap : Nat} {bs : List Int} (h : By B w (.slice a n cap) bs) (d : Nat) (h2 : d ≤ bs.length) : By B w (.slice a d cap) (bs.take d) := by
  have := h.re 0 d (by omega)
  rw [List.drop_zero, Nat.sub_zero] at this
  have e : reK 1 a cap 0 = a := by simp [reK, Addr.add]
  rwa [e] at this

set_option maxHeartbeats 2000000 in
theorem turns_walk (v vb : Value) (c : Ck) (bs : List Int) (w : World) (hv : CkV w.heap.size w v c) (hb : By w.heap.size w vb bs) (hl : bs.length ≤ 140737488351232) :
    Calls Try.prog 8 #[v, vb] w fun e w' => e = .returned (.bool true) ∧ Below w.heap.size w w' := by
  have HV := fun o => hv.boxed o
  have HB0 := fun o => box_below w o
  obtain ⟨d, s, k, rfl, -, -, -⟩ := hv
  have hbe := hb.ex
  obtain ⟨a, cap, rfl, l1, l2⟩ := hbe
  simp only [ckVal] at HV ⊢
  go_enter Try.func8, Try.ntmps8
  go_wp2_with fail
  refine (alive2_any _).mono ?_
  rintro e w1 ⟨rfl, b1⟩
  have HV1 := (HV _).size b1 (Nat.le_refl _)
  have B1 := (HB0 _).trans (b1.mono (HB0 _).size)
  have CX1 := (Cells.new w #[.int .i64 c.kind, .int .i64 c.tag, .int .i64 c.stream, .int .i64 c.mid, .int .i64 c.part, .bool c.last, .bool c.ordered, d, s, .int .i64 c.room, k] 39).below b1 (by simp)
  have x0 := CX1.cell 0 _ rfl
  have x1 := CX1.cell 1 _ rfl
  have x2 := CX1.cell 2 _ rfl
  have x3 := CX1.cell 3 _ rfl
  have x4 := CX1.cell 4 _ rfl
  have x5 := CX1.cell 5 _ rfl
  have x6 := CX1.cell 6 _ rfl
  have x7 := CX1.cell 7 _ rfl
  have x8 := CX1.cell 8 _ rfl
  have x9 := CX1.cell 9 _ rfl
  have x10 := CX1.cell 10 _ rfl
  clear HV HB0 b1
  by_cases hw : wrongM c = 0
  · go_wp2_with fail
    refine (bytes_any _ c _ HV1 hw).mono ?_
    rintro e w2 ⟨v2, rfl, by2, b2⟩
    obtain ⟨a2, cap2, rfl, -, -⟩ := by2.ex
    have hlen2 : (bytesM c).length ≤ 36 := by have := body_len hw; simp [bytesM]; omega
    have B2 := B1.trans (b2.mono B1.size)
    have CX2 := CX1.below b2 (World.block_lt_of_cell? _ _ (CX1.cell 0 _ rfl))
    clear x0 x1 x2 x3 x4 x5 x6 x7 x8 x9 x10
    have hw2 : w.heap.size < w2.heap.size := World.block_lt_of_cell? _ _ (CX2.cell 0 _ rfl)
    have h0 : (w2.alloc (.cells #[] 5)).ownsRow w2.heap.size 5 1 (.slice (some ⟨w2.heap.size, 0, none⟩) 0 0) 0 [] := World.ownsRow_lit w2 #[] 0 (Nat.le_refl _) (by unfold maxLen; omega) rfl
    have hx := by2.below (box_below w2 (.cells #[] 5)) (Nat.le_refl _)
    have HQ : ∀ v' w3, w3.ownsRow w2.heap.size 5 1 v' (0 + (bytesM c).length) ([] ++ cellsB (bytesM c)) → (w2.alloc (.cells #[] 5)).grownBy w3 (Value.slice (some ⟨w2.heap.size, 0, none⟩) 0 0).ownBlock → w3.ownsRow w2.heap.size 5 1 v' (bytesM c).length (cellsB (bytesM c)) ∧ Below w2.heap.size w2 w3 := by
      intro v' w3 o g
      rw [List.nil_append, Nat.zero_add] at o
      exact ⟨o, (box_below w2 (.cells #[] 5)).grown g (by simp) (fun k hk => by simp [Value.ownBlock] at hk; omega)⟩
    have HQ2 : ∀ v' w3 v'' w4, w3.ownsRow w2.heap.size 5 1 v' (bytesM c).length (cellsB (bytesM c)) → Below w2.heap.size w2 w3 → w4.ownsRow w2.heap.size 5 1 v'' ((bytesM c).length + bs.length) (cellsB (bytesM c) ++ cellsB bs) → w3.grownBy w4 v'.ownBlock → By w4.heap.size w4 v'' (bytesM c ++ bs) ∧ Below w2.heap.size w2 w4 := by
      intro v' w3 v'' w4 o3 b3 o4 g4
      rw [← cellsB_append, ← List.length_append] at o4
      exact ⟨⟨Rw.own o4 (by simp [cellsB]), by2.2.append hb.2⟩, b3.grown g4 b3.size (fun k hk => (o3.lt k hk).1)⟩
    have hb3 : ∀ w3, Below w2.heap.size w2 w3 → By w.heap.size w3 (.slice a bs.length cap) bs := fun w3 b3 => (hb.below B2 (Nat.le_refl _)).below b3 (Nat.le_of_lt hw2)
    go_wp2_with (first
      | (at_builtin; refine wpList_append_rw Try.underlying36 Try.info5 rfl (by decide) _ rfl (.tmp 26) (.tmp 27) rfl w2.heap.size (.slice (some ⟨w2.heap.size, 0, none⟩) 0 0) 0 [] rfl h0 _ (bytesM c).length (cellsB (bytesM c)) _ rfl hx.1 (cellsB_one _) (by unfold maxLen; omega) (by omega) (by simp) ?_; intro v3 w3 own3 grow3 at3; obtain ⟨O3, B3⟩ := HQ _ w3 own3 grow3; obtain ⟨a3, cap3, rfl⟩ := own_form O3; clear own3 grow3 at3)
      | (at_builtin; refine wpList_append_rw Try.underlying36 Try.info5 rfl (by decide) _ rfl (.tmp 28) (.tmp 29) rfl w2.heap.size (.slice a3 (bytesM c).length cap3) (bytesM c).length (cellsB (bytesM c)) rfl O3 _ bs.length (cellsB bs) _ rfl (hb3 w3 B3).1 (cellsB_one _) (by unfold maxLen; omega) (by omega) B3.size ?_; intro v4 w4 own4 grow4 at4; obtain ⟨Y4, B4⟩ := HQ2 _ w3 _ w4 O3 B3 own4 grow4; clear own4 grow4 at4)
      | fail)
    have PA := parse_any _ _ _ Y4
    rw [turn_there hw] at PA
    refine PA.mono ?_
    rintro e w5 ⟨c5, d5, s5, k5, ⟨ad, nd, cd, rfl⟩, ⟨as', ns, cs, rfl⟩, ⟨ak, nk, ck, rfl⟩, rfl, own5, b5⟩
    have B5 : Below w.heap.size w w5 := (B2.trans (B4.mono B2.size)).trans (b5.mono (Nat.le_trans B2.size B4.size))
    have CX5 := (CX2.below B4 hw2).below b5 (Nat.lt_of_lt_of_le hw2 B4.size)
    have HQ5 : Hid _ := own5.eqs
    have HNW : Hid _ := norm_wrong hw
    have bk := bytes_any _ (normM c) _ ((own5.alloc (.cells #[.int .i64 c5.kind, .int .i64 c5.tag, .int .i64 c5.stream, .int .i64 c5.mid, .int .i64 c5.part, .bool c5.last, .bool c5.ordered, .slice ad nd cd, .slice as' ns cs, .int .i64 c5.room, .slice ak nk ck] 39)).v) HNW.out.1
    rw [HNW.out.2.1] at bk
    have BA5 := box_below w5 (.cells #[.int .i64 c5.kind, .int .i64 c5.tag, .int .i64 c5.stream, .int .i64 c5.mid, .int .i64 c5.part, .bool c5.last, .bool c5.ordered, .slice ad nd cd, .slice as' ns cs, .int .i64 c5.room, .slice ak nk ck] 39)
    have CD5 := Cells.new w5 #[.int .i64 c5.kind, .int .i64 c5.tag, .int .i64 c5.stream, .int .i64 c5.mid, .int .i64 c5.part, .bool c5.last, .bool c5.ordered, .slice ad nd cd, .slice as' ns cs, .int .i64 c5.room, .slice ak nk ck] 39
    have Y2 := (by2.below B4 (Nat.le_refl _)).below b5 B4.size
    have hw5 : w.heap.size < w5.heap.size := World.block_lt_of_cell? _ _ (CX5.cell 0 _ rfl)
    simp only [ckVal] at bk ⊢
    clear PA h0 hx HQ HQ2 Y4 own5 O3 CX2
    go_wp2_with fail
    refine bk.mono ?_
    rintro e w9 ⟨v9, rfl, by9, b9⟩
    obtain ⟨a9, cap9, rfl, -, -⟩ := by9.ex
    have T9 := by9.str
    have T2 := ((Y2.below BA5 (by have := B4.size; have := b5.size; omega)).below b9 (by have := B4.size; have := b5.size; have := BA5.size; omega)).str
    have CX9 := (CX5.below BA5 hw5).below b9 (by have := BA5.size; omega)
    have CD9 := CD5.below b9 (by simp)
    have BL9 : Below w.heap.size w w9 := (B5.trans (BA5.mono B5.size)).trans (b9.mono (Nat.le_trans B5.size BA5.size))
    have p0 := CX9.cell 0 _ rfl
    have p1 := CX9.cell 1 _ rfl
    have q0 := CD9.cell 0 _ rfl
    have q1 := CD9.cell 1 _ rfl
    rw [HQ5.out.1, HNW.out.2.2.1] at q0
    rw [HQ5.out.2, HNW.out.2.2.2] at q1
    clear bk CX5 CD5 CX9 CD9 by9 b9 HQ5 Y2 B5 B4 b5 BA5 HNW by2
    go_wp2_with fail
    clear p0 p1 q0 q1 T9 T2
    have Y9 : By w9.heap.size w9 (.slice a bs.length cap) bs := hb.size BL9 (Nat.le_refl _)
    have TB := turn_back hb.2
    refine (parse_any _ bs _ Y9).mono ?_
    rintro e w10 ⟨c10, d10, s10, k10, ⟨ad0, nd0, cd0, rfl⟩, ⟨as0, ns0, cs0, rfl⟩, ⟨ak0, nk0, ck0, rfl⟩, rfl, own10, b10⟩
    have BL10 := BL9.trans (b10.mono BL9.size)
    have HQ10 : Hid _ := own10.eqs
    simp only [ckVal]
    generalize parseM bs = pm at *
    rcases TB with ⟨t1, t2, t3⟩ | ⟨t1, t2, t3, t4, t5⟩
    · have hne : (pm.1 != 0) = true := by simpa using t1
      have hk : c10.kind = 0 := by rw [HQ10.out.1, t3]; rfl
      have BLA := fun o => BL10.alloc BL10.size o
      rw [t2]
      clear t1 t2 t3 HQ10 own10 Y9
      go_wp2
      go_ret
      exact ⟨rfl, BLA _⟩
    · have bk0 := fun o => bytes_any _ pm.2.1 _ ((own10.alloc o).v) t2
      obtain ⟨n, hn⟩ : ∃ n : Nat, pm.2.2 = (n : Int) := ⟨pm.2.2.toNat, by omega⟩
      have hnl : n ≤ bs.length := by omega
      rw [t5, hn, Int.toNat_natCast] at bk0
      rw [t1, hn]
      have BLA := fun o => BL10.alloc BL10.size o
      simp only [ckVal] at bk0
      clear t1 t2 t3 t4 t5 hn HQ10 own10 Y9
      go_wp2_with fail
      refine (bk0 _).mono ?_
      rintro e w11 ⟨v11, rfl, by11, b11⟩
      have BL11 := (BLA _).trans (b11.mono (BLA _).size)
      obtain ⟨a11, cap11, rfl, -, -⟩ := by11.ex
      have T11 : ∀ q, (convert 36 9 (.slice a11 n cap11)).run Try.prog (w11.drewN q) = .ok (.string (strOfNums (bs.take n))) (w11.drewN q) := fun q => by
        have := (by11.drewN q).str
        rwa [show (bs.take n).length = n by simp; omega] at this
      have T12 := fun q => (((hb.below BL11 (Nat.le_refl _)).head n hnl).drewN q).str
      have hsl := run_re_h a bs.length cap n (n : Int) rfl hnl l1
      have f1 : (0 : Int) ≤ (n : Int) := by omega
      have f2 : (n : Int) ≤ (bs.length : Int) := by omega
      have f3 : (n : Int) ≤ (cap : Int) := by omega
      have BLD := fun q => below_drewN BL11 q
      clear bk0 BLA by11 b11 b10 BL10
      go_upto_region 13 with fail
      go_quiet (fail)
      go_wp2
      go_ret
      exact ⟨ret_bool (by simp), BLD _⟩
  · go_wp2_with fail
    refine (bytes_bad _ c _ HV1 hw).mono ?_
    rintro e w9 ⟨rfl, b9⟩
    have hnz : (wrongM c == 0) = false := by simpa using hw
    have BL9 := B1.trans (b9.mono B1.size)
    clear CX1 HV1 x0 x1 x2 x3 x4 x5 x6 x7 x8 x9 x10
    go_wp2_with fail
    have Y9 : By w9.heap.size w9 (.slice a bs.length cap) bs := hb.size BL9 (Nat.le_refl _)
    have TB := turn_back hb.2
    refine (parse_any _ bs _ Y9).mono ?_
    rintro e w10 ⟨c10, d10, s10, k10, ⟨ad0, nd0, cd0, rfl⟩, ⟨as0, ns0, cs0, rfl⟩, ⟨ak0, nk0, ck0, rfl⟩, rfl, own10, b10⟩
    have BL10 := BL9.trans (b10.mono BL9.size)
    have HQ10 : Hid _ := own10.eqs
    simp only [ckVal]
    generalize parseM bs = pm at *
    rcases TB with ⟨t1, t2, t3⟩ | ⟨t1, t2, t3, t4, t5⟩
    · have hne : (pm.1 != 0) = true := by simpa using t1
      have hk : c10.kind = 0 := by rw [HQ10.out.1, t3]; rfl
      have BLA := fun o => BL10.alloc BL10.size o
      rw [t2]
      clear t1 t2 t3 HQ10 own10 Y9
      go_wp2
      go_ret
      exact ⟨rfl, BLA _⟩
    · have bk0 := fun o => bytes_any _ pm.2.1 _ ((own10.alloc o).v) t2
      obtain ⟨n, hn⟩ : ∃ n : Nat, pm.2.2 = (n : Int) := ⟨pm.2.2.toNat, by omega⟩
      have hnl : n ≤ bs.length := by omega
      rw [t5, hn, Int.toNat_natCast] at bk0
      rw [t1, hn]
      have BLA := fun o => BL10.alloc BL10.size o
      simp only [ckVal] at bk0
      clear t1 t2 t3 t4 t5 hn HQ10 own10 Y9
      go_wp2_with fail
      refine (bk0 _).mono ?_
      rintro e w11 ⟨v11, rfl, by11, b11⟩
      have BL11 := (BLA _).trans (b11.mono (BLA _).size)
      obtain ⟨a11, cap11, rfl, -, -⟩ := by11.ex
      have T11 : ∀ q, (convert 36 9 (.slice a11 n cap11)).run Try.prog (w11.drewN q) = .ok (.string (strOfNums (bs.take n))) (w11.drewN q) := fun q => by
        have := (by11.drewN q).str
        rwa [show (bs.take n).length = n by simp; omega] at this
      have T12 := fun q => (((hb.below BL11 (Nat.le_refl _)).head n hnl).drewN q).str
      have hsl := run_re_h a bs.length cap n (n : Int) rfl hnl l1
      have f1 : (0 : Int) ≤ (n : Int) := by omega
      have f2 : (n : Int) ≤ (bs.length : Int) := by omega
      have f3 : (n : Int) ≤ (cap : Int) := by omega
      have BLD := fun q => below_drewN BL11 q
      clear bk0 BLA by11 b11 b10 BL10
      go_upto_region 13 with fail
      go_quiet (fail)
      go_wp2
      go_ret
      exact ⟨ret_bool (by simp), BLD _⟩
end Go.Proofs.Ytnddejdndipddaa
