/- The contracts of sched's Own, New and Had. -/
import Derived.Test.YtnddejdndipddabScC
set_option maxRecDepth 20000
namespace Go.Proofs.Ytnddejdndipddab
open Go.RowKit

theorem drew_below (B : Nat) (w : World) : Below B w w.drew := ⟨rfl, rfl, rfl, Nat.le_refl _, fun _ _ => rfl⟩
theorem own_set {w : World} {base : Nat} {e : TypeId} {size : Nat} {v : Value} {n : Nat} {xs : List Value} (h : w.ownsRow base e size v n xs) {p : Addr} (hp : p.block < base) (u : Value) : (w.setCell p u).ownsRow base e size v n xs :=
  own_of_block h fun k hk => Below.heap_setCell _ _ _ _ (by have := (h.lt k hk).1; omega)

theorem Cells.past {X Y : Nat} {w : World} {l : List Value} (h : Cells X w l) (j : Nat) (u : Value) (hne : X ≠ Y) : Cells X (w.setCell ⟨Y, j, none⟩ u) l :=
  h.keep (S := fun k => k ≠ Y) (Keep.setCell (Keep.refl _ _) (p := ⟨Y, j, none⟩) (fun e => e rfl) u) hne

set_option maxHeartbeats 1000000 in
theorem own_any (v : Value) (s : Sd) (w : World) (hv : SdV w.heap.size w v s) (hl : s.had.length * 8 ≤ 140737488355328) :
    Calls Try.prog 27 #[v] w fun e w' => ∃ a c, e = .returned (.agg #[.int .i64 s.last, .int .i64 s.hand, .slice a s.had.length c]) ∧ w'.ownsRow (w.heap.size + 2) 3 1 (.slice a s.had.length c) s.had.length (cellsI s.had) ∧ Below w.heap.size w w' := by
  obtain ⟨d, rfl, hd⟩ := hv
  have HD := hd
  obtain ⟨ad, cd, rfl, -, -⟩ := hd.ex
  obtain ⟨last, hand, had⟩ := s
  simp only at HD hl ⊢
  go_enter Try.func27, Try.ntmps27
  go_wp2_with fail
  have B0 : Below w.heap.size w ((w.alloc (.cells #[.int .i64 last, .int .i64 hand, .slice ad had.length cd] 51)).alloc (.cells #[.int .i64 0, .int .i64 0, .slice none 0 0] 51)) := two_below w _ _
  have CX : Cells w.heap.size ((w.alloc (.cells #[.int .i64 last, .int .i64 hand, .slice ad had.length cd] 51)).alloc (.cells #[.int .i64 0, .int .i64 0, .slice none 0 0] 51)) [.int .i64 last, .int .i64 hand, .slice ad had.length cd] := (Cells.new w #[.int .i64 last, .int .i64 hand, .slice ad had.length cd] 51).alloc (by simp) _
  have CR : Cells (w.heap.size + 1) ((w.alloc (.cells #[.int .i64 last, .int .i64 hand, .slice ad had.length cd] 51)).alloc (.cells #[.int .i64 0, .int .i64 0, .slice none 0 0] 51)) [.int .i64 0, .int .i64 0, .slice none 0 0] := Cells.new' #[.int .i64 0, .int .i64 0, .slice none 0 0] 51 (by simp)
  have hz : ((w.alloc (.cells #[.int .i64 last, .int .i64 hand, .slice ad had.length cd] 51)).alloc (.cells #[.int .i64 0, .int .i64 0, .slice none 0 0] 51)).heap.size = w.heap.size + 2 := by simp
  generalize ((w.alloc (.cells #[.int .i64 last, .int .i64 hand, .slice ad had.length cd] 51)).alloc (.cells #[.int .i64 0, .int .i64 0, .slice none 0 0] 51)) = w0 at *
  have KX : ∀ wx, Below w0.heap.size w0 wx → wx.cell? ⟨w.heap.size, 0, none⟩ = some (.int .i64 last) ∧ wx.cell? ⟨w.heap.size, 1, none⟩ = some (.int .i64 hand) ∧ wx.cell? ⟨w.heap.size, 2, none⟩ = some (.slice ad had.length cd) := fun wx hx => by
    have h := CX.below hx (by omega)
    exact ⟨h.cell 0 _ rfl, h.cell 1 _ rfl, h.cell 2 _ rfl⟩
  have KR : ∀ wx, Below w0.heap.size w0 wx → wx.cell? ⟨w.heap.size + 1, 0, none⟩ = some (.int .i64 0) ∧ wx.cell? ⟨w.heap.size + 1, 1, none⟩ = some (.int .i64 0) ∧ wx.cell? ⟨w.heap.size + 1, 2, none⟩ = some (.slice none 0 0) ∧ (wx.frozen? ⟨w.heap.size + 1, 0, none⟩ = false ∧ wx.frozen? ⟨w.heap.size + 1, 1, none⟩ = false ∧ wx.frozen? ⟨w.heap.size + 1, 2, none⟩ = false) := fun wx hx => by
    have h := CR.below hx (by omega)
    exact ⟨h.cell 0 _ rfl, h.cell 1 _ rfl, h.cell 2 _ rfl, h.fz 0, h.fz 1, h.fz 2⟩
  have KS : ∀ wx u0 u1 u2, Below w0.heap.size w0 wx → (((wx.setCell ⟨w.heap.size + 1, 0, none⟩ u0).setCell ⟨w.heap.size + 1, 1, none⟩ u1).setCell ⟨w.heap.size + 1, 2, none⟩ u2).cell? ⟨w.heap.size, 0, none⟩ = some (.int .i64 last) ∧ (((wx.setCell ⟨w.heap.size + 1, 0, none⟩ u0).setCell ⟨w.heap.size + 1, 1, none⟩ u1).setCell ⟨w.heap.size + 1, 2, none⟩ u2).cell? ⟨w.heap.size, 1, none⟩ = some (.int .i64 hand) ∧ (((wx.setCell ⟨w.heap.size + 1, 0, none⟩ u0).setCell ⟨w.heap.size + 1, 1, none⟩ u1).setCell ⟨w.heap.size + 1, 2, none⟩ u2).cell? ⟨w.heap.size, 2, none⟩ = some (.slice ad had.length cd) := fun wx u0 u1 u2 hx => by
    have h := (((CX.below hx (by omega)).past (Y := w.heap.size + 1) 0 u0 (by omega)).past (Y := w.heap.size + 1) 1 u1 (by omega)).past (Y := w.heap.size + 1) 2 u2 (by omega)
    exact ⟨h.cell 0 _ rfl, h.cell 1 _ rfl, h.cell 2 _ rfl⟩
  have CL := clone_ints _ had w0.drew (((HD.below B0 (Nat.le_refl _)).below (drew_below w0.heap.size w0) (by omega)).mono (by show w.heap.size ≤ w0.heap.size; omega)) hl
  have X0 := KX _ (Below.refl _ _)
  go_region_held3 (fun w' => w'.cell? ⟨w.heap.size, 0, none⟩ = some (.int .i64 last) ∧ w'.cell? ⟨w.heap.size, 1, none⟩ = some (.int .i64 hand) ∧ w'.cell? ⟨w.heap.size, 2, none⟩ = some (.slice ad had.length cd)) (first | exact X1 | exact X0 | exact KS _ _ _ _ B1) (first
    | (go_at_call 45; refine CL.mono ?_; rintro e w1 ⟨a1, c1, rfl, own1, b1⟩; have B1 : Below w0.heap.size w0 w1 := (drew_below _ w0).trans b1; have X1 := KX _ B1; obtain ⟨r0, r1, r2, g0, g1, g2⟩ := KR _ B1))
  all_goals
    go_wp2_with fail
    have CE := (((CR.below B1 (by omega)).set 0 (.int .i64 last) (by simp)).set 1 (.int .i64 hand) (by simp)).set 2 (.slice a1 had.length c1) (by simp)
    have e0 := CE.cell 0 _ rfl
    have e1 := CE.cell 1 _ rfl
    have e2 := CE.cell 2 _ rfl
    refine bodyPost_ret (v := .agg #[.int .i64 last, .int .i64 hand, .slice a1 had.length c1]) (by simp [results, Try.results27, go_sem, e0, e1, e2]) rfl ⟨a1, c1, rfl, ?_, ?_⟩
    · have hz' : w.heap.size + 2 ≤ w0.drew.heap.size := by show _ ≤ w0.heap.size; omega
      exact own_set (own_set (own_set (own_low own1 hz') (by show _ + 1 < _; omega) _) (by show _ + 1 < _; omega) _) (by show _ + 1 < _; omega) _
    · exact (((B0.trans (B1.mono (by omega))).setCell (by show _ ≤ _ + 1; omega) _).setCell (by show _ ≤ _ + 1; omega) _).setCell (by show _ ≤ _ + 1; omega) _

set_option maxHeartbeats 400000 in
/-- Of so many streams. -/
theorem new_any (n : Nat) (w : World) (hn : n ≤ 2147483647) :
    Calls Try.prog 28 #[.int .i64 (n : Int)] w fun e w' => ∃ O, e = .returned (.agg #[.int .i64 ((n : Int) - 1), .int .i64 (-1), .slice (some ⟨O, 0, none⟩) n n]) ∧ Cells O w' (cellsI (List.replicate n 0)) ∧ w.heap.size ≤ O ∧ O < w'.heap.size ∧ Below w.heap.size w w' := by
  have NO := fun wx => noughts_any n wx hn
  go_enter Try.func28, Try.ntmps28
  go_wp2_with (go_at_call 46; refine (NO _).mono ?_; rintro e w' ⟨rfl, rfl⟩)
  have B2 : Below w.heap.size w ((w.alloc (.cells #[.int .i64 ((n : Int) - 1), .int .i64 (-1), .slice (some ⟨w.heap.size + 1, 0, none⟩) n n] 51)).alloc (.cells (madeCells #[.int .i64 0] n) 3)) := two_below w _ _
  have CC := Cells.new' (w := w.alloc (.cells #[.int .i64 ((n : Int) - 1), .int .i64 (-1), .slice (some ⟨w.heap.size + 1, 0, none⟩) n n] 51)) (X := w.heap.size + 1) (madeCells #[.int .i64 0] n) 3 (by simp)
  rw [toList_madeCells_one] at CC
  exact bodyPost_ret (v := .agg #[.int .i64 ((n : Int) - 1), .int .i64 (-1), .slice (some ⟨w.heap.size + 1, 0, none⟩) n n]) (by simp [results, Try.results28, go_sem]) rfl ⟨w.heap.size + 1, rfl, by simpa [cellsI] using CC, by omega, by simp, B2⟩

theorem own_cells {w : World} {base : Nat} {e : TypeId} {a : Option Addr} {n c : Nat} {xs : List Value} (h : w.ownsRow base e 1 (.slice a n c) n xs) (hn : 0 < n) : ∃ g, a = some ⟨g, 0, none⟩ ∧ base ≤ g ∧ g < w.heap.size ∧ Cells g w xs := by
  have h' := h
  rcases h.2 with ⟨_, h0⟩ | ⟨g, cap, cur, e1, h3, h4, h5⟩
  · omega
  · simp only [Value.slice.injEq] at e1
    obtain ⟨rfl, -, rfl⟩ := e1
    have hx := h.1
    refine ⟨g, rfl, h3, (Array.getElem?_eq_some_iff.1 h4).1, fun j u hu => ?_, fun j => by simp [World.frozen?, h4]⟩
    have hj : j < xs.length := (List.getElem?_eq_some_iff.1 hu).1
    exact (h'.cellAt j (by omega)).trans hu

theorem new_kept {w1 w3 : World} {cs : Array Value} {t : TypeId} (b3 : Below (w1.alloc (.cells cs t)).drew.heap.size (w1.alloc (.cells cs t)).drew w3) : Cells w1.heap.size w3 cs.toList ∧ Below w1.heap.size w1 w3 ∧ w1.heap.size < w3.heap.size := by
  have h0 : (w1.alloc (.cells cs t)).drew.heap.size = w1.heap.size + 1 := by simp
  have h1 := b3.size
  have b0 : Below w1.heap.size w1 (w1.alloc (.cells cs t)).drew := (box_below w1 _).trans (drew_below _ _)
  have c0 : Cells w1.heap.size (w1.alloc (.cells cs t)).drew cs.toList := (Cells.new w1 cs t).below (drew_below (w1.heap.size + 1) _) (by omega)
  exact ⟨c0.below b3 (by omega), b0.trans (b3.mono (by omega)), by omega⟩

/-- What is known of turns behind some bytes of a message. -/
def hadL (had : List Int) (stream bytes : Int) : List Int := if isSt had.length stream then had.set stream.toNat (wrap64 (had.getD stream.toNat 0 + bytes)) else had
theorem hadL_len (had : List Int) (stream bytes : Int) : (hadL had stream bytes).length = had.length := by unfold hadL; split <;> simp
def hadM (s : Sd) (q : Qd) (bytes : Int) (over : Bool) : Sd := ⟨q.stream, if over then -1 else q.id, hadL s.had q.stream bytes⟩

set_option maxHeartbeats 2000000 in
theorem had_any (v : Value) (s : Sd) (q : Qd) (da : Option Addr) (dn dc : Nat) (bytes : Int) (over : Bool) (w : World) (hv : SdV w.heap.size w v s) (hl : s.had.length * 8 ≤ 140737488355328) :
    Calls Try.prog 25 #[v, qdVal q (.slice da dn dc), .int .i64 bytes, .bool over] w fun e w' => ∃ d', e = .returned (.agg #[.int .i64 (hadM s q bytes over).last, .int .i64 (hadM s q bytes over).hand, d']) ∧ In w'.heap.size w' d' (hadM s q bytes over).had ∧ InS (fun k => w.heap.size ≤ k) d' ∧ Below w.heap.size w w' := by
  have HV := hv
  obtain ⟨d, rfl, hd⟩ := hv
  have HD := hd
  obtain ⟨ad, cd, rfl, -, -⟩ := hd.ex
  obtain ⟨last, hand, had⟩ := s
  obtain ⟨id, mid, came, sent, parts, stream, ordered, life, tries⟩ := q
  simp only [qdVal] at HD hl HV ⊢
  have B0 : Below w.heap.size w (((w.alloc (.cells #[.int .i64 last, .int .i64 hand, .slice ad had.length cd] 51)).alloc (.cells #[.int .i64 id, .int .i64 mid, .int .i64 came, .int .i64 sent, .int .i64 parts, .int .i64 stream, .bool ordered, .int .i64 life, .int .i64 tries, .slice da dn dc] 56)).alloc (.cells #[.int .i64 0, .int .i64 0, .slice none 0 0] 51)) := (two_below w _ _).alloc (by simp; omega) _
  have CQ : Cells (w.heap.size + 1) (((w.alloc (.cells #[.int .i64 last, .int .i64 hand, .slice ad had.length cd] 51)).alloc (.cells #[.int .i64 id, .int .i64 mid, .int .i64 came, .int .i64 sent, .int .i64 parts, .int .i64 stream, .bool ordered, .int .i64 life, .int .i64 tries, .slice da dn dc] 56)).alloc (.cells #[.int .i64 0, .int .i64 0, .slice none 0 0] 51)) [.int .i64 id, .int .i64 mid, .int .i64 came, .int .i64 sent, .int .i64 parts, .int .i64 stream, .bool ordered, .int .i64 life, .int .i64 tries, .slice da dn dc] := (Cells.new' #[.int .i64 id, .int .i64 mid, .int .i64 came, .int .i64 sent, .int .i64 parts, .int .i64 stream, .bool ordered, .int .i64 life, .int .i64 tries, .slice da dn dc] 56 (by simp)).alloc (by simp) _
  have CR : Cells (w.heap.size + 1 + 1) (((w.alloc (.cells #[.int .i64 last, .int .i64 hand, .slice ad had.length cd] 51)).alloc (.cells #[.int .i64 id, .int .i64 mid, .int .i64 came, .int .i64 sent, .int .i64 parts, .int .i64 stream, .bool ordered, .int .i64 life, .int .i64 tries, .slice da dn dc] 56)).alloc (.cells #[.int .i64 0, .int .i64 0, .slice none 0 0] 51)) [.int .i64 0, .int .i64 0, .slice none 0 0] := Cells.new' #[.int .i64 0, .int .i64 0, .slice none 0 0] 51 (by simp)
  have hz : (((w.alloc (.cells #[.int .i64 last, .int .i64 hand, .slice ad had.length cd] 51)).alloc (.cells #[.int .i64 id, .int .i64 mid, .int .i64 came, .int .i64 sent, .int .i64 parts, .int .i64 stream, .bool ordered, .int .i64 life, .int .i64 tries, .slice da dn dc] 56)).alloc (.cells #[.int .i64 0, .int .i64 0, .slice none 0 0] 51)).heap.size = w.heap.size + 3 := by simp
  have OW := own_any _ _ _ (HV.size B0 (Nat.le_refl _)) hl
  have HI := HD.2
  clear HV HD hd
  go_enter Try.func25, Try.ntmps25
  go_wp2_with fail
  generalize (((w.alloc (.cells #[.int .i64 last, .int .i64 hand, .slice ad had.length cd] 51)).alloc (.cells #[.int .i64 id, .int .i64 mid, .int .i64 came, .int .i64 sent, .int .i64 parts, .int .i64 stream, .bool ordered, .int .i64 life, .int .i64 tries, .slice da dn dc] 56)).alloc (.cells #[.int .i64 0, .int .i64 0, .slice none 0 0] 51)) = w0 at *
  refine OW.mono ?_
  rintro e w1 ⟨a1, c1, rfl, own1, b1⟩
  have hs1 := b1.size
  have CQ1 := CQ.below b1 (by omega)
  have CR1 := CR.below b1 (by omega)
  have q0 := CQ1.cell 0 _ rfl
  have q5 := CQ1.cell 5 _ rfl
  have lq : w.heap.size + 1 < w1.heap.size := by omega
  have nq1 : ¬ w.heap.size + 1 = w1.heap.size := by omega
  have nq2 : ¬ w1.heap.size = w.heap.size + 1 := by omega
  clear OW CQ CR CQ1
  go_wp2_with fail
  have IN1 : In w1.heap.size w1 (.slice a1 had.length c1) had := In.own own1 rfl HI
  have IS1 := InS.own own1
  go_region
  by_cases hst : isSt had.length stream
  · obtain ⟨j, rfl⟩ := Int.eq_ofNat_of_zero_le hst.1
    have hj : j < had.length := by have := hst.2; omega
    obtain ⟨g, rfl, hg1, hg2, CG⟩ := own_cells own1 (by omega)
    have HT : Hid (decide (isSt had.length (j : Int)) = true) := decide_eq_true hst
    have HL : Hid (hadL had (j : Int) bytes = had.set j (wrap64 (had[j] + bytes))) := by
      show _ = _
      rw [hadL, if_pos hst, Int.toNat_natCast, List.getD_eq_getElem?_getD, List.getElem?_eq_getElem hj]
      rfl
    have hji : (j : Int) < had.length := by omega
    cases over with
    | false =>
      go_wp2_with fail
      go_at_call 44
      refine (isStream_any _ _ _ _ _ _ _).mono ?_
      rw [HT.out]
      rintro e w3 ⟨rfl, b3⟩
      obtain ⟨CO, B3, hs3⟩ := new_kept b3
      have o0 := CO.cell 0 _ rfl
      have o1 := CO.cell 1 _ rfl
      have o2 := CO.cell 2 _ rfl
      have CR3 := CR1.below B3 (by omega)
      have r0 := CR3.cell 0 _ rfl
      have r1 := CR3.cell 1 _ rfl
      have r2 := CR3.cell 2 _ rfl
      have f0 := CR3.fz 0
      have f1 := CR3.fz 1
      have f2 := CR3.fz 2
      have n5 : ¬ w1.heap.size = w.heap.size + 1 + 1 := by omega
      have n6 : ¬ w.heap.size + 1 + 1 = w1.heap.size := by omega
      have CG3 := CG.below B3 hg2
      have gj := CG3.cell j _ (cellsI_get had j hj)
      have fj := CG3.fz j
      have n1 : ¬ g = w1.heap.size := by omega
      have n2 : ¬ w1.heap.size = g := by omega
      have n3 : ¬ g = w.heap.size + 1 + 1 := by omega
      have n4 : ¬ w.heap.size + 1 + 1 = g := by omega
      go_wp2_with fail
      have CE := (((CR3.past (Y := g) j (.int .i64 (wrap64 (had[j] + bytes))) (by omega)).set 0 (.int .i64 j) (by simp)).set 1 (.int .i64 id) (by simp)).set 2 (.slice (some ⟨g, 0, none⟩) had.length c1) (by simp)
      have z0 := CE.cell 0 _ rfl
      have z1 := CE.cell 1 _ rfl
      have z2 := CE.cell 2 _ rfl
      refine bodyPost_ret (v := .agg #[.int .i64 j, .int .i64 id, .slice (some ⟨g, 0, none⟩) had.length c1]) (by simp [results, Try.results25, go_sem, z0, z1, z2]) rfl ⟨_, rfl, ?_, ?_, ?_⟩
      · show In _ _ _ (hadL had (j : Int) bytes)
        rw [HL.out]
        have CG4 := (((CG3.set j (.int .i64 (wrap64 (had[j] + bytes))) (by simpa [cellsI] using hj)).past (Y := w.heap.size + 1 + 1) 0 (.int .i64 j) n3).past (Y := w.heap.size + 1 + 1) 1 (.int .i64 id) n3).past (Y := w.heap.size + 1 + 1) 2 (.slice (some ⟨g, 0, none⟩) had.length c1) n3
        rw [← cellsI_set] at CG4
        have ln := IN1.1.len
        exact In.cells CG4 (by simp; omega) (by simp) ln.2.1 ln.2.2.1 (HI.set j (wrap64_I64 _))
      · exact IS1.mono fun k hk => by omega
      · exact ((((B0.trans ((b1.trans (B3.mono hs1)).mono (by omega))).setCell (by show _ ≤ g; omega) _).setCell (by show _ ≤ _ + 1 + 1; omega) _).setCell (by show _ ≤ _ + 1 + 1; omega) _).setCell (by show _ ≤ _ + 1 + 1; omega) _
    | true =>
      go_wp2_with fail
      go_at_call 44
      refine (isStream_any _ _ _ _ _ _ _).mono ?_
      rw [HT.out]
      rintro e w3 ⟨rfl, b3⟩
      obtain ⟨CO, B3, hs3⟩ := new_kept b3
      have o0 := CO.cell 0 _ rfl
      have o1 := CO.cell 1 _ rfl
      have o2 := CO.cell 2 _ rfl
      have CR3 := CR1.below B3 (by omega)
      have r0 := CR3.cell 0 _ rfl
      have r1 := CR3.cell 1 _ rfl
      have r2 := CR3.cell 2 _ rfl
      have f0 := CR3.fz 0
      have f1 := CR3.fz 1
      have f2 := CR3.fz 2
      have n5 : ¬ w1.heap.size = w.heap.size + 1 + 1 := by omega
      have n6 : ¬ w.heap.size + 1 + 1 = w1.heap.size := by omega
      have CG3 := CG.below B3 hg2
      have gj := CG3.cell j _ (cellsI_get had j hj)
      have fj := CG3.fz j
      have n1 : ¬ g = w1.heap.size := by omega
      have n2 : ¬ w1.heap.size = g := by omega
      have n3 : ¬ g = w.heap.size + 1 + 1 := by omega
      have n4 : ¬ w.heap.size + 1 + 1 = g := by omega
      go_wp2_with fail
      have CE := (((CR3.past (Y := g) j (.int .i64 (wrap64 (had[j] + bytes))) (by omega)).set 0 (.int .i64 j) (by simp)).set 1 (.int .i64 (-1)) (by simp)).set 2 (.slice (some ⟨g, 0, none⟩) had.length c1) (by simp)
      have z0 := CE.cell 0 _ rfl
      have z1 := CE.cell 1 _ rfl
      have z2 := CE.cell 2 _ rfl
      refine bodyPost_ret (v := .agg #[.int .i64 j, .int .i64 (-1), .slice (some ⟨g, 0, none⟩) had.length c1]) (by simp [results, Try.results25, go_sem, z0, z1, z2]) rfl ⟨_, rfl, ?_, ?_, ?_⟩
      · show In _ _ _ (hadL had (j : Int) bytes)
        rw [HL.out]
        have CG4 := (((CG3.set j (.int .i64 (wrap64 (had[j] + bytes))) (by simpa [cellsI] using hj)).past (Y := w.heap.size + 1 + 1) 0 (.int .i64 j) n3).past (Y := w.heap.size + 1 + 1) 1 (.int .i64 (-1)) n3).past (Y := w.heap.size + 1 + 1) 2 (.slice (some ⟨g, 0, none⟩) had.length c1) n3
        rw [← cellsI_set] at CG4
        have ln := IN1.1.len
        exact In.cells CG4 (by simp; omega) (by simp) ln.2.1 ln.2.2.1 (HI.set j (wrap64_I64 _))
      · exact IS1.mono fun k hk => by omega
      · exact ((((B0.trans ((b1.trans (B3.mono hs1)).mono (by omega))).setCell (by show _ ≤ g; omega) _).setCell (by show _ ≤ _ + 1 + 1; omega) _).setCell (by show _ ≤ _ + 1 + 1; omega) _).setCell (by show _ ≤ _ + 1 + 1; omega) _
  · have HT : Hid (decide (isSt had.length stream) = false) := decide_eq_false hst
    have HL : Hid (hadL had stream bytes = had) := by show _ = _; rw [hadL, if_neg hst]
    cases over with
    | false =>
      go_wp2_with fail
      go_at_call 44
      refine (isStream_any _ _ _ _ _ _ _).mono ?_
      rw [HT.out]
      rintro e w3 ⟨rfl, b3⟩
      obtain ⟨CO, B3, hs3⟩ := new_kept b3
      have o0 := CO.cell 0 _ rfl
      have o1 := CO.cell 1 _ rfl
      have o2 := CO.cell 2 _ rfl
      have CR3 := CR1.below B3 (by omega)
      have r0 := CR3.cell 0 _ rfl
      have r1 := CR3.cell 1 _ rfl
      have r2 := CR3.cell 2 _ rfl
      have f0 := CR3.fz 0
      have f1 := CR3.fz 1
      have f2 := CR3.fz 2
      have n5 : ¬ w1.heap.size = w.heap.size + 1 + 1 := by omega
      have n6 : ¬ w.heap.size + 1 + 1 = w1.heap.size := by omega
      go_wp2_with fail
      have CE := ((CR3.set 0 (.int .i64 stream) (by simp)).set 1 (.int .i64 id) (by simp)).set 2 (.slice a1 had.length c1) (by simp)
      have z0 := CE.cell 0 _ rfl
      have z1 := CE.cell 1 _ rfl
      have z2 := CE.cell 2 _ rfl
      refine bodyPost_ret (v := .agg #[.int .i64 stream, .int .i64 id, .slice a1 had.length c1]) (by simp [results, Try.results25, go_sem, z0, z1, z2]) rfl ⟨_, rfl, ?_, ?_, ?_⟩
      · show In _ _ _ (hadL had stream bytes)
        rw [HL.out]
        have kp : Keep (fun k => w0.heap.size + 2 ≤ k ∧ k < w1.heap.size) w1 w3 := ⟨B3.os, B3.tape, B3.output, B3.size, fun i hi => B3.block i hi.2⟩
        refine IN1.keep IS1 (((kp.setCell (p := ⟨w.heap.size + 1 + 1, 0, none⟩) ?_ _).setCell (p := ⟨w.heap.size + 1 + 1, 1, none⟩) ?_ _).setCell (p := ⟨w.heap.size + 1 + 1, 2, none⟩) ?_ _) (by simp; omega)
        all_goals (show ¬ (w0.heap.size + 2 ≤ w.heap.size + 1 + 1 ∧ w.heap.size + 1 + 1 < w1.heap.size); omega)
      · exact IS1.mono fun k hk => by omega
      · exact (((B0.trans ((b1.trans (B3.mono hs1)).mono (by omega))).setCell (by show _ ≤ _ + 1 + 1; omega) _).setCell (by show _ ≤ _ + 1 + 1; omega) _).setCell (by show _ ≤ _ + 1 + 1; omega) _
    | true =>
      go_wp2_with fail
      go_at_call 44
      refine (isStream_any _ _ _ _ _ _ _).mono ?_
      rw [HT.out]
      rintro e w3 ⟨rfl, b3⟩
      obtain ⟨CO, B3, hs3⟩ := new_kept b3
      have o0 := CO.cell 0 _ rfl
      have o1 := CO.cell 1 _ rfl
      have o2 := CO.cell 2 _ rfl
      have CR3 := CR1.below B3 (by omega)
      have r0 := CR3.cell 0 _ rfl
      have r1 := CR3.cell 1 _ rfl
      have r2 := CR3.cell 2 _ rfl
      have f0 := CR3.fz 0
      have f1 := CR3.fz 1
      have f2 := CR3.fz 2
      have n5 : ¬ w1.heap.size = w.heap.size + 1 + 1 := by omega
      have n6 : ¬ w.heap.size + 1 + 1 = w1.heap.size := by omega
      go_wp2_with fail
      have CE := ((CR3.set 0 (.int .i64 stream) (by simp)).set 1 (.int .i64 (-1)) (by simp)).set 2 (.slice a1 had.length c1) (by simp)
      have z0 := CE.cell 0 _ rfl
      have z1 := CE.cell 1 _ rfl
      have z2 := CE.cell 2 _ rfl
      refine bodyPost_ret (v := .agg #[.int .i64 stream, .int .i64 (-1), .slice a1 had.length c1]) (by simp [results, Try.results25, go_sem, z0, z1, z2]) rfl ⟨_, rfl, ?_, ?_, ?_⟩
      · show In _ _ _ (hadL had stream bytes)
        rw [HL.out]
        have kp : Keep (fun k => w0.heap.size + 2 ≤ k ∧ k < w1.heap.size) w1 w3 := ⟨B3.os, B3.tape, B3.output, B3.size, fun i hi => B3.block i hi.2⟩
        refine IN1.keep IS1 (((kp.setCell (p := ⟨w.heap.size + 1 + 1, 0, none⟩) ?_ _).setCell (p := ⟨w.heap.size + 1 + 1, 1, none⟩) ?_ _).setCell (p := ⟨w.heap.size + 1 + 1, 2, none⟩) ?_ _) (by simp; omega)
        all_goals (show ¬ (w0.heap.size + 2 ≤ w.heap.size + 1 + 1 ∧ w.heap.size + 1 + 1 < w1.heap.size); omega)
      · exact IS1.mono fun k hk => by omega
      · exact (((B0.trans ((b1.trans (B3.mono hs1)).mono (by omega))).setCell (by show _ ≤ _ + 1 + 1; omega) _).setCell (by show _ ≤ _ + 1 + 1; omega) _).setCell (by show _ ≤ _ + 1 + 1; omega) _
end Go.Proofs.Ytnddejdndipddab
