/- The contracts of Bytes and Fit, of package packet. -/
import Derived.Test.YtnddejdndipddabPkB
set_option maxRecDepth 20000
namespace Go.Proofs.Ytnddejdndipddab
open Go.RowKit

/-- Bytes, of package chunk: an errno and bytes. -/
theorem cbytes_both (v : Value) (c : Ck) (w : World) (hv : CkV w.heap.size w v c) :
    Calls Try.prog 29 #[v] w fun e w' => ∃ v', e = .returned (.tuple #[v', .int .i64 (wrongM c)]) ∧ By w'.heap.size w' v' (if wrongM c = 0 then bytesM c else []) ∧ Below w.heap.size w w' := by
  by_cases h : wrongM c = 0
  · rw [if_pos h, h]
    exact bytes_any v c w hv h
  · rw [if_neg h]
    exact (bytes_bad v c w hv h).mono fun e w' hh => ⟨_, hh.1, By.nil _ _, hh.2⟩

theorem pack_bad {l : List Ck} {most x : Int} (h0 : ¬ l.length = 0) (h : badM l = x) (hx : x ≠ 0) : packM l most = (x, []) := by
  rw [packM, if_neg h0, if_neg (by rw [h]; exact hx), h]
theorem pack_much {l : List Ck} {most : Int} (h0 : ¬ l.length = 0) (h : badM l = 0) (hm : most < (allM l).length) : packM l most = (4, []) := by
  rw [packM, if_neg h0, if_pos h, if_pos hm]
theorem pack_good {l : List Ck} {most : Int} (h0 : ¬ l.length = 0) (h : badM l = 0) (hm : ¬ most < (allM l).length) : packM l most = (0, allM l) := by
  rw [packM, if_neg h0, if_pos h, if_neg hm]

theorem allM_isB (l : List Ck) (h : ∀ c ∈ l, IsB (bytesM c)) : IsB (allM l) := by
  induction l with
  | nil => intro z hz; simp [allM] at hz
  | cons c r ih => exact (h c (by simp)).append (ih fun c hc => h c (by simp [hc]))

/-- The bytes so far. -/
structure PkOut (w : World) (l : List Ck) (j nb : Nat) (o : Value) (wr : World) : Prop where
  own : wr.ownsRow w.heap.size 5 1 o nb (cellsB (allM (l.take j)))
  len : nb = (allM (l.take j)).length
  bad : badM (l.take j) = 0
  isB : IsB (allM (l.take j))
  bel : Below w.heap.size w wr

theorem PkOut.step {w wr w1 w2 : World} {l : List Ck} {j nb : Nat} {o o' : Value} (h : PkOut w l j nb o wr) (hj : j < l.length) (hw : wrongM l[j] = 0) (hb : Below wr.heap.size wr w1) (hy : IsB (bytesM l[j]))
    (ho : w2.ownsRow w.heap.size 5 1 o' (nb + (bytesM l[j]).length) (cellsB (allM (l.take j)) ++ cellsB (bytesM l[j]))) (hg : w1.grownBy w2 o.ownBlock) : PkOut w l (j + 1) (nb + (bytesM l[j]).length) o' w2 := by
  obtain ⟨s1, s2, -⟩ := bad_step hj h.bad
  have hb1 : Below w.heap.size w w1 := h.bel.trans (hb.mono h.bel.size)
  refine ⟨?_, ?_, by rw [s1, hw], by rw [s2]; exact h.isB.append hy, hb1.grown hg hb1.size fun k hk => (h.own.lt k hk).1⟩
  · rw [s2, cellsB_append]; exact ho
  · rw [s2, List.length_append, h.len]
theorem PkOut.le {w wr : World} {l : List Ck} {j nb : Nat} {o : Value} (h : PkOut w l j nb o wr) (hj : j ≤ l.length) : nb ≤ 36 * j := by
  have := (allM_len h.bad).2
  rw [h.len]
  simp at this
  omega
theorem PkOut.by {w wr : World} {l : List Ck} {nb : Nat} {o : Value} (h : PkOut w l l.length nb o wr) : By wr.heap.size wr o (allM l) ∧ nb = (allM l).length ∧ badM l = 0 := by
  obtain ⟨h1, h2, h3, h4, -⟩ := h
  rw [List.take_length] at h1 h2 h3 h4
  subst h2
  exact ⟨⟨Rw.own h1 (by simp [cellsB]), h4⟩, rfl, h3⟩

set_option maxHeartbeats 1000000 in
theorem pbytes_any (v : Value) (l : List Ck) (most : Int) (w : World) (hv : CkS w.heap.size w v l) (hl : l.length * 36 ≤ 140737488355328) :
    Calls Try.prog 9 #[v, .int .i64 most] w fun e w' => ∃ v', e = .returned (.tuple #[v', .int .i64 (packM l most).1]) ∧ By w'.heap.size w' v' (packM l most).2 ∧ Below w.heap.size w w' := by
  have HV := hv
  obtain ⟨a, cap, rfl, h1, h2⟩ := hv.ex
  clear hv
  by_cases h0 : l.length = 0
  · have HP : Hid (packM l most = (5, [])) := by show _ = _; rw [packM, if_pos h0]
    go_enter Try.func9, Try.ntmps9
    go_wp2
    go_ret2
    rw [HP.out]
    exact ⟨_, rfl, By.nil _ _, Below.refl _ _⟩
  · have h0' : ((l.length : Int) == 0) = false := beq_eq_false_iff_ne.2 (by omega)
    go_enter Try.func9, Try.ntmps9
    go_wp2
    go_loopw [6, 16] (fun o i wr => ∃ (j nb : Nat) (ab : Option Addr) (cb : Nat), j ≤ l.length ∧ i = .int .i64 j ∧ o = .slice ab nb cb ∧ PkOut w l j nb (.slice ab nb cb) wr) (fun _ i _ => l.length - (intOf i).toNat)
    case atStart => exact ⟨0, 0, none, 0, Nat.zero_le _, rfl, rfl, ⟨⟨rfl, .inl ⟨rfl, rfl⟩⟩, rfl, rfl, fun z hz => by simp [allM] at hz, Below.refl _ _⟩⟩
    case round =>
      obtain ⟨j, nb, ab, cb, hj, rfl, rfl, PO⟩ := hrel
      have hnb := PO.le hj
      by_cases hlt : j < l.length
      · obtain ⟨b, off, _, _, _, hbb, hix, hcv, ⟨ad, nd, cd, rfl⟩, ⟨as', ns, cs, rfl⟩, ⟨ak, nk, ck, rfl⟩, x0, x1, x2, x3, x4, x5, x6, x7, x8, x9, x10⟩ := (HV.below PO.bel (Nat.le_refl _)).at j hlt
        have HC := fun o => (hcv.mono PO.bel.size).boxed o
        have HB := fun o => box_below wr o
        have h36 := @bytes_len l[j]
        simp only [ckVal] at HC
        clear hcv
        go_wp2_with fail
        refine (cbytes_both _ l[j] _ (HC _)).mono ?_
        rintro e w2 ⟨v2, rfl, by2, b2⟩
        have B2 := (HB _).trans (b2.mono (HB _).size)
        clear HC HB x0 x1 x2 x3 x4 x5 x6 x7 x8 x9 x10 b2
        by_cases hw : wrongM l[j] = 0
        · rw [if_pos hw] at by2
          have hlen := h36 hw
          have hlen2 := hlen.2
          have O2 := own_of_block PO.own fun k hk => B2.block k (PO.own.lt k hk).2
          have ST := fun v' w3 => PO.step (o' := v') (w2 := w3) hlt hw B2 by2.2
          obtain ⟨a2, cap2, rfl, -, -⟩ := by2.ex
          have hbs : w.heap.size ≤ w2.heap.size := Nat.le_trans PO.bel.size B2.size
          rw [hw]
          clear hw hlen h36
          go_wp2_with (at_builtin; refine wpList_append_rw Try.underlying23 Try.info5 rfl (by decide) _ rfl (.tmp 28) (.tmp 29) rfl w.heap.size (.slice ab nb cb) nb (cellsB (allM (l.take j))) rfl O2 _ (bytesM l[j]).length (cellsB (bytesM l[j])) _ rfl by2.1 (cellsB_one _) (by unfold maxLen; omega) (by omega) hbs ?_; intro v3 w3 own3 grow3 at3; have P3 := ST v3 w3 own3 grow3; obtain ⟨a3, cap3, rfl⟩ := own_form own3; clear own3 grow3 at3)
          go_roundw
          case rel => exact ⟨j + 1, nb + (bytesM l[j]).length, a3, cap3, by omega, by go_num, rfl, P3⟩
          case measure => simp [intOf]; omega
        · have hwn : (wrongM l[j] != 0) = true := by simpa using hw
          have HP : Hid (packM l most = (wrongM l[j], [])) := pack_bad h0 ((bad_step hlt PO.bad).2.2 hw) hw
          have BE : Below w.heap.size w w2 := PO.bel.trans (B2.mono PO.bel.size)
          clear by2 h36
          go_wp2_with fail
          go_ret2
          rw [HP.out]
          exact ⟨_, rfl, By.nil _ _, BE⟩
      · have hje : j = l.length := by omega
        subst hje
        obtain ⟨y1, y2, y3⟩ := PO.by
        have BE := PO.bel
        by_cases hm : most < (allM l).length
        · have HP : Hid (packM l most = (4, [])) := pack_much h0 y3 hm
          rw [← y2] at hm
          clear y1 y2 y3
          go_wp2_with fail
          go_ret2
          rw [HP.out]
          exact ⟨_, rfl, By.nil _ _, BE⟩
        · have HP : Hid (packM l most = (0, allM l)) := pack_good h0 y3 hm
          rw [← y2] at hm
          clear y2 y3
          go_wp2_with fail
          go_ret2
          rw [HP.out]
          exact ⟨_, rfl, y1, BE⟩

set_option maxHeartbeats 1000000 in
theorem pfit_any (v : Value) (l : List Ck) (most : Int) (w : World) (hv : CkS w.heap.size w v l) (hm1 : -9223372036854775808 ≤ most) (hm2 : most ≤ 9223372036854775807) :
    Calls Try.prog 11 #[v, .int .i64 most] w fun e w' => e = .returned (.int .i64 (fitM l most)) ∧ Below w.heap.size w w' := by
  have HV := hv
  obtain ⟨a, cap, rfl, h1, h2⟩ := hv.ex
  clear hv
  go_enter Try.func11, Try.ntmps11
  go_wp2
  go_loopw [5, 13] (fun t i wr => ∃ (j : Nat) (left : Int), j ≤ l.length ∧ i = .int .i64 j ∧ t = .int .i64 left ∧ -9223372036854775808 ≤ left ∧ left ≤ 9223372036854775807 ∧ Hid (fitM l most = j + fitM (l.drop j) left) ∧ Below w.heap.size w wr) (fun _ i _ => l.length - (intOf i).toNat)
  case atStart => exact ⟨0, most, Nat.zero_le _, rfl, rfl, hm1, hm2, by show _ = _; simp, Below.refl _ _⟩
  case round =>
    obtain ⟨j, left, hj, rfl, rfl, hl1, hl2, HF, BR⟩ := hrel
    by_cases hlt : j < l.length
    · obtain ⟨b, off, _, _, _, hbb, hix, hcv, ⟨ad, nd, cd, rfl⟩, ⟨as', ns, cs, rfl⟩, ⟨ak, nk, ck, rfl⟩, x0, x1, x2, x3, x4, x5, x6, x7, x8, x9, x10⟩ := (HV.below BR (Nat.le_refl _)).at j hlt
      have HC := fun o => (hcv.mono BR.size).boxed o
      have HB := fun o => box_below wr o
      have h36 := @bytes_len l[j]
      have HD : Hid _ := fit_drop hlt left
      simp only [ckVal] at HC
      clear hcv
      go_wp2_with fail
      refine (cbytes_both _ l[j] _ (HC _)).mono ?_
      rintro e w2 ⟨v2, rfl, by2, b2⟩
      have B2 := (HB _).trans (b2.mono (HB _).size)
      have BE : Below w.heap.size w w2 := BR.trans (B2.mono BR.size)
      clear HC HB x0 x1 x2 x3 x4 x5 x6 x7 x8 x9 x10 b2
      by_cases hw : wrongM l[j] = 0
      · rw [if_pos hw] at by2
        have hlen := (h36 hw).2
        obtain ⟨a2, cap2, rfl, -, -⟩ := by2.ex
        by_cases hm : ((bytesM l[j]).length : Int) ≤ left
        · have HN : Hid (fitM l most = (j + 1 : Nat) + fitM (l.drop (j + 1)) (left - (bytesM l[j]).length)) := by
            show _ = _
            rw [HF.out, HD.out, if_pos ⟨hw, hm⟩]; omega
          rw [hw]
          clear hw h36 by2 HF HD
          go_wp2_with fail
          go_roundw
          case rel => exact ⟨j + 1, left - (bytesM l[j]).length, by omega, by go_num, rfl, by omega, by omega, HN, BE⟩
          case measure => simp [intOf]; omega
        · have HN : Hid (fitM l most = j) := by
            show _ = _
            rw [HF.out, HD.out, if_neg (fun h => hm h.2)]; omega
          rw [hw]
          clear hw h36 by2 HF HD
          go_wp2_with fail
          go_ret
          rw [HN.out]
          exact ⟨rfl, BE⟩
      · have hwn : (wrongM l[j] != 0) = true := by simpa using hw
        have HN : Hid (fitM l most = j) := by
          show _ = _
          rw [HF.out, HD.out, if_neg (fun h => hw h.1)]; omega
        clear by2 h36 HF HD
        go_wp2_with fail
        go_ret
        rw [HN.out]
        exact ⟨rfl, BE⟩
    · have HN : Hid (fitM l most = l.length) := by
        show _ = _
        rw [HF.out, List.drop_of_length_le (by omega)]
        simp [fitM]; omega
      clear HF
      go_wp2_with fail
      go_ret
      rw [HN.out]
      exact ⟨rfl, BR⟩
end Go.Proofs.Ytnddejdndipddab
