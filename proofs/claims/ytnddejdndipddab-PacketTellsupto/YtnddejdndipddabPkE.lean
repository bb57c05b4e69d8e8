/- The contracts of the document's PacketBytes and Fit. -/
import Derived.Test.YtnddejdndipddabPkC
import Derived.Test.YtnddejdndipddabCrJ
set_option maxRecDepth 20000
namespace Go.Proofs.Ytnddejdndipddab
open Go.RowKit

set_option maxHeartbeats 1000000 in
theorem rpbytes_any (v : Value) (l : List Ck) (most : Int) (w : World) (hv : CkS w.heap.size w v l) (hl : l.length * 36 ≤ 140737488355328) :
    Calls Try.prog 10 #[v, .int .i64 most] w fun e w' => ∃ v', e = .returned (.tuple #[v', .int .i64 (packM l most).1]) ∧ By w'.heap.size w' v' (packM l most).2 ∧ Below w.heap.size w w' := by
  have HV := hv
  obtain ⟨a, cap, rfl, h1, h2⟩ := hv.ex
  clear hv
  by_cases h0 : l.length = 0
  · have HP : Hid (packM l most = (5, [])) := by show _ = _; rw [packM, if_pos h0]
    go_enter Try.func10, Try.ntmps10
    go_wp2
    go_ret2
    rw [HP.out]
    exact ⟨_, rfl, By.nil _ _, Below.refl _ _⟩
  · have h0' : ((l.length : Int) == 0) = false := beq_eq_false_iff_ne.2 (by omega)
    go_enter Try.func10, Try.ntmps10
    go_wp2
    go_loopw [6, 16] (fun o i wr => ∃ (j nb : Nat) (ab : Option Addr) (cb : Nat), j ≤ l.length ∧ i = .int .i64 j ∧ o = .slice ab nb cb ∧ PkOut w l j nb (.slice ab nb cb) wr) (fun _ i _ => l.length - (intOf i).toNat)
    case atStart => exact ⟨0, 0, none, 0, Nat.zero_le _, rfl, rfl, ⟨⟨rfl, .inl ⟨rfl, rfl⟩⟩, rfl, rfl, fun z hz => by simp [allM] at hz, Below.refl _ _⟩⟩
    case round =>
      obtain ⟨j, nb, ab, cb, hj, rfl, rfl, PO⟩ := hrel
      have hnb := PO.le hj
      by_cases hlt : j < l.length
      · obtain ⟨b, off, _, _, _, hbb, hix, hcv, ⟨ad, nd, cd, rfl⟩, ⟨as', ns, cs, rfl⟩, ⟨ak, nk, ck, rfl⟩, x0, x1, x2, x3, x4, x5, x6, x7, x8, x9, x10⟩ := (HV.below PO.bel (Nat.le_refl _)).at j hlt
        have HC := fun o => (hcv.mono PO.bel.size).boxed o
        have HB := fun o => box_below wr o
        have h36 := @bytes_len l[j]
        simp only [ckVal] at HC
        clear hcv
        go_wp2_with fail
        refine (rbytes_both _ l[j] _ (HC _)).mono ?_
        rintro e w2 ⟨v2, rfl, by2, b2⟩
        have B2 := (HB _).trans (b2.mono (HB _).size)
        clear HC HB x0 x1 x2 x3 x4 x5 x6 x7 x8 x9 x10 b2
        by_cases hw : wrongM l[j] = 0
        · rw [if_pos hw] at by2
          have hlen := h36 hw
          have hlen2 := hlen.2
          have O2 := own_of_block PO.own fun k hk => B2.block k (PO.own.lt k hk).2
          have ST := fun v' w3 => PO.step (o' := v') (w2 := w3) hlt hw B2 by2.2
          obtain ⟨a2, cap2, rfl, -, -⟩ := by2.ex
          have hbs : w.heap.size ≤ w2.heap.size := Nat.le_trans PO.bel.size B2.size
          rw [hw]
          clear hw hlen h36
          go_wp2_with (at_builtin; refine wpList_append_rw Try.underlying23 Try.info5 rfl (by decide) _ rfl (.tmp 28) (.tmp 29) rfl w.heap.size (.slice ab nb cb) nb (cellsB (allM (l.take j))) rfl O2 _ (bytesM l[j]).length (cellsB (bytesM l[j])) _ rfl by2.1 (cellsB_one _) (by unfold maxLen; omega) (by omega) hbs ?_; intro v3 w3 own3 grow3 at3; have P3 := ST v3 w3 own3 grow3; obtain ⟨a3, cap3, rfl⟩ := own_form own3; clear own3 grow3 at3)
          go_roundw
          case rel => exact ⟨j + 1, nb + (bytesM l[j]).length, a3, cap3, by omega, by go_num, rfl, P3⟩
          case measure => simp [intOf]; omega
        · have hwn : (wrongM l[j] != 0) = true := by simpa using hw
          have HP : Hid (packM l most = (wrongM l[j], [])) := pack_bad h0 ((bad_step hlt PO.bad).2.2 hw) hw
          have BE : Below w.heap.size w w2 := PO.bel.trans (B2.mono PO.bel.size)
          clear by2 h36
          go_wp2_with fail
          go_ret2
          rw [HP.out]
          exact ⟨_, rfl, By.nil _ _, BE⟩
      · have hje : j = l.length := by omega
        subst hje
        obtain ⟨y1, y2, y3⟩ := PO.by
        have BE := PO.bel
        by_cases hm : most < (allM l).length
        · have HP : Hid (packM l most = (4, [])) := pack_much h0 y3 hm
          rw [← y2] at hm
          clear y1 y2 y3
          go_wp2_with fail
          go_ret2
          rw [HP.out]
          exact ⟨_, rfl, By.nil _ _, BE⟩
        · have HP : Hid (packM l most = (0, allM l)) := pack_good h0 y3 hm
          rw [← y2] at hm
          clear y2 y3
          go_wp2_with fail
          go_ret2
          rw [HP.out]
          exact ⟨_, rfl, y1, BE⟩

/-- A piece of a slice of chunks, from its beginning on. -/
theorem run_re_hc (a : Option Addr) (n cap hi : Nat) (z : Int) (hz : z = (hi : Int)) (h : hi ≤ n) (h' : n ≤ cap) (wx : World) : (Instr.slice 22 (.slice a n cap) none (some (.int .i64 z)) none).run Try.prog wx = .ok (.slice a hi cap) wx := by
  subst hz
  have h1 : (0 : Int) ≤ hi := by omega
  have h2 : (hi : Int) ≤ cap := by omega
  rw [run_slice_h wx 22 a n cap Try.underlying22 .i64 (hi : Int) h1 h2]
  go_simp

set_option maxHeartbeats 1000000 in
theorem rfit_any (v : Value) (l : List Ck) (most : Int) (w : World) (hv : CkS w.heap.size w v l) (hl : l.length * 36 ≤ 140737488355328) :
    Calls Try.prog 12 #[v, .int .i64 most] w fun e w' => e = .returned (.int .i64 (fitM l most)) ∧ Below w.heap.size w w' := by
  have HV := hv
  obtain ⟨a, cap, rfl, h1, h2⟩ := hv.ex
  clear hv
  go_enter Try.func12, Try.ntmps12
  go_wp2
  go_loopw [5] (fun i wr => ∃ (j : Nat), j ≤ l.length ∧ i = .int .i64 j ∧ j ≤ fitM l most ∧ Below w.heap.size w wr) (fun i _ => l.length - (intOf i).toNat)
  case atStart => exact ⟨0, Nat.zero_le _, rfl, Nat.zero_le _, Below.refl _ _⟩
  case round =>
    obtain ⟨j, hj, rfl, hjf, BR⟩ := hrel
    have hfl := fit_le l most
    by_cases hlt : j < l.length
    · have hre := run_re_hc a l.length cap (j + 1) ((j : Int) + 1) (by omega) (by omega) h1
      have HC := ((HV.below BR (Nat.le_refl _)).mono BR.size).head (j + 1) (by omega)
      have HF := fit_pack l most (j + 1) (by omega) (by omega)
      have PB := rpbytes_any _ _ most _ HC (by simp; omega)
      clear HC
      go_wp2_with fail
      refine PB.mono ?_
      rintro e w2 ⟨v2, rfl, by2, b2⟩
      have BE : Below w.heap.size w w2 := BR.trans (b2.mono BR.size)
      obtain ⟨a2, cap2, rfl, -, -⟩ := by2.ex
      clear by2 PB
      by_cases hz : (packM (l.take (j + 1)) most).1 = 0
      · have hjf' := HF.1 hz
        rw [hz]
        clear HF hz
        go_wp2_with fail
        go_roundw
        case rel => exact ⟨j + 1, by omega, by go_num, hjf', BE⟩
        case measure => simp [intOf]; omega
      · have hzn : ((packM (l.take (j + 1)) most).1 != 0) = true := by simpa using hz
        have HN : Hid (fitM l most = j) := by
          show _ = _
          have : ¬ j + 1 ≤ fitM l most := fun h => hz (HF.2 h)
          omega
        clear HF hz hfl
        go_wp2_with fail
        go_ret
        rw [HN.out]
        exact ⟨rfl, BE⟩
    · have HN : Hid (fitM l most = j) := by show _ = _; omega
      clear hfl
      go_wp2_with fail
      go_ret
      rw [HN.out]
      exact ⟨rfl, BR⟩
end Go.Proofs.Ytnddejdndipddab
