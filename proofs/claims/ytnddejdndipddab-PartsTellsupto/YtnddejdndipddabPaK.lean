/- The walk of PartsTells. -/
import Derived.Test.YtnddejdndipddabPaJ
set_option maxRecDepth 20000
namespace Go.Proofs.Ytnddejdndipddab
open Go.RowKit

/-- How far k parts of q bytes reach. -/
def upto (len q k : Nat) : Nat := min (k * q) len
theorem piece_eq {bs : List Int} {q k : Nat} : (bs.drop (k * q)).take (upto bs.length q (k + 1) - k * q) = (bs.drop (k * q)).take q := by
  unfold upto
  rw [Nat.succ_mul]
  rcases Nat.lt_or_ge (k * q + q) bs.length with h' | h'
  · rw [Nat.min_eq_left (by omega), show k * q + q - k * q = q by omega]
  · rw [Nat.min_eq_right h', List.take_of_length_le (by simp), List.take_of_length_le (by simp; omega)]
theorem drewN_below (B : Nat) (w : World) (n : Nat) : Below B w (w.drewN n) := ⟨rfl, rfl, rfl, Nat.le_refl _, fun _ _ => rfl⟩

set_option maxHeartbeats 2000000 in
theorem ptells_walk (vb vl : Value) (bs : List Int) (p : Int) (l : List Pc) (w : World) (hb : By w.heap.size w vb bs) (hv : PcS w.heap.size w vl l) (hbl : bs.length ≤ 1048576) (hl : l.length ≤ 1048576) (hd : ∀ p ∈ l, p.ck.data.length ≤ 1048576) (hp2 : p ≤ 9223372036854775807) :
    Calls Try.prog 6 #[vb, .int .i64 p, vl] w fun e w' => e = .returned (.bool true) ∧ Below w.heap.size w w' := by
  have HB := hb
  have HV := hv
  obtain ⟨a, cap, rfl, h1, h2⟩ := hv.ex
  obtain ⟨ab, cb, rfl, h3, h4⟩ := hb.ex
  have J1 := join_any _ l w HV hl hd
  have J2 := fun wx (hx : Below w.heap.size w wx) => rjoin_any _ l wx (SlG.size PcV.bears HV hx (Nat.le_refl _)) hl hd
  have SP := fun wx (hx : Below w.heap.size w wx) => split_any _ bs p wx (HB.size hx (Nat.le_refl _)) (by omega)
  clear hv hb
  go_enter Try.func6, Try.ntmps6
  go_wp2_with fail
  refine J1.mono ?_
  rintro e w1 ⟨v1, rfl, by1, B1⟩
  go_wp2_with fail
  refine (J2 _ B1).mono ?_
  rintro e w2 ⟨v2, rfl, by2, b2⟩
  have B2 := B1.trans (b2.mono B1.size)
  have T1 := (by1.below b2 (Nat.le_refl _)).str
  have T2 := by2.str
  obtain ⟨a1, cap1, rfl, -, -⟩ := by1.ex
  obtain ⟨a2, cap2, rfl, -, -⟩ := by2.ex
  clear J1 J2 by1 by2 b2
  generalize (joinD l).length = nl at *
  go_wp2_with fail
  refine (SP _ B2).mono ?_
  rintro e w3 ⟨v3, rfl, bb3, b3⟩
  have B3 := B2.trans (b3.mono B2.size)
  clear T1 T2 SP b3 B2 B1
  have hml := split_len bs p
  have BB := bb3
  obtain ⟨a3, cap3, rfl, c1, c2⟩ := bb3.ex
  have CN := fun wx => count_any bs.length p wx (by omega)
  have CNN := count_nn bs.length p
  by_cases hp : p > 0
  · obtain ⟨q, rfl⟩ := Int.eq_ofNat_of_zero_le (show 0 ≤ p by omega)
    have hq : 0 < q := by omega
    have CL := fun k : Nat => count_lt (n := (bs.length : Int)) (p := (q : Int)) k (by omega)
    have SG := split_get bs (q : Int)
    rw [Int.toNat_natCast] at SG
    obtain ⟨m, hm⟩ := Int.eq_ofNat_of_zero_le CNN
    rw [hm] at CN
    have hmm : (splitM bs (q : Int)).length = m := by rw [hml, hm, Int.toNat_natCast]
    rw [hmm] at BB c1 ⊢
    have CK : ∀ k : Nat, k < m ↔ k * q < bs.length := fun k => by
      have h := CL k
      rw [hm, ← Int.natCast_mul, Int.ofNat_lt, Int.ofNat_lt] at h
      exact h
    have hmb : m ≤ bs.length := by
      rcases Nat.lt_or_ge bs.length m with h | h
      · have := (CK bs.length).1 h
        have h' : bs.length * 1 ≤ bs.length * q := Nat.mul_le_mul_left _ hq
        omega
      · exact h
    clear hml CL CNN bb3
    go_wp2_with fail
    go_loopw [11, 13] (fun n t wr => ∃ k : Nat, k ≤ m ∧ n = .int .i64 k ∧ t = .int .i64 (upto bs.length q k : Nat) ∧ Below w3.heap.size w3 wr) (fun n _ _ => m - (intOf n).toNat)
    case atStart => exact ⟨0, Nat.zero_le _, rfl, by simp [upto], Below.refl _ _⟩
    case round =>
      obtain ⟨k, hk, rfl, rfl, BR⟩ := hrel
      by_cases hlt : k < m
      · have hkq := (CK k).1 hlt
        have eu : upto bs.length q k = k * q := Nat.min_eq_left (by omega)
        have PE := piece_eq (bs := bs) (q := q) (k := k)
        have eu1 : upto bs.length q (k + 1) = if k * q + q < bs.length then k * q + q else bs.length := by
          unfold upto
          rw [Nat.succ_mul]
          split
          · exact Nat.min_eq_left (by omega)
          · exact Nat.min_eq_right (by omega)
        obtain ⟨b, off, d, hbb, hix, hby, hcell⟩ := BbS.at (SlG.below By.bears BB BR (Nat.le_refl _)) k (by omega)
        rw [SG k (by omega), ← PE] at hby
        have HB1 : By w3.heap.size wr (.slice ab bs.length cb) bs := (HB.below (B3.trans (BR.mono B3.size)) (Nat.le_refl _)).mono B3.size
        have hle : upto bs.length q (k + 1) ≤ bs.length := Nat.min_le_right _ _
        have hge : k * q ≤ upto bs.length q (k + 1) := by rw [eu1]; split <;> omega
        have RE := HB1.re (k * q) (upto bs.length q (k + 1) - k * q) (by omega)
        have SL := run_re_lh ab bs.length cb (k * q) (upto bs.length q (k + 1) - k * q) (upto bs.length q (k + 1) : Nat) (by omega) (by omega) h3
        have S1 := fun nq => (hby.below (drewN_below w3.heap.size wr nq) (Nat.le_refl _)).str
        have S2 := fun nq => (RE.below (drewN_below w3.heap.size wr nq) (Nat.le_refl _)).str
        obtain ⟨ad, cd, rfl, -, -⟩ := hby.ex
        have hdl : ((bs.drop (k * q)).take (upto bs.length q (k + 1) - k * q)).length = upto bs.length q (k + 1) - k * q := by simp; omega
        rw [hdl] at hcell S1
        rw [eu]
        have EU1 : Hid _ := eu1
        clear eu PE hby RE HB1 SG CK hdl eu1
        generalize hto : upto bs.length q (k + 1) = tt at *
        have HTO : Hid (upto bs.length q (k + 1) = tt) := hto
        clear hto
        generalize k * q = t at *
        clear SL
        have HD : Hid (tt = t + (tt - t)) := by show _ = _; omega
        generalize tt - t = d at *
        have gd1 : decide (m ≤ k) = false := decide_eq_false (by omega)
        have gd2 : decide ((m : Int) ≤ (k : Int)) = false := decide_eq_false (by omega)
        by_cases hcase : (q : Int) < (bs.length : Int) - (t : Int)
        · have e1 : tt = t + q := by rw [EU1.out, if_pos (by omega)]
          obtain rfl : d = q := by have := HD.out; omega
          have SL := run_re_lh ab bs.length cb t d ((t : Int) + (d : Int)) rfl (by omega) h3
          have HE : Hid (upto bs.length d (k + 1) = t + d) := by show _ = _; rw [HTO.out, e1]
          clear EU1 HTO HD hle hge e1
          go_wp2_with fail
          go_quiet (fail)
          go_wp2_with fail
          exact ⟨⟨k + 1, by omega, by go_num, by rw [HE.out]; go_num, BR.trans (drewN_below _ _ _)⟩, by simp [intOf]; omega⟩
        · have e1 : tt = bs.length := by rw [EU1.out, if_neg (by omega)]
          subst e1
          have hdd := HD.out
          have SL := run_re_lh ab bs.length cb t d (bs.length : Int) (by omega) (by omega) h3
          clear EU1 HD hle hge hdd
          go_wp2_with fail
          go_quiet (fail)
          go_wp2_with fail
          exact ⟨⟨k + 1, by omega, by go_num, by rw [HTO.out], BR.trans (drewN_below _ _ _)⟩, by simp [intOf]; omega⟩
      · have hkm : k = m := by omega
        subst hkm
        have eu : upto bs.length q k = bs.length := by
          rcases Nat.lt_or_ge (k * q) bs.length with h | h
          · exact absurd ((CK k).2 h) hlt
          · exact Nat.min_eq_right h
        rw [eu]
        have BE := B3.trans (BR.mono B3.size)
        clear eu SG CK
        go_wp2_with (go_at_call 20; refine (CN _).mono ?_; rintro e w' ⟨rfl, rfl⟩)
        go_ret
        exact ⟨rfl, BE⟩
  · have h0 : (splitM bs p).length = 0 := by rw [hml, countM_none (.inr (by omega))]; rfl
    have h00 : countM bs.length p = 0 := countM_none (.inr (by omega))
    rw [h00] at CN
    rw [h0]
    clear hml c1 c2 BB bb3 CNN
    go_wp2_with fail
    refine wp_loop_rounds 1 ?_
    rw [rounds_succ]
    go_wp2_with (go_at_call 20; refine (CN _).mono ?_; rintro e w' ⟨rfl, rfl⟩)
    go_ret
    exact ⟨rfl, B3⟩
end Go.Proofs.Ytnddejdndipddab
