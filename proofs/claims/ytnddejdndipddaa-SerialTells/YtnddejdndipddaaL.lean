/- The contracts of the document's Near and In. -/
import Derived.Test.YtnddejdndipddaaJ
set_option maxRecDepth 20000
namespace Go.Proofs.Ytnddejdndipddaa
open Go.RowKit

theorem near_plus (n t : Int) (k : Nat) (hk : k ≤ 32768) (h : (n + k) % 65536 = t % 65536) : nearM n t = n + k := by
  simp only [nearM]
  rw [show (t - n) % 65536 = k by omega, if_neg (by omega)]
theorem near_minus (n t : Int) (k : Nat) (hk : k ≤ 32768) (hno : ∀ j : Nat, j < k → (n + j) % 65536 ≠ t % 65536 ∧ (n - j) % 65536 ≠ t % 65536) (h : (n + k) % 65536 ≠ t % 65536) (h2 : k = 32768 ∨ (n - k) % 65536 = t % 65536) : nearM n t = n - k := by
  rcases h2 with h2 | h2
  · exfalso
    subst h2
    have g1 := hno ((t - n) % 65536).toNat
    have g2 := hno ((n - t) % 65536).toNat
    omega
  · simp only [nearM]
    rw [show (t - n) % 65536 = 65536 - k by omega, if_pos (by omega)]
    omega

/-- Half a round, behind a name. -/
def halfN : Nat := 32768
/-- The rest, behind a name. -/
def tg (n : Int) : Int := n % 65536
theorem rtag_tg (n : Int) (w : World) : Calls Try.prog 10 #[.int .i64 n] w fun e w' => e = .returned (.int .i64 (tg n)) ∧ w' = w := rtag_any n w

set_option maxHeartbeats 400000 in
theorem rnear_any (n t : Int) (w : World) (h1 : -1099511627776 ≤ n) (h2 : n ≤ 1099511627776) : Calls Try.prog 12 #[.int .i64 n, .int .i64 t] w fun e w' => e = .returned (.int .i64 (nearM n t)) ∧ w' = w := by
  go_enter Try.func12, Try.ntmps12
  go_wp2
  go_loop [5] (fun d => ∃ k : Nat, (k : Int) ≤ 32768 ∧ d = .int .i64 k ∧ Hid (∀ j : Nat, j < k → (n + j) % 65536 ≠ t % 65536 ∧ (n - j) % 65536 ≠ t % 65536)) (fun d => halfN - (intOf d).toNat)
  case atStart => exact ⟨0, by omega, rfl, fun j hj => by omega⟩
  case round =>
    obtain ⟨k, hk, rfl, HN⟩ := hrel
    by_cases hb : (n + k) % 65536 = t % 65536
    · have eb : (tg (n + (k : Int)) != tg t) = false := by simpa [tg] using hb
      have eb2 : (tg (n + (k : Int)) == tg t) = true := by simpa [tg] using hb
      have HE : Hid (nearM n t = n + k) := near_plus n t k (by omega) hb
      clear hb
      by_cases hlt : (k : Int) < 32768
      · go_wp2_with (go_at_call 10; refine (rtag_tg _ _).mono ?_; rintro e w' ⟨rfl, rfl⟩)
        go_ret
        exact ⟨ret_int HE.out.symm, rfl⟩
      · go_wp2_with (go_at_call 10; refine (rtag_tg _ _).mono ?_; rintro e w' ⟨rfl, rfl⟩)
        go_ret
        exact ⟨ret_int HE.out.symm, rfl⟩
    · have eb : (tg (n + (k : Int)) != tg t) = true := by simpa [tg] using hb
      have eb2 : (tg (n + (k : Int)) == tg t) = false := by simpa [tg] using hb
      by_cases hc : (n - k) % 65536 = t % 65536
      · have ec : (tg (n - (k : Int)) != tg t) = false := by simpa [tg] using hc
        have HE : Hid (nearM n t = n - k) := near_minus n t k (by omega) HN.out hb (Or.inr hc)
        clear hb hc
        by_cases hlt : (k : Int) < 32768
        · go_wp2_with (go_at_call 10; refine (rtag_tg _ _).mono ?_; rintro e w' ⟨rfl, rfl⟩)
          go_ret
          exact ⟨ret_int HE.out.symm, rfl⟩
        · go_wp2_with (go_at_call 10; refine (rtag_tg _ _).mono ?_; rintro e w' ⟨rfl, rfl⟩)
          go_ret
          exact ⟨ret_int HE.out.symm, rfl⟩
      · have ec : (tg (n - (k : Int)) != tg t) = true := by simpa [tg] using hc
        by_cases hlt : (k : Int) < 32768
        · have HN2 : Hid (∀ j : Nat, j < k + 1 → (n + j) % 65536 ≠ t % 65536 ∧ (n - j) % 65536 ≠ t % 65536) := fun j hj => by
            by_cases e : j = k
            · subst e; exact ⟨hb, hc⟩
            · exact HN.out j (by omega)
          clear hb hc
          go_wp2_with (go_at_call 10; refine (rtag_tg _ _).mono ?_; rintro e w' ⟨rfl, rfl⟩)
          go_round
          case rel => exact ⟨k + 1, by omega, by go_num, HN2⟩
          case measure => simp [intOf, halfN]; omega
        · have HE : Hid (nearM n t = n - k) := near_minus n t k (by omega) HN.out hb (Or.inl (by omega))
          clear hb hc
          go_wp2_with (go_at_call 10; refine (rtag_tg _ _).mono ?_; rintro e w' ⟨rfl, rfl⟩)
          go_ret
          exact ⟨ret_int HE.out.symm, rfl⟩

set_option maxHeartbeats 400000 in
theorem rin_any (v : Value) (l : List Sp) (n : Int) (w : World) (hv : Sl w.heap.size w v l) :
    Calls Try.prog 17 #[v, .int .i64 n] w fun e w' => e = .returned (.bool (inM l n)) ∧ Below w.heap.size w w' := by
  obtain ⟨a, cap, rfl⟩ := hv.ex
  have q1 := hv.len
  have q3 : l.length ≤ 9223372036854775807 := by omega
  clear q1
  go_enter Try.func17, Try.ntmps17
  go_wp2
  go_loopw [9] (fun i wr => ∃ (k : Nat), k ≤ l.length ∧ i = .int .i64 k ∧ Below w.heap.size w wr ∧ Hid (inM l n = inM (l.drop k) n))
      (fun i _ => l.length - (intOf i).toNat)
  case atStart => exact ⟨0, Nat.zero_le _, rfl, Below.refl _ _, rfl⟩
  case round =>
    obtain ⟨k, hk, rfl, hbel, HI⟩ := hrel
    by_cases hlt : k < l.length
    · obtain ⟨b, off, hb, hix, hx0, hx1⟩ := (hv.below hbel (Nat.le_refl _)).at k hlt
      have hcons := List.drop_eq_getElem_cons hlt
      by_cases hs : l[k].1 ≤ n ∧ n ≤ l[k].2
      · have HE : Hid (inM l n = true) := by
          show _ = _
          rw [HI.out, hcons]
          exact (inM_cons _ _ _).2 (Or.inl hs)
        have g1 := hs.1
        have g2 := hs.2
        clear hcons hs
        go_wp2
        go_ret
        exact ⟨ret_bool HE.out.symm, hbel.alloc hbel.size _⟩
      · have HE : Hid (inM l n = inM (l.drop (k + 1)) n) := by
          show _ = _
          rw [HI.out, hcons, Bool.eq_iff_iff, inM_cons]
          exact ⟨fun g => g.resolve_left hs, Or.inr⟩
        clear hcons
        by_cases g1 : l[k].1 ≤ n
        · have g2 : ¬ n ≤ l[k].2 := fun g => hs ⟨g1, g⟩
          clear hs
          go_wp2
          go_roundw
          case rel => exact ⟨k + 1, by omega, by go_num, hbel.alloc hbel.size _, HE⟩
          case measure => simp [intOf]; omega
        · clear hs
          go_wp2
          go_roundw
          case rel => exact ⟨k + 1, by omega, by go_num, hbel.alloc hbel.size _, HE⟩
          case measure => simp [intOf]; omega
    · have HE : Hid (inM l n = false) := by
        show _ = _
        rw [HI.out, List.drop_of_length_le (by omega)]
        rfl
      go_wp2
      go_ret
      exact ⟨ret_bool HE.out.symm, hbel⟩
end Go.Proofs.Ytnddejdndipddaa
