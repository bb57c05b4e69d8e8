/- The contracts of the document's Acked, Halved, Late and Choose. -/
import Derived.Test.YtnddejdndipddadPtD
set_option maxRecDepth 20000
namespace Go.Proofs.Ytnddejdndipddad
open Go.RowKit

set_option maxHeartbeats 1000000 in
theorem racked_any (p : Pt) (bytes n : Int) (moved : Bool) (w : World) (hp : PtOk p) (h1 : 1 ≤ n) (h2 : n ≤ 16) (b1 : 0 ≤ bytes) (b2 : bytes ≤ 100000) : Calls Try.prog 11 #[ptVal p, .int .i64 bytes, .int .i64 n, .bool moved] w fun e w' => e = .returned (ptVal (ackedP p bytes n moved)) ∧ Below w.heap.size w w' := by
  have HB := fun o o' => two_below' w o o'
  obtain ⟨w0, w1, p0, p1, e0, e1, t0, t1⟩ := hp
  cases moved with
  | false =>
    have hE : ackedP p bytes n false = p := rfl
    rw [hE]
    clear hE
    obtain ⟨window, slow, part, flight, errors, alarm, wait⟩ := p
    simp only [ptVal] at *
    go_enter Try.func11, Try.ntmps11
    go_wp2_with fail
    exact bodyPost_ret (v := ptVal ⟨window, slow, part, flight, errors, alarm, wait⟩) (by simp [results, Try.results11, go_sem, ptVal]) rfl ⟨rfl, HB _ _⟩
  | true =>
  cases hb : (bytes == 0) with
  | true =>
    have hE : ackedP p bytes n true = ⟨p.window, p.slow, p.part, p.flight, 0, 0, 3⟩ := by rw [ackedP, if_neg (by simp), if_pos (by simpa using hb)]
    rw [hE]
    clear hE
    obtain ⟨window, slow, part, flight, errors, alarm, wait⟩ := p
    simp only [ptVal] at *
    go_enter Try.func11, Try.ntmps11
    go_wp2_with fail
    exact bodyPost_ret (v := ptVal ⟨window, slow, part, flight, 0, 0, 3⟩) (by simp [results, Try.results11, go_sem, ptVal]) rfl ⟨rfl, HB _ _⟩
  | false =>
  have hb0 : ¬ bytes = 0 := by simpa using hb
  by_cases hs : p.window ≤ p.slow
  · have hE : ackedP p bytes n true = ⟨p.window + min bytes n, p.slow, p.part, p.flight, 0, 0, 3⟩ := by rw [ackedP, if_neg (by simp), if_neg hb0, if_pos hs]
    rw [hE]
    clear hE
    obtain ⟨window, slow, part, flight, errors, alarm, wait⟩ := p
    simp only [ptVal] at *
    by_cases hm : bytes < n
    · have hM : min bytes n = bytes := by omega
      rw [hM]
      clear hM
      go_enter Try.func11, Try.ntmps11
      go_wp2_with fail
      exact bodyPost_ret (v := ptVal ⟨window + bytes, slow, part, flight, 0, 0, 3⟩) (by simp [results, Try.results11, go_sem, ptVal]) rfl ⟨rfl, HB _ _⟩
    · have hM : min bytes n = n := by omega
      rw [hM]
      clear hM
      go_enter Try.func11, Try.ntmps11
      go_wp2_with fail
      exact bodyPost_ret (v := ptVal ⟨window + n, slow, part, flight, 0, 0, 3⟩) (by simp [results, Try.results11, go_sem, ptVal]) rfl ⟨rfl, HB _ _⟩
  · by_cases hg : p.part + bytes ≥ p.window
    · have hE : ackedP p bytes n true = ⟨p.window + n, p.slow, p.part + bytes - p.window, p.flight, 0, 0, 3⟩ := by rw [ackedP, if_neg (by simp), if_neg hb0, if_neg hs, if_neg (by omega)]
      rw [hE]
      clear hE
      obtain ⟨window, slow, part, flight, errors, alarm, wait⟩ := p
      simp only [ptVal] at *
      go_enter Try.func11, Try.ntmps11
      go_wp2_with fail
      exact bodyPost_ret (v := ptVal ⟨window + n, slow, part + bytes - window, flight, 0, 0, 3⟩) (by simp [results, Try.results11, go_sem, ptVal]) rfl ⟨rfl, HB _ _⟩
    · have hE : ackedP p bytes n true = ⟨p.window, p.slow, p.part + bytes, p.flight, 0, 0, 3⟩ := by rw [ackedP, if_neg (by simp), if_neg hb0, if_neg hs, if_pos (by omega)]
      rw [hE]
      clear hE
      obtain ⟨window, slow, part, flight, errors, alarm, wait⟩ := p
      simp only [ptVal] at *
      go_enter Try.func11, Try.ntmps11
      go_wp2_with fail
      exact bodyPost_ret (v := ptVal ⟨window, slow, part + bytes, flight, 0, 0, 3⟩) (by simp [results, Try.results11, go_sem, ptVal]) rfl ⟨rfl, HB _ _⟩

set_option maxHeartbeats 1000000 in
theorem rhalved_any (p : Pt) (n : Int) (w : World) (hw : 0 ≤ p.window) (hw2 : p.window ≤ 10000000) (h1 : 1 ≤ n) (h2 : n ≤ 16) : Calls Try.prog 13 #[ptVal p, .int .i64 n] w fun e w' => e = .returned (ptVal (halvedP p n)) ∧ Below w.heap.size w w' := by
  have HB := fun o o' => two_below' w o o'
  obtain ⟨window, slow, part, flight, errors, alarm, wait⟩ := p
  have hS : (halvedP ⟨window, slow, part, flight, errors, alarm, wait⟩ n) = ⟨min window (slowP window n), slowP window n, 0, flight, errors, alarm, wait⟩ := rfl
  rw [hS]
  clear hS
  simp only [ptVal] at *
  by_cases hq : window / 2 < 4 * n
  · have hL : slowP window n = 4 * n := by unfold slowP; omega
    rw [hL]
    clear hL
    by_cases hm : window > 4 * n
    · have hM : min window (4 * n) = 4 * n := by omega
      rw [hM]
      clear hM
      go_enter Try.func13, Try.ntmps13
      go_wp2_with fail
      exact bodyPost_ret (v := ptVal ⟨4 * n, 4 * n, 0, flight, errors, alarm, wait⟩) (by simp [results, Try.results13, go_sem, ptVal]) rfl ⟨rfl, HB _ _⟩
    · have hM : min window (4 * n) = window := by omega
      rw [hM]
      clear hM
      go_enter Try.func13, Try.ntmps13
      go_wp2_with fail
      exact bodyPost_ret (v := ptVal ⟨window, 4 * n, 0, flight, errors, alarm, wait⟩) (by simp [results, Try.results13, go_sem, ptVal]) rfl ⟨rfl, HB _ _⟩
  · have hL : slowP window n = window / 2 := by unfold slowP; omega
    rw [hL]
    clear hL
    have hm : window > window / 2 := by omega
    have hM : min window (window / 2) = window / 2 := by omega
    rw [hM]
    clear hM
    go_enter Try.func13, Try.ntmps13
    go_wp2_with fail
    exact bodyPost_ret (v := ptVal ⟨window / 2, window / 2, 0, flight, errors, alarm, wait⟩) (by simp [results, Try.results13, go_sem, ptVal]) rfl ⟨rfl, HB _ _⟩

set_option maxHeartbeats 1000000 in
theorem rchoose_any (v : Value) (l : List Pt) (w : World) (hv : PtS w.heap.size w v l) :
    Calls Try.prog 18 #[v] w fun e w' => e = .returned (.int .i64 (chooseP l)) ∧ Below w.heap.size w w' := by
  have HV := hv
  obtain ⟨a, cap, rfl, h1, h2⟩ := hv.ex
  go_enter Try.func18, Try.ntmps18
  go_wp2_with fail
  go_loopw [7] (fun i wr => ∃ k : Nat, k ≤ l.length ∧ i = .int .i64 k ∧ (∀ j, (h : j < k) → (h' : j < l.length) → worksP l[j] = false) ∧ Below w.heap.size w wr) (fun i _ => l.length - (intOf i).toNat)
  case atStart => exact ⟨0, Nat.zero_le _, rfl, fun j hj => by omega, Below.refl _ _⟩
  case round =>
    obtain ⟨k, hk, rfl, hno, BR⟩ := hrel
    have HNO : Hid (∀ j, (h : j < k) → (h' : j < l.length) → worksP l[j] = false) := hno
    have HB := fun o => BR.alloc BR.size o
    clear hno
    by_cases hlt : k < l.length
    · obtain ⟨b, off, hb, hix, x0, x1, x2, x3, x4, x5, x6⟩ := PtS.at (SlG.below PtV.bears HV BR (Nat.le_refl _)) k hlt
      have RY : Hid (worksP l[k] = true → chooseP l = (k : Int)) := fun hw => by
        have := idx_at hlt (fun j hj => HNO.out j hj (by omega)) hw
        rw [chooseP, this, if_pos hlt]
      have RN : Hid (worksP l[k] = false → ∀ j, (h : j < k + 1) → (h' : j < l.length) → worksP l[j] = false) := fun hw j hj hj' => by
        by_cases e : j = k
        · subst e; exact hw
        · exact HNO.out j (by omega) hj'
      generalize hq : l[k] = q at *
      clear hq
      by_cases hw : q.errors < 4
      · have FI : Hid (chooseP l = (k : Int)) := RY.out (decide_eq_true (by omega))
        go_wp2_with fail
        go_ret
        exact ⟨ret_int FI.out.symm, HB _⟩
      · have HN3 : Hid (∀ j, (h : j < k + 1) → (h' : j < l.length) → worksP l[j] = false) := RN.out (decide_eq_false (by omega))
        go_wp2_with fail
        go_roundw
        case rel => exact ⟨k + 1, by omega, by go_num, HN3.out, HB _⟩
        case measure => simp [intOf]; omega
    · have hkl : k = l.length := by omega
      subst hkl
      have FI : Hid (chooseP l = 0) := by
        show _ = _
        rw [chooseP, idx_none (fun j hj => HNO.out j hj hj), if_neg (by omega)]
      go_wp2_with fail
      go_ret
      exact ⟨ret_int FI.out.symm, BR⟩
end Go.Proofs.Ytnddejdndipddad
