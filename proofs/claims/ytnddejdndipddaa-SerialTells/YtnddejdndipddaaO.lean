/- The contract of the document's Rise, whatever the spans. -/
import Derived.Test.YtnddejdndipddaaL
set_option maxRecDepth 20000
namespace Go.Proofs.Ytnddejdndipddaa
open Go.RowKit

set_option maxHeartbeats 1000000 in
theorem rise_any (v : Value) (l : List Sp) (w : World) (hv : Sl w.heap.size w v l) :
    Calls Try.prog 13 #[v] w fun e w' => ∃ r : Bool, e = .returned (.bool r) ∧ (r = true → ∀ k (h : k < l.length), stepB (if k = 0 then none else l[k - 1]?) l[k]) ∧ Below w.heap.size w w' := by
  obtain ⟨a, cap, rfl⟩ := hv.ex
  have q1 := hv.len
  have q3 : l.length ≤ 9223372036854775807 := by omega
  have hfit := q1.2.2.2
  clear q1
  go_enter Try.func13, Try.ntmps13
  go_wp2
  go_loopw [7] (fun i wr => ∃ (k : Nat), k ≤ l.length ∧ i = .int .i64 k ∧ Below w.heap.size w wr ∧ Hid (∀ j (h : j < l.length), j < k → stepB (if j = 0 then none else l[j - 1]?) l[j]))
      (fun i _ => l.length - (intOf i).toNat)
  case atStart => exact ⟨0, Nat.zero_le _, rfl, Below.refl _ _, fun j _ hj => by omega⟩
  case round =>
    obtain ⟨k, hk, rfl, hbel, HS⟩ := hrel
    by_cases hlt : k < l.length
    · obtain ⟨b, off, hb, hix, hx0, hx1⟩ := (hv.below hbel (Nat.le_refl _)).at k hlt
      have hf1 := (hfit l[k] (List.getElem_mem _)).1
      have hf1a := hf1.1
      have hf1b := hf1.2
      clear hf1
      have hfin : ∀ nq o, Below w.heap.size w ((wr.alloc o).drewN nq) := fun nq o => below_drewN (hbel.alloc hbel.size _) nq
      have HF : Hid (∀ nq o, Below w.heap.size w ((wr.alloc o).drewN nq)) := hfin
      clear hfin
      by_cases s1 : l[k].1 < -1099511627776
      · have d1 : decide (l[k].1 < -1099511627776) = true := by simpa using s1
        clear s1
        go_wp2
        go_quiet (fail)
        go_wp2
        go_ret
        exact ⟨false, rfl, fun h => by simp at h, HF.out _ _⟩
      · have d1 : decide (l[k].1 < -1099511627776) = false := by simpa using s1
        by_cases s2 : 1099511627776 < l[k].2
        · have d2 : decide (1099511627776 < l[k].2) = true := by simpa using s2
          clear s2
          go_wp2
          go_quiet (fail)
          go_wp2
          go_ret
          exact ⟨false, rfl, fun h => by simp at h, HF.out _ _⟩
        · have d2 : decide (1099511627776 < l[k].2) = false := by simpa using s2
          by_cases s3 : l[k].2 < l[k].1
          · have d3 : decide (l[k].2 < l[k].1) = true := by simpa using s3
            clear s3
            go_wp2
            go_quiet (fail)
            go_wp2
            go_ret
            exact ⟨false, rfl, fun h => by simp at h, HF.out _ _⟩
          · have d3 : decide (l[k].2 < l[k].1) = false := by simpa using s3
            by_cases hk0 : k = 0
            · have d4 : decide (0 < k) = false := by simp; omega
              have HS2 : Hid (∀ j (h : j < l.length), j < k + 1 → stepB (if j = 0 then none else l[j - 1]?) l[j]) := fun j hj hjk => by
                have e : j = 0 := by omega
                subst e
                subst hk0
                exact ⟨by omega, by omega, by omega, fun t ht => by simp at ht⟩
              clear hk0
              go_wp2
              go_quiet (fail)
              go_wp2
              go_roundw
              case rel => exact ⟨k + 1, by omega, by go_num, HF.out _ _, HS2⟩
              case measure => simp [intOf]; omega
            · have d4 : decide (0 < k) = true := by simp; omega
              obtain ⟨b', off', hb', hix', hy0, hy1⟩ := (hv.below hbel (Nat.le_refl _)).at (k - 1) (by omega)
              rw [show ((k - 1 : Nat) : Int) = (k : Int) - 1 by omega] at hix'
              have hy1' : ∀ o, (wr.alloc o).cell? ⟨b', off' + 1, none⟩ = some (.int .i64 l[k - 1].2) := fun o => by rw [World.cell?_alloc_past _ _ _ (by have := hbel.size; omega)]; exact hy1
              by_cases s4 : l[k].1 - 1 ≤ l[k - 1].2
              · have d5 : decide (l[k].1 - 1 ≤ l[k - 1].2) = true := by simpa using s4
                clear s4 hk0
                go_wp2
                go_quiet (fail)
                go_wp2
                go_ret
                exact ⟨false, rfl, fun h => by simp at h, HF.out _ _⟩
              · have d5 : decide (l[k].1 - 1 ≤ l[k - 1].2) = false := by simpa using s4
                have HS2 : Hid (∀ j (h : j < l.length), j < k + 1 → stepB (if j = 0 then none else l[j - 1]?) l[j]) := fun j hj hjk => by
                  by_cases e : j = k
                  · subst e
                    refine ⟨by omega, by omega, by omega, fun t ht => ?_⟩
                    rw [if_neg hk0, List.getElem?_eq_getElem (by omega), Option.some.injEq] at ht
                    subst ht
                    omega
                  · exact HS.out j hj (by omega)
                clear s4 hk0
                go_wp2
                go_quiet (fail)
                go_wp2
                go_roundw
                case rel => exact ⟨k + 1, by omega, by go_num, HF.out _ _, HS2⟩
                case measure => simp [intOf]; omega
    · go_wp2
      go_ret
      exact ⟨true, rfl, fun _ j hj => HS.out j hj (by omega), hbel⟩

/-- Spans as Rise asks: they rise, up to a bound. -/
theorem steps_ris (l : List Sp) (b : Int) (h : ∀ k (h : k < l.length), stepB (if k = 0 then none else l[k - 1]?) l[k]) (hb : ∀ s, l.head? = some s → b < s.1) : Ris b l := by
  induction l generalizing b with
  | nil => trivial
  | cons s r ih =>
    have h0 := h 0 (by simp)
    refine ⟨hb s rfl, by simpa using h0.2.2.1, ih _ (fun k hk => ?_) (fun t ht => ?_)⟩
    · have := h (k + 1) (by simpa using hk)
      refine ⟨this.1, this.2.1, this.2.2.1, fun t ht => this.2.2.2 t ?_⟩
      cases k with
      | zero => simp at ht
      | succ k => simpa using ht
    · cases r with
      | nil => simp at ht
      | cons u q =>
        simp at ht
        subst ht
        have := (h 1 (by simp)).2.2.2 s (by simp)
        simp at this
        omega
theorem steps_low (l : List Sp) (h : ∀ k (h : k < l.length), stepB (if k = 0 then none else l[k - 1]?) l[k]) : Ris (-1099511627777) l ∧ Upto 1099511627776 l := by
  refine ⟨steps_ris l _ h (fun s hs => ?_), fun s hs => ?_⟩
  · cases l with
    | nil => simp at hs
    | cons u q => simp at hs; subst hs; have := (h 0 (by simp)).1; simp at this; omega
  · obtain ⟨k, hk, rfl⟩ := List.mem_iff_getElem.1 hs
    exact (h k hk).2.1

end Go.Proofs.Ytnddejdndipddaa
