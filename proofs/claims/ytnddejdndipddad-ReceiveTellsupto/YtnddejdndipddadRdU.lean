/- The document's Up: what it answers lies in new blocks. -/
import Derived.Test.YtnddejdndipddadLD
import Derived.Test.YtnddejdndipddadRcY
set_option maxRecDepth 20000
namespace Go.Proofs.Ytnddejdndipddad
open Go.RowKit

set_option maxHeartbeats 1000000 in
theorem rup_in (v : Value) (l : List Sp) (c : Int) (w : World) (hv : Sl w.heap.size w v l) (hc1 : -1099511627776 ≤ c) (hc2 : c ≤ 1099511627776) (hu : Upto 1099511627776 l) (hl : l.length * 16 ≤ 140737488351232) :
    Calls Try.prog 63 #[v, .int .i64 c] w fun e w' => ∃ v', e = .returned (.tuple #[.int .i64 (rupM l c []).1, v']) ∧ Sl w'.heap.size w' v' (rupM l c []).2 ∧ Below w.heap.size w w' ∧ InS (fun k => w.heap.size ≤ k) v' := by
  obtain ⟨a, cap, rfl⟩ := hv.ex
  have q1 := hv.len
  have hfit := q1.2.2.2
  clear q1
  go_enter Try.func63, Try.ntmps63
  go_wp2
  go_loopw [1, 6, 11] (fun cs o i wr => ∃ (k : Nat) (ck : Int) (lo : List Sp), k ≤ l.length ∧ i = .int .i64 k ∧ cs = .int .i64 ck ∧ -1099511627776 ≤ ck ∧ ck ≤ 1099511627776 ∧ wr.ownsRow w.heap.size 75 2 o lo.length (flat lo) ∧ Fit lo ∧ lo.length ≤ k ∧ Below w.heap.size w wr ∧ Hid (rupM l c [] = rupM (l.drop k) ck lo))
      (fun _ _ i _ => l.length - (intOf i).toNat)
  case atStart => exact ⟨0, c, [], Nat.zero_le _, rfl, rfl, hc1, hc2, World.ownsRow_nil _ _ _ _, fun s hs => by simp at hs, by simp, Below.refl _ _, rfl⟩
  case round =>
    obtain ⟨k, ck, lo, hk, rfl, rfl, g1, g2, hown, hfo, hlo, hbel, HR⟩ := hrel
    by_cases hlt : k < l.length
    · obtain ⟨b, off, hb, hix, hx0, hx1⟩ := (hv.below hbel (Nat.le_refl _)).at k hlt
      have hcons := List.drop_eq_getElem_cons hlt
      have hs := hfit l[k] (List.getElem_mem _)
      have hsu := hu l[k] (List.getElem_mem _)
      by_cases t1 : l[k].1 ≤ ck + 1
      · have HR2 : Hid (rupM l c [] = rupM (l.drop (k + 1)) (max ck l[k].2) lo) := by
          show _ = _
          rw [HR.out, hcons, rupM, if_pos t1]
        clear hcons hs
        by_cases t2 : ck < l[k].2
        · rw [show max ck l[k].2 = l[k].2 by omega] at HR2
          go_wp2
          go_roundw
          case rel => exact ⟨k + 1, l[k].2, lo, by omega, by go_num, rfl, by omega, by omega, hown.alloc _, hfo, by omega, hbel.alloc hbel.size _, HR2⟩
          case measure => simp [intOf]; omega
        · rw [show max ck l[k].2 = ck by omega] at HR2
          go_wp2
          go_roundw
          case rel => exact ⟨k + 1, ck, lo, by omega, by go_num, rfl, by omega, by omega, hown.alloc _, hfo, by omega, hbel.alloc hbel.size _, HR2⟩
          case measure => simp [intOf]; omega
      · have HR2 : Hid (rupM l c [] = rupM (l.drop (k + 1)) ck (lo ++ [(l[k].1, l[k].2)])) := by
          show _ = _
          rw [HR.out, hcons, rupM, if_neg t1]
        have hsz := hbel.size
        clear hcons
        go_wp2_with (first
          | (at_builtin; refine wpList_append_sp _ rfl (.tmp 26) (.tmp 28) rfl w.heap.size u6 lo.length (flat lo) rfl ((hown.alloc _).alloc _) (wr.heap.size + 1 + 1) [(l[k].1, l[k].2)] (.slice (some ⟨wr.heap.size + 1, 0, none⟩) 1 1) rfl (by have := Sl.one (wr.alloc (.cells #[.int .i64 l[k].1, .int .i64 l[k].2] 75)) l[k].1 l[k].2 hs.1 hs.2; simpa using this) (by simp; omega) (by simp; omega) ?_; intro v4 w4 own4 grow4; have B4 := ((hbel.alloc hbel.size _).alloc (by simp; omega) _).trans (grown_below ((hown.alloc _).alloc _) grow4 (by simp; omega)); clear grow4)
          | fail)
        go_roundw
        case rel => exact ⟨k + 1, ck, lo ++ [(l[k].1, l[k].2)], by omega, by go_num, rfl, g1, g2, own_snoc own4, fit_snoc hfo hs, by simp; omega, B4, HR2⟩
        case measure => simp [intOf]; omega
    · have HE : Hid (rupM l c [] = (ck, lo)) := by
        show _ = _
        rw [HR.out, List.drop_of_length_le (by omega)]
        rfl
      go_wp2
      go_ret2
      rw [HE.out]
      exact ⟨_, rfl, Sl.own hown hfo, hbel, (InS.own hown).mono fun _ h => h.1⟩
end Go.Proofs.Ytnddejdndipddad
