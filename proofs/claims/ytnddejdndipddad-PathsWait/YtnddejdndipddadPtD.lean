/- The contracts of paths' Open and Choose, and of the document's Acked, Halved. -/
import Derived.Test.YtnddejdndipddadPtC
set_option maxRecDepth 20000
namespace Go.Proofs.Ytnddejdndipddad
open Go.RowKit

set_option maxHeartbeats 400000 in
theorem open_any (p : Pt) (w : World) : Calls Try.prog 16 #[ptVal p] w fun e w' => e = .returned (.bool (decide (p.flight < p.window))) ∧ Below w.heap.size w w' := by
  obtain ⟨window, slow, part, flight, errors, alarm, wait⟩ := p
  simp only [ptVal] at *
  have HB := fun o => box_below w o
  go_enter Try.func16, Try.ntmps16
  go_wp2
  go_ret
  exact ⟨rfl, HB _⟩

theorem enters_choose (args : Array Value) (wx : World) : (callFunc 42 args).run Try.prog wx = .ok (.enter 42 args) wx := enters_body Try.func42 (by kernel_rfl) rfl args wx

set_option maxHeartbeats 400000 in
theorem works_any (p : Pt) (w : World) : Calls Try.prog 42 #[ptVal p] w fun e w' => e = .returned (.bool (worksP p)) ∧ Below w.heap.size w w' := by
  obtain ⟨window, slow, part, flight, errors, alarm, wait⟩ := p
  simp only [ptVal] at *
  have HB := fun o => box_below w o
  go_enter Try.func42, Try.ntmps42
  go_wp2
  go_ret
  exact ⟨rfl, HB _⟩

/-- Where the first one that works is, or -1. -/
def idxP (l : List Pt) : Int := if l.findIdx worksP < l.length then (l.findIdx worksP : Int) else -1
theorem idx_at {l : List Pt} {k : Nat} (hk : k < l.length) (hno : ∀ j, (h : j < k) → worksP (l[j]'(by omega)) = false) (hw : worksP l[k] = true) : l.findIdx worksP = k := by
  refine (List.findIdx_eq hk).2 ⟨hw, fun j hj => ?_⟩
  exact hno j hj
theorem idx_none {l : List Pt} (hno : ∀ j, (h : j < l.length) → worksP l[j] = false) : l.findIdx worksP = l.length :=
  List.findIdx_eq_length.2 fun x hx => by
    obtain ⟨j, hj, rfl⟩ := List.mem_iff_getElem.1 hx
    exact hno j hj

set_option maxHeartbeats 1000000 in
theorem indexP_any (v : Value) (l : List Pt) (w : World) (hv : PtS w.heap.size w v l) :
    Calls Try.prog 43 #[v, .func (.func 42) #[] #[]] w fun e w' => e = .returned (.int .i64 (idxP l)) ∧ Below w.heap.size w w' := by
  have HV := hv
  obtain ⟨a, cap, rfl, h1, h2⟩ := hv.ex
  have HE := enters_choose
  go_enter Try.func43, Try.ntmps43
  go_wp2_with fail
  go_loopw [8] (fun i wr => ∃ k : Nat, k ≤ l.length ∧ i = .int .i64 k ∧ (∀ j, (h : j < k) → (h' : j < l.length) → worksP l[j] = false) ∧ Below w.heap.size w wr) (fun i _ => l.length - (intOf i).toNat)
  case atStart => exact ⟨0, Nat.zero_le _, rfl, fun j hj => by omega, Below.refl _ _⟩
  case round =>
    obtain ⟨k, hk, rfl, hno, BR⟩ := hrel
    have HNO : Hid (∀ j, (h : j < k) → (h' : j < l.length) → worksP l[j] = false) := hno
    clear hno
    by_cases hlt : k < l.length
    · obtain ⟨b, off, hb, hix, x0, x1, x2, x3, x4, x5, x6⟩ := PtS.at (SlG.below PtV.bears HV BR (Nat.le_refl _)) k hlt
      have AS := works_any l[k] wr
      have RY : Hid (worksP l[k] = true → idxP l = (k : Int)) := fun hw => by
        have := idx_at hlt (fun j hj => HNO.out j hj (by omega)) hw
        rw [idxP, this, if_pos hlt]
      have RN : Hid (worksP l[k] = false → ∀ j, (h : j < k + 1) → (h' : j < l.length) → worksP l[j] = false) := fun hw j hj hj' => by
        by_cases e : j = k
        · subst e; exact hw
        · exact HNO.out j (by omega) hj'
      simp only [ptVal] at AS
      generalize hq : l[k] = q at *
      clear hq
      go_wp2_with fail
      refine AS.mono ?_
      rintro e w1 ⟨rfl, b1⟩
      have B1 := BR.trans (b1.mono BR.size)
      cases hw : worksP q with
      | true =>
        have FI := RY.out hw
        go_wp2_with fail
        go_ret
        exact ⟨ret_int FI.symm, B1⟩
      | false =>
        have HN2 := RN.out hw
        have HN3 : Hid _ := HN2
        clear HN2
        go_wp2_with fail
        go_roundw
        case rel => exact ⟨k + 1, by omega, by go_num, HN3.out, B1⟩
        case measure => simp [intOf]; omega
    · have hkl : k = l.length := by omega
      subst hkl
      have FI : Hid (idxP l = -1) := by
        show _ = _
        rw [idxP, idx_none (fun j hj => HNO.out j hj hj), if_neg (by omega)]
      go_wp2_with fail
      go_ret
      exact ⟨ret_int FI.out.symm, BR⟩

set_option maxHeartbeats 400000 in
theorem choose_any (v : Value) (l : List Pt) (w : World) (hv : PtS w.heap.size w v l) :
    Calls Try.prog 17 #[v] w fun e w' => e = .returned (.int .i64 (chooseP l)) ∧ Below w.heap.size w w' := by
  have IX := indexP_any v l w hv
  obtain ⟨a, cap, rfl, h1, h2⟩ := hv.ex
  have HC : Hid (chooseP l = if 0 < idxP l then idxP l else 0) := by
    show _ = _
    unfold chooseP idxP
    split
    · next h => split <;> omega
    · rfl
  generalize hi : idxP l = i at *
  have hb : -1 ≤ i ∧ i ≤ 9223372036854775807 := by
    rw [← hi]; unfold idxP; split <;> omega
  obtain ⟨hb1, hb2⟩ := hb
  clear hi
  go_enter Try.func17, Try.ntmps17
  go_wp2_with fail
  refine IX.mono ?_
  rintro e w1 ⟨rfl, b1⟩
  by_cases hp : 0 < i
  · go_wp2_with fail
    all_goals (go_ret; exact ⟨ret_int (by rw [HC.out]; split <;> omega), b1⟩)
  · go_wp2_with fail
    all_goals (go_ret; exact ⟨ret_int (by rw [HC.out]; split <;> omega), b1⟩)
end Go.Proofs.Ytnddejdndipddad
