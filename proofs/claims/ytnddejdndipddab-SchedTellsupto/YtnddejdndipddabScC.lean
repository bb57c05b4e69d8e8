/- The contracts of sched's small functions, and of slices.Clone of ints. -/
import Derived.Test.YtnddejdndipddabScB
import Derived.Lib.SliceRun
set_option maxRecDepth 20000
namespace Go.Proofs.Ytnddejdndipddab
open Go.RowKit

set_option maxHeartbeats 1000000 in
theorem clone_ints (v : Value) (zs : List Int) (w : World) (hv : In w.heap.size w v zs) (hl : zs.length * 8 ≤ 140737488355328) :
    Calls Try.prog 45 #[v] w fun e w' => ∃ a c, e = .returned (.slice a zs.length c) ∧ w'.ownsRow w.heap.size 3 1 (.slice a zs.length c) zs.length (cellsI zs) ∧ Below w.heap.size w w' := by
  have HV := hv
  obtain ⟨a, cap, rfl, h1, h2⟩ := hv.ex
  have q23 : ∀ (w : World) (a : Option Addr) (n c n' c' : Nat), (binOp .eql 49 (.slice a n c) (.slice none n' c')).run Try.prog w = .ok (.bool a.isNone) w := fun w a n c n' c' => Lib.run_eql_slice_nil w _ _ a n c n' c' Try.underlying49
  cases a with
  | none =>
    have hc : zs = [] := by
      obtain ⟨⟨_, a', cap', he, g1, g2, g0, _⟩, _⟩ := HV
      simp only [Value.slice.injEq] at he
      obtain ⟨rfl, _, rfl⟩ := he
      have := g0 rfl
      exact List.eq_nil_of_length_eq_zero (by omega)
    subst hc
    go_enter Try.func45, Try.ntmps45
    go_wp2
    go_ret
    exact ⟨none, 0, rfl, World.ownsRow_nil _ _ _ _, Below.refl _ _⟩
  | some ad =>
    have HB := fun o => box_below w o
    have HR := fun o => HV.1.below (box_below w o) (Nat.le_refl _)
    go_enter Try.func45, Try.ntmps45
    go_wp2_with (at_builtin; refine wpList_append_rw Try.underlying49 Try.info3 rfl (by decide) _ rfl (.tmp 5) (.tmp 6) rfl w.heap.size (.slice (some ⟨w.heap.size, 0, none⟩) 0 0) 0 [] rfl (World.ownsRow_made w #[] 0 (Nat.le_refl _) (Nat.zero_le _) rfl) w.heap.size zs.length (cellsI zs) _ rfl (HR _) (cellsI_one _) (by unfold maxLen; omega) (by omega) (by simp) ?_; intro v3 w3 own3 grow3 at3)
    rw [List.nil_append, Nat.zero_add] at own3
    have BE : Below w.heap.size w w3 := (HB _).grown grow3 (by simp) (by intro k hk; simp [Value.ownBlock] at hk; omega)
    obtain ⟨a3, cap3, rfl⟩ := own_form own3
    have OW : Hid _ := own3
    clear own3 grow3 at3 HR HB
    go_wp2
    go_ret
    exact ⟨_, _, rfl, OW.out, BE⟩

set_option maxHeartbeats 400000 in
theorem isStream_any (last hand : Int) (a : Option Addr) (n cap : Nat) (x : Int) (w : World) :
    Calls Try.prog 44 #[.agg #[.int .i64 last, .int .i64 hand, .slice a n cap], .int .i64 x] w fun e w' => e = .returned (.bool (decide (isSt n x))) ∧ Below w.heap.size w w' := by
  have HB := fun o => box_below w o
  by_cases h0 : 0 ≤ x
  · have HE : Hid (decide (isSt n x) = decide (x < (n : Int))) := by show _ = _; simp [isSt, h0]
    go_enter Try.func44, Try.ntmps44
    go_wp2
    go_ret
    exact ⟨ret_bool HE.out.symm, HB _⟩
  · have HE : Hid (decide (isSt n x) = false) := by show _ = _; simp [isSt, h0]
    go_enter Try.func44, Try.ntmps44
    go_wp2
    go_ret
    exact ⟨ret_bool HE.out.symm, HB _⟩

set_option maxHeartbeats 400000 in
theorem noughts_any (n : Nat) (w : World) (hn : n ≤ 2147483647) :
    Calls Try.prog 46 #[.int .i64 (n : Int)] w fun e w' => e = .returned (.slice (some ⟨w.heap.size, 0, none⟩) n n) ∧ w' = w.alloc (.cells (madeCells #[.int .i64 0] n) 3) := by
  have HM := run_mkI n (by omega)
  go_enter Try.func46, Try.ntmps46
  go_wp2
  go_ret
  exact ⟨rfl, rfl⟩

theorem noughts_in (n : Nat) (w : World) (hn : n ≤ 2147483647) : In (w.alloc (.cells (madeCells #[.int .i64 0] n) 3)).heap.size (w.alloc (.cells (madeCells #[.int .i64 0] n) 3)) (.slice (some ⟨w.heap.size, 0, none⟩) n n) (List.replicate n 0) := by
  have hc := Cells.new w (madeCells #[.int .i64 0] n) 3
  rw [toList_madeCells_one] at hc
  refine In.block (by simpa [cellsI] using hc) (by simp) (by simp) (by simp; omega) fun z hz => ?_
  obtain ⟨-, rfl⟩ := List.mem_replicate.1 hz
  unfold I64; omega

/-- Which of two goes ahead, as the program asks. -/
def Asks2 (f : FuncId) (cap : Value) (n : Nat) (r : Int → Int) (B : Nat) (w : World) : Prop :=
  ∀ (a b : Int) (wx : World), isSt n a → isSt n b → Below B w wx → Calls Try.prog f #[.int .i64 a, .int .i64 b, cap] wx fun e w' => e = .returned (.bool (decide (ahead r a b))) ∧ Below B w w'

theorem enters_rank (args : Array Value) (wx : World) : (callFunc 41 args).run Try.prog wx = .ok (.enter 41 args) wx := enters_body Try.func41 (by kernel_rfl) rfl args wx
theorem enters_behind (args : Array Value) (wx : World) : (callFunc 61 args).run Try.prog wx = .ok (.enter 61 args) wx := enters_body Try.func61 (by kernel_rfl) rfl args wx
theorem enters_fewer (args : Array Value) (wx : World) : (callFunc 62 args).run Try.prog wx = .ok (.enter 62 args) wx := enters_body Try.func62 (by kernel_rfl) rfl args wx
theorem enters_inHand (args : Array Value) (wx : World) : (callFunc 60 args).run Try.prog wx = .ok (.enter 60 args) wx := enters_body Try.func60 (by kernel_rfl) rfl args wx

set_option maxHeartbeats 400000 in
theorem rank_any (a b : Int) (w : World) : Calls Try.prog 41 #[.int .i64 a, .int .i64 b] w fun e w' => e = .returned (.bool (decide (ahead (fun _ => 0) a b))) ∧ w' = w := by
  have HE : Hid (decide (ahead (fun _ => 0) a b) = decide (a < b)) := by show _ = _; simp [ahead]
  go_enter Try.func41, Try.ntmps41
  go_wp2
  go_ret
  exact ⟨ret_bool HE.out.symm, rfl⟩

set_option maxHeartbeats 400000 in
theorem behind_any (X : Nat) (last a b : Int) (w : World) (hX : w.cell? ⟨X, 0, none⟩ = some (.int .i64 last)) : Calls Try.prog 61 #[.int .i64 a, .int .i64 b, .pointer (some ⟨X, 0, none⟩)] w fun e w' => e = .returned (.bool (decide (ahead (fBehind last) a b))) ∧ w' = w := by
  by_cases ha : a > last <;> by_cases hb : b > last
  · have HE : Hid (decide (ahead (fBehind last) a b) = decide (a < b)) := by show _ = _; rw [decide_eq_decide]; unfold ahead fBehind; rw [if_pos ha, if_pos hb]; omega
    go_enter Try.func61, Try.ntmps61
    go_wp2
    go_ret
    exact ⟨ret_bool HE.out.symm, rfl⟩
  · have HE : Hid (decide (ahead (fBehind last) a b) = true) := by show _ = _; rw [decide_eq_true_iff]; unfold ahead fBehind; rw [if_pos ha, if_neg hb]; omega
    go_enter Try.func61, Try.ntmps61
    go_wp2
    go_ret
    exact ⟨ret_bool HE.out.symm, rfl⟩
  · have HE : Hid (decide (ahead (fBehind last) a b) = false) := by show _ = _; rw [decide_eq_false_iff_not]; unfold ahead fBehind; rw [if_neg ha, if_pos hb]; omega
    go_enter Try.func61, Try.ntmps61
    go_wp2
    go_ret
    exact ⟨ret_bool HE.out.symm, rfl⟩
  · have HE : Hid (decide (ahead (fBehind last) a b) = decide (a < b)) := by show _ = _; rw [decide_eq_decide]; unfold ahead fBehind; rw [if_neg ha, if_neg hb]; omega
    go_enter Try.func61, Try.ntmps61
    go_wp2
    go_ret
    exact ⟨ret_bool HE.out.symm, rfl⟩

set_option maxHeartbeats 1000000 in
theorem fewer_any (X B : Nat) (v : Value) (had : List Int) (a b : Int) (w : World) (hX : w.cell? ⟨X, 0, none⟩ = some v) (hv : In B w v had) (ha : isSt had.length a) (hb : isSt had.length b) : Calls Try.prog 62 #[.int .i64 a, .int .i64 b, .pointer (some ⟨X, 0, none⟩)] w fun e w' => e = .returned (.bool (decide (ahead (fFair had) a b))) ∧ ∃ n, w' = w.drewN n := by
  obtain ⟨a, rfl⟩ := Int.eq_ofNat_of_zero_le ha.1
  obtain ⟨b, rfl⟩ := Int.eq_ofNat_of_zero_le hb.1
  have ha' : a < had.length := by have := ha.2; omega
  have hb' : b < had.length := by have := hb.2; omega
  have HV := hv
  obtain ⟨ad, cap, rfl, h1, h2⟩ := hv.ex
  obtain ⟨b1, o1, hb1, hi1, hc1⟩ := HV.at a ha'
  obtain ⟨b2, o2, hb2, hi2, hc2⟩ := HV.at b hb'
  have HE : Hid (decide (ahead (fFair had) a b) = decide (had[a] < had[b] ∨ (had[a] = had[b] ∧ a < b))) := by
    show _ = _
    rw [decide_eq_decide]
    unfold ahead fFair
    rw [Int.toNat_natCast, Int.toNat_natCast, List.getD_eq_getElem?_getD, List.getD_eq_getElem?_getD, List.getElem?_eq_getElem ha', List.getElem?_eq_getElem hb']
    simp only [Option.getD_some]
    omega
  generalize had[a] = x at *
  generalize had[b] = y at *
  cases hxy : (x == y) with
  | true =>
    have hxe : x = y := by simpa using hxy
    subst hxe
    go_enter Try.func62, Try.ntmps62
    go_wp2
    go_quiet (fail)
    go_wp2
    go_ret
    exact ⟨ret_bool (by rw [HE.out]; simp), _, rfl⟩
  | false =>
    have hxe : ¬ x = y := by simpa using hxy
    go_enter Try.func62, Try.ntmps62
    go_wp2
    go_quiet (fail)
    go_wp2
    go_quiet (fail)
    go_wp2
    go_ret
    exact ⟨ret_bool (by rw [HE.out]; simp [hxe]), _, World.drewN_drewN _ _ _⟩

set_option maxHeartbeats 400000 in
theorem mkBehind_any (last : Int) (w : World) : Calls Try.prog 40 #[.int .i64 last] w fun e w' => e = .returned (.func (.func 61) #[] #[.pointer (some ⟨w.heap.size, 0, none⟩)]) ∧ w' = w.alloc (.cells #[.int .i64 last] 3) := by
  have hmf : ∀ (fn : Fn) (first cap : Array Value) (w : World), (Instr.makeFunc fn first cap).run Try.prog w = .ok (.func fn first cap) w := fun _ _ _ _ => rfl
  go_enter Try.func40, Try.ntmps40
  go_wp2
  go_ret
  exact ⟨rfl, rfl⟩
set_option maxHeartbeats 400000 in
theorem mkFewer_any (a : Option Addr) (n c : Nat) (w : World) : Calls Try.prog 42 #[.slice a n c] w fun e w' => e = .returned (.func (.func 62) #[] #[.pointer (some ⟨w.heap.size, 0, none⟩)]) ∧ w' = w.alloc (.cells #[.slice a n c] 49) := by
  have hmf : ∀ (fn : Fn) (first cap : Array Value) (w : World), (Instr.makeFunc fn first cap).run Try.prog w = .ok (.func fn first cap) w := fun _ _ _ _ => rfl
  go_enter Try.func42, Try.ntmps42
  go_wp2
  go_ret
  exact ⟨rfl, rfl⟩

set_option maxHeartbeats 400000 in
/-- inHand's question. -/
theorem asksHand_any (X : Nat) (hand : Int) (q : Qd) (da : Option Addr) (dn dc : Nat) (w : World) (hX : w.cell? ⟨X, 1, none⟩ = some (.int .i64 hand)) :
    Calls Try.prog 60 #[qdVal q (.slice da dn dc), .pointer (some ⟨X, 0, none⟩)] w fun e w' => e = .returned (.bool (q.id == hand)) ∧ Below w.heap.size w w' := by
  obtain ⟨id, mid, came, sent, parts, stream, ordered, life, tries⟩ := q
  simp only [qdVal]
  have HB := fun o => box_below w o
  have HC := fun o => new_at hX o
  go_enter Try.func60, Try.ntmps60
  go_wp2
  go_ret
  exact ⟨rfl, HB _⟩
end Go.Proofs.Ytnddejdndipddab
