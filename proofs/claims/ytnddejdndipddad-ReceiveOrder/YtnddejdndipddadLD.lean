/- Contracts of functions of earlier stages, for a chain that stands on the base. -/
import Derived.Test.YtnddejdndipddadLB
import Derived.Test.YtnddejdndipddadLC
import Derived.WalkKit
import Derived.WalkSpells
import Derived.WalkLawsBesides
import Derived.Deep.RegionLawGrows
import Derived.Deep.QuietTactic
import Derived.BigQuiet
import Derived.ProofKit
import Derived.OpenShut
import Derived.SizedLaws
set_option maxRecDepth 20000
namespace Go.Proofs.Ytnddejdndipddad
open Go.RowKit

set_option maxHeartbeats 400000 in
theorem apart_any (a b : Int) (w : World) (h1 : -9223372036854775808 ≤ a) (h2 : a ≤ 9223372036854775807) (h3 : b ≤ 9223372036854775807) : Calls Try.prog 75 #[.int .i64 a, .int .i64 b] w fun e w' => e = .returned (.bool (decide (a + 1 < b))) ∧ w' = w := by
  by_cases h : a < b
  · go_enter Try.func75, Try.ntmps75
    go_wp2
    go_ret
    exact ⟨rfl, rfl⟩
  · go_enter Try.func75, Try.ntmps75
    go_wp2
    go_ret
    exact ⟨ret_bool (by simp; omega), rfl⟩

end Go.Proofs.Ytnddejdndipddad

namespace Go.Proofs.Ytnddejdndipddad
open Go.RowKit

theorem enters_Up_1 (args : Array Value) (wx : World) : (callFunc 74 args).run Try.prog wx = .ok (.enter 74 args) wx := enters_body Try.func74 (by kernel_rfl) rfl args wx
theorem enters_Add_1 (args : Array Value) (wx : World) : (callFunc 76 args).run Try.prog wx = .ok (.enter 76 args) wx := enters_body Try.func76 (by kernel_rfl) rfl args wx
theorem enters_Add_2 (args : Array Value) (wx : World) : (callFunc 77 args).run Try.prog wx = .ok (.enter 77 args) wx := enters_body Try.func77 (by kernel_rfl) rfl args wx

set_option maxHeartbeats 400000 in
theorem asks_add1 (B : Nat) (n : Int) (l : List Sp) (hn : I64 n) (hl : Fit l) : Asks 76 B (soAdd1 n) (fun c => c = n) l := by
  rintro c s wx hs rfl hc hf hB
  have hc2 : ∀ o, (wx.alloc o).cell? ⟨B, 0, none⟩ = some (.int .i64 c) := fun o => new_cell hc hB
  have HP : ∀ o, (wx.alloc o).cell? ⟨B, 0, none⟩ = some (.int .i64 c) ∧ (wx.alloc o).frozen? ⟨B, 0, none⟩ = false ∧ Below B wx (wx.alloc o) := fun o => ⟨new_cell hc hB, new_frozen hf hB, (Below.refl _ _).alloc (by omega) _⟩
  have hnot : ∀ (x : Bool) (w : World), (Op.unary .not (.bool x)).run Try.prog w = .ok (.bool (!x)) w := fun _ _ => rfl
  have b1 := (hl s hs).2
  go_enter Try.func76, Try.ntmps76
  go_wp2_with (go_at_call 75; refine (apart_any _ _ _ b1.1 b1.2 hn.2).mono ?_; rintro e w' ⟨rfl, rfl⟩)
  go_ret
  exact ⟨rfl, rfl, HP _⟩

set_option maxHeartbeats 400000 in
theorem asks_add2 (B : Nat) (n : Int) (l : List Sp) (hn : I64 n) (hl : Fit l) : Asks 77 B (soAdd2 n) (fun c => c = n) l := by
  rintro c s wx hs rfl hc hf hB
  have hc2 : ∀ o, (wx.alloc o).cell? ⟨B, 0, none⟩ = some (.int .i64 c) := fun o => new_cell hc hB
  have HP : ∀ o, (wx.alloc o).cell? ⟨B, 0, none⟩ = some (.int .i64 c) ∧ (wx.alloc o).frozen? ⟨B, 0, none⟩ = false ∧ Below B wx (wx.alloc o) := fun o => ⟨new_cell hc hB, new_frozen hf hB, (Below.refl _ _).alloc (by omega) _⟩
  have b1 := (hl s hs).1
  go_enter Try.func77, Try.ntmps77
  go_wp2_with (go_at_call 75; refine (apart_any _ _ _ hn.1 hn.2 b1.2).mono ?_; rintro e w' ⟨rfl, rfl⟩)
  go_ret
  exact ⟨rfl, rfl, HP _⟩

set_option maxHeartbeats 400000 in
theorem asks_up (B : Nat) (l : List Sp) (hl : Fit l) : Asks 74 B soUp I64 l := by
  rintro c s wx hs hI hc hf hB
  have hc2 : ∀ o, (wx.alloc o).cell? ⟨B, 0, none⟩ = some (.int .i64 c) := fun o => new_cell hc hB
  have hf2 : ∀ o, (wx.alloc o).frozen? ⟨B, 0, none⟩ = false := fun o => new_frozen hf hB
  have HP : ∀ o, (wx.alloc o).cell? ⟨B, 0, none⟩ = some (.int .i64 c) ∧ (wx.alloc o).frozen? ⟨B, 0, none⟩ = false ∧ Below B wx (wx.alloc o) := fun o => ⟨new_cell hc hB, new_frozen hf hB, (Below.refl _ _).alloc (by omega) _⟩
  have b1 := (hl s hs)
  by_cases h : c + 1 < s.1
  · have e1 : soUp c s = (true, c) := by simp [soUp, h]
    have HE : Hid (soUp c s = (true, c)) := e1
    clear e1
    go_enter Try.func74, Try.ntmps74
    go_wp2_with (go_at_call 75; refine (apart_any _ _ _ hI.1 hI.2 b1.1.2).mono ?_; rintro e w' ⟨rfl, rfl⟩)
    go_ret
    rw [HE.out]
    exact ⟨rfl, hI, HP _⟩
  · by_cases h2 : c < s.2
    · have e1 : soUp c s = (false, s.2) := by simp only [soUp]; rw [if_neg h, Int.max_eq_right (by omega)]
      have HE : Hid (soUp c s = (false, s.2)) := e1
      clear e1
      go_enter Try.func74, Try.ntmps74
      go_wp2_with (go_at_call 75; refine (apart_any _ _ _ hI.1 hI.2 b1.1.2).mono ?_; rintro e w' ⟨rfl, rfl⟩)
      go_ret
      rw [HE.out]
      exact ⟨rfl, b1.2, up_stored hc hf hB s.2 _⟩
    · have e1 : soUp c s = (false, c) := by simp only [soUp]; rw [if_neg h, Int.max_eq_left (by omega)]
      have HE : Hid (soUp c s = (false, c)) := e1
      clear e1
      go_enter Try.func74, Try.ntmps74
      go_wp2_with (go_at_call 75; refine (apart_any _ _ _ hI.1 hI.2 b1.1.2).mono ?_; rintro e w' ⟨rfl, rfl⟩)
      go_ret
      rw [HE.out]
      exact ⟨rfl, hI, up_stored hc hf hB c _⟩
end Go.Proofs.Ytnddejdndipddad

namespace Go.Proofs.Ytnddejdndipddad
open Go.RowKit

/-- What Up tells. -/
def upM (l : List Sp) (c : Int) : Int × List Sp := ((scan soUp c l).2, l.drop (scan soUp c l).1)

set_option maxHeartbeats 400000 in
theorem up_any (v : Value) (l : List Sp) (c : Int) (w : World) (hv : Sl w.heap.size w v l) (hc : I64 c) (hl : l.length * 16 ≤ 140737488355328) :
    Calls Try.prog 56 #[v, .int .i64 c] w fun e w' => ∃ v', e = .returned (.tuple #[.int .i64 (upM l c).1, v']) ∧ Sl w'.heap.size w' v' (upM l c).2 ∧ Below w.heap.size w w' ∧ InS (fun k => w.heap.size ≤ k) v' := by
  have hmf : ∀ (fn : Fn) (first cap : Array Value) (w : World), (Instr.makeFunc fn first cap).run Try.prog w = .ok (.func fn first cap) w := fun _ _ _ _ => rfl
  have hv' := hv
  obtain ⟨a, cap, rfl, h1, h2, h0, h3, h4⟩ := hv
  clear h4 h0
  go_enter Try.func56, Try.ntmps56
  go_wp2_with fail
  refine (first_any 74 w.heap.size _ l soUp I64 c _ (hv'.below (box_below w _) (Nat.le_refl _)) (by simp) (box_cell _ _ _) (box_frozen _ _ _) hc enters_Up_1 (asks_up _ _ h3)).mono ?_
  rintro e w1 ⟨rfl, hI1, hc1, hf1, hb⟩
  have hle := scan_le soUp l c
  have hb2 := (box_below w (.cells #[.int .i64 c] 3)).trans hb
  have hv2 := hv'.below hb2 (Nat.le_refl _)
  have hp := hv2.piece (scan soUp c l).1 l.length hle (Nat.le_refl _)
  rw [List.take_length] at hp
  have HP : Hid (Sl w.heap.size w1 (sliced a (scan soUp c l).1 l.length cap 2) (l.drop (scan soUp c l).1)) := hp
  clear hp hv' hv2 hmf
  generalize hk : (scan soUp c l).1 = k at *
  go_wp2
  go_region_law (refine step_append_sp rfl (.const (.slice none 0 0)) (.tmp 13) rfl w1.heap.size (.slice none 0 0) 0 [] (by simp [Act.eval]) (World.ownsRow_nil _ _ _ _) w.heap.size (l.drop k) (sliced a k l.length cap 2) (by simp [Act.eval, Act.put, sliced]) (by exact HP.out) (by simp; omega) (by simp) ?_; intro v' w2 hown hgrow; have hc2 : w2.cell? ⟨w.heap.size, 0, none⟩ = some (.int .i64 (scan soUp c l).2) := hgrow.cell (by exact hc1) (by simp [Value.ownBlock]))
  all_goals (try go_wp2)
  all_goals go_ret2
  all_goals
    rw [Nat.zero_add, List.nil_append] at hown
    refine ⟨v', rfl, ?_, hb2.drew.grown hgrow (by have := hb2.size; simpa using this) (fun k hk => by simp [Value.ownBlock] at hk), (InS.own hown).mono fun k h => Nat.le_trans hb2.size h.1⟩
    show Sl _ _ _ (l.drop (scan soUp c l).1)
    rw [hk]
    exact Sl.own hown (h3.drop _)
end Go.Proofs.Ytnddejdndipddad

namespace Go.Proofs.Ytnddejdndipddad
open Go.RowKit

theorem run_sl_l (a : Option Addr) (n cap lo : Nat) (h : lo ≤ n) (wx : World) : (Instr.slice 39 (.slice a n cap) (some (.int .i64 lo)) none none).run Try.prog wx = .ok (.slice (reA a cap lo) (n - lo) (cap - lo)) wx := by
  go_simp
  rfl
theorem run_sl_lh (a : Option Addr) (n cap lo d : Nat) (h : lo + d ≤ n) (h' : n ≤ cap) (wx : World) : (Instr.slice 39 (.slice a n cap) (some (.int .i64 (lo : Int))) (some (.int .i64 ((lo : Int) + (d : Int)))) none).run Try.prog wx = .ok (.slice (reA a cap lo) d (cap - lo)) wx := by
  have h1 : (0 : Int) ≤ lo := by omega
  have h2 : (lo : Int) ≤ lo + d := by omega
  have h3 : (lo : Int) + d ≤ cap := by omega
  rw [run_slice_lh wx 39 a n cap Try.underlying39 .i64 .i64 (lo : Int) ((lo : Int) + d) h1 h2 h3]
  go_simp
  rw [show ((lo : Int) + d).toNat - lo = d by omega]
  exact ⟨rfl, rfl⟩
theorem run_sl_h (a : Option Addr) (n cap hi : Nat) (h : hi ≤ n) (h' : n ≤ cap) (wx : World) : (Instr.slice 39 (.slice a n cap) none (some (.int .i64 (hi : Int))) none).run Try.prog wx = .ok (.slice a hi cap) wx := by
  have h1 : (0 : Int) ≤ hi := by omega
  have h2 : (hi : Int) ≤ cap := by omega
  rw [run_slice_h wx 39 a n cap Try.underlying39 .i64 (hi : Int) h1 h2]
  go_simp
theorem run_sl_l2 (a : Option Addr) (n cap lo d : Nat) (h : lo + d ≤ n) (wx : World) : (Instr.slice 39 (.slice a n cap) (some (.int .i64 ((lo : Int) + (d : Int)))) none none).run Try.prog wx = .ok (.slice (reA a cap (lo + d)) (n - (lo + d)) (cap - (lo + d))) wx := by
  have := run_sl_l a n cap (lo + d) h wx
  rw [Int.natCast_add] at this
  exact this

/-- One span out of many and a number: the least, the greatest. -/
def joinM (n : Int) (m : List Sp) : Sp := m.foldl (fun o s => (min o.1 s.1, max o.2 s.2)) (n, n)
theorem joinM_snoc (n : Int) (m : List Sp) (k : Nat) (h : k < m.length) : joinM n (m.take (k + 1)) = (min (joinM n (m.take k)).1 m[k].1, max (joinM n (m.take k)).2 m[k].2) := by
  rw [List.take_succ_eq_append_getElem h, joinM, List.foldl_append]
  rfl

/-- The cells that make lays for so many spans. -/
def madeSp (c : Nat) : Array Value := madeCells #[.int .i64 0, .int .i64 0] (c * 2)
theorem run_mk (c : Int) (k : Nat) (hc : c = k) (h : k * 16 ≤ 281474976710656) (wx : World) : (Instr.makeSlice 39 (.int .i64 0) (.int .i64 c)).run Try.prog wx = .ok (.slice (some ⟨wx.heap.size, 0, none⟩) 0 k) (wx.alloc (.cells (madeSp k) 75)) := by
  subst hc
  obtain ⟨i0, hi, hz0, hz1, hz2⟩ := info_parts Try.info75
  have := run_make (P := Try.prog) wx 39 75 i0 (.agg #[.int .i64 0, .int .i64 0]) Try.underlying39 hi hz0 .i64 .i64 0 (k : Int) (Int.le_refl _) (by omega) (by rw [hz2]; omega) (by omega)
  rw [hz1] at this
  exact this
theorem own_mk (wx : World) (k : Nat) (h : k * 16 ≤ 281474976710656) : (wx.alloc (.cells (madeSp k) 75)).ownsRow wx.heap.size 75 2 (.slice (some ⟨wx.heap.size, 0, none⟩) 0 k) 0 [] :=
  World.ownsRow_made wx _ k (Nat.le_refl _) (by unfold maxLen; omega) (size_madeCells _ _)

/-- What Add makes. -/
def addM (l : List Sp) (n : Int) : List Sp :=
  l.take (scan (soAdd1 n) n l).1 ++ joinM n ((l.drop (scan (soAdd1 n) n l).1).take (scan (soAdd2 n) n (l.drop (scan (soAdd1 n) n l).1)).1) ::
    l.drop ((scan (soAdd1 n) n l).1 + (scan (soAdd2 n) n (l.drop (scan (soAdd1 n) n l).1)).1)

theorem joinM_fit (n : Int) (m : List Sp) (hn : I64 n) (hm : Fit m) : I64 (joinM n m).1 ∧ I64 (joinM n m).2 := by
  have : ∀ (m : List Sp) (o : Sp), I64 o.1 → I64 o.2 → Fit m → I64 (m.foldl (fun o s => (min o.1 s.1, max o.2 s.2)) o).1 ∧ I64 (m.foldl (fun o s => (min o.1 s.1, max o.2 s.2)) o).2 := by
    intro m
    induction m with
    | nil => intro o h1 h2 _; exact ⟨h1, h2⟩
    | cons s r ih =>
      intro o h1 h2 h3
      have hs := h3 s (by simp)
      refine ih _ ?_ ?_ (fun x hx => h3 x (by simp [hx]))
      · show I64 (min o.1 s.1); unfold I64 at *; omega
      · show I64 (max o.2 s.2); unfold I64 at *; omega
  exact this m (n, n) hn hn hm

theorem two_stored {w : World} {X : Nat} {u0 u1 : Value} (hc0 : w.cell? ⟨X, 0, none⟩ = some u0) (hc1 : w.cell? ⟨X, 1, none⟩ = some u1) (hf0 : w.frozen? ⟨X, 0, none⟩ = false) (hf1 : w.frozen? ⟨X, 1, none⟩ = false) (hX : X < w.heap.size) (v0 v1 : Value) (o : Obj) :
    (((w.setCell ⟨X, 0, none⟩ v0).setCell ⟨X, 1, none⟩ v1).alloc o).cell? ⟨X, 0, none⟩ = some v0 ∧ (((w.setCell ⟨X, 0, none⟩ v0).setCell ⟨X, 1, none⟩ v1).alloc o).cell? ⟨X, 1, none⟩ = some v1 ∧
    (((w.setCell ⟨X, 0, none⟩ v0).setCell ⟨X, 1, none⟩ v1).alloc o).frozen? ⟨X, 0, none⟩ = false ∧ (((w.setCell ⟨X, 0, none⟩ v0).setCell ⟨X, 1, none⟩ v1).alloc o).frozen? ⟨X, 1, none⟩ = false ∧
    Below X w (((w.setCell ⟨X, 0, none⟩ v0).setCell ⟨X, 1, none⟩ v1).alloc o) ∧ X < (((w.setCell ⟨X, 0, none⟩ v0).setCell ⟨X, 1, none⟩ v1).alloc o).heap.size := by
  have hs : X < ((w.setCell ⟨X, 0, none⟩ v0).setCell ⟨X, 1, none⟩ v1).heap.size := by simpa [World.setCell] using hX
  have e0 : (w.setCell ⟨X, 0, none⟩ v0).cell? ⟨X, 0, none⟩ = some v0 := World.cell?_setCell_same' _ _ _ (by rw [hc0]; rfl)
  have e1 : (w.setCell ⟨X, 0, none⟩ v0).cell? ⟨X, 1, none⟩ = some u1 := by rw [World.cell?_setCell_other _ _ _ _ (by simp)]; exact hc1
  have e2 : ((w.setCell ⟨X, 0, none⟩ v0).setCell ⟨X, 1, none⟩ v1).cell? ⟨X, 0, none⟩ = some v0 := by rw [World.cell?_setCell_other _ _ _ _ (by simp)]; exact e0
  have e3 : ((w.setCell ⟨X, 0, none⟩ v0).setCell ⟨X, 1, none⟩ v1).cell? ⟨X, 1, none⟩ = some v1 := World.cell?_setCell_same' _ _ _ (by rw [e1]; rfl)
  have b1 : Below X w ((w.setCell ⟨X, 0, none⟩ v0).setCell ⟨X, 1, none⟩ v1) := ((Below.refl X w).setCell (p := ⟨X, 0, none⟩) (Nat.le_refl _) _).setCell (p := ⟨X, 1, none⟩) (Nat.le_refl _) _
  refine ⟨?_, ?_, ?_, ?_, b1.alloc (Nat.le_of_lt hs) _, by simp; simpa using Nat.lt_succ_of_lt hs⟩
  · rw [World.cell?_alloc_past _ _ _ hs]; exact e2
  · rw [World.cell?_alloc_past _ _ _ hs]; exact e3
  · rw [World.frozen?_alloc_past _ _ _ hs]; simpa using hf0
  · rw [World.frozen?_alloc_past _ _ _ hs]; simpa using hf1

theorem grown_below {W w' : World} {base n : Nat} {v : Value} {xs : List Value} (hown : W.ownsRow base 75 2 v n xs) (hg : W.grownBy w' v.ownBlock) (hb : base ≤ W.heap.size) : Below base W w' :=
  (Below.refl base W).grown hg hb fun k hk => (hown.lt k hk).1

set_option maxHeartbeats 400000 in
theorem add_any (v : Value) (l : List Sp) (n : Int) (w : World) (hv : Sl w.heap.size w v l) (hn : I64 n) (hl : (l.length + 1) * 16 ≤ 281474976710656) :
    Calls Try.prog 57 #[v, .int .i64 n] w fun e w' => ∃ v', e = .returned v' ∧ Sl w'.heap.size w' v' (addM l n) ∧ Below w.heap.size w w' := by
  have hmf : ∀ (fn : Fn) (first cap : Array Value) (w : World), (Instr.makeFunc fn first cap).run Try.prog w = .ok (.func fn first cap) w := fun _ _ _ _ => rfl
  have hv' := hv
  obtain ⟨a, cap, rfl, h1, h2, h0, h3, h4⟩ := hv
  clear h4 h0
  go_enter Try.func57, Try.ntmps57
  go_wp2_with fail
  refine (first_any 76 w.heap.size _ l (soAdd1 n) (fun c => c = n) n _ (hv'.below (box_below w _) (Nat.le_refl _)) (by simp) (box_cell _ _ _) (box_frozen _ _ _) rfl enters_Add_1 (asks_add1 _ _ _ hn h3)).mono ?_
  rintro e w1 ⟨rfl, hI1, hc1, hf1, hb⟩
  have hle := scan_le (soAdd1 n) l n
  have hb2 := (box_below w (.cells #[.int .i64 n] 3)).trans hb
  have hv2 := hv'.below hb2 (Nat.le_refl _)
  have hw1 : w.heap.size < w1.heap.size := by have := hb.size; simp at this; omega
  rw [hI1] at hc1
  clear hb hI1
  generalize hk : (scan (soAdd1 n) n l).1 = f at *
  have HK : Hid ((scan (soAdd1 n) n l).1 = f) := hk
  clear hk
  have hsl := run_sl_l a l.length cap f hle
  go_wp2_with fail
  refine (first_any 77 w.heap.size _ (l.drop f) (soAdd2 n) (fun c => c = n) n _ (hv2.re_end f hle) hw1 hc1 hf1 rfl enters_Add_2 (asks_add2 _ _ _ hn (h3.drop _))).mono ?_
  rintro e w2 ⟨rfl, hI2, hc2, hf2, hb3⟩
  have hle2 := scan_le (soAdd2 n) (l.drop f) n
  have hb4 := hb2.trans hb3
  have hv3 := hv'.below hb4 (Nat.le_refl _)
  have hw2 : w.heap.size < w2.heap.size := by have := hb3.size; omega
  rw [hI2] at hc2
  clear hb2 hb3 hI2 hsl hv2 hv' hc1 hf1 hw1
  generalize hk : (scan (soAdd2 n) n (l.drop f)).1 = d at *
  have HK2 : Hid ((scan (soAdd2 n) n (l.drop f)).1 = d) := hk
  clear hk
  rw [List.length_drop] at hle2
  have hfd : f + d ≤ l.length := by omega
  have hsl2 := run_sl_lh a l.length cap f d hfd h1
  go_wp2
  have hone : (w2.alloc (.cells #[.int .i64 n, .int .i64 n] 75)).cell? ⟨w2.heap.size, 0, none⟩ = some (.int .i64 n) ∧ (w2.alloc (.cells #[.int .i64 n, .int .i64 n] 75)).cell? ⟨w2.heap.size, 1, none⟩ = some (.int .i64 n) ∧
      (w2.alloc (.cells #[.int .i64 n, .int .i64 n] 75)).frozen? ⟨w2.heap.size, 0, none⟩ = false ∧ (w2.alloc (.cells #[.int .i64 n, .int .i64 n] 75)).frozen? ⟨w2.heap.size, 1, none⟩ = false := by
    refine ⟨?_, ?_, World.frozen?_alloc_at _ _ _ _ rfl, World.frozen?_alloc_at _ _ _ _ rfl⟩ <;> (rw [World.cell?_alloc_at _ _ _ _ rfl]; rfl)
  have HV := hv3.re f d hfd
  generalize hm : (l.drop f).take d = m at *
  have hml : m.length = d := by rw [← hm]; simp; omega
  have HM : Hid ((l.drop f).take d = m) := hm
  clear hm hsl2
  go_loopw [29] (fun i wr => ∃ (k : Nat), k ≤ d ∧ i = .int .i64 k ∧ wr.cell? ⟨w2.heap.size, 0, none⟩ = some (.int .i64 (joinM n (m.take k)).1) ∧ wr.cell? ⟨w2.heap.size, 1, none⟩ = some (.int .i64 (joinM n (m.take k)).2) ∧
      wr.frozen? ⟨w2.heap.size, 0, none⟩ = false ∧ wr.frozen? ⟨w2.heap.size, 1, none⟩ = false ∧ Below w2.heap.size w2 wr ∧ w2.heap.size < wr.heap.size)
    (fun i _ => d - (intOf i).toNat)
  case atStart => exact ⟨0, Nat.zero_le _, rfl, hone.1, hone.2.1, hone.2.2.1, hone.2.2.2, box_below _ _, by simp⟩
  case round =>
    obtain ⟨k, hk, rfl, hc0, hc1, hf0, hf1, hbel, hsz⟩ := hrel
    by_cases hlt : k < d
    · obtain ⟨b, off, hb, hix, hx0, hx1⟩ := (HV.below (hbel.mono (Nat.le_of_lt hw2)) (Nat.le_refl _)).at k (by omega)
      have HJ : Hid _ := joinM_snoc n m k (by omega)
      clear hc2 hf2
      go_wp2
      go_roundw
      case rel =>
        have R := two_stored hc0 hc1 hf0 hf1 hsz
        rename_i hq
        clear hq
        refine ⟨k + 1, by omega, by go_num, ?_, ?_, (R _ _ _).2.2.1, (R _ _ _).2.2.2.1, hbel.trans (R _ _ _).2.2.2.2.1, (R _ _ _).2.2.2.2.2⟩
        · rw [HJ.out, (R _ _ _).1]; congr 2; omega
        · rw [HJ.out, (R _ _ _).2.1]; congr 2; omega
      case measure => simp [intOf]; omega
    · have hkd : k = d := by omega
      have ej : m.take k = m := List.take_of_length_le (by omega)
      rw [ej] at hc0 hc1
      have hj := joinM_fit n m hn HV.len.2.2.2
      have hmk := run_mk ((f : Int) + 1 + (l.length : Int) - ((f : Int) + (d : Int))) (l.length + 1 - d) (by omega) (by omega)
      have own0 := own_mk wr (l.length + 1 - d) (by omega)
      have hbw : Below w.heap.size w2 wr := hbel.mono (Nat.le_of_lt hw2)
      have hsl3 := run_sl_h a l.length cap f hle h1
      have hsl4 := run_sl_l2 a l.length cap f d hfd
      have HO := own0
      have HB : Hid (Below w.heap.size w (wr.alloc (.cells (madeSp (l.length + 1 - d)) 75))) := (hb4.trans hbw).alloc (by omega) _
      have HA : Hid (addM l n = l.take f ++ joinM n m :: l.drop (f + d)) := by show _ = _; simp only [addM]; rw [HK.out, HK2.out, HM.out]
      clear hone ej hc2 hf2 hkd own0
      generalize joinM n m = j at *
      have HV3 : ∀ wx, Below w.heap.size w2 wx → Sl w.heap.size wx (.slice a f cap) (l.take f) ∧ Sl w.heap.size wx (.slice (reA a cap (f + d)) (l.length - (f + d)) (cap - (f + d))) (l.drop (f + d)) :=
        fun wx hx => ⟨(hv3.below hx (Nat.le_refl _)).head f hle, (hv3.below hx (Nat.le_refl _)).re_end (f + d) hfd⟩
      go_wp2_with (first
        | (at_builtin; refine wpList_append_fit _ rfl (.tmp 54) (.tmp 57) rfl wr.heap.size wr.heap.size 0 (l.length + 1 - d) [] rfl HO w.heap.size (l.take f) (.slice a f cap) rfl (HV3 _ (hbw.alloc (by omega) _)).1 (by simp; omega) ?_; intro w4 own4 grow4; have B4 := (box_below wr _).trans (grown_below HO grow4 (by simp)); have c40 := (B4.cell (p := ⟨w2.heap.size, 0, none⟩) hsz).trans hc0; have c41 := (B4.cell (p := ⟨w2.heap.size, 1, none⟩) hsz).trans hc1; rw [show 0 + (l.take f).length = f by simp; omega] at own4 ⊢; rw [List.nil_append] at own4; clear grow4)
        | (at_builtin; refine wpList_append_fit _ rfl (.tmp 59) (.tmp 61) rfl wr.heap.size wr.heap.size f (l.length + 1 - d) _ rfl (own4.alloc _) (w4.heap.size + 1) [(j.1, j.2)] (.slice (some ⟨w4.heap.size, 0, none⟩) 1 1) rfl (Sl.one w4 j.1 j.2 hj.1 hj.2) (by simp; omega) ?_; intro w5 own5 grow5; have B5 := (B4.alloc B4.size _).trans (grown_below (own4.alloc _) grow5 (by have := B4.size; simp; omega)); rw [List.length_singleton] at own5 ⊢; clear grow5)
        | (at_builtin; refine wpList_append_fit _ rfl (.tmp 63) (.tmp 66) rfl wr.heap.size wr.heap.size (f + 1) (l.length + 1 - d) _ rfl own5 w.heap.size (l.drop (f + d)) _ rfl (HV3 w5 (hbw.trans (B5.mono (by omega)))).2 (by simp; omega) ?_; intro w6 own6 grow6; have B6 := B5.trans (grown_below own5 grow6 B5.size); clear grow6)
        | fail)
      go_ret
      have hfin : w6.ownsRow wr.heap.size 75 2 (.slice (some ⟨wr.heap.size, 0, none⟩) (f + 1 + (l.length - (f + d))) (l.length + 1 - d)) (l.take f ++ j :: l.drop (f + d)).length (flat (l.take f ++ j :: l.drop (f + d))) := by
        have e1 : flat (l.take f ++ j :: l.drop (f + d)) = flat (l.take f) ++ flat [(j.1, j.2)] ++ flat (l.drop (f + d)) := by simp [flat_append, flat_cons, flat_nil]
        have e2 : (l.take f ++ j :: l.drop (f + d)).length = f + 1 + (l.length - (f + d)) := by simp; omega
        rw [List.length_drop] at own6
        rw [e1, e2]
        exact own6
      rw [HA.out]
      exact ⟨_, rfl, Sl.own hfin ((h3.take _).append (fun s hs => (List.mem_cons.1 hs).elim (fun e => e ▸ hj) (h3.drop _ s))), (hb4.trans hbw).trans (B6.mono (by omega))⟩

end Go.Proofs.Ytnddejdndipddad

namespace Go.Proofs.Ytnddejdndipddad

theorem Ris.low {b : Int} {l : List Sp} (h : Ris b l) {x : Int} (hx : inM l x = true) : b < x := by
  induction l generalizing b with
  | nil => simp [inM] at hx
  | cons s r ih =>
    rcases (inM_cons s r x).1 hx with h1 | h1
    · have := h.1; omega
    · have h2 := ih h.2.2 h1; have := h.1; have := h.2.1; omega

/-- Put the number in, from the left; 'absorb': a span that swallows what touches the number. -/
def absorb (n : Int) : Sp → List Sp → List Sp
  | o, [] => [o]
  | o, s :: r => if n + 1 < s.1 then o :: s :: r else absorb n (min o.1 s.1, max o.2 s.2) r
def addR (n : Int) : List Sp → List Sp
  | [] => [(n, n)]
  | s :: r => if s.2 + 1 < n then s :: addR n r else absorb n (n, n) (s :: r)

theorem absorb_eq (n c : Int) (l : List Sp) (o : Sp) : (l.take (scan (soAdd2 n) c l).1).foldl (fun o s => (min o.1 s.1, max o.2 s.2)) o :: l.drop (scan (soAdd2 n) c l).1 = absorb n o l := by
  induction l generalizing o with
  | nil => simp [scan, absorb]
  | cons s r ih =>
    by_cases h : n + 1 < s.1
    · simp [scan, soAdd2, absorb, h]
    · have e : (soAdd2 n c s).1 = false := by simp [soAdd2, h]
      have e2 : (soAdd2 n c s).2 = c := rfl
      simp only [scan, e, e2, absorb, if_neg h]
      simp only [Bool.false_eq_true, if_false, List.take_succ_cons, List.drop_succ_cons, List.foldl_cons]
      exact ih _

theorem addM_eq (l : List Sp) (n : Int) : addM l n = addR n l := by
  induction l with
  | nil => simp [addM, scan, addR, joinM]
  | cons s r ih =>
    by_cases h : s.2 + 1 < n
    · have e : (soAdd1 n n s).1 = false := by simp [soAdd1, h]
      have e2 : (soAdd1 n n s).2 = n := rfl
      have e3 : (scan (soAdd1 n) n (s :: r)).1 = (scan (soAdd1 n) n r).1 + 1 := by simp [scan, e, e2]
      have e4 : addM (s :: r) n = s :: addM r n := by
        simp only [addM, e3, List.take_succ_cons, List.drop_succ_cons, List.cons_append]
        rw [show (scan (soAdd1 n) n r).1 + 1 + (scan (soAdd2 n) n (r.drop (scan (soAdd1 n) n r).1)).1 = (scan (soAdd1 n) n r).1 + (scan (soAdd2 n) n (r.drop (scan (soAdd1 n) n r).1)).1 + 1 by omega]
        simp only [List.drop_succ_cons]
      rw [e4, ih, addR, if_pos h]
    · have e : (soAdd1 n n s).1 = true := by simp [soAdd1, h]
      have e3 : (scan (soAdd1 n) n (s :: r)).1 = 0 := by simp [scan, e]
      simp only [addM, e3, List.take_zero, List.drop_zero, List.nil_append, Nat.zero_add, addR, if_neg h]
      exact absorb_eq n n (s :: r) (n, n)

theorem absorb_mem (n : Int) (l : List Sp) (o : Sp) (e : Int) (h1 : o.1 ≤ n) (h2 : n ≤ o.2) (h3 : o.2 ≤ max n e) (hr : Ris (e + 1) l) (h4 : ∀ s, l.head? = some s → o.1 ≤ s.2 + 1) (x : Int) :
    inM (absorb n o l) x = true ↔ (o.1 ≤ x ∧ x ≤ o.2) ∨ inM l x = true := by
  induction l generalizing o e with
  | nil => simp [absorb, inM]
  | cons s r ih =>
    have r1 := hr.1
    have r2 := hr.2.1
    have r3 := hr.2.2
    have g4 := h4 s rfl
    simp only [absorb]
    split
    · rw [inM_cons]
    · rename_i hn
      rw [ih (min o.1 s.1, max o.2 s.2) s.2 (by simp; omega) (by simp; omega) (by simp; omega) r3 ?_, inM_cons]
      · simp only
        constructor
        · rintro (⟨g1, g2⟩ | g1)
          · rcases Int.lt_or_le x s.1 with g | g
            · left; omega
            · rcases Int.lt_or_le s.2 x with g' | g'
              · left; omega
              · right; left; omega
          · exact Or.inr (Or.inr g1)
        · rintro (g1 | g1 | g1)
          · left; omega
          · left; omega
          · exact Or.inr g1
      · intro t ht
        cases r with
        | nil => simp at ht
        | cons t' r' =>
          simp at ht
          subst ht
          have := r3.1
          have := r3.2.1
          simp only
          omega

theorem absorb_ris (n : Int) (l : List Sp) (o : Sp) (e b : Int) (h0 : b < o.1) (h1 : o.1 ≤ n) (h2 : n ≤ o.2) (h3 : o.2 ≤ max n e) (hr : Ris (e + 1) l) (hb : Ris b l) : Ris b (absorb n o l) := by
  induction l generalizing o e with
  | nil => exact ⟨h0, by omega, trivial⟩
  | cons s r ih =>
    have r1 := hr.1
    have r2 := hr.2.1
    have r3 := hr.2.2
    simp only [absorb]
    split
    · rename_i hn
      exact ⟨h0, by omega, by omega, r2, r3⟩
    · have := hb.1
      exact ih (min o.1 s.1, max o.2 s.2) s.2 (by simp; omega) (by simp; omega) (by simp; omega) (by simp; omega) r3 (r3.mono (by omega))

theorem addR_mem (n b : Int) (l : List Sp) (h : Ris b l) (x : Int) : inM (addR n l) x = true ↔ x = n ∨ inM l x = true := by
  induction l generalizing b with
  | nil => simp [addR, inM]; omega
  | cons s r ih =>
    have h1 := h.1
    have h2 := h.2.1
    simp only [addR]
    split
    · rw [inM_cons, ih _ h.2.2, inM_cons]
      constructor
      · rintro (g | g | g)
        · exact Or.inr (Or.inl g)
        · exact Or.inl g
        · exact Or.inr (Or.inr g)
      · rintro (g | g | g)
        · exact Or.inr (Or.inl g)
        · exact Or.inl g
        · exact Or.inr (Or.inr g)
    · rw [absorb_mem n (s :: r) (n, n) (b - 1) (by simp) (by simp) (by simp; omega) (h.mono (by omega)) (by intro t ht; simp at ht; subst ht; simp; omega)]
      simp only
      constructor
      · rintro (g | g)
        · left; omega
        · exact Or.inr g
      · rintro (g | g)
        · left; omega
        · exact Or.inr g

theorem addR_ris (n b : Int) (l : List Sp) (h : Ris b l) (hn : b < n) : Ris b (addR n l) := by
  induction l generalizing b with
  | nil => exact ⟨hn, by simp, trivial⟩
  | cons s r ih =>
    have h1 := h.1
    have h2 := h.2.1
    simp only [addR]
    split
    · rename_i hs
      exact ⟨h1, h2, ih _ h.2.2 hs⟩
    · exact absorb_ris n (s :: r) (n, n) (b - 1) b hn (by simp) (by simp) (by simp; omega) (h.mono (by omega)) h

theorem Upto.addR {n c : Int} {l : List Sp} (h : Upto c l) (hn : n ≤ c) : Upto c (addR n l) := by
  have hab : ∀ (l : List Sp) (o : Sp), Upto c l → o.2 ≤ c → Upto c (absorb n o l) := by
    intro l
    induction l with
    | nil => intro o _ ho s hs; simp [absorb] at hs; subst hs; exact ho
    | cons t r ih =>
      intro o hl ho
      simp only [absorb]
      have ht := hl t (by simp)
      split
      · intro s hs
        simp at hs
        rcases hs with rfl | rfl | hs
        · exact ho
        · exact ht
        · exact hl s (by simp [hs])
      · exact ih _ (fun s hs => hl s (by simp [hs])) (by simp; omega)
  induction l with
  | nil => intro s hs; simp [Go.Proofs.Ytnddejdndipddad.addR] at hs; subst hs; exact hn
  | cons t r ih =>
    simp only [Go.Proofs.Ytnddejdndipddad.addR]
    split
    · intro s hs
      simp at hs
      rcases hs with rfl | hs
      · exact h s (by simp)
      · exact ih (fun s hs => h s (by simp [hs])) s hs
    · exact hab _ _ h hn

/-- There is one way to write them. -/
theorem Ris.unique {b b' : Int} {l m : List Sp} (h : Ris b l) (h' : Ris b' m) (he : ∀ x, inM l x = true ↔ inM m x = true) : l = m := by
  induction l generalizing b b' m with
  | nil =>
    cases m with
    | nil => rfl
    | cons t q => have := (he t.1).2 ((inM_cons t q t.1).2 (Or.inl ⟨by omega, h'.2.1⟩)); simp [inM] at this
  | cons s r ih =>
    cases m with
    | nil => have := (he s.1).1 ((inM_cons s r s.1).2 (Or.inl ⟨by omega, h.2.1⟩)); simp [inM] at this
    | cons t q =>
      have a1 := h.2.1
      have a2 := h'.2.1
      have low : ∀ x, inM (s :: r) x = true → s.1 ≤ x := fun x hx => by
        rcases (inM_cons s r x).1 hx with g | g
        · exact g.1
        · have := h.2.2.low g; omega
      have low' : ∀ x, inM (t :: q) x = true → t.1 ≤ x := fun x hx => by
        rcases (inM_cons t q x).1 hx with g | g
        · exact g.1
        · have := h'.2.2.low g; omega
      have e1 : s.1 = t.1 := by
        have g1 := low' s.1 ((he s.1).1 ((inM_cons s r s.1).2 (Or.inl ⟨by omega, a1⟩)))
        have g2 := low t.1 ((he t.1).2 ((inM_cons t q t.1).2 (Or.inl ⟨by omega, a2⟩)))
        omega
      have e2 : s.2 = t.2 := by
        rcases Int.lt_trichotomy s.2 t.2 with g | g | g
        · have g1 := (he (s.2 + 1)).2 ((inM_cons t q _).2 (Or.inl ⟨by omega, by omega⟩))
          rcases (inM_cons s r _).1 g1 with g2 | g2
          · omega
          · have := h.2.2.low g2; omega
        · exact g
        · have g1 := (he (t.2 + 1)).1 ((inM_cons s r _).2 (Or.inl ⟨by omega, by omega⟩))
          rcases (inM_cons t q _).1 g1 with g2 | g2
          · omega
          · have := h'.2.2.low g2; omega
      have e : s = t := Prod.ext e1 e2
      subst e
      congr 1
      refine ih h.2.2 h'.2.2 fun x => ?_
      have hx := he x
      rw [inM_cons, inM_cons] at hx
      constructor
      · intro g
        have := h.2.2.low g
        rcases hx.1 (Or.inr g) with g' | g'
        · omega
        · exact g'
      · intro g
        have := h'.2.2.low g
        rcases hx.2 (Or.inr g) with g' | g'
        · omega
        · exact g'

end Go.Proofs.Ytnddejdndipddad

namespace Go.Proofs.Ytnddejdndipddad
open Go.ChangeShapes Go.WideShapes Go.ChangeAt Go.RowKit

theorem addM_len (l : List Sp) (n : Int) : (addM l n).length ≤ l.length + 1 := by
  have h1 := scan_le (soAdd1 n) l n
  have h2 := scan_le (soAdd2 n) (l.drop (scan (soAdd1 n) n l).1) n
  simp only [addM, List.length_append, List.length_take, List.length_cons, List.length_drop] at h2 ⊢
  omega

end Go.Proofs.Ytnddejdndipddad

namespace Go.Proofs.Ytnddejdndipddad

theorem upM_nil (c : Int) : upM [] c = (c, []) := rfl
theorem upM_far (s : Sp) (r : List Sp) (c : Int) (h : c + 1 < s.1) : upM (s :: r) c = (c, s :: r) := by
  have e : soUp c s = (true, c) := by simp [soUp, h]
  simp [upM, scan, e]
theorem upM_near (s : Sp) (r : List Sp) (c : Int) (h : ¬ c + 1 < s.1) : upM (s :: r) c = upM r (max c s.2) := by
  have e : soUp c s = (false, max c s.2) := by simp only [soUp]; rw [if_neg h]
  simp [upM, scan, e]

/-- Spans above c: Up goes to the end of the first one, if that begins right above c. -/
theorem up_spec (l : List Sp) (c : Int) (h : Ris c l) : c ≤ (upM l c).1 ∧ (∀ x, c < x → x ≤ (upM l c).1 → inM l x = true) ∧ inM l ((upM l c).1 + 1) = false ∧ (∀ x, inM (upM l c).2 x = true ↔ inM l x = true ∧ (upM l c).1 < x) ∧ (∀ k, c ≤ k → Upto k l → (upM l c).1 ≤ k) := by
  have noton : ∀ (l : List Sp) (b : Int), Ris b l → inM l b = false := fun l b hl => by
    cases hq : inM l b with
    | false => rfl
    | true => have := hl.low hq; omega
  cases l with
  | nil => simp [upM_nil, inM]; omega
  | cons s r =>
    have h1 := h.1
    have h2 := h.2.1
    have h3 := h.2.2
    by_cases hf : c + 1 < s.1
    · rw [upM_far s r c hf]
      refine ⟨by simp, fun x g1 g2 => by simp at g2; omega, noton (s :: r) (c + 1) ⟨hf, h2, h3⟩, fun x => ⟨fun g => ⟨g, h.low g⟩, fun g => g.1⟩, fun k hk _ => by simpa using hk⟩
    · rw [upM_near s r c hf, show max c s.2 = s.2 by omega]
      have e : upM r s.2 = (s.2, r) := by
        cases r with
        | nil => rfl
        | cons t q => exact upM_far t q s.2 h3.1
      rw [e]
      refine ⟨by simp; omega, fun x g1 g2 => (inM_cons s r x).2 (Or.inl ⟨by omega, by simpa using g2⟩), ?_, fun x => ?_, fun k _ hu => by simpa using hu s (by simp)⟩
      · cases hq : inM (s :: r) (s.2 + 1) with
        | false => rfl
        | true =>
          rcases (inM_cons s r _).1 hq with g | g
          · omega
          · have := h3.low g; omega
      · constructor
        · intro g
          have := h3.low g
          exact ⟨(inM_cons s r x).2 (Or.inr g), by simp; omega⟩
        · rintro ⟨g1, g2⟩
          simp at g2
          rcases (inM_cons s r x).1 g1 with g | g
          · omega
          · exact g

/-- So many numbers in turn, all of a list: the list is no shorter. -/
theorem many (k : Nat) (a : Int) (zs : List Int) (h : ∀ i : Nat, i < k → a + i ∈ zs) : k ≤ zs.length := by
  induction k generalizing zs with
  | zero => omega
  | succ k ih =>
    have hm := h k (by omega)
    have := ih (zs.erase (a + k)) (fun i hi => (List.mem_erase_of_ne (by omega)).2 (h i (by omega)))
    rw [List.length_erase_of_mem hm] at this
    have : 0 < zs.length := List.length_pos_of_mem hm
    omega

end Go.Proofs.Ytnddejdndipddad

namespace Go.Proofs.Ytnddejdndipddad
open Go.RowKit

def rupM : List Sp → Int → List Sp → Int × List Sp
  | [], c, o => (c, o)
  | s :: r, c, o => if s.1 ≤ c + 1 then rupM r (max c s.2) o else rupM r c (o ++ [s])

theorem rupM_far (l : List Sp) (c : Int) (o : List Sp) (h : Ris (c + 1) l) : rupM l c o = (c, o ++ l) := by
  induction l generalizing o with
  | nil => simp [rupM]
  | cons s r ih =>
    have h1 := h.1
    rw [rupM, if_neg (by omega), ih _ (h.2.2.mono (by have := h.2.1; omega))]
    simp
theorem rupM_eq (l : List Sp) (b c : Int) (h : Ris b l) : rupM l c [] = upM l c := by
  induction l generalizing b c with
  | nil => rfl
  | cons s r ih =>
    by_cases hf : c + 1 < s.1
    · rw [upM_far s r c hf, rupM_far (s :: r) c [] ⟨hf, h.2.1, h.2.2⟩]
      rfl
    · rw [upM_near s r c hf, rupM, if_pos (by omega), ih _ _ h.2.2]

theorem own_snoc {w : World} {base : Nat} {v : Value} {lo : List Sp} {s : Sp} (h : w.ownsRow base 75 2 v (lo.length + [(s.1, s.2)].length) (flat lo ++ flat [(s.1, s.2)])) : w.ownsRow base 75 2 v (lo ++ [(s.1, s.2)]).length (flat (lo ++ [(s.1, s.2)])) := by
  rw [flat_append, List.length_append]
  exact h
theorem fit_snoc {lo : List Sp} {s : Sp} (h : Fit lo) (hs : I64 s.1 ∧ I64 s.2) : Fit (lo ++ [(s.1, s.2)]) := fun x hx => by
  rcases List.mem_append.1 hx with g | g
  · exact h x g
  · simp at g; subst g; exact hs

set_option maxHeartbeats 1000000 in
theorem rup_any (v : Value) (l : List Sp) (c : Int) (w : World) (hv : Sl w.heap.size w v l) (hc1 : -1099511627776 ≤ c) (hc2 : c ≤ 1099511627776) (hu : Upto 1099511627776 l) (hl : l.length * 16 ≤ 140737488351232) :
    Calls Try.prog 63 #[v, .int .i64 c] w fun e w' => ∃ v', e = .returned (.tuple #[.int .i64 (rupM l c []).1, v']) ∧ Sl w'.heap.size w' v' (rupM l c []).2 ∧ Below w.heap.size w w' := by
  obtain ⟨a, cap, rfl⟩ := hv.ex
  have q1 := hv.len
  have hfit := q1.2.2.2
  clear q1
  go_enter Try.func63, Try.ntmps63
  go_wp2
  go_loopw [1, 6, 11] (fun cs o i wr => ∃ (k : Nat) (ck : Int) (lo : List Sp), k ≤ l.length ∧ i = .int .i64 k ∧ cs = .int .i64 ck ∧ -1099511627776 ≤ ck ∧ ck ≤ 1099511627776 ∧ wr.ownsRow w.heap.size 75 2 o lo.length (flat lo) ∧ Fit lo ∧ lo.length ≤ k ∧ Below w.heap.size w wr ∧ Hid (rupM l c [] = rupM (l.drop k) ck lo))
      (fun _ _ i _ => l.length - (intOf i).toNat)
  case atStart => exact ⟨0, c, [], Nat.zero_le _, rfl, rfl, hc1, hc2, World.ownsRow_nil _ _ _ _, fun s hs => by simp at hs, by simp, Below.refl _ _, rfl⟩
  case round =>
    obtain ⟨k, ck, lo, hk, rfl, rfl, g1, g2, hown, hfo, hlo, hbel, HR⟩ := hrel
    by_cases hlt : k < l.length
    · obtain ⟨b, off, hb, hix, hx0, hx1⟩ := (hv.below hbel (Nat.le_refl _)).at k hlt
      have hcons := List.drop_eq_getElem_cons hlt
      have hs := hfit l[k] (List.getElem_mem _)
      have hsu := hu l[k] (List.getElem_mem _)
      by_cases t1 : l[k].1 ≤ ck + 1
      · have HR2 : Hid (rupM l c [] = rupM (l.drop (k + 1)) (max ck l[k].2) lo) := by
          show _ = _
          rw [HR.out, hcons, rupM, if_pos t1]
        clear hcons hs
        by_cases t2 : ck < l[k].2
        · rw [show max ck l[k].2 = l[k].2 by omega] at HR2
          go_wp2
          go_roundw
          case rel => exact ⟨k + 1, l[k].2, lo, by omega, by go_num, rfl, by omega, by omega, hown.alloc _, hfo, by omega, hbel.alloc hbel.size _, HR2⟩
          case measure => simp [intOf]; omega
        · rw [show max ck l[k].2 = ck by omega] at HR2
          go_wp2
          go_roundw
          case rel => exact ⟨k + 1, ck, lo, by omega, by go_num, rfl, by omega, by omega, hown.alloc _, hfo, by omega, hbel.alloc hbel.size _, HR2⟩
          case measure => simp [intOf]; omega
      · have HR2 : Hid (rupM l c [] = rupM (l.drop (k + 1)) ck (lo ++ [(l[k].1, l[k].2)])) := by
          show _ = _
          rw [HR.out, hcons, rupM, if_neg t1]
        have hsz := hbel.size
        clear hcons
        go_wp2_with (first
          | (at_builtin; refine wpList_append_sp _ rfl (.tmp 26) (.tmp 28) rfl w.heap.size u6 lo.length (flat lo) rfl ((hown.alloc _).alloc _) (wr.heap.size + 1 + 1) [(l[k].1, l[k].2)] (.slice (some ⟨wr.heap.size + 1, 0, none⟩) 1 1) rfl (by have := Sl.one (wr.alloc (.cells #[.int .i64 l[k].1, .int .i64 l[k].2] 75)) l[k].1 l[k].2 hs.1 hs.2; simpa using this) (by simp; omega) (by simp; omega) ?_; intro v4 w4 own4 grow4; have B4 := ((hbel.alloc hbel.size _).alloc (by simp; omega) _).trans (grown_below ((hown.alloc _).alloc _) grow4 (by simp; omega)); clear grow4)
          | fail)
        go_roundw
        case rel => exact ⟨k + 1, ck, lo ++ [(l[k].1, l[k].2)], by omega, by go_num, rfl, g1, g2, own_snoc own4, fit_snoc hfo hs, by simp; omega, B4, HR2⟩
        case measure => simp [intOf]; omega
    · have HE : Hid (rupM l c [] = (ck, lo)) := by
        show _ = _
        rw [HR.out, List.drop_of_length_le (by omega)]
        rfl
      go_wp2
      go_ret2
      rw [HE.out]
      exact ⟨_, rfl, Sl.own hown hfo, hbel⟩
end Go.Proofs.Ytnddejdndipddad

namespace Go.Proofs.Ytnddejdndipddad
open Go.RowKit

def foldF (n : Int) : Sp → List Sp → Sp
  | ft, [] => ft
  | ft, s :: r => if s.2 = n - 1 then foldF n (s.1, ft.2) r else if s.1 = n + 1 then foldF n (ft.1, s.2) r else foldF n ft r
def goM (n : Int) (ft : Sp) : List Sp → Bool → List Sp
  | [], dn => if dn then [] else [ft]
  | s :: r, dn => if s.2 = n - 1 ∨ s.1 = n + 1 then goM n ft r dn else if dn = false ∧ n < s.1 then ft :: s :: goM n ft r true else s :: goM n ft r dn

theorem goM_done (n : Int) (ft : Sp) (l : List Sp) (h : Ris (n + 1) l) : goM n ft l true = l := by
  induction l with
  | nil => rfl
  | cons s r ih =>
    have h1 := h.1
    have h2 := h.2.1
    rw [goM, if_neg (by omega), if_neg (by simp), ih (h.2.2.mono (by omega))]
theorem foldF_done (n : Int) (ft : Sp) (l : List Sp) (h : Ris (n + 1) l) : foldF n ft l = ft := by
  induction l with
  | nil => rfl
  | cons s r ih =>
    have h1 := h.1
    have h2 := h.2.1
    rw [foldF, if_neg (by omega), if_neg (by omega), ih (h.2.2.mono (by omega))]
theorem goM_tail (n f : Int) (l : List Sp) (h : Ris n l) (hf : f ≤ n) : goM n (foldF n (f, n) l) l false = absorb n (f, n) l := by
  cases l with
  | nil => rfl
  | cons u q =>
    have h1 := h.1
    have h2 := h.2.1
    have h3 := h.2.2
    by_cases e : u.1 = n + 1
    · rw [foldF, if_neg (by omega), if_pos e, foldF_done n _ q (h3.mono (by omega)), goM, if_pos (Or.inr e), absorb, if_neg (by omega)]
      rw [show (min f u.1, max n u.2) = (f, u.2) from Prod.ext (by simp; omega) (by simp; omega)]
      cases q with
      | nil => rfl
      | cons t p =>
        have g1 := h3.1
        have g2 := h3.2.1
        have g3 := h3.2.2
        rw [goM, if_neg (by omega), if_pos ⟨rfl, by omega⟩, goM_done n _ p (g3.mono (by omega)), absorb, if_pos (by omega)]
    · rw [foldF, if_neg (by omega), if_neg e, foldF_done n _ q (h3.mono (by omega)), goM, if_neg (by omega), if_pos ⟨rfl, by omega⟩, goM_done n _ q (h3.mono (by omega)), absorb, if_pos (by omega)]
theorem goM_eq (n : Int) (l : List Sp) (b : Int) (h : Ris b l) (hn : inM l n = false) : goM n (foldF n (n, n) l) l false = addR n l := by
  induction l generalizing b with
  | nil => rfl
  | cons s r ih =>
    have h1 := h.1
    have h2 := h.2.1
    have h3 := h.2.2
    have hns : ¬ (s.1 ≤ n ∧ n ≤ s.2) := fun g => by rw [(inM_cons s r n).2 (Or.inl g)] at hn; cases hn
    have hnr : inM r n = false := by
      cases hq : inM r n with
      | false => rfl
      | true => rw [(inM_cons s r n).2 (Or.inr hq)] at hn; cases hn
    by_cases c1 : s.2 + 1 < n
    · rw [foldF, if_neg (by omega), if_neg (by omega), goM, if_neg (by omega), if_neg (by omega), ih _ h3 hnr, addR, if_pos c1]
    · by_cases c2 : s.2 + 1 = n
      · rw [foldF, if_pos (by omega), goM, if_pos (Or.inl (by omega)), addR, if_neg c1, absorb, if_neg (by omega)]
        rw [show (min n s.1, max n s.2) = (s.1, n) from Prod.ext (by simp; omega) (by simp; omega)]
        exact goM_tail n s.1 r (h3.mono (by omega)) (by omega)
      · rw [addR, if_neg c1]
        exact goM_tail n n (s :: r) ⟨by omega, h2, h3⟩ (by omega)

theorem addR_same (n b : Int) (l : List Sp) (h : Ris b l) (hn : inM l n = true) : addR n l = l :=
  (addR_ris n b l h (h.low hn)).unique h fun x => by
    rw [addR_mem n b l h x]
    exact ⟨fun g => g.elim (fun e => e ▸ hn) id, Or.inr⟩

end Go.Proofs.Ytnddejdndipddad

namespace Go.Proofs.Ytnddejdndipddad
open Go.RowKit

/-- What a round of the second loop makes. -/
theorem goM_skip (n : Int) (ft s : Sp) (r : List Sp) (dn : Bool) (h : s.2 = n - 1 ∨ s.1 = n + 1) : goM n ft (s :: r) dn = goM n ft r dn := by rw [goM, if_pos h]
theorem goM_both (n : Int) (ft s : Sp) (r : List Sp) (h : ¬ (s.2 = n - 1 ∨ s.1 = n + 1)) (h' : n < s.1) : goM n ft (s :: r) false = ft :: s :: goM n ft r true := by rw [goM, if_neg h, if_pos ⟨rfl, h'⟩]
theorem goM_one (n : Int) (ft s : Sp) (r : List Sp) (dn : Bool) (h : ¬ (s.2 = n - 1 ∨ s.1 = n + 1)) (h' : dn = true ∨ ¬ n < s.1) : goM n ft (s :: r) dn = s :: goM n ft r dn := by
  rw [goM, if_neg h, if_neg]
  rintro ⟨g1, g2⟩
  rcases h' with e | e
  · rw [e] at g1; cases g1
  · exact e g2

/-- The span in hand is as it was, behind an append to a row of the call's own. -/
theorem s_kept {w w4 : World} {base nn : Nat} {v : Value} {xs : List Value} {x y : Int} {o : Obj} (hown : w.ownsRow base 75 2 v nn xs) (hg : ((w.alloc (.cells #[.int .i64 x, .int .i64 y] 75)).alloc o).grownBy w4 v.ownBlock) :
    w4.cell? ⟨w.heap.size, 0, none⟩ = some (.int .i64 x) ∧ w4.cell? ⟨w.heap.size, 1, none⟩ = some (.int .i64 y) := by
  have hne : some w.heap.size ≠ v.ownBlock := fun e => by have := (hown.lt w.heap.size e.symm).2; omega
  constructor
  · refine hg.cell ?_ hne
    rw [World.cell?_alloc_past _ _ _ (by simp), World.cell?_alloc_at _ _ _ _ rfl]; rfl
  · refine hg.cell ?_ hne
    rw [World.cell?_alloc_past _ _ _ (by simp), World.cell?_alloc_at _ _ _ _ rfl]; rfl

set_option maxHeartbeats 1000000 in
theorem radd_any (v : Value) (l : List Sp) (n : Int) (w : World) (hv : Sl w.heap.size w v l) (hn1 : -1099511627776 ≤ n) (hn2 : n ≤ 1099511627776) (hl : l.length * 16 ≤ 140737488351232) (b0 : Int) (hr : Ris b0 l) :
    Calls Try.prog 64 #[v, .int .i64 n] w fun e w' => ∃ v', e = .returned v' ∧ Sl w'.heap.size w' v' (addR n l) ∧ Below w.heap.size w w' := by
  obtain ⟨a, cap, rfl⟩ := hv.ex
  have q1 := hv.len
  have hfit := q1.2.2.2
  clear q1
  have hnot : ∀ (x : Bool) (w : World), (Op.unary .not (.bool x)).run Try.prog w = .ok (.bool (!x)) w := fun _ _ => rfl
  have HIN := goM_eq n l b0 hr
  have HSAME := addR_same n b0 l hr
  go_enter Try.func64, Try.ntmps64
  go_wp2_with fail
  refine (rin_any _ l n _ hv).mono ?_
  rintro e w1 ⟨rfl, b1⟩
  cases hin : inM l n with
  | true =>
    have HA : Hid (addR n l = l) := HSAME hin
    clear HIN HSAME
    go_wp2
    go_ret
    rw [HA.out]
    exact ⟨_, rfl, hv.size b1 (Nat.le_refl _), b1⟩
  | false =>
    have HA : Hid (addR n l = goM n (foldF n (n, n) l) l false) := (HIN hin).symm
    clear HIN HSAME
    go_wp2
    go_loopw [5, 6, 21] (fun f t i wr => ∃ (k : Nat) (ft : Sp), k ≤ l.length ∧ i = .int .i64 k ∧ f = .int .i64 ft.1 ∧ t = .int .i64 ft.2 ∧ I64 ft.1 ∧ I64 ft.2 ∧ Below w.heap.size w wr ∧ Hid (foldF n (n, n) l = foldF n ft (l.drop k)))
      (fun _ _ i _ => l.length - (intOf i).toNat)
    case atStart => exact ⟨0, (n, n), Nat.zero_le _, rfl, rfl, rfl, by unfold I64; simp; omega, by unfold I64; simp; omega, b1, rfl⟩
    case round =>
      obtain ⟨k, ft, hk, rfl, rfl, rfl, i1, i2, hbel, HF⟩ := hrel
      by_cases hlt : k < l.length
      · obtain ⟨b, off, hb, hix, hx0, hx1⟩ := (hv.below hbel (Nat.le_refl _)).at k hlt
        have hcons := List.drop_eq_getElem_cons hlt
        have hs := hfit l[k] (List.getElem_mem _)
        by_cases t1 : l[k].2 = n - 1
        · have e1 : (l[k].2 == n - 1) = true := by simpa using t1
          have HF2 : Hid (foldF n (n, n) l = foldF n (l[k].1, ft.2) (l.drop (k + 1))) := by
            show _ = _
            rw [HF.out, hcons, foldF, if_pos t1]
          clear hcons t1
          go_wp2
          go_roundw
          case rel => exact ⟨k + 1, (l[k].1, ft.2), by omega, by go_num, rfl, rfl, hs.1, i2, hbel.alloc hbel.size _, HF2⟩
          case measure => simp [intOf]; omega
        · have e1 : (l[k].2 == n - 1) = false := by simpa using t1
          by_cases t2 : l[k].1 = n + 1
          · have e2 : (l[k].1 == n + 1) = true := by simpa using t2
            have HF2 : Hid (foldF n (n, n) l = foldF n (ft.1, l[k].2) (l.drop (k + 1))) := by
              show _ = _
              rw [HF.out, hcons, foldF, if_neg t1, if_pos t2]
            clear hcons t1 t2
            go_wp2
            go_roundw
            case rel => exact ⟨k + 1, (ft.1, l[k].2), by omega, by go_num, rfl, rfl, i1, hs.2, hbel.alloc hbel.size _, HF2⟩
            case measure => simp [intOf]; omega
          · have e2 : (l[k].1 == n + 1) = false := by simpa using t2
            have HF2 : Hid (foldF n (n, n) l = foldF n ft (l.drop (k + 1))) := by
              show _ = _
              rw [HF.out, hcons, foldF, if_neg t1, if_neg t2]
            clear hcons t1 t2
            go_wp2
            go_roundw
            case rel => exact ⟨k + 1, ft, by omega, by go_num, rfl, rfl, i1, i2, hbel.alloc hbel.size _, HF2⟩
            case measure => simp [intOf]; omega
      · have e := HF.out
        rw [List.drop_of_length_le (by omega), foldF] at e
        have HA2 : Hid (addR n l = goM n ft l false) := by
          show _ = _
          rw [HA.out, e]
        clear e HA HF
        go_wp2
        go_loopw [7, 10, 44] (fun o d i wr => ∃ (k : Nat) (dn : Bool) (lo : List Sp), k ≤ l.length ∧ i = .int .i64 k ∧ d = .bool dn ∧ wr.ownsRow w.heap.size 75 2 o lo.length (flat lo) ∧ Fit lo ∧ lo.length ≤ k + dn.toNat ∧ Below w.heap.size w wr ∧ Hid (goM n ft l false = lo ++ goM n ft (l.drop k) dn))
          (fun _ _ i _ => l.length - (intOf i).toNat)
        case atStart => exact ⟨0, false, [], Nat.zero_le _, rfl, rfl, World.ownsRow_nil _ _ _ _, fun s hs => by simp at hs, by simp, hbel, rfl⟩
        case round =>
          clear hbel hlt
          obtain ⟨k, dn, lo, hk, rfl, rfl, hown, hfo, hlo, hbel, HG⟩ := hrel
          by_cases hlt : k < l.length
          · obtain ⟨b, off, hb, hix, hx0, hx1⟩ := (hv.below hbel (Nat.le_refl _)).at k hlt
            have hcons := List.drop_eq_getElem_cons hlt
            have hs := hfit l[k] (List.getElem_mem _)
            have hsz := hbel.size
            by_cases t1 : l[k].2 = n - 1
            · have e1 : (l[k].2 == n - 1) = true := by simpa using t1
              have HG2 : Hid (goM n ft l false = lo ++ goM n ft (l.drop (k + 1)) dn) := by
                show _ = _
                rw [HG.out, hcons, goM_skip _ _ _ _ _ (Or.inl t1)]
              clear hcons t1
              go_wp2
              go_roundw
              case rel => exact ⟨k + 1, dn, lo, by omega, by go_num, rfl, hown.alloc _, hfo, by omega, hbel.alloc hbel.size _, HG2⟩
              case measure => simp [intOf]; omega
            · have e1 : (l[k].2 == n - 1) = false := by simpa using t1
              by_cases t2 : l[k].1 = n + 1
              · have e2 : (l[k].1 == n + 1) = true := by simpa using t2
                have HG2 : Hid (goM n ft l false = lo ++ goM n ft (l.drop (k + 1)) dn) := by
                  show _ = _
                  rw [HG.out, hcons, goM_skip _ _ _ _ _ (Or.inr t2)]
                clear hcons t1 t2
                go_wp2
                go_roundw
                case rel => exact ⟨k + 1, dn, lo, by omega, by go_num, rfl, hown.alloc _, hfo, by omega, hbel.alloc hbel.size _, HG2⟩
                case measure => simp [intOf]; omega
              · have e2 : (l[k].1 == n + 1) = false := by simpa using t2
                have t12 : ¬ (l[k].2 = n - 1 ∨ l[k].1 = n + 1) := by omega
                have one1 : Sl (wr.heap.size + 1 + 1) ((wr.alloc (.cells #[.int .i64 l[k].1, .int .i64 l[k].2] 75)).alloc (.cells #[.int .i64 l[k].1, .int .i64 l[k].2] 75)) (.slice (some ⟨wr.heap.size + 1, 0, none⟩) 1 1) [(l[k].1, l[k].2)] := by
                  have := Sl.one (wr.alloc (.cells #[.int .i64 l[k].1, .int .i64 l[k].2] 75)) l[k].1 l[k].2 hs.1 hs.2
                  simpa using this
                cases dn with
                | true =>
                  rw [Bool.toNat_true] at hlo
                  have HG2 : Hid (goM n ft l false = (lo ++ [(l[k].1, l[k].2)]) ++ goM n ft (l.drop (k + 1)) true) := by
                    show _ = _
                    rw [HG.out, hcons, goM_one _ _ _ _ _ t12 (Or.inl rfl)]
                    simp
                  clear hcons t1 t2 t12
                  go_wp2_with (first
                    | (at_builtin; refine wpList_append_sp _ rfl (.tmp 74) (.tmp 76) rfl w.heap.size u7 lo.length (flat lo) rfl ((hown.alloc _).alloc _) (wr.heap.size + 1 + 1) [(l[k].1, l[k].2)] (.slice (some ⟨wr.heap.size + 1, 0, none⟩) 1 1) rfl one1 (by simp; omega) (by simp; omega) ?_; intro v4 w4 own4 grow4; have B4 := ((hbel.alloc hbel.size _).alloc (by simp; omega) _).trans (grown_below ((hown.alloc _).alloc _) grow4 (by simp; omega)); clear grow4)
                    | fail)
                  go_roundw
                  case rel => exact ⟨k + 1, true, lo ++ [(l[k].1, l[k].2)], by omega, by go_num, rfl, own_snoc own4, fit_snoc hfo hs, by simp; omega, B4, HG2⟩
                  case measure => simp [intOf]; omega
                | false =>
                  rw [Bool.toNat_false, Nat.add_zero] at hlo
                  by_cases t3 : n < l[k].1
                  · have HG2 : Hid (goM n ft l false = ((lo ++ [(ft.1, ft.2)]) ++ [(l[k].1, l[k].2)]) ++ goM n ft (l.drop (k + 1)) true) := by
                      show _ = _
                      rw [HG.out, hcons, goM_both _ _ _ _ t12 t3]
                      simp
                    have one2 : Sl (wr.heap.size + 1 + 1) ((wr.alloc (.cells #[.int .i64 l[k].1, .int .i64 l[k].2] 75)).alloc (.cells #[.int .i64 ft.1, .int .i64 ft.2] 75)) (.slice (some ⟨wr.heap.size + 1, 0, none⟩) 1 1) [(ft.1, ft.2)] := by
                      have := Sl.one (wr.alloc (.cells #[.int .i64 l[k].1, .int .i64 l[k].2] 75)) ft.1 ft.2 i1 i2
                      simpa using this
                    clear hcons t1 t2 t12 one1
                    go_wp2_with (first
                      | (at_builtin; refine wpList_append_sp _ rfl (.tmp 68) (.tmp 72) rfl w.heap.size u7 lo.length (flat lo) rfl ((hown.alloc _).alloc _) (wr.heap.size + 1 + 1) [(ft.1, ft.2)] (.slice (some ⟨wr.heap.size + 1, 0, none⟩) 1 1) rfl one2 (by simp; omega) (by simp; omega) ?_; intro v4 w4 own4 grow4; have B4 := ((hbel.alloc hbel.size _).alloc (by simp; omega) _).trans (grown_below ((hown.alloc _).alloc _) grow4 (by simp; omega)); have c4 := s_kept hown grow4; have c40 := c4.1; have c41 := c4.2; clear grow4 c4)
                      | (at_builtin; refine wpList_append_sp _ rfl (.tmp 74) (.tmp 76) rfl w.heap.size v4 _ _ rfl ((own_snoc own4).alloc _) (w4.heap.size + 1) [(l[k].1, l[k].2)] (.slice (some ⟨w4.heap.size, 0, none⟩) 1 1) rfl (Sl.one w4 l[k].1 l[k].2 hs.1 hs.2) (by simp; omega) (by have := B4.size; simp; omega) ?_; intro v5 w5 own5 grow5; have B5 := (B4.alloc B4.size _).trans (grown_below ((own_snoc own4).alloc _) grow5 (by have := B4.size; simp; omega)); clear grow5)
                      | fail)
                    go_roundw
                    case rel => exact ⟨k + 1, true, (lo ++ [(ft.1, ft.2)]) ++ [(l[k].1, l[k].2)], by omega, by go_num, rfl, own_snoc own5, fit_snoc (fit_snoc hfo ⟨i1, i2⟩) hs, by simp; omega, B5, HG2⟩
                    case measure => simp [intOf]; omega
                  · have HG2 : Hid (goM n ft l false = (lo ++ [(l[k].1, l[k].2)]) ++ goM n ft (l.drop (k + 1)) false) := by
                      show _ = _
                      rw [HG.out, hcons, goM_one _ _ _ _ _ t12 (Or.inr t3)]
                      simp
                    clear hcons t1 t2 t12
                    go_wp2_with (first
                      | (at_builtin; refine wpList_append_sp _ rfl (.tmp 74) (.tmp 76) rfl w.heap.size u7 lo.length (flat lo) rfl ((hown.alloc _).alloc _) (wr.heap.size + 1 + 1) [(l[k].1, l[k].2)] (.slice (some ⟨wr.heap.size + 1, 0, none⟩) 1 1) rfl one1 (by simp; omega) (by simp; omega) ?_; intro v4 w4 own4 grow4; have B4 := ((hbel.alloc hbel.size _).alloc (by simp; omega) _).trans (grown_below ((hown.alloc _).alloc _) grow4 (by simp; omega)); clear grow4)
                      | fail)
                    go_roundw
                    case rel => exact ⟨k + 1, false, lo ++ [(l[k].1, l[k].2)], by omega, by go_num, rfl, own_snoc own4, fit_snoc hfo hs, by simp; omega, B4, HG2⟩
                    case measure => simp [intOf]; omega
          · have e := HG.out
            rw [List.drop_of_length_le (by omega)] at e
            have hlo2 : lo.length ≤ k + 1 := by cases dn <;> simp at hlo <;> omega
            cases dn with
            | true =>
              have HE : Hid (addR n l = lo) := by
                show _ = _
                rw [HA2.out, e, goM]
                simp
              clear e
              go_wp2
              go_ret
              rw [HE.out]
              exact ⟨_, rfl, Sl.own hown hfo, hbel⟩
            | false =>
              have HE : Hid (addR n l = lo ++ [(ft.1, ft.2)]) := by
                show _ = _
                rw [HA2.out, e, goM]
                simp
              have hsz := hbel.size
              clear e
              go_wp2_with (first
                | (at_builtin; refine wpList_append_sp _ rfl (.tmp 81) (.tmp 85) rfl w.heap.size u7 lo.length (flat lo) rfl (hown.alloc _) (wr.heap.size + 1) [(ft.1, ft.2)] (.slice (some ⟨wr.heap.size, 0, none⟩) 1 1) rfl (Sl.one wr ft.1 ft.2 i1 i2) (by simp; omega) (by simp; omega) ?_; intro v4 w4 own4 grow4; have B4 := (hbel.alloc hbel.size _).trans (grown_below (hown.alloc _) grow4 (by simp; omega)); clear grow4)
                | fail)
              go_ret
              rw [HE.out]
              exact ⟨_, rfl, Sl.own (own_snoc own4) (fit_snoc hfo ⟨i1, i2⟩), B4⟩
end Go.Proofs.Ytnddejdndipddad
