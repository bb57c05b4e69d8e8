/- Contracts of functions of earlier stages, for a chain that stands on the base. -/
import Derived.Test.YtnddejdndipddadLB
import Derived.WalkKit
import Derived.WalkSpells
import Derived.WalkLawsBesides
import Derived.Deep.RegionLawGrows
import Derived.Deep.QuietTactic
import Derived.BigQuiet
import Derived.ProofKit
import Derived.OpenShut
import Derived.SizedLaws
set_option maxRecDepth 20000
namespace Go.Proofs.Ytnddejdndipddad
open Go.RowKit

set_option maxHeartbeats 400000 in
theorem tag_any (n : Int) (w : World) : Calls Try.prog 70 #[.int .i64 n] w fun e w' => e = .returned (.int .i64 (n % 65536)) ∧ w' = w := by
  have hb := tmod_bd n
  have h1 := hb.1
  have h2 := hb.2
  clear hb
  by_cases hn : n.tmod 65536 < 0
  · go_enter Try.func70, Try.ntmps70
    go_wp2
    go_ret
    exact ⟨ret_int (tag_neg hn), rfl⟩
  · go_enter Try.func70, Try.ntmps70
    go_wp2
    go_ret
    exact ⟨ret_int (tag_pos hn), rfl⟩

set_option maxHeartbeats 400000 in
theorem rtag_any (n : Int) (w : World) : Calls Try.prog 38 #[.int .i64 n] w fun e w' => e = .returned (.int .i64 (n % 65536)) ∧ w' = w := by
  have hb := tmod_bd n
  have h1 := hb.1
  have h2 := hb.2
  clear hb
  go_enter Try.func38, Try.ntmps38
  go_wp2
  go_ret
  exact ⟨ret_int (rtag_eq n), rfl⟩

set_option maxHeartbeats 400000 in
theorem near_any (n t : Int) (w : World) (h1 : -1099511627776 ≤ n) (h2 : n ≤ 1099511627776) : Calls Try.prog 52 #[.int .i64 n, .int .i64 t] w fun e w' => e = .returned (.int .i64 (nearM n t)) ∧ w' = w := by
  have a1 : 0 ≤ t % 65536 := by omega
  have a2 : t % 65536 < 65536 := by omega
  have a3 : 0 ≤ n % 65536 := by omega
  have a4 : n % 65536 < 65536 := by omega
  have a5 : 0 ≤ (t - n) % 65536 := by omega
  have a6 : (t - n) % 65536 < 65536 := by omega
  by_cases h : 32768 < (t - n) % 65536
  · have HF : Hid (nearM n t = n + ((t - n) % 65536 - 65536)) := by show nearM n t = _; simp only [nearM]; rw [if_pos h]
    go_enter Try.func52, Try.ntmps52
    go_wp2_with (go_at_call 70; refine (tag_any _ _).mono ?_; rintro e w' ⟨rfl, rfl⟩)
    go_ret
    exact ⟨ret_int HF.out.symm, rfl⟩
  · have HF : Hid (nearM n t = n + ((t - n) % 65536)) := by show nearM n t = _; simp only [nearM]; rw [if_neg h]
    go_enter Try.func52, Try.ntmps52
    go_wp2_with (go_at_call 70; refine (tag_any _ _).mono ?_; rintro e w' ⟨rfl, rfl⟩)
    go_ret
    exact ⟨ret_int HF.out.symm, rfl⟩

end Go.Proofs.Ytnddejdndipddad

namespace Go.Proofs.Ytnddejdndipddad
open Go.RowKit

/-- What 'first' comes to, with a function that has a number of its own: how many were asked in vain, and the number then. -/
def scan (so : Int → Sp → Bool × Int) : Int → List Sp → Nat × Int
  | c, [] => (0, c)
  | c, s :: r => if (so c s).1 = true then (0, (so c s).2) else ((scan so (so c s).2 r).1 + 1, (scan so (so c s).2 r).2)

theorem scan_hit (so : Int → Sp → Bool × Int) (c : Int) (l : List Sp) (k : Nat) (h : k < l.length) (hs : (so c l[k]).1 = true) : scan so c (l.drop k) = (0, (so c l[k]).2) := by
  rw [List.drop_eq_getElem_cons h, scan, if_pos hs]
theorem scan_miss (so : Int → Sp → Bool × Int) (c : Int) (l : List Sp) (k : Nat) (h : k < l.length) (hs : (so c l[k]).1 = false) :
    scan so c (l.drop k) = ((scan so (so c l[k]).2 (l.drop (k + 1))).1 + 1, (scan so (so c l[k]).2 (l.drop (k + 1))).2) := by
  rw [List.drop_eq_getElem_cons h, scan, if_neg (by rw [hs]; decide)]

/-- Function g, bound to the variable in block B: asked of a span, it answers by 'so', and its variable is as 'so' says then. -/
def Asks (g B : Nat) (so : Int → Sp → Bool × Int) (I : Int → Prop) (l : List Sp) : Prop :=
  ∀ c s wx, s ∈ l → I c → wx.cell? ⟨B, 0, none⟩ = some (.int .i64 c) → wx.frozen? ⟨B, 0, none⟩ = false → B < wx.heap.size →
    Calls Try.prog g #[.agg #[.int .i64 s.1, .int .i64 s.2], .pointer (some ⟨B, 0, none⟩)] wx fun e w' => e = .returned (.bool (so c s).1) ∧ I (so c s).2 ∧ w'.cell? ⟨B, 0, none⟩ = some (.int .i64 (so c s).2) ∧ w'.frozen? ⟨B, 0, none⟩ = false ∧ Below B wx w'

set_option maxHeartbeats 400000 in
theorem first_some (g B b off cap : Nat) (l : List Sp) (so : Int → Sp → Bool × Int) (I : Int → Prop) (c : Int) (w : World) (hlen : l.length ≤ 9223372036854775807)
    (hbB : b < B) (hB : B < w.heap.size) (hat : SpAt w b off l) (hc : w.cell? ⟨B, 0, none⟩ = some (.int .i64 c)) (hf : w.frozen? ⟨B, 0, none⟩ = false) (hI : I c)
    (hg : ∀ args wx, (callFunc g args).run Try.prog wx = .ok (.enter g args) wx) (hso : Asks g B so I l) :
    Calls Try.prog 73 #[.slice (some ⟨b, off, none⟩) l.length cap, .func (.func g) #[] #[.pointer (some ⟨B, 0, none⟩)]] w fun e w' =>
      e = .returned (.int .i64 (scan so c l).1) ∧ I (scan so c l).2 ∧ w'.cell? ⟨B, 0, none⟩ = some (.int .i64 (scan so c l).2) ∧ w'.frozen? ⟨B, 0, none⟩ = false ∧ Below B w w' := by
  go_enter Try.func73, Try.ntmps73
  go_wp2
  go_loopw [9] (fun i wr => ∃ (k : Nat) (ck : Int), k ≤ l.length ∧ i = .int .i64 k ∧ I ck ∧ wr.cell? ⟨B, 0, none⟩ = some (.int .i64 ck) ∧ wr.frozen? ⟨B, 0, none⟩ = false ∧ Below B w wr ∧ Hid (scan so c l = ((scan so ck (l.drop k)).1 + k, (scan so ck (l.drop k)).2)))
    (fun i _ => l.length - (intOf i).toNat)
  case atStart => exact ⟨0, c, Nat.zero_le _, rfl, hI, hc, hf, Below.refl _ _, by show _ = _; simp⟩
  case round =>
    obtain ⟨k, ck, hk, rfl, hIk, hck, hfk, hbel, HS⟩ := hrel
    by_cases hlt : k < l.length
    · have hx := hat k l[k] (by simp [hlt])
      have hx1 := (hbel.cell (p := ⟨b, off + k * 2, none⟩) hbB).trans hx.1
      have hx2 := (hbel.cell (p := ⟨b, off + k * 2 + 1, none⟩) hbB).trans hx.2
      clear hx
      go_wp2_with fail
      refine (hso ck l[k] _ (List.getElem_mem hlt) hIk ?_ ?_ ?_).mono ?_
      · rw [World.cell?_alloc_past _ _ _ (by have := hbel.size; simp; omega)]; exact hck
      · rw [World.frozen?_alloc_past _ _ _ (by have := hbel.size; simp; omega)]; exact hfk
      · have := hbel.size; simp; omega
      rintro e w1 ⟨rfl, hI1, hc1, hf1, hb1⟩
      have hb2 : Below B w w1 := (hbel.alloc (by have := hbel.size; omega) _).trans hb1
      clear hb1
      cases hq : (so ck l[k]).1 with
      | true =>
        have e1 := HS.out
        rw [scan_hit so ck l k hlt hq] at e1
        have HE : Hid (scan so c l = (k, (so ck l[k]).2)) := by show _ = _; rw [e1]; simp
        clear e1
        go_wp2
        go_ret
        rw [HE.out]
        exact ⟨rfl, hI1, hc1, hf1, hb2⟩
      | false =>
        have e1 := HS.out
        rw [scan_miss so ck l k hlt hq] at e1
        have HE : Hid (scan so c l = ((scan so (so ck l[k]).2 (l.drop (k + 1))).1 + (k + 1), (scan so (so ck l[k]).2 (l.drop (k + 1))).2)) := by show _ = _; rw [e1]; simp; omega
        clear e1
        go_wp2
        go_roundw
        case rel => exact ⟨k + 1, (so ck l[k]).2, by omega, by go_num, hI1, hc1, hf1, hb2, HE⟩
        case measure => simp [intOf]; omega
    · have hkl : k = l.length := by omega
      have e1 := HS.out
      have HE : Hid (scan so c l = (l.length, ck)) := by show _ = _; rw [e1, hkl]; simp [scan]
      clear e1 hkl
      go_wp2
      go_ret
      rw [HE.out]
      exact ⟨rfl, hIk, hck, hfk, hbel⟩

set_option maxHeartbeats 400000 in
theorem first_none (g B cap : Nat) (a : Option Addr) (w : World) :
    Calls Try.prog 73 #[.slice a 0 cap, .func (.func g) #[] #[.pointer (some ⟨B, 0, none⟩)]] w fun e w' => e = .returned (.int .i64 0) ∧ w' = w := by
  go_enter Try.func73, Try.ntmps73
  go_wp2
  refine wp_loop_rounds 1 ?_
  rw [rounds_succ]
  go_wp2
  go_ret
  exact ⟨rfl, rfl⟩
end Go.Proofs.Ytnddejdndipddad

namespace Go.Proofs.Ytnddejdndipddad
open Go.RowKit

theorem first_any (g B : Nat) (v : Value) (l : List Sp) (so : Int → Sp → Bool × Int) (I : Int → Prop) (c : Int) (w : World)
    (hv : Sl B w v l) (hB : B < w.heap.size) (hc : w.cell? ⟨B, 0, none⟩ = some (.int .i64 c)) (hf : w.frozen? ⟨B, 0, none⟩ = false) (hI : I c)
    (hg : ∀ args wx, (callFunc g args).run Try.prog wx = .ok (.enter g args) wx) (hso : Asks g B so I l) :
    Calls Try.prog 73 #[v, .func (.func g) #[] #[.pointer (some ⟨B, 0, none⟩)]] w fun e w' =>
      e = .returned (.int .i64 (scan so c l).1) ∧ I (scan so c l).2 ∧ w'.cell? ⟨B, 0, none⟩ = some (.int .i64 (scan so c l).2) ∧ w'.frozen? ⟨B, 0, none⟩ = false ∧ Below B w w' := by
  obtain ⟨a, cap, rfl, h1, h2, h0, h3, h4⟩ := hv
  by_cases hn : l = []
  · subst hn
    refine (first_none g B cap a w).mono ?_
    rintro e w' ⟨rfl, rfl⟩
    exact ⟨rfl, hI, hc, hf, Below.refl _ _⟩
  · obtain ⟨b, off, rfl, hb, hat⟩ := h4 hn
    exact first_some g B b off cap l so I c w (by omega) hb hB hat hc hf hI hg hso

theorem enters_Has_1 (args : Array Value) (wx : World) : (callFunc 84 args).run Try.prog wx = .ok (.enter 84 args) wx := enters_body Try.func84 (by kernel_rfl) rfl args wx
set_option maxHeartbeats 400000 in
theorem asks_has (B : Nat) (n : Int) (l : List Sp) : Asks 84 B (soHas n) (fun c => c = n) l := by
  rintro c s wx hs rfl hc hf hB
  have hc2 : ∀ o, (wx.alloc o).cell? ⟨B, 0, none⟩ = some (.int .i64 c) := fun o => new_cell hc hB
  have HP : ∀ o, (wx.alloc o).cell? ⟨B, 0, none⟩ = some (.int .i64 c) ∧ (wx.alloc o).frozen? ⟨B, 0, none⟩ = false ∧ Below B wx (wx.alloc o) := fun o => ⟨new_cell hc hB, new_frozen hf hB, (Below.refl _ _).alloc (by omega) _⟩
  by_cases h1 : s.1 ≤ c
  · have HE : Hid (soHas c c s = (decide (c ≤ s.2), c)) := by show _ = _; simp [soHas, h1]
    go_enter Try.func84, Try.ntmps84
    go_wp2
    go_ret
    rw [HE.out]
    exact ⟨rfl, rfl, HP _⟩
  · have HE : Hid (soHas c c s = (false, c)) := by show _ = _; simp [soHas, h1]
    go_enter Try.func84, Try.ntmps84
    go_wp2
    go_ret
    rw [HE.out]
    exact ⟨rfl, rfl, HP _⟩

end Go.Proofs.Ytnddejdndipddad

namespace Go.Proofs.Ytnddejdndipddad
open Go.RowKit

/-- Is a number in spans? -/
def inM (l : List Sp) (n : Int) : Bool := l.any fun s => decide (s.1 ≤ n ∧ n ≤ s.2)

theorem scan_has (n : Int) (l : List Sp) (c : Int) : (scan (soHas n) c l).1 < l.length ↔ inM l n = true := by
  induction l generalizing c with
  | nil => simp [scan, inM]
  | cons s r ih =>
    by_cases h : s.1 ≤ n ∧ n ≤ s.2
    · have e : (soHas n c s).1 = true := by simp [soHas, h]
      simp [scan, e, inM, h]
    · have := ih c
      simp only [inM] at this
      simp [scan, inM, h, soHas] at this ⊢
      exact this
theorem scan_le (so : Int → Sp → Bool × Int) (l : List Sp) (c : Int) : (scan so c l).1 ≤ l.length := by
  induction l generalizing c with
  | nil => simp [scan]
  | cons s r ih =>
    simp only [scan]
    split
    · simp
    · have := ih (so c s).2; simp; omega

set_option maxHeartbeats 400000 in
theorem has_any (v : Value) (l : List Sp) (n : Int) (w : World) (hv : Sl w.heap.size w v l) :
    Calls Try.prog 72 #[v, .int .i64 n] w fun e w' => e = .returned (.bool (inM l n)) ∧ Below w.heap.size w w' := by
  have hmf : ∀ (fn : Fn) (first cap : Array Value) (w : World), (Instr.makeFunc fn first cap).run Try.prog w = .ok (.func fn first cap) w := fun _ _ _ _ => rfl
  have hv' := hv
  obtain ⟨a, cap, rfl, h1, h2, h0, h3, h4⟩ := hv
  clear h4 h0
  go_enter Try.func72, Try.ntmps72
  go_wp2_with fail
  refine (first_any 84 w.heap.size _ l (soHas n) (fun c => c = n) n _ (hv'.below (box_below w _) (Nat.le_refl _)) (by simp) (box_cell _ _ _) (box_frozen _ _ _) rfl enters_Has_1 (asks_has _ _ _)).mono ?_
  rintro e w1 ⟨rfl, -, -, -, hb⟩
  have hle := scan_le (soHas n) l n
  go_wp2
  go_ret
  exact ⟨ret_bool (Bool.eq_iff_iff.2 (by rw [← scan_has n l n]; simp)), (box_below w _).trans hb⟩
end Go.Proofs.Ytnddejdndipddad

namespace Go.Proofs.Ytnddejdndipddad

/-- Spans that rise, above b, with at least one number between each two. -/
def Ris : Int → List Sp → Prop
  | _, [] => True
  | b, s :: r => b < s.1 ∧ s.1 ≤ s.2 ∧ Ris (s.2 + 1) r

theorem Ris.mono {b b' : Int} {l : List Sp} (h : Ris b l) (hb : b' ≤ b) : Ris b' l := by
  cases l with
  | nil => trivial
  | cons s r => exact ⟨by have := h.1; omega, h.2.1, h.2.2⟩

theorem inM_cons (s : Sp) (l : List Sp) (x : Int) : inM (s :: l) x = true ↔ (s.1 ≤ x ∧ x ≤ s.2) ∨ inM l x = true := by simp [inM]

/-- All numbers up to a bound. -/
def Upto (c : Int) (l : List Sp) : Prop := ∀ s ∈ l, s.2 ≤ c

theorem Ris.length {b c : Int} {l : List Sp} (h : Ris b l) (hc : Upto c l) (hbc : b ≤ c) : (2 * l.length : Int) ≤ c - b + 1 := by
  induction l generalizing b with
  | nil => simp; omega
  | cons s r ih =>
    have h1 := h.1
    have h2 := h.2.1
    have h3 := hc s (by simp)
    have := ih (b := s.2 + 1) h.2.2 (fun s hs => hc s (by simp [hs]))
    simp only [List.length_cons]
    cases r with
    | nil => simp; omega
    | cons t q =>
      have g1 := h.2.2.1
      have g2 := h.2.2.2.1
      have g3 := hc t (by simp)
      have := this (by omega)
      omega

end Go.Proofs.Ytnddejdndipddad

namespace Go.Proofs.Ytnddejdndipddad
open Go.RowKit

theorem run_neq_sp (s t : Sp) (wx : World) : (binOp .neq 75 (.agg #[.int .i64 s.1, .int .i64 s.2]) (.agg #[.int .i64 t.1, .int .i64 t.2])).run Try.prog wx = .ok (.bool (decide (s ≠ t))) wx := by
  by_cases h1 : s.1 = t.1
  · by_cases h2 : s.2 = t.2
    · have e : s = t := Prod.ext h1 h2
      subst e
      go_simp
    · have e : s ≠ t := fun e => h2 (by rw [e])
      have e2 : decide (s ≠ t) = true := by simpa using e
      rw [e2]
      go_simp
  · have e : s ≠ t := fun e => h1 (by rw [e])
    have e2 : decide (s ≠ t) = true := by simpa using e
    rw [e2]
    go_simp

set_option maxHeartbeats 400000 in
theorem same_any (v v' : Value) (l m : List Sp) (w : World) (hv : Sl w.heap.size w v l) (hv' : Sl w.heap.size w v' m) :
    Calls Try.prog 44 #[v, v'] w fun e w' => e = .returned (.bool (decide (l = m))) ∧ Below w.heap.size w w' := by
  obtain ⟨a, cap, rfl⟩ := hv.ex
  obtain ⟨a', cap', rfl⟩ := hv'.ex
  have q1 := hv.len
  have q2 := hv'.len
  have q3 : l.length ≤ 9223372036854775807 := by omega
  have q4 : m.length ≤ 9223372036854775807 := by omega
  clear q1 q2
  by_cases hne : l.length = m.length
  · have he : ((l.length : Int) != (m.length : Int)) = false := by simp [hne]
    have HN : Hid (l.length = m.length) := hne
    clear hne
    go_enter Try.func44, Try.ntmps44
    go_wp2
    go_loopw [13] (fun i wr => ∃ (k : Nat), k ≤ l.length ∧ i = .int .i64 k ∧ Below w.heap.size w wr ∧ Hid (l.take k = m.take k))
      (fun i _ => l.length - (intOf i).toNat)
    case atStart => exact ⟨0, Nat.zero_le _, rfl, Below.refl _ _, rfl⟩
    case round =>
      obtain ⟨k, hk, rfl, hbel, HS⟩ := hrel
      by_cases hlt : k < l.length
      · have hlt' : k < m.length := by have := HN.out; omega
        obtain ⟨b, off, hb, hix, hx0, hx1⟩ := (hv.below hbel (Nat.le_refl _)).at k hlt
        obtain ⟨b', off', hb', hix', hy0, hy1⟩ := (hv'.below hbel (Nat.le_refl _)).at k hlt'
        have hq := run_neq_sp l[k] m[k]
        by_cases hs : l[k] = m[k]
        · have hd : decide (l[k] ≠ m[k]) = false := by simpa using hs
          rw [hd] at hq
          have HE : Hid (l.take (k + 1) = m.take (k + 1)) := by
            show _ = _
            rw [List.take_succ_eq_append_getElem hlt, List.take_succ_eq_append_getElem hlt', HS.out, hs]
          clear hs hd
          go_wp2
          go_quiet (fail)
          go_wp2
          go_roundw
          case rel => exact ⟨k + 1, by omega, by go_num, below_drewN hbel _, HE⟩
          case measure => simp [intOf]; omega
        · have hd : decide (l[k] ≠ m[k]) = true := by simpa using hs
          rw [hd] at hq
          have HE : Hid (l ≠ m) := fun e => hs (by subst e; rfl)
          clear hs hd
          go_wp2
          go_quiet (fail)
          go_wp2
          go_ret
          exact ⟨ret_bool (by simpa using HE.out), below_drewN hbel _⟩
      · have HE : Hid (l = m) := by
          have e := HS.out
          rw [List.take_of_length_le (by omega), List.take_of_length_le (by have := HN.out; omega)] at e
          exact e
        go_wp2
        go_ret
        exact ⟨ret_bool (by simpa using HE.out), hbel⟩
  · have he : ((l.length : Int) != (m.length : Int)) = true := by simp; omega
    go_enter Try.func44, Try.ntmps44
    go_wp2
    go_ret
    exact ⟨ret_bool (by simp; intro h; exact hne (by rw [h])), Below.refl _ _⟩

end Go.Proofs.Ytnddejdndipddad

namespace Go.Proofs.Ytnddejdndipddad
open Go.ChangeShapes Go.WideShapes Go.ChangeAt Go.RowKit

/-- A slice of ints, below block B. -/
def Il (B : Nat) (w : World) (v : Value) (zs : List Int) : Prop :=
  ∃ a cap, v = .slice a zs.length cap ∧ zs.length * 8 ≤ 140737488351232 ∧ (∀ z ∈ zs, I64 z) ∧ (zs ≠ [] → ∃ b off, a = some ⟨b, off, none⟩ ∧ b < B ∧ ∀ k z, zs[k]? = some z → w.cell? ⟨b, off + k, none⟩ = some (.int .i64 z))

theorem Il.below {B : Nat} {w w' : World} {v : Value} {zs : List Int} (h : Il B w v zs) (hbel : Below B w w') : Il B w' v zs := by
  obtain ⟨a, cap, rfl, h1, h2, h3⟩ := h
  refine ⟨a, cap, rfl, h1, h2, fun hn => ?_⟩
  obtain ⟨b, off, rfl, hb, hat⟩ := h3 hn
  exact ⟨b, off, rfl, hb, fun k z hz => (hbel.cell (p := ⟨b, off + k, none⟩) hb).trans (hat k z hz)⟩

theorem Il.at {B : Nat} {w : World} {a : Option Addr} {n cap : Nat} {zs : List Int} (h : Il B w (.slice a n cap) zs) (k : Nat) (hk : k < zs.length) :
    ∃ b off, b < B ∧ (∀ wx, (Instr.indexAt 31 (.slice a n cap) (.int .i64 (k : Int))).run Try.prog wx = .ok (.pointer (some ⟨b, off, none⟩)) wx) ∧ w.cell? ⟨b, off, none⟩ = some (.int .i64 zs[k]) := by
  obtain ⟨a', cap', he, g1, g3, g4⟩ := h
  simp only [Value.slice.injEq] at he
  obtain ⟨rfl, rfl, rfl⟩ := he
  obtain ⟨b, off, rfl, hb, hat⟩ := g4 (by rintro rfl; simp at hk)
  refine ⟨b, off + k, hb, fun wx => ?_, hat k zs[k] (by simp)⟩
  have : (k : Int) < zs.length := by omega
  go_simp

/-- Spans that have just the numbers of a list, above lo and up to hi. -/
def St (lo hi : Int) (zs : List Int) (l : List Sp) : Prop := Ris lo l ∧ Upto hi l ∧ ∀ x, inM l x = true ↔ x ∈ zs

theorem St.nil (lo hi : Int) : St lo hi [] [] := ⟨trivial, fun s hs => by simp at hs, fun x => by simp [inM]⟩
end Go.Proofs.Ytnddejdndipddad

namespace Go.Proofs.Ytnddejdndipddad
open Go.RowKit

theorem near_plus (n t : Int) (k : Nat) (hk : k ≤ 32768) (h : (n + k) % 65536 = t % 65536) : nearM n t = n + k := by
  simp only [nearM]
  rw [show (t - n) % 65536 = k by omega, if_neg (by omega)]
theorem near_minus (n t : Int) (k : Nat) (hk : k ≤ 32768) (hno : ∀ j : Nat, j < k → (n + j) % 65536 ≠ t % 65536 ∧ (n - j) % 65536 ≠ t % 65536) (h : (n + k) % 65536 ≠ t % 65536) (h2 : k = 32768 ∨ (n - k) % 65536 = t % 65536) : nearM n t = n - k := by
  rcases h2 with h2 | h2
  · exfalso
    subst h2
    have g1 := hno ((t - n) % 65536).toNat
    have g2 := hno ((n - t) % 65536).toNat
    omega
  · simp only [nearM]
    rw [show (t - n) % 65536 = 65536 - k by omega, if_pos (by omega)]
    omega

/-- Half a round, behind a name. -/
def halfN : Nat := 32768
/-- The rest, behind a name. -/
def tg (n : Int) : Int := n % 65536
theorem rtag_tg (n : Int) (w : World) : Calls Try.prog 38 #[.int .i64 n] w fun e w' => e = .returned (.int .i64 (tg n)) ∧ w' = w := rtag_any n w

set_option maxHeartbeats 400000 in
theorem rnear_any (n t : Int) (w : World) (h1 : -1099511627776 ≤ n) (h2 : n ≤ 1099511627776) : Calls Try.prog 61 #[.int .i64 n, .int .i64 t] w fun e w' => e = .returned (.int .i64 (nearM n t)) ∧ w' = w := by
  go_enter Try.func61, Try.ntmps61
  go_wp2
  go_loop [5] (fun d => ∃ k : Nat, (k : Int) ≤ 32768 ∧ d = .int .i64 k ∧ Hid (∀ j : Nat, j < k → (n + j) % 65536 ≠ t % 65536 ∧ (n - j) % 65536 ≠ t % 65536)) (fun d => halfN - (intOf d).toNat)
  case atStart => exact ⟨0, by omega, rfl, fun j hj => by omega⟩
  case round =>
    obtain ⟨k, hk, rfl, HN⟩ := hrel
    by_cases hb : (n + k) % 65536 = t % 65536
    · have eb : (tg (n + (k : Int)) != tg t) = false := by simpa [tg] using hb
      have eb2 : (tg (n + (k : Int)) == tg t) = true := by simpa [tg] using hb
      have HE : Hid (nearM n t = n + k) := near_plus n t k (by omega) hb
      clear hb
      by_cases hlt : (k : Int) < 32768
      · go_wp2_with (go_at_call 38; refine (rtag_tg _ _).mono ?_; rintro e w' ⟨rfl, rfl⟩)
        go_ret
        exact ⟨ret_int HE.out.symm, rfl⟩
      · go_wp2_with (go_at_call 38; refine (rtag_tg _ _).mono ?_; rintro e w' ⟨rfl, rfl⟩)
        go_ret
        exact ⟨ret_int HE.out.symm, rfl⟩
    · have eb : (tg (n + (k : Int)) != tg t) = true := by simpa [tg] using hb
      have eb2 : (tg (n + (k : Int)) == tg t) = false := by simpa [tg] using hb
      by_cases hc : (n - k) % 65536 = t % 65536
      · have ec : (tg (n - (k : Int)) != tg t) = false := by simpa [tg] using hc
        have HE : Hid (nearM n t = n - k) := near_minus n t k (by omega) HN.out hb (Or.inr hc)
        clear hb hc
        by_cases hlt : (k : Int) < 32768
        · go_wp2_with (go_at_call 38; refine (rtag_tg _ _).mono ?_; rintro e w' ⟨rfl, rfl⟩)
          go_ret
          exact ⟨ret_int HE.out.symm, rfl⟩
        · go_wp2_with (go_at_call 38; refine (rtag_tg _ _).mono ?_; rintro e w' ⟨rfl, rfl⟩)
          go_ret
          exact ⟨ret_int HE.out.symm, rfl⟩
      · have ec : (tg (n - (k : Int)) != tg t) = true := by simpa [tg] using hc
        by_cases hlt : (k : Int) < 32768
        · have HN2 : Hid (∀ j : Nat, j < k + 1 → (n + j) % 65536 ≠ t % 65536 ∧ (n - j) % 65536 ≠ t % 65536) := fun j hj => by
            by_cases e : j = k
            · subst e; exact ⟨hb, hc⟩
            · exact HN.out j (by omega)
          clear hb hc
          go_wp2_with (go_at_call 38; refine (rtag_tg _ _).mono ?_; rintro e w' ⟨rfl, rfl⟩)
          go_round
          case rel => exact ⟨k + 1, by omega, by go_num, HN2⟩
          case measure => simp [intOf, halfN]; omega
        · have HE : Hid (nearM n t = n - k) := near_minus n t k (by omega) HN.out hb (Or.inl (by omega))
          clear hb hc
          go_wp2_with (go_at_call 38; refine (rtag_tg _ _).mono ?_; rintro e w' ⟨rfl, rfl⟩)
          go_ret
          exact ⟨ret_int HE.out.symm, rfl⟩

set_option maxHeartbeats 400000 in
theorem rin_any (v : Value) (l : List Sp) (n : Int) (w : World) (hv : Sl w.heap.size w v l) :
    Calls Try.prog 62 #[v, .int .i64 n] w fun e w' => e = .returned (.bool (inM l n)) ∧ Below w.heap.size w w' := by
  obtain ⟨a, cap, rfl⟩ := hv.ex
  have q1 := hv.len
  have q3 : l.length ≤ 9223372036854775807 := by omega
  clear q1
  go_enter Try.func62, Try.ntmps62
  go_wp2
  go_loopw [9] (fun i wr => ∃ (k : Nat), k ≤ l.length ∧ i = .int .i64 k ∧ Below w.heap.size w wr ∧ Hid (inM l n = inM (l.drop k) n))
      (fun i _ => l.length - (intOf i).toNat)
  case atStart => exact ⟨0, Nat.zero_le _, rfl, Below.refl _ _, rfl⟩
  case round =>
    obtain ⟨k, hk, rfl, hbel, HI⟩ := hrel
    by_cases hlt : k < l.length
    · obtain ⟨b, off, hb, hix, hx0, hx1⟩ := (hv.below hbel (Nat.le_refl _)).at k hlt
      have hcons := List.drop_eq_getElem_cons hlt
      by_cases hs : l[k].1 ≤ n ∧ n ≤ l[k].2
      · have HE : Hid (inM l n = true) := by
          show _ = _
          rw [HI.out, hcons]
          exact (inM_cons _ _ _).2 (Or.inl hs)
        have g1 := hs.1
        have g2 := hs.2
        clear hcons hs
        go_wp2
        go_ret
        exact ⟨ret_bool HE.out.symm, hbel.alloc hbel.size _⟩
      · have HE : Hid (inM l n = inM (l.drop (k + 1)) n) := by
          show _ = _
          rw [HI.out, hcons, Bool.eq_iff_iff, inM_cons]
          exact ⟨fun g => g.resolve_left hs, Or.inr⟩
        clear hcons
        by_cases g1 : l[k].1 ≤ n
        · have g2 : ¬ n ≤ l[k].2 := fun g => hs ⟨g1, g⟩
          clear hs
          go_wp2
          go_roundw
          case rel => exact ⟨k + 1, by omega, by go_num, hbel.alloc hbel.size _, HE⟩
          case measure => simp [intOf]; omega
        · clear hs
          go_wp2
          go_roundw
          case rel => exact ⟨k + 1, by omega, by go_num, hbel.alloc hbel.size _, HE⟩
          case measure => simp [intOf]; omega
    · have HE : Hid (inM l n = false) := by
        show _ = _
        rw [HI.out, List.drop_of_length_le (by omega)]
        rfl
      go_wp2
      go_ret
      exact ⟨ret_bool HE.out.symm, hbel⟩
end Go.Proofs.Ytnddejdndipddad

namespace Go.Proofs.Ytnddejdndipddad
open Go.RowKit

theorem run_neq_sk (s : Sk) (wx : World) : (binOp .neq 98 (.agg #[.int .i64 s.stream, .int .i64 s.mid, .bool s.ordered]) (.agg #[.int .i64 s.stream, .int .i64 s.mid, .bool s.ordered])).run Try.prog wx = .ok (.bool false) wx := by
  go_simp

set_option maxHeartbeats 1000000 in
theorem sameChunk_same (v v' : Value) (c : Ck) (w : World) (hv : CkV w.heap.size w v c) (hv' : CkV w.heap.size w v' c) :
    Calls Try.prog 32 #[v, v'] w fun e w' => e = .returned (.bool true) ∧ Below w.heap.size w w' := by
  obtain ⟨d, s, k, rfl, hd, hs, hk⟩ := hv
  obtain ⟨d', s', k', rfl, hd', hs', hk'⟩ := hv'
  have HB2 := fun o o' => two_below w o o'
  have S1 := fun o o' => (hd.below (HB2 o o') (Nat.le_refl _)).str
  have S2 := fun o o' => (hd'.below (HB2 o o') (Nat.le_refl _)).str
  have hs2 := fun o o' => (hs.below (HB2 o o') (Nat.le_refl _)).mono (HB2 o o').size
  have hs2' := fun o o' => (hs'.below (HB2 o o') (Nat.le_refl _)).mono (HB2 o o').size
  obtain ⟨ad, cd, rfl, -, -⟩ := hd.ex
  obtain ⟨asp, cs, rfl⟩ := hs.ex
  obtain ⟨ak, ck, rfl, k1, k2⟩ := hk.ex
  obtain ⟨ad', cd', rfl, -, -⟩ := hd'.ex
  obtain ⟨asp', cs', rfl⟩ := hs'.ex
  obtain ⟨ak', ck', rfl, k1', k2'⟩ := hk'.ex
  simp only [ckVal]
  have SM := fun o o' => same_any _ _ c.spans c.spans _ (hs2 o o') (hs2' o o')
  simp only [decide_true] at SM
  clear hd hd' hs hs' hs2 hs2'
  go_enter Try.func32, Try.ntmps32
  go_wp2_with fail
  refine (SM _ _).mono ?_
  rintro e w1 ⟨rfl, b1⟩
  have CA := ((Cells.new w #[.int .i64 c.kind, .int .i64 c.tag, .int .i64 c.stream, .int .i64 c.mid, .int .i64 c.part, .bool c.last, .bool c.ordered, .slice ad c.data.length cd, .slice asp c.spans.length cs, .int .i64 c.room, .slice ak c.skips.length ck] 42).alloc (by simp) (.cells #[.int .i64 c.kind, .int .i64 c.tag, .int .i64 c.stream, .int .i64 c.mid, .int .i64 c.part, .bool c.last, .bool c.ordered, .slice ad' c.data.length cd', .slice asp' c.spans.length cs', .int .i64 c.room, .slice ak' c.skips.length ck'] 42)).below b1 (by simp; omega)
  have CB := (Cells.new' (w := w.alloc (.cells #[.int .i64 c.kind, .int .i64 c.tag, .int .i64 c.stream, .int .i64 c.mid, .int .i64 c.part, .bool c.last, .bool c.ordered, .slice ad c.data.length cd, .slice asp c.spans.length cs, .int .i64 c.room, .slice ak c.skips.length ck] 42)) (X := w.heap.size + 1) #[.int .i64 c.kind, .int .i64 c.tag, .int .i64 c.stream, .int .i64 c.mid, .int .i64 c.part, .bool c.last, .bool c.ordered, .slice ad' c.data.length cd', .slice asp' c.spans.length cs', .int .i64 c.room, .slice ak' c.skips.length ck'] 42 (by simp)).below b1 (by simp)
  have p1 := CA.cell 10 _ rfl
  have p2 := CB.cell 10 _ rfl
  have B1 := (HB2 _ _).trans (b1.mono (HB2 _ _).size)
  clear CA CB SM S1 S2
  go_wp2
  go_loopw [89] (fun i wr => ∃ (j : Nat), j ≤ c.skips.length ∧ i = .int .i64 j ∧ Below w1.heap.size w1 wr) (fun i _ => c.skips.length - (intOf i).toNat)
  case atStart => exact ⟨0, Nat.zero_le _, rfl, Below.refl _ _⟩
  case round =>
    obtain ⟨j, hj, rfl, hbel⟩ := hrel
    by_cases hlt : j < c.skips.length
    · have BL : Below w.heap.size w wr := B1.trans (hbel.mono B1.size)
      obtain ⟨b, off, hb, hix, hx0, hx1, hx2⟩ := (hk.below BL (Nat.le_refl _)).at j hlt
      obtain ⟨b', off', hb', hix', hy0, hy1, hy2⟩ := (hk'.below BL (Nat.le_refl _)).at j hlt
      have q1 := (hbel.cell (p := ⟨w.heap.size, 10, none⟩) (World.block_lt_of_cell? _ _ p1)).trans p1
      have q2 := (hbel.cell (p := ⟨w.heap.size + 1, 10, none⟩) (World.block_lt_of_cell? _ _ p2)).trans p2
      have hq := run_neq_sk c.skips[j]
      clear p1 p2
      go_wp2
      go_quiet (fail)
      go_wp2
      go_roundw
      case rel => exact ⟨j + 1, by omega, by go_num, below_drewN hbel _⟩
      case measure => simp [intOf]; omega
    · have BL : Below w.heap.size w wr := B1.trans (hbel.mono B1.size)
      go_wp2
      go_ret
      exact ⟨rfl, BL⟩
end Go.Proofs.Ytnddejdndipddad
