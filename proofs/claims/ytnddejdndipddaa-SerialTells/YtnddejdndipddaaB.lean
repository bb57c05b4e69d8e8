/- The contract of first, of package serial: whatever function value is handed to it, it is asked in turn. -/
import Derived.Test.YtnddejdndipddaaA
set_option maxRecDepth 20000
namespace Go.Proofs.Ytnddejdndipddaa
open Go.RowKit

/-- A span: its two numbers. -/
abbrev Sp := Int × Int

/-- What 'first' comes to, with a function that has a number of its own: how many were asked in vain, and the number then. -/
def scan (so : Int → Sp → Bool × Int) : Int → List Sp → Nat × Int
  | c, [] => (0, c)
  | c, s :: r => if (so c s).1 = true then (0, (so c s).2) else ((scan so (so c s).2 r).1 + 1, (scan so (so c s).2 r).2)

theorem scan_hit (so : Int → Sp → Bool × Int) (c : Int) (l : List Sp) (k : Nat) (h : k < l.length) (hs : (so c l[k]).1 = true) : scan so c (l.drop k) = (0, (so c l[k]).2) := by
  rw [List.drop_eq_getElem_cons h, scan, if_pos hs]
theorem scan_miss (so : Int → Sp → Bool × Int) (c : Int) (l : List Sp) (k : Nat) (h : k < l.length) (hs : (so c l[k]).1 = false) :
    scan so c (l.drop k) = ((scan so (so c l[k]).2 (l.drop (k + 1))).1 + 1, (scan so (so c l[k]).2 (l.drop (k + 1))).2) := by
  rw [List.drop_eq_getElem_cons h, scan, if_neg (by rw [hs]; decide)]

/-- The cells of spans, from an address on. -/
def SpAt (w : World) (b off : Nat) (l : List Sp) : Prop :=
  ∀ k s, l[k]? = some s → w.cell? ⟨b, off + k * 2, none⟩ = some (.int .i64 s.1) ∧ w.cell? ⟨b, off + k * 2 + 1, none⟩ = some (.int .i64 s.2)

/-- Function g, bound to the variable in block B: asked of a span, it answers by 'so', and its variable is as 'so' says then. -/
def Asks (g B : Nat) (so : Int → Sp → Bool × Int) (I : Int → Prop) (l : List Sp) : Prop :=
  ∀ c s wx, s ∈ l → I c → wx.cell? ⟨B, 0, none⟩ = some (.int .i64 c) → wx.frozen? ⟨B, 0, none⟩ = false → B < wx.heap.size →
    Calls Try.prog g #[.agg #[.int .i64 s.1, .int .i64 s.2], .pointer (some ⟨B, 0, none⟩)] wx fun e w' => e = .returned (.bool (so c s).1) ∧ I (so c s).2 ∧ w'.cell? ⟨B, 0, none⟩ = some (.int .i64 (so c s).2) ∧ w'.frozen? ⟨B, 0, none⟩ = false ∧ Below B wx w'

set_option maxHeartbeats 400000 in
theorem first_some (g B b off cap : Nat) (l : List Sp) (so : Int → Sp → Bool × Int) (I : Int → Prop) (c : Int) (w : World) (hlen : l.length ≤ 9223372036854775807)
    (hbB : b < B) (hB : B < w.heap.size) (hat : SpAt w b off l) (hc : w.cell? ⟨B, 0, none⟩ = some (.int .i64 c)) (hf : w.frozen? ⟨B, 0, none⟩ = false) (hI : I c)
    (hg : ∀ args wx, (callFunc g args).run Try.prog wx = .ok (.enter g args) wx) (hso : Asks g B so I l) :
    Calls Try.prog 31 #[.slice (some ⟨b, off, none⟩) l.length cap, .func (.func g) #[] #[.pointer (some ⟨B, 0, none⟩)]] w fun e w' =>
      e = .returned (.int .i64 (scan so c l).1) ∧ I (scan so c l).2 ∧ w'.cell? ⟨B, 0, none⟩ = some (.int .i64 (scan so c l).2) ∧ w'.frozen? ⟨B, 0, none⟩ = false ∧ Below B w w' := by
  go_enter Try.func31, Try.ntmps31
  go_wp2
  go_loopw [9] (fun i wr => ∃ (k : Nat) (ck : Int), k ≤ l.length ∧ i = .int .i64 k ∧ I ck ∧ wr.cell? ⟨B, 0, none⟩ = some (.int .i64 ck) ∧ wr.frozen? ⟨B, 0, none⟩ = false ∧ Below B w wr ∧ Hid (scan so c l = ((scan so ck (l.drop k)).1 + k, (scan so ck (l.drop k)).2)))
    (fun i _ => l.length - (intOf i).toNat)
  case atStart => exact ⟨0, c, Nat.zero_le _, rfl, hI, hc, hf, Below.refl _ _, by show _ = _; simp⟩
  case round =>
    obtain ⟨k, ck, hk, rfl, hIk, hck, hfk, hbel, HS⟩ := hrel
    by_cases hlt : k < l.length
    · have hx := hat k l[k] (by simp [hlt])
      have hx1 := (hbel.cell (p := ⟨b, off + k * 2, none⟩) hbB).trans hx.1
      have hx2 := (hbel.cell (p := ⟨b, off + k * 2 + 1, none⟩) hbB).trans hx.2
      clear hx
      go_wp2_with fail
      refine (hso ck l[k] _ (List.getElem_mem hlt) hIk ?_ ?_ ?_).mono ?_
      · rw [World.cell?_alloc_past _ _ _ (by have := hbel.size; simp; omega)]; exact hck
      · rw [World.frozen?_alloc_past _ _ _ (by have := hbel.size; simp; omega)]; exact hfk
      · have := hbel.size; simp; omega
      rintro e w1 ⟨rfl, hI1, hc1, hf1, hb1⟩
      have hb2 : Below B w w1 := (hbel.alloc (by have := hbel.size; omega) _).trans hb1
      clear hb1
      cases hq : (so ck l[k]).1 with
      | true =>
        have e1 := HS.out
        rw [scan_hit so ck l k hlt hq] at e1
        have HE : Hid (scan so c l = (k, (so ck l[k]).2)) := by show _ = _; rw [e1]; simp
        clear e1
        go_wp2
        go_ret
        rw [HE.out]
        exact ⟨rfl, hI1, hc1, hf1, hb2⟩
      | false =>
        have e1 := HS.out
        rw [scan_miss so ck l k hlt hq] at e1
        have HE : Hid (scan so c l = ((scan so (so ck l[k]).2 (l.drop (k + 1))).1 + (k + 1), (scan so (so ck l[k]).2 (l.drop (k + 1))).2)) := by show _ = _; rw [e1]; simp; omega
        clear e1
        go_wp2
        go_roundw
        case rel => exact ⟨k + 1, (so ck l[k]).2, by omega, by go_num, hI1, hc1, hf1, hb2, HE⟩
        case measure => simp [intOf]; omega
    · have hkl : k = l.length := by omega
      have e1 := HS.out
      have HE : Hid (scan so c l = (l.length, ck)) := by show _ = _; rw [e1, hkl]; simp [scan]
      clear e1 hkl
      go_wp2
      go_ret
      rw [HE.out]
      exact ⟨rfl, hIk, hck, hfk, hbel⟩

set_option maxHeartbeats 400000 in
theorem first_none (g B cap : Nat) (a : Option Addr) (w : World) :
    Calls Try.prog 31 #[.slice a 0 cap, .func (.func g) #[] #[.pointer (some ⟨B, 0, none⟩)]] w fun e w' => e = .returned (.int .i64 0) ∧ w' = w := by
  go_enter Try.func31, Try.ntmps31
  go_wp2
  refine wp_loop_rounds 1 ?_
  rw [rounds_succ]
  go_wp2
  go_ret
  exact ⟨rfl, rfl⟩
end Go.Proofs.Ytnddejdndipddaa
