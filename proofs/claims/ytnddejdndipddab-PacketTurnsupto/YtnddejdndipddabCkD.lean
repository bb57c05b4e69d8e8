/- The contracts of wrongSack and of Wrong, of package chunk. -/
import Derived.Test.YtnddejdndipddabCkC
set_option maxRecDepth 20000
namespace Go.Proofs.Ytnddejdndipddab
open Go.RowKit

def spBad (a : Int) (s : Sp) : Bool := decide (s.1 < a + 2 ∨ s.2 < s.1 ∨ 65536 ≤ s.2)
theorem spansBad_hit {l : List Sp} {a : Int} {k : Nat} (h : k < l.length) (hs : spBad a l[k] = true) : spansBad a (l.drop k) = true := by
  rw [List.drop_eq_getElem_cons h, spansBad, if_pos (by simpa [spBad] using hs)]
theorem spansBad_miss {l : List Sp} {a : Int} {k : Nat} (h : k < l.length) (hs : spBad a l[k] = false) : spansBad a (l.drop k) = spansBad l[k].2 (l.drop (k + 1)) := by
  rw [List.drop_eq_getElem_cons h, spansBad, if_neg (by simp only [spBad, decide_eq_false_iff_not] at hs; exact hs)]
theorem spBad_small {a : Int} {s : Sp} (h0 : 0 ≤ a) (hs : spBad a s = false) : 0 ≤ s.2 ∧ s.2 < 65536 := by
  simp only [spBad, decide_eq_false_iff_not] at hs
  omega

theorem sack_stored {w : World} {B : Nat} {v : Value} (h : w.cell? ⟨B, 0, none⟩ = some v) (hf : w.frozen? ⟨B, 0, none⟩ = false) (hB : B < w.heap.size) (m : Int) (o : Obj) :
    ((w.setCell ⟨B, 0, none⟩ (.int .i64 m)).alloc o).cell? ⟨B, 0, none⟩ = some (.int .i64 m) ∧ ((w.setCell ⟨B, 0, none⟩ (.int .i64 m)).alloc o).frozen? ⟨B, 0, none⟩ = false ∧ Below B w ((w.setCell ⟨B, 0, none⟩ (.int .i64 m)).alloc o) := up_stored h hf hB m o

set_option maxHeartbeats 800000 in
theorem spBad_any (B : Nat) (a : Int) (s : Sp) (wx : World) (hI : 0 ≤ a ∧ a < 65536) (hc : wx.cell? ⟨B, 0, none⟩ = some (.int .i64 a)) (hf : wx.frozen? ⟨B, 0, none⟩ = false) (hB : B < wx.heap.size) :
    Calls Try.prog 73 #[.agg #[.int .i64 s.1, .int .i64 s.2], .pointer (some ⟨B, 0, none⟩)] wx fun e w' => e = .returned (.bool (spBad a s)) ∧ w'.cell? ⟨B, 0, none⟩ = some (.int .i64 s.2) ∧ w'.frozen? ⟨B, 0, none⟩ = false ∧ Below B wx w' := by
  have hc2 : ∀ o, (wx.alloc o).cell? ⟨B, 0, none⟩ = some (.int .i64 a) := fun o => new_cell hc hB
  have hf2 : ∀ o, (wx.alloc o).frozen? ⟨B, 0, none⟩ = false := fun o => new_frozen hf hB
  have i1 := hI.1
  have i2 := hI.2
  have HP := fun o => sack_stored hc hf hB s.2 o
  by_cases g1 : s.1 < a + 2
  · have HE : Hid (spBad a s = true) := by show _ = _; simp [spBad, g1]
    go_enter Try.func73, Try.ntmps73
    go_wp2_with (go_at_call 64; refine (small_any _ _).mono ?_; rintro e w' ⟨rfl, rfl⟩)
    go_ret
    rw [HE.out]
    exact ⟨rfl, HP _⟩
  · by_cases g2 : s.2 < s.1
    · have HE : Hid (spBad a s = true) := by show _ = _; simp [spBad, g2]
      go_enter Try.func73, Try.ntmps73
      go_wp2_with (go_at_call 64; refine (small_any _ _).mono ?_; rintro e w' ⟨rfl, rfl⟩)
      go_ret
      rw [HE.out]
      exact ⟨rfl, HP _⟩
    · have HE : Hid (spBad a s = !(smallM s.2)) := by show _ = _; rw [spBad, smallM, Bool.eq_iff_iff]; simp; omega
      go_enter Try.func73, Try.ntmps73
      go_wp2_with (go_at_call 64; refine (small_any _ _).mono ?_; rintro e w' ⟨rfl, rfl⟩)
      go_ret
      rw [HE.out]
      exact ⟨rfl, HP _⟩

set_option maxHeartbeats 400000 in
theorem indexS_any (B : Nat) (v : Value) (l : List Sp) (w : World) (hv : Sl B w v l) (hB : B < w.heap.size) (hc : w.cell? ⟨B, 0, none⟩ = some (.int .i64 0)) (hf : w.frozen? ⟨B, 0, none⟩ = false) :
    Calls Try.prog 79 #[v, .func (.func 73) #[] #[.pointer (some ⟨B, 0, none⟩)]] w fun e w' => ∃ z : Int, e = .returned (.int .i64 z) ∧ decide (0 ≤ z) = spansBad 0 l ∧ Below B w w' := by
  have hv' := hv
  obtain ⟨a, cap, rfl⟩ := hv.ex
  have hlen := hv'.len
  have h1 := hlen.2.1
  have h2 := hlen.2.2.1
  clear hv hlen
  go_enter Try.func79, Try.ntmps79
  go_wp2
  go_loopw [8] (fun i wr => ∃ (k : Nat) (ck : Int), k ≤ l.length ∧ i = .int .i64 k ∧ (0 ≤ ck ∧ ck < 65536) ∧ wr.cell? ⟨B, 0, none⟩ = some (.int .i64 ck) ∧ wr.frozen? ⟨B, 0, none⟩ = false ∧ B < wr.heap.size ∧ Below B w wr ∧ Hid (spansBad 0 l = spansBad ck (l.drop k))) (fun i _ => l.length - (intOf i).toNat)
  case atStart => exact ⟨0, 0, Nat.zero_le _, rfl, by omega, hc, hf, hB, Below.refl _ _, by show _ = _; simp⟩
  case round =>
    obtain ⟨k, ck, hk, rfl, hI, hck, hfk, hsz, hbel, HS⟩ := hrel
    by_cases hlt : k < l.length
    · obtain ⟨b, off, hb, hix, hx0, hx1⟩ := (hv'.below hbel (Nat.le_refl _)).at k hlt
      go_wp2_with fail
      refine (spBad_any B ck l[k] _ hI hck hfk hsz).mono ?_
      rintro e w1 ⟨rfl, hc1, hf1, hb1⟩
      have hb2 := hbel.trans hb1
      have hs1 : B < w1.heap.size := by have := hb1.size; omega
      cases hq : spBad ck l[k] with
      | true =>
        have HE : Hid (spansBad 0 l = true) := by show _ = _; rw [HS.out]; exact spansBad_hit hlt hq
        go_wp2
        go_ret
        exact ⟨_, rfl, by rw [HE.out]; simp, hb2⟩
      | false =>
        have HE : Hid (spansBad 0 l = spansBad l[k].2 (l.drop (k + 1))) := by show _ = _; rw [HS.out]; exact spansBad_miss hlt hq
        have hsm := spBad_small hI.1 hq
        clear hck hfk
        go_wp2
        go_roundw
        case rel => exact ⟨k + 1, l[k].2, by omega, by go_num, hsm, hc1, hf1, hs1, hb2, HE⟩
        case measure => simp [intOf]; omega
    · have HE : Hid (spansBad 0 l = false) := by show _ = _; rw [HS.out, List.drop_eq_nil_of_le (by omega)]; rfl
      go_wp2
      go_ret
      exact ⟨_, rfl, by rw [HE.out]; decide, hbel⟩

set_option maxHeartbeats 400000 in
theorem containsS_any (B : Nat) (v : Value) (l : List Sp) (w : World) (hv : Sl B w v l) (hB : B < w.heap.size) (hc : w.cell? ⟨B, 0, none⟩ = some (.int .i64 0)) (hf : w.frozen? ⟨B, 0, none⟩ = false) :
    Calls Try.prog 74 #[v, .func (.func 73) #[] #[.pointer (some ⟨B, 0, none⟩)]] w fun e w' => e = .returned (.bool (spansBad 0 l)) ∧ Below B w w' := by
  go_enter Try.func74, Try.ntmps74
  go_wp2_with fail
  refine (indexS_any B v l _ hv hB hc hf).mono ?_
  rintro e w1 ⟨z, rfl, hz, hb⟩
  have HZ : Hid (decide (0 ≤ z) = spansBad 0 l) := hz
  clear hz
  go_wp2
  go_ret
  exact ⟨ret_bool (by rw [← HZ.out]), hb⟩

theorem two_below (w : World) (o o' : Obj) : Below w.heap.size w ((w.alloc o).alloc o') := (box_below w o).alloc (by simp) _

set_option maxHeartbeats 400000 in
theorem wrongSack_any (v : Value) (c : Ck) (w : World) (hv : CkV w.heap.size w v c) : Calls Try.prog 66 #[v] w fun e w' => e = .returned (.int .i64 (wrongS c)) ∧ Below w.heap.size w w' := by
  have hmf : ∀ (fn : Fn) (first cap : Array Value) (w : World), (Instr.makeFunc fn first cap).run Try.prog w = .ok (.func fn first cap) w := fun _ _ _ _ => rfl
  obtain ⟨d, s, k, rfl, h1, h2, h3⟩ := hv
  have h2' := h2
  obtain ⟨asp, cs, rfl⟩ := h2.ex
  have hl := h2'.len
  have l1 := hl.2.1
  have l2 := hl.2.2.1
  have HB := fun o => box_below w o
  have HB2 := fun o o' => two_below w o o'
  clear h1 h2 h3 hl
  simp only [ckVal]
  cases g : smallM c.room with
  | false =>
    have HE : Hid (wrongS c = 3) := by show _ = _; rw [wrongS, if_pos g]
    go_enter Try.func66, Try.ntmps66
    go_wp2_with (go_at_call 64; refine (small_any _ _).mono ?_; rintro e w' ⟨rfl, rfl⟩; rw [g])
    go_ret
    rw [HE.out]
    exact ⟨rfl, HB _⟩
  | true =>
    by_cases g2 : 6 < c.spans.length
    · have HE : Hid (wrongS c = 5) := by show _ = _; rw [wrongS, if_neg (by rw [g]; decide), if_pos g2]
      go_enter Try.func66, Try.ntmps66
      go_wp2_with (go_at_call 64; refine (small_any _ _).mono ?_; rintro e w' ⟨rfl, rfl⟩; rw [g])
      go_ret
      rw [HE.out]
      exact ⟨rfl, HB _⟩
    · have HE : Hid (wrongS c = if spansBad 0 c.spans = true then 3 else 0) := by show _ = _; rw [wrongS, if_neg (by rw [g]; decide), if_neg g2]
      go_enter Try.func66, Try.ntmps66
      go_wp2_with (first | (go_at_call 64; refine (small_any _ _).mono ?_; rintro e w' ⟨rfl, rfl⟩; rw [g]) | fail)
      refine (containsS_any (w.heap.size + 1) _ c.spans _ ((h2'.below (HB2 _ _) (Nat.le_refl _)).mono (by omega)) (by simp) ?_ ?_).mono ?_
      · simp
      · simp
      rintro e w1 ⟨rfl, hb⟩
      have hb1 := (HB2 _ _).trans (hb.mono (by omega))
      cases hq : spansBad 0 c.spans with
      | true =>
        go_wp2
        go_ret
        rw [HE.out, hq]
        exact ⟨rfl, hb1⟩
      | false =>
        go_wp2
        go_ret
        rw [HE.out, hq]
        exact ⟨rfl, hb1⟩
end Go.Proofs.Ytnddejdndipddab
