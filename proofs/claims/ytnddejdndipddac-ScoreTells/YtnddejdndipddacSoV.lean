/- The document's Flight, SameSkips and Point. -/
import Derived.Test.YtnddejdndipddacSoT
set_option maxRecDepth 20000
namespace Go.Proofs.Ytnddejdndipddac
open Go.RowKit

set_option maxHeartbeats 1000000 in
theorem rflight_any (p : Int) (v : Value) (l : List Sn) (w : World) (hv : SnS w.heap.size w v l) :
    Calls Try.prog 20 #[v, .int .i64 p] w fun e w' => e = .returned (.int .i64 (flightM p l)) ∧ Below w.heap.size w w' := by
  have HV := hv
  obtain ⟨a, cap, rfl, h1, h2⟩ := hv.ex
  go_enter Try.func20, Try.ntmps20
  go_wp2_with fail
  go_loopw [5, 10] (fun z i wr => ∃ k : Nat, k ≤ l.length ∧ i = .int .i64 k ∧ z = .int .i64 (flightM p (l.take k)) ∧ Below w.heap.size w wr) (fun _ i _ => l.length - (intOf i).toNat)
  case atStart => exact ⟨0, Nat.zero_le _, rfl, rfl, Below.refl _ _⟩
  case round =>
    obtain ⟨k, hk, rfl, rfl, BR⟩ := hrel
    by_cases hlt : k < l.length
    · obtain ⟨b, off, da, dc, sa, sc, qa, qc, hb, hix, -, -, -, hat⟩ := SnS.at (SlG.below SnV.bears HV BR (Nat.le_refl _)) k hlt
      have HF : Hid (flightM p (l.take (k + 1)) = flyS p (flightM p (l.take k)) l[k]) := flight_take p l k hlt
      generalize l[k] = x at *
      generalize flightM p (l.take k) = z at *
      have BX := BR.trans ((box_below wr (.cells #[.int .i64 x.number, .int .i64 x.id, .int .i64 x.state, .int .i64 x.path, .int .i64 x.missed, .int .i64 x.times, .int .i64 x.came, .int .i64 x.life, .int .i64 x.tries, .int .i64 x.ck.kind, .int .i64 x.ck.tag, .int .i64 x.ck.stream, .int .i64 x.ck.mid, .int .i64 x.ck.part, .bool x.ck.last, .bool x.ck.ordered, .slice da x.ck.data.length dc, .slice sa x.ck.spans.length sc, .int .i64 x.ck.room, .slice qa x.ck.skips.length qc] 53)).mono BR.size)
      cases h1 : (x.path == p) with
      | false =>
        have HF2 : Hid (flightM p (l.take (k + 1)) = z) := by show _ = _; rw [HF.out, flyS, if_neg (by simp [onM, h1])]
        go_wp2_with (first
          | refine wpList_ld rfl (.tmp 12) rfl b off rfl x _ _ _ (by with_reducible exact hat) ?_
          | refine wpList_st rfl (.tmp 7) (.tmp 13) rfl wr _ rfl rfl rfl [.int .i64 x.number, .int .i64 x.id, .int .i64 x.state, .int .i64 x.path, .int .i64 x.missed, .int .i64 x.times, .int .i64 x.came, .int .i64 x.life, .int .i64 x.tries, .int .i64 x.ck.kind, .int .i64 x.ck.tag, .int .i64 x.ck.stream, .int .i64 x.ck.mid, .int .i64 x.ck.part, .bool x.ck.last, .bool x.ck.ordered, .slice da x.ck.data.length dc, .slice sa x.ck.spans.length sc, .int .i64 x.ck.room, .slice qa x.ck.skips.length qc] rfl rfl rfl ?_)
        go_roundw
        case rel => exact ⟨k + 1, by omega, by go_num, by rw [HF2.out], BX⟩
        case measure => simp [intOf]; omega
      | true =>
        cases h2 : (x.state == 1) with
        | false =>
          have HF2 : Hid (flightM p (l.take (k + 1)) = z) := by show _ = _; rw [HF.out, flyS, if_neg (by simp [onM, h2])]
          go_wp2_with (first
            | refine wpList_ld rfl (.tmp 12) rfl b off rfl x _ _ _ (by with_reducible exact hat) ?_
            | refine wpList_st rfl (.tmp 7) (.tmp 13) rfl wr _ rfl rfl rfl [.int .i64 x.number, .int .i64 x.id, .int .i64 x.state, .int .i64 x.path, .int .i64 x.missed, .int .i64 x.times, .int .i64 x.came, .int .i64 x.life, .int .i64 x.tries, .int .i64 x.ck.kind, .int .i64 x.ck.tag, .int .i64 x.ck.stream, .int .i64 x.ck.mid, .int .i64 x.ck.part, .bool x.ck.last, .bool x.ck.ordered, .slice da x.ck.data.length dc, .slice sa x.ck.spans.length sc, .int .i64 x.ck.room, .slice qa x.ck.skips.length qc] rfl rfl rfl ?_)
          go_roundw
          case rel => exact ⟨k + 1, by omega, by go_num, by rw [HF2.out], BX⟩
          case measure => simp [intOf]; omega
        | true =>
          have HF2 : Hid (flightM p (l.take (k + 1)) = wrap64 (z + x.ck.data.length)) := by show _ = _; rw [HF.out, flyS, if_pos (by simp [onM, h1, h2])]
          go_wp2_with (first
            | refine wpList_ld rfl (.tmp 12) rfl b off rfl x _ _ _ (by with_reducible exact hat) ?_
            | refine wpList_st rfl (.tmp 7) (.tmp 13) rfl wr _ rfl rfl rfl [.int .i64 x.number, .int .i64 x.id, .int .i64 x.state, .int .i64 x.path, .int .i64 x.missed, .int .i64 x.times, .int .i64 x.came, .int .i64 x.life, .int .i64 x.tries, .int .i64 x.ck.kind, .int .i64 x.ck.tag, .int .i64 x.ck.stream, .int .i64 x.ck.mid, .int .i64 x.ck.part, .bool x.ck.last, .bool x.ck.ordered, .slice da x.ck.data.length dc, .slice sa x.ck.spans.length sc, .int .i64 x.ck.room, .slice qa x.ck.skips.length qc] rfl rfl rfl ?_)
          go_roundw
          case rel => exact ⟨k + 1, by omega, by go_num, by rw [HF2.out], BX⟩
          case measure => simp [intOf]; omega
    · have hkl : k = l.length := by omega
      subst hkl
      rw [List.take_of_length_le (Nat.le_refl _)]
      go_wp2_with fail
      go_ret
      exact ⟨rfl, BR⟩

set_option maxHeartbeats 400000 in
theorem sameSkips_same (v v' : Value) (ks : List Sk) (w : World) (hv : Kl w.heap.size w v ks) (hv' : Kl w.heap.size w v' ks) :
    Calls Try.prog 23 #[v, v'] w fun e w' => e = .returned (.bool true) ∧ Below w.heap.size w w' := by
  have SC := sameChunk_same (ckVal ⟨0, 0, 0, 0, 0, false, false, [], [], 0, ks⟩ (.slice none 0 0) (.slice none 0 0) v) (ckVal ⟨0, 0, 0, 0, 0, false, false, [], [], 0, ks⟩ (.slice none 0 0) (.slice none 0 0) v') ⟨0, 0, 0, 0, 0, false, false, [], [], 0, ks⟩ w ⟨_, _, _, rfl, By.nil _ _, Sl.nil' _ _, hv⟩ ⟨_, _, _, rfl, By.nil _ _, Sl.nil' _ _, hv'⟩
  obtain ⟨a, cap, rfl, h1, h2⟩ := hv.ex
  obtain ⟨a', cap', rfl, h1', h2'⟩ := hv'.ex
  simp only [ckVal] at SC
  go_enter Try.func23, Try.ntmps23
  go_wp2_with fail
  refine SC.mono ?_
  rintro e w1 ⟨rfl, b1⟩
  go_wp2_with fail
  go_ret
  exact ⟨rfl, b1⟩

/-- What a skip is for: no two of those that are told are for the same. -/
def keyM (k : Sk) : Int × Bool × Int := (k.stream, k.ordered, if k.ordered = true then 0 else k.mid)
theorem skIs_key (c : Ck) (k : Sk) : skIs c k = true ↔ keyM k = keyM (skOf c) := by
  obtain ⟨st, mi, o⟩ := k
  obtain ⟨kind, tag, stream, mid, part, last, ordered, data, spans, room, skips⟩ := c
  simp only [skIs, keyM, skOf, Bool.or_eq_true, Bool.and_eq_true, beq_iff_eq, Prod.mk.injEq]
  cases o <;> cases ordered <;> simp <;> try (intro h _; exact h)
/-- As the document asks. -/
def toldK (c : Ck) (k : Sk) : Bool := k.stream == c.stream && k.ordered == c.ordered && (k.ordered || k.mid == c.mid)
theorem toldB_skIs (c : Ck) (k : Sk) : toldK c k = skIs c k := by
  rw [Bool.eq_iff_iff, skIs_key]
  obtain ⟨st, mi, o⟩ := k
  obtain ⟨kind, tag, stream, mid, part, last, ordered, data, spans, room, skips⟩ := c
  simp only [toldK, keyM, skOf, Bool.or_eq_true, Bool.and_eq_true, beq_iff_eq, Prod.mk.injEq]
  cases o <;> cases ordered <;> simp
end Go.Proofs.Ytnddejdndipddac
