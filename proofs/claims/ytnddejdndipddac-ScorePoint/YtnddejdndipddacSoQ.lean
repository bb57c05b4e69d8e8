/- The contracts of Rises and of right: what a statement asks of its parts. -/
import Derived.Test.YtnddejdndipddacSoK
import Derived.Test.YtnddejdndipddacSoP
set_option maxRecDepth 20000
namespace Go.Proofs.Ytnddejdndipddac
open Go.RowKit

/-- An answer that, where it is true, says so much. -/
def Asks1 (P : Prop) (e : Ending) : Prop := ∃ r : Bool, e = .returned (.bool r) ∧ (r = true → P)

set_option maxHeartbeats 1000000 in
theorem rises_any (v : Value) (l : List Sn) (cum : Int) (w : World) (hv : SnS w.heap.size w v l) (hc1 : -1 ≤ cum) (hc2 : cum < 1000000) (hlen : l.length * 200 ≤ 140737488351232) :
    Calls Try.prog 35 #[v, .int .i64 cum] w fun e w' => Asks1 (RisesM cum l) e ∧ Below w.heap.size w w' := by
  have HV := hv
  obtain ⟨a, cap, rfl, h1, h2⟩ := hv.ex
  go_enter Try.func35, Try.ntmps35
  go_wp2_with fail
  go_loopw [9] (fun i wr => ∃ k : Nat, k ≤ l.length ∧ i = .int .i64 k ∧ Hid (∀ (j : Nat) s, j < k → l[j]? = some s → s.number = cum + 1 + j) ∧ Below w.heap.size w wr) (fun i _ => l.length - (intOf i).toNat)
  case atStart => exact ⟨0, Nat.zero_le _, rfl, fun j s hj => by omega, Below.refl _ _⟩
  case round =>
    obtain ⟨k, hk, rfl, HN, BR⟩ := hrel
    by_cases hlt : k < l.length
    · obtain ⟨b, off, da, dc, sa, sc, qa, qc, hb, hix, -, -, -, hat⟩ := SnS.at (SlG.below SnV.bears HV BR (Nat.le_refl _)) k hlt
      have HG : Hid (l[k]? = some l[k]) := by show _ = _; simp [hlt]
      generalize l[k] = x at *
      have BWX := BR.trans ((box_below wr (.cells #[.int .i64 x.number, .int .i64 x.id, .int .i64 x.state, .int .i64 x.path, .int .i64 x.missed, .int .i64 x.times, .int .i64 x.came, .int .i64 x.life, .int .i64 x.tries, .int .i64 x.ck.kind, .int .i64 x.ck.tag, .int .i64 x.ck.stream, .int .i64 x.ck.mid, .int .i64 x.ck.part, .bool x.ck.last, .bool x.ck.ordered, .slice da x.ck.data.length dc, .slice sa x.ck.spans.length sc, .int .i64 x.ck.room, .slice qa x.ck.skips.length qc] 53)).mono BR.size)
      cases he : (x.number != cum + 1 + (k : Int)) with
      | true =>
        go_wp2_with (first
          | refine wpList_ld rfl (.tmp 12) rfl b off rfl x _ _ _ (by with_reducible exact hat) ?_
          | refine wpList_st rfl (.tmp 6) (.tmp 13) rfl wr _ rfl rfl rfl [.int .i64 x.number, .int .i64 x.id, .int .i64 x.state, .int .i64 x.path, .int .i64 x.missed, .int .i64 x.times, .int .i64 x.came, .int .i64 x.life, .int .i64 x.tries, .int .i64 x.ck.kind, .int .i64 x.ck.tag, .int .i64 x.ck.stream, .int .i64 x.ck.mid, .int .i64 x.ck.part, .bool x.ck.last, .bool x.ck.ordered, .slice da x.ck.data.length dc, .slice sa x.ck.spans.length sc, .int .i64 x.ck.room, .slice qa x.ck.skips.length qc] rfl rfl rfl ?_)
        go_ret
        exact ⟨⟨false, rfl, fun h => by simp at h⟩, BWX⟩
      | false =>
        have HE : Hid (x.number = cum + 1 + k) := by show _ = _; simpa [bne] using he
        have HN2 : Hid (∀ (j : Nat) s, j < k + 1 → l[j]? = some s → s.number = cum + 1 + j) := fun j s hj hs => by
          by_cases e : j = k
          · subst e; rw [HG.out] at hs; simp only [Option.some.injEq] at hs; subst hs; exact HE.out
          · exact HN.out j s (by omega) hs
        go_wp2_with (first
          | refine wpList_ld rfl (.tmp 12) rfl b off rfl x _ _ _ (by with_reducible exact hat) ?_
          | refine wpList_st rfl (.tmp 6) (.tmp 13) rfl wr _ rfl rfl rfl [.int .i64 x.number, .int .i64 x.id, .int .i64 x.state, .int .i64 x.path, .int .i64 x.missed, .int .i64 x.times, .int .i64 x.came, .int .i64 x.life, .int .i64 x.tries, .int .i64 x.ck.kind, .int .i64 x.ck.tag, .int .i64 x.ck.stream, .int .i64 x.ck.mid, .int .i64 x.ck.part, .bool x.ck.last, .bool x.ck.ordered, .slice da x.ck.data.length dc, .slice sa x.ck.spans.length sc, .int .i64 x.ck.room, .slice qa x.ck.skips.length qc] rfl rfl rfl ?_)
        go_roundw
        case rel => exact ⟨k + 1, by omega, by go_num, HN2, BWX⟩
        case measure => simp [intOf]; omega
    · have hkl : k = l.length := by omega
      subst hkl
      have RI : Hid (RisesM cum l) := fun j s hs => HN.out j s (List.getElem?_eq_some_iff.1 hs).1 hs
      go_wp2_with fail
      go_ret
      exact ⟨⟨true, rfl, fun _ => RI.out⟩, BR⟩

/-- What a statement asks of its parts. -/
structure RightM (l : List Sn) (cum paths : Int) : Prop where
  each : ∀ x ∈ l, (0 ≤ x.path ∧ x.path < paths) ∧ 0 ≤ x.missed ∧ x.missed ≤ 1000000
  p1 : 1 ≤ paths
  p2 : paths ≤ 2
  c1 : -1 ≤ cum
  c2 : cum < 1000000
  ris : RisesM cum l

set_option maxHeartbeats 2000000 in
theorem right_any (v : Value) (l : List Sn) (cum paths : Int) (w : World) (hv : SnS w.heap.size w v l) (hlen : l.length * 200 ≤ 140737488351232) :
    Calls Try.prog 14 #[v, .int .i64 cum, .int .i64 paths] w fun e w' => Asks1 (RightM l cum paths) e ∧ Below w.heap.size w w' := by
  have HV := hv
  obtain ⟨a, cap, rfl, h1, h2⟩ := hv.ex
  go_enter Try.func14, Try.ntmps14
  go_wp2_with fail
  go_loopw [11] (fun i wr => ∃ k : Nat, k ≤ l.length ∧ i = .int .i64 k ∧ Hid (∀ x ∈ l.take k, (0 ≤ x.path ∧ x.path < paths) ∧ 0 ≤ x.missed ∧ x.missed ≤ 1000000) ∧ Below w.heap.size w wr) (fun i _ => l.length - (intOf i).toNat)
  case atStart => exact ⟨0, Nat.zero_le _, rfl, fun x hx => by simp at hx, Below.refl _ _⟩
  case round =>
    obtain ⟨k, hk, rfl, HN, BR⟩ := hrel
    by_cases hlt : k < l.length
    · obtain ⟨b, off, da, dc, sa, sc, qa, qc, hb, hix, -, -, -, hat⟩ := SnS.at (SlG.below SnV.bears HV BR (Nat.le_refl _)) k hlt
      have HG : Hid (l.take (k + 1) = l.take k ++ [l[k]]) := List.take_succ_eq_append_getElem hlt
      generalize l[k] = x at *
      have BWX := BR.trans ((box_below wr (.cells #[.int .i64 x.number, .int .i64 x.id, .int .i64 x.state, .int .i64 x.path, .int .i64 x.missed, .int .i64 x.times, .int .i64 x.came, .int .i64 x.life, .int .i64 x.tries, .int .i64 x.ck.kind, .int .i64 x.ck.tag, .int .i64 x.ck.stream, .int .i64 x.ck.mid, .int .i64 x.ck.part, .bool x.ck.last, .bool x.ck.ordered, .slice da x.ck.data.length dc, .slice sa x.ck.spans.length sc, .int .i64 x.ck.room, .slice qa x.ck.skips.length qc] 53)).mono BR.size)
      by_cases p1 : x.path < 0
      · go_wp2_with (first
          | refine wpList_ld rfl (.tmp 13) rfl b off rfl x _ _ _ (by with_reducible exact hat) ?_
          | refine wpList_st rfl (.tmp 8) (.tmp 14) rfl wr _ rfl rfl rfl [.int .i64 x.number, .int .i64 x.id, .int .i64 x.state, .int .i64 x.path, .int .i64 x.missed, .int .i64 x.times, .int .i64 x.came, .int .i64 x.life, .int .i64 x.tries, .int .i64 x.ck.kind, .int .i64 x.ck.tag, .int .i64 x.ck.stream, .int .i64 x.ck.mid, .int .i64 x.ck.part, .bool x.ck.last, .bool x.ck.ordered, .slice da x.ck.data.length dc, .slice sa x.ck.spans.length sc, .int .i64 x.ck.room, .slice qa x.ck.skips.length qc] rfl rfl rfl ?_)
        go_ret
        exact ⟨⟨false, rfl, fun h => by simp at h⟩, BWX⟩
      · by_cases p2 : x.path ≥ paths
        · go_wp2_with (first
            | refine wpList_ld rfl (.tmp 13) rfl b off rfl x _ _ _ (by with_reducible exact hat) ?_
            | refine wpList_st rfl (.tmp 8) (.tmp 14) rfl wr _ rfl rfl rfl [.int .i64 x.number, .int .i64 x.id, .int .i64 x.state, .int .i64 x.path, .int .i64 x.missed, .int .i64 x.times, .int .i64 x.came, .int .i64 x.life, .int .i64 x.tries, .int .i64 x.ck.kind, .int .i64 x.ck.tag, .int .i64 x.ck.stream, .int .i64 x.ck.mid, .int .i64 x.ck.part, .bool x.ck.last, .bool x.ck.ordered, .slice da x.ck.data.length dc, .slice sa x.ck.spans.length sc, .int .i64 x.ck.room, .slice qa x.ck.skips.length qc] rfl rfl rfl ?_)
          go_ret
          exact ⟨⟨false, rfl, fun h => by simp at h⟩, BWX⟩
        · by_cases p3 : x.missed < 0
          · go_wp2_with (first
              | refine wpList_ld rfl (.tmp 13) rfl b off rfl x _ _ _ (by with_reducible exact hat) ?_
              | refine wpList_st rfl (.tmp 8) (.tmp 14) rfl wr _ rfl rfl rfl [.int .i64 x.number, .int .i64 x.id, .int .i64 x.state, .int .i64 x.path, .int .i64 x.missed, .int .i64 x.times, .int .i64 x.came, .int .i64 x.life, .int .i64 x.tries, .int .i64 x.ck.kind, .int .i64 x.ck.tag, .int .i64 x.ck.stream, .int .i64 x.ck.mid, .int .i64 x.ck.part, .bool x.ck.last, .bool x.ck.ordered, .slice da x.ck.data.length dc, .slice sa x.ck.spans.length sc, .int .i64 x.ck.room, .slice qa x.ck.skips.length qc] rfl rfl rfl ?_)
            go_ret
            exact ⟨⟨false, rfl, fun h => by simp at h⟩, BWX⟩
          · by_cases p4 : x.missed > 1000000
            · go_wp2_with (first
                | refine wpList_ld rfl (.tmp 13) rfl b off rfl x _ _ _ (by with_reducible exact hat) ?_
                | refine wpList_st rfl (.tmp 8) (.tmp 14) rfl wr _ rfl rfl rfl [.int .i64 x.number, .int .i64 x.id, .int .i64 x.state, .int .i64 x.path, .int .i64 x.missed, .int .i64 x.times, .int .i64 x.came, .int .i64 x.life, .int .i64 x.tries, .int .i64 x.ck.kind, .int .i64 x.ck.tag, .int .i64 x.ck.stream, .int .i64 x.ck.mid, .int .i64 x.ck.part, .bool x.ck.last, .bool x.ck.ordered, .slice da x.ck.data.length dc, .slice sa x.ck.spans.length sc, .int .i64 x.ck.room, .slice qa x.ck.skips.length qc] rfl rfl rfl ?_)
              go_ret
              exact ⟨⟨false, rfl, fun h => by simp at h⟩, BWX⟩
            · have HN2 : Hid (∀ y ∈ l.take (k + 1), (0 ≤ y.path ∧ y.path < paths) ∧ 0 ≤ y.missed ∧ y.missed ≤ 1000000) := fun y hy => by
                rw [HG.out, List.mem_append] at hy
                rcases hy with hy | hy
                · exact HN.out y hy
                · simp at hy; subst hy; omega
              go_wp2_with (first
                | refine wpList_ld rfl (.tmp 13) rfl b off rfl x _ _ _ (by with_reducible exact hat) ?_
                | refine wpList_st rfl (.tmp 8) (.tmp 14) rfl wr _ rfl rfl rfl [.int .i64 x.number, .int .i64 x.id, .int .i64 x.state, .int .i64 x.path, .int .i64 x.missed, .int .i64 x.times, .int .i64 x.came, .int .i64 x.life, .int .i64 x.tries, .int .i64 x.ck.kind, .int .i64 x.ck.tag, .int .i64 x.ck.stream, .int .i64 x.ck.mid, .int .i64 x.ck.part, .bool x.ck.last, .bool x.ck.ordered, .slice da x.ck.data.length dc, .slice sa x.ck.spans.length sc, .int .i64 x.ck.room, .slice qa x.ck.skips.length qc] rfl rfl rfl ?_)
              go_roundw
              case rel => exact ⟨k + 1, by omega, by go_num, HN2, BWX⟩
              case measure => simp [intOf]; omega
    · have hkl : k = l.length := by omega
      subst hkl
      have HA : Hid (∀ x ∈ l, (0 ≤ x.path ∧ x.path < paths) ∧ 0 ≤ x.missed ∧ x.missed ≤ 1000000) := by have := HN.out; rw [List.take_of_length_le (Nat.le_refl _)] at this; exact this
      clear HN
      by_cases q1 : paths ≥ 1
      · by_cases q2 : paths ≤ 2
        · by_cases q3 : cum ≥ -1
          · by_cases q4 : cum < 1000000
            · have RI := rises_any _ l cum wr (SlG.size SnV.bears HV BR (Nat.le_refl _)) (by omega) q4 hlen
              go_wp2_with fail
              refine RI.mono ?_
              rintro e w2 ⟨⟨r, rfl, hr⟩, b2⟩
              have B2 := BR.trans (b2.mono BR.size)
              have HR : Hid (r = true → RisesM cum l) := hr
              clear hr RI
              go_wp2_with fail
              go_ret
              exact ⟨⟨r, rfl, fun h => ⟨HA.out, q1, q2, by omega, q4, HR.out h⟩⟩, B2⟩
            · go_wp2_with fail
              go_ret
              exact ⟨⟨false, rfl, fun h => by simp at h⟩, BR⟩
          · go_wp2_with fail
            go_ret
            exact ⟨⟨false, rfl, fun h => by simp at h⟩, BR⟩
        · go_wp2_with fail
          go_ret
          exact ⟨⟨false, rfl, fun h => by simp at h⟩, BR⟩
      · go_wp2_with fail
        go_ret
        exact ⟨⟨false, rfl, fun h => by simp at h⟩, BR⟩
theorem RightM.num {l : List Sn} {cum paths : Int} (h : RightM l cum paths) (hlen : l.length * 200 ≤ 140737488351232) : ∀ x ∈ l, -1099511627776 ≤ x.number ∧ x.number ≤ 1099511627776 := fun x hx => by
  have h1 := h.ris.mem hx
  have := h.c1
  have := h.c2
  omega
end Go.Proofs.Ytnddejdndipddac
