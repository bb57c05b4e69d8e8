/- The contract of the document's Wrong: sacks and forwards. -/
import Derived.Test.YtnddejdndipddabCkF
set_option maxRecDepth 20000
namespace Go.Proofs.Ytnddejdndipddab
open Go.RowKit

theorem ci_dec {p : Prop} [Decidable p] (h : ¬ p) : decide p = false := decide_eq_false h

set_option maxHeartbeats 1000000 in
theorem rwrong_sack (v : Value) (c : Ck) (w : World) (hv : CkV w.heap.size w v c) (k : c.kind = 2) (t : smallM c.tag = true) : Calls Try.prog 51 #[v] w fun e w' => e = .returned (.int .i64 (wrongM c)) ∧ Below w.heap.size w w' := by
  rw [wrongM_s k t]
  obtain ⟨d, s, kk, rfl, -, h2, -⟩ := hv
  have HV := h2
  obtain ⟨asp, cs, rfl⟩ := h2.ex
  have hl := HV.len
  have l1 := hl.2.1
  have l2 := hl.2.2.1
  have HF : Hid _ := hl.2.2.2
  have HB := fun o => box_below w o
  clear h2 hl
  obtain ⟨kind, tag, stream, mid, part, last, ordered, data, spans, room, skips⟩ := c
  dsimp only [ckVal] at *
  subst k
  cases g : smallM room with
  | false =>
    have HE : Hid (wrongS ⟨2, tag, stream, mid, part, last, ordered, data, spans, room, skips⟩ = 3) := by show _ = _; rw [wrongS, if_pos g]
    go_enter Try.func51, Try.ntmps51
    go_wp2_with (go_at_call 68; refine (rtagq_any _ _).mono ?_; rintro e w' ⟨rfl, rfl⟩; first | rw [t] | rw [g])
    go_ret
    rw [HE.out]
    exact ⟨rfl, HB _⟩
  | true =>
    by_cases g2 : 6 < spans.length
    · have HE : Hid (wrongS ⟨2, tag, stream, mid, part, last, ordered, data, spans, room, skips⟩ = 5) := by show _ = _; rw [wrongS, if_neg (by rw [g]; decide), if_pos g2]
      go_enter Try.func51, Try.ntmps51
      go_wp2_with (go_at_call 68; refine (rtagq_any _ _).mono ?_; rintro e w' ⟨rfl, rfl⟩; first | rw [t] | rw [g])
      go_ret
      rw [HE.out]
      exact ⟨rfl, HB _⟩
    · have HE : Hid (wrongS ⟨2, tag, stream, mid, part, last, ordered, data, spans, room, skips⟩ = if spansBad 0 spans = true then 3 else 0) := by show _ = _; rw [wrongS, if_neg (by rw [g]; decide), if_neg g2]
      go_enter Try.func51, Try.ntmps51
      go_wp2_with (go_at_call 68; refine (rtagq_any _ _).mono ?_; rintro e w' ⟨rfl, rfl⟩; first | rw [t] | rw [g])
      go_loopw [3, 71] (fun m i wr => ∃ (k : Nat) (ck : Int), k ≤ spans.length ∧ i = .int .i64 k ∧ m = .int .i64 (ck + 2) ∧ (0 ≤ ck ∧ ck < 65536) ∧ Below w.heap.size w wr ∧ Hid (spansBad 0 spans = spansBad ck (spans.drop k))) (fun _ i _ => spans.length - (intOf i).toNat)
      case atStart => exact ⟨0, 0, Nat.zero_le _, rfl, rfl, by omega, HB _, by show _ = _; simp⟩
      case round =>
        obtain ⟨k, ck, hk, rfl, rfl, hI, hbel, HS⟩ := hrel
        have i1 := hI.1
        have i2 := hI.2
        clear hI
        by_cases hlt : k < spans.length
        · obtain ⟨b, off, hb, hix, hx0, hx1⟩ := (HV.below hbel (Nat.le_refl _)).at k hlt
          have HB1 := fun o => hbel.alloc (Nat.le_trans (Nat.le_refl _) hbel.size) o
          have HH : spBad ck spans[k] = true → Hid (spansBad 0 spans = true) := fun h => by show _ = _; rw [HS.out]; exact spansBad_hit hlt h
          have HM : spBad ck spans[k] = false → Hid (spansBad 0 spans = spansBad spans[k].2 (spans.drop (k + 1))) := fun h => by show _ = _; rw [HS.out]; exact spansBad_miss hlt h
          have HSM : spBad ck spans[k] = false → (0 ≤ spans[k].2 ∧ spans[k].2 < 65536) := fun h => spBad_small i1 h
          have hfit := HF.out spans[k] (List.getElem_mem hlt)
          have f1 := hfit.2.1
          have f2 := hfit.2.2
          clear hfit
          generalize spans[k] = sk at *
          by_cases g1 : sk.1 < ck + 2
          · have HE2 : Hid (spansBad 0 spans = true) := HH (by simp [spBad, g1])
            clear HH HM HSM
            go_wp2
            go_ret
            rw [HE.out, HE2.out]
            exact ⟨rfl, HB1 _⟩
          · have b1 := ci_dec g1
            by_cases g3 : sk.2 < sk.1
            · have HE2 : Hid (spansBad 0 spans = true) := HH (by simp [spBad, g3])
              clear HH HM HSM
              go_wp2
              go_ret
              rw [HE.out, HE2.out]
              exact ⟨rfl, HB1 _⟩
            · have b3 := ci_dec g3
              by_cases g4 : 65535 < sk.2
              · have HE2 : Hid (spansBad 0 spans = true) := HH (by simp [spBad]; omega)
                clear HH HM HSM
                go_wp2
                go_ret
                rw [HE.out, HE2.out]
                exact ⟨rfl, HB1 _⟩
              · have b4 := ci_dec g4
                have hbad : spBad ck sk = false := by simp [spBad]; omega
                have HE2 := HM hbad
                have hsm := HSM hbad
                clear HH HM HSM hbad
                have s1 := hsm.1
                have s2 := hsm.2
                clear hsm
                go_wp2
                go_roundw
                case rel => exact ⟨k + 1, sk.2, by omega, by go_num, rfl, ⟨s1, s2⟩, HB1 _, HE2⟩
                case measure => simp [intOf]; omega
        · have HE2 : Hid (spansBad 0 spans = false) := by show _ = _; rw [HS.out, List.drop_eq_nil_of_le (by omega)]; rfl
          go_wp2
          go_ret
          rw [HE.out, HE2.out]
          exact ⟨rfl, hbel⟩

set_option maxHeartbeats 1000000 in
theorem rwrong_forward (v : Value) (c : Ck) (w : World) (hv : CkV w.heap.size w v c) (k : c.kind = 3) (t : smallM c.tag = true) : Calls Try.prog 51 #[v] w fun e w' => e = .returned (.int .i64 (wrongM c)) ∧ Below w.heap.size w w' := by
  rw [wrongM_f k t]
  obtain ⟨d, s, kk, rfl, -, -, h3⟩ := hv
  have HV := h3
  obtain ⟨asp, cs, rfl, l1, l2⟩ := h3.ex
  have HB := fun o => box_below w o
  clear h3
  obtain ⟨kind, tag, stream, mid, part, last, ordered, data, spans, room, skips⟩ := c
  dsimp only [ckVal] at *
  subst k
  by_cases g2 : 8 < skips.length
  · have HE : Hid (wrongF ⟨3, tag, stream, mid, part, last, ordered, data, spans, room, skips⟩ = 5) := by show _ = _; rw [wrongF, if_pos g2]
    go_enter Try.func51, Try.ntmps51
    go_wp2_with (go_at_call 68; refine (rtagq_any _ _).mono ?_; rintro e w' ⟨rfl, rfl⟩; first | rw [t])
    go_ret
    rw [HE.out]
    exact ⟨rfl, HB _⟩
  · have HE : Hid (wrongF ⟨3, tag, stream, mid, part, last, ordered, data, spans, room, skips⟩ = if skips.any skipBad = true then 3 else 0) := by show _ = _; rw [wrongF, if_neg g2]
    go_enter Try.func51, Try.ntmps51
    go_wp2_with (go_at_call 68; refine (rtagq_any _ _).mono ?_; rintro e w' ⟨rfl, rfl⟩; first | rw [t])
    go_loopw [102] (fun i wr => ∃ (k : Nat), k ≤ skips.length ∧ i = .int .i64 k ∧ Below w.heap.size w wr ∧ Hid (skips.any skipBad = (skips.drop k).any skipBad)) (fun i _ => skips.length - (intOf i).toNat)
    case atStart => exact ⟨0, Nat.zero_le _, rfl, HB _, by show _ = _; simp⟩
    case round =>
      obtain ⟨k, hk, rfl, hbel, HS⟩ := hrel
      by_cases hlt : k < skips.length
      · obtain ⟨b, off, hb, hix, hx0, hx1, hx2⟩ := (HV.below hbel (Nat.le_refl _)).at k hlt
        have HB1 := fun o => hbel.alloc (Nat.le_trans (Nat.le_refl _) hbel.size) o
        have HH : skipBad skips[k] = true → Hid (skips.any skipBad = true) := fun h => by show _ = _; rw [HS.out]; exact any_hit hlt h
        have HM : skipBad skips[k] = false → Hid (skips.any skipBad = (skips.drop (k + 1)).any skipBad) := fun h => by show _ = _; rw [HS.out]; exact any_miss hlt h
        generalize skips[k] = sk at *
        by_cases g1 : sk.stream < 0
        · have HE2 : Hid (skips.any skipBad = true) := HH (by simp [skipBad]; omega)
          clear HH HM
          go_wp2_with (go_at_call 68; refine (rtagq_any _ _).mono ?_; rintro e w' ⟨rfl, rfl⟩)
          go_ret
          rw [HE.out, HE2.out]
          exact ⟨rfl, HB1 _⟩
        · have b1 := ci_dec g1
          by_cases g3 : 3 < sk.stream
          · have HE2 : Hid (skips.any skipBad = true) := HH (by simp [skipBad]; omega)
            clear HH HM
            go_wp2_with (go_at_call 68; refine (rtagq_any _ _).mono ?_; rintro e w' ⟨rfl, rfl⟩)
            go_ret
            rw [HE.out, HE2.out]
            exact ⟨rfl, HB1 _⟩
          · have b3 := ci_dec g3
            have hst : decide (0 ≤ sk.stream ∧ sk.stream < 4) = true := by simp; omega
            cases m : smallM sk.mid with
            | false =>
              have HE2 : Hid (skips.any skipBad = true) := HH (by rw [skipBad, m, hst]; rfl)
              clear HH HM hst
              go_wp2_with (go_at_call 68; refine (rtagq_any _ _).mono ?_; rintro e w' ⟨rfl, rfl⟩; rw [m])
              go_ret
              rw [HE.out, HE2.out]
              exact ⟨rfl, HB1 _⟩
            | true =>
              have HE2 := HM (by rw [skipBad, m, hst]; rfl)
              clear HH HM hst
              go_wp2_with (go_at_call 68; refine (rtagq_any _ _).mono ?_; rintro e w' ⟨rfl, rfl⟩; rw [m])
              go_roundw
              case rel => exact ⟨k + 1, by omega, by go_num, HB1 _, HE2⟩
              case measure => simp [intOf]; omega
      · have HE2 : Hid (skips.any skipBad = false) := by show _ = _; rw [HS.out, List.drop_eq_nil_of_le (by omega)]; rfl
        go_wp2
        go_ret
        rw [HE.out, HE2.out]
        exact ⟨rfl, hbel⟩

set_option maxHeartbeats 1000000 in
theorem rwrong_any (v : Value) (c : Ck) (w : World) (hv : CkV w.heap.size w v c) : Calls Try.prog 51 #[v] w fun e w' => e = .returned (.int .i64 (wrongM c)) ∧ Below w.heap.size w w' := by
  by_cases g : c.kind < 1 ∨ 3 < c.kind
  · have HE : Hid (wrongM c = 1) := by show _ = _; rw [wrongM, if_pos g]
    obtain ⟨d, s, kk, rfl, -, -, h3⟩ := hv
    have HB := fun o => box_below w o
    simp only [ckVal]
    clear h3
    rcases g with g | g
    · go_enter Try.func51, Try.ntmps51
      go_wp2
      go_ret
      rw [HE.out]
      exact ⟨rfl, HB _⟩
    · have b1 : decide (c.kind < 1) = false := by simp; omega
      go_enter Try.func51, Try.ntmps51
      go_wp2
      go_ret
      rw [HE.out]
      exact ⟨rfl, HB _⟩
  · cases t : smallM c.tag with
    | false =>
      have HE : Hid (wrongM c = 3) := by show _ = _; rw [wrongM, if_neg g, if_pos t]
      obtain ⟨d, s, kk, rfl, -, -, h3⟩ := hv
      have HB := fun o => box_below w o
      simp only [ckVal]
      clear h3
      have b1 : decide (c.kind < 1) = false := by simp; omega
      have b2 : decide (3 < c.kind) = false := by simp; omega
      have g1 : ¬ c.kind < 1 := by omega
      have g2 : ¬ 3 < c.kind := by omega
      clear g
      go_enter Try.func51, Try.ntmps51
      go_wp2_with (go_at_call 68; refine (rtagq_any _ _).mono ?_; rintro e w' ⟨rfl, rfl⟩; rw [t])
      go_ret
      rw [HE.out]
      exact ⟨rfl, HB _⟩
    | true =>
      rcases (show c.kind = 1 ∨ c.kind = 2 ∨ c.kind = 3 by omega) with k | k | k
      · exact rwrong_data v c w hv k t
      · exact rwrong_sack v c w hv k t
      · exact rwrong_forward v c w hv k t
end Go.Proofs.Ytnddejdndipddab
