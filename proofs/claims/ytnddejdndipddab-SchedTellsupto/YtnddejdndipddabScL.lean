/- The document's Next: in turn, and by rank. -/
import Derived.Test.YtnddejdndipddabScK
set_option maxRecDepth 20000
namespace Go.Proofs.Ytnddejdndipddab
open Go.RowKit

set_option maxHeartbeats 4000000 in
theorem rnext_parts (v : Value) (last hand : Int) (had : List Int) (ad : Option Addr) (cd : Nat) (l : List Qd) (w : World) (_hd : In w.heap.size w (.slice ad had.length cd) had) (hv : QdS w.heap.size w v l) (hl0 : 0 ≤ last) (hl1 : last < had.length) (hn : had.length ≤ 1048576) (hq : l.length ≠ 0) :
    Calls Try.prog 23 #[.int .i64 3, .agg #[.int .i64 last, .int .i64 hand, .slice ad had.length cd], v] w fun e w' => ∃ k, e = .returned (.int .i64 k) ∧ NextIs 3 last hand had (idsQ l) (strs l) k ∧ Below w.heap.size w w' := by
  have HV := hv
  obtain ⟨a, cap, rfl, h1, h2⟩ := hv.ex
  have BW0 := box_below w (.cells #[.int .i64 last, .int .i64 hand, .slice ad had.length cd] 51)
  have CX := Cells.new w #[.int .i64 last, .int .i64 hand, .slice ad had.length cd] 51
  have hz : w.heap.size < (w.alloc (.cells #[.int .i64 last, .int .i64 hand, .slice ad had.length cd] 51)).heap.size := by simp
  have HNO0 : Hid (¬ ((strs l).length = 0 ∨ had.length = 0)) := by show ¬ _; rw [strs_len]; omega
  have el : ((l.length : Int) == 0) = false := by rw [beq_eq_false_iff_ne]; omega
  have em : ((had.length : Int) == 0) = false := by rw [beq_eq_false_iff_ne]; omega
  have hn0 : ¬ (had.length : Int) = 0 := by omega
  clear hq hv
  have g2 : ((3 : Int) == 2) = false := rfl
  have g3 : ((3 : Int) == 3) = true := rfl
  go_enter Try.func23, Try.ntmps23
  go_wp2_with fail
  generalize (w.alloc (.cells #[.int .i64 last, .int .i64 hand, .slice ad had.length cd] 51)) = w0 at *
  have BS : Below w0.heap.size w0 w0 := Below.refl _ _
  go_loopw [10, 11] (fun o i wq => ∃ (m : Nat) (a : Option Addr) (c : Nat), m ≤ had.length ∧ i = .int .i64 ((m : Int) + 1) ∧ o = .slice a m c ∧ wq.ownsRow w0.heap.size 3 1 (.slice a m c) m (cellsI (roundM last had.length m)) ∧ Below w0.heap.size w0 wq) (fun _ i _ => had.length + 1 - (intOf i).toNat)
  case atStart => exact ⟨0, none, 0, Nat.zero_le _, rfl, rfl, ⟨by simp [roundM, cellsI], .inl ⟨rfl, rfl⟩⟩, Below.refl _ _⟩
  case round =>
    obtain ⟨m, ao, co, hm, rfl, rfl, own, BQ⟩ := hrel
    by_cases hlt : m < had.length
    · have y0 := (CX.below (BS.trans (BQ.mono BS.size)) hz).cell 0 _ rfl
      have ST := fun v' w' => int_app own BQ.size (.cells #[.int .i64 ((last + ((m : Int) + 1)) % (had.length : Int))] 3) (z := (last + ((m : Int) + 1)) % (had.length : Int)) (v' := v') (w' := w')
      have own2 := own.alloc (.cells #[.int .i64 ((last + ((m : Int) + 1)) % (had.length : Int))] 3)
      have hbs := BQ.size
      have gle : (m : Int) + 1 ≤ (had.length : Int) := by omega
      clear own
      go_wp2_with (at_builtin; refine wpList_append_rw Try.underlying49 Try.info3 rfl (by decide) _ rfl (.tmp 54) (.tmp 61) rfl w0.heap.size (.slice ao m co) m _ rfl own2 _ 1 [.int .i64 ((last + ((m : Int) + 1)) % (had.length : Int))] _ rfl (Rw.lit1 _ _ _) (by intro u hu; simp at hu; subst hu; rfl) (by unfold maxLen; omega) (by omega) (by simp; omega) ?_; intro v3 w3 own3 grow3 at3; obtain ⟨p3, q3, -⟩ := ST v3 w3 own3 grow3; obtain ⟨a3, c3, rfl⟩ := own_form own3; clear own3 grow3 at3)
      rw [← roundM_succ] at p3
      have Q3 := BQ.trans (q3.mono (Nat.le_refl _))
      go_roundw
      case rel => exact ⟨m + 1, a3, c3, by omega, by go_num, rfl, p3, Q3⟩
      case measure => simp [intOf]; omega
    · have hme : m = had.length := by omega
      subst hme
      have INO : In wr.heap.size wr (.slice ao had.length co) (roundM last had.length had.length) := In.own own (roundM_len _ _ _).symm (fun z hz => by obtain ⟨j, _, rfl⟩ := List.mem_map.1 hz; have := Int.emod_nonneg (last + ((j : Int) + 1)) (b := (had.length : Int)) (by omega); have := Int.emod_lt_of_pos (last + ((j : Int) + 1)) (b := (had.length : Int)) (by omega); unfold I64; omega)
      have HORD : Hid (Orders had.length (fBehind last) (roundM last had.length had.length)) := roundM_orders last had.length hl0 hl1
      have HOL : Hid ((roundM last had.length had.length).length = had.length) := roundM_len _ _ _
      have BT : Below w.heap.size w wr := BW0.trans ((BS.trans (BQ.mono BS.size)).mono BW0.size)
      generalize roundM last had.length had.length = os at *
      clear own BQ
      have gle : ¬ (had.length : Int) + 1 ≤ (had.length : Int) := by omega
      generalize wr = wT at *
      go_wp2_with fail
      go_loopw [116] (fun i wq => ∃ t : Nat, t ≤ had.length ∧ i = .int .i64 t ∧ (∀ (t' : Nat) y, t' < t → os[t']? = some y → ∀ (j : Nat) s, (strs l)[j]? = some s → s ≠ y) ∧ Below wT.heap.size wT wq) (fun i _ => had.length - (intOf i).toNat)
      case atStart => exact ⟨0, Nat.zero_le _, rfl, fun t' y h => by omega, Below.refl _ _⟩
      case round =>
        obtain ⟨t, ht, rfl, hno, BQ⟩ := hrel
        have HNO : Hid (∀ (t' : Nat) y, t' < t → os[t']? = some y → ∀ (j : Nat) s, (strs l)[j]? = some s → s ≠ y) := hno
        clear hno
        have BF := BT.trans (BQ.mono BT.size)
        by_cases hlt : t < had.length
        · have hto : t < os.length := by have := HOL.out; omega
          obtain ⟨b, off, hb, hix, hc⟩ := (INO.below BQ (Nat.le_refl _)).at t hto
          have HX : Hid (os[t]? = some os[t]) := List.getElem?_eq_getElem hto
          have WA := waits_any _ l os[t] wr (SlG.size QdV.bears HV BF (Nat.le_refl _))
          generalize os[t] = x at *
          go_wp2_with fail
          refine WA.mono ?_
          rintro e w5 ⟨z, rfl, FI, b5⟩
          have B5 := BQ.trans (b5.mono BQ.size)
          have BG := BT.trans (B5.mono BT.size)
          rcases FI with ⟨rfl, hni⟩ | ⟨i, rfl, hfi⟩
          · have HN2 : Hid (∀ (t' : Nat) y, t' < t + 1 → os[t']? = some y → ∀ (j : Nat) s, (strs l)[j]? = some s → s ≠ y) := fun t' y h1 h2 j s h3 => by
              by_cases e : t' = t
              · subst e
                rw [HX.out] at h2
                simp only [Option.some.injEq] at h2
                subst h2
                rintro rfl
                exact hni (List.mem_of_getElem? h3)
              · exact HNO.out t' y (by omega) h2 j s h3
            clear WA hni
            go_wp2_with fail
            go_roundw
            case rel => exact ⟨t + 1, by omega, by go_num, HN2.out, B5⟩
            case measure => simp [intOf]; omega
          · have NX : NextIs 3 last hand had (idsQ l) (strs l) (i : Int) := next_round HNO0.out (.inl rfl) (HORD.out.hit HX.out HNO.out hfi)
            have gi : (i : Int) ≥ 0 := by omega
            clear WA hfi
            go_wp2_with fail
            go_ret
            exact ⟨_, rfl, NX, BG⟩
        · have hte : t = had.length := by omega
          subst hte
          have NX : NextIs 3 last hand had (idsQ l) (strs l) (-1) := next_round HNO0.out (.inl rfl) (HORD.out.none fun t' y h => HNO.out t' y (by have := (List.getElem?_eq_some_iff.1 h).1; have := HOL.out; omega) h)
          go_wp2_with fail
          go_ret
          exact ⟨_, rfl, NX, BF⟩

set_option maxHeartbeats 4000000 in
theorem rnext_rank (v : Value) (last hand : Int) (had : List Int) (ad : Option Addr) (cd : Nat) (l : List Qd) (w : World) (_hd : In w.heap.size w (.slice ad had.length cd) had) (hv : QdS w.heap.size w v l) (hl0 : 0 ≤ last) (hl1 : last < had.length) (hn : had.length ≤ 1048576) (hq : l.length ≠ 0) :
    Calls Try.prog 23 #[.int .i64 4, .agg #[.int .i64 last, .int .i64 hand, .slice ad had.length cd], v] w fun e w' => ∃ k, e = .returned (.int .i64 k) ∧ NextIs 4 last hand had (idsQ l) (strs l) k ∧ Below w.heap.size w w' := by
  have HV := hv
  obtain ⟨a, cap, rfl, h1, h2⟩ := hv.ex
  have BW0 := box_below w (.cells #[.int .i64 last, .int .i64 hand, .slice ad had.length cd] 51)
  have CX := Cells.new w #[.int .i64 last, .int .i64 hand, .slice ad had.length cd] 51
  have hz : w.heap.size < (w.alloc (.cells #[.int .i64 last, .int .i64 hand, .slice ad had.length cd] 51)).heap.size := by simp
  have HNO0 : Hid (¬ ((strs l).length = 0 ∨ had.length = 0)) := by show ¬ _; rw [strs_len]; omega
  have el : ((l.length : Int) == 0) = false := by rw [beq_eq_false_iff_ne]; omega
  have em : ((had.length : Int) == 0) = false := by rw [beq_eq_false_iff_ne]; omega
  have hn0 : ¬ (had.length : Int) = 0 := by omega
  clear hq hv
  have g2 : ((4 : Int) == 2) = false := rfl
  have g3 : ((4 : Int) == 3) = false := rfl
  have g4 : ((4 : Int) == 4) = true := rfl
  go_enter Try.func23, Try.ntmps23
  go_wp2_with fail
  generalize (w.alloc (.cells #[.int .i64 last, .int .i64 hand, .slice ad had.length cd] 51)) = w0 at *
  go_loopw [10, 66] (fun o i wq => ∃ (m : Nat) (a : Option Addr) (c : Nat), m ≤ had.length ∧ i = .int .i64 m ∧ o = .slice a m c ∧ wq.ownsRow w0.heap.size 3 1 (.slice a m c) m (cellsI (rankM m)) ∧ Below w0.heap.size w0 wq) (fun _ i _ => had.length - (intOf i).toNat)
  case atStart => exact ⟨0, none, 0, Nat.zero_le _, rfl, rfl, ⟨by simp [rankM, cellsI], .inl ⟨rfl, rfl⟩⟩, Below.refl _ _⟩
  case round =>
    obtain ⟨m, ao, co, hm, rfl, rfl, own, BQ⟩ := hrel
    by_cases hlt : m < had.length
    · have ST := fun v' w' => int_app own BQ.size (.cells #[.int .i64 (m : Int)] 3) (z := (m : Int)) (v' := v') (w' := w')
      have own2 := own.alloc (.cells #[.int .i64 (m : Int)] 3)
      have hbs := BQ.size
      clear own
      go_wp2_with (at_builtin; refine wpList_append_rw Try.underlying49 Try.info3 rfl (by decide) _ rfl (.tmp 69) (.tmp 71) rfl w0.heap.size (.slice ao m co) m _ rfl own2 _ 1 [.int .i64 (m : Int)] _ rfl (Rw.lit1 _ _ _) (by intro u hu; simp at hu; subst hu; rfl) (by unfold maxLen; omega) (by omega) (by simp; omega) ?_; intro v3 w3 own3 grow3 at3; obtain ⟨p3, q3, -⟩ := ST v3 w3 own3 grow3; obtain ⟨a3, c3, rfl⟩ := own_form own3; clear own3 grow3 at3)
      rw [← rankM_succ] at p3
      have Q3 := BQ.trans (q3.mono (Nat.le_refl _))
      go_roundw
      case rel => exact ⟨m + 1, a3, c3, by omega, by go_num, rfl, p3, Q3⟩
      case measure => simp [intOf]; omega
    · have hme : m = had.length := by omega
      subst hme
      have INO : In wr.heap.size wr (.slice ao had.length co) (rankM had.length) := In.own own (rankM_len _).symm (fun z hz => by obtain ⟨j, hj, rfl⟩ := List.mem_map.1 hz; rw [List.mem_range] at hj; unfold I64; omega)
      have HORD : Hid (Orders had.length (fun _ => 0) (rankM had.length)) := rankM_orders had.length
      have HOL : Hid ((rankM had.length).length = had.length) := rankM_len _
      have BT : Below w.heap.size w wr := BW0.trans (BQ.mono BW0.size)
      generalize rankM had.length = os at *
      clear own BQ
      generalize wr = wT at *
      go_wp2_with fail
      go_loopw [116] (fun i wq => ∃ t : Nat, t ≤ had.length ∧ i = .int .i64 t ∧ (∀ (t' : Nat) y, t' < t → os[t']? = some y → ∀ (j : Nat) s, (strs l)[j]? = some s → s ≠ y) ∧ Below wT.heap.size wT wq) (fun i _ => had.length - (intOf i).toNat)
      case atStart => exact ⟨0, Nat.zero_le _, rfl, fun t' y h => by omega, Below.refl _ _⟩
      case round =>
        obtain ⟨t, ht, rfl, hno, BQ⟩ := hrel
        have HNO : Hid (∀ (t' : Nat) y, t' < t → os[t']? = some y → ∀ (j : Nat) s, (strs l)[j]? = some s → s ≠ y) := hno
        clear hno
        have BF := BT.trans (BQ.mono BT.size)
        by_cases hlt : t < had.length
        · have hto : t < os.length := by have := HOL.out; omega
          obtain ⟨b, off, hb, hix, hc⟩ := (INO.below BQ (Nat.le_refl _)).at t hto
          have HX : Hid (os[t]? = some os[t]) := List.getElem?_eq_getElem hto
          have WA := waits_any _ l os[t] wr (SlG.size QdV.bears HV BF (Nat.le_refl _))
          generalize os[t] = x at *
          go_wp2_with fail
          refine WA.mono ?_
          rintro e w5 ⟨z, rfl, FI, b5⟩
          have B5 := BQ.trans (b5.mono BQ.size)
          have BG := BT.trans (B5.mono BT.size)
          rcases FI with ⟨rfl, hni⟩ | ⟨i, rfl, hfi⟩
          · have HN2 : Hid (∀ (t' : Nat) y, t' < t + 1 → os[t']? = some y → ∀ (j : Nat) s, (strs l)[j]? = some s → s ≠ y) := fun t' y h1 h2 j s h3 => by
              by_cases e : t' = t
              · subst e
                rw [HX.out] at h2
                simp only [Option.some.injEq] at h2
                subst h2
                rintro rfl
                exact hni (List.mem_of_getElem? h3)
              · exact HNO.out t' y (by omega) h2 j s h3
            clear WA hni
            go_wp2_with fail
            go_roundw
            case rel => exact ⟨t + 1, by omega, by go_num, HN2.out, B5⟩
            case measure => simp [intOf]; omega
          · have NX : NextIs 4 last hand had (idsQ l) (strs l) (i : Int) := next_rank HNO0.out rfl (HORD.out.hit HX.out HNO.out hfi)
            have gi : (i : Int) ≥ 0 := by omega
            clear WA hfi
            go_wp2_with fail
            go_ret
            exact ⟨_, rfl, NX, BG⟩
        · have hte : t = had.length := by omega
          subst hte
          have NX : NextIs 4 last hand had (idsQ l) (strs l) (-1) := next_rank HNO0.out rfl (HORD.out.none fun t' y h => HNO.out t' y (by have := (List.getElem?_eq_some_iff.1 h).1; have := HOL.out; omega) h)
          go_wp2_with fail
          go_ret
          exact ⟨_, rfl, NX, BF⟩

set_option maxHeartbeats 4000000 in
theorem rnext_round (v : Value) (last hand : Int) (had : List Int) (ad : Option Addr) (cd : Nat) (l : List Qd) (w : World) (_hd : In w.heap.size w (.slice ad had.length cd) had) (hv : QdS w.heap.size w v l) (hl0 : 0 ≤ last) (hl1 : last < had.length) (hn : had.length ≤ 1048576) (hq : l.length ≠ 0) :
    Calls Try.prog 23 #[.int .i64 2, .agg #[.int .i64 last, .int .i64 hand, .slice ad had.length cd], v] w fun e w' => ∃ k, e = .returned (.int .i64 k) ∧ NextIs 2 last hand had (idsQ l) (strs l) k ∧ Below w.heap.size w w' := by
  have HV := hv
  obtain ⟨a, cap, rfl, h1, h2⟩ := hv.ex
  have BW0 := box_below w (.cells #[.int .i64 last, .int .i64 hand, .slice ad had.length cd] 51)
  have CX := Cells.new w #[.int .i64 last, .int .i64 hand, .slice ad had.length cd] 51
  have hz : w.heap.size < (w.alloc (.cells #[.int .i64 last, .int .i64 hand, .slice ad had.length cd] 51)).heap.size := by simp
  have HNO0 : Hid (¬ ((strs l).length = 0 ∨ had.length = 0)) := by show ¬ _; rw [strs_len]; omega
  have el : ((l.length : Int) == 0) = false := by rw [beq_eq_false_iff_ne]; omega
  have em : ((had.length : Int) == 0) = false := by rw [beq_eq_false_iff_ne]; omega
  have hn0 : ¬ (had.length : Int) = 0 := by omega
  clear hq hv
  have g2 : ((2 : Int) == 2) = true := rfl
  go_enter Try.func23, Try.ntmps23
  go_wp2_with fail
  generalize (w.alloc (.cells #[.int .i64 last, .int .i64 hand, .slice ad had.length cd] 51)) = w0 at *
  go_loopw [33] (fun i wq => ∃ k : Nat, k ≤ l.length ∧ i = .int .i64 k ∧ (∀ j : Nat, j < k → (idsQ l)[j]? ≠ some hand) ∧ Below w0.heap.size w0 wq) (fun i _ => l.length - (intOf i).toNat)
  case atStart => exact ⟨0, Nat.zero_le _, rfl, fun j hj => by omega, Below.refl _ _⟩
  case round =>
    obtain ⟨k, hk, rfl, hno, BS⟩ := hrel
    have HNO : Hid (∀ j : Nat, j < k → (idsQ l)[j]? ≠ some hand) := hno
    clear hno
    have BW := BW0.trans (BS.mono BW0.size)
    by_cases hlt : k < l.length
    · obtain ⟨b, off, da, dn, dc, hb, hix, x0, x1, x2, x3, x4, x5, x6, x7, x8, x9⟩ := QdS.at (SlG.below QdV.bears HV BW (Nat.le_refl _)) k hlt
      have y1 := (CX.below BS hz).cell 1 _ rfl
      have lX : w.heap.size < wr.heap.size := Nat.lt_of_lt_of_le hz BS.size
      have HID : Hid ((idsQ l)[k]? = some l[k].id) := idsQ_get hlt
      have HR := fun o => BS.alloc BS.size o
      have HB := fun o => BW.alloc BW.size o
      generalize l[k] = q at *
      cases hq : (q.id == hand) with
      | true =>
        have NX : NextIs 2 last hand had (idsQ l) (strs l) (k : Int) := next_hand HNO0.out rfl (by
          have h := find_some HNO.out (by rw [HID.out]; simpa using hq : (idsQ l)[k]? = some hand)
          rcases h with ⟨h, -⟩ | ⟨i, h, h'⟩
          · omega
          · obtain rfl : k = i := by omega
            exact h')
        go_wp2_with fail
        go_ret
        exact ⟨_, rfl, NX, HB _⟩
      | false =>
        have HN2 : Hid (∀ j : Nat, j < k + 1 → (idsQ l)[j]? ≠ some hand) := fun j hj => by
          by_cases e : j = k
          · subst e; rw [HID.out]; simpa using hq
          · exact HNO.out j (by omega)
        go_wp2_with fail
        go_roundw
        case rel => exact ⟨k + 1, by omega, by go_num, HN2.out, HR _⟩
        case measure => simp [intOf]; omega
    · have hkl : k = l.length := by omega
      subst hkl
      have HNH : Hid (hand ∉ idsQ l) := fun hm => by
        obtain ⟨j, hj⟩ := List.getElem?_of_mem hm
        exact HNO.out j (by simpa [idsQ] using (List.getElem?_eq_some_iff.1 hj).1) hj
      clear HNO BW
      generalize wr = wS at *
      go_wp2_with fail
      go_loopw [10, 11] (fun o i wq => ∃ (m : Nat) (a : Option Addr) (c : Nat), m ≤ had.length ∧ i = .int .i64 ((m : Int) + 1) ∧ o = .slice a m c ∧ wq.ownsRow wS.heap.size 3 1 (.slice a m c) m (cellsI (roundM last had.length m)) ∧ Below wS.heap.size wS wq) (fun _ i _ => had.length + 1 - (intOf i).toNat)
      case atStart => exact ⟨0, none, 0, Nat.zero_le _, rfl, rfl, ⟨by simp [roundM, cellsI], .inl ⟨rfl, rfl⟩⟩, Below.refl _ _⟩
      case round =>
        obtain ⟨m, ao, co, hm, rfl, rfl, own, BQ⟩ := hrel
        by_cases hlt : m < had.length
        · have y0 := (CX.below (BS.trans (BQ.mono BS.size)) hz).cell 0 _ rfl
          have ST := fun v' w' => int_app own BQ.size (.cells #[.int .i64 ((last + ((m : Int) + 1)) % (had.length : Int))] 3) (z := (last + ((m : Int) + 1)) % (had.length : Int)) (v' := v') (w' := w')
          have own2 := own.alloc (.cells #[.int .i64 ((last + ((m : Int) + 1)) % (had.length : Int))] 3)
          have hbs := BQ.size
          have gle : (m : Int) + 1 ≤ (had.length : Int) := by omega
          clear own
          go_wp2_with (at_builtin; refine wpList_append_rw Try.underlying49 Try.info3 rfl (by decide) _ rfl (.tmp 54) (.tmp 61) rfl wS.heap.size (.slice ao m co) m _ rfl own2 _ 1 [.int .i64 ((last + ((m : Int) + 1)) % (had.length : Int))] _ rfl (Rw.lit1 _ _ _) (by intro u hu; simp at hu; subst hu; rfl) (by unfold maxLen; omega) (by omega) (by simp; omega) ?_; intro v3 w3 own3 grow3 at3; obtain ⟨p3, q3, -⟩ := ST v3 w3 own3 grow3; obtain ⟨a3, c3, rfl⟩ := own_form own3; clear own3 grow3 at3)
          rw [← roundM_succ] at p3
          have Q3 := BQ.trans (q3.mono (Nat.le_refl _))
          go_roundw
          case rel => exact ⟨m + 1, a3, c3, by omega, by go_num, rfl, p3, Q3⟩
          case measure => simp [intOf]; omega
        · have hme : m = had.length := by omega
          subst hme
          have INO : In wr.heap.size wr (.slice ao had.length co) (roundM last had.length had.length) := In.own own (roundM_len _ _ _).symm (fun z hz => by obtain ⟨j, _, rfl⟩ := List.mem_map.1 hz; have := Int.emod_nonneg (last + ((j : Int) + 1)) (b := (had.length : Int)) (by omega); have := Int.emod_lt_of_pos (last + ((j : Int) + 1)) (b := (had.length : Int)) (by omega); unfold I64; omega)
          have HORD : Hid (Orders had.length (fBehind last) (roundM last had.length had.length)) := roundM_orders last had.length hl0 hl1
          have HOL : Hid ((roundM last had.length had.length).length = had.length) := roundM_len _ _ _
          have BT : Below w.heap.size w wr := BW0.trans ((BS.trans (BQ.mono BS.size)).mono BW0.size)
          generalize roundM last had.length had.length = os at *
          clear own BQ
          have gle : ¬ (had.length : Int) + 1 ≤ (had.length : Int) := by omega
          generalize wr = wT at *
          go_wp2_with fail
          go_loopw [116] (fun i wq => ∃ t : Nat, t ≤ had.length ∧ i = .int .i64 t ∧ (∀ (t' : Nat) y, t' < t → os[t']? = some y → ∀ (j : Nat) s, (strs l)[j]? = some s → s ≠ y) ∧ Below wT.heap.size wT wq) (fun i _ => had.length - (intOf i).toNat)
          case atStart => exact ⟨0, Nat.zero_le _, rfl, fun t' y h => by omega, Below.refl _ _⟩
          case round =>
            obtain ⟨t, ht, rfl, hno, BQ⟩ := hrel
            have HNO : Hid (∀ (t' : Nat) y, t' < t → os[t']? = some y → ∀ (j : Nat) s, (strs l)[j]? = some s → s ≠ y) := hno
            clear hno
            have BF := BT.trans (BQ.mono BT.size)
            by_cases hlt : t < had.length
            · have hto : t < os.length := by have := HOL.out; omega
              obtain ⟨b, off, hb, hix, hc⟩ := (INO.below BQ (Nat.le_refl _)).at t hto
              have HX : Hid (os[t]? = some os[t]) := List.getElem?_eq_getElem hto
              have WA := waits_any _ l os[t] wr (SlG.size QdV.bears HV BF (Nat.le_refl _))
              generalize os[t] = x at *
              go_wp2_with fail
              refine WA.mono ?_
              rintro e w5 ⟨z, rfl, FI, b5⟩
              have B5 := BQ.trans (b5.mono BQ.size)
              have BG := BT.trans (B5.mono BT.size)
              rcases FI with ⟨rfl, hni⟩ | ⟨i, rfl, hfi⟩
              · have HN2 : Hid (∀ (t' : Nat) y, t' < t + 1 → os[t']? = some y → ∀ (j : Nat) s, (strs l)[j]? = some s → s ≠ y) := fun t' y h1 h2 j s h3 => by
                  by_cases e : t' = t
                  · subst e
                    rw [HX.out] at h2
                    simp only [Option.some.injEq] at h2
                    subst h2
                    rintro rfl
                    exact hni (List.mem_of_getElem? h3)
                  · exact HNO.out t' y (by omega) h2 j s h3
                clear WA hni
                go_wp2_with fail
                go_roundw
                case rel => exact ⟨t + 1, by omega, by go_num, HN2.out, B5⟩
                case measure => simp [intOf]; omega
              · have NX : NextIs 2 last hand had (idsQ l) (strs l) (i : Int) := next_round HNO0.out (.inr ⟨rfl, HNH.out⟩) (HORD.out.hit HX.out HNO.out hfi)
                have gi : (i : Int) ≥ 0 := by omega
                clear WA hfi
                go_wp2_with fail
                go_ret
                exact ⟨_, rfl, NX, BG⟩
            · have hte : t = had.length := by omega
              subst hte
              have NX : NextIs 2 last hand had (idsQ l) (strs l) (-1) := next_round HNO0.out (.inr ⟨rfl, HNH.out⟩) (HORD.out.none fun t' y h => HNO.out t' y (by have := (List.getElem?_eq_some_iff.1 h).1; have := HOL.out; omega) h)
              go_wp2_with fail
              go_ret
              exact ⟨_, rfl, NX, BF⟩
end Go.Proofs.Ytnddejdndipddab
