/- The contracts of slices.Grow and slices.Concat of bytes. -/
import Derived.Test.YtnddejdndipddadPaD
import Derived.Lib.AppendZeros
set_option maxRecDepth 20000
namespace Go.Proofs.Ytnddejdndipddad
open Go.RowKit

theorem run_nil_h0 (wx : World) : (Instr.slice 38 (.slice none 0 0) none (some (.int .i64 0)) none).run Try.prog wx = .ok (.slice none 0 0) wx := run_re_h1 none 0 0 0 (Nat.le_refl _) wx

set_option maxHeartbeats 1000000 in
/-- Grow, of nil. -/
theorem grow_any (n : Nat) (w : World) (hn : n ≤ 140737488355328) :
    Calls Try.prog 89 #[.slice none 0 0, .int .i64 (n : Int)] w fun e w' => ∃ v', e = .returned v' ∧ w'.ownsRow w.heap.size 5 1 v' 0 [] ∧ Below w.heap.size w w' := by
  have h0 : ¬ (n : Int) < 0 := by omega
  by_cases hz : n = 0
  · subst hz
    go_enter Try.func89, Try.ntmps89
    go_wp2
    go_ret
    exact ⟨_, rfl, ⟨rfl, .inl ⟨rfl, rfl⟩⟩, Below.refl _ _⟩
  · obtain ⟨i0, hi, hz0, hz1, hz2⟩ := info_parts Try.info5
    have hr := fun ty => Lib.run_append_nil_zeros (P := Try.prog) w 38 3 ty 5 i0 (.int .u8 0) .i64 .i64 Try.underlying38 Try.underlying3 hi hz0 n (by omega) (by omega) (by omega) (by rw [hz2]; omega)
    have hge := grownCap_ge w n 0 5
    have hle := grownCap_le_maxLen w n 0 5 (by unfold maxLen; omega)
    generalize grownCap w n 0 5 = g at *
    have R := run_re_h1 (some ⟨w.heap.size, 0, none⟩) n g 0 (Nat.zero_le _)
    have R0 := run_nil_h0
    have BE : Below w.heap.size w (w.drew.alloc (.cells (Builtin.zeroCells (Value.int .u8 0).cells n ++ Builtin.zeroCells (Value.int .u8 0).cells (g - n)) 5)) := (⟨rfl, rfl, rfl, Nat.le_refl _, fun _ _ => rfl⟩ : Below w.heap.size w w.drew).alloc (Nat.le_refl _) _
    have OW : (w.drew.alloc (.cells (Builtin.zeroCells (Value.int .u8 0).cells n ++ Builtin.zeroCells (Value.int .u8 0).cells (g - n)) 5)).ownsRow w.heap.size 5 1 (.slice (some ⟨w.heap.size, 0, none⟩) 0 g) 0 [] :=
      World.ownsRow_made (size := 1) w.drew _ g (Nat.le_refl _) hle (by simp [Builtin.zeroCells, Value.cells]; omega)
    generalize w.drew.alloc (.cells (Builtin.zeroCells (Value.int .u8 0).cells n ++ Builtin.zeroCells (Value.int .u8 0).cells (g - n)) 5) = w1 at *
    have hpos : 0 < (n : Int) := by omega
    go_enter Try.func89, Try.ntmps89
    go_wp2_with (at_builtin; refine Lib.wpList_append_run _ rfl (.tmp 20) (.tmp 21) _ _ rfl _ _ rfl rfl _ _ (hr _) ?_)
    go_ret
    exact ⟨_, rfl, OW, BE⟩

theorem flatten_snoc {ls : List (List Int)} {k : Nat} (h : k < ls.length) : (ls.take (k + 1)).flatten = (ls.take k).flatten ++ ls[k] := by
  rw [List.take_succ_eq_append_getElem h, List.flatten_append, List.flatten_cons, List.flatten_nil, List.append_nil]
theorem flatten_le (ls : List (List Int)) (k : Nat) : (ls.take k).flatten.length ≤ ls.flatten.length := by
  have : ls.flatten = (ls.take k).flatten ++ (ls.drop k).flatten := by rw [← List.flatten_append, List.take_append_drop]
  rw [this, List.length_append]
  omega

/-- The bytes so far. -/
structure CcSt (w : World) (ls : List (List Int)) (k nb : Nat) (o : Value) (wr : World) : Prop where
  own : wr.ownsRow w.heap.size 5 1 o nb (cellsB (ls.take k).flatten)
  len : nb = (ls.take k).flatten.length
  isB : IsB (ls.take k).flatten
  bel : Below w.heap.size w wr

set_option maxHeartbeats 1000000 in
theorem concat_any (v : Value) (ls : List (List Int)) (w : World) (hv : BbS w.heap.size w v ls) (hl : ls.flatten.length ≤ 140737488355328) :
    Calls Try.prog 87 #[v] w fun e w' => ∃ v', e = .returned v' ∧ By w'.heap.size w' v' ls.flatten ∧ Below w.heap.size w w' := by
  have HV := hv
  obtain ⟨a, cap, rfl, h1, h2⟩ := hv.ex
  have FL := flatten_le ls
  go_enter Try.func87, Try.ntmps87
  go_wp2
  go_loop [3, 11] (fun t i => ∃ k : Nat, k ≤ ls.length ∧ i = .int .i64 k ∧ t = .int .i64 ((ls.take k).flatten.length : Nat)) (fun _ i => ls.length - (intOf i).toNat)
  case atStart => exact ⟨0, Nat.zero_le _, rfl, rfl⟩
  case round =>
    obtain ⟨k, hk, rfl, rfl⟩ := hrel
    by_cases hlt : k < ls.length
    · obtain ⟨b, off, d, hb, hix, hd, cd⟩ := BbS.at HV k hlt
      obtain ⟨ad, dcap, rfl, -, -⟩ := hd.ex
      have e1 : Hid ((ls.take (k + 1)).flatten.length = (ls.take k).flatten.length + ls[k].length) := by show _ = _; rw [flatten_snoc hlt, List.length_append]
      have e2 := FL k
      have e3 := FL (k + 1)
      have e4 : (ls.take k).flatten.length + ls[k].length ≤ ls.flatten.length := by rw [← e1.out]; exact e3
      clear e3 FL
      generalize (ls.take k).flatten.length = t at *
      have e5 : ¬ (t : Int) + (ls[k].length : Int) < 0 := by omega
      go_wp2_with fail
      go_round
      case rel => exact ⟨k + 1, by omega, by go_num, by rw [e1.out]; go_num⟩
      case measure => simp [intOf]; omega
    · have hke : k = ls.length := by omega
      subst hke
      rw [List.take_length]
      have GR := grow_any _ w hl
      generalize ls.flatten.length = tl at *
      go_wp2_with fail
      refine GR.mono ?_
      rintro e w1 ⟨v1, rfl, own1, b1⟩
      obtain ⟨a1, cap1, rfl⟩ := own_form own1
      have C0 : CcSt w ls 0 0 (.slice a1 0 cap1) w1 := ⟨by simpa [cellsB] using own1, by simp, fun z hz => by simp at hz, b1⟩
      clear own1 b1
      go_wp2_with fail
      go_loopw [6, 27] (fun o i wq => ∃ (j nb : Nat) (ab : Option Addr) (cb : Nat), j ≤ ls.length ∧ i = .int .i64 j ∧ o = .slice ab nb cb ∧ CcSt w ls j nb (.slice ab nb cb) wq) (fun _ i _ => ls.length - (intOf i).toNat)
      case atStart => exact ⟨0, 0, a1, cap1, Nat.zero_le _, rfl, rfl, C0⟩
      case round =>
        obtain ⟨j, nb, ab, cb, hj, rfl, rfl, CS⟩ := hrel
        by_cases hlt : j < ls.length
        · obtain ⟨b, off, d, hb, hix, hd, cd⟩ := BbS.at (SlG.below By.bears HV CS.bel (Nat.le_refl _)) j hlt
          have HD := hd
          obtain ⟨ad, dcap, rfl, -, -⟩ := hd.ex
          have hlen : nb + ls[j].length ≤ tl := by
            have := FL (j + 1)
            rw [flatten_snoc hlt, List.length_append, ← CS.len] at this
            exact this
          have hbs := CS.bel.size
          have ST : ∀ v' w', w'.ownsRow w.heap.size 5 1 v' (nb + ls[j].length) (cellsB (ls.take j).flatten ++ cellsB ls[j]) → wr.grownBy w' (Value.slice ab nb cb).ownBlock → CcSt w ls (j + 1) (nb + ls[j].length) v' w' := fun v' w' ho hg => by
            refine ⟨?_, ?_, ?_, CS.bel.grown hg hbs fun k hk => (CS.own.lt k hk).1⟩
            · rw [flatten_snoc hlt, cellsB_append]; exact ho
            · rw [flatten_snoc hlt, List.length_append, CS.len]
            · rw [flatten_snoc hlt]; exact CS.isB.append HD.2
          have O2 := CS.own
          clear CS hd
          go_wp2_with (at_builtin; refine wpList_append_rw Try.underlying38 Try.info5 rfl (by decide) _ rfl (.tmp 31) (.tmp 32) rfl w.heap.size (.slice ab nb cb) nb (cellsB (ls.take j).flatten) rfl O2 _ ls[j].length (cellsB ls[j]) _ rfl HD.1 (cellsB_one _) (by unfold maxLen; omega) (by omega) hbs ?_; intro v3 w3 own3 grow3 at3; have P3 := ST v3 w3 own3 grow3; obtain ⟨a3, cap3, rfl⟩ := own_form own3; clear own3 grow3 at3)
          go_roundw
          case rel => exact ⟨j + 1, nb + ls[j].length, a3, cap3, by omega, by go_num, rfl, P3⟩
          case measure => simp [intOf]; omega
        · have hje : j = ls.length := by omega
          subst hje
          have y1 : By wr.heap.size wr (.slice ab nb cb) ls.flatten := by
            have o1 := CS.own
            have o2 := CS.len
            have o3 := CS.isB
            rw [List.take_length] at o1 o2 o3
            subst o2
            exact ⟨Rw.own o1 (by rw [cellsB_length, Nat.mul_one]), o3⟩
          have BE := CS.bel
          go_wp2_with fail
          go_ret
          exact ⟨_, rfl, y1, BE⟩
end Go.Proofs.Ytnddejdndipddad
