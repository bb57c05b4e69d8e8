/- The walk of ReceiveOrder. -/
import Derived.Test.YtnddejdndipddadRoC
import Derived.Test.YtnddejdndipddadRoE
import Derived.Test.YtnddejdndipddadRcX
import Derived.BigQuiet
import Derived.Deep.MidRow
set_option maxRecDepth 20000
namespace Go.Proofs.Ytnddejdndipddad
open Go.RowKit

theorem enters_rtag (args : Array Value) (wx : World) : (callFunc 38 args).run Try.prog wx = .ok (.enter 38 args) wx := enters_body Try.func38 (by kernel_rfl) rfl args wx
theorem slice_str (s : ByteArray) (i j : Nat) (h1 : i ≤ j) (h2 : j ≤ s.size) (wx : World) : (Instr.slice 9 (.string s) (some (.int .i64 (i : Int))) (some (.int .i64 (j : Int))) none).run Try.prog wx = .ok (.string (s.extract i j)) wx := by
  have h3 : (0 : Int) ≤ (i : Int) := by omega
  have h4 : (i : Int) ≤ (j : Int) := by omega
  have h5 : (j : Int) ≤ s.size := by omega
  go_simp
/-- The j-th part of a string. -/
theorem part_at (s : ByteArray) (P j : Nat) (hP : 1 ≤ P) (hj : j < (splitM (nb s) P).length) : j * P < s.size ∧ nb (s.extract (j * P) (min (j * P + P) s.size)) = (splitM (nb s) P).getD j [] ∧ (decide (min (j * P + P) s.size = s.size) = decide (j + 1 = (splitM (nb s) P).length)) := by
  have hl := split_len (nb s) P
  rw [nb_len] at hl
  have hc := count_nn s.size (P : Int)
  have h1 := (count_lt (n := s.size) (p := P) j (by omega)).1 (by omega)
  have h2 := count_lt (n := s.size) (p := P) (j + 1) (by omega)
  have e1 : ((j : Int) * (P : Int)) = ((j * P : Nat) : Int) := by push_cast; rfl
  have e2 : (((j + 1 : Nat) : Int) * (P : Int)) = ((j * P + P : Nat) : Int) := by push_cast; rw [Int.add_mul, Int.one_mul]
  rw [e1] at h1
  rw [e2] at h2
  have h3 : j * P < s.size := by omega
  refine ⟨h3, ?_, ?_⟩
  · rw [nb_extract, List.getD_eq_getElem?_getD, List.getElem?_eq_getElem hj, split_get]
    simp only [Option.getD_some, Int.toNat_natCast]
    by_cases hq : j * P + P ≤ s.size
    · rw [Nat.min_eq_left hq, Nat.add_sub_cancel_left]
    · rw [Nat.min_eq_right (by omega), List.take_of_length_le (by rw [List.length_drop, nb_len]; omega), List.take_of_length_le (by rw [List.length_drop, nb_len]; omega)]
  · rw [decide_eq_decide]
    constructor
    · intro h
      have : ¬ (((j + 1 : Nat) : Int) < countM s.size P) := fun g => by have := h2.1 g; omega
      omega
    · intro h
      have : ¬ ((j * P + P : Nat) : Int) < s.size := fun g => by have := h2.2 g; omega
      omega
/-- How far the parts so far go. -/
theorem part_end (s : ByteArray) (P j : Nat) (hP : 1 ≤ P) (hj : ¬ j < (splitM (nb s) P).length) : min (j * P) s.size = s.size := by
  have hl := split_len (nb s) P
  rw [nb_len] at hl
  have hc := count_nn s.size (P : Int)
  have h2 := count_lt (n := s.size) (p := P) j (by omega)
  have e1 : ((j : Int) * (P : Int)) = ((j * P : Nat) : Int) := by push_cast; rfl
  rw [e1] at h2
  have : ¬ ((j * P : Nat) : Int) < s.size := fun g => by have := h2.2 g; omega
  omega

set_option maxHeartbeats 8000000 in
theorem order_walk (vm : Value) (ms : List ByteArray) (part : Int) (vo : Value) (order : List Int) (w : World) (hm : StrS w.heap.size w vm ms) (ho : In w.heap.size w vo order) :
    Calls Try.prog 8 #[vm, .int .i64 part, vo] w fun e w' => e = .returned (.bool true) ∧ Below w.heap.size w w' := by
  obtain ⟨ma, mc, rfl, -, -⟩ := hm.ex
  obtain ⟨oa, oc, rfl, ho1, ho2⟩ := ho.ex
  have hol : order.length ≤ 9223372036854775807 := by omega
  clear ho1 ho2
  have HM : Hid _ := hm
  have HO : Hid _ := ho
  clear hm ho
  go_enter Try.func8, Try.ntmps8
  go_wp2_with fail
  refine (alive8_any w).mono ?_
  rintro e w1 ⟨rfl, b1⟩
  by_cases p1 : part < 1
  · go_wp2_with fail
    go_ret
    exact ⟨rfl, b1⟩
  by_cases p2 : part > 16
  · go_wp2_with fail
    go_ret
    exact ⟨rfl, b1⟩
  by_cases p3 : (ms.length : Int) > 8
  · go_wp2_with fail
    go_ret
    exact ⟨rfl, b1⟩
  obtain ⟨P, rfl⟩ : ∃ P : Nat, part = (P : Int) := ⟨part.toNat, by omega⟩
  have hP1 : 1 ≤ P := by omega
  have hP2 : P ≤ 16 := by omega
  have hml : ms.length ≤ 8 := by omega
  have CG := config_any w1
  go_upto_region 7 with (go_at_call 37; refine CG.mono ?_; rintro e w2 ⟨rfl, b2⟩)
  have C7 : Cells w2.heap.size (w2.alloc (.cells #[.int .i64 2, .int .i64 4, .int .i64 60, .int .i64 1, .int .i64 1, .int .i64 5, .int .i64 7] 36)) [.int .i64 2, .int .i64 4, .int .i64 60, .int .i64 1, .int .i64 1, .int .i64 5, .int .i64 7] := Cells.new w2 #[.int .i64 2, .int .i64 4, .int .i64 60, .int .i64 1, .int .i64 1, .int .i64 5, .int .i64 7] 36
  have B7 : Below w2.heap.size w2 (w2.alloc (.cells #[.int .i64 2, .int .i64 4, .int .i64 60, .int .i64 1, .int .i64 1, .int .i64 5, .int .i64 7] 36)) := box_below w2 _
  have hz7 : w2.heap.size < (w2.alloc (.cells #[.int .i64 2, .int .i64 4, .int .i64 60, .int .i64 1, .int .i64 1, .int .i64 5, .int .i64 7] 36)).heap.size := by simp
  have BW2 : Below w.heap.size w w2 := b1.trans (b2.mono b1.size)
  generalize w2.alloc (.cells #[.int .i64 2, .int .i64 4, .int .i64 60, .int .i64 1, .int .i64 1, .int .i64 5, .int .i64 7] 36) = w3 at *
  have BW3 : Below w.heap.size w w3 := BW2.trans (B7.mono BW2.size)
  have hw3 := BW3.size
  clear p1 p2 p3 CG B7 b1 b2 BW2
  go_wp2_with fail
  go_loopw [8, 38] (fun s8 i wr => ∃ (k : Nat) (a : Option Addr) (cc : Nat), k ≤ ms.length ∧ i = .int .i64 k ∧ s8 = .slice a (allO P (ms.map nb) k).length cc ∧ Hid (∀ x ∈ ms.take k, 1 ≤ x.size ∧ x.size ≤ 30) ∧ Hid (CkRow w3.heap.size wr (.slice a (allO P (ms.map nb) k).length cc) (allO P (ms.map nb) k)) ∧ Below w3.heap.size w3 wr) (fun _ i _ => ms.length - (intOf i).toNat)
  case atStart => exact ⟨0, none, 0, Nat.zero_le _, rfl, rfl, fun x hx => by simp at hx, GRow.nil, Below.refl _ _⟩
  case round =>
    obtain ⟨k, a, cc, hk, rfl, rfl, HSZ, HROW, BR⟩ := hrel
    have szr := BR.size
    by_cases hlt : k < ms.length
    · obtain ⟨b, off, hbb, hix, hcell⟩ := StrS.at (SlG.below StV.bears HM.out (BW3.trans (BR.mono hw3)) (Nat.le_refl _)) k hlt
      have HTK : Hid (ms.take (k + 1) = ms.take k ++ [ms[k]]) := List.take_succ_eq_append_getElem hlt
      have HAL : Hid (allO P (ms.map nb) (k + 1) = allO P (ms.map nb) k ++ msgO P k (allO P (ms.map nb) k).length (nb ms[k]) (splitM (nb ms[k]) P).length) := by
        show _ = _
        rw [allO]
        have : (ms.map nb).getD k [] = nb ms[k] := by simp [hlt]
        rw [this]
      have HALL : Hid ((allO P (ms.map nb) k).length ≤ 30 * k) := by
        have hx := HSZ.out
        have e : allO P (ms.map nb) k = allO P ((ms.take k).map nb) k := by
          have go : ∀ n, n ≤ k → allO P (ms.map nb) n = allO P ((ms.take k).map nb) n := by
            intro n
            induction n with
            | zero => intro _; rfl
            | succ n ih =>
              intro hn
              rw [allO, allO, ih (by omega)]
              have : (ms.map nb).getD n [] = ((ms.take k).map nb).getD n [] := by
                simp only [List.getD_eq_getElem?_getD, List.getElem?_map, List.getElem?_take]
                rw [if_pos (by omega)]
              rw [this]
          exact go k (Nat.le_refl _)
        show _ ≤ _
        rw [e]
        refine (allO_few P ((ms.take k).map nb) (fun x hx' => ?_) (by omega) k (by simp; omega)).1
        obtain ⟨s, hs, rfl⟩ := List.mem_map.1 hx'
        rw [nb_len]
        exact hx s hs
      have hN := HALL.out
      have HL : Hid ((allO P (ms.map nb) k).length = (allO P (ms.map nb) k).length) := rfl
      generalize ms[k] = m at *
      generalize hLL : allO P (ms.map nb) k = L at *
      by_cases s1 : (m.size : Int) < 1
      · go_wp2_with fail
        go_ret
        exact ⟨rfl, BW3.trans (BR.mono hw3)⟩
      by_cases s2 : (m.size : Int) > 30
      · go_wp2_with fail
        go_ret
        exact ⟨rfl, BW3.trans (BR.mono hw3)⟩
      have hm1 : 1 ≤ m.size := by omega
      have hm2 : m.size ≤ 30 := by omega
      have HF := split_few (nb m) P (by rw [nb_len]; exact hm1) (by omega)
      rw [nb_len] at HF
      clear HL HALL
      have hsz : w2.heap.size < wr.heap.size := by omega
      have C7r : Hid _ := C7.below BR hz7
      go_wp2_with fail
      clear hcell hix s1 s2
      generalize wr.heap.size = N0 at *
      go_loopw [8, 11, 12] (fun s8 s11 s12 wr => ∃ (j : Nat) (a : Option Addr) (cc : Nat), j ≤ (splitM (nb m) P).length ∧ s11 = .int .i64 (min (j * P) m.size : Nat) ∧ s12 = .int .i64 j ∧ s8 = .slice a (L.length + j) cc ∧ Hid (CkRow w3.heap.size wr (.slice a (L.length + j) cc) (L ++ msgO P k L.length (nb m) j)) ∧ Below w3.heap.size w3 wr) (fun _ s11 _ _ => m.size - (intOf s11).toNat)
      case atStart => exact ⟨0, a, cc, Nat.zero_le _, by simp, rfl, rfl, by simpa [msgO] using HROW, BR⟩
      case round =>
        obtain ⟨j, a, cc, hj, rfl, rfl, rfl, HROW2, BR2⟩ := hrel
        by_cases hlj : j < (splitM (nb m) P).length
        · obtain ⟨q1, q2, q3⟩ := part_at m P j hP1 hlj
          have hmin : min (j * P) m.size = j * P := by omega
          have hjs : (j + 1) * P = j * P + P := Nat.succ_mul j P
          rw [hmin]
          have HSN : Hid (msgO P k L.length (nb m) (j + 1) = msgO P k L.length (nb m) j ++ [ckO k (L.length + j) j (splitM (nb m) P).length ((splitM (nb m) P).getD j [])]) := msgO_snoc P k L.length (nb m) j
          generalize hto : min (j * P + P) m.size = tt at *
          have HTO : Hid (min ((j + 1) * P) m.size = tt) := by show _ = _; rw [hjs]; exact hto
          generalize j * P = q0 at *
          have hto1 : q0 ≤ tt := by omega
          have hto2 : tt ≤ m.size := by omega
          have HQ2 : Hid _ := q2
          have HQ3 : Hid _ := q3
          have hlt0 : q0 < tt := by omega
          have hif : (if (m.size : Int) < (q0 : Int) + (P : Int) then (m.size : Int) else (q0 : Int) + (P : Int)) = (tt : Int) := by split <;> omega
          clear q2 q3 hmin hto hjs
          go_upto_region 16 with fail
          try rw [hif]
          have szr2 := BR2.size
          have hsz2 : w2.heap.size < wr.heap.size := by omega
          have C7q := C7.below BR2 hz7
          have c6 := C7q.cell 6 _ rfl
          have TA : ∀ wx, Calls Try.prog 38 #[.int .i64 (7 + ((L.length : Int) + (j : Int)))] wx fun e w' => ∃ v, e = .returned v ∧ v = .int .i64 (7 + ((L.length : Int) + (j : Int))) ∧ w' = wx := fun wx => (rtag_any _ wx).mono fun e w' ⟨h1, h2⟩ => ⟨_, h1, by rw [show (7 + ((L.length : Int) + (j : Int))) % 65536 = 7 + ((L.length : Int) + (j : Int)) by omega], h2⟩
          have hLb : L.length ≤ 240 := by omega
          have hjb : j ≤ 30 := by omega
          have WR : IntKind.i64.wrap (7 + ((L.length : Int) + (j : Int))) = 7 + ((L.length : Int) + (j : Int)) := by simp [IntKind.wrap, IntKind.signed, IntKind.bits]; omega
          have SL := slice_str m q0 tt hto1 hto2
          have hxs : (m.extract q0 tt).size ≤ 1048576 := by rw [ByteArray.size_extract]; omega
          have hx1 : ((m.extract q0 tt).size : Int) = (tt : Int) - (q0 : Int) := by rw [ByteArray.size_extract]; omega
          generalize m.extract q0 tt = sx at *
          have CV : ∀ wx, (convert 9 38 (.string sx)).run Try.prog wx = _ := fun wx => run_bytes_of_string wx 9 38 5 sx Try.underlying9 Try.underlying38 Try.underlying5
          clear hif
          obtain ⟨vs, hAs, hOs⟩ := HROW2.out
          have HAs : Hid (All2 (CcI (CkSet w3.heap.size wr (.slice a (L.length + j) cc)) wr) vs (L ++ msgO P k L.length (nb m) j)) := hAs
          have HOs : Hid (wr.ownsRow w3.heap.size 42 11 (.slice a (L.length + j) cc) (L ++ msgO P k L.length (nb m) j).length (flatV vs)) := hOs
          clear hAs hOs
          obtain ⟨st, hst⟩ : ∃ st : Int, st = ((k % 2 : Nat) : Int) := ⟨_, rfl⟩
          have HST : Hid (st = ((k % 2 : Nat) : Int)) := hst
          have KM : (k : Int).tmod 2 = st := by rw [hst, Int.tmod_eq_emod_of_nonneg (by omega)]; omega
          obtain ⟨sm, hsm⟩ : ∃ sm : Int, sm = ((k / 2 : Nat) : Int) := ⟨_, rfl⟩
          have HSM : Hid (sm = ((k / 2 : Nat) : Int)) := hsm
          have KQ : IntKind.i64.wrap ((k : Int) / 2) = sm := by rw [hsm]; simp [IntKind.wrap, IntKind.signed, IntKind.bits]; omega
          obtain ⟨lb, hlb⟩ : ∃ lb : Bool, ((tt : Int) == (m.size : Int)) = lb := ⟨_, rfl⟩
          have HLB : Hid (lb = decide (j + 1 = (splitM (nb m) P).length)) := by
            show _ = _
            rw [← HQ3.out, ← hlb, Bool.eq_iff_iff]
            simp
            omega
          have hlen : (L ++ msgO P k L.length (nb m) j).length = L.length + j := by rw [List.length_append, msgO_len]
          have HCK : Hid (∀ d s q : Value, (ckVal (ckO k (L.length + j) j (splitM (nb m) P).length ((splitM (nb m) P).getD j [])) d s q).cells.toList = [.int .i64 1, .int .i64 (7 + ((L.length : Int) + (j : Int))), .int .i64 st, .int .i64 sm, .int .i64 j, .bool lb, .bool true, d, s, .int .i64 0, q]) := fun d s q => by
            rw [HST.out, HSM.out, HLB.out]
            simp [ckVal, ckO, Value.cells]
          clear hst hsm
          have FINAL : Hid (∀ (v' : Value) (w' : World), w'.ownsRow w3.heap.size 42 11 v' (L.length + j + 1) (flatV vs ++ [.int .i64 1, .int .i64 (7 + ((L.length : Int) + (j : Int))), .int .i64 st, .int .i64 sm, .int .i64 j, .bool lb, .bool true, .slice (some ⟨wr.heap.size, 0, none⟩) sx.size (grownCap wr.drew sx.size 0 5), .slice none 0 0, .int .i64 0, .slice none 0 0]) → ((wr.drew.drew.alloc (.cells (bytesRow sx (grownCap wr.drew sx.size 0 5)) 5 ((bytesRow sx (grownCap wr.drew sx.size 0 5)).size, (bytesRow sx (grownCap wr.drew sx.size 0 5)).size + 1))).alloc (.cells #[.int .i64 1, .int .i64 (7 + ((L.length : Int) + (j : Int))), .int .i64 st, .int .i64 sm, .int .i64 j, .bool lb, .bool true, .slice (some ⟨wr.heap.size, 0, none⟩) sx.size (grownCap wr.drew sx.size 0 5), .slice none 0 0, .int .i64 0, .slice none 0 0] 42)).grownBy w' (Value.slice a (L.length + j) cc).ownBlock → (v'.ownBlock = (Value.slice a (L.length + j) cc).ownBlock ∨ v'.ownBlock = some ((wr.drew.drew.alloc (.cells (bytesRow sx (grownCap wr.drew sx.size 0 5)) 5 ((bytesRow sx (grownCap wr.drew sx.size 0 5)).size, (bytesRow sx (grownCap wr.drew sx.size 0 5)).size + 1))).alloc (.cells #[.int .i64 1, .int .i64 (7 + ((L.length : Int) + (j : Int))), .int .i64 st, .int .i64 sm, .int .i64 j, .bool lb, .bool true, .slice (some ⟨wr.heap.size, 0, none⟩) sx.size (grownCap wr.drew sx.size 0 5), .slice none 0 0, .int .i64 0, .slice none 0 0] 42)).heap.size) → ∃ (a' : Option Addr) (c' : Nat), v' = .slice a' (L.length + j + 1) c' ∧ CkRow w3.heap.size w' (.slice a' (L.length + j + 1) c') (L ++ msgO P k L.length (nb m) (j + 1)) ∧ Below w3.heap.size w3 w') := fun v' w' own g ha => by
            have BA : Below wr.heap.size wr (wr.drew.drew.alloc (.cells (bytesRow sx (grownCap wr.drew sx.size 0 5)) 5 ((bytesRow sx (grownCap wr.drew sx.size 0 5)).size, (bytesRow sx (grownCap wr.drew sx.size 0 5)).size + 1))) := (below_drew' (below_drew' (Below.refl _ _))).alloc (Nat.le_refl _) _
            have hzA : wr.heap.size + 1 = (wr.drew.drew.alloc (.cells (bytesRow sx (grownCap wr.drew sx.size 0 5)) 5 ((bytesRow sx (grownCap wr.drew sx.size 0 5)).size, (bytesRow sx (grownCap wr.drew sx.size 0 5)).size + 1))).heap.size := by simp
            have hO := HOs.out
            have hA : All2 (CcI (CkSet w3.heap.size (wr.drew.drew.alloc (.cells (bytesRow sx (grownCap wr.drew sx.size 0 5)) 5 ((bytesRow sx (grownCap wr.drew sx.size 0 5)).size, (bytesRow sx (grownCap wr.drew sx.size 0 5)).size + 1))) (.slice a (L.length + j) cc)) (wr.drew.drew.alloc (.cells (bytesRow sx (grownCap wr.drew sx.size 0 5)) 5 ((bytesRow sx (grownCap wr.drew sx.size 0 5)).size, (bytesRow sx (grownCap wr.drew sx.size 0 5)).size + 1)))) vs (L ++ msgO P k L.length (nb m) j) := HAs.out.imp fun _ _ h => CcI.holds.mono (CcI.holds.keep h (toKeep BA fun k hk => hk.2.1)) fun k hk => ⟨hk.1, by have := hk.2.1; omega, hk.2.2⟩
            have BYS := By.of_string wr.drew sx ((bytesRow sx (grownCap wr.drew sx.size 0 5)).size, (bytesRow sx (grownCap wr.drew sx.size 0 5)).size + 1) hxs
            have hne : (Value.slice a (L.length + j) cc).ownBlock ≠ some wr.heap.size := fun e => by have := (hO.lt _ e).2; omega
            have hc : SnL (CkSet w3.heap.size (wr.drew.drew.alloc (.cells (bytesRow sx (grownCap wr.drew sx.size 0 5)) 5 ((bytesRow sx (grownCap wr.drew sx.size 0 5)).size, (bytesRow sx (grownCap wr.drew sx.size 0 5)).size + 1))) (.slice a (L.length + j) cc)) (wr.drew.drew.alloc (.cells (bytesRow sx (grownCap wr.drew sx.size 0 5)) 5 ((bytesRow sx (grownCap wr.drew sx.size 0 5)).size, (bytesRow sx (grownCap wr.drew sx.size 0 5)).size + 1))) (ckO k (L.length + j) j (splitM (nb m) P).length ((splitM (nb m) P).getD j [])) (.slice (some ⟨wr.heap.size, 0, none⟩) sx.size (grownCap wr.drew sx.size 0 5)) (.slice none 0 0) (.slice none 0 0) := by
              refine ⟨?_, Sl.nil' _ _, Rw.nil 3 _ _, ?_, fun b off sp n c e _ => by simp at e, fun b off sp n c e _ => by simp at e⟩
              · show By _ _ _ ((splitM (nb m) P).getD j [])
                rw [← HQ2.out]
                exact BYS.mono (by rw [← hzA]; exact Nat.le_refl _)
              · intro b off sp n c e _
                simp only [Value.slice.injEq, Option.some.injEq, Addr.mk.injEq] at e
                obtain ⟨⟨rfl, -, -⟩, -, -⟩ := e
                exact ⟨szr2, by omega, hne⟩
            have own' : w'.ownsRow w3.heap.size 42 11 v' ((L ++ msgO P k L.length (nb m) j).length + 1) (flatV vs ++ (ckVal (ckO k (L.length + j) j (splitM (nb m) P).length ((splitM (nb m) P).getD j [])) (.slice (some ⟨wr.heap.size, 0, none⟩) sx.size (grownCap wr.drew sx.size 0 5)) (.slice none 0 0) (.slice none 0 0)).cells.toList) := by rw [hlen, HCK.out]; exact own
            obtain ⟨g1, g2⟩ := CkRow.app hA hc own' g ha
            obtain ⟨a', c', e⟩ := own_form own
            subst e
            refine ⟨a', c', rfl, ?_, ?_⟩
            · rw [HSN.out, ← List.append_assoc]; exact g1
            · exact BR2.trans (BA.mono szr2 |>.trans (g2.below fun k hk => ⟨by omega, fun e => by have := (hO.lt _ e).1; omega⟩))
          go_cut [8] from 63 to 86 (fun s8 wx => ∃ (a' : Option Addr) (c' : Nat), s8 = .slice a' (L.length + j + 1) c' ∧ Hid (CkRow w3.heap.size wx (.slice a' (L.length + j + 1) c') (L ++ msgO P k L.length (nb m) (j + 1))) ∧ Below w3.heap.size w3 wx)
          case first =>
            have OWN : ∀ wx, Below wr.heap.size wr wx → wx.ownsRow w3.heap.size 42 11 (.slice a (L.length + j) cc) (L.length + j) (flatV vs) := fun wx hx => by
              have := own_of_block HOs.out fun k hk => hx.block k (HOs.out.lt k hk).2
              rw [hlen] at this
              exact this
            have hWA : (wr.drew.drew.alloc (.cells (bytesRow sx (grownCap wr.drew sx.size 0 5)) 5 ((bytesRow sx (grownCap wr.drew sx.size 0 5)).size, (bytesRow sx (grownCap wr.drew sx.size 0 5)).size + 1))).heap.size = wr.heap.size + 1 := by simp
            have RW1 := Rw.oneN (wr.drew.drew.alloc (.cells (bytesRow sx (grownCap wr.drew sx.size 0 5)) 5 ((bytesRow sx (grownCap wr.drew sx.size 0 5)).size, (bytesRow sx (grownCap wr.drew sx.size 0 5)).size + 1))) [.int .i64 1, .int .i64 (7 + ((L.length : Int) + (j : Int))), .int .i64 st, .int .i64 sm, .int .i64 j, .bool lb, .bool true, .slice (some ⟨wr.heap.size, 0, none⟩) sx.size (grownCap wr.drew sx.size 0 5), .slice none 0 0, .int .i64 0, .slice none 0 0] 42 11 rfl
            rw [hWA] at RW1
            clear hWA
            go_region_law (first
              | (refine step_call1 rfl 38 (.tmp 68) _ rfl (.int .i64 (7 + ((L.length : Int) + (j : Int)))) rfl rfl enters_rtag _ (TA _) ?_; rintro _ wt ⟨rfl, hwt⟩; subst hwt)
              | (refine step_append_rw Try.underlying37 Try.infoCk rfl (by decide) rfl (.tmp 63) (.tmp 85) rfl w3.heap.size (.slice a (L.length + j) cc) (L.length + j) (flatV vs) rfl (OWN _ (((below_drew' (below_drew' (Below.refl _ _))).alloc (Nat.le_refl _) _).alloc (by simp) _)) _ 1 [.int .i64 1, .int .i64 (7 + ((L.length : Int) + (j : Int))), .int .i64 st, .int .i64 sm, .int .i64 j, .bool lb, .bool true, .slice (some ⟨wr.heap.size, 0, none⟩) sx.size (grownCap wr.drew sx.size 0 5), .slice none 0 0, .int .i64 0, .slice none 0 0] _ rfl RW1 (List.all_eq_true.1 rfl) (by unfold maxLen; omega) (by omega) (by simp; omega) ?_; intro v' w' own g ha; obtain ⟨a', c', rfl, RW', BE'⟩ := FINAL.out v' w' own g ha))
            all_goals
              go_wp2_with fail
              go_simp
              go_meet
              exact ⟨a', c', rfl, RW', BE'⟩
          case rest =>
            obtain ⟨a', c', rfl, RW', BE'⟩ := hcut
            clear FINAL HAs HOs HCK TA SL CV WR KM KQ C7q c6 hlb
            go_wp2_with fail
            go_roundw
            case rel => exact ⟨j + 1, a', c', by omega, by rw [HTO.out], by go_num, rfl, RW', BE'⟩
            case measure => simp [intOf]; omega
        · have hje : j = (splitM (nb m) P).length := by omega
          have hend := part_end m P j hP1 hlj
          rw [hend]
          subst hje
          go_wp2_with fail
          go_roundw
          case rel => exact ⟨k + 1, a, cc, by omega, by go_num, by rw [HAL.out, List.length_append, msgO_len], by
            show ∀ x ∈ ms.take (k + 1), _
            rw [HTK.out]
            intro x hx
            rcases List.mem_append.1 hx with hx | hx
            · exact HSZ.out x hx
            · simp at hx; subst hx; exact ⟨hm1, hm2⟩, by
            show CkRow _ _ (.slice a _ cc) _
            rw [HAL.out, List.length_append, msgO_len]
            exact HROW2.out, BR2⟩
          case measure => simp [intOf]; omega
    · have hke : k = ms.length := by omega
      subst hke
      have HSENT : Hid (SentO (allO P (ms.map nb) ms.length) (cntO ms.length) (datO (ms.map nb))) := by
        have := sentO P (ms.map nb) (fun x hx => by
          obtain ⟨s, hs, rfl⟩ := List.mem_map.1 hx
          have := HSZ.out s (by rw [List.take_length]; exact hs)
          rw [nb_len]; exact this) (by omega) (by simpa using hml)
        rw [List.length_map] at this
        exact this
      have BW4 : Below w.heap.size w wr := BW3.trans (BR.mono hw3)
      have hN : (allO P (ms.map nb) ms.length).length ≤ 1000 := HSENT.out.len
      have hz4 : w2.heap.size < wr.heap.size := by omega
      have HC7 : Hid (Cells w2.heap.size w3 [.int .i64 2, .int .i64 4, .int .i64 60, .int .i64 1, .int .i64 1, .int .i64 5, .int .i64 7]) := C7
      clear HSZ C7
      generalize allO P (ms.map nb) ms.length = cs0 at *
      obtain ⟨N, hNN⟩ : ∃ N, cs0.length = N := ⟨_, rfl⟩
      have HNN : Hid (cs0.length = N) := hNN
      rw [hNN] at HROW hN ⊢
      clear hNN
      go_wp2_with fail
      generalize wr = w4 at *
      go_loopw [91] (fun i wr => ∃ (i' : Nat) (cs : List Ck), i' ≤ order.length ∧ i = .int .i64 i' ∧ Hid (cs0.Perm cs) ∧ Hid (cs.length = N) ∧ Hid (CkRow w3.heap.size wr (.slice a N cc) cs) ∧ Below w3.heap.size w3 wr) (fun i _ => order.length - (intOf i).toNat)
      case atStart => exact ⟨0, cs0, Nat.zero_le _, rfl, List.Perm.refl _, HNN, HROW, BR⟩
      case round =>
        obtain ⟨i, cs, hi, rfl, HP, HLN, HR3, BR3⟩ := hrel
        by_cases hli : i < order.length
        · obtain ⟨ob, oo, hob, hox, hoc⟩ := In.at (In.below HO.out (BW3.trans (BR3.mono hw3)) (Nat.le_refl _)) i hli
          have hoi : (i : Int) < (order.length : Int) := by omega
          generalize order[i] = z at *
          by_cases c1 : (i : Int) < (N : Int)
          · by_cases c2 : z ≥ 0
            · by_cases c3 : z < (N : Int)
              · obtain ⟨n, rfl⟩ : ∃ n : Nat, z = (n : Int) := ⟨z.toNat, by omega⟩
                have hiN : i < N := by omega
                have hnN : n < N := by omega
                obtain ⟨hic, hnc⟩ : i < cs.length ∧ n < cs.length := by rw [HLN.out]; exact ⟨hiN, hnN⟩
                obtain ⟨g, rfl⟩ : ∃ g, a = some ⟨g, 0, none⟩ := by
                  obtain ⟨g, cap, u, e, -⟩ := GRow.at CcI.holds (CkRow.drewn HR3.out) i hic
                  simp only [Value.slice.injEq] at e
                  exact ⟨g, e.1⟩
                obtain ⟨ci, cj, ra, rb, si, sj, oi, oj, th1, th2, hbg, hgs, TN0⟩ := CkRow.swap (CkRow.drewn HR3.out) (i := i) (j := n) hic hnc
                have PERM : Hid _ := HP.out.trans (swap_perm' (l := cs) (i := i) (j := n) hic hnc)
                have HLEN : Hid (((cs.set i cs[n]).set n cs[i]).length = N) := by show _ = _; rw [List.length_set, List.length_set]; exact HLN.out
                have TN : Hid _ := TN0
                have BN : Below w3.heap.size w3 ((wr.drew.setCells g (i * 11) cj.toList).setCells g (n * 11) ci.toList) := Below.setCells hbg _ _ (Below.setCells hbg _ _ (BR3.trans (below_drew' (Below.refl _ _))))
                obtain ⟨dd, hu, hd⟩ := rowCk
                have I1 := run_ck_at g N cc i hiN
                have I2 := run_ck_at g N cc n hnN
                have LI : (Instr.loadAt 42 (.pointer (some ⟨g, i * 11, none⟩))).run Try.prog wr.drew = .ok (.agg ci) wr.drew := by have := run_loadAt_mid (P := Try.prog) wr.drew g (i * 11) 42 ci.toList dd ra hu hd (by rw [Try.sizeCk]; simp [si]); simpa using this
                have LJ : (Instr.loadAt 42 (.pointer (some ⟨g, n * 11, none⟩))).run Try.prog wr.drew = .ok (.agg cj) wr.drew := by have := run_loadAt_mid (P := Try.prog) wr.drew g (n * 11) 42 cj.toList dd rb hu hd (by rw [Try.sizeCk]; simp [sj]); simpa using this
                have SI : (Instr.storeAt 42 (.pointer (some ⟨g, i * 11, none⟩)) (.agg cj)).run Try.prog wr.drew = .ok () (wr.drew.setCells g (i * 11) cj.toList) := run_storeAt_mid (P := Try.prog) wr.drew g (i * 11) 42 cj (by rw [sj]; exact th1) (by rw [Try.sizeCk, sj]) oj
                have SJ : (Instr.storeAt 42 (.pointer (some ⟨g, n * 11, none⟩)) (.agg ci)).run Try.prog (wr.drew.setCells g (i * 11) cj.toList) = .ok () ((wr.drew.setCells g (i * 11) cj.toList).setCells g (n * 11) ci.toList) := run_storeAt_mid (P := Try.prog) _ g (n * 11) 42 ci (by rw [si]; exact th2) (by rw [Try.sizeCk, si]) oi
                generalize (cs.set i cs[n]).set n cs[i] = cs2 at *
                clear TN0 ra rb th1 th2 hu hd dd oi oj si sj HP HLN HR3 hic hnc
                go_upto_region 23 with fail
                refine wp_region_any (by kernel_rfl) ?_
                try (change wpAny _ _ _ _ _ _ _ (World.drew _))
                refine wpAny_take (i := 0) (v := ?v0) rfl (by kernel_rfl) (by kernel_rfl) (by kernel_rfl) (fun _ _ _ h => h) (Or.inl ⟨by rfl, ?h0⟩) ?_
                case h0 => (intro w; go_simp; try with_reducible rfl)
                refine wpAny_take (i := 1) (v := ?v1) rfl (by kernel_rfl) (by kernel_rfl) (by kernel_rfl) (fun _ _ _ h => h) (Or.inl ⟨by rfl, ?h1⟩) ?_
                case h1 => (intro w; go_simp; try with_reducible rfl)
                refine wpAny_take (i := 2) (v := ?v2) rfl (by kernel_rfl) (by kernel_rfl) (by kernel_rfl) (fun _ _ _ h => h) (Or.inl ⟨by rfl, ?h2⟩) ?_
                case h2 => (intro w; go_simp; try with_reducible rfl)
                refine wpAny_take (i := 3) (v := ?v3) rfl (by kernel_rfl) (by kernel_rfl) (by kernel_rfl) (fun _ _ _ h => h) (Or.inl ⟨by rfl, ?h3⟩) ?_
                case h3 => (intro w; go_simp; try with_reducible rfl)
                go_simp
                refine wpAny_take (i := 4) (v := ?v4) rfl (by kernel_rfl) (by kernel_rfl) (by kernel_rfl) (fun _ _ _ h => h) (Or.inl ⟨by rfl, ?h4⟩) ?_
                case h4 => (intro w; go_simp; try with_reducible rfl)
                refine wpAny_take (i := 5) (v := ?v5) rfl (by kernel_rfl) (by kernel_rfl) (by kernel_rfl) (fun _ _ _ h => h) (Or.inl ⟨by rfl, ?h5⟩) ?_
                case h5 => (intro w; go_simp; try with_reducible rfl)
                refine wpAny_take (i := 6) (v := ?v6) rfl (by kernel_rfl) (by kernel_rfl) (by kernel_rfl) (fun _ _ _ h => h) (Or.inl ⟨by rfl, ?h6⟩) ?_
                case h6 => (intro w; go_simp; try with_reducible rfl)
                refine wpAny_take (i := 8) (v := ?v8) rfl (by kernel_rfl) (by kernel_rfl) (by kernel_rfl) (fun _ _ _ h => h) (Or.inl ⟨by rfl, ?h8⟩) ?_
                case h8 => (intro w; go_simp; try with_reducible rfl)
                go_simp
                refine wpAny_take (i := 9) (v := ?v9) rfl (by kernel_rfl) (by kernel_rfl) (by kernel_rfl) (fun _ _ _ h => h) (Or.inl ⟨by rfl, ?h9⟩) ?_
                case h9 => (intro w; go_simp; try with_reducible rfl)
                refine wpAny_take (i := 10) (v := ?v10) rfl (by kernel_rfl) (by kernel_rfl) (by kernel_rfl) (fun _ _ _ h => h) (Or.inl ⟨by rfl, ?h10⟩) ?_
                case h10 => (intro w; go_simp; try with_reducible rfl)
                go_simp
                refine wpAny_ready (rs := [7, 11]) (by kernel_rfl) (by simp) ?_
                refine AllReady.cons (o := ({ dst := some 117, op := Op.load 42 (Operand.tmp 116), type := 42, pos := "law.go:106", after := #[{ on := 6, ground := Ground.data }], guard := none } : Oper)) rfl (fun K hK => ?_) ?_
                · refine step_load_mid rfl 42 (.tmp 116) rfl _ rfl _ LJ ?_
                  refine hK _ _ ?_
                  clear hK K
                  go_simp
                  refine wpAny_ready (rs := [11]) (by kernel_rfl) (by simp) ?_
                  refine AllReady.cons (o := ({ dst := some 121, op := Op.load 42 (Operand.tmp 120), type := 42, pos := "law.go:106", after := #[{ on := 10, ground := Ground.data }], guard := none } : Oper)) rfl (fun K hK => ?_) AllReady.nil
                  refine step_load_mid rfl 42 (.tmp 120) rfl _ rfl _ LI ?_
                  refine hK _ _ ?_
                  clear hK K
                  go_simp
                  refine wpAny_take (i := 12) (v := ?v12) rfl (by kernel_rfl) (by kernel_rfl) (by kernel_rfl) (fun _ _ _ h => h) (Or.inl ⟨by rfl, ?h12⟩) ?_
                  case h12 => (intro w; go_simp; try with_reducible rfl)
                  go_simp
                  refine wpAny_ready (rs := [13]) (by kernel_rfl) (by simp) ?_
                  refine AllReady.cons (o := ({ dst := none, op := Op.store 42 (Operand.tmp 122) (Operand.tmp 117), type := 0, pos := "law.go:106", after := #[{ on := 12, ground := Ground.data }, { on := 7, ground := Ground.data }, { on := 0, ground := Ground.phase }, { on := 1, ground := Ground.phase }, { on := 2, ground := Ground.textOnly Departure.lateStores }, { on := 3, ground := Ground.textOnly Departure.lateStores }, { on := 4, ground := Ground.phase }, { on := 5, ground := Ground.phase }, { on := 6, ground := Ground.phase }, { on := 7, ground := Ground.phase }, { on := 8, ground := Ground.textOnly Departure.lateStores }, { on := 9, ground := Ground.textOnly Departure.lateStores }, { on := 10, ground := Ground.textOnly Departure.lateStoresUnsure }, { on := 11, ground := Ground.phase }], guard := none } : Oper)) rfl (fun K hK => ?_) AllReady.nil
                  refine step_store_mid rfl 42 (.tmp 122) (.tmp 117) rfl _ _ rfl rfl SI ?_
                  refine hK _ _ ?_
                  clear hK K
                  go_simp
                  refine wpAny_take (i := 14) (v := ?v14) rfl (by kernel_rfl) (by kernel_rfl) (by kernel_rfl) (fun _ _ _ h => h) (Or.inl ⟨by rfl, ?h14⟩) ?_
                  case h14 => (intro w; go_simp; try with_reducible rfl)
                  go_simp
                  refine wpAny_ready (rs := [15]) (by kernel_rfl) (by simp) ?_
                  refine AllReady.cons (o := ({ dst := none, op := Op.store 42 (Operand.tmp 123) (Operand.tmp 121), type := 0, pos := "law.go:106", after := #[{ on := 14, ground := Ground.data }, { on := 11, ground := Ground.data }, { on := 13, ground := Ground.chain }, { on := 0, ground := Ground.phase }, { on := 1, ground := Ground.phase }, { on := 2, ground := Ground.phase }, { on := 3, ground := Ground.phase }, { on := 4, ground := Ground.phase }, { on := 5, ground := Ground.phase }, { on := 6, ground := Ground.phase }, { on := 7, ground := Ground.phase }, { on := 8, ground := Ground.phase }, { on := 9, ground := Ground.phase }, { on := 10, ground := Ground.phase }, { on := 11, ground := Ground.phase }, { on := 12, ground := Ground.phase }, { on := 13, ground := Ground.phase }], guard := none } : Oper)) rfl (fun K hK => ?_) AllReady.nil
                  refine step_store_mid rfl 42 (.tmp 123) (.tmp 121) rfl _ _ rfl rfl SJ ?_
                  refine hK _ _ ?_
                  clear hK K
                  refine wpAny_done (by kernel_rfl) ?_ _
                  go_wp2_with fail
                  exact ⟨⟨i + 1, _, by omega, by go_num, PERM, HLEN, TN, BN⟩, by simp [intOf]; omega⟩
                refine AllReady.cons (o := ({ dst := some 121, op := Op.load 42 (Operand.tmp 120), type := 42, pos := "law.go:106", after := #[{ on := 10, ground := Ground.data }], guard := none } : Oper)) rfl (fun K hK => ?_) AllReady.nil
                refine step_load_mid rfl 42 (.tmp 120) rfl _ rfl _ LI ?_
                refine hK _ _ ?_
                clear hK K
                go_simp
                refine wpAny_ready (rs := [7]) (by kernel_rfl) (by simp) ?_
                refine AllReady.cons (o := ({ dst := some 117, op := Op.load 42 (Operand.tmp 116), type := 42, pos := "law.go:106", after := #[{ on := 6, ground := Ground.data }], guard := none } : Oper)) rfl (fun K hK => ?_) AllReady.nil
                refine step_load_mid rfl 42 (.tmp 116) rfl _ rfl _ LJ ?_
                refine hK _ _ ?_
                clear hK K
                go_simp
                refine wpAny_take (i := 12) (v := ?v12) rfl (by kernel_rfl) (by kernel_rfl) (by kernel_rfl) (fun _ _ _ h => h) (Or.inl ⟨by rfl, ?h12⟩) ?_
                case h12 => (intro w; go_simp; try with_reducible rfl)
                go_simp
                refine wpAny_ready (rs := [13]) (by kernel_rfl) (by simp) ?_
                refine AllReady.cons (o := ({ dst := none, op := Op.store 42 (Operand.tmp 122) (Operand.tmp 117), type := 0, pos := "law.go:106", after := #[{ on := 12, ground := Ground.data }, { on := 7, ground := Ground.data }, { on := 0, ground := Ground.phase }, { on := 1, ground := Ground.phase }, { on := 2, ground := Ground.textOnly Departure.lateStores }, { on := 3, ground := Ground.textOnly Departure.lateStores }, { on := 4, ground := Ground.phase }, { on := 5, ground := Ground.phase }, { on := 6, ground := Ground.phase }, { on := 7, ground := Ground.phase }, { on := 8, ground := Ground.textOnly Departure.lateStores }, { on := 9, ground := Ground.textOnly Departure.lateStores }, { on := 10, ground := Ground.textOnly Departure.lateStoresUnsure }, { on := 11, ground := Ground.phase }], guard := none } : Oper)) rfl (fun K hK => ?_) AllReady.nil
                refine step_store_mid rfl 42 (.tmp 122) (.tmp 117) rfl _ _ rfl rfl SI ?_
                refine hK _ _ ?_
                clear hK K
                go_simp
                refine wpAny_take (i := 14) (v := ?v14) rfl (by kernel_rfl) (by kernel_rfl) (by kernel_rfl) (fun _ _ _ h => h) (Or.inl ⟨by rfl, ?h14⟩) ?_
                case h14 => (intro w; go_simp; try with_reducible rfl)
                go_simp
                refine wpAny_ready (rs := [15]) (by kernel_rfl) (by simp) ?_
                refine AllReady.cons (o := ({ dst := none, op := Op.store 42 (Operand.tmp 123) (Operand.tmp 121), type := 0, pos := "law.go:106", after := #[{ on := 14, ground := Ground.data }, { on := 11, ground := Ground.data }, { on := 13, ground := Ground.chain }, { on := 0, ground := Ground.phase }, { on := 1, ground := Ground.phase }, { on := 2, ground := Ground.phase }, { on := 3, ground := Ground.phase }, { on := 4, ground := Ground.phase }, { on := 5, ground := Ground.phase }, { on := 6, ground := Ground.phase }, { on := 7, ground := Ground.phase }, { on := 8, ground := Ground.phase }, { on := 9, ground := Ground.phase }, { on := 10, ground := Ground.phase }, { on := 11, ground := Ground.phase }, { on := 12, ground := Ground.phase }, { on := 13, ground := Ground.phase }], guard := none } : Oper)) rfl (fun K hK => ?_) AllReady.nil
                refine step_store_mid rfl 42 (.tmp 123) (.tmp 121) rfl _ _ rfl rfl SJ ?_
                refine hK _ _ ?_
                clear hK K
                refine wpAny_done (by kernel_rfl) ?_ _
                go_wp2_with fail
                exact ⟨⟨i + 1, _, by omega, by go_num, PERM, HLEN, TN, BN⟩, by simp [intOf]; omega⟩
              · go_wp2_with fail
                go_roundw
                case rel => exact ⟨i + 1, cs, by omega, by go_num, HP, HLN, HR3, BR3⟩
                case measure => simp [intOf]; omega
            · go_wp2_with fail
              go_roundw
              case rel => exact ⟨i + 1, cs, by omega, by go_num, HP, HLN, HR3, BR3⟩
              case measure => simp [intOf]; omega
          · go_wp2_with fail
            go_roundw
            case rel => exact ⟨i + 1, cs, by omega, by go_num, HP, HLN, HR3, BR3⟩
            case measure => simp [intOf]; omega
        · have hie : i = order.length := by omega
          subst hie
          clear hli
          have BW5 : Below w.heap.size w wr := BW3.trans (BR3.mono hw3)
          have szr5 := BR3.size
          have hz5 : w2.heap.size < wr.heap.size := by omega
          have SN := HSENT.out.perm HP.out
          have HSN : Hid (SentO cs (cntO ms.length) (datO (ms.map nb))) := SN
          obtain ⟨IS0, IP0⟩ := InvO.start SN
          have HI0 : Hid _ := IS0
          have HP0 : Hid _ := IP0
          have HCS : Hid (CksS wr.heap.size wr (.slice a N cc) cs) := HR3.out.s
          have HC5 : Hid (Cells w2.heap.size wr [.int .i64 2, .int .i64 4, .int .i64 60, .int .i64 1, .int .i64 1, .int .i64 5, .int .i64 7]) := HC7.out.below BR3 hz7
          have a0 := HC5.out.cell 0 _ rfl
          have a1 := HC5.out.cell 1 _ rfl
          have a2 := HC5.out.cell 2 _ rfl
          have a3 := HC5.out.cell 3 _ rfl
          have a4 := HC5.out.cell 4 _ rfl
          have a5 := HC5.out.cell 5 _ rfl
          have a6 := HC5.out.cell 6 _ rfl
          have NW := rnew_any cfOrd 2 wr rfl (by decide) (by decide) (by decide)
          clear SN IS0 IP0 HP HR3 HC7 HSENT BR3 szr5
          generalize wr = w5 at *
          generalize newM cfOrd = x0 at *
          go_upto_region 26 with (first | (go_at_call 23; refine NW.mono ?_; rintro e w6 ⟨_, _, _, _, rfl, h6, b6⟩; obtain ⟨xsa, xsc, xpa, xpc, xta, xtc, xla, xlc, rfl, rfl, rfl, rfl⟩ := h6.ex) | refine wpList_stN 47 12 Try.sizeRv rfl (.tmp 16) (.tmp 126) rfl w6 _ rfl rfl rfl [.int .i64 x0.cf.streams, .int .i64 x0.cf.part, .int .i64 x0.cf.packet, .int .i64 x0.cf.paths, .int .i64 x0.cf.turns, .int .i64 x0.cf.waiting, .int .i64 x0.cf.first, .int .i64 x0.cum, .slice xsa x0.spans.length xsc, .slice xpa x0.pieces.length xpc, .slice xta x0.turn.length xtc, .slice xla x0.log.length xlc] rfl rfl rfl ?_)
          have s6 := b6.size
          have BW6 : Below w.heap.size w w6 := BW5.trans (b6.mono BW5.size)
          have hw6 := BW6.size
          have RC : Cells w6.heap.size (w6.alloc (.cells #[.int .i64 x0.cf.streams, .int .i64 x0.cf.part, .int .i64 x0.cf.packet, .int .i64 x0.cf.paths, .int .i64 x0.cf.turns, .int .i64 x0.cf.waiting, .int .i64 x0.cf.first, .int .i64 x0.cum, .slice xsa x0.spans.length xsc, .slice xpa x0.pieces.length xpc, .slice xta x0.turn.length xtc, .slice xla x0.log.length xlc] 47)) [.int .i64 x0.cf.streams, .int .i64 x0.cf.part, .int .i64 x0.cf.packet, .int .i64 x0.cf.paths, .int .i64 x0.cf.turns, .int .i64 x0.cf.waiting, .int .i64 x0.cf.first, .int .i64 x0.cum, .slice xsa x0.spans.length xsc, .slice xpa x0.pieces.length xpc, .slice xta x0.turn.length xtc, .slice xla x0.log.length xlc] := Cells.new w6 #[.int .i64 x0.cf.streams, .int .i64 x0.cf.part, .int .i64 x0.cf.packet, .int .i64 x0.cf.paths, .int .i64 x0.cf.turns, .int .i64 x0.cf.waiting, .int .i64 x0.cf.first, .int .i64 x0.cum, .slice xsa x0.spans.length xsc, .slice xpa x0.pieces.length xpc, .slice xta x0.turn.length xtc, .slice xla x0.log.length xlc] 47
          have RB : Below w6.heap.size w6 (w6.alloc (.cells #[.int .i64 x0.cf.streams, .int .i64 x0.cf.part, .int .i64 x0.cf.packet, .int .i64 x0.cf.paths, .int .i64 x0.cf.turns, .int .i64 x0.cf.waiting, .int .i64 x0.cf.first, .int .i64 x0.cum, .slice xsa x0.spans.length xsc, .slice xpa x0.pieces.length xpc, .slice xta x0.turn.length xtc, .slice xla x0.log.length xlc] 47)) := box_below w6 _
          have hz7 : w6.heap.size < (w6.alloc (.cells #[.int .i64 x0.cf.streams, .int .i64 x0.cf.part, .int .i64 x0.cf.packet, .int .i64 x0.cf.paths, .int .i64 x0.cf.turns, .int .i64 x0.cf.waiting, .int .i64 x0.cf.first, .int .i64 x0.cum, .slice xsa x0.spans.length xsc, .slice xpa x0.pieces.length xpc, .slice xta x0.turn.length xtc, .slice xla x0.log.length xlc] 47)).heap.size := by simp
          have HV0 : Hid (RvI (fun j => j < (w6.alloc (.cells #[.int .i64 x0.cf.streams, .int .i64 x0.cf.part, .int .i64 x0.cf.packet, .int .i64 x0.cf.paths, .int .i64 x0.cf.turns, .int .i64 x0.cf.waiting, .int .i64 x0.cf.first, .int .i64 x0.cum, .slice xsa x0.spans.length xsc, .slice xpa x0.pieces.length xpc, .slice xta x0.turn.length xtc, .slice xla x0.log.length xlc] 47)).heap.size ∧ j ≠ w6.heap.size) (w6.alloc (.cells #[.int .i64 x0.cf.streams, .int .i64 x0.cf.part, .int .i64 x0.cf.packet, .int .i64 x0.cf.paths, .int .i64 x0.cf.turns, .int .i64 x0.cf.waiting, .int .i64 x0.cf.first, .int .i64 x0.cum, .slice xsa x0.spans.length xsc, .slice xpa x0.pieces.length xpc, .slice xta x0.turn.length xtc, .slice xla x0.log.length xlc] 47)) x0 (.slice xsa x0.spans.length xsc) (.slice xpa x0.pieces.length xpc) (.slice xta x0.turn.length xtc) (.slice xla x0.log.length xlc)) := ((RvI.of h6 (Nat.le_refl _)).keep (toKeep RB fun _ hk => hk)).mono fun k hk => ⟨by have : k < w6.heap.size := hk; omega, by have : k < w6.heap.size := hk; omega⟩
          have HRC : Hid _ := RC
          have HCS6 : Hid (CksS w6.heap.size w6 (.slice a N cc) cs) := SlG.size CkV.bears HCS.out b6 (Nat.le_refl _)
          have HC6 : Hid (Cells w2.heap.size w6 [.int .i64 2, .int .i64 4, .int .i64 60, .int .i64 1, .int .i64 1, .int .i64 5, .int .i64 7]) := HC5.out.below b6 hz5
          have hz6 : w2.heap.size < w6.heap.size := by omega
          clear NW a0 a1 a2 a3 a4 a5 a6 h6 b6 RC HCS HC5 BW5 hz5
          generalize w6.alloc (.cells #[.int .i64 x0.cf.streams, .int .i64 x0.cf.part, .int .i64 x0.cf.packet, .int .i64 x0.cf.paths, .int .i64 x0.cf.turns, .int .i64 x0.cf.waiting, .int .i64 x0.cf.first, .int .i64 x0.cum, .slice xsa x0.spans.length xsc, .slice xpa x0.pieces.length xpc, .slice xta x0.turn.length xtc, .slice xla x0.log.length xlc] 47) = w7 at *
          go_wp2_with fail
          go_loopw [129] (fun i wr => ∃ (k : Nat) (x : Rc) (xsa : Option Addr) (xsc : Nat) (xpa : Option Addr) (xpc : Nat) (xta : Option Addr) (xtc : Nat) (xla : Option Addr) (xlc : Nat), k ≤ N ∧ i = .int .i64 k ∧ Hid (InvO cs (cntO ms.length) (datO (ms.map nb)) (cs.take k) (cs.drop k) x) ∧ Hid (∀ s, two s → StopO (cntO ms.length) (cs.take k) x s) ∧ Hid (Cells w6.heap.size wr [.int .i64 x.cf.streams, .int .i64 x.cf.part, .int .i64 x.cf.packet, .int .i64 x.cf.paths, .int .i64 x.cf.turns, .int .i64 x.cf.waiting, .int .i64 x.cf.first, .int .i64 x.cum, .slice xsa x.spans.length xsc, .slice xpa x.pieces.length xpc, .slice xta x.turn.length xtc, .slice xla x.log.length xlc]) ∧ Hid (RvI (fun j => j < wr.heap.size ∧ j ≠ w6.heap.size) wr x (.slice xsa x.spans.length xsc) (.slice xpa x.pieces.length xpc) (.slice xta x.turn.length xtc) (.slice xla x.log.length xlc)) ∧ Below w6.heap.size w6 wr) (fun i _ => N - (intOf i).toNat)
          case atStart => exact ⟨0, x0, _, _, _, _, _, _, _, _, Nat.zero_le _, rfl, HI0, HP0, HRC, HV0, RB⟩
          case round =>
            obtain ⟨k, x, xsa, xsc, xpa, xpc, xta, xtc, xla, xlc, hk, rfl, HIV, HST, HC, HI, BR⟩ := hrel
            have szr := BR.size
            have hRlt : w6.heap.size < wr.heap.size := World.block_lt_of_cell? _ _ (HC.out.cell 0 _ rfl)
            clear HI0 HP0 HRC HV0 RB
            by_cases hlt : k < N
            · have hkc : k < cs.length := by rw [HLN.out]; exact hlt
              obtain ⟨b, off, kda, kdc, ksa, ksc, kqa, kqc, hbb, hix, kd, ks, kq, hrng⟩ := CksS.at (SlG.below CkV.bears HCS6.out BR (Nat.le_refl _)) k hkc
              have HDR : cs.drop k = cs[k] :: cs.drop (k + 1) := List.drop_eq_getElem_cons hkc
              have hiv := HIV.out
              rw [HDR] at hiv
              obtain ⟨nx1, nx2, nx3⟩ := hiv.next HSN.out HST.out
              obtain ⟨ok1, st1, st2, st3, st4, st5⟩ := hiv.ok HSN.out
              have hst : StR x := ⟨⟨st1, st2, st3⟩, st4, st5⟩
              rw [← List.take_succ_eq_append_getElem hkc] at nx2 nx3
              have HN2 : Hid _ := nx2
              have HN3 : Hid _ := nx3
              have hfc := HSN.out.fit _ (List.getElem_mem hkc)
              have hdl : cs[k].data.length ≤ 1048576 := by have := (ok1.fit.d ⟨nearM x.cum cs[k].tag, cs[k]⟩ (by simp [keptM])).2; exact this
              have KD := kd
              have KS := ks
              have KQ := kq
              clear hiv nx1 nx2 nx3 st1 st2 st3 st4 st5 HDR
              generalize cs[k] = ck at *
              have BA : Below wr.heap.size wr (wr.alloc (.cells #[.int .i64 ck.kind, .int .i64 ck.tag, .int .i64 ck.stream, .int .i64 ck.mid, .int .i64 ck.part, .bool ck.last, .bool ck.ordered, .slice kda ck.data.length kdc, .slice ksa ck.spans.length ksc, .int .i64 ck.room, .slice kqa ck.skips.length kqc] 42)) := box_below wr _
              have QC := Cells.new wr #[.int .i64 ck.kind, .int .i64 ck.tag, .int .i64 ck.stream, .int .i64 ck.mid, .int .i64 ck.part, .bool ck.last, .bool ck.ordered, .slice kda ck.data.length kdc, .slice ksa ck.spans.length ksc, .int .i64 ck.room, .slice kqa ck.skips.length kqc] 42
              have hzA : wr.heap.size < (wr.alloc (.cells #[.int .i64 ck.kind, .int .i64 ck.tag, .int .i64 ck.stream, .int .i64 ck.mid, .int .i64 ck.part, .bool ck.last, .bool ck.ordered, .slice kda ck.data.length kdc, .slice ksa ck.spans.length ksc, .int .i64 ck.room, .slice kqa ck.skips.length kqc] 42)).heap.size := by simp
              go_upto_region 29 with (first
                | refine wpList_ldC rfl (.tmp 131) rfl b off rfl ck _ _ _ (by with_reducible exact hrng) ?_
                | refine wpList_stN 42 11 Try.sizeCk rfl (.tmp 18) (.tmp 132) rfl wr _ rfl rfl rfl [.int .i64 ck.kind, .int .i64 ck.tag, .int .i64 ck.stream, .int .i64 ck.mid, .int .i64 ck.part, .bool ck.last, .bool ck.ordered, .slice kda ck.data.length kdc, .slice ksa ck.spans.length ksc, .int .i64 ck.room, .slice kqa ck.skips.length kqc] rfl rfl rfl ?_)
              generalize wr.alloc (.cells #[.int .i64 ck.kind, .int .i64 ck.tag, .int .i64 ck.stream, .int .i64 ck.mid, .int .i64 ck.part, .bool ck.last, .bool ck.ordered, .slice kda ck.data.length kdc, .slice ksa ck.spans.length ksc, .int .i64 ck.room, .slice kqa ck.skips.length kqc] 42) = wa at *
              have HCa : Hid _ := HC.out.below BA hRlt
              have HIa := HI.out.keep (toKeep BA fun _ hj => hj.1)
              have kd1 : By wa.heap.size wa _ ck.data := (By.below KD BA szr).mono (by omega)
              have ks1 : Sl wa.heap.size wa _ ck.spans := (Sl.below KS BA szr).mono (by omega)
              have kq1 : Kl wa.heap.size wa _ ck.skips := Rw.mono (Rw.below KQ BA szr) (by omega)
              have CALL := rdata_in _ 5000 x ck _ _ _ _ _ _ _ wa HIa (fun j hj => by have := hj.1; omega) kd1 ks1 kq1 hfc hdl hst (fun _ => ok1) (by decide)
              have RNGR := HCa.out.range
              have RNGQ := QC.range
              have BRa : Below w6.heap.size w6 wa := BR.trans (BA.mono szr)
              obtain ⟨y, hy⟩ : ∃ y, y = recvM x ck := ⟨_, rfl⟩
              rw [← hy] at CALL HN2 HN3
              clear hy kd ks kq KD KS KQ kd1 ks1 kq1 HIa HI HC QC hix hrng
              go_wp2_with (first
                | refine wpList_ldR rfl (.tmp 16) rfl w6.heap.size 0 rfl x _ _ _ _ (by with_reducible exact RNGR) ?_
                | refine wpList_ldC rfl (.tmp 18) rfl wr.heap.size 0 rfl ck _ _ _ (by with_reducible exact RNGQ) ?_
                | (go_at_call 28; refine CALL.mono ?_; rintro e w8 ⟨_, _, _, _, rfl, hIy, b8⟩; obtain ⟨ysa, ysc, ypa, ypc, yta, ytc, yla, ylc, rfl, rfl, rfl, rfl⟩ := hIy.r.ex; have TH : w8.there w6.heap.size 0 12 := (HCa.out.below b8 (by omega)).there)
                | refine wpList_srN 47 12 Try.sizeRv rfl (.tmp 16) (.tmp 135) rfl w6.heap.size 0 rfl [.int .i64 y.cf.streams, .int .i64 y.cf.part, .int .i64 y.cf.packet, .int .i64 y.cf.paths, .int .i64 y.cf.turns, .int .i64 y.cf.waiting, .int .i64 y.cf.first, .int .i64 y.cum, .slice ysa y.spans.length ysc, .slice ypa y.pieces.length ypc, .slice yta y.turn.length ytc, .slice yla y.log.length ylc] rfl rfl rfl (by with_reducible exact TH) ?_)
              have s8 := b8.size
              have CE : Hid (Cells w6.heap.size (w8.setCells w6.heap.size 0 [.int .i64 y.cf.streams, .int .i64 y.cf.part, .int .i64 y.cf.packet, .int .i64 y.cf.paths, .int .i64 y.cf.turns, .int .i64 y.cf.waiting, .int .i64 y.cf.first, .int .i64 y.cum, .slice ysa y.spans.length ysc, .slice ypa y.pieces.length ypc, .slice yta y.turn.length ytc, .slice yla y.log.length ylc]) [.int .i64 y.cf.streams, .int .i64 y.cf.part, .int .i64 y.cf.packet, .int .i64 y.cf.paths, .int .i64 y.cf.turns, .int .i64 y.cf.waiting, .int .i64 y.cf.first, .int .i64 y.cum, .slice ysa y.spans.length ysc, .slice ypa y.pieces.length ypc, .slice yta y.turn.length ytc, .slice yla y.log.length ylc]) := (HCa.out.below b8 (by omega)).setAll _ rfl
              have BE : Below w6.heap.size w6 (w8.setCells w6.heap.size 0 [.int .i64 y.cf.streams, .int .i64 y.cf.part, .int .i64 y.cf.packet, .int .i64 y.cf.paths, .int .i64 y.cf.turns, .int .i64 y.cf.waiting, .int .i64 y.cf.first, .int .i64 y.cum, .slice ysa y.spans.length ysc, .slice ypa y.pieces.length ypc, .slice yta y.turn.length ytc, .slice yla y.log.length ylc]) := Below.setCells (Nat.le_refl _) _ _ (BRa.trans (b8.mono BRa.size))
              have KE : Keep (fun k => k ≠ w6.heap.size) w8 (w8.setCells w6.heap.size 0 [.int .i64 y.cf.streams, .int .i64 y.cf.part, .int .i64 y.cf.packet, .int .i64 y.cf.paths, .int .i64 y.cf.turns, .int .i64 y.cf.waiting, .int .i64 y.cf.first, .int .i64 y.cum, .slice ysa y.spans.length ysc, .slice ypa y.pieces.length ypc, .slice yta y.turn.length ytc, .slice yla y.log.length ylc]) := Keep.setCells (fun h => h rfl) _ _ (Keep.refl _ _)
              have sE : (w8.setCells w6.heap.size 0 [.int .i64 y.cf.streams, .int .i64 y.cf.part, .int .i64 y.cf.packet, .int .i64 y.cf.paths, .int .i64 y.cf.turns, .int .i64 y.cf.waiting, .int .i64 y.cf.first, .int .i64 y.cum, .slice ysa y.spans.length ysc, .slice ypa y.pieces.length ypc, .slice yta y.turn.length ytc, .slice yla y.log.length ylc]).heap.size = w8.heap.size := size_setCells _ _ _ _
              have YNE : ∀ k, (((k < wr.heap.size ∧ k ≠ w6.heap.size) ∨ wa.heap.size ≤ k) ∧ k < w8.heap.size) → k ≠ w6.heap.size := fun k hk => by rcases hk.1 with h | h <;> omega
              have IE : Hid (RvI (fun j => j < (w8.setCells w6.heap.size 0 [.int .i64 y.cf.streams, .int .i64 y.cf.part, .int .i64 y.cf.packet, .int .i64 y.cf.paths, .int .i64 y.cf.turns, .int .i64 y.cf.waiting, .int .i64 y.cf.first, .int .i64 y.cum, .slice ysa y.spans.length ysc, .slice ypa y.pieces.length ypc, .slice yta y.turn.length ytc, .slice yla y.log.length ylc]).heap.size ∧ j ≠ w6.heap.size) (w8.setCells w6.heap.size 0 [.int .i64 y.cf.streams, .int .i64 y.cf.part, .int .i64 y.cf.packet, .int .i64 y.cf.paths, .int .i64 y.cf.turns, .int .i64 y.cf.waiting, .int .i64 y.cf.first, .int .i64 y.cum, .slice ysa y.spans.length ysc, .slice ypa y.pieces.length ypc, .slice yta y.turn.length ytc, .slice yla y.log.length ylc]) y (.slice ysa y.spans.length ysc) (.slice ypa y.pieces.length ypc) (.slice yta y.turn.length ytc) (.slice yla y.log.length ylc)) := (hIy.low.mono fun k hk => ⟨by rw [sE]; have := hk.2; omega, YNE k hk⟩).keep (KE.mono fun k hk => hk.2)
              generalize w8.setCells w6.heap.size 0 [.int .i64 y.cf.streams, .int .i64 y.cf.part, .int .i64 y.cf.packet, .int .i64 y.cf.paths, .int .i64 y.cf.turns, .int .i64 y.cf.waiting, .int .i64 y.cf.first, .int .i64 y.cum, .slice ysa y.spans.length ysc, .slice ypa y.pieces.length ypc, .slice yta y.turn.length ytc, .slice yla y.log.length ylc] = wE at *
              go_roundw
              case rel => exact ⟨k + 1, y, _, _, _, _, _, _, _, _, by omega, by go_num, HN2, HN3, CE, IE, BE⟩
              case measure => simp [intOf]; omega
            · have hke : k = N := by omega
              subst hke
              have hiv := HIV.out
              have hst := HST.out
              rw [← HLN.out, List.take_length, List.drop_length] at hiv
              rw [← HLN.out, List.take_length] at hst
              obtain ⟨d1, d2, d3⟩ := hiv.done HSN.out hst
              have hll := hiv.loglen
              rw [d1 0 (.inl rfl), d1 1 (.inr rfl)] at hll
              have hlm : x.log.length = ms.length := by rw [hll]; unfold cntO; omega
              have HLM : Hid (x.log.length = ms.length) := hlm
              have HAT : Hid (∀ (j : Nat) (hj : j < x.log.length), two x.log[j].stream ∧ 2 * cntL x.log j x.log[j].stream + x.log[j].stream < ms.length ∧ x.log[j].data = datO (ms.map nb) x.log[j].stream (cntL x.log j x.log[j].stream)) := fun j hj => hiv.at d1 j hj
              have q1 : ((x.log.length : Int) != (ms.length : Int)) = false := by rw [hlm]; simp
              have q2 : decide (0 < x.pieces.length) = false := by rw [d2]; simp
              have q3 : (x.cum != 7 + (k : Int) - 1) = false := by rw [d3, HLN.out]; simp; omega
              have x7 := HC.out.cell 7 _ rfl
              have x9 := HC.out.cell 9 _ rfl
              have x11 := HC.out.cell 11 _ rfl
              have HCr : Hid (Cells w2.heap.size wr [.int .i64 2, .int .i64 4, .int .i64 60, .int .i64 1, .int .i64 1, .int .i64 5, .int .i64 7]) := HC6.out.below BR hz6
              have f6 := HCr.out.cell 6 _ rfl
              have BWr : Below w.heap.size w wr := BW6.trans (BR.mono hw6)
              have hlm8 : x.log.length ≤ 8 := by omega
              clear hiv hst d1 d2 d3 hll hlm HIV HST
              go_upto_region 34 with fail
              have AC := Cells.new wr #[.int .i64 0, .int .i64 1] 64
              have BAr : Below wr.heap.size wr (wr.alloc (.cells #[.int .i64 0, .int .i64 1] 64)) := box_below wr _
              have hzA : wr.heap.size < (wr.alloc (.cells #[.int .i64 0, .int .i64 1] 64)).heap.size := by simp
              have HXI : Hid _ := HI.out.keep (toKeep BAr fun _ hj => hj.1)
              have HRX : Hid _ := HC.out.below BAr hRlt
              generalize wr.alloc (.cells #[.int .i64 0, .int .i64 1] 64) = wA at *
              clear q1 q2 q3 x7 x9 x11 f6 HCr HI HC HCS6 HC6 HLN HSN
              have BWA : Below w.heap.size w wA := BWr.trans (BAr.mono BWr.size)
              have hAw : w.heap.size ≤ wr.heap.size := BWr.size
              have hRA : w6.heap.size < wr.heap.size := hRlt
              have hA1 : wr.heap.size < wA.heap.size := hzA
              clear BWr
              generalize wr.heap.size = A at *
              have y11 := HRX.out.cell 11 _ rfl
              go_upto_region 35 with fail
              clear y11 HRX BAr
              go_loopw [164] (fun i wq => ∃ (j n0 n1 : Nat), j ≤ x.log.length ∧ i = .int .i64 j ∧ Hid (n0 = 2 * cntL x.log j 0) ∧ Hid (n1 = 2 * cntL x.log j 1 + 1) ∧ Hid (Cells A wq [.int .i64 n0, .int .i64 n1]) ∧ Below A wA wq) (fun i _ => x.log.length - (intOf i).toNat)
              case atStart => exact ⟨0, 0, 1, Nat.zero_le _, rfl, rfl, rfl, AC, Below.refl _ _⟩
              case round =>
                obtain ⟨j, n0, n1, hj, rfl, HN0, HN1, HAC, BS⟩ := hrel
                have sq := BS.size
                clear AC
                by_cases hlj : j < x.log.length
                · obtain ⟨p1, p2, p3⟩ := HAT.out j hlj
                  obtain ⟨b, off, d, hbb, hix, hd, c0, c1, c2, c3⟩ := AvS.at (HXI.out.keep (toKeep BS fun k hk => hk.1)).r.l j hlj
                  have e0 := HAC.out.cell 0 _ rfl
                  have e1 := HAC.out.cell 1 _ rfl
                  have g0 := HAC.out.fz 0
                  have g1 := HAC.out.fz 1
                  have hAr : A < wr.heap.size := by omega
                  have hjl : (j : Int) < (x.log.length : Int) := by omega
                  rcases p1 with e | e
                  · have hmi : n0 < ms.length := by rw [e] at p2; rw [HN0.out]; omega
                    have hdat : x.log[j].data = nb (ms[n0]) := by
                      rw [p3, e, datO]
                      have : (2 * ((cntL x.log j 0 : Nat) : Int) + 0).toNat = n0 := by rw [HN0.out]; omega
                      rw [this]
                      simp [hmi]
                    have hlen8 : ms.length ≤ 8 := hml
                    have hge : ¬ ((n0 : Int) ≥ (ms.length : Int)) := by omega
                    have hlt2 : (n0 : Int) < (ms.length : Int) := by omega
                    obtain ⟨sb, so, hsb, hsx, hsc⟩ := StrS.at (SlG.below StV.bears HM.out (BWA.trans (BS.mono hAw)) (Nat.le_refl _)) n0 hmi
                    have HQ0 : Hid (cntL x.log (j + 1) 0 = cntL x.log j 0 + if 0 = (0 : Int) then 1 else 0) := by have := cntL_snoc x.log j hlj 0; rw [e] at this; exact this
                    have HQ1 : Hid (cntL x.log (j + 1) 1 = cntL x.log j 1 + if 0 = (1 : Int) then 1 else 0) := by have := cntL_snoc x.log j hlj 1; rw [e] at this; exact this
                    rw [e] at c0
                    rw [hdat] at hd
                    have T1 : ∀ wx, Below wr.heap.size wr wx → (convert 38 9 d).run Try.prog wx = .ok (.string ms[n0]) wx := fun wx hx => by have := (hd.below hx (by omega)).str; rw [nb_str] at this; exact this
                    obtain ⟨dda, ddc, rfl, -, -⟩ := hd.ex
                    have hsb' : sb < wr.heap.size := by omega
                    have hbb' : b < wr.heap.size := by omega
                    generalize ms[n0] = mS at *
                    clear p2 p3 hdat hd
                    have BX : Below wr.heap.size wr (wr.alloc (.cells #[.int .i64 0, .int .i64 x.log[j].mid, .bool x.log[j].ordered, .slice dda (nb mS).length ddc] 59)) := box_below wr _
                    have AX := Cells.new wr #[.int .i64 0, .int .i64 x.log[j].mid, .bool x.log[j].ordered, .slice dda (nb mS).length ddc] 59
                    go_upto_region 37 with fail
                    generalize x.log[j].mid = qm at *
                    generalize x.log[j].ordered = qo at *
                    have v0 := AX.cell 0 _ rfl
                    have v3 := AX.cell 3 _ rfl
                    have z0 := (BX.cell (p := ⟨A, 0, none⟩) hAr).trans e0
                    have z1 := (BX.cell (p := ⟨A, 1, none⟩) hAr).trans e1
                    have zs := (BX.cell (p := ⟨sb, so, none⟩) hsb').trans hsc
                    have T2 : ∀ nq, (convert 38 9 (.slice dda (nb mS).length ddc)).run Try.prog ((wr.alloc (.cells #[.int .i64 0, .int .i64 qm, .bool qo, .slice dda (nb mS).length ddc] 59)).drewN nq) = .ok (.string mS) ((wr.alloc (.cells #[.int .i64 0, .int .i64 qm, .bool qo, .slice dda (nb mS).length ddc] 59)).drewN nq) := fun nq => T1 _ (BX.trans (drewN_below _ _ _))
                    generalize wr.alloc (.cells #[.int .i64 0, .int .i64 qm, .bool qo, .slice dda (nb mS).length ddc] 59) = wb at *
                    have BQ : ∀ nq, Below A wA (wb.drewN nq) := fun nq => BS.trans ((BX.mono (by omega)).trans (drewN_below _ _ _))
                    have HAB : ∀ nq, Cells A (wb.drewN nq) [.int .i64 n0, .int .i64 n1] := fun nq => HAC.out.below (BX.trans (drewN_below _ _ nq)) hAr
                    go_quiet (fail)
                    have HFIN : Hid (Cells A ((wb.drewN nq).setCell ⟨A, 0, none⟩ (.int .i64 ((n0 + 2 : Nat) : Int))) ([.int .i64 n0, .int .i64 n1].set 0 (.int .i64 ((n0 + 2 : Nat) : Int)))) := (HAB nq).set 0 _ (by simp)
                    have h0 := (HAB nq).cell 0 _ rfl
                    have h1 := (HAB nq).cell 1 _ rfl
                    have l0 := (HAB nq).fz 0
                    have l1 := (HAB nq).fz 1
                    have BE : Below A wA ((wb.drewN nq).setCell ⟨A, 0, none⟩ (.int .i64 ((n0 + 2 : Nat) : Int))) := Below.setCell (BQ nq) (Nat.le_refl _) _
                    clear T1 T2 HAB BQ z0 z1 zs e0 e1 g0 g1
                    go_wp2_with fail
                    go_roundw
                    case rel => exact ⟨j + 1, (n0 + 2), n1, by omega, by go_num, by rw [HQ0.out, HN0.out]; rfl, by rw [HQ1.out, HN1.out]; rfl, HFIN, BE⟩
                    case measure => simp [intOf]; omega
                  · have hmi : n1 < ms.length := by rw [e] at p2; rw [HN1.out]; omega
                    have hdat : x.log[j].data = nb (ms[n1]) := by
                      rw [p3, e, datO]
                      have : (2 * ((cntL x.log j 1 : Nat) : Int) + 1).toNat = n1 := by rw [HN1.out]; omega
                      rw [this]
                      simp [hmi]
                    have hlen8 : ms.length ≤ 8 := hml
                    have hge : ¬ ((n1 : Int) ≥ (ms.length : Int)) := by omega
                    have hlt2 : (n1 : Int) < (ms.length : Int) := by omega
                    obtain ⟨sb, so, hsb, hsx, hsc⟩ := StrS.at (SlG.below StV.bears HM.out (BWA.trans (BS.mono hAw)) (Nat.le_refl _)) n1 hmi
                    have HQ0 : Hid (cntL x.log (j + 1) 0 = cntL x.log j 0 + if 1 = (0 : Int) then 1 else 0) := by have := cntL_snoc x.log j hlj 0; rw [e] at this; exact this
                    have HQ1 : Hid (cntL x.log (j + 1) 1 = cntL x.log j 1 + if 1 = (1 : Int) then 1 else 0) := by have := cntL_snoc x.log j hlj 1; rw [e] at this; exact this
                    rw [e] at c0
                    rw [hdat] at hd
                    have T1 : ∀ wx, Below wr.heap.size wr wx → (convert 38 9 d).run Try.prog wx = .ok (.string ms[n1]) wx := fun wx hx => by have := (hd.below hx (by omega)).str; rw [nb_str] at this; exact this
                    obtain ⟨dda, ddc, rfl, -, -⟩ := hd.ex
                    have hsb' : sb < wr.heap.size := by omega
                    have hbb' : b < wr.heap.size := by omega
                    generalize ms[n1] = mS at *
                    clear p2 p3 hdat hd
                    have BX : Below wr.heap.size wr (wr.alloc (.cells #[.int .i64 1, .int .i64 x.log[j].mid, .bool x.log[j].ordered, .slice dda (nb mS).length ddc] 59)) := box_below wr _
                    have AX := Cells.new wr #[.int .i64 1, .int .i64 x.log[j].mid, .bool x.log[j].ordered, .slice dda (nb mS).length ddc] 59
                    go_upto_region 37 with fail
                    generalize x.log[j].mid = qm at *
                    generalize x.log[j].ordered = qo at *
                    have v0 := AX.cell 0 _ rfl
                    have v3 := AX.cell 3 _ rfl
                    have z0 := (BX.cell (p := ⟨A, 0, none⟩) hAr).trans e0
                    have z1 := (BX.cell (p := ⟨A, 1, none⟩) hAr).trans e1
                    have zs := (BX.cell (p := ⟨sb, so, none⟩) hsb').trans hsc
                    have T2 : ∀ nq, (convert 38 9 (.slice dda (nb mS).length ddc)).run Try.prog ((wr.alloc (.cells #[.int .i64 1, .int .i64 qm, .bool qo, .slice dda (nb mS).length ddc] 59)).drewN nq) = .ok (.string mS) ((wr.alloc (.cells #[.int .i64 1, .int .i64 qm, .bool qo, .slice dda (nb mS).length ddc] 59)).drewN nq) := fun nq => T1 _ (BX.trans (drewN_below _ _ _))
                    generalize wr.alloc (.cells #[.int .i64 1, .int .i64 qm, .bool qo, .slice dda (nb mS).length ddc] 59) = wb at *
                    have BQ : ∀ nq, Below A wA (wb.drewN nq) := fun nq => BS.trans ((BX.mono (by omega)).trans (drewN_below _ _ _))
                    have HAB : ∀ nq, Cells A (wb.drewN nq) [.int .i64 n0, .int .i64 n1] := fun nq => HAC.out.below (BX.trans (drewN_below _ _ nq)) hAr
                    go_quiet (fail)
                    have HFIN : Hid (Cells A ((wb.drewN nq).setCell ⟨A, 1, none⟩ (.int .i64 ((n1 + 2 : Nat) : Int))) ([.int .i64 n0, .int .i64 n1].set 1 (.int .i64 ((n1 + 2 : Nat) : Int)))) := (HAB nq).set 1 _ (by simp)
                    have h0 := (HAB nq).cell 0 _ rfl
                    have h1 := (HAB nq).cell 1 _ rfl
                    have l0 := (HAB nq).fz 0
                    have l1 := (HAB nq).fz 1
                    have BE : Below A wA ((wb.drewN nq).setCell ⟨A, 1, none⟩ (.int .i64 ((n1 + 2 : Nat) : Int))) := Below.setCell (BQ nq) (Nat.le_refl _) _
                    clear T1 T2 HAB BQ z0 z1 zs e0 e1 g0 g1
                    go_wp2_with fail
                    go_roundw
                    case rel => exact ⟨j + 1, n0, (n1 + 2), by omega, by go_num, by rw [HQ0.out, HN0.out]; rfl, by rw [HQ1.out, HN1.out]; rfl, HFIN, BE⟩
                    case measure => simp [intOf]; omega
                · have hje : j = x.log.length := by omega
                  subst hje
                  go_wp2_with fail
                  go_ret
                  exact ⟨rfl, BWA.trans (BS.mono (by omega))⟩
end Go.Proofs.Ytnddejdndipddad
