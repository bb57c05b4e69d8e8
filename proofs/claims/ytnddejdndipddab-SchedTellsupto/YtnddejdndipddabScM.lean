/- The document's Next: by bytes; and whatever else. -/
import Derived.Test.YtnddejdndipddabScL
import Derived.Maps.OwnSet
import Derived.Maps.OwnOps
set_option maxRecDepth 20000
namespace Go.Proofs.Ytnddejdndipddab
open Go.RowKit
open Go.Maps (Keyed)

theorem law3 : Keyed Try.prog 3 := Maps.int_keyed Try.underlying3
/-- Block b is a map that has just the numbers of a list. -/
def MapB (w : World) (b n : Nat) (os : List Int) : Prop := ∃ D : DataW Unit, w.ownsMap Try.prog 3 (plainElem Try.prog 4) b n D ∧ ∀ k : Int, D.atKey (.int .i64 k) (.lit (.bool false)) = .lit (.bool (decide (k ∈ os)))
theorem MapB.made (w : World) : MapB (w.alloc (.map #[] 0)) w.heap.size 0 [] := ⟨.map [], World.ownsMap_made w _ _ _, fun k => by simp [DataW.atKey]⟩
theorem plainElem_bool_inv {v : Value} {x : Bool} {ps : List MemPlace} (h : plainElem (H := Unit) Try.prog 4 v = some (.lit (.bool x), ps)) : v = .bool x := by
  unfold plainElem at h
  rw [Try.underlying4] at h
  cases v <;> simp at h
  rw [h.1]
theorem zero4 (w : World) : (zeroValue 4).run Try.prog w = .ok (.bool false) w := by kernel_rfl
theorem MapB.look {w : World} {b n : Nat} {os : List Int} (h : MapB w b n os) (k : Int) (hk : I64 k) : (Instr.lookup 77 (.map (some b)) (.int .i64 k) false).run Try.prog w = .ok (.bool (decide (k ∈ os))) w := by
  obtain ⟨D, h1, h2⟩ := h
  obtain ⟨v, ps, hr, hv⟩ := h1.lookup law3 Try.underlying77 (zero4 w) (plainElem_bool Try.underlying4 false) (Maps.keyOf_int_mk Try.underlying3 (WalkArith.wf_i64 hk))
  rw [h2 k] at hv
  rw [hr, plainElem_bool_inv hv]
theorem MapB.drewN {w : World} {b n : Nat} {os : List Int} (h : MapB w b n os) (m : Nat) : MapB (w.drewN m) b n os := h
theorem MapB.kept {w w' : World} {b n : Nat} {os : List Int} (h : MapB w b n os) (hb : w'.heap[b]? = w.heap[b]?) : MapB w' b n os := by
  obtain ⟨D, ⟨es, clock, h1, h2⟩, h3⟩ := h
  exact ⟨D, ⟨es, clock, hb.trans h1, h2⟩, h3⟩
theorem MapB.put {w w' : World} {b n m : Nat} {os : List Int} {D : DataW Unit} (h0 : w.ownsMap Try.prog 3 (plainElem Try.prog 4) b m D) (hD : ∀ k : Int, D.atKey (.int .i64 k) (.lit (.bool false)) = .lit (.bool (decide (k ∈ os)))) {x : Int} (h : w'.ownsMap Try.prog 3 (plainElem Try.prog 4) b n (D.put (.int .i64 x) (.lit (.bool true)))) : MapB w' b n (os ++ [x]) := by
  refine ⟨_, h, fun k => ?_⟩
  by_cases e : k = x
  · subst e
    rw [Maps.atKey_put_same h0.isMap (show WideAt.IsKeyLit (.int .i64 k) from trivial)]
    simp
  · rw [Maps.atKey_put_other (by simpa using e), hD k]
    simp [e]

/-- The streams so far: in a row, and in a map. -/
structure FaSt (w0 : World) (had os : List Int) (k : Nat) (a : Option Addr) (c : Nat) (wr : World) : Prop where
  bel : Below w0.heap.size w0 wr
  map : MapB wr w0.heap.size k os
  own : wr.ownsRow (w0.heap.size + 1) 3 1 (.slice a k c) k (cellsI os)
  sz : w0.heap.size + 1 ≤ wr.heap.size
  tk : Taken had.length (fFair had) os
  len : os.length = k
theorem FaSt.start (w0 : World) (had : List Int) : FaSt w0 had [] 0 none 0 (w0.alloc (.map #[] 0)) := ⟨box_below w0 _, MapB.made w0, ⟨by simp [cellsI], .inl ⟨rfl, rfl⟩⟩, by simp, Taken.nil _ _, rfl⟩
theorem FaSt.drewN {w0 : World} {had os : List Int} {k : Nat} {a : Option Addr} {c : Nat} {wr : World} (f : FaSt w0 had os k a c wr) (m : Nat) : FaSt w0 had os k a c (wr.drewN m) := ⟨below_drewN f.bel m, f.map, f.own, f.sz, f.tk, f.len⟩
/-- Behind the map's store. -/
theorem FaSt.put {w0 : World} {had os : List Int} {k : Nat} {a : Option Addr} {c : Nat} {wr : World} (f : FaSt w0 had os k a c wr) : ∃ D : DataW Unit, wr.ownsMap Try.prog 3 (plainElem Try.prog 4) w0.heap.size k D ∧ ∀ (x : Int) (w' : World), w'.ownsMap Try.prog 3 (plainElem Try.prog 4) w0.heap.size (k + 1) (D.put (.int .i64 x) (.lit (.bool true))) → wr.grownBy w' (some w0.heap.size) →
    Below w0.heap.size w0 w' ∧ MapB w' w0.heap.size (k + 1) (os ++ [x]) ∧ w'.ownsRow (w0.heap.size + 1) 3 1 (.slice a k c) k (cellsI os) ∧ w0.heap.size + 1 ≤ w'.heap.size := by
  obtain ⟨D, h1, h2⟩ := f.map
  have hs := f.sz
  refine ⟨D, h1, fun x w' ho hg => ⟨f.bel.grown hg (by omega) (fun j hj => by simp at hj; omega), MapB.put h1 h2 ho, own_of_block f.own fun j hj => hg.block j (f.own.lt j hj).2 (fun e => ?_), Nat.le_trans f.sz hg.size⟩⟩
  have := (f.own.lt j hj).1
  simp only [Option.some.injEq] at e
  omega
/-- Behind the append. -/
theorem FaSt.next {w0 : World} {had os : List Int} {k : Nat} {a : Option Addr} {c : Nat} {w1 w2 : World} {x : Int} {v' : Value} (b : Below w0.heap.size w0 w1) (mp : MapB w1 w0.heap.size (k + 1) (os ++ [x])) (own : w1.ownsRow (w0.heap.size + 1) 3 1 (.slice a k c) k (cellsI os)) (hs : w0.heap.size + 1 ≤ w1.heap.size)
    (tk : Taken had.length (fFair had) (os ++ [x])) (hl : os.length = k) (ho : w2.ownsRow (w0.heap.size + 1) 3 1 v' (k + 1) (cellsI os ++ [.int .i64 x])) (hg : (w1.alloc (.cells #[.int .i64 x] 3)).grownBy w2 (Value.slice a k c).ownBlock) : ∃ a' c', v' = .slice a' (k + 1) c' ∧ FaSt w0 had (os ++ [x]) (k + 1) a' c' w2 := by
  obtain ⟨a', c', rfl⟩ := own_form ho
  obtain ⟨o1, b1, s1⟩ := int_app own hs _ ho hg
  exact ⟨a', c', rfl, b.trans (b1.mono (by omega)), mp.kept (b1.block _ (by omega)), o1, s1, tk, by simp [hl]⟩

set_option maxHeartbeats 4000000 in
theorem rnext_fair (v : Value) (last hand : Int) (had : List Int) (ad : Option Addr) (cd : Nat) (l : List Qd) (w : World) (hd : In w.heap.size w (.slice ad had.length cd) had) (hv : QdS w.heap.size w v l) (hl0 : 0 ≤ last) (hl1 : last < had.length) (hn : had.length ≤ 1048576) (hq : l.length ≠ 0) :
    Calls Try.prog 23 #[.int .i64 5, .agg #[.int .i64 last, .int .i64 hand, .slice ad had.length cd], v] w fun e w' => ∃ k, e = .returned (.int .i64 k) ∧ NextIs 5 last hand had (idsQ l) (strs l) k ∧ Below w.heap.size w w' := by
  have HV := hv
  obtain ⟨a, cap, rfl, h1, h2⟩ := hv.ex
  have BW0 := box_below w (.cells #[.int .i64 last, .int .i64 hand, .slice ad had.length cd] 51)
  have CX := Cells.new w #[.int .i64 last, .int .i64 hand, .slice ad had.length cd] 51
  have hz : w.heap.size < (w.alloc (.cells #[.int .i64 last, .int .i64 hand, .slice ad had.length cd] 51)).heap.size := by simp
  have HNO0 : Hid (¬ ((strs l).length = 0 ∨ had.length = 0)) := by show ¬ _; rw [strs_len]; omega
  have el : ((l.length : Int) == 0) = false := by rw [beq_eq_false_iff_ne]; omega
  have em : ((had.length : Int) == 0) = false := by rw [beq_eq_false_iff_ne]; omega
  have hn0 : ¬ (had.length : Int) = 0 := by omega
  clear hq hv
  have g2 : ((5 : Int) == 2) = false := rfl
  have g3 : ((5 : Int) == 3) = false := rfl
  have g4 : ((5 : Int) == 4) = false := rfl
  have g5 : ((5 : Int) == 5) = true := rfl
  have hmm := @run_makeMap Try.prog
  have hzz : (w.alloc (.cells #[.int .i64 last, .int .i64 hand, .slice ad had.length cd] 51)).heap.size = w.heap.size + 1 := by simp
  go_enter Try.func23, Try.ntmps23
  go_wp2_with fail
  generalize (w.alloc (.cells #[.int .i64 last, .int .i64 hand, .slice ad had.length cd] 51)) = w0 at *
  have HD := hd
  have HZZ : Hid (w0.heap.size = w.heap.size + 1) := hzz
  clear hzz
  go_loopw [10, 78] (fun o i wq => ∃ (k : Nat) (os : List Int) (ao : Option Addr) (co : Nat), k ≤ had.length ∧ i = .int .i64 k ∧ o = .slice ao k co ∧ FaSt w0 had os k ao co wq) (fun _ i _ => had.length - (intOf i).toNat)
  case atStart => exact ⟨0, [], none, 0, Nat.zero_le _, rfl, rfl, FaSt.start w0 had⟩
  case round =>
    obtain ⟨k, os, ao, co, hk, rfl, rfl, FS⟩ := hrel
    have hsz := FS.sz
    by_cases hlt : k < had.length
    · generalize wr = wO at *
      have y2 := (CX.below FS.bel hz).cell 2 _ rfl
      have HDO := HD.below (BW0.trans (FS.bel.mono BW0.size)) (Nat.le_refl _)
      have LK : ∀ (x : Int) (m : Nat), I64 x → Hid ((Instr.lookup 77 (.map (some (w.heap.size + 1))) (.int .i64 x) false).run Try.prog (wO.drewN m) = .ok (.bool (decide (x ∈ os))) (wO.drewN m)) := fun x m hx => by have := (FS.map.drewN m).look x hx; rwa [HZZ.out] at this
      go_wp2_with fail
      go_loopw [14, 81] (fun t i wq => ∃ (j : Nat) (b : Int) (m : Nat), j ≤ had.length ∧ i = .int .i64 j ∧ t = .int .i64 b ∧ Best (fFair had) os j b ∧ wq = wO.drewN m) (fun _ i _ => had.length - (intOf i).toNat)
      case atStart => exact ⟨0, -1, 0, Nat.zero_le _, rfl, rfl, Best.zero _ _, rfl⟩
      case round =>
        obtain ⟨j, b, m, hj, rfl, rfl, BE, rfl⟩ := hrel
        by_cases hjl : j < had.length
        · obtain ⟨b1, o1, hb1, hi1, hc1⟩ := HDO.at j hjl
          have ij : I64 (j : Int) := by unfold I64; omega
          have fj : Hid (fFair had (j : Int) = had[j]) := by show _ = _; unfold fFair; rw [Int.toNat_natCast, List.getD_eq_getElem?_getD, List.getElem?_eq_getElem hjl]; rfl
          by_cases hin : (j : Int) ∈ os
          · have B1 := BE.had hin
            have lk : ∀ n, (Instr.lookup 77 (.map (some (w.heap.size + 1))) (.int .i64 (j : Int)) false).run Try.prog (wO.drewN n) = .ok (.bool true) (wO.drewN n) := fun n => by rw [(LK j n ij).out, decide_eq_true hin]
            clear BE hin FS LK
            go_wp2_with fail
            go_quiet (fail)
            go_wp2_with fail
            exact ⟨⟨j + 1, b, _, by omega, by go_num, rfl, B1, rfl⟩, by simp [intOf]; omega⟩
          · have lk : ∀ n, (Instr.lookup 77 (.map (some (w.heap.size + 1))) (.int .i64 (j : Int)) false).run Try.prog (wO.drewN n) = .ok (.bool false) (wO.drewN n) := fun n => by rw [(LK j n ij).out, decide_eq_false hin]
            have hbd := BE.bd
            by_cases hb0 : b = -1
            · subst hb0
              have B1 := BE.first hin
              clear BE hin FS LK hbd
              go_wp2_with fail
              go_quiet (fail)
              go_wp2_with fail
              exact ⟨⟨j + 1, (j : Int), _, by omega, by go_num, rfl, B1, rfl⟩, by simp [intOf]; omega⟩
            · obtain ⟨bb, rfl⟩ := Int.eq_ofNat_of_zero_le (show 0 ≤ b by omega)
              have hbl : bb < had.length := by omega
              obtain ⟨b2, o2, hb2, hi2, hc2⟩ := HDO.at bb hbl
              have fb : Hid (fFair had (bb : Int) = had[bb]) := by show _ = _; unfold fFair; rw [Int.toNat_natCast, List.getD_eq_getElem?_getD, List.getElem?_eq_getElem hbl]; rfl
              have gb : decide ((bb : Int) < 0) = false := decide_eq_false (by omega)
              have gb' : ¬ (bb : Int) < 0 := by omega
              by_cases hf : had[j] < had[bb]
              · have B1 := BE.turn (by omega) hin (by rw [fj.out, fb.out]; exact hf)
                clear BE hin FS LK hbd fj fb
                generalize had[j] = hj1 at *
                generalize had[bb] = hb1' at *
                have gf : decide (hj1 < hb1') = true := decide_eq_true hf
                go_wp2_with fail
                go_quiet (fail)
                go_wp2_with fail
                exact ⟨⟨j + 1, (j : Int), _, by omega, by go_num, rfl, B1, rfl⟩, by simp [intOf]; omega⟩
              · have B1 := BE.stay (by omega) (by rw [fj.out, fb.out]; exact hf)
                clear BE hin FS LK hbd fj fb
                generalize had[j] = hj1 at *
                generalize had[bb] = hb1' at *
                have gf : decide (hj1 < hb1') = false := decide_eq_false hf
                go_wp2_with fail
                go_quiet (fail)
                go_wp2_with fail
                exact ⟨⟨j + 1, (bb : Int), _, by omega, by go_num, rfl, B1, rfl⟩, by simp [intOf]; omega⟩
        · have hje : j = had.length := by omega
          subst hje
          have hln := FS.len
          obtain ⟨hst, hni, TK⟩ := FS.tk.next BE (by omega)
          obtain ⟨D, HO0, PT0⟩ := (FS.drewN m).put
          have HO := HZZ.out ▸ HO0
          have PT := fun x w' (g1 : World.ownsMap w' Try.prog 3 (plainElem Try.prog 4) (w.heap.size + 1) (k + 1) (D.put (.int .i64 x) (.lit (.bool true)))) (g2 : (wO.drewN m).grownBy w' (some (w.heap.size + 1))) => PT0 x w' (HZZ.out.symm ▸ g1) (HZZ.out.symm ▸ g2)
          clear HO0 PT0
          have wfb : (Lit.int .i64 b).wf = true := WalkArith.wf_i64 (by unfold isSt at hst; omega)
          have NXT := fun (w1 : World) h1 h2 h3 h4 v' (w2 : World) => FaSt.next (w0 := w0) (w1 := w1) (w2 := w2) (v' := v') (a := ao) (c := co) h1 h2 h3 h4 TK hln
          clear FS LK BE TK y2 HDO hni
          have hkm : k < 1048576 := by omega
          generalize wO.drewN m = wP at *
          go_wp2_with (first
            | (at_mapUpdate; refine wpList_mapUpdate_own _ rfl _ _ _ 77 rfl 3 4 law3 Try.underlying77 _ (w.heap.size + 1) k _ rfl HO (by unfold maxLen; omega) _ _ _ rfl rfl (Maps.keyOf_int_mk Try.underlying3 wfb) _ [] (plainElem_bool Try.underlying4 true) ?_; intro w1 hown1 hgrow1; obtain ⟨u1, u2, u3, u4⟩ := PT b w1 hown1 hgrow1; have own2 := u3.alloc (.cells #[.int .i64 b] 3); have N1 := NXT w1 u1 u2 u3 u4; clear hown1 hgrow1)
            | (at_builtin; refine wpList_append_rw Try.underlying49 Try.info3 rfl (by decide) _ rfl (.tmp 109) (.tmp 111) rfl (w0.heap.size + 1) (.slice ao k co) k _ rfl own2 _ 1 [.int .i64 b] _ rfl (Rw.lit1 _ _ _) (by intro u hu; simp at hu; subst hu; rfl) (by unfold maxLen; omega) (by omega) (by simp; omega) ?_; intro v3 w3 own3 grow3 at3; obtain ⟨a3, c3, rfl, F3⟩ := N1 v3 w3 own3 grow3; clear own3 grow3 at3))
          go_roundw
          case rel => exact ⟨k + 1, os ++ [b], a3, c3, by omega, by go_num, rfl, F3⟩
          case measure => simp [intOf]; omega
    · have hke : k = had.length := by omega
      subst hke
      have INO : In wr.heap.size wr (.slice ao had.length co) os := In.own FS.own FS.len.symm (fun z hz => by have := FS.tk.st z hz; unfold isSt at this; unfold I64; omega)
      have HORD : Hid (Orders had.length (fFair had) os) := FS.tk.all FS.len
      have HOL : Hid (os.length = had.length) := FS.len
      have BT : Below w.heap.size w wr := BW0.trans (FS.bel.mono BW0.size)
      clear FS
      generalize wr = wT at *
      go_wp2_with fail
      go_loopw [116] (fun i wq => ∃ t : Nat, t ≤ had.length ∧ i = .int .i64 t ∧ (∀ (t' : Nat) y, t' < t → os[t']? = some y → ∀ (j : Nat) s, (strs l)[j]? = some s → s ≠ y) ∧ Below wT.heap.size wT wq) (fun i _ => had.length - (intOf i).toNat)
      case atStart => exact ⟨0, Nat.zero_le _, rfl, fun t' y h => by omega, Below.refl _ _⟩
      case round =>
        obtain ⟨t, ht, rfl, hno, BQ⟩ := hrel
        have HNO : Hid (∀ (t' : Nat) y, t' < t → os[t']? = some y → ∀ (j : Nat) s, (strs l)[j]? = some s → s ≠ y) := hno
        clear hno
        have BF := BT.trans (BQ.mono BT.size)
        by_cases hlt : t < had.length
        · have hto : t < os.length := by have := HOL.out; omega
          obtain ⟨b, off, hb, hix, hc⟩ := (INO.below BQ (Nat.le_refl _)).at t hto
          have HX : Hid (os[t]? = some os[t]) := List.getElem?_eq_getElem hto
          have WA := waits_any _ l os[t] wr (SlG.size QdV.bears HV BF (Nat.le_refl _))
          generalize os[t] = x at *
          go_wp2_with fail
          refine WA.mono ?_
          rintro e w5 ⟨z, rfl, FI, b5⟩
          have B5 := BQ.trans (b5.mono BQ.size)
          have BG := BT.trans (B5.mono BT.size)
          rcases FI with ⟨rfl, hni⟩ | ⟨i, rfl, hfi⟩
          · have HN2 : Hid (∀ (t' : Nat) y, t' < t + 1 → os[t']? = some y → ∀ (j : Nat) s, (strs l)[j]? = some s → s ≠ y) := fun t' y h1 h2 j s h3 => by
              by_cases e : t' = t
              · subst e
                rw [HX.out] at h2
                simp only [Option.some.injEq] at h2
                subst h2
                rintro rfl
                exact hni (List.mem_of_getElem? h3)
              · exact HNO.out t' y (by omega) h2 j s h3
            clear WA hni
            go_wp2_with fail
            go_roundw
            case rel => exact ⟨t + 1, by omega, by go_num, HN2.out, B5⟩
            case measure => simp [intOf]; omega
          · have NX : NextIs 5 last hand had (idsQ l) (strs l) (i : Int) := next_fair HNO0.out rfl (HORD.out.hit HX.out HNO.out hfi)
            have gi : (i : Int) ≥ 0 := by omega
            clear WA hfi
            go_wp2_with fail
            go_ret
            exact ⟨_, rfl, NX, BG⟩
        · have hte : t = had.length := by omega
          subst hte
          have NX : NextIs 5 last hand had (idsQ l) (strs l) (-1) := next_fair HNO0.out rfl (HORD.out.none fun t' y h => HNO.out t' y (by have := (List.getElem?_eq_some_iff.1 h).1; have := HOL.out; omega) h)
          go_wp2_with fail
          go_ret
          exact ⟨_, rfl, NX, BF⟩

set_option maxHeartbeats 1000000 in
theorem rnext_any (turns : Int) (vs v : Value) (s : Sd) (l : List Qd) (w : World) (hs : SdV w.heap.size w vs s) (hv : QdS w.heap.size w v l) (hl0 : s.had.length ≠ 0 → 0 ≤ s.last ∧ s.last < s.had.length) (hn : s.had.length ≤ 1048576) :
    Calls Try.prog 23 #[.int .i64 turns, vs, v] w fun e w' => ∃ k, e = .returned (.int .i64 k) ∧ NextIs turns s.last s.hand s.had (idsQ l) (strs l) k ∧ Below w.heap.size w w' := by
  have HV := hv
  obtain ⟨a, cap, rfl, h1, h2⟩ := hv.ex
  obtain ⟨d, rfl, hd⟩ := hs
  have HD := hd
  obtain ⟨ad, cd, rfl, -, -⟩ := hd.ex
  obtain ⟨last, hand, had⟩ := s
  simp only at HD hl0 hn ⊢
  have B0 := box_below w (.cells #[.int .i64 last, .int .i64 hand, .slice ad had.length cd] 51)
  by_cases e0 : l.length = 0
  · have NX : NextIs turns last hand had (idsQ l) (strs l) (-1) := next_none (.inl (by rw [strs_len]; exact e0))
    have el : ((l.length : Int) == 0) = true := by simp [e0]
    clear e0
    go_enter Try.func23, Try.ntmps23
    go_wp2_with fail
    go_ret
    exact ⟨_, rfl, NX, B0⟩
  by_cases e1 : had.length = 0
  · have NX : NextIs turns last hand had (idsQ l) (strs l) (-1) := next_none (.inr e1)
    have el : ((l.length : Int) == 0) = false := by rw [beq_eq_false_iff_ne]; omega
    have em : ((had.length : Int) == 0) = true := by simp [e1]
    clear e0 e1 hl0
    go_enter Try.func23, Try.ntmps23
    go_wp2_with fail
    go_ret
    exact ⟨_, rfl, NX, B0⟩
  obtain ⟨l0, l1⟩ := hl0 e1
  by_cases t2 : turns = 2
  · subst t2
    exact rnext_round _ last hand had ad cd l w HD HV l0 l1 hn e0
  by_cases t3 : turns = 3
  · subst t3
    exact rnext_parts _ last hand had ad cd l w HD HV l0 l1 hn e0
  by_cases t4 : turns = 4
  · subst t4
    exact rnext_rank _ last hand had ad cd l w HD HV l0 l1 hn e0
  by_cases t5 : turns = 5
  · subst t5
    exact rnext_fair _ last hand had ad cd l w HD HV l0 l1 hn e0
  have NX : NextIs turns last hand had (idsQ l) (strs l) 0 := by
    unfold NextIs
    rw [if_neg (by rw [strs_len]; omega), if_neg (by omega), if_neg (by omega), if_neg (by omega), if_neg (by omega)]
  have el : ((l.length : Int) == 0) = false := by rw [beq_eq_false_iff_ne]; omega
  have em : ((had.length : Int) == 0) = false := by rw [beq_eq_false_iff_ne]; omega
  have g2 : (turns == 2) = false := by simpa using t2
  have g3 : (turns == 3) = false := by simpa using t3
  have g4 : (turns == 4) = false := by simpa using t4
  have g5 : (turns == 5) = false := by simpa using t5
  clear e0 e1 hl0
  go_enter Try.func23, Try.ntmps23
  go_wp2_with fail
  go_ret
  exact ⟨_, rfl, NX, B0⟩
end Go.Proofs.Ytnddejdndipddab
