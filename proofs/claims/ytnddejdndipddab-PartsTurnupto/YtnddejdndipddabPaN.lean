/- The walk of PartsTurn. -/
import Derived.Test.YtnddejdndipddabPaM
set_option maxRecDepth 20000
namespace Go.Proofs.Ytnddejdndipddab
open Go.RowKit

/-- Two pieces of the row, turned. -/
theorem TuSt.swap {wS : World} {O n : Nat} {lP : List Pc} {wr : World} (f : TuSt wS O n lP wr) {i j : Nat} (hi : i < n) (hj : j < n) :
    ∃ ci cj : Array Value, wr.rangeAt O (i * 12) ci.toList ∧ wr.rangeAt O (j * 12) cj.toList ∧ ci.size = 12 ∧ cj.size = 12 ∧ ci.all (·.oneCell') = true ∧ cj.all (·.oneCell') = true ∧ wr.there O (i * 12) 12 ∧ (wr.setCells O (i * 12) cj.toList).there O (j * 12) 12 ∧
      TuSt wS O n lP ((wr.setCells O (i * 12) cj.toList).setCells O (j * 12) ci.toList) := by
  obtain ⟨vs, l, h1, h2, h3, h4⟩ := f.row
  subst h2
  have hl := h3.len
  have hf := All2.flat (PcV.bears.cells wS.heap.size wS) h3
  obtain ⟨vi, ei, ri⟩ := h3.get i hi
  obtain ⟨vj, ej, rj⟩ := h3.get j hj
  have li := PcV.bears.cells _ _ _ _ ri
  have lj := PcV.bears.cells _ _ _ _ rj
  have oi := ri.one
  have oj := rj.one
  have C1 := h4.setRow h3 hi rj
  have A1 := All2.set i rj h3
  have C2 := C1.setRow A1 (i := j) (by simpa using hj) ri
  have A2 := All2.set j ri A1
  have range : ∀ {w : World} {us : List Value} {m : List Pc} (_ : All2 (PcV wS.heap.size wS) us m) (_ : Cells O w (flatV us)) {k : Nat} {u : Value}, us[k]? = some u → u.cells.toList.length = 12 → w.rangeAt O (k * 12) u.cells.toList := fun {w us m} hA hC {k u} hk hu q x hx => by
    refine hC.cell _ _ ?_
    rw [(All2.flat (PcV.bears.cells wS.heap.size wS) hA).2.1 _ _ q hk (by rw [← hu]; exact (List.getElem?_eq_some_iff.1 hx).1)]
    exact hx
  have there : ∀ {w : World} {us : List Value} {m : List Pc} (_ : All2 (PcV wS.heap.size wS) us m) (_ : Cells O w (flatV us)) {k : Nat}, k < m.length → w.there O (k * 12) 12 := fun {w us m} hA hC {k} hk q hq => by
    obtain ⟨u, eu, ru⟩ := hA.get k hk
    have lu := PcV.bears.cells _ _ _ _ ru
    have := range hA hC eu lu q _ (List.getElem?_eq_getElem (by omega))
    exact ⟨by rw [this]; rfl, hC.fz _⟩
  have agi : vi.cells.toList.toArray = vi.cells := by simp
  refine ⟨vi.cells, vj.cells, range h3 h4 ei li, range h3 h4 ej lj, by simpa using li, by simpa using lj, ?_, ?_, there h3 h4 hi, there A1 C1 (by simpa using hj), ⟨Below.setCells f.lo _ _ (Below.setCells f.lo _ _ f.bel), f.lo, by rw [size_setCells, size_setCells]; exact f.hi, _, _, ?_, by simp, A2, C2⟩⟩
  · rw [← Array.all_toList]; exact List.all_eq_true.2 oi
  · rw [← Array.all_toList]; exact List.all_eq_true.2 oj
  · exact h1.trans (swap_perm' hi hj)

/-- From one on, and round. -/
theorem turn_row {wS : World} {ls : List (List Int)} {n f : Nat} {vs : List Value} (h : All2 (PcV wS.heap.size wS) vs (piecesM ls n)) : (piecesM ls n).Perm ((piecesM ls n).drop f ++ (piecesM ls n).take f) ∧ All2 (PcV wS.heap.size wS) (vs.drop f ++ vs.take f) ((piecesM ls n).drop f ++ (piecesM ls n).take f) := by
  refine ⟨?_, All2.append (h.drop f) (h.take f)⟩
  have := List.perm_append_comm (l₁ := (piecesM ls n).take f) (l₂ := (piecesM ls n).drop f)
  rwa [List.take_append_drop] at this

set_option maxHeartbeats 4000000 in
theorem turn_walk (vb : Value) (bs : List Int) (p from' : Int) (turned : Bool) (w : World) (hb : By w.heap.size w vb bs) (hbl : bs.length ≤ 1048576) :
    Calls Try.prog 7 #[vb, .int .i64 p, .int .i64 from', .bool turned] w fun e w' => e = .returned (.bool true) ∧ Below w.heap.size w w' := by
  have HB := hb
  obtain ⟨ab, cb, rfl, h3, h4⟩ := hb.ex
  have SP := fun wx (hx : Below w.heap.size w wx) => split_any _ bs p wx (HB.size hx (Nat.le_refl _)) (by omega)
  clear hb
  go_enter Try.func7, Try.ntmps7
  go_wp2_with fail
  refine (alive4_any _).mono ?_
  rintro e w1 ⟨rfl, B1⟩
  cases e0 : ((bs.length : Int) == 0) with
  | true =>
    go_wp2_with fail
    go_ret
    exact ⟨rfl, B1⟩
  | false =>
  by_cases p1 : p < 1
  · go_wp2_with fail
    go_ret
    exact ⟨rfl, B1⟩
  have hbn : 1 ≤ bs.length := by rw [beq_eq_false_iff_ne] at e0; omega
  have hp : 1 ≤ p := by omega
  have hml := split_len bs p
  obtain ⟨c1, c2, -, -⟩ := countM_le (n := bs.length) (p := p) (by omega) hp
  have SPW := SP _ B1
  have TJ := fun (l : List Pc) => turn_join (bs := bs) (p := p) (l := l) hbn hp
  have SG := split_get bs p
  have SL : ∀ x ∈ splitM bs p, x.length ≤ 1048576 := fun x hx => by
    obtain ⟨k, _, rfl⟩ := List.mem_map.1 hx
    simp only [List.length_take, List.length_drop]
    omega
  have hnb : (splitM bs p).length ≤ 1048576 := by omega
  have hn1 : 1 ≤ (splitM bs p).length := by omega
  clear SP SG hml c1 c2
  generalize splitM bs p = ls at *
  go_wp2_with fail
  refine SPW.mono ?_
  rintro e wS ⟨vm, rfl, BB0, bS⟩
  have BB := BB0
  obtain ⟨am, cm, rfl, m1, m2⟩ := BB0.ex
  have BS := B1.trans (bS.mono B1.size)
  clear SPW BB0 bS B1
  go_wp2_with fail
  go_loopw [10, 30] (fun o i wr => ∃ (k : Nat) (a : Option Addr) (c : Nat), k ≤ ls.length ∧ i = .int .i64 k ∧ o = .slice a k c ∧ P1 wS ls k a c wr) (fun _ i _ => ls.length - (intOf i).toNat)
  case atStart => exact ⟨0, none, 0, Nat.zero_le _, rfl, rfl, P1.start wS ls⟩
  case round =>
    obtain ⟨k, a, c, hk, rfl, rfl, PS⟩ := hrel
    by_cases hlt : k < ls.length
    · obtain ⟨b, off, d, hb, hix, hd, hcd⟩ := BbS.at BB k hlt
      have hcw : wr.cell? ⟨b, off, none⟩ = some d := (PS.bel.cell (p := ⟨b, off, none⟩) hb).trans hcd
      have HD := hd
      obtain ⟨ad, cd, rfl, -, -⟩ := hd.ex
      have elast : ((k : Int) == (ls.length : Int) - 1) = decide (k + 1 = ls.length) := by rw [Bool.eq_iff_iff]; simp; omega
      obtain ⟨xs, own2, hbs, RW, one, ST⟩ := PS.step (List.getElem?_eq_getElem hlt) HD elast
      clear PS HD hd elast hcd
      generalize ls[k].length = dl at *
      go_wp2_with (at_builtin; refine wpList_append_rw Try.underlying35 Try.infoPc rfl (by decide) _ rfl (.tmp 35) (.tmp 46) rfl wS.heap.size (.slice a k c) k xs rfl own2 _ 1 _ _ rfl RW one (by unfold maxLen; omega) (by omega) hbs ?_; intro v3 w3 own3 grow3 at3; obtain ⟨a3, c3, rfl, P3⟩ := ST v3 w3 own3 grow3; clear own3 grow3 at3)
      go_roundw
      case rel => exact ⟨k + 1, a3, c3, by omega, by go_num, rfl, P3⟩
      case measure => simp [intOf]; omega
    · have hke : k = ls.length := by omega
      subst hke
      obtain ⟨vs, hA, OWN⟩ := PS.row
      have BR := PS.bel
      have BW := BS.trans (BR.mono BS.size)
      have gl : (ls.length : Int) > 0 := by omega
      have gl0 : ((ls.length : Int) == 0) = false := by rw [beq_eq_false_iff_ne]; omega
      clear PS
      by_cases f0 : from' < 0
      · go_wp2_with fail
        go_ret
        exact ⟨ret_bool (by simp; omega), BW⟩
      by_cases f1 : from' ≥ (ls.length : Int)
      · go_wp2_with fail
        go_ret
        exact ⟨ret_bool (by simp; omega), BW⟩
      obtain ⟨f, rfl⟩ := Int.eq_ofNat_of_zero_le (show 0 ≤ from' by omega)
      have hfn : f < ls.length := by omega
      have hf := All2.flat (PcV.bears.cells wS.heap.size wS) hA
      obtain ⟨TP, TA⟩ := turn_row (f := f) hA
      have RW0 : Rw 12 wr.heap.size wr (.slice a ls.length c) ls.length (flatV vs) := Rw.own OWN (by rw [hf.1, pieces_len])
      have hcap := RW0.len
      have RW1 := RW0.re f (ls.length - f) (by omega)
      have RW2 := RW0.re 0 f (by omega)
      rw [show ((flatV vs).drop (f * 12)).take ((ls.length - f) * 12) = flatV (vs.drop f) by rw [hf.2.2.2 f, List.take_of_length_le]; rw [List.length_drop, hf.1, pieces_len]; omega] at RW1
      rw [Nat.zero_mul, List.drop_zero, Nat.sub_zero, show reK 12 a c 0 = a by simp [reK, Addr.add], ← hf.2.2.1 f] at RW2
      have one1 := All2.one (hA.drop f)
      have one2 := All2.one (hA.take f)
      have R1 := run_rep_l a ls.length c f (by omega)
      have R2 := run_rep_h a ls.length c f (by omega)
      have O1 : (wr.alloc (.cells #[] 47)).ownsRow wr.heap.size 47 12 (.slice (some ⟨wr.heap.size, 0, none⟩) 0 0) 0 [] := World.ownsRow_made wr #[] 0 (Nat.le_refl _) (Nat.zero_le _) rfl
      have BD : Below wr.heap.size wr (wr.alloc (.cells #[] 47)).drew := (box_below wr (.cells #[] 47)).trans ⟨rfl, rfl, rfl, Nat.le_refl _, fun _ _ => rfl⟩
      have RW1' := RW1.below BD (Nat.le_refl _)
      have hwz := BR.size
      clear OWN RW1 RW0 hf
      go_upto_region 14 with fail
      go_cut [10] from 65 to 73 (fun s10 wx => ∃ O c2 : Nat, s10 = .slice (some ⟨O, 0, none⟩) ls.length c2 ∧ ls.length ≤ c2 ∧ c2 ≤ 9223372036854775807 ∧ TuSt wS O ls.length (piecesM ls ls.length) wx)
      case first =>
        have FIN : ∀ (v6 : Value) (w5 w6 : World), Below wr.heap.size wr w5 → w6.ownsRow wr.heap.size 47 12 v6 (ls.length - f + f) (([] ++ flatV (vs.drop f)) ++ flatV (vs.take f)) → (∀ v5 : Value, w5.grownBy w6 v5.ownBlock → (∀ j, v5.ownBlock = some j → wr.heap.size ≤ j) → ∃ O c2 : Nat, v6 = .slice (some ⟨O, 0, none⟩) ls.length c2 ∧ ls.length ≤ c2 ∧ c2 ≤ 9223372036854775807 ∧ TuSt wS O ls.length (piecesM ls ls.length) w6) := fun v6 w5 w6 b5 o6 v5 g6 hj => by
          rw [List.nil_append, ← flatV_append, show ls.length - f + f = ls.length by omega] at o6
          obtain ⟨a6, c6, rfl⟩ := own_form o6
          obtain ⟨g, rfl, g1, g2, g3, g4, g5⟩ := own_cellsK o6 (by omega)
          exact ⟨g, c6, rfl, g4, g5, (BR.trans (b5.mono hwz)).grown g6 (Nat.le_trans hwz b5.size) (fun j h => Nat.le_trans hwz (hj j h)), by omega, g2, _, _, TP, by rw [← TP.length_eq, pieces_len], TA, g3⟩
        go_region_law (first
          | (refine step_append_rw Try.underlying35 Try.infoPc rfl (by decide) rfl (.tmp 65) (.tmp 68) rfl wr.heap.size (.slice (some ⟨wr.heap.size, 0, none⟩) 0 0) 0 [] rfl O1 wr.heap.size (ls.length - f) (flatV (vs.drop f)) _ rfl RW1' one1 (by unfold maxLen; omega) (by omega) (by simp) ?_; intro v5 w5 o5 g5 a5; rw [Nat.zero_add] at o5; have B5 : Below wr.heap.size wr w5 := BD.grown g5 (by simp) (fun j hj => by simp [Value.ownBlock] at hj; omega); have RW2' : Rw 12 wr.heap.size w5 (.slice a f c) f (flatV (vs.take f)) := RW2.below B5 (Nat.le_refl _); have L5 := fun j hj => (o5.lt j hj).1; obtain ⟨a5', c5', rfl⟩ := own_form o5; have hs5 := B5.size)
          | (refine step_append_rw Try.underlying35 Try.infoPc rfl (by decide) rfl (.tmp 69) (.tmp 72) rfl wr.heap.size (.slice a5' (ls.length - f) c5') (ls.length - f) ([] ++ flatV (vs.drop f)) rfl o5 wr.heap.size f (flatV (vs.take f)) _ rfl RW2' one2 (by unfold maxLen; omega) (by omega) hs5 ?_; intro v6 w6 o6 g6 a6; obtain ⟨O6, c6, rfl, q1, q2, T6⟩ := FIN v6 w5 w6 B5 o6 _ g6 L5))
        all_goals
          go_wp2_with fail
          go_simp
          go_meet
          exact ⟨O6, c6, rfl, q1, q2, T6⟩
      case rest =>
        obtain ⟨O, c2, rfl, q1, q2, TS⟩ := hcut
        have DL : ∀ l : List Pc, (piecesM ls ls.length).Perm l → ∀ q ∈ l, q.ck.data.length ≤ 1048576 := fun l hp q hq => by
          have := hp.mem_iff.2 hq
          obtain ⟨j, hj, rfl⟩ := List.mem_map.1 this
          rw [List.mem_range] at hj
          show (ls.getD j []).length ≤ _
          rw [List.getD_eq_getElem?_getD, List.getElem?_eq_getElem hj]
          exact SL _ (List.getElem_mem hj)
        clear R1 R2 O1 RW1' RW2 one1 one2 hA TP TA BB BD SL gl gl0
        cases turned with
        | false =>
          obtain ⟨l, hperm, hll, PCS⟩ := TS.pcs q1 q2
          have BX := BS.trans (TS.bel.mono BS.size)
          have hdl : ∀ q ∈ l, q.ck.data.length ≤ 1048576 := DL l hperm
          have J1 := join_any _ l _ PCS (by omega) hdl
          rw [(TJ l hperm).1, (TJ l hperm).2] at J1
          have R3 : ∀ wx, (Instr.slice 35 (.slice (some ⟨O, 0, none⟩) ls.length c2) (some (.int .i64 1)) none none).run Try.prog wx = .ok (.slice (reK 12 (some ⟨O, 0, none⟩) c2 1) (ls.length - 1) (c2 - 1)) wx := run_rep_l (some ⟨O, 0, none⟩) ls.length c2 1 hn1
          obtain ⟨q, l', rfl⟩ : ∃ q l', l = q :: l' := by
            cases l with
            | nil => simp at hll; omega
            | cons q l' => exact ⟨q, l', rfl⟩
          have hno := turn_none hperm
          have hdl' : ∀ q ∈ l', q.ck.data.length ≤ 1048576 := fun x hx => hdl x (by simp [hx])
          have hl' : l'.length = ls.length - 1 := by simp at hll; omega
          have HLL : Hid (l'.length = ls.length - 1) := hl'
          have hl'b : l'.length ≤ 1048576 := by omega
          clear TJ DL hperm hdl hll hl'
          go_wp2_with fail
          refine J1.mono ?_
          rintro e w5 ⟨v5, rfl, by5, b5⟩
          have BX5 := BX.trans (b5.mono BX.size)
          have T5 := by5.str
          have TB := (HB.below BX5 (Nat.le_refl _)).str
          obtain ⟨a5, c5, rfl, -, -⟩ := by5.ex
          have P5 := SlG.re PcV.bears (SlG.size PcV.bears PCS b5 (Nat.le_refl _)) 1 (ls.length - 1) (by have := HLL.out; simp; omega)
          rw [List.drop_succ_cons, List.drop_zero, List.take_of_length_le (by rw [HLL.out]; exact Nat.le_refl _)] at P5
          have J2 := join_any _ l' _ P5 hl'b hdl'
          rw [hno] at J2
          clear J1 P5 PCS by5 HLL hl'b hdl' hno
          go_wp2_with fail
          refine J2.mono ?_
          rintro e w6 ⟨v6, rfl, by6, b6⟩
          have BX6 := BX5.trans (b6.mono BX5.size)
          obtain ⟨a6, c6, rfl, -, -⟩ := by6.ex
          generalize (joinD l').length = nl at *
          clear J2 T5 TB by6
          go_wp2_with fail
          go_ret
          exact ⟨rfl, BX6⟩
        | true =>
          go_wp2_with fail
          go_loopw [78] (fun i wq => ∃ k : Nat, k ≤ ls.length / 2 ∧ i = .int .i64 k ∧ TuSt wS O ls.length (piecesM ls ls.length) wq) (fun i _ => ls.length / 2 - (intOf i).toNat)
          case atStart => exact ⟨0, Nat.zero_le _, rfl, TS⟩
          case round =>
            obtain ⟨k, hk, rfl, TK⟩ := hrel
            by_cases hlt : k < ls.length / 2
            · have hkn : k < ls.length := by omega
              have hjn : ls.length - 1 - k < ls.length := by omega
              obtain ⟨ci, cj, ra, rb, si, sj, oi, oj, th1, th2, TN⟩ := TK.drewn.swap hkn hjn
              obtain ⟨dd, hu, hd⟩ := rowPc
              have ej : ((ls.length - 1 - k : Nat) : Int) = (ls.length : Int) - 1 - (k : Int) := by omega
              have wr1 : IntKind.i64.wrap ((ls.length : Int) - 1) = (ls.length : Int) - 1 := wrap_id (by omega) (by omega)
              have wr2 : IntKind.i64.wrap ((ls.length : Int) - 1 - (k : Int)) = (ls.length : Int) - 1 - (k : Int) := wrap_id (by omega) (by omega)
              have I1 := run_rep_at O ls.length c2 k hkn
              have I2 := run_rep_at O ls.length c2 (ls.length - 1 - k) hjn
              rw [ej] at I2
              generalize ls.length - 1 - k = j at *
              have LI : (Instr.loadAt 47 (.pointer (some ⟨O, k * 12, none⟩))).run Try.prog wr.drew = .ok (.agg ci) wr.drew := by have := run_loadAt_mid (P := Try.prog) wr.drew O (k * 12) 47 ci.toList dd ra hu hd (by rw [Try.sizePc]; simp [si]); simpa using this
              have LJ : (Instr.loadAt 47 (.pointer (some ⟨O, j * 12, none⟩))).run Try.prog wr.drew = .ok (.agg cj) wr.drew := by have := run_loadAt_mid (P := Try.prog) wr.drew O (j * 12) 47 cj.toList dd rb hu hd (by rw [Try.sizePc]; simp [sj]); simpa using this
              have SI : (Instr.storeAt 47 (.pointer (some ⟨O, k * 12, none⟩)) (.agg cj)).run Try.prog wr.drew = .ok () (wr.drew.setCells O (k * 12) cj.toList) := run_storeAt_mid (P := Try.prog) wr.drew O (k * 12) 47 cj (by rw [sj]; exact th1) (by rw [Try.sizePc, sj]) oj
              have SJ : (Instr.storeAt 47 (.pointer (some ⟨O, j * 12, none⟩)) (.agg ci)).run Try.prog (wr.drew.setCells O (k * 12) cj.toList) = .ok () ((wr.drew.setCells O (k * 12) cj.toList).setCells O (j * 12) ci.toList) := run_storeAt_mid (P := Try.prog) _ O (j * 12) 47 ci (by rw [si]; exact th2) (by rw [Try.sizePc, si]) oi
              clear TK ra rb th1 th2 hu hd dd oi oj si sj
              go_wp2_with fail
              -- the two loads in either order, then the two stores
              refine wp_region_any (by kernel_rfl) ?_
              try (change wpAny _ _ _ _ _ _ _ (World.drew _))
              refine wpAny_take (i := 0) (v := ?v0) rfl (by kernel_rfl) (by kernel_rfl) (by kernel_rfl) (fun _ _ _ h => h) (Or.inl ⟨by rfl, ?h0⟩) ?_
              case h0 => (intro w; go_simp; try with_reducible rfl)
              refine wpAny_take (i := 1) (v := ?v1) rfl (by kernel_rfl) (by kernel_rfl) (by kernel_rfl) (fun _ _ _ h => h) (Or.inl ⟨by rfl, ?h1⟩) ?_
              case h1 => (intro w; go_simp; try with_reducible rfl)
              refine wpAny_take (i := 2) (v := ?v2) rfl (by kernel_rfl) (by kernel_rfl) (by kernel_rfl) (fun _ _ _ h => h) (Or.inl ⟨by rfl, ?h2⟩) ?_
              case h2 => (intro w; go_simp; try with_reducible rfl)
              refine wpAny_take (i := 3) (v := ?v3) rfl (by kernel_rfl) (by kernel_rfl) (by kernel_rfl) (fun _ _ _ h => h) (Or.inl ⟨by rfl, ?h3⟩) ?_
              case h3 => (intro w; go_simp; try with_reducible rfl)
              go_simp
              refine wpAny_take (i := 4) (v := ?v4) rfl (by kernel_rfl) (by kernel_rfl) (by kernel_rfl) (fun _ _ _ h => h) (Or.inl ⟨by rfl, ?h4⟩) ?_
              case h4 => (intro w; go_simp; try with_reducible rfl)
              refine wpAny_take (i := 5) (v := ?v5) rfl (by kernel_rfl) (by kernel_rfl) (by kernel_rfl) (fun _ _ _ h => h) (Or.inl ⟨by rfl, ?h5⟩) ?_
              case h5 => (intro w; go_simp; try with_reducible rfl)
              refine wpAny_take (i := 6) (v := ?v6) rfl (by kernel_rfl) (by kernel_rfl) (by kernel_rfl) (fun _ _ _ h => h) (Or.inl ⟨by rfl, ?h6⟩) ?_
              case h6 => (intro w; go_simp; try with_reducible rfl)
              refine wpAny_take (i := 7) (v := ?v7) rfl (by kernel_rfl) (by kernel_rfl) (by kernel_rfl) (fun _ _ _ h => h) (Or.inl ⟨by rfl, ?h7⟩) ?_
              case h7 => (intro w; go_simp; try with_reducible rfl)
              go_simp
              refine wpAny_take (i := 8) (v := ?v8) rfl (by kernel_rfl) (by kernel_rfl) (by kernel_rfl) (fun _ _ _ h => h) (Or.inl ⟨by rfl, ?h8⟩) ?_
              case h8 => (intro w; go_simp; try with_reducible rfl)
              refine wpAny_take (i := 9) (v := ?v9) rfl (by kernel_rfl) (by kernel_rfl) (by kernel_rfl) (fun _ _ _ h => h) (Or.inl ⟨by rfl, ?h9⟩) ?_
              case h9 => (intro w; go_simp; try with_reducible rfl)
              refine wpAny_take (i := 10) (v := ?v10) rfl (by kernel_rfl) (by kernel_rfl) (by kernel_rfl) (fun _ _ _ h => h) (Or.inl ⟨by rfl, ?h10⟩) ?_
              case h10 => (intro w; go_simp; try with_reducible rfl)
              refine wpAny_take (i := 11) (v := ?v11) rfl (by kernel_rfl) (by kernel_rfl) (by kernel_rfl) (fun _ _ _ h => h) (Or.inl ⟨by rfl, ?h11⟩) ?_
              case h11 => (intro w; go_simp; try with_reducible rfl)
              go_simp
              refine wpAny_take (i := 12) (v := ?v12) rfl (by kernel_rfl) (by kernel_rfl) (by kernel_rfl) (fun _ _ _ h => h) (Or.inl ⟨by rfl, ?h12⟩) ?_
              case h12 => (intro w; go_simp; try with_reducible rfl)
              refine wpAny_take (i := 13) (v := ?v13) rfl (by kernel_rfl) (by kernel_rfl) (by kernel_rfl) (fun _ _ _ h => h) (Or.inl ⟨by rfl, ?h13⟩) ?_
              case h13 => (intro w; go_simp; try with_reducible rfl)
              refine wpAny_take (i := 14) (v := ?v14) rfl (by kernel_rfl) (by kernel_rfl) (by kernel_rfl) (fun _ _ _ h => h) (Or.inl ⟨by rfl, ?h14⟩) ?_
              case h14 => (intro w; go_simp; try with_reducible rfl)
              refine wpAny_take (i := 16) (v := ?v16) rfl (by kernel_rfl) (by kernel_rfl) (by kernel_rfl) (fun _ _ _ h => h) (Or.inl ⟨by rfl, ?h16⟩) ?_
              case h16 => (intro w; go_simp; try with_reducible rfl)
              go_simp
              refine wpAny_take (i := 17) (v := ?v17) rfl (by kernel_rfl) (by kernel_rfl) (by kernel_rfl) (fun _ _ _ h => h) (Or.inl ⟨by rfl, ?h17⟩) ?_
              case h17 => (intro w; go_simp; try with_reducible rfl)
              refine wpAny_take (i := 18) (v := ?v18) rfl (by kernel_rfl) (by kernel_rfl) (by kernel_rfl) (fun _ _ _ h => h) (Or.inl ⟨by rfl, ?h18⟩) ?_
              case h18 => (intro w; go_simp; try with_reducible rfl)
              go_simp
              refine wpAny_ready (rs := [15, 19]) (by kernel_rfl) (by simp) ?_
              refine AllReady.cons (o := ({ dst := some 96, op := Op.load 47 (Operand.tmp 95), type := 47, pos := "law.go:58", after := #[{ on := 14, ground := Ground.data }], guard := none } : Oper)) rfl (fun K hK => ?_) ?_
              · refine step_load_mid rfl 47 (.tmp 95) rfl _ rfl _ LJ ?_
                refine hK _ _ ?_
                clear hK K
                go_simp
                refine wpAny_ready (rs := [19]) (by kernel_rfl) (by simp) ?_
                refine AllReady.cons (o := ({ dst := some 100, op := Op.load 47 (Operand.tmp 99), type := 47, pos := "law.go:58", after := #[{ on := 18, ground := Ground.data }], guard := none } : Oper)) rfl (fun K hK => ?_) AllReady.nil
                refine step_load_mid rfl 47 (.tmp 99) rfl _ rfl _ LI ?_
                refine hK _ _ ?_
                clear hK K
                go_simp
                refine wpAny_take (i := 20) (v := ?v20) rfl (by kernel_rfl) (by kernel_rfl) (by kernel_rfl) (fun _ _ _ h => h) (Or.inl ⟨by rfl, ?h20⟩) ?_
                case h20 => (intro w; go_simp; try with_reducible rfl)
                go_simp
                refine wpAny_ready (rs := [21]) (by kernel_rfl) (by simp) ?_
                refine AllReady.cons (o := ({ dst := none, op := Op.store 47 (Operand.tmp 101) (Operand.tmp 96), type := 0, pos := "law.go:58", after := #[{ on := 20, ground := Ground.data }, { on := 15, ground := Ground.data }, { on := 0, ground := Ground.phase }, { on := 1, ground := Ground.phase }, { on := 2, ground := Ground.textOnly Departure.lateStores }, { on := 3, ground := Ground.textOnly Departure.lateStores }, { on := 4, ground := Ground.textOnly Departure.lateStoresUnsure }, { on := 5, ground := Ground.textOnly Departure.lateStores }, { on := 6, ground := Ground.textOnly Departure.lateStores }, { on := 7, ground := Ground.textOnly Departure.lateStores }, { on := 8, ground := Ground.phase }, { on := 9, ground := Ground.phase }, { on := 10, ground := Ground.phase }, { on := 11, ground := Ground.phase }, { on := 12, ground := Ground.phase }, { on := 13, ground := Ground.phase }, { on := 14, ground := Ground.phase }, { on := 15, ground := Ground.phase }, { on := 16, ground := Ground.textOnly Departure.lateStores }, { on := 17, ground := Ground.textOnly Departure.lateStores }, { on := 18, ground := Ground.textOnly Departure.lateStoresUnsure }, { on := 19, ground := Ground.phase }], guard := none } : Oper)) rfl (fun K hK => ?_) AllReady.nil
                refine step_store_mid rfl 47 (.tmp 101) (.tmp 96) rfl _ _ rfl rfl SI ?_
                refine hK _ _ ?_
                clear hK K
                go_simp
                refine wpAny_take (i := 22) (v := ?v22) rfl (by kernel_rfl) (by kernel_rfl) (by kernel_rfl) (fun _ _ _ h => h) (Or.inl ⟨by rfl, ?h22⟩) ?_
                case h22 => (intro w; go_simp; try with_reducible rfl)
                go_simp
                refine wpAny_ready (rs := [23]) (by kernel_rfl) (by simp) ?_
                refine AllReady.cons (o := ({ dst := none, op := Op.store 47 (Operand.tmp 102) (Operand.tmp 100), type := 0, pos := "law.go:58", after := #[{ on := 22, ground := Ground.data }, { on := 19, ground := Ground.data }, { on := 21, ground := Ground.chain }, { on := 0, ground := Ground.phase }, { on := 1, ground := Ground.phase }, { on := 2, ground := Ground.phase }, { on := 3, ground := Ground.phase }, { on := 4, ground := Ground.phase }, { on := 5, ground := Ground.phase }, { on := 6, ground := Ground.phase }, { on := 7, ground := Ground.phase }, { on := 8, ground := Ground.phase }, { on := 9, ground := Ground.phase }, { on := 10, ground := Ground.phase }, { on := 11, ground := Ground.phase }, { on := 12, ground := Ground.phase }, { on := 13, ground := Ground.phase }, { on := 14, ground := Ground.phase }, { on := 15, ground := Ground.phase }, { on := 16, ground := Ground.phase }, { on := 17, ground := Ground.phase }, { on := 18, ground := Ground.phase }, { on := 19, ground := Ground.phase }, { on := 20, ground := Ground.phase }, { on := 21, ground := Ground.phase }], guard := none } : Oper)) rfl (fun K hK => ?_) AllReady.nil
                refine step_store_mid rfl 47 (.tmp 102) (.tmp 100) rfl _ _ rfl rfl SJ ?_
                refine hK _ _ ?_
                clear hK K
                refine wpAny_done (by kernel_rfl) ?_ _
                go_wp2_with fail
                exact ⟨⟨k + 1, by omega, by go_num, TN⟩, by simp [intOf]; omega⟩
              refine AllReady.cons (o := ({ dst := some 100, op := Op.load 47 (Operand.tmp 99), type := 47, pos := "law.go:58", after := #[{ on := 18, ground := Ground.data }], guard := none } : Oper)) rfl (fun K hK => ?_) AllReady.nil
              refine step_load_mid rfl 47 (.tmp 99) rfl _ rfl _ LI ?_
              refine hK _ _ ?_
              clear hK K
              go_simp
              refine wpAny_ready (rs := [15]) (by kernel_rfl) (by simp) ?_
              refine AllReady.cons (o := ({ dst := some 96, op := Op.load 47 (Operand.tmp 95), type := 47, pos := "law.go:58", after := #[{ on := 14, ground := Ground.data }], guard := none } : Oper)) rfl (fun K hK => ?_) AllReady.nil
              refine step_load_mid rfl 47 (.tmp 95) rfl _ rfl _ LJ ?_
              refine hK _ _ ?_
              clear hK K
              go_simp
              refine wpAny_take (i := 20) (v := ?v20) rfl (by kernel_rfl) (by kernel_rfl) (by kernel_rfl) (fun _ _ _ h => h) (Or.inl ⟨by rfl, ?h20⟩) ?_
              case h20 => (intro w; go_simp; try with_reducible rfl)
              go_simp
              refine wpAny_ready (rs := [21]) (by kernel_rfl) (by simp) ?_
              refine AllReady.cons (o := ({ dst := none, op := Op.store 47 (Operand.tmp 101) (Operand.tmp 96), type := 0, pos := "law.go:58", after := #[{ on := 20, ground := Ground.data }, { on := 15, ground := Ground.data }, { on := 0, ground := Ground.phase }, { on := 1, ground := Ground.phase }, { on := 2, ground := Ground.textOnly Departure.lateStores }, { on := 3, ground := Ground.textOnly Departure.lateStores }, { on := 4, ground := Ground.textOnly Departure.lateStoresUnsure }, { on := 5, ground := Ground.textOnly Departure.lateStores }, { on := 6, ground := Ground.textOnly Departure.lateStores }, { on := 7, ground := Ground.textOnly Departure.lateStores }, { on := 8, ground := Ground.phase }, { on := 9, ground := Ground.phase }, { on := 10, ground := Ground.phase }, { on := 11, ground := Ground.phase }, { on := 12, ground := Ground.phase }, { on := 13, ground := Ground.phase }, { on := 14, ground := Ground.phase }, { on := 15, ground := Ground.phase }, { on := 16, ground := Ground.textOnly Departure.lateStores }, { on := 17, ground := Ground.textOnly Departure.lateStores }, { on := 18, ground := Ground.textOnly Departure.lateStoresUnsure }, { on := 19, ground := Ground.phase }], guard := none } : Oper)) rfl (fun K hK => ?_) AllReady.nil
              refine step_store_mid rfl 47 (.tmp 101) (.tmp 96) rfl _ _ rfl rfl SI ?_
              refine hK _ _ ?_
              clear hK K
              go_simp
              refine wpAny_take (i := 22) (v := ?v22) rfl (by kernel_rfl) (by kernel_rfl) (by kernel_rfl) (fun _ _ _ h => h) (Or.inl ⟨by rfl, ?h22⟩) ?_
              case h22 => (intro w; go_simp; try with_reducible rfl)
              go_simp
              refine wpAny_ready (rs := [23]) (by kernel_rfl) (by simp) ?_
              refine AllReady.cons (o := ({ dst := none, op := Op.store 47 (Operand.tmp 102) (Operand.tmp 100), type := 0, pos := "law.go:58", after := #[{ on := 22, ground := Ground.data }, { on := 19, ground := Ground.data }, { on := 21, ground := Ground.chain }, { on := 0, ground := Ground.phase }, { on := 1, ground := Ground.phase }, { on := 2, ground := Ground.phase }, { on := 3, ground := Ground.phase }, { on := 4, ground := Ground.phase }, { on := 5, ground := Ground.phase }, { on := 6, ground := Ground.phase }, { on := 7, ground := Ground.phase }, { on := 8, ground := Ground.phase }, { on := 9, ground := Ground.phase }, { on := 10, ground := Ground.phase }, { on := 11, ground := Ground.phase }, { on := 12, ground := Ground.phase }, { on := 13, ground := Ground.phase }, { on := 14, ground := Ground.phase }, { on := 15, ground := Ground.phase }, { on := 16, ground := Ground.phase }, { on := 17, ground := Ground.phase }, { on := 18, ground := Ground.phase }, { on := 19, ground := Ground.phase }, { on := 20, ground := Ground.phase }, { on := 21, ground := Ground.phase }], guard := none } : Oper)) rfl (fun K hK => ?_) AllReady.nil
              refine step_store_mid rfl 47 (.tmp 102) (.tmp 100) rfl _ _ rfl rfl SJ ?_
              refine hK _ _ ?_
              clear hK K
              refine wpAny_done (by kernel_rfl) ?_ _
              go_wp2_with fail
              exact ⟨⟨k + 1, by omega, by go_num, TN⟩, by simp [intOf]; omega⟩
            · have hke : k = ls.length / 2 := by omega
              subst hke
              clear TS
              obtain ⟨l, hperm, hll, PCS⟩ := TK.pcs q1 q2
              have BX := BS.trans (TK.bel.mono BS.size)
              have hdl : ∀ q ∈ l, q.ck.data.length ≤ 1048576 := DL l hperm
              have J1 := join_any _ l _ PCS (by omega) hdl
              rw [(TJ l hperm).1, (TJ l hperm).2] at J1
              have R3 : ∀ wx, (Instr.slice 35 (.slice (some ⟨O, 0, none⟩) ls.length c2) (some (.int .i64 1)) none none).run Try.prog wx = .ok (.slice (reK 12 (some ⟨O, 0, none⟩) c2 1) (ls.length - 1) (c2 - 1)) wx := run_rep_l (some ⟨O, 0, none⟩) ls.length c2 1 hn1
              obtain ⟨q, l', rfl⟩ : ∃ q l', l = q :: l' := by
                cases l with
                | nil => simp at hll; omega
                | cons q l' => exact ⟨q, l', rfl⟩
              have hno := turn_none hperm
              have hdl' : ∀ q ∈ l', q.ck.data.length ≤ 1048576 := fun x hx => hdl x (by simp [hx])
              have hl' : l'.length = ls.length - 1 := by simp at hll; omega
              have HLL : Hid (l'.length = ls.length - 1) := hl'
              have hl'b : l'.length ≤ 1048576 := by omega
              clear TJ DL hperm hdl hll hl'
              go_wp2_with fail
              refine J1.mono ?_
              rintro e w5 ⟨v5, rfl, by5, b5⟩
              have BX5 := BX.trans (b5.mono BX.size)
              have T5 := by5.str
              have TB := (HB.below BX5 (Nat.le_refl _)).str
              obtain ⟨a5, c5, rfl, -, -⟩ := by5.ex
              have P5 := SlG.re PcV.bears (SlG.size PcV.bears PCS b5 (Nat.le_refl _)) 1 (ls.length - 1) (by have := HLL.out; simp; omega)
              rw [List.drop_succ_cons, List.drop_zero, List.take_of_length_le (by rw [HLL.out]; exact Nat.le_refl _)] at P5
              have J2 := join_any _ l' _ P5 hl'b hdl'
              rw [hno] at J2
              clear J1 P5 PCS by5 HLL hl'b hdl' hno
              go_wp2_with fail
              refine J2.mono ?_
              rintro e w6 ⟨v6, rfl, by6, b6⟩
              have BX6 := BX5.trans (b6.mono BX5.size)
              obtain ⟨a6, c6, rfl, -, -⟩ := by6.ex
              generalize (joinD l').length = nl at *
              clear J2 T5 TB by6
              go_wp2_with fail
              go_ret
              exact ⟨rfl, BX6⟩
end Go.Proofs.Ytnddejdndipddab
