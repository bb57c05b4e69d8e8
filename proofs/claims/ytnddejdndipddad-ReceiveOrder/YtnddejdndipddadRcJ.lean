/- The contracts of slices.Concat and parts.Join: what they answer lies in new blocks. -/
import Derived.Test.YtnddejdndipddadPaH
set_option maxRecDepth 20000
namespace Go.Proofs.Ytnddejdndipddad
open Go.RowKit

set_option maxHeartbeats 1000000 in
theorem concat_in (v : Value) (ls : List (List Int)) (w : World) (hv : BbS w.heap.size w v ls) (hl : ls.flatten.length ≤ 140737488355328) :
    Calls Try.prog 87 #[v] w fun e w' => ∃ v', e = .returned v' ∧ By w'.heap.size w' v' ls.flatten ∧ Below w.heap.size w w' ∧ InS (fun k => w.heap.size ≤ k) v' := by
  have HV := hv
  obtain ⟨a, cap, rfl, h1, h2⟩ := hv.ex
  have FL := flatten_le ls
  go_enter Try.func87, Try.ntmps87
  go_wp2
  go_loop [3, 11] (fun t i => ∃ k : Nat, k ≤ ls.length ∧ i = .int .i64 k ∧ t = .int .i64 ((ls.take k).flatten.length : Nat)) (fun _ i => ls.length - (intOf i).toNat)
  case atStart => exact ⟨0, Nat.zero_le _, rfl, rfl⟩
  case round =>
    obtain ⟨k, hk, rfl, rfl⟩ := hrel
    by_cases hlt : k < ls.length
    · obtain ⟨b, off, d, hb, hix, hd, cd⟩ := BbS.at HV k hlt
      obtain ⟨ad, dcap, rfl, -, -⟩ := hd.ex
      have e1 : Hid ((ls.take (k + 1)).flatten.length = (ls.take k).flatten.length + ls[k].length) := by show _ = _; rw [flatten_snoc hlt, List.length_append]
      have e2 := FL k
      have e3 := FL (k + 1)
      have e4 : (ls.take k).flatten.length + ls[k].length ≤ ls.flatten.length := by rw [← e1.out]; exact e3
      clear e3 FL
      generalize (ls.take k).flatten.length = t at *
      have e5 : ¬ (t : Int) + (ls[k].length : Int) < 0 := by omega
      go_wp2_with fail
      go_round
      case rel => exact ⟨k + 1, by omega, by go_num, by rw [e1.out]; go_num⟩
      case measure => simp [intOf]; omega
    · have hke : k = ls.length := by omega
      subst hke
      rw [List.take_length]
      have GR := grow_any _ w hl
      generalize ls.flatten.length = tl at *
      go_wp2_with fail
      refine GR.mono ?_
      rintro e w1 ⟨v1, rfl, own1, b1⟩
      obtain ⟨a1, cap1, rfl⟩ := own_form own1
      have C0 : CcSt w ls 0 0 (.slice a1 0 cap1) w1 := ⟨by simpa [cellsB] using own1, by simp, fun z hz => by simp at hz, b1⟩
      clear own1 b1
      go_wp2_with fail
      go_loopw [6, 27] (fun o i wq => ∃ (j nb : Nat) (ab : Option Addr) (cb : Nat), j ≤ ls.length ∧ i = .int .i64 j ∧ o = .slice ab nb cb ∧ CcSt w ls j nb (.slice ab nb cb) wq) (fun _ i _ => ls.length - (intOf i).toNat)
      case atStart => exact ⟨0, 0, a1, cap1, Nat.zero_le _, rfl, rfl, C0⟩
      case round =>
        obtain ⟨j, nb, ab, cb, hj, rfl, rfl, CS⟩ := hrel
        by_cases hlt : j < ls.length
        · obtain ⟨b, off, d, hb, hix, hd, cd⟩ := BbS.at (SlG.below By.bears HV CS.bel (Nat.le_refl _)) j hlt
          have HD := hd
          obtain ⟨ad, dcap, rfl, -, -⟩ := hd.ex
          have hlen : nb + ls[j].length ≤ tl := by
            have := FL (j + 1)
            rw [flatten_snoc hlt, List.length_append, ← CS.len] at this
            exact this
          have hbs := CS.bel.size
          have ST : ∀ v' w', w'.ownsRow w.heap.size 5 1 v' (nb + ls[j].length) (cellsB (ls.take j).flatten ++ cellsB ls[j]) → wr.grownBy w' (Value.slice ab nb cb).ownBlock → CcSt w ls (j + 1) (nb + ls[j].length) v' w' := fun v' w' ho hg => by
            refine ⟨?_, ?_, ?_, CS.bel.grown hg hbs fun k hk => (CS.own.lt k hk).1⟩
            · rw [flatten_snoc hlt, cellsB_append]; exact ho
            · rw [flatten_snoc hlt, List.length_append, CS.len]
            · rw [flatten_snoc hlt]; exact CS.isB.append HD.2
          have O2 := CS.own
          clear CS hd
          go_wp2_with (at_builtin; refine wpList_append_rw Try.underlying38 Try.info5 rfl (by decide) _ rfl (.tmp 31) (.tmp 32) rfl w.heap.size (.slice ab nb cb) nb (cellsB (ls.take j).flatten) rfl O2 _ ls[j].length (cellsB ls[j]) _ rfl HD.1 (cellsB_one _) (by unfold maxLen; omega) (by omega) hbs ?_; intro v3 w3 own3 grow3 at3; have P3 := ST v3 w3 own3 grow3; obtain ⟨a3, cap3, rfl⟩ := own_form own3; clear own3 grow3 at3)
          go_roundw
          case rel => exact ⟨j + 1, nb + ls[j].length, a3, cap3, by omega, by go_num, rfl, P3⟩
          case measure => simp [intOf]; omega
        · have hje : j = ls.length := by omega
          subst hje
          have y1 : By wr.heap.size wr (.slice ab nb cb) ls.flatten := by
            have o1 := CS.own
            have o2 := CS.len
            have o3 := CS.isB
            rw [List.take_length] at o1 o2 o3
            subst o2
            exact ⟨Rw.own o1 (by rw [cellsB_length, Nat.mul_one]), o3⟩
          have BE := CS.bel
          have IN : InS (fun k => w.heap.size ≤ k) (.slice ab nb cb) := (InS.own CS.own).mono fun k h => h.1
          go_wp2_with fail
          go_ret
          exact ⟨_, rfl, y1, BE, IN⟩
set_option maxHeartbeats 2000000 in
theorem join_in (v : Value) (l : List Pc) (w : World) (hv : PcS w.heap.size w v l) (hl : l.length ≤ 1048576) (hd : ∀ p ∈ l, p.ck.data.length ≤ 1048576) :
    Calls Try.prog 80 #[v] w fun e w' => ∃ v', e = .returned (.tuple #[v', .bool (joinB l)]) ∧ By w'.heap.size w' v' (joinD l) ∧ Below w.heap.size w w' ∧ InS (fun k => w.heap.size ≤ k) v' := by
  have HV := hv
  obtain ⟨a, cap, rfl, h1, h2⟩ := hv.ex
  have HL : Hid (((List.range l.length).map (dataAt l)).flatten.length ≤ 140737488355328) := by
    have := join_len hd l.length
    have h3 : l.length * 1048576 ≤ 1048576 * 1048576 := Nat.mul_le_mul_right _ hl
    show _ ≤ _
    omega
  clear hd
  have hmf : ∀ (fn : Fn) (first cap : Array Value) (w : World), (Instr.makeFunc fn first cap).run Try.prog w = .ok (.func fn first cap) w := fun _ _ _ _ => rfl
  have E26 := enters_Join_1
  have M1 := run_mkBb l.length (by omega)
  have M2 := run_mkB l.length (by omega)
  have hnot : ∀ (x : Bool) (w : World), (Op.unary .not (.bool x)).run Try.prog w = .ok (.bool (!x)) w := fun _ _ => rfl
  go_enter Try.func80, Try.ntmps80
  go_wp2_with fail
  go_loopw [22] (fun i wr => ∃ j : Nat, j ≤ l.length ∧ i = .int .i64 j ∧ JoSt w w.heap.size (w.heap.size + 1) (w.heap.size + 1 + 1) (w.heap.size + 1 + 1 + 1) (w.heap.size + 1 + 1 + 1 + 1) l l.length j wr) (fun i _ => l.length - (intOf i).toNat)
  case atStart => exact ⟨0, Nat.zero_le _, rfl, JoSt.start l l.length w⟩
  case round =>
    obtain ⟨j, hj, rfl, JS⟩ := hrel
    by_cases hlt : j < l.length
    · obtain ⟨b, off, _, _, _, hbb, hix, hcv, ⟨ad, nd, cd, rfl⟩, ⟨as', ns, cs, rfl⟩, ⟨ak, nk, ck, rfl⟩, x0, x1, x2, x3, x4, x5, x6, x7, x8, x9, x10, x11⟩ := PcS.at (SlG.below PcV.bears HV JS.bel (Nat.le_refl _)) j hlt
      have hby : By w.heap.size wr (.slice ad nd cd) l[j].ck.data := by
        obtain ⟨d, s, k, e, g, -⟩ := hcv
        simp only [pcVal, Value.agg.injEq, Array.mk.injEq, List.cons.injEq, true_and, and_true] at e
        obtain ⟨rfl, -⟩ := e
        exact g
      have JA := fun o => JS.below (box_below wr o)
      have BY := fun o => hby.below (box_below wr o) JS.bel.size
      clear hcv hby
      have LA : ∀ o : Obj, Calls Try.prog 86 #[ckVal l[j].ck (.slice ad nd cd) (.slice as' ns cs) (.slice ak nk ck), .pointer (some ⟨w.heap.size, 0, none⟩), .pointer (some ⟨w.heap.size + 1 + 1 + 1 + 1, 0, none⟩), .pointer (some ⟨w.heap.size + 1 + 1, 0, none⟩)] (wr.alloc o) fun e w' =>
          (e = .returned (.bool true) ∧ JoSt w w.heap.size (w.heap.size + 1) (w.heap.size + 1 + 1) (w.heap.size + 1 + 1 + 1) (w.heap.size + 1 + 1 + 1 + 1) l l.length (j + 1) w') ∨ (e = .returned (.bool false) ∧ Below w.heap.size w w' ∧ ¬ goodN l.length l) := by
        intro o
        have J1 := JA o
        obtain ⟨j1, j2, j3, j4, j5, j6, ⟨hs, ds, g1, g2, g3, g4, g5, g6⟩, j8⟩ := J1
        refine (lay_any w.heap.size (w.heap.size + 1 + 1 + 1 + 1) (w.heap.size + 1 + 1) (w.heap.size + 1 + 1 + 1) (w.heap.size + 1) l.length hs ds l[j].ck ad as' ak nd cd ns cs nk ck (wr.alloc o) j2 j3 j4 g3 g4 g1 g2 j5 j6 (by omega) (by omega) (by omega) (by omega) (by omega)).mono ?_
        rintro e w' (⟨q, hq, rfl, c1, c2, kp⟩ | ⟨rfl, bb, hno⟩)
        · exact .inl ⟨rfl, JoSt.step hlt ⟨by omega, by omega⟩ ⟨by omega, by omega, by omega, by omega, by omega, by omega⟩ j1 j2 j3 j4 j5 j6 g1 g2 g5 g6 j8 hq (BY o) c1 c2 kp⟩
        · exact .inr ⟨rfl, j1.trans (bb.mono j1.size), bad_of_lays rfl hlt g5 hno⟩
      simp only [ckVal] at LA
      clear JA BY JS
      go_wp2_with fail
      refine (LA _).mono ?_
      rintro e w1 (⟨rfl, J1⟩ | ⟨rfl, BE, hbad⟩)
      · clear LA x0 x1 x2 x3 x4 x5 x6 x7 x8 x9 x10 x11
        go_wp2_with fail
        go_roundw
        case rel => exact ⟨j + 1, by omega, by go_num, J1⟩
        case measure => simp [intOf]; omega
      · have HB : Hid (joinB l = false ∧ joinD l = []) := join_bad hbad
        clear LA x0 x1 x2 x3 x4 x5 x6 x7 x8 x9 x10 x11 hbad
        go_wp2_with fail
        go_ret2
        rw [HB.out.1, HB.out.2]
        exact ⟨_, rfl, By.nil _ _, BE, fun b off sp n cap e => by simp at e⟩
    · have hje : j = l.length := by omega
      subst hje
      obtain ⟨j1, j2, j3, j4, j5, j6, ⟨hs, ds, g1, g2, g3, g4, g5, g6⟩, j8⟩ := JS
      rw [List.take_length] at j8 g6
      have HG : Hid (joinB l = decide (0 < l.length) ∧ joinD l = ((List.range l.length).map (dataAt l)).flatten) := join_good j8
      have BB : BbS wr.heap.size wr (.slice (some ⟨w.heap.size + 1, 0, none⟩) l.length l.length) ((List.range l.length).map (dataAt l)) := by
        refine BbS.of_cells g4 j6 g2 (by simp) (by omega) fun k u x e e' => ?_
        have hk : k < l.length := by rw [← g2]; exact (List.getElem?_eq_some_iff.1 e).1
        obtain ⟨u', hu', hb⟩ := g6 k hk
        rw [hu'] at e
        simp only [Option.some.injEq] at e
        subst e
        simp [hk] at e'
        subst e'
        exact hb.mono j1.size
      have CC := concat_in _ _ wr BB HL.out
      clear BB g3 g4 g5 g6 j8 hs ds g1 g2
      go_wp2_with fail
      refine CC.mono ?_
      rintro e w1 ⟨v1, rfl, by1, b1, in1⟩
      have IN : Hid (InS (fun k => w.heap.size ≤ k) v1) := in1.mono fun k h => Nat.le_trans j1.size h
      clear in1
      have BE := j1.trans (b1.mono j1.size)
      clear CC
      rw [← HG.out.2] at by1
      obtain ⟨a1, cap1, e1, -, -⟩ := by1.ex
      subst e1
      generalize (joinD l).length = nl at *
      go_wp2_with fail
      go_ret2
      rw [HG.out.1]
      exact ⟨_, rfl, by1, BE, IN.out⟩
end Go.Proofs.Ytnddejdndipddad
