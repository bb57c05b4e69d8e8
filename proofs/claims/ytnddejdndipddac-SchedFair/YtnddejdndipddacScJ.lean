/- The walk of SchedFair. -/
import Derived.Test.YtnddejdndipddacScI
set_option maxRecDepth 20000
namespace Go.Proofs.Ytnddejdndipddac
open Go.RowKit

theorem enters_had (args : Array Value) (wx : World) : (callFunc 13 args).run Try.prog wx = .ok (.enter 13 args) wx := enters_body Try.func13 (by kernel_rfl) rfl args wx

theorem msgA_one (x y : Int) : ∀ u ∈ (msgA x y).toList, u.oneCell' = true := List.all_eq_true.1 (rfl : (msgA x y).toList.all (·.oneCell') = true)

set_option maxHeartbeats 4000000 in
theorem fair_walk (streams part times : Int) (byBytes : Bool) (w : World) :
    Calls Try.prog 4 #[.int .i64 streams, .int .i64 part, .int .i64 times, .bool byBytes] w fun e w' => e = .returned (.bool true) ∧ Below w.heap.size w w' := by
  go_enter Try.func4, Try.ntmps4
  go_wp2_with fail
  refine (alive_any _).mono ?_
  rintro e w1 ⟨rfl, B1⟩
  by_cases p1 : streams < 1
  · go_wp2_with fail
    go_ret
    exact ⟨rfl, B1⟩
  by_cases p2 : streams > 4
  · go_wp2_with fail
    go_ret
    exact ⟨rfl, B1⟩
  by_cases p3 : part < 1
  · go_wp2_with fail
    go_ret
    exact ⟨rfl, B1⟩
  by_cases p4 : part > 16
  · go_wp2_with fail
    go_ret
    exact ⟨rfl, B1⟩
  by_cases p5 : times < 0
  · go_wp2_with fail
    go_ret
    exact ⟨rfl, B1⟩
  by_cases p6 : times > 100
  · go_wp2_with fail
    go_ret
    exact ⟨rfl, B1⟩
  obtain ⟨n, rfl⟩ := Int.eq_ofNat_of_zero_le (show 0 ≤ streams by omega)
  obtain ⟨tm, rfl⟩ := Int.eq_ofNat_of_zero_le (show 0 ≤ times by omega)
  have hn1 : 0 < n := by omega
  have hn4 : n ≤ 4 := by omega
  have ht : tm ≤ 100 := by omega
  go_wp2_with fail
  go_loopw [9, 44] (fun q i wr => ∃ (k : Nat) (a : Option Addr) (c : Nat), k ≤ n ∧ i = .int .i64 k ∧ q = .slice a k c ∧ wr.ownsRow w1.heap.size 31 10 (.slice a k c) k (flatV (msgsV k)) ∧ Below w1.heap.size w1 wr) (fun _ i _ => n - (intOf i).toNat)
  case atStart => exact ⟨0, none, 0, Nat.zero_le _, rfl, rfl, ⟨by simp [msgsV, flatV], .inl ⟨rfl, rfl⟩⟩, Below.refl _ _⟩
  case round =>
    obtain ⟨k, a, c, hk, rfl, rfl, own, BR⟩ := hrel
    by_cases hlt : k < n
    · have MS := fun wx => msg_any (k : Int) (k : Int) wx
      have HB2 : Below wr.heap.size wr ((wr.alloc (.cells (msgA k k) 31)).alloc (.cells (msgA k k) 31)) := two_below wr _ _
      have own2 := (own.alloc (.cells (msgA k k) 31)).alloc (.cells (msgA k k) 31)
      have RW : Rw 10 ((wr.alloc (.cells (msgA k k) 31)).alloc (.cells (msgA k k) 31)).heap.size ((wr.alloc (.cells (msgA k k) 31)).alloc (.cells (msgA k k) 31)) (.slice (some ⟨wr.heap.size + 1, 0, none⟩) 1 1) 1 (msgA k k).toList := Rw.cells (Cells.new' (msgA k k) 31 (by simp)) (by simp) rfl (Nat.le_refl _) (by omega)
      have hbs : w1.heap.size ≤ ((wr.alloc (.cells (msgA k k) 31)).alloc (.cells (msgA k k) 31)).heap.size := by have := BR.size; simp; omega
      have ST : ∀ v' w', w'.ownsRow w1.heap.size 31 10 v' (k + 1) (flatV (msgsV k) ++ (msgA k k).toList) → ((wr.alloc (.cells (msgA k k) 31)).alloc (.cells (msgA k k) 31)).grownBy w' (Value.slice a k c).ownBlock → w'.ownsRow w1.heap.size 31 10 v' (k + 1) (flatV (msgsV (k + 1))) ∧ Below w1.heap.size w1 w' := fun v' w' ho hg => by
        refine ⟨by rw [msgsV_succ]; exact ho, (BR.trans (HB2.mono BR.size)).grown hg hbs fun j hj => (own.lt j hj).1⟩
      clear own BR HB2
      go_wp2_with fail
      refine (MS _).mono ?_
      rintro e w' ⟨rfl, rfl⟩
      go_wp2_with (at_builtin; refine wpList_append_rw Try.underlying25 Try.infoQd rfl (by decide) _ rfl (.tmp 47) (.tmp 51) rfl w1.heap.size (.slice a k c) k (flatV (msgsV k)) rfl own2 _ 1 (msgA k k).toList _ rfl RW (msgA_one k k) (by unfold maxLen; omega) (by omega) hbs ?_; intro v3 w3 own3 grow3 at3; obtain ⟨P3, Q3⟩ := ST v3 w3 own3 grow3; obtain ⟨a3, cap3, rfl⟩ := own_form own3; clear own3 grow3 at3)
      go_roundw
      case rel => exact ⟨k + 1, a3, cap3, by omega, by go_num, rfl, P3, Q3⟩
      case measure => simp [intOf]; omega
    · have hkn : k = n := by omega
      subst hkn
      have QS : QdS wr.heap.size wr (.slice a k c) (msgsQ k) := ⟨msgsV k, msgs_all k _ _, by rw [msgsQ_len]; exact Rw.own own own.1⟩
      have BW := B1.trans (BR.mono B1.size)
      clear own BR B1
      have HT : ∀ {t : Nat} {p hand z : Int} {ids : List Int}, 1 ≤ p → NextIs (if byBytes then 5 else 3) (lastM k t : Nat) hand (hadsM k t p) ids (rankM k) z → z = ((t % k : Nat) : Int) := fun hp h => fair_turn hn1 hn4 hp h
      have HK : Hid (∀ (turns : Int), turns = (if byBytes then 5 else 3) → ∀ {t : Nat} {p hand z : Int} {ids : List Int}, 1 ≤ p → NextIs turns (lastM k t : Nat) hand (hadsM k t p) ids (rankM k) z → z = ((t % k : Nat) : Int)) := fun turns e t p hand z ids hp h => HT hp (e ▸ h)
      clear HT
      have NW := new_any k wr (by omega)
      have MK := run_mkI k (by omega)
      cases byBytes
      all_goals
        go_wp2_with fail
        refine NW.mono ?_
        rintro e w2 ⟨O, rfl, CO, -, hO2, b2⟩
        have F0 : FrSt wr w2.heap.size (w2.heap.size + 1) k part 0 ((w2.alloc (.cells #[.int .i64 ((k : Int) - 1), .int .i64 (-1), .slice (some ⟨O, 0, none⟩) k k] 24)).alloc (.cells (madeCells #[.int .i64 0] k) 3)) := fair_start hn1 CO hO2 b2 hn4
        have hs2 := b2.size
        clear CO NW
        go_wp2_with fail
        go_loopw [60] (fun i wq => ∃ t : Nat, t ≤ tm ∧ i = .int .i64 t ∧ FrSt wr w2.heap.size (w2.heap.size + 1) k part t wq) (fun i _ => tm - (intOf i).toNat)
        case atStart => exact ⟨0, Nat.zero_le _, rfl, F0⟩
        case round =>
          obtain ⟨t, ht1, rfl, FS⟩ := hrel
          by_cases hlt : t < tm
          · obtain ⟨hand, a5, c5, CS, IN5, IS5⟩ := FS.s
            have s0 := CS.cell 0 _ rfl
            have s1 := CS.cell 1 _ rfl
            have s2 := CS.cell 2 _ rfl
            have hln := hadsM_len k t part
            have SD : SdV wr.heap.size wr (.agg #[.int .i64 (lastM k t : Nat), .int .i64 hand, .slice a5 k c5]) ⟨lastM k t, hand, hadsM k t part⟩ := ⟨_, rfl, IN5⟩
            have NX := fun turns => next_any turns _ _ _ (msgsQ k) _ SD (SlG.size QdV.bears QS FS.bel (Nat.le_refl _))
            simp only [msgsQ_strs] at NX
            clear CS IN5 IS5 SD
            go_wp2_with fail
            refine (NX _).mono ?_
            rintro e w3 ⟨z, rfl, NI, b3⟩
            have hz := HK.out _ (by first | rfl | simp) p3 NI
            subst hz
            have F3 := FS.below b3
            clear NX NI FS s0 s1 s2 hln
            have hm : t % k < k := Nat.mod_lt _ hn1
            obtain ⟨hand3, a3, c3, CS, IN3, IS3⟩ := F3.s
            have cm := F3.h.cell (t % k) (.int .i64 (cntM k t (t % k) : Nat)) (by rw [cellsI_get _ _ (by rw [cntsM_len]; exact hm)]; simp [cntsM])
            have fm := F3.h.fz (t % k)
            have cl := cnt_le k t (t % k) hn1 hn4
            have HA := fair_had hn1 hn4 (by omega) p3 p4 IN3 IS3 (hand := hand3)
            have lS := F3.ltS
            have lH := F3.ltH
            have B4 : Below _ _ (w3.setCell ⟨w2.heap.size + 1, t % k, none⟩ (.int .i64 (((cntM k t (t % k) : Nat) : Int) + 1))) := F3.bel.setCell (p := ⟨w2.heap.size + 1, t % k, none⟩) (by show _ ≤ w2.heap.size + 1; omega) _
            obtain ⟨b, off, da, dn, dc, hb, hix, x0, x1, x2, x3, x4, x5, x6, x7, x8, x9⟩ := QdS.at (SlG.below QdV.bears QS B4 (Nat.le_refl _)) (t % k) (by rw [msgsQ_len]; exact hm)
            rw [msgsQ_get] at x0 x1 x2 x3 x4 x5 x6 x7 x8
            simp only [msgQ] at x0 x1 x2 x3 x4 x5 x6 x7 x8
            have CS4 := CS.past (Y := w2.heap.size + 1) (t % k) (.int .i64 (((cntM k t (t % k) : Nat) : Int) + 1)) (by omega)
            have s0 := CS4.cell 0 _ rfl
            have s1 := CS4.cell 1 _ rfl
            have s2 := CS4.cell 2 _ rfl
            have HA4 := HA da dn dc
            have ST := fun (w5 : World) a6 c6 => F3.step (w4 := w5) (hand := ((t % k : Nat) : Int)) (a := a6) (c := c6) hn1 hn4 ⟨by omega, by omega, by omega⟩
            have KW : ∀ w5, Below w3.heap.size (w3.setCell ⟨w2.heap.size + 1, t % k, none⟩ (.int .i64 (((cntM k t (t % k) : Nat) : Int) + 1))) w5 → (w5.cell? ⟨w2.heap.size, 0, none⟩ = some (.int .i64 (lastM k t : Nat)) ∧ w5.cell? ⟨w2.heap.size, 1, none⟩ = some (.int .i64 hand3) ∧ w5.cell? ⟨w2.heap.size, 2, none⟩ = some (.slice a3 k c3)) ∧ (w5.frozen? ⟨w2.heap.size, 0, none⟩ = false ∧ w5.frozen? ⟨w2.heap.size, 1, none⟩ = false ∧ w5.frozen? ⟨w2.heap.size, 2, none⟩ = false) := fun w5 h => by
              have c := CS4.below h lS
              exact ⟨⟨c.cell 0 _ rfl, c.cell 1 _ rfl, c.cell 2 _ rfl⟩, c.fz 0, c.fz 1, c.fz 2⟩
            have hmi : ((t % k : Nat) : Int) < (k : Int) := by omega
            have g1 : ¬ ((t % k : Nat) : Int) < 0 := by omega
            have g2 : ¬ ((t % k : Nat) : Int) ≥ (k : Int) := by omega
            clear CS CS4 IN3 IS3 HA B4 F3
            have cb0 : 0 ≤ ((cntM k t (t % k) : Nat) : Int) := by omega
            have cb1 : ((cntM k t (t % k) : Nat) : Int) ≤ 200 := by omega
            generalize hmm : t % k = m at *
            generalize ((cntM k t m : Nat) : Int) = cn at *
            go_wp2_with fail
            generalize (w3.setCell ⟨w2.heap.size + 1, m, none⟩ (.int .i64 (cn + 1))) = w4 at *
            clear hmm
            go_region_law (first
              | (refine step_call4 rfl 13 (.tmp 80) (.tmp 84) (.tmp 85) (.const (.bool false)) #[24, 31, 3, 4] rfl _ _ _ _ rfl rfl rfl rfl rfl enters_had _ HA4 ?_; rintro _ w5 ⟨a6, c6, rfl, in6, is6, b6⟩; have F6 := ST w5 a6 c6 b6 in6 is6; obtain ⟨⟨r0, r1, r2⟩, f0, f1, f2⟩ := KW _ b6))
            all_goals
              go_wp2_with fail
              go_roundw
              case rel => exact ⟨t + 1, by omega, by go_num, F6⟩
              case measure => simp [intOf]; omega
          · have hte : t = tm := by omega
            subst hte
            have BE := BW.trans (FS.bel.mono BW.size)
            have CH : ∀ x : Nat, x < k → wr.cell? ⟨w2.heap.size + 1, x, none⟩ = some (.int .i64 (cntM k t x : Nat)) := fun x hx => FS.h.cell x _ (by rw [cellsI_get _ _ (by rw [cntsM_len]; exact hx)]; simp [cntsM])
            have CN : ∀ x y : Nat, x < k → y < k → Hid (cntM k t x ≤ cntM k t y + 1) := fun x y hx hy => cnt_near k t x y hn1 hn4 hx hy
            have CL : ∀ x : Nat, cntM k t x ≤ t + 3 := fun x => cnt_le k t x hn1 hn4
            clear FS HK QS MK F0
            go_wp2_with fail
            go_loop [90] (fun i => ∃ x : Nat, x ≤ k ∧ i = .int .i64 x) (fun i => k - (intOf i).toNat)
            case atStart => exact ⟨0, Nat.zero_le _, rfl⟩
            case round =>
              obtain ⟨x, hx, rfl⟩ := hrel
              by_cases hxk : x < k
              · have cx := CH x hxk
                have hxi : (x : Int) < (k : Int) := by omega
                go_wp2_with fail
                go_loop [96] (fun i => ∃ y : Nat, y ≤ k ∧ i = .int .i64 y) (fun i => k - (intOf i).toNat)
                case atStart => exact ⟨0, Nat.zero_le _, rfl⟩
                case round =>
                  obtain ⟨y, hy, rfl⟩ := hrel
                  by_cases hyk : y < k
                  · have cy := CH y hyk
                    have hyi : (y : Int) < (k : Int) := by omega
                    have n1 := (CN x y hxk hyk).out
                    have l1 := CL x
                    have l2 := CL y
                    have gq : ¬ ((cntM k t x : Nat) : Int) - ((cntM k t y : Nat) : Int) > 1 := by omega
                    clear CH CN CL
                    generalize cntM k t x = cx' at *
                    generalize cntM k t y = cy' at *
                    go_wp2_with fail
                    go_round
                    case rel => exact ⟨y + 1, by omega, by go_num⟩
                    case measure => simp [intOf]; omega
                  · have hye : y = k := by omega
                    subst hye
                    clear CH CN CL
                    go_wp2_with fail
                    go_round
                    case rel => exact ⟨x + 1, by omega, by go_num⟩
                    case measure => simp [intOf]; omega
              · have hxe : x = k := by omega
                subst hxe
                clear CH CN CL
                go_wp2_with fail
                go_ret
                exact ⟨rfl, BE⟩
end Go.Proofs.Ytnddejdndipddac
