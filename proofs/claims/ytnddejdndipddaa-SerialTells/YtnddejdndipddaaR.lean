/- The walk of the document's Add. -/
import Derived.Test.YtnddejdndipddaaQ
set_option maxRecDepth 20000
namespace Go.Proofs.Ytnddejdndipddaa
open Go.RowKit

/-- What a round of the second loop makes. -/
theorem goM_skip (n : Int) (ft s : Sp) (r : List Sp) (dn : Bool) (h : s.2 = n - 1 ∨ s.1 = n + 1) : goM n ft (s :: r) dn = goM n ft r dn := by rw [goM, if_pos h]
theorem goM_both (n : Int) (ft s : Sp) (r : List Sp) (h : ¬ (s.2 = n - 1 ∨ s.1 = n + 1)) (h' : n < s.1) : goM n ft (s :: r) false = ft :: s :: goM n ft r true := by rw [goM, if_neg h, if_pos ⟨rfl, h'⟩]
theorem goM_one (n : Int) (ft s : Sp) (r : List Sp) (dn : Bool) (h : ¬ (s.2 = n - 1 ∨ s.1 = n + 1)) (h' : dn = true ∨ ¬ n < s.1) : goM n ft (s :: r) dn = s :: goM n ft r dn := by
  rw [goM, if_neg h, if_neg]
  rintro ⟨g1, g2⟩
  rcases h' with e | e
  · rw [e] at g1; cases g1
  · exact e g2

/-- The span in hand is as it was, behind an append to a row of the call's own. -/
theorem s_kept {w w4 : World} {base nn : Nat} {v : Value} {xs : List Value} {x y : Int} {o : Obj} (hown : w.ownsRow base 49 2 v nn xs) (hg : ((w.alloc (.cells #[.int .i64 x, .int .i64 y] 49)).alloc o).grownBy w4 v.ownBlock) :
    w4.cell? ⟨w.heap.size, 0, none⟩ = some (.int .i64 x) ∧ w4.cell? ⟨w.heap.size, 1, none⟩ = some (.int .i64 y) := by
  have hne : some w.heap.size ≠ v.ownBlock := fun e => by have := (hown.lt w.heap.size e.symm).2; omega
  constructor
  · refine hg.cell ?_ hne
    rw [World.cell?_alloc_past _ _ _ (by simp), World.cell?_alloc_at _ _ _ _ rfl]; rfl
  · refine hg.cell ?_ hne
    rw [World.cell?_alloc_past _ _ _ (by simp), World.cell?_alloc_at _ _ _ _ rfl]; rfl

set_option maxHeartbeats 1000000 in
theorem radd_any (v : Value) (l : List Sp) (n : Int) (w : World) (hv : Sl w.heap.size w v l) (hn1 : -1099511627776 ≤ n) (hn2 : n ≤ 1099511627776) (hl : l.length * 16 ≤ 140737488351232) (b0 : Int) (hr : Ris b0 l) :
    Calls Try.prog 20 #[v, .int .i64 n] w fun e w' => ∃ v', e = .returned v' ∧ Sl w'.heap.size w' v' (addR n l) ∧ Below w.heap.size w w' := by
  obtain ⟨a, cap, rfl⟩ := hv.ex
  have q1 := hv.len
  have hfit := q1.2.2.2
  clear q1
  have hnot : ∀ (x : Bool) (w : World), (Op.unary .not (.bool x)).run Try.prog w = .ok (.bool (!x)) w := fun _ _ => rfl
  have HIN := goM_eq n l b0 hr
  have HSAME := addR_same n b0 l hr
  go_enter Try.func20, Try.ntmps20
  go_wp2_with fail
  refine (rin_any _ l n _ hv).mono ?_
  rintro e w1 ⟨rfl, b1⟩
  cases hin : inM l n with
  | true =>
    have HA : Hid (addR n l = l) := HSAME hin
    clear HIN HSAME
    go_wp2
    go_ret
    rw [HA.out]
    exact ⟨_, rfl, hv.size b1 (Nat.le_refl _), b1⟩
  | false =>
    have HA : Hid (addR n l = goM n (foldF n (n, n) l) l false) := (HIN hin).symm
    clear HIN HSAME
    go_wp2
    go_loopw [5, 6, 21] (fun f t i wr => ∃ (k : Nat) (ft : Sp), k ≤ l.length ∧ i = .int .i64 k ∧ f = .int .i64 ft.1 ∧ t = .int .i64 ft.2 ∧ I64 ft.1 ∧ I64 ft.2 ∧ Below w.heap.size w wr ∧ Hid (foldF n (n, n) l = foldF n ft (l.drop k)))
      (fun _ _ i _ => l.length - (intOf i).toNat)
    case atStart => exact ⟨0, (n, n), Nat.zero_le _, rfl, rfl, rfl, by unfold I64; simp; omega, by unfold I64; simp; omega, b1, rfl⟩
    case round =>
      obtain ⟨k, ft, hk, rfl, rfl, rfl, i1, i2, hbel, HF⟩ := hrel
      by_cases hlt : k < l.length
      · obtain ⟨b, off, hb, hix, hx0, hx1⟩ := (hv.below hbel (Nat.le_refl _)).at k hlt
        have hcons := List.drop_eq_getElem_cons hlt
        have hs := hfit l[k] (List.getElem_mem _)
        by_cases t1 : l[k].2 = n - 1
        · have e1 : (l[k].2 == n - 1) = true := by simpa using t1
          have HF2 : Hid (foldF n (n, n) l = foldF n (l[k].1, ft.2) (l.drop (k + 1))) := by
            show _ = _
            rw [HF.out, hcons, foldF, if_pos t1]
          clear hcons t1
          go_wp2
          go_roundw
          case rel => exact ⟨k + 1, (l[k].1, ft.2), by omega, by go_num, rfl, rfl, hs.1, i2, hbel.alloc hbel.size _, HF2⟩
          case measure => simp [intOf]; omega
        · have e1 : (l[k].2 == n - 1) = false := by simpa using t1
          by_cases t2 : l[k].1 = n + 1
          · have e2 : (l[k].1 == n + 1) = true := by simpa using t2
            have HF2 : Hid (foldF n (n, n) l = foldF n (ft.1, l[k].2) (l.drop (k + 1))) := by
              show _ = _
              rw [HF.out, hcons, foldF, if_neg t1, if_pos t2]
            clear hcons t1 t2
            go_wp2
            go_roundw
            case rel => exact ⟨k + 1, (ft.1, l[k].2), by omega, by go_num, rfl, rfl, i1, hs.2, hbel.alloc hbel.size _, HF2⟩
            case measure => simp [intOf]; omega
          · have e2 : (l[k].1 == n + 1) = false := by simpa using t2
            have HF2 : Hid (foldF n (n, n) l = foldF n ft (l.drop (k + 1))) := by
              show _ = _
              rw [HF.out, hcons, foldF, if_neg t1, if_neg t2]
            clear hcons t1 t2
            go_wp2
            go_roundw
            case rel => exact ⟨k + 1, ft, by omega, by go_num, rfl, rfl, i1, i2, hbel.alloc hbel.size _, HF2⟩
            case measure => simp [intOf]; omega
      · have e := HF.out
        rw [List.drop_of_length_le (by omega), foldF] at e
        have HA2 : Hid (addR n l = goM n ft l false) := by
          show _ = _
          rw [HA.out, e]
        clear e HA HF
        go_wp2
        go_loopw [7, 10, 44] (fun o d i wr => ∃ (k : Nat) (dn : Bool) (lo : List Sp), k ≤ l.length ∧ i = .int .i64 k ∧ d = .bool dn ∧ wr.ownsRow w.heap.size 49 2 o lo.length (flat lo) ∧ Fit lo ∧ lo.length ≤ k + dn.toNat ∧ Below w.heap.size w wr ∧ Hid (goM n ft l false = lo ++ goM n ft (l.drop k) dn))
          (fun _ _ i _ => l.length - (intOf i).toNat)
        case atStart => exact ⟨0, false, [], Nat.zero_le _, rfl, rfl, World.ownsRow_nil _ _ _ _, fun s hs => by simp at hs, by simp, hbel, rfl⟩
        case round =>
          clear hbel hlt
          obtain ⟨k, dn, lo, hk, rfl, rfl, hown, hfo, hlo, hbel, HG⟩ := hrel
          by_cases hlt : k < l.length
          · obtain ⟨b, off, hb, hix, hx0, hx1⟩ := (hv.below hbel (Nat.le_refl _)).at k hlt
            have hcons := List.drop_eq_getElem_cons hlt
            have hs := hfit l[k] (List.getElem_mem _)
            have hsz := hbel.size
            by_cases t1 : l[k].2 = n - 1
            · have e1 : (l[k].2 == n - 1) = true := by simpa using t1
              have HG2 : Hid (goM n ft l false = lo ++ goM n ft (l.drop (k + 1)) dn) := by
                show _ = _
                rw [HG.out, hcons, goM_skip _ _ _ _ _ (Or.inl t1)]
              clear hcons t1
              go_wp2
              go_roundw
              case rel => exact ⟨k + 1, dn, lo, by omega, by go_num, rfl, hown.alloc _, hfo, by omega, hbel.alloc hbel.size _, HG2⟩
              case measure => simp [intOf]; omega
            · have e1 : (l[k].2 == n - 1) = false := by simpa using t1
              by_cases t2 : l[k].1 = n + 1
              · have e2 : (l[k].1 == n + 1) = true := by simpa using t2
                have HG2 : Hid (goM n ft l false = lo ++ goM n ft (l.drop (k + 1)) dn) := by
                  show _ = _
                  rw [HG.out, hcons, goM_skip _ _ _ _ _ (Or.inr t2)]
                clear hcons t1 t2
                go_wp2
                go_roundw
                case rel => exact ⟨k + 1, dn, lo, by omega, by go_num, rfl, hown.alloc _, hfo, by omega, hbel.alloc hbel.size _, HG2⟩
                case measure => simp [intOf]; omega
              · have e2 : (l[k].1 == n + 1) = false := by simpa using t2
                have t12 : ¬ (l[k].2 = n - 1 ∨ l[k].1 = n + 1) := by omega
                have one1 : Sl (wr.heap.size + 1 + 1) ((wr.alloc (.cells #[.int .i64 l[k].1, .int .i64 l[k].2] 49)).alloc (.cells #[.int .i64 l[k].1, .int .i64 l[k].2] 49)) (.slice (some ⟨wr.heap.size + 1, 0, none⟩) 1 1) [(l[k].1, l[k].2)] := by
                  have := Sl.one (wr.alloc (.cells #[.int .i64 l[k].1, .int .i64 l[k].2] 49)) l[k].1 l[k].2 hs.1 hs.2
                  simpa using this
                cases dn with
                | true =>
                  rw [Bool.toNat_true] at hlo
                  have HG2 : Hid (goM n ft l false = (lo ++ [(l[k].1, l[k].2)]) ++ goM n ft (l.drop (k + 1)) true) := by
                    show _ = _
                    rw [HG.out, hcons, goM_one _ _ _ _ _ t12 (Or.inl rfl)]
                    simp
                  clear hcons t1 t2 t12
                  go_wp2_with (first
                    | (at_builtin; refine wpList_append_sp _ rfl (.tmp 74) (.tmp 76) rfl w.heap.size u7 lo.length (flat lo) rfl ((hown.alloc _).alloc _) (wr.heap.size + 1 + 1) [(l[k].1, l[k].2)] (.slice (some ⟨wr.heap.size + 1, 0, none⟩) 1 1) rfl one1 (by simp; omega) (by simp; omega) ?_; intro v4 w4 own4 grow4; have B4 := ((hbel.alloc hbel.size _).alloc (by simp; omega) _).trans (grown_below ((hown.alloc _).alloc _) grow4 (by simp; omega)); clear grow4)
                    | fail)
                  go_roundw
                  case rel => exact ⟨k + 1, true, lo ++ [(l[k].1, l[k].2)], by omega, by go_num, rfl, own_snoc own4, fit_snoc hfo hs, by simp; omega, B4, HG2⟩
                  case measure => simp [intOf]; omega
                | false =>
                  rw [Bool.toNat_false, Nat.add_zero] at hlo
                  by_cases t3 : n < l[k].1
                  · have HG2 : Hid (goM n ft l false = ((lo ++ [(ft.1, ft.2)]) ++ [(l[k].1, l[k].2)]) ++ goM n ft (l.drop (k + 1)) true) := by
                      show _ = _
                      rw [HG.out, hcons, goM_both _ _ _ _ t12 t3]
                      simp
                    have one2 : Sl (wr.heap.size + 1 + 1) ((wr.alloc (.cells #[.int .i64 l[k].1, .int .i64 l[k].2] 49)).alloc (.cells #[.int .i64 ft.1, .int .i64 ft.2] 49)) (.slice (some ⟨wr.heap.size + 1, 0, none⟩) 1 1) [(ft.1, ft.2)] := by
                      have := Sl.one (wr.alloc (.cells #[.int .i64 l[k].1, .int .i64 l[k].2] 49)) ft.1 ft.2 i1 i2
                      simpa using this
                    clear hcons t1 t2 t12 one1
                    go_wp2_with (first
                      | (at_builtin; refine wpList_append_sp _ rfl (.tmp 68) (.tmp 72) rfl w.heap.size u7 lo.length (flat lo) rfl ((hown.alloc _).alloc _) (wr.heap.size + 1 + 1) [(ft.1, ft.2)] (.slice (some ⟨wr.heap.size + 1, 0, none⟩) 1 1) rfl one2 (by simp; omega) (by simp; omega) ?_; intro v4 w4 own4 grow4; have B4 := ((hbel.alloc hbel.size _).alloc (by simp; omega) _).trans (grown_below ((hown.alloc _).alloc _) grow4 (by simp; omega)); have c4 := s_kept hown grow4; have c40 := c4.1; have c41 := c4.2; clear grow4 c4)
                      | (at_builtin; refine wpList_append_sp _ rfl (.tmp 74) (.tmp 76) rfl w.heap.size v4 _ _ rfl ((own_snoc own4).alloc _) (w4.heap.size + 1) [(l[k].1, l[k].2)] (.slice (some ⟨w4.heap.size, 0, none⟩) 1 1) rfl (Sl.one w4 l[k].1 l[k].2 hs.1 hs.2) (by simp; omega) (by have := B4.size; simp; omega) ?_; intro v5 w5 own5 grow5; have B5 := (B4.alloc B4.size _).trans (grown_below ((own_snoc own4).alloc _) grow5 (by have := B4.size; simp; omega)); clear grow5)
                      | fail)
                    go_roundw
                    case rel => exact ⟨k + 1, true, (lo ++ [(ft.1, ft.2)]) ++ [(l[k].1, l[k].2)], by omega, by go_num, rfl, own_snoc own5, fit_snoc (fit_snoc hfo ⟨i1, i2⟩) hs, by simp; omega, B5, HG2⟩
                    case measure => simp [intOf]; omega
                  · have HG2 : Hid (goM n ft l false = (lo ++ [(l[k].1, l[k].2)]) ++ goM n ft (l.drop (k + 1)) false) := by
                      show _ = _
                      rw [HG.out, hcons, goM_one _ _ _ _ _ t12 (Or.inr t3)]
                      simp
                    clear hcons t1 t2 t12
                    go_wp2_with (first
                      | (at_builtin; refine wpList_append_sp _ rfl (.tmp 74) (.tmp 76) rfl w.heap.size u7 lo.length (flat lo) rfl ((hown.alloc _).alloc _) (wr.heap.size + 1 + 1) [(l[k].1, l[k].2)] (.slice (some ⟨wr.heap.size + 1, 0, none⟩) 1 1) rfl one1 (by simp; omega) (by simp; omega) ?_; intro v4 w4 own4 grow4; have B4 := ((hbel.alloc hbel.size _).alloc (by simp; omega) _).trans (grown_below ((hown.alloc _).alloc _) grow4 (by simp; omega)); clear grow4)
                      | fail)
                    go_roundw
                    case rel => exact ⟨k + 1, false, lo ++ [(l[k].1, l[k].2)], by omega, by go_num, rfl, own_snoc own4, fit_snoc hfo hs, by simp; omega, B4, HG2⟩
                    case measure => simp [intOf]; omega
          · have e := HG.out
            rw [List.drop_of_length_le (by omega)] at e
            have hlo2 : lo.length ≤ k + 1 := by cases dn <;> simp at hlo <;> omega
            cases dn with
            | true =>
              have HE : Hid (addR n l = lo) := by
                show _ = _
                rw [HA2.out, e, goM]
                simp
              clear e
              go_wp2
              go_ret
              rw [HE.out]
              exact ⟨_, rfl, Sl.own hown hfo, hbel⟩
            | false =>
              have HE : Hid (addR n l = lo ++ [(ft.1, ft.2)]) := by
                show _ = _
                rw [HA2.out, e, goM]
                simp
              have hsz := hbel.size
              clear e
              go_wp2_with (first
                | (at_builtin; refine wpList_append_sp _ rfl (.tmp 81) (.tmp 85) rfl w.heap.size u7 lo.length (flat lo) rfl (hown.alloc _) (wr.heap.size + 1) [(ft.1, ft.2)] (.slice (some ⟨wr.heap.size, 0, none⟩) 1 1) rfl (Sl.one wr ft.1 ft.2 i1 i2) (by simp; omega) (by simp; omega) ?_; intro v4 w4 own4 grow4; have B4 := (hbel.alloc hbel.size _).trans (grown_below (hown.alloc _) grow4 (by simp; omega)); clear grow4)
                | fail)
              go_ret
              rw [HE.out]
              exact ⟨_, rfl, Sl.own (own_snoc own4) (fit_snoc hfo ⟨i1, i2⟩), B4⟩
end Go.Proofs.Ytnddejdndipddaa
