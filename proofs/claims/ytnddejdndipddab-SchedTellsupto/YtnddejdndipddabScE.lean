/- The contracts of sched's inHand and foremost. -/
import Derived.Test.YtnddejdndipddabScD
set_option maxRecDepth 20000
namespace Go.Proofs.Ytnddejdndipddab
open Go.RowKit

/-- Where a number is, or -1. -/
def FindIs (l : List Int) (x : Int) (k : Int) : Prop := (k = -1 ∧ x ∉ l) ∨ ∃ i : Nat, k = (i : Int) ∧ FirstAt l x i
theorem find_none {l : List Int} {x : Int} (h : ∀ j : Nat, j < l.length → l[j]? ≠ some x) : FindIs l x (-1) := .inl ⟨rfl, fun hm => by
  obtain ⟨j, hj⟩ := List.getElem?_of_mem hm
  exact h j (List.getElem?_eq_some_iff.1 hj).1 hj⟩
theorem find_some {l : List Int} {x : Int} {i : Nat} (h : ∀ j : Nat, j < i → l[j]? ≠ some x) (hi : l[i]? = some x) : FindIs l x (i : Int) := .inr ⟨i, rfl, hi, fun j hj => by
  rcases Nat.lt_or_ge j i with h' | h'
  · exact absurd hj (h j h')
  · exact h'⟩
theorem find_bd {l : List Int} {x k : Int} (h : FindIs l x k) : -1 ≤ k ∧ k < l.length := by
  rcases h with ⟨rfl, -⟩ | ⟨i, rfl, h1, -⟩
  · omega
  · have := (List.getElem?_eq_some_iff.1 h1).1; omega

set_option maxHeartbeats 1000000 in
theorem indexHand_any (X : Nat) (hand : Int) (v : Value) (l : List Qd) (w : World) (hv : QdS w.heap.size w v l) (hX : w.cell? ⟨X, 1, none⟩ = some (.int .i64 hand)) :
    Calls Try.prog 59 #[v, .func (.func 60) #[] #[.pointer (some ⟨X, 0, none⟩)]] w fun e w' => ∃ k, e = .returned (.int .i64 k) ∧ FindIs (idsQ l) hand k ∧ Below w.heap.size w w' := by
  have HV := hv
  obtain ⟨a, cap, rfl, h1, h2⟩ := hv.ex
  have hXlt := World.block_lt_of_cell? _ _ hX
  simp only at hXlt
  have HE := enters_inHand
  go_enter Try.func59, Try.ntmps59
  go_wp2_with fail
  go_loopw [8] (fun i wr => ∃ k : Nat, k ≤ l.length ∧ i = .int .i64 k ∧ (∀ j : Nat, j < k → (idsQ l)[j]? ≠ some hand) ∧ Below w.heap.size w wr) (fun i _ => l.length - (intOf i).toNat)
  case atStart => exact ⟨0, Nat.zero_le _, rfl, fun j hj => by omega, Below.refl _ _⟩
  case round =>
    obtain ⟨k, hk, rfl, hno, BR⟩ := hrel
    have HNO : Hid (∀ j : Nat, j < k → (idsQ l)[j]? ≠ some hand) := hno
    clear hno
    by_cases hlt : k < l.length
    · obtain ⟨b, off, da, dn, dc, hb, hix, x0, x1, x2, x3, x4, x5, x6, x7, x8, x9⟩ := QdS.at (SlG.below QdV.bears HV BR (Nat.le_refl _)) k hlt
      have hX1 : wr.cell? ⟨X, 1, none⟩ = some (.int .i64 hand) := (BR.cell (p := ⟨X, 1, none⟩) hXlt).trans hX
      have AS := asksHand_any X hand l[k] da dn dc wr hX1
      have HID : Hid ((idsQ l)[k]? = some l[k].id) := idsQ_get hlt
      simp only [qdVal] at AS
      generalize l[k] = q at *
      go_wp2_with fail
      refine AS.mono ?_
      rintro e w1 ⟨rfl, b1⟩
      have B1 := BR.trans (b1.mono BR.size)
      cases hq : (q.id == hand) with
      | true =>
        have FI : FindIs (idsQ l) hand (k : Int) := find_some HNO.out (by rw [HID.out]; simpa using hq)
        go_wp2_with fail
        go_ret
        exact ⟨_, rfl, FI, B1⟩
      | false =>
        have HN2 : Hid (∀ j : Nat, j < k + 1 → (idsQ l)[j]? ≠ some hand) := fun j hj => by
          by_cases e : j = k
          · subst e; rw [HID.out]; simpa using hq
          · exact HNO.out j (by omega)
        go_wp2_with fail
        go_roundw
        case rel => exact ⟨k + 1, by omega, by go_num, HN2.out, B1⟩
        case measure => simp [intOf]; omega
    · have hkl : k = l.length := by omega
      subst hkl
      have FI : FindIs (idsQ l) hand (-1) := find_none fun j hj => HNO.out j (by simpa [idsQ] using hj)
      go_wp2_with fail
      go_ret
      exact ⟨_, rfl, FI, BR⟩

set_option maxHeartbeats 400000 in
theorem inHand_any (last hand : Int) (ah : Option Addr) (nh ch : Nat) (v : Value) (l : List Qd) (w : World) (hv : QdS w.heap.size w v l) :
    Calls Try.prog 38 #[.agg #[.int .i64 last, .int .i64 hand, .slice ah nh ch], v] w fun e w' => ∃ k, e = .returned (.int .i64 k) ∧ FindIs (idsQ l) hand k ∧ Below w.heap.size w w' := by
  have hmf : ∀ (fn : Fn) (first cap : Array Value) (w : World), (Instr.makeFunc fn first cap).run Try.prog w = .ok (.func fn first cap) w := fun _ _ _ _ => rfl
  have HV := hv
  obtain ⟨a, cap, rfl, h1, h2⟩ := hv.ex
  have B0 := box_below w (.cells #[.int .i64 last, .int .i64 hand, .slice ah nh ch] 51)
  have IX := indexHand_any w.heap.size hand _ l _ (SlG.size QdV.bears HV B0 (Nat.le_refl _)) ((Cells.new w #[.int .i64 last, .int .i64 hand, .slice ah nh ch] 51).cell 1 _ rfl)
  go_enter Try.func38, Try.ntmps38
  go_wp2_with fail
  refine IX.mono ?_
  rintro e w1 ⟨k, rfl, FI, b1⟩
  have B1 := B0.trans (b1.mono B0.size)
  go_wp2_with fail
  go_ret
  exact ⟨_, rfl, FI, B1⟩

set_option maxHeartbeats 1000000 in
theorem foremost_any (g : FuncId) (caps : Array Value) (r : Int → Int) (last hand : Int) (ah : Option Addr) (n ch : Nat) (v : Value) (l : List Qd) (w : World) (hv : QdS w.heap.size w v l)
    (hg : ∀ args wx, (callFunc g args).run Try.prog wx = .ok (.enter g args) wx)
    (ask : ∀ (a b : Int) (wx : World), isSt n a → isSt n b → Below w.heap.size w wx → Calls Try.prog g (#[.int .i64 a, .int .i64 b] ++ caps) wx fun e w' => e = .returned (.bool (decide (ahead r a b))) ∧ Below wx.heap.size wx w') :
    Calls Try.prog 39 #[.agg #[.int .i64 last, .int .i64 hand, .slice ah n ch], v, .func (.func g) #[] caps] w fun e w' => ∃ k, e = .returned (.int .i64 k) ∧ Foremost n r (strs l) k ∧ Below w.heap.size w w' := by
  have HV := hv
  obtain ⟨a, cap, rfl, h1, h2⟩ := hv.ex
  have B0 := box_below w (.cells #[.int .i64 last, .int .i64 hand, .slice ah n ch] 51)
  have CX := Cells.new w #[.int .i64 last, .int .i64 hand, .slice ah n ch] 51
  have hz : (w.alloc (.cells #[.int .i64 last, .int .i64 hand, .slice ah n ch] 51)).heap.size = w.heap.size + 1 := by simp
  go_enter Try.func39, Try.ntmps39
  go_wp2_with fail
  generalize (w.alloc (.cells #[.int .i64 last, .int .i64 hand, .slice ah n ch] 51)) = w0 at *
  go_loopw [7, 13] (fun t i wr => ∃ (k : Nat) (z : Int), k ≤ l.length ∧ i = .int .i64 k ∧ t = .int .i64 z ∧ Foremost n r ((strs l).take k) z ∧ Below w0.heap.size w0 wr) (fun _ i _ => l.length - (intOf i).toNat)
  case atStart => exact ⟨0, -1, Nat.zero_le _, rfl, rfl, Foremost.nil _ _, Below.refl _ _⟩
  case round =>
    obtain ⟨k, z, hk, rfl, rfl, FO, BR⟩ := hrel
    have BW := B0.trans (BR.mono B0.size)
    by_cases hlt : k < l.length
    · obtain ⟨b, off, da, dn, dc, hb, hix, x0, x1, x2, x3, x4, x5, x6, x7, x8, x9⟩ := QdS.at (SlG.below QdV.bears HV BW (Nat.le_refl _)) k hlt
      have CX1 := CX.below BR (by omega)
      have y0 := CX1.cell 0 _ rfl
      have y1 := CX1.cell 1 _ rfl
      have y2 := CX1.cell 2 _ rfl
      have hsz := BR.size
      have lX : w.heap.size < wr.heap.size := by omega
      have IS := fun wx => isStream_any last hand ah n ch l[k].stream wx
      have TK := strs_take hlt
      have LT : ((strs l).take k).length = k := by rw [List.length_take, strs_len]; omega
      by_cases hst : isSt n l[k].stream
      · have HT : Hid (decide (isSt n l[k].stream) = true) := decide_eq_true hst
        rw [HT.out] at IS
        have hzb := FO.bd
        rw [LT] at hzb
        by_cases hz1 : z = -1
        · subst hz1
          have F1 : Foremost n r ((strs l).take (k + 1)) (k : Int) := by rw [TK]; have := FO.one hst; rwa [LT] at this
          clear FO TK LT hst HT hzb
          generalize l[k] = q at *
          go_wp2_with (go_at_call 44; refine (IS _).mono ?_; rintro e w1 ⟨rfl, b1⟩)
          have B1 : Below w0.heap.size w0 w1 := BR.trans (((box_below wr _).trans (b1.mono (by simp))).mono BR.size)
          go_roundw
          case rel => exact ⟨k + 1, k, by omega, by go_num, rfl, F1, B1⟩
          case measure => simp [intOf]; omega
        · obtain ⟨i, rfl⟩ := Int.eq_ofNat_of_zero_le (show 0 ≤ z by omega)
          have hil : i < l.length := by omega
          obtain ⟨b2, o2, da2, dn2, dc2, hb2, hix2, -, -, -, -, -, v5, -⟩ := QdS.at (SlG.below QdV.bears HV BW (Nat.le_refl _)) i hil
          have T5 : ∀ wx, Below wr.heap.size wr wx → wx.cell? ⟨b2, o2 + 5, none⟩ = some (.int .i64 l[i].stream) := fun wx hx => (hx.cell (p := ⟨b2, o2 + 5, none⟩) (by show b2 < _; have := BW.size; omega)).trans v5
          have GI : ((strs l).take k)[i]? = some l[i].stream := by rw [List.getElem?_take, if_pos (by omega)]; exact strs_get hil
          have hsi : isSt n l[i].stream := by
            obtain ⟨t, e1, e2, -⟩ := FO.at
            rw [GI] at e1
            simp only [Option.some.injEq] at e1
            rw [e1]; exact e2
          have ASK := fun wx hx => ask l[k].stream l[i].stream wx hst hsi hx
          have F1 : ahead r l[k].stream l[i].stream → Foremost n r ((strs l).take (k + 1)) (k : Int) := fun h => by rw [TK]; have := FO.turn GI hst h; rwa [LT] at this
          have F2 : ¬ ahead r l[k].stream l[i].stream → Foremost n r ((strs l).take (k + 1)) (i : Int) := fun h => by rw [TK]; exact FO.stay GI h
          clear FO TK LT hst HT hzb GI hsi ask v5
          generalize l[k] = q at *
          generalize l[i].stream = si at *
          have gz : ((i : Int) == -1) = false := by simp
          go_wp2_with (go_at_call 44; refine (IS _).mono ?_; rintro e w1 ⟨rfl, b1⟩; have C1 : Below wr.heap.size wr w1 := (box_below wr _).trans (b1.mono (by simp)); have t5 := T5 _ C1)
          have B1 : Below w0.heap.size w0 w1 := BR.trans (C1.mono BR.size)
          refine (ASK _ (B0.trans (B1.mono B0.size))).mono ?_
          rintro e w2 ⟨rfl, b2⟩
          have B2 : Below w0.heap.size w0 w2 := B1.trans (b2.mono B1.size)
          clear ASK IS T5 t5
          cases hd : decide (ahead r q.stream si) with
          | true =>
            have F3 := F1 (of_decide_eq_true hd)
            clear F1 F2 hd
            go_wp2_with fail
            go_roundw
            case rel => exact ⟨k + 1, k, by omega, by go_num, rfl, F3, B2⟩
            case measure => simp [intOf]; omega
          | false =>
            have F3 := F2 (of_decide_eq_false hd)
            clear F1 F2 hd
            go_wp2_with fail
            go_roundw
            case rel => exact ⟨k + 1, i, by omega, by go_num, rfl, F3, B2⟩
            case measure => simp [intOf]; omega
      · have F1 : Foremost n r ((strs l).take (k + 1)) z := by rw [TK]; exact FO.skip hst
        have HT : Hid (decide (isSt n l[k].stream) = false) := decide_eq_false hst
        rw [HT.out] at IS
        clear FO TK LT hst HT
        generalize l[k] = q at *
        go_wp2_with (go_at_call 44; refine (IS _).mono ?_; rintro e w1 ⟨rfl, b1⟩)
        have B1 : Below w0.heap.size w0 w1 := BR.trans (((box_below wr _).trans (b1.mono (by simp))).mono BR.size)
        go_roundw
        case rel => exact ⟨k + 1, z, by omega, by go_num, rfl, F1, B1⟩
        case measure => simp [intOf]; omega
    · have hkl : k = l.length := by omega
      subst hkl
      rw [List.take_of_length_le (by simp [strs])] at FO
      go_wp2_with fail
      go_ret
      exact ⟨_, rfl, FO, BW⟩
end Go.Proofs.Ytnddejdndipddab
