/- The walk of ChunkTells. -/
import Derived.Test.YtnddejdndipddaaCkY
import Derived.Test.YtnddejdndipddaaCrH
import Derived.Test.YtnddejdndipddaaCrI
set_option maxRecDepth 20000
namespace Go.Proofs.Ytnddejdndipddaa
open Go.RowKit

theorem rparse_any (v : Value) (bs : List Int) (w : World) (hv : By w.heap.size w v bs) :
    Calls Try.prog 28 #[v] w fun e w' => ∃ c d s k, IsSl d ∧ IsSl s ∧ IsSl k ∧ e = .returned (.tuple #[ckVal c d s k, .int .i64 (parseM bs).2.2, .int .i64 (parseM bs).1]) ∧ CkOwn w.heap.size w' (ckVal c d s k) (parseM bs).2.1 ∧ Below w.heap.size w w' := by
  by_cases g : bs.length < 2 ∨ (bs.length : Int) - 2 < bs.getD 1 0
  · exact rparse_low v bs w hv (.inl g)
  · by_cases h : bs.getD 0 0 < 1 ∨ 3 < bs.getD 0 0
    · exact rparse_low v bs w hv (.inr h)
    · rcases (show bs.getD 0 0 = 1 ∨ bs.getD 0 0 = 2 ∨ bs.getD 0 0 = 3 by omega) with k | k | k
      · exact rparse_data v bs w hv g k
      · exact rparse_sack v bs w hv g k
      · exact rparse_forward v bs w hv g k

/-- Both Bytes: an errno and bytes, the same. -/
theorem bytes_both (v : Value) (c : Ck) (w : World) (hv : CkV w.heap.size w v c) :
    Calls Try.prog 24 #[v] w fun e w' => ∃ v', e = .returned (.tuple #[v', .int .i64 (wrongM c)]) ∧ By w'.heap.size w' v' (if wrongM c = 0 then bytesM c else []) ∧ Below w.heap.size w w' := by
  by_cases h : wrongM c = 0
  · rw [if_pos h, h]
    exact bytes_any v c w hv h
  · rw [if_neg h]
    exact (bytes_bad v c w hv h).mono fun e w' hh => ⟨_, hh.1, By.nil _ _, hh.2⟩
theorem rbytes_both (v : Value) (c : Ck) (w : World) (hv : CkV w.heap.size w v c) :
    Calls Try.prog 25 #[v] w fun e w' => ∃ v', e = .returned (.tuple #[v', .int .i64 (wrongM c)]) ∧ By w'.heap.size w' v' (if wrongM c = 0 then bytesM c else []) ∧ Below w.heap.size w w' := by
  by_cases h : wrongM c = 0
  · rw [if_pos h, h]
    exact rbytes_any v c w hv h
  · rw [if_neg h]
    exact (rbytes_bad v c w hv h).mono fun e w' hh => ⟨_, hh.1, By.nil _ _, hh.2⟩

set_option maxRecDepth 20000 in
set_option maxHeartbeats 2000000 in
theorem tells2_walk (v vb : Value) (c : Ck) (bs : List Int) (w : World) (hv : CkV w.heap.size w v c) (hb : By w.heap.size w vb bs) :
    Calls Try.prog 7 #[v, vb] w fun e w' => e = .returned (.bool true) ∧ Below w.heap.size w w' := by
  have HV := fun o => hv.boxed o
  have HB0 := fun o => box_below w o
  obtain ⟨d, s, k, rfl, hd, -, -⟩ := hv
  obtain ⟨ad, cd, rfl, -, -⟩ := hd.ex
  obtain ⟨a, cap, rfl, l1, l2⟩ := hb.ex
  simp only [ckVal] at HV ⊢
  have CX0 := Cells.new w #[.int .i64 c.kind, .int .i64 c.tag, .int .i64 c.stream, .int .i64 c.mid, .int .i64 c.part, .bool c.last, .bool c.ordered, .slice ad c.data.length cd, s, .int .i64 c.room, k] 39
  go_enter Try.func7, Try.ntmps7
  go_upto_region 1 with fail
  have HV0 := HV (.cells #[.int .i64 c.kind, .int .i64 c.tag, .int .i64 c.stream, .int .i64 c.mid, .int .i64 c.part, .bool c.last, .bool c.ordered, .slice ad c.data.length cd, s, .int .i64 c.room, k] 39)
  have B0 := HB0 (.cells #[.int .i64 c.kind, .int .i64 c.tag, .int .i64 c.stream, .int .i64 c.mid, .int .i64 c.part, .bool c.last, .bool c.ordered, .slice ad c.data.length cd, s, .int .i64 c.room, k] 39)
  generalize w.alloc (.cells #[.int .i64 c.kind, .int .i64 c.tag, .int .i64 c.stream, .int .i64 c.mid, .int .i64 c.part, .bool c.last, .bool c.ordered, .slice ad c.data.length cd, s, .int .i64 c.room, k] 39) = w0 at *
  have HVd : CkV w0.drew.heap.size w0.drew (.agg #[.int .i64 c.kind, .int .i64 c.tag, .int .i64 c.stream, .int .i64 c.mid, .int .i64 c.part, .bool c.last, .bool c.ordered, .slice ad c.data.length cd, s, .int .i64 c.room, k]) c := HV0.below (B' := w0.heap.size) ⟨rfl, rfl, rfl, Nat.le_refl _, fun _ _ => rfl⟩ (Nat.le_refl _)
  have hX0 : w.heap.size < w0.heap.size := World.block_lt_of_cell? _ _ (CX0.cell 0 _ rfl)
  have HW1 : ∀ wx, Below w0.heap.size w0 wx → Calls Try.prog 22 #[.agg #[.int .i64 c.kind, .int .i64 c.tag, .int .i64 c.stream, .int .i64 c.mid, .int .i64 c.part, .bool c.last, .bool c.ordered, .slice ad c.data.length cd, s, .int .i64 c.room, k]] wx fun e w' => e = .returned (.int .i64 (wrongM c)) ∧ Below w0.heap.size w0 w' := fun wx hx => (wrong_any _ c wx (HV0.size hx (Nat.le_refl _))).mono fun e w' h => ⟨h.1, hx.trans (h.2.mono hx.size)⟩
  have HW2 : ∀ wx, Below w0.heap.size w0 wx → Calls Try.prog 23 #[.agg #[.int .i64 c.kind, .int .i64 c.tag, .int .i64 c.stream, .int .i64 c.mid, .int .i64 c.part, .bool c.last, .bool c.ordered, .slice ad c.data.length cd, s, .int .i64 c.room, k]] wx fun e w' => e = .returned (.int .i64 (wrongM c)) ∧ Below w0.heap.size w0 w' := fun wx hx => (rwrong_any _ c wx (HV0.size hx (Nat.le_refl _))).mono fun e w' h => ⟨h.1, hx.trans (h.2.mono hx.size)⟩
  have HW3 : ∀ wx, Below w0.heap.size w0 wx → Calls Try.prog 24 #[.agg #[.int .i64 c.kind, .int .i64 c.tag, .int .i64 c.stream, .int .i64 c.mid, .int .i64 c.part, .bool c.last, .bool c.ordered, .slice ad c.data.length cd, s, .int .i64 c.room, k]] wx fun e w' => ∃ v', e = .returned (.tuple #[v', .int .i64 (wrongM c)]) ∧ By w'.heap.size w' v' (if wrongM c = 0 then bytesM c else []) ∧ Below wx.heap.size wx w' := fun wx hx => bytes_both _ c wx (HV0.size hx (Nat.le_refl _))
  have HW4 : ∀ wx, Below w0.heap.size w0 wx → Calls Try.prog 25 #[.agg #[.int .i64 c.kind, .int .i64 c.tag, .int .i64 c.stream, .int .i64 c.mid, .int .i64 c.part, .bool c.last, .bool c.ordered, .slice ad c.data.length cd, s, .int .i64 c.room, k]] wx fun e w' => ∃ v', e = .returned (.tuple #[v', .int .i64 (wrongM c)]) ∧ By w'.heap.size w' v' (if wrongM c = 0 then bytesM c else []) ∧ Below wx.heap.size wx w' := fun wx hx => rbytes_both _ c wx (HV0.size hx (Nat.le_refl _))
  have KX : ∀ wx, Below w0.heap.size w0 wx → wx.cell? ⟨w.heap.size, 0, none⟩ = some (.int .i64 c.kind) ∧ wx.cell? ⟨w.heap.size, 1, none⟩ = some (.int .i64 c.tag) ∧ wx.cell? ⟨w.heap.size, 2, none⟩ = some (.int .i64 c.stream) ∧ wx.cell? ⟨w.heap.size, 3, none⟩ = some (.int .i64 c.mid) ∧ wx.cell? ⟨w.heap.size, 4, none⟩ = some (.int .i64 c.part) ∧ wx.cell? ⟨w.heap.size, 5, none⟩ = some (.bool c.last) ∧ wx.cell? ⟨w.heap.size, 6, none⟩ = some (.bool c.ordered) ∧ wx.cell? ⟨w.heap.size, 7, none⟩ = some (.slice ad c.data.length cd) ∧ wx.cell? ⟨w.heap.size, 8, none⟩ = some (s) ∧ wx.cell? ⟨w.heap.size, 9, none⟩ = some (.int .i64 c.room) ∧ wx.cell? ⟨w.heap.size, 10, none⟩ = some (k) := fun wx hx => by
    have h := CX0.below hx hX0
    exact ⟨h.cell 0 _ rfl, h.cell 1 _ rfl, h.cell 2 _ rfl, h.cell 3 _ rfl, h.cell 4 _ rfl, h.cell 5 _ rfl, h.cell 6 _ rfl, h.cell 7 _ rfl, h.cell 8 _ rfl, h.cell 9 _ rfl, h.cell 10 _ rfl⟩
  have X0 := KX _ (Below.refl _ _)
  have BD : Below w0.heap.size w0 w0.drew := ⟨rfl, rfl, rfl, Nat.le_refl _, fun _ _ => rfl⟩
  clear HV HB0 HV0 HVd CX0
  go_cut [17] from 13 to 16 (fun s17 wx => s17 = .bool false ∧ Below w0.heap.size w0 wx)
  case first =>
    go_region_held3 (fun w' => w'.cell? ⟨w.heap.size, 0, none⟩ = some (.int .i64 c.kind) ∧ w'.cell? ⟨w.heap.size, 1, none⟩ = some (.int .i64 c.tag) ∧ w'.cell? ⟨w.heap.size, 2, none⟩ = some (.int .i64 c.stream) ∧ w'.cell? ⟨w.heap.size, 3, none⟩ = some (.int .i64 c.mid) ∧ w'.cell? ⟨w.heap.size, 4, none⟩ = some (.int .i64 c.part) ∧ w'.cell? ⟨w.heap.size, 5, none⟩ = some (.bool c.last) ∧ w'.cell? ⟨w.heap.size, 6, none⟩ = some (.bool c.ordered) ∧ w'.cell? ⟨w.heap.size, 7, none⟩ = some (.slice ad c.data.length cd) ∧ w'.cell? ⟨w.heap.size, 8, none⟩ = some (s) ∧ w'.cell? ⟨w.heap.size, 9, none⟩ = some (.int .i64 c.room) ∧ w'.cell? ⟨w.heap.size, 10, none⟩ = some (k)) (first | exact X2 | exact X1 | exact X0) (first
      | (go_at_call 22; refine (HW1 _ ?h1).mono ?_; (case h1 => exact BD); rintro e w1 ⟨rfl, B1⟩; have X1 := KX _ B1)
      | (go_at_call 23; refine (HW2 _ ?h2).mono ?_; (case h2 => exact B1); rintro e w2 ⟨rfl, B2⟩; have X2 := KX _ B2))
    all_goals (
      go_wp2_with fail
      go_meet
      exact ⟨by simp, B2⟩)
  case rest =>
    obtain ⟨rfl, BA⟩ := hcut
    have KB := Below.trans (B := w.heap.size) B0 (BA.mono B0.size)
    obtain ⟨y0, y1, y2, y3, y4, y5, y6, y7, y8, y9, y10⟩ := KX _ BA
    go_wp2_with fail
    refine (HW3 _ BA).mono ?_
    rintro e w3 ⟨v3, rfl, by3, b3⟩
    have B3 := BA.trans (b3.mono BA.size)
    clear y0 y1 y2 y3 y4 y5 y6 y7 y8 y9 y10
    obtain ⟨y0, y1, y2, y3, y4, y5, y6, y7, y8, y9, y10⟩ := KX _ B3
    go_wp2_with fail
    refine (HW4 _ B3).mono ?_
    rintro e w4 ⟨v4, rfl, by4, b4⟩
    have B4 := B3.trans (b4.mono B3.size)
    have Y3 := by3.below b4 (Nat.le_refl _)
    clear y0 y1 y2 y3 y4 y5 y6 y7 y8 y9 y10
    obtain ⟨y0, y1, y2, y3, y4, y5, y6, y7, y8, y9, y10⟩ := KX _ B4
    have HBB : Hid (wrongM c = 0 → c.kind = 1 → ((if wrongM c = 0 then bytesM c else []).length : Int) = (c.data.length : Int) + 9 ∧ c.data.length ≤ 16) := by
      intro hw hk
      have g := (goodD hw hk).len
      rw [if_pos hw]
      simp [bytesM, bodyM, hk, two16]
      omega
    generalize (if wrongM c = 0 then bytesM c else []) = bb at *
    obtain ⟨a3, cap3, rfl, -, -⟩ := Y3.ex
    obtain ⟨a4, cap4, rfl, -, -⟩ := by4.ex
    have T3 := Y3.str
    have T4 := by4.str
    clear by3 by4 Y3 HW1 HW2 HW3 HW4 KX X0
    go_upto_region 5 with fail
    go_cut [55] from 28 to 54 (fun s55 wx => s55 = .bool false ∧ wx = w4)
    case first =>
      cases hwb : (wrongM c == 0) with
      | true =>
        cases hkb : (c.kind == 1) with
        | true =>
          obtain ⟨e9, l9⟩ := HBB.out (by simpa using hwb) (by simpa using hkb)
          go_wp2_with (go_at_call 26; refine (size_any _ _ (by omega) (by omega)).mono ?_; rintro e w5 ⟨rfl, rfl⟩)
          all_goals (
            go_meet
            exact ⟨by simp, rfl⟩)
        | false =>
          go_wp2_with fail
          all_goals (
            go_meet
            exact ⟨by simp, rfl⟩)
      | false =>
        cases hkb : (c.kind == 1) with
        | true =>
          go_wp2_with fail
          all_goals (
            go_meet
            exact ⟨by simp, rfl⟩)
        | false =>
          go_wp2_with fail
          all_goals (
            go_meet
            exact ⟨by simp, rfl⟩)
    case rest =>
      obtain ⟨rfl, hwc⟩ := hcut
      replace hwc := hwc.symm
      subst hwc
      clear T3 T4 HBB y0 y1 y2 y3 y4 y5 y6 y7 y8 y9 y10
      have BL4 : Below w.heap.size w w4 := B0.trans (B4.mono B0.size)
      have Y4 : By w4.heap.size w4 (.slice a bs.length cap) bs := hb.size BL4 (Nat.le_refl _)
      clear B4 b4 B3 b3 BA KB B0 hX0 hd hb BD
      have P4 := parse_any _ bs _ Y4
      have Y5 := fun w5 (b5 : Below w4.heap.size w4 w5) o => Y4.size (b5.alloc b5.size o) (Nat.le_refl _)
      have P5 := fun w5 (b5 : Below w4.heap.size w4 w5) o => rparse_any _ bs _ (Y5 w5 b5 o)
      generalize parseM bs = pm at *
      go_wp2_with fail
      refine P4.mono ?_
      rintro e w5 ⟨c5, d5, s5, k5, ⟨ad5, nd5, cd5, rfl⟩, ⟨as5, ns5, cs5, rfl⟩, ⟨ak5, nk5, ck5, rfl⟩, rfl, own5, b5⟩
      have P5' := P5 w5 b5 (.cells #[.int .i64 c5.kind, .int .i64 c5.tag, .int .i64 c5.stream, .int .i64 c5.mid, .int .i64 c5.part, .bool c5.last, .bool c5.ordered, .slice ad5 nd5 cd5, .slice as5 ns5 cs5, .int .i64 c5.room, .slice ak5 nk5 ck5] 39)
      have BL5 : Below w.heap.size w (w5.alloc (.cells #[.int .i64 c5.kind, .int .i64 c5.tag, .int .i64 c5.stream, .int .i64 c5.mid, .int .i64 c5.part, .bool c5.last, .bool c5.ordered, .slice ad5 nd5 cd5, .slice as5 ns5 cs5, .int .i64 c5.room, .slice ak5 nk5 ck5] 39)) := BL4.trans ((b5.alloc b5.size _).mono BL4.size)
      have CD5 := Cells.new w5 #[.int .i64 c5.kind, .int .i64 c5.tag, .int .i64 c5.stream, .int .i64 c5.mid, .int .i64 c5.part, .bool c5.last, .bool c5.ordered, .slice ad5 nd5 cd5, .slice as5 ns5 cs5, .int .i64 c5.room, .slice ak5 nk5 ck5] 39
      have own5a := own5.alloc (.cells #[.int .i64 c5.kind, .int .i64 c5.tag, .int .i64 c5.stream, .int .i64 c5.mid, .int .i64 c5.part, .bool c5.last, .bool c5.ordered, .slice ad5 nd5 cd5, .slice as5 ns5 cs5, .int .i64 c5.room, .slice ak5 nk5 ck5] 39)
      clear P4 P5 Y5 Y4
      simp only [ckVal] at own5a ⊢
      go_wp2_with fail
      refine P5'.mono ?_
      rintro e w6 ⟨c6, d6, s6, k6, ⟨ad6, nd6, cd6, rfl⟩, ⟨as6, ns6, cs6, rfl⟩, ⟨ak6, nk6, ck6, rfl⟩, rfl, own6, b6⟩
      have own5b := (ownBelow own5a b6).alloc (.cells #[.int .i64 c6.kind, .int .i64 c6.tag, .int .i64 c6.stream, .int .i64 c6.mid, .int .i64 c6.part, .bool c6.last, .bool c6.ordered, .slice ad6 nd6 cd6, .slice as6 ns6 cs6, .int .i64 c6.room, .slice ak6 nk6 ck6] 39)
      have own6a := own6.alloc (.cells #[.int .i64 c6.kind, .int .i64 c6.tag, .int .i64 c6.stream, .int .i64 c6.mid, .int .i64 c6.part, .bool c6.last, .bool c6.ordered, .slice ad6 nd6 cd6, .slice as6 ns6 cs6, .int .i64 c6.room, .slice ak6 nk6 ck6] 39)
      have BL6 : Below w.heap.size w (w6.alloc (.cells #[.int .i64 c6.kind, .int .i64 c6.tag, .int .i64 c6.stream, .int .i64 c6.mid, .int .i64 c6.part, .bool c6.last, .bool c6.ordered, .slice ad6 nd6 cd6, .slice as6 ns6 cs6, .int .i64 c6.room, .slice ak6 nk6 ck6] 39)) := (BL5.trans (b6.mono BL5.size)).alloc (BL5.trans (b6.mono BL5.size)).size _
      have CD6 := CD5.below b6 (by simp)
      have h56 : w5.heap.size < w6.heap.size := World.block_lt_of_cell? _ _ (CD6.cell 0 _ rfl)
      have n56 : ¬ w5.heap.size = w6.heap.size := by omega
      have z0 := CD6.cell 0 _ rfl
      have z1 := CD6.cell 1 _ rfl
      have z2 := CD6.cell 2 _ rfl
      have z3 := CD6.cell 3 _ rfl
      have z4 := CD6.cell 4 _ rfl
      have z5 := CD6.cell 5 _ rfl
      have z6 := CD6.cell 6 _ rfl
      have z7 := CD6.cell 7 _ rfl
      have z8 := CD6.cell 8 _ rfl
      have z9 := CD6.cell 9 _ rfl
      have z10 := CD6.cell 10 _ rfl
      have SM := sameChunk_same _ _ pm.2.1 _ own5b.v own6a.v
      simp only [ckVal] at SM ⊢
      clear own5 own5a own5b own6 own6a CD5 CD6 b5 b6 BL5 BL4 P5'
      go_wp2_with fail
      refine SM.mono ?_
      rintro e w9 ⟨rfl, b9⟩
      have BL9 := BL6.trans (b9.mono BL6.size)
      clear SM z0 z1 z2 z3 z4 z5 z6 z7 z8 z9 z10
      go_wp2_with fail
      go_ret
      exact ⟨ret_bool (by simp), BL9⟩
end Go.Proofs.Ytnddejdndipddaa
