/- The walk of SchedTells. -/
import Derived.Test.YtnddejdndipddabScM
set_option maxRecDepth 20000
namespace Go.Proofs.Ytnddejdndipddab
open Go.RowKit

theorem noughts_I (n : Nat) : IsI (List.replicate n 0) := fun z hz => by
  obtain ⟨-, rfl⟩ := List.mem_replicate.1 hz
  unfold I64; omega
theorem fresh_sd {w : World} {O n : Nat} (h : Cells O w (cellsI (List.replicate n 0))) (hO : O < w.heap.size) (hn : n ≤ 9223372036854775807) : SdV w.heap.size w (.agg #[.int .i64 ((n : Int) - 1), .int .i64 (-1), .slice (some ⟨O, 0, none⟩) n n]) ⟨(n : Int) - 1, -1, List.replicate n 0⟩ :=
  ⟨_, rfl, In.block h hO (by simp) (by simpa using hn) (noughts_I n)⟩

theorem made_cells (w : World) (n X : Nat) (hX : X = w.heap.size) : Cells X (w.alloc (.cells (madeCells #[.int .i64 0] n) 3)) (cellsI (List.replicate n 0)) := by
  have := Cells.new' (madeCells #[.int .i64 0] n) 3 hX
  rw [toList_madeCells_one] at this
  simpa [cellsI] using this
theorem Cells.drewn {X : Nat} {w : World} {l : List Value} (h : Cells X w l) : Cells X w.drew l := ⟨h.cell, h.fz⟩

set_option maxHeartbeats 8000000 in
theorem tells5_walk (turns : Int) (vs v vm : Value) (s : Sd) (l : List Qd) (q : Qd) (bytes : Int) (over : Bool) (w : World) (hs : SdV w.heap.size w vs s) (hv : QdS w.heap.size w v l) (hm : QdV w.heap.size w vm q) (hn : s.had.length ≤ 1048576) :
    Calls Try.prog 8 #[.int .i64 turns, vs, v, vm, .int .i64 bytes, .bool over] w fun e w' => e = .returned (.bool true) ∧ Below w.heap.size w w' := by
  have HV := hv
  obtain ⟨a, cap, rfl, h1, h2⟩ := hv.ex
  have HS := hs
  obtain ⟨d, rfl, hd⟩ := hs
  obtain ⟨ad, cd, rfl, -, -⟩ := hd.ex
  obtain ⟨last, hand, had⟩ := s
  obtain ⟨dq, rfl, da, dn, dc, rfl⟩ := hm
  have HA : ∀ wx, Below w.heap.size w wx → Calls Try.prog 25 #[.agg #[.int .i64 last, .int .i64 hand, .slice ad had.length cd], qdVal q (.slice da dn dc), .int .i64 bytes, .bool over] wx fun e w' => ∃ x y a c n, e = .returned (.agg #[.int .i64 x, .int .i64 y, .slice a n c]) ∧ SdV w'.heap.size w' (.agg #[.int .i64 x, .int .i64 y, .slice a n c]) (hadM ⟨last, hand, had⟩ q bytes over) ∧ Below wx.heap.size wx w' := fun wx hx => (had_any _ _ q da dn dc bytes over wx (HS.size hx (Nat.le_refl _)) (by show had.length * 8 ≤ _; simp only at hn; omega)).mono fun e w' ⟨d', e1, i1, i2, b⟩ => by
    obtain ⟨a', c', rfl, -, -⟩ := i1.ex
    exact ⟨_, _, _, _, _, e1, ⟨_, rfl, i1⟩, b⟩
  have HR : ∀ wx, Below w.heap.size w wx → Calls Try.prog 26 #[.agg #[.int .i64 last, .int .i64 hand, .slice ad had.length cd], qdVal q (.slice da dn dc), .int .i64 bytes, .bool over] wx fun e w' => ∃ x y a c n, e = .returned (.agg #[.int .i64 x, .int .i64 y, .slice a n c]) ∧ SdV w'.heap.size w' (.agg #[.int .i64 x, .int .i64 y, .slice a n c]) (hadM ⟨last, hand, had⟩ q bytes over) ∧ Below wx.heap.size wx w' := fun wx hx => (rhad_any _ _ q da dn dc bytes over wx (HS.size hx (Nat.le_refl _)) hn).mono fun e w' ⟨v', e1, i1, ⟨x, y, a', n', c', e2⟩, b⟩ => by
    subst e2
    exact ⟨_, _, _, _, _, e1, i1, b⟩
  obtain ⟨id, mid, came, sent, parts, stream, ordered, life, tries⟩ := q
  generalize hadM ⟨last, hand, had⟩ ⟨id, mid, came, sent, parts, stream, ordered, life, tries⟩ bytes over = hmm at HA HR
  simp only [qdVal] at HA HR hn hd ⊢
  have NX : ∀ wx, Below w.heap.size w wx → Calls Try.prog 22 #[.int .i64 turns, .agg #[.int .i64 last, .int .i64 hand, .slice ad had.length cd], .slice a l.length cap] wx fun e w' => ∃ k, e = .returned (.int .i64 k) ∧ NextIs turns last hand had (idsQ l) (strs l) k ∧ Below wx.heap.size wx w' := fun wx hx => next_any turns _ _ _ l wx (HS.size hx (Nat.le_refl _)) (SlG.size QdV.bears HV hx (Nat.le_refl _))
  have OW : ∀ wx, Below w.heap.size w wx → Calls Try.prog 27 #[.agg #[.int .i64 last, .int .i64 hand, .slice ad had.length cd]] wx fun e w' => ∃ a c, e = .returned (.agg #[.int .i64 last, .int .i64 hand, .slice a had.length c]) ∧ SdV w'.heap.size w' (.agg #[.int .i64 last, .int .i64 hand, .slice a had.length c]) ⟨last, hand, had⟩ ∧ Below wx.heap.size wx w' := fun wx hx => (own_any _ _ wx (HS.size hx (Nat.le_refl _)) (by show had.length * 8 ≤ _; omega)).mono fun e w' ⟨a', c', e1, o1, b⟩ => ⟨a', c', e1, ⟨_, rfl, In.own o1 rfl hd.2⟩, b⟩
  have NW : ∀ wx, Calls Try.prog 28 #[.int .i64 (had.length : Int)] wx fun e w' => ∃ O, e = .returned (.agg #[.int .i64 ((had.length : Int) - 1), .int .i64 (-1), .slice (some ⟨O, 0, none⟩) had.length had.length]) ∧ SdV w'.heap.size w' (.agg #[.int .i64 ((had.length : Int) - 1), .int .i64 (-1), .slice (some ⟨O, 0, none⟩) had.length had.length]) ⟨(had.length : Int) - 1, -1, List.replicate had.length 0⟩ ∧ Below wx.heap.size wx w' := fun wx => (new_any had.length wx (by omega)).mono fun e w' ⟨O, e1, c1, _, h2, b⟩ => ⟨O, e1, fresh_sd c1 h2 (by omega), b⟩
  have B0 : Below w.heap.size w ((w.alloc (.cells #[.int .i64 last, .int .i64 hand, .slice ad had.length cd] 51)).alloc (.cells #[.int .i64 id, .int .i64 mid, .int .i64 came, .int .i64 sent, .int .i64 parts, .int .i64 stream, .bool ordered, .int .i64 life, .int .i64 tries, .slice da dn dc] 56)) := two_below w _ _
  have CS : Cells w.heap.size ((w.alloc (.cells #[.int .i64 last, .int .i64 hand, .slice ad had.length cd] 51)).alloc (.cells #[.int .i64 id, .int .i64 mid, .int .i64 came, .int .i64 sent, .int .i64 parts, .int .i64 stream, .bool ordered, .int .i64 life, .int .i64 tries, .slice da dn dc] 56)) [.int .i64 last, .int .i64 hand, .slice ad had.length cd] := (Cells.new w #[.int .i64 last, .int .i64 hand, .slice ad had.length cd] 51).alloc (by simp) _
  have CM : Cells (w.heap.size + 1) ((w.alloc (.cells #[.int .i64 last, .int .i64 hand, .slice ad had.length cd] 51)).alloc (.cells #[.int .i64 id, .int .i64 mid, .int .i64 came, .int .i64 sent, .int .i64 parts, .int .i64 stream, .bool ordered, .int .i64 life, .int .i64 tries, .slice da dn dc] 56)) [.int .i64 id, .int .i64 mid, .int .i64 came, .int .i64 sent, .int .i64 parts, .int .i64 stream, .bool ordered, .int .i64 life, .int .i64 tries, .slice da dn dc] := Cells.new' #[.int .i64 id, .int .i64 mid, .int .i64 came, .int .i64 sent, .int .i64 parts, .int .i64 stream, .bool ordered, .int .i64 life, .int .i64 tries, .slice da dn dc] 56 (by simp)
  have hz : ((w.alloc (.cells #[.int .i64 last, .int .i64 hand, .slice ad had.length cd] 51)).alloc (.cells #[.int .i64 id, .int .i64 mid, .int .i64 came, .int .i64 sent, .int .i64 parts, .int .i64 stream, .bool ordered, .int .i64 life, .int .i64 tries, .slice da dn dc] 56)).heap.size = w.heap.size + 1 + 1 := by simp
  have MK := run_mkI had.length (by omega)
  clear hd hv
  go_enter Try.func8, Try.ntmps8
  by_cases p0 : (had.length : Int) > 0
  by_cases p1 : last < 0
  · go_wp2_with fail
    go_ret
    exact ⟨rfl, B0⟩
  by_cases p2 : last ≥ (had.length : Int)
  · go_wp2_with fail
    go_ret
    exact ⟨rfl, B0⟩
  all_goals
    have RN : ∀ wx, Below w.heap.size w wx → Calls Try.prog 23 #[.int .i64 turns, .agg #[.int .i64 last, .int .i64 hand, .slice ad had.length cd], .slice a l.length cap] wx fun e w' => ∃ k, e = .returned (.int .i64 k) ∧ NextIs turns last hand had (idsQ l) (strs l) k ∧ Below wx.heap.size wx w' := fun wx hx => rnext_any turns _ _ _ l wx (HS.size hx (Nat.le_refl _)) (SlG.size QdV.bears HV hx (Nat.le_refl _)) (fun _ => by constructor <;> (simp only at *; omega)) hn
    go_wp2_with fail
    generalize ((w.alloc (.cells #[.int .i64 last, .int .i64 hand, .slice ad had.length cd] 51)).alloc (.cells #[.int .i64 id, .int .i64 mid, .int .i64 came, .int .i64 sent, .int .i64 parts, .int .i64 stream, .bool ordered, .int .i64 life, .int .i64 tries, .slice da dn dc] 56)) = w0 at *
    have y2 := CS.cell 2 _ rfl
    have lS : w.heap.size < w0.heap.size := by omega
    go_cut [13] from 31 to 39 (fun s13 wx => ∃ T O : Nat, s13 = .pointer (some ⟨T, 0, none⟩) ∧ Cells T wx [.int .i64 ((had.length : Int) - 1), .int .i64 (-1), .slice (some ⟨O, 0, none⟩) had.length had.length] ∧ Cells O wx (cellsI (List.replicate had.length 0)) ∧ T < wx.heap.size ∧ O < wx.heap.size ∧ Below w0.heap.size w0 wx)
    case first =>
      go_region
      all_goals
        go_wp2_with fail
        go_meet
        first
          | exact ⟨w.heap.size + 1 + 1 + 1, w.heap.size + 1 + 1, rfl, (Cells.new' _ _ (by simp; omega)).drewn, ((made_cells _ _ _ (by omega)).alloc (by simp; omega) _).drewn, by simp; omega, by simp; omega, (two_below w0 _ _).trans (drew_below _ _)⟩
          | exact ⟨w.heap.size + 1 + 1, w.heap.size + 1 + 1 + 1, rfl, ((Cells.new' _ _ (by omega)).alloc (by simp; omega) _).drewn, (made_cells _ _ _ (by simp; omega)).drewn, by simp; omega, by simp; omega, (two_below w0 _ _).trans (drew_below _ _)⟩
    case rest =>
      obtain ⟨T, O, rfl, CT, CO, hT, hO, BC⟩ := hcut
      have BW := B0.trans (BC.mono B0.size)
      have FR : SdV wc.heap.size wc (.agg #[.int .i64 ((had.length : Int) - 1), .int .i64 (-1), .slice (some ⟨O, 0, none⟩) had.length had.length]) ⟨(had.length : Int) - 1, -1, List.replicate had.length 0⟩ := fresh_sd CO hO (by omega)
      have KX : ∀ wx, Below wc.heap.size wc wx → wx.cell? ⟨w.heap.size, 0, none⟩ = some (.int .i64 last) ∧ wx.cell? ⟨w.heap.size, 1, none⟩ = some (.int .i64 hand) ∧ wx.cell? ⟨w.heap.size, 2, none⟩ = some (.slice ad had.length cd) ∧ wx.cell? ⟨w.heap.size + 1, 0, none⟩ = some (.int .i64 id) ∧ wx.cell? ⟨w.heap.size + 1, 1, none⟩ = some (.int .i64 mid) ∧ wx.cell? ⟨w.heap.size + 1, 2, none⟩ = some (.int .i64 came) ∧ wx.cell? ⟨w.heap.size + 1, 3, none⟩ = some (.int .i64 sent) ∧ wx.cell? ⟨w.heap.size + 1, 4, none⟩ = some (.int .i64 parts) ∧ wx.cell? ⟨w.heap.size + 1, 5, none⟩ = some (.int .i64 stream) ∧ wx.cell? ⟨w.heap.size + 1, 6, none⟩ = some (.bool ordered) ∧ wx.cell? ⟨w.heap.size + 1, 7, none⟩ = some (.int .i64 life) ∧ wx.cell? ⟨w.heap.size + 1, 8, none⟩ = some (.int .i64 tries) ∧ wx.cell? ⟨w.heap.size + 1, 9, none⟩ = some (.slice da dn dc) ∧ wx.cell? ⟨T, 0, none⟩ = some (.int .i64 ((had.length : Int) - 1)) ∧ wx.cell? ⟨T, 1, none⟩ = some (.int .i64 (-1)) ∧ wx.cell? ⟨T, 2, none⟩ = some (.slice (some ⟨O, 0, none⟩) had.length had.length) := fun wx hx => by
        have c1 := (CS.below BC lS).below hx (by have := BC.size; omega)
        have c2 := (CM.below BC (by omega)).below hx (by have := BC.size; omega)
        have c3 := CT.below hx hT
        exact ⟨c1.cell 0 _ rfl, c1.cell 1 _ rfl, c1.cell 2 _ rfl, c2.cell 0 _ rfl, c2.cell 1 _ rfl, c2.cell 2 _ rfl, c2.cell 3 _ rfl, c2.cell 4 _ rfl, c2.cell 5 _ rfl, c2.cell 6 _ rfl, c2.cell 7 _ rfl, c2.cell 8 _ rfl, c2.cell 9 _ rfl, c3.cell 0 _ rfl, c3.cell 1 _ rfl, c3.cell 2 _ rfl⟩
      have X0 := KX _ (Below.refl _ _)
      have BD : Below wc.heap.size wc wc.drew := drew_below _ _
      have WB : ∀ {wx}, Below wc.heap.size wc wx → Below w.heap.size w wx := fun h => BW.trans (h.mono BW.size)
      clear CS CM CT CO BC B0 y2 hz lS MK
      go_wp2_with fail
      go_region_held3 (fun wx => wx.cell? ⟨w.heap.size, 0, none⟩ = some (.int .i64 last) ∧ wx.cell? ⟨w.heap.size, 1, none⟩ = some (.int .i64 hand) ∧ wx.cell? ⟨w.heap.size, 2, none⟩ = some (.slice ad had.length cd) ∧ wx.cell? ⟨w.heap.size + 1, 0, none⟩ = some (.int .i64 id) ∧ wx.cell? ⟨w.heap.size + 1, 1, none⟩ = some (.int .i64 mid) ∧ wx.cell? ⟨w.heap.size + 1, 2, none⟩ = some (.int .i64 came) ∧ wx.cell? ⟨w.heap.size + 1, 3, none⟩ = some (.int .i64 sent) ∧ wx.cell? ⟨w.heap.size + 1, 4, none⟩ = some (.int .i64 parts) ∧ wx.cell? ⟨w.heap.size + 1, 5, none⟩ = some (.int .i64 stream) ∧ wx.cell? ⟨w.heap.size + 1, 6, none⟩ = some (.bool ordered) ∧ wx.cell? ⟨w.heap.size + 1, 7, none⟩ = some (.int .i64 life) ∧ wx.cell? ⟨w.heap.size + 1, 8, none⟩ = some (.int .i64 tries) ∧ wx.cell? ⟨w.heap.size + 1, 9, none⟩ = some (.slice da dn dc) ∧ wx.cell? ⟨T, 0, none⟩ = some (.int .i64 ((had.length : Int) - 1)) ∧ wx.cell? ⟨T, 1, none⟩ = some (.int .i64 (-1)) ∧ wx.cell? ⟨T, 2, none⟩ = some (.slice (some ⟨O, 0, none⟩) had.length had.length)) (first | exact X9 | exact X8 | exact X7 | exact X6 | exact X5 | exact X4 | exact X3 | exact X2 | exact X1 | exact X0) (first
        | (go_at_call 22; refine (NX _ (WB BD)).mono ?_; rintro e w1 ⟨k1, rfl, NI1, b1⟩; have B1 := BD.trans b1; have X1 := KX _ B1)
        | (go_at_call 23; refine (RN _ (WB B1)).mono ?_; rintro e w2 ⟨k2, rfl, NI2, b2⟩; obtain rfl := NI1.uniq NI2; have B2 := B1.trans (b2.mono B1.size); have X2 := KX _ B2)
        | (go_at_call 25; refine (HA _ (WB B2)).mono ?_; rintro e w3 ⟨x3, y3, a3, c3, n3, rfl, sd3, b3⟩; have B3 := B2.trans (b3.mono B2.size); have X3 := KX _ B3)
        | (go_at_call 26; refine (HR _ (WB B3)).mono ?_; rintro e w4 ⟨x4, y4, a4, c4, n4, rfl, sd4, b4⟩; have B4 := B3.trans (b4.mono B3.size); have X4 := KX _ B4; have SM1 := sameSched_any _ _ _ _ (sd3.size b4 (Nat.le_refl _)) sd4)
        | (go_at_call 24; refine SM1.mono ?_; rintro e w5 ⟨rfl, b5⟩; clear SM1; have B5 := B4.trans (b5.mono B4.size); have X5 := KX _ B5)
        | (go_at_call 27; refine (OW _ (WB B5)).mono ?_; rintro e w6 ⟨a6, c6, rfl, sd6, b6⟩; have B6 := B5.trans (b6.mono B5.size); have X6 := KX _ B6; have SM2 := sameSched_any _ _ _ _ sd6 (HS.size (WB B6) (Nat.le_refl _)))
        | (go_at_call 24; refine SM2.mono ?_; rintro e w7 ⟨rfl, b7⟩; clear SM2; have B7 := B6.trans (b7.mono B6.size); have X7 := KX _ B7)
        | (go_at_call 28; refine (NW _).mono ?_; rintro e w8 ⟨O8, rfl, sd8, b8⟩; have B8 := B7.trans (b8.mono B7.size); have X8 := KX _ B8; have SM3 := sameSched_any _ _ _ _ sd8 (FR.size B8 (Nat.le_refl _)))
        | (go_at_call 24; refine SM3.mono ?_; rintro e w9 ⟨rfl, b9⟩; clear SM3; have B9 := B8.trans (b9.mono B8.size); have X9 := KX _ B9))
      all_goals
        go_wp2_with fail
        go_ret
        exact ⟨ret_bool (by simp), WB B9⟩
end Go.Proofs.Ytnddejdndipddab
