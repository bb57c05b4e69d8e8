/- The contract of sched's Next. -/
import Derived.Test.YtnddejdndipddabScE
set_option maxRecDepth 20000
namespace Go.Proofs.Ytnddejdndipddab
open Go.RowKit

theorem next_none {turns last hand : Int} {had ids ss : List Int} (h : ss.length = 0 ∨ had.length = 0) : NextIs turns last hand had ids ss (-1) := by unfold NextIs; rw [if_pos h]
theorem next_hand {turns last hand : Int} {had ids ss : List Int} {i : Nat} (h : ¬ (ss.length = 0 ∨ had.length = 0)) (ht : turns = 2) (hi : FirstAt ids hand i) : NextIs turns last hand had ids ss i := by unfold NextIs; rw [if_neg h, if_pos ⟨ht, List.mem_of_getElem? hi.1⟩]; exact ⟨i, rfl, hi⟩
theorem next_round {turns last hand k : Int} {had ids ss : List Int} (h : ¬ (ss.length = 0 ∨ had.length = 0)) (ht : turns = 3 ∨ (turns = 2 ∧ hand ∉ ids)) (hf : Foremost had.length (fBehind last) ss k) : NextIs turns last hand had ids ss k := by
  unfold NextIs
  rw [if_neg h, if_neg (by rintro ⟨h1, h2⟩; rcases ht with h3 | h3; omega; exact h3.2 h2), if_pos (by omega)]
  exact hf
theorem next_rank {turns last hand k : Int} {had ids ss : List Int} (h : ¬ (ss.length = 0 ∨ had.length = 0)) (ht : turns = 4) (hf : Foremost had.length (fun _ => 0) ss k) : NextIs turns last hand had ids ss k := by
  unfold NextIs
  rw [if_neg h, if_neg (by omega), if_neg (by omega), if_pos ht]
  exact hf
theorem next_fair {turns last hand k : Int} {had ids ss : List Int} (h : ¬ (ss.length = 0 ∨ had.length = 0)) (ht : turns = 5) (hf : Foremost had.length (fFair had) ss k) : NextIs turns last hand had ids ss k := by
  unfold NextIs
  rw [if_neg h, if_neg (by omega), if_neg (by omega), if_neg (by omega), if_pos ht]
  exact hf
theorem next_else {turns last hand : Int} {had ids ss : List Int} (h : ¬ (ss.length = 0 ∨ had.length = 0)) (ht : turns < 2 ∨ 5 < turns) : NextIs turns last hand had ids ss 0 := by
  unfold NextIs
  rw [if_neg h, if_neg (by omega), if_neg (by omega), if_neg (by omega), if_neg (by omega)]

theorem foremost_behind (last hand : Int) (ad : Option Addr) (n cd X : Nat) (v : Value) (l : List Qd) (w : World) (hv : QdS w.heap.size w v l) (hc : w.cell? ⟨X, 0, none⟩ = some (.int .i64 last)) :
    Calls Try.prog 39 #[.agg #[.int .i64 last, .int .i64 hand, .slice ad n cd], v, .func (.func 61) #[] #[.pointer (some ⟨X, 0, none⟩)]] w fun e w' => ∃ k, e = .returned (.int .i64 k) ∧ Foremost n (fBehind last) (strs l) k ∧ Below w.heap.size w w' :=
  foremost_any _ _ _ last hand ad n cd v l w hv enters_behind fun a b wy _ _ hy => (behind_any X last a b wy ((hy.cell (p := ⟨X, 0, none⟩) (World.block_lt_of_cell? _ _ hc)).trans hc)).mono fun _ _ h => ⟨h.1, h.2 ▸ Below.refl _ _⟩
theorem foremost_fewer (last hand : Int) (ad : Option Addr) (cd X : Nat) (had : List Int) (v : Value) (l : List Qd) (w : World) (hv : QdS w.heap.size w v l) (hh : In w.heap.size w (.slice ad had.length cd) had) (hc : w.cell? ⟨X, 0, none⟩ = some (.slice ad had.length cd)) :
    Calls Try.prog 39 #[.agg #[.int .i64 last, .int .i64 hand, .slice ad had.length cd], v, .func (.func 62) #[] #[.pointer (some ⟨X, 0, none⟩)]] w fun e w' => ∃ k, e = .returned (.int .i64 k) ∧ Foremost had.length (fFair had) (strs l) k ∧ Below w.heap.size w w' :=
  foremost_any _ _ _ last hand ad had.length cd v l w hv enters_fewer fun a b wy ha hb hy => (fewer_any X w.heap.size _ had a b wy ((hy.cell (p := ⟨X, 0, none⟩) (World.block_lt_of_cell? _ _ hc)).trans hc) (hh.below hy (Nat.le_refl _)) ha hb).mono fun e w' h => ⟨h.1, by obtain ⟨n, rfl⟩ := h.2; exact ⟨rfl, rfl, rfl, Nat.le_refl _, fun _ _ => rfl⟩⟩
theorem foremost_rank (last hand : Int) (ad : Option Addr) (n cd : Nat) (v : Value) (l : List Qd) (w : World) (hv : QdS w.heap.size w v l) :
    Calls Try.prog 39 #[.agg #[.int .i64 last, .int .i64 hand, .slice ad n cd], v, .func (.func 41) #[] #[]] w fun e w' => ∃ k, e = .returned (.int .i64 k) ∧ Foremost n (fun _ => 0) (strs l) k ∧ Below w.heap.size w w' :=
  foremost_any _ _ _ last hand ad n cd v l w hv enters_rank fun a b wy _ _ _ => (rank_any a b wy).mono fun _ _ h => ⟨h.1, h.2 ▸ Below.refl _ _⟩

set_option maxHeartbeats 2000000 in
theorem next_any (turns : Int) (vs v : Value) (s : Sd) (l : List Qd) (w : World) (hs : SdV w.heap.size w vs s) (hv : QdS w.heap.size w v l) :
    Calls Try.prog 22 #[.int .i64 turns, vs, v] w fun e w' => ∃ k, e = .returned (.int .i64 k) ∧ NextIs turns s.last s.hand s.had (idsQ l) (strs l) k ∧ Below w.heap.size w w' := by
  have HV := hv
  obtain ⟨a, cap, rfl, h1, h2⟩ := hv.ex
  obtain ⟨d, rfl, hd⟩ := hs
  have HD := hd
  obtain ⟨ad, cd, rfl, -, -⟩ := hd.ex
  obtain ⟨last, hand, had⟩ := s
  simp only at HD ⊢
  have hl := strs_len l
  have B0 := box_below w (.cells #[.int .i64 last, .int .i64 hand, .slice ad had.length cd] 51)
  by_cases e0 : l.length = 0
  · have NX : NextIs turns last hand had (idsQ l) (strs l) (-1) := next_none (.inl (by omega))
    have el : ((l.length : Int) == 0) = true := by simp [e0]
    clear hl e0
    go_enter Try.func22, Try.ntmps22
    go_wp2_with fail
    go_ret
    exact ⟨_, rfl, NX, B0⟩
  · by_cases e1 : had.length = 0
    · have NX : NextIs turns last hand had (idsQ l) (strs l) (-1) := next_none (.inr e1)
      have el : ((l.length : Int) == 0) = false := by rw [beq_eq_false_iff_ne]; omega
      have em : ((had.length : Int) == 0) = true := by simp [e1]
      clear hl e0 e1
      go_enter Try.func22, Try.ntmps22
      go_wp2_with fail
      go_ret
      exact ⟨_, rfl, NX, B0⟩
    · have HNO : Hid (¬ ((strs l).length = 0 ∨ had.length = 0)) := by show ¬ _; omega
      have el : ((l.length : Int) == 0) = false := by rw [beq_eq_false_iff_ne]; omega
      have em : ((had.length : Int) == 0) = false := by rw [beq_eq_false_iff_ne]; omega
      clear hl e0 e1
      have CX := Cells.new w #[.int .i64 last, .int .i64 hand, .slice ad had.length cd] 51
      have HV0 : QdS (w.alloc (.cells #[.int .i64 last, .int .i64 hand, .slice ad had.length cd] 51)).heap.size (w.alloc (.cells #[.int .i64 last, .int .i64 hand, .slice ad had.length cd] 51)) (.slice a l.length cap) l := SlG.size QdV.bears HV B0 (Nat.le_refl _)
      have HD0 := HD.size B0 (Nat.le_refl _)
      have hz : w.heap.size < (w.alloc (.cells #[.int .i64 last, .int .i64 hand, .slice ad had.length cd] 51)).heap.size := by simp
      have KX : ∀ wx, Below (w.alloc (.cells #[.int .i64 last, .int .i64 hand, .slice ad had.length cd] 51)).heap.size (w.alloc (.cells #[.int .i64 last, .int .i64 hand, .slice ad had.length cd] 51)) wx → wx.cell? ⟨w.heap.size, 0, none⟩ = some (.int .i64 last) ∧ wx.cell? ⟨w.heap.size, 1, none⟩ = some (.int .i64 hand) ∧ wx.cell? ⟨w.heap.size, 2, none⟩ = some (.slice ad had.length cd) := fun wx hx => by
        have h := CX.below hx hz
        exact ⟨h.cell 0 _ rfl, h.cell 1 _ rfl, h.cell 2 _ rfl⟩
      have X0 := KX _ (Below.refl _ _)
      clear hd HD hv HV
      by_cases t2 : turns = 2
      · subst t2
        have g2 : ((2 : Int) == 2) = true := rfl
        have IH := inHand_any last hand ad had.length cd _ l _ HV0
        have c0 := X0.1
        have c1 := X0.2.1
        have c2 := X0.2.2
        go_enter Try.func22, Try.ntmps22
        go_wp2_with fail
        refine IH.mono ?_
        rintro e w2 ⟨k, rfl, FI, b2⟩
        have B2 := B0.trans (b2.mono B0.size)
        rcases FI with ⟨rfl, hni⟩ | ⟨i, rfl, hfi⟩
        · have X3 := KX _ b2
          have HV2 := SlG.size QdV.bears HV0 b2 (Nat.le_refl _)
          have HNI : Hid (hand ∉ idsQ l) := hni
          have KX2 : ∀ wx, Below w2.heap.size w2 wx → wx.cell? ⟨w.heap.size, 0, none⟩ = some (.int .i64 last) ∧ wx.cell? ⟨w.heap.size, 1, none⟩ = some (.int .i64 hand) ∧ wx.cell? ⟨w.heap.size, 2, none⟩ = some (.slice ad had.length cd) := fun wx hx => KX _ (b2.trans (hx.mono b2.size))
          clear c0 c1 c2 X0 KX IH HV0 HD0 CX hz hni b2
          have X0 := X3
          clear X3
          go_wp2_with fail
          go_region_held3 (fun w' => w'.cell? ⟨w.heap.size, 0, none⟩ = some (.int .i64 last) ∧ w'.cell? ⟨w.heap.size, 1, none⟩ = some (.int .i64 hand) ∧ w'.cell? ⟨w.heap.size, 2, none⟩ = some (.slice ad had.length cd)) (first | exact X0 | exact X1 | exact X2) (first
            | (go_at_call 40; refine (mkBehind_any _ _).mono ?_; rintro e w3 ⟨rfl, rfl⟩; have B1 : Below w2.heap.size w2 (w2.drew.alloc (.cells #[.int .i64 last] 3)) := (drew_below _ w2).trans (box_below w2.drew _); have X1 := KX2 _ B1; have C1 : (w2.drew.alloc (.cells #[.int .i64 last] 3)).cell? ⟨w2.drew.heap.size, 0, none⟩ = some (.int .i64 last) := (Cells.new w2.drew #[.int .i64 last] 3).cell 0 _ rfl)
            | (go_at_call 39; refine (foremost_behind _ _ _ _ _ _ _ l _ (SlG.size QdV.bears HV2 B1 (Nat.le_refl _)) C1).mono ?_; rintro e w4 ⟨k, rfl, FO, b4⟩; have B4 := B1.trans (b4.mono B1.size); have X2 := KX2 _ B4))
          all_goals
            go_wp2_with fail
            go_ret
            exact ⟨_, rfl, next_round HNO.out (.inr ⟨rfl, HNI.out⟩) FO, B2.trans (B4.mono B2.size)⟩
        · have gi : ((i : Int) != -1) = true := by simp
          have gi2 : ((i : Int) == -1) = false := by simp
          have NX : NextIs 2 last hand had (idsQ l) (strs l) (i : Int) := next_hand HNO.out rfl hfi
          clear KX X0 c0 c1 c2
          go_wp2_with fail
          go_ret
          exact ⟨_, rfl, NX, B2⟩
      · by_cases t3 : turns = 3
        · subst t3
          have g2 : ((3 : Int) == 2) = false := rfl
          have g3 : ((3 : Int) == 3) = true := rfl
          go_enter Try.func22, Try.ntmps22
          go_wp2_with fail
          generalize (w.alloc (.cells #[.int .i64 last, .int .i64 hand, .slice ad had.length cd] 51)) = w0 at *
          go_region_held3 (fun w' => w'.cell? ⟨w.heap.size, 0, none⟩ = some (.int .i64 last) ∧ w'.cell? ⟨w.heap.size, 1, none⟩ = some (.int .i64 hand) ∧ w'.cell? ⟨w.heap.size, 2, none⟩ = some (.slice ad had.length cd)) (first | exact X0 | exact X1 | exact X2) (first
            | (go_at_call 40; refine (mkBehind_any _ _).mono ?_; rintro e w1 ⟨rfl, rfl⟩; have B1 : Below w0.heap.size w0 (w0.drew.alloc (.cells #[.int .i64 last] 3)) := (drew_below _ w0).trans (box_below w0.drew _); have X1 := KX _ B1; have C1 : (w0.drew.alloc (.cells #[.int .i64 last] 3)).cell? ⟨w0.drew.heap.size, 0, none⟩ = some (.int .i64 last) := (Cells.new w0.drew #[.int .i64 last] 3).cell 0 _ rfl)
            | (go_at_call 39; refine (foremost_behind _ _ _ _ _ _ _ l _ (SlG.size QdV.bears HV0 B1 (Nat.le_refl _)) C1).mono ?_; rintro e w2 ⟨k, rfl, FO, b2⟩; have B2 := B1.trans (b2.mono B1.size); have X2 := KX _ B2))
          all_goals
            go_wp2_with fail
            go_ret
            exact ⟨_, rfl, next_round HNO.out (.inl rfl) FO, B0.trans (B2.mono B0.size)⟩
        · by_cases t4 : turns = 4
          · subst t4
            have g2 : ((4 : Int) == 2) = false := rfl
            have g3 : ((4 : Int) == 3) = false := rfl
            have g4 : ((4 : Int) == 4) = true := rfl
            have FR := foremost_rank last hand ad had.length cd _ l _ HV0
            have c0 := X0.1
            have c1 := X0.2.1
            have c2 := X0.2.2
            go_enter Try.func22, Try.ntmps22
            go_wp2_with fail
            refine FR.mono ?_
            rintro e w2 ⟨k, rfl, FO, b2⟩
            have B2 := B0.trans (b2.mono B0.size)
            go_wp2_with fail
            go_ret
            exact ⟨_, rfl, next_rank HNO.out rfl FO, B2⟩
          · by_cases t5 : turns = 5
            · subst t5
              have g2 : ((5 : Int) == 2) = false := rfl
              have g3 : ((5 : Int) == 3) = false := rfl
              have g4 : ((5 : Int) == 4) = false := rfl
              have g5 : ((5 : Int) == 5) = true := rfl
              go_enter Try.func22, Try.ntmps22
              go_wp2_with fail
              generalize (w.alloc (.cells #[.int .i64 last, .int .i64 hand, .slice ad had.length cd] 51)) = w0 at *
              go_region_held3 (fun w' => w'.cell? ⟨w.heap.size, 0, none⟩ = some (.int .i64 last) ∧ w'.cell? ⟨w.heap.size, 1, none⟩ = some (.int .i64 hand) ∧ w'.cell? ⟨w.heap.size, 2, none⟩ = some (.slice ad had.length cd)) (first | exact X0 | exact X1 | exact X2) (first
                | (go_at_call 42; refine (mkFewer_any _ _ _ _).mono ?_; rintro e w1 ⟨rfl, rfl⟩; have B1 : Below w0.heap.size w0 (w0.drew.alloc (.cells #[.slice ad had.length cd] 49)) := (drew_below _ w0).trans (box_below w0.drew _); have X1 := KX _ B1; have C1 : (w0.drew.alloc (.cells #[.slice ad had.length cd] 49)).cell? ⟨w0.drew.heap.size, 0, none⟩ = some (.slice ad had.length cd) := (Cells.new w0.drew #[.slice ad had.length cd] 49).cell 0 _ rfl)
                | (go_at_call 39; refine (foremost_fewer _ _ _ _ _ _ _ l _ (SlG.size QdV.bears HV0 B1 (Nat.le_refl _)) (HD0.size B1 (Nat.le_refl _)) C1).mono ?_; rintro e w2 ⟨k, rfl, FO, b2⟩; have B2 := B1.trans (b2.mono B1.size); have X2 := KX _ B2))
              all_goals
                go_wp2_with fail
                go_ret
                exact ⟨_, rfl, next_fair HNO.out rfl FO, B0.trans (B2.mono B0.size)⟩
            · have NX : NextIs turns last hand had (idsQ l) (strs l) 0 := by
                unfold NextIs
                rw [if_neg HNO.out, if_neg (by omega), if_neg (by omega), if_neg (by omega), if_neg (by omega)]
              have g2 : (turns == 2) = false := by simpa using t2
              have g3 : (turns == 3) = false := by simpa using t3
              have g4 : (turns == 4) = false := by simpa using t4
              have g5 : (turns == 5) = false := by simpa using t5
              go_enter Try.func22, Try.ntmps22
              go_wp2_with fail
              go_ret
              exact ⟨_, rfl, NX, B0⟩
end Go.Proofs.Ytnddejdndipddab
