/- The document's Waits, SameSched and Had. -/
import Derived.Test.YtnddejdndipddabScF
set_option maxRecDepth 20000
namespace Go.Proofs.Ytnddejdndipddab
open Go.RowKit

set_option maxHeartbeats 1000000 in
theorem waits_any (v : Value) (l : List Qd) (x : Int) (w : World) (hv : QdS w.heap.size w v l) :
    Calls Try.prog 43 #[v, .int .i64 x] w fun e w' => ∃ k, e = .returned (.int .i64 k) ∧ FindIs (strs l) x k ∧ Below w.heap.size w w' := by
  have HV := hv
  obtain ⟨a, cap, rfl, h1, h2⟩ := hv.ex
  go_enter Try.func43, Try.ntmps43
  go_wp2_with fail
  go_loopw [9] (fun i wr => ∃ k : Nat, k ≤ l.length ∧ i = .int .i64 k ∧ (∀ j : Nat, j < k → (strs l)[j]? ≠ some x) ∧ Below w.heap.size w wr) (fun i _ => l.length - (intOf i).toNat)
  case atStart => exact ⟨0, Nat.zero_le _, rfl, fun j hj => by omega, Below.refl _ _⟩
  case round =>
    obtain ⟨k, hk, rfl, hno, BR⟩ := hrel
    have HNO : Hid (∀ j : Nat, j < k → (strs l)[j]? ≠ some x) := hno
    clear hno
    by_cases hlt : k < l.length
    · obtain ⟨b, off, da, dn, dc, hb, hix, x0, x1, x2, x3, x4, x5, x6, x7, x8, x9⟩ := QdS.at (SlG.below QdV.bears HV BR (Nat.le_refl _)) k hlt
      have HID : Hid ((strs l)[k]? = some l[k].stream) := strs_get hlt
      have HR := fun o => BR.alloc BR.size o
      generalize l[k] = q at *
      cases hq : (q.stream == x) with
      | true =>
        have FI : FindIs (strs l) x (k : Int) := find_some HNO.out (by rw [HID.out]; simpa using hq)
        go_wp2_with fail
        go_ret
        exact ⟨_, rfl, FI, HR _⟩
      | false =>
        have HN2 : Hid (∀ j : Nat, j < k + 1 → (strs l)[j]? ≠ some x) := fun j hj => by
          by_cases e : j = k
          · subst e; rw [HID.out]; simpa using hq
          · exact HNO.out j (by omega)
        go_wp2_with fail
        go_roundw
        case rel => exact ⟨k + 1, by omega, by go_num, HN2.out, HR _⟩
        case measure => simp [intOf]; omega
    · have hkl : k = l.length := by omega
      subst hkl
      have FI : FindIs (strs l) x (-1) := find_none fun j hj => HNO.out j (by simpa [strs] using hj)
      go_wp2_with fail
      go_ret
      exact ⟨_, rfl, FI, BR⟩

set_option maxHeartbeats 1000000 in
theorem sameSched_any (v v' : Value) (s : Sd) (w : World) (hv : SdV w.heap.size w v s) (hv' : SdV w.heap.size w v' s) :
    Calls Try.prog 24 #[v, v'] w fun e w' => e = .returned (.bool true) ∧ Below w.heap.size w w' := by
  obtain ⟨d, rfl, hd⟩ := hv
  obtain ⟨d', rfl, hd'⟩ := hv'
  have HD := hd
  have HD' := hd'
  obtain ⟨a1, c1, rfl, m1, m2⟩ := hd.ex
  obtain ⟨a2, c2, rfl, -, -⟩ := hd'.ex
  obtain ⟨last, hand, had⟩ := s
  simp only at HD HD' m1 ⊢
  have B0 := two_below w (.cells #[.int .i64 last, .int .i64 hand, .slice a1 had.length c1] 51) (.cells #[.int .i64 last, .int .i64 hand, .slice a2 had.length c2] 51)
  have C1 : Cells w.heap.size ((w.alloc (.cells #[.int .i64 last, .int .i64 hand, .slice a1 had.length c1] 51)).alloc (.cells #[.int .i64 last, .int .i64 hand, .slice a2 had.length c2] 51)) [.int .i64 last, .int .i64 hand, .slice a1 had.length c1] := (Cells.new w #[.int .i64 last, .int .i64 hand, .slice a1 had.length c1] 51).alloc (by simp) _
  have C2 : Cells (w.heap.size + 1) ((w.alloc (.cells #[.int .i64 last, .int .i64 hand, .slice a1 had.length c1] 51)).alloc (.cells #[.int .i64 last, .int .i64 hand, .slice a2 had.length c2] 51)) [.int .i64 last, .int .i64 hand, .slice a2 had.length c2] := Cells.new' #[.int .i64 last, .int .i64 hand, .slice a2 had.length c2] 51 (by simp)
  have hz : ((w.alloc (.cells #[.int .i64 last, .int .i64 hand, .slice a1 had.length c1] 51)).alloc (.cells #[.int .i64 last, .int .i64 hand, .slice a2 had.length c2] 51)).heap.size = w.heap.size + 2 := by simp
  go_enter Try.func24, Try.ntmps24
  go_wp2_with fail
  generalize ((w.alloc (.cells #[.int .i64 last, .int .i64 hand, .slice a1 had.length c1] 51)).alloc (.cells #[.int .i64 last, .int .i64 hand, .slice a2 had.length c2] 51)) = w0 at *
  go_loopw [30] (fun i wr => ∃ k : Nat, k ≤ had.length ∧ i = .int .i64 k ∧ Below w0.heap.size w0 wr) (fun i _ => had.length - (intOf i).toNat)
  case atStart => exact ⟨0, Nat.zero_le _, rfl, Below.refl _ _⟩
  case round =>
    obtain ⟨k, hk, rfl, BR⟩ := hrel
    have BW := B0.trans (BR.mono B0.size)
    by_cases hlt : k < had.length
    · have y1 := (C1.below BR (by omega)).cell 2 _ rfl
      have y2 := (C2.below BR (by omega)).cell 2 _ rfl
      obtain ⟨b1, o1, hb1, hi1, hc1⟩ := (HD.below BW (Nat.le_refl _)).at k hlt
      obtain ⟨b2, o2, hb2, hi2, hc2⟩ := (HD'.below BW (Nat.le_refl _)).at k hlt
      generalize had[k] = z at *
      go_wp2_with fail
      go_quiet (fail)
      go_wp2_with fail
      exact ⟨⟨k + 1, by omega, by go_num, below_drewN BR _⟩, by simp [intOf]; omega⟩
    · have hkl : k = had.length := by omega
      subst hkl
      go_wp2_with fail
      go_ret
      exact ⟨rfl, BW⟩

/-- A struct's value. -/
def IsAg (v : Value) : Prop := ∃ x y a n c, v = .agg #[.int .i64 x, .int .i64 y, .slice a n c]
/-- One number more in a row of the call's own. -/
theorem int_app {wr : World} {base k : Nat} {a : Option Addr} {c : Nat} {xs : List Int} {z : Int} (own : wr.ownsRow base 3 1 (.slice a k c) k (cellsI xs)) (hb : base ≤ wr.heap.size) (o : Obj) {v' : Value} {w' : World}
    (ho : w'.ownsRow base 3 1 v' (k + 1) (cellsI xs ++ [.int .i64 z])) (hg : (wr.alloc o).grownBy w' (Value.slice a k c).ownBlock) : w'.ownsRow base 3 1 v' (k + 1) (cellsI (xs ++ [z])) ∧ Below base wr w' ∧ base ≤ w'.heap.size := by
  have hs := hg.size
  have hz : (wr.alloc o).heap.size = wr.heap.size + 1 := by simp
  refine ⟨by rw [cellsI_append]; exact ho, ?_, by omega⟩
  exact ((Below.refl base wr).alloc hb o).grown hg (by omega) fun j hj => (own.lt j hj).1

theorem hadL_get {had : List Int} {stream bytes : Int} {k : Nat} (h : k < had.length) : (hadL had stream bytes)[k]? = some (if (k : Int) = stream then wrap64 (had[k] + bytes) else had[k]) := by
  by_cases hs : isSt had.length stream
  · rw [hadL, if_pos hs]
    by_cases e : (k : Int) = stream
    · have : stream.toNat = k := by omega
      rw [if_pos e, this, List.getElem?_set_self h, List.getD_eq_getElem?_getD, List.getElem?_eq_getElem h]
      rfl
    · rw [if_neg e, List.getElem?_set_ne (by have := hs.1; omega), List.getElem?_eq_getElem h]
  · rw [hadL, if_neg hs, if_neg (fun e => hs ⟨by omega, by omega⟩), List.getElem?_eq_getElem h]
theorem take_next {α : Type} {l : List α} {k : Nat} {x : α} (h : l[k]? = some x) : l.take (k + 1) = l.take k ++ [x] := by
  rw [List.take_add_one, h]; rfl
theorem hadL_isI {had : List Int} {stream bytes : Int} (h : IsI had) : IsI (hadL had stream bytes) := by
  unfold hadL
  split
  · exact h.set _ (wrap64_I64 _)
  · exact h

/-- The numbers so far, in a field of block O. -/
structure RhSt (w0 : World) (O : Nat) (st hd : Int) (L : List Int) (k : Nat) (a : Option Addr) (c : Nat) (wr : World) : Prop where
  bel : Below O w0 wr
  o : Cells O wr [.int .i64 st, .int .i64 hd, .slice a k c]
  own : wr.ownsRow (O + 1) 3 1 (.slice a k c) k (cellsI (L.take k))
  sz : O + 1 ≤ wr.heap.size
theorem RhSt.start {w0 : World} {st hd : Int} {L : List Int} {O : Nat} (hO : w0.heap.size = O) : RhSt w0 O st hd L 0 none 0 (w0.alloc (.cells #[.int .i64 st, .int .i64 hd, .slice none 0 0] 51)) := by
  subst hO
  exact ⟨box_below w0 _, Cells.new w0 #[.int .i64 st, .int .i64 hd, .slice none 0 0] 51, ⟨by simp [cellsI], .inl ⟨rfl, rfl⟩⟩, by simp⟩
theorem RhSt.step {w0 : World} {O : Nat} {st hd : Int} {L : List Int} {k : Nat} {a : Option Addr} {c : Nat} {wr : World} (f : RhSt w0 O st hd L k a c wr) {z : Int} (hz : L[k]? = some z) {v' : Value} {w' : World}
    (ho : w'.ownsRow (O + 1) 3 1 v' (k + 1) (cellsI (L.take k) ++ [.int .i64 z])) (hg : (wr.alloc (.cells #[.int .i64 z] 3)).grownBy w' (Value.slice a k c).ownBlock) :
    ∃ a' c', v' = .slice a' (k + 1) c' ∧ w'.cell? ⟨O, 2, none⟩ = some (.slice a k c) ∧ w'.frozen? ⟨O, 2, none⟩ = false ∧ RhSt w0 O st hd L (k + 1) a' c' (w'.setCell ⟨O, 2, none⟩ (.slice a' (k + 1) c')) := by
  obtain ⟨a', c', rfl⟩ := own_form ho
  obtain ⟨o1, b1, s1⟩ := int_app f.own f.sz _ ho hg
  have co := f.o.below b1 (by omega)
  refine ⟨a', c', rfl, co.cell 2 _ rfl, co.fz 2, ⟨(f.bel.trans (b1.mono (by omega))).setCell (Nat.le_refl _) _, co.set 2 _ (by simp), ?_, by simp; omega⟩⟩
  rw [take_next hz]
  exact own_set o1 (by show O < O + 1; omega) _

set_option maxHeartbeats 2000000 in
theorem rhad_any (v : Value) (s : Sd) (q : Qd) (da : Option Addr) (dn dc : Nat) (bytes : Int) (over : Bool) (w : World) (hv : SdV w.heap.size w v s) (hl : s.had.length ≤ 1048576) :
    Calls Try.prog 26 #[v, qdVal q (.slice da dn dc), .int .i64 bytes, .bool over] w fun e w' => ∃ v', e = .returned v' ∧ SdV w'.heap.size w' v' (hadM s q bytes over) ∧ IsAg v' ∧ Below w.heap.size w w' := by
  obtain ⟨d, rfl, hd⟩ := hv
  have HD := hd
  obtain ⟨ad, cd, rfl, -, -⟩ := hd.ex
  obtain ⟨last, hand, had⟩ := s
  obtain ⟨id, mid, came, sent, parts, stream, ordered, life, tries⟩ := q
  simp only [qdVal] at HD hl ⊢
  have HI := HD.2
  have B0 : Below w.heap.size w (((w.alloc (.cells #[.int .i64 last, .int .i64 hand, .slice ad had.length cd] 51)).alloc (.cells #[.int .i64 id, .int .i64 mid, .int .i64 came, .int .i64 sent, .int .i64 parts, .int .i64 stream, .bool ordered, .int .i64 life, .int .i64 tries, .slice da dn dc] 56)).alloc (.cells #[.int .i64 0, .int .i64 0, .slice none 0 0] 51)) := (two_below w _ _).alloc (by simp; omega) _
  have CS : Cells w.heap.size (((w.alloc (.cells #[.int .i64 last, .int .i64 hand, .slice ad had.length cd] 51)).alloc (.cells #[.int .i64 id, .int .i64 mid, .int .i64 came, .int .i64 sent, .int .i64 parts, .int .i64 stream, .bool ordered, .int .i64 life, .int .i64 tries, .slice da dn dc] 56)).alloc (.cells #[.int .i64 0, .int .i64 0, .slice none 0 0] 51)) [.int .i64 last, .int .i64 hand, .slice ad had.length cd] := ((Cells.new w #[.int .i64 last, .int .i64 hand, .slice ad had.length cd] 51).alloc (by simp) _).alloc (by simp; omega) _
  have CQ : Cells (w.heap.size + 1) (((w.alloc (.cells #[.int .i64 last, .int .i64 hand, .slice ad had.length cd] 51)).alloc (.cells #[.int .i64 id, .int .i64 mid, .int .i64 came, .int .i64 sent, .int .i64 parts, .int .i64 stream, .bool ordered, .int .i64 life, .int .i64 tries, .slice da dn dc] 56)).alloc (.cells #[.int .i64 0, .int .i64 0, .slice none 0 0] 51)) [.int .i64 id, .int .i64 mid, .int .i64 came, .int .i64 sent, .int .i64 parts, .int .i64 stream, .bool ordered, .int .i64 life, .int .i64 tries, .slice da dn dc] := (Cells.new' #[.int .i64 id, .int .i64 mid, .int .i64 came, .int .i64 sent, .int .i64 parts, .int .i64 stream, .bool ordered, .int .i64 life, .int .i64 tries, .slice da dn dc] 56 (by simp)).alloc (by simp) _
  have CR : Cells (w.heap.size + 1 + 1) (((w.alloc (.cells #[.int .i64 last, .int .i64 hand, .slice ad had.length cd] 51)).alloc (.cells #[.int .i64 id, .int .i64 mid, .int .i64 came, .int .i64 sent, .int .i64 parts, .int .i64 stream, .bool ordered, .int .i64 life, .int .i64 tries, .slice da dn dc] 56)).alloc (.cells #[.int .i64 0, .int .i64 0, .slice none 0 0] 51)) [.int .i64 0, .int .i64 0, .slice none 0 0] := Cells.new' #[.int .i64 0, .int .i64 0, .slice none 0 0] 51 (by simp)
  have hz : (((w.alloc (.cells #[.int .i64 last, .int .i64 hand, .slice ad had.length cd] 51)).alloc (.cells #[.int .i64 id, .int .i64 mid, .int .i64 came, .int .i64 sent, .int .i64 parts, .int .i64 stream, .bool ordered, .int .i64 life, .int .i64 tries, .slice da dn dc] 56)).alloc (.cells #[.int .i64 0, .int .i64 0, .slice none 0 0] 51)).heap.size = w.heap.size + 1 + 1 + 1 := by simp
  have ii : IsI (hadL had stream bytes) := hadL_isI HI
  have ll := hadL_len had stream bytes
  have HL : Hid ((hadL had stream bytes).length = had.length) := ll
  clear ll
  cases over with
  | false =>
    go_enter Try.func26, Try.ntmps26
    go_wp2_with fail
    generalize (((w.alloc (.cells #[.int .i64 last, .int .i64 hand, .slice ad had.length cd] 51)).alloc (.cells #[.int .i64 id, .int .i64 mid, .int .i64 came, .int .i64 sent, .int .i64 parts, .int .i64 stream, .bool ordered, .int .i64 life, .int .i64 tries, .slice da dn dc] 56)).alloc (.cells #[.int .i64 0, .int .i64 0, .slice none 0 0] 51)) = w0 at *
    go_loopw [23] (fun i wr => ∃ (k : Nat) (a : Option Addr) (c : Nat), k ≤ had.length ∧ i = .int .i64 k ∧ RhSt w0 (w.heap.size + 1 + 1 + 1) stream id (hadL had stream bytes) k a c wr) (fun i _ => had.length - (intOf i).toNat)
    case atStart => exact ⟨0, none, 0, Nat.zero_le _, rfl, RhSt.start hz⟩
    case round =>
      obtain ⟨k, a, c, hk, rfl, RS⟩ := hrel
      have hsz := RS.sz
      by_cases hlt : k < had.length
      · have q5 := (CQ.below RS.bel (by omega)).cell 5 _ rfl
        have o2 := RS.o.cell 2 _ rfl
        have lO : w.heap.size + 1 + 1 + 1 < wr.heap.size := by omega
        obtain ⟨b1, o1, hb1, hi1, hc1⟩ := (HD.below (B0.trans (RS.bel.mono (by omega))) (Nat.le_refl _)).at k hlt
        have HG := hadL_get (stream := stream) (bytes := bytes) hlt
        generalize had[k] = hk1 at *
        cases e : ((k : Int) == stream) with
        | true =>
          rw [if_pos (by simpa using e)] at HG
          have ST := fun v' w' => RS.step HG (v' := v') (w' := w')
          have own2 := RS.own.alloc (.cells #[.int .i64 (wrap64 (hk1 + bytes))] 3)
          clear RS HG
          go_wp2_with (at_builtin; refine wpList_append_rw Try.underlying49 Try.info3 rfl (by decide) _ rfl (.tmp 37) (.tmp 39) rfl (w.heap.size + 1 + 1 + 1 + 1) (.slice a k c) k _ rfl own2 _ 1 [.int .i64 (wrap64 (hk1 + bytes))] _ rfl (Rw.lit1 _ _ _) (by intro u hu; simp at hu; subst hu; rfl) (by unfold maxLen; omega) (by omega) (by simp; omega) ?_; intro v3 w3 own3 grow3 at3; obtain ⟨a3, c3, rfl, x3, f3, R3⟩ := ST v3 w3 own3 grow3; clear own3 grow3 at3)
          go_roundw
          case rel => exact ⟨k + 1, a3, c3, by omega, by go_num, R3⟩
          case measure => simp [intOf]; omega
        | false =>
          rw [if_neg (by simpa using e)] at HG
          have ST := fun v' w' => RS.step HG (v' := v') (w' := w')
          have own2 := RS.own.alloc (.cells #[.int .i64 hk1] 3)
          clear RS HG
          go_wp2_with (at_builtin; refine wpList_append_rw Try.underlying49 Try.info3 rfl (by decide) _ rfl (.tmp 37) (.tmp 39) rfl (w.heap.size + 1 + 1 + 1 + 1) (.slice a k c) k _ rfl own2 _ 1 [.int .i64 hk1] _ rfl (Rw.lit1 _ _ _) (by intro u hu; simp at hu; subst hu; rfl) (by unfold maxLen; omega) (by omega) (by simp; omega) ?_; intro v3 w3 own3 grow3 at3; obtain ⟨a3, c3, rfl, x3, f3, R3⟩ := ST v3 w3 own3 grow3; clear own3 grow3 at3)
          go_roundw
          case rel => exact ⟨k + 1, a3, c3, by omega, by go_num, R3⟩
          case measure => simp [intOf]; omega
      · have hkl : k = had.length := by omega
        subst hkl
        have o0 := RS.o.cell 0 _ rfl
        have o1 := RS.o.cell 1 _ rfl
        have o2 := RS.o.cell 2 _ rfl
        have CR1 := CR.below RS.bel (by omega)
        have r0 := CR1.cell 0 _ rfl
        have r1 := CR1.cell 1 _ rfl
        have r2 := CR1.cell 2 _ rfl
        have f0 := CR1.fz 0
        have f1 := CR1.fz 1
        have f2 := CR1.fz 2
        have n1 : ¬ w.heap.size + 1 + 1 = w.heap.size + 1 + 1 + 1 := by omega
        have n2 : ¬ w.heap.size + 1 + 1 + 1 = w.heap.size + 1 + 1 := by omega
        have own := RS.own
        rw [List.take_of_length_le (by rw [HL.out]; exact Nat.le_refl _)] at own
        have BE := B0.trans (RS.bel.mono (by omega))
        clear RS
        go_wp2_with fail
        have CE := ((CR1.set 0 (.int .i64 stream) (by simp)).set 1 (.int .i64 id) (by simp)).set 2 (.slice a had.length c) (by simp)
        have z0 := CE.cell 0 _ rfl
        have z1 := CE.cell 1 _ rfl
        have z2 := CE.cell 2 _ rfl
        refine bodyPost_ret (v := .agg #[.int .i64 stream, .int .i64 id, .slice a had.length c]) (by simp [results, Try.results26, go_sem, z0, z1, z2]) rfl ⟨_, rfl, ⟨_, rfl, ?_⟩, ⟨_, _, _, _, _, rfl⟩, ?_⟩
        · exact In.own (own_set (own_set (own_set own (by show _ + 1 + 1 < _; omega) _) (by show _ + 1 + 1 < _; omega) _) (by show _ + 1 + 1 < _; omega) _) HL.out.symm ii
        · exact ((BE.setCell (by show _ ≤ _ + 1 + 1; omega) _).setCell (by show _ ≤ _ + 1 + 1; omega) _).setCell (by show _ ≤ _ + 1 + 1; omega) _
  | true =>
    go_enter Try.func26, Try.ntmps26
    go_wp2_with fail
    generalize (((w.alloc (.cells #[.int .i64 last, .int .i64 hand, .slice ad had.length cd] 51)).alloc (.cells #[.int .i64 id, .int .i64 mid, .int .i64 came, .int .i64 sent, .int .i64 parts, .int .i64 stream, .bool ordered, .int .i64 life, .int .i64 tries, .slice da dn dc] 56)).alloc (.cells #[.int .i64 0, .int .i64 0, .slice none 0 0] 51)) = w0 at *
    go_loopw [23] (fun i wr => ∃ (k : Nat) (a : Option Addr) (c : Nat), k ≤ had.length ∧ i = .int .i64 k ∧ RhSt w0 (w.heap.size + 1 + 1 + 1) stream (-1) (hadL had stream bytes) k a c wr) (fun i _ => had.length - (intOf i).toNat)
    case atStart => exact ⟨0, none, 0, Nat.zero_le _, rfl, RhSt.start hz⟩
    case round =>
      obtain ⟨k, a, c, hk, rfl, RS⟩ := hrel
      have hsz := RS.sz
      by_cases hlt : k < had.length
      · have q5 := (CQ.below RS.bel (by omega)).cell 5 _ rfl
        have o2 := RS.o.cell 2 _ rfl
        have lO : w.heap.size + 1 + 1 + 1 < wr.heap.size := by omega
        obtain ⟨b1, o1, hb1, hi1, hc1⟩ := (HD.below (B0.trans (RS.bel.mono (by omega))) (Nat.le_refl _)).at k hlt
        have HG := hadL_get (stream := stream) (bytes := bytes) hlt
        generalize had[k] = hk1 at *
        cases e : ((k : Int) == stream) with
        | true =>
          rw [if_pos (by simpa using e)] at HG
          have ST := fun v' w' => RS.step HG (v' := v') (w' := w')
          have own2 := RS.own.alloc (.cells #[.int .i64 (wrap64 (hk1 + bytes))] 3)
          clear RS HG
          go_wp2_with (at_builtin; refine wpList_append_rw Try.underlying49 Try.info3 rfl (by decide) _ rfl (.tmp 37) (.tmp 39) rfl (w.heap.size + 1 + 1 + 1 + 1) (.slice a k c) k _ rfl own2 _ 1 [.int .i64 (wrap64 (hk1 + bytes))] _ rfl (Rw.lit1 _ _ _) (by intro u hu; simp at hu; subst hu; rfl) (by unfold maxLen; omega) (by omega) (by simp; omega) ?_; intro v3 w3 own3 grow3 at3; obtain ⟨a3, c3, rfl, x3, f3, R3⟩ := ST v3 w3 own3 grow3; clear own3 grow3 at3)
          go_roundw
          case rel => exact ⟨k + 1, a3, c3, by omega, by go_num, R3⟩
          case measure => simp [intOf]; omega
        | false =>
          rw [if_neg (by simpa using e)] at HG
          have ST := fun v' w' => RS.step HG (v' := v') (w' := w')
          have own2 := RS.own.alloc (.cells #[.int .i64 hk1] 3)
          clear RS HG
          go_wp2_with (at_builtin; refine wpList_append_rw Try.underlying49 Try.info3 rfl (by decide) _ rfl (.tmp 37) (.tmp 39) rfl (w.heap.size + 1 + 1 + 1 + 1) (.slice a k c) k _ rfl own2 _ 1 [.int .i64 hk1] _ rfl (Rw.lit1 _ _ _) (by intro u hu; simp at hu; subst hu; rfl) (by unfold maxLen; omega) (by omega) (by simp; omega) ?_; intro v3 w3 own3 grow3 at3; obtain ⟨a3, c3, rfl, x3, f3, R3⟩ := ST v3 w3 own3 grow3; clear own3 grow3 at3)
          go_roundw
          case rel => exact ⟨k + 1, a3, c3, by omega, by go_num, R3⟩
          case measure => simp [intOf]; omega
      · have hkl : k = had.length := by omega
        subst hkl
        have o0 := RS.o.cell 0 _ rfl
        have o1 := RS.o.cell 1 _ rfl
        have o2 := RS.o.cell 2 _ rfl
        have CR1 := CR.below RS.bel (by omega)
        have r0 := CR1.cell 0 _ rfl
        have r1 := CR1.cell 1 _ rfl
        have r2 := CR1.cell 2 _ rfl
        have f0 := CR1.fz 0
        have f1 := CR1.fz 1
        have f2 := CR1.fz 2
        have n1 : ¬ w.heap.size + 1 + 1 = w.heap.size + 1 + 1 + 1 := by omega
        have n2 : ¬ w.heap.size + 1 + 1 + 1 = w.heap.size + 1 + 1 := by omega
        have own := RS.own
        rw [List.take_of_length_le (by rw [HL.out]; exact Nat.le_refl _)] at own
        have BE := B0.trans (RS.bel.mono (by omega))
        clear RS
        go_wp2_with fail
        have CE := ((CR1.set 0 (.int .i64 stream) (by simp)).set 1 (.int .i64 (-1)) (by simp)).set 2 (.slice a had.length c) (by simp)
        have z0 := CE.cell 0 _ rfl
        have z1 := CE.cell 1 _ rfl
        have z2 := CE.cell 2 _ rfl
        refine bodyPost_ret (v := .agg #[.int .i64 stream, .int .i64 (-1), .slice a had.length c]) (by simp [results, Try.results26, go_sem, z0, z1, z2]) rfl ⟨_, rfl, ⟨_, rfl, ?_⟩, ⟨_, _, _, _, _, rfl⟩, ?_⟩
        · exact In.own (own_set (own_set (own_set own (by show _ + 1 + 1 < _; omega) _) (by show _ + 1 + 1 < _; omega) _) (by show _ + 1 + 1 < _; omega) _) HL.out.symm ii
        · exact ((BE.setCell (by show _ ≤ _ + 1 + 1; omega) _).setCell (by show _ ≤ _ + 1 + 1; omega) _).setCell (by show _ ≤ _ + 1 + 1; omega) _
end Go.Proofs.Ytnddejdndipddab
