/- The document's Bytes: data chunks. -/
import Derived.Test.YtnddejdndipddabCrA
set_option maxRecDepth 20000
namespace Go.Proofs.Ytnddejdndipddab
open Go.RowKit

/-- A row of bytes of the call's own, in none of the blocks S. -/
structure RwO (S : Nat → Prop) (w : World) (v : Value) (xs : List Int) : Prop where
  own : w.ownsRow 0 5 1 v xs.length (cellsB xs)
  away : ∀ k, v.ownBlock = some k → ¬ S k
  lt : ∀ k, S k → k < w.heap.size
  isB : IsB xs

theorem RwO.mono {S S' : Nat → Prop} {w : World} {v : Value} {xs : List Int} (h : RwO S w v xs) (hs : ∀ k, S' k → S k) : RwO S' w v xs := ⟨h.own, fun k hk hh => h.away k hk (hs k hh), fun k hk => h.lt k (hs k hk), h.isB⟩
theorem RwO.alloc {S : Nat → Prop} {w : World} {v : Value} {xs : List Int} (h : RwO S w v xs) (o : Obj) : RwO (fun k => S k ∨ k = w.heap.size) (w.alloc o) v xs := by
  refine ⟨h.own.alloc o, fun k hk hh => ?_, fun k hk => ?_, h.isB⟩
  · rcases hh with g | g
    · exact h.away k hk g
    · have := (h.own.lt k hk).2; omega
  · rcases hk with g | g
    · have := h.lt k g; simp; omega
    · simp; omega
theorem RwO.new {S : Nat → Prop} {w : World} {v : Value} {xs : List Int} (h : RwO S w v xs) (o : Obj) : RwO S (w.alloc o) v xs := (h.alloc o).mono fun _ hk => .inl hk
theorem RwO.drew {S : Nat → Prop} {w : World} {v : Value} {xs : List Int} (h : RwO S w v xs) : RwO S w.drew v xs := ⟨h.own, h.away, h.lt, h.isB⟩
theorem RwO.app {S : Nat → Prop} {w w' : World} {v v' : Value} {xs ys : List Int} (h : RwO S w v xs) (hy : IsB ys) (ho : w'.ownsRow 0 5 1 v' (xs.length + ys.length) (cellsB xs ++ cellsB ys)) (hg : w.grownBy w' v.ownBlock) (ha : v'.ownBlock = v.ownBlock ∨ v'.ownBlock = some w.heap.size) :
    RwO S w' v' (xs ++ ys) ∧ Keep S w w' := by
  refine ⟨⟨by rw [List.length_append, cellsB_append]; exact ho, fun k hk hh => ?_, fun k hk => Nat.lt_of_lt_of_le (h.lt k hk) hg.size, h.isB.append hy⟩, (Keep.refl S w).grown hg h.lt h.away⟩
  rcases ha with e | e
  · exact h.away k (e ▸ hk) hh
  · rw [hk] at e
    simp only [Option.some.injEq] at e
    have := h.lt k hh
    omega
theorem RwO.lit (w : World) (x y : Int) (hx : 0 ≤ x ∧ x < 256) (hy : 0 ≤ y ∧ y < 256) : RwO (fun k => k < w.heap.size) (w.alloc (.cells #[.int .u8 x, .int .u8 y] 5)) (.slice (some ⟨w.heap.size, 0, none⟩) 2 2) [x, y] := by
  refine ⟨World.ownsRow_lit w #[.int .u8 x, .int .u8 y] 2 (Nat.zero_le _) (by unfold maxLen; omega) rfl, fun k hk hh => ?_, fun k hk => ?_, fun z hz => ?_⟩
  · simp only [Value.ownBlock, Option.some.injEq] at hk; omega
  · simp; omega
  · simp at hz; omega
theorem Rw.lit2b (w : World) (x y : Int) : Rw 1 (w.heap.size + 1) (w.alloc (.cells #[.int .u8 x, .int .u8 y] 5)) (.slice (some ⟨w.heap.size, 0, none⟩) 2 2) 2 (cellsB [x, y]) := by
  refine ⟨rfl, some ⟨w.heap.size, 0, none⟩, 2, rfl, Nat.le_refl _, by omega, fun h => by simp at h, fun _ => ⟨w.heap.size, 0, rfl, by omega, fun j u hu => ?_⟩⟩
  match j, hu with
  | 0, hu => simp [cellsB] at hu; subst hu; rw [World.cell?_alloc_at _ _ _ _ rfl]; rfl
  | 1, hu => simp [cellsB] at hu; subst hu; rw [World.cell?_alloc_at _ _ _ _ rfl]; rfl

theorem own_len {w : World} {base n m : Nat} {v : Value} {xs : List Value} (h : w.ownsRow base 5 1 v n xs) (e : n = m) : w.ownsRow base 5 1 v m xs := e ▸ h

/-- The last step: the kind and the length ahead of the row. -/
theorem rbytes_end {S : Nat → Prop} {w w' : World} {v v' : Value} {xs : List Int} {x y : Int} (h : RwO S w v xs) (hx : 0 ≤ x ∧ x < 256) (hy : 0 ≤ y ∧ y < 256)
    (ho : w'.ownsRow w.heap.size 5 1 v' (2 + xs.length) (cellsB [x, y] ++ cellsB xs)) (hg : (w.alloc (.cells #[.int .u8 x, .int .u8 y] 5)).grownBy w' (Value.slice (some ⟨w.heap.size, 0, none⟩) 2 2).ownBlock) :
    By w'.heap.size w' v' (x :: y :: xs) ∧ Below w.heap.size w w' := by
  refine ⟨⟨?_, fun z hz => ?_⟩, (box_below w _).grown hg (by simp) (fun k hk => by simp [Value.ownBlock] at hk; omega)⟩
  · have := Rw.own ho (by simp [cellsB]; omega)
    rw [show 2 + xs.length = (x :: y :: xs).length by simp; omega, show cellsB [x, y] ++ cellsB xs = cellsB (x :: y :: xs) from rfl] at this
    exact this
  · simp only [List.mem_cons] at hz
    rcases hz with rfl | rfl | hz
    · exact hx
    · exact hy
    · exact h.isB z hz

set_option maxHeartbeats 400000 in
theorem rbytes_bad (v : Value) (c : Ck) (w : World) (hv : CkV w.heap.size w v c) (hw : wrongM c ≠ 0) :
    Calls Try.prog 30 #[v] w fun e w' => e = .returned (.tuple #[.slice none 0 0, .int .i64 (wrongM c)]) ∧ Below w.heap.size w w' := by
  have HV := fun o => hv.boxed o
  obtain ⟨d, s, k, rfl, -, -, -⟩ := hv
  have HB := fun o => box_below w o
  simp only [ckVal] at HV ⊢
  go_enter Try.func30, Try.ntmps30
  go_wp2_with fail
  refine (rwrong_any _ _ _ (HV _)).mono ?_
  rintro e w1 ⟨rfl, hb⟩
  have hb1 := (HB _).trans (hb.mono (by simp))
  have hne : (wrongM c != 0) = true := by simpa using hw
  clear HV
  go_wp2
  go_ret2
  exact ⟨rfl, hb1⟩

theorem flags_bd (l o : Bool) : 0 ≤ flagV l 1 + flagV o 2 ∧ flagV l 1 + flagV o 2 < 256 := by cases l <;> cases o <;> decide
theorem wrap8 {n : Int} (h : 0 ≤ n ∧ n < 256) : IntKind.u8.wrap n = n := by rw [u8wrap]; omega
theorem wrap64 {n : Int} (h : 0 ≤ n ∧ n < 256) : IntKind.i64.wrap n = n := by simp [IntKind.wrap, IntKind.signed, IntKind.bits]; omega

set_option maxHeartbeats 1000000 in
theorem rbytes_data (v : Value) (c : Ck) (w : World) (hv : CkV w.heap.size w v c) (hw : wrongM c = 0) (k1 : c.kind = 1) :
    Calls Try.prog 30 #[v] w fun e w' => ∃ v', e = .returned (.tuple #[v', .int .i64 0]) ∧ By w'.heap.size w' v' (bytesM c) ∧ Below w.heap.size w w' := by
  have hent : ∀ (args : Array Value) (wx : World), (callFunc 53 args).run Try.prog wx = .ok (.enter 53 args) wx := enters_body Try.func53 (by kernel_rfl) rfl
  have g := goodD hw k1
  have HV := fun o => hv.boxed o
  obtain ⟨d, s, k, rfl, hd, -, -⟩ := hv
  have HB := fun o => box_below w o
  obtain ⟨ad, cd, rfl, -, -⟩ := hd.ex
  simp only [ckVal] at HV ⊢
  have HM : Hid (bytesM c = 1 :: ((7 + c.data.length : Nat) : Int) :: (two16 c.tag ++ [c.stream, flagV c.last 1 + flagV c.ordered 2] ++ two16 c.mid ++ [c.part] ++ c.data)) := by
    show _ = _
    simp [bytesM, k1, bodyM, flagsM, two16]
    omega
  obtain ⟨kind, tag, stream, mid, part, last, ordered, data, spans, room, skips⟩ := c
  dsimp only at *
  subst k1
  obtain ⟨⟨t1, t2⟩, ⟨s1, s2⟩, ⟨m1, m2⟩, ⟨p1, p2⟩, ⟨l1, l2⟩⟩ := g
  dsimp only at *
  go_enter Try.func30, Try.ntmps30
  go_wp2_with fail
  refine (rwrong_any _ _ _ (HV _)).mono ?_
  rintro e w1 ⟨rfl, hb⟩
  rw [hw]
  have hb1 := (HB _).trans (hb.mono (by simp))
  have hX : w.heap.size < w1.heap.size := by have := hb.size; simp at this; omega
  have CX1 := (Cells.new w #[.int .i64 1, .int .i64 tag, .int .i64 stream, .int .i64 mid, .int .i64 part, .bool last, .bool ordered, .slice ad data.length cd, s, .int .i64 room, k] 45).below hb (by simp)
  have x1 := CX1.cell 1 _ rfl
  clear HV
  go_wp2_with fail
  refine (rtwo_any tag _ t1 t2).mono ?_
  rintro e w2 ⟨rfl, rfl⟩
  have R2 := RwO.lit w1 (tag / 256) (tag % 256) (by omega) (by omega)
  have CX2 := CX1.alloc hX (.cells #[.int .u8 (tag / 256), .int .u8 (tag % 256)] 5)
  have x0 := CX2.cell 0 _ rfl
  clear x1
  go_upto_region 13 with fail
  generalize hw2 : w1.alloc (.cells #[.int .u8 (tag / 256), .int .u8 (tag % 256)] 5) = w2 at *
  have K2 : Keep (fun k => k < w1.heap.size) w1 w2 := by rw [← hw2]; exact (Keep.refl _ w1).alloc (fun k hk => hk) _
  clear hw2
  have y2 := CX2.cell 2 _ rfl
  have y5 := CX2.cell 5 _ rfl
  have y6 := CX2.cell 6 _ rfl
  have W1 := wrap8 (n := stream) (by omega)
  have W2 := wrap8 (flags_bd last ordered)
  have W3 := wrap64 (flags_bd last ordered)
  have KA : ∀ o, (w2.alloc o).cell? ⟨w.heap.size, 2, none⟩ = some (.int .i64 stream) ∧ (w2.alloc o).cell? ⟨w.heap.size, 5, none⟩ = some (.bool last) ∧ (w2.alloc o).cell? ⟨w.heap.size, 6, none⟩ = some (.bool ordered) := fun o => ⟨new_at y2 o, new_at y5 o, new_at y6 o⟩
  have R2' := fun o => (R2.new o).drew
  have HL := Rw.lit2b w2 stream (flagV last 1 + flagV ordered 2)
  have HI : IsB [stream, flagV last 1 + flagV ordered 2] := by
    have := flags_bd last ordered
    intro z hz
    simp only [List.mem_cons, List.not_mem_nil, or_false] at hz
    rcases hz with rfl | rfl <;> omega
  go_region_held3 (fun w' => w'.cell? ⟨w.heap.size, 2, none⟩ = some (.int .i64 stream) ∧ w'.cell? ⟨w.heap.size, 5, none⟩ = some (.bool last) ∧ w'.cell? ⟨w.heap.size, 6, none⟩ = some (.bool ordered)) (first | exact ⟨y2, y5, y6⟩ | exact KQ | (simp only [World.cell?_drew]; exact KA _)) (first
    | (go_at_call 53; refine (rflag_any _ _ _).mono ?_; rintro e w' ⟨rfl, rfl⟩)
    | (refine step_append_rw Try.underlying23 Try.info5 rfl (by decide) rfl (.tmp 46) (.tmp 60) rfl 0 (.slice (some ⟨w1.heap.size, 0, none⟩) 2 2) 2 (cellsB [tag / 256, tag % 256]) rfl (R2' _).own (w2.heap.size + 1) 2 (cellsB [stream, flagV last 1 + flagV ordered 2]) (.slice (some ⟨w2.heap.size, 0, none⟩) 2 2) rfl HL (cellsB_one _) (by unfold maxLen; omega) (by omega) (Nat.zero_le _) ?_; intro v3 w3 o3 g3 a3; obtain ⟨R3, K3⟩ := (R2' _).app HI o3 g3 a3; have KQ := And.intro ((K3.cell (p := ⟨w.heap.size, 2, none⟩) hX).trans (KA _).1) (And.intro ((K3.cell (p := ⟨w.heap.size, 5, none⟩) hX).trans (KA _).2.1) ((K3.cell (p := ⟨w.heap.size, 6, none⟩) hX).trans (KA _).2.2)); clear o3 g3 a3))
  obtain ⟨a3, c3, rfl⟩ := own_form R3.own
  have KW3 : Keep (fun k => k < w1.heap.size) w1 w3 := (K2.trans (((Keep.refl _ w2).alloc R2.lt _).drew)).trans K3
  have CX3 := CX1.keep KW3 hX
  have x3 := CX3.cell 3 _ rfl
  have hX3 : w.heap.size < w3.heap.size := R3.lt _ hX
  have HLm := Rw.lit2b w3 (mid / 256) (mid % 256)
  have HIm : IsB [mid / 256, mid % 256] := by intro z hz; simp at hz; omega
  have HIp : IsB [part] := by intro z hz; simp at hz; omega
  have W4 := wrap8 (n := part) (by omega)
  have hm2 : 2 ≤ maxLen := by unfold maxLen; omega
  have hl6 : ([tag / 256, tag % 256] ++ [stream, flagV last 1 + flagV ordered 2] ++ [mid / 256, mid % 256] ++ [part] ++ data).length = 7 + data.length := by simp; omega
  clear y2 y5 y6 W1 W2 W3 KA R2' HL HI KQ R2 x0 CX2 K2 K3
  go_wp2_with (first
    | (go_at_call 52; refine (rtwo_any mid _ m1 m2).mono ?_; rintro e w' ⟨rfl, rfl⟩)
    | (at_builtin; refine wpList_append_rw Try.underlying23 Try.info5 rfl (by decide) _ rfl (.tmp 62) (.tmp 65) rfl 0 (.slice a3 4 c3) 4 (cellsB ([tag / 256, tag % 256] ++ [stream, flagV last 1 + flagV ordered 2])) rfl (R3.new _).own (w3.heap.size + 1) 2 (cellsB [mid / 256, mid % 256]) (.slice (some ⟨w3.heap.size, 0, none⟩) 2 2) rfl HLm (cellsB_one _) (by unfold maxLen; omega) (by omega) (Nat.zero_le _) ?_; intro v4 w4 o4 g4 at4; obtain ⟨R4, K4⟩ := (R3.new _).app HIm o4 g4 at4; have CX4 := (CX3.alloc hX3 _).keep K4 hX; have x4 := CX4.cell 4 _ rfl; have hX4 : w.heap.size < w4.heap.size := R4.lt _ hX; obtain ⟨a4, c4, rfl⟩ := own_form R4.own; have KW4 := (KW3.trans ((Keep.refl _ w3).alloc R3.lt _)).trans K4; clear o4 g4 at4)
    | (at_builtin; refine wpList_append_rw Try.underlying23 Try.info5 rfl (by decide) _ rfl (.tmp 67) (.tmp 71) rfl 0 (.slice a4 6 c4) 6 (cellsB ([tag / 256, tag % 256] ++ [stream, flagV last 1 + flagV ordered 2] ++ [mid / 256, mid % 256])) rfl (R4.new _).own (w4.heap.size + 1) 1 (cellsB [part]) (.slice (some ⟨w4.heap.size, 0, none⟩) 1 1) rfl (Rw.lit1 w4 (.int .u8 part) 5) (cellsB_one _) (by unfold maxLen; omega) (by omega) (Nat.zero_le _) ?_; intro v5 w5 o5 g5 at5; obtain ⟨R5, K5⟩ := (R4.new _).app HIp o5 g5 at5; have CX5 := (CX4.alloc hX4 _).keep K5 hX; have x7 := CX5.cell 7 _ rfl; obtain ⟨a5, c5, rfl⟩ := own_form R5.own; have KW5 := (KW4.trans ((Keep.refl _ w4).alloc R4.lt _)).trans K5; have hd5 := (hd.below hb1 (Nat.le_refl _)).below (KW5.below (B := w1.heap.size) fun k hk => hk) (Nat.le_of_lt hX); clear o5 g5 at5)
    | (at_builtin; refine wpList_append_rw Try.underlying23 Try.info5 rfl (by decide) _ rfl (.tmp 73) (.tmp 75) rfl 0 (.slice a5 7 c5) 7 (cellsB ([tag / 256, tag % 256] ++ [stream, flagV last 1 + flagV ordered 2] ++ [mid / 256, mid % 256] ++ [part])) rfl R5.own w.heap.size data.length (cellsB data) (.slice ad data.length cd) rfl hd5.1 (cellsB_one _) (by unfold maxLen; omega) (by omega) (Nat.zero_le _) ?_; intro v6 w6 o6 g6 at6; obtain ⟨R6, K6⟩ := R5.app hd5.2 o6 g6 at6; have CX6 := CX5.keep K6 hX; have x0 := CX6.cell 0 _ rfl; obtain ⟨a6, c6, e6⟩ := own_form o6; have KW6 := KW5.trans K6; subst e6; have hX6 : w1.heap.size ≤ w6.heap.size := KW6.size; have OW6 := World.ownsRow_lit w6 #[.int .u8 1, .int .u8 (7 + (data.length : Int))] 2 (e := 5) (size := 1) (base := w6.heap.size) (Nat.le_refl _) hm2 rfl; have SR6 : Rw 1 (w6.alloc (.cells #[.int .u8 1, .int .u8 (7 + (data.length : Int))] 5)).heap.size (w6.alloc (.cells #[.int .u8 1, .int .u8 (7 + (data.length : Int))] 5)) (.slice a6 (7 + data.length) c6) (7 + data.length) (cellsB ([tag / 256, tag % 256] ++ [stream, flagV last 1 + flagV ordered 2] ++ [mid / 256, mid % 256] ++ [part] ++ data)) := Rw.own (own_len (R6.own.alloc _) hl6) (by rw [cellsB_length, hl6, Nat.mul_one]); clear g6 at6)
    | (at_builtin; refine wpList_append_rw Try.underlying23 Try.info5 rfl (by decide) _ rfl (.tmp 107) (.tmp 108) rfl w6.heap.size (.slice (some ⟨w6.heap.size, 0, none⟩) 2 2) 2 [.int .u8 1, .int .u8 (7 + (data.length : Int))] rfl OW6 _ (7 + data.length) (cellsB ([tag / 256, tag % 256] ++ [stream, flagV last 1 + flagV ordered 2] ++ [mid / 256, mid % 256] ++ [part] ++ data)) (.slice a6 (7 + data.length) c6) rfl SR6 (cellsB_one _) (by unfold maxLen; omega) (by omega) (by simp) ?_; intro v7 w7 o7 g7 at7; clear at7)
    | fail)
  go_ret2
  have hE := rbytes_end (x := 1) (y := 7 + (data.length : Int)) R6 (by omega) (by omega) (by rw [hl6]; exact o7) g7
  refine ⟨_, rfl, ?_, ?_⟩
  · rw [HM.out]
    have := hE.1
    rw [show ((7 + data.length : Nat) : Int) = 7 + (data.length : Int) by omega]
    simpa [two16] using this
  · exact (hb1.trans (KW6.below fun k hk => by omega)).trans (hE.2.mono (by omega))
end Go.Proofs.Ytnddejdndipddab
