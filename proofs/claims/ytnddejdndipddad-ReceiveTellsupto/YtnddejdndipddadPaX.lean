/- The contracts of Count and Split, of package parts, and of slices.Clone of bytes. -/
import Derived.Test.YtnddejdndipddadPaB
import Derived.Lib.SliceRun
import Derived.Lib.AppendZeros
import Derived.RegionTactic
import Derived.BigRegion
set_option maxRecDepth 20000
namespace Go.Proofs.Ytnddejdndipddad
open Go.RowKit

set_option maxHeartbeats 1000000 in
theorem clone_any (v : Value) (bs : List Int) (w : World) (hv : By w.heap.size w v bs) (hl : bs.length ≤ 140737488355328) :
    Calls Try.prog 51 #[v] w fun e w' => ∃ v', e = .returned v' ∧ By w'.heap.size w' v' bs ∧ InS (fun k => w.heap.size ≤ k) v' ∧ Below w.heap.size w w' := by
  have HV := hv
  obtain ⟨a, cap, rfl, h1, h2⟩ := hv.ex
  have q23 : ∀ (w : World) (a : Option Addr) (n c n' c' : Nat), (binOp .eql 38 (.slice a n c) (.slice none n' c')).run Try.prog w = .ok (.bool a.isNone) w := fun w a n c n' c' => Lib.run_eql_slice_nil w _ _ a n c n' c' Try.underlying38
  cases a with
  | none =>
    have hc : bs = [] := by
      obtain ⟨⟨_, a', cap', he, g1, g2, g0, _⟩, _⟩ := HV
      simp only [Value.slice.injEq] at he
      obtain ⟨rfl, _, rfl⟩ := he
      have := g0 rfl
      exact List.eq_nil_of_length_eq_zero (by omega)
    subst hc
    go_enter Try.func51, Try.ntmps51
    go_wp2
    go_ret
    exact ⟨_, rfl, By.nil _ _, fun b off sp n cap e hn => by simp at e, Below.refl _ _⟩
  | some ad =>
    have HB := fun o => box_below w o
    have HR := fun o => HV.1.below (box_below w o) (Nat.le_refl _)
    go_enter Try.func51, Try.ntmps51
    go_wp2_with (at_builtin; refine wpList_append_rw Try.underlying38 Try.info5 rfl (by decide) _ rfl (.tmp 5) (.tmp 6) rfl w.heap.size (.slice (some ⟨w.heap.size, 0, none⟩) 0 0) 0 [] rfl (World.ownsRow_made w #[] 0 (Nat.le_refl _) (Nat.zero_le _) rfl) w.heap.size bs.length (cellsB bs) _ rfl (HR _) (cellsB_one _) (by unfold maxLen; omega) (by omega) (by simp) ?_; intro v3 w3 own3 grow3 at3)
    rw [List.nil_append, Nat.zero_add] at own3
    have BE : Below w.heap.size w w3 := (HB _).grown grow3 (by simp) (by intro k hk; simp [Value.ownBlock] at hk; omega)
    have BY : By w3.heap.size w3 v3 bs := ⟨Rw.own own3 (by simp [cellsB]), HV.2⟩
    have IN : InS (fun k => w.heap.size ≤ k) v3 := (InS.own own3).mono fun k hk => hk.1
    obtain ⟨a3, cap3, rfl⟩ := own_form own3
    clear own3 grow3 at3 HR HB
    go_wp2
    go_ret
    exact ⟨_, rfl, BY, IN, BE⟩

/-- A slice of bytes, among blocks of S. -/
theorem By.keep {B B' : Nat} {S : Nat → Prop} {w w' : World} {v : Value} {bs : List Int} (h : By B w v bs) (hi : InS S v) (kp : Keep S w w') (hB : B ≤ B') : By B' w' v bs := ⟨h.1.keep hi kp hB, h.2⟩
theorem By.drop {B : Nat} {w : World} {a : Option Addr} {n cap : Nat} {bs : List Int} (h : By B w (.slice a n cap) bs) (d : Nat) (h2 : d ≤ bs.length) : By B w (.slice (reK 1 a cap d) (bs.length - d) (cap - d)) (bs.drop d) := by
  have := h.re d (bs.length - d) (by omega)
  rwa [List.take_of_length_le (by simp)] at this
theorem run_re_h1 (a : Option Addr) (n cap hi : Nat) (h : hi ≤ cap) (wx : World) : (Instr.slice 38 (.slice a n cap) none (some (.int .i64 hi)) none).run Try.prog wx = .ok (.slice a hi cap) wx := by
  have h1 : (0 : Int) ≤ hi := by omega
  have h2 : (hi : Int) ≤ cap := by omega
  rw [run_slice_h wx 38 a n cap Try.underlying38 .i64 (hi : Int) h1 h2]
  go_simp

end Go.Proofs.Ytnddejdndipddad

/- The contract of Split, of package parts. -/
set_option maxRecDepth 20000
namespace Go.Proofs.Ytnddejdndipddad
open Go.RowKit

theorem Try.infoBb : (Try.prog.info? 38).map (fun i => (i.zero, i.size, i.bytes)) = some (some (.slice none 0 0), 1, 24) := by kernel_rfl
/-- make, of slices of bytes. -/
theorem run_mkBb (n : Nat) (h : n * 24 ≤ 281474976710656) (wx : World) : (Instr.makeSlice 114 (.int .i64 (n : Int)) (.int .i64 (n : Int))).run Try.prog wx = .ok (.slice (some ⟨wx.heap.size, 0, none⟩) n n) (wx.alloc (.cells (madeCells #[.slice none 0 0] n) 38)) := by
  obtain ⟨i0, hi, hz0, hz1, hz2⟩ := info_parts Try.infoBb
  have := run_make (P := Try.prog) wx 114 38 i0 (.slice none 0 0) Try.underlying114 hi hz0 .i64 .i64 (n : Int) (n : Int) (by omega) (Int.le_refl _) (by rw [hz2]; omega) (by omega)
  rw [hz1, Int.toNat_natCast, Nat.mul_one] at this
  exact this

/-- The parts so far: what is left in block X, the size in block Y, the parts in block O. -/
structure SpSt (w : World) (X Y O : Nat) (bs : List Int) (p : Int) (n i : Nat) (wr : World) : Prop where
  bel : Below w.heap.size w wr
  left : ∃ v2, wr.cell? ⟨X, 0, none⟩ = some v2 ∧ By w.heap.size wr v2 (bs.drop (i * p.toNat))
  fX : wr.frozen? ⟨X, 0, none⟩ = false
  cY : wr.cell? ⟨Y, 0, none⟩ = some (.int .i64 p)
  sz : O < wr.heap.size
  row : ∃ vs : List Value, vs.length = n ∧ Cells O wr vs ∧ ∀ j, j < i → ∃ u, vs[j]? = some u ∧ By wr.heap.size wr u ((bs.drop (j * p.toNat)).take p.toNat) ∧ InS (fun k => O < k) u

theorem SpSt.step {w : World} {X Y O : Nat} {bs : List Int} {p : Int} {n i : Nat} {wr w1 : World} {v1 v2 : Value} (h : SpSt w X Y O bs p n i wr) (hXY : w.heap.size ≤ X ∧ w.heap.size ≤ Y ∧ X < O ∧ Y < O ∧ X ≠ Y) (hi : i < n)
    (by1 : By w1.heap.size w1 v1 ((bs.drop (i * p.toNat)).take p.toNat)) (in1 : InS (fun k => wr.heap.size ≤ k) v1) (c1 : w1.cell? ⟨X, 0, none⟩ = some v2) (f1 : w1.frozen? ⟨X, 0, none⟩ = false) (by2 : By w.heap.size w1 v2 ((bs.drop (i * p.toNat)).drop p.toNat))
    (kp : Keep (fun k => k < wr.heap.size ∧ k ≠ X) wr w1) : SpSt w X Y O bs p n (i + 1) (w1.setCell ⟨O, i, none⟩ v1) := by
  obtain ⟨x1, x2, x3, x4, x5⟩ := hXY
  obtain ⟨vs, hl, hc, hr⟩ := h.row
  have sz := h.sz
  have BE : Below w.heap.size w w1 := h.bel.trans (kp.below fun k hk => ⟨Nat.lt_of_lt_of_le hk h.bel.size, by omega⟩)
  have KO : Keep (fun k => k ≠ O) w1 (w1.setCell ⟨O, i, none⟩ v1) := Keep.setCell (Keep.refl _ _) (p := ⟨O, i, none⟩) (fun h => h rfl) v1
  have c2 : Cells O w1 vs := hc.keep kp ⟨sz, by omega⟩
  refine ⟨BE.setCell (p := ⟨O, i, none⟩) (by show w.heap.size ≤ O; omega) _, ⟨v2, ?_, ?_⟩, ?_, ?_, ?_, vs.set i v1, by simpa using hl, c2.set i v1 (by omega), fun j hj => ?_⟩
  · rw [KO.cell (p := ⟨X, 0, none⟩) (by show X ≠ O; omega)]; exact c1
  · rw [Nat.succ_mul, ← List.drop_drop]
    exact by2.below (B' := w.heap.size) ((Below.refl _ _).setCell (p := ⟨O, i, none⟩) (by show w.heap.size ≤ O; omega) _) (Nat.le_refl _)
  · rw [KO.frozen (p := ⟨X, 0, none⟩) (by show X ≠ O; omega)]; exact f1
  · rw [KO.cell (p := ⟨Y, 0, none⟩) (by show Y ≠ O; omega), kp.cell (p := ⟨Y, 0, none⟩) ⟨by show Y < _; omega, fun e => x5 e.symm⟩]; exact h.cY
  · have := kp.size
    simp; omega
  · by_cases hji : j = i
    · subst hji
      refine ⟨v1, List.getElem?_set_self (by omega), by1.keep (in1.mono fun k hk => by show k ≠ O; omega) KO (by simp), in1.mono fun k hk => by omega⟩
    · obtain ⟨u, hu, hb, hin⟩ := hr j (by omega)
      refine ⟨u, by rw [List.getElem?_set_ne (by omega)]; exact hu, ?_, hin⟩
      have inu : InS (fun k => k < wr.heap.size ∧ k ≠ X ∧ k ≠ O) u := by
        rintro b off sp nn cap rfl hn
        have := hin _ _ _ _ _ rfl hn
        obtain ⟨⟨_, a', cap', he, g1, g2, g0, g4⟩, _⟩ := hb
        simp only [Value.slice.injEq] at he
        obtain ⟨rfl, rfl, rfl⟩ := he
        obtain ⟨b', off', e, hb', _⟩ := g4 hn
        simp only [Option.some.injEq, Addr.mk.injEq] at e
        obtain ⟨rfl, _⟩ := e
        omega
      exact (hb.keep (inu.mono fun k hk => ⟨hk.1, hk.2.1⟩) kp kp.size).keep (inu.mono fun k hk => hk.2.2) KO (by simp [World.setCell])

theorem SpSt.done {w : World} {X Y O : Nat} {bs : List Int} {p : Int} {n : Nat} {wr : World} (h : SpSt w X Y O bs p n n wr) (hn : countM bs.length p = (n : Int)) (h63 : n ≤ 9223372036854775807) : BbS wr.heap.size wr (.slice (some ⟨O, 0, none⟩) n n) (splitM bs p) := by
  obtain ⟨vs, hl, hc, hr⟩ := h.row
  have hsl : (splitM bs p).length = n := by rw [split_len, hn, Int.toNat_natCast]
  have hA : All2 (By wr.heap.size wr) vs (splitM bs p) := by
    refine All2.of (by rw [hl, hsl]) fun k v c e e' => ?_
    have hk : k < n := by rw [← hl]; exact (List.getElem?_eq_some_iff.1 e).1
    obtain ⟨u, hu, hb, -⟩ := hr k hk
    rw [hu] at e
    simp only [Option.some.injEq] at e
    subst e
    have hk2 : k < (splitM bs p).length := by omega
    rw [List.getElem?_eq_getElem hk2, split_get bs p k hk2] at e'
    simp only [Option.some.injEq] at e'
    subst e'
    exact hb
  have hf := All2.flat (By.bears.cells wr.heap.size wr) hA
  have hfe : ∀ k : Nat, (flatV vs)[k]? = vs[k]? := by
    intro k
    by_cases hk : k < n
    · have e0 : vs[k]? = some vs[k] := List.getElem?_eq_getElem (by omega)
      have := hf.2.1 k _ 0 e0 (by omega)
      rw [Nat.mul_one, Nat.add_zero] at this
      rw [this, e0]
      obtain ⟨u, hu, hb, -⟩ := hr k hk
      rw [e0] at hu
      simp only [Option.some.injEq] at hu
      rw [hu]
      obtain ⟨_, _, rfl, -⟩ := hb.ex
      rfl
    · rw [List.getElem?_eq_none (by have := hf.1; omega), List.getElem?_eq_none (by omega)]
  refine ⟨vs, hA, hf.1, some ⟨O, 0, none⟩, n, by rw [hsl], by omega, h63, fun h => by simp at h, fun _ => ⟨O, 0, rfl, h.sz, fun j u hu => ?_⟩⟩
  rw [Nat.zero_add]
  rw [hfe] at hu
  exact hc.cell j u hu

end Go.Proofs.Ytnddejdndipddad

/- The contracts of slices.Grow and slices.Concat of bytes. -/
set_option maxRecDepth 20000
namespace Go.Proofs.Ytnddejdndipddad
open Go.RowKit

theorem run_nil_h0 (wx : World) : (Instr.slice 38 (.slice none 0 0) none (some (.int .i64 0)) none).run Try.prog wx = .ok (.slice none 0 0) wx := run_re_h1 none 0 0 0 (Nat.le_refl _) wx

set_option maxHeartbeats 1000000 in
/-- Grow, of nil. -/
theorem grow_any (n : Nat) (w : World) (hn : n ≤ 140737488355328) :
    Calls Try.prog 89 #[.slice none 0 0, .int .i64 (n : Int)] w fun e w' => ∃ v', e = .returned v' ∧ w'.ownsRow w.heap.size 5 1 v' 0 [] ∧ Below w.heap.size w w' := by
  have h0 : ¬ (n : Int) < 0 := by omega
  by_cases hz : n = 0
  · subst hz
    go_enter Try.func89, Try.ntmps89
    go_wp2
    go_ret
    exact ⟨_, rfl, ⟨rfl, .inl ⟨rfl, rfl⟩⟩, Below.refl _ _⟩
  · obtain ⟨i0, hi, hz0, hz1, hz2⟩ := info_parts Try.info5
    have hr := fun ty => Lib.run_append_nil_zeros (P := Try.prog) w 38 3 ty 5 i0 (.int .u8 0) .i64 .i64 Try.underlying38 Try.underlying3 hi hz0 n (by omega) (by omega) (by omega) (by rw [hz2]; omega)
    have hge := grownCap_ge w n 0 5
    have hle := grownCap_le_maxLen w n 0 5 (by unfold maxLen; omega)
    generalize grownCap w n 0 5 = g at *
    have R := run_re_h1 (some ⟨w.heap.size, 0, none⟩) n g 0 (Nat.zero_le _)
    have R0 := run_nil_h0
    have BE : Below w.heap.size w (w.drew.alloc (.cells (Builtin.zeroCells (Value.int .u8 0).cells n ++ Builtin.zeroCells (Value.int .u8 0).cells (g - n)) 5)) := (⟨rfl, rfl, rfl, Nat.le_refl _, fun _ _ => rfl⟩ : Below w.heap.size w w.drew).alloc (Nat.le_refl _) _
    have OW : (w.drew.alloc (.cells (Builtin.zeroCells (Value.int .u8 0).cells n ++ Builtin.zeroCells (Value.int .u8 0).cells (g - n)) 5)).ownsRow w.heap.size 5 1 (.slice (some ⟨w.heap.size, 0, none⟩) 0 g) 0 [] :=
      World.ownsRow_made (size := 1) w.drew _ g (Nat.le_refl _) hle (by simp [Builtin.zeroCells, Value.cells]; omega)
    generalize w.drew.alloc (.cells (Builtin.zeroCells (Value.int .u8 0).cells n ++ Builtin.zeroCells (Value.int .u8 0).cells (g - n)) 5) = w1 at *
    have hpos : 0 < (n : Int) := by omega
    go_enter Try.func89, Try.ntmps89
    go_wp2_with (at_builtin; refine Lib.wpList_append_run _ rfl (.tmp 20) (.tmp 21) _ _ rfl _ _ rfl rfl _ _ (hr _) ?_)
    go_ret
    exact ⟨_, rfl, OW, BE⟩

theorem flatten_snoc {ls : List (List Int)} {k : Nat} (h : k < ls.length) : (ls.take (k + 1)).flatten = (ls.take k).flatten ++ ls[k] := by
  rw [List.take_succ_eq_append_getElem h, List.flatten_append, List.flatten_cons, List.flatten_nil, List.append_nil]
theorem flatten_le (ls : List (List Int)) (k : Nat) : (ls.take k).flatten.length ≤ ls.flatten.length := by
  have : ls.flatten = (ls.take k).flatten ++ (ls.drop k).flatten := by rw [← List.flatten_append, List.take_append_drop]
  rw [this, List.length_append]
  omega

/-- The bytes so far. -/
structure CcSt (w : World) (ls : List (List Int)) (k nb : Nat) (o : Value) (wr : World) : Prop where
  own : wr.ownsRow w.heap.size 5 1 o nb (cellsB (ls.take k).flatten)
  len : nb = (ls.take k).flatten.length
  isB : IsB (ls.take k).flatten
  bel : Below w.heap.size w wr

set_option maxHeartbeats 1000000 in
theorem concat_any (v : Value) (ls : List (List Int)) (w : World) (hv : BbS w.heap.size w v ls) (hl : ls.flatten.length ≤ 140737488355328) :
    Calls Try.prog 87 #[v] w fun e w' => ∃ v', e = .returned v' ∧ By w'.heap.size w' v' ls.flatten ∧ Below w.heap.size w w' := by
  have HV := hv
  obtain ⟨a, cap, rfl, h1, h2⟩ := hv.ex
  have FL := flatten_le ls
  go_enter Try.func87, Try.ntmps87
  go_wp2
  go_loop [3, 11] (fun t i => ∃ k : Nat, k ≤ ls.length ∧ i = .int .i64 k ∧ t = .int .i64 ((ls.take k).flatten.length : Nat)) (fun _ i => ls.length - (intOf i).toNat)
  case atStart => exact ⟨0, Nat.zero_le _, rfl, rfl⟩
  case round =>
    obtain ⟨k, hk, rfl, rfl⟩ := hrel
    by_cases hlt : k < ls.length
    · obtain ⟨b, off, d, hb, hix, hd, cd⟩ := BbS.at HV k hlt
      obtain ⟨ad, dcap, rfl, -, -⟩ := hd.ex
      have e1 : Hid ((ls.take (k + 1)).flatten.length = (ls.take k).flatten.length + ls[k].length) := by show _ = _; rw [flatten_snoc hlt, List.length_append]
      have e2 := FL k
      have e3 := FL (k + 1)
      have e4 : (ls.take k).flatten.length + ls[k].length ≤ ls.flatten.length := by rw [← e1.out]; exact e3
      clear e3 FL
      generalize (ls.take k).flatten.length = t at *
      have e5 : ¬ (t : Int) + (ls[k].length : Int) < 0 := by omega
      go_wp2_with fail
      go_round
      case rel => exact ⟨k + 1, by omega, by go_num, by rw [e1.out]; go_num⟩
      case measure => simp [intOf]; omega
    · have hke : k = ls.length := by omega
      subst hke
      rw [List.take_length]
      have GR := grow_any _ w hl
      generalize ls.flatten.length = tl at *
      go_wp2_with fail
      refine GR.mono ?_
      rintro e w1 ⟨v1, rfl, own1, b1⟩
      obtain ⟨a1, cap1, rfl⟩ := own_form own1
      have C0 : CcSt w ls 0 0 (.slice a1 0 cap1) w1 := ⟨by simpa [cellsB] using own1, by simp, fun z hz => by simp at hz, b1⟩
      clear own1 b1
      go_wp2_with fail
      go_loopw [6, 27] (fun o i wq => ∃ (j nb : Nat) (ab : Option Addr) (cb : Nat), j ≤ ls.length ∧ i = .int .i64 j ∧ o = .slice ab nb cb ∧ CcSt w ls j nb (.slice ab nb cb) wq) (fun _ i _ => ls.length - (intOf i).toNat)
      case atStart => exact ⟨0, 0, a1, cap1, Nat.zero_le _, rfl, rfl, C0⟩
      case round =>
        obtain ⟨j, nb, ab, cb, hj, rfl, rfl, CS⟩ := hrel
        by_cases hlt : j < ls.length
        · obtain ⟨b, off, d, hb, hix, hd, cd⟩ := BbS.at (SlG.below By.bears HV CS.bel (Nat.le_refl _)) j hlt
          have HD := hd
          obtain ⟨ad, dcap, rfl, -, -⟩ := hd.ex
          have hlen : nb + ls[j].length ≤ tl := by
            have := FL (j + 1)
            rw [flatten_snoc hlt, List.length_append, ← CS.len] at this
            exact this
          have hbs := CS.bel.size
          have ST : ∀ v' w', w'.ownsRow w.heap.size 5 1 v' (nb + ls[j].length) (cellsB (ls.take j).flatten ++ cellsB ls[j]) → wr.grownBy w' (Value.slice ab nb cb).ownBlock → CcSt w ls (j + 1) (nb + ls[j].length) v' w' := fun v' w' ho hg => by
            refine ⟨?_, ?_, ?_, CS.bel.grown hg hbs fun k hk => (CS.own.lt k hk).1⟩
            · rw [flatten_snoc hlt, cellsB_append]; exact ho
            · rw [flatten_snoc hlt, List.length_append, CS.len]
            · rw [flatten_snoc hlt]; exact CS.isB.append HD.2
          have O2 := CS.own
          clear CS hd
          go_wp2_with (at_builtin; refine wpList_append_rw Try.underlying38 Try.info5 rfl (by decide) _ rfl (.tmp 31) (.tmp 32) rfl w.heap.size (.slice ab nb cb) nb (cellsB (ls.take j).flatten) rfl O2 _ ls[j].length (cellsB ls[j]) _ rfl HD.1 (cellsB_one _) (by unfold maxLen; omega) (by omega) hbs ?_; intro v3 w3 own3 grow3 at3; have P3 := ST v3 w3 own3 grow3; obtain ⟨a3, cap3, rfl⟩ := own_form own3; clear own3 grow3 at3)
          go_roundw
          case rel => exact ⟨j + 1, nb + ls[j].length, a3, cap3, by omega, by go_num, rfl, P3⟩
          case measure => simp [intOf]; omega
        · have hje : j = ls.length := by omega
          subst hje
          have y1 : By wr.heap.size wr (.slice ab nb cb) ls.flatten := by
            have o1 := CS.own
            have o2 := CS.len
            have o3 := CS.isB
            rw [List.take_length] at o1 o2 o3
            subst o2
            exact ⟨Rw.own o1 (by rw [cellsB_length, Nat.mul_one]), o3⟩
          have BE := CS.bel
          go_wp2_with fail
          go_ret
          exact ⟨_, rfl, y1, BE⟩
end Go.Proofs.Ytnddejdndipddad

/- The contract of Join's function, of package parts. -/
set_option maxRecDepth 20000
namespace Go.Proofs.Ytnddejdndipddad
open Go.RowKit

/-- A chunk that is laid: its place is free, and it says rightly whether it is the last one. -/
def laysB (n : Nat) (hs : List Bool) (c : Ck) (q : Nat) : Prop := c.part = (q : Int) ∧ q < n ∧ hs[q]? = some false ∧ c.last = decide ((q : Int) = (n : Int) - 1)

theorem Cells.of_set {X Y : Nat} {w : World} {l : List Value} (h : Cells X w l) (j : Nat) (u : Value) (hne : X ≠ Y) : Cells X (w.setCell ⟨Y, j, none⟩ u) l :=
  h.keep (S := fun k => k ≠ Y) (Keep.setCell (Keep.refl _ _) (p := ⟨Y, j, none⟩) (fun e => e rfl) u) hne

set_option maxHeartbeats 2000000 in
theorem lay_any (L Hd Dt Oh Od n : Nat) (hs : List Bool) (ds : List Value) (c : Ck) (ad as' ak : Option Addr) (nd cd ns cs nk ck : Nat) (w : World)
    (cL : w.cell? ⟨L, 0, none⟩ = some (.int .i64 ((n : Int) - 1))) (cH : w.cell? ⟨Hd, 0, none⟩ = some (.slice (some ⟨Oh, 0, none⟩) n n)) (cD : w.cell? ⟨Dt, 0, none⟩ = some (.slice (some ⟨Od, 0, none⟩) n n))
    (rh : Cells Oh w (hs.map Value.bool)) (rd : Cells Od w ds) (lh : hs.length = n) (ld : ds.length = n) (hOh : Oh < w.heap.size) (hOd : Od < w.heap.size) (hne : Oh ≠ Od)
    (d3 : Hd ≠ Oh) (d4 : Hd ≠ Od) (d5 : Dt ≠ Oh) (d6 : Dt ≠ Od) :
    Calls Try.prog 86 #[ckVal c (.slice ad nd cd) (.slice as' ns cs) (.slice ak nk ck), .pointer (some ⟨L, 0, none⟩), .pointer (some ⟨Hd, 0, none⟩), .pointer (some ⟨Dt, 0, none⟩)] w fun e w' =>
      (∃ q, laysB n hs c q ∧ e = .returned (.bool true) ∧ Cells Oh w' ((hs.set q true).map Value.bool) ∧ Cells Od w' (ds.set q (.slice ad nd cd)) ∧ Keep (fun k => k < w.heap.size ∧ k ≠ Oh ∧ k ≠ Od) w w') ∨
      (e = .returned (.bool false) ∧ Below w.heap.size w w' ∧ ∀ q, ¬ laysB n hs c q) := by
  obtain ⟨kind, tag, stream, mid, part, last, ordered, data, spans, room, skips⟩ := c
  simp only [ckVal]
  have HB := fun o => box_below w o
  have CL := fun o => new_at cL o
  have CH := fun o => new_at cH o
  have CD := fun o => new_at cD o
  by_cases p0 : part < 0
  · have HN : Hid (∀ q, ¬ laysB n hs ⟨kind, tag, stream, mid, part, last, ordered, data, spans, room, skips⟩ q) := by rintro q ⟨h, -⟩; simp only at h; omega
    go_enter Try.func86, Try.ntmps86
    go_wp2
    go_ret
    exact .inr ⟨rfl, HB _, HN.out⟩
  · obtain ⟨q, rfl⟩ := Int.eq_ofNat_of_zero_le (show 0 ≤ part by omega)
    by_cases p1 : (q : Int) > (n : Int) - 1
    · have HN : Hid (∀ q', ¬ laysB n hs ⟨kind, tag, stream, mid, q, last, ordered, data, spans, room, skips⟩ q') := by rintro q' ⟨h, h2, -⟩; simp only at h; omega
      go_enter Try.func86, Try.ntmps86
      go_wp2
      go_ret
      exact .inr ⟨rfl, HB _, HN.out⟩
    · have hq : q < n := by omega
      have HQ := fun o => new_at (rh.cell q (.bool hs[q]) (by simp [lh, hq])) o
      have EQ : Hid (hs[q]? = some hs[q]) := List.getElem?_eq_getElem (by omega)
      generalize hs[q]'(by omega) = hd at *
      cases hd with
      | true =>
        have HN : Hid (∀ q', ¬ laysB n hs ⟨kind, tag, stream, mid, q, last, ordered, data, spans, room, skips⟩ q') := by
          rintro q' ⟨h, h2, h3, -⟩
          simp only at h
          have : q' = q := by omega
          subst this
          rw [EQ.out] at h3
          simp at h3
        go_enter Try.func86, Try.ntmps86
        go_wp2
        go_ret
        exact .inr ⟨rfl, HB _, HN.out⟩
      | false =>
        have HN : last ≠ ((q : Int) == (n : Int) - 1) → Hid (∀ q', ¬ laysB n hs ⟨kind, tag, stream, mid, q, last, ordered, data, spans, room, skips⟩ q') := by
          rintro hne q' ⟨h, h2, h3, h4⟩
          simp only at h h4
          have : q' = q := by omega
          subst this
          refine hne ?_
          rw [h4, Bool.eq_iff_iff]
          simp
        have HY : last = ((q : Int) == (n : Int) - 1) → Hid (laysB n hs ⟨kind, tag, stream, mid, q, last, ordered, data, spans, room, skips⟩ q) := by
          intro he
          refine ⟨rfl, hq, EQ.out, ?_⟩
          show last = _
          rw [he, Bool.eq_iff_iff]
          simp
        have FIN : ∀ (o : Obj), Cells Oh (((w.setCell ⟨Od, q, none⟩ (.slice ad nd cd)).setCell ⟨Oh, q, none⟩ (.bool true)).alloc o) ((hs.set q true).map Value.bool) ∧ Cells Od (((w.setCell ⟨Od, q, none⟩ (.slice ad nd cd)).setCell ⟨Oh, q, none⟩ (.bool true)).alloc o) (ds.set q (.slice ad nd cd)) ∧ Keep (fun k => k < w.heap.size ∧ k ≠ Oh ∧ k ≠ Od) w (((w.setCell ⟨Od, q, none⟩ (.slice ad nd cd)).setCell ⟨Oh, q, none⟩ (.bool true)).alloc o) := by
          intro o
          have hs2 : ((w.setCell ⟨Od, q, none⟩ (.slice ad nd cd)).setCell ⟨Oh, q, none⟩ (.bool true)).heap.size = w.heap.size := by simp
          refine ⟨?_, ?_, ?_⟩
          · have := (rh.of_set (Y := Od) q (.slice ad nd cd) hne).set q (.bool true) (by simp; omega)
            rw [List.map_set]
            exact this.alloc (by omega) o
          · exact ((rd.set q (.slice ad nd cd) (by omega)).of_set (Y := Oh) q (.bool true) (Ne.symm hne)).alloc (by omega) o
          · exact (((Keep.refl _ _).setCell (p := ⟨Od, q, none⟩) (fun h => h.2.2 rfl) _).setCell (p := ⟨Oh, q, none⟩) (fun h => h.2.1 rfl) _).alloc (fun k hk => by rw [hs2]; exact hk.1) o
        have hHd : Hd < w.heap.size := World.block_lt_of_cell? _ _ cH
        have hDt : Dt < w.heap.size := World.block_lt_of_cell? _ _ cD
        have n1 := Ne.symm d3
        have n2 := Ne.symm d4
        have n3 := Ne.symm d5
        have n4 := Ne.symm d6
        have n5 := Ne.symm hne
        have fh := rh.fz q
        have fd := rd.fz q
        have hQ := rh.cell q (.bool false) (by simp [EQ.out])
        have dQ := rd.cell q ds[q] (by simp [ld, hq])
        cases last <;> cases hx : ((q : Int) == (n : Int) - 1)
        case false.true =>
          have HN' := HN (by rw [hx]; simp)
          clear HN HY
          go_enter Try.func86, Try.ntmps86
          go_wp2
          go_ret
          exact .inr ⟨rfl, HB _, HN'.out⟩
        case true.false =>
          have HN' := HN (by rw [hx]; simp)
          clear HN HY
          go_enter Try.func86, Try.ntmps86
          go_wp2
          go_ret
          exact .inr ⟨rfl, HB _, HN'.out⟩
        all_goals
          have HY' := HY hx.symm
          clear HN HY
          go_enter Try.func86, Try.ntmps86
          go_wp2
          go_region
          go_wp2
          go_ret
          obtain ⟨f1, f2, f3⟩ := FIN (.cells #[.int .i64 kind, .int .i64 tag, .int .i64 stream, .int .i64 mid, .int .i64 q, .bool _, .bool ordered, .slice ad nd cd, .slice as' ns cs, .int .i64 room, .slice ak nk ck] 42)
          exact .inl ⟨q, HY'.out, rfl, ⟨f1.cell, f1.fz⟩, ⟨f2.cell, f2.fz⟩, ⟨f3.os, f3.tape, f3.output, f3.size, f3.block⟩⟩
end Go.Proofs.Ytnddejdndipddad

/- The contract of Join, of package parts. -/
set_option maxRecDepth 20000
namespace Go.Proofs.Ytnddejdndipddad
open Go.RowKit

theorem enters_Join_1 (args : Array Value) (wx : World) : (callFunc 86 args).run Try.prog wx = .ok (.enter 86 args) wx := enters_body Try.func86 (by kernel_rfl) rfl args wx
theorem Try.info4 : (Try.prog.info? 4).map (fun i => (i.zero, i.size, i.bytes)) = some (some (.bool false), 1, 1) := by kernel_rfl
/-- make, of bools. -/
theorem run_mkB (n : Nat) (h : n ≤ 281474976710656) (wx : World) : (Instr.makeSlice 115 (.int .i64 (n : Int)) (.int .i64 (n : Int))).run Try.prog wx = .ok (.slice (some ⟨wx.heap.size, 0, none⟩) n n) (wx.alloc (.cells (madeCells #[.bool false] n) 4)) := by
  obtain ⟨i0, hi, hz0, hz1, hz2⟩ := info_parts Try.info4
  have := run_make (P := Try.prog) wx 115 4 i0 (.bool false) Try.underlying115 hi hz0 .i64 .i64 (n : Int) (n : Int) (by omega) (Int.le_refl _) (by rw [hz2]; omega) (by omega)
  rw [hz1, Int.toNat_natCast, Nat.mul_one] at this
  exact this

/-- A slice of slices of bytes, out of the cells of a block. -/
theorem BbS.of_cells {w : World} {O n : Nat} {vs : List Value} {ls : List (List Int)} (hc : Cells O w vs) (hO : O < w.heap.size) (hl : vs.length = n) (hls : ls.length = n) (h63 : n ≤ 9223372036854775807)
    (hb : ∀ (k : Nat) u x, vs[k]? = some u → ls[k]? = some x → By w.heap.size w u x) : BbS w.heap.size w (.slice (some ⟨O, 0, none⟩) n n) ls := by
  have hA : All2 (By w.heap.size w) vs ls := All2.of (by omega) hb
  have hf := All2.flat (By.bears.cells w.heap.size w) hA
  have hfe : ∀ k : Nat, (flatV vs)[k]? = vs[k]? := by
    intro k
    by_cases hk : k < n
    · have e0 : vs[k]? = some vs[k] := List.getElem?_eq_getElem (by omega)
      have e1 : ls[k]? = some ls[k] := List.getElem?_eq_getElem (by omega)
      have := hf.2.1 k _ 0 e0 (by omega)
      rw [Nat.mul_one, Nat.add_zero] at this
      rw [this, e0]
      obtain ⟨_, _, e, -⟩ := (hb k _ _ e0 e1).ex
      rw [e]
      rfl
    · rw [List.getElem?_eq_none (by have := hf.1; omega), List.getElem?_eq_none (by omega)]
  refine ⟨vs, hA, hf.1, some ⟨O, 0, none⟩, n, by rw [hls], by omega, h63, fun h => by simp at h, fun _ => ⟨O, 0, rfl, hO, fun j u hu => ?_⟩⟩
  rw [Nat.zero_add]
  rw [hfe] at hu
  exact hc.cell j u hu

theorem dataAt_snoc_same {l : List Pc} {p : Pc} {q : Nat} (h : ¬ (q : Int) ∈ l.map Pc.part) (hp : p.part = (q : Int)) : dataAt (l ++ [p]) q = p.ck.data := by
  unfold dataAt
  rw [List.find?_append, List.find?_eq_none.2 fun x hx => by simp; intro e; exact h (e ▸ List.mem_map_of_mem hx)]
  simp [hp]
theorem dataAt_snoc_other {l : List Pc} {p : Pc} {k : Nat} (hp : p.part ≠ (k : Int)) : dataAt (l ++ [p]) k = dataAt l k := by
  unfold dataAt
  rw [List.find?_append]
  simp [hp]

/-- The pieces so far: how many in block L, data in block Od (told in Dt), whether it was there in Oh (told in Hd). -/
structure JoSt (w : World) (L Od Dt Oh Hd : Nat) (l : List Pc) (n j : Nat) (wr : World) : Prop where
  bel : Below w.heap.size w wr
  cL : wr.cell? ⟨L, 0, none⟩ = some (.int .i64 ((n : Int) - 1))
  cH : wr.cell? ⟨Hd, 0, none⟩ = some (.slice (some ⟨Oh, 0, none⟩) n n)
  cD : wr.cell? ⟨Dt, 0, none⟩ = some (.slice (some ⟨Od, 0, none⟩) n n)
  sh : Oh < wr.heap.size
  sd : Od < wr.heap.size
  row : ∃ (hs : List Bool) (ds : List Value), hs.length = n ∧ ds.length = n ∧ Cells Oh wr (hs.map Value.bool) ∧ Cells Od wr ds ∧ (∀ k, k < n → hs[k]? = some (decide ((k : Int) ∈ (l.take j).map Pc.part))) ∧ ∀ k, k < n → ∃ u, ds[k]? = some u ∧ By w.heap.size wr u (dataAt (l.take j) k)
  good : goodN n (l.take j)

theorem JoSt.below {w : World} {L Od Dt Oh Hd : Nat} {l : List Pc} {n j : Nat} {wr w1 : World} (h : JoSt w L Od Dt Oh Hd l n j wr) (b : Below wr.heap.size wr w1) : JoSt w L Od Dt Oh Hd l n j w1 := by
  obtain ⟨h1, h2, h3, h4, h5, h6, ⟨hs, ds, g1, g2, g3, g4, g5, g6⟩, h8⟩ := h
  have lt : ∀ {X : Nat} {v : Value}, wr.cell? ⟨X, 0, none⟩ = some v → X < wr.heap.size := fun e => World.block_lt_of_cell? _ _ e
  refine ⟨h1.trans (b.mono h1.size), (b.cell (p := ⟨L, 0, none⟩) (lt h2)).trans h2, (b.cell (p := ⟨Hd, 0, none⟩) (lt h3)).trans h3, (b.cell (p := ⟨Dt, 0, none⟩) (lt h4)).trans h4, Nat.lt_of_lt_of_le h5 b.size, Nat.lt_of_lt_of_le h6 b.size, ⟨hs, ds, g1, g2, g3.below b h5, g4.below b h6, g5, fun k hk => ?_⟩, h8⟩
  obtain ⟨u, e, hb⟩ := g6 k hk
  exact ⟨u, e, hb.below b h1.size⟩

theorem good_snoc {n : Nat} {l : List Pc} {p : Pc} (h : goodN n l) (hp : stands n p) (hf : ¬ p.part ∈ l.map Pc.part) : goodN n (l ++ [p]) := by
  refine ⟨fun x hx => ?_, ?_⟩
  · rcases List.mem_append.1 hx with hx | hx
    · exact h.1 x hx
    · simp at hx; subst hx; exact hp
  · rw [List.map_append, List.nodup_append]
    refine ⟨h.2, by simp, fun a ha b hb => ?_⟩
    simp at hb
    subst hb
    rintro rfl
    exact hf ha

theorem JoSt.step {w : World} {L Od Dt Oh Hd : Nat} {l : List Pc} {n j q : Nat} {wr w1 : World} {d : Value} (hj : j < l.length) (hb : w.heap.size ≤ Oh ∧ w.heap.size ≤ Od) (hn : L ≠ Oh ∧ L ≠ Od ∧ Hd ≠ Oh ∧ Hd ≠ Od ∧ Dt ≠ Oh ∧ Dt ≠ Od)
    (bel : Below w.heap.size w wr) (cL : wr.cell? ⟨L, 0, none⟩ = some (.int .i64 ((n : Int) - 1))) (cH : wr.cell? ⟨Hd, 0, none⟩ = some (.slice (some ⟨Oh, 0, none⟩) n n)) (cD : wr.cell? ⟨Dt, 0, none⟩ = some (.slice (some ⟨Od, 0, none⟩) n n)) (sh : Oh < wr.heap.size) (sd : Od < wr.heap.size)
    {hs : List Bool} {ds : List Value} (g1 : hs.length = n) (g2 : ds.length = n) (g5 : ∀ k, k < n → hs[k]? = some (decide ((k : Int) ∈ (l.take j).map Pc.part))) (g6 : ∀ k, k < n → ∃ u, ds[k]? = some u ∧ By w.heap.size wr u (dataAt (l.take j) k)) (good : goodN n (l.take j))
    (hq : laysB n hs l[j].ck q) (hd : By w.heap.size wr d l[j].ck.data) (c1 : Cells Oh w1 ((hs.set q true).map Value.bool)) (c2 : Cells Od w1 (ds.set q d)) (kp : Keep (fun k => k < wr.heap.size ∧ k ≠ Oh ∧ k ≠ Od) wr w1) : JoSt w L Od Dt Oh Hd l n (j + 1) w1 := by
  obtain ⟨q1, q2, q3, q4⟩ := hq
  obtain ⟨n1, n2, n3, n4, n5, n6⟩ := hn
  have lt : ∀ {X : Nat} {v : Value}, wr.cell? ⟨X, 0, none⟩ = some v → X < wr.heap.size := fun e => World.block_lt_of_cell? _ _ e
  have B1 : Below w.heap.size wr w1 := kp.below fun k hk => ⟨Nat.lt_of_lt_of_le hk bel.size, by omega, by omega⟩
  have et : l.take (j + 1) = l.take j ++ [l[j]] := List.take_succ_eq_append_getElem hj
  have hp : l[j].part = (q : Int) := q1
  have hfree : ¬ (q : Int) ∈ (l.take j).map Pc.part := by
    have := (g5 q q2).symm.trans q3
    simp only [Option.some.injEq, decide_eq_false_iff_not] at this
    exact this
  refine ⟨bel.trans B1, (kp.cell (p := ⟨L, 0, none⟩) ⟨lt cL, n1, n2⟩).trans cL, (kp.cell (p := ⟨Hd, 0, none⟩) ⟨lt cH, n3, n4⟩).trans cH, (kp.cell (p := ⟨Dt, 0, none⟩) ⟨lt cD, n5, n6⟩).trans cD, Nat.lt_of_lt_of_le sh kp.size, Nat.lt_of_lt_of_le sd kp.size,
    ⟨hs.set q true, ds.set q d, by simpa using g1, by simpa using g2, c1, c2, fun k hk => ?_, fun k hk => ?_⟩, ?_⟩
  · rw [et, List.map_append, List.getElem?_set]
    by_cases e : q = k
    · subst e
      rw [if_pos rfl, if_pos (by omega)]
      simp [hp]
    · rw [if_neg e, g5 k hk]
      have : ¬ (k : Int) = l[j].part := by rw [hp]; omega
      simp only [List.map_cons, List.map_nil, List.mem_append, List.mem_singleton, this, or_false]
  · rw [et, List.getElem?_set]
    by_cases e : q = k
    · subst e
      rw [if_pos rfl, if_pos (by omega), dataAt_snoc_same hfree hp]
      exact ⟨d, rfl, hd.below B1 (Nat.le_refl _)⟩
    · rw [if_neg e, dataAt_snoc_other (by rw [hp]; omega)]
      obtain ⟨u, hu, hb⟩ := g6 k hk
      exact ⟨u, hu, hb.below B1 (Nat.le_refl _)⟩
  · rw [et]
    refine good_snoc good ⟨by rw [hp]; omega, by rw [hp]; omega, ?_⟩ (by rw [hp]; exact hfree)
    rw [q4, hp]

/-- What can't be laid: no message. -/
theorem bad_of_lays {l : List Pc} {n j : Nat} (hl : l.length = n) (hj : j < l.length) {hs : List Bool} (g5 : ∀ k, k < n → hs[k]? = some (decide ((k : Int) ∈ (l.take j).map Pc.part))) (hno : ∀ q, ¬ laysB n hs l[j].ck q) : ¬ goodN l.length l := by
  intro g
  obtain ⟨s1, s2, s3⟩ := g.1 l[j] (List.getElem_mem hj)
  refine hno l[j].part.toNat ⟨?_, by omega, ?_, ?_⟩
  · show l[j].part = _; omega
  · rw [g5 _ (by omega)]
    simp only [Option.some.injEq, decide_eq_false_iff_not]
    rw [Int.toNat_of_nonneg s1]
    have hN := g.2
    rw [← List.take_append_drop j l, List.map_append, List.nodup_append] at hN
    intro h
    refine hN.2.2 _ h _ ?_ rfl
    rw [List.drop_eq_getElem_cons hj, List.map_cons]
    exact List.mem_cons_self
  · rw [s3, Int.toNat_of_nonneg s1, hl]

theorem join_bad {l : List Pc} (h : ¬ goodN l.length l) : joinB l = false ∧ joinD l = [] := ⟨decide_eq_false fun g => h g.1, by rw [joinD, if_neg h]⟩
theorem join_good {l : List Pc} (h : goodN l.length l) : joinB l = decide (0 < l.length) ∧ joinD l = ((List.range l.length).map (dataAt l)).flatten := by
  refine ⟨?_, by rw [joinD, if_pos h]; rfl⟩
  unfold joinB
  exact decide_eq_decide.2 ⟨fun g => Nat.pos_of_ne_zero g.2, fun g => ⟨h, by omega⟩⟩

/-- No more than so many bytes. -/
theorem join_len {l : List Pc} {m : Nat} (h : ∀ p ∈ l, p.ck.data.length ≤ m) (n : Nat) : ((List.range n).map (dataAt l)).flatten.length ≤ n * m := by
  induction n with
  | zero => simp
  | succ n ih =>
    rw [List.range_succ, List.map_append, List.flatten_append, List.length_append, Nat.succ_mul]
    have : (dataAt l n).length ≤ m := by
      unfold dataAt
      split
      · rename_i p hp
        exact h p (List.mem_of_find?_eq_some hp)
      · simp
    simp only [List.map_cons, List.map_nil, List.flatten_cons, List.flatten_nil, List.append_nil]
    omega
end Go.Proofs.Ytnddejdndipddad

/- The contract of Join, of package parts: the walk. -/
set_option maxRecDepth 20000
namespace Go.Proofs.Ytnddejdndipddad
open Go.RowKit

theorem JoSt.start (l : List Pc) (n : Nat) (w : World) : JoSt w w.heap.size (w.heap.size + 1) (w.heap.size + 1 + 1) (w.heap.size + 1 + 1 + 1) (w.heap.size + 1 + 1 + 1 + 1) l n 0
    (((((w.alloc (.cells #[.int .i64 ((n : Int) - 1)] 3)).alloc (.cells (madeCells #[.slice none 0 0] n) 38)).alloc (.cells #[.slice (some ⟨w.heap.size + 1, 0, none⟩) n n] 114)).alloc (.cells (madeCells #[.bool false] n) 4)).alloc
      (.cells #[.slice (some ⟨w.heap.size + 1 + 1 + 1, 0, none⟩) n n] 115)) := by
  have b2 := two_below w (.cells #[.int .i64 ((n : Int) - 1)] 3) (.cells (madeCells #[.slice none 0 0] n) 38)
  have b3 := b2.alloc b2.size (.cells #[.slice (some ⟨w.heap.size + 1, 0, none⟩) n n] 114)
  have b4 := b3.alloc b3.size (.cells (madeCells #[.bool false] n) 4)
  have b5 := b4.alloc b4.size (.cells #[.slice (some ⟨w.heap.size + 1 + 1 + 1, 0, none⟩) n n] 115)
  have c2 : Cells (w.heap.size + 1) ((w.alloc (.cells #[.int .i64 ((n : Int) - 1)] 3)).alloc (.cells (madeCells #[.slice none 0 0] n) 38)) (List.replicate n (.slice none 0 0)) := by
    have := Cells.new' (w := w.alloc (.cells #[.int .i64 ((n : Int) - 1)] 3)) (X := w.heap.size + 1) (madeCells #[.slice none 0 0] n) 38 (by simp)
    rwa [toList_madeCells_one] at this
  have c4 : Cells (w.heap.size + 1 + 1 + 1) ((((w.alloc (.cells #[.int .i64 ((n : Int) - 1)] 3)).alloc (.cells (madeCells #[.slice none 0 0] n) 38)).alloc (.cells #[.slice (some ⟨w.heap.size + 1, 0, none⟩) n n] 114)).alloc (.cells (madeCells #[.bool false] n) 4)) ((List.replicate n false).map Value.bool) := by
    have := Cells.new' (w := ((w.alloc (.cells #[.int .i64 ((n : Int) - 1)] 3)).alloc (.cells (madeCells #[.slice none 0 0] n) 38)).alloc (.cells #[.slice (some ⟨w.heap.size + 1, 0, none⟩) n n] 114)) (X := w.heap.size + 1 + 1 + 1) (madeCells #[.bool false] n) 4 (by simp)
    rwa [toList_madeCells_one, show List.replicate n (Value.bool false) = (List.replicate n false).map Value.bool by simp] at this
  refine ⟨b5, ?_, ?_, ?_, by simp, by simp, ⟨List.replicate n false, List.replicate n (.slice none 0 0), by simp, by simp, c4.alloc (by simp) _, ((c2.alloc (by simp) _).alloc (by simp) _).alloc (by simp) _, fun k hk => ?_, fun k hk => ⟨.slice none 0 0, ?_, ?_⟩⟩, ?_⟩
  · exact new_at (new_at (new_at (new_at (by rw [World.cell?_alloc_at _ _ _ _ rfl]; rfl) _) _) _) _
  · rw [World.cell?_alloc_at _ _ _ _ (by simp)]; rfl
  · exact new_at (new_at (by rw [World.cell?_alloc_at _ _ _ _ (by simp)]; rfl) _) _
  · simp [hk]
  · simp [hk]
  · exact By.nil _ _
  · exact ⟨fun p hp => by simp at hp, by simp⟩

set_option maxHeartbeats 2000000 in
theorem join_any (v : Value) (l : List Pc) (w : World) (hv : PcS w.heap.size w v l) (hl : l.length ≤ 1048576) (hd : ∀ p ∈ l, p.ck.data.length ≤ 1048576) :
    Calls Try.prog 80 #[v] w fun e w' => ∃ v', e = .returned (.tuple #[v', .bool (joinB l)]) ∧ By w'.heap.size w' v' (joinD l) ∧ Below w.heap.size w w' := by
  have HV := hv
  obtain ⟨a, cap, rfl, h1, h2⟩ := hv.ex
  have HL : Hid (((List.range l.length).map (dataAt l)).flatten.length ≤ 140737488355328) := by
    have := join_len hd l.length
    have h3 : l.length * 1048576 ≤ 1048576 * 1048576 := Nat.mul_le_mul_right _ hl
    show _ ≤ _
    omega
  clear hd
  have hmf : ∀ (fn : Fn) (first cap : Array Value) (w : World), (Instr.makeFunc fn first cap).run Try.prog w = .ok (.func fn first cap) w := fun _ _ _ _ => rfl
  have E26 := enters_Join_1
  have M1 := run_mkBb l.length (by omega)
  have M2 := run_mkB l.length (by omega)
  have hnot : ∀ (x : Bool) (w : World), (Op.unary .not (.bool x)).run Try.prog w = .ok (.bool (!x)) w := fun _ _ => rfl
  go_enter Try.func80, Try.ntmps80
  go_wp2_with fail
  go_loopw [22] (fun i wr => ∃ j : Nat, j ≤ l.length ∧ i = .int .i64 j ∧ JoSt w w.heap.size (w.heap.size + 1) (w.heap.size + 1 + 1) (w.heap.size + 1 + 1 + 1) (w.heap.size + 1 + 1 + 1 + 1) l l.length j wr) (fun i _ => l.length - (intOf i).toNat)
  case atStart => exact ⟨0, Nat.zero_le _, rfl, JoSt.start l l.length w⟩
  case round =>
    obtain ⟨j, hj, rfl, JS⟩ := hrel
    by_cases hlt : j < l.length
    · obtain ⟨b, off, _, _, _, hbb, hix, hcv, ⟨ad, nd, cd, rfl⟩, ⟨as', ns, cs, rfl⟩, ⟨ak, nk, ck, rfl⟩, x0, x1, x2, x3, x4, x5, x6, x7, x8, x9, x10, x11⟩ := PcS.at (SlG.below PcV.bears HV JS.bel (Nat.le_refl _)) j hlt
      have hby : By w.heap.size wr (.slice ad nd cd) l[j].ck.data := by
        obtain ⟨d, s, k, e, g, -⟩ := hcv
        simp only [pcVal, Value.agg.injEq, Array.mk.injEq, List.cons.injEq, true_and, and_true] at e
        obtain ⟨rfl, -⟩ := e
        exact g
      have JA := fun o => JS.below (box_below wr o)
      have BY := fun o => hby.below (box_below wr o) JS.bel.size
      clear hcv hby
      have LA : ∀ o : Obj, Calls Try.prog 86 #[ckVal l[j].ck (.slice ad nd cd) (.slice as' ns cs) (.slice ak nk ck), .pointer (some ⟨w.heap.size, 0, none⟩), .pointer (some ⟨w.heap.size + 1 + 1 + 1 + 1, 0, none⟩), .pointer (some ⟨w.heap.size + 1 + 1, 0, none⟩)] (wr.alloc o) fun e w' =>
          (e = .returned (.bool true) ∧ JoSt w w.heap.size (w.heap.size + 1) (w.heap.size + 1 + 1) (w.heap.size + 1 + 1 + 1) (w.heap.size + 1 + 1 + 1 + 1) l l.length (j + 1) w') ∨ (e = .returned (.bool false) ∧ Below w.heap.size w w' ∧ ¬ goodN l.length l) := by
        intro o
        have J1 := JA o
        obtain ⟨j1, j2, j3, j4, j5, j6, ⟨hs, ds, g1, g2, g3, g4, g5, g6⟩, j8⟩ := J1
        refine (lay_any w.heap.size (w.heap.size + 1 + 1 + 1 + 1) (w.heap.size + 1 + 1) (w.heap.size + 1 + 1 + 1) (w.heap.size + 1) l.length hs ds l[j].ck ad as' ak nd cd ns cs nk ck (wr.alloc o) j2 j3 j4 g3 g4 g1 g2 j5 j6 (by omega) (by omega) (by omega) (by omega) (by omega)).mono ?_
        rintro e w' (⟨q, hq, rfl, c1, c2, kp⟩ | ⟨rfl, bb, hno⟩)
        · exact .inl ⟨rfl, JoSt.step hlt ⟨by omega, by omega⟩ ⟨by omega, by omega, by omega, by omega, by omega, by omega⟩ j1 j2 j3 j4 j5 j6 g1 g2 g5 g6 j8 hq (BY o) c1 c2 kp⟩
        · exact .inr ⟨rfl, j1.trans (bb.mono j1.size), bad_of_lays rfl hlt g5 hno⟩
      simp only [ckVal] at LA
      clear JA BY JS
      go_wp2_with fail
      refine (LA _).mono ?_
      rintro e w1 (⟨rfl, J1⟩ | ⟨rfl, BE, hbad⟩)
      · clear LA x0 x1 x2 x3 x4 x5 x6 x7 x8 x9 x10 x11
        go_wp2_with fail
        go_roundw
        case rel => exact ⟨j + 1, by omega, by go_num, J1⟩
        case measure => simp [intOf]; omega
      · have HB : Hid (joinB l = false ∧ joinD l = []) := join_bad hbad
        clear LA x0 x1 x2 x3 x4 x5 x6 x7 x8 x9 x10 x11 hbad
        go_wp2_with fail
        go_ret2
        rw [HB.out.1, HB.out.2]
        exact ⟨_, rfl, By.nil _ _, BE⟩
    · have hje : j = l.length := by omega
      subst hje
      obtain ⟨j1, j2, j3, j4, j5, j6, ⟨hs, ds, g1, g2, g3, g4, g5, g6⟩, j8⟩ := JS
      rw [List.take_length] at j8 g6
      have HG : Hid (joinB l = decide (0 < l.length) ∧ joinD l = ((List.range l.length).map (dataAt l)).flatten) := join_good j8
      have BB : BbS wr.heap.size wr (.slice (some ⟨w.heap.size + 1, 0, none⟩) l.length l.length) ((List.range l.length).map (dataAt l)) := by
        refine BbS.of_cells g4 j6 g2 (by simp) (by omega) fun k u x e e' => ?_
        have hk : k < l.length := by rw [← g2]; exact (List.getElem?_eq_some_iff.1 e).1
        obtain ⟨u', hu', hb⟩ := g6 k hk
        rw [hu'] at e
        simp only [Option.some.injEq] at e
        subst e
        simp [hk] at e'
        subst e'
        exact hb.mono j1.size
      have CC := concat_any _ _ wr BB HL.out
      clear BB g3 g4 g5 g6 j8 hs ds g1 g2
      go_wp2_with fail
      refine CC.mono ?_
      rintro e w1 ⟨v1, rfl, by1, b1⟩
      have BE := j1.trans (b1.mono j1.size)
      clear CC
      rw [← HG.out.2] at by1
      obtain ⟨a1, cap1, e1, -, -⟩ := by1.ex
      subst e1
      generalize (joinD l).length = nl at *
      go_wp2_with fail
      go_ret2
      rw [HG.out.1]
      exact ⟨_, rfl, by1, BE⟩
end Go.Proofs.Ytnddejdndipddad
