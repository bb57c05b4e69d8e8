/- The contract of Add, of package serial. -/
import Derived.Test.YtnddejdndipddaaF
set_option maxRecDepth 20000
namespace Go.Proofs.Ytnddejdndipddaa
open Go.RowKit

/-- Where a piece of a slice begins. -/
def reA (a : Option Addr) (cap lo : Nat) : Option Addr := if cap = lo then a else a.map (·.add (lo * 2))

theorem run_sl_l (a : Option Addr) (n cap lo : Nat) (h : lo ≤ n) (wx : World) : (Instr.slice 22 (.slice a n cap) (some (.int .i64 lo)) none none).run Try.prog wx = .ok (.slice (reA a cap lo) (n - lo) (cap - lo)) wx := by
  go_simp
  rfl
theorem run_sl_lh (a : Option Addr) (n cap lo d : Nat) (h : lo + d ≤ n) (h' : n ≤ cap) (wx : World) : (Instr.slice 22 (.slice a n cap) (some (.int .i64 (lo : Int))) (some (.int .i64 ((lo : Int) + (d : Int)))) none).run Try.prog wx = .ok (.slice (reA a cap lo) d (cap - lo)) wx := by
  have h1 : (0 : Int) ≤ lo := by omega
  have h2 : (lo : Int) ≤ lo + d := by omega
  have h3 : (lo : Int) + d ≤ cap := by omega
  rw [run_slice_lh wx 22 a n cap Try.underlying22 .i64 .i64 (lo : Int) ((lo : Int) + d) h1 h2 h3]
  go_simp
  rw [show ((lo : Int) + d).toNat - lo = d by omega]
  exact ⟨rfl, rfl⟩
theorem run_sl_h (a : Option Addr) (n cap hi : Nat) (h : hi ≤ n) (h' : n ≤ cap) (wx : World) : (Instr.slice 22 (.slice a n cap) none (some (.int .i64 (hi : Int))) none).run Try.prog wx = .ok (.slice a hi cap) wx := by
  have h1 : (0 : Int) ≤ hi := by omega
  have h2 : (hi : Int) ≤ cap := by omega
  rw [run_slice_h wx 22 a n cap Try.underlying22 .i64 (hi : Int) h1 h2]
  go_simp
theorem run_sl_l2 (a : Option Addr) (n cap lo d : Nat) (h : lo + d ≤ n) (wx : World) : (Instr.slice 22 (.slice a n cap) (some (.int .i64 ((lo : Int) + (d : Int)))) none none).run Try.prog wx = .ok (.slice (reA a cap (lo + d)) (n - (lo + d)) (cap - (lo + d))) wx := by
  have := run_sl_l a n cap (lo + d) h wx
  rw [Int.natCast_add] at this
  exact this

/-- A place in a slice of spans. -/
theorem Sl.at {B : Nat} {w : World} {a : Option Addr} {n cap : Nat} {l : List Sp} (h : Sl B w (.slice a n cap) l) (k : Nat) (hk : k < l.length) :
    ∃ b off, b < B ∧ (∀ wx, (Instr.indexAt 22 (.slice a n cap) (.int .i64 (k : Int))).run Try.prog wx = .ok (.pointer (some ⟨b, off, none⟩)) wx) ∧
      w.cell? ⟨b, off, none⟩ = some (.int .i64 l[k].1) ∧ w.cell? ⟨b, off + 1, none⟩ = some (.int .i64 l[k].2) := by
  obtain ⟨a', cap', he, g1, g2, g0, g3, g4⟩ := h
  simp only [Value.slice.injEq] at he
  obtain ⟨rfl, rfl, rfl⟩ := he
  obtain ⟨b, off, rfl, hb, hat⟩ := g4 (by rintro rfl; simp at hk)
  refine ⟨b, off + k * 2, hb, fun wx => ?_, hat k l[k] (by simp)⟩
  have : (k : Int) < l.length := by omega
  go_simp

/-- A piece of a slice, as the walk writes it. -/
theorem Sl.re {B : Nat} {w : World} {a : Option Addr} {n cap : Nat} {l : List Sp} (h : Sl B w (.slice a n cap) l) (lo d : Nat) (h2 : lo + d ≤ l.length) : Sl B w (.slice (reA a cap lo) d (cap - lo)) ((l.drop lo).take d) := by
  obtain ⟨a', cap', he, g⟩ := h
  simp only [Value.slice.injEq] at he
  obtain ⟨rfl, rfl, rfl⟩ := he
  have := Sl.piece ⟨a, cap, rfl, g⟩ lo (lo + d) (by omega) h2
  rw [List.drop_take, show lo + d - lo = d by omega] at this
  simp only [sliced, show lo + d - lo = d by omega] at this
  exact this
theorem Sl.re_end {B : Nat} {w : World} {a : Option Addr} {n cap : Nat} {l : List Sp} (h : Sl B w (.slice a n cap) l) (lo : Nat) (h2 : lo ≤ l.length) : Sl B w (.slice (reA a cap lo) (l.length - lo) (cap - lo)) (l.drop lo) := by
  have := h.re lo (l.length - lo) (by omega)
  rwa [List.take_of_length_le (by simp)] at this
theorem Sl.head {B : Nat} {w : World} {a : Option Addr} {n cap : Nat} {l : List Sp} (h : Sl B w (.slice a n cap) l) (d : Nat) (h2 : d ≤ l.length) : Sl B w (.slice a d cap) (l.take d) := by
  have := h.re 0 d (by omega)
  rw [List.drop_zero, Nat.sub_zero] at this
  have e : reA a cap 0 = a := by simp [reA, Addr.add]
  rwa [e] at this
theorem Sl.len {B : Nat} {w : World} {a : Option Addr} {n cap : Nat} {l : List Sp} (h : Sl B w (.slice a n cap) l) : n = l.length ∧ n ≤ cap ∧ cap ≤ 9223372036854775807 ∧ Fit l := by
  obtain ⟨a', cap', he, g1, g2, g0, g3, g4⟩ := h
  simp only [Value.slice.injEq] at he
  obtain ⟨rfl, rfl, rfl⟩ := he
  exact ⟨rfl, g1, g2, g3⟩

/-- One span out of many and a number: the least, the greatest. -/
def joinM (n : Int) (m : List Sp) : Sp := m.foldl (fun o s => (min o.1 s.1, max o.2 s.2)) (n, n)
theorem joinM_snoc (n : Int) (m : List Sp) (k : Nat) (h : k < m.length) : joinM n (m.take (k + 1)) = (min (joinM n (m.take k)).1 m[k].1, max (joinM n (m.take k)).2 m[k].2) := by
  rw [List.take_succ_eq_append_getElem h, joinM, List.foldl_append]
  rfl

/-- The cells that make lays for so many spans. -/
def madeSp (c : Nat) : Array Value := madeCells #[.int .i64 0, .int .i64 0] (c * 2)
theorem run_mk (c : Int) (k : Nat) (hc : c = k) (h : k * 16 ≤ 281474976710656) (wx : World) : (Instr.makeSlice 22 (.int .i64 0) (.int .i64 c)).run Try.prog wx = .ok (.slice (some ⟨wx.heap.size, 0, none⟩) 0 k) (wx.alloc (.cells (madeSp k) 49)) := by
  subst hc
  obtain ⟨i0, hi, hz0, hz1, hz2⟩ := info_parts Try.info49
  have := run_make (P := Try.prog) wx 22 49 i0 (.agg #[.int .i64 0, .int .i64 0]) Try.underlying22 hi hz0 .i64 .i64 0 (k : Int) (Int.le_refl _) (by omega) (by rw [hz2]; omega) (by omega)
  rw [hz1] at this
  exact this
theorem own_mk (wx : World) (k : Nat) (h : k * 16 ≤ 281474976710656) : (wx.alloc (.cells (madeSp k) 49)).ownsRow wx.heap.size 49 2 (.slice (some ⟨wx.heap.size, 0, none⟩) 0 k) 0 [] :=
  World.ownsRow_made wx _ k (Nat.le_refl _) (by unfold maxLen; omega) (size_madeCells _ _)

/-- A slice of one span, new. -/
theorem Sl.one (w : World) (x y : Int) (hx : I64 x) (hy : I64 y) : Sl (w.heap.size + 1) (w.alloc (.cells #[.int .i64 x, .int .i64 y] 49)) (.slice (some ⟨w.heap.size, 0, none⟩) 1 1) [(x, y)] := by
  refine ⟨some ⟨w.heap.size, 0, none⟩, 1, rfl, by simp, by omega, fun h => by simp at h, ?_, fun _ => ⟨w.heap.size, 0, rfl, by omega, ?_⟩⟩
  · intro s hs; simp at hs; subst hs; exact ⟨hx, hy⟩
  · intro k s hs
    match k, hs with
    | 0, hs =>
      simp at hs
      subst hs
      constructor <;> (rw [World.cell?_alloc_at _ _ _ _ rfl]; rfl)

/-- What Add makes. -/
def addM (l : List Sp) (n : Int) : List Sp :=
  l.take (scan (soAdd1 n) n l).1 ++ joinM n ((l.drop (scan (soAdd1 n) n l).1).take (scan (soAdd2 n) n (l.drop (scan (soAdd1 n) n l).1)).1) ::
    l.drop ((scan (soAdd1 n) n l).1 + (scan (soAdd2 n) n (l.drop (scan (soAdd1 n) n l).1)).1)

theorem joinM_fit (n : Int) (m : List Sp) (hn : I64 n) (hm : Fit m) : I64 (joinM n m).1 ∧ I64 (joinM n m).2 := by
  have : ∀ (m : List Sp) (o : Sp), I64 o.1 → I64 o.2 → Fit m → I64 (m.foldl (fun o s => (min o.1 s.1, max o.2 s.2)) o).1 ∧ I64 (m.foldl (fun o s => (min o.1 s.1, max o.2 s.2)) o).2 := by
    intro m
    induction m with
    | nil => intro o h1 h2 _; exact ⟨h1, h2⟩
    | cons s r ih =>
      intro o h1 h2 h3
      have hs := h3 s (by simp)
      refine ih _ ?_ ?_ (fun x hx => h3 x (by simp [hx]))
      · show I64 (min o.1 s.1); unfold I64 at *; omega
      · show I64 (max o.2 s.2); unfold I64 at *; omega
  exact this m (n, n) hn hn hm

theorem two_stored {w : World} {X : Nat} {u0 u1 : Value} (hc0 : w.cell? ⟨X, 0, none⟩ = some u0) (hc1 : w.cell? ⟨X, 1, none⟩ = some u1) (hf0 : w.frozen? ⟨X, 0, none⟩ = false) (hf1 : w.frozen? ⟨X, 1, none⟩ = false) (hX : X < w.heap.size) (v0 v1 : Value) (o : Obj) :
    (((w.setCell ⟨X, 0, none⟩ v0).setCell ⟨X, 1, none⟩ v1).alloc o).cell? ⟨X, 0, none⟩ = some v0 ∧ (((w.setCell ⟨X, 0, none⟩ v0).setCell ⟨X, 1, none⟩ v1).alloc o).cell? ⟨X, 1, none⟩ = some v1 ∧
    (((w.setCell ⟨X, 0, none⟩ v0).setCell ⟨X, 1, none⟩ v1).alloc o).frozen? ⟨X, 0, none⟩ = false ∧ (((w.setCell ⟨X, 0, none⟩ v0).setCell ⟨X, 1, none⟩ v1).alloc o).frozen? ⟨X, 1, none⟩ = false ∧
    Below X w (((w.setCell ⟨X, 0, none⟩ v0).setCell ⟨X, 1, none⟩ v1).alloc o) ∧ X < (((w.setCell ⟨X, 0, none⟩ v0).setCell ⟨X, 1, none⟩ v1).alloc o).heap.size := by
  have hs : X < ((w.setCell ⟨X, 0, none⟩ v0).setCell ⟨X, 1, none⟩ v1).heap.size := by simpa [World.setCell] using hX
  have e0 : (w.setCell ⟨X, 0, none⟩ v0).cell? ⟨X, 0, none⟩ = some v0 := World.cell?_setCell_same' _ _ _ (by rw [hc0]; rfl)
  have e1 : (w.setCell ⟨X, 0, none⟩ v0).cell? ⟨X, 1, none⟩ = some u1 := by rw [World.cell?_setCell_other _ _ _ _ (by simp)]; exact hc1
  have e2 : ((w.setCell ⟨X, 0, none⟩ v0).setCell ⟨X, 1, none⟩ v1).cell? ⟨X, 0, none⟩ = some v0 := by rw [World.cell?_setCell_other _ _ _ _ (by simp)]; exact e0
  have e3 : ((w.setCell ⟨X, 0, none⟩ v0).setCell ⟨X, 1, none⟩ v1).cell? ⟨X, 1, none⟩ = some v1 := World.cell?_setCell_same' _ _ _ (by rw [e1]; rfl)
  have b1 : Below X w ((w.setCell ⟨X, 0, none⟩ v0).setCell ⟨X, 1, none⟩ v1) := ((Below.refl X w).setCell (p := ⟨X, 0, none⟩) (Nat.le_refl _) _).setCell (p := ⟨X, 1, none⟩) (Nat.le_refl _) _
  refine ⟨?_, ?_, ?_, ?_, b1.alloc (Nat.le_of_lt hs) _, by simp; simpa using Nat.lt_succ_of_lt hs⟩
  · rw [World.cell?_alloc_past _ _ _ hs]; exact e2
  · rw [World.cell?_alloc_past _ _ _ hs]; exact e3
  · rw [World.frozen?_alloc_past _ _ _ hs]; simpa using hf0
  · rw [World.frozen?_alloc_past _ _ _ hs]; simpa using hf1

theorem grown_below {W w' : World} {base n : Nat} {v : Value} {xs : List Value} (hown : W.ownsRow base 49 2 v n xs) (hg : W.grownBy w' v.ownBlock) (hb : base ≤ W.heap.size) : Below base W w' :=
  (Below.refl base W).grown hg hb fun k hk => (hown.lt k hk).1

set_option maxHeartbeats 400000 in
theorem add_any (v : Value) (l : List Sp) (n : Int) (w : World) (hv : Sl w.heap.size w v l) (hn : I64 n) (hl : (l.length + 1) * 16 ≤ 281474976710656) :
    Calls Try.prog 19 #[v, .int .i64 n] w fun e w' => ∃ v', e = .returned v' ∧ Sl w'.heap.size w' v' (addM l n) ∧ Below w.heap.size w w' := by
  have hmf : ∀ (fn : Fn) (first cap : Array Value) (w : World), (Instr.makeFunc fn first cap).run Try.prog w = .ok (.func fn first cap) w := fun _ _ _ _ => rfl
  have hv' := hv
  obtain ⟨a, cap, rfl, h1, h2, h0, h3, h4⟩ := hv
  clear h4 h0
  go_enter Try.func19, Try.ntmps19
  go_wp2_with fail
  refine (first_any 35 w.heap.size _ l (soAdd1 n) (fun c => c = n) n _ (hv'.below (box_below w _) (Nat.le_refl _)) (by simp) (box_cell _ _ _) (box_frozen _ _ _) rfl enters_Add_1 (asks_add1 _ _ _ hn h3)).mono ?_
  rintro e w1 ⟨rfl, hI1, hc1, hf1, hb⟩
  have hle := scan_le (soAdd1 n) l n
  have hb2 := (box_below w (.cells #[.int .i64 n] 3)).trans hb
  have hv2 := hv'.below hb2 (Nat.le_refl _)
  have hw1 : w.heap.size < w1.heap.size := by have := hb.size; simp at this; omega
  rw [hI1] at hc1
  clear hb hI1
  generalize hk : (scan (soAdd1 n) n l).1 = f at *
  have HK : Hid ((scan (soAdd1 n) n l).1 = f) := hk
  clear hk
  have hsl := run_sl_l a l.length cap f hle
  go_wp2_with fail
  refine (first_any 36 w.heap.size _ (l.drop f) (soAdd2 n) (fun c => c = n) n _ (hv2.re_end f hle) hw1 hc1 hf1 rfl enters_Add_2 (asks_add2 _ _ _ hn (h3.drop _))).mono ?_
  rintro e w2 ⟨rfl, hI2, hc2, hf2, hb3⟩
  have hle2 := scan_le (soAdd2 n) (l.drop f) n
  have hb4 := hb2.trans hb3
  have hv3 := hv'.below hb4 (Nat.le_refl _)
  have hw2 : w.heap.size < w2.heap.size := by have := hb3.size; omega
  rw [hI2] at hc2
  clear hb2 hb3 hI2 hsl hv2 hv' hc1 hf1 hw1
  generalize hk : (scan (soAdd2 n) n (l.drop f)).1 = d at *
  have HK2 : Hid ((scan (soAdd2 n) n (l.drop f)).1 = d) := hk
  clear hk
  rw [List.length_drop] at hle2
  have hfd : f + d ≤ l.length := by omega
  have hsl2 := run_sl_lh a l.length cap f d hfd h1
  go_wp2
  have hone : (w2.alloc (.cells #[.int .i64 n, .int .i64 n] 49)).cell? ⟨w2.heap.size, 0, none⟩ = some (.int .i64 n) ∧ (w2.alloc (.cells #[.int .i64 n, .int .i64 n] 49)).cell? ⟨w2.heap.size, 1, none⟩ = some (.int .i64 n) ∧
      (w2.alloc (.cells #[.int .i64 n, .int .i64 n] 49)).frozen? ⟨w2.heap.size, 0, none⟩ = false ∧ (w2.alloc (.cells #[.int .i64 n, .int .i64 n] 49)).frozen? ⟨w2.heap.size, 1, none⟩ = false := by
    refine ⟨?_, ?_, World.frozen?_alloc_at _ _ _ _ rfl, World.frozen?_alloc_at _ _ _ _ rfl⟩ <;> (rw [World.cell?_alloc_at _ _ _ _ rfl]; rfl)
  have HV := hv3.re f d hfd
  generalize hm : (l.drop f).take d = m at *
  have hml : m.length = d := by rw [← hm]; simp; omega
  have HM : Hid ((l.drop f).take d = m) := hm
  clear hm hsl2
  go_loopw [29] (fun i wr => ∃ (k : Nat), k ≤ d ∧ i = .int .i64 k ∧ wr.cell? ⟨w2.heap.size, 0, none⟩ = some (.int .i64 (joinM n (m.take k)).1) ∧ wr.cell? ⟨w2.heap.size, 1, none⟩ = some (.int .i64 (joinM n (m.take k)).2) ∧
      wr.frozen? ⟨w2.heap.size, 0, none⟩ = false ∧ wr.frozen? ⟨w2.heap.size, 1, none⟩ = false ∧ Below w2.heap.size w2 wr ∧ w2.heap.size < wr.heap.size)
    (fun i _ => d - (intOf i).toNat)
  case atStart => exact ⟨0, Nat.zero_le _, rfl, hone.1, hone.2.1, hone.2.2.1, hone.2.2.2, box_below _ _, by simp⟩
  case round =>
    obtain ⟨k, hk, rfl, hc0, hc1, hf0, hf1, hbel, hsz⟩ := hrel
    by_cases hlt : k < d
    · obtain ⟨b, off, hb, hix, hx0, hx1⟩ := (HV.below (hbel.mono (Nat.le_of_lt hw2)) (Nat.le_refl _)).at k (by omega)
      have HJ : Hid _ := joinM_snoc n m k (by omega)
      clear hc2 hf2
      go_wp2
      go_roundw
      case rel =>
        have R := two_stored hc0 hc1 hf0 hf1 hsz
        rename_i hq
        clear hq
        refine ⟨k + 1, by omega, by go_num, ?_, ?_, (R _ _ _).2.2.1, (R _ _ _).2.2.2.1, hbel.trans (R _ _ _).2.2.2.2.1, (R _ _ _).2.2.2.2.2⟩
        · rw [HJ.out, (R _ _ _).1]; congr 2; omega
        · rw [HJ.out, (R _ _ _).2.1]; congr 2; omega
      case measure => simp [intOf]; omega
    · have hkd : k = d := by omega
      have ej : m.take k = m := List.take_of_length_le (by omega)
      rw [ej] at hc0 hc1
      have hj := joinM_fit n m hn HV.len.2.2.2
      have hmk := run_mk ((f : Int) + 1 + (l.length : Int) - ((f : Int) + (d : Int))) (l.length + 1 - d) (by omega) (by omega)
      have own0 := own_mk wr (l.length + 1 - d) (by omega)
      have hbw : Below w.heap.size w2 wr := hbel.mono (Nat.le_of_lt hw2)
      have hsl3 := run_sl_h a l.length cap f hle h1
      have hsl4 := run_sl_l2 a l.length cap f d hfd
      have HO := own0
      have HB : Hid (Below w.heap.size w (wr.alloc (.cells (madeSp (l.length + 1 - d)) 49))) := (hb4.trans hbw).alloc (by omega) _
      have HA : Hid (addM l n = l.take f ++ joinM n m :: l.drop (f + d)) := by show _ = _; simp only [addM]; rw [HK.out, HK2.out, HM.out]
      clear hone ej hc2 hf2 hkd own0
      generalize joinM n m = j at *
      have HV3 : ∀ wx, Below w.heap.size w2 wx → Sl w.heap.size wx (.slice a f cap) (l.take f) ∧ Sl w.heap.size wx (.slice (reA a cap (f + d)) (l.length - (f + d)) (cap - (f + d))) (l.drop (f + d)) :=
        fun wx hx => ⟨(hv3.below hx (Nat.le_refl _)).head f hle, (hv3.below hx (Nat.le_refl _)).re_end (f + d) hfd⟩
      go_wp2_with (first
        | (at_builtin; refine wpList_append_fit _ rfl (.tmp 54) (.tmp 57) rfl wr.heap.size wr.heap.size 0 (l.length + 1 - d) [] rfl HO w.heap.size (l.take f) (.slice a f cap) rfl (HV3 _ (hbw.alloc (by omega) _)).1 (by simp; omega) ?_; intro w4 own4 grow4; have B4 := (box_below wr _).trans (grown_below HO grow4 (by simp)); have c40 := (B4.cell (p := ⟨w2.heap.size, 0, none⟩) hsz).trans hc0; have c41 := (B4.cell (p := ⟨w2.heap.size, 1, none⟩) hsz).trans hc1; rw [show 0 + (l.take f).length = f by simp; omega] at own4 ⊢; rw [List.nil_append] at own4; clear grow4)
        | (at_builtin; refine wpList_append_fit _ rfl (.tmp 59) (.tmp 61) rfl wr.heap.size wr.heap.size f (l.length + 1 - d) _ rfl (own4.alloc _) (w4.heap.size + 1) [(j.1, j.2)] (.slice (some ⟨w4.heap.size, 0, none⟩) 1 1) rfl (Sl.one w4 j.1 j.2 hj.1 hj.2) (by simp; omega) ?_; intro w5 own5 grow5; have B5 := (B4.alloc B4.size _).trans (grown_below (own4.alloc _) grow5 (by have := B4.size; simp; omega)); rw [List.length_singleton] at own5 ⊢; clear grow5)
        | (at_builtin; refine wpList_append_fit _ rfl (.tmp 63) (.tmp 66) rfl wr.heap.size wr.heap.size (f + 1) (l.length + 1 - d) _ rfl own5 w.heap.size (l.drop (f + d)) _ rfl (HV3 w5 (hbw.trans (B5.mono (by omega)))).2 (by simp; omega) ?_; intro w6 own6 grow6; have B6 := B5.trans (grown_below own5 grow6 B5.size); clear grow6)
        | fail)
      go_ret
      have hfin : w6.ownsRow wr.heap.size 49 2 (.slice (some ⟨wr.heap.size, 0, none⟩) (f + 1 + (l.length - (f + d))) (l.length + 1 - d)) (l.take f ++ j :: l.drop (f + d)).length (flat (l.take f ++ j :: l.drop (f + d))) := by
        have e1 : flat (l.take f ++ j :: l.drop (f + d)) = flat (l.take f) ++ flat [(j.1, j.2)] ++ flat (l.drop (f + d)) := by simp [flat_append, flat_cons, flat_nil]
        have e2 : (l.take f ++ j :: l.drop (f + d)).length = f + 1 + (l.length - (f + d)) := by simp; omega
        rw [List.length_drop] at own6
        rw [e1, e2]
        exact own6
      rw [HA.out]
      exact ⟨_, rfl, Sl.own hfin ((h3.take _).append (fun s hs => (List.mem_cons.1 hs).elim (fun e => e ▸ hj) (h3.drop _ s))), (hb4.trans hbw).trans (B6.mono (by omega))⟩

end Go.Proofs.Ytnddejdndipddaa
