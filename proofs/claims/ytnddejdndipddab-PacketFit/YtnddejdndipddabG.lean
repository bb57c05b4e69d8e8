/- The contract of Add, of package serial. -/
import Derived.Test.YtnddejdndipddabF
set_option maxRecDepth 20000
namespace Go.Proofs.Ytnddejdndipddab
open Go.RowKit

/-- Where a piece of a slice begins. -/
def reA (a : Option Addr) (cap lo : Nat) : Option Addr := if cap = lo then a else a.map (·.add (lo * 2))

theorem run_sl_l (a : Option Addr) (n cap lo : Nat) (h : lo ≤ n) (wx : World) : (Instr.slice 42 (.slice a n cap) (some (.int .i64 lo)) none none).run Try.prog wx = .ok (.slice (reA a cap lo) (n - lo) (cap - lo)) wx := by
  go_simp
  rfl
theorem run_sl_lh (a : Option Addr) (n cap lo d : Nat) (h : lo + d ≤ n) (h' : n ≤ cap) (wx : World) : (Instr.slice 42 (.slice a n cap) (some (.int .i64 (lo : Int))) (some (.int .i64 ((lo : Int) + (d : Int)))) none).run Try.prog wx = .ok (.slice (reA a cap lo) d (cap - lo)) wx := by
  have h1 : (0 : Int) ≤ lo := by omega
  have h2 : (lo : Int) ≤ lo + d := by omega
  have h3 : (lo : Int) + d ≤ cap := by omega
  rw [run_slice_lh wx 42 a n cap Try.underlying42 .i64 .i64 (lo : Int) ((lo : Int) + d) h1 h2 h3]
  go_simp
  rw [show ((lo : Int) + d).toNat - lo = d by omega]
  exact ⟨rfl, rfl⟩
theorem run_sl_h (a : Option Addr) (n cap hi : Nat) (h : hi ≤ n) (h' : n ≤ cap) (wx : World) : (Instr.slice 42 (.slice a n cap) none (some (.int .i64 (hi : Int))) none).run Try.prog wx = .ok (.slice a hi cap) wx := by
  have h1 : (0 : Int) ≤ hi := by omega
  have h2 : (hi : Int) ≤ cap := by omega
  rw [run_slice_h wx 42 a n cap Try.underlying42 .i64 (hi : Int) h1 h2]
  go_simp
theorem run_sl_l2 (a : Option Addr) (n cap lo d : Nat) (h : lo + d ≤ n) (wx : World) : (Instr.slice 42 (.slice a n cap) (some (.int .i64 ((lo : Int) + (d : Int)))) none none).run Try.prog wx = .ok (.slice (reA a cap (lo + d)) (n - (lo + d)) (cap - (lo + d))) wx := by
  have := run_sl_l a n cap (lo + d) h wx
  rw [Int.natCast_add] at this
  exact this

/-- A place in a slice of spans. -/
theorem Sl.at {B : Nat} {w : World} {a : Option Addr} {n cap : Nat} {l : List Sp} (h : Sl B w (.slice a n cap) l) (k : Nat) (hk : k < l.length) :
    ∃ b off, b < B ∧ (∀ wx, (Instr.indexAt 42 (.slice a n cap) (.int .i64 (k : Int))).run Try.prog wx = .ok (.pointer (some ⟨b, off, none⟩)) wx) ∧
      w.cell? ⟨b, off, none⟩ = some (.int .i64 l[k].1) ∧ w.cell? ⟨b, off + 1, none⟩ = some (.int .i64 l[k].2) := by
  obtain ⟨a', cap', he, g1, g2, g0, g3, g4⟩ := h
  simp only [Value.slice.injEq] at he
  obtain ⟨rfl, rfl, rfl⟩ := he
  obtain ⟨b, off, rfl, hb, hat⟩ := g4 (by rintro rfl; simp at hk)
  refine ⟨b, off + k * 2, hb, fun wx => ?_, hat k l[k] (by simp)⟩
  have : (k : Int) < l.length := by omega
  go_simp

/-- A piece of a slice, as the walk writes it. -/
theorem Sl.re {B : Nat} {w : World} {a : Option Addr} {n cap : Nat} {l : List Sp} (h : Sl B w (.slice a n cap) l) (lo d : Nat) (h2 : lo + d ≤ l.length) : Sl B w (.slice (reA a cap lo) d (cap - lo)) ((l.drop lo).take d) := by
  obtain ⟨a', cap', he, g⟩ := h
  simp only [Value.slice.injEq] at he
  obtain ⟨rfl, rfl, rfl⟩ := he
  have := Sl.piece ⟨a, cap, rfl, g⟩ lo (lo + d) (by omega) h2
  rw [List.drop_take, show lo + d - lo = d by omega] at this
  simp only [sliced, show lo + d - lo = d by omega] at this
  exact this
theorem Sl.re_end {B : Nat} {w : World} {a : Option Addr} {n cap : Nat} {l : List Sp} (h : Sl B w (.slice a n cap) l) (lo : Nat) (h2 : lo ≤ l.length) : Sl B w (.slice (reA a cap lo) (l.length - lo) (cap - lo)) (l.drop lo) := by
  have := h.re lo (l.length - lo) (by omega)
  rwa [List.take_of_length_le (by simp)] at this
theorem Sl.head {B : Nat} {w : World} {a : Option Addr} {n cap : Nat} {l : List Sp} (h : Sl B w (.slice a n cap) l) (d : Nat) (h2 : d ≤ l.length) : Sl B w (.slice a d cap) (l.take d) := by
  have := h.re 0 d (by omega)
  rw [List.drop_zero, Nat.sub_zero] at this
  have e : reA a cap 0 = a := by simp [reA, Addr.add]
  rwa [e] at this
theorem Sl.len {B : Nat} {w : World} {a : Option Addr} {n cap : Nat} {l : List Sp} (h : Sl B w (.slice a n cap) l) : n = l.length ∧ n ≤ cap ∧ cap ≤ 9223372036854775807 ∧ Fit l := by
  obtain ⟨a', cap', he, g1, g2, g0, g3, g4⟩ := h
  simp only [Value.slice.injEq] at he
  obtain ⟨rfl, rfl, rfl⟩ := he
  exact ⟨rfl, g1, g2, g3⟩

/-- One span out of many and a number: the least, the greatest. -/
def joinM (n : Int) (m : List Sp) : Sp := m.foldl (fun o s => (min o.1 s.1, max o.2 s.2)) (n, n)
theorem joinM_snoc (n : Int) (m : List Sp) (k : Nat) (h : k < m.length) : joinM n (m.take (k + 1)) = (min (joinM n (m.take k)).1 m[k].1, max (joinM n (m.take k)).2 m[k].2) := by
  rw [List.take_succ_eq_append_getElem h, joinM, List.foldl_append]
  rfl

/-- The cells that make lays for so many spans. -/
def madeSp (c : Nat) : Array Value := madeCells #[.int .i64 0, .int .i64 0] (c * 2)
theorem run_mk (c : Int) (k : Nat) (hc : c = k) (h : k * 16 ≤ 281474976710656) (wx : World) : (Instr.makeSlice 42 (.int .i64 0) (.int .i64 c)).run Try.prog wx = .ok (.slice (some ⟨wx.heap.size, 0, none⟩) 0 k) (wx.alloc (.cells (madeSp k) 87)) := by
  subst hc
  obtain ⟨i0, hi, hz0, hz1, hz2⟩ := info_parts Try.info87
  have := run_make (P := Try.prog) wx 42 87 i0 (.agg #[.int .i64 0, .int .i64 0]) Try.underlying42 hi hz0 .i64 .i64 0 (k : Int) (Int.le_refl _) (by omega) (by rw [hz2]; omega) (by omega)
  rw [hz1] at this
  exact this
theorem own_mk (wx : World) (k : Nat) (h : k * 16 ≤ 281474976710656) : (wx.alloc (.cells (madeSp k) 87)).ownsRow wx.heap.size 87 2 (.slice (some ⟨wx.heap.size, 0, none⟩) 0 k) 0 [] :=
  World.ownsRow_made wx _ k (Nat.le_refl _) (by unfold maxLen; omega) (size_madeCells _ _)

/-- A slice of one span, new. -/
theorem Sl.one (w : World) (x y : Int) (hx : I64 x) (hy : I64 y) : Sl (w.heap.size + 1) (w.alloc (.cells #[.int .i64 x, .int .i64 y] 87)) (.slice (some ⟨w.heap.size, 0, none⟩) 1 1) [(x, y)] := by
  refine ⟨some ⟨w.heap.size, 0, none⟩, 1, rfl, by simp, by omega, fun h => by simp at h, ?_, fun _ => ⟨w.heap.size, 0, rfl, by omega, ?_⟩⟩
  · intro s hs; simp at hs; subst hs; exact ⟨hx, hy⟩
  · intro k s hs
    match k, hs with
    | 0, hs =>
      simp at hs
      subst hs
      constructor <;> (rw [World.cell?_alloc_at _ _ _ _ rfl]; rfl)

/-- What Add makes. -/
def addM (l : List Sp) (n : Int) : List Sp :=
  l.take (scan (soAdd1 n) n l).1 ++ joinM n ((l.drop (scan (soAdd1 n) n l).1).take (scan (soAdd2 n) n (l.drop (scan (soAdd1 n) n l).1)).1) ::
    l.drop ((scan (soAdd1 n) n l).1 + (scan (soAdd2 n) n (l.drop (scan (soAdd1 n) n l).1)).1)

theorem joinM_fit (n : Int) (m : List Sp) (hn : I64 n) (hm : Fit m) : I64 (joinM n m).1 ∧ I64 (joinM n m).2 := by
  have : ∀ (m : List Sp) (o : Sp), I64 o.1 → I64 o.2 → Fit m → I64 (m.foldl (fun o s => (min o.1 s.1, max o.2 s.2)) o).1 ∧ I64 (m.foldl (fun o s => (min o.1 s.1, max o.2 s.2)) o).2 := by
    intro m
    induction m with
    | nil => intro o h1 h2 _; exact ⟨h1, h2⟩
    | cons s r ih =>
      intro o h1 h2 h3
      have hs := h3 s (by simp)
      refine ih _ ?_ ?_ (fun x hx => h3 x (by simp [hx]))
      · show I64 (min o.1 s.1); unfold I64 at *; omega
      · show I64 (max o.2 s.2); unfold I64 at *; omega
  exact this m (n, n) hn hn hm

theorem two_stored {w : World} {X : Nat} {u0 u1 : Value} (hc0 : w.cell? ⟨X, 0, none⟩ = some u0) (hc1 : w.cell? ⟨X, 1, none⟩ = some u1) (hf0 : w.frozen? ⟨X, 0, none⟩ = false) (hf1 : w.frozen? ⟨X, 1, none⟩ = false) (hX : X < w.heap.size) (v0 v1 : Value) (o : Obj) :
    (((w.setCell ⟨X, 0, none⟩ v0).setCell ⟨X, 1, none⟩ v1).alloc o).cell? ⟨X, 0, none⟩ = some v0 ∧ (((w.setCell ⟨X, 0, none⟩ v0).setCell ⟨X, 1, none⟩ v1).alloc o).cell? ⟨X, 1, none⟩ = some v1 ∧
    (((w.setCell ⟨X, 0, none⟩ v0).setCell ⟨X, 1, none⟩ v1).alloc o).frozen? ⟨X, 0, none⟩ = false ∧ (((w.setCell ⟨X, 0, none⟩ v0).setCell ⟨X, 1, none⟩ v1).alloc o).frozen? ⟨X, 1, none⟩ = false ∧
    Below X w (((w.setCell ⟨X, 0, none⟩ v0).setCell ⟨X, 1, none⟩ v1).alloc o) ∧ X < (((w.setCell ⟨X, 0, none⟩ v0).setCell ⟨X, 1, none⟩ v1).alloc o).heap.size := by
  have hs : X < ((w.setCell ⟨X, 0, none⟩ v0).setCell ⟨X, 1, none⟩ v1).heap.size := by simpa [World.setCell] using hX
  have e0 : (w.setCell ⟨X, 0, none⟩ v0).cell? ⟨X, 0, none⟩ = some v0 := World.cell?_setCell_same' _ _ _ (by rw [hc0]; rfl)
  have e1 : (w.setCell ⟨X, 0, none⟩ v0).cell? ⟨X, 1, none⟩ = some u1 := by rw [World.cell?_setCell_other _ _ _ _ (by simp)]; exact hc1
  have e2 : ((w.setCell ⟨X, 0, none⟩ v0).setCell ⟨X, 1, none⟩ v1).cell? ⟨X, 0, none⟩ = some v0 := by rw [World.cell?_setCell_other _ _ _ _ (by simp)]; exact e0
  have e3 : ((w.setCell ⟨X, 0, none⟩ v0).setCell ⟨X, 1, none⟩ v1).cell? ⟨X, 1, none⟩ = some v1 := World.cell?_setCell_same' _ _ _ (by rw [e1]; rfl)
  have b1 : Below X w ((w.setCell ⟨X, 0, none⟩ v0).setCell ⟨X, 1, none⟩ v1) := ((Below.refl X w).setCell (p := ⟨X, 0, none⟩) (Nat.le_refl _) _).setCell (p := ⟨X, 1, none⟩) (Nat.le_refl _) _
  refine ⟨?_, ?_, ?_, ?_, b1.alloc (Nat.le_of_lt hs) _, by simp; simpa using Nat.lt_succ_of_lt hs⟩
  · rw [World.cell?_alloc_past _ _ _ hs]; exact e2
  · rw [World.cell?_alloc_past _ _ _ hs]; exact e3
  · rw [World.frozen?_alloc_past _ _ _ hs]; simpa using hf0
  · rw [World.frozen?_alloc_past _ _ _ hs]; simpa using hf1

theorem grown_below {W w' : World} {base n : Nat} {v : Value} {xs : List Value} (hown : W.ownsRow base 87 2 v n xs) (hg : W.grownBy w' v.ownBlock) (hb : base ≤ W.heap.size) : Below base W w' :=
  (Below.refl base W).grown hg hb fun k hk => (hown.lt k hk).1

end Go.Proofs.Ytnddejdndipddab
