/- The contracts of the function values that Has, Add and Up hand to first, and of Has. -/
import Derived.Test.YtnddejdndipddaaB
set_option maxRecDepth 20000
namespace Go.Proofs.Ytnddejdndipddaa
open Go.RowKit

/-- A number that an int holds. -/
def I64 (n : Int) : Prop := -9223372036854775808 ≤ n ∧ n ≤ 9223372036854775807

/-- Numbers of spans that ints hold. -/
def Fit (l : List Sp) : Prop := ∀ s ∈ l, I64 s.1 ∧ I64 s.2

/-- A slice value that has these spans, below block B. -/
def Sl (B : Nat) (w : World) (v : Value) (l : List Sp) : Prop :=
  ∃ a cap, v = .slice a l.length cap ∧ l.length ≤ cap ∧ cap ≤ 9223372036854775807 ∧ (a = none → cap = 0) ∧ Fit l ∧ (l ≠ [] → ∃ b off, a = some ⟨b, off, none⟩ ∧ b < B ∧ SpAt w b off l)

theorem SpAt.below {w w' : World} {b off B : Nat} {l : List Sp} (h : SpAt w b off l) (hb : b < B) (hbel : Below B w w') : SpAt w' b off l := fun k s hs =>
  ⟨(hbel.cell (p := ⟨b, off + k * 2, none⟩) hb).trans (h k s hs).1, (hbel.cell (p := ⟨b, off + k * 2 + 1, none⟩) hb).trans (h k s hs).2⟩

theorem Sl.below {B B' : Nat} {w w' : World} {v : Value} {l : List Sp} (h : Sl B w v l) (hbel : Below B' w w') (hB : B ≤ B') : Sl B w' v l := by
  obtain ⟨a, cap, rfl, h1, h2, h0, h3, h4⟩ := h
  refine ⟨a, cap, rfl, h1, h2, h0, h3, fun hn => ?_⟩
  obtain ⟨b, off, rfl, hb, hat⟩ := h4 hn
  exact ⟨b, off, rfl, hb, hat.below (by omega) hbel⟩

theorem Sl.mono {B B' : Nat} {w : World} {v : Value} {l : List Sp} (h : Sl B w v l) (hB : B ≤ B') : Sl B' w v l := by
  obtain ⟨a, cap, rfl, h1, h2, h0, h3, h4⟩ := h
  refine ⟨a, cap, rfl, h1, h2, h0, h3, fun hn => ?_⟩
  obtain ⟨b, off, rfl, hb, hat⟩ := h4 hn
  exact ⟨b, off, rfl, by omega, hat⟩

theorem first_any (g B : Nat) (v : Value) (l : List Sp) (so : Int → Sp → Bool × Int) (I : Int → Prop) (c : Int) (w : World)
    (hv : Sl B w v l) (hB : B < w.heap.size) (hc : w.cell? ⟨B, 0, none⟩ = some (.int .i64 c)) (hf : w.frozen? ⟨B, 0, none⟩ = false) (hI : I c)
    (hg : ∀ args wx, (callFunc g args).run Try.prog wx = .ok (.enter g args) wx) (hso : Asks g B so I l) :
    Calls Try.prog 31 #[v, .func (.func g) #[] #[.pointer (some ⟨B, 0, none⟩)]] w fun e w' =>
      e = .returned (.int .i64 (scan so c l).1) ∧ I (scan so c l).2 ∧ w'.cell? ⟨B, 0, none⟩ = some (.int .i64 (scan so c l).2) ∧ w'.frozen? ⟨B, 0, none⟩ = false ∧ Below B w w' := by
  obtain ⟨a, cap, rfl, h1, h2, h0, h3, h4⟩ := hv
  by_cases hn : l = []
  · subst hn
    refine (first_none g B cap a w).mono ?_
    rintro e w' ⟨rfl, rfl⟩
    exact ⟨rfl, hI, hc, hf, Below.refl _ _⟩
  · obtain ⟨b, off, rfl, hb, hat⟩ := h4 hn
    exact first_some g B b off cap l so I c w (by omega) hb hB hat hc hf hI hg hso

theorem enters_body {f : FuncId} {fn : Func} {c : Code} (hf : Try.prog.funcs[f]? = some fn) (hname : (fn.name == "runtime.NumGoroutine") = false) (hb : fn.body = some c) (args : Array Value) (w : World) :
    (callFunc f args).run Try.prog w = .ok (.enter f args) w := by
  have h1 : fn.name ≠ "runtime.NumGoroutine" := by simpa using hname
  simp [callFunc, hf, h1, hb]

theorem enters_Up_1 (args : Array Value) (wx : World) : (callFunc 32 args).run Try.prog wx = .ok (.enter 32 args) wx := enters_body Try.func32 (by kernel_rfl) rfl args wx
theorem enters_Has_1 (args : Array Value) (wx : World) : (callFunc 34 args).run Try.prog wx = .ok (.enter 34 args) wx := enters_body Try.func34 (by kernel_rfl) rfl args wx
theorem enters_Add_1 (args : Array Value) (wx : World) : (callFunc 35 args).run Try.prog wx = .ok (.enter 35 args) wx := enters_body Try.func35 (by kernel_rfl) rfl args wx
theorem enters_Add_2 (args : Array Value) (wx : World) : (callFunc 36 args).run Try.prog wx = .ok (.enter 36 args) wx := enters_body Try.func36 (by kernel_rfl) rfl args wx

theorem new_cell {w : World} {B : Nat} {o : Obj} {v : Value} (h : w.cell? ⟨B, 0, none⟩ = some v) (hB : B < w.heap.size) : (w.alloc o).cell? ⟨B, 0, none⟩ = some v := by
  rw [World.cell?_alloc_past _ _ _ (by simpa using hB)]; exact h
theorem new_frozen {w : World} {B : Nat} {o : Obj} (h : w.frozen? ⟨B, 0, none⟩ = false) (hB : B < w.heap.size) : (w.alloc o).frozen? ⟨B, 0, none⟩ = false := by
  rw [World.frozen?_alloc_past _ _ _ (by simpa using hB)]; exact h

/-- Has asks: is the number in? -/
def soHas (n : Int) : Int → Sp → Bool × Int := fun c s => (decide (s.1 ≤ n ∧ n ≤ s.2), c)
def soAdd1 (n : Int) : Int → Sp → Bool × Int := fun c s => (!decide (s.2 + 1 < n), c)
def soAdd2 (n : Int) : Int → Sp → Bool × Int := fun c s => (decide (n + 1 < s.1), c)
def soUp : Int → Sp → Bool × Int := fun c s => if c + 1 < s.1 then (true, c) else (false, max c s.2)

set_option maxHeartbeats 400000 in
theorem asks_has (B : Nat) (n : Int) (l : List Sp) : Asks 34 B (soHas n) (fun c => c = n) l := by
  rintro c s wx hs rfl hc hf hB
  have hc2 : ∀ o, (wx.alloc o).cell? ⟨B, 0, none⟩ = some (.int .i64 c) := fun o => new_cell hc hB
  have HP : ∀ o, (wx.alloc o).cell? ⟨B, 0, none⟩ = some (.int .i64 c) ∧ (wx.alloc o).frozen? ⟨B, 0, none⟩ = false ∧ Below B wx (wx.alloc o) := fun o => ⟨new_cell hc hB, new_frozen hf hB, (Below.refl _ _).alloc (by omega) _⟩
  by_cases h1 : s.1 ≤ c
  · have HE : Hid (soHas c c s = (decide (c ≤ s.2), c)) := by show _ = _; simp [soHas, h1]
    go_enter Try.func34, Try.ntmps34
    go_wp2
    go_ret
    rw [HE.out]
    exact ⟨rfl, rfl, HP _⟩
  · have HE : Hid (soHas c c s = (false, c)) := by show _ = _; simp [soHas, h1]
    go_enter Try.func34, Try.ntmps34
    go_wp2
    go_ret
    rw [HE.out]
    exact ⟨rfl, rfl, HP _⟩

set_option maxHeartbeats 400000 in
theorem asks_add1 (B : Nat) (n : Int) (l : List Sp) (hn : I64 n) (hl : Fit l) : Asks 35 B (soAdd1 n) (fun c => c = n) l := by
  rintro c s wx hs rfl hc hf hB
  have hc2 : ∀ o, (wx.alloc o).cell? ⟨B, 0, none⟩ = some (.int .i64 c) := fun o => new_cell hc hB
  have HP : ∀ o, (wx.alloc o).cell? ⟨B, 0, none⟩ = some (.int .i64 c) ∧ (wx.alloc o).frozen? ⟨B, 0, none⟩ = false ∧ Below B wx (wx.alloc o) := fun o => ⟨new_cell hc hB, new_frozen hf hB, (Below.refl _ _).alloc (by omega) _⟩
  have hnot : ∀ (x : Bool) (w : World), (Op.unary .not (.bool x)).run Try.prog w = .ok (.bool (!x)) w := fun _ _ => rfl
  have b1 := (hl s hs).2
  go_enter Try.func35, Try.ntmps35
  go_wp2_with (go_at_call 33; refine (apart_any _ _ _ b1.1 b1.2 hn.2).mono ?_; rintro e w' ⟨rfl, rfl⟩)
  go_ret
  exact ⟨rfl, rfl, HP _⟩

set_option maxHeartbeats 400000 in
theorem asks_add2 (B : Nat) (n : Int) (l : List Sp) (hn : I64 n) (hl : Fit l) : Asks 36 B (soAdd2 n) (fun c => c = n) l := by
  rintro c s wx hs rfl hc hf hB
  have hc2 : ∀ o, (wx.alloc o).cell? ⟨B, 0, none⟩ = some (.int .i64 c) := fun o => new_cell hc hB
  have HP : ∀ o, (wx.alloc o).cell? ⟨B, 0, none⟩ = some (.int .i64 c) ∧ (wx.alloc o).frozen? ⟨B, 0, none⟩ = false ∧ Below B wx (wx.alloc o) := fun o => ⟨new_cell hc hB, new_frozen hf hB, (Below.refl _ _).alloc (by omega) _⟩
  have b1 := (hl s hs).1
  go_enter Try.func36, Try.ntmps36
  go_wp2_with (go_at_call 33; refine (apart_any _ _ _ hn.1 hn.2 b1.2).mono ?_; rintro e w' ⟨rfl, rfl⟩)
  go_ret
  exact ⟨rfl, rfl, HP _⟩

theorem up_stored {w : World} {B : Nat} {v : Value} (h : w.cell? ⟨B, 0, none⟩ = some v) (hf : w.frozen? ⟨B, 0, none⟩ = false) (hB : B < w.heap.size) (m : Int) (o : Obj) :
    ((w.setCell ⟨B, 0, none⟩ (.int .i64 m)).alloc o).cell? ⟨B, 0, none⟩ = some (.int .i64 m) ∧ ((w.setCell ⟨B, 0, none⟩ (.int .i64 m)).alloc o).frozen? ⟨B, 0, none⟩ = false ∧ Below B w ((w.setCell ⟨B, 0, none⟩ (.int .i64 m)).alloc o) := by
  have hs : B < (w.setCell ⟨B, 0, none⟩ (.int .i64 m)).heap.size := by simpa [World.setCell] using hB
  refine ⟨new_cell ?_ hs, new_frozen ?_ hs, ?_⟩
  · exact World.cell?_setCell_same' _ _ _ (by rw [h]; rfl)
  · simp [hf]
  · have hb : Below B w (w.setCell ⟨B, 0, none⟩ (.int .i64 m)) := (Below.refl B w).setCell (p := ⟨B, 0, none⟩) (Nat.le_refl _) _
    exact hb.alloc (Nat.le_of_lt hs) _

set_option maxHeartbeats 400000 in
theorem asks_up (B : Nat) (l : List Sp) (hl : Fit l) : Asks 32 B soUp I64 l := by
  rintro c s wx hs hI hc hf hB
  have hc2 : ∀ o, (wx.alloc o).cell? ⟨B, 0, none⟩ = some (.int .i64 c) := fun o => new_cell hc hB
  have hf2 : ∀ o, (wx.alloc o).frozen? ⟨B, 0, none⟩ = false := fun o => new_frozen hf hB
  have HP : ∀ o, (wx.alloc o).cell? ⟨B, 0, none⟩ = some (.int .i64 c) ∧ (wx.alloc o).frozen? ⟨B, 0, none⟩ = false ∧ Below B wx (wx.alloc o) := fun o => ⟨new_cell hc hB, new_frozen hf hB, (Below.refl _ _).alloc (by omega) _⟩
  have b1 := (hl s hs)
  by_cases h : c + 1 < s.1
  · have e1 : soUp c s = (true, c) := by simp [soUp, h]
    have HE : Hid (soUp c s = (true, c)) := e1
    clear e1
    go_enter Try.func32, Try.ntmps32
    go_wp2_with (go_at_call 33; refine (apart_any _ _ _ hI.1 hI.2 b1.1.2).mono ?_; rintro e w' ⟨rfl, rfl⟩)
    go_ret
    rw [HE.out]
    exact ⟨rfl, hI, HP _⟩
  · by_cases h2 : c < s.2
    · have e1 : soUp c s = (false, s.2) := by simp only [soUp]; rw [if_neg h, Int.max_eq_right (by omega)]
      have HE : Hid (soUp c s = (false, s.2)) := e1
      clear e1
      go_enter Try.func32, Try.ntmps32
      go_wp2_with (go_at_call 33; refine (apart_any _ _ _ hI.1 hI.2 b1.1.2).mono ?_; rintro e w' ⟨rfl, rfl⟩)
      go_ret
      rw [HE.out]
      exact ⟨rfl, b1.2, up_stored hc hf hB s.2 _⟩
    · have e1 : soUp c s = (false, c) := by simp only [soUp]; rw [if_neg h, Int.max_eq_left (by omega)]
      have HE : Hid (soUp c s = (false, c)) := e1
      clear e1
      go_enter Try.func32, Try.ntmps32
      go_wp2_with (go_at_call 33; refine (apart_any _ _ _ hI.1 hI.2 b1.1.2).mono ?_; rintro e w' ⟨rfl, rfl⟩)
      go_ret
      rw [HE.out]
      exact ⟨rfl, hI, up_stored hc hf hB c _⟩
end Go.Proofs.Ytnddejdndipddaa
