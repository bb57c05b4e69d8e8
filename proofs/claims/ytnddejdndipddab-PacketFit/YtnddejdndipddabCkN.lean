/- numbers, whole; a copy of bytes; data chunks, read. -/
import Derived.Test.YtnddejdndipddabCkM
set_option maxRecDepth 20000
namespace Go.Proofs.Ytnddejdndipddab
open Go.RowKit

theorem oneX (sb sn B : Nat) (v : Value) (bs : List Int) (k : Nat) (w : World) (h1 : w.cell? ⟨sb, 0, none⟩ = some v) (h3 : w.cell? ⟨sn, 0, none⟩ = some (.int .i64 k)) (h4 : w.frozen? ⟨sn, 0, none⟩ = false) (h5 : By B w v bs) (hB : B ≤ sn) (hne : sb ≠ sn) (hk : k < bs.length) :
    Calls Try.prog 81 #[.pointer (some ⟨sn, 0, none⟩), .pointer (some ⟨sb, 0, none⟩)] w fun e w' => e = .returned (.int .i64 (bs.getD k 0)) ∧ w' = w.setCell ⟨sn, 0, none⟩ (.int .i64 ((k : Int) + 1)) := by
  obtain ⟨a, cap, rfl, hc1, hc2⟩ := h5.ex
  obtain ⟨b, off, hb, hix, hcell⟩ := h5.at k hk
  have hbb := h5.2.get k hk
  have z1 := hbb.1
  have z2 := hbb.2
  have hne2 : b ≠ sn := by omega
  have kp : Keep (fun j => j ≠ sn) w (w.setCell ⟨sn, 0, none⟩ (.int .i64 ((k : Int) + 1))) := (Keep.refl _ w).setCell (by simp) _
  have e1 : bs.getD k 0 = bs[k] := by simp [hk]
  have HE : Hid _ := e1
  have hc2 : (w.setCell ⟨sn, 0, none⟩ (.int .i64 ((k : Int) + 1))).cell? ⟨b, off, none⟩ = some (.int .u8 bs[k]) := (kp.cell (p := ⟨b, off, none⟩) hne2).trans hcell
  have hb2 : (w.setCell ⟨sn, 0, none⟩ (.int .i64 ((k : Int) + 1))).cell? ⟨sb, 0, none⟩ = _ := (kp.cell (p := ⟨sb, 0, none⟩) hne).trans h1
  clear hbb h5 kp e1
  generalize bs[k] = z at *
  go_enter Try.func81, Try.ntmps81
  go_wp2
  go_ret
  rw [HE.out]
  exact ⟨rfl, rfl⟩

theorem setCell_twice (w : World) (p : Addr) (u v : Value) : (w.setCell p u).setCell p v = w.setCell p v := by
  unfold World.setCell
  congr 1
  apply Array.ext_getElem?
  intro k
  simp only [Array.getElem?_modify]
  by_cases hk : p.block = k
  · simp only [hk, if_true]
    cases w.heap[k]? with
    | none => rfl
    | some o =>
      cases o with
      | cells c t f =>
        simp only [Option.map_some]
        congr 2
        split
        · rfl
        · simp [Array.setIfInBounds_setIfInBounds]
      | _ => rfl
  · simp [hk]

/-- A first result that is a variable in memory. -/
theorem results_cell2 {fn : Func} {a u : Tmp} {t : TypeId} (h : fn.results = #[.cell a t, .tmp u]) (tmps : Array Value) (P : Program) (w : World) (ad : Addr) (x : Value) (h1 : tmps.getD a undef = .pointer (some ad)) (h2 : (loadVar t ad).run P w = .ok x w) :
    (results fn tmps).run P w = .ok (.tuple #[x, tmps.getD u undef]) w := by
  have h3 : tmps[a]?.getD undef = .pointer (some ad) := by simpa using h1
  unfold results
  rw [h]
  simp [asAddr, h3, h2]
theorem results_cell3 {fn : Func} {a u z : Tmp} {t : TypeId} (h : fn.results = #[.cell a t, .tmp u, .tmp z]) (tmps : Array Value) (P : Program) (w : World) (ad : Addr) (x : Value) (h1 : tmps.getD a undef = .pointer (some ad)) (h2 : (loadVar t ad).run P w = .ok x w) :
    (results fn tmps).run P w = .ok (.tuple #[x, tmps.getD u undef, tmps.getD z undef]) w := by
  have h3 : tmps[a]?.getD undef = .pointer (some ad) := by simpa using h1
  unfold results
  rw [h]
  simp [asAddr, h3, h2]

set_option maxHeartbeats 400000 in
theorem twoX (sb so sn B : Nat) (v : Value) (bs : List Int) (k : Nat) (w : World) (h1 : w.cell? ⟨sb, 0, none⟩ = some v) (h2 : w.cell? ⟨so, 0, none⟩ = some (.func (.func 81) #[] #[.pointer (some ⟨sn, 0, none⟩), .pointer (some ⟨sb, 0, none⟩)])) (h3 : w.cell? ⟨sn, 0, none⟩ = some (.int .i64 k)) (h4 : w.frozen? ⟨sn, 0, none⟩ = false) (h5 : By B w v bs) (hB : B ≤ sn) (hne : sb ≠ sn) (hno : so ≠ sn) (hk : k + 1 < bs.length) :
    Calls Try.prog 82 #[.pointer (some ⟨so, 0, none⟩)] w fun e w' => e = .returned (.int .i64 (be bs k)) ∧ w' = w.setCell ⟨sn, 0, none⟩ (.int .i64 ((k : Int) + 2)) := by
  have i1 := h5.2.get k (by omega)
  have i2 := h5.2.get (k + 1) hk
  have e1 : bs.getD k 0 = bs[k] := by simp [show k < bs.length by omega]
  have e2 : bs.getD (k + 1) 0 = bs[k + 1] := by simp [hk]
  have HE : Hid (bits .or .i64 (bs.getD k 0 * 256) (bs.getD (k + 1) 0) = be bs k) := by
    show _ = _
    rw [be_or _ _ (by rw [e1]; exact i1.1) (by rw [e1]; exact i1.2) (by rw [e2]; exact i2.1) (by rw [e2]; exact i2.2)]
    rfl
  have g1 : 0 ≤ bs.getD k 0 := by rw [e1]; exact i1.1
  have g2 : bs.getD k 0 < 256 := by rw [e1]; exact i1.2
  have kp : Keep (fun j => j ≠ sn) w (w.setCell ⟨sn, 0, none⟩ (.int .i64 ((k : Int) + 1))) := (Keep.refl _ w).setCell (by simp) _
  have c1 := (kp.cell (p := ⟨sb, 0, none⟩) hne).trans h1
  have c2 := (kp.cell (p := ⟨so, 0, none⟩) hno).trans h2
  have c3 : (w.setCell ⟨sn, 0, none⟩ (.int .i64 ((k : Int) + 1))).cell? ⟨sn, 0, none⟩ = some (.int .i64 (((k + 1 : Nat)) : Int)) := World.cell?_setCell_same' _ _ _ (by rw [h3]; rfl)
  have c4 : (w.setCell ⟨sn, 0, none⟩ (.int .i64 ((k : Int) + 1))).frozen? ⟨sn, 0, none⟩ = false := by simpa using h4
  have c5 := h5.below (kp.below (B := B) fun j hj => by omega) (Nat.le_refl _)
  have HW : Hid ((w.setCell ⟨sn, 0, none⟩ (.int .i64 ((k : Int) + 1))).setCell ⟨sn, 0, none⟩ (.int .i64 ((((k + 1 : Nat)) : Int) + 1)) = w.setCell ⟨sn, 0, none⟩ (.int .i64 ((k : Int) + 2))) := by
    show _ = _
    rw [setCell_twice, show ((((k + 1 : Nat)) : Int) + 1) = (k : Int) + 2 by omega]
  have O1 := oneX sb sn B v bs k w h1 h3 h4 h5 hB hne (by omega)
  have O2 := oneX sb sn B v bs (k + 1) _ c1 c3 c4 c5 hB hne hk
  clear i1 i2 e1 e2 kp c1 c3 c4 c5 h1 h3 h4 h5
  go_enter Try.func82, Try.ntmps82
  go_wp2_with fail
  refine O1.mono ?_
  rintro e w1 ⟨rfl, rfl⟩
  clear h2 O1
  generalize bs.getD k 0 = x at *
  go_wp2_with fail
  refine O2.mono ?_
  rintro e w2 ⟨rfl, rfl⟩
  clear c2 O2
  generalize bs.getD (k + 1) 0 = y at *
  go_wp2
  go_ret
  exact ⟨ret_int HE.out, HW.out⟩

set_option maxHeartbeats 400000 in
theorem numbers_any (v : Value) (w : World) (a : Option Addr) (n cap : Nat) (hv : v = .slice a n cap) :
    Calls Try.prog 77 #[v] w fun e w' => e = .returned (.tuple #[oneR w.heap.size, twoR w.heap.size]) ∧ w' = ((w.alloc (.cells #[v] 23)).alloc (.cells #[oneR w.heap.size] 96)).alloc (.cells #[.int .i64 0] 3) := by
  have hmf : ∀ (fn : Fn) (first cap : Array Value) (w : World), (Instr.makeFunc fn first cap).run Try.prog w = .ok (.func fn first cap) w := fun _ _ _ _ => rfl
  subst hv
  go_enter Try.func77, Try.ntmps77
  go_wp2
  refine bodyPost_ret_by (results_cell2 rfl _ _ _ ⟨w.heap.size + 1, 0, none⟩ (oneR w.heap.size) rfl (by go_simp)) rfl ?_
  exact ⟨rfl, rfl⟩

set_option maxHeartbeats 400000 in
theorem clone_any (v : Value) (bs : List Int) (w : World) (hv : By w.heap.size w v bs) (hl : bs.length ≤ 1000) :
    Calls Try.prog 37 #[v] w fun e w' => ∃ v', e = .returned v' ∧ w'.ownsRow w.heap.size 5 1 v' bs.length (cellsB bs) ∧ Below w.heap.size w w' := by
  have hv' := hv
  obtain ⟨a, cap, rfl, h1, h2⟩ := hv.ex
  have hq : ∀ n c wx, (binOp .eql 23 (.slice a n c) (.slice none 0 0)).run Try.prog wx = .ok (.bool a.isNone) wx := fun n c wx => by
    simp only [binOp]
    simp [Op.equal, Op.maxDepth, Lib.run_equalIn_slice_nil wx 9999 23 5 a n c 0 0 Try.underlying23]
  cases a with
  | none =>
    have hb : bs = [] := by
      obtain ⟨⟨_, a', cap', he, g1, g2, g0, _⟩, _⟩ := hv'
      simp only [Value.slice.injEq] at he
      obtain ⟨rfl, _, rfl⟩ := he
      have := g0 rfl
      exact List.eq_nil_of_length_eq_zero (by omega)
    subst hb
    go_enter Try.func37, Try.ntmps37
    go_wp2
    go_ret
    exact ⟨_, rfl, World.ownsRow_nil _ _ _ _, Below.refl _ _⟩
  | some ad =>
    have h0 : (w.alloc (.cells #[] 5)).ownsRow w.heap.size 5 1 (.slice (some ⟨w.heap.size, 0, none⟩) 0 0) 0 [] := World.ownsRow_lit w #[] 0 (Nat.le_refl _) (by unfold maxLen; omega) rfl
    have hx := hv'.below (box_below w (.cells #[] 5)) (Nat.le_refl _)
    have HQ : ∀ v' w1, w1.ownsRow w.heap.size 5 1 v' (0 + bs.length) ([] ++ cellsB bs) → (w.alloc (.cells #[] 5)).grownBy w1 (Value.slice (some ⟨w.heap.size, 0, none⟩) 0 0).ownBlock → w1.ownsRow w.heap.size 5 1 v' bs.length (cellsB bs) ∧ Below w.heap.size w w1 := by
      intro v' w1 o g
      rw [List.nil_append, Nat.zero_add] at o
      exact ⟨o, (box_below w (.cells #[] 5)).grown g (by simp) (fun k hk => by simp [Value.ownBlock] at hk; omega)⟩
    go_enter Try.func37, Try.ntmps37
    go_wp2_with (at_builtin; refine wpList_append_rw Try.underlying23 Try.info5 rfl (by decide) _ rfl (.tmp 5) (.tmp 6) rfl w.heap.size (.slice (some ⟨w.heap.size, 0, none⟩) 0 0) 0 [] rfl h0 _ bs.length (cellsB bs) _ rfl hx.1 (cellsB_one _) (by unfold maxLen; omega) (by omega) (by simp) ?_; intro v' w1 own1 grow1 at1; have HQ1 := HQ _ w1 own1 grow1; clear own1 grow1 at1)
    go_ret
    exact ⟨_, rfl, HQ1⟩
end Go.Proofs.Ytnddejdndipddab
