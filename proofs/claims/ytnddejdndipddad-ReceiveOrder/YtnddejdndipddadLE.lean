/- Contracts of functions of earlier stages, for a chain that stands on the base. -/
import Derived.Test.YtnddejdndipddadLB
import Derived.Test.YtnddejdndipddadLC
import Derived.Test.YtnddejdndipddadLD
import Derived.Test.YtnddejdndipddadGS
import Derived.Test.YtnddejdndipddadGZ
import Derived.Test.YtnddejdndipddadGI
import Derived.Test.YtnddejdndipddadPaA
import Derived.Test.YtnddejdndipddadPaB
import Derived.Test.YtnddejdndipddadPaC
import Derived.Test.YtnddejdndipddadPaD
import Derived.Test.YtnddejdndipddadPaE
import Derived.Test.YtnddejdndipddadPaF
import Derived.Test.YtnddejdndipddadPaG
import Derived.Test.YtnddejdndipddadPaH
import Derived.Lib.SliceRun
import Derived.Deep.MidRow
set_option maxRecDepth 20000
namespace Go.Proofs.Ytnddejdndipddad
open Go.RowKit

end Go.Proofs.Ytnddejdndipddad

namespace Go.Proofs.Ytnddejdndipddad
open Go.ChangeShapes Go.WideShapes Go.ChangeAt Go.RowKit

/-- What lists of a part's chunk may have. -/
def CkFit (c : Ck) : Prop := c.data.length ≤ 140737488351232 ∧ c.spans.length * 16 ≤ 140737488351232 ∧ c.skips.length * 24 ≤ 140737488351232
section
variable {H : Type} {enc : TypeId × Value → H} {w : World} {held : Bool}
end
end Go.Proofs.Ytnddejdndipddad

namespace Go.Proofs.Ytnddejdndipddad
open Go.RowKit

theorem drew_below (B : Nat) (w : World) : Below B w w.drew := ⟨rfl, rfl, rfl, Nat.le_refl _, fun _ _ => rfl⟩
theorem drewN_below (B : Nat) (w : World) (n : Nat) : Below B w (w.drewN n) := ⟨rfl, rfl, rfl, Nat.le_refl _, fun _ _ => rfl⟩
theorem own_set {w : World} {base : Nat} {e : TypeId} {size : Nat} {v : Value} {n : Nat} {xs : List Value} (h : w.ownsRow base e size v n xs) {p : Addr} (hp : p.block < base) (u : Value) : (w.setCell p u).ownsRow base e size v n xs :=
  own_of_block h fun k hk => Below.heap_setCell _ _ _ _ (by have := (h.lt k hk).1; omega)
theorem Cells.past {X Y : Nat} {w : World} {l : List Value} (h : Cells X w l) (j : Nat) (u : Value) (hne : X ≠ Y) : Cells X (w.setCell ⟨Y, j, none⟩ u) l :=
  h.keep (S := fun k => k ≠ Y) (Keep.setCell (Keep.refl _ _) (p := ⟨Y, j, none⟩) (fun e => e rfl) u) hne
theorem Rw.none0 {k B : Nat} {w : World} {n cap m : Nat} {xs : List Value} (h : Rw k B w (.slice none n cap) m xs) : m = 0 ∧ cap = 0 ∧ xs = [] := by
  obtain ⟨hl, a', cap', he, g1, g2, g0, _⟩ := h
  simp only [Value.slice.injEq] at he
  obtain ⟨rfl, rfl, rfl⟩ := he
  have := g0 rfl
  subst this
  have hn : n = 0 := by omega
  subst hn
  exact ⟨rfl, rfl, List.eq_nil_of_length_eq_zero (by simpa using hl)⟩
/-- A call of a function with one operand, as a step of a region. -/
theorem step_call1 {ops : Array Oper} {o : Oper} {a : Act} {w : World} {K : Act → World → Prop} {Q : Exit → Act → World → Prop} {E : Prop} (hg : o.guard = none) (f : FuncId) (x : Operand) (t : TypeId)
    (hop : o.op = Op.call { callee := Callee.value (.func f), args := #[x], argTypes := #[t] }) (u : Value) (hu : a.eval x = u) (hf : a.eval (.func f) = .func (.func f) #[] #[])
    (hent : ∀ (args : Array Value) (wx : World), (callFunc f args).run Try.prog wx = .ok (.enter f args) wx) (R : Value → World → Prop) (hc : Calls Try.prog f #[u] w fun e w' => ∃ v, e = .returned v ∧ R v w')
    (hK : ∀ v w', R v w' → K (a.put o.dst v) w') : if Region.wanted o (yielded ops a.tmps) = true then Oper.wp Try.prog o a w K Q else E := by
  have hw : Region.wanted o (yielded ops a.tmps) = true := by simp [Region.wanted, hg]
  rw [if_pos hw]
  unfold Oper.wp
  simp [execOp, hop, resolve, invoke, hf, hu, hent, Deferred.ofValue, Oper.upon]
  refine hc.mono ?_
  rintro e w' ⟨v, rfl, hr⟩
  exact hK v w' hr

set_option maxHeartbeats 1000000 in
theorem clone_bytes (v : Value) (n : Nat) (xs : List Value) (w : World) (hv : Rw 1 w.heap.size w v n xs) (h1c : ∀ u ∈ xs, u.oneCell' = true) (hl : n * 1 ≤ 140737488355328) :
    Calls Try.prog 51 #[v] w fun e w' => ∃ a c, e = .returned (.slice a n c) ∧ w'.ownsRow w.heap.size 5 1 (.slice a n c) n xs ∧ Below w.heap.size w w' := by
  have HV := hv
  obtain ⟨-, a, cap, rfl, h1, h2, -⟩ := hv
  have q23 : ∀ (w : World) (a : Option Addr) (n c n' c' : Nat), (binOp .eql 38 (.slice a n c) (.slice none n' c')).run Try.prog w = .ok (.bool a.isNone) w := fun w a n c n' c' => Lib.run_eql_slice_nil w _ _ a n c n' c' Try.underlying38
  cases a with
  | none =>
    obtain ⟨rfl, rfl, rfl⟩ := HV.none0
    go_enter Try.func51, Try.ntmps51
    go_wp2
    go_ret
    exact ⟨none, 0, rfl, World.ownsRow_nil _ _ _ _, Below.refl _ _⟩
  | some ad =>
    have HB := fun o => box_below w o
    have HR := fun o => HV.below (box_below w o) (Nat.le_refl _)
    go_enter Try.func51, Try.ntmps51
    go_wp2_with (at_builtin; refine wpList_append_rw Try.underlying38 Try.info5 rfl (by decide) _ rfl (.tmp 5) (.tmp 6) rfl w.heap.size (.slice (some ⟨w.heap.size, 0, none⟩) 0 0) 0 [] rfl (World.ownsRow_made w #[] 0 (Nat.le_refl _) (Nat.zero_le _) rfl) w.heap.size n xs _ rfl (HR _) h1c (by unfold maxLen; omega) (by omega) (by simp) ?_; intro v3 w3 own3 grow3 at3)
    rw [List.nil_append, Nat.zero_add] at own3
    have BE : Below w.heap.size w w3 := (HB _).grown grow3 (by simp) (by intro k hk; simp [Value.ownBlock] at hk; omega)
    obtain ⟨a3, cap3, rfl⟩ := own_form own3
    have OW : Hid _ := own3
    clear own3 grow3 at3 HR HB
    go_wp2
    go_ret
    exact ⟨_, _, rfl, OW.out, BE⟩
theorem enters_clone_bytes (args : Array Value) (wx : World) : (callFunc 51 args).run Try.prog wx = .ok (.enter 51 args) wx := enters_body Try.func51 (by kernel_rfl) rfl args wx

set_option maxHeartbeats 1000000 in
theorem clone_spans (v : Value) (n : Nat) (xs : List Value) (w : World) (hv : Rw 2 w.heap.size w v n xs) (h1c : ∀ u ∈ xs, u.oneCell' = true) (hl : n * 16 ≤ 140737488355328) :
    Calls Try.prog 46 #[v] w fun e w' => ∃ a c, e = .returned (.slice a n c) ∧ w'.ownsRow w.heap.size 75 2 (.slice a n c) n xs ∧ Below w.heap.size w w' := by
  have HV := hv
  obtain ⟨-, a, cap, rfl, h1, h2, -⟩ := hv
  have q23 : ∀ (w : World) (a : Option Addr) (n c n' c' : Nat), (binOp .eql 39 (.slice a n c) (.slice none n' c')).run Try.prog w = .ok (.bool a.isNone) w := fun w a n c n' c' => Lib.run_eql_slice_nil w _ _ a n c n' c' Try.underlying39
  cases a with
  | none =>
    obtain ⟨rfl, rfl, rfl⟩ := HV.none0
    go_enter Try.func46, Try.ntmps46
    go_wp2
    go_ret
    exact ⟨none, 0, rfl, World.ownsRow_nil _ _ _ _, Below.refl _ _⟩
  | some ad =>
    have HB := fun o => box_below w o
    have HR := fun o => HV.below (box_below w o) (Nat.le_refl _)
    go_enter Try.func46, Try.ntmps46
    go_wp2_with (at_builtin; refine wpList_append_rw Try.underlying39 Try.info75 rfl (by decide) _ rfl (.tmp 5) (.tmp 6) rfl w.heap.size (.slice (some ⟨w.heap.size, 0, none⟩) 0 0) 0 [] rfl (World.ownsRow_made w #[] 0 (Nat.le_refl _) (Nat.zero_le _) rfl) w.heap.size n xs _ rfl (HR _) h1c (by unfold maxLen; omega) (by omega) (by simp) ?_; intro v3 w3 own3 grow3 at3)
    rw [List.nil_append, Nat.zero_add] at own3
    have BE : Below w.heap.size w w3 := (HB _).grown grow3 (by simp) (by intro k hk; simp [Value.ownBlock] at hk; omega)
    obtain ⟨a3, cap3, rfl⟩ := own_form own3
    have OW : Hid _ := own3
    clear own3 grow3 at3 HR HB
    go_wp2
    go_ret
    exact ⟨_, _, rfl, OW.out, BE⟩
theorem enters_clone_spans (args : Array Value) (wx : World) : (callFunc 46 args).run Try.prog wx = .ok (.enter 46 args) wx := enters_body Try.func46 (by kernel_rfl) rfl args wx

set_option maxHeartbeats 1000000 in
theorem clone_skips (v : Value) (n : Nat) (xs : List Value) (w : World) (hv : Rw 3 w.heap.size w v n xs) (h1c : ∀ u ∈ xs, u.oneCell' = true) (hl : n * 24 ≤ 140737488355328) :
    Calls Try.prog 71 #[v] w fun e w' => ∃ a c, e = .returned (.slice a n c) ∧ w'.ownsRow w.heap.size 98 3 (.slice a n c) n xs ∧ Below w.heap.size w w' := by
  have HV := hv
  obtain ⟨-, a, cap, rfl, h1, h2, -⟩ := hv
  have q23 : ∀ (w : World) (a : Option Addr) (n c n' c' : Nat), (binOp .eql 40 (.slice a n c) (.slice none n' c')).run Try.prog w = .ok (.bool a.isNone) w := fun w a n c n' c' => Lib.run_eql_slice_nil w _ _ a n c n' c' Try.underlying40
  cases a with
  | none =>
    obtain ⟨rfl, rfl, rfl⟩ := HV.none0
    go_enter Try.func71, Try.ntmps71
    go_wp2
    go_ret
    exact ⟨none, 0, rfl, World.ownsRow_nil _ _ _ _, Below.refl _ _⟩
  | some ad =>
    have HB := fun o => box_below w o
    have HR := fun o => HV.below (box_below w o) (Nat.le_refl _)
    go_enter Try.func71, Try.ntmps71
    go_wp2_with (at_builtin; refine wpList_append_rw Try.underlying40 Try.info98 rfl (by decide) _ rfl (.tmp 5) (.tmp 6) rfl w.heap.size (.slice (some ⟨w.heap.size, 0, none⟩) 0 0) 0 [] rfl (World.ownsRow_made w #[] 0 (Nat.le_refl _) (Nat.zero_le _) rfl) w.heap.size n xs _ rfl (HR _) h1c (by unfold maxLen; omega) (by omega) (by simp) ?_; intro v3 w3 own3 grow3 at3)
    rw [List.nil_append, Nat.zero_add] at own3
    have BE : Below w.heap.size w w3 := (HB _).grown grow3 (by simp) (by intro k hk; simp [Value.ownBlock] at hk; omega)
    obtain ⟨a3, cap3, rfl⟩ := own_form own3
    have OW : Hid _ := own3
    clear own3 grow3 at3 HR HB
    go_wp2
    go_ret
    exact ⟨_, _, rfl, OW.out, BE⟩
theorem enters_clone_skips (args : Array Value) (wx : World) : (callFunc 71 args).run Try.prog wx = .ok (.enter 71 args) wx := enters_body Try.func71 (by kernel_rfl) rfl args wx

theorem flatV_one {α : Type} {c : Nat} {R : Nat → World → Value → α → Prop} {B : Nat} {w : World} (h1 : ∀ v x, R B w v x → ∀ u ∈ v.cells.toList, u.oneCell' = true) : ∀ {vs : List Value} {l : List α}, All2 (R B w) vs l → ∀ u ∈ flatV vs, u.oneCell' = true
  | [], [], _, u, hu => by simp [flatV] at hu
  | v :: vs, x :: l, h, u, hu => by
    rw [flatV_cons, List.mem_append] at hu
    rcases hu with hu | hu
    · exact h1 v x h.1 u hu
    · exact flatV_one (c := c) h1 h.2 u hu
  | [], _ :: _, h, _, _ => h.elim
  | _ :: _, [], h, _, _ => h.elim
theorem own_r {w : World} (Y : Nat) {e : TypeId} {size : Nat} {v : Value} {n : Nat} {xs : List Value} (h : w.ownsRow (Y + 2) e size v n xs) (u0 u1 u2 u3 u4 u5 u6 u7 u8 u9 u10 : Value) : (((((((((((w.setCell ⟨Y + 1, 0, none⟩ u0).setCell ⟨Y + 1, 1, none⟩ u1).setCell ⟨Y + 1, 2, none⟩ u2).setCell ⟨Y + 1, 3, none⟩ u3).setCell ⟨Y + 1, 4, none⟩ u4).setCell ⟨Y + 1, 5, none⟩ u5).setCell ⟨Y + 1, 6, none⟩ u6).setCell ⟨Y + 1, 7, none⟩ u7).setCell ⟨Y + 1, 8, none⟩ u8).setCell ⟨Y + 1, 9, none⟩ u9).setCell ⟨Y + 1, 10, none⟩ u10).ownsRow (Y + 2) e size v n xs :=
  (own_set (own_set (own_set (own_set (own_set (own_set (own_set (own_set (own_set (own_set (own_set h (by show Y + 1 < _; omega) _) (by show Y + 1 < _; omega) _) (by show Y + 1 < _; omega) _) (by show Y + 1 < _; omega) _) (by show Y + 1 < _; omega) _) (by show Y + 1 < _; omega) _) (by show Y + 1 < _; omega) _) (by show Y + 1 < _; omega) _) (by show Y + 1 < _; omega) _) (by show Y + 1 < _; omega) _) (by show Y + 1 < _; omega) _)

set_option maxHeartbeats 2000000 in
/-- A copy of a chunk, which shares no list with it. -/
theorem ckOwn_any (c : Ck) (d s k : Value) (w : World) (hd : By w.heap.size w d c.data) (hs : Sl w.heap.size w s c.spans) (hk : Kl w.heap.size w k c.skips) (hf : CkFit c) :
    Calls Try.prog 50 #[ckVal c d s k] w fun e w' => ∃ v, e = .returned v ∧ CkOwn w.heap.size w' v c ∧ Below w.heap.size w w' := by
  obtain ⟨ad, cd, rfl, -, -⟩ := hd.ex
  obtain ⟨asp, csp, rfl⟩ := hs.ex
  obtain ⟨ak, ck, rfl, -, -⟩ := hk.ex
  obtain ⟨f1, f2, f3⟩ := hf
  have HB : IsB c.data := hd.2
  have HF : Fit c.spans := hs.len.2.2.2
  obtain ⟨kind, tag, stream, mid, part, last, ordered, data, spans, room, skips⟩ := c
  simp only [ckVal] at *
  have B0 := two_below w (.cells #[.int .i64 kind, .int .i64 tag, .int .i64 stream, .int .i64 mid, .int .i64 part, .bool last, .bool ordered, .slice ad data.length cd, .slice asp spans.length csp, .int .i64 room, .slice ak skips.length ck] 42) (.cells #[.int .i64 0, .int .i64 0, .int .i64 0, .int .i64 0, .int .i64 0, .bool false, .bool false, .slice none 0 0, .slice none 0 0, .int .i64 0, .slice none 0 0] 42)
  have CX : Cells w.heap.size ((w.alloc (.cells #[.int .i64 kind, .int .i64 tag, .int .i64 stream, .int .i64 mid, .int .i64 part, .bool last, .bool ordered, .slice ad data.length cd, .slice asp spans.length csp, .int .i64 room, .slice ak skips.length ck] 42)).alloc (.cells #[.int .i64 0, .int .i64 0, .int .i64 0, .int .i64 0, .int .i64 0, .bool false, .bool false, .slice none 0 0, .slice none 0 0, .int .i64 0, .slice none 0 0] 42)) [.int .i64 kind, .int .i64 tag, .int .i64 stream, .int .i64 mid, .int .i64 part, .bool last, .bool ordered, .slice ad data.length cd, .slice asp spans.length csp, .int .i64 room, .slice ak skips.length ck] := (Cells.new w #[.int .i64 kind, .int .i64 tag, .int .i64 stream, .int .i64 mid, .int .i64 part, .bool last, .bool ordered, .slice ad data.length cd, .slice asp spans.length csp, .int .i64 room, .slice ak skips.length ck] 42).alloc (by simp) _
  have CR : Cells (w.heap.size + 1) ((w.alloc (.cells #[.int .i64 kind, .int .i64 tag, .int .i64 stream, .int .i64 mid, .int .i64 part, .bool last, .bool ordered, .slice ad data.length cd, .slice asp spans.length csp, .int .i64 room, .slice ak skips.length ck] 42)).alloc (.cells #[.int .i64 0, .int .i64 0, .int .i64 0, .int .i64 0, .int .i64 0, .bool false, .bool false, .slice none 0 0, .slice none 0 0, .int .i64 0, .slice none 0 0] 42)) [.int .i64 0, .int .i64 0, .int .i64 0, .int .i64 0, .int .i64 0, .bool false, .bool false, .slice none 0 0, .slice none 0 0, .int .i64 0, .slice none 0 0] := Cells.new' #[.int .i64 0, .int .i64 0, .int .i64 0, .int .i64 0, .int .i64 0, .bool false, .bool false, .slice none 0 0, .slice none 0 0, .int .i64 0, .slice none 0 0] 42 (by simp)
  have hz : ((w.alloc (.cells #[.int .i64 kind, .int .i64 tag, .int .i64 stream, .int .i64 mid, .int .i64 part, .bool last, .bool ordered, .slice ad data.length cd, .slice asp spans.length csp, .int .i64 room, .slice ak skips.length ck] 42)).alloc (.cells #[.int .i64 0, .int .i64 0, .int .i64 0, .int .i64 0, .int .i64 0, .bool false, .bool false, .slice none 0 0, .slice none 0 0, .int .i64 0, .slice none 0 0] 42)).heap.size = w.heap.size + 2 := by simp
  go_enter Try.func50, Try.ntmps50
  go_wp2_with fail
  generalize ((w.alloc (.cells #[.int .i64 kind, .int .i64 tag, .int .i64 stream, .int .i64 mid, .int .i64 part, .bool last, .bool ordered, .slice ad data.length cd, .slice asp spans.length csp, .int .i64 room, .slice ak skips.length ck] 42)).alloc (.cells #[.int .i64 0, .int .i64 0, .int .i64 0, .int .i64 0, .int .i64 0, .bool false, .bool false, .slice none 0 0, .slice none 0 0, .int .i64 0, .slice none 0 0] 42)) = w0 at *
  have RD := hd.1.below B0 (Nat.le_refl _)
  have RS := hs.rw'.below B0 (Nat.le_refl _)
  have RK := Rw.below hk B0 (Nat.le_refl _)
  have KX : ∀ wx, Below w0.heap.size w0 wx → wx.cell? ⟨w.heap.size, 0, none⟩ = some (.int .i64 kind) ∧ wx.cell? ⟨w.heap.size, 1, none⟩ = some (.int .i64 tag) ∧ wx.cell? ⟨w.heap.size, 2, none⟩ = some (.int .i64 stream) ∧ wx.cell? ⟨w.heap.size, 3, none⟩ = some (.int .i64 mid) ∧ wx.cell? ⟨w.heap.size, 4, none⟩ = some (.int .i64 part) ∧ wx.cell? ⟨w.heap.size, 5, none⟩ = some (.bool last) ∧ wx.cell? ⟨w.heap.size, 6, none⟩ = some (.bool ordered) ∧ wx.cell? ⟨w.heap.size, 7, none⟩ = some (.slice ad data.length cd) ∧ wx.cell? ⟨w.heap.size, 8, none⟩ = some (.slice asp spans.length csp) ∧ wx.cell? ⟨w.heap.size, 9, none⟩ = some (.int .i64 room) ∧ wx.cell? ⟨w.heap.size, 10, none⟩ = some (.slice ak skips.length ck) ∧ wx.frozen? ⟨w.heap.size, 7, none⟩ = false ∧ wx.frozen? ⟨w.heap.size, 8, none⟩ = false ∧ wx.frozen? ⟨w.heap.size, 10, none⟩ = false := fun wx hx => by
    have h := CX.below hx (by omega)
    exact ⟨h.cell 0 _ rfl, h.cell 1 _ rfl, h.cell 2 _ rfl, h.cell 3 _ rfl, h.cell 4 _ rfl, h.cell 5 _ rfl, h.cell 6 _ rfl, h.cell 7 _ rfl, h.cell 8 _ rfl, h.cell 9 _ rfl, h.cell 10 _ rfl, h.fz 7, h.fz 8, h.fz 10⟩
  have C1 : ∀ wx, Below w0.heap.size w0 wx → Calls Try.prog 51 #[.slice ad data.length cd] wx fun e w' => ∃ v, e = .returned v ∧ ∃ a c, v = .slice a data.length c ∧ w'.ownsRow w0.heap.size 5 1 (.slice a data.length c) data.length (cellsB data) ∧ Below wx.heap.size wx w' := fun wx hx =>
    (clone_bytes _ _ _ wx ((RD.below hx (by omega)).mono (by have := hx.size; omega)) (cellsB_one _) (by omega)).mono fun e w' ⟨a, c, e1, o1, b1⟩ => ⟨_, e1, a, c, rfl, own_low o1 hx.size, b1⟩
  have C2 : ∀ wx, Below w0.heap.size w0 wx → Calls Try.prog 46 #[.slice asp spans.length csp] wx fun e w' => ∃ v, e = .returned v ∧ ∃ a c, v = .slice a spans.length c ∧ w'.ownsRow w0.heap.size 75 2 (.slice a spans.length c) spans.length (flat spans) ∧ Below wx.heap.size wx w' := fun wx hx =>
    (clone_spans _ _ _ wx ((RS.below hx (by omega)).mono (by have := hx.size; omega)) (flat_one _) (by omega)).mono fun e w' ⟨a, c, e1, o1, b1⟩ => ⟨_, e1, a, c, rfl, own_low o1 hx.size, b1⟩
  have C3 : ∀ wx, Below w0.heap.size w0 wx → Calls Try.prog 71 #[.slice ak skips.length ck] wx fun e w' => ∃ v, e = .returned v ∧ ∃ a c, v = .slice a skips.length c ∧ w'.ownsRow w0.heap.size 98 3 (.slice a skips.length c) skips.length (cellsK skips) ∧ Below wx.heap.size wx w' := fun wx hx =>
    (clone_skips _ _ _ wx ((RK.below hx (by omega)).mono (by have := hx.size; omega)) (cellsK_one _) (by omega)).mono fun e w' ⟨a, c, e1, o1, b1⟩ => ⟨_, e1, a, c, rfl, own_low o1 hx.size, b1⟩
  obtain ⟨x0, x1, x2, x3, x4, x5, x6, x7, x8, x9, x10, z7, z8, z10⟩ := KX _ (Below.refl _ _)
  clear RD RS RK
  go_cut [14] from 3 to 13 (fun s14 wx => ∃ a1 c1 a2 c2 a3 c3, s14 = .pointer (some ⟨w.heap.size, 10, none⟩) ∧ wx.ownsRow w0.heap.size 5 1 (.slice a1 data.length c1) data.length (cellsB data) ∧ wx.ownsRow w0.heap.size 75 2 (.slice a2 spans.length c2) spans.length (flat spans) ∧ wx.ownsRow w0.heap.size 98 3 (.slice a3 skips.length c3) skips.length (cellsK skips) ∧ Cells w.heap.size wx [.int .i64 kind, .int .i64 tag, .int .i64 stream, .int .i64 mid, .int .i64 part, .bool last, .bool ordered, .slice a1 data.length c1, .slice a2 spans.length c2, .int .i64 room, .slice a3 skips.length c3] ∧ Cells (w.heap.size + 1) wx [.int .i64 0, .int .i64 0, .int .i64 0, .int .i64 0, .int .i64 0, .bool false, .bool false, .slice none 0 0, .slice none 0 0, .int .i64 0, .slice none 0 0] ∧ Below w.heap.size w wx ∧ w0.heap.size ≤ wx.heap.size)
  case first =>
    go_region_law (first
      | (refine step_call1 rfl 51 (.tmp 4) 38 rfl (.slice ad data.length cd) rfl rfl enters_clone_bytes _ (C1 _ (drew_below _ _)) ?_; rintro _ w1 ⟨a1, c1, rfl, o1, b1⟩; have B1 : Below w0.heap.size w0 w1 := (drew_below _ w0).trans b1; obtain ⟨_, _, _, _, _, _, _, y7, y8, _, y10, _, _, _⟩ := KX _ B1)
      | (refine step_call1 rfl 46 (.tmp 7) 39 rfl (.slice asp spans.length csp) rfl rfl enters_clone_spans _ (C2 _ B1) ?_; rintro _ w2 ⟨a2, c2, rfl, o2, b2⟩; have B2 : Below w0.heap.size w0 w2 := B1.trans (b2.mono B1.size); obtain ⟨_, _, _, _, _, _, _, v7, v8, _, v10, _, _, _⟩ := KX _ B2)
      | (refine step_call1 rfl 71 (.tmp 10) 40 rfl (.slice ak skips.length ck) rfl rfl enters_clone_skips _ (C3 _ B2) ?_; rintro _ w3 ⟨a3, c3, rfl, o3, b3⟩; have B3 : Below w0.heap.size w0 w3 := B2.trans (b3.mono B2.size); obtain ⟨u0, u1, u2, u3, u4, u5, u6, u7, u8, u9, u10, t7, t8, t10⟩ := KX _ B3))
    all_goals
      go_wp2_with fail
      go_meet
      have hsz1 := b1.size
      have hsz2 := b2.size
      have hsz3 := B3.size
      have o1' := own_of_block o1 fun k hk => (b2.trans (b3.mono hsz2)).block k (o1.lt k hk).2
      have o2' := own_of_block o2 fun k hk => b3.block k (o2.lt k hk).2
      refine ⟨a1, c1, a2, c2, a3, c3, rfl, ?_, ?_, ?_, (((CX.below B3 (by omega)).set 7 _ (by simp)).set 8 _ (by simp)).set 10 _ (by simp), (((CR.below B3 (by omega)).past (Y := w.heap.size) 7 _ (by omega)).past (Y := w.heap.size) 8 _ (by omega)).past (Y := w.heap.size) 10 _ (by omega), ?_, by simp; omega⟩
      · exact own_set (own_set (own_set o1' (by show w.heap.size < _; omega) _) (by show w.heap.size < _; omega) _) (by show w.heap.size < _; omega) _
      · exact own_set (own_set (own_set o2' (by show w.heap.size < _; omega) _) (by show w.heap.size < _; omega) _) (by show w.heap.size < _; omega) _
      · exact own_set (own_set (own_set o3 (by show w.heap.size < _; omega) _) (by show w.heap.size < _; omega) _) (by show w.heap.size < _; omega) _
      · exact (((B0.trans (B3.mono (by omega))).setCell (Nat.le_refl _) _).setCell (Nat.le_refl _) _).setCell (Nat.le_refl _) _
  case rest =>
    obtain ⟨a1, c1, a2, c2, a3, c3, rfl, o1, o2, o3, CXc, CRc, BC, hszc⟩ := hcut
    clear KX C1 C2 C3 CX CR x0 x1 x2 x3 x4 x5 x6 x7 x8 x9 x10 z7 z8 z10
    have x0 := CXc.cell 0 _ rfl
    have r0 := CRc.cell 0 _ rfl
    have g0 := CRc.fz 0
    have x1 := CXc.cell 1 _ rfl
    have r1 := CRc.cell 1 _ rfl
    have g1 := CRc.fz 1
    have x2 := CXc.cell 2 _ rfl
    have r2 := CRc.cell 2 _ rfl
    have g2 := CRc.fz 2
    have x3 := CXc.cell 3 _ rfl
    have r3 := CRc.cell 3 _ rfl
    have g3 := CRc.fz 3
    have x4 := CXc.cell 4 _ rfl
    have r4 := CRc.cell 4 _ rfl
    have g4 := CRc.fz 4
    have x5 := CXc.cell 5 _ rfl
    have r5 := CRc.cell 5 _ rfl
    have g5 := CRc.fz 5
    have x6 := CXc.cell 6 _ rfl
    have r6 := CRc.cell 6 _ rfl
    have g6 := CRc.fz 6
    have x7 := CXc.cell 7 _ rfl
    have r7 := CRc.cell 7 _ rfl
    have g7 := CRc.fz 7
    have x8 := CXc.cell 8 _ rfl
    have r8 := CRc.cell 8 _ rfl
    have g8 := CRc.fz 8
    have x9 := CXc.cell 9 _ rfl
    have r9 := CRc.cell 9 _ rfl
    have g9 := CRc.fz 9
    have x10 := CXc.cell 10 _ rfl
    have r10 := CRc.cell 10 _ rfl
    have g10 := CRc.fz 10
    have ne1 : ¬ w.heap.size = w.heap.size + 1 := by omega
    have ne2 : ¬ w.heap.size + 1 = w.heap.size := by omega
    go_wp2_with fail
    have CE := (((((((((((CRc.set 0 (.int .i64 kind) (by simp)).set 1 (.int .i64 tag) (by simp)).set 2 (.int .i64 stream) (by simp)).set 3 (.int .i64 mid) (by simp)).set 4 (.int .i64 part) (by simp)).set 5 (.bool last) (by simp)).set 6 (.bool ordered) (by simp)).set 7 (.slice a1 data.length c1) (by simp)).set 8 (.slice a2 spans.length c2) (by simp)).set 9 (.int .i64 room) (by simp)).set 10 (.slice a3 skips.length c3) (by simp))
    have e0 := CE.cell 0 _ rfl
    have e1 := CE.cell 1 _ rfl
    have e2 := CE.cell 2 _ rfl
    have e3 := CE.cell 3 _ rfl
    have e4 := CE.cell 4 _ rfl
    have e5 := CE.cell 5 _ rfl
    have e6 := CE.cell 6 _ rfl
    have e7 := CE.cell 7 _ rfl
    have e8 := CE.cell 8 _ rfl
    have e9 := CE.cell 9 _ rfl
    have e10 := CE.cell 10 _ rfl
    refine bodyPost_ret (v := .agg #[.int .i64 kind, .int .i64 tag, .int .i64 stream, .int .i64 mid, .int .i64 part, .bool last, .bool ordered, .slice a1 data.length c1, .slice a2 spans.length c2, .int .i64 room, .slice a3 skips.length c3]) (by simp [results, Try.results50, go_sem, e0, e1, e2, e3, e4, e5, e6, e7, e8, e9, e10]) rfl ⟨_, rfl, ⟨_, _, _, rfl, ?_, ?_, ?_, HB, HF⟩, ?_⟩
    · exact own_low (own_r w.heap.size (own_low o1 (show w.heap.size + 2 ≤ _ by omega)) _ _ _ _ _ _ _ _ _ _ _) (by omega)
    · exact own_low (own_r w.heap.size (own_low o2 (show w.heap.size + 2 ≤ _ by omega)) _ _ _ _ _ _ _ _ _ _ _) (by omega)
    · exact own_low (own_r w.heap.size (own_low o3 (show w.heap.size + 2 ≤ _ by omega)) _ _ _ _ _ _ _ _ _ _ _) (by omega)
    · exact (((((((((((BC.setCell (by show _ ≤ _ + 1; omega) _).setCell (by show _ ≤ _ + 1; omega) _).setCell (by show _ ≤ _ + 1; omega) _).setCell (by show _ ≤ _ + 1; omega) _).setCell (by show _ ≤ _ + 1; omega) _).setCell (by show _ ≤ _ + 1; omega) _).setCell (by show _ ≤ _ + 1; omega) _).setCell (by show _ ≤ _ + 1; omega) _).setCell (by show _ ≤ _ + 1; omega) _).setCell (by show _ ≤ _ + 1; omega) _).setCell (by show _ ≤ _ + 1; omega) _)
end Go.Proofs.Ytnddejdndipddad

namespace Go.Proofs.Ytnddejdndipddad
open Go.RowKit

/-- A part's lists: they are these, and lie in blocks of S. -/
structure SnL (S : Nat → Prop) (w : World) (c : Ck) (vd vs vq : Value) : Prop where
  d : By w.heap.size w vd c.data
  s : Sl w.heap.size w vs c.spans
  q : Kl w.heap.size w vq c.skips
  id : InS S vd
  is : InS S vs
  iq : InS S vq
theorem SnL.keep {S : Nat → Prop} {w w' : World} {c : Ck} {d s q : Value} (h : SnL S w c d s q) (kp : Keep S w w') : SnL S w' c d s q :=
  ⟨⟨h.d.1.keep h.id kp kp.size, h.d.2⟩, Sl.of_rw (h.s.rw'.keep h.is kp kp.size) (by obtain ⟨_, _, _, _, _, _, h, _⟩ := h.s; exact h), Rw.keep h.q h.iq kp kp.size, h.id, h.is, h.iq⟩
theorem SnL.mono {S S' : Nat → Prop} {w : World} {c : Ck} {d s q : Value} (h : SnL S w c d s q) (hs : ∀ k, S k → S' k) : SnL S' w c d s q := ⟨h.d, h.s, h.q, h.id.mono hs, h.is.mono hs, h.iq.mono hs⟩
theorem Rw.ins {k B : Nat} {w : World} {v : Value} {n : Nat} {xs : List Value} (h : Rw k B w v n xs) : InS (fun j => j < B) v := by
  obtain ⟨hl, a, cap, rfl, h1, h2, h0, h4⟩ := h
  rintro b off sp m cap' e hn
  simp only [Value.slice.injEq] at e
  obtain ⟨rfl, rfl, rfl⟩ := e
  obtain ⟨b', off', e, hb, _⟩ := h4 hn
  simp only [Option.some.injEq, Addr.mk.injEq] at e
  obtain ⟨rfl, rfl, rfl⟩ := e
  exact hb
theorem SnL.of {B : Nat} {w : World} {c : Ck} {d s q : Value} (h1 : By B w d c.data) (h2 : Sl B w s c.spans) (h3 : Kl B w q c.skips) (hB : B ≤ w.heap.size) : SnL (fun j => j < B) w c d s q :=
  ⟨h1.mono hB, h2.mono hB, h3.mono hB, h1.1.ins, h2.rw'.ins, Rw.ins h3⟩
theorem SnL.own {base : Nat} {w : World} {c : Ck} {v : Value} (h : CkOwn base w v c) : ∃ d s q, v = ckVal c d s q ∧ SnL (fun k => base ≤ k ∧ k < w.heap.size) w c d s q := by
  obtain ⟨d, s, k, rfl, h1, h2, h3, h4, h5⟩ := h
  exact ⟨d, s, k, rfl, ⟨Rw.own h1 (by simp [cellsB]), h4⟩, Sl.of_rw (Rw.own h2 (flat_length _)) h5, Rw.own h3 (cellsK_length _), InS.own h1, InS.own h2, InS.own h3⟩
/-- Written out. -/
theorem SnL.ex {S : Nat → Prop} {w : World} {c : Ck} {d s q : Value} (h : SnL S w c d s q) : ∃ da dc sa sc qa qc, d = .slice da c.data.length dc ∧ s = .slice sa c.spans.length sc ∧ q = .slice qa c.skips.length qc := by
  obtain ⟨da, dc, rfl, -, -⟩ := h.d.ex
  obtain ⟨sa, sc, rfl⟩ := h.s.ex
  obtain ⟨qa, qc, rfl, -, -⟩ := h.q.ex
  exact ⟨da, dc, sa, sc, qa, qc, rfl, rfl, rfl⟩

/-- A call of a function with two operands, as a step of a region. -/
theorem step_call2 {ops : Array Oper} {o : Oper} {a : Act} {w : World} {K : Act → World → Prop} {Q : Exit → Act → World → Prop} {E : Prop} (hg : o.guard = none) (f : FuncId) (x y : Operand) (ts : Array TypeId)
    (hop : o.op = Op.call { callee := Callee.value (.func f), args := #[x, y], argTypes := ts }) (u u' : Value) (hu : a.eval x = u) (hu' : a.eval y = u') (hf : a.eval (.func f) = .func (.func f) #[] #[])
    (hent : ∀ (args : Array Value) (wx : World), (callFunc f args).run Try.prog wx = .ok (.enter f args) wx) (R : Value → World → Prop) (hc : Calls Try.prog f #[u, u'] w fun e w' => ∃ v, e = .returned v ∧ R v w')
    (hK : ∀ v w', R v w' → K (a.put o.dst v) w') : if Region.wanted o (yielded ops a.tmps) = true then Oper.wp Try.prog o a w K Q else E := by
  have hw : Region.wanted o (yielded ops a.tmps) = true := by simp [Region.wanted, hg]
  rw [if_pos hw]
  unfold Oper.wp
  simp [execOp, hop, resolve, invoke, hf, hu, hu', hent, Deferred.ofValue, Oper.upon]
  refine hc.mono ?_
  rintro e w' ⟨v, rfl, hr⟩
  exact hK v w' hr
/-- A call of a function with two operands, under a guard, as a step of a region. -/
theorem step_call2w {ops : Array Oper} {o : Oper} {a : Act} {w : World} {K : Act → World → Prop} {Q : Exit → Act → World → Prop} {E : Prop} (hw : Region.wanted o (yielded ops a.tmps) = true) (f : FuncId) (x y : Operand) (ts : Array TypeId)
    (hop : o.op = Op.call { callee := Callee.value (.func f), args := #[x, y], argTypes := ts }) (u u' : Value) (hu : a.eval x = u) (hu' : a.eval y = u') (hf : a.eval (.func f) = .func (.func f) #[] #[])
    (hent : ∀ (args : Array Value) (wx : World), (callFunc f args).run Try.prog wx = .ok (.enter f args) wx) (R : Value → World → Prop) (hc : Calls Try.prog f #[u, u'] w fun e w' => ∃ v, e = .returned v ∧ R v w')
    (hK : ∀ v w', R v w' → K (a.put o.dst v) w') : if Region.wanted o (yielded ops a.tmps) = true then Oper.wp Try.prog o a w K Q else E := by
  rw [if_pos hw]
  unfold Oper.wp
  simp [execOp, hop, resolve, invoke, hf, hu, hu', hent, Deferred.ofValue, Oper.upon]
  refine hc.mono ?_
  rintro e w' ⟨v, rfl, hr⟩
  exact hK v w' hr
/-- A load, a store, as steps of a region. -/
theorem step_ld {ops : Array Oper} {o : Oper} {a : Act} {w : World} {K : Act → World → Prop} {Q : Exit → Act → World → Prop} {E : Prop} (hw : Region.wanted o (yielded ops a.tmps) = true) (ty : TypeId) (x : Operand) (hop : o.op = .load ty x) (p : Value) (hx : a.eval x = p) (v : Value)
    (hr : (Instr.loadAt ty p).run Try.prog w = .ok v w) (hK : K (a.put o.dst v) w) : if Region.wanted o (yielded ops a.tmps) = true then Oper.wp Try.prog o a w K Q else E := by
  rw [if_pos hw]
  unfold Oper.wp
  simp only [execOp, hop, hx, hr, Sem.run_bind, Sem.run_pure, Result.andThen_ok]
  exact hK
theorem step_st {ops : Array Oper} {o : Oper} {a : Act} {w w' : World} {K : Act → World → Prop} {Q : Exit → Act → World → Prop} {E : Prop} (hw : Region.wanted o (yielded ops a.tmps) = true) (ty : TypeId) (x y : Operand) (hop : o.op = .store ty x y) (p v : Value) (hx : a.eval x = p) (hy : a.eval y = v)
    (hr : (Instr.storeAt ty p v).run Try.prog w = .ok () w') (hK : K (a.put o.dst undef) w') : if Region.wanted o (yielded ops a.tmps) = true then Oper.wp Try.prog o a w K Q else E := by
  rw [if_pos hw]
  unfold Oper.wp
  simp only [execOp, hop, hx, hy, hr, Sem.run_bind, Sem.run_pure, Result.andThen_ok]
  exact hK
theorem run_ld3 {w : World} {b j : Nat} {z : Int} (h : w.cell? ⟨b, j, none⟩ = some (.int .i64 z)) : (Instr.loadAt 3 (.pointer (some ⟨b, j, none⟩))).run Try.prog w = .ok (.int .i64 z) w := by
  go_simp
theorem run_st3 {w : World} {b j : Nat} {u : Value} (h : w.cell? ⟨b, j, none⟩ = some u) (hf : w.frozen? ⟨b, j, none⟩ = false) (z : Int) : (Instr.storeAt 3 (.pointer (some ⟨b, j, none⟩)) (.int .i64 z)).run Try.prog w = .ok () (w.setCell ⟨b, j, none⟩ (.int .i64 z)) := by
  go_simp
theorem Below.setCells {B : Nat} {a : World} {b : Nat} (hb : B ≤ b) : ∀ (cs : List Value) (o : Nat) {w : World}, Below B a w → Below B a (w.setCells b o cs)
  | [], _, _, h => h
  | v :: r, o, _, h => Below.setCells hb r (o + 1) (h.setCell (p := ⟨b, o, none⟩) hb v)
theorem size_setCells (b : Nat) : ∀ (cs : List Value) (o : Nat) (w : World), (w.setCells b o cs).heap.size = w.heap.size
  | [], _, _ => rfl
  | v :: r, o, w => by rw [World.setCells, size_setCells b r]; simp
theorem Keep.setCells {S : Nat → Prop} {a : World} {b : Nat} (hb : ¬ S b) : ∀ (cs : List Value) (o : Nat) {w : World}, Keep S a w → Keep S a (w.setCells b o cs)
  | [], _, _, h => h
  | v :: r, o, _, h => Keep.setCells hb r (o + 1) (h.setCell (p := ⟨b, o, none⟩) hb v)
end Go.Proofs.Ytnddejdndipddad

namespace Go.Proofs.Ytnddejdndipddad
open Go.RowKit

theorem alloc_setCells (w : World) (t : TypeId) : ∀ (vs zs pre : List Value), vs.length = zs.length → (w.alloc (.cells (pre ++ zs).toArray t)).setCells w.heap.size pre.length vs = w.alloc (.cells (pre ++ vs).toArray t)
  | [], zs, pre, h => by
    have : zs = [] := List.eq_nil_of_length_eq_zero (by simpa using h.symm)
    subst this
    rfl
  | v :: vs, [], pre, h => by simp at h
  | v :: vs, z :: zs, pre, h => by
    have e : ((pre ++ z :: zs).toArray).setIfInBounds pre.length v = ((pre ++ [v]) ++ zs).toArray := by
      simp [List.set_append_right]
    have := alloc_setCells w t vs zs (pre ++ [v]) (by simpa using h)
    rw [World.setCells, World.setCell_alloc_new, e]
    rw [show (pre ++ [v]).length = pre.length + 1 by simp] at this
    rw [this]
    simp
end Go.Proofs.Ytnddejdndipddad

