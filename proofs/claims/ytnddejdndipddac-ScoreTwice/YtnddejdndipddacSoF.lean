/- The contracts of score's Own, Give, Late and Flight. -/
import Derived.Test.YtnddejdndipddacSoE
set_option maxRecDepth 20000
namespace Go.Proofs.Ytnddejdndipddac
open Go.RowKit

theorem enters_own1 (args : Array Value) (wx : World) : (callFunc 49 args).run Try.prog wx = .ok (.enter 49 args) wx := enters_body Try.func49 (by kernel_rfl) rfl args wx
theorem enters_give1 (args : Array Value) (wx : World) : (callFunc 52 args).run Try.prog wx = .ok (.enter 52 args) wx := enters_body Try.func52 (by kernel_rfl) rfl args wx
theorem enters_late1 (args : Array Value) (wx : World) : (callFunc 53 args).run Try.prog wx = .ok (.enter 53 args) wx := enters_body Try.func53 (by kernel_rfl) rfl args wx

/-- Nothing was done. -/
theorem chg_none {g k : Nat} {U : Nat → Prop} {x : Sn} {d s q : Value} {wx w' : World} (hb : Below wx.heap.size wx w') (hg : g < wx.heap.size) (hat : SnAt wx g (k * 20) x d s q) (hfz : ∀ j, wx.frozen? ⟨g, j, none⟩ = false) :
    Keep (fun b => b < wx.heap.size ∧ b ≠ g ∧ U b) wx w' ∧ (∀ j, w'.frozen? ⟨g, j, none⟩ = false) ∧ (∀ j, j ≠ k * 20 + 2 → w'.cell? ⟨g, j, none⟩ = wx.cell? ⟨g, j, none⟩) ∧ w'.cell? ⟨g, k * 20 + 2, none⟩ = some (.int .i64 x.state) :=
  ⟨⟨hb.os, hb.tape, hb.output, hb.size, fun i hi => hb.block i hi.1⟩, fun j => (hb.frozen (p := ⟨g, j, none⟩) hg).trans (hfz j), fun j _ => hb.cell (p := ⟨g, j, none⟩) hg, (hb.cell (p := ⟨g, k * 20 + 2, none⟩) hg).trans hat.2.2.1⟩
/-- A state was stored. -/
theorem chg_put {g k : Nat} {U : Nat → Prop} {x : Sn} {d s q : Value} {wx w1 : World} {st : Int} (hb : Below wx.heap.size wx w1) (hg : g < wx.heap.size) (hat : SnAt wx g (k * 20) x d s q) (hfz : ∀ j, wx.frozen? ⟨g, j, none⟩ = false) :
    Keep (fun b => b < wx.heap.size ∧ b ≠ g ∧ U b) wx (w1.setCell ⟨g, k * 20 + 2, none⟩ (.int .i64 st)) ∧ (∀ j, (w1.setCell ⟨g, k * 20 + 2, none⟩ (.int .i64 st)).frozen? ⟨g, j, none⟩ = false) ∧ (∀ j, j ≠ k * 20 + 2 → (w1.setCell ⟨g, k * 20 + 2, none⟩ (.int .i64 st)).cell? ⟨g, j, none⟩ = wx.cell? ⟨g, j, none⟩) ∧ (w1.setCell ⟨g, k * 20 + 2, none⟩ (.int .i64 st)).cell? ⟨g, k * 20 + 2, none⟩ = some (.int .i64 st) := by
  obtain ⟨h1, h2, h3, h4⟩ := chg_none (U := U) hb hg hat hfz
  refine ⟨h1.setCell (p := ⟨g, k * 20 + 2, none⟩) (fun h => h.2.1 rfl) _, fun j => by simpa using h2 j, fun j hj => ?_, World.cell?_setCell_same' _ _ _ (by rw [h4]; rfl)⟩
  rw [World.cell?_setCell_other _ _ _ _ (by simp <;> omega)]
  exact h3 j hj

set_option maxHeartbeats 400000 in
theorem chg_own (U : Nat → Prop) (B0 : Nat) (l : List Sn) : Chg 49 #[] (fun x => x) U (fun _ _ => True) B0 l := by
  intro g k x da dc sa sc qa qc wx hx hg hgl hB hj hat hl hfz
  have HAT : Hid (SnAt wx g (k * 20) x (.slice da x.ck.data.length dc) (.slice sa x.ck.spans.length sc) (.slice qa x.ck.skips.length qc)) := hat
  show Calls _ _ #[.pointer (some ⟨g, k * 20, none⟩)] _ _
  clear hat hl
  go_enter Try.func49, Try.ntmps49
  go_wp2
  go_end0
  exact ⟨⟨_, rfl⟩, trivial, chg_none (U := U) (Below.refl wx.heap.size wx) hgl HAT.out hfz⟩

set_option maxHeartbeats 1000000 in
theorem chg_give (U : Nat → Prop) (B0 X : Nat) (id : Int) (l : List Sn) : Chg 52 #[.pointer (some ⟨X, 0, none⟩)] (giveS id) U (fun _ w => w.cell? ⟨X, 0, none⟩ = some (.int .i64 id)) B0 l := by
  intro g k x da dc sa sc qa qc wx hx hg hgl hB hj hat hl hfz
  have HN := chg_none (U := U) (Below.refl wx.heap.size (wx)) hgl hat hfz
  have HN' := fun n => chg_none (U := U) (drewN_below wx.heap.size wx n) hgl hat hfz
  have HP := fun n => chg_put (U := U) (st := 4) (drewN_below wx.heap.size wx n) hgl hat hfz
  have JP : ∀ n u, ((wx.drewN n).setCell ⟨g, k * 20 + 2, none⟩ u).cell? ⟨X, 0, none⟩ = some (.int .i64 id) := fun n u => by rw [World.cell?_setCell_other _ _ _ _ (by simp <;> omega)]; exact hj
  show Calls _ _ #[.pointer (some ⟨g, k * 20, none⟩), .pointer (some ⟨X, 0, none⟩)] _ _
  obtain ⟨-, x1, x2, -⟩ := hat
  have z2 := hfz (k * 20 + 2)
  clear hl
  generalize hoff : k * 20 = off at *
  cases h1 : (x.id == id) with
  | false =>
    have HS : Hid ((giveS id x).state = x.state) := by show _ = _; simp [giveS, h1]
    go_enter Try.func52, Try.ntmps52
    go_wp2
    go_quiet (fail)
    go_wp2
    go_end0
    rw [HS.out]
    exact ⟨⟨_, rfl⟩, hj, HN' _⟩
  | true =>
    cases h2 : (x.state != 2) with
    | false =>
      have HS : Hid ((giveS id x).state = x.state) := by show _ = _; simp [giveS, h1, h2]
      go_enter Try.func52, Try.ntmps52
      go_wp2
      go_quiet (fail)
      go_wp2
      go_end0
      rw [HS.out]
      exact ⟨⟨_, rfl⟩, hj, HN' _⟩
    | true =>
      have HS : Hid ((giveS id x).state = 4) := by show _ = _; simp [giveS, h1, h2, Sn.put]
      go_enter Try.func52, Try.ntmps52
      go_wp2
      go_quiet (fail)
      go_wp2
      go_end0
      rw [HS.out]
      exact ⟨⟨_, rfl⟩, JP _ _, HP _⟩

set_option maxHeartbeats 1000000 in
theorem chg_late (U : Nat → Prop) (B0 X : Nat) (p : Int) (l : List Sn) (hX : X < B0) : Chg 53 #[.pointer (some ⟨X, 0, none⟩)] (lateS p) U (fun _ w => w.cell? ⟨X, 0, none⟩ = some (.int .i64 p)) B0 l := by
  intro g k x da dc sa sc qa qc wx hx hg hgl hB hj hat hl hfz
  have HN := fun w' hb => chg_none (U := U) (w' := w') hb hgl hat hfz
  have HP := fun w' hb => chg_put (U := U) (st := 3) (w1 := w') hb hgl hat hfz
  have CS : ∀ w', Below wx.heap.size wx w' → w'.cell? ⟨g, k * 20 + 2, none⟩ = some (.int .i64 x.state) := fun w' hb => (HN w' hb).2.2.2
  have ZS : ∀ w', Below wx.heap.size wx w' → w'.frozen? ⟨g, k * 20 + 2, none⟩ = false := fun w' hb => (HN w' hb).2.1 _
  have JX : ∀ w', Below wx.heap.size wx w' → w'.cell? ⟨X, 0, none⟩ = some (.int .i64 p) := fun w' hb => (hb.cell (p := ⟨X, 0, none⟩) (by show X < _; omega)).trans hj
  have JP : ∀ w' u, Below wx.heap.size wx w' → (w'.setCell ⟨g, k * 20 + 2, none⟩ u).cell? ⟨X, 0, none⟩ = some (.int .i64 p) := fun w' u hb => by rw [World.cell?_setCell_other _ _ _ _ (by simp <;> omega)]; exact JX _ hb
  show Calls _ _ #[.pointer (some ⟨g, k * 20, none⟩), .pointer (some ⟨X, 0, none⟩)] _ _
  have ISO := fun wy => isOn_any x da x.ck.data.length dc sa x.ck.spans.length sc qa x.ck.skips.length qc p wy
  simp only [snVal] at ISO
  clear hl hfz
  have KX : ∀ wy, Below wx.heap.size wx wy → SnAt wy g (k * 20) x (.slice da x.ck.data.length dc) (.slice sa x.ck.spans.length sc) (.slice qa x.ck.skips.length qc) ∧ wy.cell? ⟨X, 0, none⟩ = some (.int .i64 p) := fun wy hb => ⟨hat.below hb hgl, JX wy hb⟩
  have IC : ∀ wy, Below wx.heap.size wx wy → Calls Try.prog 50 #[.agg #[.int .i64 x.number, .int .i64 x.id, .int .i64 x.state, .int .i64 x.path, .int .i64 x.missed, .int .i64 x.times, .int .i64 x.came, .int .i64 x.life, .int .i64 x.tries, .int .i64 x.ck.kind, .int .i64 x.ck.tag, .int .i64 x.ck.stream, .int .i64 x.ck.mid, .int .i64 x.ck.part, .bool x.ck.last, .bool x.ck.ordered, .slice da x.ck.data.length dc, .slice sa x.ck.spans.length sc, .int .i64 x.ck.room, .slice qa x.ck.skips.length qc], .int .i64 p] wy fun e w' => ∃ v, e = .returned v ∧ v = .bool (onM p x) ∧ Below wx.heap.size wx w' := fun wy hy => (ISO wy).mono fun e w' ⟨h1, h2⟩ => ⟨_, h1, rfl, hy.trans (h2.mono hy.size)⟩
  clear hat
  generalize hoff : k * 20 = off at *
  cases h1 : onM p x with
  | false =>
    have HS : Hid ((lateS p x).state = x.state) := by show _ = _; simp [lateS, h1]
    rw [h1] at IC
    go_enter Try.func53, Try.ntmps53
    go_wp2_with fail
    refine wp_region_held_drew (S := (fun w' => SnAt w' g off x (.slice da x.ck.data.length dc) (.slice sa x.ck.spans.length sc) (.slice qa x.ck.skips.length qc) ∧ w'.cell? ⟨X, 0, none⟩ = some (.int .i64 p))) (by kernel_rfl) (KX _ (drew_below _ _)) (fun hS0 => ?_)
    refine wpAnyH_take (i := 0) (oi := ({ dst := some 3, op := Op.move (Operand.tmp 0), type := 71, pos := "score.go:56", after := #[], guard := none } : Oper)) (v := ?va1) rfl (by kernel_rfl) (by kernel_rfl) (by kernel_rfl) (fun _ _ _ h => h) (Or.inl ⟨by rfl, ?ha1⟩) hS0 ?_
    case ha1 => (intro w hSw; go_simp; try with_reducible rfl)
    try simp only [Act.put, List.setIfInBounds_toArray, List.set_cons_zero, List.set_cons_succ]
    refine wpAnyH_take (i := 1) (oi := ({ dst := some 4, op := Op.nilCheck (Operand.tmp 3), type := 0, pos := "score.go:56", after := #[{ on := 0, ground := Ground.data }], guard := none } : Oper)) (v := ?va2) rfl (by kernel_rfl) (by kernel_rfl) (by kernel_rfl) (fun _ _ _ h => h) (Or.inl ⟨by rfl, ?ha2⟩) hS0 ?_
    case ha2 => (intro w hSw; go_simp; try with_reducible rfl)
    try simp only [Act.put, List.setIfInBounds_toArray, List.set_cons_zero, List.set_cons_succ]
    refine wpAnyH_take (i := 2) (oi := ({ dst := some 5, op := Op.load 53 (Operand.tmp 4), type := 53, pos := "score.go:56", after := #[{ on := 1, ground := Ground.data }], guard := none } : Oper)) rfl (by kernel_rfl) (by kernel_rfl) (by kernel_rfl) (fun _ _ _ h => h) (yieldsIf_load_mid (by rfl) 53 (.tmp 4) rfl g off rfl [.int .i64 x.number, .int .i64 x.id, .int .i64 x.state, .int .i64 x.path, .int .i64 x.missed, .int .i64 x.times, .int .i64 x.came, .int .i64 x.life, .int .i64 x.tries, .int .i64 x.ck.kind, .int .i64 x.ck.tag, .int .i64 x.ck.stream, .int .i64 x.ck.mid, .int .i64 x.ck.part, .bool x.ck.last, .bool x.ck.ordered, .slice da x.ck.data.length dc, .slice sa x.ck.spans.length sc, .int .i64 x.ck.room, .slice qa x.ck.skips.length qc] _ (fun w h => h.1.range) Try.underlying53 rfl Try.sizeSn) hS0 ?_
    try simp only [Act.put, List.setIfInBounds_toArray, List.set_cons_zero, List.set_cons_succ]
    refine wpAnyH_take (i := 3) (oi := ({ dst := some 6, op := Op.load 3 (Operand.tmp 1), type := 3, pos := "score.go:56", after := #[], guard := none } : Oper)) (v := ?va3) rfl (by kernel_rfl) (by kernel_rfl) (by kernel_rfl) (fun _ _ _ h => h) (Or.inl ⟨by rfl, ?ha3⟩) hS0 ?_
    case ha3 => (intro w hSw; have q1 := hSw.2; go_simp; try with_reducible rfl)
    try simp only [Act.put, List.setIfInBounds_toArray, List.set_cons_zero, List.set_cons_succ]
    refine wpAnyH_ready (rs := [4]) (by kernel_rfl) (by simp) ?_
    refine AllReadyH.cons (o := ({ dst := some 7, op := Op.call { callee := Callee.value (Operand.func 50), args := #[Operand.tmp 5, Operand.tmp 6], argTypes := #[53, 3] }, type := 4, pos := "score.go:56", after := #[{ on := 2, ground := Ground.data }, { on := 3, ground := Ground.data }], guard := none } : Oper)) rfl (fun K hK => ?_) AllReadyH.nil
    refine step_call2 rfl 50 (.tmp 5) (.tmp 6) #[53, 3] rfl _ _ rfl rfl rfl enters_isOn _ (IC _ (drew_below _ _)) ?_
    rintro _ w1 ⟨rfl, B1⟩
    refine hK.out _ _ (KX _ B1) (fun hS1 => ?_)
    clear hK K
    try simp only [Act.put, List.setIfInBounds_toArray, List.set_cons_zero, List.set_cons_succ]
    refine wpAnyH_done (by kernel_rfl) ?_ _
    go_wp2_with fail
    go_end0
    rw [HS.out]
    exact ⟨⟨_, rfl⟩, JX _ B1, HN _ B1⟩
  | true =>
    have HS : Hid ((lateS p x).state = 3) := by show _ = _; simp [lateS, h1, Sn.put]
    rw [h1] at IC
    go_enter Try.func53, Try.ntmps53
    go_wp2_with fail
    refine wp_region_held_drew (S := (fun w' => SnAt w' g off x (.slice da x.ck.data.length dc) (.slice sa x.ck.spans.length sc) (.slice qa x.ck.skips.length qc) ∧ w'.cell? ⟨X, 0, none⟩ = some (.int .i64 p))) (by kernel_rfl) (KX _ (drew_below _ _)) (fun hS0 => ?_)
    refine wpAnyH_take (i := 0) (oi := ({ dst := some 3, op := Op.move (Operand.tmp 0), type := 71, pos := "score.go:56", after := #[], guard := none } : Oper)) (v := ?vb1) rfl (by kernel_rfl) (by kernel_rfl) (by kernel_rfl) (fun _ _ _ h => h) (Or.inl ⟨by rfl, ?hb1⟩) hS0 ?_
    case hb1 => (intro w hSw; go_simp; try with_reducible rfl)
    try simp only [Act.put, List.setIfInBounds_toArray, List.set_cons_zero, List.set_cons_succ]
    refine wpAnyH_take (i := 1) (oi := ({ dst := some 4, op := Op.nilCheck (Operand.tmp 3), type := 0, pos := "score.go:56", after := #[{ on := 0, ground := Ground.data }], guard := none } : Oper)) (v := ?vb2) rfl (by kernel_rfl) (by kernel_rfl) (by kernel_rfl) (fun _ _ _ h => h) (Or.inl ⟨by rfl, ?hb2⟩) hS0 ?_
    case hb2 => (intro w hSw; go_simp; try with_reducible rfl)
    try simp only [Act.put, List.setIfInBounds_toArray, List.set_cons_zero, List.set_cons_succ]
    refine wpAnyH_take (i := 2) (oi := ({ dst := some 5, op := Op.load 53 (Operand.tmp 4), type := 53, pos := "score.go:56", after := #[{ on := 1, ground := Ground.data }], guard := none } : Oper)) rfl (by kernel_rfl) (by kernel_rfl) (by kernel_rfl) (fun _ _ _ h => h) (yieldsIf_load_mid (by rfl) 53 (.tmp 4) rfl g off rfl [.int .i64 x.number, .int .i64 x.id, .int .i64 x.state, .int .i64 x.path, .int .i64 x.missed, .int .i64 x.times, .int .i64 x.came, .int .i64 x.life, .int .i64 x.tries, .int .i64 x.ck.kind, .int .i64 x.ck.tag, .int .i64 x.ck.stream, .int .i64 x.ck.mid, .int .i64 x.ck.part, .bool x.ck.last, .bool x.ck.ordered, .slice da x.ck.data.length dc, .slice sa x.ck.spans.length sc, .int .i64 x.ck.room, .slice qa x.ck.skips.length qc] _ (fun w h => h.1.range) Try.underlying53 rfl Try.sizeSn) hS0 ?_
    try simp only [Act.put, List.setIfInBounds_toArray, List.set_cons_zero, List.set_cons_succ]
    refine wpAnyH_take (i := 3) (oi := ({ dst := some 6, op := Op.load 3 (Operand.tmp 1), type := 3, pos := "score.go:56", after := #[], guard := none } : Oper)) (v := ?vb3) rfl (by kernel_rfl) (by kernel_rfl) (by kernel_rfl) (fun _ _ _ h => h) (Or.inl ⟨by rfl, ?hb3⟩) hS0 ?_
    case hb3 => (intro w hSw; have q1 := hSw.2; go_simp; try with_reducible rfl)
    try simp only [Act.put, List.setIfInBounds_toArray, List.set_cons_zero, List.set_cons_succ]
    refine wpAnyH_ready (rs := [4]) (by kernel_rfl) (by simp) ?_
    refine AllReadyH.cons (o := ({ dst := some 7, op := Op.call { callee := Callee.value (Operand.func 50), args := #[Operand.tmp 5, Operand.tmp 6], argTypes := #[53, 3] }, type := 4, pos := "score.go:56", after := #[{ on := 2, ground := Ground.data }, { on := 3, ground := Ground.data }], guard := none } : Oper)) rfl (fun K hK => ?_) AllReadyH.nil
    refine step_call2 rfl 50 (.tmp 5) (.tmp 6) #[53, 3] rfl _ _ rfl rfl rfl enters_isOn _ (IC _ (drew_below _ _)) ?_
    rintro _ w1 ⟨rfl, B1⟩
    refine hK.out _ _ (KX _ B1) (fun hS1 => ?_)
    clear hK K
    try simp only [Act.put, List.setIfInBounds_toArray, List.set_cons_zero, List.set_cons_succ]
    refine wpAnyH_done (by kernel_rfl) ?_ _
    have c1 := CS _ B1
    have z1 := ZS _ B1
    go_wp2_with fail
    go_end0
    rw [HS.out]
    exact ⟨⟨_, rfl⟩, JP _ _ B1, HP _ B1⟩

theorem give_put (id : Int) (x : Sn) : giveS id x = x.put (giveS id x).state := by unfold giveS; split <;> rfl
theorem late_put (p : Int) (x : Sn) : lateS p x = x.put (lateS p x).state := by unfold lateS; split <;> rfl

set_option maxHeartbeats 400000 in
theorem sOwn_any (U : Nat → Prop) (B : Nat) (v : Value) (l : List Sn) (w : World) (hv : SnS B w v l) (hB : B ≤ w.heap.size) (hUB : ∀ k, k < B → U k) (hUN : ∀ k, w.heap.size ≤ k → U k) (hfit : FitL l) (hlen : l.length * 200 ≤ 140737488351232) :
    Calls Try.prog 18 #[v] w fun e w' => ∃ a c, e = .returned (.slice a l.length c) ∧ SnRes U w.heap.size w' a c l ∧ Keep (fun b => b < w.heap.size ∧ U b) w w' := by
  have EA := each_any 49 #[] (fun x => x) U (fun _ _ => True) B v l w hv hB hUB hUN hfit hlen enters_own1 (fun x => rfl) trivial (fun _ _ _ _ _ => trivial) (chg_own _ _ _)
  rw [List.map_id'] at EA
  obtain ⟨a, cap, rfl, h1, h2⟩ := hv.ex
  go_enter Try.func18, Try.ntmps18
  go_wp2_with fail
  refine EA.mono ?_
  rintro e w1 ⟨a1, c1, rfl, RS, -, K1⟩
  have RH : Hid _ := RS
  clear RS EA
  go_wp2_with fail
  go_ret
  exact ⟨_, _, rfl, RH.out, K1⟩

set_option maxHeartbeats 400000 in
theorem give_any (id : Int) (v : Value) (l : List Sn) (w : World) (hv : SnS w.heap.size w v l) (hfit : FitL l) (hlen : l.length * 200 ≤ 140737488351232) :
    Calls Try.prog 24 #[v, .int .i64 id] w fun e w' => ∃ a c, e = .returned (.slice a l.length c) ∧ SnRes (fun _ => True) w.heap.size w' a c (l.map (giveS id)) ∧ Below w.heap.size w w' := by
  have hmf : ∀ (fn : Fn) (first cap : Array Value) (w : World), (Instr.makeFunc fn first cap).run Try.prog w = .ok (.func fn first cap) w := fun _ _ _ _ => rfl
  have B0 := box_below w (.cells #[.int .i64 id] 3)
  have EA := each_any 52 #[.pointer (some ⟨w.heap.size, 0, none⟩)] (giveS id) (fun _ => True) (fun _ w' => w'.cell? ⟨w.heap.size, 0, none⟩ = some (.int .i64 id)) w.heap.size v l _ (SlG.below SnV.bears hv B0 (Nat.le_refl _)) B0.size (fun _ _ => trivial) (fun _ _ => trivial) hfit hlen enters_give1 (give_put id) (box_cell w _ _) (fun k wx wy h hb => (hb.cell (p := ⟨w.heap.size, 0, none⟩) (by simp)).trans h) (chg_give _ _ _ _ _)
  obtain ⟨a, cap, rfl, h1, h2⟩ := hv.ex
  go_enter Try.func24, Try.ntmps24
  go_wp2_with fail
  refine EA.mono ?_
  rintro e w1 ⟨a1, c1, rfl, RS, -, K1⟩
  have B1 : Below w.heap.size w w1 := B0.trans ((K1.below (B := w.heap.size) fun k hk => ⟨by simp; omega, trivial⟩))
  have RH : Hid (SnRes (fun _ => True) w.heap.size w1 a1 c1 (l.map (giveS id))) := by
    rcases RS with h | ⟨g, h1, h2, h3⟩
    · exact .inl h
    · exact .inr ⟨g, h1, by simp at h2; omega, h3⟩
  clear RS K1 EA
  go_wp2_with fail
  go_ret
  exact ⟨_, _, rfl, RH.out, B1⟩

set_option maxHeartbeats 400000 in
theorem late_any (p : Int) (v : Value) (l : List Sn) (w : World) (hv : SnS w.heap.size w v l) (hfit : FitL l) (hlen : l.length * 200 ≤ 140737488351232) :
    Calls Try.prog 25 #[v, .int .i64 p] w fun e w' => ∃ a c, e = .returned (.slice a l.length c) ∧ SnRes (fun _ => True) w.heap.size w' a c (l.map (lateS p)) ∧ Below w.heap.size w w' := by
  have hmf : ∀ (fn : Fn) (first cap : Array Value) (w : World), (Instr.makeFunc fn first cap).run Try.prog w = .ok (.func fn first cap) w := fun _ _ _ _ => rfl
  have B0 := box_below w (.cells #[.int .i64 p] 3)
  have EA := each_any 53 #[.pointer (some ⟨w.heap.size, 0, none⟩)] (lateS p) (fun _ => True) (fun _ w' => w'.cell? ⟨w.heap.size, 0, none⟩ = some (.int .i64 p)) w.heap.size v l _ (SlG.below SnV.bears hv B0 (Nat.le_refl _)) B0.size (fun _ _ => trivial) (fun _ _ => trivial) hfit hlen enters_late1 (late_put p) (box_cell w _ _) (fun k wx wy h hb => (hb.cell (p := ⟨w.heap.size, 0, none⟩) (by simp)).trans h) (chg_late _ _ _ _ _ (by simp))
  obtain ⟨a, cap, rfl, h1, h2⟩ := hv.ex
  go_enter Try.func25, Try.ntmps25
  go_wp2_with fail
  refine EA.mono ?_
  rintro e w1 ⟨a1, c1, rfl, RS, -, K1⟩
  have B1 : Below w.heap.size w w1 := B0.trans ((K1.below (B := w.heap.size) fun k hk => ⟨by simp; omega, trivial⟩))
  have RH : Hid (SnRes (fun _ => True) w.heap.size w1 a1 c1 (l.map (lateS p))) := by
    rcases RS with h | ⟨g, h1, h2, h3⟩
    · exact .inl h
    · exact .inr ⟨g, h1, by simp at h2; omega, h3⟩
  clear RS K1 EA
  go_wp2_with fail
  go_ret
  exact ⟨_, _, rfl, RH.out, B1⟩

theorem flight_take (p : Int) (l : List Sn) (k : Nat) (hk : k < l.length) : flightM p (l.take (k + 1)) = flyS p (flightM p (l.take k)) l[k] := by
  rw [flightM, List.take_succ_eq_append_getElem hk, List.foldl_append]; rfl

set_option maxHeartbeats 1000000 in
theorem flight_any (p : Int) (v : Value) (l : List Sn) (w : World) (hv : SnS w.heap.size w v l) :
    Calls Try.prog 19 #[v, .int .i64 p] w fun e w' => e = .returned (.int .i64 (flightM p l)) ∧ Below w.heap.size w w' := by
  have HV := hv
  obtain ⟨a, cap, rfl, h1, h2⟩ := hv.ex
  go_enter Try.func19, Try.ntmps19
  go_wp2_with fail
  go_loopw [5, 10] (fun z i wr => ∃ k : Nat, k ≤ l.length ∧ i = .int .i64 k ∧ z = .int .i64 (flightM p (l.take k)) ∧ Below w.heap.size w wr) (fun _ i _ => l.length - (intOf i).toNat)
  case atStart => exact ⟨0, Nat.zero_le _, rfl, rfl, Below.refl _ _⟩
  case round =>
    obtain ⟨k, hk, rfl, rfl, BR⟩ := hrel
    by_cases hlt : k < l.length
    · obtain ⟨b, off, da, dc, sa, sc, qa, qc, hb, hix, -, -, -, hat⟩ := SnS.at (SlG.below SnV.bears HV BR (Nat.le_refl _)) k hlt
      have HF : Hid (flightM p (l.take (k + 1)) = flyS p (flightM p (l.take k)) l[k]) := flight_take p l k hlt
      have ISO := fun wy => isOn_any l[k] da l[k].ck.data.length dc sa l[k].ck.spans.length sc qa l[k].ck.skips.length qc p wy
      simp only [snVal] at ISO
      generalize l[k] = x at *
      generalize flightM p (l.take k) = z at *
      have lX : wr.heap.size < (wr.alloc (.cells #[.int .i64 x.number, .int .i64 x.id, .int .i64 x.state, .int .i64 x.path, .int .i64 x.missed, .int .i64 x.times, .int .i64 x.came, .int .i64 x.life, .int .i64 x.tries, .int .i64 x.ck.kind, .int .i64 x.ck.tag, .int .i64 x.ck.stream, .int .i64 x.ck.mid, .int .i64 x.ck.part, .bool x.ck.last, .bool x.ck.ordered, .slice da x.ck.data.length dc, .slice sa x.ck.spans.length sc, .int .i64 x.ck.room, .slice qa x.ck.skips.length qc] 53)).heap.size := by simp
      have CX := Cells.new wr #[.int .i64 x.number, .int .i64 x.id, .int .i64 x.state, .int .i64 x.path, .int .i64 x.missed, .int .i64 x.times, .int .i64 x.came, .int .i64 x.life, .int .i64 x.tries, .int .i64 x.ck.kind, .int .i64 x.ck.tag, .int .i64 x.ck.stream, .int .i64 x.ck.mid, .int .i64 x.ck.part, .bool x.ck.last, .bool x.ck.ordered, .slice da x.ck.data.length dc, .slice sa x.ck.spans.length sc, .int .i64 x.ck.room, .slice qa x.ck.skips.length qc] 53
      have BX := BR.trans ((box_below wr (.cells #[.int .i64 x.number, .int .i64 x.id, .int .i64 x.state, .int .i64 x.path, .int .i64 x.missed, .int .i64 x.times, .int .i64 x.came, .int .i64 x.life, .int .i64 x.tries, .int .i64 x.ck.kind, .int .i64 x.ck.tag, .int .i64 x.ck.stream, .int .i64 x.ck.mid, .int .i64 x.ck.part, .bool x.ck.last, .bool x.ck.ordered, .slice da x.ck.data.length dc, .slice sa x.ck.spans.length sc, .int .i64 x.ck.room, .slice qa x.ck.skips.length qc] 53)).mono BR.size)
      have AX := SnAt.new wr x (.slice da x.ck.data.length dc) (.slice sa x.ck.spans.length sc) (.slice qa x.ck.skips.length qc)
      cases h1 : onM p x with
      | false =>
        rw [h1] at ISO
        have HF2 : Hid (flightM p (l.take (k + 1)) = z) := by show _ = _; rw [HF.out, flyS, if_neg (by rw [h1]; simp)]
        go_wp2_with (first
          | refine wpList_ld rfl (.tmp 12) rfl b off rfl x _ _ _ hat ?_
          | refine wpList_st rfl (.tmp 7) (.tmp 13) rfl wr _ rfl rfl rfl [.int .i64 x.number, .int .i64 x.id, .int .i64 x.state, .int .i64 x.path, .int .i64 x.missed, .int .i64 x.times, .int .i64 x.came, .int .i64 x.life, .int .i64 x.tries, .int .i64 x.ck.kind, .int .i64 x.ck.tag, .int .i64 x.ck.stream, .int .i64 x.ck.mid, .int .i64 x.ck.part, .bool x.ck.last, .bool x.ck.ordered, .slice da x.ck.data.length dc, .slice sa x.ck.spans.length sc, .int .i64 x.ck.room, .slice qa x.ck.skips.length qc] rfl rfl rfl ?_
          | refine wpList_ld rfl (.tmp 7) rfl wr.heap.size 0 rfl x _ _ _ AX ?_)
        refine (ISO _).mono ?_
        rintro e w1 ⟨rfl, b1⟩
        have B1 := BX.trans (b1.mono BX.size)
        go_wp2_with fail
        go_roundw
        case rel => exact ⟨k + 1, by omega, by go_num, by rw [HF2.out], B1⟩
        case measure => simp [intOf]; omega
      | true =>
        rw [h1] at ISO
        have HF2 : Hid (flightM p (l.take (k + 1)) = wrap64 (z + x.ck.data.length)) := by show _ = _; rw [HF.out, flyS, if_pos h1]
        go_wp2_with (first
          | refine wpList_ld rfl (.tmp 12) rfl b off rfl x _ _ _ hat ?_
          | refine wpList_st rfl (.tmp 7) (.tmp 13) rfl wr _ rfl rfl rfl [.int .i64 x.number, .int .i64 x.id, .int .i64 x.state, .int .i64 x.path, .int .i64 x.missed, .int .i64 x.times, .int .i64 x.came, .int .i64 x.life, .int .i64 x.tries, .int .i64 x.ck.kind, .int .i64 x.ck.tag, .int .i64 x.ck.stream, .int .i64 x.ck.mid, .int .i64 x.ck.part, .bool x.ck.last, .bool x.ck.ordered, .slice da x.ck.data.length dc, .slice sa x.ck.spans.length sc, .int .i64 x.ck.room, .slice qa x.ck.skips.length qc] rfl rfl rfl ?_
          | refine wpList_ld rfl (.tmp 7) rfl wr.heap.size 0 rfl x _ _ _ AX ?_)
        refine (ISO _).mono ?_
        rintro e w1 ⟨rfl, b1⟩
        have B1 := BX.trans (b1.mono BX.size)
        have c16 := (CX.below b1 lX).cell 16 _ rfl
        go_wp2_with fail
        go_roundw
        case rel => exact ⟨k + 1, by omega, by go_num, by rw [HF2.out], B1⟩
        case measure => simp [intOf]; omega
    · have hkl : k = l.length := by omega
      subst hkl
      rw [List.take_of_length_le (Nat.le_refl _)]
      go_wp2_with fail
      go_ret
      exact ⟨rfl, BR⟩
end Go.Proofs.Ytnddejdndipddac
