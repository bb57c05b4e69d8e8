/- What Sack's function does to a part. -/
import Derived.Test.YtnddejdndipddacSoF
set_option maxRecDepth 20000
namespace Go.Proofs.Ytnddejdndipddac
open Go.RowKit

theorem enters_waited (args : Array Value) (wx : World) : (callFunc 40 args).run Try.prog wx = .ok (.enter 40 args) wx := enters_body Try.func40 (by kernel_rfl) rfl args wx
theorem enters_has (args : Array Value) (wx : World) : (callFunc 41 args).run Try.prog wx = .ok (.enter 41 args) wx := enters_body Try.func41 (by kernel_rfl) rfl args wx
theorem enters_arrive (args : Array Value) (wx : World) : (callFunc 39 args).run Try.prog wx = .ok (.enter 39 args) wx := enters_body Try.func39 (by kernel_rfl) rfl args wx

theorem hiM_take (n : Int) (sp : List Sp) (h : Int) (l : List Sn) (k : Nat) {x : Sn} (hx : l[k]? = some x) : hiM n sp h (l.take (k + 1)) = hiS n sp (hiM n sp h (l.take k)) x := by
  obtain ⟨hk, rfl⟩ := List.getElem?_eq_some_iff.1 hx
  rw [hiM, List.take_succ_eq_append_getElem hk, List.foldl_append]; rfl
theorem comeM_take (n : Int) (sp : List Sp) (zs : List Int) (l : List Sn) (k : Nat) {x : Sn} (hx : l[k]? = some x) : comeM n sp zs (l.take (k + 1)) = comeS n sp (comeM n sp zs (l.take k)) x := by
  obtain ⟨hk, rfl⟩ := List.getElem?_eq_some_iff.1 hx
  rw [comeM, List.take_succ_eq_append_getElem hk, List.foldl_append]; rfl
theorem addAt_len (zs : List Int) (p x : Int) : (addAt zs p x).length = zs.length := by unfold addAt; split <;> simp
theorem comeM_len (n : Int) (sp : List Sp) : ∀ (l : List Sn) (zs : List Int), (comeM n sp zs l).length = zs.length
  | [], _ => rfl
  | s :: r, zs => by
    rw [comeM, List.foldl_cons]
    refine (comeM_len n sp r _).trans ?_
    unfold comeS; split
    · exact addAt_len _ _ _
    · rfl

/-- What the function keeps: the number that is told, the spans, the highest one so far, the bytes that came so far. -/
structure ArJ (N C H M Z B : Nat) (n : Int) (sp : List Sp) (sv : Value) (paths : Nat) (l : List Sn) (k : Nat) (w : World) : Prop where
  cn : w.cell? ⟨N, 0, none⟩ = some (.int .i64 n)
  cc : w.cell? ⟨C, 8, none⟩ = some sv
  ss : Sl B w sv sp
  ch : w.cell? ⟨H, 0, none⟩ = some (.int .i64 (hiM n sp n (l.take k)))
  fh : w.frozen? ⟨H, 0, none⟩ = false
  cm : w.cell? ⟨M, 0, none⟩ = some (.slice (some ⟨Z, 0, none⟩) paths paths)
  cz : Cells Z w (cellsI (comeM n sp (List.replicate paths 0) (l.take k)))
theorem ArJ.below {N C H M Z B B0 : Nat} {n : Int} {sp : List Sp} {sv : Value} {paths : Nat} {l : List Sn} {k : Nat} {w w' : World} (h : ArJ N C H M Z B n sp sv paths l k w) (hb : Below B0 w w') (hB : B ≤ B0) (hN : N < B0) (hC : C < B0) (hH : H < B0) (hM : M < B0) (hZ : Z < B0) : ArJ N C H M Z B n sp sv paths l k w' :=
  ⟨(hb.cell (p := ⟨N, 0, none⟩) hN).trans h.cn, (hb.cell (p := ⟨C, 8, none⟩) hC).trans h.cc, h.ss.below hb hB, (hb.cell (p := ⟨H, 0, none⟩) hH).trans h.ch, (hb.frozen (p := ⟨H, 0, none⟩) hH).trans h.fh, (hb.cell (p := ⟨M, 0, none⟩) hM).trans h.cm, h.cz.below hb hZ⟩
/-- Nothing new. -/
theorem ArJ.same {N C H M Z B : Nat} {n : Int} {sp : List Sp} {sv : Value} {paths : Nat} {l : List Sn} {k : Nat} {w : World} (h : ArJ N C H M Z B n sp sv paths l k w) {x : Sn} (hx : l[k]? = some x) (hn : newsM n sp x = false) : ArJ N C H M Z B n sp sv paths l (k + 1) w :=
  ⟨h.cn, h.cc, h.ss, by rw [hiM_take n sp n l k hx, hiS, if_neg (by rw [hn]; simp)]; exact h.ch, h.fh, h.cm, by rw [comeM_take n sp _ l k hx, comeS, if_neg (by rw [hn]; simp)]; exact h.cz⟩
/-- Something new. -/
theorem ArJ.next {N C H M Z B g : Nat} {n : Int} {sp : List Sp} {sv : Value} {paths : Nat} {l : List Sn} {k : Nat} {w w' : World} (h : ArJ N C H M Z B n sp sv paths l k w) {x : Sn} (hx : l[k]? = some x) (kp : Keep (fun b => b < w.heap.size ∧ b ≠ g ∧ b ≠ H ∧ b ≠ Z) w w')
    (hN : N < w.heap.size ∧ N ≠ g ∧ N ≠ H ∧ N ≠ Z) (hC : C < w.heap.size ∧ C ≠ g ∧ C ≠ H ∧ C ≠ Z) (hM : M < w.heap.size ∧ M ≠ g ∧ M ≠ H ∧ M ≠ Z) (hB : ∀ b, b < B → b < w.heap.size ∧ b ≠ g ∧ b ≠ H ∧ b ≠ Z)
    (ch : w'.cell? ⟨H, 0, none⟩ = some (.int .i64 (hiS n sp (hiM n sp n (l.take k)) x))) (fh : w'.frozen? ⟨H, 0, none⟩ = false) (cz : Cells Z w' (cellsI (comeS n sp (comeM n sp (List.replicate paths 0) (l.take k)) x))) : ArJ N C H M Z B n sp sv paths l (k + 1) w' :=
  ⟨(kp.cell (p := ⟨N, 0, none⟩) hN).trans h.cn, (kp.cell (p := ⟨C, 8, none⟩) hC).trans h.cc, h.ss.below (kp.below hB) (Nat.le_refl _), by rw [hiM_take n sp n l k hx]; exact ch, fh, (kp.cell (p := ⟨M, 0, none⟩) hM).trans h.cm, by rw [comeM_take n sp _ l k hx]; exact cz⟩
theorem i64w (x : Int) : IntKind.i64.wrap x = wrap64 x := by rw [IntKind.wrap_i64, wrap64]
theorem cell_oth {w : World} {b j c i : Nat} {u : Value} (h : b ≠ c ∨ j ≠ i) : (w.setCell ⟨b, j, none⟩ u).cell? ⟨c, i, none⟩ = w.cell? ⟨c, i, none⟩ :=
  World.cell?_setCell_other _ _ _ _ fun e => by simp only [Addr.mk.injEq, and_true] at e; omega
theorem run_int_at (O n c i : Nat) (h : i < n) (wx : World) : (Instr.indexAt 22 (.slice (some ⟨O, 0, none⟩) n c) (.int .i64 (i : Int))).run Try.prog wx = .ok (.pointer (some ⟨O, i, none⟩)) wx := by
  have : (i : Int) < n := by omega
  go_simp

set_option maxHeartbeats 4000000 in
theorem chg_arrive (N C H M Z B B0 : Nat) (n : Int) (sp : List Sp) (spa : Option Addr) (spc paths : Nat) (l : List Sn) (hN : N < B0) (hC : C < B0) (hH : H < B0) (hM : M < B0) (hZ : Z < B0) (hBH : B ≤ H) (hBZ : B ≤ Z) (h6 : H ≠ N) (h7 : H ≠ C) (h8 : H ≠ M) (h9 : H ≠ Z) (ha : Z ≠ N) (hb : Z ≠ C) (hc : Z ≠ M)
    (hn1 : -1099511700000 ≤ n) (hn2 : n ≤ 1099511700000) (hnum : ∀ x ∈ l, -1099511627776 ≤ x.number ∧ x.number ≤ 1099511627776) (hpath : ∀ x ∈ l, 0 ≤ x.path ∧ x.path < paths) :
    Chg 39 #[.pointer (some ⟨N, 0, none⟩), .pointer (some ⟨C, 0, none⟩), .pointer (some ⟨H, 0, none⟩), .pointer (some ⟨M, 0, none⟩)] (arrM n sp) (fun b => b ≠ H ∧ b ≠ Z) (ArJ N C H M Z B n sp (.slice spa sp.length spc) paths l) B0 l := by
  intro g k x da dc sa sc qa qc wx hx hg hgl hBw hj hat hl hfz
  have hxm := List.mem_of_getElem? hx
  obtain ⟨hx1, hx2⟩ := hnum x hxm
  obtain ⟨hp1, hp2⟩ := hpath x hxm
  obtain ⟨p, hp⟩ := Int.eq_ofNat_of_zero_le hp1
  have hpp : p < paths := by omega
  show Calls _ _ #[.pointer (some ⟨g, k * 20, none⟩), .pointer (some ⟨N, 0, none⟩), .pointer (some ⟨C, 0, none⟩), .pointer (some ⟨H, 0, none⟩), .pointer (some ⟨M, 0, none⟩)] _ _
  have HNO : ∀ w', Below wx.heap.size wx w' → newsM n sp x = false → Hid (ArJ N C H M Z B n sp (.slice spa sp.length spc) paths l (k + 1) w' ∧ Keep (fun b => b < wx.heap.size ∧ b ≠ g ∧ b ≠ H ∧ b ≠ Z) wx w' ∧ (∀ j, w'.frozen? ⟨g, j, none⟩ = false) ∧ (∀ j, j ≠ k * 20 + 2 → w'.cell? ⟨g, j, none⟩ = wx.cell? ⟨g, j, none⟩) ∧ w'.cell? ⟨g, k * 20 + 2, none⟩ = some (.int .i64 (arrM n sp x).state)) := fun w' hb hnews => by
    have e : (arrM n sp x).state = x.state := by rw [arrM, if_neg (by rw [hnews]; simp)]
    refine ⟨(hj.below hb (by omega) (by omega) (by omega) (by omega) (by omega) (by omega)).same hx hnews, ?_⟩
    rw [e]
    exact chg_none (U := fun b => b ≠ H ∧ b ≠ Z) hb hgl hat hfz
  have KX : ∀ wy, Below wx.heap.size wx wy → SnAt wy g (k * 20) x (.slice da x.ck.data.length dc) (.slice sa x.ck.spans.length sc) (.slice qa x.ck.skips.length qc) ∧ wy.cell? ⟨N, 0, none⟩ = some (.int .i64 n) ∧ wy.cell? ⟨C, 8, none⟩ = some (.slice spa sp.length spc) := fun wy hb => ⟨hat.below hb hgl, (hb.cell (p := ⟨N, 0, none⟩) (by show N < _; omega)).trans hj.cn, (hb.cell (p := ⟨C, 8, none⟩) (by show C < _; omega)).trans hj.cc⟩
  have ISO := fun wy => waited_any x da x.ck.data.length dc sa x.ck.spans.length sc qa x.ck.skips.length qc wy
  simp only [snVal] at ISO
  have IC : ∀ wy, Below wx.heap.size wx wy → Calls Try.prog 40 #[.agg #[.int .i64 x.number, .int .i64 x.id, .int .i64 x.state, .int .i64 x.path, .int .i64 x.missed, .int .i64 x.times, .int .i64 x.came, .int .i64 x.life, .int .i64 x.tries, .int .i64 x.ck.kind, .int .i64 x.ck.tag, .int .i64 x.ck.stream, .int .i64 x.ck.mid, .int .i64 x.ck.part, .bool x.ck.last, .bool x.ck.ordered, .slice da x.ck.data.length dc, .slice sa x.ck.spans.length sc, .int .i64 x.ck.room, .slice qa x.ck.skips.length qc]] wy fun e w' => ∃ v, e = .returned v ∧ v = .bool (waitedM x) ∧ Below wx.heap.size wx w' := fun wy hy => (ISO wy).mono fun e w' ⟨h1, h2⟩ => ⟨_, h1, rfl, hy.trans (h2.mono hy.size)⟩
  have HC : ∀ wy, Below wx.heap.size wx wy → Calls Try.prog 41 #[.slice spa sp.length spc, .int .i64 (x.number - n)] wy fun e w' => ∃ v, e = .returned v ∧ v = .bool (inM sp (x.number - n)) ∧ Below wx.heap.size wx w' := fun wy hy => (has_any _ sp (x.number - n) wy ((hj.ss.below hy (by omega)).mono (by have := hy.size; omega))).mono fun e w' ⟨h1, h2⟩ => ⟨_, h1, rfl, hy.trans (h2.mono hy.size)⟩
  clear ISO
  cases hw : waitedM x with
  | false =>
    have HN := fun w' hb => HNO w' hb (by rw [newsM, hw]; rfl)
    rw [hw] at IC
    clear hl hfz hat HNO
    generalize hoff : k * 20 = off at *
    go_enter Try.func39, Try.ntmps39
    go_wp2_with fail
    refine wp_region_held_drew (S := (fun w' => SnAt w' g off x (.slice da x.ck.data.length dc) (.slice sa x.ck.spans.length sc) (.slice qa x.ck.skips.length qc) ∧ w'.cell? ⟨N, 0, none⟩ = some (.int .i64 n) ∧ w'.cell? ⟨C, 8, none⟩ = some (.slice spa sp.length spc))) (by kernel_rfl) (KX _ (drew_below _ _)) (fun hS0 => ?_)
    refine wpAnyH_take (i := 0) (oi := ({ dst := some 6, op := Op.move (Operand.tmp 0), type := 71, pos := "score.go:31", after := #[], guard := none } : Oper)) (v := ?va1) rfl (by kernel_rfl) (by kernel_rfl) (by kernel_rfl) (fun _ _ _ h => h) (Or.inl ⟨by rfl, ?ha1⟩) hS0 ?_
    case ha1 => (intro w hSw; go_simp; try with_reducible rfl)
    try simp only [Act.put, List.setIfInBounds_toArray, List.set_cons_zero, List.set_cons_succ]
    refine wpAnyH_take (i := 1) (oi := ({ dst := some 7, op := Op.nilCheck (Operand.tmp 6), type := 0, pos := "score.go:31", after := #[{ on := 0, ground := Ground.data }], guard := none } : Oper)) (v := ?va2) rfl (by kernel_rfl) (by kernel_rfl) (by kernel_rfl) (fun _ _ _ h => h) (Or.inl ⟨by rfl, ?ha2⟩) hS0 ?_
    case ha2 => (intro w hSw; go_simp; try with_reducible rfl)
    try simp only [Act.put, List.setIfInBounds_toArray, List.set_cons_zero, List.set_cons_succ]
    refine wpAnyH_take (i := 2) (oi := ({ dst := some 8, op := Op.load 53 (Operand.tmp 7), type := 53, pos := "score.go:31", after := #[{ on := 1, ground := Ground.data }], guard := none } : Oper)) rfl (by kernel_rfl) (by kernel_rfl) (by kernel_rfl) (fun _ _ _ h => h) (yieldsIf_load_mid (by rfl) 53 (.tmp 7) rfl g off rfl [.int .i64 x.number, .int .i64 x.id, .int .i64 x.state, .int .i64 x.path, .int .i64 x.missed, .int .i64 x.times, .int .i64 x.came, .int .i64 x.life, .int .i64 x.tries, .int .i64 x.ck.kind, .int .i64 x.ck.tag, .int .i64 x.ck.stream, .int .i64 x.ck.mid, .int .i64 x.ck.part, .bool x.ck.last, .bool x.ck.ordered, .slice da x.ck.data.length dc, .slice sa x.ck.spans.length sc, .int .i64 x.ck.room, .slice qa x.ck.skips.length qc] _ (fun w h => h.1.range) Try.underlying53 rfl Try.sizeSn) hS0 ?_
    try simp only [Act.put, List.setIfInBounds_toArray, List.set_cons_zero, List.set_cons_succ]
    refine wpAnyH_ready (rs := [3]) (by kernel_rfl) (by simp) ?_
    refine AllReadyH.cons (o := ({ dst := some 9, op := Op.call { callee := Callee.value (Operand.func 40), args := #[Operand.tmp 8], argTypes := #[53] }, type := 4, pos := "score.go:31", after := #[{ on := 2, ground := Ground.data }], guard := none } : Oper)) rfl (fun K hK => ?_) AllReadyH.nil
    refine step_call1 rfl 40 (.tmp 8) 53 rfl _ rfl rfl enters_waited _ (IC _ (drew_below _ _)) ?_
    rintro _ w1 ⟨rfl, B1⟩
    refine hK.out _ _ (KX _ B1) (fun hS1 => ?_)
    clear hK K
    try simp only [Act.put, List.setIfInBounds_toArray, List.set_cons_zero, List.set_cons_succ]
    refine wpAnyH_take (i := 4) (oi := ({ dst := some 10, op := Op.unOp UnOp.not 4 (Operand.tmp 9), type := 4, pos := "score.go:31", after := #[{ on := 3, ground := Ground.data }], guard := none } : Oper)) (v := ?va3) rfl (by kernel_rfl) (by kernel_rfl) (by kernel_rfl) (fun _ _ _ h => h) (Or.inl ⟨by rfl, ?ha3⟩) hS1 ?_
    case ha3 => (intro w hSw; go_simp; try with_reducible rfl)
    try simp only [Act.put, List.setIfInBounds_toArray, List.set_cons_zero, List.set_cons_succ]
    refine wpAnyH_take (i := 5) (oi := ({ dst := some 11, op := Op.move (Operand.tmp 10), type := 4, pos := "score.go:31", after := #[{ on := 4, ground := Ground.data }, { on := 3, ground := Ground.chain }], guard := none } : Oper)) (v := ?va4) rfl (by kernel_rfl) (by kernel_rfl) (by kernel_rfl) (fun _ _ _ h => h) (Or.inl ⟨by rfl, ?ha4⟩) hS1 ?_
    case ha4 => (intro w hSw; go_simp; try with_reducible rfl)
    try simp only [Act.put, List.setIfInBounds_toArray, List.set_cons_zero, List.set_cons_succ]
    refine wpAnyH_take (i := 6) (oi := ({ dst := some 12, op := Op.move (Operand.tmp 0), type := 71, pos := "score.go:31", after := #[{ on := 5, ground := Ground.guard }], guard := some (5, false) } : Oper)) (v := undef) rfl (by kernel_rfl) (by kernel_rfl) (by kernel_rfl) (fun _ _ _ h => h) (Or.inr ⟨by rfl, rfl⟩) hS1 ?_
    try simp only [Act.put, List.setIfInBounds_toArray, List.set_cons_zero, List.set_cons_succ]
    refine wpAnyH_take (i := 7) (oi := ({ dst := some 13, op := Op.nilCheck (Operand.tmp 12), type := 0, pos := "score.go:31", after := #[{ on := 6, ground := Ground.data }, { on := 5, ground := Ground.guard }], guard := some (5, false) } : Oper)) (v := undef) rfl (by kernel_rfl) (by kernel_rfl) (by kernel_rfl) (fun _ _ _ h => h) (Or.inr ⟨by rfl, rfl⟩) hS1 ?_
    try simp only [Act.put, List.setIfInBounds_toArray, List.set_cons_zero, List.set_cons_succ]
    refine wpAnyH_take (i := 8) (oi := ({ dst := some 14, op := Op.fieldAddr 53 (Operand.tmp 13) 0, type := 0, pos := "score.go:31", after := #[{ on := 7, ground := Ground.data }, { on := 5, ground := Ground.guard }], guard := some (5, false) } : Oper)) (v := undef) rfl (by kernel_rfl) (by kernel_rfl) (by kernel_rfl) (fun _ _ _ h => h) (Or.inr ⟨by rfl, rfl⟩) hS1 ?_
    try simp only [Act.put, List.setIfInBounds_toArray, List.set_cons_zero, List.set_cons_succ]
    refine wpAnyH_take (i := 9) (oi := ({ dst := some 15, op := Op.load 3 (Operand.tmp 14), type := 3, pos := "score.go:31", after := #[{ on := 8, ground := Ground.data }, { on := 5, ground := Ground.guard }], guard := some (5, false) } : Oper)) (v := undef) rfl (by kernel_rfl) (by kernel_rfl) (by kernel_rfl) (fun _ _ _ h => h) (Or.inr ⟨by rfl, rfl⟩) hS1 ?_
    try simp only [Act.put, List.setIfInBounds_toArray, List.set_cons_zero, List.set_cons_succ]
    refine wpAnyH_take (i := 10) (oi := ({ dst := some 16, op := Op.load 3 (Operand.tmp 1), type := 3, pos := "score.go:31", after := #[{ on := 5, ground := Ground.guard }], guard := some (5, false) } : Oper)) (v := undef) rfl (by kernel_rfl) (by kernel_rfl) (by kernel_rfl) (fun _ _ _ h => h) (Or.inr ⟨by rfl, rfl⟩) hS1 ?_
    try simp only [Act.put, List.setIfInBounds_toArray, List.set_cons_zero, List.set_cons_succ]
    refine wpAnyH_take (i := 11) (oi := ({ dst := some 17, op := Op.binOp BinOp.gtr 3 (Operand.tmp 15) (Operand.tmp 16) 3, type := 4, pos := "score.go:31", after := #[{ on := 9, ground := Ground.data }, { on := 10, ground := Ground.data }, { on := 5, ground := Ground.guard }], guard := some (5, false) } : Oper)) (v := undef) rfl (by kernel_rfl) (by kernel_rfl) (by kernel_rfl) (fun _ _ _ h => h) (Or.inr ⟨by rfl, rfl⟩) hS1 ?_
    try simp only [Act.put, List.setIfInBounds_toArray, List.set_cons_zero, List.set_cons_succ]
    refine wpAnyH_take (i := 12) (oi := ({ dst := some 18, op := Op.move (Operand.tmp 17), type := 4, pos := "score.go:31", after := #[{ on := 11, ground := Ground.data }, { on := 5, ground := Ground.chain }, { on := 5, ground := Ground.guard }], guard := some (5, false) } : Oper)) (v := undef) rfl (by kernel_rfl) (by kernel_rfl) (by kernel_rfl) (fun _ _ _ h => h) (Or.inr ⟨by rfl, rfl⟩) hS1 ?_
    try simp only [Act.put, List.setIfInBounds_toArray, List.set_cons_zero, List.set_cons_succ]
    refine wpAnyH_take (i := 13) (oi := ({ dst := some 19, op := Op.fieldAddr 42 (Operand.tmp 2) 8, type := 0, pos := "score.go:31", after := #[{ on := 12, ground := Ground.guard }], guard := some (12, true) } : Oper)) (v := undef) rfl (by kernel_rfl) (by kernel_rfl) (by kernel_rfl) (fun _ _ _ h => h) (Or.inr ⟨by rfl, rfl⟩) hS1 ?_
    try simp only [Act.put, List.setIfInBounds_toArray, List.set_cons_zero, List.set_cons_succ]
    refine wpAnyH_take (i := 14) (oi := ({ dst := some 20, op := Op.load 39 (Operand.tmp 19), type := 39, pos := "score.go:31", after := #[{ on := 13, ground := Ground.data }, { on := 12, ground := Ground.guard }], guard := some (12, true) } : Oper)) (v := undef) rfl (by kernel_rfl) (by kernel_rfl) (by kernel_rfl) (fun _ _ _ h => h) (Or.inr ⟨by rfl, rfl⟩) hS1 ?_
    try simp only [Act.put, List.setIfInBounds_toArray, List.set_cons_zero, List.set_cons_succ]
    refine wpAnyH_take (i := 15) (oi := ({ dst := some 21, op := Op.move (Operand.tmp 0), type := 71, pos := "score.go:31", after := #[{ on := 12, ground := Ground.guard }], guard := some (12, true) } : Oper)) (v := undef) rfl (by kernel_rfl) (by kernel_rfl) (by kernel_rfl) (fun _ _ _ h => h) (Or.inr ⟨by rfl, rfl⟩) hS1 ?_
    try simp only [Act.put, List.setIfInBounds_toArray, List.set_cons_zero, List.set_cons_succ]
    refine wpAnyH_take (i := 16) (oi := ({ dst := some 22, op := Op.nilCheck (Operand.tmp 21), type := 0, pos := "score.go:31", after := #[{ on := 15, ground := Ground.data }, { on := 12, ground := Ground.guard }], guard := some (12, true) } : Oper)) (v := undef) rfl (by kernel_rfl) (by kernel_rfl) (by kernel_rfl) (fun _ _ _ h => h) (Or.inr ⟨by rfl, rfl⟩) hS1 ?_
    try simp only [Act.put, List.setIfInBounds_toArray, List.set_cons_zero, List.set_cons_succ]
    refine wpAnyH_take (i := 17) (oi := ({ dst := some 23, op := Op.fieldAddr 53 (Operand.tmp 22) 0, type := 0, pos := "score.go:31", after := #[{ on := 16, ground := Ground.data }, { on := 12, ground := Ground.guard }], guard := some (12, true) } : Oper)) (v := undef) rfl (by kernel_rfl) (by kernel_rfl) (by kernel_rfl) (fun _ _ _ h => h) (Or.inr ⟨by rfl, rfl⟩) hS1 ?_
    try simp only [Act.put, List.setIfInBounds_toArray, List.set_cons_zero, List.set_cons_succ]
    refine wpAnyH_take (i := 18) (oi := ({ dst := some 24, op := Op.load 3 (Operand.tmp 23), type := 3, pos := "score.go:31", after := #[{ on := 17, ground := Ground.data }, { on := 12, ground := Ground.guard }], guard := some (12, true) } : Oper)) (v := undef) rfl (by kernel_rfl) (by kernel_rfl) (by kernel_rfl) (fun _ _ _ h => h) (Or.inr ⟨by rfl, rfl⟩) hS1 ?_
    try simp only [Act.put, List.setIfInBounds_toArray, List.set_cons_zero, List.set_cons_succ]
    refine wpAnyH_take (i := 19) (oi := ({ dst := some 25, op := Op.load 3 (Operand.tmp 1), type := 3, pos := "score.go:31", after := #[{ on := 12, ground := Ground.guard }], guard := some (12, true) } : Oper)) (v := undef) rfl (by kernel_rfl) (by kernel_rfl) (by kernel_rfl) (fun _ _ _ h => h) (Or.inr ⟨by rfl, rfl⟩) hS1 ?_
    try simp only [Act.put, List.setIfInBounds_toArray, List.set_cons_zero, List.set_cons_succ]
    refine wpAnyH_take (i := 20) (oi := ({ dst := some 26, op := Op.binOp BinOp.sub 3 (Operand.tmp 24) (Operand.tmp 25) 3, type := 3, pos := "score.go:31", after := #[{ on := 18, ground := Ground.data }, { on := 19, ground := Ground.data }, { on := 12, ground := Ground.guard }], guard := some (12, true) } : Oper)) (v := undef) rfl (by kernel_rfl) (by kernel_rfl) (by kernel_rfl) (fun _ _ _ h => h) (Or.inr ⟨by rfl, rfl⟩) hS1 ?_
    try simp only [Act.put, List.setIfInBounds_toArray, List.set_cons_zero, List.set_cons_succ]
    refine wpAnyH_take (i := 21) (oi := ({ dst := some 27, op := Op.call { callee := Callee.value (Operand.func 41), args := #[Operand.tmp 20, Operand.tmp 26], argTypes := #[39, 3] }, type := 4, pos := "score.go:31", after := #[{ on := 14, ground := Ground.data }, { on := 20, ground := Ground.data }, { on := 12, ground := Ground.chain }, { on := 12, ground := Ground.guard }], guard := some (12, true) } : Oper)) (v := undef) rfl (by kernel_rfl) (by kernel_rfl) (by kernel_rfl) (fun _ _ _ h => h) (Or.inr ⟨by rfl, rfl⟩) hS1 ?_
    try simp only [Act.put, List.setIfInBounds_toArray, List.set_cons_zero, List.set_cons_succ]
    refine wpAnyH_take (i := 22) (oi := ({ dst := some 28, op := Op.unOp UnOp.not 4 (Operand.tmp 27), type := 4, pos := "score.go:31", after := #[{ on := 21, ground := Ground.data }, { on := 12, ground := Ground.guard }], guard := some (12, true) } : Oper)) (v := undef) rfl (by kernel_rfl) (by kernel_rfl) (by kernel_rfl) (fun _ _ _ h => h) (Or.inr ⟨by rfl, rfl⟩) hS1 ?_
    try simp only [Act.put, List.setIfInBounds_toArray, List.set_cons_zero, List.set_cons_succ]
    refine wpAnyH_take (i := 23) (oi := ({ dst := some 29, op := Op.pick (Operand.tmp 18) (Operand.tmp 28) (Operand.const (Value.bool false)), type := 4, pos := "score.go:31", after := #[{ on := 12, ground := Ground.data }, { on := 22, ground := Ground.data }, { on := 5, ground := Ground.guard }], guard := some (5, false) } : Oper)) (v := undef) rfl (by kernel_rfl) (by kernel_rfl) (by kernel_rfl) (fun _ _ _ h => h) (Or.inr ⟨by rfl, rfl⟩) hS1 ?_
    try simp only [Act.put, List.setIfInBounds_toArray, List.set_cons_zero, List.set_cons_succ]
    refine wpAnyH_take (i := 24) (oi := ({ dst := some 30, op := Op.pick (Operand.tmp 11) (Operand.const (Value.bool true)) (Operand.tmp 29), type := 4, pos := "score.go:31", after := #[{ on := 5, ground := Ground.data }, { on := 23, ground := Ground.data }], guard := none } : Oper)) (v := ?va5) rfl (by kernel_rfl) (by kernel_rfl) (by kernel_rfl) (fun _ _ _ h => h) (Or.inl ⟨by rfl, ?ha5⟩) hS1 ?_
    case ha5 => (intro w hSw; go_simp; try with_reducible rfl)
    try simp only [Act.put, List.setIfInBounds_toArray, List.set_cons_zero, List.set_cons_succ]
    refine wpAnyH_done (by kernel_rfl) ?_ _
    go_wp2_with fail
    refine bodyPost_ret (v := .tuple #[]) (by simp [results, Try.results39, go_sem]) rfl ?_
    exact ⟨⟨_, rfl⟩, (HN _ B1).out⟩
  | true =>
    rw [hw] at IC
    have JB : ∀ w', Below wx.heap.size wx w' → ArJ N C H M Z B n sp (.slice spa sp.length spc) paths l k w' := fun w' hb => hj.below hb (by omega) (by omega) (by omega) (by omega) (by omega) (by omega)
    clear hl
    by_cases hle : x.number ≤ n
    · have HNW : Hid (newsM n sp x = true) := by show _ = _; rw [newsM, hw, hereM, decide_eq_true hle]; rfl
      have hd : decide (n < x.number) = false := decide_eq_false (by omega)
      clear hat HNO
      generalize hoff : k * 20 = off at *
      go_enter Try.func39, Try.ntmps39
      go_wp2_with fail
      refine wp_region_held_drew (S := (fun w' => SnAt w' g off x (.slice da x.ck.data.length dc) (.slice sa x.ck.spans.length sc) (.slice qa x.ck.skips.length qc) ∧ w'.cell? ⟨N, 0, none⟩ = some (.int .i64 n) ∧ w'.cell? ⟨C, 8, none⟩ = some (.slice spa sp.length spc))) (by kernel_rfl) (KX _ (drew_below _ _)) (fun hS0 => ?_)
      refine wpAnyH_take (i := 0) (oi := ({ dst := some 6, op := Op.move (Operand.tmp 0), type := 71, pos := "score.go:31", after := #[], guard := none } : Oper)) (v := ?vb1) rfl (by kernel_rfl) (by kernel_rfl) (by kernel_rfl) (fun _ _ _ h => h) (Or.inl ⟨by rfl, ?hb1⟩) hS0 ?_
      case hb1 => (intro w hSw; go_simp; try with_reducible rfl)
      try simp only [Act.put, List.setIfInBounds_toArray, List.set_cons_zero, List.set_cons_succ]
      refine wpAnyH_take (i := 1) (oi := ({ dst := some 7, op := Op.nilCheck (Operand.tmp 6), type := 0, pos := "score.go:31", after := #[{ on := 0, ground := Ground.data }], guard := none } : Oper)) (v := ?vb2) rfl (by kernel_rfl) (by kernel_rfl) (by kernel_rfl) (fun _ _ _ h => h) (Or.inl ⟨by rfl, ?hb2⟩) hS0 ?_
      case hb2 => (intro w hSw; go_simp; try with_reducible rfl)
      try simp only [Act.put, List.setIfInBounds_toArray, List.set_cons_zero, List.set_cons_succ]
      refine wpAnyH_take (i := 2) (oi := ({ dst := some 8, op := Op.load 53 (Operand.tmp 7), type := 53, pos := "score.go:31", after := #[{ on := 1, ground := Ground.data }], guard := none } : Oper)) rfl (by kernel_rfl) (by kernel_rfl) (by kernel_rfl) (fun _ _ _ h => h) (yieldsIf_load_mid (by rfl) 53 (.tmp 7) rfl g off rfl [.int .i64 x.number, .int .i64 x.id, .int .i64 x.state, .int .i64 x.path, .int .i64 x.missed, .int .i64 x.times, .int .i64 x.came, .int .i64 x.life, .int .i64 x.tries, .int .i64 x.ck.kind, .int .i64 x.ck.tag, .int .i64 x.ck.stream, .int .i64 x.ck.mid, .int .i64 x.ck.part, .bool x.ck.last, .bool x.ck.ordered, .slice da x.ck.data.length dc, .slice sa x.ck.spans.length sc, .int .i64 x.ck.room, .slice qa x.ck.skips.length qc] _ (fun w h => h.1.range) Try.underlying53 rfl Try.sizeSn) hS0 ?_
      try simp only [Act.put, List.setIfInBounds_toArray, List.set_cons_zero, List.set_cons_succ]
      refine wpAnyH_ready (rs := [3]) (by kernel_rfl) (by simp) ?_
      refine AllReadyH.cons (o := ({ dst := some 9, op := Op.call { callee := Callee.value (Operand.func 40), args := #[Operand.tmp 8], argTypes := #[53] }, type := 4, pos := "score.go:31", after := #[{ on := 2, ground := Ground.data }], guard := none } : Oper)) rfl (fun K hK => ?_) AllReadyH.nil
      refine step_call1 rfl 40 (.tmp 8) 53 rfl _ rfl rfl enters_waited _ (IC _ (drew_below _ _)) ?_
      rintro _ w1 ⟨rfl, B1⟩
      refine hK.out _ _ (KX _ B1) (fun hS1 => ?_)
      clear hK K
      try simp only [Act.put, List.setIfInBounds_toArray, List.set_cons_zero, List.set_cons_succ]
      refine wpAnyH_take (i := 4) (oi := ({ dst := some 10, op := Op.unOp UnOp.not 4 (Operand.tmp 9), type := 4, pos := "score.go:31", after := #[{ on := 3, ground := Ground.data }], guard := none } : Oper)) (v := ?vb3) rfl (by kernel_rfl) (by kernel_rfl) (by kernel_rfl) (fun _ _ _ h => h) (Or.inl ⟨by rfl, ?hb3⟩) hS1 ?_
      case hb3 => (intro w hSw; go_simp; try with_reducible rfl)
      try simp only [Act.put, List.setIfInBounds_toArray, List.set_cons_zero, List.set_cons_succ]
      refine wpAnyH_take (i := 5) (oi := ({ dst := some 11, op := Op.move (Operand.tmp 10), type := 4, pos := "score.go:31", after := #[{ on := 4, ground := Ground.data }, { on := 3, ground := Ground.chain }], guard := none } : Oper)) (v := ?vb4) rfl (by kernel_rfl) (by kernel_rfl) (by kernel_rfl) (fun _ _ _ h => h) (Or.inl ⟨by rfl, ?hb4⟩) hS1 ?_
      case hb4 => (intro w hSw; go_simp; try with_reducible rfl)
      try simp only [Act.put, List.setIfInBounds_toArray, List.set_cons_zero, List.set_cons_succ]
      refine wpAnyH_take (i := 6) (oi := ({ dst := some 12, op := Op.move (Operand.tmp 0), type := 71, pos := "score.go:31", after := #[{ on := 5, ground := Ground.guard }], guard := some (5, false) } : Oper)) (v := ?vb5) rfl (by kernel_rfl) (by kernel_rfl) (by kernel_rfl) (fun _ _ _ h => h) (Or.inl ⟨by rfl, ?hb5⟩) hS1 ?_
      case hb5 => (intro w hSw; have q0 := hSw.1.1; have qn := hSw.2.1; have q8 := hSw.2.2; go_simp; try with_reducible rfl)
      try simp only [Act.put, List.setIfInBounds_toArray, List.set_cons_zero, List.set_cons_succ]
      refine wpAnyH_take (i := 7) (oi := ({ dst := some 13, op := Op.nilCheck (Operand.tmp 12), type := 0, pos := "score.go:31", after := #[{ on := 6, ground := Ground.data }, { on := 5, ground := Ground.guard }], guard := some (5, false) } : Oper)) (v := ?vb6) rfl (by kernel_rfl) (by kernel_rfl) (by kernel_rfl) (fun _ _ _ h => h) (Or.inl ⟨by rfl, ?hb6⟩) hS1 ?_
      case hb6 => (intro w hSw; have q0 := hSw.1.1; have qn := hSw.2.1; have q8 := hSw.2.2; go_simp; try with_reducible rfl)
      try simp only [Act.put, List.setIfInBounds_toArray, List.set_cons_zero, List.set_cons_succ]
      refine wpAnyH_take (i := 8) (oi := ({ dst := some 14, op := Op.fieldAddr 53 (Operand.tmp 13) 0, type := 0, pos := "score.go:31", after := #[{ on := 7, ground := Ground.data }, { on := 5, ground := Ground.guard }], guard := some (5, false) } : Oper)) (v := ?vb7) rfl (by kernel_rfl) (by kernel_rfl) (by kernel_rfl) (fun _ _ _ h => h) (Or.inl ⟨by rfl, ?hb7⟩) hS1 ?_
      case hb7 => (intro w hSw; have q0 := hSw.1.1; have qn := hSw.2.1; have q8 := hSw.2.2; go_simp; try with_reducible rfl)
      try simp only [Act.put, List.setIfInBounds_toArray, List.set_cons_zero, List.set_cons_succ]
      refine wpAnyH_take (i := 9) (oi := ({ dst := some 15, op := Op.load 3 (Operand.tmp 14), type := 3, pos := "score.go:31", after := #[{ on := 8, ground := Ground.data }, { on := 5, ground := Ground.guard }], guard := some (5, false) } : Oper)) (v := ?vb8) rfl (by kernel_rfl) (by kernel_rfl) (by kernel_rfl) (fun _ _ _ h => h) (Or.inl ⟨by rfl, ?hb8⟩) hS1 ?_
      case hb8 => (intro w hSw; have q0 := hSw.1.1; have qn := hSw.2.1; have q8 := hSw.2.2; go_simp; try with_reducible rfl)
      try simp only [Act.put, List.setIfInBounds_toArray, List.set_cons_zero, List.set_cons_succ]
      refine wpAnyH_take (i := 10) (oi := ({ dst := some 16, op := Op.load 3 (Operand.tmp 1), type := 3, pos := "score.go:31", after := #[{ on := 5, ground := Ground.guard }], guard := some (5, false) } : Oper)) (v := ?vb9) rfl (by kernel_rfl) (by kernel_rfl) (by kernel_rfl) (fun _ _ _ h => h) (Or.inl ⟨by rfl, ?hb9⟩) hS1 ?_
      case hb9 => (intro w hSw; have q0 := hSw.1.1; have qn := hSw.2.1; have q8 := hSw.2.2; go_simp; try with_reducible rfl)
      try simp only [Act.put, List.setIfInBounds_toArray, List.set_cons_zero, List.set_cons_succ]
      refine wpAnyH_take (i := 11) (oi := ({ dst := some 17, op := Op.binOp BinOp.gtr 3 (Operand.tmp 15) (Operand.tmp 16) 3, type := 4, pos := "score.go:31", after := #[{ on := 9, ground := Ground.data }, { on := 10, ground := Ground.data }, { on := 5, ground := Ground.guard }], guard := some (5, false) } : Oper)) (v := ?vb10) rfl (by kernel_rfl) (by kernel_rfl) (by kernel_rfl) (fun _ _ _ h => h) (Or.inl ⟨by rfl, ?hb10⟩) hS1 ?_
      case hb10 => (intro w hSw; have q0 := hSw.1.1; have qn := hSw.2.1; have q8 := hSw.2.2; go_simp; try with_reducible rfl)
      try simp only [Act.put, List.setIfInBounds_toArray, List.set_cons_zero, List.set_cons_succ]
      refine wpAnyH_take (i := 12) (oi := ({ dst := some 18, op := Op.move (Operand.tmp 17), type := 4, pos := "score.go:31", after := #[{ on := 11, ground := Ground.data }, { on := 5, ground := Ground.chain }, { on := 5, ground := Ground.guard }], guard := some (5, false) } : Oper)) (v := ?vb11) rfl (by kernel_rfl) (by kernel_rfl) (by kernel_rfl) (fun _ _ _ h => h) (Or.inl ⟨by rfl, ?hb11⟩) hS1 ?_
      case hb11 => (intro w hSw; have q0 := hSw.1.1; have qn := hSw.2.1; have q8 := hSw.2.2; go_simp; try with_reducible rfl)
      try simp only [Act.put, List.setIfInBounds_toArray, List.set_cons_zero, List.set_cons_succ]
      refine wpAnyH_take (i := 13) (oi := ({ dst := some 19, op := Op.fieldAddr 42 (Operand.tmp 2) 8, type := 0, pos := "score.go:31", after := #[{ on := 12, ground := Ground.guard }], guard := some (12, true) } : Oper)) (v := undef) rfl (by kernel_rfl) (by kernel_rfl) (by kernel_rfl) (fun _ _ _ h => h) (Or.inr ⟨by rfl, rfl⟩) hS1 ?_
      try simp only [Act.put, List.setIfInBounds_toArray, List.set_cons_zero, List.set_cons_succ]
      refine wpAnyH_take (i := 14) (oi := ({ dst := some 20, op := Op.load 39 (Operand.tmp 19), type := 39, pos := "score.go:31", after := #[{ on := 13, ground := Ground.data }, { on := 12, ground := Ground.guard }], guard := some (12, true) } : Oper)) (v := undef) rfl (by kernel_rfl) (by kernel_rfl) (by kernel_rfl) (fun _ _ _ h => h) (Or.inr ⟨by rfl, rfl⟩) hS1 ?_
      try simp only [Act.put, List.setIfInBounds_toArray, List.set_cons_zero, List.set_cons_succ]
      refine wpAnyH_take (i := 15) (oi := ({ dst := some 21, op := Op.move (Operand.tmp 0), type := 71, pos := "score.go:31", after := #[{ on := 12, ground := Ground.guard }], guard := some (12, true) } : Oper)) (v := undef) rfl (by kernel_rfl) (by kernel_rfl) (by kernel_rfl) (fun _ _ _ h => h) (Or.inr ⟨by rfl, rfl⟩) hS1 ?_
      try simp only [Act.put, List.setIfInBounds_toArray, List.set_cons_zero, List.set_cons_succ]
      refine wpAnyH_take (i := 16) (oi := ({ dst := some 22, op := Op.nilCheck (Operand.tmp 21), type := 0, pos := "score.go:31", after := #[{ on := 15, ground := Ground.data }, { on := 12, ground := Ground.guard }], guard := some (12, true) } : Oper)) (v := undef) rfl (by kernel_rfl) (by kernel_rfl) (by kernel_rfl) (fun _ _ _ h => h) (Or.inr ⟨by rfl, rfl⟩) hS1 ?_
      try simp only [Act.put, List.setIfInBounds_toArray, List.set_cons_zero, List.set_cons_succ]
      refine wpAnyH_take (i := 17) (oi := ({ dst := some 23, op := Op.fieldAddr 53 (Operand.tmp 22) 0, type := 0, pos := "score.go:31", after := #[{ on := 16, ground := Ground.data }, { on := 12, ground := Ground.guard }], guard := some (12, true) } : Oper)) (v := undef) rfl (by kernel_rfl) (by kernel_rfl) (by kernel_rfl) (fun _ _ _ h => h) (Or.inr ⟨by rfl, rfl⟩) hS1 ?_
      try simp only [Act.put, List.setIfInBounds_toArray, List.set_cons_zero, List.set_cons_succ]
      refine wpAnyH_take (i := 18) (oi := ({ dst := some 24, op := Op.load 3 (Operand.tmp 23), type := 3, pos := "score.go:31", after := #[{ on := 17, ground := Ground.data }, { on := 12, ground := Ground.guard }], guard := some (12, true) } : Oper)) (v := undef) rfl (by kernel_rfl) (by kernel_rfl) (by kernel_rfl) (fun _ _ _ h => h) (Or.inr ⟨by rfl, rfl⟩) hS1 ?_
      try simp only [Act.put, List.setIfInBounds_toArray, List.set_cons_zero, List.set_cons_succ]
      refine wpAnyH_take (i := 19) (oi := ({ dst := some 25, op := Op.load 3 (Operand.tmp 1), type := 3, pos := "score.go:31", after := #[{ on := 12, ground := Ground.guard }], guard := some (12, true) } : Oper)) (v := undef) rfl (by kernel_rfl) (by kernel_rfl) (by kernel_rfl) (fun _ _ _ h => h) (Or.inr ⟨by rfl, rfl⟩) hS1 ?_
      try simp only [Act.put, List.setIfInBounds_toArray, List.set_cons_zero, List.set_cons_succ]
      refine wpAnyH_take (i := 20) (oi := ({ dst := some 26, op := Op.binOp BinOp.sub 3 (Operand.tmp 24) (Operand.tmp 25) 3, type := 3, pos := "score.go:31", after := #[{ on := 18, ground := Ground.data }, { on := 19, ground := Ground.data }, { on := 12, ground := Ground.guard }], guard := some (12, true) } : Oper)) (v := undef) rfl (by kernel_rfl) (by kernel_rfl) (by kernel_rfl) (fun _ _ _ h => h) (Or.inr ⟨by rfl, rfl⟩) hS1 ?_
      try simp only [Act.put, List.setIfInBounds_toArray, List.set_cons_zero, List.set_cons_succ]
      refine wpAnyH_take (i := 21) (oi := ({ dst := some 27, op := Op.call { callee := Callee.value (Operand.func 41), args := #[Operand.tmp 20, Operand.tmp 26], argTypes := #[39, 3] }, type := 4, pos := "score.go:31", after := #[{ on := 14, ground := Ground.data }, { on := 20, ground := Ground.data }, { on := 12, ground := Ground.chain }, { on := 12, ground := Ground.guard }], guard := some (12, true) } : Oper)) (v := undef) rfl (by kernel_rfl) (by kernel_rfl) (by kernel_rfl) (fun _ _ _ h => h) (Or.inr ⟨by rfl, rfl⟩) hS1 ?_
      try simp only [Act.put, List.setIfInBounds_toArray, List.set_cons_zero, List.set_cons_succ]
      refine wpAnyH_take (i := 22) (oi := ({ dst := some 28, op := Op.unOp UnOp.not 4 (Operand.tmp 27), type := 4, pos := "score.go:31", after := #[{ on := 21, ground := Ground.data }, { on := 12, ground := Ground.guard }], guard := some (12, true) } : Oper)) (v := undef) rfl (by kernel_rfl) (by kernel_rfl) (by kernel_rfl) (fun _ _ _ h => h) (Or.inr ⟨by rfl, rfl⟩) hS1 ?_
      try simp only [Act.put, List.setIfInBounds_toArray, List.set_cons_zero, List.set_cons_succ]
      refine wpAnyH_take (i := 23) (oi := ({ dst := some 29, op := Op.pick (Operand.tmp 18) (Operand.tmp 28) (Operand.const (Value.bool false)), type := 4, pos := "score.go:31", after := #[{ on := 12, ground := Ground.data }, { on := 22, ground := Ground.data }, { on := 5, ground := Ground.guard }], guard := some (5, false) } : Oper)) (v := ?vb12) rfl (by kernel_rfl) (by kernel_rfl) (by kernel_rfl) (fun _ _ _ h => h) (Or.inl ⟨by rfl, ?hb12⟩) hS1 ?_
      case hb12 => (intro w hSw; go_simp; try with_reducible rfl)
      try simp only [Act.put, List.setIfInBounds_toArray, List.set_cons_zero, List.set_cons_succ]
      refine wpAnyH_take (i := 24) (oi := ({ dst := some 30, op := Op.pick (Operand.tmp 11) (Operand.const (Value.bool true)) (Operand.tmp 29), type := 4, pos := "score.go:31", after := #[{ on := 5, ground := Ground.data }, { on := 23, ground := Ground.data }], guard := none } : Oper)) (v := ?vb13) rfl (by kernel_rfl) (by kernel_rfl) (by kernel_rfl) (fun _ _ _ h => h) (Or.inl ⟨by rfl, ?hb13⟩) hS1 ?_
      case hb13 => (intro w hSw; go_simp; try with_reducible rfl)
      try simp only [Act.put, List.setIfInBounds_toArray, List.set_cons_zero, List.set_cons_succ]
      refine wpAnyH_done (by kernel_rfl) ?_ _
      obtain ⟨y0, -, y2, y3, -, -, -, -, -, -, -, -, -, -, -, -, y16, -, -, -⟩ := (KX _ B1).1
      rw [hp] at y3
      have JY := JB _ B1
      have KY : Keep (fun b => b < wx.heap.size ∧ b ≠ g ∧ b ≠ H ∧ b ≠ Z) wx w1 := ⟨B1.os, B1.tape, B1.output, B1.size, fun i hi => B1.block i hi.1⟩
      have fY : ∀ j, w1.frozen? ⟨g, j, none⟩ = false := fun j => (B1.frozen (p := ⟨g, j, none⟩) hgl).trans (hfz j)
      have oY : ∀ j, w1.cell? ⟨g, j, none⟩ = wx.cell? ⟨g, j, none⟩ := fun j => B1.cell (p := ⟨g, j, none⟩) hgl
      have z2 := fY (off + 2)
      go_wp2_with fail
      have a0 : (w1.setCell ⟨g, off + 2, none⟩ (.int .i64 2)).cell? ⟨g, off, none⟩ = some (.int .i64 x.number) := by rw [cell_oth (.inr (by omega))]; exact y0
      have a3 : (w1.setCell ⟨g, off + 2, none⟩ (.int .i64 2)).cell? ⟨g, off + 3, none⟩ = some (.int .i64 (p : Int)) := by rw [cell_oth (.inr (by omega))]; exact y3
      have a16 : (w1.setCell ⟨g, off + 2, none⟩ (.int .i64 2)).cell? ⟨g, off + 16, none⟩ = some (.slice da x.ck.data.length dc) := by rw [cell_oth (.inr (by omega))]; exact y16
      have aH : (w1.setCell ⟨g, off + 2, none⟩ (.int .i64 2)).cell? ⟨H, 0, none⟩ = some (.int .i64 (hiM n sp n (l.take k))) := by rw [cell_oth (.inl (by omega))]; exact JY.ch
      have afH : (w1.setCell ⟨g, off + 2, none⟩ (.int .i64 2)).frozen? ⟨H, 0, none⟩ = false := by simpa using JY.fh
      have aM : (w1.setCell ⟨g, off + 2, none⟩ (.int .i64 2)).cell? ⟨M, 0, none⟩ = some (.slice (some ⟨Z, 0, none⟩) paths paths) := by rw [cell_oth (.inl (by omega))]; exact JY.cm
      have aZ := JY.cz.past (Y := g) (off + 2) (.int .i64 2) (by omega)
      have aK := KY.setCell (p := ⟨g, off + 2, none⟩) (fun h => h.2.1 rfl) (.int .i64 2)
      have af : ∀ j, (w1.setCell ⟨g, off + 2, none⟩ (.int .i64 2)).frozen? ⟨g, j, none⟩ = false := fun j => by simpa using fY j
      have ao : ∀ j, j ≠ off + 2 → (w1.setCell ⟨g, off + 2, none⟩ (.int .i64 2)).cell? ⟨g, j, none⟩ = wx.cell? ⟨g, j, none⟩ := fun j hj => by rw [cell_oth (.inr (by omega))]; exact oY j
      have a2 : (w1.setCell ⟨g, off + 2, none⟩ (.int .i64 2)).cell? ⟨g, off + 2, none⟩ = some (.int .i64 2) := World.cell?_setCell_same' _ _ _ (by rw [y2]; rfl)
      generalize (w1.setCell ⟨g, off + 2, none⟩ (.int .i64 2)) = wa at *
      have HHI : Hid (hiS n sp (hiM n sp n (l.take k)) x = if hiM n sp n (l.take k) < x.number then x.number else hiM n sp n (l.take k)) := by show _ = _; rw [hiS, if_pos HNW.out]; split <;> omega
      have HCM : Hid (comeS n sp (comeM n sp (List.replicate paths 0) (l.take k)) x = (comeM n sp (List.replicate paths 0) (l.take k)).set p (wrap64 ((comeM n sp (List.replicate paths 0) (l.take k)).getD p 0 + x.ck.data.length))) := by
        show _ = _
        rw [comeS, if_pos HNW.out, hp, addAt, if_pos (by rw [comeM_len]; simp; omega), Int.toNat_natCast]
      have HLN : Hid ((comeM n sp (List.replicate paths 0) (l.take k)).length = paths) := by show _ = _; rw [comeM_len]; simp
      have HST : Hid ((arrM n sp x).state = 2) := by show _ = _; rw [arrM, if_pos HNW.out]; rfl
      generalize hhi : hiM n sp n (l.take k) = hi at *
      generalize hzs : comeM n sp (List.replicate paths 0) (l.take k) = zs at *
      have H1 : Hid (hiM n sp n (l.take k) = hi) := hhi
      have H2 : Hid (comeM n sp (List.replicate paths 0) (l.take k) = zs) := hzs
      clear hhi hzs
      have hpz : p < zs.length := by rw [HLN.out]; exact hpp
      clear y0 y2 y3 y16 z2 fY oY KY JY KX IC HC
      refine wp_region_held_drew (S := (fun w' => w'.cell? ⟨g, off, none⟩ = some (.int .i64 x.number))) (by kernel_rfl) (show _ from a0) (fun hS0 => ?_)
      refine wpAnyH_take (i := 1) (oi := ({ dst := some 35, op := Op.move (Operand.tmp 0), type := 71, pos := "score.go:35", after := #[], guard := none } : Oper)) (v := ?vbx1) rfl (by kernel_rfl) (by kernel_rfl) (by kernel_rfl) (fun _ _ _ h => h) (Or.inl ⟨by rfl, ?hbx1⟩) hS0 ?_
      case hbx1 => (intro w hSw; go_simp; try with_reducible rfl)
      try simp only [Act.put, List.setIfInBounds_toArray, List.set_cons_zero, List.set_cons_succ]
      refine wpAnyH_take (i := 2) (oi := ({ dst := some 36, op := Op.nilCheck (Operand.tmp 35), type := 0, pos := "score.go:35", after := #[{ on := 1, ground := Ground.data }], guard := none } : Oper)) (v := ?vbx2) rfl (by kernel_rfl) (by kernel_rfl) (by kernel_rfl) (fun _ _ _ h => h) (Or.inl ⟨by rfl, ?hbx2⟩) hS0 ?_
      case hbx2 => (intro w hSw; go_simp; try with_reducible rfl)
      try simp only [Act.put, List.setIfInBounds_toArray, List.set_cons_zero, List.set_cons_succ]
      refine wpAnyH_take (i := 3) (oi := ({ dst := some 37, op := Op.fieldAddr 53 (Operand.tmp 36) 0, type := 0, pos := "score.go:35", after := #[{ on := 2, ground := Ground.data }], guard := none } : Oper)) (v := ?vbx3) rfl (by kernel_rfl) (by kernel_rfl) (by kernel_rfl) (fun _ _ _ h => h) (Or.inl ⟨by rfl, ?hbx3⟩) hS0 ?_
      case hbx3 => (intro w hSw; go_simp; try with_reducible rfl)
      try simp only [Act.put, List.setIfInBounds_toArray, List.set_cons_zero, List.set_cons_succ]
      refine wpAnyH_take (i := 4) (oi := ({ dst := some 38, op := Op.load 3 (Operand.tmp 37), type := 3, pos := "score.go:35", after := #[{ on := 3, ground := Ground.data }], guard := none } : Oper)) (v := ?vbx4) rfl (by kernel_rfl) (by kernel_rfl) (by kernel_rfl) (fun _ _ _ h => h) (Or.inl ⟨by rfl, ?hbx4⟩) hS0 ?_
      case hbx4 => (intro w hSw; have q0 : w.cell? ⟨g, off, none⟩ = some (.int .i64 x.number) := hSw; go_simp; try with_reducible rfl)
      try simp only [Act.put, List.setIfInBounds_toArray, List.set_cons_zero, List.set_cons_succ]
      refine wpAnyH_ready (rs := [0]) (by kernel_rfl) (by simp) ?_
      refine AllReadyH.cons (o := ({ dst := some 34, op := Op.load 3 (Operand.tmp 3), type := 3, pos := "score.go:35", after := #[], guard := none } : Oper)) rfl (fun K hK => ?_) AllReadyH.nil
      refine step_ld (by rfl) 3 (.tmp 3) rfl _ rfl (.int .i64 hi) (run_ld3 (w := wa.drew) aH) ?_
      refine hK.out _ _ (show _ from a0) (fun hS1 => ?_)
      clear hK K
      try simp only [Act.put, List.setIfInBounds_toArray, List.set_cons_zero, List.set_cons_succ]
      refine wpAnyH_take (i := 5) (oi := ({ dst := some 39, op := Op.call { callee := Callee.builtin Builtin.max, args := #[Operand.tmp 34, Operand.tmp 38], argTypes := #[3, 3] }, type := 3, pos := "score.go:35", after := #[{ on := 0, ground := Ground.data }, { on := 4, ground := Ground.data }], guard := none } : Oper)) (v := ?vbx5) rfl (by kernel_rfl) (by kernel_rfl) (by kernel_rfl) (fun _ _ _ h => h) (Or.inl ⟨by rfl, ?hbx5⟩) hS1 ?_
      case hbx5 => (intro w hSw; go_simp; try with_reducible rfl)
      try simp only [Act.put, List.setIfInBounds_toArray, List.set_cons_zero, List.set_cons_succ]
      refine wpAnyH_ready (rs := [6]) (by kernel_rfl) (by simp) ?_
      refine AllReadyH.cons (o := ({ dst := none, op := Op.store 3 (Operand.tmp 3) (Operand.tmp 39), type := 0, pos := "score.go:35", after := #[{ on := 5, ground := Ground.data }, { on := 0, ground := Ground.phase }, { on := 1, ground := Ground.phase }, { on := 2, ground := Ground.phase }, { on := 3, ground := Ground.phase }, { on := 4, ground := Ground.phase }, { on := 5, ground := Ground.phase }], guard := none } : Oper)) rfl (fun K hK => ?_) AllReadyH.nil
      refine step_st (by rfl) 3 (.tmp 3) (.tmp 39) rfl _ _ rfl rfl (run_st3 (w := wa.drew) aH afH _) ?_
      refine hK.out _ _ (by rw [cell_oth (.inl (by omega))]; exact a0) (fun hS2 => ?_)
      clear hK K
      try simp only [Act.put]
      refine wpAnyH_done (by kernel_rfl) ?_ _
      rw [← HHI.out]
      generalize hhn : hiS n sp hi x = hn at *
      have H3 : Hid (hiS n sp hi x = hn) := hhn
      clear hhn
      have b3 : (wa.drew.setCell ⟨H, 0, none⟩ (.int .i64 hn)).cell? ⟨g, off + 3, none⟩ = some (.int .i64 (p : Int)) := by rw [cell_oth (.inl (by omega))]; exact a3
      have b16 : (wa.drew.setCell ⟨H, 0, none⟩ (.int .i64 hn)).cell? ⟨g, off + 16, none⟩ = some (.slice da x.ck.data.length dc) := by rw [cell_oth (.inl (by omega))]; exact a16
      have bM : (wa.drew.setCell ⟨H, 0, none⟩ (.int .i64 hn)).cell? ⟨M, 0, none⟩ = some (.slice (some ⟨Z, 0, none⟩) paths paths) := by rw [cell_oth (.inl (by omega))]; exact aM
      have bH : (wa.drew.setCell ⟨H, 0, none⟩ (.int .i64 hn)).cell? ⟨H, 0, none⟩ = some (.int .i64 hn) := World.cell?_setCell_same' _ _ _ (by show (wa.cell? _).isSome = true; rw [aH]; rfl)
      have bfH : (wa.drew.setCell ⟨H, 0, none⟩ (.int .i64 hn)).frozen? ⟨H, 0, none⟩ = false := by simpa using afH
      have bCZ : Cells Z (wa.drew.setCell ⟨H, 0, none⟩ (.int .i64 hn)) (cellsI zs) := Cells.past (w := wa.drew) ⟨aZ.cell, aZ.fz⟩ 0 _ (by omega)
      have bK := (aK.drew).setCell (p := ⟨H, 0, none⟩) (fun h => h.2.2.1 rfl) (.int .i64 hn)
      have bf : ∀ j, (wa.drew.setCell ⟨H, 0, none⟩ (.int .i64 hn)).frozen? ⟨g, j, none⟩ = false := fun j => by simpa using af j
      have bo : ∀ j, j ≠ off + 2 → (wa.drew.setCell ⟨H, 0, none⟩ (.int .i64 hn)).cell? ⟨g, j, none⟩ = wx.cell? ⟨g, j, none⟩ := fun j hj => by rw [cell_oth (.inl (by omega))]; exact ao j hj
      have b2 : (wa.drew.setCell ⟨H, 0, none⟩ (.int .i64 hn)).cell? ⟨g, off + 2, none⟩ = some (.int .i64 2) := by rw [cell_oth (.inl (by omega))]; exact a2
      generalize (wa.drew.setCell ⟨H, 0, none⟩ (.int .i64 hn)) = wb at *
      have bZ := bCZ.cell p _ (cellsI_get zs p hpz)
      have bfZ := bCZ.fz p
      have HZP : Hid (zs.getD p 0 = zs[p]) := by show _ = _; rw [List.getD_eq_getElem?_getD, List.getElem?_eq_getElem hpz]; rfl
      generalize zs[p] = zp at *
      have gp1 : decide ((0 : Int) ≤ (p : Int)) = true := by simp
      have gp2 : decide ((p : Int) < (paths : Int)) = true := decide_eq_true (by omega)
      have hix := run_int_at Z paths paths p hpp
      clear a0 a3 a16 aH afH aM aZ aK af ao a2
      go_wp2_with fail
      go_quiet (fail)
      go_wp2_with fail
      refine wp_region_held_drew (S := (fun w' => w'.cell? ⟨M, 0, none⟩ = some (.slice (some ⟨Z, 0, none⟩) paths paths) ∧ w'.cell? ⟨g, off + 3, none⟩ = some (.int .i64 (p : Int)) ∧ w'.cell? ⟨g, off + 16, none⟩ = some (.slice da x.ck.data.length dc))) (by kernel_rfl) ⟨bM, b3, b16⟩ (fun hS0 => ?_)
      refine wpAnyH_take (i := 0) (oi := ({ dst := some 54, op := Op.load 22 (Operand.tmp 4), type := 22, pos := "score.go:37", after := #[], guard := none } : Oper)) (v := ?vby1) rfl (by kernel_rfl) (by kernel_rfl) (by kernel_rfl) (fun _ _ _ h => h) (Or.inl ⟨by rfl, ?hby1⟩) hS0 ?_
      case hby1 => (intro w hSw; have qm := hSw.1; have q3 := hSw.2.1; have q16 := hSw.2.2; go_simp; try with_reducible rfl)
      try simp only [Act.put, List.setIfInBounds_toArray, List.set_cons_zero, List.set_cons_succ]
      refine wpAnyH_take (i := 1) (oi := ({ dst := some 55, op := Op.move (Operand.tmp 0), type := 71, pos := "score.go:37", after := #[], guard := none } : Oper)) (v := ?vby2) rfl (by kernel_rfl) (by kernel_rfl) (by kernel_rfl) (fun _ _ _ h => h) (Or.inl ⟨by rfl, ?hby2⟩) hS0 ?_
      case hby2 => (intro w hSw; have qm := hSw.1; have q3 := hSw.2.1; have q16 := hSw.2.2; go_simp; try with_reducible rfl)
      try simp only [Act.put, List.setIfInBounds_toArray, List.set_cons_zero, List.set_cons_succ]
      refine wpAnyH_take (i := 2) (oi := ({ dst := some 56, op := Op.nilCheck (Operand.tmp 55), type := 0, pos := "score.go:37", after := #[{ on := 1, ground := Ground.data }], guard := none } : Oper)) (v := ?vby3) rfl (by kernel_rfl) (by kernel_rfl) (by kernel_rfl) (fun _ _ _ h => h) (Or.inl ⟨by rfl, ?hby3⟩) hS0 ?_
      case hby3 => (intro w hSw; have qm := hSw.1; have q3 := hSw.2.1; have q16 := hSw.2.2; go_simp; try with_reducible rfl)
      try simp only [Act.put, List.setIfInBounds_toArray, List.set_cons_zero, List.set_cons_succ]
      refine wpAnyH_take (i := 3) (oi := ({ dst := some 57, op := Op.fieldAddr 53 (Operand.tmp 56) 3, type := 0, pos := "score.go:37", after := #[{ on := 2, ground := Ground.data }], guard := none } : Oper)) (v := ?vby4) rfl (by kernel_rfl) (by kernel_rfl) (by kernel_rfl) (fun _ _ _ h => h) (Or.inl ⟨by rfl, ?hby4⟩) hS0 ?_
      case hby4 => (intro w hSw; have qm := hSw.1; have q3 := hSw.2.1; have q16 := hSw.2.2; go_simp; try with_reducible rfl)
      try simp only [Act.put, List.setIfInBounds_toArray, List.set_cons_zero, List.set_cons_succ]
      refine wpAnyH_take (i := 4) (oi := ({ dst := some 58, op := Op.load 3 (Operand.tmp 57), type := 3, pos := "score.go:37", after := #[{ on := 3, ground := Ground.data }], guard := none } : Oper)) (v := ?vby5) rfl (by kernel_rfl) (by kernel_rfl) (by kernel_rfl) (fun _ _ _ h => h) (Or.inl ⟨by rfl, ?hby5⟩) hS0 ?_
      case hby5 => (intro w hSw; have qm := hSw.1; have q3 := hSw.2.1; have q16 := hSw.2.2; go_simp; try with_reducible rfl)
      try simp only [Act.put, List.setIfInBounds_toArray, List.set_cons_zero, List.set_cons_succ]
      refine wpAnyH_take (i := 5) (oi := ({ dst := some 59, op := Op.indexAddr 22 (Operand.tmp 54) (Operand.tmp 58), type := 0, pos := "score.go:37", after := #[{ on := 0, ground := Ground.data }, { on := 4, ground := Ground.data }], guard := none } : Oper)) (v := ?vby6) rfl (by kernel_rfl) (by kernel_rfl) (by kernel_rfl) (fun _ _ _ h => h) (Or.inl ⟨by rfl, ?hby6⟩) hS0 ?_
      case hby6 => (intro w hSw; have qm := hSw.1; have q3 := hSw.2.1; have q16 := hSw.2.2; go_simp; try with_reducible rfl)
      try simp only [Act.put, List.setIfInBounds_toArray, List.set_cons_zero, List.set_cons_succ]
      refine wpAnyH_take (i := 7) (oi := ({ dst := some 61, op := Op.move (Operand.tmp 0), type := 71, pos := "score.go:37", after := #[], guard := none } : Oper)) (v := ?vby7) rfl (by kernel_rfl) (by kernel_rfl) (by kernel_rfl) (fun _ _ _ h => h) (Or.inl ⟨by rfl, ?hby7⟩) hS0 ?_
      case hby7 => (intro w hSw; have qm := hSw.1; have q3 := hSw.2.1; have q16 := hSw.2.2; go_simp; try with_reducible rfl)
      try simp only [Act.put, List.setIfInBounds_toArray, List.set_cons_zero, List.set_cons_succ]
      refine wpAnyH_take (i := 8) (oi := ({ dst := some 62, op := Op.nilCheck (Operand.tmp 61), type := 0, pos := "score.go:37", after := #[{ on := 7, ground := Ground.data }], guard := none } : Oper)) (v := ?vby8) rfl (by kernel_rfl) (by kernel_rfl) (by kernel_rfl) (fun _ _ _ h => h) (Or.inl ⟨by rfl, ?hby8⟩) hS0 ?_
      case hby8 => (intro w hSw; have qm := hSw.1; have q3 := hSw.2.1; have q16 := hSw.2.2; go_simp; try with_reducible rfl)
      try simp only [Act.put, List.setIfInBounds_toArray, List.set_cons_zero, List.set_cons_succ]
      refine wpAnyH_take (i := 9) (oi := ({ dst := some 63, op := Op.fieldAddr 53 (Operand.tmp 62) 9, type := 0, pos := "score.go:37", after := #[{ on := 8, ground := Ground.data }], guard := none } : Oper)) (v := ?vby9) rfl (by kernel_rfl) (by kernel_rfl) (by kernel_rfl) (fun _ _ _ h => h) (Or.inl ⟨by rfl, ?hby9⟩) hS0 ?_
      case hby9 => (intro w hSw; have qm := hSw.1; have q3 := hSw.2.1; have q16 := hSw.2.2; go_simp; try with_reducible rfl)
      try simp only [Act.put, List.setIfInBounds_toArray, List.set_cons_zero, List.set_cons_succ]
      refine wpAnyH_take (i := 10) (oi := ({ dst := some 64, op := Op.fieldAddr 42 (Operand.tmp 63) 7, type := 0, pos := "score.go:37", after := #[{ on := 9, ground := Ground.data }], guard := none } : Oper)) (v := ?vby10) rfl (by kernel_rfl) (by kernel_rfl) (by kernel_rfl) (fun _ _ _ h => h) (Or.inl ⟨by rfl, ?hby10⟩) hS0 ?_
      case hby10 => (intro w hSw; have qm := hSw.1; have q3 := hSw.2.1; have q16 := hSw.2.2; go_simp; try with_reducible rfl)
      try simp only [Act.put, List.setIfInBounds_toArray, List.set_cons_zero, List.set_cons_succ]
      refine wpAnyH_take (i := 11) (oi := ({ dst := some 65, op := Op.load 27 (Operand.tmp 64), type := 27, pos := "score.go:37", after := #[{ on := 10, ground := Ground.data }], guard := none } : Oper)) (v := ?vby11) rfl (by kernel_rfl) (by kernel_rfl) (by kernel_rfl) (fun _ _ _ h => h) (Or.inl ⟨by rfl, ?hby11⟩) hS0 ?_
      case hby11 => (intro w hSw; have qm := hSw.1; have q3 := hSw.2.1; have q16 := hSw.2.2; go_simp; try with_reducible rfl)
      try simp only [Act.put, List.setIfInBounds_toArray, List.set_cons_zero, List.set_cons_succ]
      refine wpAnyH_take (i := 12) (oi := ({ dst := some 66, op := Op.call { callee := Callee.builtin Builtin.len, args := #[Operand.tmp 65], argTypes := #[27] }, type := 3, pos := "score.go:37", after := #[{ on := 11, ground := Ground.data }], guard := none } : Oper)) (v := ?vby12) rfl (by kernel_rfl) (by kernel_rfl) (by kernel_rfl) (fun _ _ _ h => h) (Or.inl ⟨by rfl, ?hby12⟩) hS0 ?_
      case hby12 => (intro w hSw; have qm := hSw.1; have q3 := hSw.2.1; have q16 := hSw.2.2; go_simp; try with_reducible rfl)
      try simp only [Act.put, List.setIfInBounds_toArray, List.set_cons_zero, List.set_cons_succ]
      refine wpAnyH_ready (rs := [6]) (by kernel_rfl) (by simp) ?_
      refine AllReadyH.cons (o := ({ dst := some 60, op := Op.load 3 (Operand.tmp 59), type := 3, pos := "score.go:37", after := #[{ on := 5, ground := Ground.data }], guard := none } : Oper)) rfl (fun K hK => ?_) AllReadyH.nil
      refine step_ld (by rfl) 3 (.tmp 59) rfl _ rfl (.int .i64 zp) (run_ld3 (by exact bZ)) ?_
      refine hK.out _ _ (⟨bM, b3, b16⟩) (fun hS3 => ?_)
      clear hK K
      try simp only [Act.put, List.setIfInBounds_toArray, List.set_cons_zero, List.set_cons_succ]
      refine wpAnyH_take (i := 13) (oi := ({ dst := some 67, op := Op.binOp BinOp.add 3 (Operand.tmp 60) (Operand.tmp 66) 3, type := 3, pos := "score.go:37", after := #[{ on := 6, ground := Ground.data }, { on := 12, ground := Ground.data }], guard := none } : Oper)) (v := ?vby13) rfl (by kernel_rfl) (by kernel_rfl) (by kernel_rfl) (fun _ _ _ h => h) (Or.inl ⟨by rfl, ?hby13⟩) hS3 ?_
      case hby13 => (intro w hSw; go_simp; try with_reducible rfl)
      try simp only [Act.put, List.setIfInBounds_toArray, List.set_cons_zero, List.set_cons_succ]
      refine wpAnyH_take (i := 14) (oi := ({ dst := some 68, op := Op.indexAddr 22 (Operand.tmp 54) (Operand.tmp 58), type := 0, pos := "score.go:37", after := #[{ on := 0, ground := Ground.data }, { on := 4, ground := Ground.data }, { on := 0, ground := Ground.phase }, { on := 1, ground := Ground.phase }, { on := 2, ground := Ground.phase }, { on := 3, ground := Ground.phase }, { on := 4, ground := Ground.phase }, { on := 5, ground := Ground.phase }, { on := 6, ground := Ground.phase }, { on := 7, ground := Ground.phase }, { on := 8, ground := Ground.phase }, { on := 9, ground := Ground.phase }, { on := 10, ground := Ground.phase }, { on := 11, ground := Ground.phase }, { on := 12, ground := Ground.phase }, { on := 13, ground := Ground.phase }], guard := none } : Oper)) (v := ?vby14) rfl (by kernel_rfl) (by kernel_rfl) (by kernel_rfl) (fun _ _ _ h => h) (Or.inl ⟨by rfl, ?hby14⟩) hS3 ?_
      case hby14 => (intro w hSw; go_simp; try with_reducible rfl)
      try simp only [Act.put, List.setIfInBounds_toArray, List.set_cons_zero, List.set_cons_succ]
      refine wpAnyH_ready (rs := [15]) (by kernel_rfl) (by simp) ?_
      refine AllReadyH.cons (o := ({ dst := none, op := Op.store 3 (Operand.tmp 68) (Operand.tmp 67), type := 0, pos := "score.go:37", after := #[{ on := 14, ground := Ground.data }, { on := 13, ground := Ground.data }, { on := 0, ground := Ground.phase }, { on := 1, ground := Ground.phase }, { on := 2, ground := Ground.phase }, { on := 3, ground := Ground.phase }, { on := 4, ground := Ground.phase }, { on := 5, ground := Ground.phase }, { on := 6, ground := Ground.phase }, { on := 7, ground := Ground.phase }, { on := 8, ground := Ground.phase }, { on := 9, ground := Ground.phase }, { on := 10, ground := Ground.phase }, { on := 11, ground := Ground.phase }, { on := 12, ground := Ground.phase }, { on := 13, ground := Ground.phase }], guard := none } : Oper)) rfl (fun K hK => ?_) AllReadyH.nil
      refine step_st (by rfl) 3 (.tmp 68) (.tmp 67) rfl _ _ rfl rfl (run_st3 (by exact bZ) (by exact bfZ) _) ?_
      refine hK.out _ _ (⟨by rw [cell_oth (.inl (by omega))]; exact bM, by rw [cell_oth (.inl (by omega))]; exact b3, by rw [cell_oth (.inl (by omega))]; exact b16⟩) (fun hS4 => ?_)
      clear hK K
      try simp only [Act.put]
      refine wpAnyH_done (by kernel_rfl) ?_ _
      go_wp2_with fail
      go_end0
      rw [i64w]
      have KF := ((bK.drewN nq).drew).setCell (p := ⟨Z, p, none⟩) (fun h => h.2.2.2 rfl) (.int .i64 (wrap64 (zp + x.ck.data.length)))
      have CZ : Cells Z ((wb.drewN nq).drew.setCell ⟨Z, p, none⟩ (.int .i64 (wrap64 (zp + x.ck.data.length)))) (cellsI (zs.set p (wrap64 (zp + x.ck.data.length)))) := by
        rw [cellsI_set]
        exact Cells.set (w := (wb.drewN nq).drew) ⟨bCZ.cell, bCZ.fz⟩ p _ (by rw [cellsI_length]; exact hpz)
      refine ⟨⟨_, rfl⟩, ArJ.next (g := g) hj hx KF ⟨by omega, by omega, by omega, by omega⟩ ⟨by omega, by omega, by omega, by omega⟩ ⟨by omega, by omega, by omega, by omega⟩ (fun b hb => ⟨by omega, by omega, by omega, by omega⟩) ?_ ?_ ?_, KF, fun j => ?_, fun j hj => ?_, ?_⟩
      · rw [H1.out, H3.out, cell_oth (.inl (by omega))]
        exact bH
      · show World.frozen? (World.setCell _ _ _) _ = _
        simpa using bfH
      · rw [H2.out, HCM.out, HZP.out]
        exact CZ
      · show World.frozen? (World.setCell _ _ _) _ = _
        simpa using bf j
      · rw [cell_oth (.inl (by omega))]
        exact bo j hj
      · rw [cell_oth (.inl (by omega)), HST.out]
        exact b2

    · have hd : decide (n < x.number) = true := decide_eq_true (by omega)
      have hwr : IntKind.i64.wrap (x.number - n) = x.number - n := by
        simp [IntKind.wrap, IntKind.signed, IntKind.bits]
        omega
      cases hh : inM sp (x.number - n) with
      | false =>
        have HN := fun w' hb => HNO w' hb (by rw [newsM, hereM, hh, decide_eq_false hle]; simp)
        rw [hh] at HC
        clear hfz hat HNO
        generalize hoff : k * 20 = off at *
        go_enter Try.func39, Try.ntmps39
        go_wp2_with fail
        refine wp_region_held_drew (S := (fun w' => SnAt w' g off x (.slice da x.ck.data.length dc) (.slice sa x.ck.spans.length sc) (.slice qa x.ck.skips.length qc) ∧ w'.cell? ⟨N, 0, none⟩ = some (.int .i64 n) ∧ w'.cell? ⟨C, 8, none⟩ = some (.slice spa sp.length spc))) (by kernel_rfl) (KX _ (drew_below _ _)) (fun hS0 => ?_)
        refine wpAnyH_take (i := 0) (oi := ({ dst := some 6, op := Op.move (Operand.tmp 0), type := 71, pos := "score.go:31", after := #[], guard := none } : Oper)) (v := ?vd1) rfl (by kernel_rfl) (by kernel_rfl) (by kernel_rfl) (fun _ _ _ h => h) (Or.inl ⟨by rfl, ?hd1⟩) hS0 ?_
        case hd1 => (intro w hSw; go_simp; try with_reducible rfl)
        try simp only [Act.put, List.setIfInBounds_toArray, List.set_cons_zero, List.set_cons_succ]
        refine wpAnyH_take (i := 1) (oi := ({ dst := some 7, op := Op.nilCheck (Operand.tmp 6), type := 0, pos := "score.go:31", after := #[{ on := 0, ground := Ground.data }], guard := none } : Oper)) (v := ?vd2) rfl (by kernel_rfl) (by kernel_rfl) (by kernel_rfl) (fun _ _ _ h => h) (Or.inl ⟨by rfl, ?hd2⟩) hS0 ?_
        case hd2 => (intro w hSw; go_simp; try with_reducible rfl)
        try simp only [Act.put, List.setIfInBounds_toArray, List.set_cons_zero, List.set_cons_succ]
        refine wpAnyH_take (i := 2) (oi := ({ dst := some 8, op := Op.load 53 (Operand.tmp 7), type := 53, pos := "score.go:31", after := #[{ on := 1, ground := Ground.data }], guard := none } : Oper)) rfl (by kernel_rfl) (by kernel_rfl) (by kernel_rfl) (fun _ _ _ h => h) (yieldsIf_load_mid (by rfl) 53 (.tmp 7) rfl g off rfl [.int .i64 x.number, .int .i64 x.id, .int .i64 x.state, .int .i64 x.path, .int .i64 x.missed, .int .i64 x.times, .int .i64 x.came, .int .i64 x.life, .int .i64 x.tries, .int .i64 x.ck.kind, .int .i64 x.ck.tag, .int .i64 x.ck.stream, .int .i64 x.ck.mid, .int .i64 x.ck.part, .bool x.ck.last, .bool x.ck.ordered, .slice da x.ck.data.length dc, .slice sa x.ck.spans.length sc, .int .i64 x.ck.room, .slice qa x.ck.skips.length qc] _ (fun w h => h.1.range) Try.underlying53 rfl Try.sizeSn) hS0 ?_
        try simp only [Act.put, List.setIfInBounds_toArray, List.set_cons_zero, List.set_cons_succ]
        refine wpAnyH_ready (rs := [3]) (by kernel_rfl) (by simp) ?_
        refine AllReadyH.cons (o := ({ dst := some 9, op := Op.call { callee := Callee.value (Operand.func 40), args := #[Operand.tmp 8], argTypes := #[53] }, type := 4, pos := "score.go:31", after := #[{ on := 2, ground := Ground.data }], guard := none } : Oper)) rfl (fun K hK => ?_) AllReadyH.nil
        refine step_call1 rfl 40 (.tmp 8) 53 rfl _ rfl rfl enters_waited _ (IC _ (drew_below _ _)) ?_
        rintro _ w1 ⟨rfl, B1⟩
        refine hK.out _ _ (KX _ B1) (fun hS1 => ?_)
        clear hK K
        try simp only [Act.put, List.setIfInBounds_toArray, List.set_cons_zero, List.set_cons_succ]
        refine wpAnyH_take (i := 4) (oi := ({ dst := some 10, op := Op.unOp UnOp.not 4 (Operand.tmp 9), type := 4, pos := "score.go:31", after := #[{ on := 3, ground := Ground.data }], guard := none } : Oper)) (v := ?vd3) rfl (by kernel_rfl) (by kernel_rfl) (by kernel_rfl) (fun _ _ _ h => h) (Or.inl ⟨by rfl, ?hd3⟩) hS1 ?_
        case hd3 => (intro w hSw; go_simp; try with_reducible rfl)
        try simp only [Act.put, List.setIfInBounds_toArray, List.set_cons_zero, List.set_cons_succ]
        refine wpAnyH_take (i := 5) (oi := ({ dst := some 11, op := Op.move (Operand.tmp 10), type := 4, pos := "score.go:31", after := #[{ on := 4, ground := Ground.data }, { on := 3, ground := Ground.chain }], guard := none } : Oper)) (v := ?vd4) rfl (by kernel_rfl) (by kernel_rfl) (by kernel_rfl) (fun _ _ _ h => h) (Or.inl ⟨by rfl, ?hd4⟩) hS1 ?_
        case hd4 => (intro w hSw; go_simp; try with_reducible rfl)
        try simp only [Act.put, List.setIfInBounds_toArray, List.set_cons_zero, List.set_cons_succ]
        refine wpAnyH_take (i := 6) (oi := ({ dst := some 12, op := Op.move (Operand.tmp 0), type := 71, pos := "score.go:31", after := #[{ on := 5, ground := Ground.guard }], guard := some (5, false) } : Oper)) (v := ?vd5) rfl (by kernel_rfl) (by kernel_rfl) (by kernel_rfl) (fun _ _ _ h => h) (Or.inl ⟨by rfl, ?hd5⟩) hS1 ?_
        case hd5 => (intro w hSw; have q0 := hSw.1.1; have qn := hSw.2.1; have q8 := hSw.2.2; go_simp; try with_reducible rfl)
        try simp only [Act.put, List.setIfInBounds_toArray, List.set_cons_zero, List.set_cons_succ]
        refine wpAnyH_take (i := 7) (oi := ({ dst := some 13, op := Op.nilCheck (Operand.tmp 12), type := 0, pos := "score.go:31", after := #[{ on := 6, ground := Ground.data }, { on := 5, ground := Ground.guard }], guard := some (5, false) } : Oper)) (v := ?vd6) rfl (by kernel_rfl) (by kernel_rfl) (by kernel_rfl) (fun _ _ _ h => h) (Or.inl ⟨by rfl, ?hd6⟩) hS1 ?_
        case hd6 => (intro w hSw; have q0 := hSw.1.1; have qn := hSw.2.1; have q8 := hSw.2.2; go_simp; try with_reducible rfl)
        try simp only [Act.put, List.setIfInBounds_toArray, List.set_cons_zero, List.set_cons_succ]
        refine wpAnyH_take (i := 8) (oi := ({ dst := some 14, op := Op.fieldAddr 53 (Operand.tmp 13) 0, type := 0, pos := "score.go:31", after := #[{ on := 7, ground := Ground.data }, { on := 5, ground := Ground.guard }], guard := some (5, false) } : Oper)) (v := ?vd7) rfl (by kernel_rfl) (by kernel_rfl) (by kernel_rfl) (fun _ _ _ h => h) (Or.inl ⟨by rfl, ?hd7⟩) hS1 ?_
        case hd7 => (intro w hSw; have q0 := hSw.1.1; have qn := hSw.2.1; have q8 := hSw.2.2; go_simp; try with_reducible rfl)
        try simp only [Act.put, List.setIfInBounds_toArray, List.set_cons_zero, List.set_cons_succ]
        refine wpAnyH_take (i := 9) (oi := ({ dst := some 15, op := Op.load 3 (Operand.tmp 14), type := 3, pos := "score.go:31", after := #[{ on := 8, ground := Ground.data }, { on := 5, ground := Ground.guard }], guard := some (5, false) } : Oper)) (v := ?vd8) rfl (by kernel_rfl) (by kernel_rfl) (by kernel_rfl) (fun _ _ _ h => h) (Or.inl ⟨by rfl, ?hd8⟩) hS1 ?_
        case hd8 => (intro w hSw; have q0 := hSw.1.1; have qn := hSw.2.1; have q8 := hSw.2.2; go_simp; try with_reducible rfl)
        try simp only [Act.put, List.setIfInBounds_toArray, List.set_cons_zero, List.set_cons_succ]
        refine wpAnyH_take (i := 10) (oi := ({ dst := some 16, op := Op.load 3 (Operand.tmp 1), type := 3, pos := "score.go:31", after := #[{ on := 5, ground := Ground.guard }], guard := some (5, false) } : Oper)) (v := ?vd9) rfl (by kernel_rfl) (by kernel_rfl) (by kernel_rfl) (fun _ _ _ h => h) (Or.inl ⟨by rfl, ?hd9⟩) hS1 ?_
        case hd9 => (intro w hSw; have q0 := hSw.1.1; have qn := hSw.2.1; have q8 := hSw.2.2; go_simp; try with_reducible rfl)
        try simp only [Act.put, List.setIfInBounds_toArray, List.set_cons_zero, List.set_cons_succ]
        refine wpAnyH_take (i := 11) (oi := ({ dst := some 17, op := Op.binOp BinOp.gtr 3 (Operand.tmp 15) (Operand.tmp 16) 3, type := 4, pos := "score.go:31", after := #[{ on := 9, ground := Ground.data }, { on := 10, ground := Ground.data }, { on := 5, ground := Ground.guard }], guard := some (5, false) } : Oper)) (v := ?vd10) rfl (by kernel_rfl) (by kernel_rfl) (by kernel_rfl) (fun _ _ _ h => h) (Or.inl ⟨by rfl, ?hd10⟩) hS1 ?_
        case hd10 => (intro w hSw; have q0 := hSw.1.1; have qn := hSw.2.1; have q8 := hSw.2.2; go_simp; try with_reducible rfl)
        try simp only [Act.put, List.setIfInBounds_toArray, List.set_cons_zero, List.set_cons_succ]
        refine wpAnyH_take (i := 12) (oi := ({ dst := some 18, op := Op.move (Operand.tmp 17), type := 4, pos := "score.go:31", after := #[{ on := 11, ground := Ground.data }, { on := 5, ground := Ground.chain }, { on := 5, ground := Ground.guard }], guard := some (5, false) } : Oper)) (v := ?vd11) rfl (by kernel_rfl) (by kernel_rfl) (by kernel_rfl) (fun _ _ _ h => h) (Or.inl ⟨by rfl, ?hd11⟩) hS1 ?_
        case hd11 => (intro w hSw; have q0 := hSw.1.1; have qn := hSw.2.1; have q8 := hSw.2.2; go_simp; try with_reducible rfl)
        try simp only [Act.put, List.setIfInBounds_toArray, List.set_cons_zero, List.set_cons_succ]
        refine wpAnyH_take (i := 13) (oi := ({ dst := some 19, op := Op.fieldAddr 42 (Operand.tmp 2) 8, type := 0, pos := "score.go:31", after := #[{ on := 12, ground := Ground.guard }], guard := some (12, true) } : Oper)) (v := ?vd12) rfl (by kernel_rfl) (by kernel_rfl) (by kernel_rfl) (fun _ _ _ h => h) (Or.inl ⟨by rfl, ?hd12⟩) hS1 ?_
        case hd12 => (intro w hSw; have q0 := hSw.1.1; have qn := hSw.2.1; have q8 := hSw.2.2; go_simp; try with_reducible rfl)
        try simp only [Act.put, List.setIfInBounds_toArray, List.set_cons_zero, List.set_cons_succ]
        refine wpAnyH_take (i := 14) (oi := ({ dst := some 20, op := Op.load 39 (Operand.tmp 19), type := 39, pos := "score.go:31", after := #[{ on := 13, ground := Ground.data }, { on := 12, ground := Ground.guard }], guard := some (12, true) } : Oper)) (v := ?vd13) rfl (by kernel_rfl) (by kernel_rfl) (by kernel_rfl) (fun _ _ _ h => h) (Or.inl ⟨by rfl, ?hd13⟩) hS1 ?_
        case hd13 => (intro w hSw; have q0 := hSw.1.1; have qn := hSw.2.1; have q8 := hSw.2.2; go_simp; try with_reducible rfl)
        try simp only [Act.put, List.setIfInBounds_toArray, List.set_cons_zero, List.set_cons_succ]
        refine wpAnyH_take (i := 15) (oi := ({ dst := some 21, op := Op.move (Operand.tmp 0), type := 71, pos := "score.go:31", after := #[{ on := 12, ground := Ground.guard }], guard := some (12, true) } : Oper)) (v := ?vd14) rfl (by kernel_rfl) (by kernel_rfl) (by kernel_rfl) (fun _ _ _ h => h) (Or.inl ⟨by rfl, ?hd14⟩) hS1 ?_
        case hd14 => (intro w hSw; have q0 := hSw.1.1; have qn := hSw.2.1; have q8 := hSw.2.2; go_simp; try with_reducible rfl)
        try simp only [Act.put, List.setIfInBounds_toArray, List.set_cons_zero, List.set_cons_succ]
        refine wpAnyH_take (i := 16) (oi := ({ dst := some 22, op := Op.nilCheck (Operand.tmp 21), type := 0, pos := "score.go:31", after := #[{ on := 15, ground := Ground.data }, { on := 12, ground := Ground.guard }], guard := some (12, true) } : Oper)) (v := ?vd15) rfl (by kernel_rfl) (by kernel_rfl) (by kernel_rfl) (fun _ _ _ h => h) (Or.inl ⟨by rfl, ?hd15⟩) hS1 ?_
        case hd15 => (intro w hSw; have q0 := hSw.1.1; have qn := hSw.2.1; have q8 := hSw.2.2; go_simp; try with_reducible rfl)
        try simp only [Act.put, List.setIfInBounds_toArray, List.set_cons_zero, List.set_cons_succ]
        refine wpAnyH_take (i := 17) (oi := ({ dst := some 23, op := Op.fieldAddr 53 (Operand.tmp 22) 0, type := 0, pos := "score.go:31", after := #[{ on := 16, ground := Ground.data }, { on := 12, ground := Ground.guard }], guard := some (12, true) } : Oper)) (v := ?vd16) rfl (by kernel_rfl) (by kernel_rfl) (by kernel_rfl) (fun _ _ _ h => h) (Or.inl ⟨by rfl, ?hd16⟩) hS1 ?_
        case hd16 => (intro w hSw; have q0 := hSw.1.1; have qn := hSw.2.1; have q8 := hSw.2.2; go_simp; try with_reducible rfl)
        try simp only [Act.put, List.setIfInBounds_toArray, List.set_cons_zero, List.set_cons_succ]
        refine wpAnyH_take (i := 18) (oi := ({ dst := some 24, op := Op.load 3 (Operand.tmp 23), type := 3, pos := "score.go:31", after := #[{ on := 17, ground := Ground.data }, { on := 12, ground := Ground.guard }], guard := some (12, true) } : Oper)) (v := ?vd17) rfl (by kernel_rfl) (by kernel_rfl) (by kernel_rfl) (fun _ _ _ h => h) (Or.inl ⟨by rfl, ?hd17⟩) hS1 ?_
        case hd17 => (intro w hSw; have q0 := hSw.1.1; have qn := hSw.2.1; have q8 := hSw.2.2; go_simp; try with_reducible rfl)
        try simp only [Act.put, List.setIfInBounds_toArray, List.set_cons_zero, List.set_cons_succ]
        refine wpAnyH_take (i := 19) (oi := ({ dst := some 25, op := Op.load 3 (Operand.tmp 1), type := 3, pos := "score.go:31", after := #[{ on := 12, ground := Ground.guard }], guard := some (12, true) } : Oper)) (v := ?vd18) rfl (by kernel_rfl) (by kernel_rfl) (by kernel_rfl) (fun _ _ _ h => h) (Or.inl ⟨by rfl, ?hd18⟩) hS1 ?_
        case hd18 => (intro w hSw; have q0 := hSw.1.1; have qn := hSw.2.1; have q8 := hSw.2.2; go_simp; try with_reducible rfl)
        try simp only [Act.put, List.setIfInBounds_toArray, List.set_cons_zero, List.set_cons_succ]
        refine wpAnyH_take (i := 20) (oi := ({ dst := some 26, op := Op.binOp BinOp.sub 3 (Operand.tmp 24) (Operand.tmp 25) 3, type := 3, pos := "score.go:31", after := #[{ on := 18, ground := Ground.data }, { on := 19, ground := Ground.data }, { on := 12, ground := Ground.guard }], guard := some (12, true) } : Oper)) (v := ?vd19) rfl (by kernel_rfl) (by kernel_rfl) (by kernel_rfl) (fun _ _ _ h => h) (Or.inl ⟨by rfl, ?hd19⟩) hS1 ?_
        case hd19 => (intro w hSw; have q0 := hSw.1.1; have qn := hSw.2.1; have q8 := hSw.2.2; go_simp; try with_reducible rfl)
        try simp only [Act.put, List.setIfInBounds_toArray, List.set_cons_zero, List.set_cons_succ]
        refine wpAnyH_ready (rs := [21]) (by kernel_rfl) (by simp) ?_
        refine AllReadyH.cons (o := ({ dst := some 27, op := Op.call { callee := Callee.value (Operand.func 41), args := #[Operand.tmp 20, Operand.tmp 26], argTypes := #[39, 3] }, type := 4, pos := "score.go:31", after := #[{ on := 14, ground := Ground.data }, { on := 20, ground := Ground.data }, { on := 12, ground := Ground.chain }, { on := 12, ground := Ground.guard }], guard := some (12, true) } : Oper)) rfl (fun K hK => ?_) AllReadyH.nil
        refine step_call2w (by rfl) 41 (.tmp 20) (.tmp 26) #[39, 3] rfl _ _ rfl rfl rfl enters_has _ (HC _ B1) ?_
        rintro _ w2 ⟨rfl, B2⟩
        refine hK.out _ _ (KX _ B2) (fun hS2 => ?_)
        clear hK K
        try simp only [Act.put, List.setIfInBounds_toArray, List.set_cons_zero, List.set_cons_succ]
        refine wpAnyH_take (i := 22) (oi := ({ dst := some 28, op := Op.unOp UnOp.not 4 (Operand.tmp 27), type := 4, pos := "score.go:31", after := #[{ on := 21, ground := Ground.data }, { on := 12, ground := Ground.guard }], guard := some (12, true) } : Oper)) (v := ?vd20) rfl (by kernel_rfl) (by kernel_rfl) (by kernel_rfl) (fun _ _ _ h => h) (Or.inl ⟨by rfl, ?hd20⟩) hS2 ?_
        case hd20 => (intro w hSw; go_simp; try with_reducible rfl)
        try simp only [Act.put, List.setIfInBounds_toArray, List.set_cons_zero, List.set_cons_succ]
        refine wpAnyH_take (i := 23) (oi := ({ dst := some 29, op := Op.pick (Operand.tmp 18) (Operand.tmp 28) (Operand.const (Value.bool false)), type := 4, pos := "score.go:31", after := #[{ on := 12, ground := Ground.data }, { on := 22, ground := Ground.data }, { on := 5, ground := Ground.guard }], guard := some (5, false) } : Oper)) (v := ?vd21) rfl (by kernel_rfl) (by kernel_rfl) (by kernel_rfl) (fun _ _ _ h => h) (Or.inl ⟨by rfl, ?hd21⟩) hS2 ?_
        case hd21 => (intro w hSw; go_simp; try with_reducible rfl)
        try simp only [Act.put, List.setIfInBounds_toArray, List.set_cons_zero, List.set_cons_succ]
        refine wpAnyH_take (i := 24) (oi := ({ dst := some 30, op := Op.pick (Operand.tmp 11) (Operand.const (Value.bool true)) (Operand.tmp 29), type := 4, pos := "score.go:31", after := #[{ on := 5, ground := Ground.data }, { on := 23, ground := Ground.data }], guard := none } : Oper)) (v := ?vd22) rfl (by kernel_rfl) (by kernel_rfl) (by kernel_rfl) (fun _ _ _ h => h) (Or.inl ⟨by rfl, ?hd22⟩) hS2 ?_
        case hd22 => (intro w hSw; go_simp; try with_reducible rfl)
        try simp only [Act.put, List.setIfInBounds_toArray, List.set_cons_zero, List.set_cons_succ]
        refine wpAnyH_done (by kernel_rfl) ?_ _
        go_wp2_with fail
        refine bodyPost_ret (v := .tuple #[]) (by simp [results, Try.results39, go_sem]) rfl ?_
        exact ⟨⟨_, rfl⟩, (HN _ B2).out⟩
      | true =>
        have HNW : Hid (newsM n sp x = true) := by show _ = _; rw [newsM, hw, hereM, hh]; simp
        rw [hh] at HC
        clear hat HNO
        generalize hoff : k * 20 = off at *
        go_enter Try.func39, Try.ntmps39
        go_wp2_with fail
        refine wp_region_held_drew (S := (fun w' => SnAt w' g off x (.slice da x.ck.data.length dc) (.slice sa x.ck.spans.length sc) (.slice qa x.ck.skips.length qc) ∧ w'.cell? ⟨N, 0, none⟩ = some (.int .i64 n) ∧ w'.cell? ⟨C, 8, none⟩ = some (.slice spa sp.length spc))) (by kernel_rfl) (KX _ (drew_below _ _)) (fun hS0 => ?_)
        refine wpAnyH_take (i := 0) (oi := ({ dst := some 6, op := Op.move (Operand.tmp 0), type := 71, pos := "score.go:31", after := #[], guard := none } : Oper)) (v := ?vc1) rfl (by kernel_rfl) (by kernel_rfl) (by kernel_rfl) (fun _ _ _ h => h) (Or.inl ⟨by rfl, ?hc1⟩) hS0 ?_
        case hc1 => (intro w hSw; go_simp; try with_reducible rfl)
        try simp only [Act.put, List.setIfInBounds_toArray, List.set_cons_zero, List.set_cons_succ]
        refine wpAnyH_take (i := 1) (oi := ({ dst := some 7, op := Op.nilCheck (Operand.tmp 6), type := 0, pos := "score.go:31", after := #[{ on := 0, ground := Ground.data }], guard := none } : Oper)) (v := ?vc2) rfl (by kernel_rfl) (by kernel_rfl) (by kernel_rfl) (fun _ _ _ h => h) (Or.inl ⟨by rfl, ?hc2⟩) hS0 ?_
        case hc2 => (intro w hSw; go_simp; try with_reducible rfl)
        try simp only [Act.put, List.setIfInBounds_toArray, List.set_cons_zero, List.set_cons_succ]
        refine wpAnyH_take (i := 2) (oi := ({ dst := some 8, op := Op.load 53 (Operand.tmp 7), type := 53, pos := "score.go:31", after := #[{ on := 1, ground := Ground.data }], guard := none } : Oper)) rfl (by kernel_rfl) (by kernel_rfl) (by kernel_rfl) (fun _ _ _ h => h) (yieldsIf_load_mid (by rfl) 53 (.tmp 7) rfl g off rfl [.int .i64 x.number, .int .i64 x.id, .int .i64 x.state, .int .i64 x.path, .int .i64 x.missed, .int .i64 x.times, .int .i64 x.came, .int .i64 x.life, .int .i64 x.tries, .int .i64 x.ck.kind, .int .i64 x.ck.tag, .int .i64 x.ck.stream, .int .i64 x.ck.mid, .int .i64 x.ck.part, .bool x.ck.last, .bool x.ck.ordered, .slice da x.ck.data.length dc, .slice sa x.ck.spans.length sc, .int .i64 x.ck.room, .slice qa x.ck.skips.length qc] _ (fun w h => h.1.range) Try.underlying53 rfl Try.sizeSn) hS0 ?_
        try simp only [Act.put, List.setIfInBounds_toArray, List.set_cons_zero, List.set_cons_succ]
        refine wpAnyH_ready (rs := [3]) (by kernel_rfl) (by simp) ?_
        refine AllReadyH.cons (o := ({ dst := some 9, op := Op.call { callee := Callee.value (Operand.func 40), args := #[Operand.tmp 8], argTypes := #[53] }, type := 4, pos := "score.go:31", after := #[{ on := 2, ground := Ground.data }], guard := none } : Oper)) rfl (fun K hK => ?_) AllReadyH.nil
        refine step_call1 rfl 40 (.tmp 8) 53 rfl _ rfl rfl enters_waited _ (IC _ (drew_below _ _)) ?_
        rintro _ w1 ⟨rfl, B1⟩
        refine hK.out _ _ (KX _ B1) (fun hS1 => ?_)
        clear hK K
        try simp only [Act.put, List.setIfInBounds_toArray, List.set_cons_zero, List.set_cons_succ]
        refine wpAnyH_take (i := 4) (oi := ({ dst := some 10, op := Op.unOp UnOp.not 4 (Operand.tmp 9), type := 4, pos := "score.go:31", after := #[{ on := 3, ground := Ground.data }], guard := none } : Oper)) (v := ?vc3) rfl (by kernel_rfl) (by kernel_rfl) (by kernel_rfl) (fun _ _ _ h => h) (Or.inl ⟨by rfl, ?hc3⟩) hS1 ?_
        case hc3 => (intro w hSw; go_simp; try with_reducible rfl)
        try simp only [Act.put, List.setIfInBounds_toArray, List.set_cons_zero, List.set_cons_succ]
        refine wpAnyH_take (i := 5) (oi := ({ dst := some 11, op := Op.move (Operand.tmp 10), type := 4, pos := "score.go:31", after := #[{ on := 4, ground := Ground.data }, { on := 3, ground := Ground.chain }], guard := none } : Oper)) (v := ?vc4) rfl (by kernel_rfl) (by kernel_rfl) (by kernel_rfl) (fun _ _ _ h => h) (Or.inl ⟨by rfl, ?hc4⟩) hS1 ?_
        case hc4 => (intro w hSw; go_simp; try with_reducible rfl)
        try simp only [Act.put, List.setIfInBounds_toArray, List.set_cons_zero, List.set_cons_succ]
        refine wpAnyH_take (i := 6) (oi := ({ dst := some 12, op := Op.move (Operand.tmp 0), type := 71, pos := "score.go:31", after := #[{ on := 5, ground := Ground.guard }], guard := some (5, false) } : Oper)) (v := ?vc5) rfl (by kernel_rfl) (by kernel_rfl) (by kernel_rfl) (fun _ _ _ h => h) (Or.inl ⟨by rfl, ?hc5⟩) hS1 ?_
        case hc5 => (intro w hSw; have q0 := hSw.1.1; have qn := hSw.2.1; have q8 := hSw.2.2; go_simp; try with_reducible rfl)
        try simp only [Act.put, List.setIfInBounds_toArray, List.set_cons_zero, List.set_cons_succ]
        refine wpAnyH_take (i := 7) (oi := ({ dst := some 13, op := Op.nilCheck (Operand.tmp 12), type := 0, pos := "score.go:31", after := #[{ on := 6, ground := Ground.data }, { on := 5, ground := Ground.guard }], guard := some (5, false) } : Oper)) (v := ?vc6) rfl (by kernel_rfl) (by kernel_rfl) (by kernel_rfl) (fun _ _ _ h => h) (Or.inl ⟨by rfl, ?hc6⟩) hS1 ?_
        case hc6 => (intro w hSw; have q0 := hSw.1.1; have qn := hSw.2.1; have q8 := hSw.2.2; go_simp; try with_reducible rfl)
        try simp only [Act.put, List.setIfInBounds_toArray, List.set_cons_zero, List.set_cons_succ]
        refine wpAnyH_take (i := 8) (oi := ({ dst := some 14, op := Op.fieldAddr 53 (Operand.tmp 13) 0, type := 0, pos := "score.go:31", after := #[{ on := 7, ground := Ground.data }, { on := 5, ground := Ground.guard }], guard := some (5, false) } : Oper)) (v := ?vc7) rfl (by kernel_rfl) (by kernel_rfl) (by kernel_rfl) (fun _ _ _ h => h) (Or.inl ⟨by rfl, ?hc7⟩) hS1 ?_
        case hc7 => (intro w hSw; have q0 := hSw.1.1; have qn := hSw.2.1; have q8 := hSw.2.2; go_simp; try with_reducible rfl)
        try simp only [Act.put, List.setIfInBounds_toArray, List.set_cons_zero, List.set_cons_succ]
        refine wpAnyH_take (i := 9) (oi := ({ dst := some 15, op := Op.load 3 (Operand.tmp 14), type := 3, pos := "score.go:31", after := #[{ on := 8, ground := Ground.data }, { on := 5, ground := Ground.guard }], guard := some (5, false) } : Oper)) (v := ?vc8) rfl (by kernel_rfl) (by kernel_rfl) (by kernel_rfl) (fun _ _ _ h => h) (Or.inl ⟨by rfl, ?hc8⟩) hS1 ?_
        case hc8 => (intro w hSw; have q0 := hSw.1.1; have qn := hSw.2.1; have q8 := hSw.2.2; go_simp; try with_reducible rfl)
        try simp only [Act.put, List.setIfInBounds_toArray, List.set_cons_zero, List.set_cons_succ]
        refine wpAnyH_take (i := 10) (oi := ({ dst := some 16, op := Op.load 3 (Operand.tmp 1), type := 3, pos := "score.go:31", after := #[{ on := 5, ground := Ground.guard }], guard := some (5, false) } : Oper)) (v := ?vc9) rfl (by kernel_rfl) (by kernel_rfl) (by kernel_rfl) (fun _ _ _ h => h) (Or.inl ⟨by rfl, ?hc9⟩) hS1 ?_
        case hc9 => (intro w hSw; have q0 := hSw.1.1; have qn := hSw.2.1; have q8 := hSw.2.2; go_simp; try with_reducible rfl)
        try simp only [Act.put, List.setIfInBounds_toArray, List.set_cons_zero, List.set_cons_succ]
        refine wpAnyH_take (i := 11) (oi := ({ dst := some 17, op := Op.binOp BinOp.gtr 3 (Operand.tmp 15) (Operand.tmp 16) 3, type := 4, pos := "score.go:31", after := #[{ on := 9, ground := Ground.data }, { on := 10, ground := Ground.data }, { on := 5, ground := Ground.guard }], guard := some (5, false) } : Oper)) (v := ?vc10) rfl (by kernel_rfl) (by kernel_rfl) (by kernel_rfl) (fun _ _ _ h => h) (Or.inl ⟨by rfl, ?hc10⟩) hS1 ?_
        case hc10 => (intro w hSw; have q0 := hSw.1.1; have qn := hSw.2.1; have q8 := hSw.2.2; go_simp; try with_reducible rfl)
        try simp only [Act.put, List.setIfInBounds_toArray, List.set_cons_zero, List.set_cons_succ]
        refine wpAnyH_take (i := 12) (oi := ({ dst := some 18, op := Op.move (Operand.tmp 17), type := 4, pos := "score.go:31", after := #[{ on := 11, ground := Ground.data }, { on := 5, ground := Ground.chain }, { on := 5, ground := Ground.guard }], guard := some (5, false) } : Oper)) (v := ?vc11) rfl (by kernel_rfl) (by kernel_rfl) (by kernel_rfl) (fun _ _ _ h => h) (Or.inl ⟨by rfl, ?hc11⟩) hS1 ?_
        case hc11 => (intro w hSw; have q0 := hSw.1.1; have qn := hSw.2.1; have q8 := hSw.2.2; go_simp; try with_reducible rfl)
        try simp only [Act.put, List.setIfInBounds_toArray, List.set_cons_zero, List.set_cons_succ]
        refine wpAnyH_take (i := 13) (oi := ({ dst := some 19, op := Op.fieldAddr 42 (Operand.tmp 2) 8, type := 0, pos := "score.go:31", after := #[{ on := 12, ground := Ground.guard }], guard := some (12, true) } : Oper)) (v := ?vc12) rfl (by kernel_rfl) (by kernel_rfl) (by kernel_rfl) (fun _ _ _ h => h) (Or.inl ⟨by rfl, ?hc12⟩) hS1 ?_
        case hc12 => (intro w hSw; have q0 := hSw.1.1; have qn := hSw.2.1; have q8 := hSw.2.2; go_simp; try with_reducible rfl)
        try simp only [Act.put, List.setIfInBounds_toArray, List.set_cons_zero, List.set_cons_succ]
        refine wpAnyH_take (i := 14) (oi := ({ dst := some 20, op := Op.load 39 (Operand.tmp 19), type := 39, pos := "score.go:31", after := #[{ on := 13, ground := Ground.data }, { on := 12, ground := Ground.guard }], guard := some (12, true) } : Oper)) (v := ?vc13) rfl (by kernel_rfl) (by kernel_rfl) (by kernel_rfl) (fun _ _ _ h => h) (Or.inl ⟨by rfl, ?hc13⟩) hS1 ?_
        case hc13 => (intro w hSw; have q0 := hSw.1.1; have qn := hSw.2.1; have q8 := hSw.2.2; go_simp; try with_reducible rfl)
        try simp only [Act.put, List.setIfInBounds_toArray, List.set_cons_zero, List.set_cons_succ]
        refine wpAnyH_take (i := 15) (oi := ({ dst := some 21, op := Op.move (Operand.tmp 0), type := 71, pos := "score.go:31", after := #[{ on := 12, ground := Ground.guard }], guard := some (12, true) } : Oper)) (v := ?vc14) rfl (by kernel_rfl) (by kernel_rfl) (by kernel_rfl) (fun _ _ _ h => h) (Or.inl ⟨by rfl, ?hc14⟩) hS1 ?_
        case hc14 => (intro w hSw; have q0 := hSw.1.1; have qn := hSw.2.1; have q8 := hSw.2.2; go_simp; try with_reducible rfl)
        try simp only [Act.put, List.setIfInBounds_toArray, List.set_cons_zero, List.set_cons_succ]
        refine wpAnyH_take (i := 16) (oi := ({ dst := some 22, op := Op.nilCheck (Operand.tmp 21), type := 0, pos := "score.go:31", after := #[{ on := 15, ground := Ground.data }, { on := 12, ground := Ground.guard }], guard := some (12, true) } : Oper)) (v := ?vc15) rfl (by kernel_rfl) (by kernel_rfl) (by kernel_rfl) (fun _ _ _ h => h) (Or.inl ⟨by rfl, ?hc15⟩) hS1 ?_
        case hc15 => (intro w hSw; have q0 := hSw.1.1; have qn := hSw.2.1; have q8 := hSw.2.2; go_simp; try with_reducible rfl)
        try simp only [Act.put, List.setIfInBounds_toArray, List.set_cons_zero, List.set_cons_succ]
        refine wpAnyH_take (i := 17) (oi := ({ dst := some 23, op := Op.fieldAddr 53 (Operand.tmp 22) 0, type := 0, pos := "score.go:31", after := #[{ on := 16, ground := Ground.data }, { on := 12, ground := Ground.guard }], guard := some (12, true) } : Oper)) (v := ?vc16) rfl (by kernel_rfl) (by kernel_rfl) (by kernel_rfl) (fun _ _ _ h => h) (Or.inl ⟨by rfl, ?hc16⟩) hS1 ?_
        case hc16 => (intro w hSw; have q0 := hSw.1.1; have qn := hSw.2.1; have q8 := hSw.2.2; go_simp; try with_reducible rfl)
        try simp only [Act.put, List.setIfInBounds_toArray, List.set_cons_zero, List.set_cons_succ]
        refine wpAnyH_take (i := 18) (oi := ({ dst := some 24, op := Op.load 3 (Operand.tmp 23), type := 3, pos := "score.go:31", after := #[{ on := 17, ground := Ground.data }, { on := 12, ground := Ground.guard }], guard := some (12, true) } : Oper)) (v := ?vc17) rfl (by kernel_rfl) (by kernel_rfl) (by kernel_rfl) (fun _ _ _ h => h) (Or.inl ⟨by rfl, ?hc17⟩) hS1 ?_
        case hc17 => (intro w hSw; have q0 := hSw.1.1; have qn := hSw.2.1; have q8 := hSw.2.2; go_simp; try with_reducible rfl)
        try simp only [Act.put, List.setIfInBounds_toArray, List.set_cons_zero, List.set_cons_succ]
        refine wpAnyH_take (i := 19) (oi := ({ dst := some 25, op := Op.load 3 (Operand.tmp 1), type := 3, pos := "score.go:31", after := #[{ on := 12, ground := Ground.guard }], guard := some (12, true) } : Oper)) (v := ?vc18) rfl (by kernel_rfl) (by kernel_rfl) (by kernel_rfl) (fun _ _ _ h => h) (Or.inl ⟨by rfl, ?hc18⟩) hS1 ?_
        case hc18 => (intro w hSw; have q0 := hSw.1.1; have qn := hSw.2.1; have q8 := hSw.2.2; go_simp; try with_reducible rfl)
        try simp only [Act.put, List.setIfInBounds_toArray, List.set_cons_zero, List.set_cons_succ]
        refine wpAnyH_take (i := 20) (oi := ({ dst := some 26, op := Op.binOp BinOp.sub 3 (Operand.tmp 24) (Operand.tmp 25) 3, type := 3, pos := "score.go:31", after := #[{ on := 18, ground := Ground.data }, { on := 19, ground := Ground.data }, { on := 12, ground := Ground.guard }], guard := some (12, true) } : Oper)) (v := ?vc19) rfl (by kernel_rfl) (by kernel_rfl) (by kernel_rfl) (fun _ _ _ h => h) (Or.inl ⟨by rfl, ?hc19⟩) hS1 ?_
        case hc19 => (intro w hSw; have q0 := hSw.1.1; have qn := hSw.2.1; have q8 := hSw.2.2; go_simp; try with_reducible rfl)
        try simp only [Act.put, List.setIfInBounds_toArray, List.set_cons_zero, List.set_cons_succ]
        refine wpAnyH_ready (rs := [21]) (by kernel_rfl) (by simp) ?_
        refine AllReadyH.cons (o := ({ dst := some 27, op := Op.call { callee := Callee.value (Operand.func 41), args := #[Operand.tmp 20, Operand.tmp 26], argTypes := #[39, 3] }, type := 4, pos := "score.go:31", after := #[{ on := 14, ground := Ground.data }, { on := 20, ground := Ground.data }, { on := 12, ground := Ground.chain }, { on := 12, ground := Ground.guard }], guard := some (12, true) } : Oper)) rfl (fun K hK => ?_) AllReadyH.nil
        refine step_call2w (by rfl) 41 (.tmp 20) (.tmp 26) #[39, 3] rfl _ _ rfl rfl rfl enters_has _ (HC _ B1) ?_
        rintro _ w2 ⟨rfl, B2⟩
        refine hK.out _ _ (KX _ B2) (fun hS2 => ?_)
        clear hK K
        try simp only [Act.put, List.setIfInBounds_toArray, List.set_cons_zero, List.set_cons_succ]
        refine wpAnyH_take (i := 22) (oi := ({ dst := some 28, op := Op.unOp UnOp.not 4 (Operand.tmp 27), type := 4, pos := "score.go:31", after := #[{ on := 21, ground := Ground.data }, { on := 12, ground := Ground.guard }], guard := some (12, true) } : Oper)) (v := ?vc20) rfl (by kernel_rfl) (by kernel_rfl) (by kernel_rfl) (fun _ _ _ h => h) (Or.inl ⟨by rfl, ?hc20⟩) hS2 ?_
        case hc20 => (intro w hSw; go_simp; try with_reducible rfl)
        try simp only [Act.put, List.setIfInBounds_toArray, List.set_cons_zero, List.set_cons_succ]
        refine wpAnyH_take (i := 23) (oi := ({ dst := some 29, op := Op.pick (Operand.tmp 18) (Operand.tmp 28) (Operand.const (Value.bool false)), type := 4, pos := "score.go:31", after := #[{ on := 12, ground := Ground.data }, { on := 22, ground := Ground.data }, { on := 5, ground := Ground.guard }], guard := some (5, false) } : Oper)) (v := ?vc21) rfl (by kernel_rfl) (by kernel_rfl) (by kernel_rfl) (fun _ _ _ h => h) (Or.inl ⟨by rfl, ?hc21⟩) hS2 ?_
        case hc21 => (intro w hSw; go_simp; try with_reducible rfl)
        try simp only [Act.put, List.setIfInBounds_toArray, List.set_cons_zero, List.set_cons_succ]
        refine wpAnyH_take (i := 24) (oi := ({ dst := some 30, op := Op.pick (Operand.tmp 11) (Operand.const (Value.bool true)) (Operand.tmp 29), type := 4, pos := "score.go:31", after := #[{ on := 5, ground := Ground.data }, { on := 23, ground := Ground.data }], guard := none } : Oper)) (v := ?vc22) rfl (by kernel_rfl) (by kernel_rfl) (by kernel_rfl) (fun _ _ _ h => h) (Or.inl ⟨by rfl, ?hc22⟩) hS2 ?_
        case hc22 => (intro w hSw; go_simp; try with_reducible rfl)
        try simp only [Act.put, List.setIfInBounds_toArray, List.set_cons_zero, List.set_cons_succ]
        refine wpAnyH_done (by kernel_rfl) ?_ _
        obtain ⟨y0, -, y2, y3, -, -, -, -, -, -, -, -, -, -, -, -, y16, -, -, -⟩ := (KX _ B2).1
        rw [hp] at y3
        have JY := JB _ B2
        have KY : Keep (fun b => b < wx.heap.size ∧ b ≠ g ∧ b ≠ H ∧ b ≠ Z) wx w2 := ⟨B2.os, B2.tape, B2.output, B2.size, fun i hi => B2.block i hi.1⟩
        have fY : ∀ j, w2.frozen? ⟨g, j, none⟩ = false := fun j => (B2.frozen (p := ⟨g, j, none⟩) hgl).trans (hfz j)
        have oY : ∀ j, w2.cell? ⟨g, j, none⟩ = wx.cell? ⟨g, j, none⟩ := fun j => B2.cell (p := ⟨g, j, none⟩) hgl
        have z2 := fY (off + 2)
        go_wp2_with fail
        have a0 : (w2.setCell ⟨g, off + 2, none⟩ (.int .i64 2)).cell? ⟨g, off, none⟩ = some (.int .i64 x.number) := by rw [cell_oth (.inr (by omega))]; exact y0
        have a3 : (w2.setCell ⟨g, off + 2, none⟩ (.int .i64 2)).cell? ⟨g, off + 3, none⟩ = some (.int .i64 (p : Int)) := by rw [cell_oth (.inr (by omega))]; exact y3
        have a16 : (w2.setCell ⟨g, off + 2, none⟩ (.int .i64 2)).cell? ⟨g, off + 16, none⟩ = some (.slice da x.ck.data.length dc) := by rw [cell_oth (.inr (by omega))]; exact y16
        have aH : (w2.setCell ⟨g, off + 2, none⟩ (.int .i64 2)).cell? ⟨H, 0, none⟩ = some (.int .i64 (hiM n sp n (l.take k))) := by rw [cell_oth (.inl (by omega))]; exact JY.ch
        have afH : (w2.setCell ⟨g, off + 2, none⟩ (.int .i64 2)).frozen? ⟨H, 0, none⟩ = false := by simpa using JY.fh
        have aM : (w2.setCell ⟨g, off + 2, none⟩ (.int .i64 2)).cell? ⟨M, 0, none⟩ = some (.slice (some ⟨Z, 0, none⟩) paths paths) := by rw [cell_oth (.inl (by omega))]; exact JY.cm
        have aZ := JY.cz.past (Y := g) (off + 2) (.int .i64 2) (by omega)
        have aK := KY.setCell (p := ⟨g, off + 2, none⟩) (fun h => h.2.1 rfl) (.int .i64 2)
        have af : ∀ j, (w2.setCell ⟨g, off + 2, none⟩ (.int .i64 2)).frozen? ⟨g, j, none⟩ = false := fun j => by simpa using fY j
        have ao : ∀ j, j ≠ off + 2 → (w2.setCell ⟨g, off + 2, none⟩ (.int .i64 2)).cell? ⟨g, j, none⟩ = wx.cell? ⟨g, j, none⟩ := fun j hj => by rw [cell_oth (.inr (by omega))]; exact oY j
        have a2 : (w2.setCell ⟨g, off + 2, none⟩ (.int .i64 2)).cell? ⟨g, off + 2, none⟩ = some (.int .i64 2) := World.cell?_setCell_same' _ _ _ (by rw [y2]; rfl)
        generalize (w2.setCell ⟨g, off + 2, none⟩ (.int .i64 2)) = wa at *
        have HHI : Hid (hiS n sp (hiM n sp n (l.take k)) x = if hiM n sp n (l.take k) < x.number then x.number else hiM n sp n (l.take k)) := by show _ = _; rw [hiS, if_pos HNW.out]; split <;> omega
        have HCM : Hid (comeS n sp (comeM n sp (List.replicate paths 0) (l.take k)) x = (comeM n sp (List.replicate paths 0) (l.take k)).set p (wrap64 ((comeM n sp (List.replicate paths 0) (l.take k)).getD p 0 + x.ck.data.length))) := by
          show _ = _
          rw [comeS, if_pos HNW.out, hp, addAt, if_pos (by rw [comeM_len]; simp; omega), Int.toNat_natCast]
        have HLN : Hid ((comeM n sp (List.replicate paths 0) (l.take k)).length = paths) := by show _ = _; rw [comeM_len]; simp
        have HST : Hid ((arrM n sp x).state = 2) := by show _ = _; rw [arrM, if_pos HNW.out]; rfl
        generalize hhi : hiM n sp n (l.take k) = hi at *
        generalize hzs : comeM n sp (List.replicate paths 0) (l.take k) = zs at *
        have H1 : Hid (hiM n sp n (l.take k) = hi) := hhi
        have H2 : Hid (comeM n sp (List.replicate paths 0) (l.take k) = zs) := hzs
        clear hhi hzs
        have hpz : p < zs.length := by rw [HLN.out]; exact hpp
        clear y0 y2 y3 y16 z2 fY oY KY JY KX IC HC
        refine wp_region_held_drew (S := (fun w' => w'.cell? ⟨g, off, none⟩ = some (.int .i64 x.number))) (by kernel_rfl) (show _ from a0) (fun hS0 => ?_)
        refine wpAnyH_take (i := 1) (oi := ({ dst := some 35, op := Op.move (Operand.tmp 0), type := 71, pos := "score.go:35", after := #[], guard := none } : Oper)) (v := ?vcx1) rfl (by kernel_rfl) (by kernel_rfl) (by kernel_rfl) (fun _ _ _ h => h) (Or.inl ⟨by rfl, ?hcx1⟩) hS0 ?_
        case hcx1 => (intro w hSw; go_simp; try with_reducible rfl)
        try simp only [Act.put, List.setIfInBounds_toArray, List.set_cons_zero, List.set_cons_succ]
        refine wpAnyH_take (i := 2) (oi := ({ dst := some 36, op := Op.nilCheck (Operand.tmp 35), type := 0, pos := "score.go:35", after := #[{ on := 1, ground := Ground.data }], guard := none } : Oper)) (v := ?vcx2) rfl (by kernel_rfl) (by kernel_rfl) (by kernel_rfl) (fun _ _ _ h => h) (Or.inl ⟨by rfl, ?hcx2⟩) hS0 ?_
        case hcx2 => (intro w hSw; go_simp; try with_reducible rfl)
        try simp only [Act.put, List.setIfInBounds_toArray, List.set_cons_zero, List.set_cons_succ]
        refine wpAnyH_take (i := 3) (oi := ({ dst := some 37, op := Op.fieldAddr 53 (Operand.tmp 36) 0, type := 0, pos := "score.go:35", after := #[{ on := 2, ground := Ground.data }], guard := none } : Oper)) (v := ?vcx3) rfl (by kernel_rfl) (by kernel_rfl) (by kernel_rfl) (fun _ _ _ h => h) (Or.inl ⟨by rfl, ?hcx3⟩) hS0 ?_
        case hcx3 => (intro w hSw; go_simp; try with_reducible rfl)
        try simp only [Act.put, List.setIfInBounds_toArray, List.set_cons_zero, List.set_cons_succ]
        refine wpAnyH_take (i := 4) (oi := ({ dst := some 38, op := Op.load 3 (Operand.tmp 37), type := 3, pos := "score.go:35", after := #[{ on := 3, ground := Ground.data }], guard := none } : Oper)) (v := ?vcx4) rfl (by kernel_rfl) (by kernel_rfl) (by kernel_rfl) (fun _ _ _ h => h) (Or.inl ⟨by rfl, ?hcx4⟩) hS0 ?_
        case hcx4 => (intro w hSw; have q0 : w.cell? ⟨g, off, none⟩ = some (.int .i64 x.number) := hSw; go_simp; try with_reducible rfl)
        try simp only [Act.put, List.setIfInBounds_toArray, List.set_cons_zero, List.set_cons_succ]
        refine wpAnyH_ready (rs := [0]) (by kernel_rfl) (by simp) ?_
        refine AllReadyH.cons (o := ({ dst := some 34, op := Op.load 3 (Operand.tmp 3), type := 3, pos := "score.go:35", after := #[], guard := none } : Oper)) rfl (fun K hK => ?_) AllReadyH.nil
        refine step_ld (by rfl) 3 (.tmp 3) rfl _ rfl (.int .i64 hi) (run_ld3 (w := wa.drew) aH) ?_
        refine hK.out _ _ (show _ from a0) (fun hS1 => ?_)
        clear hK K
        try simp only [Act.put, List.setIfInBounds_toArray, List.set_cons_zero, List.set_cons_succ]
        refine wpAnyH_take (i := 5) (oi := ({ dst := some 39, op := Op.call { callee := Callee.builtin Builtin.max, args := #[Operand.tmp 34, Operand.tmp 38], argTypes := #[3, 3] }, type := 3, pos := "score.go:35", after := #[{ on := 0, ground := Ground.data }, { on := 4, ground := Ground.data }], guard := none } : Oper)) (v := ?vcx5) rfl (by kernel_rfl) (by kernel_rfl) (by kernel_rfl) (fun _ _ _ h => h) (Or.inl ⟨by rfl, ?hcx5⟩) hS1 ?_
        case hcx5 => (intro w hSw; go_simp; try with_reducible rfl)
        try simp only [Act.put, List.setIfInBounds_toArray, List.set_cons_zero, List.set_cons_succ]
        refine wpAnyH_ready (rs := [6]) (by kernel_rfl) (by simp) ?_
        refine AllReadyH.cons (o := ({ dst := none, op := Op.store 3 (Operand.tmp 3) (Operand.tmp 39), type := 0, pos := "score.go:35", after := #[{ on := 5, ground := Ground.data }, { on := 0, ground := Ground.phase }, { on := 1, ground := Ground.phase }, { on := 2, ground := Ground.phase }, { on := 3, ground := Ground.phase }, { on := 4, ground := Ground.phase }, { on := 5, ground := Ground.phase }], guard := none } : Oper)) rfl (fun K hK => ?_) AllReadyH.nil
        refine step_st (by rfl) 3 (.tmp 3) (.tmp 39) rfl _ _ rfl rfl (run_st3 (w := wa.drew) aH afH _) ?_
        refine hK.out _ _ (by rw [cell_oth (.inl (by omega))]; exact a0) (fun hS2 => ?_)
        clear hK K
        try simp only [Act.put]
        refine wpAnyH_done (by kernel_rfl) ?_ _
        rw [← HHI.out]
        generalize hhn : hiS n sp hi x = hn at *
        have H3 : Hid (hiS n sp hi x = hn) := hhn
        clear hhn
        have b3 : (wa.drew.setCell ⟨H, 0, none⟩ (.int .i64 hn)).cell? ⟨g, off + 3, none⟩ = some (.int .i64 (p : Int)) := by rw [cell_oth (.inl (by omega))]; exact a3
        have b16 : (wa.drew.setCell ⟨H, 0, none⟩ (.int .i64 hn)).cell? ⟨g, off + 16, none⟩ = some (.slice da x.ck.data.length dc) := by rw [cell_oth (.inl (by omega))]; exact a16
        have bM : (wa.drew.setCell ⟨H, 0, none⟩ (.int .i64 hn)).cell? ⟨M, 0, none⟩ = some (.slice (some ⟨Z, 0, none⟩) paths paths) := by rw [cell_oth (.inl (by omega))]; exact aM
        have bH : (wa.drew.setCell ⟨H, 0, none⟩ (.int .i64 hn)).cell? ⟨H, 0, none⟩ = some (.int .i64 hn) := World.cell?_setCell_same' _ _ _ (by show (wa.cell? _).isSome = true; rw [aH]; rfl)
        have bfH : (wa.drew.setCell ⟨H, 0, none⟩ (.int .i64 hn)).frozen? ⟨H, 0, none⟩ = false := by simpa using afH
        have bCZ : Cells Z (wa.drew.setCell ⟨H, 0, none⟩ (.int .i64 hn)) (cellsI zs) := Cells.past (w := wa.drew) ⟨aZ.cell, aZ.fz⟩ 0 _ (by omega)
        have bK := (aK.drew).setCell (p := ⟨H, 0, none⟩) (fun h => h.2.2.1 rfl) (.int .i64 hn)
        have bf : ∀ j, (wa.drew.setCell ⟨H, 0, none⟩ (.int .i64 hn)).frozen? ⟨g, j, none⟩ = false := fun j => by simpa using af j
        have bo : ∀ j, j ≠ off + 2 → (wa.drew.setCell ⟨H, 0, none⟩ (.int .i64 hn)).cell? ⟨g, j, none⟩ = wx.cell? ⟨g, j, none⟩ := fun j hj => by rw [cell_oth (.inl (by omega))]; exact ao j hj
        have b2 : (wa.drew.setCell ⟨H, 0, none⟩ (.int .i64 hn)).cell? ⟨g, off + 2, none⟩ = some (.int .i64 2) := by rw [cell_oth (.inl (by omega))]; exact a2
        generalize (wa.drew.setCell ⟨H, 0, none⟩ (.int .i64 hn)) = wb at *
        have bZ := bCZ.cell p _ (cellsI_get zs p hpz)
        have bfZ := bCZ.fz p
        have HZP : Hid (zs.getD p 0 = zs[p]) := by show _ = _; rw [List.getD_eq_getElem?_getD, List.getElem?_eq_getElem hpz]; rfl
        generalize zs[p] = zp at *
        have gp1 : decide ((0 : Int) ≤ (p : Int)) = true := by simp
        have gp2 : decide ((p : Int) < (paths : Int)) = true := decide_eq_true (by omega)
        have hix := run_int_at Z paths paths p hpp
        clear a0 a3 a16 aH afH aM aZ aK af ao a2
        go_wp2_with fail
        go_quiet (fail)
        go_wp2_with fail
        refine wp_region_held_drew (S := (fun w' => w'.cell? ⟨M, 0, none⟩ = some (.slice (some ⟨Z, 0, none⟩) paths paths) ∧ w'.cell? ⟨g, off + 3, none⟩ = some (.int .i64 (p : Int)) ∧ w'.cell? ⟨g, off + 16, none⟩ = some (.slice da x.ck.data.length dc))) (by kernel_rfl) ⟨bM, b3, b16⟩ (fun hS0 => ?_)
        refine wpAnyH_take (i := 0) (oi := ({ dst := some 54, op := Op.load 22 (Operand.tmp 4), type := 22, pos := "score.go:37", after := #[], guard := none } : Oper)) (v := ?vcy1) rfl (by kernel_rfl) (by kernel_rfl) (by kernel_rfl) (fun _ _ _ h => h) (Or.inl ⟨by rfl, ?hcy1⟩) hS0 ?_
        case hcy1 => (intro w hSw; have qm := hSw.1; have q3 := hSw.2.1; have q16 := hSw.2.2; go_simp; try with_reducible rfl)
        try simp only [Act.put, List.setIfInBounds_toArray, List.set_cons_zero, List.set_cons_succ]
        refine wpAnyH_take (i := 1) (oi := ({ dst := some 55, op := Op.move (Operand.tmp 0), type := 71, pos := "score.go:37", after := #[], guard := none } : Oper)) (v := ?vcy2) rfl (by kernel_rfl) (by kernel_rfl) (by kernel_rfl) (fun _ _ _ h => h) (Or.inl ⟨by rfl, ?hcy2⟩) hS0 ?_
        case hcy2 => (intro w hSw; have qm := hSw.1; have q3 := hSw.2.1; have q16 := hSw.2.2; go_simp; try with_reducible rfl)
        try simp only [Act.put, List.setIfInBounds_toArray, List.set_cons_zero, List.set_cons_succ]
        refine wpAnyH_take (i := 2) (oi := ({ dst := some 56, op := Op.nilCheck (Operand.tmp 55), type := 0, pos := "score.go:37", after := #[{ on := 1, ground := Ground.data }], guard := none } : Oper)) (v := ?vcy3) rfl (by kernel_rfl) (by kernel_rfl) (by kernel_rfl) (fun _ _ _ h => h) (Or.inl ⟨by rfl, ?hcy3⟩) hS0 ?_
        case hcy3 => (intro w hSw; have qm := hSw.1; have q3 := hSw.2.1; have q16 := hSw.2.2; go_simp; try with_reducible rfl)
        try simp only [Act.put, List.setIfInBounds_toArray, List.set_cons_zero, List.set_cons_succ]
        refine wpAnyH_take (i := 3) (oi := ({ dst := some 57, op := Op.fieldAddr 53 (Operand.tmp 56) 3, type := 0, pos := "score.go:37", after := #[{ on := 2, ground := Ground.data }], guard := none } : Oper)) (v := ?vcy4) rfl (by kernel_rfl) (by kernel_rfl) (by kernel_rfl) (fun _ _ _ h => h) (Or.inl ⟨by rfl, ?hcy4⟩) hS0 ?_
        case hcy4 => (intro w hSw; have qm := hSw.1; have q3 := hSw.2.1; have q16 := hSw.2.2; go_simp; try with_reducible rfl)
        try simp only [Act.put, List.setIfInBounds_toArray, List.set_cons_zero, List.set_cons_succ]
        refine wpAnyH_take (i := 4) (oi := ({ dst := some 58, op := Op.load 3 (Operand.tmp 57), type := 3, pos := "score.go:37", after := #[{ on := 3, ground := Ground.data }], guard := none } : Oper)) (v := ?vcy5) rfl (by kernel_rfl) (by kernel_rfl) (by kernel_rfl) (fun _ _ _ h => h) (Or.inl ⟨by rfl, ?hcy5⟩) hS0 ?_
        case hcy5 => (intro w hSw; have qm := hSw.1; have q3 := hSw.2.1; have q16 := hSw.2.2; go_simp; try with_reducible rfl)
        try simp only [Act.put, List.setIfInBounds_toArray, List.set_cons_zero, List.set_cons_succ]
        refine wpAnyH_take (i := 5) (oi := ({ dst := some 59, op := Op.indexAddr 22 (Operand.tmp 54) (Operand.tmp 58), type := 0, pos := "score.go:37", after := #[{ on := 0, ground := Ground.data }, { on := 4, ground := Ground.data }], guard := none } : Oper)) (v := ?vcy6) rfl (by kernel_rfl) (by kernel_rfl) (by kernel_rfl) (fun _ _ _ h => h) (Or.inl ⟨by rfl, ?hcy6⟩) hS0 ?_
        case hcy6 => (intro w hSw; have qm := hSw.1; have q3 := hSw.2.1; have q16 := hSw.2.2; go_simp; try with_reducible rfl)
        try simp only [Act.put, List.setIfInBounds_toArray, List.set_cons_zero, List.set_cons_succ]
        refine wpAnyH_take (i := 7) (oi := ({ dst := some 61, op := Op.move (Operand.tmp 0), type := 71, pos := "score.go:37", after := #[], guard := none } : Oper)) (v := ?vcy7) rfl (by kernel_rfl) (by kernel_rfl) (by kernel_rfl) (fun _ _ _ h => h) (Or.inl ⟨by rfl, ?hcy7⟩) hS0 ?_
        case hcy7 => (intro w hSw; have qm := hSw.1; have q3 := hSw.2.1; have q16 := hSw.2.2; go_simp; try with_reducible rfl)
        try simp only [Act.put, List.setIfInBounds_toArray, List.set_cons_zero, List.set_cons_succ]
        refine wpAnyH_take (i := 8) (oi := ({ dst := some 62, op := Op.nilCheck (Operand.tmp 61), type := 0, pos := "score.go:37", after := #[{ on := 7, ground := Ground.data }], guard := none } : Oper)) (v := ?vcy8) rfl (by kernel_rfl) (by kernel_rfl) (by kernel_rfl) (fun _ _ _ h => h) (Or.inl ⟨by rfl, ?hcy8⟩) hS0 ?_
        case hcy8 => (intro w hSw; have qm := hSw.1; have q3 := hSw.2.1; have q16 := hSw.2.2; go_simp; try with_reducible rfl)
        try simp only [Act.put, List.setIfInBounds_toArray, List.set_cons_zero, List.set_cons_succ]
        refine wpAnyH_take (i := 9) (oi := ({ dst := some 63, op := Op.fieldAddr 53 (Operand.tmp 62) 9, type := 0, pos := "score.go:37", after := #[{ on := 8, ground := Ground.data }], guard := none } : Oper)) (v := ?vcy9) rfl (by kernel_rfl) (by kernel_rfl) (by kernel_rfl) (fun _ _ _ h => h) (Or.inl ⟨by rfl, ?hcy9⟩) hS0 ?_
        case hcy9 => (intro w hSw; have qm := hSw.1; have q3 := hSw.2.1; have q16 := hSw.2.2; go_simp; try with_reducible rfl)
        try simp only [Act.put, List.setIfInBounds_toArray, List.set_cons_zero, List.set_cons_succ]
        refine wpAnyH_take (i := 10) (oi := ({ dst := some 64, op := Op.fieldAddr 42 (Operand.tmp 63) 7, type := 0, pos := "score.go:37", after := #[{ on := 9, ground := Ground.data }], guard := none } : Oper)) (v := ?vcy10) rfl (by kernel_rfl) (by kernel_rfl) (by kernel_rfl) (fun _ _ _ h => h) (Or.inl ⟨by rfl, ?hcy10⟩) hS0 ?_
        case hcy10 => (intro w hSw; have qm := hSw.1; have q3 := hSw.2.1; have q16 := hSw.2.2; go_simp; try with_reducible rfl)
        try simp only [Act.put, List.setIfInBounds_toArray, List.set_cons_zero, List.set_cons_succ]
        refine wpAnyH_take (i := 11) (oi := ({ dst := some 65, op := Op.load 27 (Operand.tmp 64), type := 27, pos := "score.go:37", after := #[{ on := 10, ground := Ground.data }], guard := none } : Oper)) (v := ?vcy11) rfl (by kernel_rfl) (by kernel_rfl) (by kernel_rfl) (fun _ _ _ h => h) (Or.inl ⟨by rfl, ?hcy11⟩) hS0 ?_
        case hcy11 => (intro w hSw; have qm := hSw.1; have q3 := hSw.2.1; have q16 := hSw.2.2; go_simp; try with_reducible rfl)
        try simp only [Act.put, List.setIfInBounds_toArray, List.set_cons_zero, List.set_cons_succ]
        refine wpAnyH_take (i := 12) (oi := ({ dst := some 66, op := Op.call { callee := Callee.builtin Builtin.len, args := #[Operand.tmp 65], argTypes := #[27] }, type := 3, pos := "score.go:37", after := #[{ on := 11, ground := Ground.data }], guard := none } : Oper)) (v := ?vcy12) rfl (by kernel_rfl) (by kernel_rfl) (by kernel_rfl) (fun _ _ _ h => h) (Or.inl ⟨by rfl, ?hcy12⟩) hS0 ?_
        case hcy12 => (intro w hSw; have qm := hSw.1; have q3 := hSw.2.1; have q16 := hSw.2.2; go_simp; try with_reducible rfl)
        try simp only [Act.put, List.setIfInBounds_toArray, List.set_cons_zero, List.set_cons_succ]
        refine wpAnyH_ready (rs := [6]) (by kernel_rfl) (by simp) ?_
        refine AllReadyH.cons (o := ({ dst := some 60, op := Op.load 3 (Operand.tmp 59), type := 3, pos := "score.go:37", after := #[{ on := 5, ground := Ground.data }], guard := none } : Oper)) rfl (fun K hK => ?_) AllReadyH.nil
        refine step_ld (by rfl) 3 (.tmp 59) rfl _ rfl (.int .i64 zp) (run_ld3 (by exact bZ)) ?_
        refine hK.out _ _ (⟨bM, b3, b16⟩) (fun hS3 => ?_)
        clear hK K
        try simp only [Act.put, List.setIfInBounds_toArray, List.set_cons_zero, List.set_cons_succ]
        refine wpAnyH_take (i := 13) (oi := ({ dst := some 67, op := Op.binOp BinOp.add 3 (Operand.tmp 60) (Operand.tmp 66) 3, type := 3, pos := "score.go:37", after := #[{ on := 6, ground := Ground.data }, { on := 12, ground := Ground.data }], guard := none } : Oper)) (v := ?vcy13) rfl (by kernel_rfl) (by kernel_rfl) (by kernel_rfl) (fun _ _ _ h => h) (Or.inl ⟨by rfl, ?hcy13⟩) hS3 ?_
        case hcy13 => (intro w hSw; go_simp; try with_reducible rfl)
        try simp only [Act.put, List.setIfInBounds_toArray, List.set_cons_zero, List.set_cons_succ]
        refine wpAnyH_take (i := 14) (oi := ({ dst := some 68, op := Op.indexAddr 22 (Operand.tmp 54) (Operand.tmp 58), type := 0, pos := "score.go:37", after := #[{ on := 0, ground := Ground.data }, { on := 4, ground := Ground.data }, { on := 0, ground := Ground.phase }, { on := 1, ground := Ground.phase }, { on := 2, ground := Ground.phase }, { on := 3, ground := Ground.phase }, { on := 4, ground := Ground.phase }, { on := 5, ground := Ground.phase }, { on := 6, ground := Ground.phase }, { on := 7, ground := Ground.phase }, { on := 8, ground := Ground.phase }, { on := 9, ground := Ground.phase }, { on := 10, ground := Ground.phase }, { on := 11, ground := Ground.phase }, { on := 12, ground := Ground.phase }, { on := 13, ground := Ground.phase }], guard := none } : Oper)) (v := ?vcy14) rfl (by kernel_rfl) (by kernel_rfl) (by kernel_rfl) (fun _ _ _ h => h) (Or.inl ⟨by rfl, ?hcy14⟩) hS3 ?_
        case hcy14 => (intro w hSw; go_simp; try with_reducible rfl)
        try simp only [Act.put, List.setIfInBounds_toArray, List.set_cons_zero, List.set_cons_succ]
        refine wpAnyH_ready (rs := [15]) (by kernel_rfl) (by simp) ?_
        refine AllReadyH.cons (o := ({ dst := none, op := Op.store 3 (Operand.tmp 68) (Operand.tmp 67), type := 0, pos := "score.go:37", after := #[{ on := 14, ground := Ground.data }, { on := 13, ground := Ground.data }, { on := 0, ground := Ground.phase }, { on := 1, ground := Ground.phase }, { on := 2, ground := Ground.phase }, { on := 3, ground := Ground.phase }, { on := 4, ground := Ground.phase }, { on := 5, ground := Ground.phase }, { on := 6, ground := Ground.phase }, { on := 7, ground := Ground.phase }, { on := 8, ground := Ground.phase }, { on := 9, ground := Ground.phase }, { on := 10, ground := Ground.phase }, { on := 11, ground := Ground.phase }, { on := 12, ground := Ground.phase }, { on := 13, ground := Ground.phase }], guard := none } : Oper)) rfl (fun K hK => ?_) AllReadyH.nil
        refine step_st (by rfl) 3 (.tmp 68) (.tmp 67) rfl _ _ rfl rfl (run_st3 (by exact bZ) (by exact bfZ) _) ?_
        refine hK.out _ _ (⟨by rw [cell_oth (.inl (by omega))]; exact bM, by rw [cell_oth (.inl (by omega))]; exact b3, by rw [cell_oth (.inl (by omega))]; exact b16⟩) (fun hS4 => ?_)
        clear hK K
        try simp only [Act.put]
        refine wpAnyH_done (by kernel_rfl) ?_ _
        go_wp2_with fail
        go_end0
        rw [i64w]
        have KF := ((bK.drewN nq).drew).setCell (p := ⟨Z, p, none⟩) (fun h => h.2.2.2 rfl) (.int .i64 (wrap64 (zp + x.ck.data.length)))
        have CZ : Cells Z ((wb.drewN nq).drew.setCell ⟨Z, p, none⟩ (.int .i64 (wrap64 (zp + x.ck.data.length)))) (cellsI (zs.set p (wrap64 (zp + x.ck.data.length)))) := by
          rw [cellsI_set]
          exact Cells.set (w := (wb.drewN nq).drew) ⟨bCZ.cell, bCZ.fz⟩ p _ (by rw [cellsI_length]; exact hpz)
        refine ⟨⟨_, rfl⟩, ArJ.next (g := g) hj hx KF ⟨by omega, by omega, by omega, by omega⟩ ⟨by omega, by omega, by omega, by omega⟩ ⟨by omega, by omega, by omega, by omega⟩ (fun b hb => ⟨by omega, by omega, by omega, by omega⟩) ?_ ?_ ?_, KF, fun j => ?_, fun j hj => ?_, ?_⟩
        · rw [H1.out, H3.out, cell_oth (.inl (by omega))]
          exact bH
        · show World.frozen? (World.setCell _ _ _) _ = _
          simpa using bfH
        · rw [H2.out, HCM.out, HZP.out]
          exact CZ
        · show World.frozen? (World.setCell _ _ _) _ = _
          simpa using bf j
        · rw [cell_oth (.inl (by omega))]
          exact bo j hj
        · rw [cell_oth (.inl (by omega)), HST.out]
          exact b2

end Go.Proofs.Ytnddejdndipddac
