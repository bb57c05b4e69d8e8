/- The contract of score's Sack. -/
import Derived.Test.YtnddejdndipddacSoI
set_option maxRecDepth 20000
namespace Go.Proofs.Ytnddejdndipddac
open Go.RowKit

theorem enters_sOwn (args : Array Value) (wx : World) : (callFunc 18 args).run Try.prog wx = .ok (.enter 18 args) wx := enters_body Try.func18 (by kernel_rfl) rfl args wx
theorem enters_miss (args : Array Value) (wx : World) : (callFunc 45 args).run Try.prog wx = .ok (.enter 45 args) wx := enters_body Try.func45 (by kernel_rfl) rfl args wx
theorem setCell_id {w : World} {b j : Nat} {v : Value} (h : w.cell? ⟨b, j, none⟩ = some v) : w.setCell ⟨b, j, none⟩ v = w := by
  unfold World.setCell
  have e : w.heap.modify b (fun
      | .cells c elem frozen => .cells (if (none : Option Nat).isSome then c else c.setIfInBounds j v) elem frozen
      | o => o) = w.heap := by
    apply Array.ext_getElem?
    intro k
    rw [Array.getElem?_modify]
    split
    · rename_i hk
      subst hk
      cases ho : w.heap[b]? with
      | none => rfl
      | some o =>
        cases o with
        | cells c t f =>
          have hc : c[j]? = some v := by simpa [World.cell?, ho] using h
          have : c.setIfInBounds j v = c := by
            apply Array.ext_getElem?
            intro i
            rw [Array.getElem?_setIfInBounds]
            split
            · rename_i hi
              subst hi
              split
              · exact hc.symm
              · rename_i h2
                rw [Array.getElem?_eq_none (by omega)]
            · rfl
          simp [this]
        | _ => rfl
    · rfl
  show { w with heap := w.heap.modify b _ } = w
  exact congrArg (fun x => { w with heap := x }) e
theorem run_stS {w : World} {b j : Nat} {a : Option Addr} {n c : Nat} (h : w.cell? ⟨b, j, none⟩ = some (.slice a n c)) (hf : w.frozen? ⟨b, j, none⟩ = false) : (Instr.storeAt 22 (.pointer (some ⟨b, j, none⟩)) (.slice a n c)).run Try.prog w = .ok () w := by
  have e := setCell_id h
  have : (Instr.storeAt 22 (.pointer (some ⟨b, j, none⟩)) (.slice a n c)).run Try.prog w = .ok () (w.setCell ⟨b, j, none⟩ (.slice a n c)) := by
    go_simp
  rw [e] at this
  exact this
theorem enters_last (args : Array Value) (wx : World) : (callFunc 38 args).run Try.prog wx = .ok (.enter 38 args) wx := enters_body Try.func38 (by kernel_rfl) rfl args wx
theorem near_bd (cum tag : Int) : cum - 32768 ≤ nearM cum tag ∧ nearM cum tag ≤ cum + 32768 := by
  simp only [nearM]
  split <;> omega
theorem Chg.mono {f : FuncId} {caps : Array Value} {fS : Sn → Sn} {U U' : Nat → Prop} {J : Nat → World → Prop} {B0 : Nat} {l : List Sn} (h : Chg f caps fS U J B0 l) (hu : ∀ k, U' k → U k) : Chg f caps fS U' J B0 l :=
  fun g k x da dc sa sc qa qc wx h1 h2 h3 h4 h5 h6 h7 h8 => (h g k x da dc sa sc qa qc wx h1 h2 h3 h4 h5 h6 (h7.mono fun b hb => ⟨hb.1, hb.2.1, hu b hb.2.2⟩) h8).mono fun _ _ ⟨r, j, k, f, o, s⟩ => ⟨r, j, k.mono fun b hb => ⟨hb.1, hb.2.1, hu b hb.2.2⟩, f, o, s⟩
theorem arr_put (n : Int) (sp : List Sp) (x : Sn) : arrM n sp x = x.put (arrM n sp x).state := by unfold arrM; split <;> rfl
theorem arr_missed (n : Int) (sp : List Sp) (x : Sn) : (arrM n sp x).missed = x.missed := by unfold arrM Sn.put; split <;> rfl
theorem hi_I64 {n : Int} {sp : List Sp} : ∀ (l : List Sn) {h : Int}, I64 h → (∀ x ∈ l, I64 x.number) → I64 (hiM n sp h l)
  | [], _, hh, _ => hh
  | s :: r, h, hh, hx => by
    refine hi_I64 r ?_ fun x hm => hx x (by simp [hm])
    have := hx s (by simp)
    unfold I64 hiS at *
    split <;> omega
theorem come_I64 {n : Int} {sp : List Sp} : ∀ (l : List Sn) {zs : List Int}, IsI zs → IsI (comeM n sp zs l)
  | [], _, h => h
  | s :: r, zs, h => by
    refine come_I64 r ?_
    unfold comeS
    split
    · unfold addAt
      split
      · exact h.set _ (wrap64_I64 _)
      · exact h
    · exact h
theorem SnRes.low {U : Nat → Prop} {base base' : Nat} {w : World} {a : Option Addr} {c : Nat} {l : List Sn} (h : SnRes U base w a c l) (hb : base' ≤ base) : SnRes U base' w a c l := by
  rcases h with h | ⟨g, h1, h2, h3⟩
  · exact .inl h
  · exact .inr ⟨g, h1, Nat.le_trans hb h2, h3⟩
theorem SnRes.keep {U : Nat → Prop} {base : Nat} {w w' : World} {a : Option Addr} {c : Nat} {l : List Sn} (h : SnRes U base w a c l) (hU : ∀ k, base ≤ k → U k) (kp : Keep (fun b => b < w.heap.size ∧ U b) w w') : SnRes U base w' a c l := by
  rcases h with h | ⟨g, h1, h2, h3, h4⟩
  · exact .inl h
  · exact .inr ⟨g, h1, h2, h3.keep (hU g h2) kp, h4⟩

/-- What Sack hands back. -/
structure SackV (w : World) (v : Value) (R : SackR) : Prop where
  ex : ∃ a c az cz al cl, v = .tuple #[.slice a R.out.length c, .int .i64 R.now, .slice az R.come.length cz, .slice al R.lost.length cl] ∧ SnS w.heap.size w (.slice a R.out.length c) R.out ∧ In w.heap.size w (.slice az R.come.length cz) R.come ∧ In w.heap.size w (.slice al R.lost.length cl) R.lost

set_option maxHeartbeats 4000000 in
theorem sack_any (v : Value) (l : List Sn) (cum : Int) (c : Ck) (d s q : Value) (paths : Nat) (w : World) (hv : SnS w.heap.size w v l) (hd : By w.heap.size w d c.data) (hs : Sl w.heap.size w s c.spans) (hq : Kl w.heap.size w q c.skips) (hfit : FitL l) (hlen : l.length * 200 ≤ 140737488351232)
    (hris : RisesM cum l) (hc1 : -1 ≤ cum) (hc2 : cum ≤ 1099511600000) (hp2 : paths ≤ 2) (hnum : ∀ x ∈ l, -1099511627776 ≤ x.number ∧ x.number ≤ 1099511627776) (hpath : ∀ x ∈ l, 0 ≤ x.path ∧ x.path < paths) (hmis : ∀ x ∈ l, 0 ≤ x.missed ∧ x.missed ≤ 2000000) :
    Calls Try.prog 15 #[v, .int .i64 cum, ckVal c d s q, .int .i64 (paths : Int)] w fun e w' => ∃ u, e = .returned u ∧ SackV w' u (sackF l cum c.tag c.spans paths) ∧ Below w.heap.size w w' := by
  have hmf : ∀ (fn : Fn) (first cap : Array Value) (w : World), (Instr.makeFunc fn first cap).run Try.prog w = .ok (.func fn first cap) w := fun _ _ _ _ => rfl
  have HV := hv
  obtain ⟨a, cap, rfl, h1, h2⟩ := hv.ex
  obtain ⟨ad, cd, rfl, -, -⟩ := hd.ex
  obtain ⟨asp, csp, rfl⟩ := hs.ex
  obtain ⟨ak, ck, rfl, -, -⟩ := hq.ex
  obtain ⟨kind, tag, stream, mid, part, last, ordered, data, spans, room, skips⟩ := c
  simp only [ckVal] at *
  have NB := near_bd cum tag
  have NE := near_any cum tag
  have HSF : Hid (sackF l cum tag spans paths = if nearM cum tag < cum ∨ lastM l cum < nearM cum tag then ⟨l, cum, List.replicate paths 0, []⟩ else sackS l (nearM cum tag) spans paths) := rfl
  have hlast := hris.last
  have NO := fun wx => noughts_any paths wx (by omega)
  generalize hn : nearM cum tag = n at *
  have hNw : ∀ wx, Calls Try.prog 37 #[.int .i64 cum, .int .i64 tag] wx fun e w' => e = .returned (.int .i64 n) ∧ w' = wx := fun wx => NE wx (by omega) (by omega)
  clear NE hn
  go_enter Try.func15, Try.ntmps15
  go_wp2_with (first
    | (go_at_call 36; refine (NO _).mono ?_; rintro e w' ⟨rfl, rfl⟩)
    | (go_at_call 37; refine (hNw _).mono ?_; rintro e w' ⟨rfl, rfl⟩))
  have B3 : Below w.heap.size w ((((w.alloc (.cells #[.int .i64 kind, .int .i64 tag, .int .i64 stream, .int .i64 mid, .int .i64 part, .bool last, .bool ordered, .slice ad data.length cd, .slice asp spans.length csp, .int .i64 room, .slice ak skips.length ck] 42)).alloc (.cells #[.slice (some ⟨w.heap.size + 1 + 1, 0, none⟩) paths paths] 22)).alloc (.cells (madeCells #[.int .i64 0] paths) 3)).alloc (.cells #[.int .i64 n] 3)) := ((two_below w _ _).alloc (by simp <;> omega) _).alloc (by simp <;> omega) _
  have CC : Cells w.heap.size ((((w.alloc (.cells #[.int .i64 kind, .int .i64 tag, .int .i64 stream, .int .i64 mid, .int .i64 part, .bool last, .bool ordered, .slice ad data.length cd, .slice asp spans.length csp, .int .i64 room, .slice ak skips.length ck] 42)).alloc (.cells #[.slice (some ⟨w.heap.size + 1 + 1, 0, none⟩) paths paths] 22)).alloc (.cells (madeCells #[.int .i64 0] paths) 3)).alloc (.cells #[.int .i64 n] 3)) [.int .i64 kind, .int .i64 tag, .int .i64 stream, .int .i64 mid, .int .i64 part, .bool last, .bool ordered, .slice ad data.length cd, .slice asp spans.length csp, .int .i64 room, .slice ak skips.length ck] := (((Cells.new w #[.int .i64 kind, .int .i64 tag, .int .i64 stream, .int .i64 mid, .int .i64 part, .bool last, .bool ordered, .slice ad data.length cd, .slice asp spans.length csp, .int .i64 room, .slice ak skips.length ck] 42).alloc (by simp) _).alloc (by simp <;> omega) _).alloc (by simp <;> omega) _
  have CM : Cells (w.heap.size + 1) ((((w.alloc (.cells #[.int .i64 kind, .int .i64 tag, .int .i64 stream, .int .i64 mid, .int .i64 part, .bool last, .bool ordered, .slice ad data.length cd, .slice asp spans.length csp, .int .i64 room, .slice ak skips.length ck] 42)).alloc (.cells #[.slice (some ⟨w.heap.size + 1 + 1, 0, none⟩) paths paths] 22)).alloc (.cells (madeCells #[.int .i64 0] paths) 3)).alloc (.cells #[.int .i64 n] 3)) [.slice (some ⟨w.heap.size + 1 + 1, 0, none⟩) paths paths] := ((Cells.new' (w := (w.alloc (.cells #[.int .i64 kind, .int .i64 tag, .int .i64 stream, .int .i64 mid, .int .i64 part, .bool last, .bool ordered, .slice ad data.length cd, .slice asp spans.length csp, .int .i64 room, .slice ak skips.length ck] 42))) #[.slice (some ⟨w.heap.size + 1 + 1, 0, none⟩) paths paths] 22 (by simp)).alloc (by simp) _).alloc (by simp <;> omega) _
  have CZ : Cells (w.heap.size + 1 + 1) ((((w.alloc (.cells #[.int .i64 kind, .int .i64 tag, .int .i64 stream, .int .i64 mid, .int .i64 part, .bool last, .bool ordered, .slice ad data.length cd, .slice asp spans.length csp, .int .i64 room, .slice ak skips.length ck] 42)).alloc (.cells #[.slice (some ⟨w.heap.size + 1 + 1, 0, none⟩) paths paths] 22)).alloc (.cells (madeCells #[.int .i64 0] paths) 3)).alloc (.cells #[.int .i64 n] 3)) (cellsI (List.replicate paths 0)) := by
    have h := (Cells.new' (w := ((w.alloc (.cells #[.int .i64 kind, .int .i64 tag, .int .i64 stream, .int .i64 mid, .int .i64 part, .bool last, .bool ordered, .slice ad data.length cd, .slice asp spans.length csp, .int .i64 room, .slice ak skips.length ck] 42)).alloc (.cells #[.slice (some ⟨w.heap.size + 1 + 1, 0, none⟩) paths paths] 22))) (X := w.heap.size + 1 + 1) (madeCells #[.int .i64 0] paths) 3 (by simp)).alloc (by simp) (.cells #[.int .i64 n] 3)
    rw [toList_madeCells_one] at h
    simpa [cellsI] using h
  have CN : Cells (w.heap.size + 1 + 1 + 1) ((((w.alloc (.cells #[.int .i64 kind, .int .i64 tag, .int .i64 stream, .int .i64 mid, .int .i64 part, .bool last, .bool ordered, .slice ad data.length cd, .slice asp spans.length csp, .int .i64 room, .slice ak skips.length ck] 42)).alloc (.cells #[.slice (some ⟨w.heap.size + 1 + 1, 0, none⟩) paths paths] 22)).alloc (.cells (madeCells #[.int .i64 0] paths) 3)).alloc (.cells #[.int .i64 n] 3)) [.int .i64 n] := Cells.new' (w := (((w.alloc (.cells #[.int .i64 kind, .int .i64 tag, .int .i64 stream, .int .i64 mid, .int .i64 part, .bool last, .bool ordered, .slice ad data.length cd, .slice asp spans.length csp, .int .i64 room, .slice ak skips.length ck] 42)).alloc (.cells #[.slice (some ⟨w.heap.size + 1 + 1, 0, none⟩) paths paths] 22)).alloc (.cells (madeCells #[.int .i64 0] paths) 3))) #[.int .i64 n] 3 (by simp)
  have hz : ((((w.alloc (.cells #[.int .i64 kind, .int .i64 tag, .int .i64 stream, .int .i64 mid, .int .i64 part, .bool last, .bool ordered, .slice ad data.length cd, .slice asp spans.length csp, .int .i64 room, .slice ak skips.length ck] 42)).alloc (.cells #[.slice (some ⟨w.heap.size + 1 + 1, 0, none⟩) paths paths] 22)).alloc (.cells (madeCells #[.int .i64 0] paths) 3)).alloc (.cells #[.int .i64 n] 3)).heap.size = w.heap.size + 4 := by simp
  generalize ((((w.alloc (.cells #[.int .i64 kind, .int .i64 tag, .int .i64 stream, .int .i64 mid, .int .i64 part, .bool last, .bool ordered, .slice ad data.length cd, .slice asp spans.length csp, .int .i64 room, .slice ak skips.length ck] 42)).alloc (.cells #[.slice (some ⟨w.heap.size + 1 + 1, 0, none⟩) paths paths] 22)).alloc (.cells (madeCells #[.int .i64 0] paths) 3)).alloc (.cells #[.int .i64 n] 3)) = w3 at *
  have cM := CM.cell 0 _ rfl
  have cN := CN.cell 0 _ rfl
  have LA : Calls Try.prog 38 #[.slice a l.length cap, .int .i64 cum] w3.drew fun e w' => ∃ v, e = .returned v ∧ v = .int .i64 (lastM l cum) ∧ w' = w3.drew := (last_any _ l cum w3.drew (SlG.size SnV.bears HV (B3.trans (drew_below _ _)) (Nat.le_refl _))).mono fun e w' ⟨h1, h2⟩ => ⟨_, h1, rfl, h2⟩
  have OC : Calls Try.prog 18 #[.slice a l.length cap] w3.drew.drew fun e w' => ∃ v, e = .returned v ∧ ∃ a' c', v = .slice a' l.length c' ∧ SnRes (fun _ => True) (w.heap.size + 4) w' a' c' l ∧ Below (w.heap.size + 4) w3 w' := (sOwn_any (fun _ => True) w.heap.size _ l w3.drew.drew (SlG.below SnV.bears HV (B3.trans ((drew_below _ w3).trans (drew_below _ w3.drew))) (Nat.le_refl _)) (by show w.heap.size ≤ w3.heap.size; omega) (fun _ _ => trivial) (fun _ _ => trivial) hfit hlen).mono fun e w' ⟨a', c', e1, r1, k1⟩ => ⟨_, e1, a', c', rfl, r1.low (by show _ ≤ w3.heap.size; omega), ((drew_below _ w3).trans (drew_below _ w3.drew)).trans (k1.below (B := w.heap.size + 4) fun k hk => ⟨by show k < w3.heap.size; omega, trivial⟩)⟩
  have KM : ∀ w', Below (w.heap.size + 4) w3 w' → w'.cell? ⟨w.heap.size + 1, 0, none⟩ = some (.slice (some ⟨w.heap.size + 1 + 1, 0, none⟩) paths paths) := fun w' hb => (hb.cell (p := ⟨w.heap.size + 1, 0, none⟩) (by show w.heap.size + 1 < _; omega)).trans cM
  have FM : ∀ w', Below (w.heap.size + 4) w3 w' → w'.frozen? ⟨w.heap.size + 1, 0, none⟩ = false := fun w' hb => (hb.frozen (p := ⟨w.heap.size + 1, 0, none⟩) (by show w.heap.size + 1 < _; omega)).trans (CM.fz 0)
  have EARLY : ∀ w4 a4 c4, SnRes (fun _ => True) (w.heap.size + 4) w4 a4 c4 l → Below (w.heap.size + 4) w3 w4 → (n < cum ∨ lastM l cum < n) → Hid (SackV w4 (.tuple #[.slice a4 l.length c4, .int .i64 cum, .slice (some ⟨w.heap.size + 1 + 1, 0, none⟩) paths paths, .slice none 0 0]) (sackF l cum tag spans paths) ∧ Below w.heap.size w w4) := fun w4 a4 c4 rs b4 hor => by
    have e : sackF l cum tag spans paths = ⟨l, cum, List.replicate paths 0, []⟩ := by rw [HSF.out, if_pos hor]
    have hs4 := b4.size
    rw [e]
    refine ⟨⟨a4, c4, some ⟨w.heap.size + 1 + 1, 0, none⟩, paths, none, 0, by simp, rs.s, ?_, In.nil _ _⟩, B3.trans (b4.mono (by omega))⟩
    show In w4.heap.size w4 (.slice _ (List.replicate paths 0).length paths) _
    refine In.cells (CZ.below b4 (by omega)) (by omega) rfl (by simp) (by omega) fun z hzm => ?_
    obtain ⟨-, rfl⟩ := List.mem_replicate.1 hzm
    unfold I64; omega
  by_cases hlt : n < cum
  · have hd1 : decide (n < cum) = true := decide_eq_true hlt
    refine wp_region_held_drew (S := (fun w' => w'.cell? ⟨w.heap.size + 1 + 1 + 1, 0, none⟩ = some (.int .i64 n))) (by kernel_rfl) (show _ from cN) (fun hS0 => ?_)
    refine wpAnyH_take (i := 0) (oi := ({ dst := some 21, op := Op.load 3 (Operand.tmp 12), type := 3, pos := "score.go:25", after := #[], guard := none } : Oper)) (v := ?vca1) rfl (by kernel_rfl) (by kernel_rfl) (by kernel_rfl) (fun _ _ _ h => h) (Or.inl ⟨by rfl, ?hca1⟩) hS0 ?_
    case hca1 => (intro w hSw; have qn : w.cell? _ = some (.int .i64 n) := hSw; go_simp; try with_reducible rfl)
    try simp only [Act.put, List.setIfInBounds_toArray, List.set_cons_zero, List.set_cons_succ]
    refine wpAnyH_take (i := 1) (oi := ({ dst := some 22, op := Op.move (Operand.tmp 1), type := 3, pos := "score.go:25", after := #[], guard := none } : Oper)) (v := ?vca2) rfl (by kernel_rfl) (by kernel_rfl) (by kernel_rfl) (fun _ _ _ h => h) (Or.inl ⟨by rfl, ?hca2⟩) hS0 ?_
    case hca2 => (intro w hSw; go_simp; try with_reducible rfl)
    try simp only [Act.put, List.setIfInBounds_toArray, List.set_cons_zero, List.set_cons_succ]
    refine wpAnyH_take (i := 2) (oi := ({ dst := some 23, op := Op.binOp BinOp.lss 3 (Operand.tmp 21) (Operand.tmp 22) 3, type := 4, pos := "score.go:25", after := #[{ on := 0, ground := Ground.data }, { on := 1, ground := Ground.data }], guard := none } : Oper)) (v := ?vca3) rfl (by kernel_rfl) (by kernel_rfl) (by kernel_rfl) (fun _ _ _ h => h) (Or.inl ⟨by rfl, ?hca3⟩) hS0 ?_
    case hca3 => (intro w hSw; go_simp; try with_reducible rfl)
    try simp only [Act.put, List.setIfInBounds_toArray, List.set_cons_zero, List.set_cons_succ]
    refine wpAnyH_take (i := 3) (oi := ({ dst := some 24, op := Op.move (Operand.tmp 23), type := 4, pos := "score.go:25", after := #[{ on := 2, ground := Ground.data }], guard := none } : Oper)) (v := ?vca4) rfl (by kernel_rfl) (by kernel_rfl) (by kernel_rfl) (fun _ _ _ h => h) (Or.inl ⟨by rfl, ?hca4⟩) hS0 ?_
    case hca4 => (intro w hSw; go_simp; try with_reducible rfl)
    try simp only [Act.put, List.setIfInBounds_toArray, List.set_cons_zero, List.set_cons_succ]
    refine wpAnyH_take (i := 4) (oi := ({ dst := some 25, op := Op.load 3 (Operand.tmp 12), type := 3, pos := "score.go:25", after := #[{ on := 3, ground := Ground.guard }], guard := some (3, false) } : Oper)) (v := undef) rfl (by kernel_rfl) (by kernel_rfl) (by kernel_rfl) (fun _ _ _ h => h) (Or.inr ⟨by rfl, rfl⟩) hS0 ?_
    try simp only [Act.put, List.setIfInBounds_toArray, List.set_cons_zero, List.set_cons_succ]
    refine wpAnyH_take (i := 5) (oi := ({ dst := some 26, op := Op.move (Operand.tmp 0), type := 38, pos := "score.go:25", after := #[{ on := 3, ground := Ground.guard }], guard := some (3, false) } : Oper)) (v := undef) rfl (by kernel_rfl) (by kernel_rfl) (by kernel_rfl) (fun _ _ _ h => h) (Or.inr ⟨by rfl, rfl⟩) hS0 ?_
    try simp only [Act.put, List.setIfInBounds_toArray, List.set_cons_zero, List.set_cons_succ]
    refine wpAnyH_take (i := 6) (oi := ({ dst := some 27, op := Op.move (Operand.tmp 1), type := 3, pos := "score.go:25", after := #[{ on := 3, ground := Ground.guard }], guard := some (3, false) } : Oper)) (v := undef) rfl (by kernel_rfl) (by kernel_rfl) (by kernel_rfl) (fun _ _ _ h => h) (Or.inr ⟨by rfl, rfl⟩) hS0 ?_
    try simp only [Act.put, List.setIfInBounds_toArray, List.set_cons_zero, List.set_cons_succ]
    refine wpAnyH_take (i := 7) (oi := ({ dst := some 28, op := Op.call { callee := Callee.value (Operand.func 38), args := #[Operand.tmp 26, Operand.tmp 27], argTypes := #[38, 3] }, type := 3, pos := "score.go:25", after := #[{ on := 5, ground := Ground.data }, { on := 6, ground := Ground.data }, { on := 3, ground := Ground.chain }, { on := 3, ground := Ground.guard }], guard := some (3, false) } : Oper)) (v := undef) rfl (by kernel_rfl) (by kernel_rfl) (by kernel_rfl) (fun _ _ _ h => h) (Or.inr ⟨by rfl, rfl⟩) hS0 ?_
    try simp only [Act.put, List.setIfInBounds_toArray, List.set_cons_zero, List.set_cons_succ]
    refine wpAnyH_take (i := 8) (oi := ({ dst := some 29, op := Op.binOp BinOp.gtr 3 (Operand.tmp 25) (Operand.tmp 28) 3, type := 4, pos := "score.go:25", after := #[{ on := 4, ground := Ground.data }, { on := 7, ground := Ground.data }, { on := 3, ground := Ground.guard }], guard := some (3, false) } : Oper)) (v := undef) rfl (by kernel_rfl) (by kernel_rfl) (by kernel_rfl) (fun _ _ _ h => h) (Or.inr ⟨by rfl, rfl⟩) hS0 ?_
    try simp only [Act.put, List.setIfInBounds_toArray, List.set_cons_zero, List.set_cons_succ]
    refine wpAnyH_take (i := 9) (oi := ({ dst := some 30, op := Op.pick (Operand.tmp 24) (Operand.const (Value.bool true)) (Operand.tmp 29), type := 4, pos := "score.go:25", after := #[{ on := 3, ground := Ground.data }, { on := 8, ground := Ground.data }], guard := none } : Oper)) (v := ?vca5) rfl (by kernel_rfl) (by kernel_rfl) (by kernel_rfl) (fun _ _ _ h => h) (Or.inl ⟨by rfl, ?hca5⟩) hS0 ?_
    case hca5 => (intro w hSw; go_simp; try with_reducible rfl)
    try simp only [Act.put, List.setIfInBounds_toArray, List.set_cons_zero, List.set_cons_succ]
    refine wpAnyH_done (by kernel_rfl) ?_ _
    go_wp2_with fail
    refine wp_region_held_drew (S := (fun w' => w'.cell? ⟨w.heap.size + 1, 0, none⟩ = some (.slice (some ⟨w.heap.size + 1 + 1, 0, none⟩) paths paths))) (by kernel_rfl) (show _ from cM) (fun hS0 => ?_)
    refine wpAnyH_take (i := 0) (oi := ({ dst := some 31, op := Op.move (Operand.tmp 0), type := 38, pos := "score.go:26", after := #[], guard := none } : Oper)) (v := ?vea1) rfl (by kernel_rfl) (by kernel_rfl) (by kernel_rfl) (fun _ _ _ h => h) (Or.inl ⟨by rfl, ?hea1⟩) hS0 ?_
    case hea1 => (intro w hSw; go_simp; try with_reducible rfl)
    try simp only [Act.put, List.setIfInBounds_toArray, List.set_cons_zero, List.set_cons_succ]
    refine wpAnyH_take (i := 2) (oi := ({ dst := some 33, op := Op.move (Operand.tmp 1), type := 3, pos := "score.go:26", after := #[{ on := 4, ground := Ground.gcOnly Departure.lateStores }], guard := none } : Oper)) (v := ?vea2) rfl (by kernel_rfl) (by kernel_rfl) (by kernel_rfl) (fun _ _ _ h => h) (Or.inl ⟨by rfl, ?hea2⟩) hS0 ?_
    case hea2 => (intro w hSw; go_simp; try with_reducible rfl)
    try simp only [Act.put, List.setIfInBounds_toArray, List.set_cons_zero, List.set_cons_succ]
    refine wpAnyH_take (i := 3) (oi := ({ dst := some 34, op := Op.load 22 (Operand.tmp 10), type := 22, pos := "score.go:26", after := #[{ on := 5, ground := Ground.gcOnly Departure.lateStores }], guard := none } : Oper)) (v := ?vea3) rfl (by kernel_rfl) (by kernel_rfl) (by kernel_rfl) (fun _ _ _ h => h) (Or.inl ⟨by rfl, ?hea3⟩) hS0 ?_
    case hea3 => (intro w hSw; have qm : w.cell? _ = some (.slice _ paths paths) := hSw; go_simp; try with_reducible rfl)
    try simp only [Act.put, List.setIfInBounds_toArray, List.set_cons_zero, List.set_cons_succ]
    refine wpAnyH_ready (rs := [1]) (by kernel_rfl) (by simp) ?_
    refine AllReadyH.cons (o := ({ dst := some 32, op := Op.call { callee := Callee.value (Operand.func 18), args := #[Operand.tmp 31], argTypes := #[38] }, type := 38, pos := "score.go:26", after := #[{ on := 0, ground := Ground.data }], guard := none } : Oper)) rfl (fun K hK => ?_) AllReadyH.nil
    refine step_call1 rfl 18 (.tmp 31) 38 rfl _ rfl rfl enters_sOwn _ OC ?_
    rintro _ w4 ⟨a4, c4, rfl, rs4, b4⟩
    refine hK.out _ _ (KM _ b4) (fun hS1 => ?_)
    clear hK K
    try simp only [Act.put, List.setIfInBounds_toArray, List.set_cons_zero, List.set_cons_succ]
    refine wpAnyH_take (i := 4) (oi := ({ dst := some 8, op := Op.assign (Operand.tmp 32), type := 38, pos := "score.go:26", after := #[{ on := 1, ground := Ground.data }, { on := 1, ground := Ground.chain }, { on := 0, ground := Ground.phase }, { on := 1, ground := Ground.phase }, { on := 2, ground := Ground.textOnly Departure.lateStores }, { on := 3, ground := Ground.textOnly Departure.lateStores }], guard := none } : Oper)) (v := ?vea4) rfl (by kernel_rfl) (by kernel_rfl) (by kernel_rfl) (fun _ _ _ h => h) (Or.inl ⟨by rfl, ?hea4⟩) hS1 ?_
    case hea4 => (intro w hSw; go_simp; try with_reducible rfl)
    try simp only [Act.put, List.setIfInBounds_toArray, List.set_cons_zero, List.set_cons_succ]
    refine wpAnyH_take (i := 5) (oi := ({ dst := some 9, op := Op.assign (Operand.tmp 33), type := 3, pos := "score.go:26", after := #[{ on := 2, ground := Ground.data }, { on := 4, ground := Ground.chain }, { on := 0, ground := Ground.phase }, { on := 1, ground := Ground.phase }, { on := 2, ground := Ground.phase }, { on := 3, ground := Ground.textOnly Departure.lateStores }, { on := 4, ground := Ground.phase }], guard := none } : Oper)) (v := ?vea5) rfl (by kernel_rfl) (by kernel_rfl) (by kernel_rfl) (fun _ _ _ h => h) (Or.inl ⟨by rfl, ?hea5⟩) hS1 ?_
    case hea5 => (intro w hSw; go_simp; try with_reducible rfl)
    try simp only [Act.put, List.setIfInBounds_toArray, List.set_cons_zero, List.set_cons_succ]
    refine wpAnyH_ready (rs := [6]) (by kernel_rfl) (by simp) ?_
    refine AllReadyH.cons (o := ({ dst := none, op := Op.store 22 (Operand.tmp 10) (Operand.tmp 34), type := 0, pos := "score.go:26", after := #[{ on := 3, ground := Ground.data }, { on := 5, ground := Ground.chain }, { on := 0, ground := Ground.phase }, { on := 1, ground := Ground.phase }, { on := 2, ground := Ground.phase }, { on := 3, ground := Ground.phase }, { on := 4, ground := Ground.phase }, { on := 5, ground := Ground.phase }], guard := none } : Oper)) rfl (fun K hK => ?_) AllReadyH.nil
    refine step_st (by rfl) 22 (.tmp 10) (.tmp 34) rfl _ _ rfl rfl (run_stS (KM _ b4) (FM _ b4)) ?_
    refine hK.out _ _ (KM _ b4) (fun hS2 => ?_)
    clear hK K
    try simp only [Act.put]
    refine wpAnyH_take (i := 7) (oi := ({ dst := some 11, op := Op.assign (Operand.const (Value.slice none 0 0)), type := 22, pos := "score.go:26", after := #[{ on := 6, ground := Ground.chain }, { on := 0, ground := Ground.phase }, { on := 1, ground := Ground.phase }, { on := 2, ground := Ground.phase }, { on := 3, ground := Ground.phase }, { on := 4, ground := Ground.phase }, { on := 5, ground := Ground.phase }, { on := 6, ground := Ground.phase }], guard := none } : Oper)) (v := ?vea6) rfl (by kernel_rfl) (by kernel_rfl) (by kernel_rfl) (fun _ _ _ h => h) (Or.inl ⟨by rfl, ?hea6⟩) hS2 ?_
    case hea6 => (intro w hSw; go_simp; try with_reducible rfl)
    try simp only [Act.put, List.setIfInBounds_toArray, List.set_cons_zero, List.set_cons_succ]
    refine wpAnyH_done (by kernel_rfl) ?_ _
    go_wp2_with fail
    have e10 := KM _ b4
    obtain ⟨E1, E2⟩ := (EARLY _ _ _ rs4 b4 (.inl hlt)).out
    exact bodyPost_ret (v := .tuple #[.slice a4 l.length c4, .int .i64 cum, .slice (some ⟨w.heap.size + 1 + 1, 0, none⟩) paths paths, .slice none 0 0]) (by simp [results, Try.results15, go_sem, e10]) rfl ⟨_, rfl, E1, E2⟩
  · have hd1 : decide (n < cum) = false := decide_eq_false hlt
    by_cases hgt : lastM l cum < n
    · have hd2 : decide (lastM l cum < n) = true := decide_eq_true hgt
      refine wp_region_held_drew (S := (fun w' => w'.cell? ⟨w.heap.size + 1 + 1 + 1, 0, none⟩ = some (.int .i64 n))) (by kernel_rfl) (show _ from cN) (fun hS0 => ?_)
      refine wpAnyH_take (i := 0) (oi := ({ dst := some 21, op := Op.load 3 (Operand.tmp 12), type := 3, pos := "score.go:25", after := #[], guard := none } : Oper)) (v := ?vcb1) rfl (by kernel_rfl) (by kernel_rfl) (by kernel_rfl) (fun _ _ _ h => h) (Or.inl ⟨by rfl, ?hcb1⟩) hS0 ?_
      case hcb1 => (intro w hSw; have qn : w.cell? _ = some (.int .i64 n) := hSw; go_simp; try with_reducible rfl)
      try simp only [Act.put, List.setIfInBounds_toArray, List.set_cons_zero, List.set_cons_succ]
      refine wpAnyH_take (i := 1) (oi := ({ dst := some 22, op := Op.move (Operand.tmp 1), type := 3, pos := "score.go:25", after := #[], guard := none } : Oper)) (v := ?vcb2) rfl (by kernel_rfl) (by kernel_rfl) (by kernel_rfl) (fun _ _ _ h => h) (Or.inl ⟨by rfl, ?hcb2⟩) hS0 ?_
      case hcb2 => (intro w hSw; go_simp; try with_reducible rfl)
      try simp only [Act.put, List.setIfInBounds_toArray, List.set_cons_zero, List.set_cons_succ]
      refine wpAnyH_take (i := 2) (oi := ({ dst := some 23, op := Op.binOp BinOp.lss 3 (Operand.tmp 21) (Operand.tmp 22) 3, type := 4, pos := "score.go:25", after := #[{ on := 0, ground := Ground.data }, { on := 1, ground := Ground.data }], guard := none } : Oper)) (v := ?vcb3) rfl (by kernel_rfl) (by kernel_rfl) (by kernel_rfl) (fun _ _ _ h => h) (Or.inl ⟨by rfl, ?hcb3⟩) hS0 ?_
      case hcb3 => (intro w hSw; go_simp; try with_reducible rfl)
      try simp only [Act.put, List.setIfInBounds_toArray, List.set_cons_zero, List.set_cons_succ]
      refine wpAnyH_take (i := 3) (oi := ({ dst := some 24, op := Op.move (Operand.tmp 23), type := 4, pos := "score.go:25", after := #[{ on := 2, ground := Ground.data }], guard := none } : Oper)) (v := ?vcb4) rfl (by kernel_rfl) (by kernel_rfl) (by kernel_rfl) (fun _ _ _ h => h) (Or.inl ⟨by rfl, ?hcb4⟩) hS0 ?_
      case hcb4 => (intro w hSw; go_simp; try with_reducible rfl)
      try simp only [Act.put, List.setIfInBounds_toArray, List.set_cons_zero, List.set_cons_succ]
      refine wpAnyH_take (i := 4) (oi := ({ dst := some 25, op := Op.load 3 (Operand.tmp 12), type := 3, pos := "score.go:25", after := #[{ on := 3, ground := Ground.guard }], guard := some (3, false) } : Oper)) (v := ?vcb5) rfl (by kernel_rfl) (by kernel_rfl) (by kernel_rfl) (fun _ _ _ h => h) (Or.inl ⟨by rfl, ?hcb5⟩) hS0 ?_
      case hcb5 => (intro w hSw; have qn : w.cell? _ = some (.int .i64 n) := hSw; go_simp; try with_reducible rfl)
      try simp only [Act.put, List.setIfInBounds_toArray, List.set_cons_zero, List.set_cons_succ]
      refine wpAnyH_take (i := 5) (oi := ({ dst := some 26, op := Op.move (Operand.tmp 0), type := 38, pos := "score.go:25", after := #[{ on := 3, ground := Ground.guard }], guard := some (3, false) } : Oper)) (v := ?vcb6) rfl (by kernel_rfl) (by kernel_rfl) (by kernel_rfl) (fun _ _ _ h => h) (Or.inl ⟨by rfl, ?hcb6⟩) hS0 ?_
      case hcb6 => (intro w hSw; go_simp; try with_reducible rfl)
      try simp only [Act.put, List.setIfInBounds_toArray, List.set_cons_zero, List.set_cons_succ]
      refine wpAnyH_take (i := 6) (oi := ({ dst := some 27, op := Op.move (Operand.tmp 1), type := 3, pos := "score.go:25", after := #[{ on := 3, ground := Ground.guard }], guard := some (3, false) } : Oper)) (v := ?vcb7) rfl (by kernel_rfl) (by kernel_rfl) (by kernel_rfl) (fun _ _ _ h => h) (Or.inl ⟨by rfl, ?hcb7⟩) hS0 ?_
      case hcb7 => (intro w hSw; go_simp; try with_reducible rfl)
      try simp only [Act.put, List.setIfInBounds_toArray, List.set_cons_zero, List.set_cons_succ]
      refine wpAnyH_ready (rs := [7]) (by kernel_rfl) (by simp) ?_
      refine AllReadyH.cons (o := ({ dst := some 28, op := Op.call { callee := Callee.value (Operand.func 38), args := #[Operand.tmp 26, Operand.tmp 27], argTypes := #[38, 3] }, type := 3, pos := "score.go:25", after := #[{ on := 5, ground := Ground.data }, { on := 6, ground := Ground.data }, { on := 3, ground := Ground.chain }, { on := 3, ground := Ground.guard }], guard := some (3, false) } : Oper)) rfl (fun K hK => ?_) AllReadyH.nil
      refine step_call2w (by rfl) 38 (.tmp 26) (.tmp 27) #[38, 3] rfl _ _ rfl rfl rfl enters_last _ LA ?_
      rintro _ wl ⟨rfl, rfl⟩
      refine hK.out _ _ (show _ from cN) (fun hS1 => ?_)
      clear hK K
      try simp only [Act.put, List.setIfInBounds_toArray, List.set_cons_zero, List.set_cons_succ]
      refine wpAnyH_take (i := 8) (oi := ({ dst := some 29, op := Op.binOp BinOp.gtr 3 (Operand.tmp 25) (Operand.tmp 28) 3, type := 4, pos := "score.go:25", after := #[{ on := 4, ground := Ground.data }, { on := 7, ground := Ground.data }, { on := 3, ground := Ground.guard }], guard := some (3, false) } : Oper)) (v := ?vcb8) rfl (by kernel_rfl) (by kernel_rfl) (by kernel_rfl) (fun _ _ _ h => h) (Or.inl ⟨by rfl, ?hcb8⟩) hS1 ?_
      case hcb8 => (intro w hSw; go_simp; try with_reducible rfl)
      try simp only [Act.put, List.setIfInBounds_toArray, List.set_cons_zero, List.set_cons_succ]
      refine wpAnyH_take (i := 9) (oi := ({ dst := some 30, op := Op.pick (Operand.tmp 24) (Operand.const (Value.bool true)) (Operand.tmp 29), type := 4, pos := "score.go:25", after := #[{ on := 3, ground := Ground.data }, { on := 8, ground := Ground.data }], guard := none } : Oper)) (v := ?vcb9) rfl (by kernel_rfl) (by kernel_rfl) (by kernel_rfl) (fun _ _ _ h => h) (Or.inl ⟨by rfl, ?hcb9⟩) hS1 ?_
      case hcb9 => (intro w hSw; go_simp; try with_reducible rfl)
      try simp only [Act.put, List.setIfInBounds_toArray, List.set_cons_zero, List.set_cons_succ]
      refine wpAnyH_done (by kernel_rfl) ?_ _
      go_wp2_with fail
      refine wp_region_held_drew (S := (fun w' => w'.cell? ⟨w.heap.size + 1, 0, none⟩ = some (.slice (some ⟨w.heap.size + 1 + 1, 0, none⟩) paths paths))) (by kernel_rfl) (show _ from cM) (fun hS0 => ?_)
      refine wpAnyH_take (i := 0) (oi := ({ dst := some 31, op := Op.move (Operand.tmp 0), type := 38, pos := "score.go:26", after := #[], guard := none } : Oper)) (v := ?veb1) rfl (by kernel_rfl) (by kernel_rfl) (by kernel_rfl) (fun _ _ _ h => h) (Or.inl ⟨by rfl, ?heb1⟩) hS0 ?_
      case heb1 => (intro w hSw; go_simp; try with_reducible rfl)
      try simp only [Act.put, List.setIfInBounds_toArray, List.set_cons_zero, List.set_cons_succ]
      refine wpAnyH_take (i := 2) (oi := ({ dst := some 33, op := Op.move (Operand.tmp 1), type := 3, pos := "score.go:26", after := #[{ on := 4, ground := Ground.gcOnly Departure.lateStores }], guard := none } : Oper)) (v := ?veb2) rfl (by kernel_rfl) (by kernel_rfl) (by kernel_rfl) (fun _ _ _ h => h) (Or.inl ⟨by rfl, ?heb2⟩) hS0 ?_
      case heb2 => (intro w hSw; go_simp; try with_reducible rfl)
      try simp only [Act.put, List.setIfInBounds_toArray, List.set_cons_zero, List.set_cons_succ]
      refine wpAnyH_take (i := 3) (oi := ({ dst := some 34, op := Op.load 22 (Operand.tmp 10), type := 22, pos := "score.go:26", after := #[{ on := 5, ground := Ground.gcOnly Departure.lateStores }], guard := none } : Oper)) (v := ?veb3) rfl (by kernel_rfl) (by kernel_rfl) (by kernel_rfl) (fun _ _ _ h => h) (Or.inl ⟨by rfl, ?heb3⟩) hS0 ?_
      case heb3 => (intro w hSw; have qm : w.cell? _ = some (.slice _ paths paths) := hSw; go_simp; try with_reducible rfl)
      try simp only [Act.put, List.setIfInBounds_toArray, List.set_cons_zero, List.set_cons_succ]
      refine wpAnyH_ready (rs := [1]) (by kernel_rfl) (by simp) ?_
      refine AllReadyH.cons (o := ({ dst := some 32, op := Op.call { callee := Callee.value (Operand.func 18), args := #[Operand.tmp 31], argTypes := #[38] }, type := 38, pos := "score.go:26", after := #[{ on := 0, ground := Ground.data }], guard := none } : Oper)) rfl (fun K hK => ?_) AllReadyH.nil
      refine step_call1 rfl 18 (.tmp 31) 38 rfl _ rfl rfl enters_sOwn _ OC ?_
      rintro _ w4 ⟨a4, c4, rfl, rs4, b4⟩
      refine hK.out _ _ (KM _ b4) (fun hS1 => ?_)
      clear hK K
      try simp only [Act.put, List.setIfInBounds_toArray, List.set_cons_zero, List.set_cons_succ]
      refine wpAnyH_take (i := 4) (oi := ({ dst := some 8, op := Op.assign (Operand.tmp 32), type := 38, pos := "score.go:26", after := #[{ on := 1, ground := Ground.data }, { on := 1, ground := Ground.chain }, { on := 0, ground := Ground.phase }, { on := 1, ground := Ground.phase }, { on := 2, ground := Ground.textOnly Departure.lateStores }, { on := 3, ground := Ground.textOnly Departure.lateStores }], guard := none } : Oper)) (v := ?veb4) rfl (by kernel_rfl) (by kernel_rfl) (by kernel_rfl) (fun _ _ _ h => h) (Or.inl ⟨by rfl, ?heb4⟩) hS1 ?_
      case heb4 => (intro w hSw; go_simp; try with_reducible rfl)
      try simp only [Act.put, List.setIfInBounds_toArray, List.set_cons_zero, List.set_cons_succ]
      refine wpAnyH_take (i := 5) (oi := ({ dst := some 9, op := Op.assign (Operand.tmp 33), type := 3, pos := "score.go:26", after := #[{ on := 2, ground := Ground.data }, { on := 4, ground := Ground.chain }, { on := 0, ground := Ground.phase }, { on := 1, ground := Ground.phase }, { on := 2, ground := Ground.phase }, { on := 3, ground := Ground.textOnly Departure.lateStores }, { on := 4, ground := Ground.phase }], guard := none } : Oper)) (v := ?veb5) rfl (by kernel_rfl) (by kernel_rfl) (by kernel_rfl) (fun _ _ _ h => h) (Or.inl ⟨by rfl, ?heb5⟩) hS1 ?_
      case heb5 => (intro w hSw; go_simp; try with_reducible rfl)
      try simp only [Act.put, List.setIfInBounds_toArray, List.set_cons_zero, List.set_cons_succ]
      refine wpAnyH_ready (rs := [6]) (by kernel_rfl) (by simp) ?_
      refine AllReadyH.cons (o := ({ dst := none, op := Op.store 22 (Operand.tmp 10) (Operand.tmp 34), type := 0, pos := "score.go:26", after := #[{ on := 3, ground := Ground.data }, { on := 5, ground := Ground.chain }, { on := 0, ground := Ground.phase }, { on := 1, ground := Ground.phase }, { on := 2, ground := Ground.phase }, { on := 3, ground := Ground.phase }, { on := 4, ground := Ground.phase }, { on := 5, ground := Ground.phase }], guard := none } : Oper)) rfl (fun K hK => ?_) AllReadyH.nil
      refine step_st (by rfl) 22 (.tmp 10) (.tmp 34) rfl _ _ rfl rfl (run_stS (KM _ b4) (FM _ b4)) ?_
      refine hK.out _ _ (KM _ b4) (fun hS2 => ?_)
      clear hK K
      try simp only [Act.put]
      refine wpAnyH_take (i := 7) (oi := ({ dst := some 11, op := Op.assign (Operand.const (Value.slice none 0 0)), type := 22, pos := "score.go:26", after := #[{ on := 6, ground := Ground.chain }, { on := 0, ground := Ground.phase }, { on := 1, ground := Ground.phase }, { on := 2, ground := Ground.phase }, { on := 3, ground := Ground.phase }, { on := 4, ground := Ground.phase }, { on := 5, ground := Ground.phase }, { on := 6, ground := Ground.phase }], guard := none } : Oper)) (v := ?veb6) rfl (by kernel_rfl) (by kernel_rfl) (by kernel_rfl) (fun _ _ _ h => h) (Or.inl ⟨by rfl, ?heb6⟩) hS2 ?_
      case heb6 => (intro w hSw; go_simp; try with_reducible rfl)
      try simp only [Act.put, List.setIfInBounds_toArray, List.set_cons_zero, List.set_cons_succ]
      refine wpAnyH_done (by kernel_rfl) ?_ _
      go_wp2_with fail
      have e10 := KM _ b4
      obtain ⟨E1, E2⟩ := (EARLY _ _ _ rs4 b4 (.inr hgt)).out
      exact bodyPost_ret (v := .tuple #[.slice a4 l.length c4, .int .i64 cum, .slice (some ⟨w.heap.size + 1 + 1, 0, none⟩) paths paths, .slice none 0 0]) (by simp [results, Try.results15, go_sem, e10]) rfl ⟨_, rfl, E1, E2⟩
    · have hd2 : decide (lastM l cum < n) = false := decide_eq_false hgt
      clear EARLY OC
      refine wp_region_held_drew (S := (fun w' => w'.cell? ⟨w.heap.size + 1 + 1 + 1, 0, none⟩ = some (.int .i64 n))) (by kernel_rfl) (show _ from cN) (fun hS0 => ?_)
      refine wpAnyH_take (i := 0) (oi := ({ dst := some 21, op := Op.load 3 (Operand.tmp 12), type := 3, pos := "score.go:25", after := #[], guard := none } : Oper)) (v := ?vcc1) rfl (by kernel_rfl) (by kernel_rfl) (by kernel_rfl) (fun _ _ _ h => h) (Or.inl ⟨by rfl, ?hcc1⟩) hS0 ?_
      case hcc1 => (intro w hSw; have qn : w.cell? _ = some (.int .i64 n) := hSw; go_simp; try with_reducible rfl)
      try simp only [Act.put, List.setIfInBounds_toArray, List.set_cons_zero, List.set_cons_succ]
      refine wpAnyH_take (i := 1) (oi := ({ dst := some 22, op := Op.move (Operand.tmp 1), type := 3, pos := "score.go:25", after := #[], guard := none } : Oper)) (v := ?vcc2) rfl (by kernel_rfl) (by kernel_rfl) (by kernel_rfl) (fun _ _ _ h => h) (Or.inl ⟨by rfl, ?hcc2⟩) hS0 ?_
      case hcc2 => (intro w hSw; go_simp; try with_reducible rfl)
      try simp only [Act.put, List.setIfInBounds_toArray, List.set_cons_zero, List.set_cons_succ]
      refine wpAnyH_take (i := 2) (oi := ({ dst := some 23, op := Op.binOp BinOp.lss 3 (Operand.tmp 21) (Operand.tmp 22) 3, type := 4, pos := "score.go:25", after := #[{ on := 0, ground := Ground.data }, { on := 1, ground := Ground.data }], guard := none } : Oper)) (v := ?vcc3) rfl (by kernel_rfl) (by kernel_rfl) (by kernel_rfl) (fun _ _ _ h => h) (Or.inl ⟨by rfl, ?hcc3⟩) hS0 ?_
      case hcc3 => (intro w hSw; go_simp; try with_reducible rfl)
      try simp only [Act.put, List.setIfInBounds_toArray, List.set_cons_zero, List.set_cons_succ]
      refine wpAnyH_take (i := 3) (oi := ({ dst := some 24, op := Op.move (Operand.tmp 23), type := 4, pos := "score.go:25", after := #[{ on := 2, ground := Ground.data }], guard := none } : Oper)) (v := ?vcc4) rfl (by kernel_rfl) (by kernel_rfl) (by kernel_rfl) (fun _ _ _ h => h) (Or.inl ⟨by rfl, ?hcc4⟩) hS0 ?_
      case hcc4 => (intro w hSw; go_simp; try with_reducible rfl)
      try simp only [Act.put, List.setIfInBounds_toArray, List.set_cons_zero, List.set_cons_succ]
      refine wpAnyH_take (i := 4) (oi := ({ dst := some 25, op := Op.load 3 (Operand.tmp 12), type := 3, pos := "score.go:25", after := #[{ on := 3, ground := Ground.guard }], guard := some (3, false) } : Oper)) (v := ?vcc5) rfl (by kernel_rfl) (by kernel_rfl) (by kernel_rfl) (fun _ _ _ h => h) (Or.inl ⟨by rfl, ?hcc5⟩) hS0 ?_
      case hcc5 => (intro w hSw; have qn : w.cell? _ = some (.int .i64 n) := hSw; go_simp; try with_reducible rfl)
      try simp only [Act.put, List.setIfInBounds_toArray, List.set_cons_zero, List.set_cons_succ]
      refine wpAnyH_take (i := 5) (oi := ({ dst := some 26, op := Op.move (Operand.tmp 0), type := 38, pos := "score.go:25", after := #[{ on := 3, ground := Ground.guard }], guard := some (3, false) } : Oper)) (v := ?vcc6) rfl (by kernel_rfl) (by kernel_rfl) (by kernel_rfl) (fun _ _ _ h => h) (Or.inl ⟨by rfl, ?hcc6⟩) hS0 ?_
      case hcc6 => (intro w hSw; go_simp; try with_reducible rfl)
      try simp only [Act.put, List.setIfInBounds_toArray, List.set_cons_zero, List.set_cons_succ]
      refine wpAnyH_take (i := 6) (oi := ({ dst := some 27, op := Op.move (Operand.tmp 1), type := 3, pos := "score.go:25", after := #[{ on := 3, ground := Ground.guard }], guard := some (3, false) } : Oper)) (v := ?vcc7) rfl (by kernel_rfl) (by kernel_rfl) (by kernel_rfl) (fun _ _ _ h => h) (Or.inl ⟨by rfl, ?hcc7⟩) hS0 ?_
      case hcc7 => (intro w hSw; go_simp; try with_reducible rfl)
      try simp only [Act.put, List.setIfInBounds_toArray, List.set_cons_zero, List.set_cons_succ]
      refine wpAnyH_ready (rs := [7]) (by kernel_rfl) (by simp) ?_
      refine AllReadyH.cons (o := ({ dst := some 28, op := Op.call { callee := Callee.value (Operand.func 38), args := #[Operand.tmp 26, Operand.tmp 27], argTypes := #[38, 3] }, type := 3, pos := "score.go:25", after := #[{ on := 5, ground := Ground.data }, { on := 6, ground := Ground.data }, { on := 3, ground := Ground.chain }, { on := 3, ground := Ground.guard }], guard := some (3, false) } : Oper)) rfl (fun K hK => ?_) AllReadyH.nil
      refine step_call2w (by rfl) 38 (.tmp 26) (.tmp 27) #[38, 3] rfl _ _ rfl rfl rfl enters_last _ LA ?_
      rintro _ wl ⟨rfl, rfl⟩
      refine hK.out _ _ (show _ from cN) (fun hS1 => ?_)
      clear hK K
      try simp only [Act.put, List.setIfInBounds_toArray, List.set_cons_zero, List.set_cons_succ]
      refine wpAnyH_take (i := 8) (oi := ({ dst := some 29, op := Op.binOp BinOp.gtr 3 (Operand.tmp 25) (Operand.tmp 28) 3, type := 4, pos := "score.go:25", after := #[{ on := 4, ground := Ground.data }, { on := 7, ground := Ground.data }, { on := 3, ground := Ground.guard }], guard := some (3, false) } : Oper)) (v := ?vcc8) rfl (by kernel_rfl) (by kernel_rfl) (by kernel_rfl) (fun _ _ _ h => h) (Or.inl ⟨by rfl, ?hcc8⟩) hS1 ?_
      case hcc8 => (intro w hSw; go_simp; try with_reducible rfl)
      try simp only [Act.put, List.setIfInBounds_toArray, List.set_cons_zero, List.set_cons_succ]
      refine wpAnyH_take (i := 9) (oi := ({ dst := some 30, op := Op.pick (Operand.tmp 24) (Operand.const (Value.bool true)) (Operand.tmp 29), type := 4, pos := "score.go:25", after := #[{ on := 3, ground := Ground.data }, { on := 8, ground := Ground.data }], guard := none } : Oper)) (v := ?vcc9) rfl (by kernel_rfl) (by kernel_rfl) (by kernel_rfl) (fun _ _ _ h => h) (Or.inl ⟨by rfl, ?hcc9⟩) hS1 ?_
      case hcc9 => (intro w hSw; go_simp; try with_reducible rfl)
      try simp only [Act.put, List.setIfInBounds_toArray, List.set_cons_zero, List.set_cons_succ]
      refine wpAnyH_done (by kernel_rfl) ?_ _
      go_wp2_with fail
      have sz5 : (w3.alloc (.cells #[.int .i64 n] 3)).drew.heap.size = w.heap.size + 5 := by simp [hz]
      have B5 : Below (w.heap.size + 4) w3 (w3.alloc (.cells #[.int .i64 n] 3)).drew := ((Below.refl _ w3).alloc (by omega) _).trans (drew_below _ _)
      have CH : Cells (w.heap.size + 4) (w3.alloc (.cells #[.int .i64 n] 3)).drew [.int .i64 n] := by
        have h := Cells.new' (w := w3) (X := w.heap.size + 4) #[.int .i64 n] 3 hz.symm
        exact ⟨h.cell, h.fz⟩
      generalize (w3.alloc (.cells #[.int .i64 n] 3)).drew = w5 at *
      have BW5 : Below w.heap.size w w5 := B3.trans (B5.mono (by omega))
      have J0 : ArJ (w.heap.size + 1 + 1 + 1) w.heap.size (w.heap.size + 4) (w.heap.size + 1) (w.heap.size + 1 + 1) w.heap.size n spans (.slice asp spans.length csp) paths l 0 w5 :=
        ⟨(CN.below B5 (by omega)).cell 0 _ rfl, (CC.below B5 (by omega)).cell 8 _ rfl, hs.below BW5 (Nat.le_refl _), CH.cell 0 _ rfl, CH.fz 0, (CM.below B5 (by omega)).cell 0 _ rfl, by
          show Cells _ _ (cellsI (List.replicate paths 0))
          exact CZ.below B5 (by omega)⟩
      have EA := each_any 39 #[.pointer (some ⟨w.heap.size + 1 + 1 + 1, 0, none⟩), .pointer (some ⟨w.heap.size, 0, none⟩), .pointer (some ⟨w.heap.size + 4, 0, none⟩), .pointer (some ⟨w.heap.size + 1, 0, none⟩)] (arrM n spans) (fun b => b ≠ w.heap.size + 4 ∧ b ≠ w.heap.size + 1 + 1) (ArJ (w.heap.size + 1 + 1 + 1) w.heap.size (w.heap.size + 4) (w.heap.size + 1) (w.heap.size + 1 + 1) w.heap.size n spans (.slice asp spans.length csp) paths l) w.heap.size _ l w5 (SlG.below SnV.bears HV BW5 (Nat.le_refl _)) (by omega) (fun k hk => ⟨by omega, by omega⟩) (fun k hk => ⟨by omega, by omega⟩) hfit hlen enters_arrive (arr_put n spans) J0 (fun k wx wy hj hb => hj.below hb (by omega) (by omega) (by omega) (by omega) (by omega) (by omega))
        (chg_arrive (w.heap.size + 1 + 1 + 1) w.heap.size (w.heap.size + 4) (w.heap.size + 1) (w.heap.size + 1 + 1) w.heap.size w5.heap.size n spans asp csp paths l (by omega) (by omega) (by omega) (by omega) (by omega) (by omega) (by omega) (by omega) (by omega) (by omega) (by omega) (by omega) (by omega) (by omega) (by omega) (by omega) hnum hpath)
      refine EA.mono ?_
      rintro e w6 ⟨a6, c6, rfl, rs6, J6, k6⟩
      have sz6 := k6.size
      have hlm : (l.map (arrM n spans)).length = l.length := by simp
      have DA := delete_any (fun b => b ≠ w.heap.size + 4 ∧ b ≠ w.heap.size + 1 + 1) (w.heap.size + 1 + 1 + 1) n w5.heap.size a6 c6 (l.map (arrM n spans)) w6 rs6 J6.cn (by omega) sz6 (fun k hk => ⟨by omega, by omega⟩)
      rw [hlm] at DA
      have HLN : (leftM n (l.map (arrM n spans))).length ≤ l.length := by rw [leftM]; exact Nat.le_trans (List.length_filter_le _ _) (by simp)
      have HML : ∀ x ∈ leftM n (l.map (arrM n spans)), 0 ≤ x.missed ∧ x.missed ≤ 2000000 := fun x hx => by
        obtain ⟨y, hy, rfl⟩ := List.mem_map.1 (List.mem_filter.1 hx).1
        rw [arr_missed]
        exact hmis y hy
      have HRR : Hid (sackF l cum tag spans paths = ⟨(leftM n (l.map (arrM n spans))).map (missM (hiM n spans n l)), n, comeM n spans (List.replicate paths 0) l, lostM (hiM n spans n l) (leftM n (l.map (arrM n spans)))⟩) := by
        show _ = _
        rw [HSF.out, if_neg (by omega)]
        rfl
      have J6h := J6.ch
      have J6z := J6.cz
      have J6n := J6.cn
      have J6m := J6.cm
      rw [List.take_of_length_le (Nat.le_refl _)] at J6h J6z
      have K6 : Below w.heap.size w w6 := BW5.trans (k6.below (B := w.heap.size) fun k hk => ⟨by omega, by omega, by omega⟩)
      have HIC : Hid (IsI (comeM n spans (List.replicate paths 0) l)) := come_I64 l fun z hzm => by
        obtain ⟨-, rfl⟩ := List.mem_replicate.1 hzm
        unfold I64; omega
      have HNL : Hid (IsI (lostM (hiM n spans n l) (leftM n (l.map (arrM n spans))))) := fun z hzm => by
        obtain ⟨x, hx, rfl⟩ := List.mem_map.1 hzm
        obtain ⟨y, hy, rfl⟩ := List.mem_map.1 (List.mem_filter.1 (List.mem_filter.1 hx).1).1
        rw [arr_number]
        have := hnum y hy
        unfold I64; omega
      have HCL : Hid ((comeM n spans (List.replicate paths 0) l).length = paths) := by show _ = _; rw [comeM_len]; simp
      have FM6 := J6.cm
      have fM6 : w6.frozen? ⟨w.heap.size + 1, 0, none⟩ = false := (k6.frozen (p := ⟨w.heap.size + 1, 0, none⟩) ⟨by show w.heap.size + 1 < _; omega, by show w.heap.size + 1 ≠ _; omega, by show w.heap.size + 1 ≠ _; omega⟩).trans ((CM.below B5 (by omega)).fz 0)
      generalize hiM n spans n l = hi at *
      generalize comeM n spans (List.replicate paths 0) l = zs at *
      generalize leftM n (l.map (arrM n spans)) = L at *
      clear EA J6 J0 rs6 FM6 NO hNw
      go_wp2_with fail
      refine DA.mono ?_
      rintro e w7 ⟨a7, c7, rfl, rs7, b7⟩
      have sz7 := b7.size
      have KC : ∀ b, b < w5.heap.size → ∀ j, w7.cell? ⟨b, j, none⟩ = w6.cell? ⟨b, j, none⟩ := fun b hb j => b7.cell (p := ⟨b, j, none⟩) hb
      have dM := (KC (w.heap.size + 1) (by omega) 0).trans J6m
      have dN := (KC (w.heap.size + 1 + 1 + 1) (by omega) 0).trans J6n
      have dH := (KC (w.heap.size + 4) (by omega) 0).trans J6h
      have fM7 : w7.frozen? ⟨w.heap.size + 1, 0, none⟩ = false := (b7.frozen (p := ⟨w.heap.size + 1, 0, none⟩) (by show w.heap.size + 1 < _; omega)).trans fM6
      have MC := (miss_any (fun b => b ≠ w.heap.size + 4 ∧ b ≠ w.heap.size + 1 + 1) w5.heap.size hi a7 c7 L w7.drew (rs7.keep (fun k hk => ⟨by omega, by omega⟩) (Keep.refl _ w7).drew) (by omega) HML).mono (R' := fun e w' => ∃ v, e = .returned v ∧ ∃ al cl, v = .slice al (lostM hi L).length cl ∧ w'.ownsRow w7.heap.size 3 1 (.slice al (lostM hi L).length cl) (lostM hi L).length (cellsI (lostM hi L)) ∧ SnRes (fun b => b ≠ w.heap.size + 4 ∧ b ≠ w.heap.size + 1 + 1) w5.heap.size w' a7 c7 (L.map (missM hi)) ∧ Below w5.heap.size w7 w') fun e w' ⟨al, cl, e1, o1, r1, k1⟩ => ⟨_, e1, al, cl, rfl, o1, r1, (drew_below _ w7).trans k1⟩
      have KD : ∀ w', Below w5.heap.size w7 w' → w'.cell? ⟨w.heap.size + 1, 0, none⟩ = some (.slice (some ⟨w.heap.size + 1 + 1, 0, none⟩) paths paths) ∧ w'.cell? ⟨w.heap.size + 1 + 1 + 1, 0, none⟩ = some (.int .i64 n) ∧ w'.cell? ⟨w.heap.size + 4, 0, none⟩ = some (.int .i64 hi) := fun w' hb => ⟨(hb.cell (p := ⟨w.heap.size + 1, 0, none⟩) (by show w.heap.size + 1 < _; omega)).trans dM, (hb.cell (p := ⟨w.heap.size + 1 + 1 + 1, 0, none⟩) (by show w.heap.size + 1 + 1 + 1 < _; omega)).trans dN, (hb.cell (p := ⟨w.heap.size + 4, 0, none⟩) (by show w.heap.size + 4 < _; omega)).trans dH⟩
      have FD : ∀ w', Below w5.heap.size w7 w' → w'.frozen? ⟨w.heap.size + 1, 0, none⟩ = false := fun w' hb => (hb.frozen (p := ⟨w.heap.size + 1, 0, none⟩) (by show w.heap.size + 1 < _; omega)).trans fM7
      clear DA KM FM
      go_wp2_with fail
      refine wp_region_held_drew (S := (fun w' => w'.cell? ⟨w.heap.size + 1, 0, none⟩ = some (.slice (some ⟨w.heap.size + 1 + 1, 0, none⟩) paths paths) ∧ w'.cell? ⟨w.heap.size + 1 + 1 + 1, 0, none⟩ = some (.int .i64 n) ∧ w'.cell? ⟨w.heap.size + 4, 0, none⟩ = some (.int .i64 hi))) (by kernel_rfl) ⟨dM, dN, dH⟩ (fun hS0 => ?_)
      refine wpAnyH_take (i := 0) (oi := ({ dst := some 42, op := Op.move (Operand.tmp 8), type := 38, pos := "score.go:41", after := #[], guard := none } : Oper)) (v := ?vla1) rfl (by kernel_rfl) (by kernel_rfl) (by kernel_rfl) (fun _ _ _ h => h) (Or.inl ⟨by rfl, ?hla1⟩) hS0 ?_
      case hla1 => (intro w hSw; have q1 := hSw.1; have q2 := hSw.2.1; have q3 := hSw.2.2; go_simp; try with_reducible rfl)
      try simp only [Act.put, List.setIfInBounds_toArray, List.set_cons_zero, List.set_cons_succ]
      refine wpAnyH_take (i := 1) (oi := ({ dst := some 43, op := Op.load 3 (Operand.tmp 12), type := 3, pos := "score.go:41", after := #[{ on := 6, ground := Ground.gcOnly Departure.lateStores }], guard := none } : Oper)) (v := ?vla2) rfl (by kernel_rfl) (by kernel_rfl) (by kernel_rfl) (fun _ _ _ h => h) (Or.inl ⟨by rfl, ?hla2⟩) hS0 ?_
      case hla2 => (intro w hSw; have q1 := hSw.1; have q2 := hSw.2.1; have q3 := hSw.2.2; go_simp; try with_reducible rfl)
      try simp only [Act.put, List.setIfInBounds_toArray, List.set_cons_zero, List.set_cons_succ]
      refine wpAnyH_take (i := 2) (oi := ({ dst := some 44, op := Op.load 22 (Operand.tmp 10), type := 22, pos := "score.go:41", after := #[{ on := 7, ground := Ground.gcOnly Departure.lateStores }], guard := none } : Oper)) (v := ?vla3) rfl (by kernel_rfl) (by kernel_rfl) (by kernel_rfl) (fun _ _ _ h => h) (Or.inl ⟨by rfl, ?hla3⟩) hS0 ?_
      case hla3 => (intro w hSw; have q1 := hSw.1; have q2 := hSw.2.1; have q3 := hSw.2.2; go_simp; try with_reducible rfl)
      try simp only [Act.put, List.setIfInBounds_toArray, List.set_cons_zero, List.set_cons_succ]
      refine wpAnyH_take (i := 3) (oi := ({ dst := some 45, op := Op.move (Operand.tmp 8), type := 38, pos := "score.go:41", after := #[], guard := none } : Oper)) (v := ?vla4) rfl (by kernel_rfl) (by kernel_rfl) (by kernel_rfl) (fun _ _ _ h => h) (Or.inl ⟨by rfl, ?hla4⟩) hS0 ?_
      case hla4 => (intro w hSw; have q1 := hSw.1; have q2 := hSw.2.1; have q3 := hSw.2.2; go_simp; try with_reducible rfl)
      try simp only [Act.put, List.setIfInBounds_toArray, List.set_cons_zero, List.set_cons_succ]
      refine wpAnyH_take (i := 4) (oi := ({ dst := some 46, op := Op.load 3 (Operand.tmp 13), type := 3, pos := "score.go:41", after := #[], guard := none } : Oper)) (v := ?vla5) rfl (by kernel_rfl) (by kernel_rfl) (by kernel_rfl) (fun _ _ _ h => h) (Or.inl ⟨by rfl, ?hla5⟩) hS0 ?_
      case hla5 => (intro w hSw; have q1 := hSw.1; have q2 := hSw.2.1; have q3 := hSw.2.2; go_simp; try with_reducible rfl)
      try simp only [Act.put, List.setIfInBounds_toArray, List.set_cons_zero, List.set_cons_succ]
      refine wpAnyH_ready (rs := [5]) (by kernel_rfl) (by simp) ?_
      refine AllReadyH.cons (o := ({ dst := some 47, op := Op.call { callee := Callee.value (Operand.func 45), args := #[Operand.tmp 45, Operand.tmp 46], argTypes := #[38, 3] }, type := 22, pos := "score.go:41", after := #[{ on := 3, ground := Ground.data }, { on := 4, ground := Ground.data }], guard := none } : Oper)) rfl (fun K hK => ?_) AllReadyH.nil
      refine step_call2 rfl 45 (.tmp 45) (.tmp 46) #[38, 3] rfl _ _ rfl rfl rfl enters_miss _ MC ?_
      rintro _ w8 ⟨al, cl, rfl, own8, rs8, b8⟩
      refine hK.out _ _ (KD _ b8) (fun hS1 => ?_)
      clear hK K
      try simp only [Act.put, List.setIfInBounds_toArray, List.set_cons_zero, List.set_cons_succ]
      refine wpAnyH_take (i := 6) (oi := ({ dst := some 8, op := Op.assign (Operand.tmp 42), type := 38, pos := "score.go:41", after := #[{ on := 0, ground := Ground.data }, { on := 5, ground := Ground.chain }, { on := 0, ground := Ground.phase }, { on := 1, ground := Ground.textOnly Departure.lateStores }, { on := 2, ground := Ground.textOnly Departure.lateStores }, { on := 3, ground := Ground.phase }, { on := 4, ground := Ground.textOnly Departure.inlinedCapture }, { on := 5, ground := Ground.textOnly Departure.lateStoresUnsure }], guard := none } : Oper)) (v := ?vla6) rfl (by kernel_rfl) (by kernel_rfl) (by kernel_rfl) (fun _ _ _ h => h) (Or.inl ⟨by rfl, ?hla6⟩) hS1 ?_
      case hla6 => (intro w hSw; go_simp; try with_reducible rfl)
      try simp only [Act.put, List.setIfInBounds_toArray, List.set_cons_zero, List.set_cons_succ]
      refine wpAnyH_take (i := 7) (oi := ({ dst := some 9, op := Op.assign (Operand.tmp 43), type := 3, pos := "score.go:41", after := #[{ on := 1, ground := Ground.data }, { on := 6, ground := Ground.chain }, { on := 0, ground := Ground.phase }, { on := 1, ground := Ground.phase }, { on := 2, ground := Ground.textOnly Departure.lateStores }, { on := 3, ground := Ground.phase }, { on := 4, ground := Ground.textOnly Departure.inlinedCapture }, { on := 5, ground := Ground.textOnly Departure.lateStoresUnsure }, { on := 6, ground := Ground.phase }], guard := none } : Oper)) (v := ?vla7) rfl (by kernel_rfl) (by kernel_rfl) (by kernel_rfl) (fun _ _ _ h => h) (Or.inl ⟨by rfl, ?hla7⟩) hS1 ?_
      case hla7 => (intro w hSw; go_simp; try with_reducible rfl)
      try simp only [Act.put, List.setIfInBounds_toArray, List.set_cons_zero, List.set_cons_succ]
      refine wpAnyH_ready (rs := [8]) (by kernel_rfl) (by simp) ?_
      refine AllReadyH.cons (o := ({ dst := none, op := Op.store 22 (Operand.tmp 10) (Operand.tmp 44), type := 0, pos := "score.go:41", after := #[{ on := 2, ground := Ground.data }, { on := 7, ground := Ground.chain }, { on := 0, ground := Ground.phase }, { on := 1, ground := Ground.phase }, { on := 2, ground := Ground.phase }, { on := 3, ground := Ground.phase }, { on := 4, ground := Ground.textOnly Departure.inlinedCapture }, { on := 5, ground := Ground.textOnly Departure.lateStoresUnsure }, { on := 6, ground := Ground.phase }, { on := 7, ground := Ground.phase }], guard := none } : Oper)) rfl (fun K hK => ?_) AllReadyH.nil
      refine step_st (by rfl) 22 (.tmp 10) (.tmp 44) rfl _ _ rfl rfl (run_stS (KD _ b8).1 (FD _ b8)) ?_
      refine hK.out _ _ (KD _ b8) (fun hS2 => ?_)
      clear hK K
      try simp only [Act.put]
      refine wpAnyH_take (i := 9) (oi := ({ dst := some 11, op := Op.assign (Operand.tmp 47), type := 22, pos := "score.go:41", after := #[{ on := 5, ground := Ground.data }, { on := 8, ground := Ground.chain }, { on := 0, ground := Ground.phase }, { on := 1, ground := Ground.phase }, { on := 2, ground := Ground.phase }, { on := 3, ground := Ground.phase }, { on := 4, ground := Ground.phase }, { on := 5, ground := Ground.phase }, { on := 6, ground := Ground.phase }, { on := 7, ground := Ground.phase }, { on := 8, ground := Ground.phase }], guard := none } : Oper)) (v := ?vla8) rfl (by kernel_rfl) (by kernel_rfl) (by kernel_rfl) (fun _ _ _ h => h) (Or.inl ⟨by rfl, ?hla8⟩) hS2 ?_
      case hla8 => (intro w hSw; go_simp; try with_reducible rfl)
      try simp only [Act.put, List.setIfInBounds_toArray, List.set_cons_zero, List.set_cons_succ]
      refine wpAnyH_done (by kernel_rfl) ?_ _
      go_wp2_with fail
      have e10 := (KD _ b8).1
      have sz8 := b8.size
      refine bodyPost_ret (v := .tuple #[.slice a7 L.length c7, .int .i64 n, .slice (some ⟨w.heap.size + 1 + 1, 0, none⟩) paths paths, .slice al (lostM hi L).length cl]) (by simp [results, Try.results15, go_sem, e10]) rfl ⟨_, rfl, ?_, ?_⟩
      · rw [HRR.out]
        refine ⟨a7, c7, some ⟨w.heap.size + 1 + 1, 0, none⟩, paths, al, cl, ?_, rs8.s, ?_, In.own own8 rfl HNL.out⟩
        · show Value.tuple #[_, _, .slice _ paths _, _] = .tuple #[.slice _ (L.map (missM hi)).length _, _, .slice _ zs.length _, _]
          rw [HCL.out, List.length_map]
        · show In w8.heap.size w8 (.slice _ zs.length paths) zs
          exact In.cells ((J6z.below b7 (by omega)).below b8 (by omega)) (by omega) rfl (by rw [HCL.out]; exact Nat.le_refl _) (by omega) HIC.out
      · exact K6.trans ((b7.trans (b8.mono (Nat.le_refl _))).mono (by omega))
end Go.Proofs.Ytnddejdndipddac
