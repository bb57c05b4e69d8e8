/- The contracts of score's skip and Point. -/
import Derived.Test.YtnddejdndipddacSoI
set_option maxRecDepth 20000
namespace Go.Proofs.Ytnddejdndipddac
open Go.RowKit

theorem enters_skip1 (args : Array Value) (wx : World) : (callFunc 69 args).run Try.prog wx = .ok (.enter 69 args) wx := enters_body Try.func69 (by kernel_rfl) rfl args wx
theorem run_eql_sk (s t : Sk) (wx : World) : (binOp .eql 60 (.agg #[.int .i64 s.stream, .int .i64 s.mid, .bool s.ordered]) (.agg #[.int .i64 t.stream, .int .i64 t.mid, .bool t.ordered])).run Try.prog wx = .ok (.bool (s.stream == t.stream && s.mid == t.mid && s.ordered == t.ordered)) wx := by
  cases h1 : (s.stream == t.stream) with
  | false =>
    have : ¬ s.stream = t.stream := by simpa using h1
    go_simp
  | true =>
    have e1 : s.stream = t.stream := by simpa using h1
    cases h2 : (s.mid == t.mid) with
    | false =>
      have : ¬ s.mid = t.mid := by simpa using h2
      go_simp
    | true =>
      have e2 : s.mid = t.mid := by simpa using h2
      cases h3 : (s.ordered == t.ordered) with
      | false =>
        have : ¬ s.ordered = t.ordered := by simpa using h3
        go_simp
      | true =>
        have e3 : s.ordered = t.ordered := by simpa using h3
        go_simp

set_option maxHeartbeats 400000 in
theorem asksSk_any (X : Nat) (s : Sk) (c : Ck) (w : World) (h0 : w.cell? ⟨X, 0, none⟩ = some (.int .i64 c.stream)) (h1 : w.cell? ⟨X, 1, none⟩ = some (.int .i64 c.mid)) (h2 : w.cell? ⟨X, 2, none⟩ = some (.bool c.ordered)) :
    Calls Try.prog 69 #[.agg #[.int .i64 s.stream, .int .i64 s.mid, .bool s.ordered], .pointer (some ⟨X, 0, none⟩)] w fun e w' => e = .returned (.bool (skIs c s)) ∧ Below w.heap.size w w' := by
  have HB := fun o => box_below w o
  have HC0 := fun o => new_at h0 o
  have HC1 := fun o => new_at h1 o
  have HC2 := fun o => new_at h2 o
  have EQ := run_eql_sk s (skOf c)
  simp only [skOf] at EQ
  have HE : Hid (skIs c s = ((s.stream == c.stream && s.mid == c.mid && s.ordered == c.ordered) || (s.ordered && c.ordered && s.stream == c.stream))) := rfl
  obtain ⟨stream, mid, ordered⟩ := s
  simp only at *
  cases he : (stream == c.stream && mid == c.mid && ordered == c.ordered) with
  | true =>
    rw [he] at EQ
    go_enter Try.func69, Try.ntmps69
    go_wp2
    go_ret
    exact ⟨ret_bool (by rw [HE.out, he]; rfl), HB _⟩
  | false =>
    rw [he] at EQ
    cases ho : ordered with
    | false =>
      rw [ho] at EQ
      go_enter Try.func69, Try.ntmps69
      go_wp2
      go_ret
      exact ⟨ret_bool (by rw [← ho, HE.out, he, ho]; rfl), HB _⟩
    | true =>
      rw [ho] at EQ
      cases hc : c.ordered with
      | false =>
        rw [hc] at h2 HC2 EQ
        go_enter Try.func69, Try.ntmps69
        go_wp2
        go_ret
        exact ⟨ret_bool (by rw [← ho, HE.out, he, ho, hc]; rfl), HB _⟩
      | true =>
        rw [hc] at h2 HC2 EQ
        go_enter Try.func69, Try.ntmps69
        go_wp2
        go_ret
        exact ⟨ret_bool (by rw [← ho, HE.out, he, ho, hc]; simp), HB _⟩

set_option maxHeartbeats 1000000 in
theorem indexSk_any (X : Nat) (c : Ck) (v : Value) (ks : List Sk) (w : World) (hv : Kl w.heap.size w v ks) (h0 : w.cell? ⟨X, 0, none⟩ = some (.int .i64 c.stream)) (h1 : w.cell? ⟨X, 1, none⟩ = some (.int .i64 c.mid)) (h2 : w.cell? ⟨X, 2, none⟩ = some (.bool c.ordered)) :
    Calls Try.prog 68 #[v, .func (.func 69) #[] #[.pointer (some ⟨X, 0, none⟩)]] w fun e w' => (∃ k : Int, e = .returned (.int .i64 k) ∧ ((k = -1 ∧ ¬ ks.findIdx (skIs c) < ks.length) ∨ (k = (ks.findIdx (skIs c) : Nat) ∧ ks.findIdx (skIs c) < ks.length))) ∧ Below w.heap.size w w' := by
  have HV := hv
  obtain ⟨a, cap, rfl, g1, g2⟩ := hv.ex
  have hXlt := World.block_lt_of_cell? _ _ h0
  simp only at hXlt
  have HE := enters_skip1
  go_enter Try.func68, Try.ntmps68
  go_wp2_with fail
  go_loopw [8] (fun i wr => ∃ k : Nat, k ≤ ks.length ∧ i = .int .i64 k ∧ (∀ s ∈ ks.take k, skIs c s = false) ∧ Below w.heap.size w wr) (fun i _ => ks.length - (intOf i).toNat)
  case atStart => exact ⟨0, Nat.zero_le _, rfl, fun s hs => by simp at hs, Below.refl _ _⟩
  case round =>
    obtain ⟨k, hk, rfl, hno, BR⟩ := hrel
    have HNO : Hid (∀ s ∈ ks.take k, skIs c s = false) := hno
    clear hno
    by_cases hlt : k < ks.length
    · obtain ⟨b, off, hb, hix, x0, x1, x2⟩ := (HV.below BR (Nat.le_refl _)).at k hlt
      have AS := asksSk_any X ks[k] c wr ((BR.cell (p := ⟨X, 0, none⟩) hXlt).trans h0) ((BR.cell (p := ⟨X, 1, none⟩) hXlt).trans h1) ((BR.cell (p := ⟨X, 2, none⟩) hXlt).trans h2)
      have HX : Hid (ks.take (k + 1) = ks.take k ++ [ks[k]]) := List.take_succ_eq_append_getElem hlt
      have HF : Hid (skIs c ks[k] = true → ks.findIdx (skIs c) = k) := fun h => by
        refine (List.findIdx_eq hlt).2 ⟨h, fun j hj => ?_⟩
        exact HNO.out _ (by rw [List.mem_take_iff_getElem]; exact ⟨j, by omega, rfl⟩)
      generalize ks[k] = s at *
      go_wp2_with fail
      refine AS.mono ?_
      rintro e w1 ⟨rfl, b1⟩
      have B1 := BR.trans (b1.mono BR.size)
      cases hq : skIs c s with
      | true =>
        have FI := HF.out hq
        have HFI : Hid (ks.findIdx (skIs c) = k) := FI
        clear FI
        go_wp2_with fail
        go_ret
        exact ⟨⟨_, rfl, .inr ⟨by rw [HFI.out], by rw [HFI.out]; exact hlt⟩⟩, B1⟩
      | false =>
        have HN2 : Hid (∀ y ∈ ks.take (k + 1), skIs c y = false) := fun y hy => by
          rw [HX.out, List.mem_append] at hy
          rcases hy with hy | hy
          · exact HNO.out y hy
          · simp at hy; subst hy; exact hq
        go_wp2_with fail
        go_roundw
        case rel => exact ⟨k + 1, by omega, by go_num, HN2.out, B1⟩
        case measure => simp [intOf]; omega
    · have hkl : k = ks.length := by omega
      subst hkl
      have FI : Hid (¬ ks.findIdx (skIs c) < ks.length) := fun h => by
        have h1 := List.findIdx_getElem (p := skIs c) (w := h)
        have h2 := HNO.out _ (by rw [List.take_of_length_le (Nat.le_refl _)]; exact List.getElem_mem h)
        rw [h1] at h2
        simp at h2
      go_wp2_with fail
      go_ret
      exact ⟨⟨_, rfl, .inl ⟨rfl, FI.out⟩⟩, BR⟩

/-- Append onto an owned row: the elder slice reads as it did. -/
theorem run_app_old {T E : TypeId} {k bytes : Nat} {zero : Value} (hT : Try.prog.underlying T = some (.slice E)) (hE : (Try.prog.info? E).map (fun i => (i.zero, i.size, i.bytes)) = some (some zero, k, bytes))
    (hz : zero.cells.size = k) (hk : 0 < k) (w : World) (base : Nat) (ty : TypeId) (v : Value) (n : Nat) (xs : List Value) (hown : w.ownsRow base E k v n xs) (ad : Addr) (m cm : Nat) (ys : List Value) (hl : ys.length = m * k) (hc : ∀ j u, ys[j]? = some u → w.cell? (ad.add j) = some u)
    (hone : ∀ u ∈ ys, u.oneCell' = true) (hlen : n + m ≤ maxLen) (hbytes : (n + m) * bytes ≤ 140737488355328) (hbase : base ≤ w.heap.size) :
    ∃ v' w', (Builtin.append_ #[T, T] ty #[v, .slice (some ad) m cm]).run Try.prog w = .ok v' w' ∧ w'.ownsRow base E k v' (n + m) (xs ++ ys) ∧ Keep (fun b => b < w.heap.size ∧ v.ownBlock ≠ some b) w w' ∧ Rw k w'.heap.size w' v n xs := by
  obtain ⟨i0, hi, hz0, hz1, hz2⟩ := info_parts hE
  have hx := hown.1
  rcases hown.2 with ⟨rfl, rfl⟩ | ⟨g, cap, cur, rfl, h3, h4, h5, h6, h7, h8⟩
  · obtain ⟨v', w', r1, r2, r3, _, r5⟩ := run_append_own_at (P := Try.prog) w base T ty E i0 zero k bytes hT hi hz0 hz1 hz2 hz hk _ 0 xs hown ad m cm ys hl hc hone hlen hbytes hbase
    have hx0 : xs = [] := List.eq_nil_of_length_eq_zero (by simpa using hx)
    subst hx0
    refine ⟨v', w', r1, r2, (Keep.refl _ w).grown r3 (fun k hk => hk.1) (fun j hj => by simp [Value.ownBlock] at hj), Rw.nil _ _ _⟩
  · by_cases hroom : n + m ≤ cap
    · obtain ⟨w', r1, r2, r3⟩ := run_append_fits (P := Try.prog) w base T ty E i0 k hT hi hz1 g n cap xs hown ad m cm ys hl hc hone hroom
      have hs := r3.size
      have hgl := (Array.getElem?_eq_some_iff.1 h4).1
      refine ⟨_, w', r1, r2, (Keep.refl _ w).grown r3 (fun k hk => hk.1) (fun j hj hS => hS.2 hj), hx, some ⟨g, 0, none⟩, cap, rfl, h5, by unfold maxLen at h6; omega, fun h => by simp at h, fun _ => ⟨g, 0, rfl, by omega, fun j u hu => ?_⟩⟩
      have hj : j < xs.length := (List.getElem?_eq_some_iff.1 hu).1
      rw [Nat.zero_add, r2.cellAt j (by rw [hx] at hj; exact Nat.lt_of_lt_of_le hj (Nat.mul_le_mul_right _ (by omega))), List.getElem?_append_left hj]
      exact hu
    · obtain ⟨v', w', r1, r2, r3⟩ := run_append_arg_grows (P := Try.prog) w T ty E i0 zero k bytes hT hi hz0 hz1 hz2 hz hk ⟨g, 0, none⟩ n cap xs hx (fun j u hu => by
        have hj : j < xs.length := (List.getElem?_eq_some_iff.1 hu).1
        rw [add_plain, Nat.zero_add]
        exact (hown.cellAt j (by rw [hx] at hj; exact hj)).trans hu) ad m cm ys hl hc (by omega) hlen hbytes
      have b1 : Below w.heap.size w w' := (Below.refl _ w).grown r3 (Nat.le_refl _) (fun j hj => by simp at hj)
      refine ⟨v', w', r1, own_low r2 hbase, ⟨b1.os, b1.tape, b1.output, b1.size, fun i hi => b1.block i hi.1⟩, ?_⟩
      exact ((Rw.own hown hx).below b1 (Nat.le_refl _)).mono b1.size
theorem wpList_app_old {T E : TypeId} {k bytes : Nat} {zero : Value} (hT : Try.prog.underlying T = some (.slice E)) (hE : (Try.prog.info? E).map (fun i => (i.zero, i.size, i.bytes)) = some (some zero, k, bytes))
    (hz : zero.cells.size = k) (hk : 0 < k) (w : World) {ops : Array Oper} {rest : List Oper} {o : Oper} {a : Act} {Q : Exit → Act → World → Prop} (hgd : o.guard = none) (s x : Operand)
    (ho : o.op = .call { callee := .builtin .append, args := #[s, x], argTypes := #[T, T] })
    (base : Nat) (v : Value) (n : Nat) (xs : List Value) (hs : a.eval s = v) (hown : w.ownsRow base E k v n xs) (ad : Addr) (m cm : Nat) (ys : List Value) (hy : a.eval x = .slice (some ad) m cm) (hl : ys.length = m * k) (hc : ∀ j u, ys[j]? = some u → w.cell? (ad.add j) = some u)
    (hone : ∀ u ∈ ys, u.oneCell' = true) (hlen : n + m ≤ maxLen) (hbytes : (n + m) * bytes ≤ 140737488355328) (hbase : base ≤ w.heap.size)
    (h : ∀ v' w', w'.ownsRow base E k v' (n + m) (xs ++ ys) → Keep (fun b => b < w.heap.size ∧ v.ownBlock ≠ some b) w w' → Rw k w'.heap.size w' v n xs → wpList Try.prog ops Q rest (a.put o.dst v') w') : wpList Try.prog ops Q (o :: rest) a w :=
  wpList_plain hgd fun _ hK => by
    obtain ⟨v', w', hr, h2, h3, h4⟩ := run_app_old hT hE hz hk w base o.type v n xs hown ad m cm ys hl hc hone hlen hbytes hbase
    unfold Oper.wp execOp
    simp only [ho, resolve, invoke, builtin, Sem.run_bind, Sem.run_pure, Result.andThen_ok, List.map_toArray, List.map_cons, List.map_nil, hs, hy, hr]
    exact hK _ _ (h v' w' h2 h3 h4)

/-- Skips of the call's own. -/
def SkOwn (base : Nat) (w : World) (a : Option Addr) (c : Nat) (ks : List Sk) : Prop := w.ownsRow base 60 3 (.slice a ks.length c) ks.length (cellsK ks)
theorem cellsK_set (ks : List Sk) (i : Nat) (s : Sk) (hi : i < ks.length) : cellsK (ks.set i s) = (((cellsK ks).set (i * 3) (.int .i64 s.stream)).set (i * 3 + 1) (.int .i64 s.mid)).set (i * 3 + 2) (.bool s.ordered) := by
  induction ks generalizing i with
  | nil => simp at hi
  | cons t r ih =>
    cases i with
    | zero => rfl
    | succ i =>
      rw [List.set_cons_succ, cellsK_cons, cellsK_cons, ih i (by simpa using hi)]
      rw [show (i + 1) * 3 = i * 3 + 1 + 1 + 1 by omega]
      rfl

set_option maxHeartbeats 2000000 in
theorem skip_any (base : Nat) (a : Option Addr) (cp : Nat) (ks : List Sk) (c : Ck) (ad : Option Addr) (nd cd : Nat) (asp : Option Addr) (nsp csp : Nat) (ak : Option Addr) (nk ck : Nat) (w : World) (hown : SkOwn base w a cp ks) (hbase : base ≤ w.heap.size) (hl : ks.length ≤ 8) :
    Calls Try.prog 51 #[.slice a ks.length cp, ckVal c (.slice ad nd cd) (.slice asp nsp csp) (.slice ak nk ck)] w fun e w' => ∃ a' c', e = .returned (.slice a' (skipF ks c).length c') ∧ SkOwn base w' a' c' (skipF ks c) ∧ Keep (fun b => b < w.heap.size ∧ (Value.slice a ks.length cp).ownBlock ≠ some b) w w' ∧ ((skipF ks c).length = ks.length + 1 → Kl w'.heap.size w' (.slice a ks.length cp) ks) := by
  have hmf : ∀ (fn : Fn) (first cap : Array Value) (w : World), (Instr.makeFunc fn first cap).run Try.prog w = .ok (.func fn first cap) w := fun _ _ _ _ => rfl
  have OW : w.ownsRow base 60 3 (.slice a ks.length cp) ks.length (cellsK ks) := hown
  have HK0 : Kl w.heap.size w (.slice a ks.length cp) ks := Rw.own OW (cellsK_length _)
  have HFI : Hid (skipF ks c = if ks.findIdx (skIs c) < ks.length then ks.set (ks.findIdx (skIs c)) (skOf c) else ks ++ [skOf c]) := rfl
  obtain ⟨kind, tag, stream, mid, part, last, ordered, data, spans, room, skips⟩ := c
  simp only [ckVal, skOf] at *
  have B0 := two_below w (.cells #[.int .i64 kind, .int .i64 tag, .int .i64 stream, .int .i64 mid, .int .i64 part, .bool last, .bool ordered, .slice ad nd cd, .slice asp nsp csp, .int .i64 room, .slice ak nk ck] 42) (.cells #[.int .i64 stream, .int .i64 mid, .bool ordered] 60)
  have CX := Cells.new' (w := w.alloc (.cells #[.int .i64 kind, .int .i64 tag, .int .i64 stream, .int .i64 mid, .int .i64 part, .bool last, .bool ordered, .slice ad nd cd, .slice asp nsp csp, .int .i64 room, .slice ak nk ck] 42)) (X := w.heap.size + 1) #[.int .i64 stream, .int .i64 mid, .bool ordered] 60 (by simp)
  have IX := indexSk_any (w.heap.size + 1) ⟨kind, tag, stream, mid, part, last, ordered, data, spans, room, skips⟩ _ ks _ ((HK0.below B0 (Nat.le_refl _)).mono B0.size) (CX.cell 0 _ rfl) (CX.cell 1 _ rfl) (CX.cell 2 _ rfl)
  have hz : ((w.alloc (.cells #[.int .i64 kind, .int .i64 tag, .int .i64 stream, .int .i64 mid, .int .i64 part, .bool last, .bool ordered, .slice ad nd cd, .slice asp nsp csp, .int .i64 room, .slice ak nk ck] 42)).alloc (.cells #[.int .i64 stream, .int .i64 mid, .bool ordered] 60)).heap.size = w.heap.size + 2 := by simp
  go_enter Try.func51, Try.ntmps51
  go_wp2_with fail
  generalize ((w.alloc (.cells #[.int .i64 kind, .int .i64 tag, .int .i64 stream, .int .i64 mid, .int .i64 part, .bool last, .bool ordered, .slice ad nd cd, .slice asp nsp csp, .int .i64 room, .slice ak nk ck] 42)).alloc (.cells #[.int .i64 stream, .int .i64 mid, .bool ordered] 60)) = w1 at *
  refine IX.mono ?_
  rintro e w2 ⟨⟨k, rfl, hkk⟩, b2⟩
  have sz2 := b2.size
  have CX2 := CX.below b2 (by omega)
  have x0 := CX2.cell 0 _ rfl
  have x1 := CX2.cell 1 _ rfl
  have x2 := CX2.cell 2 _ rfl
  have BW : Below w.heap.size w w2 := B0.trans (b2.mono (by omega))
  have OW2 : w2.ownsRow base 60 3 (.slice a ks.length cp) ks.length (cellsK ks) := own_of_block OW fun j hj => BW.block j (OW.lt j hj).2
  rcases hkk with ⟨rfl, hno⟩ | ⟨rfl, hyes⟩
  · have HS : Hid (skipF ks ⟨kind, tag, stream, mid, part, last, ordered, data, spans, room, skips⟩ = ks ++ [⟨stream, mid, ordered⟩]) := by show _ = _; rw [HFI.out, if_neg hno]
    have OA := fun o => OW2.alloc o
    have HC := Cells.new w2 #[.int .i64 stream, .int .i64 mid, .bool ordered] 60
    clear IX hno HFI
    go_wp2_with (at_builtin; refine wpList_app_old Try.underlying40 Try.info60 rfl (by decide) _ rfl (.tmp 19) (.tmp 21) rfl base (.slice a ks.length cp) ks.length _ rfl (OA _) ⟨w2.heap.size, 0, none⟩ 1 1 [.int .i64 stream, .int .i64 mid, .bool ordered] rfl rfl (fun j u hu => by rw [add_plain, Nat.zero_add]; exact HC.cell j u hu) (List.all_eq_true.1 rfl) (by unfold maxLen; omega) (by omega) (by simp; omega) ?_; intro v3 w3 own3 b3 old3; obtain ⟨a3, c3, rfl⟩ := own_form own3)
    have OH : Hid (SkOwn base w3 a3 c3 (ks ++ [⟨stream, mid, ordered⟩])) := by
      show World.ownsRow _ _ _ _ _ _ _
      rw [List.length_append, cellsK_append]
      exact own3
    have BW2 : Keep (fun b => b < w.heap.size ∧ (Value.slice a ks.length cp).ownBlock ≠ some b) w (w2.alloc (.cells #[.int .i64 stream, .int .i64 mid, .bool ordered] 60)) := Keep.alloc ⟨BW.os, BW.tape, BW.output, BW.size, fun i hi => BW.block i hi.1⟩ (fun k hk => by have := BW.size; omega) _
    have BF := BW2.trans (b3.mono fun k hk => ⟨by have := BW.size; simp; omega, hk.2⟩)
    have OLD : Hid (Kl w3.heap.size w3 (.slice a ks.length cp) ks) := old3
    clear own3 old3 OA
    go_wp2_with fail
    go_ret
    exact ⟨a3, c3, by rw [HS.out]; simp, by rw [HS.out]; exact OH.out, BF, fun _ => OLD.out⟩
  · generalize hi : ks.findIdx (skIs ⟨kind, tag, stream, mid, part, last, ordered, data, spans, room, skips⟩) = i at *
    have HS : Hid (skipF ks ⟨kind, tag, stream, mid, part, last, ordered, data, spans, room, skips⟩ = ks.set i ⟨stream, mid, ordered⟩) := by show _ = _; rw [HFI.out, if_pos hyes]
    rcases OW2.2 with ⟨_, h0⟩ | ⟨g, cap, cur, e1, h3, h4, h5, h6, h7, h8⟩
    · omega
    · simp only [Value.slice.injEq] at e1
      obtain ⟨rfl, -, rfl⟩ := e1
      have gi : ((i : Nat) : Int) < (ks.length : Int) := by omega
      have hg2 : ¬ ((i : Nat) : Int) < 0 := by omega
      have hix : ∀ wx, (Instr.indexAt 40 (.slice (some ⟨g, 0, none⟩) ks.length cp) (.int .i64 (i : Int))).run Try.prog wx = .ok (.pointer (some ⟨g, i * 3, none⟩)) wx := fun wx => by go_simp
      have hg := cellsK_get ks i hyes
      have hl3 := cellsK_length ks
      have y0 := (OW2.cellAt (i * 3) (by omega)).trans hg.1
      have y1 := (OW2.cellAt (i * 3 + 1) (by omega)).trans hg.2.1
      have y2 := (OW2.cellAt (i * 3 + 2) (by omega)).trans hg.2.2
      have f0 := OW2.frozenAt (i * 3)
      have f1 := OW2.frozenAt (i * 3 + 1)
      have f2 := OW2.frozenAt (i * 3 + 2)
      have gX : g ≠ w.heap.size + 1 := fun e => by have := (OW.lt g rfl).2; omega
      have gX1 : ¬ g = w.heap.size + 1 := gX
      have gX2 : ¬ w.heap.size + 1 = g := Ne.symm gX
      have s1 := OW2.stored (i * 3) (.int .i64 stream)
      have s2 := s1.1.stored (i * 3 + 1) (.int .i64 mid)
      have s3 := s2.1.stored (i * 3 + 2) (.bool ordered)
      rw [← cellsK_set ks i ⟨stream, mid, ordered⟩ hyes] at s3
      have OH : Hid _ := s3.1
      have KW : Keep (fun b => b < w.heap.size ∧ (Value.slice (some ⟨g, 0, none⟩) ks.length cp).ownBlock ≠ some b) w w2 := ⟨BW.os, BW.tape, BW.output, BW.size, fun i hi => BW.block i hi.1⟩
      have BF : Keep (fun b => b < w.heap.size ∧ (Value.slice (some ⟨g, 0, none⟩) ks.length cp).ownBlock ≠ some b) w (((w2.setCell ⟨g, i * 3, none⟩ (.int .i64 stream)).setCell ⟨g, i * 3 + 1, none⟩ (.int .i64 mid)).setCell ⟨g, i * 3 + 2, none⟩ (.bool ordered)) := ((KW.setCell (p := ⟨g, i * 3, none⟩) (fun h => h.2 rfl) _).setCell (p := ⟨g, i * 3 + 1, none⟩) (fun h => h.2 rfl) _).setCell (p := ⟨g, i * 3 + 2, none⟩) (fun h => h.2 rfl) _
      clear IX HFI s1 s2 s3 h8 hg
      go_wp2_with fail
      go_ret
      exact ⟨some ⟨g, 0, none⟩, cp, by rw [HS.out]; simp, by rw [HS.out]; show World.ownsRow _ _ _ _ _ _ _; rw [List.length_set]; exact OH.out, BF, fun h => by rw [HS.out] at h; simp at h⟩
end Go.Proofs.Ytnddejdndipddac
