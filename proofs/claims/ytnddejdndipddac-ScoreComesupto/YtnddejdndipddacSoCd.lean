/- The walk of ScoreComes. -/
import Derived.Test.YtnddejdndipddacSoCc
import Derived.WalkSmall
set_option maxRecDepth 20000
namespace Go.Proofs.Ytnddejdndipddac
open Go.RowKit

theorem sackF_come {l : List Sn} {cum tag : Int} {sp : List Sp} {paths : Nat} : (sackF l cum tag sp paths).come.length = paths := by
  unfold sackF
  split
  · simp
  · show (comeM _ _ _ _).length = _
    rw [comeM_len]
    simp
theorem sack_has {l : List Sn} {cum tag : Int} {sp : List Sp} {paths : Nat} (hr : RisesM cum l) {s : Sn} (hs : s ∈ l) : s.number ∈ (sackF l cum tag sp paths).out.map Sn.number ↔ s.number > (sackF l cum tag sp paths).now := by
  constructor
  · intro h
    obtain ⟨x, hx, e⟩ := List.mem_map.1 h
    have := ((sackF_rises (tag := tag) (sp := sp) (paths := paths) hr).mem hx).1
    omega
  · unfold sackF
    split
    · intro _
      exact List.mem_map_of_mem hs
    · intro h
      have h' : ¬ s.number ≤ nearM cum tag := by have : s.number > nearM cum tag := h; omega
      refine List.mem_map.2 ⟨missM (hiM (nearM cum tag) sp (nearM cum tag) l) (arrM (nearM cum tag) sp s), List.mem_map_of_mem (List.mem_filter.2 ⟨List.mem_map_of_mem hs, by simp [arr_number, h']⟩), by rw [miss_number, arr_number]⟩
theorem all_sum (n : Int) (sp : List Sp) (hi : Int) : ∀ (l : List Sn), sumB (fun _ => true) ((leftM n (l.map (arrM n sp))).map (missM hi)) ≤ sumB (fun _ => true) l
  | [] => by simp [leftM, sumB]
  | s :: r => by
    have ih := all_sum n sp hi r
    have ck1 : (missM hi (arrM n sp s)).ck = s.ck := by
      have a3 : (arrM n sp s).ck = s.ck := by unfold arrM Sn.put; split <;> rfl
      rw [← a3]; unfold missM; split <;> rfl
    by_cases hl : s.number ≤ n
    · have e : leftM n ((s :: r).map (arrM n sp)) = leftM n (r.map (arrM n sp)) := by simp [leftM, arr_number, hl]
      rw [e]
      simp only [sumB, if_true]
      omega
    · have e : leftM n ((s :: r).map (arrM n sp)) = arrM n sp s :: leftM n (r.map (arrM n sp)) := by simp [leftM, arr_number, hl]
      rw [e, List.map_cons]
      simp only [sumB, if_true, ck1]
      omega
theorem sack_all {l : List Sn} {cum tag : Int} {sp : List Sp} {paths : Nat} : sumB (fun _ => true) (sackF l cum tag sp paths).out ≤ sumB (fun _ => true) l := by
  unfold sackF
  split
  · exact Int.le_refl _
  · exact all_sum _ _ _ l
theorem sumB_take (f : Sn → Bool) : ∀ (l : List Sn) (k : Nat) (hk : k < l.length), sumB f (l.take (k + 1)) = sumB f (l.take k) + (if f l[k] = true then (l[k].ck.data.length : Int) else 0)
  | s :: r, 0, _ => by simp [sumB]
  | s :: r, k + 1, hk => by
    have := sumB_take f r k (by simpa using hk)
    simp only [List.take_succ_cons, sumB, List.getElem_cons_succ]
    rw [this]
    omega
theorem sumB_take_le (f : Sn → Bool) : ∀ (l : List Sn) (k : Nat), sumB f (l.take k) ≤ sumB (fun _ => true) l
  | [], k => by simp [sumB]
  | s :: r, 0 => by
    have := sumB_pos (fun _ => true) (s :: r)
    simpa [sumB] using this
  | s :: r, k + 1 => by
    have := sumB_take_le f r k
    simp only [List.take_succ_cons, sumB, if_true]
    split <;> omega

set_option maxHeartbeats 8000000 in
theorem scoreComes_walk (v : Value) (l : List Sn) (cum : Int) (c : Ck) (d s q : Value) (pths : Int) (w : World) (hv : SnS w.heap.size w v l) (hd : By w.heap.size w d c.data) (hs : Sl w.heap.size w s c.spans) (hq : Kl w.heap.size w q c.skips) (hfit : FitL l) (hlen : l.length * 200 ≤ 140737488351232) (hsum : sumB (fun _ => true) l ≤ 1048576) :
    Calls Try.prog 6 #[v, .int .i64 cum, ckVal c d s q, .int .i64 pths] w fun e w' => e = .returned (.bool true) ∧ Below w.heap.size w w' := by
  have HV := hv
  obtain ⟨a, cap, rfl, h1, h2⟩ := hv.ex
  have HD := hd
  have HS := hs
  have HQ := hq
  obtain ⟨ad, cd, rfl, -, -⟩ := hd.ex
  obtain ⟨asp, csp, rfl⟩ := hs.ex
  obtain ⟨ak, ck, rfl, -, -⟩ := hq.ex
  have hmm := @run_makeMap Try.prog
  have B0 := box_below w (.cells #[.int .i64 c.kind, .int .i64 c.tag, .int .i64 c.stream, .int .i64 c.mid, .int .i64 c.part, .bool c.last, .bool c.ordered, .slice ad c.data.length cd, .slice asp c.spans.length csp, .int .i64 c.room, .slice ak c.skips.length ck] 42)
  have CX := Cells.new w #[.int .i64 c.kind, .int .i64 c.tag, .int .i64 c.stream, .int .i64 c.mid, .int .i64 c.part, .bool c.last, .bool c.ordered, .slice ad c.data.length cd, .slice asp c.spans.length csp, .int .i64 c.room, .slice ak c.skips.length ck] 42
  have hz : (w.alloc (.cells #[.int .i64 c.kind, .int .i64 c.tag, .int .i64 c.stream, .int .i64 c.mid, .int .i64 c.part, .bool c.last, .bool c.ordered, .slice ad c.data.length cd, .slice asp c.spans.length csp, .int .i64 c.room, .slice ak c.skips.length ck] 42)).heap.size = w.heap.size + 1 := by simp
  simp only [ckVal]
  go_enter Try.func6, Try.ntmps6
  go_wp2_with fail
  generalize (w.alloc (.cells #[.int .i64 c.kind, .int .i64 c.tag, .int .i64 c.stream, .int .i64 c.mid, .int .i64 c.part, .bool c.last, .bool c.ordered, .slice ad c.data.length cd, .slice asp c.spans.length csp, .int .i64 c.room, .slice ak c.skips.length ck] 42)) = w0 at *
  refine (alive_any _).mono ?_
  rintro e w1 ⟨rfl, b1⟩
  have B1 := B0.trans (b1.mono B0.size)
  have RA := right_any _ l cum pths w1 (SlG.size SnV.bears HV B1 (Nat.le_refl _)) hlen
  go_wp2_with fail
  refine RA.mono ?_
  rintro e w2 ⟨⟨r, rfl, hr⟩, b2⟩
  have b02 := b1.trans (b2.mono b1.size)
  have B2 := B0.trans (b02.mono B0.size)
  cases r with
  | false =>
    clear RA hr
    go_wp2_with fail
    go_ret
    exact ⟨rfl, B2⟩
  | true =>
    have R := hr rfl
    have q1 := R.c1
    have q2 := R.c2
    obtain ⟨paths, rfl⟩ := Int.eq_ofNat_of_zero_le (show 0 ≤ pths by have := R.p1; omega)
    have hp2 : paths ≤ 2 := by have := R.p2; omega
    have CX2 := CX.below b02 (by omega)
    have e0 := CX2.cell 0 _ rfl
    have e1 := CX2.cell 1 _ rfl
    have e2 := CX2.cell 2 _ rfl
    have e3 := CX2.cell 3 _ rfl
    have e4 := CX2.cell 4 _ rfl
    have e5 := CX2.cell 5 _ rfl
    have e6 := CX2.cell 6 _ rfl
    have e7 := CX2.cell 7 _ rfl
    have e8 := CX2.cell 8 _ rfl
    have e9 := CX2.cell 9 _ rfl
    have e10 := CX2.cell 10 _ rfl
    have SA := sack_any _ l cum c _ _ _ paths w2 (SlG.size SnV.bears HV B2 (Nat.le_refl _)) ((HD.below B2 (Nat.le_refl _)).mono B2.size) ((HS.below B2 (Nat.le_refl _)).mono B2.size) (Rw.mono (Rw.below HQ B2 (Nat.le_refl _)) B2.size) hfit hlen R.ris q1 (by omega) hp2 (R.num hlen) (fun x hx => (R.each x hx).1) (fun x hx => ⟨(R.each x hx).2.1, by have := (R.each x hx).2.2; omega⟩)
    have NW := sackF_now (tag := c.tag) (sp := c.spans) (paths := paths) R.ris
    have RS : Hid _ := sackF_rises (tag := c.tag) (sp := c.spans) (paths := paths) R.ris
    have LL := sackF_len (l := l) (cum := cum) (tag := c.tag) (sp := c.spans) (paths := paths)
    have CL := sackF_come (l := l) (cum := cum) (tag := c.tag) (sp := c.spans) (paths := paths)
    have HH : Hid (∀ s ∈ l, s.number ∈ (sackF l cum c.tag c.spans paths).out.map Sn.number ↔ s.number > (sackF l cum c.tag c.spans paths).now) := fun s hs => sack_has R.ris hs
    have HT : Hid (∀ x ∈ (sackF l cum c.tag c.spans paths).out, ∀ s ∈ l, x.number = s.number → x.state = s.state ∨ x.state = 2 ∨ (s.state = 1 ∧ x.state = 3)) := fun x hx s hs he => sack_left R.ris hx hs he
    have HU : Hid (∀ p : Nat, p < paths → 0 ≤ (sackF l cum c.tag c.spans paths).come.getD p 0 ∧ (sackF l cum c.tag c.spans paths).come.getD p 0 + sumB (onM p) (sackF l cum c.tag c.spans paths).out ≤ sumB (wasP p) l) := fun p hp => sack_sums p hp (by omega)
    have HA : Hid (sumB (fun _ => true) (sackF l cum c.tag c.spans paths).out ≤ 1048576) := by show _ ≤ _; have := sack_all (l := l) (cum := cum) (tag := c.tag) (sp := c.spans) (paths := paths); omega
    have RIS : Hid (RisesM cum l) := R.ris
    have HLEN : Hid (l.length * 200 ≤ 140737488351232) := hlen
    have HSUM : Hid (sumB (fun _ => true) l ≤ 1048576) := hsum
    have HQ1 : Hid (-1 ≤ cum ∧ cum < 1000000) := ⟨q1, q2⟩
    simp only [ckVal] at SA
    generalize sackF l cum c.tag c.spans paths = R1 at *
    obtain ⟨out, now, come, lost⟩ := R1
    simp only at SA NW RS LL CL HH HT HU HA
    subst CL
    have hl9 : l.length ≤ 703687441756 := by omega
    have g2 : ¬ now > cum + (l.length : Int) := by omega
    have g3 : ¬ now < cum := by omega
    have HNW : Hid (cum ≤ now ∧ now ≤ cum + l.length) := NW
    clear RA hr R hfit hlen hsum hv hd hs hq h2
    go_wp2_with fail
    refine SA.mono ?_
    rintro e w3 ⟨u, rfl, ⟨a3, c3, az, cz, al, cl, rfl, S3, Z3, L3⟩, b3⟩
    simp only at S3 Z3 L3 ⊢
    have B3 := B2.trans (b3.mono B2.size)
    have ZH : Hid (In w3.heap.size w3 (.slice az come.length cz) come) := Z3
    have hM : w3.heap.size < (w3.alloc (.map #[] 0)).heap.size := by simp
    have MM := MapS.made w3
    have BM := box_below w3 (.map #[] 0)
    clear e0 e1 e2 e3 e4 e5 e6 e7 e8 e9 e10 CX CX2 b1 b2 b02 B0 B1 B2 SA Z3 L3 b3
    go_wp2_with fail
    clear q1 q2 g2 g3 NW
    generalize (w3.alloc (.map #[] 0)) = w4 at *
    go_loopw [61] (fun i wr => ∃ k : Nat, k ≤ out.length ∧ i = .int .i64 k ∧ MapS wr w3.heap.size k (out.take k) ∧ w3.heap.size < wr.heap.size ∧ Below w3.heap.size w3 wr) (fun i _ => out.length - (intOf i).toNat)
    case atStart => exact ⟨0, Nat.zero_le _, rfl, MM, hM, BM⟩
    case round =>
      obtain ⟨k, hk, rfl, MR, lR, BR⟩ := hrel
      by_cases hlt : k < out.length
      · obtain ⟨b, off, da, dc, sa, sc, qa, qc, hb, hix, hby, hsl, hkl, hat⟩ := SnS.at (SlG.below SnV.bears S3 BR (Nat.le_refl _)) k hlt
        have E1 : Hid (out.take (k + 1) = out.take k ++ [out[k]]) := List.take_succ_eq_append_getElem hlt
        have hxn : I64 out[k].number := by
          have := RS.out k _ (List.getElem?_eq_getElem hlt)
          have := HNW.out
          have := HQ1.out
          unfold I64
          omega
        generalize out[k] = x at *
        have AT1 : SnAt (wr.alloc (.cells #[.int .i64 x.number, .int .i64 x.id, .int .i64 x.state, .int .i64 x.path, .int .i64 x.missed, .int .i64 x.times, .int .i64 x.came, .int .i64 x.life, .int .i64 x.tries, .int .i64 x.ck.kind, .int .i64 x.ck.tag, .int .i64 x.ck.stream, .int .i64 x.ck.mid, .int .i64 x.ck.part, .bool x.ck.last, .bool x.ck.ordered, .slice da x.ck.data.length dc, .slice sa x.ck.spans.length sc, .int .i64 x.ck.room, .slice qa x.ck.skips.length qc] 53)) wr.heap.size 0 x (.slice da x.ck.data.length dc) (.slice sa x.ck.spans.length sc) (.slice qa x.ck.skips.length qc) := SnAt.new wr x _ _ _
        have MR1 : MapS (wr.alloc (.cells #[.int .i64 x.number, .int .i64 x.id, .int .i64 x.state, .int .i64 x.path, .int .i64 x.missed, .int .i64 x.times, .int .i64 x.came, .int .i64 x.life, .int .i64 x.tries, .int .i64 x.ck.kind, .int .i64 x.ck.tag, .int .i64 x.ck.stream, .int .i64 x.ck.mid, .int .i64 x.ck.part, .bool x.ck.last, .bool x.ck.ordered, .slice da x.ck.data.length dc, .slice sa x.ck.spans.length sc, .int .i64 x.ck.room, .slice qa x.ck.skips.length qc] 53)) w3.heap.size k (out.take k) := MR.kept ((box_below wr _).block _ lR)
        have B1 := BR.alloc BR.size (.cells #[.int .i64 x.number, .int .i64 x.id, .int .i64 x.state, .int .i64 x.path, .int .i64 x.missed, .int .i64 x.times, .int .i64 x.came, .int .i64 x.life, .int .i64 x.tries, .int .i64 x.ck.kind, .int .i64 x.ck.tag, .int .i64 x.ck.stream, .int .i64 x.ck.mid, .int .i64 x.ck.part, .bool x.ck.last, .bool x.ck.ordered, .slice da x.ck.data.length dc, .slice sa x.ck.spans.length sc, .int .i64 x.ck.room, .slice qa x.ck.skips.length qc] 53)
        have l1 : w3.heap.size < (wr.alloc (.cells #[.int .i64 x.number, .int .i64 x.id, .int .i64 x.state, .int .i64 x.path, .int .i64 x.missed, .int .i64 x.times, .int .i64 x.came, .int .i64 x.life, .int .i64 x.tries, .int .i64 x.ck.kind, .int .i64 x.ck.tag, .int .i64 x.ck.stream, .int .i64 x.ck.mid, .int .i64 x.ck.part, .bool x.ck.last, .bool x.ck.ordered, .slice da x.ck.data.length dc, .slice sa x.ck.spans.length sc, .int .i64 x.ck.room, .slice qa x.ck.skips.length qc] 53)).heap.size := by simp; omega
        have HKM : Hid (k < maxLen) := by show k < maxLen; unfold maxLen; omega
        clear MR hby hsl hkl
        have tk1 : True := trivial
        have tk2 : True := trivial
        have tk3 : True := trivial
        have tk4 : True := trivial
        go_wp2_with (first
          | (have t := tk1; refine wpList_ld rfl (.tmp 63) rfl b off rfl x _ _ _ (by with_reducible exact hat) ?_; clear tk1 t)
          | (have t := tk2; refine wpList_st rfl (.tmp 15) (.tmp 64) rfl wr _ rfl rfl rfl [.int .i64 x.number, .int .i64 x.id, .int .i64 x.state, .int .i64 x.path, .int .i64 x.missed, .int .i64 x.times, .int .i64 x.came, .int .i64 x.life, .int .i64 x.tries, .int .i64 x.ck.kind, .int .i64 x.ck.tag, .int .i64 x.ck.stream, .int .i64 x.ck.mid, .int .i64 x.ck.part, .bool x.ck.last, .bool x.ck.ordered, .slice da x.ck.data.length dc, .slice sa x.ck.spans.length sc, .int .i64 x.ck.room, .slice qa x.ck.skips.length qc] rfl rfl rfl ?_; clear tk2 t)
          | (have t := tk3; refine wpList_ld rfl (.tmp 15) rfl wr.heap.size 0 rfl x _ _ _ (by with_reducible exact AT1) ?_; clear tk3 t)
          | (have t := tk4; refine wpList_putS rfl (.tmp 65) (.tmp 67) (.tmp 68) rfl w3.heap.size k (out.take k) x (.slice da x.ck.data.length dc) (.slice sa x.ck.spans.length sc) (.slice qa x.ck.skips.length qc) rfl MR1 HKM.out rfl hxn rfl rfl rfl rfl ?_; intro w5 MR5 g5; have B5 := B1.grown g5 (Nat.le_of_lt l1) (fun j hj => by simp at hj; omega); have l5 := Nat.lt_of_lt_of_le l1 g5.size; clear tk4 t))
        go_roundw
        case rel => exact ⟨k + 1, by omega, by go_num, by rw [E1.out]; exact MR5, l5, B5⟩
        case measure => simp [intOf]; omega
      · have hkl : k = out.length := by omega
        subst hkl
        rw [List.take_of_length_le (Nat.le_refl _)] at MR
        clear hlt hk MM hM BM
        have BW := B3.trans (BR.mono B3.size)
        go_wp2_with fail
        have BQ := BR
        generalize hw9 : wr = w9 at *
        clear hw9
        go_loopw [72] (fun i wr => ∃ k : Nat, k ≤ l.length ∧ i = .int .i64 k ∧ Below w9.heap.size w9 wr) (fun i _ => l.length - (intOf i).toNat)
        case atStart => exact ⟨0, Nat.zero_le _, rfl, Below.refl _ _⟩
        case round =>
          obtain ⟨k, hk, rfl, BR⟩ := hrel
          have BX := BW.trans (BR.mono BW.size)
          by_cases hlt : k < l.length
          · obtain ⟨b, off, da, dc, sa, sc, qa, qc, hb, hix, hby, hsl, hkl, hat⟩ := SnS.at (SlG.below SnV.bears HV BX (Nat.le_refl _)) k hlt
            have hxn : I64 l[k].number := by
              have := RIS.out k _ (List.getElem?_eq_getElem hlt)
              have := HQ1.out
              unfold I64
              omega
            have HX1 := HH.out l[k] (List.getElem_mem hlt)
            have HX2 : Hid (l[k].number ∈ out.map Sn.number → stAt out l[k].number = l[k].state ∨ stAt out l[k].number = 2 ∨ (l[k].state = 1 ∧ stAt out l[k].number = 3)) := fun h => by
              obtain ⟨x, hx, e1, e2⟩ := stAt_mem h
              rw [e2]
              exact HT.out x hx _ (List.getElem_mem hlt) e1
            generalize l[k] = x at *
            generalize hst : stAt out x.number = st at HX2
            have HST : Hid (stAt out x.number = st) := hst
            have MR1 : MapS (wr.alloc (.cells #[.int .i64 x.number, .int .i64 x.id, .int .i64 x.state, .int .i64 x.path, .int .i64 x.missed, .int .i64 x.times, .int .i64 x.came, .int .i64 x.life, .int .i64 x.tries, .int .i64 x.ck.kind, .int .i64 x.ck.tag, .int .i64 x.ck.stream, .int .i64 x.ck.mid, .int .i64 x.ck.part, .bool x.ck.last, .bool x.ck.ordered, .slice da x.ck.data.length dc, .slice sa x.ck.spans.length sc, .int .i64 x.ck.room, .slice qa x.ck.skips.length qc] 53)) w3.heap.size out.length out := (MR.kept (BR.block _ lR)).kept ((box_below wr _).block _ (Nat.lt_of_lt_of_le lR BR.size))
            have HPT : Hid (wr.heap.size + 1 = (wr.alloc (.cells #[.int .i64 x.number, .int .i64 x.id, .int .i64 x.state, .int .i64 x.path, .int .i64 x.missed, .int .i64 x.times, .int .i64 x.came, .int .i64 x.life, .int .i64 x.tries, .int .i64 x.ck.kind, .int .i64 x.ck.tag, .int .i64 x.ck.stream, .int .i64 x.ck.mid, .int .i64 x.ck.part, .bool x.ck.last, .bool x.ck.ordered, .slice da x.ck.data.length dc, .slice sa x.ck.spans.length sc, .int .i64 x.ck.room, .slice qa x.ck.skips.length qc] 53)).heap.size) := by show _ = _; simp
            have HPP : Hid (Value.pointer (some ⟨wr.heap.size + 1, 0, none⟩) = .pointer (some ⟨(wr.alloc (.cells #[.int .i64 x.number, .int .i64 x.id, .int .i64 x.state, .int .i64 x.path, .int .i64 x.missed, .int .i64 x.times, .int .i64 x.came, .int .i64 x.life, .int .i64 x.tries, .int .i64 x.ck.kind, .int .i64 x.ck.tag, .int .i64 x.ck.stream, .int .i64 x.ck.mid, .int .i64 x.ck.part, .bool x.ck.last, .bool x.ck.ordered, .slice da x.ck.data.length dc, .slice sa x.ck.spans.length sc, .int .i64 x.ck.room, .slice qa x.ck.skips.length qc] 53)).heap.size, 0, none⟩)) := by show _ = _; simp
            clear hby hsl hkl hst
            have tk1 : True := trivial
            have tk2 : True := trivial
            have tk3 : True := trivial
            by_cases hgt : x.number > now
            · have HOK : Hid (decide (x.number ∈ out.map Sn.number) = true) := decide_eq_true (HX1.2 hgt)
              have H3 := HX2.out (HX1.2 hgt)
              clear HX1 HX2
              cases d1 : (st == x.state) with
              | true =>
                have d1n : (st != x.state) = false := by simp [bne, d1]
                go_wp2_with (first
                  | (have t := tk1; refine wpList_ld rfl (.tmp 74) rfl b off rfl x _ _ _ (by with_reducible exact hat) ?_; clear tk1 t)
                  | (have t := tk2; refine wpList_st rfl (.tmp 17) (.tmp 75) rfl wr _ rfl rfl rfl [.int .i64 x.number, .int .i64 x.id, .int .i64 x.state, .int .i64 x.path, .int .i64 x.missed, .int .i64 x.times, .int .i64 x.came, .int .i64 x.life, .int .i64 x.tries, .int .i64 x.ck.kind, .int .i64 x.ck.tag, .int .i64 x.ck.stream, .int .i64 x.ck.mid, .int .i64 x.ck.part, .bool x.ck.last, .bool x.ck.ordered, .slice da x.ck.data.length dc, .slice sa x.ck.spans.length sc, .int .i64 x.ck.room, .slice qa x.ck.skips.length qc] rfl rfl rfl ?_; clear tk2 t)
                  | (have t := tk3; at_lookup; refine wpList_lookS rfl (.tmp 77) (.tmp 79) rfl w3.heap.size out.length out rfl MR1 x.number hxn rfl ?_; intro cs n20 o20 c2; rw [HOK.out, HST.out] at *; have T2 := (Cells.new' cs.toArray 53 HPT.out).cell 2 _ (by simpa using c2); have tk4 : True := trivial; clear tk3 t)
                  | (have t := tk4; refine wpList_st rfl (.tmp 18) (.tmp 81) rfl (wr.alloc (.cells #[.int .i64 x.number, .int .i64 x.id, .int .i64 x.state, .int .i64 x.path, .int .i64 x.missed, .int .i64 x.times, .int .i64 x.came, .int .i64 x.life, .int .i64 x.tries, .int .i64 x.ck.kind, .int .i64 x.ck.tag, .int .i64 x.ck.stream, .int .i64 x.ck.mid, .int .i64 x.ck.part, .bool x.ck.last, .bool x.ck.ordered, .slice da x.ck.data.length dc, .slice sa x.ck.spans.length sc, .int .i64 x.ck.room, .slice qa x.ck.skips.length qc] 53)) _ rfl rfl HPP.out cs rfl n20 o20 ?_; clear tk4 t))
                go_roundw
                case rel => exact ⟨k + 1, by omega, by go_num, (BR.alloc BR.size _).alloc (by have := BR.size; simp; omega) _⟩
                case measure => simp [intOf]; omega
              | false =>
              have d1n : (st != x.state) = true := by simp [bne, d1]
              cases d2 : (st == 2) with
              | true =>
                have d2n : (st != 2) = false := by simp [bne, d2]
                go_wp2_with (first
                  | (have t := tk1; refine wpList_ld rfl (.tmp 74) rfl b off rfl x _ _ _ (by with_reducible exact hat) ?_; clear tk1 t)
                  | (have t := tk2; refine wpList_st rfl (.tmp 17) (.tmp 75) rfl wr _ rfl rfl rfl [.int .i64 x.number, .int .i64 x.id, .int .i64 x.state, .int .i64 x.path, .int .i64 x.missed, .int .i64 x.times, .int .i64 x.came, .int .i64 x.life, .int .i64 x.tries, .int .i64 x.ck.kind, .int .i64 x.ck.tag, .int .i64 x.ck.stream, .int .i64 x.ck.mid, .int .i64 x.ck.part, .bool x.ck.last, .bool x.ck.ordered, .slice da x.ck.data.length dc, .slice sa x.ck.spans.length sc, .int .i64 x.ck.room, .slice qa x.ck.skips.length qc] rfl rfl rfl ?_; clear tk2 t)
                  | (have t := tk3; at_lookup; refine wpList_lookS rfl (.tmp 77) (.tmp 79) rfl w3.heap.size out.length out rfl MR1 x.number hxn rfl ?_; intro cs n20 o20 c2; rw [HOK.out, HST.out] at *; have T2 := (Cells.new' cs.toArray 53 HPT.out).cell 2 _ (by simpa using c2); have tk4 : True := trivial; clear tk3 t)
                  | (have t := tk4; refine wpList_st rfl (.tmp 18) (.tmp 81) rfl (wr.alloc (.cells #[.int .i64 x.number, .int .i64 x.id, .int .i64 x.state, .int .i64 x.path, .int .i64 x.missed, .int .i64 x.times, .int .i64 x.came, .int .i64 x.life, .int .i64 x.tries, .int .i64 x.ck.kind, .int .i64 x.ck.tag, .int .i64 x.ck.stream, .int .i64 x.ck.mid, .int .i64 x.ck.part, .bool x.ck.last, .bool x.ck.ordered, .slice da x.ck.data.length dc, .slice sa x.ck.spans.length sc, .int .i64 x.ck.room, .slice qa x.ck.skips.length qc] 53)) _ rfl rfl HPP.out cs rfl n20 o20 ?_; clear tk4 t))
                go_roundw
                case rel => exact ⟨k + 1, by omega, by go_num, (BR.alloc BR.size _).alloc (by have := BR.size; simp; omega) _⟩
                case measure => simp [intOf]; omega
              | false =>
                have d2n : (st != 2) = true := by simp [bne, d2]
                have h3 : x.state = 1 ∧ st = 3 := by
                  rcases H3 with h | h | h
                  · simp [h] at d1
                  · simp [h] at d2
                  · exact h
                have d3 : (x.state == 1) = true := by simp [h3.1]
                have d4 : (st == 3) = true := by simp [h3.2]
                clear H3 h3
                go_wp2_with (first
                  | (have t := tk1; refine wpList_ld rfl (.tmp 74) rfl b off rfl x _ _ _ (by with_reducible exact hat) ?_; clear tk1 t)
                  | (have t := tk2; refine wpList_st rfl (.tmp 17) (.tmp 75) rfl wr _ rfl rfl rfl [.int .i64 x.number, .int .i64 x.id, .int .i64 x.state, .int .i64 x.path, .int .i64 x.missed, .int .i64 x.times, .int .i64 x.came, .int .i64 x.life, .int .i64 x.tries, .int .i64 x.ck.kind, .int .i64 x.ck.tag, .int .i64 x.ck.stream, .int .i64 x.ck.mid, .int .i64 x.ck.part, .bool x.ck.last, .bool x.ck.ordered, .slice da x.ck.data.length dc, .slice sa x.ck.spans.length sc, .int .i64 x.ck.room, .slice qa x.ck.skips.length qc] rfl rfl rfl ?_; clear tk2 t)
                  | (have t := tk3; at_lookup; refine wpList_lookS rfl (.tmp 77) (.tmp 79) rfl w3.heap.size out.length out rfl MR1 x.number hxn rfl ?_; intro cs n20 o20 c2; rw [HOK.out, HST.out] at *; have T2 := (Cells.new' cs.toArray 53 HPT.out).cell 2 _ (by simpa using c2); have tk4 : True := trivial; clear tk3 t)
                  | (have t := tk4; refine wpList_st rfl (.tmp 18) (.tmp 81) rfl (wr.alloc (.cells #[.int .i64 x.number, .int .i64 x.id, .int .i64 x.state, .int .i64 x.path, .int .i64 x.missed, .int .i64 x.times, .int .i64 x.came, .int .i64 x.life, .int .i64 x.tries, .int .i64 x.ck.kind, .int .i64 x.ck.tag, .int .i64 x.ck.stream, .int .i64 x.ck.mid, .int .i64 x.ck.part, .bool x.ck.last, .bool x.ck.ordered, .slice da x.ck.data.length dc, .slice sa x.ck.spans.length sc, .int .i64 x.ck.room, .slice qa x.ck.skips.length qc] 53)) _ rfl rfl HPP.out cs rfl n20 o20 ?_; clear tk4 t))
                go_roundw
                case rel => exact ⟨k + 1, by omega, by go_num, (BR.alloc BR.size _).alloc (by have := BR.size; simp; omega) _⟩
                case measure => simp [intOf]; omega
            · have HOK : Hid (decide (x.number ∈ out.map Sn.number) = false) := decide_eq_false (fun h => hgt (HX1.1 h))
              clear HX1 HX2
              go_wp2_with (first
                | (have t := tk1; refine wpList_ld rfl (.tmp 74) rfl b off rfl x _ _ _ (by with_reducible exact hat) ?_; clear tk1 t)
                | (have t := tk2; refine wpList_st rfl (.tmp 17) (.tmp 75) rfl wr _ rfl rfl rfl [.int .i64 x.number, .int .i64 x.id, .int .i64 x.state, .int .i64 x.path, .int .i64 x.missed, .int .i64 x.times, .int .i64 x.came, .int .i64 x.life, .int .i64 x.tries, .int .i64 x.ck.kind, .int .i64 x.ck.tag, .int .i64 x.ck.stream, .int .i64 x.ck.mid, .int .i64 x.ck.part, .bool x.ck.last, .bool x.ck.ordered, .slice da x.ck.data.length dc, .slice sa x.ck.spans.length sc, .int .i64 x.ck.room, .slice qa x.ck.skips.length qc] rfl rfl rfl ?_; clear tk2 t)
                | (have t := tk3; at_lookup; refine wpList_lookS rfl (.tmp 77) (.tmp 79) rfl w3.heap.size out.length out rfl MR1 x.number hxn rfl ?_; intro cs n20 o20 c2; rw [HOK.out, HST.out] at *; have T2 := (Cells.new' cs.toArray 53 HPT.out).cell 2 _ (by simpa using c2); have tk4 : True := trivial; clear tk3 t)
                | (have t := tk4; refine wpList_st rfl (.tmp 18) (.tmp 81) rfl (wr.alloc (.cells #[.int .i64 x.number, .int .i64 x.id, .int .i64 x.state, .int .i64 x.path, .int .i64 x.missed, .int .i64 x.times, .int .i64 x.came, .int .i64 x.life, .int .i64 x.tries, .int .i64 x.ck.kind, .int .i64 x.ck.tag, .int .i64 x.ck.stream, .int .i64 x.ck.mid, .int .i64 x.ck.part, .bool x.ck.last, .bool x.ck.ordered, .slice da x.ck.data.length dc, .slice sa x.ck.spans.length sc, .int .i64 x.ck.room, .slice qa x.ck.skips.length qc] 53)) _ rfl rfl HPP.out cs rfl n20 o20 ?_; clear tk4 t))
              go_roundw
              case rel => exact ⟨k + 1, by omega, by go_num, (BR.alloc BR.size _).alloc (by have := BR.size; simp; omega) _⟩
              case measure => simp [intOf]; omega
          · have hkL : k = l.length := by omega
            subst hkL
            clear hlt hk MR HH HT
            go_wp2_with fail
            generalize hw8 : wr = w8 at *
            clear hw8
            go_loopw [115] (fun i wr => ∃ p : Nat, p ≤ come.length ∧ i = .int .i64 p ∧ Below w8.heap.size w8 wr) (fun i _ => come.length - (intOf i).toNat)
            case atStart => exact ⟨0, Nat.zero_le _, rfl, Below.refl _ _⟩
            case round =>
              obtain ⟨p, hp, rfl, BP⟩ := hrel
              have BY := BX.trans (BP.mono BX.size)
              by_cases hpl : p < come.length
              · obtain ⟨hu1, hu2⟩ := HU.out p hpl
                go_wp2_with fail
                generalize hw7 : wr = w7 at *
                clear hw7
                go_loopw [21, 120] (fun z i wr => ∃ k : Nat, k ≤ l.length ∧ i = .int .i64 k ∧ z = .int .i64 (sumB (wasP p) (l.take k)) ∧ Below w7.heap.size w7 wr) (fun _ i _ => l.length - (intOf i).toNat)
                case atStart => exact ⟨0, Nat.zero_le _, rfl, rfl, Below.refl _ _⟩
                case round =>
                  obtain ⟨k, hk, rfl, rfl, BR4⟩ := hrel
                  have BZ := BY.trans (BR4.mono BY.size)
                  have hs0 := sumB_pos (wasP p) (l.take k)
                  have hs1 : sumB (wasP p) (l.take k) ≤ 1048576 := by have := sumB_take_le (wasP p) l k; have := HSUM.out; omega
                  by_cases hlt : k < l.length
                  · obtain ⟨b, off, da, dc, sa, sc, qa, qc, hb, hix, hby, hsl, hkl, hat⟩ := SnS.at (SlG.below SnV.bears HV BZ (Nat.le_refl _)) k hlt
                    have HF : Hid (sumB (wasP p) (l.take (k + 1)) = sumB (wasP p) (l.take k) + (if wasP p l[k] = true then (l[k].ck.data.length : Int) else 0)) := sumB_take _ l k hlt
                    have hs2 : (l[k].ck.data.length : Int) ≤ 1048576 := by
                      have h := sumB_take (fun _ => true) l k hlt
                      have h' := sumB_take_le (fun _ => true) l (k + 1)
                      have h'' := sumB_pos (fun _ => true) (l.take k)
                      have := HSUM.out
                      simp only [if_true] at h
                      omega
                    generalize l[k] = x at *
                    generalize sumB (wasP p) (l.take k) = z at *
                    have BX4 := BR4.alloc BR4.size (.cells #[.int .i64 x.number, .int .i64 x.id, .int .i64 x.state, .int .i64 x.path, .int .i64 x.missed, .int .i64 x.times, .int .i64 x.came, .int .i64 x.life, .int .i64 x.tries, .int .i64 x.ck.kind, .int .i64 x.ck.tag, .int .i64 x.ck.stream, .int .i64 x.ck.mid, .int .i64 x.ck.part, .bool x.ck.last, .bool x.ck.ordered, .slice da x.ck.data.length dc, .slice sa x.ck.spans.length sc, .int .i64 x.ck.room, .slice qa x.ck.skips.length qc] 53)
                    clear hby hsl hkl
                    have tk1 : True := trivial
                    have tk2 : True := trivial
                    cases c1 : (x.path == (p : Int)) with
                    | false =>
                      have HF2 : Hid (sumB (wasP p) (l.take (k + 1)) = z) := by show _ = _; rw [HF.out]; rw [if_neg (by simp [wasP, c1])]; omega
                      go_wp2_with (first
                        | (have t := tk1; refine wpList_ld rfl (.tmp 122) rfl b off rfl x _ _ _ (by with_reducible exact hat) ?_; clear tk1 t)
                        | (have t := tk2; refine wpList_st rfl (.tmp 23) (.tmp 123) rfl wr _ rfl rfl rfl [.int .i64 x.number, .int .i64 x.id, .int .i64 x.state, .int .i64 x.path, .int .i64 x.missed, .int .i64 x.times, .int .i64 x.came, .int .i64 x.life, .int .i64 x.tries, .int .i64 x.ck.kind, .int .i64 x.ck.tag, .int .i64 x.ck.stream, .int .i64 x.ck.mid, .int .i64 x.ck.part, .bool x.ck.last, .bool x.ck.ordered, .slice da x.ck.data.length dc, .slice sa x.ck.spans.length sc, .int .i64 x.ck.room, .slice qa x.ck.skips.length qc] rfl rfl rfl ?_; clear tk2 t))
                      go_roundw
                      case rel => exact ⟨k + 1, by omega, by go_num, by rw [HF2.out], BX4⟩
                      case measure => simp [intOf]; omega
                    | true =>
                    cases c2 : (x.state == 1) with
                    | true =>
                      have HF2 : Hid (sumB (wasP p) (l.take (k + 1)) = z + x.ck.data.length) := by show _ = _; rw [HF.out]; rw [if_pos (by simp [wasP, c1, c2])]
                      go_wp2_with (first
                        | (have t := tk1; refine wpList_ld rfl (.tmp 122) rfl b off rfl x _ _ _ (by with_reducible exact hat) ?_; clear tk1 t)
                        | (have t := tk2; refine wpList_st rfl (.tmp 23) (.tmp 123) rfl wr _ rfl rfl rfl [.int .i64 x.number, .int .i64 x.id, .int .i64 x.state, .int .i64 x.path, .int .i64 x.missed, .int .i64 x.times, .int .i64 x.came, .int .i64 x.life, .int .i64 x.tries, .int .i64 x.ck.kind, .int .i64 x.ck.tag, .int .i64 x.ck.stream, .int .i64 x.ck.mid, .int .i64 x.ck.part, .bool x.ck.last, .bool x.ck.ordered, .slice da x.ck.data.length dc, .slice sa x.ck.spans.length sc, .int .i64 x.ck.room, .slice qa x.ck.skips.length qc] rfl rfl rfl ?_; clear tk2 t))
                      go_roundw
                      case rel => exact ⟨k + 1, by omega, by go_num, by rw [HF2.out], BX4⟩
                      case measure => simp [intOf]; omega
                    | false =>
                    cases c3 : (x.state == 3) with
                    | true =>
                      have HF2 : Hid (sumB (wasP p) (l.take (k + 1)) = z + x.ck.data.length) := by show _ = _; rw [HF.out]; rw [if_pos (by simp [wasP, c1, c3])]
                      go_wp2_with (first
                        | (have t := tk1; refine wpList_ld rfl (.tmp 122) rfl b off rfl x _ _ _ (by with_reducible exact hat) ?_; clear tk1 t)
                        | (have t := tk2; refine wpList_st rfl (.tmp 23) (.tmp 123) rfl wr _ rfl rfl rfl [.int .i64 x.number, .int .i64 x.id, .int .i64 x.state, .int .i64 x.path, .int .i64 x.missed, .int .i64 x.times, .int .i64 x.came, .int .i64 x.life, .int .i64 x.tries, .int .i64 x.ck.kind, .int .i64 x.ck.tag, .int .i64 x.ck.stream, .int .i64 x.ck.mid, .int .i64 x.ck.part, .bool x.ck.last, .bool x.ck.ordered, .slice da x.ck.data.length dc, .slice sa x.ck.spans.length sc, .int .i64 x.ck.room, .slice qa x.ck.skips.length qc] rfl rfl rfl ?_; clear tk2 t))
                      go_roundw
                      case rel => exact ⟨k + 1, by omega, by go_num, by rw [HF2.out], BX4⟩
                      case measure => simp [intOf]; omega
                    | false =>
                      have HF2 : Hid (sumB (wasP p) (l.take (k + 1)) = z) := by show _ = _; rw [HF.out]; rw [if_neg (by simp [wasP, c1, c2, c3])]; omega
                      go_wp2_with (first
                        | (have t := tk1; refine wpList_ld rfl (.tmp 122) rfl b off rfl x _ _ _ (by with_reducible exact hat) ?_; clear tk1 t)
                        | (have t := tk2; refine wpList_st rfl (.tmp 23) (.tmp 123) rfl wr _ rfl rfl rfl [.int .i64 x.number, .int .i64 x.id, .int .i64 x.state, .int .i64 x.path, .int .i64 x.missed, .int .i64 x.times, .int .i64 x.came, .int .i64 x.life, .int .i64 x.tries, .int .i64 x.ck.kind, .int .i64 x.ck.tag, .int .i64 x.ck.stream, .int .i64 x.ck.mid, .int .i64 x.ck.part, .bool x.ck.last, .bool x.ck.ordered, .slice da x.ck.data.length dc, .slice sa x.ck.spans.length sc, .int .i64 x.ck.room, .slice qa x.ck.skips.length qc] rfl rfl rfl ?_; clear tk2 t))
                      go_roundw
                      case rel => exact ⟨k + 1, by omega, by go_num, by rw [HF2.out], BX4⟩
                      case measure => simp [intOf]; omega
                  · have hkL : k = l.length := by omega
                    subst hkL
                    rw [List.take_of_length_le (Nat.le_refl _)] at hs0 hs1 ⊢
                    generalize sumB (wasP p) l = z at *
                    have SO := SlG.size SnV.bears S3 (BQ.trans (((BR.trans (BP.mono BR.size)).trans (BR4.mono (BR.trans (BP.mono BR.size)).size)).mono BQ.size)) (Nat.le_refl _)
                    obtain ⟨zb, zo, hzb, hzi, hzc⟩ := (ZH.out.below (BQ.trans (((BR.trans (BP.mono BR.size)).trans (BR4.mono (BR.trans (BP.mono BR.size)).size)).mono BQ.size)) (Nat.le_refl _)).at p hpl
                    have hcz : come.getD p 0 = come[p] := by rw [List.getD_eq_getElem?_getD, List.getElem?_eq_getElem hpl]; rfl
                    rw [hcz] at hu1 hu2
                    have FL := fun wx (hx : Below wr.heap.size wr wx) => flight_any (p : Int) _ out wx (SlG.size SnV.bears SO hx (Nat.le_refl _))
                    have hfl : flightM (p : Int) out = sumB (onM p) out := flight_sum _ _ (by have := HA.out; omega)
                    rw [hfl] at FL
                    have hfp := sumB_pos (onM p) out
                    generalize sumB (onM p) out = fz at *
                    generalize come[p] = cz at *
                    have zlt := hzb
                    have KX : ∀ wx, Below wr.heap.size wr wx → wx.cell? ⟨zb, zo, none⟩ = some (.int .i64 cz) := fun wx hx => (hx.cell (p := ⟨zb, zo, none⟩) (by show zb < wr.heap.size; have := BQ.size; have := BR.size; have := BP.size; have := BR4.size; omega)).trans hzc
                    have gd1 : decide (cz < 0) = false := decide_eq_false (by omega)
                    have gd2 : decide (cz > z) = false := decide_eq_false (by omega)
                    have gd3 : decide (z < cz) = false := decide_eq_false (by omega)
                    have gd4 : decide (fz > z - cz) = false := decide_eq_false (by omega)
                    have gd5 : decide (z - cz < fz) = false := decide_eq_false (by omega)
                    have W1 : IntKind.i64.wrap (z - cz) = z - cz := by simp [IntKind.wrap, IntKind.signed, IntKind.bits]; omega
                    have BD : Below wr.heap.size wr wr.drew := ⟨rfl, rfl, rfl, Nat.le_refl _, fun _ _ => rfl⟩
                    have Xd := KX _ BD
                    have FL1 := FL _ BD
                    clear FL SO
                    go_wp2_with fail
                    go_region_held3 (fun wx => wx.cell? ⟨zb, zo, none⟩ = some (.int .i64 cz)) (first | with_reducible exact hzc | with_reducible exact Xd | with_reducible exact X1 | fail) (first
                      | (go_at_call 19; refine FL1.mono ?_; rintro e w6 ⟨rfl, b6⟩; have B6 := BD.trans b6; have X1 := KX _ B6))
                    all_goals
                      go_wp2_with fail
                      go_roundw
                      case rel => exact ⟨p + 1, by omega, by go_num, (BP.trans (BR4.mono BP.size)).trans (B6.mono (BP.trans (BR4.mono BP.size)).size)⟩
                      case measure => simp [intOf]; omega
              · have hkL : p = come.length := by omega
                subst hkL
                go_wp2_with fail
                go_ret
                exact ⟨rfl, BY⟩
end Go.Proofs.Ytnddejdndipddac
