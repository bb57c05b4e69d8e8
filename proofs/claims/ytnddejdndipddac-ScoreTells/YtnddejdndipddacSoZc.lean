/- The document's Sack: its loops. -/
import Derived.Test.YtnddejdndipddacSoZd
set_option maxRecDepth 20000
namespace Go.Proofs.Ytnddejdndipddac
open Go.RowKit

theorem SnGrow.on {S : Nat} {wr w1 : World} {g : Value} {L : List Sn} (h : SnGrow (S + 2) S wr g L) (kp : Keep (fun k => k < wr.heap.size ∧ k ≠ S + 1) wr w1) (hs : S + 2 ≤ wr.heap.size) : SnGrow (S + 2) S w1 g L := by
  have h' := h
  obtain ⟨vs, h1, h2⟩ := h'
  exact h.keep kp (fun k hk => ⟨by omega, by omega⟩) (fun k hk => ⟨(h2.lt k hk).2, by have := (h2.lt k hk).1; omega⟩)
theorem SnGrow.low {S base : Nat} {wr : World} {g : Value} {L : List Sn} (h : SnGrow base S wr g L) {X : Nat} (hX : X < base) : g.ownBlock ≠ some X := by
  obtain ⟨vs, h1, h2⟩ := h
  intro e
  have := (h2.lt X e).1
  omega
theorem Cells.drewn' {X : Nat} {w : World} {l : List Value} (h : Cells X w l) : Cells X w.drew l := ⟨h.cell, h.fz⟩
theorem Keep.drewn' {S : Nat → Prop} {a w : World} (h : Keep S a w) : Keep S a w.drew := ⟨h.os, h.tape, h.output, h.size, h.block⟩
theorem Cells.past2 {X Y : Nat} {w : World} {l : List Value} (h : Cells X w l) (j : Nat) (u : Value) (hne : X ≠ Y) : Cells X (w.setCell ⟨Y, j, none⟩ u) l :=
  h.keep (S := fun k => k ≠ Y) (Keep.setCell (Keep.refl _ _) (p := ⟨Y, j, none⟩) (fun e => e rfl) u) hne
theorem SnAt.cells {w : World} {X : Nat} {x : Sn} {d s q : Value} (h : Cells X w (snArr x d s q).toList) : SnAt w X 0 x d s q := SnAt.of fun i u _ hu => by rw [Nat.zero_add]; exact h.cell i u hu

theorem snVal_inj {x : Sn} {d s q d' s' q' : Value} (h : snVal x d s q = snVal x d' s' q') : d = d' ∧ s = s' ∧ q = q' := by
  simp only [snVal, Value.agg.injEq, Array.mk.injEq, List.cons.injEq, and_true, true_and] at h
  exact h

def Sn.miss (s : Sn) (m st : Int) : Sn := { s with missed := m, state := st }

set_option maxHeartbeats 8000000 in
theorem rsack_main (v : Value) (l : List Sn) (cum : Int) (c : Ck) (d s q : Value) (paths : Nat) (w : World) (hv : SnS w.heap.size w v l) (hd : By w.heap.size w d c.data) (hs : Sl w.heap.size w s c.spans) (hq : Kl w.heap.size w q c.skips) (hlen : l.length * 200 ≤ 140737488351232)
    (hris : RisesM cum l) (hc1 : -1 ≤ cum) (hc2 : cum ≤ 1000000) (hp2 : paths ≤ 2) (hpath : ∀ x ∈ l, 0 ≤ x.path ∧ x.path < (paths : Int)) (hno : ¬ (nearM cum c.tag < cum ∨ lastM l cum < nearM cum c.tag)) :
    Calls Try.prog 16 #[v, .int .i64 cum, ckVal c d s q, .int .i64 (paths : Int)] w fun e w' => ∃ u, e = .returned u ∧ SackV w' u (sackF l cum c.tag c.spans paths) ∧ Below w.heap.size w w' := by
  have HV := hv
  have HS := hs
  obtain ⟨a, cap, rfl, h1, h2⟩ := hv.ex
  obtain ⟨ad, cd, rfl, -, -⟩ := hd.ex
  obtain ⟨asp, csp, rfl⟩ := hs.ex
  obtain ⟨ak, ck, rfl, -, -⟩ := hq.ex
  obtain ⟨kind, tag, stream, mid, part, last, ordered, data, spans, room, skips⟩ := c
  simp only [ckVal] at *
  have NB := near_bd cum tag
  have NE := rnear_any cum tag
  have HE : Hid (sackF l cum tag spans paths = sackS l (nearM cum tag) spans paths) := if_neg hno
  rw [hris.last] at hno
  have HM := run_mkI paths (by omega)
  have g1 : decide ((paths : Int) < 0) = false := by simp
  generalize hn : nearM cum tag = n at *
  have hNw : ∀ wx, Calls Try.prog 46 #[.int .i64 cum, .int .i64 tag] wx fun e w' => e = .returned (.int .i64 n) ∧ w' = wx := fun wx => NE wx (by omega) (by omega)
  have B2 := two_below w (.cells #[.int .i64 kind, .int .i64 tag, .int .i64 stream, .int .i64 mid, .int .i64 part, .bool last, .bool ordered, .slice ad data.length cd, .slice asp spans.length csp, .int .i64 room, .slice ak skips.length ck] 42) (.cells (madeCells #[.int .i64 0] paths) 3)
  have CZ : Cells (w.heap.size + 1) ((w.alloc (.cells #[.int .i64 kind, .int .i64 tag, .int .i64 stream, .int .i64 mid, .int .i64 part, .bool last, .bool ordered, .slice ad data.length cd, .slice asp spans.length csp, .int .i64 room, .slice ak skips.length ck] 42)).alloc (.cells (madeCells #[.int .i64 0] paths) 3)) (cellsI (List.replicate paths 0)) := by
    have h := Cells.new' (w := w.alloc (.cells #[.int .i64 kind, .int .i64 tag, .int .i64 stream, .int .i64 mid, .int .i64 part, .bool last, .bool ordered, .slice ad data.length cd, .slice asp spans.length csp, .int .i64 room, .slice ak skips.length ck] 42)) (X := w.heap.size + 1) (madeCells #[.int .i64 0] paths) 3 (by simp)
    rw [toList_madeCells_one] at h
    simpa [cellsI] using h
  have X8 : ((w.alloc (.cells #[.int .i64 kind, .int .i64 tag, .int .i64 stream, .int .i64 mid, .int .i64 part, .bool last, .bool ordered, .slice ad data.length cd, .slice asp spans.length csp, .int .i64 room, .slice ak skips.length ck] 42)).alloc (.cells (madeCells #[.int .i64 0] paths) 3)).cell? ⟨w.heap.size, 8, none⟩ = some (.slice asp spans.length csp) := ((Cells.new w #[.int .i64 kind, .int .i64 tag, .int .i64 stream, .int .i64 mid, .int .i64 part, .bool last, .bool ordered, .slice ad data.length cd, .slice asp spans.length csp, .int .i64 room, .slice ak skips.length ck] 42).alloc (by simp) _).cell 8 _ rfl
  have hz : ((w.alloc (.cells #[.int .i64 kind, .int .i64 tag, .int .i64 stream, .int .i64 mid, .int .i64 part, .bool last, .bool ordered, .slice ad data.length cd, .slice asp spans.length csp, .int .i64 room, .slice ak skips.length ck] 42)).alloc (.cells (madeCells #[.int .i64 0] paths) 3)).heap.size = w.heap.size + 2 := by simp
  have hlt0 : ¬ n < cum := by omega
  have hgt0 : ¬ n > cum + (l.length : Int) := by omega
  have hll : l.length ≤ 703687441756 := by omega
  clear NE hn hq hd hs hno
  go_enter Try.func16, Try.ntmps16
  go_wp2_with (go_at_call 46; refine (hNw _).mono ?_; rintro e w' ⟨rfl, rfl⟩)
  generalize ((w.alloc (.cells #[.int .i64 kind, .int .i64 tag, .int .i64 stream, .int .i64 mid, .int .i64 part, .bool last, .bool ordered, .slice ad data.length cd, .slice asp spans.length csp, .int .i64 room, .slice ak skips.length ck] 42)).alloc (.cells (madeCells #[.int .i64 0] paths) 3)) = wA at *
  go_loopw [14, 15, 45] (fun g h i wr => ∃ k : Nat, k ≤ l.length ∧ i = .int .i64 k ∧ h = .int .i64 (dhiM n spans 0 (l.take k)) ∧ SnGrow (w.heap.size + 2) w.heap.size wr g (leftM n ((l.take k).map (arrM n spans))) ∧ Cells (w.heap.size + 1) wr (cellsI (comeM n spans (List.replicate paths 0) (l.take k))) ∧ wr.cell? ⟨w.heap.size, 8, none⟩ = some (.slice asp spans.length csp) ∧ w.heap.size + 2 ≤ wr.heap.size ∧ Below w.heap.size w wr) (fun _ _ i _ => l.length - (intOf i).toNat)
  case atStart => exact ⟨0, Nat.zero_le _, rfl, rfl, SnGrow.nil _ _ _, CZ, X8, by omega, B2⟩
  case round =>
    obtain ⟨k, hk, rfl, rfl, SG, CC, X8r, lR, BR⟩ := hrel
    obtain ⟨ga, gc, rfl⟩ := SG.form
    clear CZ X8 B2
    by_cases hlt : k < l.length
    · obtain ⟨b, off, da, dc, sa, sc, qa, qc, hb, hix, hby, hsl, hkl, hat⟩ := SnS.at (SlG.below SnV.bears HV BR (Nat.le_refl _)) k hlt
      have HLT : Hid (leftM n ((l.take (k + 1)).map (arrM n spans)) = leftM n ((l.take k).map (arrM n spans)) ++ (if l[k].number ≤ n then [] else [arrM n spans l[k]])) := left_take n spans l k hlt
      have HDT : Hid (dhiM n spans 0 (l.take (k + 1)) = dhiS n spans (dhiM n spans 0 (l.take k)) l[k]) := dhi_take n spans 0 l k hlt
      have HCT : Hid (comeM n spans (List.replicate paths 0) (l.take (k + 1)) = comeS n spans (comeM n spans (List.replicate paths 0) (l.take k)) l[k]) := comeM_take n spans _ l k (List.getElem?_eq_getElem hlt)
      have HLL := left_len n spans l k
      have HCL : (comeM n spans (List.replicate paths 0) (l.take k)).length = paths := by rw [comeM_len]; simp
      have hxn := hris k _ (List.getElem?_eq_getElem hlt)
      obtain ⟨hp0, hp1⟩ := hpath _ (List.getElem_mem hlt)
      generalize l[k] = x at *
      generalize hL : leftM n ((l.take k).map (arrM n spans)) = L at *
      generalize dhiM n spans 0 (l.take k) = y at *
      generalize comeM n spans (List.replicate paths 0) (l.take k) = cs at *
      have hn1 : -1000000 ≤ n := by omega
      have hn2 : n ≤ 703687441756 + 1000000 := by omega
      have hx1 : -1000000 ≤ x.number := by omega
      have hx2 : x.number ≤ 703687441756 + 1000001 := by omega
      have HLEN : Hid (l.length * 200 ≤ 140737488351232) := hlen
      have HLQ : Hid (L.length ≤ l.length) := HLL
      have HCQ : Hid (cs.length = paths) := HCL
      have HPQ : Hid (0 ≤ x.path ∧ x.path < (paths : Int)) := ⟨hp0, hp1⟩
      have HXQ : Hid (-1 ≤ cum ∧ cum ≤ 1000000) := ⟨hc1, hc2⟩
      clear HLL HCL hp0 hp1 hxn hc1 hc2 hL hlt0 hgt0 NB hpath hris hlen hNw HM g1 hp2 hz
      have IN : ∀ wx, Below w.heap.size w wx → Calls Try.prog 47 #[.slice asp spans.length csp, .int .i64 (x.number - n)] wx fun e w' => e = .returned (.bool (inM spans (x.number - n))) ∧ Below wx.heap.size wx w' := fun wx hx => rin_any _ _ _ wx (HS.size hx (Nat.le_refl _))
      have tk1 : True := trivial
      have tk2 : True := trivial
      have tk3 : True := trivial
      have tk4 : True := trivial
      obtain ⟨j, hj⟩ := Int.eq_ofNat_of_zero_le HPQ.out.1
      have hjp : j < paths := by have := HPQ.out.2; omega
      have hjc : j < cs.length := by rw [HCQ.out]; exact hjp
      have hixC : ∀ wx, (Instr.indexAt 22 (.slice (some ⟨w.heap.size + 1, 0, none⟩) paths paths) (.int .i64 x.path)).run Try.prog wx = .ok (.pointer (some ⟨w.heap.size + 1, j, none⟩)) wx := fun wx => by
        rw [hj]
        have : (j : Int) < paths := by omega
        go_simp
      have cj := CC.cell j _ (cellsI_get cs j hjc)
      have fj := CC.fz j
      have HAD : Hid (addAt cs x.path x.ck.data.length = cs.set j (wrap64 (cs[j] + x.ck.data.length))) := by
        show _ = _
        rw [addAt, if_pos ⟨by omega, by omega⟩, hj, Int.toNat_natCast, List.getD_eq_getElem?_getD, List.getElem?_eq_getElem hjc]
        rfl
      generalize hcj : cs[j] = cz at *
      have HJC : Hid (j < cs.length) := hjc
      have HCZ : Hid (cs[j] = cz) := hcj
      clear hj hcj hjp hjc
      have nTC : ¬ wr.heap.size = w.heap.size + 1 := by omega
      have nCT : ¬ w.heap.size + 1 = wr.heap.size := by omega
      have lC : w.heap.size + 1 < wr.heap.size := by omega
      have KP1 : Keep (fun k => k < wr.heap.size ∧ k ≠ w.heap.size + 1) wr (wr.alloc (.cells #[.int .i64 x.number, .int .i64 x.id, .int .i64 x.state, .int .i64 x.path, .int .i64 x.missed, .int .i64 x.times, .int .i64 x.came, .int .i64 x.life, .int .i64 x.tries, .int .i64 x.ck.kind, .int .i64 x.ck.tag, .int .i64 x.ck.stream, .int .i64 x.ck.mid, .int .i64 x.ck.part, .bool x.ck.last, .bool x.ck.ordered, .slice da x.ck.data.length dc, .slice sa x.ck.spans.length sc, .int .i64 x.ck.room, .slice qa x.ck.skips.length qc] 53)) := (Keep.refl _ _).alloc (fun k h => h.1) _
      have VX : SnV w.heap.size wr (snVal x (.slice da x.ck.data.length dc) (.slice sa x.ck.spans.length sc) (.slice qa x.ck.skips.length qc)) x := ⟨_, _, _, rfl, hby, hsl, hkl⟩
      have HT := Cells.new wr #[.int .i64 x.number, .int .i64 x.id, .int .i64 x.state, .int .i64 x.path, .int .i64 x.missed, .int .i64 x.times, .int .i64 x.came, .int .i64 x.life, .int .i64 x.tries, .int .i64 x.ck.kind, .int .i64 x.ck.tag, .int .i64 x.ck.stream, .int .i64 x.ck.mid, .int .i64 x.ck.part, .bool x.ck.last, .bool x.ck.ordered, .slice da x.ck.data.length dc, .slice sa x.ck.spans.length sc, .int .i64 x.ck.room, .slice qa x.ck.skips.length qc] 53
      have LX : w.heap.size < wr.heap.size ∧ w.heap.size ≠ w.heap.size + 1 := ⟨by omega, by omega⟩
      by_cases hle : x.number ≤ n
      · have E4 : Hid (leftM n ((l.take (k + 1)).map (arrM n spans)) = L) := by show _ = _; rw [HLT.out, if_pos hle, List.append_nil]
        cases s1 : (x.state == 1) with
        | false =>
          cases s3 : (x.state == 3) with
          | false =>
            have NW : newsM n spans x = false := by simp [newsM, waitedM, hereM, s1, s3]
            have E1 : Hid (comeM n spans (List.replicate paths 0) (l.take (k + 1)) = cs) := by show _ = _; rw [HCT.out, comeS, if_neg (by rw [NW]; simp)]
            have E2 : Hid (dhiM n spans 0 (l.take (k + 1)) = y) := by show _ = _; rw [HDT.out, dhiS, if_neg (by rw [NW]; simp)]
            have E3 : Hid (arrM n spans x = x) := by show _ = _; rw [arrM, if_neg (by rw [NW]; simp)]
            clear NW
            go_wp2_with (first
              | (have t := tk1; refine wpList_ld rfl (.tmp 47) rfl b off rfl x _ _ _ (by with_reducible exact hat) ?_; clear tk1 t)
              | (have t := tk2; refine wpList_st rfl (.tmp 17) (.tmp 48) rfl wr _ rfl rfl rfl [.int .i64 x.number, .int .i64 x.id, .int .i64 x.state, .int .i64 x.path, .int .i64 x.missed, .int .i64 x.times, .int .i64 x.came, .int .i64 x.life, .int .i64 x.tries, .int .i64 x.ck.kind, .int .i64 x.ck.tag, .int .i64 x.ck.stream, .int .i64 x.ck.mid, .int .i64 x.ck.part, .bool x.ck.last, .bool x.ck.ordered, .slice da x.ck.data.length dc, .slice sa x.ck.spans.length sc, .int .i64 x.ck.room, .slice qa x.ck.skips.length qc] rfl rfl rfl ?_; clear tk2 t))
            go_roundw
            case rel => exact ⟨k + 1, by omega, by go_num, by rw [E2.out], by rw [E4.out]; exact SG.on KP1 lR, by rw [E1.out]; exact CC.alloc lC _, (KP1.cell (p := ⟨w.heap.size, 8, none⟩) LX).trans X8r, Nat.le_trans lR KP1.size, BR.trans (KP1.below fun i hi => ⟨by omega, by omega⟩)⟩
            case measure => simp [intOf]; omega
          | true =>
            have NW : newsM n spans x = true := by simp [newsM, waitedM, hereM, s1, s3, hle]
            have E1 : Hid (comeM n spans (List.replicate paths 0) (l.take (k + 1)) = cs.set j (wrap64 (cz + x.ck.data.length))) := by show _ = _; rw [HCT.out, comeS, if_pos NW]; exact HAD.out
            have E2 : Hid (dhiM n spans 0 (l.take (k + 1)) = x.number) := by show _ = _; rw [HDT.out, dhiS, if_pos NW]
            have E3 : Hid (arrM n spans x = x.put 2) := by show _ = _; rw [arrM, if_pos NW]
            clear NW
            have KP2 : Keep (fun k => k < wr.heap.size ∧ k ≠ w.heap.size + 1) wr ((wr.setCell ⟨w.heap.size + 1, j, none⟩ (.int .i64 (wrap64 (cz + (x.ck.data.length : Int))))).alloc (.cells #[.int .i64 (x.put 2).number, .int .i64 (x.put 2).id, .int .i64 (x.put 2).state, .int .i64 (x.put 2).path, .int .i64 (x.put 2).missed, .int .i64 (x.put 2).times, .int .i64 (x.put 2).came, .int .i64 (x.put 2).life, .int .i64 (x.put 2).tries, .int .i64 (x.put 2).ck.kind, .int .i64 (x.put 2).ck.tag, .int .i64 (x.put 2).ck.stream, .int .i64 (x.put 2).ck.mid, .int .i64 (x.put 2).ck.part, .bool (x.put 2).ck.last, .bool (x.put 2).ck.ordered, .slice da x.ck.data.length dc, .slice sa x.ck.spans.length sc, .int .i64 (x.put 2).ck.room, .slice qa x.ck.skips.length qc] 53)).drew := (((Keep.refl _ wr).setCell (p := ⟨w.heap.size + 1, j, none⟩) (fun h => h.2 rfl) (.int .i64 (wrap64 (cz + (x.ck.data.length : Int))))).alloc (fun i hi => by simpa using hi.1) _).drewn'
            have CC2 : Cells (w.heap.size + 1) ((wr.setCell ⟨w.heap.size + 1, j, none⟩ (.int .i64 (wrap64 (cz + (x.ck.data.length : Int))))).alloc (.cells #[.int .i64 (x.put 2).number, .int .i64 (x.put 2).id, .int .i64 (x.put 2).state, .int .i64 (x.put 2).path, .int .i64 (x.put 2).missed, .int .i64 (x.put 2).times, .int .i64 (x.put 2).came, .int .i64 (x.put 2).life, .int .i64 (x.put 2).tries, .int .i64 (x.put 2).ck.kind, .int .i64 (x.put 2).ck.tag, .int .i64 (x.put 2).ck.stream, .int .i64 (x.put 2).ck.mid, .int .i64 (x.put 2).ck.part, .bool (x.put 2).ck.last, .bool (x.put 2).ck.ordered, .slice da x.ck.data.length dc, .slice sa x.ck.spans.length sc, .int .i64 (x.put 2).ck.room, .slice qa x.ck.skips.length qc] 53)).drew (cellsI (cs.set j (wrap64 (cz + x.ck.data.length)))) := by
              rw [cellsI_set]
              exact ((CC.set j (.int .i64 (wrap64 (cz + (x.ck.data.length : Int)))) (by simpa [cellsI] using HJC.out)).alloc (by simpa using lC) _).drewn'
            go_wp2_with (first
              | (have t := tk1; refine wpList_ld rfl (.tmp 47) rfl b off rfl x _ _ _ (by with_reducible exact hat) ?_; clear tk1 t)
              | (have t := tk2; refine wpList_st rfl (.tmp 17) (.tmp 48) rfl wr _ rfl rfl rfl [.int .i64 x.number, .int .i64 x.id, .int .i64 x.state, .int .i64 x.path, .int .i64 x.missed, .int .i64 x.times, .int .i64 x.came, .int .i64 x.life, .int .i64 x.tries, .int .i64 x.ck.kind, .int .i64 x.ck.tag, .int .i64 x.ck.stream, .int .i64 x.ck.mid, .int .i64 x.ck.part, .bool x.ck.last, .bool x.ck.ordered, .slice da x.ck.data.length dc, .slice sa x.ck.spans.length sc, .int .i64 x.ck.room, .slice qa x.ck.skips.length qc] rfl rfl rfl ?_; clear tk2 t))
            go_region
            go_wp2_with fail
            go_roundw
            case rel => exact ⟨k + 1, by omega, by go_num, by rw [E2.out], by rw [E4.out]; exact SG.on KP2 lR, by rw [E1.out]; exact CC2, (KP2.cell (p := ⟨w.heap.size, 8, none⟩) LX).trans X8r, Nat.le_trans lR KP2.size, BR.trans (KP2.below fun i hi => ⟨by omega, by omega⟩)⟩
            case measure => simp [intOf]; omega
        | true =>
          have NW : newsM n spans x = true := by simp [newsM, waitedM, hereM, s1, hle]
          have E1 : Hid (comeM n spans (List.replicate paths 0) (l.take (k + 1)) = cs.set j (wrap64 (cz + x.ck.data.length))) := by show _ = _; rw [HCT.out, comeS, if_pos NW]; exact HAD.out
          have E2 : Hid (dhiM n spans 0 (l.take (k + 1)) = x.number) := by show _ = _; rw [HDT.out, dhiS, if_pos NW]
          have E3 : Hid (arrM n spans x = x.put 2) := by show _ = _; rw [arrM, if_pos NW]
          clear NW
          have KP2 : Keep (fun k => k < wr.heap.size ∧ k ≠ w.heap.size + 1) wr ((wr.setCell ⟨w.heap.size + 1, j, none⟩ (.int .i64 (wrap64 (cz + (x.ck.data.length : Int))))).alloc (.cells #[.int .i64 (x.put 2).number, .int .i64 (x.put 2).id, .int .i64 (x.put 2).state, .int .i64 (x.put 2).path, .int .i64 (x.put 2).missed, .int .i64 (x.put 2).times, .int .i64 (x.put 2).came, .int .i64 (x.put 2).life, .int .i64 (x.put 2).tries, .int .i64 (x.put 2).ck.kind, .int .i64 (x.put 2).ck.tag, .int .i64 (x.put 2).ck.stream, .int .i64 (x.put 2).ck.mid, .int .i64 (x.put 2).ck.part, .bool (x.put 2).ck.last, .bool (x.put 2).ck.ordered, .slice da x.ck.data.length dc, .slice sa x.ck.spans.length sc, .int .i64 (x.put 2).ck.room, .slice qa x.ck.skips.length qc] 53)).drew := (((Keep.refl _ wr).setCell (p := ⟨w.heap.size + 1, j, none⟩) (fun h => h.2 rfl) (.int .i64 (wrap64 (cz + (x.ck.data.length : Int))))).alloc (fun i hi => by simpa using hi.1) _).drewn'
          have CC2 : Cells (w.heap.size + 1) ((wr.setCell ⟨w.heap.size + 1, j, none⟩ (.int .i64 (wrap64 (cz + (x.ck.data.length : Int))))).alloc (.cells #[.int .i64 (x.put 2).number, .int .i64 (x.put 2).id, .int .i64 (x.put 2).state, .int .i64 (x.put 2).path, .int .i64 (x.put 2).missed, .int .i64 (x.put 2).times, .int .i64 (x.put 2).came, .int .i64 (x.put 2).life, .int .i64 (x.put 2).tries, .int .i64 (x.put 2).ck.kind, .int .i64 (x.put 2).ck.tag, .int .i64 (x.put 2).ck.stream, .int .i64 (x.put 2).ck.mid, .int .i64 (x.put 2).ck.part, .bool (x.put 2).ck.last, .bool (x.put 2).ck.ordered, .slice da x.ck.data.length dc, .slice sa x.ck.spans.length sc, .int .i64 (x.put 2).ck.room, .slice qa x.ck.skips.length qc] 53)).drew (cellsI (cs.set j (wrap64 (cz + x.ck.data.length)))) := by
            rw [cellsI_set]
            exact ((CC.set j (.int .i64 (wrap64 (cz + (x.ck.data.length : Int)))) (by simpa [cellsI] using HJC.out)).alloc (by simpa using lC) _).drewn'
          go_wp2_with (first
            | (have t := tk1; refine wpList_ld rfl (.tmp 47) rfl b off rfl x _ _ _ (by with_reducible exact hat) ?_; clear tk1 t)
            | (have t := tk2; refine wpList_st rfl (.tmp 17) (.tmp 48) rfl wr _ rfl rfl rfl [.int .i64 x.number, .int .i64 x.id, .int .i64 x.state, .int .i64 x.path, .int .i64 x.missed, .int .i64 x.times, .int .i64 x.came, .int .i64 x.life, .int .i64 x.tries, .int .i64 x.ck.kind, .int .i64 x.ck.tag, .int .i64 x.ck.stream, .int .i64 x.ck.mid, .int .i64 x.ck.part, .bool x.ck.last, .bool x.ck.ordered, .slice da x.ck.data.length dc, .slice sa x.ck.spans.length sc, .int .i64 x.ck.room, .slice qa x.ck.skips.length qc] rfl rfl rfl ?_; clear tk2 t))
          go_region
          go_wp2_with fail
          go_roundw
          case rel => exact ⟨k + 1, by omega, by go_num, by rw [E2.out], by rw [E4.out]; exact SG.on KP2 lR, by rw [E1.out]; exact CC2, (KP2.cell (p := ⟨w.heap.size, 8, none⟩) LX).trans X8r, Nat.le_trans lR KP2.size, BR.trans (KP2.below fun i hi => ⟨by omega, by omega⟩)⟩
          case measure => simp [intOf]; omega
      · have E4 : Hid (leftM n ((l.take (k + 1)).map (arrM n spans)) = L ++ [arrM n spans x]) := by show _ = _; rw [HLT.out, if_neg hle]
        have hle' : ¬ x.number ≤ n := hle
        have hgt : x.number > n := by omega
        have NOB : Hid (∀ i, (Value.slice ga L.length gc).ownBlock = some i → w.heap.size + 2 ≤ i ∧ i < wr.heap.size) := by
          obtain ⟨vs, _, h2'⟩ := SG
          exact fun i hi => h2'.lt i hi
        have B2 := BR.alloc BR.size (.cells #[.int .i64 x.number, .int .i64 x.id, .int .i64 x.state, .int .i64 x.path, .int .i64 x.missed, .int .i64 x.times, .int .i64 x.came, .int .i64 x.life, .int .i64 x.tries, .int .i64 x.ck.kind, .int .i64 x.ck.tag, .int .i64 x.ck.stream, .int .i64 x.ck.mid, .int .i64 x.ck.part, .bool x.ck.last, .bool x.ck.ordered, .slice da x.ck.data.length dc, .slice sa x.ck.spans.length sc, .int .i64 x.ck.room, .slice qa x.ck.skips.length qc] 53)
        have SG2 := SG.on KP1 lR
        have CC2 := CC.alloc lC (.cells #[.int .i64 x.number, .int .i64 x.id, .int .i64 x.state, .int .i64 x.path, .int .i64 x.missed, .int .i64 x.times, .int .i64 x.came, .int .i64 x.life, .int .i64 x.tries, .int .i64 x.ck.kind, .int .i64 x.ck.tag, .int .i64 x.ck.stream, .int .i64 x.ck.mid, .int .i64 x.ck.part, .bool x.ck.last, .bool x.ck.ordered, .slice da x.ck.data.length dc, .slice sa x.ck.spans.length sc, .int .i64 x.ck.room, .slice qa x.ck.skips.length qc] 53)
        have X82 := (KP1.cell (p := ⟨w.heap.size, 8, none⟩) LX).trans X8r
        have l2 : wr.heap.size < (wr.alloc (.cells #[.int .i64 x.number, .int .i64 x.id, .int .i64 x.state, .int .i64 x.path, .int .i64 x.missed, .int .i64 x.times, .int .i64 x.came, .int .i64 x.life, .int .i64 x.tries, .int .i64 x.ck.kind, .int .i64 x.ck.tag, .int .i64 x.ck.stream, .int .i64 x.ck.mid, .int .i64 x.ck.part, .bool x.ck.last, .bool x.ck.ordered, .slice da x.ck.data.length dc, .slice sa x.ck.spans.length sc, .int .i64 x.ck.room, .slice qa x.ck.skips.length qc] 53)).heap.size := by simp
        go_wp2_with (first
          | (have t := tk1; refine wpList_ld rfl (.tmp 47) rfl b off rfl x _ _ _ (by with_reducible exact hat) ?_; clear tk1 t)
          | (have t := tk2; refine wpList_st rfl (.tmp 17) (.tmp 48) rfl wr _ rfl rfl rfl [.int .i64 x.number, .int .i64 x.id, .int .i64 x.state, .int .i64 x.path, .int .i64 x.missed, .int .i64 x.times, .int .i64 x.came, .int .i64 x.life, .int .i64 x.tries, .int .i64 x.ck.kind, .int .i64 x.ck.tag, .int .i64 x.ck.stream, .int .i64 x.ck.mid, .int .i64 x.ck.part, .bool x.ck.last, .bool x.ck.ordered, .slice da x.ck.data.length dc, .slice sa x.ck.spans.length sc, .int .i64 x.ck.room, .slice qa x.ck.skips.length qc] rfl rfl rfl ?_; clear tk2 t))
        generalize (wr.alloc (.cells #[.int .i64 x.number, .int .i64 x.id, .int .i64 x.state, .int .i64 x.path, .int .i64 x.missed, .int .i64 x.times, .int .i64 x.came, .int .i64 x.life, .int .i64 x.tries, .int .i64 x.ck.kind, .int .i64 x.ck.tag, .int .i64 x.ck.stream, .int .i64 x.ck.mid, .int .i64 x.ck.part, .bool x.ck.last, .bool x.ck.ordered, .slice da x.ck.data.length dc, .slice sa x.ck.spans.length sc, .int .i64 x.ck.room, .slice qa x.ck.skips.length qc] 53)) = w2 at *
        go_at_call 47
        refine (IN w2 B2).mono ?_
        rintro e w3 ⟨rfl, b3⟩
        dsimp only
        rename_i K9 aK9
        refine aK9 _ _ ?_
        have SG3 := SG2.below b3 (by omega)
        have CC3 := CC2.below b3 (by omega)
        have CT3 := HT.below b3 l2
        have X83 := (b3.cell (p := ⟨w.heap.size, 8, none⟩) (by show w.heap.size < w2.heap.size; omega)).trans X82
        have B3 := B2.trans (b3.mono B2.size)
        have l3 : wr.heap.size < w3.heap.size := Nat.lt_of_lt_of_le l2 b3.size
        have WW : Below w.heap.size wr w3 := (KP1.below fun i hi => ⟨by omega, by omega⟩).trans (b3.mono (by omega))
        have VX3 : SnV w.heap.size w3 (snVal x (.slice da x.ck.data.length dc) (.slice sa x.ck.spans.length sc) (.slice qa x.ck.skips.length qc)) x := SnV.bears.below VX WW (Nat.le_refl _)
        have AT3 := SnAt.cells CT3
        have t0 := CT3.cell 0 _ rfl
        have t2 := CT3.cell 2 _ rfl
        have t3 := CT3.cell 3 _ rfl
        have t16 := CT3.cell 16 _ rfl
        have ft2 := CT3.fz 2
        have cj3 : w3.cell? ⟨w.heap.size + 1, j, none⟩ = some (.int .i64 cz) := CC3.cell j _ (by rw [cellsI_get cs j HJC.out]; exact congrArg (fun z => some (Value.int .i64 z)) HCZ.out)
        have fj3 := CC3.fz j
        have HLQ2 : Hid ((L.length + 1) * 200 ≤ 140737488355328) := by show _ ≤ _; have := HLQ.out; have := HLEN.out; omega
        clear cj fj hat CC CC2 SG SG2 X8r X82 HT KP1 VX B2 b3
        cases hin : inM spans (x.number - n) with
        | false =>
          have NW : newsM n spans x = false := by simp [newsM, waitedM, hereM, hin, hle']
          have E1 : Hid (comeM n spans (List.replicate paths 0) (l.take (k + 1)) = cs) := by show _ = _; rw [HCT.out, comeS, if_neg (by rw [NW]; simp)]
          have E2 : Hid (dhiM n spans 0 (l.take (k + 1)) = y) := by show _ = _; rw [HDT.out, dhiS, if_neg (by rw [NW]; simp)]
          have E3 : Hid (arrM n spans x = x) := by show _ = _; rw [arrM, if_neg (by rw [NW]; simp)]
          clear NW
          have NOC : Hid ((Value.slice ga L.length gc).ownBlock ≠ some (w.heap.size + 1)) := SG3.low (by omega)
          have NOX : Hid ((Value.slice ga L.length gc).ownBlock ≠ some w.heap.size) := SG3.low (by omega)
          have lb3 : w.heap.size + 2 ≤ w3.heap.size := by omega
          have lC3 : w.heap.size + 1 < w3.heap.size := by omega
          have lX3 : w.heap.size < w3.heap.size := by omega
          go_wp2_with (first
            | (have t := tk3; guard_target =~ wpList _ _ _ (⟨some 95, _, _, _, _, _⟩ :: _) _ _; refine wpList_ld rfl (.tmp 17) rfl wr.heap.size 0 rfl x (.slice da x.ck.data.length dc) (.slice sa x.ck.spans.length sc) (.slice qa x.ck.skips.length qc) (by with_reducible exact AT3) ?_; clear tk3 t)
            | (have t := tk4; at_builtin; refine wpList_appS rfl (.tmp 94) (.tmp 96) rfl w3 (w.heap.size + 2) w.heap.size (.slice ga L.length gc) L x (.slice da x.ck.data.length dc) (.slice sa x.ck.spans.length sc) (.slice qa x.ck.skips.length qc) w3.heap.size rfl rfl rfl SG3 VX3 rfl (by omega) lb3 HLQ2.out ?_; intro v6 w6 SG6 K6 B6 O6; obtain ⟨ga6, gc6, e6⟩ := SG6.form; rw [List.length_append] at e6; subst e6; clear tk4 t))
          go_roundw
          case rel => exact ⟨k + 1, by omega, by go_num, by rw [E2.out], by rw [E4.out, E3.out]; exact SG6, by rw [E1.out]; exact CC3.keep K6 ⟨lC3, NOC.out⟩, (K6.cell (p := ⟨w.heap.size, 8, none⟩) ⟨lX3, NOX.out⟩).trans X83, Nat.le_trans lb3 K6.size, B3.trans (B6.mono (by omega))⟩
          case measure => simp [intOf]; omega
        | true =>
        cases s1 : (x.state == 1) with
        | false =>
          cases s3 : (x.state == 3) with
          | false =>
            have NW : newsM n spans x = false := by simp [newsM, waitedM, hereM, s1, s3]
            have E1 : Hid (comeM n spans (List.replicate paths 0) (l.take (k + 1)) = cs) := by show _ = _; rw [HCT.out, comeS, if_neg (by rw [NW]; simp)]
            have E2 : Hid (dhiM n spans 0 (l.take (k + 1)) = y) := by show _ = _; rw [HDT.out, dhiS, if_neg (by rw [NW]; simp)]
            have E3 : Hid (arrM n spans x = x) := by show _ = _; rw [arrM, if_neg (by rw [NW]; simp)]
            clear NW
            have NOC : Hid ((Value.slice ga L.length gc).ownBlock ≠ some (w.heap.size + 1)) := SG3.low (by omega)
            have NOX : Hid ((Value.slice ga L.length gc).ownBlock ≠ some w.heap.size) := SG3.low (by omega)
            have lb3 : w.heap.size + 2 ≤ w3.heap.size := by omega
            have lC3 : w.heap.size + 1 < w3.heap.size := by omega
            have lX3 : w.heap.size < w3.heap.size := by omega
            go_wp2_with (first
              | (have t := tk3; guard_target =~ wpList _ _ _ (⟨some 95, _, _, _, _, _⟩ :: _) _ _; refine wpList_ld rfl (.tmp 17) rfl wr.heap.size 0 rfl x (.slice da x.ck.data.length dc) (.slice sa x.ck.spans.length sc) (.slice qa x.ck.skips.length qc) (by with_reducible exact AT3) ?_; clear tk3 t)
              | (have t := tk4; at_builtin; refine wpList_appS rfl (.tmp 94) (.tmp 96) rfl w3 (w.heap.size + 2) w.heap.size (.slice ga L.length gc) L x (.slice da x.ck.data.length dc) (.slice sa x.ck.spans.length sc) (.slice qa x.ck.skips.length qc) w3.heap.size rfl rfl rfl SG3 VX3 rfl (by omega) lb3 HLQ2.out ?_; intro v6 w6 SG6 K6 B6 O6; obtain ⟨ga6, gc6, e6⟩ := SG6.form; rw [List.length_append] at e6; subst e6; clear tk4 t))
            go_roundw
            case rel => exact ⟨k + 1, by omega, by go_num, by rw [E2.out], by rw [E4.out, E3.out]; exact SG6, by rw [E1.out]; exact CC3.keep K6 ⟨lC3, NOC.out⟩, (K6.cell (p := ⟨w.heap.size, 8, none⟩) ⟨lX3, NOX.out⟩).trans X83, Nat.le_trans lb3 K6.size, B3.trans (B6.mono (by omega))⟩
            case measure => simp [intOf]; omega
          | true =>
            have NW : newsM n spans x = true := by simp [newsM, waitedM, hereM, s1, s3, hin]
            have E1 : Hid (comeM n spans (List.replicate paths 0) (l.take (k + 1)) = cs.set j (wrap64 (cz + x.ck.data.length))) := by show _ = _; rw [HCT.out, comeS, if_pos NW]; exact HAD.out
            have E2 : Hid (dhiM n spans 0 (l.take (k + 1)) = x.number) := by show _ = _; rw [HDT.out, dhiS, if_pos NW]
            have E3 : Hid (arrM n spans x = x.put 2) := by show _ = _; rw [arrM, if_pos NW]
            clear NW
            go_wp2_with fail
            go_region
            have CC4 : Cells (w.heap.size + 1) (w3.setCell ⟨w.heap.size + 1, j, none⟩ (.int .i64 (wrap64 (cz + (x.ck.data.length : Int))))).drew (cellsI (cs.set j (wrap64 (cz + x.ck.data.length)))) := by
              rw [cellsI_set]
              exact (CC3.set j (.int .i64 (wrap64 (cz + (x.ck.data.length : Int)))) (by simpa [cellsI] using HJC.out)).drewn'
            have CT4 := (CT3.past2 (Y := w.heap.size + 1) j (.int .i64 (wrap64 (cz + (x.ck.data.length : Int)))) nTC).drewn'
            have KP4 : Keep (fun i => i < w3.heap.size ∧ i ≠ w.heap.size + 1) w3 (w3.setCell ⟨w.heap.size + 1, j, none⟩ (.int .i64 (wrap64 (cz + (x.ck.data.length : Int))))).drew := ((Keep.refl _ w3).setCell (p := ⟨w.heap.size + 1, j, none⟩) (fun h => h.2 rfl) (.int .i64 (wrap64 (cz + (x.ck.data.length : Int))))).drewn'
            have z4 : (w3.setCell ⟨w.heap.size + 1, j, none⟩ (.int .i64 (wrap64 (cz + (x.ck.data.length : Int))))).drew.heap.size = w3.heap.size := by simp
            generalize (w3.setCell ⟨w.heap.size + 1, j, none⟩ (.int .i64 (wrap64 (cz + (x.ck.data.length : Int))))).drew = w4 at *
            have SG4 := SG3.on KP4 (by omega)
            have X84 := (KP4.cell (p := ⟨w.heap.size, 8, none⟩) ⟨by show w.heap.size < w3.heap.size; omega, by show w.heap.size ≠ w.heap.size + 1; omega⟩).trans X83
            have B4 := B3.trans (KP4.below fun i hi => ⟨by omega, by omega⟩)
            have VX4 := SnV.bears.below VX3 (KP4.below fun i hi => ⟨by omega, by omega⟩) (Nat.le_refl _)
            have KP5 : Keep (fun i => i ≠ wr.heap.size) w4 (w4.setCell ⟨wr.heap.size, 2, none⟩ (.int .i64 2)) := (Keep.refl _ w4).setCell (p := ⟨wr.heap.size, 2, none⟩) (fun h => h rfl) _
            have SG5 := SG4.keep KP5 (fun i hi => by omega) (fun i hi => by have := (NOB.out i hi).2; omega)
            have AT5 : SnAt (w4.setCell ⟨wr.heap.size, 2, none⟩ (.int .i64 2)) wr.heap.size 0 (x.put 2) (.slice da x.ck.data.length dc) (.slice sa x.ck.spans.length sc) (.slice qa x.ck.skips.length qc) := SnAt.cells (CT4.set 2 (.int .i64 2) (by simp))
            have VX5 : SnV w.heap.size (w4.setCell ⟨wr.heap.size, 2, none⟩ (.int .i64 2)) (snVal (x.put 2) (.slice da x.ck.data.length dc) (.slice sa x.ck.spans.length sc) (.slice qa x.ck.skips.length qc)) (x.put 2) := by
              obtain ⟨d', s', q', e', i1, i2, i3⟩ := SnV.bears.below VX4 (KP5.below fun i hi => by omega) (Nat.le_refl _)
              obtain ⟨rfl, rfl, rfl⟩ := snVal_inj e'
              exact ⟨_, _, _, rfl, i1, i2, i3⟩
            have CC5 := CC4.keep KP5 (by omega)
            have X85 := (KP5.cell (p := ⟨w.heap.size, 8, none⟩) (by show w.heap.size ≠ wr.heap.size; omega)).trans X84
            have B5 := B4.trans (KP5.below fun i hi => by omega)
            have z5 : (w4.setCell ⟨wr.heap.size, 2, none⟩ (.int .i64 2)).heap.size = w3.heap.size := by simp; exact z4
            have HP5 : Hid (w4.heap.size = (w4.setCell ⟨wr.heap.size, 2, none⟩ (.int .i64 2)).heap.size) := by show _ = _; simp
            have q0 := CT4.cell 0 _ rfl
            have q2 := CT4.cell 2 _ rfl
            have fq2 := CT4.fz 2
            have NOC : Hid ((Value.slice ga L.length gc).ownBlock ≠ some (w.heap.size + 1)) := SG5.low (by omega)
            have NOX : Hid ((Value.slice ga L.length gc).ownBlock ≠ some w.heap.size) := SG5.low (by omega)
            have lb5 : w.heap.size + 2 ≤ (w4.setCell ⟨wr.heap.size, 2, none⟩ (.int .i64 2)).heap.size := by rw [z5]; omega
            have lC5 : w.heap.size + 1 < (w4.setCell ⟨wr.heap.size, 2, none⟩ (.int .i64 2)).heap.size := by rw [z5]; omega
            have lX5 : w.heap.size < (w4.setCell ⟨wr.heap.size, 2, none⟩ (.int .i64 2)).heap.size := by rw [z5]; omega
            clear t0 t2 t3 t16 ft2 cj3 fj3 CT3 CC3 SG3 AT3 VX3 X83 B3 VX4 SG4 X84 B4 CC4 KP4 z4 CT4 z5
            go_wp2_with (first
              | (have t := tk3; guard_target =~ wpList _ _ _ (⟨some 95, _, _, _, _, _⟩ :: _) _ _; refine wpList_ld rfl (.tmp 17) rfl wr.heap.size 0 rfl (x.put 2) (.slice da x.ck.data.length dc) (.slice sa x.ck.spans.length sc) (.slice qa x.ck.skips.length qc) (by with_reducible exact AT5) ?_; clear tk3 t)
              | (have t := tk4; at_builtin; refine wpList_appS rfl (.tmp 94) (.tmp 96) rfl (w4.setCell ⟨wr.heap.size, 2, none⟩ (.int .i64 2)) (w.heap.size + 2) w.heap.size (.slice ga L.length gc) L (x.put 2) (.slice da x.ck.data.length dc) (.slice sa x.ck.spans.length sc) (.slice qa x.ck.skips.length qc) w4.heap.size HP5.out rfl rfl SG5 VX5 rfl (by omega) lb5 HLQ2.out ?_; intro v6 w6 SG6 K6 B6 O6; obtain ⟨ga6, gc6, e6⟩ := SG6.form; rw [List.length_append] at e6; subst e6; clear tk4 t))
            go_roundw
            case rel => exact ⟨k + 1, by omega, by go_num, by rw [E2.out], by rw [E4.out, E3.out]; exact SG6, by rw [E1.out]; exact CC5.keep K6 ⟨lC5, NOC.out⟩, (K6.cell (p := ⟨w.heap.size, 8, none⟩) ⟨lX5, NOX.out⟩).trans X85, Nat.le_trans lb5 K6.size, B5.trans (B6.mono (by omega))⟩
            case measure => simp [intOf]; omega
        | true =>
          have NW : newsM n spans x = true := by simp [newsM, waitedM, hereM, s1, hin]
          have E1 : Hid (comeM n spans (List.replicate paths 0) (l.take (k + 1)) = cs.set j (wrap64 (cz + x.ck.data.length))) := by show _ = _; rw [HCT.out, comeS, if_pos NW]; exact HAD.out
          have E2 : Hid (dhiM n spans 0 (l.take (k + 1)) = x.number) := by show _ = _; rw [HDT.out, dhiS, if_pos NW]
          have E3 : Hid (arrM n spans x = x.put 2) := by show _ = _; rw [arrM, if_pos NW]
          clear NW
          go_wp2_with fail
          go_region
          have CC4 : Cells (w.heap.size + 1) (w3.setCell ⟨w.heap.size + 1, j, none⟩ (.int .i64 (wrap64 (cz + (x.ck.data.length : Int))))).drew (cellsI (cs.set j (wrap64 (cz + x.ck.data.length)))) := by
            rw [cellsI_set]
            exact (CC3.set j (.int .i64 (wrap64 (cz + (x.ck.data.length : Int)))) (by simpa [cellsI] using HJC.out)).drewn'
          have CT4 := (CT3.past2 (Y := w.heap.size + 1) j (.int .i64 (wrap64 (cz + (x.ck.data.length : Int)))) nTC).drewn'
          have KP4 : Keep (fun i => i < w3.heap.size ∧ i ≠ w.heap.size + 1) w3 (w3.setCell ⟨w.heap.size + 1, j, none⟩ (.int .i64 (wrap64 (cz + (x.ck.data.length : Int))))).drew := ((Keep.refl _ w3).setCell (p := ⟨w.heap.size + 1, j, none⟩) (fun h => h.2 rfl) (.int .i64 (wrap64 (cz + (x.ck.data.length : Int))))).drewn'
          have z4 : (w3.setCell ⟨w.heap.size + 1, j, none⟩ (.int .i64 (wrap64 (cz + (x.ck.data.length : Int))))).drew.heap.size = w3.heap.size := by simp
          generalize (w3.setCell ⟨w.heap.size + 1, j, none⟩ (.int .i64 (wrap64 (cz + (x.ck.data.length : Int))))).drew = w4 at *
          have SG4 := SG3.on KP4 (by omega)
          have X84 := (KP4.cell (p := ⟨w.heap.size, 8, none⟩) ⟨by show w.heap.size < w3.heap.size; omega, by show w.heap.size ≠ w.heap.size + 1; omega⟩).trans X83
          have B4 := B3.trans (KP4.below fun i hi => ⟨by omega, by omega⟩)
          have VX4 := SnV.bears.below VX3 (KP4.below fun i hi => ⟨by omega, by omega⟩) (Nat.le_refl _)
          have KP5 : Keep (fun i => i ≠ wr.heap.size) w4 (w4.setCell ⟨wr.heap.size, 2, none⟩ (.int .i64 2)) := (Keep.refl _ w4).setCell (p := ⟨wr.heap.size, 2, none⟩) (fun h => h rfl) _
          have SG5 := SG4.keep KP5 (fun i hi => by omega) (fun i hi => by have := (NOB.out i hi).2; omega)
          have AT5 : SnAt (w4.setCell ⟨wr.heap.size, 2, none⟩ (.int .i64 2)) wr.heap.size 0 (x.put 2) (.slice da x.ck.data.length dc) (.slice sa x.ck.spans.length sc) (.slice qa x.ck.skips.length qc) := SnAt.cells (CT4.set 2 (.int .i64 2) (by simp))
          have VX5 : SnV w.heap.size (w4.setCell ⟨wr.heap.size, 2, none⟩ (.int .i64 2)) (snVal (x.put 2) (.slice da x.ck.data.length dc) (.slice sa x.ck.spans.length sc) (.slice qa x.ck.skips.length qc)) (x.put 2) := by
            obtain ⟨d', s', q', e', i1, i2, i3⟩ := SnV.bears.below VX4 (KP5.below fun i hi => by omega) (Nat.le_refl _)
            obtain ⟨rfl, rfl, rfl⟩ := snVal_inj e'
            exact ⟨_, _, _, rfl, i1, i2, i3⟩
          have CC5 := CC4.keep KP5 (by omega)
          have X85 := (KP5.cell (p := ⟨w.heap.size, 8, none⟩) (by show w.heap.size ≠ wr.heap.size; omega)).trans X84
          have B5 := B4.trans (KP5.below fun i hi => by omega)
          have z5 : (w4.setCell ⟨wr.heap.size, 2, none⟩ (.int .i64 2)).heap.size = w3.heap.size := by simp; exact z4
          have HP5 : Hid (w4.heap.size = (w4.setCell ⟨wr.heap.size, 2, none⟩ (.int .i64 2)).heap.size) := by show _ = _; simp
          have q0 := CT4.cell 0 _ rfl
          have q2 := CT4.cell 2 _ rfl
          have fq2 := CT4.fz 2
          have NOC : Hid ((Value.slice ga L.length gc).ownBlock ≠ some (w.heap.size + 1)) := SG5.low (by omega)
          have NOX : Hid ((Value.slice ga L.length gc).ownBlock ≠ some w.heap.size) := SG5.low (by omega)
          have lb5 : w.heap.size + 2 ≤ (w4.setCell ⟨wr.heap.size, 2, none⟩ (.int .i64 2)).heap.size := by rw [z5]; omega
          have lC5 : w.heap.size + 1 < (w4.setCell ⟨wr.heap.size, 2, none⟩ (.int .i64 2)).heap.size := by rw [z5]; omega
          have lX5 : w.heap.size < (w4.setCell ⟨wr.heap.size, 2, none⟩ (.int .i64 2)).heap.size := by rw [z5]; omega
          clear t0 t2 t3 t16 ft2 cj3 fj3 CT3 CC3 SG3 AT3 VX3 X83 B3 VX4 SG4 X84 B4 CC4 KP4 z4 CT4 z5
          go_wp2_with (first
            | (have t := tk3; guard_target =~ wpList _ _ _ (⟨some 95, _, _, _, _, _⟩ :: _) _ _; refine wpList_ld rfl (.tmp 17) rfl wr.heap.size 0 rfl (x.put 2) (.slice da x.ck.data.length dc) (.slice sa x.ck.spans.length sc) (.slice qa x.ck.skips.length qc) (by with_reducible exact AT5) ?_; clear tk3 t)
            | (have t := tk4; at_builtin; refine wpList_appS rfl (.tmp 94) (.tmp 96) rfl (w4.setCell ⟨wr.heap.size, 2, none⟩ (.int .i64 2)) (w.heap.size + 2) w.heap.size (.slice ga L.length gc) L (x.put 2) (.slice da x.ck.data.length dc) (.slice sa x.ck.spans.length sc) (.slice qa x.ck.skips.length qc) w4.heap.size HP5.out rfl rfl SG5 VX5 rfl (by omega) lb5 HLQ2.out ?_; intro v6 w6 SG6 K6 B6 O6; obtain ⟨ga6, gc6, e6⟩ := SG6.form; rw [List.length_append] at e6; subst e6; clear tk4 t))
          go_roundw
          case rel => exact ⟨k + 1, by omega, by go_num, by rw [E2.out], by rw [E4.out, E3.out]; exact SG6, by rw [E1.out]; exact CC5.keep K6 ⟨lC5, NOC.out⟩, (K6.cell (p := ⟨w.heap.size, 8, none⟩) ⟨lX5, NOX.out⟩).trans X85, Nat.le_trans lb5 K6.size, B5.trans (B6.mono (by omega))⟩
          case measure => simp [intOf]; omega
    · have hkl : k = l.length := by omega
      subst hkl
      rw [List.take_of_length_le (Nat.le_refl _)] at SG CC ⊢
      have SL := SG.sns (by omega)
      have HDS := dsack_out (n := n) (sp := spans) hris hc1 paths
      have HDL := dsack_lost (n := n) (sp := spans) hris hc1 paths
      have HSN : (sackS l n spans paths).now = n := rfl
      have HSC : (sackS l n spans paths).come = comeM n spans (List.replicate paths 0) l := rfl
      have HLL : (leftM n (l.map (arrM n spans))).length ≤ l.length := by have := left_len n spans l l.length; rwa [List.take_of_length_le (Nat.le_refl _)] at this
      have HCI := come_I64 (n := n) (sp := spans) l (zs := List.replicate paths 0) (fun z hz => by obtain ⟨-, rfl⟩ := List.mem_replicate.1 hz; unfold I64; omega)
      have HCL : (comeM n spans (List.replicate paths 0) l).length = paths := by rw [comeM_len]; simp
      have HLI : ∀ z ∈ (sackS l n spans paths).lost, I64 z := by
        intro z hz
        obtain ⟨u, hu, rfl⟩ := List.mem_map.1 (HDL ▸ hz)
        obtain ⟨u', hu', e'⟩ := List.mem_map.1 (List.mem_filter.1 (List.mem_filter.1 hu).1).1
        have := hris.mem hu'
        rw [← e', arr_number]
        unfold I64
        omega
      rw [← HE.out] at HDS HDL HSN HSC HLI
      generalize hR : sackF l cum tag spans paths = R at HDS HDL HSN HSC HLI
      have HR : Hid (sackF l cum tag spans paths = R) := hR
      generalize leftM n (l.map (arrM n spans)) = L at *
      generalize dhiM n spans 0 l = y at *
      generalize comeM n spans (List.replicate paths 0) l = cs at *
      have HLEN : Hid (l.length * 200 ≤ 140737488351232) := hlen
      have HLQ : Hid (L.length ≤ l.length) := HLL
      have hL1 : L.length ≤ 703687441756 := by omega
      have HCQ : Hid (cs.length = paths) := HCL
      have HPP : Hid (paths ≤ 2) := hp2
      have HDS' : Hid (R.out = L.map (missM y)) := HDS
      have HDL' : Hid (R.lost = lostM y L) := HDL
      have HSN' : Hid (R.now = n) := HSN
      have HSC' : Hid (R.come = cs) := HSC
      clear HLL HCL hris hc1 hc2 hpath hlen hlt0 hgt0 NB hNw HM g1 hp2 hz hlt X8r SG HE HV hv HS h1 h2 hll hR HDS HDL HSN HSC
      generalize hNN : wr.heap.size = N at SL lR
      go_wp2_with fail
      generalize hwB : wr = wB at *
      have hNB : wB.heap.size = N := hNN
      clear hwB hNN
      go_loopw [19, 20, 101] (fun g h i wr => ∃ k : Nat, k ≤ L.length ∧ i = .int .i64 k ∧ RowSI N wr g h ((L.take k).map (missM y)) (lostM y (L.take k)) ∧ Below N wB wr) (fun _ _ i _ => L.length - (intOf i).toNat)
      case atStart => exact ⟨0, Nat.zero_le _, rfl, RowSI.nil _ _, Below.refl _ _⟩
      case round =>
        obtain ⟨k, hk, rfl, TR, BR2⟩ := hrel
        have hNr : N ≤ wr.heap.size := by have := BR2.size; omega
        have hNB1 : N ≤ wr.heap.size := hNr
        have HOL : Hid (((L.take k).map (missM y)).length = k) := by show _ = _; simp; omega
        obtain ⟨oa, oc, eo⟩ := TR.sg.form
        rw [HOL.out] at eo
        subst eo
        by_cases hlt : k < L.length
        · have HLT : Hid (lostM y (L.take (k + 1)) = lostM y (L.take k) ++ (if lostB y L[k] = true then [L[k].number] else [])) := lost_take y L k hlt
          have HMT : Hid ((L.take (k + 1)).map (missM y) = (L.take k).map (missM y) ++ [missM y L[k]]) := missed_take y L k hlt
          have HZL := lost_len y L k
          generalize lostM y (L.take k) = zs at *
          obtain ⟨la, lc, el⟩ := own_form TR.oh
          subst el
          obtain ⟨b, off, da, dc, sa, sc, qa, qc, hb, hix, hby, hsl, hkl, hat⟩ := SnS.at (SlG.below SnV.bears SL BR2 (Nat.le_refl _)) k hlt
          generalize L[k] = x at *
          have HYP : Hid ((((L.take k).map (missM y)).length + 1) * 200 ≤ 140737488355328) := by show _ ≤ _; rw [HOL.out]; have := HLQ.out; have := HLEN.out; omega
          have HYZ : Hid ((zs.length + 1) * 8 ≤ 140737488355328) := by show _ ≤ _; omega
          clear HZL SL CC
          have tk1 : True := trivial
          have tk2 : True := trivial
          have tk3 : True := trivial
          have tk4 : True := trivial
          have tk5 : True := trivial
          cases s1 : (x.state == 1) with
          | false =>
            have MX : missM y x = x := by rw [missM, if_neg (by simp [missB, s1])]
            have LX : lostB y x = false := by simp [lostB, missB, s1]
            have E7 : Hid ((L.take (k + 1)).map (missM y) = (L.take k).map (missM y) ++ [x]) := by show _ = _; rw [HMT.out, MX]
            have E8 : Hid (lostM y (L.take (k + 1)) = zs) := by show _ = _; rw [HLT.out, if_neg (by rw [LX]; simp), List.append_nil]
            clear MX LX
            have TR1 := TR.below (box_below wr (.cells #[.int .i64 x.number, .int .i64 x.id, .int .i64 x.state, .int .i64 x.path, .int .i64 x.missed, .int .i64 x.times, .int .i64 x.came, .int .i64 x.life, .int .i64 x.tries, .int .i64 x.ck.kind, .int .i64 x.ck.tag, .int .i64 x.ck.stream, .int .i64 x.ck.mid, .int .i64 x.ck.part, .bool x.ck.last, .bool x.ck.ordered, .slice da x.ck.data.length dc, .slice sa x.ck.spans.length sc, .int .i64 x.ck.room, .slice qa x.ck.skips.length qc] 53)) hNr
            have B1 := BR2.alloc hNB1 (.cells #[.int .i64 x.number, .int .i64 x.id, .int .i64 x.state, .int .i64 x.path, .int .i64 x.missed, .int .i64 x.times, .int .i64 x.came, .int .i64 x.life, .int .i64 x.tries, .int .i64 x.ck.kind, .int .i64 x.ck.tag, .int .i64 x.ck.stream, .int .i64 x.ck.mid, .int .i64 x.ck.part, .bool x.ck.last, .bool x.ck.ordered, .slice da x.ck.data.length dc, .slice sa x.ck.spans.length sc, .int .i64 x.ck.room, .slice qa x.ck.skips.length qc] 53)
            have AT1 : SnAt (wr.alloc (.cells #[.int .i64 x.number, .int .i64 x.id, .int .i64 x.state, .int .i64 x.path, .int .i64 x.missed, .int .i64 x.times, .int .i64 x.came, .int .i64 x.life, .int .i64 x.tries, .int .i64 x.ck.kind, .int .i64 x.ck.tag, .int .i64 x.ck.stream, .int .i64 x.ck.mid, .int .i64 x.ck.part, .bool x.ck.last, .bool x.ck.ordered, .slice da x.ck.data.length dc, .slice sa x.ck.spans.length sc, .int .i64 x.ck.room, .slice qa x.ck.skips.length qc] 53)) wr.heap.size 0 x (.slice da x.ck.data.length dc) (.slice sa x.ck.spans.length sc) (.slice qa x.ck.skips.length qc) := SnAt.new wr x _ _ _
            have VX1 : SnV N (wr.alloc (.cells #[.int .i64 x.number, .int .i64 x.id, .int .i64 x.state, .int .i64 x.path, .int .i64 x.missed, .int .i64 x.times, .int .i64 x.came, .int .i64 x.life, .int .i64 x.tries, .int .i64 x.ck.kind, .int .i64 x.ck.tag, .int .i64 x.ck.stream, .int .i64 x.ck.mid, .int .i64 x.ck.part, .bool x.ck.last, .bool x.ck.ordered, .slice da x.ck.data.length dc, .slice sa x.ck.spans.length sc, .int .i64 x.ck.room, .slice qa x.ck.skips.length qc] 53)) (snVal x (.slice da x.ck.data.length dc) (.slice sa x.ck.spans.length sc) (.slice qa x.ck.skips.length qc)) x := by
              have bb : Below N wr (wr.alloc (.cells #[.int .i64 x.number, .int .i64 x.id, .int .i64 x.state, .int .i64 x.path, .int .i64 x.missed, .int .i64 x.times, .int .i64 x.came, .int .i64 x.life, .int .i64 x.tries, .int .i64 x.ck.kind, .int .i64 x.ck.tag, .int .i64 x.ck.stream, .int .i64 x.ck.mid, .int .i64 x.ck.part, .bool x.ck.last, .bool x.ck.ordered, .slice da x.ck.data.length dc, .slice sa x.ck.spans.length sc, .int .i64 x.ck.room, .slice qa x.ck.skips.length qc] 53)) := (box_below wr _).mono hNr
              exact ⟨_, _, _, rfl, hby.below bb (Nat.le_refl _), hsl.below bb (Nat.le_refl _), hkl.below bb (Nat.le_refl _)⟩
            have HP1 : Hid (wr.heap.size + 1 = (wr.alloc (.cells #[.int .i64 x.number, .int .i64 x.id, .int .i64 x.state, .int .i64 x.path, .int .i64 x.missed, .int .i64 x.times, .int .i64 x.came, .int .i64 x.life, .int .i64 x.tries, .int .i64 x.ck.kind, .int .i64 x.ck.tag, .int .i64 x.ck.stream, .int .i64 x.ck.mid, .int .i64 x.ck.part, .bool x.ck.last, .bool x.ck.ordered, .slice da x.ck.data.length dc, .slice sa x.ck.spans.length sc, .int .i64 x.ck.room, .slice qa x.ck.skips.length qc] 53)).heap.size) := by show _ = _; simp
            have fr1 : N ≤ (wr.alloc (.cells #[.int .i64 x.number, .int .i64 x.id, .int .i64 x.state, .int .i64 x.path, .int .i64 x.missed, .int .i64 x.times, .int .i64 x.came, .int .i64 x.life, .int .i64 x.tries, .int .i64 x.ck.kind, .int .i64 x.ck.tag, .int .i64 x.ck.stream, .int .i64 x.ck.mid, .int .i64 x.ck.part, .bool x.ck.last, .bool x.ck.ordered, .slice da x.ck.data.length dc, .slice sa x.ck.spans.length sc, .int .i64 x.ck.room, .slice qa x.ck.skips.length qc] 53)).heap.size := by rw [← HP1.out]; omega
            go_wp2_with (first
              | (have t := tk1; refine wpList_ld rfl (.tmp 103) rfl b off rfl x _ _ _ (by with_reducible exact hat) ?_; clear tk1 t)
              | (have t := tk2; refine wpList_st rfl (.tmp 22) (.tmp 104) rfl wr _ rfl rfl rfl [.int .i64 x.number, .int .i64 x.id, .int .i64 x.state, .int .i64 x.path, .int .i64 x.missed, .int .i64 x.times, .int .i64 x.came, .int .i64 x.life, .int .i64 x.tries, .int .i64 x.ck.kind, .int .i64 x.ck.tag, .int .i64 x.ck.stream, .int .i64 x.ck.mid, .int .i64 x.ck.part, .bool x.ck.last, .bool x.ck.ordered, .slice da x.ck.data.length dc, .slice sa x.ck.spans.length sc, .int .i64 x.ck.room, .slice qa x.ck.skips.length qc] rfl rfl rfl ?_; clear tk2 t)
              | (have t := tk3; refine wpList_ld rfl (.tmp 22) rfl wr.heap.size 0 rfl x (.slice da x.ck.data.length dc) (.slice sa x.ck.spans.length sc) (.slice qa x.ck.skips.length qc) (by with_reducible exact AT1) ?_; clear tk3 t)
              | (have t := tk4; at_builtin; refine wpList_appS rfl (.tmp 127) (.tmp 129) rfl (wr.alloc (.cells #[.int .i64 x.number, .int .i64 x.id, .int .i64 x.state, .int .i64 x.path, .int .i64 x.missed, .int .i64 x.times, .int .i64 x.came, .int .i64 x.life, .int .i64 x.tries, .int .i64 x.ck.kind, .int .i64 x.ck.tag, .int .i64 x.ck.stream, .int .i64 x.ck.mid, .int .i64 x.ck.part, .bool x.ck.last, .bool x.ck.ordered, .slice da x.ck.data.length dc, .slice sa x.ck.spans.length sc, .int .i64 x.ck.room, .slice qa x.ck.skips.length qc] 53)) N N (.slice oa k oc) ((L.take k).map (missM y)) x (.slice da x.ck.data.length dc) (.slice sa x.ck.spans.length sc) (.slice qa x.ck.skips.length qc) (wr.heap.size + 1) HP1.out rfl rfl TR1.sg VX1 rfl (Nat.le_refl _) fr1 HYP.out ?_; intro v6 w6 SG6 K6 B6 O6; have TR6 := TR1.appS SG6 K6 O6; obtain ⟨oa6, oc6, e6⟩ := SG6.form; rw [List.length_append, HOL.out] at e6; subst e6; clear tk4 t))
            go_roundw
            case rel => exact ⟨k + 1, by omega, by go_num, by rw [E7.out, E8.out]; exact TR6, B1.trans B6⟩
            case measure => simp [intOf]; omega
          | true =>
          by_cases hy : x.number < y
          · by_cases hm : (wrap64 (x.missed + 1)) > 2
            · have MX : missM y x = x.miss (wrap64 (x.missed + 1)) 3 := by rw [missM, if_pos (by simp [missB, s1, hy]), if_pos (by omega)]; rfl
              have LX : lostB y x = true := by simp only [lostB, missB, s1, Bool.true_and, Bool.and_eq_true, decide_eq_true_eq]; exact ⟨hy, by omega⟩
              have E7 : Hid ((L.take (k + 1)).map (missM y) = (L.take k).map (missM y) ++ [(x.miss (wrap64 (x.missed + 1)) 3)]) := by show _ = _; rw [HMT.out, MX]
              have E8 : Hid (lostM y (L.take (k + 1)) = zs ++ [x.number]) := by show _ = _; rw [HLT.out, if_pos LX]
              clear MX LX
              have TR1 := TR.below (box_below wr (.cells #[.int .i64 x.number, .int .i64 x.id, .int .i64 3, .int .i64 x.path, .int .i64 (wrap64 (x.missed + 1)), .int .i64 x.times, .int .i64 x.came, .int .i64 x.life, .int .i64 x.tries, .int .i64 x.ck.kind, .int .i64 x.ck.tag, .int .i64 x.ck.stream, .int .i64 x.ck.mid, .int .i64 x.ck.part, .bool x.ck.last, .bool x.ck.ordered, .slice da x.ck.data.length dc, .slice sa x.ck.spans.length sc, .int .i64 x.ck.room, .slice qa x.ck.skips.length qc] 53)) hNr
              have B1 := BR2.alloc hNB1 (.cells #[.int .i64 x.number, .int .i64 x.id, .int .i64 3, .int .i64 x.path, .int .i64 (wrap64 (x.missed + 1)), .int .i64 x.times, .int .i64 x.came, .int .i64 x.life, .int .i64 x.tries, .int .i64 x.ck.kind, .int .i64 x.ck.tag, .int .i64 x.ck.stream, .int .i64 x.ck.mid, .int .i64 x.ck.part, .bool x.ck.last, .bool x.ck.ordered, .slice da x.ck.data.length dc, .slice sa x.ck.spans.length sc, .int .i64 x.ck.room, .slice qa x.ck.skips.length qc] 53)
              have AT1 : SnAt (wr.alloc (.cells #[.int .i64 x.number, .int .i64 x.id, .int .i64 3, .int .i64 x.path, .int .i64 (wrap64 (x.missed + 1)), .int .i64 x.times, .int .i64 x.came, .int .i64 x.life, .int .i64 x.tries, .int .i64 x.ck.kind, .int .i64 x.ck.tag, .int .i64 x.ck.stream, .int .i64 x.ck.mid, .int .i64 x.ck.part, .bool x.ck.last, .bool x.ck.ordered, .slice da x.ck.data.length dc, .slice sa x.ck.spans.length sc, .int .i64 x.ck.room, .slice qa x.ck.skips.length qc] 53)) wr.heap.size 0 (x.miss (wrap64 (x.missed + 1)) 3) (.slice da x.ck.data.length dc) (.slice sa x.ck.spans.length sc) (.slice qa x.ck.skips.length qc) := SnAt.new wr (x.miss (wrap64 (x.missed + 1)) 3) _ _ _
              have VX1 : SnV N (wr.alloc (.cells #[.int .i64 x.number, .int .i64 x.id, .int .i64 3, .int .i64 x.path, .int .i64 (wrap64 (x.missed + 1)), .int .i64 x.times, .int .i64 x.came, .int .i64 x.life, .int .i64 x.tries, .int .i64 x.ck.kind, .int .i64 x.ck.tag, .int .i64 x.ck.stream, .int .i64 x.ck.mid, .int .i64 x.ck.part, .bool x.ck.last, .bool x.ck.ordered, .slice da x.ck.data.length dc, .slice sa x.ck.spans.length sc, .int .i64 x.ck.room, .slice qa x.ck.skips.length qc] 53)) (snVal (x.miss (wrap64 (x.missed + 1)) 3) (.slice da x.ck.data.length dc) (.slice sa x.ck.spans.length sc) (.slice qa x.ck.skips.length qc)) (x.miss (wrap64 (x.missed + 1)) 3) := by
                have bb : Below N wr (wr.alloc (.cells #[.int .i64 x.number, .int .i64 x.id, .int .i64 3, .int .i64 x.path, .int .i64 (wrap64 (x.missed + 1)), .int .i64 x.times, .int .i64 x.came, .int .i64 x.life, .int .i64 x.tries, .int .i64 x.ck.kind, .int .i64 x.ck.tag, .int .i64 x.ck.stream, .int .i64 x.ck.mid, .int .i64 x.ck.part, .bool x.ck.last, .bool x.ck.ordered, .slice da x.ck.data.length dc, .slice sa x.ck.spans.length sc, .int .i64 x.ck.room, .slice qa x.ck.skips.length qc] 53)) := (box_below wr _).mono hNr
                exact ⟨_, _, _, rfl, hby.below bb (Nat.le_refl _), hsl.below bb (Nat.le_refl _), hkl.below bb (Nat.le_refl _)⟩
              have HP1 : Hid (wr.heap.size + 1 = (wr.alloc (.cells #[.int .i64 x.number, .int .i64 x.id, .int .i64 3, .int .i64 x.path, .int .i64 (wrap64 (x.missed + 1)), .int .i64 x.times, .int .i64 x.came, .int .i64 x.life, .int .i64 x.tries, .int .i64 x.ck.kind, .int .i64 x.ck.tag, .int .i64 x.ck.stream, .int .i64 x.ck.mid, .int .i64 x.ck.part, .bool x.ck.last, .bool x.ck.ordered, .slice da x.ck.data.length dc, .slice sa x.ck.spans.length sc, .int .i64 x.ck.room, .slice qa x.ck.skips.length qc] 53)).heap.size) := by show _ = _; simp
              have fr1 : N ≤ (wr.alloc (.cells #[.int .i64 x.number, .int .i64 x.id, .int .i64 3, .int .i64 x.path, .int .i64 (wrap64 (x.missed + 1)), .int .i64 x.times, .int .i64 x.came, .int .i64 x.life, .int .i64 x.tries, .int .i64 x.ck.kind, .int .i64 x.ck.tag, .int .i64 x.ck.stream, .int .i64 x.ck.mid, .int .i64 x.ck.part, .bool x.ck.last, .bool x.ck.ordered, .slice da x.ck.data.length dc, .slice sa x.ck.spans.length sc, .int .i64 x.ck.room, .slice qa x.ck.skips.length qc] 53)).heap.size := by rw [← HP1.out]; omega
              have NOH : Hid ((Value.slice la zs.length lc).ownBlock ≠ some wr.heap.size) := fun e => by have := (TR.oh.lt _ e).2; omega
              have ltT : Hid (wr.heap.size < (wr.alloc (.cells #[.int .i64 x.number, .int .i64 x.id, .int .i64 3, .int .i64 x.path, .int .i64 (wrap64 (x.missed + 1)), .int .i64 x.times, .int .i64 x.came, .int .i64 x.life, .int .i64 x.tries, .int .i64 x.ck.kind, .int .i64 x.ck.tag, .int .i64 x.ck.stream, .int .i64 x.ck.mid, .int .i64 x.ck.part, .bool x.ck.last, .bool x.ck.ordered, .slice da x.ck.data.length dc, .slice sa x.ck.spans.length sc, .int .i64 x.ck.room, .slice qa x.ck.skips.length qc] 53)).heap.size) := by show _ < _; rw [← HP1.out]; omega
              clear tk3 tk4
              go_wp2_with (first
                | (have t := tk1; refine wpList_ld rfl (.tmp 103) rfl b off rfl x _ _ _ (by with_reducible exact hat) ?_; clear tk1 t)
                | (have t := tk2; refine wpList_st rfl (.tmp 22) (.tmp 104) rfl wr _ rfl rfl rfl [.int .i64 x.number, .int .i64 x.id, .int .i64 x.state, .int .i64 x.path, .int .i64 x.missed, .int .i64 x.times, .int .i64 x.came, .int .i64 x.life, .int .i64 x.tries, .int .i64 x.ck.kind, .int .i64 x.ck.tag, .int .i64 x.ck.stream, .int .i64 x.ck.mid, .int .i64 x.ck.part, .bool x.ck.last, .bool x.ck.ordered, .slice da x.ck.data.length dc, .slice sa x.ck.spans.length sc, .int .i64 x.ck.room, .slice qa x.ck.skips.length qc] rfl rfl rfl ?_; clear tk2 t)
                | (have t := tk5; at_builtin; refine wpList_appI rfl (.tmp 122) (.tmp 125) rfl (wr.alloc (.cells #[.int .i64 x.number, .int .i64 x.id, .int .i64 3, .int .i64 x.path, .int .i64 (wrap64 (x.missed + 1)), .int .i64 x.times, .int .i64 x.came, .int .i64 x.life, .int .i64 x.tries, .int .i64 x.ck.kind, .int .i64 x.ck.tag, .int .i64 x.ck.stream, .int .i64 x.ck.mid, .int .i64 x.ck.part, .bool x.ck.last, .bool x.ck.ordered, .slice da x.ck.data.length dc, .slice sa x.ck.spans.length sc, .int .i64 x.ck.room, .slice qa x.ck.skips.length qc] 53)) N (.slice la zs.length lc) zs x.number (wr.heap.size + 1) HP1.out rfl rfl TR1.oh fr1 HYZ.out ?_; intro v5 w5 OH5 K5 B5 O5; have TR5 := TR1.appI fr1 OH5 K5 O5; obtain ⟨la5, lc5, e5⟩ := own_form OH5; rw [List.length_append] at e5; subst e5; have AT5 := AT1.keep K5 ⟨ltT.out, NOH.out⟩; have VX5 := SnV.bears.below VX1 B5 (Nat.le_refl _); have fr5 : N ≤ w5.heap.size := (by have := K5.size; omega); have B15 := B1.trans B5; have tk3 : True := trivial; have tk4 : True := trivial; clear tk5 t)
                | (have t := tk3; refine wpList_ld rfl (.tmp 22) rfl wr.heap.size 0 rfl (x.miss (wrap64 (x.missed + 1)) 3) (.slice da x.ck.data.length dc) (.slice sa x.ck.spans.length sc) (.slice qa x.ck.skips.length qc) (by with_reducible exact AT5) ?_; clear tk3 t)
                | (have t := tk4; at_builtin; refine wpList_appS rfl (.tmp 127) (.tmp 129) rfl w5 N N (.slice oa k oc) ((L.take k).map (missM y)) (x.miss (wrap64 (x.missed + 1)) 3) (.slice da x.ck.data.length dc) (.slice sa x.ck.spans.length sc) (.slice qa x.ck.skips.length qc) w5.heap.size rfl rfl rfl TR5.sg VX5 rfl (Nat.le_refl _) fr5 HYP.out ?_; intro v6 w6 SG6 K6 B6 O6; have TR6 := TR5.appS SG6 K6 O6; obtain ⟨oa6, oc6, e6⟩ := SG6.form; rw [List.length_append, HOL.out] at e6; subst e6; clear tk4 t))
              go_roundw
              case rel => exact ⟨k + 1, by omega, by go_num, by rw [E7.out, E8.out]; exact TR6, B15.trans B6⟩
              case measure => simp [intOf]; omega
            · have MX : missM y x = x.miss (wrap64 (x.missed + 1)) x.state := by rw [missM, if_pos (by simp [missB, s1, hy]), if_neg (by omega)]; rfl
              have LX : lostB y x = false := by simp only [lostB, Bool.and_eq_false_iff, decide_eq_false_iff_not]; exact .inr (by omega)
              have E7 : Hid ((L.take (k + 1)).map (missM y) = (L.take k).map (missM y) ++ [(x.miss (wrap64 (x.missed + 1)) x.state)]) := by show _ = _; rw [HMT.out, MX]
              have E8 : Hid (lostM y (L.take (k + 1)) = zs) := by show _ = _; rw [HLT.out, if_neg (by rw [LX]; simp), List.append_nil]
              clear MX LX
              have TR1 := TR.below (box_below wr (.cells #[.int .i64 x.number, .int .i64 x.id, .int .i64 x.state, .int .i64 x.path, .int .i64 (wrap64 (x.missed + 1)), .int .i64 x.times, .int .i64 x.came, .int .i64 x.life, .int .i64 x.tries, .int .i64 x.ck.kind, .int .i64 x.ck.tag, .int .i64 x.ck.stream, .int .i64 x.ck.mid, .int .i64 x.ck.part, .bool x.ck.last, .bool x.ck.ordered, .slice da x.ck.data.length dc, .slice sa x.ck.spans.length sc, .int .i64 x.ck.room, .slice qa x.ck.skips.length qc] 53)) hNr
              have B1 := BR2.alloc hNB1 (.cells #[.int .i64 x.number, .int .i64 x.id, .int .i64 x.state, .int .i64 x.path, .int .i64 (wrap64 (x.missed + 1)), .int .i64 x.times, .int .i64 x.came, .int .i64 x.life, .int .i64 x.tries, .int .i64 x.ck.kind, .int .i64 x.ck.tag, .int .i64 x.ck.stream, .int .i64 x.ck.mid, .int .i64 x.ck.part, .bool x.ck.last, .bool x.ck.ordered, .slice da x.ck.data.length dc, .slice sa x.ck.spans.length sc, .int .i64 x.ck.room, .slice qa x.ck.skips.length qc] 53)
              have AT1 : SnAt (wr.alloc (.cells #[.int .i64 x.number, .int .i64 x.id, .int .i64 x.state, .int .i64 x.path, .int .i64 (wrap64 (x.missed + 1)), .int .i64 x.times, .int .i64 x.came, .int .i64 x.life, .int .i64 x.tries, .int .i64 x.ck.kind, .int .i64 x.ck.tag, .int .i64 x.ck.stream, .int .i64 x.ck.mid, .int .i64 x.ck.part, .bool x.ck.last, .bool x.ck.ordered, .slice da x.ck.data.length dc, .slice sa x.ck.spans.length sc, .int .i64 x.ck.room, .slice qa x.ck.skips.length qc] 53)) wr.heap.size 0 (x.miss (wrap64 (x.missed + 1)) x.state) (.slice da x.ck.data.length dc) (.slice sa x.ck.spans.length sc) (.slice qa x.ck.skips.length qc) := SnAt.new wr (x.miss (wrap64 (x.missed + 1)) x.state) _ _ _
              have VX1 : SnV N (wr.alloc (.cells #[.int .i64 x.number, .int .i64 x.id, .int .i64 x.state, .int .i64 x.path, .int .i64 (wrap64 (x.missed + 1)), .int .i64 x.times, .int .i64 x.came, .int .i64 x.life, .int .i64 x.tries, .int .i64 x.ck.kind, .int .i64 x.ck.tag, .int .i64 x.ck.stream, .int .i64 x.ck.mid, .int .i64 x.ck.part, .bool x.ck.last, .bool x.ck.ordered, .slice da x.ck.data.length dc, .slice sa x.ck.spans.length sc, .int .i64 x.ck.room, .slice qa x.ck.skips.length qc] 53)) (snVal (x.miss (wrap64 (x.missed + 1)) x.state) (.slice da x.ck.data.length dc) (.slice sa x.ck.spans.length sc) (.slice qa x.ck.skips.length qc)) (x.miss (wrap64 (x.missed + 1)) x.state) := by
                have bb : Below N wr (wr.alloc (.cells #[.int .i64 x.number, .int .i64 x.id, .int .i64 x.state, .int .i64 x.path, .int .i64 (wrap64 (x.missed + 1)), .int .i64 x.times, .int .i64 x.came, .int .i64 x.life, .int .i64 x.tries, .int .i64 x.ck.kind, .int .i64 x.ck.tag, .int .i64 x.ck.stream, .int .i64 x.ck.mid, .int .i64 x.ck.part, .bool x.ck.last, .bool x.ck.ordered, .slice da x.ck.data.length dc, .slice sa x.ck.spans.length sc, .int .i64 x.ck.room, .slice qa x.ck.skips.length qc] 53)) := (box_below wr _).mono hNr
                exact ⟨_, _, _, rfl, hby.below bb (Nat.le_refl _), hsl.below bb (Nat.le_refl _), hkl.below bb (Nat.le_refl _)⟩
              have HP1 : Hid (wr.heap.size + 1 = (wr.alloc (.cells #[.int .i64 x.number, .int .i64 x.id, .int .i64 x.state, .int .i64 x.path, .int .i64 (wrap64 (x.missed + 1)), .int .i64 x.times, .int .i64 x.came, .int .i64 x.life, .int .i64 x.tries, .int .i64 x.ck.kind, .int .i64 x.ck.tag, .int .i64 x.ck.stream, .int .i64 x.ck.mid, .int .i64 x.ck.part, .bool x.ck.last, .bool x.ck.ordered, .slice da x.ck.data.length dc, .slice sa x.ck.spans.length sc, .int .i64 x.ck.room, .slice qa x.ck.skips.length qc] 53)).heap.size) := by show _ = _; simp
              have fr1 : N ≤ (wr.alloc (.cells #[.int .i64 x.number, .int .i64 x.id, .int .i64 x.state, .int .i64 x.path, .int .i64 (wrap64 (x.missed + 1)), .int .i64 x.times, .int .i64 x.came, .int .i64 x.life, .int .i64 x.tries, .int .i64 x.ck.kind, .int .i64 x.ck.tag, .int .i64 x.ck.stream, .int .i64 x.ck.mid, .int .i64 x.ck.part, .bool x.ck.last, .bool x.ck.ordered, .slice da x.ck.data.length dc, .slice sa x.ck.spans.length sc, .int .i64 x.ck.room, .slice qa x.ck.skips.length qc] 53)).heap.size := by rw [← HP1.out]; omega
              go_wp2_with (first
                | (have t := tk1; refine wpList_ld rfl (.tmp 103) rfl b off rfl x _ _ _ (by with_reducible exact hat) ?_; clear tk1 t)
                | (have t := tk2; refine wpList_st rfl (.tmp 22) (.tmp 104) rfl wr _ rfl rfl rfl [.int .i64 x.number, .int .i64 x.id, .int .i64 x.state, .int .i64 x.path, .int .i64 x.missed, .int .i64 x.times, .int .i64 x.came, .int .i64 x.life, .int .i64 x.tries, .int .i64 x.ck.kind, .int .i64 x.ck.tag, .int .i64 x.ck.stream, .int .i64 x.ck.mid, .int .i64 x.ck.part, .bool x.ck.last, .bool x.ck.ordered, .slice da x.ck.data.length dc, .slice sa x.ck.spans.length sc, .int .i64 x.ck.room, .slice qa x.ck.skips.length qc] rfl rfl rfl ?_; clear tk2 t)
                | (have t := tk3; refine wpList_ld rfl (.tmp 22) rfl wr.heap.size 0 rfl (x.miss (wrap64 (x.missed + 1)) x.state) (.slice da x.ck.data.length dc) (.slice sa x.ck.spans.length sc) (.slice qa x.ck.skips.length qc) (by with_reducible exact AT1) ?_; clear tk3 t)
                | (have t := tk4; at_builtin; refine wpList_appS rfl (.tmp 127) (.tmp 129) rfl (wr.alloc (.cells #[.int .i64 x.number, .int .i64 x.id, .int .i64 x.state, .int .i64 x.path, .int .i64 (wrap64 (x.missed + 1)), .int .i64 x.times, .int .i64 x.came, .int .i64 x.life, .int .i64 x.tries, .int .i64 x.ck.kind, .int .i64 x.ck.tag, .int .i64 x.ck.stream, .int .i64 x.ck.mid, .int .i64 x.ck.part, .bool x.ck.last, .bool x.ck.ordered, .slice da x.ck.data.length dc, .slice sa x.ck.spans.length sc, .int .i64 x.ck.room, .slice qa x.ck.skips.length qc] 53)) N N (.slice oa k oc) ((L.take k).map (missM y)) (x.miss (wrap64 (x.missed + 1)) x.state) (.slice da x.ck.data.length dc) (.slice sa x.ck.spans.length sc) (.slice qa x.ck.skips.length qc) (wr.heap.size + 1) HP1.out rfl rfl TR1.sg VX1 rfl (Nat.le_refl _) fr1 HYP.out ?_; intro v6 w6 SG6 K6 B6 O6; have TR6 := TR1.appS SG6 K6 O6; obtain ⟨oa6, oc6, e6⟩ := SG6.form; rw [List.length_append, HOL.out] at e6; subst e6; clear tk4 t))
              go_roundw
              case rel => exact ⟨k + 1, by omega, by go_num, by rw [E7.out, E8.out]; exact TR6, B1.trans B6⟩
              case measure => simp [intOf]; omega
          · have MX : missM y x = x := by rw [missM, if_neg (by simp [missB, hy])]
            have LX : lostB y x = false := by simp [lostB, missB, hy]
            have E7 : Hid ((L.take (k + 1)).map (missM y) = (L.take k).map (missM y) ++ [x]) := by show _ = _; rw [HMT.out, MX]
            have E8 : Hid (lostM y (L.take (k + 1)) = zs) := by show _ = _; rw [HLT.out, if_neg (by rw [LX]; simp), List.append_nil]
            clear MX LX
            have TR1 := TR.below (box_below wr (.cells #[.int .i64 x.number, .int .i64 x.id, .int .i64 x.state, .int .i64 x.path, .int .i64 x.missed, .int .i64 x.times, .int .i64 x.came, .int .i64 x.life, .int .i64 x.tries, .int .i64 x.ck.kind, .int .i64 x.ck.tag, .int .i64 x.ck.stream, .int .i64 x.ck.mid, .int .i64 x.ck.part, .bool x.ck.last, .bool x.ck.ordered, .slice da x.ck.data.length dc, .slice sa x.ck.spans.length sc, .int .i64 x.ck.room, .slice qa x.ck.skips.length qc] 53)) hNr
            have B1 := BR2.alloc hNB1 (.cells #[.int .i64 x.number, .int .i64 x.id, .int .i64 x.state, .int .i64 x.path, .int .i64 x.missed, .int .i64 x.times, .int .i64 x.came, .int .i64 x.life, .int .i64 x.tries, .int .i64 x.ck.kind, .int .i64 x.ck.tag, .int .i64 x.ck.stream, .int .i64 x.ck.mid, .int .i64 x.ck.part, .bool x.ck.last, .bool x.ck.ordered, .slice da x.ck.data.length dc, .slice sa x.ck.spans.length sc, .int .i64 x.ck.room, .slice qa x.ck.skips.length qc] 53)
            have AT1 : SnAt (wr.alloc (.cells #[.int .i64 x.number, .int .i64 x.id, .int .i64 x.state, .int .i64 x.path, .int .i64 x.missed, .int .i64 x.times, .int .i64 x.came, .int .i64 x.life, .int .i64 x.tries, .int .i64 x.ck.kind, .int .i64 x.ck.tag, .int .i64 x.ck.stream, .int .i64 x.ck.mid, .int .i64 x.ck.part, .bool x.ck.last, .bool x.ck.ordered, .slice da x.ck.data.length dc, .slice sa x.ck.spans.length sc, .int .i64 x.ck.room, .slice qa x.ck.skips.length qc] 53)) wr.heap.size 0 x (.slice da x.ck.data.length dc) (.slice sa x.ck.spans.length sc) (.slice qa x.ck.skips.length qc) := SnAt.new wr x _ _ _
            have VX1 : SnV N (wr.alloc (.cells #[.int .i64 x.number, .int .i64 x.id, .int .i64 x.state, .int .i64 x.path, .int .i64 x.missed, .int .i64 x.times, .int .i64 x.came, .int .i64 x.life, .int .i64 x.tries, .int .i64 x.ck.kind, .int .i64 x.ck.tag, .int .i64 x.ck.stream, .int .i64 x.ck.mid, .int .i64 x.ck.part, .bool x.ck.last, .bool x.ck.ordered, .slice da x.ck.data.length dc, .slice sa x.ck.spans.length sc, .int .i64 x.ck.room, .slice qa x.ck.skips.length qc] 53)) (snVal x (.slice da x.ck.data.length dc) (.slice sa x.ck.spans.length sc) (.slice qa x.ck.skips.length qc)) x := by
              have bb : Below N wr (wr.alloc (.cells #[.int .i64 x.number, .int .i64 x.id, .int .i64 x.state, .int .i64 x.path, .int .i64 x.missed, .int .i64 x.times, .int .i64 x.came, .int .i64 x.life, .int .i64 x.tries, .int .i64 x.ck.kind, .int .i64 x.ck.tag, .int .i64 x.ck.stream, .int .i64 x.ck.mid, .int .i64 x.ck.part, .bool x.ck.last, .bool x.ck.ordered, .slice da x.ck.data.length dc, .slice sa x.ck.spans.length sc, .int .i64 x.ck.room, .slice qa x.ck.skips.length qc] 53)) := (box_below wr _).mono hNr
              exact ⟨_, _, _, rfl, hby.below bb (Nat.le_refl _), hsl.below bb (Nat.le_refl _), hkl.below bb (Nat.le_refl _)⟩
            have HP1 : Hid (wr.heap.size + 1 = (wr.alloc (.cells #[.int .i64 x.number, .int .i64 x.id, .int .i64 x.state, .int .i64 x.path, .int .i64 x.missed, .int .i64 x.times, .int .i64 x.came, .int .i64 x.life, .int .i64 x.tries, .int .i64 x.ck.kind, .int .i64 x.ck.tag, .int .i64 x.ck.stream, .int .i64 x.ck.mid, .int .i64 x.ck.part, .bool x.ck.last, .bool x.ck.ordered, .slice da x.ck.data.length dc, .slice sa x.ck.spans.length sc, .int .i64 x.ck.room, .slice qa x.ck.skips.length qc] 53)).heap.size) := by show _ = _; simp
            have fr1 : N ≤ (wr.alloc (.cells #[.int .i64 x.number, .int .i64 x.id, .int .i64 x.state, .int .i64 x.path, .int .i64 x.missed, .int .i64 x.times, .int .i64 x.came, .int .i64 x.life, .int .i64 x.tries, .int .i64 x.ck.kind, .int .i64 x.ck.tag, .int .i64 x.ck.stream, .int .i64 x.ck.mid, .int .i64 x.ck.part, .bool x.ck.last, .bool x.ck.ordered, .slice da x.ck.data.length dc, .slice sa x.ck.spans.length sc, .int .i64 x.ck.room, .slice qa x.ck.skips.length qc] 53)).heap.size := by rw [← HP1.out]; omega
            go_wp2_with (first
              | (have t := tk1; refine wpList_ld rfl (.tmp 103) rfl b off rfl x _ _ _ (by with_reducible exact hat) ?_; clear tk1 t)
              | (have t := tk2; refine wpList_st rfl (.tmp 22) (.tmp 104) rfl wr _ rfl rfl rfl [.int .i64 x.number, .int .i64 x.id, .int .i64 x.state, .int .i64 x.path, .int .i64 x.missed, .int .i64 x.times, .int .i64 x.came, .int .i64 x.life, .int .i64 x.tries, .int .i64 x.ck.kind, .int .i64 x.ck.tag, .int .i64 x.ck.stream, .int .i64 x.ck.mid, .int .i64 x.ck.part, .bool x.ck.last, .bool x.ck.ordered, .slice da x.ck.data.length dc, .slice sa x.ck.spans.length sc, .int .i64 x.ck.room, .slice qa x.ck.skips.length qc] rfl rfl rfl ?_; clear tk2 t)
              | (have t := tk3; refine wpList_ld rfl (.tmp 22) rfl wr.heap.size 0 rfl x (.slice da x.ck.data.length dc) (.slice sa x.ck.spans.length sc) (.slice qa x.ck.skips.length qc) (by with_reducible exact AT1) ?_; clear tk3 t)
              | (have t := tk4; at_builtin; refine wpList_appS rfl (.tmp 127) (.tmp 129) rfl (wr.alloc (.cells #[.int .i64 x.number, .int .i64 x.id, .int .i64 x.state, .int .i64 x.path, .int .i64 x.missed, .int .i64 x.times, .int .i64 x.came, .int .i64 x.life, .int .i64 x.tries, .int .i64 x.ck.kind, .int .i64 x.ck.tag, .int .i64 x.ck.stream, .int .i64 x.ck.mid, .int .i64 x.ck.part, .bool x.ck.last, .bool x.ck.ordered, .slice da x.ck.data.length dc, .slice sa x.ck.spans.length sc, .int .i64 x.ck.room, .slice qa x.ck.skips.length qc] 53)) N N (.slice oa k oc) ((L.take k).map (missM y)) x (.slice da x.ck.data.length dc) (.slice sa x.ck.spans.length sc) (.slice qa x.ck.skips.length qc) (wr.heap.size + 1) HP1.out rfl rfl TR1.sg VX1 rfl (Nat.le_refl _) fr1 HYP.out ?_; intro v6 w6 SG6 K6 B6 O6; have TR6 := TR1.appS SG6 K6 O6; obtain ⟨oa6, oc6, e6⟩ := SG6.form; rw [List.length_append, HOL.out] at e6; subst e6; clear tk4 t))
            go_roundw
            case rel => exact ⟨k + 1, by omega, by go_num, by rw [E7.out, E8.out]; exact TR6, B1.trans B6⟩
            case measure => simp [intOf]; omega
        · have hkL : k = L.length := by omega
          subst hkL
          rw [List.take_of_length_le (Nat.le_refl _)] at TR
          have CE := CC.below BR2 (by omega)
          generalize hz : lostM y L = zs at *
          obtain ⟨la, lc, el⟩ := own_form TR.oh
          subst el
          have SE := TR.sg.sns hNr
          have IE : In wr.heap.size wr (.slice la zs.length lc) zs := In.own TR.oh rfl (fun z hzm => HLI z (by rw [HDL'.out]; exact hzm))
          have BE := BR.trans (BR2.mono (by omega))
          have SV : Hid (SackV wr (.tuple #[.slice oa L.length oc, .int .i64 n, .slice (some ⟨w.heap.size + 1, 0, none⟩) paths paths, .slice la zs.length lc]) (sackF l cum tag spans paths)) := by
            show SackV _ _ _
            rw [HR.out]
            have e1 : R.out.length = L.length := by rw [HDS'.out, List.length_map]
            have e2 : R.come.length = paths := by rw [HSC'.out, HCQ.out]
            have e3 : R.lost.length = zs.length := by rw [HDL'.out]
            refine ⟨oa, oc, some ⟨w.heap.size + 1, 0, none⟩, paths, la, lc, by rw [e1, e2, e3, HSN'.out], ?_, ?_, ?_⟩
            · rw [e1, HDS'.out]; exact SE
            · rw [e2, HSC'.out]; exact In.cells CE (by omega) HCQ.out.symm (Nat.le_refl _) (by have := HPP.out; omega) HCI
            · rw [e3, HDL'.out]; exact IE
          clear CE SE IE TR CC SL hz
          go_wp2_with fail
          exact bodyPost_ret (v := .tuple #[.slice oa L.length oc, .int .i64 n, .slice (some ⟨w.heap.size + 1, 0, none⟩) paths paths, .slice la zs.length lc]) (by simp [results, Try.results16, go_sem]) rfl ⟨_, rfl, SV.out, BE⟩
end Go.Proofs.Ytnddejdndipddac
