/- ScoreTwice's walk. -/
import Derived.Test.YtnddejdndipddacSoT
set_option maxRecDepth 20000
namespace Go.Proofs.Ytnddejdndipddac
open Go.RowKit

theorem RisesM.map {cum : Int} {l : List Sn} (h : RisesM cum l) {f : Sn → Sn} (hf : ∀ x, (f x).number = x.number) : RisesM cum (l.map f) := fun i s hs => by
  rw [List.getElem?_map] at hs
  cases e : l[i]? with
  | none => rw [e] at hs; simp at hs
  | some x => rw [e] at hs; simp only [Option.map_some, Option.some.injEq] at hs; rw [← hs, hf]; exact h i x e
theorem left_rises : ∀ (l : List Sn) (cum n : Int), RisesM cum l → cum ≤ n → RisesM n (leftM n l)
  | [], _, _, _, _ => fun i s hs => by simp [leftM] at hs
  | x :: r, cum, n, h, hn => by
    obtain ⟨h1, h2⟩ := h.tail
    by_cases hx : x.number ≤ n
    · have e : leftM n (x :: r) = leftM n r := by simp [leftM, hx]
      rw [e]
      exact left_rises r (cum + 1) n h2 (by omega)
    · have hc : cum = n := by omega
      subst hc
      have e : leftM cum (x :: r) = x :: r := List.filter_eq_self.2 fun y hy => by have := (h.mem hy).1; simp; omega
      rw [e]
      exact h
theorem sackF_rises {l : List Sn} {cum tag : Int} {sp : List Sp} {paths : Nat} (h : RisesM cum l) : RisesM (sackF l cum tag sp paths).now (sackF l cum tag sp paths).out := by
  unfold sackF
  split
  · exact h
  · next hn =>
    have hc : cum ≤ nearM cum tag := by omega
    exact (left_rises _ _ (nearM cum tag) (h.map (arr_number _ _)) hc).map (miss_number _)
theorem sackF_mem {l : List Sn} {cum tag : Int} {sp : List Sp} {paths : Nat} : ∀ y ∈ (sackF l cum tag sp paths).out, ∃ x ∈ l, y.number = x.number ∧ y.path = x.path ∧ y.ck = x.ck ∧ (y.missed = x.missed ∨ y.missed = wrap64 (x.missed + 1)) := by
  unfold sackF
  split
  · exact fun y hy => ⟨y, hy, rfl, rfl, rfl, .inl rfl⟩
  · intro y hy
    obtain ⟨z, hz, rfl⟩ := List.mem_map.1 hy
    obtain ⟨x, hx, rfl⟩ := List.mem_map.1 (List.mem_filter.1 hz).1
    have a2 : (arrM (nearM cum tag) sp x).path = x.path := by unfold arrM Sn.put; split <;> rfl
    have a3 : (arrM (nearM cum tag) sp x).ck = x.ck := by unfold arrM Sn.put; split <;> rfl
    refine ⟨x, hx, by rw [miss_number, arr_number], ?_, ?_, ?_⟩
    · rw [← a2]; unfold missM; split <;> rfl
    · rw [← a3]; unfold missM; split <;> rfl
    · rw [← arr_missed (nearM cum tag) sp x]; unfold missM; split
      · exact .inr rfl
      · exact .inl rfl
theorem sackF_len {l : List Sn} {cum tag : Int} {sp : List Sp} {paths : Nat} : (sackF l cum tag sp paths).out.length ≤ l.length := by
  unfold sackF
  split
  · exact Nat.le_refl _
  · show (List.map _ (List.filter _ (List.map _ _))).length ≤ _
    rw [List.length_map]
    exact Nat.le_trans (List.length_filter_le _ _) (by simp)

set_option maxHeartbeats 2000000 in
theorem scoreTwice_walk (v : Value) (l : List Sn) (cum : Int) (c : Ck) (d s q : Value) (pths : Int) (w : World) (hv : SnS w.heap.size w v l) (hd : By w.heap.size w d c.data) (hs : Sl w.heap.size w s c.spans) (hq : Kl w.heap.size w q c.skips) (hfit : FitL l) (hlen : l.length * 200 ≤ 140737488351232) :
    Calls Try.prog 7 #[v, .int .i64 cum, ckVal c d s q, .int .i64 pths] w fun e w' => e = .returned (.bool true) ∧ Below w.heap.size w w' := by
  have HV := hv
  obtain ⟨a, cap, rfl, h1, h2⟩ := hv.ex
  have HD := hd
  have HS := hs
  have HQ := hq
  obtain ⟨ad, cd, rfl, -, -⟩ := hd.ex
  obtain ⟨asp, csp, rfl⟩ := hs.ex
  obtain ⟨ak, ck, rfl, -, -⟩ := hq.ex
  have B0 := box_below w (.cells #[.int .i64 c.kind, .int .i64 c.tag, .int .i64 c.stream, .int .i64 c.mid, .int .i64 c.part, .bool c.last, .bool c.ordered, .slice ad c.data.length cd, .slice asp c.spans.length csp, .int .i64 c.room, .slice ak c.skips.length ck] 42)
  have CX := Cells.new w #[.int .i64 c.kind, .int .i64 c.tag, .int .i64 c.stream, .int .i64 c.mid, .int .i64 c.part, .bool c.last, .bool c.ordered, .slice ad c.data.length cd, .slice asp c.spans.length csp, .int .i64 c.room, .slice ak c.skips.length ck] 42
  have hz : (w.alloc (.cells #[.int .i64 c.kind, .int .i64 c.tag, .int .i64 c.stream, .int .i64 c.mid, .int .i64 c.part, .bool c.last, .bool c.ordered, .slice ad c.data.length cd, .slice asp c.spans.length csp, .int .i64 c.room, .slice ak c.skips.length ck] 42)).heap.size = w.heap.size + 1 := by simp
  simp only [ckVal]
  go_enter Try.func7, Try.ntmps7
  go_wp2_with fail
  generalize (w.alloc (.cells #[.int .i64 c.kind, .int .i64 c.tag, .int .i64 c.stream, .int .i64 c.mid, .int .i64 c.part, .bool c.last, .bool c.ordered, .slice ad c.data.length cd, .slice asp c.spans.length csp, .int .i64 c.room, .slice ak c.skips.length ck] 42)) = w0 at *
  refine (alive_any _).mono ?_
  rintro e w1 ⟨rfl, b1⟩
  have B1 := B0.trans (b1.mono B0.size)
  have RA := right_any _ l cum pths w1 (SlG.size SnV.bears HV B1 (Nat.le_refl _)) hlen
  go_wp2_with fail
  refine RA.mono ?_
  rintro e w2 ⟨⟨r, rfl, hr⟩, b2⟩
  have b02 := b1.trans (b2.mono b1.size)
  have B2 := B0.trans (b02.mono B0.size)
  cases r with
  | false =>
    clear RA hr
    go_wp2_with fail
    go_ret
    exact ⟨rfl, B2⟩
  | true =>
    have R := hr rfl
    have q1 := R.c1
    have q2 := R.c2
    obtain ⟨paths, rfl⟩ := Int.eq_ofNat_of_zero_le (show 0 ≤ pths by have := R.p1; omega)
    have hp2 : paths ≤ 2 := by have := R.p2; omega
    have CX2 := CX.below b02 (by omega)
    have e0 := CX2.cell 0 _ rfl
    have e1 := CX2.cell 1 _ rfl
    have e2 := CX2.cell 2 _ rfl
    have e3 := CX2.cell 3 _ rfl
    have e4 := CX2.cell 4 _ rfl
    have e5 := CX2.cell 5 _ rfl
    have e6 := CX2.cell 6 _ rfl
    have e7 := CX2.cell 7 _ rfl
    have e8 := CX2.cell 8 _ rfl
    have e9 := CX2.cell 9 _ rfl
    have e10 := CX2.cell 10 _ rfl
    have SA := sack_any _ l cum c _ _ _ paths w2 (SlG.size SnV.bears HV B2 (Nat.le_refl _)) ((HD.below B2 (Nat.le_refl _)).mono B2.size) ((HS.below B2 (Nat.le_refl _)).mono B2.size) (Rw.mono (Rw.below HQ B2 (Nat.le_refl _)) B2.size) hfit hlen R.ris q1 (by omega) hp2 (R.num hlen) (fun x hx => (R.each x hx).1) (fun x hx => ⟨(R.each x hx).2.1, by have := (R.each x hx).2.2; omega⟩)
    simp only [ckVal] at SA
    have NW := sackF_now (tag := c.tag) (sp := c.spans) (paths := paths) R.ris
    have RS := sackF_rises (tag := c.tag) (sp := c.spans) (paths := paths) R.ris
    have MM := sackF_mem (l := l) (cum := cum) (tag := c.tag) (sp := c.spans) (paths := paths)
    have LL := sackF_len (l := l) (cum := cum) (tag := c.tag) (sp := c.spans) (paths := paths)
    have TW : Hid _ := sack_twice l cum c.tag c.spans paths
    have fit1 : FitL (sackF l cum c.tag c.spans paths).out := fun y hy => by
      obtain ⟨x, hx, g1, g2, g3, g4⟩ := MM y hy
      have hf := hfit x hx
      refine ⟨by rw [g3]; exact hf.1, by rw [g1]; exact hf.2.1, ?_⟩
      rcases g4 with g4 | g4
      · rw [g4]; exact hf.2.2
      · rw [g4]; exact wrap64_I64 _
    have num1 : ∀ y ∈ (sackF l cum c.tag c.spans paths).out, -1099511627776 ≤ y.number ∧ y.number ≤ 1099511627776 := fun y hy => by
      obtain ⟨x, hx, g1, _⟩ := MM y hy
      rw [g1]; exact R.num hlen x hx
    have path1 : ∀ y ∈ (sackF l cum c.tag c.spans paths).out, 0 ≤ y.path ∧ y.path < (paths : Int) := fun y hy => by
      obtain ⟨x, hx, _, g2, _⟩ := MM y hy
      rw [g2]; exact (R.each x hx).1
    have mis1 : ∀ y ∈ (sackF l cum c.tag c.spans paths).out, 0 ≤ y.missed ∧ y.missed ≤ 2000000 := fun y hy => by
      obtain ⟨x, hx, _, _, _, g4⟩ := MM y hy
      have hm := (R.each x hx).2
      rcases g4 with g4 | g4
      · rw [g4]; omega
      · rw [g4]; unfold wrap64; omega
    generalize sackF l cum c.tag c.spans paths = R1 at *
    obtain ⟨out, now, come, lost⟩ := R1
    simp only at *
    have g1 : decide (now < cum) = false := decide_eq_false (by omega)
    have g2 : ¬ now > cum + (l.length : Int) := by omega
    have g3 : ¬ now < cum := by omega
    clear RA hr MM
    go_wp2_with fail
    refine SA.mono ?_
    rintro e w3 ⟨u, rfl, ⟨a3, c3, az, cz, al, cl, rfl, S3, -, -⟩, b3⟩
    have b03 := b02.trans (b3.mono b02.size)
    have B3 := B0.trans (b03.mono B0.size)
    have CX3 := CX.below b03 (by omega)
    have f0 := CX3.cell 0 _ rfl
    have f1 := CX3.cell 1 _ rfl
    have f2 := CX3.cell 2 _ rfl
    have f3 := CX3.cell 3 _ rfl
    have f4 := CX3.cell 4 _ rfl
    have f5 := CX3.cell 5 _ rfl
    have f6 := CX3.cell 6 _ rfl
    have f7 := CX3.cell 7 _ rfl
    have f8 := CX3.cell 8 _ rfl
    have f9 := CX3.cell 9 _ rfl
    have f10 := CX3.cell 10 _ rfl
    have SB := sack_any _ out now c _ _ _ paths w3 S3 ((HD.below B3 (Nat.le_refl _)).mono B3.size) ((HS.below B3 (Nat.le_refl _)).mono B3.size) (Rw.mono (Rw.below HQ B3 (Nat.le_refl _)) B3.size) fit1 (by omega) RS (by omega) (by omega) hp2 num1 path1 mis1
    rw [TW.out] at SB
    simp only [ckVal] at SB
    clear SA e0 e1 e2 e3 e4 e5 e6 e7 e8 e9 e10 CX2 fit1 num1 path1 mis1 RS
    simp only at *
    go_wp2_with fail
    refine SB.mono ?_
    rintro e w4 ⟨u, rfl, ⟨a4, c4, az4, cz4, al4, cl4, rfl, S4, IZ, -⟩, b4⟩
    have B4 := B3.trans (b4.mono B3.size)
    have IZH : Hid (In w4.heap.size w4 (.slice az4 (List.replicate paths (0 : Int)).length cz4) (List.replicate paths 0)) := IZ
    have S4H : Hid (SnS w4.heap.size w4 (.slice a4 out.length c4) out) := S4
    clear SB f0 f1 f2 f3 f4 f5 f6 f7 f8 f9 f10 CX3 IZ S4
    simp only [List.length_replicate, List.length_nil] at *
    go_wp2_with fail
    go_loopw [59] (fun i wr => ∃ k : Nat, k ≤ paths ∧ i = .int .i64 k ∧ Below w4.heap.size w4 wr) (fun i _ => paths - (intOf i).toNat)
    case atStart => exact ⟨0, Nat.zero_le _, rfl, Below.refl _ _⟩
    case round =>
      obtain ⟨k, hk, rfl, BR⟩ := hrel
      by_cases hlt : k < paths
      · obtain ⟨zb, zo, hzb, hzi, hzc⟩ := (IZH.out.below BR (Nat.le_refl _)).at k (by simpa using hlt)
        rw [List.getElem_replicate] at hzc
        go_wp2_with fail
        go_roundw
        case rel => exact ⟨k + 1, by omega, by go_num, BR⟩
        case measure => simp [intOf]; omega
      · have b4r := b4.trans (BR.mono b4.size)
        have B4r := B4.trans (BR.mono B4.size)
        have SS := sameSent_same _ _ out wr (SlG.size SnV.bears S3 b4r (Nat.le_refl _)) (SlG.size SnV.bears S4H.out BR (Nat.le_refl _))
        go_wp2_with fail
        refine SS.mono ?_
        rintro e w5 ⟨rfl, b5⟩
        have B5 := B4r.trans (b5.mono B4r.size)
        go_wp2_with fail
        go_ret
        exact ⟨rfl, B5⟩
end Go.Proofs.Ytnddejdndipddac
