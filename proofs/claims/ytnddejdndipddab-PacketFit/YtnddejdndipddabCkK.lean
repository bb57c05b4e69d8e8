/- The contract of Bytes, of package chunk: sacks and forwards. -/
import Derived.Test.YtnddejdndipddabCkJ
set_option maxRecDepth 20000
namespace Go.Proofs.Ytnddejdndipddab
open Go.RowKit

theorem spans_all {l : List Sp} {a : Int} (h0 : 0 ≤ a) (h : spansBad a l = false) : ∀ s ∈ l, 2 ≤ s.1 ∧ s.1 ≤ s.2 ∧ s.2 < 65536 := by
  induction l generalizing a with
  | nil => intro s hs; simp at hs
  | cons x r ih =>
    unfold spansBad at h
    split at h
    · cases h
    · rename_i hx
      intro s hs
      rcases List.mem_cons.1 hs with rfl | hs
      · omega
      · exact ih (by omega) h s hs
theorem skips_all {l : List Sk} (h : l.any skipBad = false) : ∀ s ∈ l, 0 ≤ s.stream ∧ s.stream < 4 ∧ 0 ≤ s.mid ∧ s.mid < 65536 := by
  intro s hs
  have : skipBad s = false := by
    cases hb : skipBad s with
    | false => rfl
    | true => rw [List.any_eq_true.2 ⟨s, hs, hb⟩] at h; cases h
  unfold skipBad smallM at this
  simp at this
  omega
theorem spanB_len (l : List Sp) : (l.flatMap spanB).length = 4 * l.length := by
  induction l with
  | nil => rfl
  | cons s r ih => simp [List.flatMap_cons, ih, spanB, two16]; omega
theorem skipB_len (l : List Sk) : (l.flatMap skipB).length = 4 * l.length := by
  induction l with
  | nil => rfl
  | cons s r ih => simp [List.flatMap_cons, ih, skipB, two16]; omega

theorem kept3 {w1 w2 : World} {o1 o2 o3 : Obj} (kp : Keep (SB w1.heap.size) (((w1.alloc o1).alloc o2).alloc o3) w2) : Below w1.heap.size w1 w2 :=
  ⟨kp.os, kp.tape, kp.output, Nat.le_trans (by simp; omega) kp.size, fun i hi => (kp.block i (.inl hi)).trans (by rw [Below.heap_alloc _ _ _ (by simp; omega), Below.heap_alloc _ _ _ (by simp; omega), Below.heap_alloc _ _ _ hi])⟩

theorem two_cells (w : World) (u v : Value) (t : TypeId) : (w.alloc (.cells #[u, v] t)).cell? ⟨w.heap.size, 0, none⟩ = some u ∧ (w.alloc (.cells #[u, v] t)).cell? ⟨w.heap.size, 1, none⟩ = some v := by
  constructor <;> (rw [World.cell?_alloc_at _ _ _ _ rfl]; rfl)

set_option maxHeartbeats 1000000 in
theorem bytes_sack (v : Value) (c : Ck) (w : World) (hv : CkV w.heap.size w v c) (hw : wrongM c = 0) (k1 : c.kind = 2) :
    Calls Try.prog 29 #[v] w fun e w' => ∃ v', e = .returned (.tuple #[v', .int .i64 0]) ∧ By w'.heap.size w' v' (bytesM c) ∧ Below w.heap.size w w' := by
  have hmf : ∀ (fn : Fn) (first cap : Array Value) (w : World), (Instr.makeFunc fn first cap).run Try.prog w = .ok (.func fn first cap) w := fun _ _ _ _ => rfl
  have g := goodS hw k1
  have HV := fun o => hv.boxed o
  obtain ⟨d, s, k, rfl, -, hs, -⟩ := hv
  have HB := fun o => box_below w o
  obtain ⟨as', cs, rfl⟩ := hs.ex
  simp only [ckVal] at HV ⊢
  have HL : Hid ((bodyM c).length = 4 + 4 * c.spans.length) := by
    show _ = _
    simp [-List.length_flatMap, bodyM, k1, two16, spanB_len]; omega
  have HM : Hid (bytesM c = [2] ++ [(((bodyM c).length : Int))] ++ two16 c.tag ++ two16 c.room ++ c.spans.flatMap spanB) := by
    show _ = _
    simp [bytesM, k1, bodyM]
  obtain ⟨kind, tag, stream, mid, part, last, ordered, data, spans, room, skips⟩ := c
  dsimp only at *
  subst k1
  obtain ⟨⟨t1, t2⟩, ⟨r1, r2⟩, l2, hgood⟩ := g
  dsimp only at *
  have hsp := spans_all (Int.le_refl 0) hgood
  clear hgood
  go_enter Try.func29, Try.ntmps29
  go_wp2_with fail
  refine (wrong_any _ _ _ (HV _)).mono ?_
  rintro e w1 ⟨rfl, hb⟩
  rw [hw]
  have hb1 := (HB _).trans (hb.mono (by simp))
  have hX : w.heap.size < w1.heap.size := by have := hb.size; simp at this; omega
  have fr0 := fr_start w w1 ⟨2, tag, stream, mid, part, last, ordered, data, spans, room, skips⟩ d (.slice as' spans.length cs) k (by simpa using hb)
  have bf0 := buf_start w1 2 (by omega)
  have SX : SB w1.heap.size w.heap.size := .inl hX
  have SF : SB w1.heap.size (w1.heap.size + 2) := .inr rfl
  have w10 := (hb.cell (p := ⟨w.heap.size, 0, none⟩) (by simp)).trans (by simp : _ = some (.int .i64 2))
  have w11 : ∀ o1 o2 o3, (((w1.alloc o1).alloc o2).alloc o3).cell? ⟨w.heap.size, 1, none⟩ = some (.int .i64 tag) := fun o1 o2 o3 => by
    rw [World.cell?_alloc_past _ _ _ (by simp; omega), World.cell?_alloc_past _ _ _ (by simp; omega), World.cell?_alloc_past _ _ _ hX]
    exact (hb.cell (p := ⟨w.heap.size, 1, none⟩) (by simp)).trans (by simp)
  clear HV
  go_wp2_with fail
  refine (two_any (SB w1.heap.size) (w1.heap.size + 1) (w1.heap.size + 2) _ tag _ bf0 SF (fr0 _ _).one (by simp) t1 t2).mono ?_
  rintro e w2 ⟨⟨r, rfl⟩, bf2, kp2⟩
  have fr2 := (fr0 _ _).keep kp2 SF SX
  clear w10 w11 bf0 fr0
  have kb2 := kept3 kp2
  clear kp2
  have z0 := fr2.c0
  have z9 := fr2.c9
  go_wp2_with fail
  refine (two_any (SB w1.heap.size) (w1.heap.size + 1) (w1.heap.size + 2) _ room _ bf2 SF fr2.one (by simp) r1 r2).mono ?_
  rintro e w3 ⟨⟨r3, rfl⟩, bf3, kp3⟩
  have fr3 := fr2.keep kp3 SF SX
  clear bf2 fr2 z0 z9
  have z8 := fr3.c8
  have hs3 : Sl w.heap.size w3 (.slice as' spans.length cs) spans := ((hs.below hb1 (Nat.le_refl _)).below kb2 (Nat.le_of_lt hX)).below (kp3.below (B := w1.heap.size) fun k hk => .inl hk) (Nat.le_of_lt hX)
  have hsl := hs3.len
  have q1 := hsl.2.1
  have q2 := hsl.2.2.1
  clear hsl
  go_wp2
  go_loopw [65] (fun i wr => ∃ (j : Nat), j ≤ spans.length ∧ i = .int .i64 j ∧ Buf (SB w1.heap.size) (w1.heap.size + 1) wr ([2, 0] ++ [tag / 256, tag % 256] ++ [room / 256, room % 256] ++ (spans.take j).flatMap spanB) ∧ Keep (SB w1.heap.size) w3 wr) (fun i _ => spans.length - (intOf i).toNat)
  case atStart => exact ⟨0, Nat.zero_le _, rfl, by simpa using bf3, Keep.refl _ _⟩
  case round =>
    obtain ⟨j, hj, rfl, bfr, kpr⟩ := hrel
    by_cases hlt : j < spans.length
    · obtain ⟨b, off, hbb, hix, hx0, hx1⟩ := (hs3.below (kpr.below (B := w1.heap.size) fun k hk => .inl hk) (Nat.le_of_lt hX)).at j hlt
      have hr := hsp spans[j] (List.getElem_mem hlt)
      have bfa := bfr.alloc
      have frr := fr3.keep kpr SF SX
      have TC := two_cells wr (.int .i64 spans[j].1) (.int .i64 spans[j].2) 87
      have HN : Hid ((spans.take (j + 1)).flatMap spanB = (spans.take j).flatMap spanB ++ spanB spans[j]) := by show _ = _; rw [List.take_succ_eq_append_getElem hlt, List.flatMap_append, List.flatMap_singleton]
      have hlenp : ((spans.take j).flatMap spanB).length = 4 * j := by rw [spanB_len]; simp; omega
      clear z8
      have frone : ∀ o, (wr.alloc o).cell? ⟨w1.heap.size + 2, 0, none⟩ = some (oneV (w1.heap.size + 1)) := fun o => by
        rw [World.cell?_alloc_past _ _ _ (World.block_lt_of_cell? _ _ frr.one)]; exact frr.one
      go_wp2_with fail
      refine (two_any _ (w1.heap.size + 1) (w1.heap.size + 2) _ spans[j].1 _ (bfa _) (.inl SF) (frone _) (by simp [-List.length_flatMap, hlenp]; omega) (by omega) (by omega)).mono ?_
      rintro e w4 ⟨⟨r4, rfl⟩, bf4, kp4⟩
      have x1 := (kp4.cell (p := ⟨wr.heap.size, 1, none⟩) (.inr rfl)).trans TC.2
      have o1 := (kp4.cell (p := ⟨w1.heap.size + 2, 0, none⟩) (.inl SF)).trans (frone _)
      go_wp2_with fail
      refine (two_any _ (w1.heap.size + 1) (w1.heap.size + 2) _ spans[j].2 _ bf4 (.inl SF) o1 (by simp [-List.length_flatMap, hlenp]; omega) (by omega) (by omega)).mono ?_
      rintro e w5 ⟨⟨r5, rfl⟩, bf5, kp5⟩
      have bf6 : Buf (SB w1.heap.size) (w1.heap.size + 1) w5 ([2, 0] ++ [tag / 256, tag % 256] ++ [room / 256, room % 256] ++ (spans.take (j + 1)).flatMap spanB) := by
        rw [HN.out]
        have := bf5.mono (S' := SB w1.heap.size) fun k hk => .inl hk
        simpa [spanB, two16] using this
      have kpS : Keep (SB w1.heap.size) w3 w5 := (kpr.alloc (fun k hk => by obtain ⟨_, _, _, _, _, _, h6, _⟩ := bfr; exact h6 k hk) _).trans ((kp4.trans kp5).mono fun k hk => .inl hk)
      clear bf4 bf5 bfa kp4 kp5 TC frone x1 o1 frr
      go_wp2
      go_roundw
      case rel => exact ⟨j + 1, by omega, by go_num, bf6, kpS⟩
      case measure => simp [intOf]; omega
    · have hje : j = spans.length := by omega
      subst hje
      rw [List.take_length] at bfr
      obtain ⟨g, cap8, e0, e1, e2, e3, e4, e5, e6, e7, e8⟩ := Buf.finish (x := 2) (y := 0) (z := 6 + 4 * (spans.length : Int) - 2) (xs := [tag / 256, tag % 256] ++ [room / 256, room % 256] ++ spans.flatMap spanB) bfr (by omega)
      have hlen8 : (2 :: 0 :: ([tag / 256, tag % 256] ++ [room / 256, room % 256] ++ spans.flatMap spanB) : List Int).length = 6 + 4 * spans.length := by simp [-List.length_flatMap, spanB_len]; omega
      rw [hlen8] at e0 e1 e6 e8
      have K8 : Below w.heap.size w (wr.setCell ⟨g, 1, none⟩ (.int .u8 (6 + 4 * (spans.length : Int) - 2))) := (hb1.trans (kb2.mono (Nat.le_of_lt hX))).trans (((kp3.trans kpr).trans e7).below fun k hk => .inl (by omega))
      have HR : bytesM ⟨2, tag, stream, mid, part, last, ordered, data, spans, room, skips⟩ = 2 :: (6 + 4 * (spans.length : Int) - 2) :: ([tag / 256, tag % 256] ++ [room / 256, room % 256] ++ spans.flatMap spanB) := by
        rw [HM.out, HL.out, show (((4 + 4 * spans.length : Nat)) : Int) = 6 + 4 * (spans.length : Int) - 2 by omega]
        simp [two16]
      have HRES : Hid _ := And.intro e6 K8
      have HR' : Hid _ := HR
      clear e6 K8 HR HM HL bfr kpr e7 hlen8 fr3 hsp
      go_wp2
      go_ret2
      exact ⟨_, rfl, by rw [HR'.out]; exact HRES.out.1, HRES.out.2⟩
end Go.Proofs.Ytnddejdndipddab
