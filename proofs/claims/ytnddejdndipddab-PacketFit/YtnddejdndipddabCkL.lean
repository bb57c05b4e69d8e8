/- The contract of Bytes, of package chunk: forwards; and whole. -/
import Derived.Test.YtnddejdndipddabCkK
set_option maxRecDepth 20000
namespace Go.Proofs.Ytnddejdndipddab
open Go.RowKit

theorem three_cells (w : World) (u v x : Value) (t : TypeId) : (w.alloc (.cells #[u, v, x] t)).cell? ⟨w.heap.size, 0, none⟩ = some u ∧ (w.alloc (.cells #[u, v, x] t)).cell? ⟨w.heap.size, 1, none⟩ = some v ∧ (w.alloc (.cells #[u, v, x] t)).cell? ⟨w.heap.size, 2, none⟩ = some x := by
  refine ⟨?_, ?_, ?_⟩ <;> (rw [World.cell?_alloc_at _ _ _ _ rfl]; rfl)
theorem flag1_eq (b : Bool) : flagV b 1 % 256 = flagV b 1 := by cases b <;> rfl

set_option maxHeartbeats 1000000 in
theorem bytes_forward (v : Value) (c : Ck) (w : World) (hv : CkV w.heap.size w v c) (hw : wrongM c = 0) (k1 : c.kind = 3) :
    Calls Try.prog 29 #[v] w fun e w' => ∃ v', e = .returned (.tuple #[v', .int .i64 0]) ∧ By w'.heap.size w' v' (bytesM c) ∧ Below w.heap.size w w' := by
  have hmf : ∀ (fn : Fn) (first cap : Array Value) (w : World), (Instr.makeFunc fn first cap).run Try.prog w = .ok (.func fn first cap) w := fun _ _ _ _ => rfl
  have g := goodF hw k1
  have HV := fun o => hv.boxed o
  obtain ⟨d, s, k, rfl, -, -, hs⟩ := hv
  have HB := fun o => box_below w o
  obtain ⟨as', cs, rfl, q1, q2⟩ := hs.ex
  simp only [ckVal] at HV ⊢
  have HL : Hid ((bodyM c).length = 2 + 4 * c.skips.length) := by
    show _ = _
    simp [-List.length_flatMap, bodyM, k1, two16, skipB_len]; omega
  have HM : Hid (bytesM c = [3] ++ [(((bodyM c).length : Int))] ++ two16 c.tag ++ c.skips.flatMap skipB) := by
    show _ = _
    simp [bytesM, k1, bodyM]
  obtain ⟨kind, tag, stream, mid, part, last, ordered, data, spans, room, skips⟩ := c
  dsimp only at *
  subst k1
  obtain ⟨⟨t1, t2⟩, l2, hgood⟩ := g
  dsimp only at *
  have hsp := skips_all hgood
  clear hgood
  go_enter Try.func29, Try.ntmps29
  go_wp2_with fail
  refine (wrong_any _ _ _ (HV _)).mono ?_
  rintro e w1 ⟨rfl, hb⟩
  rw [hw]
  have hb1 := (HB _).trans (hb.mono (by simp))
  have hX : w.heap.size < w1.heap.size := by have := hb.size; simp at this; omega
  have fr0 := fr_start w w1 ⟨3, tag, stream, mid, part, last, ordered, data, spans, room, skips⟩ d s (.slice as' skips.length cs) (by simpa using hb)
  have bf0 := buf_start w1 3 (by omega)
  have SX : SB w1.heap.size w.heap.size := .inl hX
  have SF : SB w1.heap.size (w1.heap.size + 2) := .inr rfl
  have w10 := (hb.cell (p := ⟨w.heap.size, 0, none⟩) (by simp)).trans (by simp : _ = some (.int .i64 3))
  have w11 : ∀ o1 o2 o3, (((w1.alloc o1).alloc o2).alloc o3).cell? ⟨w.heap.size, 1, none⟩ = some (.int .i64 tag) := fun o1 o2 o3 => by
    rw [World.cell?_alloc_past _ _ _ (by simp; omega), World.cell?_alloc_past _ _ _ (by simp; omega), World.cell?_alloc_past _ _ _ hX]
    exact (hb.cell (p := ⟨w.heap.size, 1, none⟩) (by simp)).trans (by simp)
  clear HV
  go_wp2_with fail
  refine (two_any (SB w1.heap.size) (w1.heap.size + 1) (w1.heap.size + 2) _ tag _ bf0 SF (fr0 _ _).one (by simp) t1 t2).mono ?_
  rintro e w2 ⟨⟨r, rfl⟩, bf2, kp2⟩
  have fr2 := (fr0 _ _).keep kp2 SF SX
  clear w10 w11 bf0 fr0
  have kb2 := kept3 kp2
  clear kp2
  have z0 := fr2.c0
  have z8 := fr2.c10
  have hs3 : Kl w.heap.size w2 (.slice as' skips.length cs) skips := (hs.below hb1 (Nat.le_refl _)).below kb2 (Nat.le_of_lt hX)
  go_wp2
  go_loopw [83] (fun i wr => ∃ (j : Nat), j ≤ skips.length ∧ i = .int .i64 j ∧ Buf (SB w1.heap.size) (w1.heap.size + 1) wr ([3, 0] ++ [tag / 256, tag % 256] ++ (skips.take j).flatMap skipB) ∧ Keep (SB w1.heap.size) w2 wr) (fun i _ => skips.length - (intOf i).toNat)
  case atStart => exact ⟨0, Nat.zero_le _, rfl, by simpa using bf2, Keep.refl _ _⟩
  case round =>
    obtain ⟨j, hj, rfl, bfr, kpr⟩ := hrel
    by_cases hlt : j < skips.length
    · obtain ⟨b, off, hbb, hix, hx0, hx1, hx2⟩ := (hs3.below (kpr.below (B := w1.heap.size) fun k hk => .inl hk) (Nat.le_of_lt hX)).at j hlt
      have hr := hsp skips[j] (List.getElem_mem hlt)
      have bfa := bfr.alloc
      have frr := fr2.keep kpr SF SX
      have TC := three_cells wr (.int .i64 skips[j].stream) (.int .i64 skips[j].mid) (.bool skips[j].ordered) 89
      have HN : Hid ((skips.take (j + 1)).flatMap skipB = (skips.take j).flatMap skipB ++ skipB skips[j]) := by show _ = _; rw [List.take_succ_eq_append_getElem hlt, List.flatMap_append, List.flatMap_singleton]
      have hlenp : ((skips.take j).flatMap skipB).length = 4 * j := by rw [skipB_len]; simp; omega
      clear z8 z0
      have frone : ∀ o, (wr.alloc o).cell? ⟨w1.heap.size + 2, 0, none⟩ = some (oneV (w1.heap.size + 1)) := fun o => by
        rw [World.cell?_alloc_past _ _ _ (World.block_lt_of_cell? _ _ frr.one)]; exact frr.one
      go_wp2_with fail
      refine (one_any _ (w1.heap.size + 1) _ skips[j].stream _ (bfa _) (by simp [-List.length_flatMap, hlenp]; omega)).mono ?_
      rintro e w4 ⟨⟨r4, rfl⟩, bf4, kp4⟩
      have x1 := (kp4.cell (p := ⟨wr.heap.size, 1, none⟩) (.inr rfl)).trans TC.2.1
      have x2 := (kp4.cell (p := ⟨wr.heap.size, 2, none⟩) (.inr rfl)).trans TC.2.2
      have o1 := (kp4.cell (p := ⟨w1.heap.size + 2, 0, none⟩) (.inl SF)).trans (frone _)
      go_upto_region 28 with fail
      have U := one_any _ (w1.heap.size + 1) _ (flagV skips[j].ordered 1) w4.drew (bf4.heap rfl) (by simp [-List.length_flatMap, hlenp]; omega)
      rw [flag1_eq] at U
      have SK : ∀ w5, Keep (fun k => SB w1.heap.size k ∨ k = wr.heap.size) w4.drew w5 → (w5.cell? ⟨w1.heap.size + 1 + 1, 0, none⟩ = some (oneV (w1.heap.size + 1)) ∧ w5.cell? ⟨wr.heap.size, 2, none⟩ = some (.bool skips[j].ordered)) := fun w5 kp =>
        ⟨(kp.cell (p := ⟨w1.heap.size + 2, 0, none⟩) (.inl SF)).trans o1, (kp.cell (p := ⟨wr.heap.size, 2, none⟩) (.inr rfl)).trans x2⟩
      go_region_held3 (fun w' => w'.cell? ⟨w1.heap.size + 1 + 1, 0, none⟩ = some (oneV (w1.heap.size + 1)) ∧ w'.cell? ⟨wr.heap.size, 2, none⟩ = some (.bool skips[j].ordered)) (first | exact ⟨o1, x2⟩ | exact Q4) (first | (go_at_call 50; refine (flag_any _ _ _).mono ?_; rintro e w' ⟨rfl, rfl⟩) | (go_at_call 48; refine U.mono ?_; rintro e w5 ⟨⟨r5, rfl⟩, bf5, kp5⟩; have Q4 := SK w5 kp5))
      have kp5' : Keep (fun k => SB w1.heap.size k ∨ k = wr.heap.size) w4 w5 := ⟨kp5.os, kp5.tape, kp5.output, kp5.size, kp5.block⟩
      have x3 := (kp5'.cell (p := ⟨wr.heap.size, 1, none⟩) (.inr rfl)).trans x1
      have o2 := (kp5'.cell (p := ⟨w1.heap.size + 2, 0, none⟩) (.inl SF)).trans o1
      go_wp2_with fail
      refine (two_any _ (w1.heap.size + 1) (w1.heap.size + 2) _ skips[j].mid _ bf5 (.inl SF) o2 (by simp [-List.length_flatMap, hlenp]; omega) (by omega) (by omega)).mono ?_
      rintro e w6 ⟨⟨r6, rfl⟩, bf6, kp6⟩
      have bf7 : Buf (SB w1.heap.size) (w1.heap.size + 1) w6 ([3, 0] ++ [tag / 256, tag % 256] ++ (skips.take (j + 1)).flatMap skipB) := by
        rw [HN.out]
        have := bf6.mono (S' := SB w1.heap.size) fun k hk => .inl hk
        rw [show skips[j].stream % 256 = skips[j].stream by omega] at this
        simpa [skipB, two16] using this
      have kpS : Keep (SB w1.heap.size) w2 w6 := (kpr.alloc (fun k hk => by obtain ⟨_, _, _, _, _, _, h6, _⟩ := bfr; exact h6 k hk) _).trans (((kp4.trans kp5').trans kp6).mono fun k hk => .inl hk)
      clear bf4 bf5 bf6 bfa kp4 kp5 kp5' kp6 TC frone x1 o1 frr x2 x3 o2 U SK
      go_wp2
      go_roundw
      case rel => exact ⟨j + 1, by omega, by go_num, bf7, kpS⟩
      case measure => simp [intOf]; omega
    · have hje : j = skips.length := by omega
      subst hje
      rw [List.take_length] at bfr
      obtain ⟨g, cap8, e0, e1, e2, e3, e4, e5, e6, e7, e8⟩ := Buf.finish (x := 3) (y := 0) (z := 4 + 4 * (skips.length : Int) - 2) (xs := [tag / 256, tag % 256] ++ skips.flatMap skipB) bfr (by omega)
      have hlen8 : (3 :: 0 :: ([tag / 256, tag % 256] ++ skips.flatMap skipB) : List Int).length = 4 + 4 * skips.length := by simp [-List.length_flatMap, skipB_len]; omega
      rw [hlen8] at e0 e1 e6 e8
      have K8 : Below w.heap.size w (wr.setCell ⟨g, 1, none⟩ (.int .u8 (4 + 4 * (skips.length : Int) - 2))) := (hb1.trans (kb2.mono (Nat.le_of_lt hX))).trans ((kpr.trans e7).below fun k hk => .inl (by omega))
      have HR : bytesM ⟨3, tag, stream, mid, part, last, ordered, data, spans, room, skips⟩ = 3 :: (4 + 4 * (skips.length : Int) - 2) :: ([tag / 256, tag % 256] ++ skips.flatMap skipB) := by
        rw [HM.out, HL.out, show (((2 + 4 * skips.length : Nat)) : Int) = 4 + 4 * (skips.length : Int) - 2 by omega]
        simp [two16]
      have HRES : Hid _ := And.intro e6 K8
      have HR' : Hid _ := HR
      clear e6 K8 HR HM HL bfr kpr e7 hlen8 fr2 hsp z0 z8
      go_wp2
      go_ret2
      exact ⟨_, rfl, by rw [HR'.out]; exact HRES.out.1, HRES.out.2⟩

theorem bytes_any (v : Value) (c : Ck) (w : World) (hv : CkV w.heap.size w v c) (hw : wrongM c = 0) :
    Calls Try.prog 29 #[v] w fun e w' => ∃ v', e = .returned (.tuple #[v', .int .i64 0]) ∧ By w'.heap.size w' v' (bytesM c) ∧ Below w.heap.size w w' := by
  rcases wrong_kind hw with k | k | k
  · exact bytes_data v c w hv hw k
  · exact bytes_sack v c w hv hw k
  · exact bytes_forward v c w hv hw k
end Go.Proofs.Ytnddejdndipddab
