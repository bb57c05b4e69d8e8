/- The contract of Bytes, of package chunk: what is wrong, and data chunks. -/
import Derived.Test.YtnddejdndipddabCkI
import Derived.Deep.RegionHeld3
import Derived.Deep.CutRange
import Derived.BigQuiet
import Derived.Laws.EntriesVeiled
set_option maxRecDepth 20000
namespace Go.Proofs.Ytnddejdndipddab
open Go.RowKit

set_option maxHeartbeats 400000 in
theorem bytes_bad (v : Value) (c : Ck) (w : World) (hv : CkV w.heap.size w v c) (hw : wrongM c ≠ 0) :
    Calls Try.prog 29 #[v] w fun e w' => e = .returned (.tuple #[.slice none 0 0, .int .i64 (wrongM c)]) ∧ Below w.heap.size w w' := by
  have HV := fun o => hv.boxed o
  obtain ⟨d, s, k, rfl, -, -, -⟩ := hv
  have HB := fun o => box_below w o
  simp only [ckVal] at HV ⊢
  go_enter Try.func29, Try.ntmps29
  go_wp2_with fail
  refine (wrong_any _ _ _ (HV _)).mono ?_
  rintro e w1 ⟨rfl, hb⟩
  have hb1 := (HB _).trans (hb.mono (by simp))
  have hne : (wrongM c != 0) = true := by simpa using hw
  clear HV
  go_wp2
  go_ret2
  exact ⟨rfl, hb1⟩

theorem Buf.heap {S : Nat → Prop} {O : Nat} {w w' : World} {xs : List Int} (h : Buf S O w xs) (e : w'.heap = w.heap) : Buf S O w' xs := by
  obtain ⟨v, h1, h2, h3, h4, h5, h6, h7⟩ := h
  have eb : ∀ k : Nat, w'.heap[k]? = w.heap[k]? := fun k => by rw [e]
  refine ⟨v, (World.cell?_of_block (eb _)).trans h1, (World.frozen?_of_block (eb _)).trans h2, own_of_block h3 fun k _ => eb k, h4, h5, fun k hk => by rw [e]; exact h6 k hk, h7⟩
theorem Buf.drew {S : Nat → Prop} {O : Nat} {w : World} {xs : List Int} (h : Buf S O w xs) : Buf S O w.drew xs := h
theorem Keep.drew {S : Nat → Prop} {a w : World} (h : Keep S a w) : Keep S a w.drew := ⟨h.os, h.tape, h.output, h.size, h.block⟩
theorem Keep.drewN {S : Nat → Prop} {a w : World} (h : Keep S a w) (n : Nat) : Keep S a (w.drewN n) := ⟨h.os, h.tape, h.output, h.size, h.block⟩

/-- What an append to the buffer asks, and leaves. -/
theorem Buf.app {S : Nat → Prop} {O : Nat} {w : World} {xs : List Int} (h : Buf S O w xs) : ∃ a cap, w.cell? ⟨O, 0, none⟩ = some (.slice a xs.length cap) ∧ w.ownsRow 0 5 1 (.slice a xs.length cap) xs.length (cellsB xs) ∧
    ∀ ys, IsB ys → ∀ v' w', w'.ownsRow 0 5 1 v' (xs.length + ys.length) (cellsB xs ++ cellsB ys) → w.grownBy w' (Value.slice a xs.length cap).ownBlock → (v'.ownBlock = (Value.slice a xs.length cap).ownBlock ∨ v'.ownBlock = some w.heap.size) →
      w'.cell? ⟨O, 0, none⟩ = some (.slice a xs.length cap) ∧ w'.frozen? ⟨O, 0, none⟩ = false ∧ Buf S O (w'.setCell ⟨O, 0, none⟩ v') (xs ++ ys) ∧ Keep S w (w'.setCell ⟨O, 0, none⟩ v') := by
  have hO := h.lt
  obtain ⟨v, h1, h2, h3, h4, h5, h6, h7⟩ := h
  obtain ⟨a, cap, rfl⟩ := own_form h3
  refine ⟨a, cap, h1, h3, fun ys hy v' w' p q r => ?_⟩
  have := Buf.put (S := S) h1 h2 h4 h5 h6 (h7.append hy) p q r
  exact ⟨q.cell h1 (by intro e; exact (h4 O e.symm).2 rfl), (World.frozen?_of_block (q.block O hO (by intro e; exact (h4 O e.symm).2 rfl))).trans h2, this.1, this.2⟩

theorem fin_slice {S : Nat → Prop} {O : Nat} {w : World} {xs : List Int} {u : Value} {a : Option Addr} {n cap : Nat} (hu : w.cell? ⟨O, 0, none⟩ = some u) (h : Buf S O (w.setCell ⟨O, 0, none⟩ (.slice a n cap)) xs) (hx : xs ≠ []) : ∃ g, a = some ⟨g, 0, none⟩ := by
  obtain ⟨v, h1, h2, h3, -⟩ := h
  rw [World.cell?_setCell_same' _ _ _ (by rw [hu]; rfl)] at h1
  simp only [Option.some.injEq] at h1
  subst h1
  rcases h3.2 with ⟨h, hn⟩ | ⟨g, cap', cur, h, _⟩
  · exact absurd (List.eq_nil_of_length_eq_zero hn) hx
  · simp only [Value.slice.injEq] at h
    exact ⟨g, h.1⟩

theorem flags_eq (last ordered : Bool) : bits BinOp.or IntKind.i64 (flagV last 1) (flagV ordered 2) % 256 = flagsM last ordered := by cases last <;> cases ordered <;> rfl

set_option maxHeartbeats 1000000 in
theorem bytes_data (v : Value) (c : Ck) (w : World) (hv : CkV w.heap.size w v c) (hw : wrongM c = 0) (k1 : c.kind = 1) :
    Calls Try.prog 29 #[v] w fun e w' => ∃ v', e = .returned (.tuple #[v', .int .i64 0]) ∧ By w'.heap.size w' v' (bytesM c) ∧ Below w.heap.size w w' := by
  have hmf : ∀ (fn : Fn) (first cap : Array Value) (w : World), (Instr.makeFunc fn first cap).run Try.prog w = .ok (.func fn first cap) w := fun _ _ _ _ => rfl
  have g := goodD hw k1
  have HV := fun o => hv.boxed o
  obtain ⟨d, s, k, rfl, hd, -, -⟩ := hv
  have HB := fun o => box_below w o
  obtain ⟨ad, cd, rfl, -, -⟩ := hd.ex
  simp only [ckVal] at HV ⊢
  have HM : Hid (bytesM c = [1] ++ [(((bodyM c).length : Int))] ++ two16 c.tag ++ [c.stream] ++ [flagsM c.last c.ordered] ++ two16 c.mid ++ [c.part] ++ c.data) := by
    show _ = _
    simp [bytesM, k1, bodyM]
  have HL : Hid ((bodyM c).length = 7 + c.data.length) := by
    show _ = _
    simp [bodyM, k1, two16]; omega
  obtain ⟨kind, tag, stream, mid, part, last, ordered, data, spans, room, skips⟩ := c
  dsimp only at *
  subst k1
  obtain ⟨⟨t1, t2⟩, ⟨s1, s2⟩, ⟨m1, m2⟩, ⟨p1, p2⟩, ⟨l1, l2⟩⟩ := g
  dsimp only at *
  go_enter Try.func29, Try.ntmps29
  go_wp2_with fail
  refine (wrong_any _ _ _ (HV _)).mono ?_
  rintro e w1 ⟨rfl, hb⟩
  rw [hw]
  have hb1 := (HB _).trans (hb.mono (by simp))
  have hX : w.heap.size < w1.heap.size := by have := hb.size; simp at this; omega
  have fr0 := fr_start w w1 ⟨1, tag, stream, mid, part, last, ordered, data, spans, room, skips⟩ (.slice ad data.length cd) s k (by simpa using hb)
  have bf0 := buf_start w1 1 (by omega)
  have SX : SB w1.heap.size w.heap.size := .inl hX
  have SF : SB w1.heap.size (w1.heap.size + 2) := .inr rfl
  have w10 := (hb.cell (p := ⟨w.heap.size, 0, none⟩) (by simp)).trans (by simp : _ = some (.int .i64 1))
  have w11 : ∀ o1 o2 o3, (((w1.alloc o1).alloc o2).alloc o3).cell? ⟨w.heap.size, 1, none⟩ = some (.int .i64 tag) := fun o1 o2 o3 => by
    rw [World.cell?_alloc_past _ _ _ (by simp; omega), World.cell?_alloc_past _ _ _ (by simp; omega), World.cell?_alloc_past _ _ _ hX]
    exact (hb.cell (p := ⟨w.heap.size, 1, none⟩) (by simp)).trans (by simp)
  clear HV
  go_wp2_with fail
  refine (two_any (SB w1.heap.size) (w1.heap.size + 1) (w1.heap.size + 2) _ tag _ bf0 SF (fr0 _ _).one (by simp) t1 t2).mono ?_
  rintro e w2 ⟨⟨r, rfl⟩, bf2, kp2⟩
  have fr2 := (fr0 _ _).keep kp2 SF SX
  clear w10 w11 bf0 fr0
  have kb2 : Below w1.heap.size w1 w2 := ⟨kp2.os, kp2.tape, kp2.output, Nat.le_trans (by simp; omega) kp2.size, fun i hi => (kp2.block i (.inl hi)).trans (by rw [Below.heap_alloc _ _ _ (by simp; omega), Below.heap_alloc _ _ _ (by simp; omega), Below.heap_alloc _ _ _ hi])⟩
  clear kp2
  have z0 := fr2.c0
  have z1 := fr2.one
  have z2 := fr2.c2
  go_wp2_with fail
  refine (one_any (SB w1.heap.size) (w1.heap.size + 1) _ stream _ bf2 (by simp)).mono ?_
  rintro e w3 ⟨⟨r, rfl⟩, bf3, kp3⟩
  have fr3 := fr2.keep kp3 SF SX
  clear bf2 fr2 z0 z1 z2
  go_upto_region 11 with fail
  have U := one_any (SB w1.heap.size) (w1.heap.size + 1) _ (bits BinOp.or IntKind.i64 (flagV last 1) (flagV ordered 2)) w3.drew (bf3.heap rfl) (by simp)
  rw [flags_eq] at U
  go_cut [43] from 35 to 43 (fun _ wx => Buf (SB w1.heap.size) (w1.heap.size + 1) wx ([1, 0] ++ [tag / 256, tag % 256] ++ [stream % 256] ++ [flagsM last ordered]) ∧ Keep (SB w1.heap.size) w3 wx)
  case first =>
    have y1 := fr3.one
    have y5 := fr3.c5
    have y6 := fr3.c6
    have SK : ∀ w4, Keep (SB w1.heap.size) w3.drew w4 → (w4.cell? ⟨w1.heap.size + 1 + 1, 0, none⟩ = some (oneV (w1.heap.size + 1)) ∧ w4.cell? ⟨w.heap.size, 5, none⟩ = some (.bool last) ∧ w4.cell? ⟨w.heap.size, 6, none⟩ = some (.bool ordered)) := fun w4 kp =>
      ⟨(kp.cell (p := ⟨w1.heap.size + 2, 0, none⟩) SF).trans y1, (kp.cell (p := ⟨w.heap.size, 5, none⟩) SX).trans y5, (kp.cell (p := ⟨w.heap.size, 6, none⟩) SX).trans y6⟩
    clear bf3 fr3 HM HL
    go_region_held3 (fun w' => w'.cell? ⟨w1.heap.size + 1 + 1, 0, none⟩ = some (oneV (w1.heap.size + 1)) ∧ w'.cell? ⟨w.heap.size, 5, none⟩ = some (.bool last) ∧ w'.cell? ⟨w.heap.size, 6, none⟩ = some (.bool ordered)) (first | exact ⟨y1, y5, y6⟩ | exact Q4) (first | (go_at_call 50; refine (flag_any _ _ _).mono ?_; rintro e w' ⟨rfl, rfl⟩) | (go_at_call 48; refine U.mono ?_; rintro e w4 ⟨⟨r4, rfl⟩, bf4, kp4⟩; have Q4 := SK w4 kp4))
    all_goals (go_wp2_with fail; go_meet; exact ⟨bf4, ⟨kp4.os, kp4.tape, kp4.output, kp4.size, kp4.block⟩⟩)
  case rest =>
  obtain ⟨bf4, kp4⟩ := hcut
  have fr4 := fr3.keep kp4 SF SX
  clear bf3 fr3 U
  have z3 := fr4.c3
  go_wp2_with fail
  refine (two_any (SB w1.heap.size) (w1.heap.size + 1) (w1.heap.size + 2) _ mid _ bf4 SF fr4.one (by simp) m1 m2).mono ?_
  rintro e w5 ⟨⟨r5, rfl⟩, bf5, kp5⟩
  have fr5 := fr4.keep kp5 SF SX
  clear bf4 fr4 z3
  have z1 := fr5.one
  have z4 := fr5.c4
  go_wp2_with fail
  refine (one_any (SB w1.heap.size) (w1.heap.size + 1) _ part _ bf5 (by simp)).mono ?_
  rintro e w6 ⟨⟨r6, rfl⟩, bf6, kp6⟩
  have fr6 := fr5.keep kp6 SF SX
  clear bf5 fr5 z1 z4
  have k6 := ((kp3.trans kp4).trans kp5).trans kp6
  clear kp3 kp4 kp5 kp6
  obtain ⟨a6, cap6, z0, own6, happ⟩ := bf6.app
  have z7 := fr6.c7
  have hd6 : By w.heap.size w6 (.slice ad data.length cd) data := ((hd.below hb1 (Nat.le_refl _)).below kb2 (Nat.le_of_lt hX)).below (k6.below (B := w1.heap.size) fun k hk => .inl hk) (Nat.le_of_lt hX)
  have happ2 := happ data hd6.2
  clear happ
  have HFIN : ∀ {wx : World}, Buf (SB w1.heap.size) (w1.heap.size + 1) wx ([1, 0] ++ [tag / 256, tag % 256] ++ [stream % 256] ++ [flagsM last ordered] ++ [mid / 256, mid % 256] ++ [part % 256] ++ data) →
      Buf (SB w1.heap.size) (w1.heap.size + 1) wx (1 :: 0 :: ([tag / 256, tag % 256] ++ [stream % 256] ++ [flagsM last ordered] ++ [mid / 256, mid % 256] ++ [part % 256] ++ data)) := fun h => h
  have hln : ([1, 0] ++ [tag / 256, tag % 256] ++ [stream % 256] ++ [flagsM last ordered] ++ [mid / 256, mid % 256] ++ [part % 256]).length = 9 := rfl
  rw [hln] at z0 own6 happ2
  go_upto_region 31 with (at_builtin; refine wpList_append_rw Try.underlying23 Try.info5 rfl (by decide) _ rfl (.tmp 52) (.tmp 54) rfl 0 (.slice a6 9 cap6) 9 _ rfl own6 _ data.length (cellsB data) _ rfl hd6.1 (cellsB_one _) (by unfold maxLen; omega) (by omega) (Nat.zero_le _) ?_; intro v' w7 own7 grow7 at7; obtain ⟨a', cap', rfl⟩ := own_form own7; obtain ⟨c7, f7, bf7, kp7⟩ := happ2 _ w7 own7 grow7 at7; clear own7 grow7 at7)
  generalize w7.setCell ⟨w1.heap.size + 1, 0, none⟩ (.slice a' (9 + data.length) cap') = w8 at bf7 kp7 ⊢
  obtain ⟨g, cap8, e0, e1, e2, e3, e4, e5, e6, e7, e8⟩ := Buf.finish (z := 9 + (data.length : Int) - 2) (HFIN bf7) (by omega)
  have hlen8 : (1 :: 0 :: ([tag / 256, tag % 256] ++ [stream % 256] ++ [flagsM last ordered] ++ [mid / 256, mid % 256] ++ [part % 256] ++ data)).length = 9 + data.length := by simp; omega
  rw [hlen8] at e0 e1 e6 e8
  have K8 : Below w.heap.size w (w8.setCell ⟨g, 1, none⟩ (.int .u8 (9 + (data.length : Int) - 2))) := (hb1.trans (kb2.mono (Nat.le_of_lt hX))).trans (((k6.trans kp7).trans e7).below fun k hk => .inl (by omega))
  have HR : bytesM ⟨1, tag, stream, mid, part, last, ordered, data, spans, room, skips⟩ = 1 :: (9 + (data.length : Int) - 2) :: ([tag / 256, tag % 256] ++ [stream % 256] ++ [flagsM last ordered] ++ [mid / 256, mid % 256] ++ [part % 256] ++ data) := by
    rw [HM.out, HL.out, show stream % 256 = stream by omega, show part % 256 = part by omega, show (((7 + data.length : Nat)) : Int) = 9 + (data.length : Int) - 2 by omega]
    simp [two16]
  have HRES : Hid _ := And.intro e6 K8
  have HR' : Hid _ := HR
  clear e6 K8 HR HM HL HFIN fr6 z0 z7 own6 happ2 bf7 kp7 e7 c7 f7 hlen8
  go_wp2
  go_ret2
  exact ⟨_, rfl, by rw [HR'.out]; exact HRES.out.1, HRES.out.2⟩
end Go.Proofs.Ytnddejdndipddab
