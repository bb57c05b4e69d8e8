/- What is asked first of the statements about chapter 4: alive. -/
import Derived.Test.YtnddejdndipddabPaH
import Derived.Test.YtnddejdndipddabGI
import Derived.Lib.SlBytesConst
set_option maxRecDepth 20000
namespace Go.Proofs.Ytnddejdndipddab
open Go.RowKit

/-- A literal's bytes, marked. -/
theorem By.lit (w : World) (X : Nat) (cs : Array Value) (bs : List Int) (m : Nat × Nat) (hX : X = w.heap.size) (hc : cs.toList = cellsB bs) (hb : IsB bs) (hl : bs.length ≤ 9223372036854775807) : By (X + 1) (w.alloc (.cells cs 5 m)) (.slice (some ⟨X, 0, none⟩) bs.length bs.length) bs := by
  subst hX
  refine ⟨⟨by simp [cellsB], some ⟨w.heap.size, 0, none⟩, bs.length, rfl, Nat.le_refl _, hl, fun h => by simp at h, fun _ => ⟨w.heap.size, 0, rfl, by omega, fun j u hu => ?_⟩⟩, hb⟩
  rw [World.cell?_alloc_mark, Nat.zero_add, ← hu, ← hc]
  simp

def aliveP : List Pc := [⟨0, ⟨0, 0, 0, 0, 1, true, false, [121], [], 0, []⟩⟩, ⟨0, ⟨0, 0, 0, 0, 0, false, false, [120], [], 0, []⟩⟩]
theorem aliveP_good : goodN 2 aliveP := by
  refine ⟨fun p hp => ?_, ?_⟩
  · simp only [aliveP, List.mem_cons, List.not_mem_nil, or_false] at hp
    rcases hp with rfl | rfl
    · exact ⟨by simp [Pc.part], by simp [Pc.part], by simp [Pc.part]⟩
    · exact ⟨by simp [Pc.part], by simp [Pc.part], by simp [Pc.part]⟩
  · simp [aliveP, Pc.part]
theorem aliveP_B : joinB aliveP = true := decide_eq_true ⟨aliveP_good, by simp [aliveP]⟩
theorem aliveP_D : joinD aliveP = [120, 121] := by
  rw [joinD, if_pos (show goodN aliveP.length aliveP from aliveP_good)]
  simp [aliveP, dataAt, Pc.part, List.range_succ]
theorem alive_split : splitM [97, 98, 99, 100, 101] 2 = [[97, 98], [99, 100], [101]] := by
  have : countM ([97, 98, 99, 100, 101] : List Int).length 2 = 3 := by rw [countM]; simp
  rw [splitM, this]
  simp [List.range_succ]
theorem IsB.small {l : List Int} (h : l.all (fun z => decide (0 ≤ z ∧ z < 256)) = true) : IsB l := fun z hz => of_decide_eq_true (List.all_eq_true.1 h z hz)

theorem box_below' (w : World) (o : Obj) : Below w.heap.size w (w.alloc o) := box_below w o

set_option maxHeartbeats 2000000 in
theorem alive4_any (w : World) : Calls Try.prog 21 #[] w fun e w' => e = .returned (.bool true) ∧ Below w.heap.size w w' := by
  have hcs : (convert 23 23 (.slice (some ⟨w.heap.size, 0, none⟩) 5 5)).run Try.prog (w.alloc (.cells #[.int .u8 97, .int .u8 98, .int .u8 99, .int .u8 100, .int .u8 101] 5)) = .ok (.slice (some ⟨w.heap.size, 0, none⟩) 5 5) (w.alloc (.cells #[.int .u8 97, .int .u8 98, .int .u8 99, .int .u8 100, .int .u8 101] 5 (5, 6))) := Lib.run_convert_bytes_const w 23 5 #[.int .u8 97, .int .u8 98, .int .u8 99, .int .u8 100, .int .u8 101] 5 5 Try.underlying23 Try.underlying5
  have B0 : Below w.heap.size w (w.alloc (.cells #[.int .u8 97, .int .u8 98, .int .u8 99, .int .u8 100, .int .u8 101] 5 (5, 6))) := box_below w _
  have BY0 : By (w.alloc (.cells #[.int .u8 97, .int .u8 98, .int .u8 99, .int .u8 100, .int .u8 101] 5 (5, 6))).heap.size (w.alloc (.cells #[.int .u8 97, .int .u8 98, .int .u8 99, .int .u8 100, .int .u8 101] 5 (5, 6))) (.slice (some ⟨w.heap.size, 0, none⟩) 5 5) [97, 98, 99, 100, 101] := (By.lit w w.heap.size #[.int .u8 97, .int .u8 98, .int .u8 99, .int .u8 100, .int .u8 101] [97, 98, 99, 100, 101] (5, 6) rfl rfl (IsB.small rfl) (by simp)).mono (by simp)
  have SP := split_any _ _ 2 _ BY0 (by simp)
  rw [alive_split] at SP
  have CN : ∀ wx, Calls Try.prog 20 #[.int .i64 5, .int .i64 2] wx fun e w' => e = .returned (.int .i64 3) ∧ w' = wx := fun wx => by
    have := count_any 5 2 wx (by omega)
    rwa [show countM 5 2 = 3 by rw [countM]; simp] at this
  go_enter Try.func21, Try.ntmps21
  go_wp2_with fail
  refine SP.mono ?_
  rintro e w1 ⟨v1, rfl, bb1, b1⟩
  have B1 := B0.trans (b1.mono B0.size)
  have BB := bb1
  obtain ⟨a1, cap1, rfl, m1, m2⟩ := bb1.ex
  have hc1 : (convert 23 23 (.slice (some ⟨w1.heap.size, 0, none⟩) 1 1)).run Try.prog (w1.alloc (.cells #[.int .u8 121] 5)) = .ok (.slice (some ⟨w1.heap.size, 0, none⟩) 1 1) (w1.alloc (.cells #[.int .u8 121] 5 (1, 2))) := Lib.run_convert_bytes_const w1 23 5 #[.int .u8 121] 1 1 Try.underlying23 Try.underlying5
  have hc2 : (convert 23 23 (.slice (some ⟨w1.heap.size + 1, 0, none⟩) 1 1)).run Try.prog ((w1.alloc (.cells #[.int .u8 121] 5 (1, 2))).alloc (.cells #[.int .u8 120] 5)) = .ok (.slice (some ⟨w1.heap.size + 1, 0, none⟩) 1 1) ((w1.alloc (.cells #[.int .u8 121] 5 (1, 2))).alloc (.cells #[.int .u8 120] 5 (1, 2))) := by
    have := Lib.run_convert_bytes_const (P := Try.prog) (w1.alloc (.cells #[.int .u8 121] 5 (1, 2))) 23 5 #[.int .u8 120] 1 1 Try.underlying23 Try.underlying5
    simpa using this
  have B2 : Below w1.heap.size w1 (((w1.alloc (.cells #[.int .u8 121] 5 (1, 2))).alloc (.cells #[.int .u8 120] 5 (1, 2))).alloc (.cells #[.int .i64 0, .int .i64 0, .int .i64 0, .int .i64 0, .int .i64 0, .int .i64 1, .bool true, .bool false, .slice (some ⟨w1.heap.size, 0, none⟩) 1 1, .slice none 0 0, .int .i64 0, .slice none 0 0, .int .i64 0, .int .i64 0, .int .i64 0, .int .i64 0, .int .i64 0, .int .i64 0, .bool false, .bool false, .slice (some ⟨w1.heap.size + 1, 0, none⟩) 1 1, .slice none 0 0, .int .i64 0, .slice none 0 0] 47)) := (two_below w1 _ _).alloc (by simp; omega) _
  have hz2 : (((w1.alloc (.cells #[.int .u8 121] 5 (1, 2))).alloc (.cells #[.int .u8 120] 5 (1, 2))).alloc (.cells #[.int .i64 0, .int .i64 0, .int .i64 0, .int .i64 0, .int .i64 0, .int .i64 1, .bool true, .bool false, .slice (some ⟨w1.heap.size, 0, none⟩) 1 1, .slice none 0 0, .int .i64 0, .slice none 0 0, .int .i64 0, .int .i64 0, .int .i64 0, .int .i64 0, .int .i64 0, .int .i64 0, .bool false, .bool false, .slice (some ⟨w1.heap.size + 1, 0, none⟩) 1 1, .slice none 0 0, .int .i64 0, .slice none 0 0] 47)).heap.size = w1.heap.size + 3 := by simp
  have CP : Cells (w1.heap.size + 1 + 1) (((w1.alloc (.cells #[.int .u8 121] 5 (1, 2))).alloc (.cells #[.int .u8 120] 5 (1, 2))).alloc (.cells #[.int .i64 0, .int .i64 0, .int .i64 0, .int .i64 0, .int .i64 0, .int .i64 1, .bool true, .bool false, .slice (some ⟨w1.heap.size, 0, none⟩) 1 1, .slice none 0 0, .int .i64 0, .slice none 0 0, .int .i64 0, .int .i64 0, .int .i64 0, .int .i64 0, .int .i64 0, .int .i64 0, .bool false, .bool false, .slice (some ⟨w1.heap.size + 1, 0, none⟩) 1 1, .slice none 0 0, .int .i64 0, .slice none 0 0] 47)) [.int .i64 0, .int .i64 0, .int .i64 0, .int .i64 0, .int .i64 0, .int .i64 1, .bool true, .bool false, .slice (some ⟨w1.heap.size, 0, none⟩) 1 1, .slice none 0 0, .int .i64 0, .slice none 0 0, .int .i64 0, .int .i64 0, .int .i64 0, .int .i64 0, .int .i64 0, .int .i64 0, .bool false, .bool false, .slice (some ⟨w1.heap.size + 1, 0, none⟩) 1 1, .slice none 0 0, .int .i64 0, .slice none 0 0] := Cells.new' #[.int .i64 0, .int .i64 0, .int .i64 0, .int .i64 0, .int .i64 0, .int .i64 1, .bool true, .bool false, .slice (some ⟨w1.heap.size, 0, none⟩) 1 1, .slice none 0 0, .int .i64 0, .slice none 0 0, .int .i64 0, .int .i64 0, .int .i64 0, .int .i64 0, .int .i64 0, .int .i64 0, .bool false, .bool false, .slice (some ⟨w1.heap.size + 1, 0, none⟩) 1 1, .slice none 0 0, .int .i64 0, .slice none 0 0] 47 (by simp)
  have By1 : By (((w1.alloc (.cells #[.int .u8 121] 5 (1, 2))).alloc (.cells #[.int .u8 120] 5 (1, 2))).alloc (.cells #[.int .i64 0, .int .i64 0, .int .i64 0, .int .i64 0, .int .i64 0, .int .i64 1, .bool true, .bool false, .slice (some ⟨w1.heap.size, 0, none⟩) 1 1, .slice none 0 0, .int .i64 0, .slice none 0 0, .int .i64 0, .int .i64 0, .int .i64 0, .int .i64 0, .int .i64 0, .int .i64 0, .bool false, .bool false, .slice (some ⟨w1.heap.size + 1, 0, none⟩) 1 1, .slice none 0 0, .int .i64 0, .slice none 0 0] 47)).heap.size (((w1.alloc (.cells #[.int .u8 121] 5 (1, 2))).alloc (.cells #[.int .u8 120] 5 (1, 2))).alloc (.cells #[.int .i64 0, .int .i64 0, .int .i64 0, .int .i64 0, .int .i64 0, .int .i64 1, .bool true, .bool false, .slice (some ⟨w1.heap.size, 0, none⟩) 1 1, .slice none 0 0, .int .i64 0, .slice none 0 0, .int .i64 0, .int .i64 0, .int .i64 0, .int .i64 0, .int .i64 0, .int .i64 0, .bool false, .bool false, .slice (some ⟨w1.heap.size + 1, 0, none⟩) 1 1, .slice none 0 0, .int .i64 0, .slice none 0 0] 47)) (.slice (some ⟨w1.heap.size, 0, none⟩) 1 1) [121] := (((By.lit w1 w1.heap.size #[.int .u8 121] [121] (1, 2) rfl rfl (IsB.small rfl) (by simp)).below (box_below' _ _) (by simp)).below (box_below' _ _) (by simp)).mono (by simp)
  have By2 : By (((w1.alloc (.cells #[.int .u8 121] 5 (1, 2))).alloc (.cells #[.int .u8 120] 5 (1, 2))).alloc (.cells #[.int .i64 0, .int .i64 0, .int .i64 0, .int .i64 0, .int .i64 0, .int .i64 1, .bool true, .bool false, .slice (some ⟨w1.heap.size, 0, none⟩) 1 1, .slice none 0 0, .int .i64 0, .slice none 0 0, .int .i64 0, .int .i64 0, .int .i64 0, .int .i64 0, .int .i64 0, .int .i64 0, .bool false, .bool false, .slice (some ⟨w1.heap.size + 1, 0, none⟩) 1 1, .slice none 0 0, .int .i64 0, .slice none 0 0] 47)).heap.size (((w1.alloc (.cells #[.int .u8 121] 5 (1, 2))).alloc (.cells #[.int .u8 120] 5 (1, 2))).alloc (.cells #[.int .i64 0, .int .i64 0, .int .i64 0, .int .i64 0, .int .i64 0, .int .i64 1, .bool true, .bool false, .slice (some ⟨w1.heap.size, 0, none⟩) 1 1, .slice none 0 0, .int .i64 0, .slice none 0 0, .int .i64 0, .int .i64 0, .int .i64 0, .int .i64 0, .int .i64 0, .int .i64 0, .bool false, .bool false, .slice (some ⟨w1.heap.size + 1, 0, none⟩) 1 1, .slice none 0 0, .int .i64 0, .slice none 0 0] 47)) (.slice (some ⟨w1.heap.size + 1, 0, none⟩) 1 1) [120] := ((By.lit (w1.alloc (.cells #[.int .u8 121] 5 (1, 2))) (w1.heap.size + 1) #[.int .u8 120] [120] (1, 2) (by simp) rfl (IsB.small rfl) (by simp)).below (box_below' _ _) (by simp)).mono (by simp)
  have PS : PcS (((w1.alloc (.cells #[.int .u8 121] 5 (1, 2))).alloc (.cells #[.int .u8 120] 5 (1, 2))).alloc (.cells #[.int .i64 0, .int .i64 0, .int .i64 0, .int .i64 0, .int .i64 0, .int .i64 1, .bool true, .bool false, .slice (some ⟨w1.heap.size, 0, none⟩) 1 1, .slice none 0 0, .int .i64 0, .slice none 0 0, .int .i64 0, .int .i64 0, .int .i64 0, .int .i64 0, .int .i64 0, .int .i64 0, .bool false, .bool false, .slice (some ⟨w1.heap.size + 1, 0, none⟩) 1 1, .slice none 0 0, .int .i64 0, .slice none 0 0] 47)).heap.size (((w1.alloc (.cells #[.int .u8 121] 5 (1, 2))).alloc (.cells #[.int .u8 120] 5 (1, 2))).alloc (.cells #[.int .i64 0, .int .i64 0, .int .i64 0, .int .i64 0, .int .i64 0, .int .i64 1, .bool true, .bool false, .slice (some ⟨w1.heap.size, 0, none⟩) 1 1, .slice none 0 0, .int .i64 0, .slice none 0 0, .int .i64 0, .int .i64 0, .int .i64 0, .int .i64 0, .int .i64 0, .int .i64 0, .bool false, .bool false, .slice (some ⟨w1.heap.size + 1, 0, none⟩) 1 1, .slice none 0 0, .int .i64 0, .slice none 0 0] 47)) (.slice (some ⟨w1.heap.size + 1 + 1, 0, none⟩) 2 2) aliveP := SlG.cells (vs := [.agg #[.int .i64 0, .int .i64 0, .int .i64 0, .int .i64 0, .int .i64 0, .int .i64 1, .bool true, .bool false, .slice (some ⟨w1.heap.size, 0, none⟩) 1 1, .slice none 0 0, .int .i64 0, .slice none 0 0], .agg #[.int .i64 0, .int .i64 0, .int .i64 0, .int .i64 0, .int .i64 0, .int .i64 0, .bool false, .bool false, .slice (some ⟨w1.heap.size + 1, 0, none⟩) 1 1, .slice none 0 0, .int .i64 0, .slice none 0 0]]) ⟨⟨_, _, _, rfl, By1, Sl.nil' _ _, Kl.nil _ _⟩, ⟨_, _, _, rfl, By2, Sl.nil' _ _, Kl.nil _ _⟩, trivial⟩ rfl CP (by omega) rfl (Nat.le_refl _) (by omega)
  have JO := join_any _ _ _ PS (by simp [aliveP]) (by intro p hp; simp [aliveP] at hp; rcases hp with rfl | rfl <;> simp)
  rw [aliveP_B, aliveP_D] at JO
  clear SP hcs BY0 B0 bb1 CP By1 By2 PS
  go_wp2_with fail
  generalize ((w1.alloc (.cells #[.int .u8 121] 5 (1, 2))).alloc (.cells #[.int .u8 120] 5 (1, 2))).alloc (.cells #[.int .i64 0, .int .i64 0, .int .i64 0, .int .i64 0, .int .i64 0, .int .i64 1, .bool true, .bool false, .slice (some ⟨w1.heap.size, 0, none⟩) 1 1, .slice none 0 0, .int .i64 0, .slice none 0 0, .int .i64 0, .int .i64 0, .int .i64 0, .int .i64 0, .int .i64 0, .int .i64 0, .bool false, .bool false, .slice (some ⟨w1.heap.size + 1, 0, none⟩) 1 1, .slice none 0 0, .int .i64 0, .slice none 0 0] 47) = w2 at *
  refine JO.mono ?_
  rintro e w3 ⟨v3, rfl, by3, b3⟩
  have T3 := by3.str
  obtain ⟨a3, cap3, rfl, -, -⟩ := by3.ex
  have BF := B2.trans (b3.mono (by omega))
  have BE := B1.trans (BF.mono B1.size)
  obtain ⟨b, off, d, hb, hix, hd, hcd⟩ := BbS.at (SlG.below By.bears BB BF (Nat.le_refl _)) 2 (by simp)
  have TD := hd.str
  obtain ⟨ad, cd, rfl, -, -⟩ := hd.ex
  have s1 : strOfNums [101] = ⟨#[101]⟩ := by rfl
  have s2 : strOfNums [120, 121] = ⟨#[120, 121]⟩ := by rfl
  have hl3 : ([[97, 98], [99, 100], [101]] : List (List Int)).length = 3 := rfl
  have hl1 : ([101] : List Int).length = 1 := rfl
  have hl2 : ([120, 121] : List Int).length = 2 := rfl
  have hix' : ∀ wx, (Instr.indexAt 38 (.slice a1 3 cap1) (.int .i64 2)).run Try.prog wx = .ok (.pointer (some ⟨b, off, none⟩)) wx := hix
  have hcd' : w3.cell? ⟨b, off, none⟩ = some (.slice ad 1 cd) := hcd
  have TD' : (convert 23 9 (.slice ad 1 cd)).run Try.prog w3 = .ok (.string ⟨#[101]⟩) w3 := TD
  have T3' : (convert 23 9 (.slice a3 2 cap3)).run Try.prog w3 = .ok (.string ⟨#[120, 121]⟩) w3 := T3
  clear JO hix hcd TD T3 hd by3 BB
  go_wp2_with (go_at_call 20; refine (CN _).mono ?_; rintro e w' ⟨rfl, rfl⟩)
  go_ret
  exact ⟨ret_bool (by simp), BE⟩
end Go.Proofs.Ytnddejdndipddab
