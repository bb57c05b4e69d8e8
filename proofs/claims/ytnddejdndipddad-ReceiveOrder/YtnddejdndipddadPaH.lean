/- The contract of Join, of package parts: the walk. -/
import Derived.Test.YtnddejdndipddadPaG
set_option maxRecDepth 20000
namespace Go.Proofs.Ytnddejdndipddad
open Go.RowKit

theorem JoSt.start (l : List Pc) (n : Nat) (w : World) : JoSt w w.heap.size (w.heap.size + 1) (w.heap.size + 1 + 1) (w.heap.size + 1 + 1 + 1) (w.heap.size + 1 + 1 + 1 + 1) l n 0
    (((((w.alloc (.cells #[.int .i64 ((n : Int) - 1)] 3)).alloc (.cells (madeCells #[.slice none 0 0] n) 38)).alloc (.cells #[.slice (some ⟨w.heap.size + 1, 0, none⟩) n n] 114)).alloc (.cells (madeCells #[.bool false] n) 4)).alloc
      (.cells #[.slice (some ⟨w.heap.size + 1 + 1 + 1, 0, none⟩) n n] 115)) := by
  have b2 := two_below w (.cells #[.int .i64 ((n : Int) - 1)] 3) (.cells (madeCells #[.slice none 0 0] n) 38)
  have b3 := b2.alloc b2.size (.cells #[.slice (some ⟨w.heap.size + 1, 0, none⟩) n n] 114)
  have b4 := b3.alloc b3.size (.cells (madeCells #[.bool false] n) 4)
  have b5 := b4.alloc b4.size (.cells #[.slice (some ⟨w.heap.size + 1 + 1 + 1, 0, none⟩) n n] 115)
  have c2 : Cells (w.heap.size + 1) ((w.alloc (.cells #[.int .i64 ((n : Int) - 1)] 3)).alloc (.cells (madeCells #[.slice none 0 0] n) 38)) (List.replicate n (.slice none 0 0)) := by
    have := Cells.new' (w := w.alloc (.cells #[.int .i64 ((n : Int) - 1)] 3)) (X := w.heap.size + 1) (madeCells #[.slice none 0 0] n) 38 (by simp)
    rwa [toList_madeCells_one] at this
  have c4 : Cells (w.heap.size + 1 + 1 + 1) ((((w.alloc (.cells #[.int .i64 ((n : Int) - 1)] 3)).alloc (.cells (madeCells #[.slice none 0 0] n) 38)).alloc (.cells #[.slice (some ⟨w.heap.size + 1, 0, none⟩) n n] 114)).alloc (.cells (madeCells #[.bool false] n) 4)) ((List.replicate n false).map Value.bool) := by
    have := Cells.new' (w := ((w.alloc (.cells #[.int .i64 ((n : Int) - 1)] 3)).alloc (.cells (madeCells #[.slice none 0 0] n) 38)).alloc (.cells #[.slice (some ⟨w.heap.size + 1, 0, none⟩) n n] 114)) (X := w.heap.size + 1 + 1 + 1) (madeCells #[.bool false] n) 4 (by simp)
    rwa [toList_madeCells_one, show List.replicate n (Value.bool false) = (List.replicate n false).map Value.bool by simp] at this
  refine ⟨b5, ?_, ?_, ?_, by simp, by simp, ⟨List.replicate n false, List.replicate n (.slice none 0 0), by simp, by simp, c4.alloc (by simp) _, ((c2.alloc (by simp) _).alloc (by simp) _).alloc (by simp) _, fun k hk => ?_, fun k hk => ⟨.slice none 0 0, ?_, ?_⟩⟩, ?_⟩
  · exact new_at (new_at (new_at (new_at (by rw [World.cell?_alloc_at _ _ _ _ rfl]; rfl) _) _) _) _
  · rw [World.cell?_alloc_at _ _ _ _ (by simp)]; rfl
  · exact new_at (new_at (by rw [World.cell?_alloc_at _ _ _ _ (by simp)]; rfl) _) _
  · simp [hk]
  · simp [hk]
  · exact By.nil _ _
  · exact ⟨fun p hp => by simp at hp, by simp⟩

set_option maxHeartbeats 2000000 in
theorem join_any (v : Value) (l : List Pc) (w : World) (hv : PcS w.heap.size w v l) (hl : l.length ≤ 1048576) (hd : ∀ p ∈ l, p.ck.data.length ≤ 1048576) :
    Calls Try.prog 80 #[v] w fun e w' => ∃ v', e = .returned (.tuple #[v', .bool (joinB l)]) ∧ By w'.heap.size w' v' (joinD l) ∧ Below w.heap.size w w' := by
  have HV := hv
  obtain ⟨a, cap, rfl, h1, h2⟩ := hv.ex
  have HL : Hid (((List.range l.length).map (dataAt l)).flatten.length ≤ 140737488355328) := by
    have := join_len hd l.length
    have h3 : l.length * 1048576 ≤ 1048576 * 1048576 := Nat.mul_le_mul_right _ hl
    show _ ≤ _
    omega
  clear hd
  have hmf : ∀ (fn : Fn) (first cap : Array Value) (w : World), (Instr.makeFunc fn first cap).run Try.prog w = .ok (.func fn first cap) w := fun _ _ _ _ => rfl
  have E26 := enters_Join_1
  have M1 := run_mkBb l.length (by omega)
  have M2 := run_mkB l.length (by omega)
  have hnot : ∀ (x : Bool) (w : World), (Op.unary .not (.bool x)).run Try.prog w = .ok (.bool (!x)) w := fun _ _ => rfl
  go_enter Try.func80, Try.ntmps80
  go_wp2_with fail
  go_loopw [22] (fun i wr => ∃ j : Nat, j ≤ l.length ∧ i = .int .i64 j ∧ JoSt w w.heap.size (w.heap.size + 1) (w.heap.size + 1 + 1) (w.heap.size + 1 + 1 + 1) (w.heap.size + 1 + 1 + 1 + 1) l l.length j wr) (fun i _ => l.length - (intOf i).toNat)
  case atStart => exact ⟨0, Nat.zero_le _, rfl, JoSt.start l l.length w⟩
  case round =>
    obtain ⟨j, hj, rfl, JS⟩ := hrel
    by_cases hlt : j < l.length
    · obtain ⟨b, off, _, _, _, hbb, hix, hcv, ⟨ad, nd, cd, rfl⟩, ⟨as', ns, cs, rfl⟩, ⟨ak, nk, ck, rfl⟩, x0, x1, x2, x3, x4, x5, x6, x7, x8, x9, x10, x11⟩ := PcS.at (SlG.below PcV.bears HV JS.bel (Nat.le_refl _)) j hlt
      have hby : By w.heap.size wr (.slice ad nd cd) l[j].ck.data := by
        obtain ⟨d, s, k, e, g, -⟩ := hcv
        simp only [pcVal, Value.agg.injEq, Array.mk.injEq, List.cons.injEq, true_and, and_true] at e
        obtain ⟨rfl, -⟩ := e
        exact g
      have JA := fun o => JS.below (box_below wr o)
      have BY := fun o => hby.below (box_below wr o) JS.bel.size
      clear hcv hby
      have LA : ∀ o : Obj, Calls Try.prog 86 #[ckVal l[j].ck (.slice ad nd cd) (.slice as' ns cs) (.slice ak nk ck), .pointer (some ⟨w.heap.size, 0, none⟩), .pointer (some ⟨w.heap.size + 1 + 1 + 1 + 1, 0, none⟩), .pointer (some ⟨w.heap.size + 1 + 1, 0, none⟩)] (wr.alloc o) fun e w' =>
          (e = .returned (.bool true) ∧ JoSt w w.heap.size (w.heap.size + 1) (w.heap.size + 1 + 1) (w.heap.size + 1 + 1 + 1) (w.heap.size + 1 + 1 + 1 + 1) l l.length (j + 1) w') ∨ (e = .returned (.bool false) ∧ Below w.heap.size w w' ∧ ¬ goodN l.length l) := by
        intro o
        have J1 := JA o
        obtain ⟨j1, j2, j3, j4, j5, j6, ⟨hs, ds, g1, g2, g3, g4, g5, g6⟩, j8⟩ := J1
        refine (lay_any w.heap.size (w.heap.size + 1 + 1 + 1 + 1) (w.heap.size + 1 + 1) (w.heap.size + 1 + 1 + 1) (w.heap.size + 1) l.length hs ds l[j].ck ad as' ak nd cd ns cs nk ck (wr.alloc o) j2 j3 j4 g3 g4 g1 g2 j5 j6 (by omega) (by omega) (by omega) (by omega) (by omega)).mono ?_
        rintro e w' (⟨q, hq, rfl, c1, c2, kp⟩ | ⟨rfl, bb, hno⟩)
        · exact .inl ⟨rfl, JoSt.step hlt ⟨by omega, by omega⟩ ⟨by omega, by omega, by omega, by omega, by omega, by omega⟩ j1 j2 j3 j4 j5 j6 g1 g2 g5 g6 j8 hq (BY o) c1 c2 kp⟩
        · exact .inr ⟨rfl, j1.trans (bb.mono j1.size), bad_of_lays rfl hlt g5 hno⟩
      simp only [ckVal] at LA
      clear JA BY JS
      go_wp2_with fail
      refine (LA _).mono ?_
      rintro e w1 (⟨rfl, J1⟩ | ⟨rfl, BE, hbad⟩)
      · clear LA x0 x1 x2 x3 x4 x5 x6 x7 x8 x9 x10 x11
        go_wp2_with fail
        go_roundw
        case rel => exact ⟨j + 1, by omega, by go_num, J1⟩
        case measure => simp [intOf]; omega
      · have HB : Hid (joinB l = false ∧ joinD l = []) := join_bad hbad
        clear LA x0 x1 x2 x3 x4 x5 x6 x7 x8 x9 x10 x11 hbad
        go_wp2_with fail
        go_ret2
        rw [HB.out.1, HB.out.2]
        exact ⟨_, rfl, By.nil _ _, BE⟩
    · have hje : j = l.length := by omega
      subst hje
      obtain ⟨j1, j2, j3, j4, j5, j6, ⟨hs, ds, g1, g2, g3, g4, g5, g6⟩, j8⟩ := JS
      rw [List.take_length] at j8 g6
      have HG : Hid (joinB l = decide (0 < l.length) ∧ joinD l = ((List.range l.length).map (dataAt l)).flatten) := join_good j8
      have BB : BbS wr.heap.size wr (.slice (some ⟨w.heap.size + 1, 0, none⟩) l.length l.length) ((List.range l.length).map (dataAt l)) := by
        refine BbS.of_cells g4 j6 g2 (by simp) (by omega) fun k u x e e' => ?_
        have hk : k < l.length := by rw [← g2]; exact (List.getElem?_eq_some_iff.1 e).1
        obtain ⟨u', hu', hb⟩ := g6 k hk
        rw [hu'] at e
        simp only [Option.some.injEq] at e
        subst e
        simp [hk] at e'
        subst e'
        exact hb.mono j1.size
      have CC := concat_any _ _ wr BB HL.out
      clear BB g3 g4 g5 g6 j8 hs ds g1 g2
      go_wp2_with fail
      refine CC.mono ?_
      rintro e w1 ⟨v1, rfl, by1, b1⟩
      have BE := j1.trans (b1.mono j1.size)
      clear CC
      rw [← HG.out.2] at by1
      obtain ⟨a1, cap1, e1, -, -⟩ := by1.ex
      subst e1
      generalize (joinD l).length = nl at *
      go_wp2_with fail
      go_ret2
      rw [HG.out.1]
      exact ⟨_, rfl, by1, BE⟩
end Go.Proofs.Ytnddejdndipddad
