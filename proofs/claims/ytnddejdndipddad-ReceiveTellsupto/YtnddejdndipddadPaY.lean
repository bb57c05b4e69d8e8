/- The document's Join. -/
import Derived.Test.YtnddejdndipddadPaX
set_option maxRecDepth 20000
namespace Go.Proofs.Ytnddejdndipddad
open Go.RowKit

theorem dataAt_one {l : List Pc} {f k : Nat} {p : Pc} (h : l[f]? = some p) (hp : p.part = (k : Int)) (hu : ∀ (j : Nat) q, l[j]? = some q → q.part = (k : Int) → j = f) : dataAt l k = p.ck.data := by
  unfold dataAt
  cases hf : l.find? (fun p => decide (p.part = (k : Int))) with
  | none => exact absurd hp (by simpa using List.find?_eq_none.1 hf p (List.mem_of_getElem? h))
  | some x =>
    have hx : x.part = (k : Int) := by simpa using List.find?_some hf
    obtain ⟨j, hj⟩ := List.getElem?_of_mem (List.mem_of_find?_eq_some hf)
    have := hu j x hj hx
    subst this
    rw [h] at hj
    simp only [Option.some.injEq] at hj
    subst hj
    rfl

/-- What is found among the first ones: none, or one. -/
def FoSt (l : List Pc) (k i : Nat) (f : Int) : Prop := (f = -1 ∧ ∀ (j : Nat) q, j < i → l[j]? = some q → q.part ≠ (k : Int)) ∨ ∃ g : Nat, f = (g : Int) ∧ g < i ∧ (∃ q, l[g]? = some q ∧ q.part = (k : Int)) ∧ ∀ (j : Nat) q, j < i → l[j]? = some q → q.part = (k : Int) → j = g

theorem FoSt.skip {l : List Pc} {k i : Nat} {f : Int} (h : FoSt l k i f) (hi : i < l.length) (hne : ¬ l[i].part = (k : Int)) : FoSt l k (i + 1) f := by
  have key : ∀ (j : Nat) q, j < i + 1 → l[j]? = some q → q.part = (k : Int) → j < i := by
    intro j q hj hq hp
    rcases Nat.lt_or_ge j i with h | h
    · exact h
    · have : j = i := by omega
      subst this
      rw [List.getElem?_eq_getElem hi] at hq
      simp only [Option.some.injEq] at hq
      subst hq
      exact absurd hp hne
  rcases h with ⟨h1, h2⟩ | ⟨g, h1, h2, h3, h4⟩
  · exact .inl ⟨h1, fun j q hj hq hp => h2 j q (key j q hj hq hp) hq hp⟩
  · exact .inr ⟨g, h1, by omega, h3, fun j q hj hq hp => h4 j q (key j q hj hq hp) hq hp⟩
theorem FoSt.hit {l : List Pc} {k i : Nat} (h : FoSt l k i (-1)) (hi : i < l.length) (he : l[i].part = (k : Int)) : FoSt l k (i + 1) (i : Int) := by
  rcases h with ⟨_, h2⟩ | ⟨g, h1, _⟩
  · refine .inr ⟨i, rfl, by omega, ⟨l[i], List.getElem?_eq_getElem hi, he⟩, fun j q hj hq hp => ?_⟩
    rcases Nat.lt_or_ge j i with h | h
    · exact absurd hp (h2 j q h hq)
    · omega
  · omega
theorem FoSt.twice {l : List Pc} {k i g : Nat} (h : FoSt l k i (g : Int)) (hi : i < l.length) (hk : k < l.length) (he : l[i].part = (k : Int)) : ¬ goodN l.length l := by
  rcases h with ⟨h1, _⟩ | ⟨g', h1, h2, ⟨q, h3, h4⟩, _⟩
  · omega
  · intro g0
    obtain ⟨i0, p, u1, u2, u3, u4⟩ := uniq_of_good g0 k hk
    have e1 := u4 g' q h3 h4
    have e2 := u4 i l[i] (List.getElem?_eq_getElem hi) he
    omega
theorem FoSt.none {l : List Pc} {k : Nat} (h : FoSt l k l.length (-1)) (hk : k < l.length) : ¬ goodN l.length l := by
  rcases h with ⟨_, h2⟩ | ⟨g', h1, _⟩
  · intro g0
    obtain ⟨i0, p, u1, u2, u3, u4⟩ := uniq_of_good g0 k hk
    exact h2 i0 p (List.getElem?_eq_some_iff.1 u1).1 u1 u2
  · omega
theorem FoSt.one {l : List Pc} {k g : Nat} (h : FoSt l k l.length (g : Int)) : g < l.length ∧ (∀ hg : g < l.length, l[g].part = (k : Int) ∧ dataAt l k = l[g].ck.data ∧ (l[g].ck.last = decide ((k : Int) = (l.length : Int) - 1) → uniq l k) ∧ (l[g].ck.last ≠ decide ((k : Int) = (l.length : Int) - 1) → k < l.length → ¬ goodN l.length l)) := by
  rcases h with ⟨h1, _⟩ | ⟨g', h1, h2, ⟨q, h3, h4⟩, h5⟩
  · omega
  · have : g' = g := by omega
    subst this
    refine ⟨h2, fun hg => ?_⟩
    rw [List.getElem?_eq_getElem hg] at h3
    simp only [Option.some.injEq] at h3
    subst h3
    have hu : ∀ (j : Nat) q, l[j]? = some q → q.part = (k : Int) → j = g' := fun j q hj hq => h5 j q (List.getElem?_eq_some_iff.1 hj).1 hj hq
    refine ⟨h4, dataAt_one (List.getElem?_eq_getElem hg) h4 hu, fun hl => ⟨g', _, List.getElem?_eq_getElem hg, h4, hl, hu⟩, fun hl hk g0 => ?_⟩
    obtain ⟨i0, p, u1, u2, u3, u4⟩ := uniq_of_good g0 k hk
    have e := hu i0 p u1 u2
    subst e
    rw [List.getElem?_eq_getElem hg] at u1
    simp only [Option.some.injEq] at u1
    subst u1
    exact hl u3

/-- The bytes so far. -/
structure RjSt (w : World) (l : List Pc) (k nb : Nat) (o : Value) (wr : World) : Prop where
  own : wr.ownsRow w.heap.size 5 1 o nb (cellsB ((List.range k).map (dataAt l)).flatten)
  len : nb = ((List.range k).map (dataAt l)).flatten.length
  isB : IsB ((List.range k).map (dataAt l)).flatten
  bel : Below w.heap.size w wr
  un : ∀ i, i < k → uniq l i

theorem RjSt.below {w wr w1 : World} {l : List Pc} {k nb : Nat} {o : Value} (h : RjSt w l k nb o wr) (b : Below wr.heap.size wr w1) : RjSt w l k nb o w1 :=
  ⟨own_of_block h.own fun k hk => b.block k (h.own.lt k hk).2, h.len, h.isB, h.bel.trans (b.mono h.bel.size), h.un⟩
theorem range_snoc (l : List Pc) (k : Nat) : ((List.range (k + 1)).map (dataAt l)).flatten = ((List.range k).map (dataAt l)).flatten ++ dataAt l k := by
  rw [List.range_succ, List.map_append, List.flatten_append, List.map_cons, List.map_nil, List.flatten_cons, List.flatten_nil, List.append_nil]
theorem RjSt.step {w wr w1 : World} {l : List Pc} {k nb : Nat} {o o' : Value} (h : RjSt w l k nb o wr) (hu : uniq l k) (hB : IsB (dataAt l k)) (ho : w1.ownsRow w.heap.size 5 1 o' (nb + (dataAt l k).length) (cellsB ((List.range k).map (dataAt l)).flatten ++ cellsB (dataAt l k))) (hg : wr.grownBy w1 o.ownBlock) :
    RjSt w l (k + 1) (nb + (dataAt l k).length) o' w1 := by
  refine ⟨by rw [range_snoc, cellsB_append]; exact ho, by rw [range_snoc, List.length_append, h.len], by rw [range_snoc]; exact h.isB.append hB, h.bel.grown hg h.bel.size fun k hk => (h.own.lt k hk).1, fun i hi => ?_⟩
  rcases Nat.lt_or_ge i k with h' | h'
  · exact h.un i h'
  · have : i = k := by omega
    subst this
    exact hu
end Go.Proofs.Ytnddejdndipddad

/- The document's Join: the walk. -/
set_option maxRecDepth 20000
namespace Go.Proofs.Ytnddejdndipddad
open Go.RowKit

set_option maxHeartbeats 2000000 in
theorem rjoin_in (v : Value) (l : List Pc) (w : World) (hv : PcS w.heap.size w v l) (hl : l.length ≤ 1048576) (hd : ∀ p ∈ l, p.ck.data.length ≤ 1048576) :
    Calls Try.prog 81 #[v] w fun e w' => ∃ v', e = .returned (.tuple #[v', .bool (joinB l)]) ∧ By w'.heap.size w' v' (joinD l) ∧ Below w.heap.size w w' ∧ InS (fun k => w.heap.size ≤ k) v' := by
  have HV := hv
  obtain ⟨a, cap, rfl, h1, h2⟩ := hv.ex
  have HL : ∀ k, k ≤ l.length → Hid (((List.range k).map (dataAt l)).flatten.length ≤ 1099511627776) := by
    intro k hk
    have := join_len hd k
    have h3 : k * 1048576 ≤ 1048576 * 1048576 := Nat.mul_le_mul_right _ (by omega)
    show _ ≤ _
    omega
  have END : ∀ (wx : World), Below w.heap.size w wx → ¬ goodN l.length l → ∃ v', Ending.returned (.tuple #[.slice none 0 0, .bool false]) = Ending.returned (.tuple #[v', .bool (joinB l)]) ∧ By wx.heap.size wx v' (joinD l) ∧ Below w.heap.size w wx ∧ InS (fun k => w.heap.size ≤ k) v' := fun wx b h => by
    obtain ⟨e1, e2⟩ := join_bad h
    rw [e1, e2]
    exact ⟨_, rfl, By.nil _ _, b, fun b off sp n c e _ => by simp at e⟩
  go_enter Try.func81, Try.ntmps81
  go_wp2_with fail
  go_loopw [4, 11] (fun o i wr => ∃ (k nb : Nat) (ab : Option Addr) (cb : Nat), k ≤ l.length ∧ i = .int .i64 k ∧ o = .slice ab nb cb ∧ RjSt w l k nb (.slice ab nb cb) wr) (fun _ i _ => l.length - (intOf i).toNat)
  case atStart => exact ⟨0, 0, none, 0, Nat.zero_le _, rfl, rfl, ⟨⟨by simp [cellsB], .inl ⟨rfl, rfl⟩⟩, by simp, fun z hz => by simp at hz, Below.refl _ _, fun i hi => by omega⟩⟩
  case round =>
    obtain ⟨k, nb, ab, cb, hk, rfl, rfl, RS⟩ := hrel
    by_cases hlt : k < l.length
    · go_wp2_with fail
      go_loopw [6, 16] (fun f i wq => ∃ (j : Nat) (g : Int), j ≤ l.length ∧ i = .int .i64 j ∧ f = .int .i64 g ∧ -1 ≤ g ∧ g < l.length ∧ FoSt l k j g ∧ Below wr.heap.size wr wq) (fun _ i _ => l.length - (intOf i).toNat)
      case atStart => exact ⟨0, -1, Nat.zero_le _, rfl, rfl, by omega, by omega, .inl ⟨rfl, fun j q hj => by omega⟩, Below.refl _ _⟩
      case round =>
        obtain ⟨j, g, hj, rfl, rfl, hg1, hg2, FS, BQ⟩ := hrel
        have BW := RS.bel.trans (BQ.mono RS.bel.size)
        by_cases hjl : j < l.length
        · obtain ⟨b, off, _, _, _, hbb, hix, -, ⟨ad, nd, cd, rfl⟩, ⟨as', ns, cs, rfl⟩, ⟨ak, nk, ck, rfl⟩, x0, x1, x2, x3, x4, x5, x6, x7, x8, x9, x10, x11⟩ := PcS.at (SlG.below PcV.bears HV BW (Nat.le_refl _)) j hjl
          have HB := fun o => BQ.alloc BQ.size o
          have HW := fun o => BW.alloc BW.size o
          cases hp : (l[j].ck.part == (k : Int)) with
          | false =>
            have F1 := FS.skip hjl (by show ¬ l[j].ck.part = (k : Int); simpa using hp)
            clear FS HW
            go_wp2_with fail
            go_roundw
            case rel => exact ⟨j + 1, g, by omega, by go_num, rfl, hg1, hg2, F1, HB _⟩
            case measure => simp [intOf]; omega
          | true =>
            have hpe : l[j].part = (k : Int) := by show l[j].ck.part = (k : Int); simpa using hp
            by_cases hg0 : 0 ≤ g
            · obtain ⟨g', rfl⟩ := Int.eq_ofNat_of_zero_le hg0
              have HN : Hid (¬ goodN l.length l) := FS.twice hjl hlt hpe
              clear hpe FS HB
              go_wp2_with fail
              go_ret2
              exact END _ (HW _) HN.out
            · obtain rfl : g = -1 := by omega
              have F1 := FS.hit hjl hpe
              clear hpe FS HW
              go_wp2_with fail
              go_roundw
              case rel => exact ⟨j + 1, j, by omega, by go_num, rfl, by omega, by omega, F1, HB _⟩
              case measure => simp [intOf]; omega
        · have hje : j = l.length := by omega
          subst hje
          by_cases hg0 : 0 ≤ g
          · obtain ⟨f, rfl⟩ := Int.eq_ofNat_of_zero_le hg0
            obtain ⟨hf, FO⟩ := FS.one
            obtain ⟨o1, o2, o3, o4⟩ := FO hf
            have R1 := RS.below BQ
            obtain ⟨b, off, _, _, _, hbb, hix, hcv, ⟨ad, nd, cd, rfl⟩, ⟨as', ns, cs, rfl⟩, ⟨ak, nk, ck, rfl⟩, x0, x1, x2, x3, x4, x5, x6, x7, x8, x9, x10, x11⟩ := PcS.at (SlG.below PcV.bears HV BW (Nat.le_refl _)) f hf
            have hby : By w.heap.size wr (.slice ad nd cd) (dataAt l k) := by
              obtain ⟨d, s, k, e, g, -⟩ := hcv
              simp only [pcVal, Value.agg.injEq, Array.mk.injEq, List.cons.injEq, true_and, and_true] at e
              obtain ⟨rfl, -⟩ := e
              rw [o2]
              exact g
            have hnd : nd = (dataAt l k).length := hby.1.len.1
            have e6 : decide ((k : Int) = (l.length : Int) - 1) = ((k : Int) == (l.length : Int) - 1) := by rw [Bool.eq_iff_iff]; simp
            rw [e6] at o3 o4
            clear hcv o1 o2 FS FO e6
            generalize l[f].ck.last = last at *
            by_cases hla : last = ((k : Int) == (l.length : Int) - 1)
            · have U := o3 hla
              have hln : nb + (dataAt l k).length ≤ 1099511627776 := by
                have := (HL (k + 1) (by omega)).out
                rw [range_snoc, List.length_append, ← RS.len] at this
                exact this
              have ST := fun v' w' => R1.step (o' := v') (w1 := w') U hby.2
              have O2 := R1.own
              have hbs : w.heap.size ≤ wr.heap.size := BW.size
              have hBy := hby.1
              clear o3 o4 R1 RS U hby
              subst hnd
              have hcf : ((!last == ((k : Int) == (l.length : Int) - 1))) = false := by rw [hla]; cases ((k : Int) == (l.length : Int) - 1) <;> rfl
              clear hla
              generalize (dataAt l k).length = dl at *
              go_wp2_with (at_builtin; refine wpList_append_rw Try.underlying38 Try.info5 rfl (by decide) _ rfl (.tmp 46) (.tmp 52) rfl w.heap.size (.slice ab nb cb) nb (cellsB ((List.range k).map (dataAt l)).flatten) rfl O2 _ dl (cellsB (dataAt l k)) _ rfl hBy (cellsB_one _) (by unfold maxLen; omega) (by omega) hbs ?_; intro v3 w3 own3 grow3 at3; have P3 := ST v3 w3 own3 grow3; obtain ⟨a3, cap3, rfl⟩ := own_form own3; clear own3 grow3 at3)
              go_roundw
              case rel => exact ⟨k + 1, nb + dl, a3, cap3, by omega, by go_num, rfl, P3⟩
              case measure => simp [intOf]; omega
            · have HN : Hid (¬ goodN l.length l) := o4 hla hlt
              clear o3 o4 R1 RS hby hnd
              have hcf : ((!last == ((k : Int) == (l.length : Int) - 1))) = true := by
                revert hla
                cases last <;> cases ((k : Int) == (l.length : Int) - 1) <;> simp
              clear hla
              go_wp2_with fail
              go_ret2
              exact END _ BW HN.out
          · obtain rfl : g = -1 := by omega
            have HN : Hid (¬ goodN l.length l) := FS.none hlt
            clear FS
            go_wp2_with fail
            go_ret2
            exact END _ BW HN.out
    · have hke : k = l.length := by omega
      subst hke
      have HG : Hid (joinB l = decide (0 < l.length) ∧ joinD l = ((List.range l.length).map (dataAt l)).flatten) := join_good (good_of_uniq RS.un)
      have by1 : By wr.heap.size wr (.slice ab nb cb) (joinD l) := by
        have o1 := RS.own
        have o2 := RS.len
        have o3 := RS.isB
        rw [← HG.out.2] at o1 o2 o3
        subst o2
        exact ⟨Rw.own o1 (by rw [cellsB_length, Nat.mul_one]), o3⟩
      have BE := RS.bel
      have IE : InS (fun k => w.heap.size ≤ k) (Value.slice ab nb cb) := (InS.own RS.own).mono fun k hk => hk.1
      clear RS
      go_wp2_with fail
      go_ret2
      rw [HG.out.1]
      exact ⟨_, rfl, by1, BE, IE⟩
theorem rjoin_any (v : Value) (l : List Pc) (w : World) (hv : PcS w.heap.size w v l) (hl : l.length ≤ 1048576) (hd : ∀ p ∈ l, p.ck.data.length ≤ 1048576) :
    Calls Try.prog 81 #[v] w fun e w' => ∃ v', e = .returned (.tuple #[v', .bool (joinB l)]) ∧ By w'.heap.size w' v' (joinD l) ∧ Below w.heap.size w w' :=
  (rjoin_in v l w hv hl hd).mono fun _ _ ⟨v', h1, h2, h3, _⟩ => ⟨v', h1, h2, h3⟩
end Go.Proofs.Ytnddejdndipddad
