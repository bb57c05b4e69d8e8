/- Strings, their bytes, slices of strings that came in; rows of chunks that grow. -/
import Derived.Test.YtnddejdndipddadRcZ
import Derived.Test.YtnddejdndipddadRoB
import Derived.Test.YtnddejdndipddadRcY
import Derived.Laws.IdiomStrings
import Derived.Deep.RegionLawGrows
import Derived.Deep.MidRow
set_option maxRecDepth 20000
namespace Go.Proofs.Ytnddejdndipddad
open Go.RowKit

/-- A string's bytes, as numbers. -/
def nb (s : ByteArray) : List Int := s.data.toList.map fun b => (b.toNat : Int)
theorem nb_len (s : ByteArray) : (nb s).length = s.size := by simp [nb]
theorem nb_isB (s : ByteArray) : IsB (nb s) := fun z hz => by
  obtain ⟨b, -, rfl⟩ := List.mem_map.1 hz
  have := b.toNat_lt
  omega
theorem nb_str (s : ByteArray) : strOfNums (nb s) = s := by
  apply ByteArray.ext
  apply Array.ext'
  rw [strOfNums_data, nb, List.map_map]
  conv => rhs; rw [← List.map_id s.data.toList]
  congr 1
  funext b
  simp
theorem nb_extract (s : ByteArray) (i j : Nat) : nb (s.extract i j) = ((nb s).drop i).take (j - i) := by
  simp [nb, ByteArray.data_extract, List.extract_eq_take_drop, List.map_take, List.map_drop]
/-- Bytes out of a string. -/
theorem By.of_string (w : World) (s : ByteArray) (m : Nat × Nat) (hs : s.size ≤ 1048576) : By (w.heap.size + 1) (w.drew.alloc (.cells (bytesRow s (grownCap w s.size 0 5)) 5 m)) (.slice (some ⟨w.heap.size, 0, none⟩) s.size (grownCap w s.size 0 5)) (nb s) := by
  have h1 := grownCap_ge w s.size 0 5
  have h2 := grownCap_le_maxLen w s.size 0 5 (by unfold maxLen; omega)
  unfold maxLen at h2
  refine ⟨⟨by simp [cellsB], some ⟨w.heap.size, 0, none⟩, _, by rw [nb_len], by rw [nb_len]; exact h1, by omega, fun h => by simp at h, fun _ => ⟨w.heap.size, 0, rfl, by omega, fun j u hu => ?_⟩⟩, nb_isB s⟩
  have hj : j < s.data.size := by
    have := (List.getElem?_eq_some_iff.1 hu).1
    simpa [cellsB, nb] using this
  rw [Nat.zero_add]
  have e : (w.drew.alloc (.cells (bytesRow s (grownCap w s.size 0 5)) 5 m)).cell? ⟨w.drew.heap.size, j, none⟩ = (bytesRow s (grownCap w s.size 0 5))[j]? := World.cell?_alloc_mark _ _ _ _ _
  rw [show w.heap.size = w.drew.heap.size from rfl, e, bytesRow_at s _ j hj, ← hu]
  simp only [cellsB, nb, List.map_map, List.getElem?_map, Array.getElem?_toList]
  rw [Array.getElem?_eq_getElem hj]
  rfl

/-- A string. -/
def StV (_ : Nat) (_ : World) (v : Value) (s : ByteArray) : Prop := v = .string s
theorem StV.bears : Bears 1 StV where
  cells := by rintro B w v x rfl; rfl
  below := by rintro B B' w w' v x rfl _ _; rfl
  mono := by rintro B B' w v x rfl _; rfl
abbrev StrS (B : Nat) (w : World) (v : Value) (l : List ByteArray) : Prop := SlG 1 StV B w v l
theorem StrS.at {B : Nat} {w : World} {a : Option Addr} {n cap : Nat} {l : List ByteArray} (h : StrS B w (.slice a n cap) l) (k : Nat) (hk : k < l.length) :
    ∃ b off, b < B ∧ (∀ wx, (Instr.indexAt 61 (.slice a n cap) (.int .i64 (k : Int))).run Try.prog wx = .ok (.pointer (some ⟨b, off, none⟩)) wx) ∧ w.cell? ⟨b, off, none⟩ = some (.string l[k]) := by
  obtain ⟨b, off, v, hb, rfl, rfl, rfl, e⟩ := SlG.at StV.bears h k hk
  refine ⟨b, off + k * 1, hb, fun wx => ?_, e 0 _ (by omega) rfl⟩
  have : (k : Int) < l.length := by omega
  go_simp
section
open Go.ChangeShapes Go.WideShapes Go.ChangeAt
variable {H : Type} {enc : TypeId × Value → H} {w : World} {held : Bool}
theorem strings_in {x : DataW H × List MemPlace} {fuel : Nat} {cs : List Value} (h : DataW.trod enc Try.prog w 0 (fun _ => true) held fuel 61 cs = some x) :
    ∃ v l, cs = [v] ∧ StrS w.heap.size w v l ∧ ∀ es sp, x.1 = .slice es sp → l.length ≤ es.length := by
  obtain ⟨v, l, e, hs, -, hq⟩ := things_in (Q := fun _ _ => True) StV.bears Try.underlying61 (show Try.prog.cellsOf 9 = 1 by kernel_rfl) (by decide) (fun ht => by
    obtain ⟨s, hc, -, -⟩ := DataW.trod_string Try.underlying9 ht
    exact ⟨.string s, s, hc, rfl, trivial⟩) h
  exact ⟨v, l, e, hs, fun es sp he => (hq es sp he).1⟩
end

/-- A chunk whose lists lie in blocks of S. -/
def CcI (S : Nat → Prop) (w : World) (v : Value) (c : Ck) : Prop := ∃ d s k, v = ckVal c d s k ∧ SnL S w c d s k
theorem CcI.holds : Holds 11 CcI where
  cells := by rintro S w v x ⟨d, s, k, rfl, h⟩; rfl
  one := by
    rintro S w v x ⟨d, s, k, rfl, h⟩ u hu
    obtain ⟨da, dc, sa, sc, qa, qc, rfl, rfl, rfl⟩ := h.ex
    exact List.all_eq_true.1 rfl u hu
  keep := by rintro S w w' v x ⟨d, s, k, rfl, h⟩ kp; exact ⟨d, s, k, rfl, h.keep kp⟩
  mono := by rintro S S' w v x ⟨d, s, k, rfl, h⟩ hs; exact ⟨d, s, k, rfl, h.mono hs⟩
theorem CcI.v {S : Nat → Prop} {w : World} {v : Value} {c : Ck} (h : CcI S w v c) : CkV w.heap.size w v c := by
  obtain ⟨d, s, k, rfl, h⟩ := h
  exact ⟨d, s, k, rfl, h.d, h.s, h.q⟩
/-- A row of chunks of the call's own; their lists lie in other blocks of its own. -/
def CkSet (base : Nat) (w : World) (v : Value) (k : Nat) : Prop := base ≤ k ∧ k < w.heap.size ∧ v.ownBlock ≠ some k
abbrev CkRow (base : Nat) (w : World) (v : Value) (l : List Ck) : Prop := GRow 42 11 CcI (CkSet base w v) base w v l
theorem Try.infoCk : (Try.prog.info? 42).map (fun i => (i.zero, i.size, i.bytes)) = some (some (.agg #[.int .i64 0, .int .i64 0, .int .i64 0, .int .i64 0, .int .i64 0, .bool false, .bool false, .slice none 0 0, .slice none 0 0, .int .i64 0, .slice none 0 0]), 11, 128) := by kernel_rfl
theorem CkRow.below {base : Nat} {w w' : World} {v : Value} {l : List Ck} (h : CkRow base w v l) (hb : Below w.heap.size w w') : CkRow base w' v l :=
  (GRow.keep CcI.holds h (toKeep hb fun _ hk => hk.2.1) fun k hk => hb.block k (h.lt hk).2).mono CcI.holds fun _ hk => ⟨hk.1, Nat.lt_of_lt_of_le hk.2.1 hb.size, hk.2.2⟩
/-- As it is read. -/
theorem CkRow.s {base : Nat} {w : World} {v : Value} {l : List Ck} (h : CkRow base w v l) : CksS w.heap.size w v l := by
  obtain ⟨vs, h1, h2⟩ := h
  exact ⟨vs, h1.imp fun _ _ h => h.v, Rw.own h2 (all2_flatH CcI.holds h1).1⟩
/-- One more chunk, appended in a region that draws. -/
theorem CkRow.app {base : Nat} {w w' : World} {o : Obj} {v v' : Value} {vs : List Value} {l : List Ck} {c : Ck} {d s k : Value} (hA : All2 (CcI (CkSet base w v) w) vs l) (hc : SnL (CkSet base w v) w c d s k)
    (own : w'.ownsRow base 42 11 v' (l.length + 1) (flatV vs ++ (ckVal c d s k).cells.toList)) (g : (w.alloc o).grownBy w' v.ownBlock) (ha : v'.ownBlock = v.ownBlock ∨ v'.ownBlock = some (w.alloc o).heap.size) : CkRow base w' v' (l ++ [c]) ∧ Keep (fun k => k < w.heap.size ∧ v.ownBlock ≠ some k) w w' := by
  obtain ⟨g1, g2, g3⟩ := GRow.grown CcI.holds (e := 42) (base := base) hA (u := ckVal c d s k) (x := c) ⟨d, s, k, rfl, hc⟩ (fun _ hk => ⟨hk.2.1, hk.2.2⟩) own g ha
  refine ⟨g1.mono CcI.holds fun k hk => ⟨hk.1, Nat.lt_of_lt_of_le hk.2.1 g2.size, fun e => ?_⟩, g2⟩
  rcases g3 with g3 | ⟨j, g3, hj⟩
  · exact hk.2.2 (g3 ▸ e)
  · rw [g3] at e
    simp at e
    have := hk.2.1
    omega
/-- Two turned: all of them still. -/
theorem swap_perm' {α : Type} {l : List α} {i j : Nat} (hi : i < l.length) (hj : j < l.length) : l.Perm ((l.set i l[j]).set j l[i]) := by
  have h := Array.swap_perm (xs := l.toArray) (i := i) (j := j) (by simpa using hi) (by simpa using hj)
  have e : (l.toArray.swap i j (by simpa using hi) (by simpa using hj)).toList = (l.set i l[j]).set j l[i] := by simp [Array.swap]
  have h2 := Array.perm_iff_toList_perm.1 h
  rw [e] at h2
  exact h2.symm
theorem step_load_mid {ops : Array Oper} {o : Oper} {a : Act} {w : World} {K : Act → World → Prop} {Q : Exit → Act → World → Prop} {E : Prop} (hg : o.guard = none) (ty : TypeId) (x : Operand) (hop : o.op = .load ty x) (p : Value) (hx : a.eval x = p) (v : Value)
    (hr : (Instr.loadAt ty p).run Try.prog w = .ok v w) (hK : K (a.put o.dst v) w) : if Region.wanted o (yielded ops a.tmps) = true then Oper.wp Try.prog o a w K Q else E := by
  have hw : Region.wanted o (yielded ops a.tmps) = true := by simp [Region.wanted, hg]
  rw [if_pos hw]
  unfold Oper.wp
  simp only [execOp, hop, hx, hr, Sem.run_bind, Sem.run_pure, Result.andThen_ok]
  exact hK
theorem step_store_mid {ops : Array Oper} {o : Oper} {a : Act} {w w' : World} {K : Act → World → Prop} {Q : Exit → Act → World → Prop} {E : Prop} (hg : o.guard = none) (ty : TypeId) (x y : Operand) (hop : o.op = .store ty x y) (p v : Value) (hx : a.eval x = p) (hy : a.eval y = v)
    (hr : (Instr.storeAt ty p v).run Try.prog w = .ok () w') (hK : K (a.put o.dst undef) w') : if Region.wanted o (yielded ops a.tmps) = true then Oper.wp Try.prog o a w K Q else E := by
  have hw : Region.wanted o (yielded ops a.tmps) = true := by simp [Region.wanted, hg]
  rw [if_pos hw]
  unfold Oper.wp
  simp only [execOp, hop, hx, hy, hr, Sem.run_bind, Sem.run_pure, Result.andThen_ok]
  exact hK
theorem run_ck_at (O n c i : Nat) (h : i < n) (wx : World) : (Instr.indexAt 37 (.slice (some ⟨O, 0, none⟩) n c) (.int .i64 (i : Int))).run Try.prog wx = .ok (.pointer (some ⟨O, i * 11, none⟩)) wx := by
  have : (i : Int) < n := by omega
  go_simp
theorem rowCk : ∃ d, Try.prog.underlying 42 = some d ∧ d.isRow = true := ⟨_, Try.underlying42, rfl⟩
theorem CkRow.drewn {base : Nat} {w : World} {v : Value} {l : List Ck} (h : CkRow base w v l) : CkRow base w.drew v l := h.below (below_drew' (Below.refl _ _))
/-- Two chunks of the row, turned. -/
theorem CkRow.swap {base : Nat} {w : World} {g n cap : Nat} {l : List Ck} (h : CkRow base w (.slice (some ⟨g, 0, none⟩) n cap) l) {i j : Nat} (hi : i < l.length) (hj : j < l.length) :
    ∃ ci cj : Array Value, w.rangeAt g (i * 11) ci.toList ∧ w.rangeAt g (j * 11) cj.toList ∧ ci.size = 11 ∧ cj.size = 11 ∧ ci.all (·.oneCell') = true ∧ cj.all (·.oneCell') = true ∧ w.there g (i * 11) 11 ∧ (w.setCells g (i * 11) cj.toList).there g (j * 11) 11 ∧ base ≤ g ∧ g < w.heap.size ∧
      CkRow base ((w.setCells g (i * 11) cj.toList).setCells g (j * 11) ci.toList) (.slice (some ⟨g, 0, none⟩) n cap) ((l.set i l[j]).set j l[i]) := by
  obtain ⟨g1, c1, ui, e1, hb, hg, -, -, hui, ri, -⟩ := GRow.at CcI.holds h i hi
  simp only [Value.slice.injEq, Option.some.injEq, Addr.mk.injEq, and_true] at e1
  obtain ⟨rfl, rfl, rfl⟩ := e1
  obtain ⟨g2, c2, uj, e2, -, -, -, -, huj, rj, -⟩ := GRow.at CcI.holds h j hj
  simp only [Value.slice.injEq, Option.some.injEq, Addr.mk.injEq, and_true] at e2
  obtain ⟨rfl, -, rfl⟩ := e2
  have ng : ¬ CkSet base w (.slice (some ⟨g, 0, none⟩) l.length cap) g := fun hs => hs.2.2 rfl
  have li := CcI.holds.cells hui
  have lj := CcI.holds.cells huj
  have h1 := GRow.set CcI.holds h ng i hi huj
  have kp : Keep (CkSet base w (.slice (some ⟨g, 0, none⟩) l.length cap)) w (w.setCells g (i * 11) uj.cells.toList) := Keep.setCells ng _ _ (Keep.refl _ _)
  have h2 := GRow.set CcI.holds h1 ng j (by rw [List.length_set]; exact hj) (CcI.holds.keep hui kp)
  have th1 := GRow.there CcI.holds h i hi
  have th2 := GRow.there CcI.holds h1 j (by rw [List.length_set]; exact hj)
  have sz : ((w.setCells g (i * 11) uj.cells.toList).setCells g (j * 11) ui.cells.toList).heap.size = w.heap.size := by rw [size_setCells, size_setCells]
  refine ⟨ui.cells, uj.cells, ri, rj, by simpa using li, by simpa using lj, ?_, ?_, th1, th2, hb, hg, h2.mono CcI.holds fun k hk => ⟨hk.1, by rw [sz]; exact hk.2.1, hk.2.2⟩⟩
  · rw [← Array.all_toList]; exact List.all_eq_true.2 (CcI.holds.one hui)
  · rw [← Array.all_toList]; exact List.all_eq_true.2 (CcI.holds.one huj)
end Go.Proofs.Ytnddejdndipddad
