/- Plain: at first nothing has come; which message stands where in the log. -/
import Derived.Test.YtnddejdndipddadRoB
set_option maxRecDepth 20000
namespace Go.Proofs.Ytnddejdndipddad

def cfOrd : Cf := ⟨2, 4, 60, 1, 1, 5, 7⟩
theorem InvO.start {cs : List Ck} {cnt : Int → Int} {dat : Int → Int → List Int} (hs : SentO cs cnt dat) : InvO cs cnt dat [] cs (newM cfOrd) ∧ ∀ s, two s → StopO cnt [] (newM cfOrd) s := by
  have ht : ∀ s, two s → turnAt (newM cfOrd) s = 0 := fun s h => by
    rcases h with rfl | rfl <;> rfl
  refine ⟨⟨rfl, new_inv _, rfl, rfl, fun s h => ?_, fun c hc => ?_, fun s h => ?_, fun q hq => by simp [newM] at hq, fun n h7 => ?_, ?_, ?_⟩, fun s h _ => ?_⟩
  · rw [ht s h]; exact ⟨Int.le_refl _, (hs.cn s h).1⟩
  · obtain ⟨-, -, h2, h3, -⟩ := hs.kind c hc
    rw [ht _ h2]; exact h3
  · rw [ht s h]; rfl
  · constructor
    · rintro (h | h)
      · have : n ≤ 6 := h
        omega
      · simp [newM, inM] at h
    · intro h
      simp at h
  · show (6 : Int) ≤ 7 - 1; omega
  · show (7 : Int) - 1 ≤ _; omega
  · exact join_nil
theorem filt_at {α : Type} (p : α → Bool) (l : List α) (j : Nat) (hj : j < l.length) (hp : p l[j] = true) : (l.filter p)[((l.take j).filter p).length]? = some l[j] := by
  have e : l = l.take j ++ l[j] :: l.drop (j + 1) := by rw [← List.drop_eq_getElem_cons hj, List.take_append_drop]
  have e2 : l.filter p = (l.take j).filter p ++ l[j] :: (l.drop (j + 1)).filter p := by
    conv => lhs; rw [e]
    rw [List.filter_append, List.filter_cons, if_pos hp]
  rw [e2, List.getElem?_append_right (Nat.le_refl _), Nat.sub_self]
  rfl
theorem filt_snoc {α : Type} (p : α → Bool) (l : List α) (j : Nat) (hj : j < l.length) : ((l.take (j + 1)).filter p).length = ((l.take j).filter p).length + if p l[j] = true then 1 else 0 := by
  rw [List.take_succ_eq_append_getElem hj, List.filter_append, List.length_append, List.filter_cons]
  split <;> simp
/-- So many messages of that stream stand ahead of place j. -/
def cntL (l : List Av) (j : Nat) (s : Int) : Nat := ((l.take j).filter fun q => q.stream == s).length
theorem cntL_snoc (l : List Av) (j : Nat) (hj : j < l.length) (s : Int) : cntL l (j + 1) s = cntL l j s + if l[j].stream = s then 1 else 0 := by
  unfold cntL
  rw [filt_snoc _ l j hj]
  simp
/-- What stands at place j. -/
theorem InvO.at {cs got : List Ck} {dat : Int → Int → List Int} {n : Nat} {x : Rc} (h : InvO cs (cntO n) dat got [] x) (ht : ∀ s, two s → turnAt x s = cntO n s) (j : Nat) (hj : j < x.log.length) : two x.log[j].stream ∧ 2 * cntL x.log j x.log[j].stream + x.log[j].stream < n ∧ x.log[j].data = dat x.log[j].stream (cntL x.log j x.log[j].stream) := by
  have h2 := h.logs _ (List.getElem_mem hj)
  have e := filt_at (fun q => q.stream == x.log[j].stream) x.log j hj (by simp)
  rw [h.log _ h2, ht _ h2] at e
  have hi := (List.getElem?_eq_some_iff.1 e).1
  simp only [List.length_map, List.length_range] at hi
  have hi' : cntL x.log j x.log[j].stream < (cntO n x.log[j].stream).toNat := hi
  rw [List.getElem?_map, List.getElem?_range hi] at e
  simp only [Option.map_some, Option.some.injEq] at e
  have e2 := congrArg Av.data e
  refine ⟨h2, ?_, e2.symm⟩
  unfold cntO at hi'
  rcases h2 with h2 | h2 <;> rw [h2] at hi' ⊢ <;> omega
end Go.Proofs.Ytnddejdndipddad
