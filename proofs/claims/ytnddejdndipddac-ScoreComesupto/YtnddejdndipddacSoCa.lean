/- Plain: what ScoreComes asks: bytes that came and that are on paths are no more than there were; what is left of a part. -/
import Derived.Test.YtnddejdndipddacSoU
set_option maxRecDepth 20000
namespace Go.Proofs.Ytnddejdndipddac
open Go.RowKit

/-- The bytes of those of which f is true. -/
def sumB (f : Sn → Bool) : List Sn → Int
  | [] => 0
  | s :: r => (if f s = true then (s.ck.data.length : Int) else 0) + sumB f r
theorem sumB_pos (f : Sn → Bool) : ∀ l : List Sn, 0 ≤ sumB f l
  | [] => Int.le_refl _
  | s :: r => by
    have := sumB_pos f r
    simp only [sumB]
    split <;> omega
theorem sumB_le {f g : Sn → Bool} : ∀ (l : List Sn), (∀ x ∈ l, f x = true → g x = true) → sumB f l ≤ sumB g l
  | [], _ => Int.le_refl _
  | s :: r, h => by
    have h1 := sumB_le (f := f) (g := g) r fun x hx => h x (by simp [hx])
    have h2 := h s (by simp)
    simp only [sumB]
    by_cases hf : f s = true
    · rw [if_pos hf, if_pos (h2 hf)]; omega
    · rw [if_neg hf]
      split <;> omega
theorem sumB_add {f g h : Sn → Bool} : ∀ (l : List Sn), (∀ x ∈ l, (f x = true → h x = true) ∧ (g x = true → h x = true) ∧ ¬ (f x = true ∧ g x = true)) → sumB f l + sumB g l ≤ sumB h l
  | [], _ => by simp [sumB]
  | s :: r, hh => by
    have h1 := sumB_add (f := f) (g := g) (h := h) r fun x hx => hh x (by simp [hx])
    obtain ⟨a, b, c⟩ := hh s (by simp)
    simp only [sumB]
    by_cases hf : f s = true
    · have hg : ¬ g s = true := fun e => c ⟨hf, e⟩
      rw [if_pos hf, if_neg hg, if_pos (a hf)]; omega
    · rw [if_neg hf]
      by_cases hg : g s = true
      · rw [if_pos hg, if_pos (b hg)]; omega
      · rw [if_neg hg]
        split <;> omega
/-- Flight is this sum, where nothing goes round. -/
theorem fly_sum (p : Int) : ∀ (l : List Sn) (z : Int), 0 ≤ z → z + sumB (fun _ => true) l ≤ 4611686018427387904 → l.foldl (flyS p) z = z + sumB (onM p) l
  | [], z, _, _ => by simp [sumB]
  | s :: r, z, h0, h1 => by
    have hp := sumB_pos (fun _ => true) r
    simp only [sumB, if_true] at h1
    rw [List.foldl_cons]
    by_cases hs : onM p s = true
    · have e : flyS p z s = z + s.ck.data.length := by
        rw [flyS, if_pos hs]
        unfold wrap64
        omega
      rw [e, fly_sum p r _ (by omega) (by omega)]
      simp only [sumB, if_pos hs]
      omega
    · have e : flyS p z s = z := by rw [flyS, if_neg hs]
      rw [e, fly_sum p r _ h0 (by omega)]
      simp only [sumB, if_neg hs]
      omega
theorem flight_sum (p : Int) (l : List Sn) (h : sumB (fun _ => true) l ≤ 4611686018427387904) : flightM p l = sumB (onM p) l := by
  have := fly_sum p l 0 (Int.le_refl _) (by omega)
  unfold flightM
  omega
def cameP (n : Int) (sp : List Sp) (p : Nat) (s : Sn) : Bool := newsM n sp s && s.path == (p : Int)
/-- What came by a path is this sum. -/
theorem come_sum (n : Int) (sp : List Sp) (p : Nat) : ∀ (l : List Sn) (zs : List Int), (∀ z ∈ zs, 0 ≤ z ∧ z + sumB (fun _ => true) l ≤ 4611686018427387904) → p < zs.length → (comeM n sp zs l).getD p 0 = zs.getD p 0 + sumB (cameP n sp p) l
  | [], zs, _, _ => by simp [sumB, comeM]
  | s :: r, zs, h, hp => by
    have hr := sumB_pos (fun _ => true) r
    show (comeM n sp (comeS n sp zs s) r).getD p 0 = _
    have hS : (∀ z ∈ comeS n sp zs s, 0 ≤ z ∧ z + sumB (fun _ => true) r ≤ 4611686018427387904) ∧ p < (comeS n sp zs s).length ∧ (comeS n sp zs s).getD p 0 = zs.getD p 0 + (if cameP n sp p s = true then (s.ck.data.length : Int) else 0) := by
      simp only [sumB, if_true] at h
      by_cases hn : newsM n sp s = true
      · rw [comeS, if_pos hn, addAt]
        by_cases hq : 0 ≤ s.path ∧ s.path < (zs.length : Int)
        · rw [if_pos hq]
          obtain ⟨j, hj⟩ := Int.eq_ofNat_of_zero_le hq.1
          have hjl : j < zs.length := by have := hq.2; omega
          rw [hj, Int.toNat_natCast]
          have hz := h zs[j] (List.getElem_mem hjl)
          have eg : zs.getD j 0 = zs[j] := by rw [List.getD_eq_getElem?_getD, List.getElem?_eq_getElem hjl]; rfl
          have ew : wrap64 (zs.getD j 0 + s.ck.data.length) = zs[j] + s.ck.data.length := by rw [eg]; unfold wrap64; omega
          rw [ew]
          refine ⟨fun z hzm => ?_, by simpa using hp, ?_⟩
          · rcases List.mem_or_eq_of_mem_set hzm with hzm | rfl
            · have := h z hzm; omega
            · omega
          · rw [List.getD_eq_getElem?_getD, List.getD_eq_getElem?_getD, List.getElem?_set]
            by_cases e : j = p
            · subst e
              rw [if_pos rfl, if_pos hjl, List.getElem?_eq_getElem hjl, if_pos (by simp [cameP, hn, hj])]
              rfl
            · rw [if_neg e, if_neg]
              · omega
              · simp only [cameP, hn, hj, Bool.true_and, beq_iff_eq]
                omega
        · rw [if_neg hq]
          refine ⟨fun z hzm => by have := h z hzm; omega, hp, ?_⟩
          rw [if_neg]
          · omega
          · simp only [cameP, hn, Bool.true_and, beq_iff_eq]
            intro e
            exact hq ⟨by omega, by omega⟩
      · rw [comeS, if_neg hn]
        refine ⟨fun z hzm => by have := h z hzm; omega, hp, ?_⟩
        rw [if_neg (by simp [cameP, hn])]
        omega
    rw [come_sum n sp p r _ hS.1 hS.2.1, hS.2.2]
    simp only [sumB]
    omega
def restP (n : Int) (sp : List Sp) (p : Int) (s : Sn) : Bool := onM p s && !newsM n sp s
/-- What is on a path of what is left was on it. -/
theorem out_sum (n : Int) (sp : List Sp) (hi p : Int) : ∀ (l : List Sn), sumB (onM p) ((leftM n (l.map (arrM n sp))).map (missM hi)) ≤ sumB (restP n sp p) l
  | [] => by simp [leftM, sumB]
  | s :: r => by
    have ih := out_sum n sp hi p r
    have ck1 : (missM hi (arrM n sp s)).ck = s.ck := by
      have a3 : (arrM n sp s).ck = s.ck := by unfold arrM Sn.put; split <;> rfl
      rw [← a3]; unfold missM; split <;> rfl
    have on1 : onM p (missM hi (arrM n sp s)) = true → restP n sp p s = true := by
      intro h
      cases hn : newsM n sp s with
      | true =>
        have e1 : arrM n sp s = s.put 2 := by rw [arrM, if_pos hn]
        have e2 : missM hi (s.put 2) = s.put 2 := by rw [missM, if_neg (by simp [missB, Sn.put])]
        rw [e1, e2] at h
        simp [onM, Sn.put] at h
      | false =>
        have e1 : arrM n sp s = s := by rw [arrM, if_neg (by rw [hn]; simp)]
        rw [e1] at h
        have : onM p s = true := by
          unfold missM at h
          split at h
          · next hm =>
            simp only [onM, Bool.and_eq_true, beq_iff_eq] at h
            simp only [missB, Bool.and_eq_true, beq_iff_eq] at hm
            simp [onM, hm.1, h.2]
          · exact h
        simp [restP, this, hn]
    by_cases hl : s.number ≤ n
    · have e : leftM n ((s :: r).map (arrM n sp)) = leftM n (r.map (arrM n sp)) := by simp [leftM, arr_number, hl]
      rw [e]
      simp only [sumB]
      split <;> omega
    · have e : leftM n ((s :: r).map (arrM n sp)) = arrM n sp s :: leftM n (r.map (arrM n sp)) := by simp [leftM, arr_number, hl]
      rw [e, List.map_cons]
      simp only [sumB]
      by_cases ho : onM p (missM hi (arrM n sp s)) = true
      · rw [if_pos ho, if_pos (on1 ho), ck1]; omega
      · rw [if_neg ho]
        split <;> omega
def wasP (p : Int) (s : Sn) : Bool := s.path == p && (s.state == 1 || s.state == 3)
/-- Bytes that came, and bytes that are on a path, are no more than there were. -/
theorem sack_sums {l : List Sn} {cum tag : Int} {sp : List Sp} {paths : Nat} (p : Nat) (hp : p < paths) (h : sumB (fun _ => true) l ≤ 4611686018427387904) :
    0 ≤ (sackF l cum tag sp paths).come.getD p 0 ∧ (sackF l cum tag sp paths).come.getD p 0 + sumB (onM p) (sackF l cum tag sp paths).out ≤ sumB (wasP p) l := by
  unfold sackF
  split
  · show 0 ≤ (List.replicate paths (0 : Int)).getD p 0 ∧ (List.replicate paths (0 : Int)).getD p 0 + sumB (onM p) l ≤ _
    have e : (List.replicate paths (0 : Int)).getD p 0 = 0 := by rw [List.getD_eq_getElem?_getD, List.getElem?_replicate, if_pos hp]; rfl
    rw [e]
    have := sumB_le (f := onM p) (g := wasP p) l fun x _ hx => by
      simp only [onM, Bool.and_eq_true, beq_iff_eq] at hx
      simp [wasP, hx.1, hx.2]
    omega
  · show 0 ≤ (comeM (nearM cum tag) sp (List.replicate paths 0) l).getD p 0 ∧ (comeM (nearM cum tag) sp (List.replicate paths 0) l).getD p 0 + sumB (onM p) ((leftM (nearM cum tag) (l.map (arrM (nearM cum tag) sp))).map (missM (hiM (nearM cum tag) sp (nearM cum tag) l))) ≤ _
    rw [come_sum (nearM cum tag) sp p l _ (fun z hz => by obtain ⟨-, rfl⟩ := List.mem_replicate.1 hz; omega) (by simpa using hp)]
    have e : (List.replicate paths (0 : Int)).getD p 0 = 0 := by rw [List.getD_eq_getElem?_getD, List.getElem?_replicate, if_pos hp]; rfl
    rw [e]
    have h1 := sumB_pos (cameP (nearM cum tag) sp p) l
    have h2 := out_sum (nearM cum tag) sp (hiM (nearM cum tag) sp (nearM cum tag) l) p l
    have h3 := sumB_add (f := cameP (nearM cum tag) sp p) (g := restP (nearM cum tag) sp p) (h := wasP p) l fun x _ => by
      refine ⟨fun hx => ?_, fun hx => ?_, fun hx => ?_⟩
      · simp only [cameP, newsM, waitedM, Bool.and_eq_true, Bool.or_eq_true, beq_iff_eq] at hx
        rcases hx.1.1 with e | e <;> simp [wasP, hx.2, e]
      · simp only [restP, onM, Bool.and_eq_true, beq_iff_eq] at hx
        simp [wasP, hx.1.1, hx.1.2]
      · simp only [cameP, restP, Bool.and_eq_true, Bool.not_eq_true'] at hx
        rw [hx.1.1] at hx
        simp at hx
    omega
/-- What is left of a part. -/
theorem sack_left {l : List Sn} {cum tag : Int} {sp : List Sp} {paths : Nat} (hr : RisesM cum l) {x : Sn} (hx : x ∈ (sackF l cum tag sp paths).out) {s : Sn} (hs : s ∈ l) (he : x.number = s.number) : x.state = s.state ∨ x.state = 2 ∨ (s.state = 1 ∧ x.state = 3) := by
  have uniq : ∀ t ∈ l, t.number = s.number → t = s := by
    intro t ht e
    obtain ⟨i, hi⟩ := List.getElem?_of_mem ht
    obtain ⟨j, hj⟩ := List.getElem?_of_mem hs
    have e1 := hr i t hi
    have e2 := hr j s hj
    have : i = j := by omega
    subst this
    rw [hi] at hj
    simpa using hj
  unfold sackF at hx
  split at hx
  · exact .inl (by rw [uniq x hx he])
  · obtain ⟨z, hz, rfl⟩ := List.mem_map.1 hx
    obtain ⟨t, ht, rfl⟩ := List.mem_map.1 (List.mem_filter.1 hz).1
    rw [miss_number, arr_number] at he
    have := uniq t ht he
    subst this
    generalize nearM cum tag = n at *
    generalize hiM n sp n l = hi at *
    cases hn : newsM n sp t with
    | true =>
      have e1 : arrM n sp t = t.put 2 := by rw [arrM, if_pos hn]
      have e2 : missM hi (t.put 2) = t.put 2 := by rw [missM, if_neg (by simp [missB, Sn.put])]
      rw [e1, e2]
      exact .inr (.inl rfl)
    | false =>
      have e1 : arrM n sp t = t := by rw [arrM, if_neg (by rw [hn]; simp)]
      rw [e1]
      unfold missM
      split
      · next hm =>
        simp only [missB, Bool.and_eq_true, beq_iff_eq] at hm
        show (if _ then (3 : Int) else t.state) = _ ∨ (if _ then (3 : Int) else t.state) = _ ∨ _ ∧ (if _ then (3 : Int) else t.state) = _
        split
        · exact .inr (.inr ⟨hm.1, rfl⟩)
        · exact .inl rfl
      · exact .inl rfl
end Go.Proofs.Ytnddejdndipddac
