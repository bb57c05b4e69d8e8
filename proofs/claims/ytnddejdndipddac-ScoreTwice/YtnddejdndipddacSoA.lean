/- What has come of what was handed on: plain functions, and what is true of them. -/
import Derived.Test.YtnddejdndipddacLC
import Derived.Test.YtnddejdndipddacGI
set_option maxRecDepth 20000
namespace Go.Proofs.Ytnddejdndipddac
open Go.RowKit

/-- A part that was handed on. -/
structure Sn where
  number : Int
  id : Int
  state : Int
  path : Int
  missed : Int
  times : Int
  came : Int
  life : Int
  tries : Int
  ck : Ck
instance : Inhabited Sn := ⟨⟨0, 0, 0, 0, 0, 0, 0, 0, 0, Ck.zero⟩⟩

def Sn.put (s : Sn) (st : Int) : Sn := { s with state := st }
def waitedM (s : Sn) : Bool := s.state == 1 || s.state == 3
def hereM (n : Int) (sp : List Sp) (s : Sn) : Bool := decide (s.number ≤ n) || inM sp (s.number - n)
def newsM (n : Int) (sp : List Sp) (s : Sn) : Bool := waitedM s && hereM n sp s
def arrM (n : Int) (sp : List Sp) (s : Sn) : Sn := if newsM n sp s = true then s.put 2 else s
def hiS (n : Int) (sp : List Sp) (h : Int) (s : Sn) : Int := if newsM n sp s = true then max h s.number else h
def hiM (n : Int) (sp : List Sp) (h : Int) (l : List Sn) : Int := l.foldl (hiS n sp) h
def addAt (zs : List Int) (p x : Int) : List Int := if 0 ≤ p ∧ p < zs.length then zs.set p.toNat (wrap64 (zs.getD p.toNat 0 + x)) else zs
def comeS (n : Int) (sp : List Sp) (zs : List Int) (s : Sn) : List Int := if newsM n sp s = true then addAt zs s.path s.ck.data.length else zs
def comeM (n : Int) (sp : List Sp) (zs : List Int) (l : List Sn) : List Int := l.foldl (comeS n sp) zs
def missB (h : Int) (s : Sn) : Bool := s.state == 1 && decide (s.number < h)
def lostB (h : Int) (s : Sn) : Bool := missB h s && decide (3 ≤ wrap64 (s.missed + 1))
def missM (h : Int) (s : Sn) : Sn := if missB h s = true then { s with missed := wrap64 (s.missed + 1), state := if 3 ≤ wrap64 (s.missed + 1) then 3 else s.state } else s
def lostM (h : Int) (l : List Sn) : List Int := (l.filter (lostB h)).map Sn.number
def leftM (n : Int) (l : List Sn) : List Sn := l.filter fun s => !decide (s.number ≤ n)
def lastM (l : List Sn) (cum : Int) : Int := match l.getLast? with | none => cum | some s => s.number

structure SackR where
  out : List Sn
  now : Int
  come : List Int
  lost : List Int
/-- What is left, up to where all have come, what came by paths, and what is lost by it. -/
def sackS (l : List Sn) (n : Int) (sp : List Sp) (paths : Nat) : SackR :=
  ⟨(leftM n (l.map (arrM n sp))).map (missM (hiM n sp n l)), n, comeM n sp (List.replicate paths 0) l, lostM (hiM n sp n l) (leftM n (l.map (arrM n sp)))⟩
def sackF (l : List Sn) (cum tag : Int) (sp : List Sp) (paths : Nat) : SackR :=
  if nearM cum tag < cum ∨ lastM l cum < nearM cum tag then ⟨l, cum, List.replicate paths 0, []⟩ else sackS l (nearM cum tag) sp paths

def giveS (id : Int) (s : Sn) : Sn := if s.id == id && s.state != 2 then s.put 4 else s
def onM (path : Int) (s : Sn) : Bool := s.state == 1 && s.path == path
def lateS (path : Int) (s : Sn) : Sn := if onM path s = true then s.put 3 else s
def flyS (path : Int) (z : Int) (s : Sn) : Int := if onM path s = true then wrap64 (z + s.ck.data.length) else z
def flightM (path : Int) (l : List Sn) : Int := l.foldl (flyS path) 0

def skOf (c : Ck) : Sk := ⟨c.stream, c.mid, c.ordered⟩
/-- Does a skip tell of this one already? -/
def skIs (c : Ck) (s : Sk) : Bool := (s.stream == c.stream && s.mid == c.mid && s.ordered == c.ordered) || (s.ordered && c.ordered && s.stream == c.stream)
def skipF (ks : List Sk) (c : Ck) : List Sk := if ks.findIdx (skIs c) < ks.length then ks.set (ks.findIdx (skIs c)) (skOf c) else ks ++ [skOf c]
def pointF : Int → List Sk → List Sn → Int × List Sk
  | cum, ks, [] => (cum, ks)
  | cum, ks, s :: r => if s.state = 4 then (if 8 < (skipF ks s.ck).length then (cum, ks) else pointF s.number (skipF ks s.ck) r) else if s.state = 2 then pointF s.number ks r else (cum, ks)

/-- Parts' numbers are those behind one, in turn. -/
def RisesM (cum : Int) (l : List Sn) : Prop := ∀ (i : Nat) s, l[i]? = some s → s.number = cum + 1 + i
theorem RisesM.tail {cum : Int} {s : Sn} {l : List Sn} (h : RisesM cum (s :: l)) : s.number = cum + 1 ∧ RisesM (cum + 1) l := by
  refine ⟨by simpa using h 0 s rfl, fun i t e => ?_⟩
  have := h (i + 1) t (by simpa using e)
  omega
theorem RisesM.last {cum : Int} {l : List Sn} (h : RisesM cum l) : lastM l cum = cum + l.length := by
  unfold lastM
  rw [List.getLast?_eq_getElem?]
  cases e : l[l.length - 1]? with
  | none => have := List.getElem?_eq_none_iff.1 e; simp; omega
  | some s => have h1 := h _ _ e; have h2 := (List.getElem?_eq_some_iff.1 e).1; simp only; omega
theorem RisesM.mem {cum : Int} {l : List Sn} (h : RisesM cum l) {s : Sn} (hs : s ∈ l) : cum < s.number ∧ s.number ≤ cum + l.length := by
  obtain ⟨i, e⟩ := List.getElem?_of_mem hs
  have h1 := h i s e
  have h2 := (List.getElem?_eq_some_iff.1 e).1
  omega

theorem skipF_len (ks : List Sk) (c : Ck) : ks.length ≤ (skipF ks c).length := by
  unfold skipF; split <;> simp
/-- A skip that tells of a part: its own, or a later one of its stream, in order. -/
def toldM (c : Ck) (k : Sk) : Prop := k.stream = c.stream ∧ k.ordered = c.ordered ∧ (k.ordered = true ∨ k.mid = c.mid)
theorem told_self (c : Ck) : toldM c (skOf c) := ⟨rfl, rfl, .inr rfl⟩
theorem told_turn {c c' : Ck} {k : Sk} (h : toldM c' k) (hk : skIs c k = true) : toldM c' (skOf c) := by
  simp only [skIs, Bool.or_eq_true, Bool.and_eq_true, beq_iff_eq] at hk
  obtain ⟨h1, h2, h3⟩ := h
  rcases hk with ⟨⟨e1, e2⟩, e3⟩ | ⟨⟨e1, e2⟩, e3⟩
  · exact ⟨e1.symm.trans h1, e3.symm.trans h2, by rcases h3 with h3 | h3; exact .inl (e3.symm.trans h3); exact .inr (e2.symm.trans h3)⟩
  · exact ⟨e3.symm.trans h1, by show c.ordered = _; rw [e2, ← e1, h2], .inl e2⟩
theorem told_skip {ks : List Sk} {c' : Ck} (c : Ck) (h : ∃ k ∈ ks, toldM c' k) : ∃ k ∈ skipF ks c, toldM c' k := by
  obtain ⟨k, hk, ht⟩ := h
  unfold skipF
  split
  · next hi =>
    obtain ⟨i, hi2, e⟩ := List.mem_iff_getElem.1 hk
    by_cases hc : i = ks.findIdx (skIs c)
    · have hp := List.findIdx_getElem (p := skIs c) (w := hi)
      refine ⟨skOf c, List.mem_iff_getElem.2 ⟨ks.findIdx (skIs c), by simpa using hi, by simp⟩, told_turn ht ?_⟩
      subst hc
      rw [← e]; exact hp
    · exact ⟨k, List.mem_iff_getElem.2 ⟨i, by simpa using hi2, by rw [List.getElem_set_ne (by omega)]; exact e⟩, ht⟩
  · exact ⟨k, by simp [hk], ht⟩
theorem told_new (ks : List Sk) (c : Ck) : ∃ k ∈ skipF ks c, toldM c k := by
  refine ⟨skOf c, ?_, told_self c⟩
  unfold skipF
  split
  · next hi => exact List.mem_iff_getElem.2 ⟨ks.findIdx (skIs c), by simpa using hi, by simp⟩
  · simp

/-- What may be gone without. -/
theorem point_told : ∀ (l : List Sn) (cum : Int) (ks : List Sk), RisesM cum l → ks.length ≤ 8 →
    cum ≤ (pointF cum ks l).1 ∧ (pointF cum ks l).1 ≤ cum + l.length ∧ (pointF cum ks l).2.length ≤ 8 ∧ (∀ c, (∃ k ∈ ks, toldM c k) → ∃ k ∈ (pointF cum ks l).2, toldM c k) ∧
    ∀ s ∈ l, s.number ≤ (pointF cum ks l).1 → s.state = 2 ∨ (s.state = 4 ∧ ∃ k ∈ (pointF cum ks l).2, toldM s.ck k)
  | [], cum, ks, _, hk => ⟨Int.le_refl _, by simp [pointF], hk, fun c h => h, fun s hs => by simp at hs⟩
  | s :: r, cum, ks, hr, hk => by
    obtain ⟨hn, hr'⟩ := hr.tail
    have stop : cum ≤ cum ∧ cum ≤ cum + ((s :: r).length : Int) ∧ ks.length ≤ 8 ∧ (∀ c, (∃ k ∈ ks, toldM c k) → ∃ k ∈ ks, toldM c k) ∧ ∀ t ∈ s :: r, t.number ≤ cum → t.state = 2 ∨ (t.state = 4 ∧ ∃ k ∈ ks, toldM t.ck k) :=
      ⟨Int.le_refl _, by omega, hk, fun c h => h, fun t ht h => by have := (hr.mem ht).1; omega⟩
    have hr2 : RisesM s.number r := by rw [hn]; exact hr'
    unfold pointF
    split
    · next h4 =>
      split
      · exact stop
      · next hl =>
        obtain ⟨p1, p2, p3, p4, p5⟩ := point_told r s.number (skipF ks s.ck) hr2 (by omega)
        refine ⟨by omega, by simp only [List.length_cons]; omega, p3, fun c h => p4 c (told_skip s.ck h), fun t ht h => ?_⟩
        rcases List.mem_cons.1 ht with rfl | ht
        · exact .inr ⟨h4, p4 _ (told_new ks t.ck)⟩
        · exact p5 t ht h
    · split
      · next h2 =>
        obtain ⟨p1, p2, p3, p4, p5⟩ := point_told r s.number ks hr2 hk
        refine ⟨by omega, by simp only [List.length_cons]; omega, p3, p4, fun t ht h => ?_⟩
        rcases List.mem_cons.1 ht with rfl | ht
        · exact .inl h2
        · exact p5 t ht h
      · exact stop

/-- Told twice is told once. -/
theorem near_self {cum tag : Int} : nearM (nearM cum tag) tag = nearM cum tag := by
  have h : (tag - nearM cum tag) % 65536 = 0 := by
    simp only [nearM]
    split <;> omega
  have : nearM (nearM cum tag) tag = let a := (tag - nearM cum tag) % 65536; if 32768 < a then nearM cum tag + (a - 65536) else nearM cum tag + a := rfl
  rw [this, h]
  simp
theorem foldl_same {α β : Type} (f : β → α → β) (b : β) : ∀ (l : List α), (∀ x ∈ l, f b x = b) → l.foldl f b = b
  | [], _ => rfl
  | x :: r, h => by rw [List.foldl_cons, h x (by simp)]; exact foldl_same f b r fun y hy => h y (by simp [hy])
theorem map_same {α : Type} (f : α → α) : ∀ (l : List α), (∀ x ∈ l, f x = x) → l.map f = l
  | [], _ => rfl
  | x :: r, h => by rw [List.map_cons, h x (by simp), map_same f r fun y hy => h y (by simp [hy])]
theorem filter_same {α : Type} (p : α → Bool) (l : List α) (h : ∀ x ∈ l, p x = true) : l.filter p = l := List.filter_eq_self.2 h
theorem miss_number (h : Int) (s : Sn) : (missM h s).number = s.number := by unfold missM; split <;> rfl
theorem arr_number (n : Int) (sp : List Sp) (s : Sn) : (arrM n sp s).number = s.number := by unfold arrM Sn.put; split <;> rfl
theorem sackS_low {l : List Sn} {n : Int} {sp : List Sp} {paths : Nat} : ∀ s ∈ (sackS l n sp paths).out, n < s.number := by
  intro s hs
  obtain ⟨t, ht, rfl⟩ := List.mem_map.1 hs
  rw [miss_number]
  simpa [leftM] using (List.mem_filter.1 ht).2
theorem sackS_old {l : List Sn} {n : Int} {sp : List Sp} {paths : Nat} : ∀ s ∈ (sackS l n sp paths).out, newsM n sp s = false := by
  intro s hs
  obtain ⟨t, ht, rfl⟩ := List.mem_map.1 hs
  obtain ⟨u, hu, rfl⟩ := List.mem_map.1 (List.mem_filter.1 ht).1
  have h1 : hereM n sp (missM (hiM n sp n l) (arrM n sp u)) = hereM n sp u := by simp only [hereM, miss_number, arr_number]
  cases hn : newsM n sp u with
  | true =>
    have e : arrM n sp u = u.put 2 := by rw [arrM, if_pos hn]
    have e2 : missM (hiM n sp n l) (u.put 2) = u.put 2 := by rw [missM, if_neg (by simp [missB, Sn.put])]
    rw [e, e2]
    simp [newsM, waitedM, Sn.put]
  | false =>
    have e : arrM n sp u = u := by rw [arrM, if_neg (by rw [hn]; simp)]
    rw [e] at h1 ⊢
    rw [newsM, h1]
    cases hh : hereM n sp u with
    | false => simp
    | true =>
      have hw : waitedM u = false := by simpa [newsM, hh] using hn
      have e2 : missM (hiM n sp n l) u = u := by
        rw [missM, if_neg]
        simp only [waitedM, Bool.or_eq_false_iff, beq_eq_false_iff_ne] at hw
        simp [missB, hw.1]
      rw [e2, hw]; rfl
/-- A sack that changes nothing. -/
theorem sackS_still {l : List Sn} {n : Int} {sp : List Sp} {paths : Nat} (h1 : ∀ s ∈ l, n < s.number) (h2 : ∀ s ∈ l, newsM n sp s = false) : sackS l n sp paths = ⟨l, n, List.replicate paths 0, []⟩ := by
  have e1 : l.map (arrM n sp) = l := map_same _ _ fun s hs => by rw [arrM, if_neg (by rw [h2 s hs]; simp)]
  have e2 : leftM n l = l := filter_same _ _ fun s hs => by have := h1 s hs; simp; omega
  have e3 : hiM n sp n l = n := foldl_same _ _ _ fun s hs => by rw [hiS, if_neg (by rw [h2 s hs]; simp)]
  have e4 : comeM n sp (List.replicate paths 0) l = List.replicate paths 0 := foldl_same _ _ _ fun s hs => by rw [comeS, if_neg (by rw [h2 s hs]; simp)]
  have hm : ∀ s ∈ l, missB n s = false := fun s hs => by have := h1 s hs; simp [missB]; intro _; omega
  have e5 : l.map (missM n) = l := map_same _ _ fun s hs => by rw [missM, if_neg (by rw [hm s hs]; simp)]
  have e6 : lostM n l = [] := by
    rw [lostM, List.filter_eq_nil_iff.2 (fun s hs => by rw [lostB, hm s hs]; simp)]; rfl
  simp only [sackS, e1, e2, e3, e4, e5, e6]
theorem sack_twice (l : List Sn) (cum tag : Int) (sp : List Sp) (paths : Nat) :
    sackF (sackF l cum tag sp paths).out (sackF l cum tag sp paths).now tag sp paths = ⟨(sackF l cum tag sp paths).out, (sackF l cum tag sp paths).now, List.replicate paths 0, []⟩ := by
  by_cases hc : nearM cum tag < cum ∨ lastM l cum < nearM cum tag
  · have e : sackF l cum tag sp paths = ⟨l, cum, List.replicate paths 0, []⟩ := by rw [sackF, if_pos hc]
    rw [e]
    exact e
  · have e : sackF l cum tag sp paths = sackS l (nearM cum tag) sp paths := by rw [sackF, if_neg hc]
    rw [e]
    have hlow := sackS_low (l := l) (n := nearM cum tag) (sp := sp) (paths := paths)
    have hnow : (sackS l (nearM cum tag) sp paths).now = nearM cum tag := rfl
    rw [hnow, sackF, near_self, if_neg, sackS_still hlow sackS_old]
    rintro (h | h)
    · omega
    · unfold lastM at h
      cases hg : (sackS l (nearM cum tag) sp paths).out.getLast? with
      | none => rw [hg] at h; simp at h
      | some s => rw [hg] at h; simp only at h; have := hlow s (List.mem_of_getLast? hg); omega
theorem sackF_now {l : List Sn} {cum tag : Int} {sp : List Sp} {paths : Nat} (hr : RisesM cum l) : cum ≤ (sackF l cum tag sp paths).now ∧ (sackF l cum tag sp paths).now ≤ cum + l.length := by
  have := hr.last
  by_cases hc : nearM cum tag < cum ∨ lastM l cum < nearM cum tag
  · rw [sackF, if_pos hc]; show cum ≤ cum ∧ cum ≤ _; omega
  · rw [sackF, if_neg hc]
    show cum ≤ nearM cum tag ∧ nearM cum tag ≤ _
    omega
end Go.Proofs.Ytnddejdndipddac
