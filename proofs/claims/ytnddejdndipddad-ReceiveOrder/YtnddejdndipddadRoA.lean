/- Plain: in whatever order parts come, each stream's messages are delivered in theirs. -/
import Derived.Test.YtnddejdndipddadRcT
set_option maxRecDepth 20000
namespace Go.Proofs.Ytnddejdndipddad

def pcO (c : Ck) : Pc := ⟨c.tag, c⟩
def ofO (s m : Int) (c : Ck) : Bool := c.stream == s && c.mid == m
def two (s : Int) : Prop := s = 0 ∨ s = 1
/-- What is sent: of each of two streams so many messages, each in parts, in whatever order. -/
structure SentO (cs : List Ck) (cnt : Int → Int) (dat : Int → Int → List Int) : Prop where
  kind : ∀ c ∈ cs, c.kind = 1 ∧ c.ordered = true ∧ two c.stream ∧ 0 ≤ c.mid ∧ c.mid < cnt c.stream
  cn : ∀ s, two s → 0 ≤ cnt s ∧ cnt s ≤ 100
  tags : (cs.map Ck.tag).Perm ((List.range cs.length).map fun i : Nat => 7 + (i : Int))
  whole : ∀ s m, two s → 0 ≤ m → m < cnt s → joinB ((cs.filter (ofO s m)).map pcO) = true ∧ joinD ((cs.filter (ofO s m)).map pcO) = dat s m
  sum : (cs.map fun c => c.data.length).sum ≤ 400
  len : cs.length ≤ 1000
  fit : ∀ c ∈ cs, CkFit c
  dl : ∀ s m, (dat s m).length ≤ 1000
theorem SentO.perm {cs cs' : List Ck} {cnt : Int → Int} {dat : Int → Int → List Int} (h : SentO cs cnt dat) (p : cs.Perm cs') : SentO cs' cnt dat where
  kind := fun c hc => h.kind c (p.mem_iff.2 hc)
  cn := h.cn
  tags := by rw [← p.length_eq]; exact (p.map Ck.tag).symm.trans h.tags
  whole := fun s m h1 h2 h3 => by
    have e := join_perm ((p.filter (ofO s m)).map pcO)
    rw [← e.1, ← e.2]
    exact h.whole s m h1 h2 h3
  sum := by rw [← (p.map fun c => c.data.length).sum_nat]; exact h.sum
  len := by rw [← p.length_eq]; exact h.len
  fit := fun c hc => h.fit c (p.mem_iff.2 hc)
  dl := h.dl
theorem SentO.tag {cs : List Ck} {cnt : Int → Int} {dat : Int → Int → List Int} (h : SentO cs cnt dat) : (cs.map Ck.tag).Nodup ∧ (∀ c ∈ cs, 7 ≤ c.tag ∧ c.tag ≤ 6 + cs.length) ∧ ∀ n : Int, 7 ≤ n → n ≤ 6 + cs.length → n ∈ cs.map Ck.tag := by
  refine ⟨h.tags.nodup_iff.2 ?_, fun c hc => ?_, fun n h1 h2 => ?_⟩
  · rw [List.Nodup, List.pairwise_map]
    exact (List.nodup_range (n := cs.length)).imp fun h e => h (by omega)
  · have := h.tags.mem_iff.1 (List.mem_map_of_mem (f := Ck.tag) hc)
    obtain ⟨i, hi, e⟩ := List.mem_map.1 this
    rw [List.mem_range] at hi
    omega
  · refine h.tags.mem_iff.2 (List.mem_map.2 ⟨(n - 7).toNat, ?_, ?_⟩)
    · rw [List.mem_range]; omega
    · omega
/-- Some of all parts are no message. -/
theorem join_some {l a b : List Pc} (h : joinB l = true) (p : l.Perm (a ++ b)) (hb : b ≠ []) : joinB a = false := by
  cases hj : joinB a with
  | false => rfl
  | true =>
    exfalso
    have g1 := (of_decide_eq_true h).1
    have g2 := of_decide_eq_true hj
    have hl := p.length_eq
    rw [List.length_append] at hl
    have hb' := List.length_pos_iff.2 hb
    have ha := (good_iff a).1 g2.1
    have h0 := g2.2
    have hm : ((a.length : Int) - 1) ∈ a.map Pc.part := ha.1.mem_iff.2 ((places_mem _ _).2 (by omega))
    obtain ⟨q, hq, e⟩ := List.mem_map.1 hm
    have e1 := ha.2 q hq
    have e2 := (g1.1 q (p.mem_iff.2 (List.mem_append_left _ hq))).2.2
    rw [e1, decide_eq_true e] at e2
    have e3 := of_decide_eq_true e2.symm
    omega

/-- What has come so far. -/
structure InvO (cs : List Ck) (cnt : Int → Int) (dat : Int → Int → List Int) (got rest : List Ck) (x : Rc) : Prop where
  all : cs = got ++ rest
  inv : InvR x
  tl : x.turn.length = 2
  pcs : x.pieces = (got.filter fun c => decide (turnAt x c.stream ≤ c.mid)).map pcO
  t : ∀ s, two s → 0 ≤ turnAt x s ∧ turnAt x s ≤ cnt s
  rest : ∀ c ∈ rest, turnAt x c.stream ≤ c.mid
  log : ∀ s, two s → x.log.filter (fun q => q.stream == s) = (List.range (turnAt x s).toNat).map fun m : Nat => ⟨s, (m : Int), true, dat s m⟩
  logs : ∀ q ∈ x.log, two q.stream
  num : ∀ n : Int, 7 ≤ n → ((n ≤ x.cum ∨ inM x.spans n = true) ↔ n ∈ got.map Ck.tag)
  c1 : 6 ≤ x.cum
  c2 : x.cum ≤ 6 + cs.length
/-- .. and no message in turn is whole. -/
def StopO (cnt : Int → Int) (got : List Ck) (x : Rc) (s : Int) : Prop := turnAt x s < cnt s → joinB ((got.filter (ofO s (turnAt x s))).map pcO) = false

section
variable {cs : List Ck} {cnt : Int → Int} {dat : Int → Int → List Int} {got rest : List Ck} {x : Rc}
theorem two_nat {s : Int} (h : two s) : s.toNat < 2 := by rcases h with rfl | rfl <;> decide
theorem InvO.mine (h : InvO cs cnt dat got rest x) (hs : SentO cs cnt dat) {s m : Int} (h1 : turnAt x s ≤ m) (h2 : 0 ≤ m) (h3 : m < 65536) : mineM (numM s m) x.pieces = (got.filter (ofO s m)).map pcO := by
  rw [h.pcs, mineM, List.filter_map, List.filter_filter]
  congr 1
  refine List.filter_congr fun c hc => ?_
  have ho := (hs.kind c (by rw [h.all]; exact List.mem_append_left _ hc)).2.1
  show (isM (numM s m) (pcO c) && decide (turnAt x c.stream ≤ c.mid)) = ofO s m c
  have e : isM (numM s m) (pcO c) = ofO s m c := by
    simp only [isM, numM, pcO, ofO, ho, Int.emod_eq_of_lt h2 h3]
    simp
  rw [e]
  cases hq : ofO s m c with
  | false => rfl
  | true =>
    simp only [ofO, Bool.and_eq_true, beq_iff_eq] at hq
    rw [hq.1, hq.2]
    simp [h1]
/-- A message that is whole has come, all of it. -/
theorem InvO.whole (h : InvO cs cnt dat got rest x) (hs : SentO cs cnt dat) {s m : Int} (h0 : two s) (h1 : 0 ≤ m) (hj : joinB ((got.filter (ofO s m)).map pcO) = true) : m < cnt s ∧ rest.filter (ofO s m) = [] ∧ joinD ((got.filter (ofO s m)).map pcO) = dat s m := by
  have hne : got.filter (ofO s m) ≠ [] := fun e => by rw [e] at hj; rw [List.map_nil, join_nil] at hj; exact Bool.noConfusion hj
  obtain ⟨c, hc⟩ := List.exists_mem_of_ne_nil _ hne
  obtain ⟨c1, c2⟩ := List.mem_filter.1 hc
  simp only [ofO, Bool.and_eq_true, beq_iff_eq] at c2
  have hk := hs.kind c (by rw [h.all]; exact List.mem_append_left _ c1)
  have hm : m < cnt s := by have := hk.2.2.2.2; rw [c2.1, c2.2] at this; exact this
  have hw := hs.whole s m h0 h1 hm
  have e : (cs.filter (ofO s m)).map pcO = (got.filter (ofO s m)).map pcO ++ (rest.filter (ofO s m)).map pcO := by rw [h.all, List.filter_append, List.map_append]
  have hr : rest.filter (ofO s m) = [] := by
    cases hq : rest.filter (ofO s m) with
    | nil => rfl
    | cons a b =>
      rw [hq] at e
      have := join_some hw.1 (by rw [e]) (b := (a :: b).map pcO) (by simp)
      rw [this] at hj
      exact Bool.noConfusion hj
  refine ⟨hm, hr, ?_⟩
  rw [hr] at e
  simp only [List.map_nil, List.append_nil] at e
  rw [← e]
  exact hw.2
theorem turnAt_put (x : Rc) {s s' v : Int} (hl : x.turn.length = 2) (h : two s) (h' : two s') : turnAt (setTurn x s v) s' = if s' = s then v else turnAt x s' := by
  have hs : s.toNat < x.turn.length := by rw [hl]; exact two_nat h
  unfold turnAt setTurn
  simp only [List.getD_eq_getElem?_getD]
  by_cases e : s' = s
  · subst e
    rw [if_pos rfl, List.getElem?_set_self hs]
    rfl
  · rw [if_neg e, List.getElem?_set_ne (by rcases h with rfl | rfl <;> rcases h' with rfl | rfl <;> simp at e ⊢)]
/-- A message in turn is delivered. -/
theorem InvO.turn (h : InvO cs cnt dat got rest x) (hs : SentO cs cnt dat) {s : Int} (h0 : two s) (hw : wholeM x (numM s (turnAt x s)) = true) : InvO cs cnt dat got rest (setTurn (delivM x (numM s (turnAt x s))) s (turnAt x s + 1)) ∧ ∀ s', two s' → s' ≠ s → turnAt (setTurn (delivM x (numM s (turnAt x s))) s (turnAt x s + 1)) s' = turnAt x s' := by
  have ht := h.t s h0
  have hc := hs.cn s h0
  have hm := h.mine hs (s := s) (m := turnAt x s) (Int.le_refl _) ht.1 (by omega)
  have hj : joinB ((got.filter (ofO s (turnAt x s))).map pcO) = true := by rw [← hm]; exact hw
  obtain ⟨w1, w2, w3⟩ := h.whole hs h0 ht.1 hj
  obtain ⟨d1, d2, d3, -⟩ := deliv_turn x (numM s (turnAt x s))
  have dl : (delivM x (numM s (turnAt x s))).turn.length = 2 := by rw [d1]; exact h.tl
  have ta : ∀ s', turnAt (delivM x (numM s (turnAt x s))) s' = turnAt x s' := fun s' => by show (delivM x _).turn.getD _ 0 = x.turn.getD _ 0; rw [d1]
  have tp : ∀ s', two s' → turnAt (setTurn (delivM x (numM s (turnAt x s))) s (turnAt x s + 1)) s' = if s' = s then turnAt x s + 1 else turnAt x s' := fun s' h' => by rw [turnAt_put _ dl h0 h', ta]
  have e1 : (setTurn (delivM x (numM s (turnAt x s))) s (turnAt x s + 1)).pieces = restM (numM s (turnAt x s)) x.pieces := by show (delivM x _).pieces = _; rw [delivM, if_pos hw]; rfl
  have e2 : (setTurn (delivM x (numM s (turnAt x s))) s (turnAt x s + 1)).log = x.log ++ [⟨s, turnAt x s, true, dat s (turnAt x s)⟩] := by
    show (delivM x _).log = _
    rw [delivM, if_pos hw]
    show x.log ++ [_] = _
    simp only [numM] at hm ⊢
    rw [hm, w3, Int.emod_eq_of_lt ht.1 (by omega)]
  have hnum : ∀ c ∈ cs, isM (numM s (turnAt x s)) (pcO c) = ofO s (turnAt x s) c := fun c hc' => by
    have ho := (hs.kind c hc').2.1
    simp only [isM, numM, pcO, ofO, ho, Int.emod_eq_of_lt ht.1 (show turnAt x s < 65536 by omega)]
    simp
  refine ⟨⟨h.all, ⟨by show Ris ((delivM x _).cum + 1) (delivM x _).spans; rw [d2, d3]; exact h.inv.ris, by show Upto ((delivM x _).cum + 32768) (delivM x _).spans; rw [d2, d3]; exact h.inv.up⟩, by show (List.set _ _ _).length = 2; rw [List.length_set]; exact dl, ?_, fun s' h' => ?_, fun c hc' => ?_, fun s' h' => ?_, fun q hq => ?_, by show ∀ n : Int, 7 ≤ n → ((n ≤ (delivM x _).cum ∨ inM (delivM x _).spans n = true) ↔ _); rw [d2, d3]; exact h.num, by show 6 ≤ (delivM x _).cum; rw [d2]; exact h.c1, by show (delivM x _).cum ≤ _; rw [d2]; exact h.c2⟩, fun s' h' hne => by rw [tp s' h', if_neg hne]⟩
  · rw [e1, h.pcs, restM, List.filter_map, List.filter_filter]
    congr 1
    refine List.filter_congr fun c hc' => ?_
    have hk := hs.kind c (by rw [h.all]; exact List.mem_append_left _ hc')
    show (!isM (numM s (turnAt x s)) (pcO c) && decide (turnAt x c.stream ≤ c.mid)) = decide (turnAt (setTurn (delivM x (numM s (turnAt x s))) s (turnAt x s + 1)) c.stream ≤ c.mid)
    rw [hnum c (by rw [h.all]; exact List.mem_append_left _ hc'), tp _ hk.2.2.1]
    by_cases hsn : c.stream = s
    · rw [if_pos hsn, hsn]
      by_cases hmn : c.mid = turnAt x s
      · simp [ofO, hsn, hmn]
        omega
      · have : ofO s (turnAt x s) c = false := by simp [ofO, hmn]
        rw [this, Bool.eq_iff_iff]
        simp
        omega
    · rw [if_neg hsn]
      have : ofO s (turnAt x s) c = false := by simp [ofO, hsn]
      rw [this]
      rfl
  · rw [tp s' h']
    by_cases e : s' = s
    · subst e; rw [if_pos rfl]; omega
    · rw [if_neg e]; exact h.t s' h'
  · have hk := hs.kind c (by rw [h.all]; exact List.mem_append_right _ hc')
    have hr := h.rest c hc'
    rw [tp _ hk.2.2.1]
    by_cases e : c.stream = s
    · rw [if_pos e]
      rw [e] at hr
      have : c.mid ≠ turnAt x s := fun em => by
        have : c ∈ rest.filter (ofO s (turnAt x s)) := List.mem_filter.2 ⟨hc', by simp [ofO, e, em]⟩
        rw [w2] at this
        simp at this
      omega
    · rw [if_neg e]; exact hr
  · rw [e2, List.filter_append, h.log s' h', tp s' h']
    by_cases e : s' = s
    · subst e
      rw [if_pos rfl, show (turnAt x s' + 1).toNat = (turnAt x s').toNat + 1 by omega, List.range_succ, List.map_append]
      simp [Int.toNat_of_nonneg ht.1]
    · rw [if_neg e]
      have : (s == s') = false := by simp; omega
      simp [this]
  · rw [e2] at hq
    rcases List.mem_append.1 hq with hq | hq
    · exact h.logs q hq
    · simp at hq; subst hq; exact h0
theorem turns_stop (x : Rc) (s : Int) : wholeM (turnsM x s) (numM s (turnAt (turnsM x s) s)) = false := by
  have go : ∀ (n : Nat) (x : Rc), x.pieces.length ≤ n → wholeM (turnsF n x s) (numM s (turnAt (turnsF n x s) s)) = false := by
    intro n
    induction n with
    | zero =>
      intro x hx
      have : x.pieces = [] := List.length_eq_zero_iff.1 (by omega)
      show wholeM x _ = false
      rw [wholeM, this]
      exact join_nil
    | succ n ih =>
      intro x hx
      rw [turnsF]
      by_cases hw : wholeM x (numM s (turnAt x s)) = true
      · rw [if_pos hw]
        refine ih _ ?_
        have := deliv_len hw
        show (delivM x _).pieces.length ≤ n
        omega
      · rw [if_neg hw]
        simpa using hw
  exact go _ x (Nat.le_refl _)
theorem InvO.turns (h : InvO cs cnt dat got rest x) (hs : SentO cs cnt dat) {s : Int} (h0 : two s) : InvO cs cnt dat got rest (turnsM x s) ∧ StopO cnt got (turnsM x s) s ∧ ∀ s', two s' → s' ≠ s → turnAt (turnsM x s) s' = turnAt x s' := by
  have g := turnsM_ind (P := fun y => InvO cs cnt dat got rest y ∧ ∀ s', two s' → s' ≠ s → turnAt y s' = turnAt x s') s (fun y hy hw => by
    obtain ⟨a1, a2⟩ := hy.1.turn hs h0 hw
    exact ⟨a1, fun s' h' hne => (a2 s' h' hne).trans (hy.2 s' h' hne)⟩) x ⟨h, fun _ _ _ => rfl⟩
  refine ⟨g.1, fun _ => ?_, g.2⟩
  have ht := g.1.t s h0
  have hc := hs.cn s h0
  rw [← g.1.mine hs (Int.le_refl _) ht.1 (by omega)]
  exact turns_stop x s
theorem len_sum (l : List Ck) (f : Ck → Bool) : ((l.filter f).map fun c => c.data.length).sum ≤ (l.map fun c => c.data.length).sum := by
  induction l with
  | nil => simp
  | cons c l ih =>
    rw [List.filter_cons]
    split <;> simp <;> omega
theorem InvO.held (h : InvO cs cnt dat got rest x) : heldM x.pieces ≤ (got.map fun c => c.data.length).sum := by
  rw [h.pcs, heldM, List.map_map]
  exact len_sum got _
/-- One more part. -/
theorem InvO.next {c : Ck} (h : InvO cs cnt dat got (c :: rest) x) (hs : SentO cs cnt dat) (hst : ∀ s, two s → StopO cnt got x s) : takesM x c ∧ InvO cs cnt dat (got ++ [c]) rest (recvM x c) ∧ ∀ s, two s → StopO cnt (got ++ [c]) (recvM x c) s := by
  obtain ⟨t1, t2, t3⟩ := hs.tag
  have hcm : c ∈ cs := by rw [h.all]; simp
  obtain ⟨k1, k2, k3, k4, k5⟩ := hs.kind c hcm
  have hct := t2 c hcm
  have hl := hs.len
  have hc1 := h.c1
  have hc2 := h.c2
  have hn : nearM x.cum c.tag = c.tag := near_of (by omega) (by omega) (by omega)
  have hnew : ¬ (c.tag ≤ x.cum ∨ inM x.spans c.tag = true) := fun e => by
    have e' := (h.num c.tag hct.1).1 e
    rw [h.all, List.map_append, List.map_cons] at t1
    have := (List.nodup_append.1 t1).2.2 c.tag e' c.tag (by simp)
    exact this rfl
  have hgt : x.cum < c.tag := by
    rcases Int.lt_or_le x.cum c.tag with h | h
    · exact h
    · exact absurd (.inl h) hnew
  have hin : inM x.spans c.tag = false := by
    cases hq : inM x.spans c.tag with
    | false => rfl
    | true => exact absurd (.inr hq) hnew
  have hsum := hs.sum
  rw [h.all, List.map_append, List.sum_append, List.map_cons, List.sum_cons] at hsum
  have hheld := h.held
  have htk : takesM x c := ⟨k1, ⟨by rcases k3 with e | e <;> omega, by rw [h.tl]; rcases k3 with e | e <;> omega⟩, by rw [hn]; exact hgt, by rw [hn]; exact hin, .inr (by omega)⟩
  obtain ⟨i1, i2, i3, -⟩ := kept_inv h.inv htk
  have hr : Ris x.cum x.spans := h.inv.ris.mono (by omega)
  have ha : Ris x.cum (addM x.spans c.tag) := by rw [addM_eq]; exact addR_ris _ _ _ hr hgt
  have hmem : ∀ n, inM (addM x.spans c.tag) n = true ↔ n = c.tag ∨ inM x.spans n = true := fun n => by rw [addM_eq]; exact addR_mem _ _ _ hr n
  obtain ⟨s1, s2, s3, s4, -⟩ := up_spec _ x.cum ha
  have hnum : ∀ n : Int, 7 ≤ n → ((n ≤ (keptM x c).cum ∨ inM (keptM x c).spans n = true) ↔ n ∈ (got ++ [c]).map Ck.tag) := fun n h7 => by
    show (n ≤ (upM (addM x.spans (nearM x.cum c.tag)) x.cum).1 ∨ inM (upM (addM x.spans (nearM x.cum c.tag)) x.cum).2 n = true) ↔ _
    rw [hn, s4, List.map_append, List.mem_append, ← h.num n h7, hmem]
    constructor
    · rintro (g | ⟨g, -⟩)
      · by_cases hx : n ≤ x.cum
        · exact .inl (.inl hx)
        · rcases (hmem n).1 (s2 n (by omega) g) with g | g
          · subst g; exact .inr (by simp)
          · exact .inl (.inr g)
      · rcases g with g | g
        · subst g; exact .inr (by simp)
        · exact .inl (.inr g)
    · rintro ((g | g) | g)
      · exact .inl (by omega)
      · by_cases hx : n ≤ (upM (addM x.spans c.tag) x.cum).1
        · exact .inl hx
        · exact .inr ⟨.inr g, by omega⟩
      · simp at g
        by_cases hx : n ≤ (upM (addM x.spans c.tag) x.cum).1
        · exact .inl hx
        · exact .inr ⟨.inl g, by omega⟩
  have hc2' : (keptM x c).cum ≤ 6 + cs.length := by
    rcases Int.lt_or_le (keptM x c).cum 7 with g | g
    · omega
    · have := (hnum _ g).1 (.inl (Int.le_refl _))
      obtain ⟨q, hq, e⟩ := List.mem_map.1 this
      have hqc : q ∈ cs := by rw [h.all]; rcases List.mem_append.1 hq with hq | hq <;> simp at hq ⊢ <;> simp [hq]
      have := t2 q hqc
      omega
  have hK : InvO cs cnt dat (got ++ [c]) rest (keptM x c) := by
    refine ⟨by rw [h.all]; simp, i1, h.tl, ?_, h.t, fun q hq => h.rest q (by simp [hq]), h.log, h.logs, hnum, by omega, hc2'⟩
    show x.pieces ++ [⟨nearM x.cum c.tag, c⟩] = _
    rw [hn, h.pcs, List.filter_append, List.map_append]
    have hr := h.rest c (by simp)
    have : ∀ z : Int, turnAt (keptM x c) z = turnAt x z := fun z => rfl
    simp only [this]
    rw [List.filter_cons, if_pos (by simp [hr]), List.filter_nil]
    rfl
  have e : recvM x c = turnsM (keptM x c) c.stream := by rw [recvM, if_pos htk, if_pos k2]
  obtain ⟨g1, g2, g3⟩ := hK.turns hs k3
  rw [e]
  refine ⟨htk, g1, fun s h2 => ?_⟩
  by_cases hq : s = c.stream
  · subst hq; exact g2
  · intro hlt
    rw [g3 s h2 hq] at hlt ⊢
    have hold := hst s h2 hlt
    rw [List.filter_append, List.filter_cons, if_neg (by simp [ofO]; intro e; exact absurd e.symm hq), List.filter_nil, List.append_nil]
    exact hold
theorem InvO.done (h : InvO cs cnt dat got [] x) (hs : SentO cs cnt dat) (hst : ∀ s, two s → StopO cnt got x s) : (∀ s, two s → turnAt x s = cnt s) ∧ x.pieces = [] ∧ x.cum = 6 + cs.length := by
  have hall : cs = got := by have := h.all; simpa using this
  have ht : ∀ s, two s → turnAt x s = cnt s := fun s h2 => by
    have := h.t s h2
    rcases Int.lt_or_le (turnAt x s) (cnt s) with g | g
    · have a := hst s h2 g
      have b := (hs.whole s (turnAt x s) h2 this.1 g).1
      rw [hall, a] at b
      exact Bool.noConfusion b
    · omega
  refine ⟨ht, ?_, ?_⟩
  · rw [h.pcs, List.filter_eq_nil_iff.2, List.map_nil]
    intro c hc
    have hk := hs.kind c (by rw [hall]; exact hc)
    rw [ht _ hk.2.2.1]
    simp
    exact hk.2.2.2.2
  · have h2 := h.c2
    have h1 := h.c1
    rcases Int.lt_or_le x.cum (6 + cs.length) with g | g
    · have := (h.num (x.cum + 1) (by omega)).2 (by rw [← hall]; exact hs.tag.2.2 _ (by omega) (by omega))
      rcases this with e | e
      · omega
      · have := h.inv.ris.low e
        omega
    · omega
theorem InvO.loglen (h : InvO cs cnt dat got rest x) : x.log.length = (turnAt x 0).toNat + (turnAt x 1).toNat := by
  have h0 := congrArg List.length (h.log 0 (.inl rfl))
  have h1 := congrArg List.length (h.log 1 (.inr rfl))
  rw [List.length_map, List.length_range] at h0 h1
  have e : ∀ l : List Av, (∀ q ∈ l, two q.stream) → l.length = (l.filter fun q => q.stream == 0).length + (l.filter fun q => q.stream == 1).length := by
    intro l
    induction l with
    | nil => intro _; rfl
    | cons q l ih =>
      intro hq
      have := ih fun q hq' => hq q (by simp [hq'])
      rcases hq q (by simp) with e | e <;> simp [e] <;> omega
  rw [e _ h.logs, h0, h1]
/-- What a step asks. -/
theorem InvO.ok {c : Ck} (h : InvO cs cnt dat got (c :: rest) x) (hs : SentO cs cnt dat) : OkR 5000 (keptM x c) ∧ (FitR x ∧ x.spans.length ≤ 1099511627776 ∧ x.turn.length ≤ 2147483647 ∧ -1 ≤ x.cum ∧ x.cum ≤ 549755813888) := by
  have hl := hs.len
  have hll := h.loglen
  have t0 := h.t 0 (.inl rfl)
  have t1 := h.t 1 (.inr rfl)
  have n0 := hs.cn 0 (.inl rfl)
  have n1 := hs.cn 1 (.inr rfl)
  have hg : got.length + 1 ≤ 1000 := by have := congrArg List.length h.all; simp at this; omega
  have hp : x.pieces.length ≤ got.length := by rw [h.pcs, List.length_map]; exact List.length_filter_le _ _
  have hcd : ∀ q ∈ cs, q.data.length ≤ 400 := fun q hq => by
    have : q.data.length ≤ (cs.map fun c => c.data.length).sum := by
      obtain ⟨a, b, e⟩ := List.append_of_mem hq
      rw [e, List.map_append, List.sum_append, List.map_cons, List.sum_cons]
      omega
    have := hs.sum
    omega
  have hpf : ∀ p ∈ x.pieces, CkFit p.ck ∧ p.ck.data.length ≤ 1048576 := fun p hp => by
    rw [h.pcs] at hp
    obtain ⟨q, hq, rfl⟩ := List.mem_map.1 hp
    have hqc : q ∈ cs := by rw [h.all]; exact List.mem_append_left _ (List.mem_filter.1 hq).1
    exact ⟨hs.fit q hqc, by have := hcd q hqc; show q.data.length ≤ _; omega⟩
  have hcm : c ∈ cs := by rw [h.all]; simp
  have hcf := hs.fit c hcm
  have hcl := hcd c hcm
  have hlog : ∀ q ∈ x.log, q.data.length ≤ 1099511627776 := fun q hq => by
    have h2 := h.logs q hq
    have : q ∈ x.log.filter (fun z => z.stream == q.stream) := List.mem_filter.2 ⟨hq, by simp⟩
    rw [h.log _ h2] at this
    obtain ⟨m, -, e⟩ := List.mem_map.1 this
    have e2 := congrArg Av.data e
    have := hs.dl q.stream m
    rw [← e2]
    show (dat _ _).length ≤ _
    omega
  have htn : ∀ z ∈ x.turn, 0 ≤ z ∧ z ≤ 100 := fun z hz => by
    obtain ⟨i, hi, rfl⟩ := List.mem_iff_getElem.1 hz
    have h2 := h.tl
    have : two (i : Int) := by unfold two; omega
    have e : turnAt x (i : Int) = x.turn[i] := by simp [turnAt, hi]
    have a := h.t _ this
    have b := hs.cn _ this
    omega
  refine ⟨⟨⟨?_, fun p hp' => ?_, ?_, hlog⟩, fun z hz => ?_⟩, ⟨⟨by omega, hpf, by omega, hlog⟩, ?_, by rw [h.tl]; decide, by have := h.c1; omega, by have := h.c2; omega⟩⟩
  · show (x.pieces ++ [_]).length ≤ _; simp; omega
  · rcases List.mem_append.1 hp' with hp' | hp'
    · exact hpf p hp'
    · simp at hp'; subst hp'; exact ⟨hcf, by show c.data.length ≤ _; omega⟩
  · show x.log.length + (x.pieces ++ [_]).length ≤ _; simp; omega
  · have := htn z hz
    show 0 ≤ z ∧ z + ((x.pieces ++ [_]).length : Int) ≤ 5000
    simp
    omega
  · have := h.inv.ris.length h.inv.up (by omega)
    omega
end
end Go.Proofs.Ytnddejdndipddad
