/- Regions that draw their order: what may be taken first though a last store turns its cell; and one proof for each operation, in whatever order they come. -/
import Derived.OrdersHeld
import Derived.RegionTactic
set_option maxRecDepth 20000
namespace Go.Proofs.Ytnddejdndipddad
open Go

section
variable {P : Program} {ops : Array Oper} {Q : Exit → Act → World → Prop} {md : Region.Mode} {S : World → Prop} {late : List Nat}

/-- Whatever order is picked from here on; and S holds behind every operation that is carried out, but for the late ones. -/
def wpAnyL (P : Program) (md : Region.Mode) (ops : Array Oper) (Q : Exit → Act → World → Prop) (S : World → Prop) (late : List Nat) : Nat → Array Bool → Act → World → Prop
  | 0, listed, a, w => Region.ready md ops listed = [] ∧ Q .normal a w
  | fuel + 1, listed, a, w =>
    (Region.ready md ops listed = [] → Q .normal a w) ∧
    ∀ i ∈ Region.ready md ops listed, wpOp P ops Q i (fun a' w' => (i ∉ late → S w') ∧ wpAnyL P md ops Q S late fuel (listed.setIfInBounds i true) a' w') a w

theorem wpAny_of_late : ∀ (fuel : Nat) (listed : Array Bool) (a : Act) (w : World), wpAnyL P md ops Q S late fuel listed a w → wpAny P md ops Q fuel listed a w
  | 0, _, _, _, h => h
  | fuel + 1, _, _, _, h => ⟨h.1, fun i hi => wpOp_mono (fun a' w' h' => wpAny_of_late fuel _ a' w' h'.2) (h.2 i hi)⟩

/-- Each of these waits for i, or for another one of them; none has come up. -/
def blocked (md : Region.Mode) (ops : Array Oper) (blk : List Nat) (listed : Array Bool) (i : Nat) : Bool :=
  blk.all fun j => !listed.getD j true && match ops[j]? with
    | some o => o.after.any fun e => Region.binds md e && (e.on == i || blk.contains e.on)
    | none => false

theorem blocked_spec {blk : List Nat} {listed : Array Bool} {i : Nat} (h : blocked md ops blk listed i = true) {j : Nat} (hj : j ∈ blk) :
    listed.getD j true = false ∧ ∃ o, ops[j]? = some o ∧ ∃ e ∈ o.after, Region.binds md e = true ∧ (e.on = i ∨ e.on ∈ blk) := by
  have h1 := List.all_eq_true.1 h j hj
  cases ho : ops[j]? with
  | none => simp [ho] at h1
  | some o =>
    simp only [ho, Bool.and_eq_true, Bool.not_eq_true'] at h1
    obtain ⟨e, he, hb⟩ := Array.any_eq_true'.1 h1.2
    simp only [Bool.and_eq_true, Bool.or_eq_true, beq_iff_eq, List.contains_iff_mem] at hb
    exact ⟨h1.1, o, rfl, e, he, hb.1, hb.2⟩

theorem un_false {listed : Array Bool} {i : Nat} (h : listed.getD i true = false) : listed.getD i false ≠ true := by
  intro h1
  rcases Nat.lt_or_ge i listed.size with h' | h'
  · simp [h'] at h h1; rw [h] at h1; cases h1
  · simp [Array.getElem?_eq_none h'] at h1

theorem blocked_not_ready {blk : List Nat} {listed : Array Bool} {i : Nat} (h : blocked md ops blk listed i = true) (hi : listed.getD i true = false) {j : Nat} (hj : j ∈ blk) : j ∉ Region.ready md ops listed := by
  intro hr
  obtain ⟨_, o, ho, e, he, hb, hon⟩ := blocked_spec h hj
  obtain ⟨_, o', ho', hall⟩ := mem_ready.1 hr
  rw [ho] at ho'
  cases ho'
  have h1 := hall e he hb
  rcases hon with hon | hon
  · rw [hon] at h1; exact un_false hi h1
  · exact un_false (blocked_spec h hon).1 h1

theorem blocked_set {blk : List Nat} {listed : Array Bool} {i j : Nat} (h : blocked md ops blk listed i = true) (hj : j ∉ blk) : blocked md ops blk (listed.setIfInBounds j true) i = true := by
  unfold blocked at *
  rw [List.all_eq_true] at *
  intro k hk
  have h1 := h k hk
  have hne : j ≠ k := fun e => hj (by rw [e]; exact hk)
  rw [getD_set_ne true hne]
  exact h1

theorem wpAnyL_first {i : Nat} {oi : Oper} {v : Value} {blk : List Nat} (hl : ∀ j ∈ late, j ∈ blk) (hi : ops[i]? = some oi) (hsel : ∀ (j : Nat) (o : Oper) cs b, ops[j]? = some o → o.op ≠ .select cs b)
    (hQ : ∀ c a w, Q (.panic c) (a.put oi.dst v) w → Q (.panic c) a w) :
    ∀ (fuel : Nat) (listed : Array Bool) (a : Act) (w : World),
      (∀ j oj, ops[j]? = some oj → j ≠ i → listed.getD j true = false → (∀ e ∈ oj.after, Region.binds md e = true → e.on ≠ i) → oi.apart ops oj = true) →
      blocked md ops blk listed i = true →
      i ∈ Region.ready md ops listed → YieldsIf P ops S oi v a → S w →
      wpAnyL P md ops Q S late fuel (listed.setIfInBounds i true) (a.put oi.dst v) w → wpAnyL P md ops Q S late (fuel + 1) listed a w := by
  intro fuel
  induction fuel with
  | zero =>
    intro listed a w _ _ hr hy hS H
    refine ⟨fun h => (by rw [h] at hr; cases hr), fun j hj => ?_⟩
    by_cases hji : j = i
    · subst hji; exact hy.wpOp hi hS ⟨fun _ => hS, H⟩
    · have := ready_mono hj hji
      rw [H.1] at this
      cases this
  | succ fuel ih =>
    intro listed a w hfree hblk hr hy hS H
    refine ⟨fun h => (by rw [h] at hr; cases hr), fun j hj => ?_⟩
    by_cases hji : j = i
    · subst hji; exact hy.wpOp hi hS ⟨fun _ => hS, H⟩
    · have h1 := H.2 j (ready_mono hj hji)
      obtain ⟨hjun, oj, hoj, hall⟩ := mem_ready.1 hj
      have hiun := (mem_ready.1 hr).1
      have hjb : j ∉ blk := fun hb => blocked_not_ready hblk hiun hb hj
      have hnot : ∀ e ∈ oj.after, Region.binds md e = true → e.on ≠ i := fun e he hb heq => by
        have h1 := hall e he hb
        rw [heq] at h1
        exact un_false hiun h1
      have h2 := wpOp_putIf hoj (hfree j oj hoj hji hjun hnot) (fun cs b => hsel i oi cs b hi) (fun cs b => hsel j oj cs b hoj) hQ hy h1
      have hfree' : ∀ k ok, ops[k]? = some ok → k ≠ i → (listed.setIfInBounds j true).getD k true = false →
          (∀ e ∈ ok.after, Region.binds md e = true → e.on ≠ i) → oi.apart ops ok = true := fun k ok hk hki hun hno => by
        refine hfree k ok hk hki ?_ hno
        by_cases hjk : j = k
        · subst hjk; exact hjun
        · rw [getD_set_ne true hjk] at hun; exact hun
      refine wpOp_mono (fun a' w' h3 => ?_) h2
      have hS' := h3.2.1 fun hx => hjb (hl j hx)
      refine ⟨fun _ => hS', ih (listed.setIfInBounds j true) a' w' hfree' (blocked_set hblk hjb) (ready_mono hr (Ne.symm hji)) h3.1 hS' ?_⟩
      rw [Array.setIfInBounds_comm _ _ hji]
      exact h3.2.2

/-- Take number i first. -/
theorem wpAnyL_take {i : Nat} {oi : Oper} {v : Value} {fuel : Nat} {listed : Array Bool} {a : Act} {w : World} (blk : List Nat) (hi : ops[i]? = some oi)
    (hs : Region.noSelect ops = true) (hf : Region.free md ops listed i = true) (hr : (Region.ready md ops listed).contains i = true)
    (hl : (late.all fun j => blk.contains j) = true) (hb : blocked md ops blk listed i = true)
    (hQ : ∀ c a w, Q (.panic c) (a.put oi.dst v) w → Q (.panic c) a w) (hy : YieldsIf P ops S oi v a) (hS : S w)
    (h : wpAnyL P md ops Q S late fuel (listed.setIfInBounds i true) (a.put oi.dst v) w) : wpAnyL P md ops Q S late (fuel + 1) listed a w :=
  wpAnyL_first (blk := blk) (fun j hj => by simpa using List.all_eq_true.1 hl j hj) hi (Region.noSelect_spec hs) hQ fuel listed a w (Region.free_spec hi hf) hb (by simpa using hr) hy hS h

/-- In a state, in every world that meets S, an operation leaves v in its temporary and does nothing else; it may be a call. -/
def YieldsQ (P : Program) (ops : Array Oper) (S : World → Prop) (o : Oper) (v : Value) (a : Act) : Prop :=
  (Region.wanted o (yielded ops a.tmps) = true ∧ ∀ w, S w → ∀ (a' : Act) (K : Act → World → Prop) (Q : Exit → Act → World → Prop), K (a'.put o.dst v) w → o.upon P a' K Q ((execOp a.eval o).run P w)) ∨
  (Region.wanted o (yielded ops a.tmps) = false ∧ v = undef)
theorem YieldsQ.wpOp {i : Nat} {o : Oper} {v : Value} {a : Act} (hi : ops[i]? = some o) (hy : YieldsQ P ops S o v a)
    {K : Act → World → Prop} {w : World} (hS : S w) (h : K (a.put o.dst v) w) : wpOp P ops Q i K a w := by
  unfold Go.wpOp
  simp only [hi]
  rcases hy with ⟨hw, hv⟩ | ⟨hw, rfl⟩
  · simp only [hw, if_true]; exact .inl (hv w hS a K Q h)
  · simp only [hw, Bool.false_eq_true, if_false]; exact h
theorem YieldsQ.of_same {o : Oper} {v : Value} {a a' : Act} (hy : YieldsQ P ops S o v a) (he : execOp a'.eval o = execOp a.eval o)
    (hw : Region.wanted o (yielded ops a'.tmps) = Region.wanted o (yielded ops a.tmps)) : YieldsQ P ops S o v a' := by
  unfold YieldsQ at *
  rw [he, hw]
  exact hy
theorem wpOp_putQ {j : Nat} {oi oj : Oper} {v : Value} (hj : ops[j]? = some oj) (hap : oi.apart ops oj = true)
    (hsi : ∀ cs b, oi.op ≠ .select cs b) (hsj : ∀ cs b, oj.op ≠ .select cs b)
    (hQ : ∀ c a w, Q (.panic c) (a.put oi.dst v) w → Q (.panic c) a w) {K : Act → World → Prop} {a : Act} {w : World}
    (hy : YieldsQ P ops S oi v a) (h : wpOp P ops Q j K (a.put oi.dst v) w) :
    wpOp P ops Q j (fun a' w' => YieldsQ P ops S oi v a' ∧ K (a'.put oi.dst v) w') a w := by
  obtain ⟨h1, h2, h3⟩ := Oper.apart_spec hap
  have keep : ∀ (a : Act), YieldsQ P ops S oi v a → ∀ u, YieldsQ P ops S oi v (a.put oj.dst u) := fun a hy u =>
    hy.of_same (execOp_put oi hsi a oj.dst u h3) (wanted_put oi a oj.dst u h3)
  have keepD : ∀ d, YieldsQ P ops S oi v { a with defers := d :: a.defers } := fun d => hy.of_same rfl rfl
  unfold wpOp at *
  simp only [hj] at *
  rw [wanted_put oj a oi.dst v h1] at h
  split
  · rename_i hw
    simp only [hw, if_true] at h
    rcases h with h | ⟨hasks, hlets⟩
    case inr => exact .inr ⟨by unfold Oper.asks at *; rw [execOp_put oj hsj a oi.dst v h1] at hasks; exact hasks, hlets⟩
    refine .inl ?_
    unfold Oper.wp at *
    rw [execOp_put oj hsj a oi.dst v h1] at h
    generalize (execOp a.eval oj).run P w = r at *
    cases r with
    | ok n w' =>
      cases n <;> simp only [Oper.upon] at h ⊢
      case value u => exact ⟨keep a hy u, by rw [← Act.put_comm a v u h2]; exact h⟩
      case skip => exact ⟨keep a hy _, by rw [← Act.put_comm a v undef h2]; exact h⟩
      case defer d =>
        refine ⟨keep _ (keepD d) _, ?_⟩
        rw [← Act.put_comm _ v undef h2, ← Act.put_defers]
        exact h
      case enter f args =>
        refine Calls.mono h fun e w'' he => ?_
        cases e with
        | returned u => exact ⟨keep a hy u, by rw [← Act.put_comm a v u h2]; exact he⟩
        | panicked c => exact hQ _ _ _ he
        | outgrown => exact he
      case row row args => exact Rows.mono h fun u w'' he => ⟨keep a hy u, by rw [← Act.put_comm a v u h2]; exact he⟩
    | halt x w' =>
      cases x <;> simp only [Oper.upon] at h ⊢
      case panic u => exact hQ _ _ _ h
  · rename_i hw
    simp only [hw] at h
    exact ⟨keep a hy _, by rw [← Act.put_comm a v undef h2]; exact h⟩
theorem wpAnyL_firstQ {i : Nat} {oi : Oper} {v : Value} {blk : List Nat} (hl : ∀ j ∈ late, j ∈ blk) (hi : ops[i]? = some oi) (hsel : ∀ (j : Nat) (o : Oper) cs b, ops[j]? = some o → o.op ≠ .select cs b)
    (hQ : ∀ c a w, Q (.panic c) (a.put oi.dst v) w → Q (.panic c) a w) :
    ∀ (fuel : Nat) (listed : Array Bool) (a : Act) (w : World),
      (∀ j oj, ops[j]? = some oj → j ≠ i → listed.getD j true = false → (∀ e ∈ oj.after, Region.binds md e = true → e.on ≠ i) → oi.apart ops oj = true) →
      blocked md ops blk listed i = true →
      i ∈ Region.ready md ops listed → YieldsQ P ops S oi v a → S w →
      wpAnyL P md ops Q S late fuel (listed.setIfInBounds i true) (a.put oi.dst v) w → wpAnyL P md ops Q S late (fuel + 1) listed a w := by
  intro fuel
  induction fuel with
  | zero =>
    intro listed a w _ _ hr hy hS H
    refine ⟨fun h => (by rw [h] at hr; cases hr), fun j hj => ?_⟩
    by_cases hji : j = i
    · subst hji; exact hy.wpOp hi hS ⟨fun _ => hS, H⟩
    · have := ready_mono hj hji
      rw [H.1] at this
      cases this
  | succ fuel ih =>
    intro listed a w hfree hblk hr hy hS H
    refine ⟨fun h => (by rw [h] at hr; cases hr), fun j hj => ?_⟩
    by_cases hji : j = i
    · subst hji; exact hy.wpOp hi hS ⟨fun _ => hS, H⟩
    · have h1 := H.2 j (ready_mono hj hji)
      obtain ⟨hjun, oj, hoj, hall⟩ := mem_ready.1 hj
      have hiun := (mem_ready.1 hr).1
      have hjb : j ∉ blk := fun hb => blocked_not_ready hblk hiun hb hj
      have hnot : ∀ e ∈ oj.after, Region.binds md e = true → e.on ≠ i := fun e he hb heq => by
        have h1 := hall e he hb
        rw [heq] at h1
        exact un_false hiun h1
      have h2 := wpOp_putQ hoj (hfree j oj hoj hji hjun hnot) (fun cs b => hsel i oi cs b hi) (fun cs b => hsel j oj cs b hoj) hQ hy h1
      have hfree' : ∀ k ok, ops[k]? = some ok → k ≠ i → (listed.setIfInBounds j true).getD k true = false →
          (∀ e ∈ ok.after, Region.binds md e = true → e.on ≠ i) → oi.apart ops ok = true := fun k ok hk hki hun hno => by
        refine hfree k ok hk hki ?_ hno
        by_cases hjk : j = k
        · subst hjk; exact hjun
        · rw [getD_set_ne true hjk] at hun; exact hun
      refine wpOp_mono (fun a' w' h3 => ?_) h2
      have hS' := h3.2.1 fun hx => hjb (hl j hx)
      refine ⟨fun _ => hS', ih (listed.setIfInBounds j true) a' w' hfree' (blocked_set hblk hjb) (ready_mono hr (Ne.symm hji)) h3.1 hS' ?_⟩
      rw [Array.setIfInBounds_comm _ _ hji]
      exact h3.2.2
/-- Take number i first, a call that does nothing to the world. -/
theorem wpAnyL_takeQ {i : Nat} {oi : Oper} {v : Value} {fuel : Nat} {listed : Array Bool} {a : Act} {w : World} (blk : List Nat) (hi : ops[i]? = some oi)
    (hs : Region.noSelect ops = true) (hf : Region.free md ops listed i = true) (hr : (Region.ready md ops listed).contains i = true)
    (hl : (late.all fun j => blk.contains j) = true) (hb : blocked md ops blk listed i = true)
    (hQ : ∀ c a w, Q (.panic c) (a.put oi.dst v) w → Q (.panic c) a w) (hy : YieldsQ P ops S oi v a) (hS : S w)
    (h : wpAnyL P md ops Q S late fuel (listed.setIfInBounds i true) (a.put oi.dst v) w) : wpAnyL P md ops Q S late (fuel + 1) listed a w :=
  wpAnyL_firstQ (blk := blk) (fun j hj => by simpa using List.all_eq_true.1 hl j hj) hi (Region.noSelect_spec hs) hQ fuel listed a w (Region.free_spec hi hf) hb (by simpa using hr) hy hS h

/-- A call of a Go function whose contract says that the world is as it was. -/
theorem YieldsQ.call {o : Oper} {a : Act} {v : Value} (hw : Region.wanted o (yielded ops a.tmps) = true) (f : FuncId) (args : List Operand) (ts : Array TypeId)
    (hop : o.op = Op.call { callee := Callee.value (.func f), args := args.toArray, argTypes := ts }) (us : List Value) (hu : args.map a.eval = us) (hf : a.eval (.func f) = .func (.func f) #[] #[])
    (hent : ∀ (args : Array Value) (wx : World), (callFunc f args).run P wx = .ok (.enter f args) wx) (hc : ∀ w, S w → Calls P f us.toArray w fun e w' => e = .returned v ∧ w' = w) : YieldsQ P ops S o v a := by
  refine .inl ⟨hw, fun w hS a' K Q hK => ?_⟩
  simp [execOp, hop, resolve, invoke, hf, hu, hent, Deferred.ofValue, Oper.upon]
  refine (hc w hS).mono ?_
  rintro e w' ⟨rfl, rfl⟩
  exact hK

/-- Take number i first, though it is one of the late ones, if it yields in whatever world. -/
theorem wpAnyL_firstP {i : Nat} {oi : Oper} {v : Value} (hl : i ∈ late) (hi : ops[i]? = some oi) (hsel : ∀ (j : Nat) (o : Oper) cs b, ops[j]? = some o → o.op ≠ .select cs b)
    (hQ : ∀ c a w, Q (.panic c) (a.put oi.dst v) w → Q (.panic c) a w) :
    ∀ (fuel : Nat) (listed : Array Bool) (a : Act) (w : World),
      (∀ j oj, ops[j]? = some oj → j ≠ i → listed.getD j true = false → (∀ e ∈ oj.after, Region.binds md e = true → e.on ≠ i) → oi.apart ops oj = true) →
      i ∈ Region.ready md ops listed → Yields P ops oi v a →
      wpAnyL P md ops Q S late fuel (listed.setIfInBounds i true) (a.put oi.dst v) w → wpAnyL P md ops Q S late (fuel + 1) listed a w := by
  intro fuel
  induction fuel with
  | zero =>
    intro listed a w _ hr hy H
    refine ⟨fun h => (by rw [h] at hr; cases hr), fun j hj => ?_⟩
    by_cases hji : j = i
    · subst hji; exact hy.wpOp hi ⟨fun h => absurd hl h, H⟩
    · have := ready_mono hj hji
      rw [H.1] at this
      cases this
  | succ fuel ih =>
    intro listed a w hfree hr hy H
    refine ⟨fun h => (by rw [h] at hr; cases hr), fun j hj => ?_⟩
    by_cases hji : j = i
    · subst hji; exact hy.wpOp hi ⟨fun h => absurd hl h, H⟩
    · have h1 := H.2 j (ready_mono hj hji)
      obtain ⟨hjun, oj, hoj, hall⟩ := mem_ready.1 hj
      have hiun := (mem_ready.1 hr).1
      have hnot : ∀ e ∈ oj.after, Region.binds md e = true → e.on ≠ i := fun e he hb heq => by
        have h1 := hall e he hb
        rw [heq] at h1
        exact un_false hiun h1
      have h2 := wpOp_put hoj (hfree j oj hoj hji hjun hnot) (fun cs b => hsel i oi cs b hi) (fun cs b => hsel j oj cs b hoj) hQ hy h1
      have hfree' : ∀ k ok, ops[k]? = some ok → k ≠ i → (listed.setIfInBounds j true).getD k true = false →
          (∀ e ∈ ok.after, Region.binds md e = true → e.on ≠ i) → oi.apart ops ok = true := fun k ok hk hki hun hno => by
        refine hfree k ok hk hki ?_ hno
        by_cases hjk : j = k
        · subst hjk; exact hjun
        · rw [getD_set_ne true hjk] at hun; exact hun
      refine wpOp_mono (fun a' w' h3 => ?_) h2
      refine ⟨h3.2.1, ih (listed.setIfInBounds j true) a' w' hfree' (ready_mono hr (Ne.symm hji)) h3.1 ?_⟩
      rw [Array.setIfInBounds_comm _ _ hji]
      exact h3.2.2
theorem wpAnyL_takeP {i : Nat} {oi : Oper} {v : Value} {fuel : Nat} {listed : Array Bool} {a : Act} {w : World} (hl : late.contains i = true) (hi : ops[i]? = some oi)
    (hs : Region.noSelect ops = true) (hf : Region.free md ops listed i = true) (hr : (Region.ready md ops listed).contains i = true)
    (hQ : ∀ c a w, Q (.panic c) (a.put oi.dst v) w → Q (.panic c) a w) (hy : Yields P ops oi v a)
    (h : wpAnyL P md ops Q S late fuel (listed.setIfInBounds i true) (a.put oi.dst v) w) : wpAnyL P md ops Q S late (fuel + 1) listed a w :=
  wpAnyL_firstP (by simpa using hl) hi (Region.noSelect_spec hs) hQ fuel listed a w (Region.free_spec hi hf) (by simpa using hr) hy h

/-! ### Whichever comes up -/
def AllL (P : Program) (md : Region.Mode) (ops : Array Oper) (Q : Exit → Act → World → Prop) (S : World → Prop) (late : List Nat) (fuel : Nat) (listed : Array Bool) (a : Act) (w : World) (rs : List Nat) : Prop :=
  ∀ i ∈ rs, wpOp P ops Q i (fun a' w' => (i ∉ late → S w') ∧ wpAnyL P md ops Q S late fuel (listed.setIfInBounds i true) a' w') a w
theorem AllL.nil {fuel : Nat} {listed : Array Bool} {a : Act} {w : World} : AllL P md ops Q S late fuel listed a w [] := fun _ h => by cases h
theorem AllL.cons {fuel : Nat} {listed : Array Bool} {a : Act} {w : World} {i : Nat} {o : Oper} {rs : List Nat} (ho : ops[i]? = some o)
    (h : ∀ K : Act → World → Prop, (∀ v w', ((i ∉ late → S w') ∧ wpAnyL P md ops Q S late fuel (listed.setIfInBounds i true) (a.put o.dst v) w') → K (a.put o.dst v) w') → if Region.wanted o (yielded ops a.tmps) = true then Oper.wp P o a w K Q else K (a.put o.dst undef) w)
    (hs : AllL P md ops Q S late fuel listed a w rs) : AllL P md ops Q S late fuel listed a w (i :: rs) := fun j hj => by
  rcases List.mem_cons.1 hj with rfl | hj
  · exact wpOp_step ho fun K' hK' => h K' fun v w' hh => hK' _ _ hh
  · exact hs j hj
theorem wpAnyL_ready {rs : List Nat} {fuel : Nat} {listed : Array Bool} {a : Act} {w : World} (hr : Region.ready md ops listed = rs) (hne : rs ≠ []) (h : AllL P md ops Q S late fuel listed a w rs) : wpAnyL P md ops Q S late (fuel + 1) listed a w :=
  ⟨fun h0 => absurd (hr ▸ h0) hne, hr ▸ h⟩

/-! ### One proof for each operation -/

def upd {α : Type} (f : Nat → α) (i : Nat) (v : α) : Nat → α := fun j => if j = i then v else f j

/-- The state in which these have come up, with these values. -/
def putAll (xs : Nat → Value) : List (Nat × Option Tmp) → Act → Act
  | [], a => a
  | p :: ds, a => putAll xs ds (a.put p.2 (xs p.1))

theorem put_size (a : Act) (d : Option Tmp) (v : Value) : (a.put d v).tmps.size = a.tmps.size := by cases d <;> simp [Act.put]
theorem put_defers' (a : Act) (d : Option Tmp) (v : Value) : (a.put d v).defers = a.defers := by cases d <;> rfl
theorem put_at (a : Act) (d : Option Tmp) (v : Value) (t : Tmp) : (a.put d v).tmps[t]? = if d = some t then (if t < a.tmps.size then some v else none) else a.tmps[t]? := by
  cases d with
  | none => simp [Act.put]
  | some d =>
    simp only [Act.put, Array.getElem?_setIfInBounds, Option.some.injEq]
    by_cases h : d = t
    · subst h; simp
    · simp [h]
theorem putAll_size (xs : Nat → Value) : ∀ (ds : List (Nat × Option Tmp)) (a : Act), (putAll xs ds a).tmps.size = a.tmps.size
  | [], _ => rfl
  | _ :: ds, _ => (putAll_size xs ds _).trans (put_size ..)
theorem putAll_defers (xs : Nat → Value) : ∀ (ds : List (Nat × Option Tmp)) (a : Act), (putAll xs ds a).defers = a.defers
  | [], _ => rfl
  | _ :: ds, _ => (putAll_defers xs ds _).trans (put_defers' ..)
theorem putAll_ne (xs : Nat → Value) (t : Tmp) : ∀ (ds : List (Nat × Option Tmp)) (a : Act), (∀ p ∈ ds, p.2 ≠ some t) → (putAll xs ds a).tmps[t]? = a.tmps[t]?
  | [], _, _ => rfl
  | p :: ds, a, h => by
    rw [putAll, putAll_ne xs t ds _ (fun q hq => h q (by simp [hq])), put_at, if_neg (h p (by simp))]
theorem putAll_at (xs : Nat → Value) (t : Tmp) (i : Nat) : ∀ (ds : List (Nat × Option Tmp)) (a : Act), ((ds.map (·.2)).filter (·.isSome)).Nodup → (i, some t) ∈ ds → (putAll xs ds a).tmps[t]? = if t < a.tmps.size then some (xs i) else none
  | [], _, _, h => by simp at h
  | p :: ds, a, hn, h => by
    by_cases hp : p.2 = some t
    · have hnot : ∀ q ∈ ds, q.2 ≠ some t := fun q hq e => by
        simp only [List.map_cons, List.filter_cons, hp, Option.isSome_some, if_true, List.nodup_cons] at hn
        exact hn.1 (List.mem_filter.2 ⟨List.mem_map.2 ⟨q, hq, e⟩, rfl⟩)
      have : p = (i, some t) := by
        rcases List.mem_cons.1 h with h | h
        · exact h.symm
        · exact absurd rfl (hnot _ h)
      subst this
      rw [putAll, putAll_ne xs t ds _ hnot, put_at, if_pos rfl]
    · have hm : (i, some t) ∈ ds := by
        rcases List.mem_cons.1 h with h | h
        · exact absurd (by rw [← h]) hp
        · exact h
      have hn' : ((ds.map (·.2)).filter (·.isSome)).Nodup := by
        simp only [List.map_cons, List.filter_cons] at hn
        split at hn
        · exact (List.nodup_cons.1 hn).2
        · exact hn
      rw [putAll, putAll_at xs t i ds _ hn' hm, put_size]
theorem putAll_congr (xs ys : Nat → Value) (t : Tmp) : ∀ (ds : List (Nat × Option Tmp)) (a b : Act), a.tmps.size = b.tmps.size → a.tmps[t]? = b.tmps[t]? → (∀ p ∈ ds, p.2 = some t → xs p.1 = ys p.1) → (putAll xs ds a).tmps[t]? = (putAll ys ds b).tmps[t]?
  | [], _, _, _, h, _ => h
  | p :: ds, a, b, hs, h, hc => by
    rw [putAll, putAll]
    refine putAll_congr xs ys t ds _ _ (by rw [put_size, put_size, hs]) ?_ (fun q hq => hc q (by simp [hq]))
    rw [put_at, put_at, hs, h]
    by_cases hp : p.2 = some t
    · rw [if_pos hp, if_pos hp, hc p (by simp) hp]
    · rw [if_neg hp, if_neg hp]

/-- A state agrees with the one in which all have come up, but for what has not. -/
structure Agr (ds : List (Nat × Option Tmp)) (L : Nat → Bool) (xs : Nat → Value) (a0 a : Act) : Prop where
  defers : a.defers = a0.defers
  size : a.tmps.size = a0.tmps.size
  at' : ∀ t, (∀ p ∈ ds, L p.1 = false → p.2 ≠ some t) → a.tmps[t]? = (putAll xs ds a0).tmps[t]?

/-- Each one waits only for what has come up, or stands ahead of it. -/
def topo (md : Region.Mode) (ops : Array Oper) (L0 : Array Bool) : List Nat → List (Nat × Option Tmp) → Bool
  | _, [] => true
  | seen, p :: ds => (match ops[p.1]? with
    | some o => o.after.all fun e => !Region.binds md e || L0.getD e.on false || seen.contains e.on
    | none => false) && topo md ops L0 (p.1 :: seen) ds

theorem topo_spec {L0 : Array Bool} {L : Nat → Bool} : ∀ (ds : List (Nat × Option Tmp)) (seen : List Nat), topo md ops L0 seen ds = true → (∀ s ∈ seen, L s = true) → (∃ p ∈ ds, L p.1 = false) →
    ∃ p ∈ ds, L p.1 = false ∧ ∃ o, ops[p.1]? = some o ∧ ∀ e ∈ o.after, Region.binds md e = true → L0.getD e.on false = true ∨ (L e.on = true ∧ (e.on ∈ seen ∨ ∃ q ∈ ds, q.1 = e.on))
  | [], _, _, _, h => by obtain ⟨_, h, _⟩ := h; cases h
  | p :: ds, seen, h, hs, hx => by
    rw [topo, Bool.and_eq_true] at h
    cases hL : L p.1 with
    | false =>
      refine ⟨p, by simp, hL, ?_⟩
      cases ho : ops[p.1]? with
      | none => simp [ho] at h
      | some o =>
        have h1 := h.1
        simp only [ho] at h1
        refine ⟨o, rfl, fun e he hb => ?_⟩
        have h2 := Array.all_eq_true_iff_forall_mem.1 h1 e he
        simp only [hb, Bool.not_true, Bool.false_or, Bool.or_eq_true, List.contains_iff_mem] at h2
        rcases h2 with h2 | h2
        · exact .inl h2
        · exact .inr ⟨hs _ h2, .inl h2⟩
    | true =>
      have hx' : ∃ q ∈ ds, L q.1 = false := by
        obtain ⟨q, hq, hf⟩ := hx
        rcases List.mem_cons.1 hq with e | hq
        · rw [e, hL] at hf; cases hf
        · exact ⟨q, hq, hf⟩
      obtain ⟨q, hq, hf, o, ho, hall⟩ := topo_spec ds (p.1 :: seen) h.2 (fun s hs' => by
        rcases List.mem_cons.1 hs' with e | hs'
        · rw [e]; exact hL
        · exact hs s hs') hx'
      refine ⟨q, by simp [hq], hf, o, ho, fun e he hb => (hall e he hb).imp id fun ⟨h1, h2⟩ => ⟨h1, ?_⟩⟩
      rcases h2 with h2 | ⟨r, hr, he⟩
      · rcases List.mem_cons.1 h2 with h2 | h2
        · exact .inr ⟨p, by simp, h2.symm⟩
        · exact .inl h2
      · exact .inr ⟨r, by simp [hr], he⟩

/-- What the rule asks of the region's text: these come up ahead of all others that have not. -/
def checkJ (md : Region.Mode) (ops : Array Oper) (L0 : Array Bool) (ds : List (Nat × Option Tmp)) : Bool :=
  topo md ops L0 [] ds && Region.noSelect ops && decide ((ds.map (·.1)).Nodup) && decide (((ds.map (·.2)).filter (·.isSome)).Nodup) &&
  (ds.all fun p => blocked md ops ((List.range ops.size).filter fun j => !L0.getD j true && !(ds.map (·.1)).contains j) L0 p.1) &&
  (ds.all fun p => decide (L0[p.1]? = some false) && match ops[p.1]? with
    | none => false
    | some o => o.dst == p.2 && (o.looksAt ops).all fun t => ds.all fun q => !(q.2 == some t) || o.after.any fun e => Region.binds md e && e.on == q.1)

structure Cj (md : Region.Mode) (ops : Array Oper) (L0 : Array Bool) (ds : List (Nat × Option Tmp)) : Prop where
  topo : topo md ops L0 [] ds = true
  sel : Region.noSelect ops = true
  n1 : (ds.map (·.1)).Nodup
  n2 : ((ds.map (·.2)).filter (·.isSome)).Nodup
  all : ∀ p ∈ ds, blocked md ops ((List.range ops.size).filter fun j => !L0.getD j true && !(ds.map (·.1)).contains j) L0 p.1 = true
  un : ∀ p ∈ ds, L0[p.1]? = some false
  op : ∀ p ∈ ds, ∃ o, ops[p.1]? = some o ∧ o.dst = p.2 ∧ ∀ t ∈ o.looksAt ops, ∀ q ∈ ds, q.2 = some t → ∃ e ∈ o.after, Region.binds md e = true ∧ e.on = q.1

theorem checkJ_spec {L0 : Array Bool} {ds : List (Nat × Option Tmp)} (h : checkJ md ops L0 ds = true) : Cj md ops L0 ds := by
  unfold checkJ at h
  simp only [Bool.and_eq_true, decide_eq_true_eq] at h
  obtain ⟨⟨⟨⟨⟨h0, h1⟩, h2⟩, h3⟩, h4⟩, h5⟩ := h
  refine ⟨h0, h1, h2, h3, fun p hp => List.all_eq_true.1 h4 p hp, fun p hp => ?_, fun p hp => ?_⟩
  · have := List.all_eq_true.1 h5 p hp
    simp only [Bool.and_eq_true, decide_eq_true_eq] at this
    exact this.1
  · have := List.all_eq_true.1 h5 p hp
    simp only [Bool.and_eq_true] at this
    cases ho : ops[p.1]? with
    | none => simp [ho] at this
    | some o =>
      have h6 := this.2
      simp only [ho, Bool.and_eq_true, beq_iff_eq] at h6
      refine ⟨o, rfl, h6.1, fun t ht q hq e => ?_⟩
      have h7 := List.all_eq_true.1 (List.all_eq_true.1 h6.2 t ht) q hq
      rw [e] at h7
      simp only [BEq.rfl, Bool.not_true, Bool.false_or] at h7
      obtain ⟨e', he, hb⟩ := Array.any_eq_true'.1 h7
      simp only [Bool.and_eq_true, beq_iff_eq] at hb
      exact ⟨e', he, hb.1, hb.2⟩

theorem eval_same {a b : Act} {x : Operand} (h : ∀ t, x = .tmp t → a.tmps[t]? = b.tmps[t]?) : a.eval x = b.eval x := by
  cases x with
  | tmp t => simp only [Act.eval, Array.getD_eq_getD_getElem?, h t rfl]
  | _ => rfl

theorem put_same {F a : Act} {d : Option Tmp} {u v : Value} (hs : a.tmps.size = F.tmps.size) (h : F.put d u = F.put d v) : a.put d u = a.put d v := by
  cases d with
  | none => rfl
  | some t =>
    rcases Nat.lt_or_ge t F.tmps.size with h' | h'
    · have h1 := put_at F (some t) u t
      have h2 := put_at F (some t) v t
      rw [h] at h1
      rw [if_pos rfl, if_pos h'] at h1 h2
      rw [h1] at h2
      rw [Option.some.inj h2]
    · have : ∀ z, a.put (some t) z = a := fun z => by
        unfold Act.put
        simp only
        rw [Array.setIfInBounds_eq_of_size_le (by rw [hs]; exact h')]
      rw [this, this]

/-- What is to be shown of one operation: at any state in which what it waits for has come up. -/
def StepJ (P : Program) (md : Region.Mode) (ops : Array Oper) (S : World → Prop) (late : List Nat) (J : (Nat → Bool) → (Nat → Value) → World → Prop) (ds : List (Nat × Option Tmp)) (a0 : Act) (i : Nat) (o : Oper) : Prop :=
  ∀ (L : Nat → Bool) (xs : Nat → Value) (w : World), L i = false → (∀ e ∈ o.after, Region.binds md e = true → ds.any (fun p => p.1 == e.on) = true → L e.on = true) → J L xs w →
    ∀ K : Act → World → Prop, (∀ v w', ((i ∉ late → S w') ∧ J (upd L i true) (upd xs i v) w') → K ((putAll xs ds a0).put o.dst v) w') →
      if Region.wanted o (yielded ops (putAll xs ds a0).tmps) = true then Oper.wp P o (putAll xs ds a0) w K (fun _ _ _ => False) else K ((putAll xs ds a0).put o.dst undef) w

def AllJ (P : Program) (md : Region.Mode) (ops : Array Oper) (S : World → Prop) (late : List Nat) (J : (Nat → Bool) → (Nat → Value) → World → Prop) (ds : List (Nat × Option Tmp)) (a0 : Act) (es : List (Nat × Option Tmp)) : Prop :=
  ∀ p ∈ es, ∀ o, ops[p.1]? = some o → StepJ P md ops S late J ds a0 p.1 o

theorem AllJ.nil {J : (Nat → Bool) → (Nat → Value) → World → Prop} {ds : List (Nat × Option Tmp)} {a0 : Act} : AllJ P md ops S late J ds a0 [] := fun _ h => by cases h
theorem AllJ.cons {J : (Nat → Bool) → (Nat → Value) → World → Prop} {ds es : List (Nat × Option Tmp)} {a0 : Act} {i : Nat} {d : Option Tmp} {o : Oper} (ho : ops[i]? = some o) (h : StepJ P md ops S late J ds a0 i o) (hs : AllJ P md ops S late J ds a0 es) : AllJ P md ops S late J ds a0 ((i, d) :: es) := fun p hp o' ho' => by
  rcases List.mem_cons.1 hp with rfl | hp
  · rw [ho] at ho'; cases ho'; exact h
  · exact hs p hp o' ho'

theorem Agr.step {ds : List (Nat × Option Tmp)} {L : Nat → Bool} {xs : Nat → Value} {a0 a : Act} (h : Agr ds L xs a0 a) (n1 : (ds.map (·.1)).Nodup) (n2 : ((ds.map (·.2)).filter (·.isSome)).Nodup) {p : Nat × Option Tmp} (hp : p ∈ ds) (v : Value) : Agr ds (upd L p.1 true) (upd xs p.1 v) a0 (a.put p.2 v) := by
  have inj : ∀ q ∈ ds, q.1 = p.1 → q = p := by
    intro q hq e
    clear h n2
    induction ds with
    | nil => cases hp
    | cons r ds ih =>
      simp only [List.map_cons, List.nodup_cons, List.mem_map, not_exists, not_and] at n1
      rcases List.mem_cons.1 hp with h1 | h1 <;> rcases List.mem_cons.1 hq with h2 | h2
      · rw [h1, h2]
      · exact absurd (by rw [e, h1]) (n1.1 q h2)
      · exact absurd (by rw [← e, h2]) (n1.1 p h1)
      · exact ih n1.2 h1 h2
  refine ⟨(put_defers' ..).trans h.defers, (put_size ..).trans h.size, fun t ht => ?_⟩
  by_cases e : p.2 = some t
  · rw [put_at, if_pos e, h.size, putAll_at (upd xs p.1 v) t p.1 ds a0 n2 (by rw [← e]; exact hp)]
    simp [upd]
  · rw [put_at, if_neg e, h.at' t fun q hq hL => ?_]
    · refine putAll_congr xs (upd xs p.1 v) t ds a0 a0 rfl rfl fun q hq hqt => ?_
      have : q.1 ≠ p.1 := fun e' => e (by rw [← inj q hq e']; exact hqt)
      simp [upd, this]
    · by_cases e' : q.1 = p.1
      · rw [inj q hq e']; exact e
      · exact ht q hq (by simpa [upd, e'] using hL)

theorem Agr.done {ds : List (Nat × Option Tmp)} {L : Nat → Bool} {xs : Nat → Value} {a0 a : Act} (h : Agr ds L xs a0 a) (hL : ∀ p ∈ ds, L p.1 = true) : a = putAll xs ds a0 := by
  have h1 : a.tmps = (putAll xs ds a0).tmps := Array.ext_getElem? fun t => h.at' t fun p hp hf => by rw [hL p hp] at hf; cases hf
  have h2 : a.defers = (putAll xs ds a0).defers := h.defers.trans (putAll_defers ..).symm
  cases a
  cases hF : putAll xs ds a0
  simp only [hF] at h1 h2
  rw [h1, h2]

/-- How many have not come up. -/
def lacks (ds : List (Nat × Option Tmp)) (L : Nat → Bool) : Nat := (ds.filter fun p => !L p.1).length
theorem lacks_le (ds : List (Nat × Option Tmp)) (L : Nat → Bool) (i : Nat) : lacks ds (upd L i true) ≤ lacks ds L := by
  unfold lacks
  induction ds with
  | nil => simp
  | cons p ds ih =>
    simp only [List.filter_cons, upd]
    by_cases e : p.1 = i
    · simp only [e, if_true, Bool.not_true, Bool.false_eq_true, if_false]
      unfold upd at ih
      split
      · simp only [List.length_cons]; omega
      · exact ih
    · simp only [e, if_false]
      unfold upd at ih
      split
      · simp only [List.length_cons]; omega
      · exact ih
theorem lacks_eq (ds : List (Nat × Option Tmp)) (L : Nat → Bool) (p : Nat × Option Tmp) (hn : (ds.map (·.1)).Nodup) (hp : p ∈ ds) (hL : L p.1 = false) : lacks ds (upd L p.1 true) + 1 = lacks ds L := by
  induction ds with
  | nil => cases hp
  | cons q ds ih =>
    simp only [List.map_cons, List.nodup_cons, List.mem_map, not_exists, not_and] at hn
    by_cases e : q.1 = p.1
    · have : ds.filter (fun r => !upd L p.1 true r.1) = ds.filter (fun r => !L r.1) := List.filter_congr fun r hr => by
        have : r.1 ≠ p.1 := fun h => hn.1 r hr (by rw [h, e])
        simp [upd, this]
      have h1 : (!upd L p.1 true q.1) = false := by simp [upd, e]
      have h2 : (!L q.1) = true := by rw [e, hL]; rfl
      unfold lacks
      rw [List.filter_cons, List.filter_cons, h1, h2, this]
      simp
    · have hm : p ∈ ds := by
        rcases List.mem_cons.1 hp with h | h
        · exact absurd (by rw [h]) e
        · exact h
      have := ih hn.2 hm
      unfold lacks at *
      simp only [List.filter_cons, upd, e, if_false]
      unfold upd at this
      split
      · simp only [List.length_cons]; omega
      · exact this
theorem lacks_none (ds : List (Nat × Option Tmp)) (L : Nat → Bool) (h : lacks ds L = 0) : ∀ p ∈ ds, L p.1 = true := fun p hp => by
  cases hL : L p.1 with
  | true => rfl
  | false =>
    have : p ∈ ds.filter (fun r => !L r.1) := List.mem_filter.2 ⟨hp, by simp [hL]⟩
    have := List.length_pos_of_mem this
    unfold lacks at h
    omega

/-- What has come up behind these. -/
def setAll : List (Nat × Option Tmp) → Array Bool → Array Bool
  | [], l => l
  | p :: ds, l => setAll ds (l.setIfInBounds p.1 true)
theorem setAll_at : ∀ (ds : List (Nat × Option Tmp)) (l : Array Bool) (j : Nat), (setAll ds l)[j]? = if (∃ p ∈ ds, p.1 = j) ∧ j < l.size then some true else l[j]?
  | [], l, j => by simp [setAll]
  | p :: ds, l, j => by
    rw [setAll, setAll_at ds]
    simp only [Array.size_setIfInBounds, Array.getElem?_setIfInBounds, List.mem_cons, exists_eq_or_imp]
    by_cases h : ∃ q ∈ ds, q.1 = j
    · simp only [h, true_and, or_true]
      by_cases hj : j < l.size
      · simp [hj]
      · rw [if_neg hj, if_neg hj, Array.getElem?_eq_none (by omega)]
        split
        · rw [if_neg (by omega)]
        · rfl
    · simp only [h, false_and, if_false, or_false]
      by_cases e : p.1 = j
      · subst e
        simp only [if_true, true_and]
        split
        · rfl
        · rw [Array.getElem?_eq_none (by omega)]
      · simp [e]

/-- One proof for each operation serves whatever order they come in. -/
theorem wpAnyL_J {ds : List (Nat × Option Tmp)} {L0 : Array Bool} {a0 : Act} (J : (Nat → Bool) → (Nat → Value) → World → Prop) (c : Cj md ops L0 ds) (hs : AllJ P md ops S late J ds a0 ds) (rest : Nat)
    (hend : ∀ xs w L, (∀ p ∈ ds, L p.1 = true) → J L xs w → wpAnyL P md ops Q S late rest (setAll ds L0) (putAll xs ds a0) w) :
    ∀ (fuel : Nat) (listed : Array Bool) (a : Act) (w : World) (L : Nat → Bool) (xs : Nat → Value), fuel = lacks ds L + rest → listed.size = L0.size → (∀ p ∈ ds, listed[p.1]? = some (L p.1)) → (∀ j, (∀ p ∈ ds, p.1 ≠ j) → listed[j]? = L0[j]?) → Agr ds L xs a0 a → J L xs w →
      wpAnyL P md ops Q S late fuel listed a w := by
  have fin : ∀ (listed : Array Bool) (a : Act) (w : World) (L : Nat → Bool) (xs : Nat → Value), listed.size = L0.size → (∀ p ∈ ds, listed[p.1]? = some (L p.1)) → (∀ j, (∀ p ∈ ds, p.1 ≠ j) → listed[j]? = L0[j]?) → Agr ds L xs a0 a → J L xs w → (∀ p ∈ ds, L p.1 = true) → wpAnyL P md ops Q S late rest listed a w := fun listed a w L xs hsz h1 h2 hA hJ hL => by
    have : listed = setAll ds L0 := Array.ext_getElem? fun j => by
      rw [setAll_at]
      by_cases h : ∃ p ∈ ds, p.1 = j
      · obtain ⟨p, hp, e⟩ := h
        have h3 := h1 p hp
        have hlt := (Array.getElem?_eq_some_iff.1 h3).1
        rw [if_pos ⟨⟨p, hp, e⟩, by rw [← e, ← hsz]; exact hlt⟩, ← e, h3, hL p hp]
      · rw [if_neg (fun hx => h hx.1), h2 j fun p hp e => h ⟨p, hp, e⟩]
    rw [this, hA.done hL]
    exact hend xs w L hL hJ
  have allOf : ∀ (listed : Array Bool) (L : Nat → Bool), (∀ p ∈ ds, listed[p.1]? = some (L p.1)) → (∀ j, (∀ p ∈ ds, p.1 ≠ j) → listed[j]? = L0[j]?) → (∃ p ∈ ds, L p.1 = false) → ∀ j ∈ Region.ready md ops listed, ∃ p ∈ ds, p.1 = j ∧ L p.1 = false := fun listed L h1 h2 hx j hj => by
    obtain ⟨hu, o, ho, hall⟩ := mem_ready.1 hj
    have hlt : j < ops.size := (Array.getElem?_eq_some_iff.1 ho).1
    by_cases hm : ∃ p ∈ ds, p.1 = j
    · obtain ⟨p, hp, e⟩ := hm
      refine ⟨p, hp, e, ?_⟩
      have := h1 p hp
      rw [Array.getD_eq_getD_getElem?, ← e, this] at hu
      exact hu
    · exfalso
      obtain ⟨d, hd, hdf⟩ := hx
      have hoth : ∀ k, (∀ p ∈ ds, p.1 ≠ k) → listed.getD k true = L0.getD k true := fun k hk => by
        rw [Array.getD_eq_getD_getElem?, h2 k hk, ← Array.getD_eq_getD_getElem?]
      have hb := c.all d hd
      have mem : ∀ k, k ∈ ((List.range ops.size).filter fun j => !L0.getD j true && !(ds.map (·.1)).contains j) ↔ k < ops.size ∧ L0.getD k true = false ∧ ∀ p ∈ ds, p.1 ≠ k := fun k => by
        rw [List.mem_filter, List.mem_range]
        simp only [Bool.and_eq_true, Bool.not_eq_true', List.contains_eq_mem, List.mem_map, decide_eq_false_iff_not, not_exists, not_and]
      have hun : L0.getD j true = false := by rw [← hoth j fun p hp e => hm ⟨p, hp, e⟩]; exact hu
      obtain ⟨_, o', ho', e, he, hbi, hon⟩ := blocked_spec hb ((mem j).2 ⟨hlt, hun, fun p hp e => hm ⟨p, hp, e⟩⟩)
      rw [ho] at ho'
      cases ho'
      have h3 := hall e he hbi
      rcases hon with hon | hon
      · rw [hon, Array.getD_eq_getD_getElem?, h1 d hd, hdf] at h3
        cases h3
      · obtain ⟨_, h4, h5⟩ := (mem e.on).1 hon
        rw [← hoth _ h5] at h4
        exact un_false h4 h3
  intro fuel
  induction fuel with
  | zero =>
    intro listed a w L xs hf hsz h1 h2 hA hJ
    have hr : rest = 0 := by omega
    have := fin listed a w L xs hsz h1 h2 hA hJ (lacks_none ds L (by omega))
    rw [hr] at this
    exact this
  | succ fuel ih =>
    intro listed a w L xs hf hsz h1 h2 hA hJ
    by_cases hL : ∀ p ∈ ds, L p.1 = true
    · have : lacks ds L = 0 := by
        unfold lacks
        rw [List.length_eq_zero_iff, List.filter_eq_nil_iff]
        intro p hp
        simp [hL p hp]
      have h3 := fin listed a w L xs hsz h1 h2 hA hJ hL
      rw [hf, this, Nat.zero_add]
      exact h3
    have hx : ∃ p ∈ ds, L p.1 = false := by
      obtain ⟨p, h⟩ := Classical.not_forall.1 hL
      obtain ⟨hp, h⟩ := Classical.not_imp.1 h
      exact ⟨p, hp, by simpa using h⟩
    refine ⟨fun hr => ?_, fun j hj => ?_⟩
    · exact absurd hr (by
        obtain ⟨p, hp, hf, o, ho, hall⟩ := topo_spec (L := L) ds [] c.topo (fun _ h => by cases h) hx
        have : p.1 ∈ Region.ready md ops listed := by
          rw [mem_ready]
          refine ⟨by rw [Array.getD_eq_getD_getElem?, h1 p hp, hf]; rfl, o, ho, fun e he hb => ?_⟩
          by_cases hm : ∃ q ∈ ds, q.1 = e.on
          · obtain ⟨q, hq, hqe⟩ := hm
            rcases hall e he hb with h3 | h3
            · have := c.un q hq
              rw [Array.getD_eq_getD_getElem?, ← hqe, this] at h3
              cases h3
            · rw [Array.getD_eq_getD_getElem?, ← hqe, h1 q hq, hqe, h3.1]; rfl
          · have h4 := h2 e.on fun q hq h => hm ⟨q, hq, h⟩
            rcases hall e he hb with h3 | h3
            · rw [Array.getD_eq_getD_getElem?] at h3 ⊢; rw [h4]; exact h3
            · exact absurd (h3.2.resolve_left (by simp)) hm
        intro hr
        rw [hr] at this
        cases this)
    · obtain ⟨p, hp, e, hLp⟩ := allOf listed L h1 h2 hx j hj
      subst e
      obtain ⟨_, o, ho, hall⟩ := mem_ready.1 hj
      obtain ⟨o', ho', hd, hlook⟩ := c.op p hp
      rw [ho] at ho'
      cases ho'
      have waits : ∀ e ∈ o.after, Region.binds md e = true → ∀ q ∈ ds, q.1 = e.on → L e.on = true := fun e he hb q hq eq => by
        have := hall e he hb
        rw [Array.getD_eq_getD_getElem?, ← eq, h1 q hq] at this
        rw [← eq]
        exact this
      have looks : ∀ t ∈ o.looksAt ops, a.tmps[t]? = (putAll xs ds a0).tmps[t]? := fun t ht => hA.at' t fun q hq hLq e => by
        obtain ⟨e', he, hb, hon⟩ := hlook t ht q hq e
        have := waits e' he hb q hq hon.symm
        rw [hon, hLq] at this
        cases this
      have hex : execOp a.eval o = execOp (putAll xs ds a0).eval o := execOp_congr o (fun cs b => Region.noSelect_spec c.sel p.1 o cs b ho) fun x hx => eval_same fun t e => looks t (by
        subst e
        exact List.mem_append_left _ (List.mem_filterMap.2 ⟨.tmp t, by simpa using hx, rfl⟩))
      have hwt : Region.wanted o (yielded ops a.tmps) = Region.wanted o (yielded ops (putAll xs ds a0).tmps) := by
        unfold Region.wanted
        cases hg : o.guard with
        | none => rfl
        | some gw =>
          obtain ⟨g, want⟩ := gw
          have : yielded ops a.tmps g = yielded ops (putAll xs ds a0).tmps g := by
            unfold yielded
            cases ht : (ops[g]?).bind (·.dst) with
            | none => rfl
            | some t =>
              have hl := looks t (by simp [Oper.looksAt, hg, ht])
              simp only [Option.bind_some, hl]
          simp only [this]
      have hst := hs p hp o ho L xs w hLp (fun e he hb hd => by
        obtain ⟨q, hq, hqe⟩ := List.any_eq_true.1 hd
        exact waits e he hb q hq (by simpa using hqe)) hJ
      have go : ∀ v w', ((p.1 ∉ late → S w') ∧ J (upd L p.1 true) (upd xs p.1 v) w') → (p.1 ∉ late → S w') ∧ wpAnyL P md ops Q S late fuel (listed.setIfInBounds p.1 true) (a.put o.dst v) w' := fun v w' h => by
        refine ⟨h.1, ih _ _ _ (upd L p.1 true) (upd xs p.1 v) ?_ ?_ ?_ ?_ ?_ h.2⟩
        · have := lacks_eq ds L p c.n1 hp hLp; omega
        · rw [Array.size_setIfInBounds, hsz]
        · intro q hq
          rw [Array.getElem?_setIfInBounds]
          by_cases e : p.1 = q.1
          · have hlt : p.1 < listed.size := (Array.getElem?_eq_some_iff.1 (h1 p hp)).1
            rw [if_pos e, ← e, if_pos hlt]
            simp [upd]
          · rw [if_neg e, h1 q hq]
            simp [upd, Ne.symm e]
        · intro k hk
          rw [Array.getElem?_setIfInBounds, if_neg (hk p hp), h2 k hk]
        · rw [hd]; exact hA.step c.n1 c.n2 hp v
      have hszt : a.tmps.size = (putAll xs ds a0).tmps.size := hA.size.trans (putAll_size ..).symm
      unfold wpOp
      simp only [ho]
      rw [hwt]
      have hst' := hst (fun a' w' => ∃ v, a' = (putAll xs ds a0).put o.dst v ∧ ((p.1 ∉ late → S w') ∧ J (upd L p.1 true) (upd xs p.1 v) w')) fun v w' h => ⟨v, rfl, h⟩
      have fin' : ∀ u w', (∃ v, (putAll xs ds a0).put o.dst u = (putAll xs ds a0).put o.dst v ∧ ((p.1 ∉ late → S w') ∧ J (upd L p.1 true) (upd xs p.1 v) w')) → (p.1 ∉ late → S w') ∧ wpAnyL P md ops Q S late fuel (listed.setIfInBounds p.1 true) (a.put o.dst u) w' := fun u w' ⟨v, e, h⟩ => by
        rw [put_same hszt e]
        exact go v w' h
      split
      · rename_i hw
        rw [if_pos hw] at hst'
        refine .inl ?_
        unfold Oper.wp at *
        rw [hex]
        generalize (execOp (putAll xs ds a0).eval o).run P w = r at *
        cases r with
        | ok n w' =>
          cases n <;> simp only [Oper.upon] at hst' ⊢
          case value u => exact fin' u w' hst'
          case skip => exact fin' undef w' hst'
          case defer d =>
            obtain ⟨v, e, _⟩ := hst'
            have := congrArg Act.defers e
            rw [put_defers', put_defers'] at this
            simp at this
          case enter f args =>
            refine Calls.mono hst' fun e w'' he => ?_
            cases e with
            | returned u => exact fin' u w'' he
            | panicked c => exact he.elim
            | outgrown => obtain ⟨_, _, h⟩ := he; exact h.elim
          case row row args => exact Rows.mono hst' fun u w'' he => fin' u w'' he
        | halt x w' =>
          cases x <;> simp only [Oper.upon] at hst' ⊢
      · rename_i hw
        rw [if_neg hw] at hst'
        exact fin' undef w hst'

/-- These come up now, in whatever order: one proof for each; then the rest. -/
theorem wpAnyL_seg {listed : Array Bool} {a : Act} {w : World} {fuel : Nat} (ds : List (Nat × Option Tmp)) (rest : Nat) (J : (Nat → Bool) → (Nat → Value) → World → Prop) (hc : checkJ md ops listed ds = true) (hf : fuel = ds.length + rest)
    (h0 : J (fun _ => false) (fun _ => undef) w) (hs : AllJ P md ops S late J ds a ds)
    (hend : ∀ xs w L, (∀ p ∈ ds, L p.1 = true) → J L xs w → wpAnyL P md ops Q S late rest (setAll ds listed) (putAll xs ds a) w) : wpAnyL P md ops Q S late fuel listed a w := by
  have c := checkJ_spec hc
  refine wpAnyL_J J c hs rest hend fuel listed a w (fun _ => false) (fun _ => undef) ?_ rfl c.un (fun _ _ => rfl) ⟨rfl, rfl, fun t ht => ?_⟩ h0
  · unfold lacks
    have : ds.filter (fun p => !(fun _ => false) p.1) = ds := List.filter_eq_self.2 (fun _ _ => rfl)
    rw [this]
    exact hf
  · exact (putAll_ne _ t ds a fun p hp => ht p hp rfl).symm

/-- All have come up. -/
theorem wpAnyL_done {listed : Array Bool} {a : Act} {w : World} (hr : Region.ready md ops listed = []) (h : Q .normal a w) : ∀ fuel, wpAnyL P md ops Q S late fuel listed a w
  | 0 => ⟨hr, h⟩
  | _ + 1 => ⟨fun _ => h, by rw [hr]; simp⟩

/-- This one comes up now, alone. -/
theorem wpAnyL_one {listed : Array Bool} {a : Act} {w : World} {fuel i : Nat} {o : Oper} (hr : Region.ready md ops listed = [i]) (ho : ops[i]? = some o)
    (h : ∀ K : Act → World → Prop, (∀ v w', ((i ∉ late → S w') ∧ wpAnyL P md ops Q S late fuel (listed.setIfInBounds i true) (a.put o.dst v) w') → K (a.put o.dst v) w') → if Region.wanted o (yielded ops a.tmps) = true then Oper.wp P o a w K Q else K (a.put o.dst undef) w) :
    wpAnyL P md ops Q S late (fuel + 1) listed a w := by
  refine ⟨fun h0 => (by rw [hr] at h0; cases h0), fun j hj => ?_⟩
  rw [hr, List.mem_singleton] at hj
  subst hj
  refine wpOp_step ho fun K' hK' => ?_
  exact h K' fun v w' hh => hK' _ _ hh

/-- The beginning. -/
theorem wp_region_late {id : Nat} {a : Act} {w : World} (S : World → Prop) (late : List Nat) (hm : P.follows .mixedOrders = true)
    (h : wpAnyL P .any ops Q S late ops.size (Array.replicate ops.size false) a w.drew) : (Code.region id ops true).wp P Q a w :=
  wp_region_any hm (wpAny_of_late _ _ _ _ h)

/-- What an operation waits for has come up. -/
theorem StepJ.dep {L : Nat → Bool} {ds : List (Nat × Option Tmp)} {o : Oper} (h : ∀ e ∈ o.after, Region.binds md e = true → ds.any (fun p => p.1 == e.on) = true → L e.on = true) (j : Nat)
    (hj : (o.after.any (fun e => Region.binds md e && e.on == j) && ds.any (fun p => p.1 == j)) = true) : L j = true := by
  rw [Bool.and_eq_true] at hj
  obtain ⟨e, he, hb⟩ := Array.any_eq_true'.1 hj.1
  simp only [Bool.and_eq_true, beq_iff_eq] at hb
  have := h e he hb.1 (by rw [hb.2]; exact hj.2)
  rw [hb.2] at this
  exact this
end
end Go.Proofs.Ytnddejdndipddad
