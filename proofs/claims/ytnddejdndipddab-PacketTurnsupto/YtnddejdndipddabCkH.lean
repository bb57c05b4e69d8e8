/- The two function values by which chunk's Bytes writes numbers. -/
import Derived.Test.YtnddejdndipddabCkG
set_option maxRecDepth 20000
namespace Go.Proofs.Ytnddejdndipddab
open Go.RowKit

theorem own_of_block {w w' : World} {base : Nat} {e : TypeId} {size : Nat} {v : Value} {n : Nat} {xs : List Value} (h : w.ownsRow base e size v n xs) (hb : ∀ k, v.ownBlock = some k → w'.heap[k]? = w.heap[k]?) : w'.ownsRow base e size v n xs := by
  refine ⟨h.1, ?_⟩
  rcases h.2 with h2 | ⟨g, cap, cur, rfl, h3, h4, h5⟩
  · exact .inl h2
  · exact .inr ⟨g, cap, cur, rfl, h3, (hb g rfl).trans h4, h5⟩

theorem own_form {w : World} {base : Nat} {e : TypeId} {size : Nat} {v : Value} {n : Nat} {xs : List Value} (h : w.ownsRow base e size v n xs) : ∃ a cap, v = .slice a n cap := by
  rcases h.2 with ⟨rfl, rfl⟩ | ⟨g, cap, cur, rfl, h3, h4, h5⟩
  · exact ⟨none, 0, rfl⟩
  · exact ⟨_, _, rfl⟩

theorem Try.info5 : (Try.prog.info? 5).map (fun i => (i.zero, i.size, i.bytes)) = some (some (.int .u8 0), 1, 1) := by kernel_rfl

/-- Block O holds a slice of bytes of the call's own, which lies in none of the blocks S. -/
def Buf (S : Nat → Prop) (O : Nat) (w : World) (xs : List Int) : Prop :=
  ∃ v, w.cell? ⟨O, 0, none⟩ = some v ∧ w.frozen? ⟨O, 0, none⟩ = false ∧ w.ownsRow 0 5 1 v xs.length (cellsB xs) ∧ (∀ k, v.ownBlock = some k → ¬ S k ∧ k ≠ O) ∧ ¬ S O ∧ (∀ k, S k → k < w.heap.size) ∧ IsB xs

theorem Buf.mono {S S' : Nat → Prop} {O : Nat} {w : World} {xs : List Int} (h : Buf S O w xs) (hs : ∀ k, S' k → S k) : Buf S' O w xs := by
  obtain ⟨v, h1, h2, h3, h4, h5, h6, h7⟩ := h
  exact ⟨v, h1, h2, h3, fun k hk => ⟨fun h => (h4 k hk).1 (hs k h), (h4 k hk).2⟩, fun h => h5 (hs O h), fun k hk => h6 k (hs k hk), h7⟩

theorem Buf.lt {S : Nat → Prop} {O : Nat} {w : World} {xs : List Int} (h : Buf S O w xs) : O < w.heap.size := by
  obtain ⟨v, h1, _⟩ := h
  exact World.block_lt_of_cell? _ _ h1

/-- A new block is kept too. -/
theorem Buf.alloc {S : Nat → Prop} {O : Nat} {w : World} {xs : List Int} (h : Buf S O w xs) (o : Obj) : Buf (fun k => S k ∨ k = w.heap.size) O (w.alloc o) xs := by
  have hO := h.lt
  obtain ⟨v, h1, h2, h3, h4, h5, h6, h7⟩ := h
  refine ⟨v, ?_, ?_, h3.alloc o, fun k hk => ⟨?_, (h4 k hk).2⟩, ?_, ?_, h7⟩
  · rw [World.cell?_alloc_past _ _ _ hO]; exact h1
  · rw [World.frozen?_alloc_past _ _ _ hO]; exact h2
  · have := (h3.lt k hk).2
    rintro (g | g)
    · exact (h4 k hk).1 g
    · omega
  · rintro (g | g)
    · exact h5 g
    · omega
  · rintro k (g | g)
    · have := h6 k g; simp; omega
    · simp; omega

/-- What is stored behind an append. -/
theorem Buf.put {S : Nat → Prop} {O : Nat} {w w' : World} {xs ys : List Int} {v v' : Value} (hc : w.cell? ⟨O, 0, none⟩ = some v) (hf : w.frozen? ⟨O, 0, none⟩ = false) (hav : ∀ k, v.ownBlock = some k → ¬ S k ∧ k ≠ O) (hO : ¬ S O) (hS : ∀ k, S k → k < w.heap.size) (hb : IsB (xs ++ ys))
    (hown : w'.ownsRow 0 5 1 v' (xs.length + ys.length) (cellsB xs ++ cellsB ys)) (hg : w.grownBy w' v.ownBlock) (hv : v'.ownBlock = v.ownBlock ∨ v'.ownBlock = some w.heap.size) :
    Buf S O (w'.setCell ⟨O, 0, none⟩ v') (xs ++ ys) ∧ Keep S w (w'.setCell ⟨O, 0, none⟩ v') := by
  have hOs : O < w.heap.size := World.block_lt_of_cell? _ _ hc
  have hc' : w'.cell? ⟨O, 0, none⟩ = some v := hg.cell hc (by intro e; exact (hav O e.symm).2 rfl)
  have hf' : w'.frozen? ⟨O, 0, none⟩ = false := (World.frozen?_of_block (hg.block O hOs (by intro e; exact (hav O e.symm).2 rfl))).trans hf
  have hav' : ∀ k, v'.ownBlock = some k → ¬ S k ∧ k ≠ O := by
    intro k hk
    rcases hv with h | h
    · exact hav k (h ▸ hk)
    · rw [hk] at h
      simp only [Option.some.injEq] at h
      subst h
      exact ⟨fun hs => absurd (hS _ hs) (Nat.lt_irrefl _), by omega⟩
  refine ⟨⟨v', ?_, by simpa using hf', ?_, hav', hO, ?_, hb⟩, ?_⟩
  · exact World.cell?_setCell_same' _ _ _ (by rw [hc']; rfl)
  · rw [List.length_append, cellsB_append]
    exact own_of_block hown fun k hk => Below.heap_setCell _ _ _ _ (hav' k hk).2
  · intro k hk
    have := hS k hk
    have := hg.size
    simp [World.setCell]
    omega
  · exact ((Keep.refl S w).grown hg hS fun k hk => (hav k hk).1).setCell hO v'

theorem u8wrap (n : Int) : IntKind.u8.wrap n = n % 256 := by
  simp [IntKind.wrap, IntKind.signed, IntKind.bits]

theorem Rw.lit1 (w : World) (u : Value) (t : TypeId) : Rw 1 (w.heap.size + 1) (w.alloc (.cells #[u] t)) (.slice (some ⟨w.heap.size, 0, none⟩) 1 1) 1 [u] := by
  refine ⟨rfl, some ⟨w.heap.size, 0, none⟩, 1, rfl, Nat.le_refl _, by omega, fun h => by simp at h, fun _ => ⟨w.heap.size, 0, rfl, by omega, fun j x hx => ?_⟩⟩
  match j, hx with
  | 0, hx => simp at hx; subst hx; rw [World.cell?_alloc_at _ _ _ _ rfl]; rfl

set_option maxHeartbeats 400000 in
theorem one_any (S : Nat → Prop) (O : Nat) (xs : List Int) (n : Int) (w : World) (h : Buf S O w xs) (hl : xs.length ≤ 1000) :
    Calls Try.prog 48 #[.int .i64 n, .pointer (some ⟨O, 0, none⟩)] w fun e w' => (∃ r, e = .returned r) ∧ Buf S O w' (xs ++ [n % 256]) ∧ Keep S w w' := by
  have hO := h.lt
  obtain ⟨v, h1, h2, h3, h4, h5, h6, h7⟩ := h
  have HW := fun o => h3.alloc o
  have c2 : ∀ o, (w.alloc o).cell? ⟨O, 0, none⟩ = some v := fun o => by rw [World.cell?_alloc_past _ _ _ hO]; exact h1
  have f2 : ∀ o, (w.alloc o).frozen? ⟨O, 0, none⟩ = false := fun o => by rw [World.frozen?_alloc_past _ _ _ hO]; exact h2
  have HH : ∀ o v' w', w'.ownsRow 0 5 1 v' (xs.length + 1) (cellsB xs ++ [.int .u8 (n % 256)]) → (w.alloc o).grownBy w' v.ownBlock → (v'.ownBlock = v.ownBlock ∨ v'.ownBlock = some (w.alloc o).heap.size) →
      w'.cell? ⟨O, 0, none⟩ = some v ∧ w'.frozen? ⟨O, 0, none⟩ = false ∧ Buf S O (w'.setCell ⟨O, 0, none⟩ v') (xs ++ [n % 256]) ∧ Keep S w (w'.setCell ⟨O, 0, none⟩ v') := by
    intro o v' w' a b c
    have hS : ∀ k, S k → k < (w.alloc o).heap.size := fun k hk => by have := h6 k hk; simp; omega
    have := Buf.put (S := S) (ys := [n % 256]) (c2 o) (f2 o) h4 h5 hS (h7.append (fun z hz => by simp at hz; omega)) (by simpa [cellsB] using a) b c
    refine ⟨b.cell (c2 o) (by intro e; exact (h4 O e.symm).2 rfl), (World.frozen?_of_block (b.block O (by simp; omega) (by intro e; exact (h4 O e.symm).2 rfl))).trans (f2 o), this.1, ?_⟩
    exact ((Keep.refl S w).alloc h6 o).trans this.2
  have HL := Rw.lit1 w (.int .u8 (n % 256)) 5
  have hcv : ∀ wx, (convert 3 5 (.int .i64 n)).run Try.prog wx = .ok (.int .u8 (n % 256)) wx := by
    intro wx
    go_simp
    exact u8wrap n
  go_enter Try.func48, Try.ntmps48
  go_wp2_with (at_builtin; refine wpList_append_rw Try.underlying23 Try.info5 rfl (by decide) _ rfl (.tmp 3) (.tmp 6) rfl 0 v xs.length (cellsB xs) rfl (HW _) _ 1 [.int .u8 (n % 256)] _ rfl HL (by intro u hu; simp at hu; subst hu; rfl) (by unfold maxLen; omega) (by omega) (Nat.zero_le _) ?_; intro v' w1 own1 grow1 at1; obtain ⟨a', cap', rfl⟩ := own_form own1; obtain ⟨c3, f3, HQ⟩ := HH _ _ w1 own1 grow1 at1; clear own1 grow1 at1)
  go_end0
  exact ⟨⟨_, rfl⟩, HQ⟩

theorem enters_B1 (args : Array Value) (wx : World) : (callFunc 48 args).run Try.prog wx = .ok (.enter 48 args) wx := enters_body Try.func48 (by kernel_rfl) rfl args wx
theorem enters_B2 (args : Array Value) (wx : World) : (callFunc 49 args).run Try.prog wx = .ok (.enter 49 args) wx := enters_body Try.func49 (by kernel_rfl) rfl args wx

/-- The function value that writes one byte. -/
abbrev oneV (O : Nat) : Value := .func (.func 48) #[] #[.pointer (some ⟨O, 0, none⟩)]

set_option maxHeartbeats 400000 in
theorem two_any (S : Nat → Prop) (O F : Nat) (xs : List Int) (n : Int) (w : World) (h : Buf S O w xs) (hF : S F) (hc : w.cell? ⟨F, 0, none⟩ = some (oneV O)) (hl : xs.length ≤ 998) (h1 : 0 ≤ n) (h2 : n < 65536) :
    Calls Try.prog 49 #[.int .i64 n, .pointer (some ⟨F, 0, none⟩)] w fun e w' => (∃ r, e = .returned r) ∧ Buf S O w' (xs ++ [n / 256, n % 256]) ∧ Keep S w w' := by
  go_enter Try.func49, Try.ntmps49
  go_wp2_with fail
  refine (one_any S O xs (n / 256) _ h (by omega)).mono ?_
  rintro e w1 ⟨⟨r, rfl⟩, hb1, k1⟩
  have hc1 := (k1.cell (p := ⟨F, 0, none⟩) hF).trans hc
  clear hc
  go_wp2_with fail
  refine (one_any S O _ n _ hb1 (by simp; omega)).mono ?_
  rintro e w2 ⟨⟨r2, rfl⟩, hb2, k2⟩
  have HB : Buf S O w2 (xs ++ [n / 256, n % 256]) := by
    rw [List.append_assoc, List.singleton_append, show n / 256 % 256 = n / 256 by omega] at hb2
    exact hb2
  clear hb1 hb2 hc1
  go_wp2
  go_end0
  exact ⟨⟨_, rfl⟩, HB, k1.trans k2⟩
end Go.Proofs.Ytnddejdndipddab
