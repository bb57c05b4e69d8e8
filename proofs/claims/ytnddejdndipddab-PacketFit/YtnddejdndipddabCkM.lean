/- What Parse reads, and the function values by which it reads. -/
import Derived.Test.YtnddejdndipddabCkL
import Derived.Laws.BitsAllLaws
set_option maxRecDepth 20000
namespace Go.Proofs.Ytnddejdndipddab
open Go.RowKit

theorem i64_or_nat (a b : Nat) (ha : a < 9223372036854775808) (hb : b < 9223372036854775808) : bits .or .i64 (a : Int) (b : Int) = ((a ||| b : Nat) : Int) := by
  have h : a ||| b < 9223372036854775808 := Nat.or_lt_two_pow (n := 63) ha hb
  have h1 : (BitVec.ofInt 64 (a : Int) ||| BitVec.ofInt 64 (b : Int)).toNat = a ||| b := by
    rw [BitVec.toNat_or, BitVec.ofInt_natCast, BitVec.ofInt_natCast, BitVec.toNat_ofNat, BitVec.toNat_ofNat, Nat.mod_eq_of_lt (by omega), Nat.mod_eq_of_lt (by omega)]
  show IntKind.i64.wrap ((BitVec.ofInt 64 (a : Int) ||| BitVec.ofInt 64 (b : Int)).toNat : Int) = _
  rw [h1]
  simp [IntKind.wrap, IntKind.signed, IntKind.bits]
  omega
theorem be_or (a b : Int) (h1 : 0 ≤ a) (h2 : a < 256) (h3 : 0 ≤ b) (h4 : b < 256) : bits .or .i64 (a * 256) b = 256 * a + b := by
  obtain ⟨x, rfl⟩ := Int.eq_ofNat_of_zero_le h1
  obtain ⟨y, rfl⟩ := Int.eq_ofNat_of_zero_le h3
  have := i64_or_nat (x * 256) y (by omega) (by omega)
  rw [show ((x * 256 : Nat) : Int) = (x : Int) * 256 by simp] at this
  rw [this]
  have h5 := Nat.shiftLeft_add_eq_or_of_lt (i := 8) (b := y) (by omega) x
  rw [Nat.shiftLeft_eq] at h5
  rw [show x * 256 ||| y = x * 256 + y from h5.symm]
  omega

/-- Spans out of bytes. -/
def spansM : List Int → List Sp
  | a :: b :: c :: d :: r => (256 * a + b, 256 * c + d) :: spansM r
  | _ => []
/-- Skips out of bytes. -/
def skipsM : List Int → List Sk
  | a :: f :: b :: c :: r => ⟨a, 256 * b + c, decide (f = 1)⟩ :: skipsM r
  | _ => []
def flagsOk : List Int → Bool
  | _ :: f :: _ :: _ :: r => decide (f ≤ 1) && flagsOk r
  | _ => true
/-- Two bytes, as a number. -/
def be (b : List Int) (i : Nat) : Int := 256 * b.getD i 0 + b.getD (i + 1) 0

def dataM (b : List Int) : Ck := ⟨1, be b 0, b.getD 2 0, be b 4, b.getD 6 0, decide (b.getD 3 0 % 2 = 1), decide (b.getD 3 0 / 2 = 1), b.drop 7, [], 0, []⟩
def sackM (b : List Int) : Ck := ⟨2, be b 0, 0, 0, 0, false, false, [], spansM (b.drop 4), be b 2, []⟩
def forwardM (b : List Int) : Ck := ⟨3, be b 0, 0, 0, 0, false, false, [], [], 0, skipsM (b.drop 2)⟩
def formD (b : List Int) : Bool := decide (7 ≤ b.length ∧ b.getD 3 0 ≤ 3)
def formS (b : List Int) : Bool := decide (4 ≤ b.length ∧ (b.length - 4) % 4 = 0)
def formF (b : List Int) : Bool := decide (2 ≤ b.length ∧ (b.length - 2) % 4 = 0) && flagsOk (b.drop 2)

/-- An errno, and the chunk. -/
def readM (kind : Int) (b : List Int) : Int × Ck :=
  if kind = 1 then (if formD b = true then (0, dataM b) else (2, Ck.zero))
  else if kind = 2 then (if formS b = true then (0, sackM b) else (2, Ck.zero))
  else if kind = 3 then (if formF b = true then (0, forwardM b) else (2, Ck.zero))
  else (1, Ck.zero)

/-- Parse: an errno, the chunk, and how many bytes it has. -/
def parseM (b : List Int) : Int × Ck × Int :=
  if b.length < 2 ∨ (b.length : Int) - 2 < b.getD 1 0 then (8, Ck.zero, 0)
  else
    let r := readM (b.getD 0 0) ((b.drop 2).take (b.getD 1 0).toNat)
    if r.1 ≠ 0 then (r.1, Ck.zero, 0) else if wrongM r.2 ≠ 0 then (wrongM r.2, Ck.zero, 0) else (0, r.2, 2 + b.getD 1 0)

/-- The function values that numbers makes: s is the block of its b, s + 1 that of one, s + 2 that of next. -/
abbrev oneR (s : Nat) : Value := .func (.func 81) #[] #[.pointer (some ⟨s + 2, 0, none⟩), .pointer (some ⟨s, 0, none⟩)]
abbrev twoR (s : Nat) : Value := .func (.func 82) #[] #[.pointer (some ⟨s + 1, 0, none⟩)]

/-- So far it has read. -/
structure Rd (s : Nat) (w : World) (v : Value) (bs : List Int) (k : Nat) : Prop where
  b : w.cell? ⟨s, 0, none⟩ = some v
  one : w.cell? ⟨s + 1, 0, none⟩ = some (oneR s)
  next : w.cell? ⟨s + 2, 0, none⟩ = some (.int .i64 k)
  fz : w.frozen? ⟨s + 2, 0, none⟩ = false
  by' : By s w v bs
  le : k ≤ bs.length

/-- All other blocks. -/
def SR (s : Nat) : Nat → Prop := fun k => k ≠ s + 2
theorem Rd.keep {S : Nat → Prop} {s : Nat} {w w' : World} {v : Value} {bs : List Int} {k : Nat} (h : Rd s w v bs k) (hk : Keep S w w') (hS : ∀ j, j ≤ s + 2 → S j) : Rd s w' v bs k :=
  ⟨(hk.cell (p := ⟨s, 0, none⟩) (hS s (by omega))).trans h.b, (hk.cell (p := ⟨s + 1, 0, none⟩) (hS (s + 1) (by omega))).trans h.one, (hk.cell (p := ⟨s + 2, 0, none⟩) (hS (s + 2) (by omega))).trans h.next, (hk.frozen (p := ⟨s + 2, 0, none⟩) (hS (s + 2) (by omega))).trans h.fz,
    h.by'.below (hk.below fun k hk => hS k (by omega)) (Nat.le_refl _), h.le⟩
theorem Rd.below {s : Nat} {w w' : World} {v : Value} {bs : List Int} {k B : Nat} (h : Rd s w v bs k) (hk : Below B w w') (hS : s + 2 < B) : Rd s w' v bs k :=
  ⟨(hk.cell (p := ⟨s, 0, none⟩) (by show s < B; omega)).trans h.b, (hk.cell (p := ⟨s + 1, 0, none⟩) (by show s + 1 < B; omega)).trans h.one, (hk.cell (p := ⟨s + 2, 0, none⟩) hS).trans h.next, (hk.frozen (p := ⟨s + 2, 0, none⟩) hS).trans h.fz,
    h.by'.below hk (by omega), h.le⟩
theorem Rd.lt {s : Nat} {w : World} {v : Value} {bs : List Int} {k : Nat} (h : Rd s w v bs k) : s + 2 < w.heap.size := World.block_lt_of_cell? _ _ h.next

set_option maxHeartbeats 400000 in
theorem oneR_any (s : Nat) (v : Value) (bs : List Int) (k : Nat) (w : World) (h : Rd s w v bs k) (hk : k < bs.length) :
    Calls Try.prog 81 #[.pointer (some ⟨s + 2, 0, none⟩), .pointer (some ⟨s, 0, none⟩)] w fun e w' => e = .returned (.int .i64 (bs.getD k 0)) ∧ Rd s w' v bs (k + 1) ∧ Keep (SR s) w w' := by
  obtain ⟨h1, h2, h3, h4, h5, h6⟩ := h
  obtain ⟨a, cap, rfl, hc1, hc2⟩ := h5.ex
  obtain ⟨b, off, hb, hix, hcell⟩ := h5.at k hk
  have hbb := h5.2.get k hk
  have z1 := hbb.1
  have z2 := hbb.2
  have hne : b ≠ s + 2 := by omega
  have kp : Keep (SR s) w (w.setCell ⟨s + 2, 0, none⟩ (.int .i64 ((k : Int) + 1))) := (Keep.refl _ w).setCell (by unfold SR; simp) _
  have rd : Rd s (w.setCell ⟨s + 2, 0, none⟩ (.int .i64 ((k : Int) + 1))) (.slice a bs.length cap) bs (k + 1) :=
    ⟨(kp.cell (p := ⟨s, 0, none⟩) (by unfold SR; simp)).trans h1, (kp.cell (p := ⟨s + 1, 0, none⟩) (by unfold SR; simp)).trans h2, World.cell?_setCell_same' _ _ _ (by rw [h3]; rfl), by simpa using h4, h5.below (kp.below (B := s) fun j hj => by unfold SR; omega) (Nat.le_refl _), by omega⟩
  have HQ : Hid _ := And.intro rd kp
  have e1 : bs.getD k 0 = bs[k] := by simp [hk]
  have HE : Hid _ := e1
  have hc2 : (w.setCell ⟨s + 2, 0, none⟩ (.int .i64 ((k : Int) + 1))).cell? ⟨b, off, none⟩ = some (.int .u8 bs[k]) := (kp.cell (p := ⟨b, off, none⟩) hne).trans hcell
  have hb2 := rd.b
  have hn2 := rd.next
  clear hbb h5 h2 kp rd e1
  generalize bs[k] = z at *
  go_enter Try.func81, Try.ntmps81
  go_wp2
  go_ret
  rw [HE.out]
  exact ⟨rfl, HQ.out⟩

theorem enters_N1 (args : Array Value) (wx : World) : (callFunc 81 args).run Try.prog wx = .ok (.enter 81 args) wx := enters_body Try.func81 (by kernel_rfl) rfl args wx

set_option maxHeartbeats 400000 in
theorem twoR_any (s : Nat) (v : Value) (bs : List Int) (k : Nat) (w : World) (h : Rd s w v bs k) (hk : k + 1 < bs.length) :
    Calls Try.prog 82 #[.pointer (some ⟨s + 1, 0, none⟩)] w fun e w' => e = .returned (.int .i64 (be bs k)) ∧ Rd s w' v bs (k + 2) ∧ Keep (SR s) w w' := by
  have z1 := h.one
  have i1 := h.by'.2.get k (by omega)
  have i2 := h.by'.2.get (k + 1) hk
  have e1 : bs.getD k 0 = bs[k] := by simp [show k < bs.length by omega]
  have e2 : bs.getD (k + 1) 0 = bs[k + 1] := by simp [hk]
  have HE : Hid (bits .or .i64 (bs.getD k 0 * 256) (bs.getD (k + 1) 0) = be bs k) := by
    show _ = _
    rw [be_or _ _ (by rw [e1]; exact i1.1) (by rw [e1]; exact i1.2) (by rw [e2]; exact i2.1) (by rw [e2]; exact i2.2)]
    rfl
  have g1 : 0 ≤ bs.getD k 0 := by rw [e1]; exact i1.1
  have g2 : bs.getD k 0 < 256 := by rw [e1]; exact i1.2
  clear i1 i2 e1 e2
  go_enter Try.func82, Try.ntmps82
  go_wp2_with fail
  refine (oneR_any s v bs k _ h (by omega)).mono ?_
  rintro e w1 ⟨rfl, rd1, kp1⟩
  have z2 := rd1.one
  clear z1
  generalize bs.getD k 0 = x at *
  go_wp2_with fail
  refine (oneR_any s v bs (k + 1) _ rd1 hk).mono ?_
  rintro e w2 ⟨rfl, rd2, kp2⟩
  clear z2
  generalize bs.getD (k + 1) 0 = y at *
  go_wp2
  go_ret
  exact ⟨ret_int HE.out, rd2, kp1.trans kp2⟩
end Go.Proofs.Ytnddejdndipddab
