/-
  No cell of these rows narrows 'for every input' (looked for: loops, veiled, ifaces, maps, wideKeys, modest, calm, conditions, laid).
  DERIVED. THE GIVEN ROWS OF THIS SEAT. 6 by the template 'for every input the law returns true; each argument reads behind the call as it read before'; 0 by the template 'total and deterministic' (their statements: YtnddejdndipddabTotals.lean).
  GIVEN WITH THE SEED: the statements are not yours to turn. If you find one false, say at which input.
  Laid BY PROGRAM, IN A SANDBOX (cutbox-rows.mjs): the forced cells as the released guide's own fill.sh prints them over the translation e7ae781de4ca381b… (all of the seat's roots in one cut). By AI agents, Wed Nov 11 2026. No macro, syntax, notation, axiom, sorry.
-/
import Derived.Test.YtnddejdndipddabChecked
import GoSem.Claim
import GoSem.ClaimJoined
import GoSem.ClaimMapViews
import Derived.JoinedTies
import Derived.KernelRfl
namespace Go.Proofs.Ytnddejdndipddab
/- THE CELL 'sum', in the pinned program and in every row, IS THE sha256 OF THE DUMP (.gsa) THAT YtnddejdndipddabProg.lean LOADS. Nothing in Lean hashes anything: it is a label: what it is worth is what the hold of that sum in a sandbox is worth. -/
noncomputable def Try.pinned : Pinned := { name := "ytnddejdndipddab", sum := "e7ae781de4ca381b5d61d9e5ee7091bd1add94fc0d191587adde77c6089acd75", checked := Try.checked }
namespace Rows
def none {H : Type} : Left H := { results := [], args := [] }

/-- 'bllaw3.PacketTells': WHATEVER THE INPUT: true; the input reads as it did. -/
def packetTellsSpec : ChangeSpec := { name := "packetTells", fn := fun _ => fun
  | [d1, d2, d3] => { results := [.lit (.bool true)], args := [d1, d2, d3] }
  | _ => none }
def packetTellsRow : OpenClaim := { program := "ytnddejdndipddab", sum := "e7ae781de4ca381b5d61d9e5ee7091bd1add94fc0d191587adde77c6089acd75", func := "braidline/bllaw3.PacketTells", spec := "packetTells", unfollowed := true, recurses := true, apart := false }
def PacketTellsSaid : Prop := packetTellsRow.holds Try.pinned (OpenSpec.ofChange packetTellsSpec)

/-- ITS FALSE NEIGHBOUR: 'it returns false'. Refute it at one input. -/
def packetTellsWrong : ChangeSpec := { name := "packetTells", fn := fun _ => fun
  | [d1, d2, d3] => { results := [.lit (.bool false)], args := [d1, d2, d3] }
  | _ => none }
def PacketTellsWrongFalsely : Prop := packetTellsRow.holds Try.pinned (OpenSpec.ofChange packetTellsWrong)

/-- 'bllaw3.PacketTurns': WHATEVER THE INPUT: true; the input reads as it did. -/
def packetTurnsSpec : ChangeSpec := { name := "packetTurns", fn := fun _ => fun
  | [d1, d2] => { results := [.lit (.bool true)], args := [d1, d2] }
  | _ => none }
def packetTurnsRow : OpenClaim := { program := "ytnddejdndipddab", sum := "e7ae781de4ca381b5d61d9e5ee7091bd1add94fc0d191587adde77c6089acd75", func := "braidline/bllaw3.PacketTurns", spec := "packetTurns", unfollowed := true, recurses := true, apart := false }
def PacketTurnsSaid : Prop := packetTurnsRow.holds Try.pinned (OpenSpec.ofChange packetTurnsSpec)

/-- ITS FALSE NEIGHBOUR: 'it returns false'. Refute it at one input. -/
def packetTurnsWrong : ChangeSpec := { name := "packetTurns", fn := fun _ => fun
  | [d1, d2] => { results := [.lit (.bool false)], args := [d1, d2] }
  | _ => none }
def PacketTurnsWrongFalsely : Prop := packetTurnsRow.holds Try.pinned (OpenSpec.ofChange packetTurnsWrong)

/-- 'bllaw3.PacketFit': WHATEVER THE INPUT: true; the input reads as it did. -/
def packetFitSpec : ChangeSpec := { name := "packetFit", fn := fun _ => fun
  | [d1, d2] => { results := [.lit (.bool true)], args := [d1, d2] }
  | _ => none }
def packetFitRow : OpenClaim := { program := "ytnddejdndipddab", sum := "e7ae781de4ca381b5d61d9e5ee7091bd1add94fc0d191587adde77c6089acd75", func := "braidline/bllaw3.PacketFit", spec := "packetFit", unfollowed := true, recurses := true, apart := false }
def PacketFitSaid : Prop := packetFitRow.holds Try.pinned (OpenSpec.ofChange packetFitSpec)

/-- ITS FALSE NEIGHBOUR: 'it returns false'. Refute it at one input. -/
def packetFitWrong : ChangeSpec := { name := "packetFit", fn := fun _ => fun
  | [d1, d2] => { results := [.lit (.bool false)], args := [d1, d2] }
  | _ => none }
def PacketFitWrongFalsely : Prop := packetFitRow.holds Try.pinned (OpenSpec.ofChange packetFitWrong)

/-- 'bllaw4.PartsTells': WHATEVER THE INPUT: true; the input reads as it did. -/
def partsTellsSpec : ChangeSpec := { name := "partsTells", fn := fun _ => fun
  | [d1, d2, d3] => { results := [.lit (.bool true)], args := [d1, d2, d3] }
  | _ => none }
def partsTellsRow : OpenClaim := { program := "ytnddejdndipddab", sum := "e7ae781de4ca381b5d61d9e5ee7091bd1add94fc0d191587adde77c6089acd75", func := "braidline/bllaw4.PartsTells", spec := "partsTells", unfollowed := true, recurses := true, apart := false }
def PartsTellsSaid : Prop := partsTellsRow.holds Try.pinned (OpenSpec.ofChange partsTellsSpec)

/-- ITS FALSE NEIGHBOUR: 'it returns false'. Refute it at one input. -/
def partsTellsWrong : ChangeSpec := { name := "partsTells", fn := fun _ => fun
  | [d1, d2, d3] => { results := [.lit (.bool false)], args := [d1, d2, d3] }
  | _ => none }
def PartsTellsWrongFalsely : Prop := partsTellsRow.holds Try.pinned (OpenSpec.ofChange partsTellsWrong)

/-- 'bllaw4.PartsTurn': WHATEVER THE INPUT: true; the input reads as it did. -/
def partsTurnSpec : ChangeSpec := { name := "partsTurn", fn := fun _ => fun
  | [d1, d2, d3, d4] => { results := [.lit (.bool true)], args := [d1, d2, d3, d4] }
  | _ => none }
def partsTurnRow : OpenClaim := { program := "ytnddejdndipddab", sum := "e7ae781de4ca381b5d61d9e5ee7091bd1add94fc0d191587adde77c6089acd75", func := "braidline/bllaw4.PartsTurn", spec := "partsTurn", unfollowed := true, recurses := true, apart := false }
def PartsTurnSaid : Prop := partsTurnRow.holds Try.pinned (OpenSpec.ofChange partsTurnSpec)

/-- ITS FALSE NEIGHBOUR: 'it returns false'. Refute it at one input. -/
def partsTurnWrong : ChangeSpec := { name := "partsTurn", fn := fun _ => fun
  | [d1, d2, d3, d4] => { results := [.lit (.bool false)], args := [d1, d2, d3, d4] }
  | _ => none }
def PartsTurnWrongFalsely : Prop := partsTurnRow.holds Try.pinned (OpenSpec.ofChange partsTurnWrong)

/-- 'bllaw5.SchedTells': WHATEVER THE INPUT: true; the input reads as it did. -/
def schedTellsSpec : ChangeSpec := { name := "schedTells", fn := fun _ => fun
  | [d1, d2, d3, d4, d5, d6] => { results := [.lit (.bool true)], args := [d1, d2, d3, d4, d5, d6] }
  | _ => none }
def schedTellsRow : OpenClaim := { program := "ytnddejdndipddab", sum := "e7ae781de4ca381b5d61d9e5ee7091bd1add94fc0d191587adde77c6089acd75", func := "braidline/bllaw5.SchedTells", spec := "schedTells", unfollowed := true, recurses := true, apart := false }
def SchedTellsSaid : Prop := schedTellsRow.holds Try.pinned (OpenSpec.ofChange schedTellsSpec)

/-- ITS FALSE NEIGHBOUR: 'it returns false'. Refute it at one input. -/
def schedTellsWrong : ChangeSpec := { name := "schedTells", fn := fun _ => fun
  | [d1, d2, d3, d4, d5, d6] => { results := [.lit (.bool false)], args := [d1, d2, d3, d4, d5, d6] }
  | _ => none }
def SchedTellsWrongFalsely : Prop := schedTellsRow.holds Try.pinned (OpenSpec.ofChange schedTellsWrong)

/- THE SECOND FORM. 'bulk': how many values and letters a reading holds, each counted each time it is reached (what is shared counts as often as it is met; a slice's spare places count too). A statement '..UptoSaid' is the law's where the arguments, and the package variables that the reading takes, are together of bulk at most 1048576: NARROWER than '..Said'. Prove '..Said' where nothing that the law and all that it calls make is longer than what came in: it says more and counts as full. Else prove '..UptoSaid'. A law counts once. -/
mutual
def uptoBulk {H : Type} : DataW H → Nat
  | .lit (.string bytes) => bytes.length + 1
  | .lit _ => 1
  | .nil => 1
  | .ptr d => uptoBulk d + 1
  | .slice elems spare => uptoBulkAll elems + uptoBulkAll spare + 1
  | .agg parts => uptoBulkAll parts + 1
  | .iface _ d => uptoBulk d + 1
  | .map entries => uptoBulkEntries entries + 1
  | .held _ => 1
def uptoBulkAll {H : Type} : List (DataW H) → Nat
  | [] => 0
  | d :: r => uptoBulk d + uptoBulkAll r
def uptoBulkEntries {H : Type} : List (Lit × DataW H) → Nat
  | [] => 0
  | x :: r => uptoBulkEntry x + uptoBulkEntries r
def uptoBulkEntry {H : Type} : Lit × DataW H → Nat
  | (.string bytes, d) => bytes.length + uptoBulk d + 1
  | (_, d) => uptoBulk d + 1
 end
def uptoSmall : (H : Type) → List (DataW H) → Bool := fun _ ds => decide (uptoBulkAll ds ≤ 1048576)
def OpenSpec.upto (s : _root_.Go.ChangeSpec) : _root_.Go.OpenSpec := { _root_.Go.OpenSpec.ofChange s with cond := some uptoSmall }

/-- 'bllaw3.PacketTells', WHERE WHAT IT READS IS OF BULK AT MOST 1048576: true; the input reads as it did. -/
def packetTellsUptoRow : OpenClaim := { program := "ytnddejdndipddab", sum := "e7ae781de4ca381b5d61d9e5ee7091bd1add94fc0d191587adde77c6089acd75", func := "braidline/bllaw3.PacketTells", spec := "packetTells", unfollowed := true, recurses := true, apart := false, narrowed := true }
def PacketTellsUptoSaid : Prop := packetTellsUptoRow.holds Try.pinned (OpenSpec.upto packetTellsSpec)

/-- 'bllaw3.PacketTurns', WHERE WHAT IT READS IS OF BULK AT MOST 1048576: true; the input reads as it did. -/
def packetTurnsUptoRow : OpenClaim := { program := "ytnddejdndipddab", sum := "e7ae781de4ca381b5d61d9e5ee7091bd1add94fc0d191587adde77c6089acd75", func := "braidline/bllaw3.PacketTurns", spec := "packetTurns", unfollowed := true, recurses := true, apart := false, narrowed := true }
def PacketTurnsUptoSaid : Prop := packetTurnsUptoRow.holds Try.pinned (OpenSpec.upto packetTurnsSpec)

/-- 'bllaw3.PacketFit', WHERE WHAT IT READS IS OF BULK AT MOST 1048576: true; the input reads as it did. -/
def packetFitUptoRow : OpenClaim := { program := "ytnddejdndipddab", sum := "e7ae781de4ca381b5d61d9e5ee7091bd1add94fc0d191587adde77c6089acd75", func := "braidline/bllaw3.PacketFit", spec := "packetFit", unfollowed := true, recurses := true, apart := false, narrowed := true }
def PacketFitUptoSaid : Prop := packetFitUptoRow.holds Try.pinned (OpenSpec.upto packetFitSpec)

/-- 'bllaw4.PartsTells', WHERE WHAT IT READS IS OF BULK AT MOST 1048576: true; the input reads as it did. -/
def partsTellsUptoRow : OpenClaim := { program := "ytnddejdndipddab", sum := "e7ae781de4ca381b5d61d9e5ee7091bd1add94fc0d191587adde77c6089acd75", func := "braidline/bllaw4.PartsTells", spec := "partsTells", unfollowed := true, recurses := true, apart := false, narrowed := true }
def PartsTellsUptoSaid : Prop := partsTellsUptoRow.holds Try.pinned (OpenSpec.upto partsTellsSpec)

/-- 'bllaw4.PartsTurn', WHERE WHAT IT READS IS OF BULK AT MOST 1048576: true; the input reads as it did. -/
def partsTurnUptoRow : OpenClaim := { program := "ytnddejdndipddab", sum := "e7ae781de4ca381b5d61d9e5ee7091bd1add94fc0d191587adde77c6089acd75", func := "braidline/bllaw4.PartsTurn", spec := "partsTurn", unfollowed := true, recurses := true, apart := false, narrowed := true }
def PartsTurnUptoSaid : Prop := partsTurnUptoRow.holds Try.pinned (OpenSpec.upto partsTurnSpec)

/-- 'bllaw5.SchedTells', WHERE WHAT IT READS IS OF BULK AT MOST 1048576: true; the input reads as it did. -/
def schedTellsUptoRow : OpenClaim := { program := "ytnddejdndipddab", sum := "e7ae781de4ca381b5d61d9e5ee7091bd1add94fc0d191587adde77c6089acd75", func := "braidline/bllaw5.SchedTells", spec := "schedTells", unfollowed := true, recurses := true, apart := false, narrowed := true }
def SchedTellsUptoSaid : Prop := schedTellsUptoRow.holds Try.pinned (OpenSpec.upto schedTellsSpec)

end Rows
end Go.Proofs.Ytnddejdndipddab
