/-
  No cell of these rows narrows 'for every input' (looked for: loops, veiled, ifaces, maps, wideKeys, modest, calm, conditions, laid).
  DERIVED. THE GIVEN ROWS OF THIS SEAT. 6 by the template 'for every input the law returns true; each argument reads behind the call as it read before'; 0 by the template 'total and deterministic' (their statements: YtnddejdndipddadTotals.lean).
  GIVEN WITH THE SEED: the statements are not yours to turn. If you find one false, say at which input.
  Laid BY PROGRAM, IN A SANDBOX (cutbox-rows.mjs): the forced cells as the released guide's own fill.sh prints them over the translation 190fbe33f8ead03d… (all of the seat's roots in one cut). By AI agents, Wed Nov 11 2026. No macro, syntax, notation, axiom, sorry.
-/
import Derived.Test.YtnddejdndipddadChecked
import GoSem.Claim
import GoSem.ClaimJoined
import GoSem.ClaimMapViews
import Derived.JoinedTies
import Derived.KernelRfl
namespace Go.Proofs.Ytnddejdndipddad
/- THE CELL 'sum', in the pinned program and in every row, IS THE sha256 OF THE DUMP (.gsa) THAT YtnddejdndipddadProg.lean LOADS. Nothing in Lean hashes anything: it is a label: what it is worth is what the hold of that sum in a sandbox is worth. -/
noncomputable def Try.pinned : Pinned := { name := "ytnddejdndipddad", sum := "190fbe33f8ead03d829f657e2c79b9d4b66244b23f9bc2b268d0582a6e8059ec", checked := Try.checked }
namespace Rows
def none {H : Type} : Left H := { results := [], args := [] }

/-- 'bllaw7.PathsTells': WHATEVER THE INPUT: true; the input reads as it did. -/
def pathsTellsSpec : ChangeSpec := { name := "pathsTells", fn := fun _ => fun
  | [d1, d2, d3, d4, d5] => { results := [.lit (.bool true)], args := [d1, d2, d3, d4, d5] }
  | _ => none }
def pathsTellsRow : OpenClaim := { program := "ytnddejdndipddad", sum := "190fbe33f8ead03d829f657e2c79b9d4b66244b23f9bc2b268d0582a6e8059ec", func := "braidline/bllaw7.PathsTells", spec := "pathsTells", unfollowed := true, recurses := true, apart := false }
def PathsTellsSaid : Prop := pathsTellsRow.holds Try.pinned (OpenSpec.ofChange pathsTellsSpec)

/-- ITS FALSE NEIGHBOUR: 'it returns false'. Refute it at one input. -/
def pathsTellsWrong : ChangeSpec := { name := "pathsTells", fn := fun _ => fun
  | [d1, d2, d3, d4, d5] => { results := [.lit (.bool false)], args := [d1, d2, d3, d4, d5] }
  | _ => none }
def PathsTellsWrongFalsely : Prop := pathsTellsRow.holds Try.pinned (OpenSpec.ofChange pathsTellsWrong)

/-- 'bllaw7.PathsGrow': WHATEVER THE INPUT: true; the input reads as it did. -/
def pathsGrowSpec : ChangeSpec := { name := "pathsGrow", fn := fun _ => fun
  | [d1, d2] => { results := [.lit (.bool true)], args := [d1, d2] }
  | _ => none }
def pathsGrowRow : OpenClaim := { program := "ytnddejdndipddad", sum := "190fbe33f8ead03d829f657e2c79b9d4b66244b23f9bc2b268d0582a6e8059ec", func := "braidline/bllaw7.PathsGrow", spec := "pathsGrow", unfollowed := true, recurses := true, apart := false }
def PathsGrowSaid : Prop := pathsGrowRow.holds Try.pinned (OpenSpec.ofChange pathsGrowSpec)

/-- ITS FALSE NEIGHBOUR: 'it returns false'. Refute it at one input. -/
def pathsGrowWrong : ChangeSpec := { name := "pathsGrow", fn := fun _ => fun
  | [d1, d2] => { results := [.lit (.bool false)], args := [d1, d2] }
  | _ => none }
def PathsGrowWrongFalsely : Prop := pathsGrowRow.holds Try.pinned (OpenSpec.ofChange pathsGrowWrong)

/-- 'bllaw7.PathsWait': WHATEVER THE INPUT: true; the input reads as it did. -/
def pathsWaitSpec : ChangeSpec := { name := "pathsWait", fn := fun _ => fun
  | [d1, d2] => { results := [.lit (.bool true)], args := [d1, d2] }
  | _ => none }
def pathsWaitRow : OpenClaim := { program := "ytnddejdndipddad", sum := "190fbe33f8ead03d829f657e2c79b9d4b66244b23f9bc2b268d0582a6e8059ec", func := "braidline/bllaw7.PathsWait", spec := "pathsWait", unfollowed := true, recurses := true, apart := false }
def PathsWaitSaid : Prop := pathsWaitRow.holds Try.pinned (OpenSpec.ofChange pathsWaitSpec)

/-- ITS FALSE NEIGHBOUR: 'it returns false'. Refute it at one input. -/
def pathsWaitWrong : ChangeSpec := { name := "pathsWait", fn := fun _ => fun
  | [d1, d2] => { results := [.lit (.bool false)], args := [d1, d2] }
  | _ => none }
def PathsWaitWrongFalsely : Prop := pathsWaitRow.holds Try.pinned (OpenSpec.ofChange pathsWaitWrong)

/-- 'bllaw8.ReceiveTells': WHATEVER THE INPUT: true; the input reads as it did. -/
def receiveTellsSpec : ChangeSpec := { name := "receiveTells", fn := fun _ => fun
  | [d1, d2, d3] => { results := [.lit (.bool true)], args := [d1, d2, d3] }
  | _ => none }
def receiveTellsRow : OpenClaim := { program := "ytnddejdndipddad", sum := "190fbe33f8ead03d829f657e2c79b9d4b66244b23f9bc2b268d0582a6e8059ec", func := "braidline/bllaw8.ReceiveTells", spec := "receiveTells", unfollowed := true, recurses := true, apart := false }
def ReceiveTellsSaid : Prop := receiveTellsRow.holds Try.pinned (OpenSpec.ofChange receiveTellsSpec)

/-- ITS FALSE NEIGHBOUR: 'it returns false'. Refute it at one input. -/
def receiveTellsWrong : ChangeSpec := { name := "receiveTells", fn := fun _ => fun
  | [d1, d2, d3] => { results := [.lit (.bool false)], args := [d1, d2, d3] }
  | _ => none }
def ReceiveTellsWrongFalsely : Prop := receiveTellsRow.holds Try.pinned (OpenSpec.ofChange receiveTellsWrong)

/-- 'bllaw8.ReceiveTwice': WHATEVER THE INPUT: true; the input reads as it did. -/
def receiveTwiceSpec : ChangeSpec := { name := "receiveTwice", fn := fun _ => fun
  | [d1, d2] => { results := [.lit (.bool true)], args := [d1, d2] }
  | _ => none }
def receiveTwiceRow : OpenClaim := { program := "ytnddejdndipddad", sum := "190fbe33f8ead03d829f657e2c79b9d4b66244b23f9bc2b268d0582a6e8059ec", func := "braidline/bllaw8.ReceiveTwice", spec := "receiveTwice", unfollowed := true, recurses := true, apart := false }
def ReceiveTwiceSaid : Prop := receiveTwiceRow.holds Try.pinned (OpenSpec.ofChange receiveTwiceSpec)

/-- ITS FALSE NEIGHBOUR: 'it returns false'. Refute it at one input. -/
def receiveTwiceWrong : ChangeSpec := { name := "receiveTwice", fn := fun _ => fun
  | [d1, d2] => { results := [.lit (.bool false)], args := [d1, d2] }
  | _ => none }
def ReceiveTwiceWrongFalsely : Prop := receiveTwiceRow.holds Try.pinned (OpenSpec.ofChange receiveTwiceWrong)

/-- 'bllaw8.ReceiveOrder': WHATEVER THE INPUT: true; the input reads as it did. -/
def receiveOrderSpec : ChangeSpec := { name := "receiveOrder", fn := fun _ => fun
  | [d1, d2, d3] => { results := [.lit (.bool true)], args := [d1, d2, d3] }
  | _ => none }
def receiveOrderRow : OpenClaim := { program := "ytnddejdndipddad", sum := "190fbe33f8ead03d829f657e2c79b9d4b66244b23f9bc2b268d0582a6e8059ec", func := "braidline/bllaw8.ReceiveOrder", spec := "receiveOrder", unfollowed := true, recurses := true, apart := false }
def ReceiveOrderSaid : Prop := receiveOrderRow.holds Try.pinned (OpenSpec.ofChange receiveOrderSpec)

/-- ITS FALSE NEIGHBOUR: 'it returns false'. Refute it at one input. -/
def receiveOrderWrong : ChangeSpec := { name := "receiveOrder", fn := fun _ => fun
  | [d1, d2, d3] => { results := [.lit (.bool false)], args := [d1, d2, d3] }
  | _ => none }
def ReceiveOrderWrongFalsely : Prop := receiveOrderRow.holds Try.pinned (OpenSpec.ofChange receiveOrderWrong)

/- THE SECOND FORM. 'bulk': how many values and letters a reading holds, each counted each time it is reached (what is shared counts as often as it is met; a slice's spare places count too). A statement '..UptoSaid' is the law's where the arguments, and the package variables that the reading takes, are together of bulk at most 1048576: NARROWER than '..Said'. Prove '..Said' where nothing that the law and all that it calls make is longer than what came in: it says more and counts as full. Else prove '..UptoSaid'. A law counts once. -/
mutual
def uptoBulk {H : Type} : DataW H → Nat
  | .lit (.string bytes) => bytes.length + 1
  | .lit _ => 1
  | .nil => 1
  | .ptr d => uptoBulk d + 1
  | .slice elems spare => uptoBulkAll elems + uptoBulkAll spare + 1
  | .agg parts => uptoBulkAll parts + 1
  | .iface _ d => uptoBulk d + 1
  | .map entries => uptoBulkEntries entries + 1
  | .held _ => 1
def uptoBulkAll {H : Type} : List (DataW H) → Nat
  | [] => 0
  | d :: r => uptoBulk d + uptoBulkAll r
def uptoBulkEntries {H : Type} : List (Lit × DataW H) → Nat
  | [] => 0
  | x :: r => uptoBulkEntry x + uptoBulkEntries r
def uptoBulkEntry {H : Type} : Lit × DataW H → Nat
  | (.string bytes, d) => bytes.length + uptoBulk d + 1
  | (_, d) => uptoBulk d + 1
 end
def uptoSmall : (H : Type) → List (DataW H) → Bool := fun _ ds => decide (uptoBulkAll ds ≤ 1048576)
def OpenSpec.upto (s : _root_.Go.ChangeSpec) : _root_.Go.OpenSpec := { _root_.Go.OpenSpec.ofChange s with cond := some uptoSmall }

/-- 'bllaw7.PathsTells', WHERE WHAT IT READS IS OF BULK AT MOST 1048576: true; the input reads as it did. -/
def pathsTellsUptoRow : OpenClaim := { program := "ytnddejdndipddad", sum := "190fbe33f8ead03d829f657e2c79b9d4b66244b23f9bc2b268d0582a6e8059ec", func := "braidline/bllaw7.PathsTells", spec := "pathsTells", unfollowed := true, recurses := true, apart := false, narrowed := true }
def PathsTellsUptoSaid : Prop := pathsTellsUptoRow.holds Try.pinned (OpenSpec.upto pathsTellsSpec)

/-- 'bllaw7.PathsGrow', WHERE WHAT IT READS IS OF BULK AT MOST 1048576: true; the input reads as it did. -/
def pathsGrowUptoRow : OpenClaim := { program := "ytnddejdndipddad", sum := "190fbe33f8ead03d829f657e2c79b9d4b66244b23f9bc2b268d0582a6e8059ec", func := "braidline/bllaw7.PathsGrow", spec := "pathsGrow", unfollowed := true, recurses := true, apart := false, narrowed := true }
def PathsGrowUptoSaid : Prop := pathsGrowUptoRow.holds Try.pinned (OpenSpec.upto pathsGrowSpec)

/-- 'bllaw7.PathsWait', WHERE WHAT IT READS IS OF BULK AT MOST 1048576: true; the input reads as it did. -/
def pathsWaitUptoRow : OpenClaim := { program := "ytnddejdndipddad", sum := "190fbe33f8ead03d829f657e2c79b9d4b66244b23f9bc2b268d0582a6e8059ec", func := "braidline/bllaw7.PathsWait", spec := "pathsWait", unfollowed := true, recurses := true, apart := false, narrowed := true }
def PathsWaitUptoSaid : Prop := pathsWaitUptoRow.holds Try.pinned (OpenSpec.upto pathsWaitSpec)

/-- 'bllaw8.ReceiveTells', WHERE WHAT IT READS IS OF BULK AT MOST 1048576: true; the input reads as it did. -/
def receiveTellsUptoRow : OpenClaim := { program := "ytnddejdndipddad", sum := "190fbe33f8ead03d829f657e2c79b9d4b66244b23f9bc2b268d0582a6e8059ec", func := "braidline/bllaw8.ReceiveTells", spec := "receiveTells", unfollowed := true, recurses := true, apart := false, narrowed := true }
def ReceiveTellsUptoSaid : Prop := receiveTellsUptoRow.holds Try.pinned (OpenSpec.upto receiveTellsSpec)

/-- 'bllaw8.ReceiveTwice', WHERE WHAT IT READS IS OF BULK AT MOST 1048576: true; the input reads as it did. -/
def receiveTwiceUptoRow : OpenClaim := { program := "ytnddejdndipddad", sum := "190fbe33f8ead03d829f657e2c79b9d4b66244b23f9bc2b268d0582a6e8059ec", func := "braidline/bllaw8.ReceiveTwice", spec := "receiveTwice", unfollowed := true, recurses := true, apart := false, narrowed := true }
def ReceiveTwiceUptoSaid : Prop := receiveTwiceUptoRow.holds Try.pinned (OpenSpec.upto receiveTwiceSpec)

/-- 'bllaw8.ReceiveOrder', WHERE WHAT IT READS IS OF BULK AT MOST 1048576: true; the input reads as it did. -/
def receiveOrderUptoRow : OpenClaim := { program := "ytnddejdndipddad", sum := "190fbe33f8ead03d829f657e2c79b9d4b66244b23f9bc2b268d0582a6e8059ec", func := "braidline/bllaw8.ReceiveOrder", spec := "receiveOrder", unfollowed := true, recurses := true, apart := false, narrowed := true }
def ReceiveOrderUptoSaid : Prop := receiveOrderUptoRow.holds Try.pinned (OpenSpec.upto receiveOrderSpec)

end Rows
end Go.Proofs.Ytnddejdndipddad
