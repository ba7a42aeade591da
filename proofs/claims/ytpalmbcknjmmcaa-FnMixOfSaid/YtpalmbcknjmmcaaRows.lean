/-
  No cell of these rows narrows 'for every input' (looked for: loops, veiled, ifaces, maps, wideKeys, modest, calm, conditions, laid).
  DERIVED. THE GIVEN ROWS OF THIS SEAT. 10 by the template 'for every input the law returns true; each argument reads behind the call as it read before'; 0 by the template 'total and deterministic' (their statements: YtpalmbcknjmmcaaTotals.lean).
  GIVEN WITH THE SEED: the statements are not yours to turn. If you find one false, say at which input.
  Laid BY PROGRAM, IN A SANDBOX (cutbox-rows.mjs): the forced cells as the released guide's own fill.sh prints them over the translation 9807de6f51a2b6f1… (all of the seat's roots in one cut). By AI agents, Wed Nov 11 2026. No macro, syntax, notation, axiom, sorry.
-/
import Derived.Test.YtpalmbcknjmmcaaChecked
import GoSem.Claim
import GoSem.ClaimJoined
import GoSem.ClaimMapViews
import Derived.JoinedTies
import Derived.KernelRfl
namespace Go.Proofs.Ytpalmbcknjmmcaa
/- THE CELL 'sum', in the pinned program and in every row, IS THE sha256 OF THE DUMP (.gsa) THAT YtpalmbcknjmmcaaProg.lean LOADS. Nothing in Lean hashes anything: it is a label: what it is worth is what the hold of that sum in a sandbox is worth. -/
noncomputable def Try.pinned : Pinned := { name := "ytpalmbcknjmmcaa", sum := "9807de6f51a2b6f1d4bacf9ee9acd3af98a37a8a716e83a393cea072af8d0e24", checked := Try.checked }
namespace Rows
def none {H : Type} : Left H := { results := [], args := [] }

/-- 'laws.FnEdgeOf': WHATEVER THE INPUT: true; the input reads as it did. -/
def fnEdgeOfSpec : ChangeSpec := { name := "fnEdgeOf", fn := fun _ => fun
  | [d] => { results := [.lit (.bool true)], args := [d] }
  | _ => none }
def fnEdgeOfRow : OpenClaim := { program := "ytpalmbcknjmmcaa", sum := "9807de6f51a2b6f1d4bacf9ee9acd3af98a37a8a716e83a393cea072af8d0e24", func := "loop.example/wholewaves/laws.FnEdgeOf", spec := "fnEdgeOf", unfollowed := true, recurses := true, apart := false }
def FnEdgeOfSaid : Prop := fnEdgeOfRow.holds Try.pinned (OpenSpec.ofChange fnEdgeOfSpec)

/-- ITS FALSE NEIGHBOUR: 'it returns false'. Refute it at one input. -/
def fnEdgeOfWrong : ChangeSpec := { name := "fnEdgeOf", fn := fun _ => fun
  | [d] => { results := [.lit (.bool false)], args := [d] }
  | _ => none }
def FnEdgeOfWrongFalsely : Prop := fnEdgeOfRow.holds Try.pinned (OpenSpec.ofChange fnEdgeOfWrong)

/-- 'laws.FnFromEdge': WHATEVER THE INPUT: true; the input reads as it did. -/
def fnFromEdgeSpec : ChangeSpec := { name := "fnFromEdge", fn := fun _ => fun
  | [d] => { results := [.lit (.bool true)], args := [d] }
  | _ => none }
def fnFromEdgeRow : OpenClaim := { program := "ytpalmbcknjmmcaa", sum := "9807de6f51a2b6f1d4bacf9ee9acd3af98a37a8a716e83a393cea072af8d0e24", func := "loop.example/wholewaves/laws.FnFromEdge", spec := "fnFromEdge", unfollowed := true, recurses := true, apart := false }
def FnFromEdgeSaid : Prop := fnFromEdgeRow.holds Try.pinned (OpenSpec.ofChange fnFromEdgeSpec)

/-- ITS FALSE NEIGHBOUR: 'it returns false'. Refute it at one input. -/
def fnFromEdgeWrong : ChangeSpec := { name := "fnFromEdge", fn := fun _ => fun
  | [d] => { results := [.lit (.bool false)], args := [d] }
  | _ => none }
def FnFromEdgeWrongFalsely : Prop := fnFromEdgeRow.holds Try.pinned (OpenSpec.ofChange fnFromEdgeWrong)

/-- 'laws.FnDegreeOf': WHATEVER THE INPUT: true; the input reads as it did. -/
def fnDegreeOfSpec : ChangeSpec := { name := "fnDegreeOf", fn := fun _ => fun
  | [d] => { results := [.lit (.bool true)], args := [d] }
  | _ => none }
def fnDegreeOfRow : OpenClaim := { program := "ytpalmbcknjmmcaa", sum := "9807de6f51a2b6f1d4bacf9ee9acd3af98a37a8a716e83a393cea072af8d0e24", func := "loop.example/wholewaves/laws.FnDegreeOf", spec := "fnDegreeOf", unfollowed := true, recurses := true, apart := false }
def FnDegreeOfSaid : Prop := fnDegreeOfRow.holds Try.pinned (OpenSpec.ofChange fnDegreeOfSpec)

/-- ITS FALSE NEIGHBOUR: 'it returns false'. Refute it at one input. -/
def fnDegreeOfWrong : ChangeSpec := { name := "fnDegreeOf", fn := fun _ => fun
  | [d] => { results := [.lit (.bool false)], args := [d] }
  | _ => none }
def FnDegreeOfWrongFalsely : Prop := fnDegreeOfRow.holds Try.pinned (OpenSpec.ofChange fnDegreeOfWrong)

/-- 'laws.FnSignsOf': WHATEVER THE INPUT: true; the input reads as it did. -/
def fnSignsOfSpec : ChangeSpec := { name := "fnSignsOf", fn := fun _ => fun
  | [d] => { results := [.lit (.bool true)], args := [d] }
  | _ => none }
def fnSignsOfRow : OpenClaim := { program := "ytpalmbcknjmmcaa", sum := "9807de6f51a2b6f1d4bacf9ee9acd3af98a37a8a716e83a393cea072af8d0e24", func := "loop.example/wholewaves/laws.FnSignsOf", spec := "fnSignsOf", unfollowed := true, recurses := true, apart := false }
def FnSignsOfSaid : Prop := fnSignsOfRow.holds Try.pinned (OpenSpec.ofChange fnSignsOfSpec)

/-- ITS FALSE NEIGHBOUR: 'it returns false'. Refute it at one input. -/
def fnSignsOfWrong : ChangeSpec := { name := "fnSignsOf", fn := fun _ => fun
  | [d] => { results := [.lit (.bool false)], args := [d] }
  | _ => none }
def FnSignsOfWrongFalsely : Prop := fnSignsOfRow.holds Try.pinned (OpenSpec.ofChange fnSignsOfWrong)

/-- 'laws.FnUnsignsOf': WHATEVER THE INPUT: true; the input reads as it did. -/
def fnUnsignsOfSpec : ChangeSpec := { name := "fnUnsignsOf", fn := fun _ => fun
  | [d] => { results := [.lit (.bool true)], args := [d] }
  | _ => none }
def fnUnsignsOfRow : OpenClaim := { program := "ytpalmbcknjmmcaa", sum := "9807de6f51a2b6f1d4bacf9ee9acd3af98a37a8a716e83a393cea072af8d0e24", func := "loop.example/wholewaves/laws.FnUnsignsOf", spec := "fnUnsignsOf", unfollowed := true, recurses := true, apart := false }
def FnUnsignsOfSaid : Prop := fnUnsignsOfRow.holds Try.pinned (OpenSpec.ofChange fnUnsignsOfSpec)

/-- ITS FALSE NEIGHBOUR: 'it returns false'. Refute it at one input. -/
def fnUnsignsOfWrong : ChangeSpec := { name := "fnUnsignsOf", fn := fun _ => fun
  | [d] => { results := [.lit (.bool false)], args := [d] }
  | _ => none }
def FnUnsignsOfWrongFalsely : Prop := fnUnsignsOfRow.holds Try.pinned (OpenSpec.ofChange fnUnsignsOfWrong)

/-- 'laws.FnChangesIn': WHATEVER THE INPUT: true; the input reads as it did. -/
def fnChangesInSpec : ChangeSpec := { name := "fnChangesIn", fn := fun _ => fun
  | [d] => { results := [.lit (.bool true)], args := [d] }
  | _ => none }
def fnChangesInRow : OpenClaim := { program := "ytpalmbcknjmmcaa", sum := "9807de6f51a2b6f1d4bacf9ee9acd3af98a37a8a716e83a393cea072af8d0e24", func := "loop.example/wholewaves/laws.FnChangesIn", spec := "fnChangesIn", apart := false }
def FnChangesInSaid : Prop := fnChangesInRow.holds Try.pinned (OpenSpec.ofChange fnChangesInSpec)

/-- ITS FALSE NEIGHBOUR: 'it returns false'. Refute it at one input. -/
def fnChangesInWrong : ChangeSpec := { name := "fnChangesIn", fn := fun _ => fun
  | [d] => { results := [.lit (.bool false)], args := [d] }
  | _ => none }
def FnChangesInWrongFalsely : Prop := fnChangesInRow.holds Try.pinned (OpenSpec.ofChange fnChangesInWrong)

/-- 'laws.FnOrderOf': WHATEVER THE INPUT: true; the input reads as it did. -/
def fnOrderOfSpec : ChangeSpec := { name := "fnOrderOf", fn := fun _ => fun
  | [d] => { results := [.lit (.bool true)], args := [d] }
  | _ => none }
def fnOrderOfRow : OpenClaim := { program := "ytpalmbcknjmmcaa", sum := "9807de6f51a2b6f1d4bacf9ee9acd3af98a37a8a716e83a393cea072af8d0e24", func := "loop.example/wholewaves/laws.FnOrderOf", spec := "fnOrderOf", apart := false }
def FnOrderOfSaid : Prop := fnOrderOfRow.holds Try.pinned (OpenSpec.ofChange fnOrderOfSpec)

/-- ITS FALSE NEIGHBOUR: 'it returns false'. Refute it at one input. -/
def fnOrderOfWrong : ChangeSpec := { name := "fnOrderOf", fn := fun _ => fun
  | [d] => { results := [.lit (.bool false)], args := [d] }
  | _ => none }
def FnOrderOfWrongFalsely : Prop := fnOrderOfRow.holds Try.pinned (OpenSpec.ofChange fnOrderOfWrong)

/-- 'laws.FnMixOf': WHATEVER THE INPUT: true; the input reads as it did. -/
def fnMixOfSpec : ChangeSpec := { name := "fnMixOf", fn := fun _ => fun
  | [d] => { results := [.lit (.bool true)], args := [d] }
  | _ => none }
def fnMixOfRow : OpenClaim := { program := "ytpalmbcknjmmcaa", sum := "9807de6f51a2b6f1d4bacf9ee9acd3af98a37a8a716e83a393cea072af8d0e24", func := "loop.example/wholewaves/laws.FnMixOf", spec := "fnMixOf", unfollowed := true, recurses := true, apart := false }
def FnMixOfSaid : Prop := fnMixOfRow.holds Try.pinned (OpenSpec.ofChange fnMixOfSpec)

/-- ITS FALSE NEIGHBOUR: 'it returns false'. Refute it at one input. -/
def fnMixOfWrong : ChangeSpec := { name := "fnMixOf", fn := fun _ => fun
  | [d] => { results := [.lit (.bool false)], args := [d] }
  | _ => none }
def FnMixOfWrongFalsely : Prop := fnMixOfRow.holds Try.pinned (OpenSpec.ofChange fnMixOfWrong)

/-- 'laws.FnEnergyOf': WHATEVER THE INPUT: true; the input reads as it did. -/
def fnEnergyOfSpec : ChangeSpec := { name := "fnEnergyOf", fn := fun _ => fun
  | [d] => { results := [.lit (.bool true)], args := [d] }
  | _ => none }
def fnEnergyOfRow : OpenClaim := { program := "ytpalmbcknjmmcaa", sum := "9807de6f51a2b6f1d4bacf9ee9acd3af98a37a8a716e83a393cea072af8d0e24", func := "loop.example/wholewaves/laws.FnEnergyOf", spec := "fnEnergyOf", unfollowed := true, recurses := true, apart := false }
def FnEnergyOfSaid : Prop := fnEnergyOfRow.holds Try.pinned (OpenSpec.ofChange fnEnergyOfSpec)

/-- ITS FALSE NEIGHBOUR: 'it returns false'. Refute it at one input. -/
def fnEnergyOfWrong : ChangeSpec := { name := "fnEnergyOf", fn := fun _ => fun
  | [d] => { results := [.lit (.bool false)], args := [d] }
  | _ => none }
def FnEnergyOfWrongFalsely : Prop := fnEnergyOfRow.holds Try.pinned (OpenSpec.ofChange fnEnergyOfWrong)

/-- 'laws.FnIsBent': WHATEVER THE INPUT: true; the input reads as it did. -/
def fnIsBentSpec : ChangeSpec := { name := "fnIsBent", fn := fun _ => fun
  | [d] => { results := [.lit (.bool true)], args := [d] }
  | _ => none }
def fnIsBentRow : OpenClaim := { program := "ytpalmbcknjmmcaa", sum := "9807de6f51a2b6f1d4bacf9ee9acd3af98a37a8a716e83a393cea072af8d0e24", func := "loop.example/wholewaves/laws.FnIsBent", spec := "fnIsBent", unfollowed := true, recurses := true, apart := false }
def FnIsBentSaid : Prop := fnIsBentRow.holds Try.pinned (OpenSpec.ofChange fnIsBentSpec)

/-- ITS FALSE NEIGHBOUR: 'it returns false'. Refute it at one input. -/
def fnIsBentWrong : ChangeSpec := { name := "fnIsBent", fn := fun _ => fun
  | [d] => { results := [.lit (.bool false)], args := [d] }
  | _ => none }
def FnIsBentWrongFalsely : Prop := fnIsBentRow.holds Try.pinned (OpenSpec.ofChange fnIsBentWrong)

/- THE SECOND FORM. 'bulk': how many values and letters a reading holds, each counted each time it is reached (what is shared counts as often as it is met; a slice's spare places count too). A statement '..UptoSaid' is the law's where the arguments, and the package variables that the reading takes, are together of bulk at most 1048576: NARROWER than '..Said'. Prove '..Said' where nothing that the law and all that it calls make is longer than what came in: it says more and counts as full. Else prove '..UptoSaid'. A law counts once. -/
mutual
def uptoBulk {H : Type} : DataW H → Nat
  | .lit (.string bytes) => bytes.length + 1
  | .lit _ => 1
  | .nil => 1
  | .ptr d => uptoBulk d + 1
  | .slice elems spare => uptoBulkAll elems + uptoBulkAll spare + 1
  | .agg parts => uptoBulkAll parts + 1
  | .iface _ d => uptoBulk d + 1
  | .map entries => uptoBulkEntries entries + 1
  | .held _ => 1
def uptoBulkAll {H : Type} : List (DataW H) → Nat
  | [] => 0
  | d :: r => uptoBulk d + uptoBulkAll r
def uptoBulkEntries {H : Type} : List (Lit × DataW H) → Nat
  | [] => 0
  | x :: r => uptoBulkEntry x + uptoBulkEntries r
def uptoBulkEntry {H : Type} : Lit × DataW H → Nat
  | (.string bytes, d) => bytes.length + uptoBulk d + 1
  | (_, d) => uptoBulk d + 1
 end
def uptoSmall : (H : Type) → List (DataW H) → Bool := fun _ ds => decide (uptoBulkAll ds ≤ 1048576)
def OpenSpec.upto (s : _root_.Go.ChangeSpec) : _root_.Go.OpenSpec := { _root_.Go.OpenSpec.ofChange s with cond := some uptoSmall }

/-- 'laws.FnEdgeOf', WHERE WHAT IT READS IS OF BULK AT MOST 1048576: true; the input reads as it did. -/
def fnEdgeOfUptoRow : OpenClaim := { program := "ytpalmbcknjmmcaa", sum := "9807de6f51a2b6f1d4bacf9ee9acd3af98a37a8a716e83a393cea072af8d0e24", func := "loop.example/wholewaves/laws.FnEdgeOf", spec := "fnEdgeOf", unfollowed := true, recurses := true, apart := false, narrowed := true }
def FnEdgeOfUptoSaid : Prop := fnEdgeOfUptoRow.holds Try.pinned (OpenSpec.upto fnEdgeOfSpec)

/-- 'laws.FnFromEdge', WHERE WHAT IT READS IS OF BULK AT MOST 1048576: true; the input reads as it did. -/
def fnFromEdgeUptoRow : OpenClaim := { program := "ytpalmbcknjmmcaa", sum := "9807de6f51a2b6f1d4bacf9ee9acd3af98a37a8a716e83a393cea072af8d0e24", func := "loop.example/wholewaves/laws.FnFromEdge", spec := "fnFromEdge", unfollowed := true, recurses := true, apart := false, narrowed := true }
def FnFromEdgeUptoSaid : Prop := fnFromEdgeUptoRow.holds Try.pinned (OpenSpec.upto fnFromEdgeSpec)

/-- 'laws.FnDegreeOf', WHERE WHAT IT READS IS OF BULK AT MOST 1048576: true; the input reads as it did. -/
def fnDegreeOfUptoRow : OpenClaim := { program := "ytpalmbcknjmmcaa", sum := "9807de6f51a2b6f1d4bacf9ee9acd3af98a37a8a716e83a393cea072af8d0e24", func := "loop.example/wholewaves/laws.FnDegreeOf", spec := "fnDegreeOf", unfollowed := true, recurses := true, apart := false, narrowed := true }
def FnDegreeOfUptoSaid : Prop := fnDegreeOfUptoRow.holds Try.pinned (OpenSpec.upto fnDegreeOfSpec)

/-- 'laws.FnSignsOf', WHERE WHAT IT READS IS OF BULK AT MOST 1048576: true; the input reads as it did. -/
def fnSignsOfUptoRow : OpenClaim := { program := "ytpalmbcknjmmcaa", sum := "9807de6f51a2b6f1d4bacf9ee9acd3af98a37a8a716e83a393cea072af8d0e24", func := "loop.example/wholewaves/laws.FnSignsOf", spec := "fnSignsOf", unfollowed := true, recurses := true, apart := false, narrowed := true }
def FnSignsOfUptoSaid : Prop := fnSignsOfUptoRow.holds Try.pinned (OpenSpec.upto fnSignsOfSpec)

/-- 'laws.FnUnsignsOf', WHERE WHAT IT READS IS OF BULK AT MOST 1048576: true; the input reads as it did. -/
def fnUnsignsOfUptoRow : OpenClaim := { program := "ytpalmbcknjmmcaa", sum := "9807de6f51a2b6f1d4bacf9ee9acd3af98a37a8a716e83a393cea072af8d0e24", func := "loop.example/wholewaves/laws.FnUnsignsOf", spec := "fnUnsignsOf", unfollowed := true, recurses := true, apart := false, narrowed := true }
def FnUnsignsOfUptoSaid : Prop := fnUnsignsOfUptoRow.holds Try.pinned (OpenSpec.upto fnUnsignsOfSpec)

/-- 'laws.FnChangesIn', WHERE WHAT IT READS IS OF BULK AT MOST 1048576: true; the input reads as it did. -/
def fnChangesInUptoRow : OpenClaim := { program := "ytpalmbcknjmmcaa", sum := "9807de6f51a2b6f1d4bacf9ee9acd3af98a37a8a716e83a393cea072af8d0e24", func := "loop.example/wholewaves/laws.FnChangesIn", spec := "fnChangesIn", apart := false, narrowed := true }
def FnChangesInUptoSaid : Prop := fnChangesInUptoRow.holds Try.pinned (OpenSpec.upto fnChangesInSpec)

/-- 'laws.FnOrderOf', WHERE WHAT IT READS IS OF BULK AT MOST 1048576: true; the input reads as it did. -/
def fnOrderOfUptoRow : OpenClaim := { program := "ytpalmbcknjmmcaa", sum := "9807de6f51a2b6f1d4bacf9ee9acd3af98a37a8a716e83a393cea072af8d0e24", func := "loop.example/wholewaves/laws.FnOrderOf", spec := "fnOrderOf", apart := false, narrowed := true }
def FnOrderOfUptoSaid : Prop := fnOrderOfUptoRow.holds Try.pinned (OpenSpec.upto fnOrderOfSpec)

/-- 'laws.FnMixOf', WHERE WHAT IT READS IS OF BULK AT MOST 1048576: true; the input reads as it did. -/
def fnMixOfUptoRow : OpenClaim := { program := "ytpalmbcknjmmcaa", sum := "9807de6f51a2b6f1d4bacf9ee9acd3af98a37a8a716e83a393cea072af8d0e24", func := "loop.example/wholewaves/laws.FnMixOf", spec := "fnMixOf", unfollowed := true, recurses := true, apart := false, narrowed := true }
def FnMixOfUptoSaid : Prop := fnMixOfUptoRow.holds Try.pinned (OpenSpec.upto fnMixOfSpec)

/-- 'laws.FnEnergyOf', WHERE WHAT IT READS IS OF BULK AT MOST 1048576: true; the input reads as it did. -/
def fnEnergyOfUptoRow : OpenClaim := { program := "ytpalmbcknjmmcaa", sum := "9807de6f51a2b6f1d4bacf9ee9acd3af98a37a8a716e83a393cea072af8d0e24", func := "loop.example/wholewaves/laws.FnEnergyOf", spec := "fnEnergyOf", unfollowed := true, recurses := true, apart := false, narrowed := true }
def FnEnergyOfUptoSaid : Prop := fnEnergyOfUptoRow.holds Try.pinned (OpenSpec.upto fnEnergyOfSpec)

/-- 'laws.FnIsBent', WHERE WHAT IT READS IS OF BULK AT MOST 1048576: true; the input reads as it did. -/
def fnIsBentUptoRow : OpenClaim := { program := "ytpalmbcknjmmcaa", sum := "9807de6f51a2b6f1d4bacf9ee9acd3af98a37a8a716e83a393cea072af8d0e24", func := "loop.example/wholewaves/laws.FnIsBent", spec := "fnIsBent", unfollowed := true, recurses := true, apart := false, narrowed := true }
def FnIsBentUptoSaid : Prop := fnIsBentUptoRow.holds Try.pinned (OpenSpec.upto fnIsBentSpec)

end Rows
end Go.Proofs.Ytpalmbcknjmmcaa
