/-
  No cell of these rows narrows 'for every input' (looked for: loops, veiled, ifaces, maps, wideKeys, modest, calm, conditions, laid).
  DERIVED. THE GIVEN ROWS OF THIS SEAT. 7 by the template 'for every input the law returns true; each argument reads behind the call as it read before'; 0 by the template 'total and deterministic' (their statements: YtgafiglfmkaniabTotals.lean).
  GIVEN WITH THE SEED: the statements are not yours to turn. If you find one false, say at which input.
  Laid BY PROGRAM, IN A SANDBOX (cutbox-rows.mjs): the forced cells as the released guide's own fill.sh prints them over the translation 90a69083c572ebdf… (all of the seat's roots in one cut). By AI agents, Wed Nov 11 2026. No macro, syntax, notation, axiom, sorry.
-/
import Derived.Test.YtgafiglfmkaniabChecked
import GoSem.Claim
import GoSem.ClaimJoined
import GoSem.ClaimMapViews
import Derived.JoinedTies
import Derived.KernelRfl
namespace Go.Proofs.Ytgafiglfmkaniab
/- THE CELL 'sum', in the pinned program and in every row, IS THE sha256 OF THE DUMP (.gsa) THAT YtgafiglfmkaniabProg.lean LOADS. Nothing in Lean hashes anything: it is a label: what it is worth is what the hold of that sum in a sandbox is worth. -/
noncomputable def Try.pinned : Pinned := { name := "ytgafiglfmkaniab", sum := "90a69083c572ebdffbda815de68a72f97cd551a9b0fe13d86b7c21faf9a187ef", checked := Try.checked }
namespace Rows
def none {H : Type} : Left H := { results := [], args := [] }

/-- 'laws.FnExactHalveOf': WHATEVER THE INPUT: true; the input reads as it did. -/
def fnExactHalveOfSpec : ChangeSpec := { name := "fnExactHalveOf", fn := fun _ => fun
  | [d] => { results := [.lit (.bool true)], args := [d] }
  | _ => none }
def fnExactHalveOfRow : OpenClaim := { program := "ytgafiglfmkaniab", sum := "90a69083c572ebdffbda815de68a72f97cd551a9b0fe13d86b7c21faf9a187ef", func := "loop.example/wholewaves/laws.FnExactHalveOf", spec := "fnExactHalveOf", unfollowed := true, recurses := true, apart := false }
def FnExactHalveOfSaid : Prop := fnExactHalveOfRow.holds Try.pinned (OpenSpec.ofChange fnExactHalveOfSpec)

/-- ITS FALSE NEIGHBOUR: 'it returns false'. Refute it at one input. -/
def fnExactHalveOfWrong : ChangeSpec := { name := "fnExactHalveOf", fn := fun _ => fun
  | [d] => { results := [.lit (.bool false)], args := [d] }
  | _ => none }
def FnExactHalveOfWrongFalsely : Prop := fnExactHalveOfRow.holds Try.pinned (OpenSpec.ofChange fnExactHalveOfWrong)

/-- 'laws.FnExactUnhalveOf': WHATEVER THE INPUT: true; the input reads as it did. -/
def fnExactUnhalveOfSpec : ChangeSpec := { name := "fnExactUnhalveOf", fn := fun _ => fun
  | [d] => { results := [.lit (.bool true)], args := [d] }
  | _ => none }
def fnExactUnhalveOfRow : OpenClaim := { program := "ytgafiglfmkaniab", sum := "90a69083c572ebdffbda815de68a72f97cd551a9b0fe13d86b7c21faf9a187ef", func := "loop.example/wholewaves/laws.FnExactUnhalveOf", spec := "fnExactUnhalveOf", unfollowed := true, recurses := true, apart := false }
def FnExactUnhalveOfSaid : Prop := fnExactUnhalveOfRow.holds Try.pinned (OpenSpec.ofChange fnExactUnhalveOfSpec)

/-- ITS FALSE NEIGHBOUR: 'it returns false'. Refute it at one input. -/
def fnExactUnhalveOfWrong : ChangeSpec := { name := "fnExactUnhalveOf", fn := fun _ => fun
  | [d] => { results := [.lit (.bool false)], args := [d] }
  | _ => none }
def FnExactUnhalveOfWrongFalsely : Prop := fnExactUnhalveOfRow.holds Try.pinned (OpenSpec.ofChange fnExactUnhalveOfWrong)

/-- 'laws.FnExactHalveAll': WHATEVER THE INPUT: true; the input reads as it did. -/
def fnExactHalveAllSpec : ChangeSpec := { name := "fnExactHalveAll", fn := fun _ => fun
  | [d] => { results := [.lit (.bool true)], args := [d] }
  | _ => none }
def fnExactHalveAllRow : OpenClaim := { program := "ytgafiglfmkaniab", sum := "90a69083c572ebdffbda815de68a72f97cd551a9b0fe13d86b7c21faf9a187ef", func := "loop.example/wholewaves/laws.FnExactHalveAll", spec := "fnExactHalveAll", unfollowed := true, recurses := true, apart := false }
def FnExactHalveAllSaid : Prop := fnExactHalveAllRow.holds Try.pinned (OpenSpec.ofChange fnExactHalveAllSpec)

/-- ITS FALSE NEIGHBOUR: 'it returns false'. Refute it at one input. -/
def fnExactHalveAllWrong : ChangeSpec := { name := "fnExactHalveAll", fn := fun _ => fun
  | [d] => { results := [.lit (.bool false)], args := [d] }
  | _ => none }
def FnExactHalveAllWrongFalsely : Prop := fnExactHalveAllRow.holds Try.pinned (OpenSpec.ofChange fnExactHalveAllWrong)

/-- 'laws.FnExactUnhalveAll': WHATEVER THE INPUT: true; the input reads as it did. -/
def fnExactUnhalveAllSpec : ChangeSpec := { name := "fnExactUnhalveAll", fn := fun _ => fun
  | [d] => { results := [.lit (.bool true)], args := [d] }
  | _ => none }
def fnExactUnhalveAllRow : OpenClaim := { program := "ytgafiglfmkaniab", sum := "90a69083c572ebdffbda815de68a72f97cd551a9b0fe13d86b7c21faf9a187ef", func := "loop.example/wholewaves/laws.FnExactUnhalveAll", spec := "fnExactUnhalveAll", unfollowed := true, recurses := true, apart := false }
def FnExactUnhalveAllSaid : Prop := fnExactUnhalveAllRow.holds Try.pinned (OpenSpec.ofChange fnExactUnhalveAllSpec)

/-- ITS FALSE NEIGHBOUR: 'it returns false'. Refute it at one input. -/
def fnExactUnhalveAllWrong : ChangeSpec := { name := "fnExactUnhalveAll", fn := fun _ => fun
  | [d] => { results := [.lit (.bool false)], args := [d] }
  | _ => none }
def FnExactUnhalveAllWrongFalsely : Prop := fnExactUnhalveAllRow.holds Try.pinned (OpenSpec.ofChange fnExactUnhalveAllWrong)

/-- 'laws.FnExactLeapOf': WHATEVER THE INPUT: true; the input reads as it did. -/
def fnExactLeapOfSpec : ChangeSpec := { name := "fnExactLeapOf", fn := fun _ => fun
  | [d] => { results := [.lit (.bool true)], args := [d] }
  | _ => none }
def fnExactLeapOfRow : OpenClaim := { program := "ytgafiglfmkaniab", sum := "90a69083c572ebdffbda815de68a72f97cd551a9b0fe13d86b7c21faf9a187ef", func := "loop.example/wholewaves/laws.FnExactLeapOf", spec := "fnExactLeapOf", unfollowed := true, recurses := true, apart := false }
def FnExactLeapOfSaid : Prop := fnExactLeapOfRow.holds Try.pinned (OpenSpec.ofChange fnExactLeapOfSpec)

/-- ITS FALSE NEIGHBOUR: 'it returns false'. Refute it at one input. -/
def fnExactLeapOfWrong : ChangeSpec := { name := "fnExactLeapOf", fn := fun _ => fun
  | [d] => { results := [.lit (.bool false)], args := [d] }
  | _ => none }
def FnExactLeapOfWrongFalsely : Prop := fnExactLeapOfRow.holds Try.pinned (OpenSpec.ofChange fnExactLeapOfWrong)

/-- 'laws.FnExactUnleapOf': WHATEVER THE INPUT: true; the input reads as it did. -/
def fnExactUnleapOfSpec : ChangeSpec := { name := "fnExactUnleapOf", fn := fun _ => fun
  | [d] => { results := [.lit (.bool true)], args := [d] }
  | _ => none }
def fnExactUnleapOfRow : OpenClaim := { program := "ytgafiglfmkaniab", sum := "90a69083c572ebdffbda815de68a72f97cd551a9b0fe13d86b7c21faf9a187ef", func := "loop.example/wholewaves/laws.FnExactUnleapOf", spec := "fnExactUnleapOf", unfollowed := true, recurses := true, apart := false }
def FnExactUnleapOfSaid : Prop := fnExactUnleapOfRow.holds Try.pinned (OpenSpec.ofChange fnExactUnleapOfSpec)

/-- ITS FALSE NEIGHBOUR: 'it returns false'. Refute it at one input. -/
def fnExactUnleapOfWrong : ChangeSpec := { name := "fnExactUnleapOf", fn := fun _ => fun
  | [d] => { results := [.lit (.bool false)], args := [d] }
  | _ => none }
def FnExactUnleapOfWrongFalsely : Prop := fnExactUnleapOfRow.holds Try.pinned (OpenSpec.ofChange fnExactUnleapOfWrong)

/-- 'laws.FnExactDropSmall': WHATEVER THE INPUT: true; the input reads as it did. -/
def fnExactDropSmallSpec : ChangeSpec := { name := "fnExactDropSmall", fn := fun _ => fun
  | [d1, d2] => { results := [.lit (.bool true)], args := [d1, d2] }
  | _ => none }
def fnExactDropSmallRow : OpenClaim := { program := "ytgafiglfmkaniab", sum := "90a69083c572ebdffbda815de68a72f97cd551a9b0fe13d86b7c21faf9a187ef", func := "loop.example/wholewaves/laws.FnExactDropSmall", spec := "fnExactDropSmall", apart := false }
def FnExactDropSmallSaid : Prop := fnExactDropSmallRow.holds Try.pinned (OpenSpec.ofChange fnExactDropSmallSpec)

/-- ITS FALSE NEIGHBOUR: 'it returns false'. Refute it at one input. -/
def fnExactDropSmallWrong : ChangeSpec := { name := "fnExactDropSmall", fn := fun _ => fun
  | [d1, d2] => { results := [.lit (.bool false)], args := [d1, d2] }
  | _ => none }
def FnExactDropSmallWrongFalsely : Prop := fnExactDropSmallRow.holds Try.pinned (OpenSpec.ofChange fnExactDropSmallWrong)

/- THE SECOND FORM. 'bulk': how many values and letters a reading holds, each counted each time it is reached (what is shared counts as often as it is met; a slice's spare places count too). A statement '..UptoSaid' is the law's where the arguments, and the package variables that the reading takes, are together of bulk at most 1048576: NARROWER than '..Said'. Prove '..Said' where nothing that the law and all that it calls make is longer than what came in: it says more and counts as full. Else prove '..UptoSaid'. A law counts once. -/
mutual
def uptoBulk {H : Type} : DataW H → Nat
  | .lit (.string bytes) => bytes.length + 1
  | .lit _ => 1
  | .nil => 1
  | .ptr d => uptoBulk d + 1
  | .slice elems spare => uptoBulkAll elems + uptoBulkAll spare + 1
  | .agg parts => uptoBulkAll parts + 1
  | .iface _ d => uptoBulk d + 1
  | .map entries => uptoBulkEntries entries + 1
  | .held _ => 1
def uptoBulkAll {H : Type} : List (DataW H) → Nat
  | [] => 0
  | d :: r => uptoBulk d + uptoBulkAll r
def uptoBulkEntries {H : Type} : List (Lit × DataW H) → Nat
  | [] => 0
  | x :: r => uptoBulkEntry x + uptoBulkEntries r
def uptoBulkEntry {H : Type} : Lit × DataW H → Nat
  | (.string bytes, d) => bytes.length + uptoBulk d + 1
  | (_, d) => uptoBulk d + 1
 end
def uptoSmall : (H : Type) → List (DataW H) → Bool := fun _ ds => decide (uptoBulkAll ds ≤ 1048576)
def OpenSpec.upto (s : _root_.Go.ChangeSpec) : _root_.Go.OpenSpec := { _root_.Go.OpenSpec.ofChange s with cond := some uptoSmall }

/-- 'laws.FnExactHalveOf', WHERE WHAT IT READS IS OF BULK AT MOST 1048576: true; the input reads as it did. -/
def fnExactHalveOfUptoRow : OpenClaim := { program := "ytgafiglfmkaniab", sum := "90a69083c572ebdffbda815de68a72f97cd551a9b0fe13d86b7c21faf9a187ef", func := "loop.example/wholewaves/laws.FnExactHalveOf", spec := "fnExactHalveOf", unfollowed := true, recurses := true, apart := false, narrowed := true }
def FnExactHalveOfUptoSaid : Prop := fnExactHalveOfUptoRow.holds Try.pinned (OpenSpec.upto fnExactHalveOfSpec)

/-- 'laws.FnExactUnhalveOf', WHERE WHAT IT READS IS OF BULK AT MOST 1048576: true; the input reads as it did. -/
def fnExactUnhalveOfUptoRow : OpenClaim := { program := "ytgafiglfmkaniab", sum := "90a69083c572ebdffbda815de68a72f97cd551a9b0fe13d86b7c21faf9a187ef", func := "loop.example/wholewaves/laws.FnExactUnhalveOf", spec := "fnExactUnhalveOf", unfollowed := true, recurses := true, apart := false, narrowed := true }
def FnExactUnhalveOfUptoSaid : Prop := fnExactUnhalveOfUptoRow.holds Try.pinned (OpenSpec.upto fnExactUnhalveOfSpec)

/-- 'laws.FnExactHalveAll', WHERE WHAT IT READS IS OF BULK AT MOST 1048576: true; the input reads as it did. -/
def fnExactHalveAllUptoRow : OpenClaim := { program := "ytgafiglfmkaniab", sum := "90a69083c572ebdffbda815de68a72f97cd551a9b0fe13d86b7c21faf9a187ef", func := "loop.example/wholewaves/laws.FnExactHalveAll", spec := "fnExactHalveAll", unfollowed := true, recurses := true, apart := false, narrowed := true }
def FnExactHalveAllUptoSaid : Prop := fnExactHalveAllUptoRow.holds Try.pinned (OpenSpec.upto fnExactHalveAllSpec)

/-- 'laws.FnExactUnhalveAll', WHERE WHAT IT READS IS OF BULK AT MOST 1048576: true; the input reads as it did. -/
def fnExactUnhalveAllUptoRow : OpenClaim := { program := "ytgafiglfmkaniab", sum := "90a69083c572ebdffbda815de68a72f97cd551a9b0fe13d86b7c21faf9a187ef", func := "loop.example/wholewaves/laws.FnExactUnhalveAll", spec := "fnExactUnhalveAll", unfollowed := true, recurses := true, apart := false, narrowed := true }
def FnExactUnhalveAllUptoSaid : Prop := fnExactUnhalveAllUptoRow.holds Try.pinned (OpenSpec.upto fnExactUnhalveAllSpec)

/-- 'laws.FnExactLeapOf', WHERE WHAT IT READS IS OF BULK AT MOST 1048576: true; the input reads as it did. -/
def fnExactLeapOfUptoRow : OpenClaim := { program := "ytgafiglfmkaniab", sum := "90a69083c572ebdffbda815de68a72f97cd551a9b0fe13d86b7c21faf9a187ef", func := "loop.example/wholewaves/laws.FnExactLeapOf", spec := "fnExactLeapOf", unfollowed := true, recurses := true, apart := false, narrowed := true }
def FnExactLeapOfUptoSaid : Prop := fnExactLeapOfUptoRow.holds Try.pinned (OpenSpec.upto fnExactLeapOfSpec)

/-- 'laws.FnExactUnleapOf', WHERE WHAT IT READS IS OF BULK AT MOST 1048576: true; the input reads as it did. -/
def fnExactUnleapOfUptoRow : OpenClaim := { program := "ytgafiglfmkaniab", sum := "90a69083c572ebdffbda815de68a72f97cd551a9b0fe13d86b7c21faf9a187ef", func := "loop.example/wholewaves/laws.FnExactUnleapOf", spec := "fnExactUnleapOf", unfollowed := true, recurses := true, apart := false, narrowed := true }
def FnExactUnleapOfUptoSaid : Prop := fnExactUnleapOfUptoRow.holds Try.pinned (OpenSpec.upto fnExactUnleapOfSpec)

/-- 'laws.FnExactDropSmall', WHERE WHAT IT READS IS OF BULK AT MOST 1048576: true; the input reads as it did. -/
def fnExactDropSmallUptoRow : OpenClaim := { program := "ytgafiglfmkaniab", sum := "90a69083c572ebdffbda815de68a72f97cd551a9b0fe13d86b7c21faf9a187ef", func := "loop.example/wholewaves/laws.FnExactDropSmall", spec := "fnExactDropSmall", apart := false, narrowed := true }
def FnExactDropSmallUptoSaid : Prop := fnExactDropSmallUptoRow.holds Try.pinned (OpenSpec.upto fnExactDropSmallSpec)

end Rows
end Go.Proofs.Ytgafiglfmkaniab
