/-
  No cell of these rows narrows 'for every input' (looked for: loops, veiled, ifaces, maps, wideKeys, modest, calm, conditions, laid).
  DERIVED. THE GIVEN ROWS OF THIS SEAT. 7 by the template 'for every input the law returns true; each argument reads behind the call as it read before'; 0 by the template 'total and deterministic' (their statements: YtgafiglfmkaniaaTotals.lean).
  GIVEN WITH THE SEED: the statements are not yours to turn. If you find one false, say at which input.
  Laid BY PROGRAM, IN A SANDBOX (cutbox-rows.mjs): the forced cells as the released guide's own fill.sh prints them over the translation d23b6f7a78828eef… (all of the seat's roots in one cut). By AI agents, Wed Nov 11 2026. No macro, syntax, notation, axiom, sorry.
-/
import Derived.Test.YtgafiglfmkaniaaChecked
import GoSem.Claim
import GoSem.ClaimJoined
import GoSem.ClaimMapViews
import Derived.JoinedTies
import Derived.KernelRfl
namespace Go.Proofs.Ytgafiglfmkaniaa
/- THE CELL 'sum', in the pinned program and in every row, IS THE sha256 OF THE DUMP (.gsa) THAT YtgafiglfmkaniaaProg.lean LOADS. Nothing in Lean hashes anything: it is a label: what it is worth is what the hold of that sum in a sandbox is worth. -/
noncomputable def Try.pinned : Pinned := { name := "ytgafiglfmkaniaa", sum := "d23b6f7a78828eef04eb171577af3707d9b1ef973235be250083ea23dc5acc64", checked := Try.checked }
namespace Rows
def none {H : Type} : Left H := { results := [], args := [] }

/-- 'laws.FnHalveOf': WHATEVER THE INPUT: true; the input reads as it did. -/
def fnHalveOfSpec : ChangeSpec := { name := "fnHalveOf", fn := fun _ => fun
  | [d] => { results := [.lit (.bool true)], args := [d] }
  | _ => none }
def fnHalveOfRow : OpenClaim := { program := "ytgafiglfmkaniaa", sum := "d23b6f7a78828eef04eb171577af3707d9b1ef973235be250083ea23dc5acc64", func := "loop.example/wholewaves/laws.FnHalveOf", spec := "fnHalveOf", unfollowed := true, recurses := true, apart := false }
def FnHalveOfSaid : Prop := fnHalveOfRow.holds Try.pinned (OpenSpec.ofChange fnHalveOfSpec)

/-- ITS FALSE NEIGHBOUR: 'it returns false'. Refute it at one input. -/
def fnHalveOfWrong : ChangeSpec := { name := "fnHalveOf", fn := fun _ => fun
  | [d] => { results := [.lit (.bool false)], args := [d] }
  | _ => none }
def FnHalveOfWrongFalsely : Prop := fnHalveOfRow.holds Try.pinned (OpenSpec.ofChange fnHalveOfWrong)

/-- 'laws.FnUnhalveOf': WHATEVER THE INPUT: true; the input reads as it did. -/
def fnUnhalveOfSpec : ChangeSpec := { name := "fnUnhalveOf", fn := fun _ => fun
  | [d] => { results := [.lit (.bool true)], args := [d] }
  | _ => none }
def fnUnhalveOfRow : OpenClaim := { program := "ytgafiglfmkaniaa", sum := "d23b6f7a78828eef04eb171577af3707d9b1ef973235be250083ea23dc5acc64", func := "loop.example/wholewaves/laws.FnUnhalveOf", spec := "fnUnhalveOf", unfollowed := true, recurses := true, apart := false }
def FnUnhalveOfSaid : Prop := fnUnhalveOfRow.holds Try.pinned (OpenSpec.ofChange fnUnhalveOfSpec)

/-- ITS FALSE NEIGHBOUR: 'it returns false'. Refute it at one input. -/
def fnUnhalveOfWrong : ChangeSpec := { name := "fnUnhalveOf", fn := fun _ => fun
  | [d] => { results := [.lit (.bool false)], args := [d] }
  | _ => none }
def FnUnhalveOfWrongFalsely : Prop := fnUnhalveOfRow.holds Try.pinned (OpenSpec.ofChange fnUnhalveOfWrong)

/-- 'laws.FnHalveAll': WHATEVER THE INPUT: true; the input reads as it did. -/
def fnHalveAllSpec : ChangeSpec := { name := "fnHalveAll", fn := fun _ => fun
  | [d] => { results := [.lit (.bool true)], args := [d] }
  | _ => none }
def fnHalveAllRow : OpenClaim := { program := "ytgafiglfmkaniaa", sum := "d23b6f7a78828eef04eb171577af3707d9b1ef973235be250083ea23dc5acc64", func := "loop.example/wholewaves/laws.FnHalveAll", spec := "fnHalveAll", unfollowed := true, recurses := true, apart := false }
def FnHalveAllSaid : Prop := fnHalveAllRow.holds Try.pinned (OpenSpec.ofChange fnHalveAllSpec)

/-- ITS FALSE NEIGHBOUR: 'it returns false'. Refute it at one input. -/
def fnHalveAllWrong : ChangeSpec := { name := "fnHalveAll", fn := fun _ => fun
  | [d] => { results := [.lit (.bool false)], args := [d] }
  | _ => none }
def FnHalveAllWrongFalsely : Prop := fnHalveAllRow.holds Try.pinned (OpenSpec.ofChange fnHalveAllWrong)

/-- 'laws.FnUnhalveAll': WHATEVER THE INPUT: true; the input reads as it did. -/
def fnUnhalveAllSpec : ChangeSpec := { name := "fnUnhalveAll", fn := fun _ => fun
  | [d] => { results := [.lit (.bool true)], args := [d] }
  | _ => none }
def fnUnhalveAllRow : OpenClaim := { program := "ytgafiglfmkaniaa", sum := "d23b6f7a78828eef04eb171577af3707d9b1ef973235be250083ea23dc5acc64", func := "loop.example/wholewaves/laws.FnUnhalveAll", spec := "fnUnhalveAll", unfollowed := true, recurses := true, apart := false }
def FnUnhalveAllSaid : Prop := fnUnhalveAllRow.holds Try.pinned (OpenSpec.ofChange fnUnhalveAllSpec)

/-- ITS FALSE NEIGHBOUR: 'it returns false'. Refute it at one input. -/
def fnUnhalveAllWrong : ChangeSpec := { name := "fnUnhalveAll", fn := fun _ => fun
  | [d] => { results := [.lit (.bool false)], args := [d] }
  | _ => none }
def FnUnhalveAllWrongFalsely : Prop := fnUnhalveAllRow.holds Try.pinned (OpenSpec.ofChange fnUnhalveAllWrong)

/-- 'laws.FnLeapOf': WHATEVER THE INPUT: true; the input reads as it did. -/
def fnLeapOfSpec : ChangeSpec := { name := "fnLeapOf", fn := fun _ => fun
  | [d] => { results := [.lit (.bool true)], args := [d] }
  | _ => none }
def fnLeapOfRow : OpenClaim := { program := "ytgafiglfmkaniaa", sum := "d23b6f7a78828eef04eb171577af3707d9b1ef973235be250083ea23dc5acc64", func := "loop.example/wholewaves/laws.FnLeapOf", spec := "fnLeapOf", unfollowed := true, recurses := true, apart := false }
def FnLeapOfSaid : Prop := fnLeapOfRow.holds Try.pinned (OpenSpec.ofChange fnLeapOfSpec)

/-- ITS FALSE NEIGHBOUR: 'it returns false'. Refute it at one input. -/
def fnLeapOfWrong : ChangeSpec := { name := "fnLeapOf", fn := fun _ => fun
  | [d] => { results := [.lit (.bool false)], args := [d] }
  | _ => none }
def FnLeapOfWrongFalsely : Prop := fnLeapOfRow.holds Try.pinned (OpenSpec.ofChange fnLeapOfWrong)

/-- 'laws.FnUnleapOf': WHATEVER THE INPUT: true; the input reads as it did. -/
def fnUnleapOfSpec : ChangeSpec := { name := "fnUnleapOf", fn := fun _ => fun
  | [d] => { results := [.lit (.bool true)], args := [d] }
  | _ => none }
def fnUnleapOfRow : OpenClaim := { program := "ytgafiglfmkaniaa", sum := "d23b6f7a78828eef04eb171577af3707d9b1ef973235be250083ea23dc5acc64", func := "loop.example/wholewaves/laws.FnUnleapOf", spec := "fnUnleapOf", unfollowed := true, recurses := true, apart := false }
def FnUnleapOfSaid : Prop := fnUnleapOfRow.holds Try.pinned (OpenSpec.ofChange fnUnleapOfSpec)

/-- ITS FALSE NEIGHBOUR: 'it returns false'. Refute it at one input. -/
def fnUnleapOfWrong : ChangeSpec := { name := "fnUnleapOf", fn := fun _ => fun
  | [d] => { results := [.lit (.bool false)], args := [d] }
  | _ => none }
def FnUnleapOfWrongFalsely : Prop := fnUnleapOfRow.holds Try.pinned (OpenSpec.ofChange fnUnleapOfWrong)

/-- 'laws.FnDropSmall': WHATEVER THE INPUT: true; the input reads as it did. -/
def fnDropSmallSpec : ChangeSpec := { name := "fnDropSmall", fn := fun _ => fun
  | [d] => { results := [.lit (.bool true)], args := [d] }
  | _ => none }
def fnDropSmallRow : OpenClaim := { program := "ytgafiglfmkaniaa", sum := "d23b6f7a78828eef04eb171577af3707d9b1ef973235be250083ea23dc5acc64", func := "loop.example/wholewaves/laws.FnDropSmall", spec := "fnDropSmall", unfollowed := true, recurses := true, apart := false }
def FnDropSmallSaid : Prop := fnDropSmallRow.holds Try.pinned (OpenSpec.ofChange fnDropSmallSpec)

/-- ITS FALSE NEIGHBOUR: 'it returns false'. Refute it at one input. -/
def fnDropSmallWrong : ChangeSpec := { name := "fnDropSmall", fn := fun _ => fun
  | [d] => { results := [.lit (.bool false)], args := [d] }
  | _ => none }
def FnDropSmallWrongFalsely : Prop := fnDropSmallRow.holds Try.pinned (OpenSpec.ofChange fnDropSmallWrong)

/- THE SECOND FORM. 'bulk': how many values and letters a reading holds, each counted each time it is reached (what is shared counts as often as it is met; a slice's spare places count too). A statement '..UptoSaid' is the law's where the arguments, and the package variables that the reading takes, are together of bulk at most 1048576: NARROWER than '..Said'. Prove '..Said' where nothing that the law and all that it calls make is longer than what came in: it says more and counts as full. Else prove '..UptoSaid'. A law counts once. -/
mutual
def uptoBulk {H : Type} : DataW H → Nat
  | .lit (.string bytes) => bytes.length + 1
  | .lit _ => 1
  | .nil => 1
  | .ptr d => uptoBulk d + 1
  | .slice elems spare => uptoBulkAll elems + uptoBulkAll spare + 1
  | .agg parts => uptoBulkAll parts + 1
  | .iface _ d => uptoBulk d + 1
  | .map entries => uptoBulkEntries entries + 1
  | .held _ => 1
def uptoBulkAll {H : Type} : List (DataW H) → Nat
  | [] => 0
  | d :: r => uptoBulk d + uptoBulkAll r
def uptoBulkEntries {H : Type} : List (Lit × DataW H) → Nat
  | [] => 0
  | x :: r => uptoBulkEntry x + uptoBulkEntries r
def uptoBulkEntry {H : Type} : Lit × DataW H → Nat
  | (.string bytes, d) => bytes.length + uptoBulk d + 1
  | (_, d) => uptoBulk d + 1
 end
def uptoSmall : (H : Type) → List (DataW H) → Bool := fun _ ds => decide (uptoBulkAll ds ≤ 1048576)
def OpenSpec.upto (s : _root_.Go.ChangeSpec) : _root_.Go.OpenSpec := { _root_.Go.OpenSpec.ofChange s with cond := some uptoSmall }

/-- 'laws.FnHalveOf', WHERE WHAT IT READS IS OF BULK AT MOST 1048576: true; the input reads as it did. -/
def fnHalveOfUptoRow : OpenClaim := { program := "ytgafiglfmkaniaa", sum := "d23b6f7a78828eef04eb171577af3707d9b1ef973235be250083ea23dc5acc64", func := "loop.example/wholewaves/laws.FnHalveOf", spec := "fnHalveOf", unfollowed := true, recurses := true, apart := false, narrowed := true }
def FnHalveOfUptoSaid : Prop := fnHalveOfUptoRow.holds Try.pinned (OpenSpec.upto fnHalveOfSpec)

/-- 'laws.FnUnhalveOf', WHERE WHAT IT READS IS OF BULK AT MOST 1048576: true; the input reads as it did. -/
def fnUnhalveOfUptoRow : OpenClaim := { program := "ytgafiglfmkaniaa", sum := "d23b6f7a78828eef04eb171577af3707d9b1ef973235be250083ea23dc5acc64", func := "loop.example/wholewaves/laws.FnUnhalveOf", spec := "fnUnhalveOf", unfollowed := true, recurses := true, apart := false, narrowed := true }
def FnUnhalveOfUptoSaid : Prop := fnUnhalveOfUptoRow.holds Try.pinned (OpenSpec.upto fnUnhalveOfSpec)

/-- 'laws.FnHalveAll', WHERE WHAT IT READS IS OF BULK AT MOST 1048576: true; the input reads as it did. -/
def fnHalveAllUptoRow : OpenClaim := { program := "ytgafiglfmkaniaa", sum := "d23b6f7a78828eef04eb171577af3707d9b1ef973235be250083ea23dc5acc64", func := "loop.example/wholewaves/laws.FnHalveAll", spec := "fnHalveAll", unfollowed := true, recurses := true, apart := false, narrowed := true }
def FnHalveAllUptoSaid : Prop := fnHalveAllUptoRow.holds Try.pinned (OpenSpec.upto fnHalveAllSpec)

/-- 'laws.FnUnhalveAll', WHERE WHAT IT READS IS OF BULK AT MOST 1048576: true; the input reads as it did. -/
def fnUnhalveAllUptoRow : OpenClaim := { program := "ytgafiglfmkaniaa", sum := "d23b6f7a78828eef04eb171577af3707d9b1ef973235be250083ea23dc5acc64", func := "loop.example/wholewaves/laws.FnUnhalveAll", spec := "fnUnhalveAll", unfollowed := true, recurses := true, apart := false, narrowed := true }
def FnUnhalveAllUptoSaid : Prop := fnUnhalveAllUptoRow.holds Try.pinned (OpenSpec.upto fnUnhalveAllSpec)

/-- 'laws.FnLeapOf', WHERE WHAT IT READS IS OF BULK AT MOST 1048576: true; the input reads as it did. -/
def fnLeapOfUptoRow : OpenClaim := { program := "ytgafiglfmkaniaa", sum := "d23b6f7a78828eef04eb171577af3707d9b1ef973235be250083ea23dc5acc64", func := "loop.example/wholewaves/laws.FnLeapOf", spec := "fnLeapOf", unfollowed := true, recurses := true, apart := false, narrowed := true }
def FnLeapOfUptoSaid : Prop := fnLeapOfUptoRow.holds Try.pinned (OpenSpec.upto fnLeapOfSpec)

/-- 'laws.FnUnleapOf', WHERE WHAT IT READS IS OF BULK AT MOST 1048576: true; the input reads as it did. -/
def fnUnleapOfUptoRow : OpenClaim := { program := "ytgafiglfmkaniaa", sum := "d23b6f7a78828eef04eb171577af3707d9b1ef973235be250083ea23dc5acc64", func := "loop.example/wholewaves/laws.FnUnleapOf", spec := "fnUnleapOf", unfollowed := true, recurses := true, apart := false, narrowed := true }
def FnUnleapOfUptoSaid : Prop := fnUnleapOfUptoRow.holds Try.pinned (OpenSpec.upto fnUnleapOfSpec)

/-- 'laws.FnDropSmall', WHERE WHAT IT READS IS OF BULK AT MOST 1048576: true; the input reads as it did. -/
def fnDropSmallUptoRow : OpenClaim := { program := "ytgafiglfmkaniaa", sum := "d23b6f7a78828eef04eb171577af3707d9b1ef973235be250083ea23dc5acc64", func := "loop.example/wholewaves/laws.FnDropSmall", spec := "fnDropSmall", unfollowed := true, recurses := true, apart := false, narrowed := true }
def FnDropSmallUptoSaid : Prop := fnDropSmallUptoRow.holds Try.pinned (OpenSpec.upto fnDropSmallSpec)

end Rows
end Go.Proofs.Ytgafiglfmkaniaa
