/-
  No cell of these rows narrows 'for every input' (looked for: loops, veiled, ifaces, maps, wideKeys, modest, calm, conditions, laid).
  DERIVED. THE GIVEN ROWS OF THIS SEAT. 8 by the template 'for every input the law returns true; each argument reads behind the call as it read before'; 0 by the template 'total and deterministic' (their statements: YtjdlolahjikegabTotals.lean).
  GIVEN WITH THE SEED: the statements are not yours to turn. If you find one false, say at which input.
  Laid BY PROGRAM, IN A SANDBOX (cutbox-rows.mjs): the forced cells as the released guide's own fill.sh prints them over the translation e23ac46c3ce992a9… (all of the seat's roots in one cut). By AI agents, Wed Nov 11 2026. No macro, syntax, notation, axiom, sorry.
-/
import Derived.Test.YtjdlolahjikegabChecked
import GoSem.Claim
import GoSem.ClaimJoined
import GoSem.ClaimMapViews
import Derived.JoinedTies
import Derived.KernelRfl
namespace Go.Proofs.Ytjdlolahjikegab
/- THE CELL 'sum', in the pinned program and in every row, IS THE sha256 OF THE DUMP (.gsa) THAT YtjdlolahjikegabProg.lean LOADS. Nothing in Lean hashes anything: it is a label: what it is worth is what the hold of that sum in a sandbox is worth. -/
noncomputable def Try.pinned : Pinned := { name := "ytjdlolahjikegab", sum := "e23ac46c3ce992a9692fbf9abbe68a1b82e69e0241ce77eeb2ab7987b1bd544b", checked := Try.checked }
namespace Rows
def none {H : Type} : Left H := { results := [], args := [] }

/-- 'laws.FnExactStepsOf': WHATEVER THE INPUT: true; the input reads as it did. -/
def fnExactStepsOfSpec : ChangeSpec := { name := "fnExactStepsOf", fn := fun _ => fun
  | [d] => { results := [.lit (.bool true)], args := [d] }
  | _ => none }
def fnExactStepsOfRow : OpenClaim := { program := "ytjdlolahjikegab", sum := "e23ac46c3ce992a9692fbf9abbe68a1b82e69e0241ce77eeb2ab7987b1bd544b", func := "loop.example/wholewaves/laws.FnExactStepsOf", spec := "fnExactStepsOf", apart := false }
def FnExactStepsOfSaid : Prop := fnExactStepsOfRow.holds Try.pinned (OpenSpec.ofChange fnExactStepsOfSpec)

/-- ITS FALSE NEIGHBOUR: 'it returns false'. Refute it at one input. -/
def fnExactStepsOfWrong : ChangeSpec := { name := "fnExactStepsOf", fn := fun _ => fun
  | [d] => { results := [.lit (.bool false)], args := [d] }
  | _ => none }
def FnExactStepsOfWrongFalsely : Prop := fnExactStepsOfRow.holds Try.pinned (OpenSpec.ofChange fnExactStepsOfWrong)

/-- 'laws.FnExactEdgeOf': WHATEVER THE INPUT: true; the input reads as it did. -/
def fnExactEdgeOfSpec : ChangeSpec := { name := "fnExactEdgeOf", fn := fun _ => fun
  | [d] => { results := [.lit (.bool true)], args := [d] }
  | _ => none }
def fnExactEdgeOfRow : OpenClaim := { program := "ytjdlolahjikegab", sum := "e23ac46c3ce992a9692fbf9abbe68a1b82e69e0241ce77eeb2ab7987b1bd544b", func := "loop.example/wholewaves/laws.FnExactEdgeOf", spec := "fnExactEdgeOf", unfollowed := true, recurses := true, apart := false }
def FnExactEdgeOfSaid : Prop := fnExactEdgeOfRow.holds Try.pinned (OpenSpec.ofChange fnExactEdgeOfSpec)

/-- ITS FALSE NEIGHBOUR: 'it returns false'. Refute it at one input. -/
def fnExactEdgeOfWrong : ChangeSpec := { name := "fnExactEdgeOf", fn := fun _ => fun
  | [d] => { results := [.lit (.bool false)], args := [d] }
  | _ => none }
def FnExactEdgeOfWrongFalsely : Prop := fnExactEdgeOfRow.holds Try.pinned (OpenSpec.ofChange fnExactEdgeOfWrong)

/-- 'laws.FnExactFromEdge': WHATEVER THE INPUT: true; the input reads as it did. -/
def fnExactFromEdgeSpec : ChangeSpec := { name := "fnExactFromEdge", fn := fun _ => fun
  | [d] => { results := [.lit (.bool true)], args := [d] }
  | _ => none }
def fnExactFromEdgeRow : OpenClaim := { program := "ytjdlolahjikegab", sum := "e23ac46c3ce992a9692fbf9abbe68a1b82e69e0241ce77eeb2ab7987b1bd544b", func := "loop.example/wholewaves/laws.FnExactFromEdge", spec := "fnExactFromEdge", apart := false }
def FnExactFromEdgeSaid : Prop := fnExactFromEdgeRow.holds Try.pinned (OpenSpec.ofChange fnExactFromEdgeSpec)

/-- ITS FALSE NEIGHBOUR: 'it returns false'. Refute it at one input. -/
def fnExactFromEdgeWrong : ChangeSpec := { name := "fnExactFromEdge", fn := fun _ => fun
  | [d] => { results := [.lit (.bool false)], args := [d] }
  | _ => none }
def FnExactFromEdgeWrongFalsely : Prop := fnExactFromEdgeRow.holds Try.pinned (OpenSpec.ofChange fnExactFromEdgeWrong)

/-- 'laws.FnExactDegreeOf': WHATEVER THE INPUT: true; the input reads as it did. -/
def fnExactDegreeOfSpec : ChangeSpec := { name := "fnExactDegreeOf", fn := fun _ => fun
  | [d] => { results := [.lit (.bool true)], args := [d] }
  | _ => none }
def fnExactDegreeOfRow : OpenClaim := { program := "ytjdlolahjikegab", sum := "e23ac46c3ce992a9692fbf9abbe68a1b82e69e0241ce77eeb2ab7987b1bd544b", func := "loop.example/wholewaves/laws.FnExactDegreeOf", spec := "fnExactDegreeOf", unfollowed := true, recurses := true, apart := false }
def FnExactDegreeOfSaid : Prop := fnExactDegreeOfRow.holds Try.pinned (OpenSpec.ofChange fnExactDegreeOfSpec)

/-- ITS FALSE NEIGHBOUR: 'it returns false'. Refute it at one input. -/
def fnExactDegreeOfWrong : ChangeSpec := { name := "fnExactDegreeOf", fn := fun _ => fun
  | [d] => { results := [.lit (.bool false)], args := [d] }
  | _ => none }
def FnExactDegreeOfWrongFalsely : Prop := fnExactDegreeOfRow.holds Try.pinned (OpenSpec.ofChange fnExactDegreeOfWrong)

/-- 'laws.FnExactBelowOf': WHATEVER THE INPUT: true; the input reads as it did. -/
def fnExactBelowOfSpec : ChangeSpec := { name := "fnExactBelowOf", fn := fun _ => fun
  | [d] => { results := [.lit (.bool true)], args := [d] }
  | _ => none }
def fnExactBelowOfRow : OpenClaim := { program := "ytjdlolahjikegab", sum := "e23ac46c3ce992a9692fbf9abbe68a1b82e69e0241ce77eeb2ab7987b1bd544b", func := "loop.example/wholewaves/laws.FnExactBelowOf", spec := "fnExactBelowOf", apart := false }
def FnExactBelowOfSaid : Prop := fnExactBelowOfRow.holds Try.pinned (OpenSpec.ofChange fnExactBelowOfSpec)

/-- ITS FALSE NEIGHBOUR: 'it returns false'. Refute it at one input. -/
def fnExactBelowOfWrong : ChangeSpec := { name := "fnExactBelowOf", fn := fun _ => fun
  | [d] => { results := [.lit (.bool false)], args := [d] }
  | _ => none }
def FnExactBelowOfWrongFalsely : Prop := fnExactBelowOfRow.holds Try.pinned (OpenSpec.ofChange fnExactBelowOfWrong)

/-- 'laws.FnExactUnbelowOf': WHATEVER THE INPUT: true; the input reads as it did. -/
def fnExactUnbelowOfSpec : ChangeSpec := { name := "fnExactUnbelowOf", fn := fun _ => fun
  | [d] => { results := [.lit (.bool true)], args := [d] }
  | _ => none }
def fnExactUnbelowOfRow : OpenClaim := { program := "ytjdlolahjikegab", sum := "e23ac46c3ce992a9692fbf9abbe68a1b82e69e0241ce77eeb2ab7987b1bd544b", func := "loop.example/wholewaves/laws.FnExactUnbelowOf", spec := "fnExactUnbelowOf", apart := false }
def FnExactUnbelowOfSaid : Prop := fnExactUnbelowOfRow.holds Try.pinned (OpenSpec.ofChange fnExactUnbelowOfSpec)

/-- ITS FALSE NEIGHBOUR: 'it returns false'. Refute it at one input. -/
def fnExactUnbelowOfWrong : ChangeSpec := { name := "fnExactUnbelowOf", fn := fun _ => fun
  | [d] => { results := [.lit (.bool false)], args := [d] }
  | _ => none }
def FnExactUnbelowOfWrongFalsely : Prop := fnExactUnbelowOfRow.holds Try.pinned (OpenSpec.ofChange fnExactUnbelowOfWrong)

/-- 'laws.FnExactDivisorSums': WHATEVER THE INPUT: true; the input reads as it did. -/
def fnExactDivisorSumsSpec : ChangeSpec := { name := "fnExactDivisorSums", fn := fun _ => fun
  | [d] => { results := [.lit (.bool true)], args := [d] }
  | _ => none }
def fnExactDivisorSumsRow : OpenClaim := { program := "ytjdlolahjikegab", sum := "e23ac46c3ce992a9692fbf9abbe68a1b82e69e0241ce77eeb2ab7987b1bd544b", func := "loop.example/wholewaves/laws.FnExactDivisorSums", spec := "fnExactDivisorSums", apart := false }
def FnExactDivisorSumsSaid : Prop := fnExactDivisorSumsRow.holds Try.pinned (OpenSpec.ofChange fnExactDivisorSumsSpec)

/-- ITS FALSE NEIGHBOUR: 'it returns false'. Refute it at one input. -/
def fnExactDivisorSumsWrong : ChangeSpec := { name := "fnExactDivisorSums", fn := fun _ => fun
  | [d] => { results := [.lit (.bool false)], args := [d] }
  | _ => none }
def FnExactDivisorSumsWrongFalsely : Prop := fnExactDivisorSumsRow.holds Try.pinned (OpenSpec.ofChange fnExactDivisorSumsWrong)

/-- 'laws.FnExactUndivisorSums': WHATEVER THE INPUT: true; the input reads as it did. -/
def fnExactUndivisorSumsSpec : ChangeSpec := { name := "fnExactUndivisorSums", fn := fun _ => fun
  | [d] => { results := [.lit (.bool true)], args := [d] }
  | _ => none }
def fnExactUndivisorSumsRow : OpenClaim := { program := "ytjdlolahjikegab", sum := "e23ac46c3ce992a9692fbf9abbe68a1b82e69e0241ce77eeb2ab7987b1bd544b", func := "loop.example/wholewaves/laws.FnExactUndivisorSums", spec := "fnExactUndivisorSums", apart := false }
def FnExactUndivisorSumsSaid : Prop := fnExactUndivisorSumsRow.holds Try.pinned (OpenSpec.ofChange fnExactUndivisorSumsSpec)

/-- ITS FALSE NEIGHBOUR: 'it returns false'. Refute it at one input. -/
def fnExactUndivisorSumsWrong : ChangeSpec := { name := "fnExactUndivisorSums", fn := fun _ => fun
  | [d] => { results := [.lit (.bool false)], args := [d] }
  | _ => none }
def FnExactUndivisorSumsWrongFalsely : Prop := fnExactUndivisorSumsRow.holds Try.pinned (OpenSpec.ofChange fnExactUndivisorSumsWrong)

/- THE SECOND FORM. 'bulk': how many values and letters a reading holds, each counted each time it is reached (what is shared counts as often as it is met; a slice's spare places count too). A statement '..UptoSaid' is the law's where the arguments, and the package variables that the reading takes, are together of bulk at most 1048576: NARROWER than '..Said'. Prove '..Said' where nothing that the law and all that it calls make is longer than what came in: it says more and counts as full. Else prove '..UptoSaid'. A law counts once. -/
mutual
def uptoBulk {H : Type} : DataW H → Nat
  | .lit (.string bytes) => bytes.length + 1
  | .lit _ => 1
  | .nil => 1
  | .ptr d => uptoBulk d + 1
  | .slice elems spare => uptoBulkAll elems + uptoBulkAll spare + 1
  | .agg parts => uptoBulkAll parts + 1
  | .iface _ d => uptoBulk d + 1
  | .map entries => uptoBulkEntries entries + 1
  | .held _ => 1
def uptoBulkAll {H : Type} : List (DataW H) → Nat
  | [] => 0
  | d :: r => uptoBulk d + uptoBulkAll r
def uptoBulkEntries {H : Type} : List (Lit × DataW H) → Nat
  | [] => 0
  | x :: r => uptoBulkEntry x + uptoBulkEntries r
def uptoBulkEntry {H : Type} : Lit × DataW H → Nat
  | (.string bytes, d) => bytes.length + uptoBulk d + 1
  | (_, d) => uptoBulk d + 1
 end
def uptoSmall : (H : Type) → List (DataW H) → Bool := fun _ ds => decide (uptoBulkAll ds ≤ 1048576)
def OpenSpec.upto (s : _root_.Go.ChangeSpec) : _root_.Go.OpenSpec := { _root_.Go.OpenSpec.ofChange s with cond := some uptoSmall }

/-- 'laws.FnExactStepsOf', WHERE WHAT IT READS IS OF BULK AT MOST 1048576: true; the input reads as it did. -/
def fnExactStepsOfUptoRow : OpenClaim := { program := "ytjdlolahjikegab", sum := "e23ac46c3ce992a9692fbf9abbe68a1b82e69e0241ce77eeb2ab7987b1bd544b", func := "loop.example/wholewaves/laws.FnExactStepsOf", spec := "fnExactStepsOf", apart := false, narrowed := true }
def FnExactStepsOfUptoSaid : Prop := fnExactStepsOfUptoRow.holds Try.pinned (OpenSpec.upto fnExactStepsOfSpec)

/-- 'laws.FnExactEdgeOf', WHERE WHAT IT READS IS OF BULK AT MOST 1048576: true; the input reads as it did. -/
def fnExactEdgeOfUptoRow : OpenClaim := { program := "ytjdlolahjikegab", sum := "e23ac46c3ce992a9692fbf9abbe68a1b82e69e0241ce77eeb2ab7987b1bd544b", func := "loop.example/wholewaves/laws.FnExactEdgeOf", spec := "fnExactEdgeOf", unfollowed := true, recurses := true, apart := false, narrowed := true }
def FnExactEdgeOfUptoSaid : Prop := fnExactEdgeOfUptoRow.holds Try.pinned (OpenSpec.upto fnExactEdgeOfSpec)

/-- 'laws.FnExactFromEdge', WHERE WHAT IT READS IS OF BULK AT MOST 1048576: true; the input reads as it did. -/
def fnExactFromEdgeUptoRow : OpenClaim := { program := "ytjdlolahjikegab", sum := "e23ac46c3ce992a9692fbf9abbe68a1b82e69e0241ce77eeb2ab7987b1bd544b", func := "loop.example/wholewaves/laws.FnExactFromEdge", spec := "fnExactFromEdge", apart := false, narrowed := true }
def FnExactFromEdgeUptoSaid : Prop := fnExactFromEdgeUptoRow.holds Try.pinned (OpenSpec.upto fnExactFromEdgeSpec)

/-- 'laws.FnExactDegreeOf', WHERE WHAT IT READS IS OF BULK AT MOST 1048576: true; the input reads as it did. -/
def fnExactDegreeOfUptoRow : OpenClaim := { program := "ytjdlolahjikegab", sum := "e23ac46c3ce992a9692fbf9abbe68a1b82e69e0241ce77eeb2ab7987b1bd544b", func := "loop.example/wholewaves/laws.FnExactDegreeOf", spec := "fnExactDegreeOf", unfollowed := true, recurses := true, apart := false, narrowed := true }
def FnExactDegreeOfUptoSaid : Prop := fnExactDegreeOfUptoRow.holds Try.pinned (OpenSpec.upto fnExactDegreeOfSpec)

/-- 'laws.FnExactBelowOf', WHERE WHAT IT READS IS OF BULK AT MOST 1048576: true; the input reads as it did. -/
def fnExactBelowOfUptoRow : OpenClaim := { program := "ytjdlolahjikegab", sum := "e23ac46c3ce992a9692fbf9abbe68a1b82e69e0241ce77eeb2ab7987b1bd544b", func := "loop.example/wholewaves/laws.FnExactBelowOf", spec := "fnExactBelowOf", apart := false, narrowed := true }
def FnExactBelowOfUptoSaid : Prop := fnExactBelowOfUptoRow.holds Try.pinned (OpenSpec.upto fnExactBelowOfSpec)

/-- 'laws.FnExactUnbelowOf', WHERE WHAT IT READS IS OF BULK AT MOST 1048576: true; the input reads as it did. -/
def fnExactUnbelowOfUptoRow : OpenClaim := { program := "ytjdlolahjikegab", sum := "e23ac46c3ce992a9692fbf9abbe68a1b82e69e0241ce77eeb2ab7987b1bd544b", func := "loop.example/wholewaves/laws.FnExactUnbelowOf", spec := "fnExactUnbelowOf", apart := false, narrowed := true }
def FnExactUnbelowOfUptoSaid : Prop := fnExactUnbelowOfUptoRow.holds Try.pinned (OpenSpec.upto fnExactUnbelowOfSpec)

/-- 'laws.FnExactDivisorSums', WHERE WHAT IT READS IS OF BULK AT MOST 1048576: true; the input reads as it did. -/
def fnExactDivisorSumsUptoRow : OpenClaim := { program := "ytjdlolahjikegab", sum := "e23ac46c3ce992a9692fbf9abbe68a1b82e69e0241ce77eeb2ab7987b1bd544b", func := "loop.example/wholewaves/laws.FnExactDivisorSums", spec := "fnExactDivisorSums", apart := false, narrowed := true }
def FnExactDivisorSumsUptoSaid : Prop := fnExactDivisorSumsUptoRow.holds Try.pinned (OpenSpec.upto fnExactDivisorSumsSpec)

/-- 'laws.FnExactUndivisorSums', WHERE WHAT IT READS IS OF BULK AT MOST 1048576: true; the input reads as it did. -/
def fnExactUndivisorSumsUptoRow : OpenClaim := { program := "ytjdlolahjikegab", sum := "e23ac46c3ce992a9692fbf9abbe68a1b82e69e0241ce77eeb2ab7987b1bd544b", func := "loop.example/wholewaves/laws.FnExactUndivisorSums", spec := "fnExactUndivisorSums", apart := false, narrowed := true }
def FnExactUndivisorSumsUptoSaid : Prop := fnExactUndivisorSumsUptoRow.holds Try.pinned (OpenSpec.upto fnExactUndivisorSumsSpec)

end Rows
end Go.Proofs.Ytjdlolahjikegab
