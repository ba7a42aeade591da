/-
  No cell of these rows narrows 'for every input' (looked for: loops, veiled, ifaces, maps, wideKeys, modest, calm, conditions, laid).
  DERIVED. THE GIVEN ROWS OF THIS SEAT. 12 by the template 'for every input the law returns true; each argument reads behind the call as it read before'; 0 by the template 'total and deterministic' (their statements: YtjdlolahjikegaaTotals.lean).
  GIVEN WITH THE SEED: the statements are not yours to turn. If you find one false, say at which input.
  Laid BY PROGRAM, IN A SANDBOX (cutbox-rows.mjs): the forced cells as the released guide's own fill.sh prints them over the translation 4d2e140b75affa61… (all of the seat's roots in one cut). By AI agents, Wed Nov 11 2026. No macro, syntax, notation, axiom, sorry.
-/
import Derived.Test.YtjdlolahjikegaaChecked
import GoSem.Claim
import GoSem.ClaimJoined
import GoSem.ClaimMapViews
import Derived.JoinedTies
import Derived.KernelRfl
namespace Go.Proofs.Ytjdlolahjikegaa
/- THE CELL 'sum', in the pinned program and in every row, IS THE sha256 OF THE DUMP (.gsa) THAT YtjdlolahjikegaaProg.lean LOADS. Nothing in Lean hashes anything: it is a label: what it is worth is what the hold of that sum in a sandbox is worth. -/
noncomputable def Try.pinned : Pinned := { name := "ytjdlolahjikegaa", sum := "4d2e140b75affa610aeff77f0c43bdcdf90db744a1fd92b4dd0d585335d2bd39", checked := Try.checked }
namespace Rows
def none {H : Type} : Left H := { results := [], args := [] }

/-- 'laws.FnValidRow': WHATEVER THE INPUT: true; the input reads as it did. -/
def fnValidRowSpec : ChangeSpec := { name := "fnValidRow", fn := fun _ => fun
  | [d] => { results := [.lit (.bool true)], args := [d] }
  | _ => none }
def fnValidRowRow : OpenClaim := { program := "ytjdlolahjikegaa", sum := "4d2e140b75affa610aeff77f0c43bdcdf90db744a1fd92b4dd0d585335d2bd39", func := "loop.example/wholewaves/laws.FnValidRow", spec := "fnValidRow", apart := false }
def FnValidRowSaid : Prop := fnValidRowRow.holds Try.pinned (OpenSpec.ofChange fnValidRowSpec)

/-- ITS FALSE NEIGHBOUR: 'it returns false'. Refute it at one input. -/
def fnValidRowWrong : ChangeSpec := { name := "fnValidRow", fn := fun _ => fun
  | [d] => { results := [.lit (.bool false)], args := [d] }
  | _ => none }
def FnValidRowWrongFalsely : Prop := fnValidRowRow.holds Try.pinned (OpenSpec.ofChange fnValidRowWrong)

/-- 'laws.FnSumsOf': WHATEVER THE INPUT: true; the input reads as it did. -/
def fnSumsOfSpec : ChangeSpec := { name := "fnSumsOf", fn := fun _ => fun
  | [d] => { results := [.lit (.bool true)], args := [d] }
  | _ => none }
def fnSumsOfRow : OpenClaim := { program := "ytjdlolahjikegaa", sum := "4d2e140b75affa610aeff77f0c43bdcdf90db744a1fd92b4dd0d585335d2bd39", func := "loop.example/wholewaves/laws.FnSumsOf", spec := "fnSumsOf", apart := false }
def FnSumsOfSaid : Prop := fnSumsOfRow.holds Try.pinned (OpenSpec.ofChange fnSumsOfSpec)

/-- ITS FALSE NEIGHBOUR: 'it returns false'. Refute it at one input. -/
def fnSumsOfWrong : ChangeSpec := { name := "fnSumsOf", fn := fun _ => fun
  | [d] => { results := [.lit (.bool false)], args := [d] }
  | _ => none }
def FnSumsOfWrongFalsely : Prop := fnSumsOfRow.holds Try.pinned (OpenSpec.ofChange fnSumsOfWrong)

/-- 'laws.FnStepsOf': WHATEVER THE INPUT: true; the input reads as it did. -/
def fnStepsOfSpec : ChangeSpec := { name := "fnStepsOf", fn := fun _ => fun
  | [d] => { results := [.lit (.bool true)], args := [d] }
  | _ => none }
def fnStepsOfRow : OpenClaim := { program := "ytjdlolahjikegaa", sum := "4d2e140b75affa610aeff77f0c43bdcdf90db744a1fd92b4dd0d585335d2bd39", func := "loop.example/wholewaves/laws.FnStepsOf", spec := "fnStepsOf", apart := false }
def FnStepsOfSaid : Prop := fnStepsOfRow.holds Try.pinned (OpenSpec.ofChange fnStepsOfSpec)

/-- ITS FALSE NEIGHBOUR: 'it returns false'. Refute it at one input. -/
def fnStepsOfWrong : ChangeSpec := { name := "fnStepsOf", fn := fun _ => fun
  | [d] => { results := [.lit (.bool false)], args := [d] }
  | _ => none }
def FnStepsOfWrongFalsely : Prop := fnStepsOfRow.holds Try.pinned (OpenSpec.ofChange fnStepsOfWrong)

/-- 'laws.FnEdgeOf': WHATEVER THE INPUT: true; the input reads as it did. -/
def fnEdgeOfSpec : ChangeSpec := { name := "fnEdgeOf", fn := fun _ => fun
  | [d] => { results := [.lit (.bool true)], args := [d] }
  | _ => none }
def fnEdgeOfRow : OpenClaim := { program := "ytjdlolahjikegaa", sum := "4d2e140b75affa610aeff77f0c43bdcdf90db744a1fd92b4dd0d585335d2bd39", func := "loop.example/wholewaves/laws.FnEdgeOf", spec := "fnEdgeOf", unfollowed := true, recurses := true, apart := false }
def FnEdgeOfSaid : Prop := fnEdgeOfRow.holds Try.pinned (OpenSpec.ofChange fnEdgeOfSpec)

/-- ITS FALSE NEIGHBOUR: 'it returns false'. Refute it at one input. -/
def fnEdgeOfWrong : ChangeSpec := { name := "fnEdgeOf", fn := fun _ => fun
  | [d] => { results := [.lit (.bool false)], args := [d] }
  | _ => none }
def FnEdgeOfWrongFalsely : Prop := fnEdgeOfRow.holds Try.pinned (OpenSpec.ofChange fnEdgeOfWrong)

/-- 'laws.FnFromEdge': WHATEVER THE INPUT: true; the input reads as it did. -/
def fnFromEdgeSpec : ChangeSpec := { name := "fnFromEdge", fn := fun _ => fun
  | [d] => { results := [.lit (.bool true)], args := [d] }
  | _ => none }
def fnFromEdgeRow : OpenClaim := { program := "ytjdlolahjikegaa", sum := "4d2e140b75affa610aeff77f0c43bdcdf90db744a1fd92b4dd0d585335d2bd39", func := "loop.example/wholewaves/laws.FnFromEdge", spec := "fnFromEdge", unfollowed := true, recurses := true, apart := false }
def FnFromEdgeSaid : Prop := fnFromEdgeRow.holds Try.pinned (OpenSpec.ofChange fnFromEdgeSpec)

/-- ITS FALSE NEIGHBOUR: 'it returns false'. Refute it at one input. -/
def fnFromEdgeWrong : ChangeSpec := { name := "fnFromEdge", fn := fun _ => fun
  | [d] => { results := [.lit (.bool false)], args := [d] }
  | _ => none }
def FnFromEdgeWrongFalsely : Prop := fnFromEdgeRow.holds Try.pinned (OpenSpec.ofChange fnFromEdgeWrong)

/-- 'laws.FnDegreeOf': WHATEVER THE INPUT: true; the input reads as it did. -/
def fnDegreeOfSpec : ChangeSpec := { name := "fnDegreeOf", fn := fun _ => fun
  | [d] => { results := [.lit (.bool true)], args := [d] }
  | _ => none }
def fnDegreeOfRow : OpenClaim := { program := "ytjdlolahjikegaa", sum := "4d2e140b75affa610aeff77f0c43bdcdf90db744a1fd92b4dd0d585335d2bd39", func := "loop.example/wholewaves/laws.FnDegreeOf", spec := "fnDegreeOf", unfollowed := true, recurses := true, apart := false }
def FnDegreeOfSaid : Prop := fnDegreeOfRow.holds Try.pinned (OpenSpec.ofChange fnDegreeOfSpec)

/-- ITS FALSE NEIGHBOUR: 'it returns false'. Refute it at one input. -/
def fnDegreeOfWrong : ChangeSpec := { name := "fnDegreeOf", fn := fun _ => fun
  | [d] => { results := [.lit (.bool false)], args := [d] }
  | _ => none }
def FnDegreeOfWrongFalsely : Prop := fnDegreeOfRow.holds Try.pinned (OpenSpec.ofChange fnDegreeOfWrong)

/-- 'laws.FnBelowOf': WHATEVER THE INPUT: true; the input reads as it did. -/
def fnBelowOfSpec : ChangeSpec := { name := "fnBelowOf", fn := fun _ => fun
  | [d] => { results := [.lit (.bool true)], args := [d] }
  | _ => none }
def fnBelowOfRow : OpenClaim := { program := "ytjdlolahjikegaa", sum := "4d2e140b75affa610aeff77f0c43bdcdf90db744a1fd92b4dd0d585335d2bd39", func := "loop.example/wholewaves/laws.FnBelowOf", spec := "fnBelowOf", apart := false }
def FnBelowOfSaid : Prop := fnBelowOfRow.holds Try.pinned (OpenSpec.ofChange fnBelowOfSpec)

/-- ITS FALSE NEIGHBOUR: 'it returns false'. Refute it at one input. -/
def fnBelowOfWrong : ChangeSpec := { name := "fnBelowOf", fn := fun _ => fun
  | [d] => { results := [.lit (.bool false)], args := [d] }
  | _ => none }
def FnBelowOfWrongFalsely : Prop := fnBelowOfRow.holds Try.pinned (OpenSpec.ofChange fnBelowOfWrong)

/-- 'laws.FnUnbelowOf': WHATEVER THE INPUT: true; the input reads as it did. -/
def fnUnbelowOfSpec : ChangeSpec := { name := "fnUnbelowOf", fn := fun _ => fun
  | [d] => { results := [.lit (.bool true)], args := [d] }
  | _ => none }
def fnUnbelowOfRow : OpenClaim := { program := "ytjdlolahjikegaa", sum := "4d2e140b75affa610aeff77f0c43bdcdf90db744a1fd92b4dd0d585335d2bd39", func := "loop.example/wholewaves/laws.FnUnbelowOf", spec := "fnUnbelowOf", apart := false }
def FnUnbelowOfSaid : Prop := fnUnbelowOfRow.holds Try.pinned (OpenSpec.ofChange fnUnbelowOfSpec)

/-- ITS FALSE NEIGHBOUR: 'it returns false'. Refute it at one input. -/
def fnUnbelowOfWrong : ChangeSpec := { name := "fnUnbelowOf", fn := fun _ => fun
  | [d] => { results := [.lit (.bool false)], args := [d] }
  | _ => none }
def FnUnbelowOfWrongFalsely : Prop := fnUnbelowOfRow.holds Try.pinned (OpenSpec.ofChange fnUnbelowOfWrong)

/-- 'laws.FnDivisorSums': WHATEVER THE INPUT: true; the input reads as it did. -/
def fnDivisorSumsSpec : ChangeSpec := { name := "fnDivisorSums", fn := fun _ => fun
  | [d] => { results := [.lit (.bool true)], args := [d] }
  | _ => none }
def fnDivisorSumsRow : OpenClaim := { program := "ytjdlolahjikegaa", sum := "4d2e140b75affa610aeff77f0c43bdcdf90db744a1fd92b4dd0d585335d2bd39", func := "loop.example/wholewaves/laws.FnDivisorSums", spec := "fnDivisorSums", apart := false }
def FnDivisorSumsSaid : Prop := fnDivisorSumsRow.holds Try.pinned (OpenSpec.ofChange fnDivisorSumsSpec)

/-- ITS FALSE NEIGHBOUR: 'it returns false'. Refute it at one input. -/
def fnDivisorSumsWrong : ChangeSpec := { name := "fnDivisorSums", fn := fun _ => fun
  | [d] => { results := [.lit (.bool false)], args := [d] }
  | _ => none }
def FnDivisorSumsWrongFalsely : Prop := fnDivisorSumsRow.holds Try.pinned (OpenSpec.ofChange fnDivisorSumsWrong)

/-- 'laws.FnUndivisorSums': WHATEVER THE INPUT: true; the input reads as it did. -/
def fnUndivisorSumsSpec : ChangeSpec := { name := "fnUndivisorSums", fn := fun _ => fun
  | [d] => { results := [.lit (.bool true)], args := [d] }
  | _ => none }
def fnUndivisorSumsRow : OpenClaim := { program := "ytjdlolahjikegaa", sum := "4d2e140b75affa610aeff77f0c43bdcdf90db744a1fd92b4dd0d585335d2bd39", func := "loop.example/wholewaves/laws.FnUndivisorSums", spec := "fnUndivisorSums", apart := false }
def FnUndivisorSumsSaid : Prop := fnUndivisorSumsRow.holds Try.pinned (OpenSpec.ofChange fnUndivisorSumsSpec)

/-- ITS FALSE NEIGHBOUR: 'it returns false'. Refute it at one input. -/
def fnUndivisorSumsWrong : ChangeSpec := { name := "fnUndivisorSums", fn := fun _ => fun
  | [d] => { results := [.lit (.bool false)], args := [d] }
  | _ => none }
def FnUndivisorSumsWrongFalsely : Prop := fnUndivisorSumsRow.holds Try.pinned (OpenSpec.ofChange fnUndivisorSumsWrong)

/-- 'laws.FnExactValidRow': WHATEVER THE INPUT: true; the input reads as it did. -/
def fnExactValidRowSpec : ChangeSpec := { name := "fnExactValidRow", fn := fun _ => fun
  | [d] => { results := [.lit (.bool true)], args := [d] }
  | _ => none }
def fnExactValidRowRow : OpenClaim := { program := "ytjdlolahjikegaa", sum := "4d2e140b75affa610aeff77f0c43bdcdf90db744a1fd92b4dd0d585335d2bd39", func := "loop.example/wholewaves/laws.FnExactValidRow", spec := "fnExactValidRow", apart := false }
def FnExactValidRowSaid : Prop := fnExactValidRowRow.holds Try.pinned (OpenSpec.ofChange fnExactValidRowSpec)

/-- ITS FALSE NEIGHBOUR: 'it returns false'. Refute it at one input. -/
def fnExactValidRowWrong : ChangeSpec := { name := "fnExactValidRow", fn := fun _ => fun
  | [d] => { results := [.lit (.bool false)], args := [d] }
  | _ => none }
def FnExactValidRowWrongFalsely : Prop := fnExactValidRowRow.holds Try.pinned (OpenSpec.ofChange fnExactValidRowWrong)

/-- 'laws.FnExactSumsOf': WHATEVER THE INPUT: true; the input reads as it did. -/
def fnExactSumsOfSpec : ChangeSpec := { name := "fnExactSumsOf", fn := fun _ => fun
  | [d] => { results := [.lit (.bool true)], args := [d] }
  | _ => none }
def fnExactSumsOfRow : OpenClaim := { program := "ytjdlolahjikegaa", sum := "4d2e140b75affa610aeff77f0c43bdcdf90db744a1fd92b4dd0d585335d2bd39", func := "loop.example/wholewaves/laws.FnExactSumsOf", spec := "fnExactSumsOf", apart := false }
def FnExactSumsOfSaid : Prop := fnExactSumsOfRow.holds Try.pinned (OpenSpec.ofChange fnExactSumsOfSpec)

/-- ITS FALSE NEIGHBOUR: 'it returns false'. Refute it at one input. -/
def fnExactSumsOfWrong : ChangeSpec := { name := "fnExactSumsOf", fn := fun _ => fun
  | [d] => { results := [.lit (.bool false)], args := [d] }
  | _ => none }
def FnExactSumsOfWrongFalsely : Prop := fnExactSumsOfRow.holds Try.pinned (OpenSpec.ofChange fnExactSumsOfWrong)

/- THE SECOND FORM. 'bulk': how many values and letters a reading holds, each counted each time it is reached (what is shared counts as often as it is met; a slice's spare places count too). A statement '..UptoSaid' is the law's where the arguments, and the package variables that the reading takes, are together of bulk at most 1048576: NARROWER than '..Said'. Prove '..Said' where nothing that the law and all that it calls make is longer than what came in: it says more and counts as full. Else prove '..UptoSaid'. A law counts once. -/
mutual
def uptoBulk {H : Type} : DataW H → Nat
  | .lit (.string bytes) => bytes.length + 1
  | .lit _ => 1
  | .nil => 1
  | .ptr d => uptoBulk d + 1
  | .slice elems spare => uptoBulkAll elems + uptoBulkAll spare + 1
  | .agg parts => uptoBulkAll parts + 1
  | .iface _ d => uptoBulk d + 1
  | .map entries => uptoBulkEntries entries + 1
  | .held _ => 1
def uptoBulkAll {H : Type} : List (DataW H) → Nat
  | [] => 0
  | d :: r => uptoBulk d + uptoBulkAll r
def uptoBulkEntries {H : Type} : List (Lit × DataW H) → Nat
  | [] => 0
  | x :: r => uptoBulkEntry x + uptoBulkEntries r
def uptoBulkEntry {H : Type} : Lit × DataW H → Nat
  | (.string bytes, d) => bytes.length + uptoBulk d + 1
  | (_, d) => uptoBulk d + 1
 end
def uptoSmall : (H : Type) → List (DataW H) → Bool := fun _ ds => decide (uptoBulkAll ds ≤ 1048576)
def OpenSpec.upto (s : _root_.Go.ChangeSpec) : _root_.Go.OpenSpec := { _root_.Go.OpenSpec.ofChange s with cond := some uptoSmall }

/-- 'laws.FnValidRow', WHERE WHAT IT READS IS OF BULK AT MOST 1048576: true; the input reads as it did. -/
def fnValidRowUptoRow : OpenClaim := { program := "ytjdlolahjikegaa", sum := "4d2e140b75affa610aeff77f0c43bdcdf90db744a1fd92b4dd0d585335d2bd39", func := "loop.example/wholewaves/laws.FnValidRow", spec := "fnValidRow", apart := false, narrowed := true }
def FnValidRowUptoSaid : Prop := fnValidRowUptoRow.holds Try.pinned (OpenSpec.upto fnValidRowSpec)

/-- 'laws.FnSumsOf', WHERE WHAT IT READS IS OF BULK AT MOST 1048576: true; the input reads as it did. -/
def fnSumsOfUptoRow : OpenClaim := { program := "ytjdlolahjikegaa", sum := "4d2e140b75affa610aeff77f0c43bdcdf90db744a1fd92b4dd0d585335d2bd39", func := "loop.example/wholewaves/laws.FnSumsOf", spec := "fnSumsOf", apart := false, narrowed := true }
def FnSumsOfUptoSaid : Prop := fnSumsOfUptoRow.holds Try.pinned (OpenSpec.upto fnSumsOfSpec)

/-- 'laws.FnStepsOf', WHERE WHAT IT READS IS OF BULK AT MOST 1048576: true; the input reads as it did. -/
def fnStepsOfUptoRow : OpenClaim := { program := "ytjdlolahjikegaa", sum := "4d2e140b75affa610aeff77f0c43bdcdf90db744a1fd92b4dd0d585335d2bd39", func := "loop.example/wholewaves/laws.FnStepsOf", spec := "fnStepsOf", apart := false, narrowed := true }
def FnStepsOfUptoSaid : Prop := fnStepsOfUptoRow.holds Try.pinned (OpenSpec.upto fnStepsOfSpec)

/-- 'laws.FnEdgeOf', WHERE WHAT IT READS IS OF BULK AT MOST 1048576: true; the input reads as it did. -/
def fnEdgeOfUptoRow : OpenClaim := { program := "ytjdlolahjikegaa", sum := "4d2e140b75affa610aeff77f0c43bdcdf90db744a1fd92b4dd0d585335d2bd39", func := "loop.example/wholewaves/laws.FnEdgeOf", spec := "fnEdgeOf", unfollowed := true, recurses := true, apart := false, narrowed := true }
def FnEdgeOfUptoSaid : Prop := fnEdgeOfUptoRow.holds Try.pinned (OpenSpec.upto fnEdgeOfSpec)

/-- 'laws.FnFromEdge', WHERE WHAT IT READS IS OF BULK AT MOST 1048576: true; the input reads as it did. -/
def fnFromEdgeUptoRow : OpenClaim := { program := "ytjdlolahjikegaa", sum := "4d2e140b75affa610aeff77f0c43bdcdf90db744a1fd92b4dd0d585335d2bd39", func := "loop.example/wholewaves/laws.FnFromEdge", spec := "fnFromEdge", unfollowed := true, recurses := true, apart := false, narrowed := true }
def FnFromEdgeUptoSaid : Prop := fnFromEdgeUptoRow.holds Try.pinned (OpenSpec.upto fnFromEdgeSpec)

/-- 'laws.FnDegreeOf', WHERE WHAT IT READS IS OF BULK AT MOST 1048576: true; the input reads as it did. -/
def fnDegreeOfUptoRow : OpenClaim := { program := "ytjdlolahjikegaa", sum := "4d2e140b75affa610aeff77f0c43bdcdf90db744a1fd92b4dd0d585335d2bd39", func := "loop.example/wholewaves/laws.FnDegreeOf", spec := "fnDegreeOf", unfollowed := true, recurses := true, apart := false, narrowed := true }
def FnDegreeOfUptoSaid : Prop := fnDegreeOfUptoRow.holds Try.pinned (OpenSpec.upto fnDegreeOfSpec)

/-- 'laws.FnBelowOf', WHERE WHAT IT READS IS OF BULK AT MOST 1048576: true; the input reads as it did. -/
def fnBelowOfUptoRow : OpenClaim := { program := "ytjdlolahjikegaa", sum := "4d2e140b75affa610aeff77f0c43bdcdf90db744a1fd92b4dd0d585335d2bd39", func := "loop.example/wholewaves/laws.FnBelowOf", spec := "fnBelowOf", apart := false, narrowed := true }
def FnBelowOfUptoSaid : Prop := fnBelowOfUptoRow.holds Try.pinned (OpenSpec.upto fnBelowOfSpec)

/-- 'laws.FnUnbelowOf', WHERE WHAT IT READS IS OF BULK AT MOST 1048576: true; the input reads as it did. -/
def fnUnbelowOfUptoRow : OpenClaim := { program := "ytjdlolahjikegaa", sum := "4d2e140b75affa610aeff77f0c43bdcdf90db744a1fd92b4dd0d585335d2bd39", func := "loop.example/wholewaves/laws.FnUnbelowOf", spec := "fnUnbelowOf", apart := false, narrowed := true }
def FnUnbelowOfUptoSaid : Prop := fnUnbelowOfUptoRow.holds Try.pinned (OpenSpec.upto fnUnbelowOfSpec)

/-- 'laws.FnDivisorSums', WHERE WHAT IT READS IS OF BULK AT MOST 1048576: true; the input reads as it did. -/
def fnDivisorSumsUptoRow : OpenClaim := { program := "ytjdlolahjikegaa", sum := "4d2e140b75affa610aeff77f0c43bdcdf90db744a1fd92b4dd0d585335d2bd39", func := "loop.example/wholewaves/laws.FnDivisorSums", spec := "fnDivisorSums", apart := false, narrowed := true }
def FnDivisorSumsUptoSaid : Prop := fnDivisorSumsUptoRow.holds Try.pinned (OpenSpec.upto fnDivisorSumsSpec)

/-- 'laws.FnUndivisorSums', WHERE WHAT IT READS IS OF BULK AT MOST 1048576: true; the input reads as it did. -/
def fnUndivisorSumsUptoRow : OpenClaim := { program := "ytjdlolahjikegaa", sum := "4d2e140b75affa610aeff77f0c43bdcdf90db744a1fd92b4dd0d585335d2bd39", func := "loop.example/wholewaves/laws.FnUndivisorSums", spec := "fnUndivisorSums", apart := false, narrowed := true }
def FnUndivisorSumsUptoSaid : Prop := fnUndivisorSumsUptoRow.holds Try.pinned (OpenSpec.upto fnUndivisorSumsSpec)

/-- 'laws.FnExactValidRow', WHERE WHAT IT READS IS OF BULK AT MOST 1048576: true; the input reads as it did. -/
def fnExactValidRowUptoRow : OpenClaim := { program := "ytjdlolahjikegaa", sum := "4d2e140b75affa610aeff77f0c43bdcdf90db744a1fd92b4dd0d585335d2bd39", func := "loop.example/wholewaves/laws.FnExactValidRow", spec := "fnExactValidRow", apart := false, narrowed := true }
def FnExactValidRowUptoSaid : Prop := fnExactValidRowUptoRow.holds Try.pinned (OpenSpec.upto fnExactValidRowSpec)

/-- 'laws.FnExactSumsOf', WHERE WHAT IT READS IS OF BULK AT MOST 1048576: true; the input reads as it did. -/
def fnExactSumsOfUptoRow : OpenClaim := { program := "ytjdlolahjikegaa", sum := "4d2e140b75affa610aeff77f0c43bdcdf90db744a1fd92b4dd0d585335d2bd39", func := "loop.example/wholewaves/laws.FnExactSumsOf", spec := "fnExactSumsOf", apart := false, narrowed := true }
def FnExactSumsOfUptoSaid : Prop := fnExactSumsOfUptoRow.holds Try.pinned (OpenSpec.upto fnExactSumsOfSpec)

end Rows
end Go.Proofs.Ytjdlolahjikegaa
