/-
  No cell of these rows narrows 'for every input' (looked for: loops, veiled, ifaces, maps, wideKeys, modest, calm, conditions, laid).
  DERIVED. THE GIVEN ROWS OF THIS SEAT. 9 by the template 'for every input the law returns true; each argument reads behind the call as it read before'; 0 by the template 'total and deterministic' (their statements: YtabbfehjgchmgaaTotals.lean).
  GIVEN WITH THE SEED: the statements are not yours to turn. If you find one false, say at which input.
  Laid BY PROGRAM, IN A SANDBOX (cutbox-rows.mjs): the forced cells as the released guide's own fill.sh prints them over the translation a7e27e43097a4e0f… (all of the seat's roots in one cut). By AI agents, Wed Nov 11 2026. No macro, syntax, notation, axiom, sorry.
-/
import Derived.Test.YtabbfehjgchmgaaChecked
import GoSem.Claim
import GoSem.ClaimJoined
import GoSem.ClaimMapViews
import Derived.JoinedTies
import Derived.KernelRfl
namespace Go.Proofs.Ytabbfehjgchmgaa
/- THE CELL 'sum', in the pinned program and in every row, IS THE sha256 OF THE DUMP (.gsa) THAT YtabbfehjgchmgaaProg.lean LOADS. Nothing in Lean hashes anything: it is a label: what it is worth is what the hold of that sum in a sandbox is worth. -/
noncomputable def Try.pinned : Pinned := { name := "ytabbfehjgchmgaa", sum := "a7e27e43097a4e0f9deb95a8cdfbf95975c3e0219c91aa017d26b7f5f363e29e", checked := Try.checked }
namespace Rows
def none {H : Type} : Left H := { results := [], args := [] }

/-- 'laws.FnOrderBy': WHATEVER THE INPUT: true; the input reads as it did. -/
def fnOrderBySpec : ChangeSpec := { name := "fnOrderBy", fn := fun _ => fun
  | [d] => { results := [.lit (.bool true)], args := [d] }
  | _ => none }
def fnOrderByRow : OpenClaim := { program := "ytabbfehjgchmgaa", sum := "a7e27e43097a4e0f9deb95a8cdfbf95975c3e0219c91aa017d26b7f5f363e29e", func := "loop.example/wholewaves/laws.FnOrderBy", spec := "fnOrderBy", apart := false }
def FnOrderBySaid : Prop := fnOrderByRow.holds Try.pinned (OpenSpec.ofChange fnOrderBySpec)

/-- ITS FALSE NEIGHBOUR: 'it returns false'. Refute it at one input. -/
def fnOrderByWrong : ChangeSpec := { name := "fnOrderBy", fn := fun _ => fun
  | [d] => { results := [.lit (.bool false)], args := [d] }
  | _ => none }
def FnOrderByWrongFalsely : Prop := fnOrderByRow.holds Try.pinned (OpenSpec.ofChange fnOrderByWrong)

/-- 'laws.FnRootOf': WHATEVER THE INPUT: true; the input reads as it did. -/
def fnRootOfSpec : ChangeSpec := { name := "fnRootOf", fn := fun _ => fun
  | [d] => { results := [.lit (.bool true)], args := [d] }
  | _ => none }
def fnRootOfRow : OpenClaim := { program := "ytabbfehjgchmgaa", sum := "a7e27e43097a4e0f9deb95a8cdfbf95975c3e0219c91aa017d26b7f5f363e29e", func := "loop.example/wholewaves/laws.FnRootOf", spec := "fnRootOf", apart := false }
def FnRootOfSaid : Prop := fnRootOfRow.holds Try.pinned (OpenSpec.ofChange fnRootOfSpec)

/-- ITS FALSE NEIGHBOUR: 'it returns false'. Refute it at one input. -/
def fnRootOfWrong : ChangeSpec := { name := "fnRootOf", fn := fun _ => fun
  | [d] => { results := [.lit (.bool false)], args := [d] }
  | _ => none }
def FnRootOfWrongFalsely : Prop := fnRootOfRow.holds Try.pinned (OpenSpec.ofChange fnRootOfWrong)

/-- 'laws.FnValidRests': WHATEVER THE INPUT: true; the input reads as it did. -/
def fnValidRestsSpec : ChangeSpec := { name := "fnValidRests", fn := fun _ => fun
  | [d] => { results := [.lit (.bool true)], args := [d] }
  | _ => none }
def fnValidRestsRow : OpenClaim := { program := "ytabbfehjgchmgaa", sum := "a7e27e43097a4e0f9deb95a8cdfbf95975c3e0219c91aa017d26b7f5f363e29e", func := "loop.example/wholewaves/laws.FnValidRests", spec := "fnValidRests", apart := false }
def FnValidRestsSaid : Prop := fnValidRestsRow.holds Try.pinned (OpenSpec.ofChange fnValidRestsSpec)

/-- ITS FALSE NEIGHBOUR: 'it returns false'. Refute it at one input. -/
def fnValidRestsWrong : ChangeSpec := { name := "fnValidRests", fn := fun _ => fun
  | [d] => { results := [.lit (.bool false)], args := [d] }
  | _ => none }
def FnValidRestsWrongFalsely : Prop := fnValidRestsRow.holds Try.pinned (OpenSpec.ofChange fnValidRestsWrong)

/-- 'laws.FnWaveOf': WHATEVER THE INPUT: true; the input reads as it did. -/
def fnWaveOfSpec : ChangeSpec := { name := "fnWaveOf", fn := fun _ => fun
  | [d] => { results := [.lit (.bool true)], args := [d] }
  | _ => none }
def fnWaveOfRow : OpenClaim := { program := "ytabbfehjgchmgaa", sum := "a7e27e43097a4e0f9deb95a8cdfbf95975c3e0219c91aa017d26b7f5f363e29e", func := "loop.example/wholewaves/laws.FnWaveOf", spec := "fnWaveOf", apart := false }
def FnWaveOfSaid : Prop := fnWaveOfRow.holds Try.pinned (OpenSpec.ofChange fnWaveOfSpec)

/-- ITS FALSE NEIGHBOUR: 'it returns false'. Refute it at one input. -/
def fnWaveOfWrong : ChangeSpec := { name := "fnWaveOf", fn := fun _ => fun
  | [d] => { results := [.lit (.bool false)], args := [d] }
  | _ => none }
def FnWaveOfWrongFalsely : Prop := fnWaveOfRow.holds Try.pinned (OpenSpec.ofChange fnWaveOfWrong)

/-- 'laws.FnUnwaveOf': WHATEVER THE INPUT: true; the input reads as it did. -/
def fnUnwaveOfSpec : ChangeSpec := { name := "fnUnwaveOf", fn := fun _ => fun
  | [d] => { results := [.lit (.bool true)], args := [d] }
  | _ => none }
def fnUnwaveOfRow : OpenClaim := { program := "ytabbfehjgchmgaa", sum := "a7e27e43097a4e0f9deb95a8cdfbf95975c3e0219c91aa017d26b7f5f363e29e", func := "loop.example/wholewaves/laws.FnUnwaveOf", spec := "fnUnwaveOf", apart := false }
def FnUnwaveOfSaid : Prop := fnUnwaveOfRow.holds Try.pinned (OpenSpec.ofChange fnUnwaveOfSpec)

/-- ITS FALSE NEIGHBOUR: 'it returns false'. Refute it at one input. -/
def fnUnwaveOfWrong : ChangeSpec := { name := "fnUnwaveOf", fn := fun _ => fun
  | [d] => { results := [.lit (.bool false)], args := [d] }
  | _ => none }
def FnUnwaveOfWrongFalsely : Prop := fnUnwaveOfRow.holds Try.pinned (OpenSpec.ofChange fnUnwaveOfWrong)

/-- 'laws.FnRingOf': WHATEVER THE INPUT: true; the input reads as it did. -/
def fnRingOfSpec : ChangeSpec := { name := "fnRingOf", fn := fun _ => fun
  | [d] => { results := [.lit (.bool true)], args := [d] }
  | _ => none }
def fnRingOfRow : OpenClaim := { program := "ytabbfehjgchmgaa", sum := "a7e27e43097a4e0f9deb95a8cdfbf95975c3e0219c91aa017d26b7f5f363e29e", func := "loop.example/wholewaves/laws.FnRingOf", spec := "fnRingOf", apart := false }
def FnRingOfSaid : Prop := fnRingOfRow.holds Try.pinned (OpenSpec.ofChange fnRingOfSpec)

/-- ITS FALSE NEIGHBOUR: 'it returns false'. Refute it at one input. -/
def fnRingOfWrong : ChangeSpec := { name := "fnRingOf", fn := fun _ => fun
  | [d] => { results := [.lit (.bool false)], args := [d] }
  | _ => none }
def FnRingOfWrongFalsely : Prop := fnRingOfRow.holds Try.pinned (OpenSpec.ofChange fnRingOfWrong)

/-- 'laws.FnTurnOf': WHATEVER THE INPUT: true; the input reads as it did. -/
def fnTurnOfSpec : ChangeSpec := { name := "fnTurnOf", fn := fun _ => fun
  | [d] => { results := [.lit (.bool true)], args := [d] }
  | _ => none }
def fnTurnOfRow : OpenClaim := { program := "ytabbfehjgchmgaa", sum := "a7e27e43097a4e0f9deb95a8cdfbf95975c3e0219c91aa017d26b7f5f363e29e", func := "loop.example/wholewaves/laws.FnTurnOf", spec := "fnTurnOf", apart := false }
def FnTurnOfSaid : Prop := fnTurnOfRow.holds Try.pinned (OpenSpec.ofChange fnTurnOfSpec)

/-- ITS FALSE NEIGHBOUR: 'it returns false'. Refute it at one input. -/
def fnTurnOfWrong : ChangeSpec := { name := "fnTurnOf", fn := fun _ => fun
  | [d] => { results := [.lit (.bool false)], args := [d] }
  | _ => none }
def FnTurnOfWrongFalsely : Prop := fnTurnOfRow.holds Try.pinned (OpenSpec.ofChange fnTurnOfWrong)

/-- 'laws.FnSpreadOf': WHATEVER THE INPUT: true; the input reads as it did. -/
def fnSpreadOfSpec : ChangeSpec := { name := "fnSpreadOf", fn := fun _ => fun
  | [d] => { results := [.lit (.bool true)], args := [d] }
  | _ => none }
def fnSpreadOfRow : OpenClaim := { program := "ytabbfehjgchmgaa", sum := "a7e27e43097a4e0f9deb95a8cdfbf95975c3e0219c91aa017d26b7f5f363e29e", func := "loop.example/wholewaves/laws.FnSpreadOf", spec := "fnSpreadOf", apart := false }
def FnSpreadOfSaid : Prop := fnSpreadOfRow.holds Try.pinned (OpenSpec.ofChange fnSpreadOfSpec)

/-- ITS FALSE NEIGHBOUR: 'it returns false'. Refute it at one input. -/
def fnSpreadOfWrong : ChangeSpec := { name := "fnSpreadOf", fn := fun _ => fun
  | [d] => { results := [.lit (.bool false)], args := [d] }
  | _ => none }
def FnSpreadOfWrongFalsely : Prop := fnSpreadOfRow.holds Try.pinned (OpenSpec.ofChange fnSpreadOfWrong)

/-- 'laws.FnSquareSum': WHATEVER THE INPUT: true; the input reads as it did. -/
def fnSquareSumSpec : ChangeSpec := { name := "fnSquareSum", fn := fun _ => fun
  | [d] => { results := [.lit (.bool true)], args := [d] }
  | _ => none }
def fnSquareSumRow : OpenClaim := { program := "ytabbfehjgchmgaa", sum := "a7e27e43097a4e0f9deb95a8cdfbf95975c3e0219c91aa017d26b7f5f363e29e", func := "loop.example/wholewaves/laws.FnSquareSum", spec := "fnSquareSum", apart := false }
def FnSquareSumSaid : Prop := fnSquareSumRow.holds Try.pinned (OpenSpec.ofChange fnSquareSumSpec)

/-- ITS FALSE NEIGHBOUR: 'it returns false'. Refute it at one input. -/
def fnSquareSumWrong : ChangeSpec := { name := "fnSquareSum", fn := fun _ => fun
  | [d] => { results := [.lit (.bool false)], args := [d] }
  | _ => none }
def FnSquareSumWrongFalsely : Prop := fnSquareSumRow.holds Try.pinned (OpenSpec.ofChange fnSquareSumWrong)

/- THE SECOND FORM. 'bulk': how many values and letters a reading holds, each counted each time it is reached (what is shared counts as often as it is met; a slice's spare places count too). A statement '..UptoSaid' is the law's where the arguments, and the package variables that the reading takes, are together of bulk at most 1048576: NARROWER than '..Said'. Prove '..Said' where nothing that the law and all that it calls make is longer than what came in: it says more and counts as full. Else prove '..UptoSaid'. A law counts once. -/
mutual
def uptoBulk {H : Type} : DataW H → Nat
  | .lit (.string bytes) => bytes.length + 1
  | .lit _ => 1
  | .nil => 1
  | .ptr d => uptoBulk d + 1
  | .slice elems spare => uptoBulkAll elems + uptoBulkAll spare + 1
  | .agg parts => uptoBulkAll parts + 1
  | .iface _ d => uptoBulk d + 1
  | .map entries => uptoBulkEntries entries + 1
  | .held _ => 1
def uptoBulkAll {H : Type} : List (DataW H) → Nat
  | [] => 0
  | d :: r => uptoBulk d + uptoBulkAll r
def uptoBulkEntries {H : Type} : List (Lit × DataW H) → Nat
  | [] => 0
  | x :: r => uptoBulkEntry x + uptoBulkEntries r
def uptoBulkEntry {H : Type} : Lit × DataW H → Nat
  | (.string bytes, d) => bytes.length + uptoBulk d + 1
  | (_, d) => uptoBulk d + 1
 end
def uptoSmall : (H : Type) → List (DataW H) → Bool := fun _ ds => decide (uptoBulkAll ds ≤ 1048576)
def OpenSpec.upto (s : _root_.Go.ChangeSpec) : _root_.Go.OpenSpec := { _root_.Go.OpenSpec.ofChange s with cond := some uptoSmall }

/-- 'laws.FnOrderBy', WHERE WHAT IT READS IS OF BULK AT MOST 1048576: true; the input reads as it did. -/
def fnOrderByUptoRow : OpenClaim := { program := "ytabbfehjgchmgaa", sum := "a7e27e43097a4e0f9deb95a8cdfbf95975c3e0219c91aa017d26b7f5f363e29e", func := "loop.example/wholewaves/laws.FnOrderBy", spec := "fnOrderBy", apart := false, narrowed := true }
def FnOrderByUptoSaid : Prop := fnOrderByUptoRow.holds Try.pinned (OpenSpec.upto fnOrderBySpec)

/-- 'laws.FnRootOf', WHERE WHAT IT READS IS OF BULK AT MOST 1048576: true; the input reads as it did. -/
def fnRootOfUptoRow : OpenClaim := { program := "ytabbfehjgchmgaa", sum := "a7e27e43097a4e0f9deb95a8cdfbf95975c3e0219c91aa017d26b7f5f363e29e", func := "loop.example/wholewaves/laws.FnRootOf", spec := "fnRootOf", apart := false, narrowed := true }
def FnRootOfUptoSaid : Prop := fnRootOfUptoRow.holds Try.pinned (OpenSpec.upto fnRootOfSpec)

/-- 'laws.FnValidRests', WHERE WHAT IT READS IS OF BULK AT MOST 1048576: true; the input reads as it did. -/
def fnValidRestsUptoRow : OpenClaim := { program := "ytabbfehjgchmgaa", sum := "a7e27e43097a4e0f9deb95a8cdfbf95975c3e0219c91aa017d26b7f5f363e29e", func := "loop.example/wholewaves/laws.FnValidRests", spec := "fnValidRests", apart := false, narrowed := true }
def FnValidRestsUptoSaid : Prop := fnValidRestsUptoRow.holds Try.pinned (OpenSpec.upto fnValidRestsSpec)

/-- 'laws.FnWaveOf', WHERE WHAT IT READS IS OF BULK AT MOST 1048576: true; the input reads as it did. -/
def fnWaveOfUptoRow : OpenClaim := { program := "ytabbfehjgchmgaa", sum := "a7e27e43097a4e0f9deb95a8cdfbf95975c3e0219c91aa017d26b7f5f363e29e", func := "loop.example/wholewaves/laws.FnWaveOf", spec := "fnWaveOf", apart := false, narrowed := true }
def FnWaveOfUptoSaid : Prop := fnWaveOfUptoRow.holds Try.pinned (OpenSpec.upto fnWaveOfSpec)

/-- 'laws.FnUnwaveOf', WHERE WHAT IT READS IS OF BULK AT MOST 1048576: true; the input reads as it did. -/
def fnUnwaveOfUptoRow : OpenClaim := { program := "ytabbfehjgchmgaa", sum := "a7e27e43097a4e0f9deb95a8cdfbf95975c3e0219c91aa017d26b7f5f363e29e", func := "loop.example/wholewaves/laws.FnUnwaveOf", spec := "fnUnwaveOf", apart := false, narrowed := true }
def FnUnwaveOfUptoSaid : Prop := fnUnwaveOfUptoRow.holds Try.pinned (OpenSpec.upto fnUnwaveOfSpec)

/-- 'laws.FnRingOf', WHERE WHAT IT READS IS OF BULK AT MOST 1048576: true; the input reads as it did. -/
def fnRingOfUptoRow : OpenClaim := { program := "ytabbfehjgchmgaa", sum := "a7e27e43097a4e0f9deb95a8cdfbf95975c3e0219c91aa017d26b7f5f363e29e", func := "loop.example/wholewaves/laws.FnRingOf", spec := "fnRingOf", apart := false, narrowed := true }
def FnRingOfUptoSaid : Prop := fnRingOfUptoRow.holds Try.pinned (OpenSpec.upto fnRingOfSpec)

/-- 'laws.FnTurnOf', WHERE WHAT IT READS IS OF BULK AT MOST 1048576: true; the input reads as it did. -/
def fnTurnOfUptoRow : OpenClaim := { program := "ytabbfehjgchmgaa", sum := "a7e27e43097a4e0f9deb95a8cdfbf95975c3e0219c91aa017d26b7f5f363e29e", func := "loop.example/wholewaves/laws.FnTurnOf", spec := "fnTurnOf", apart := false, narrowed := true }
def FnTurnOfUptoSaid : Prop := fnTurnOfUptoRow.holds Try.pinned (OpenSpec.upto fnTurnOfSpec)

/-- 'laws.FnSpreadOf', WHERE WHAT IT READS IS OF BULK AT MOST 1048576: true; the input reads as it did. -/
def fnSpreadOfUptoRow : OpenClaim := { program := "ytabbfehjgchmgaa", sum := "a7e27e43097a4e0f9deb95a8cdfbf95975c3e0219c91aa017d26b7f5f363e29e", func := "loop.example/wholewaves/laws.FnSpreadOf", spec := "fnSpreadOf", apart := false, narrowed := true }
def FnSpreadOfUptoSaid : Prop := fnSpreadOfUptoRow.holds Try.pinned (OpenSpec.upto fnSpreadOfSpec)

/-- 'laws.FnSquareSum', WHERE WHAT IT READS IS OF BULK AT MOST 1048576: true; the input reads as it did. -/
def fnSquareSumUptoRow : OpenClaim := { program := "ytabbfehjgchmgaa", sum := "a7e27e43097a4e0f9deb95a8cdfbf95975c3e0219c91aa017d26b7f5f363e29e", func := "loop.example/wholewaves/laws.FnSquareSum", spec := "fnSquareSum", apart := false, narrowed := true }
def FnSquareSumUptoSaid : Prop := fnSquareSumUptoRow.holds Try.pinned (OpenSpec.upto fnSquareSumSpec)

end Rows
end Go.Proofs.Ytabbfehjgchmgaa
