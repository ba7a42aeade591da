/-
  No cell of these rows narrows 'for every input' (looked for: loops, veiled, ifaces, maps, wideKeys, modest, calm, conditions, laid).
  DERIVED. THE GIVEN ROWS OF THIS SEAT. 8 by the template 'for every input the law returns true; each argument reads behind the call as it read before'; 0 by the template 'total and deterministic' (their statements: YtlglokbakmbpdabTotals.lean).
  GIVEN WITH THE SEED: the statements are not yours to turn. If you find one false, say at which input.
  Laid BY PROGRAM, IN A SANDBOX (cutbox-rows.mjs): the forced cells as the released guide's own fill.sh prints them over the translation edc5fa101ecda376… (all of the seat's roots in one cut). By AI agents, Wed Nov 11 2026. No macro, syntax, notation, axiom, sorry.
-/
import Derived.Test.YtlglokbakmbpdabChecked
import GoSem.Claim
import GoSem.ClaimJoined
import GoSem.ClaimMapViews
import Derived.JoinedTies
import Derived.KernelRfl
namespace Go.Proofs.Ytlglokbakmbpdab
/- THE CELL 'sum', in the pinned program and in every row, IS THE sha256 OF THE DUMP (.gsa) THAT YtlglokbakmbpdabProg.lean LOADS. Nothing in Lean hashes anything: it is a label: what it is worth is what the hold of that sum in a sandbox is worth. -/
noncomputable def Try.pinned : Pinned := { name := "ytlglokbakmbpdab", sum := "edc5fa101ecda376c81529d8f88c4c70a1bd6e8d316fbf865d5f6b6f5075122a", checked := Try.checked }
namespace Rows
def none {H : Type} : Left H := { results := [], args := [] }

/-- 'laws.FnExactTimesOf': WHATEVER THE INPUT: true; the input reads as it did. -/
def fnExactTimesOfSpec : ChangeSpec := { name := "fnExactTimesOf", fn := fun _ => fun
  | [d1, d2] => { results := [.lit (.bool true)], args := [d1, d2] }
  | _ => none }
def fnExactTimesOfRow : OpenClaim := { program := "ytlglokbakmbpdab", sum := "edc5fa101ecda376c81529d8f88c4c70a1bd6e8d316fbf865d5f6b6f5075122a", func := "loop.example/wholewaves/laws.FnExactTimesOf", spec := "fnExactTimesOf", unfollowed := true, recurses := true, leaving := true, apart := false }
def FnExactTimesOfSaid : Prop := fnExactTimesOfRow.holds Try.pinned (OpenSpec.ofChange fnExactTimesOfSpec)

/-- ITS FALSE NEIGHBOUR: 'it returns false'. Refute it at one input. -/
def fnExactTimesOfWrong : ChangeSpec := { name := "fnExactTimesOf", fn := fun _ => fun
  | [d1, d2] => { results := [.lit (.bool false)], args := [d1, d2] }
  | _ => none }
def FnExactTimesOfWrongFalsely : Prop := fnExactTimesOfRow.holds Try.pinned (OpenSpec.ofChange fnExactTimesOfWrong)

/-- 'laws.FnExactPartOf': WHATEVER THE INPUT: true; the input reads as it did. -/
def fnExactPartOfSpec : ChangeSpec := { name := "fnExactPartOf", fn := fun _ => fun
  | [d1, d2] => { results := [.lit (.bool true)], args := [d1, d2] }
  | _ => none }
def fnExactPartOfRow : OpenClaim := { program := "ytlglokbakmbpdab", sum := "edc5fa101ecda376c81529d8f88c4c70a1bd6e8d316fbf865d5f6b6f5075122a", func := "loop.example/wholewaves/laws.FnExactPartOf", spec := "fnExactPartOf", apart := false }
def FnExactPartOfSaid : Prop := fnExactPartOfRow.holds Try.pinned (OpenSpec.ofChange fnExactPartOfSpec)

/-- ITS FALSE NEIGHBOUR: 'it returns false'. Refute it at one input. -/
def fnExactPartOfWrong : ChangeSpec := { name := "fnExactPartOf", fn := fun _ => fun
  | [d1, d2] => { results := [.lit (.bool false)], args := [d1, d2] }
  | _ => none }
def FnExactPartOfWrongFalsely : Prop := fnExactPartOfRow.holds Try.pinned (OpenSpec.ofChange fnExactPartOfWrong)

/-- 'laws.FnExactBoxSums': WHATEVER THE INPUT: true; the input reads as it did. -/
def fnExactBoxSumsSpec : ChangeSpec := { name := "fnExactBoxSums", fn := fun _ => fun
  | [d1, d2] => { results := [.lit (.bool true)], args := [d1, d2] }
  | _ => none }
def fnExactBoxSumsRow : OpenClaim := { program := "ytlglokbakmbpdab", sum := "edc5fa101ecda376c81529d8f88c4c70a1bd6e8d316fbf865d5f6b6f5075122a", func := "loop.example/wholewaves/laws.FnExactBoxSums", spec := "fnExactBoxSums", unfollowed := true, recurses := true, leaving := true, apart := false }
def FnExactBoxSumsSaid : Prop := fnExactBoxSumsRow.holds Try.pinned (OpenSpec.ofChange fnExactBoxSumsSpec)

/-- ITS FALSE NEIGHBOUR: 'it returns false'. Refute it at one input. -/
def fnExactBoxSumsWrong : ChangeSpec := { name := "fnExactBoxSums", fn := fun _ => fun
  | [d1, d2] => { results := [.lit (.bool false)], args := [d1, d2] }
  | _ => none }
def FnExactBoxSumsWrongFalsely : Prop := fnExactBoxSumsRow.holds Try.pinned (OpenSpec.ofChange fnExactBoxSumsWrong)

/-- 'laws.FnExactMiddlesOf': WHATEVER THE INPUT: true; the input reads as it did. -/
def fnExactMiddlesOfSpec : ChangeSpec := { name := "fnExactMiddlesOf", fn := fun _ => fun
  | [d1, d2] => { results := [.lit (.bool true)], args := [d1, d2] }
  | _ => none }
def fnExactMiddlesOfRow : OpenClaim := { program := "ytlglokbakmbpdab", sum := "edc5fa101ecda376c81529d8f88c4c70a1bd6e8d316fbf865d5f6b6f5075122a", func := "loop.example/wholewaves/laws.FnExactMiddlesOf", spec := "fnExactMiddlesOf", unfollowed := true, recurses := true, leaving := true, apart := false }
def FnExactMiddlesOfSaid : Prop := fnExactMiddlesOfRow.holds Try.pinned (OpenSpec.ofChange fnExactMiddlesOfSpec)

/-- ITS FALSE NEIGHBOUR: 'it returns false'. Refute it at one input. -/
def fnExactMiddlesOfWrong : ChangeSpec := { name := "fnExactMiddlesOf", fn := fun _ => fun
  | [d1, d2] => { results := [.lit (.bool false)], args := [d1, d2] }
  | _ => none }
def FnExactMiddlesOfWrongFalsely : Prop := fnExactMiddlesOfRow.holds Try.pinned (OpenSpec.ofChange fnExactMiddlesOfWrong)

/-- 'laws.FnExactSelfOf': WHATEVER THE INPUT: true; the input reads as it did. -/
def fnExactSelfOfSpec : ChangeSpec := { name := "fnExactSelfOf", fn := fun _ => fun
  | [d] => { results := [.lit (.bool true)], args := [d] }
  | _ => none }
def fnExactSelfOfRow : OpenClaim := { program := "ytlglokbakmbpdab", sum := "edc5fa101ecda376c81529d8f88c4c70a1bd6e8d316fbf865d5f6b6f5075122a", func := "loop.example/wholewaves/laws.FnExactSelfOf", spec := "fnExactSelfOf", unfollowed := true, recurses := true, leaving := true, apart := false }
def FnExactSelfOfSaid : Prop := fnExactSelfOfRow.holds Try.pinned (OpenSpec.ofChange fnExactSelfOfSpec)

/-- ITS FALSE NEIGHBOUR: 'it returns false'. Refute it at one input. -/
def fnExactSelfOfWrong : ChangeSpec := { name := "fnExactSelfOf", fn := fun _ => fun
  | [d] => { results := [.lit (.bool false)], args := [d] }
  | _ => none }
def FnExactSelfOfWrongFalsely : Prop := fnExactSelfOfRow.holds Try.pinned (OpenSpec.ofChange fnExactSelfOfWrong)

/-- 'laws.FnExactIsQuiet': WHATEVER THE INPUT: true; the input reads as it did. -/
def fnExactIsQuietSpec : ChangeSpec := { name := "fnExactIsQuiet", fn := fun _ => fun
  | [d] => { results := [.lit (.bool true)], args := [d] }
  | _ => none }
def fnExactIsQuietRow : OpenClaim := { program := "ytlglokbakmbpdab", sum := "edc5fa101ecda376c81529d8f88c4c70a1bd6e8d316fbf865d5f6b6f5075122a", func := "loop.example/wholewaves/laws.FnExactIsQuiet", spec := "fnExactIsQuiet", unfollowed := true, recurses := true, leaving := true, apart := false }
def FnExactIsQuietSaid : Prop := fnExactIsQuietRow.holds Try.pinned (OpenSpec.ofChange fnExactIsQuietSpec)

/-- ITS FALSE NEIGHBOUR: 'it returns false'. Refute it at one input. -/
def fnExactIsQuietWrong : ChangeSpec := { name := "fnExactIsQuiet", fn := fun _ => fun
  | [d] => { results := [.lit (.bool false)], args := [d] }
  | _ => none }
def FnExactIsQuietWrongFalsely : Prop := fnExactIsQuietRow.holds Try.pinned (OpenSpec.ofChange fnExactIsQuietWrong)

/-- 'laws.FnExactArePaired': WHATEVER THE INPUT: true; the input reads as it did. -/
def fnExactArePairedSpec : ChangeSpec := { name := "fnExactArePaired", fn := fun _ => fun
  | [d1, d2] => { results := [.lit (.bool true)], args := [d1, d2] }
  | _ => none }
def fnExactArePairedRow : OpenClaim := { program := "ytlglokbakmbpdab", sum := "edc5fa101ecda376c81529d8f88c4c70a1bd6e8d316fbf865d5f6b6f5075122a", func := "loop.example/wholewaves/laws.FnExactArePaired", spec := "fnExactArePaired", unfollowed := true, recurses := true, leaving := true, apart := false }
def FnExactArePairedSaid : Prop := fnExactArePairedRow.holds Try.pinned (OpenSpec.ofChange fnExactArePairedSpec)

/-- ITS FALSE NEIGHBOUR: 'it returns false'. Refute it at one input. -/
def fnExactArePairedWrong : ChangeSpec := { name := "fnExactArePaired", fn := fun _ => fun
  | [d1, d2] => { results := [.lit (.bool false)], args := [d1, d2] }
  | _ => none }
def FnExactArePairedWrongFalsely : Prop := fnExactArePairedRow.holds Try.pinned (OpenSpec.ofChange fnExactArePairedWrong)

/-- 'laws.FnExactDoublePair': WHATEVER THE INPUT: true; the input reads as it did. -/
def fnExactDoublePairSpec : ChangeSpec := { name := "fnExactDoublePair", fn := fun _ => fun
  | [d1, d2] => { results := [.lit (.bool true)], args := [d1, d2] }
  | _ => none }
def fnExactDoublePairRow : OpenClaim := { program := "ytlglokbakmbpdab", sum := "edc5fa101ecda376c81529d8f88c4c70a1bd6e8d316fbf865d5f6b6f5075122a", func := "loop.example/wholewaves/laws.FnExactDoublePair", spec := "fnExactDoublePair", unfollowed := true, recurses := true, leaving := true, apart := false }
def FnExactDoublePairSaid : Prop := fnExactDoublePairRow.holds Try.pinned (OpenSpec.ofChange fnExactDoublePairSpec)

/-- ITS FALSE NEIGHBOUR: 'it returns false'. Refute it at one input. -/
def fnExactDoublePairWrong : ChangeSpec := { name := "fnExactDoublePair", fn := fun _ => fun
  | [d1, d2] => { results := [.lit (.bool false)], args := [d1, d2] }
  | _ => none }
def FnExactDoublePairWrongFalsely : Prop := fnExactDoublePairRow.holds Try.pinned (OpenSpec.ofChange fnExactDoublePairWrong)

/- THE SECOND FORM. 'bulk': how many values and letters a reading holds, each counted each time it is reached (what is shared counts as often as it is met; a slice's spare places count too). A statement '..UptoSaid' is the law's where the arguments, and the package variables that the reading takes, are together of bulk at most 1048576: NARROWER than '..Said'. Prove '..Said' where nothing that the law and all that it calls make is longer than what came in: it says more and counts as full. Else prove '..UptoSaid'. A law counts once. -/
mutual
def uptoBulk {H : Type} : DataW H → Nat
  | .lit (.string bytes) => bytes.length + 1
  | .lit _ => 1
  | .nil => 1
  | .ptr d => uptoBulk d + 1
  | .slice elems spare => uptoBulkAll elems + uptoBulkAll spare + 1
  | .agg parts => uptoBulkAll parts + 1
  | .iface _ d => uptoBulk d + 1
  | .map entries => uptoBulkEntries entries + 1
  | .held _ => 1
def uptoBulkAll {H : Type} : List (DataW H) → Nat
  | [] => 0
  | d :: r => uptoBulk d + uptoBulkAll r
def uptoBulkEntries {H : Type} : List (Lit × DataW H) → Nat
  | [] => 0
  | x :: r => uptoBulkEntry x + uptoBulkEntries r
def uptoBulkEntry {H : Type} : Lit × DataW H → Nat
  | (.string bytes, d) => bytes.length + uptoBulk d + 1
  | (_, d) => uptoBulk d + 1
 end
def uptoSmall : (H : Type) → List (DataW H) → Bool := fun _ ds => decide (uptoBulkAll ds ≤ 1048576)
def OpenSpec.upto (s : _root_.Go.ChangeSpec) : _root_.Go.OpenSpec := { _root_.Go.OpenSpec.ofChange s with cond := some uptoSmall }

/-- 'laws.FnExactTimesOf', WHERE WHAT IT READS IS OF BULK AT MOST 1048576: true; the input reads as it did. -/
def fnExactTimesOfUptoRow : OpenClaim := { program := "ytlglokbakmbpdab", sum := "edc5fa101ecda376c81529d8f88c4c70a1bd6e8d316fbf865d5f6b6f5075122a", func := "loop.example/wholewaves/laws.FnExactTimesOf", spec := "fnExactTimesOf", unfollowed := true, recurses := true, leaving := true, apart := false, narrowed := true }
def FnExactTimesOfUptoSaid : Prop := fnExactTimesOfUptoRow.holds Try.pinned (OpenSpec.upto fnExactTimesOfSpec)

/-- 'laws.FnExactPartOf', WHERE WHAT IT READS IS OF BULK AT MOST 1048576: true; the input reads as it did. -/
def fnExactPartOfUptoRow : OpenClaim := { program := "ytlglokbakmbpdab", sum := "edc5fa101ecda376c81529d8f88c4c70a1bd6e8d316fbf865d5f6b6f5075122a", func := "loop.example/wholewaves/laws.FnExactPartOf", spec := "fnExactPartOf", apart := false, narrowed := true }
def FnExactPartOfUptoSaid : Prop := fnExactPartOfUptoRow.holds Try.pinned (OpenSpec.upto fnExactPartOfSpec)

/-- 'laws.FnExactBoxSums', WHERE WHAT IT READS IS OF BULK AT MOST 1048576: true; the input reads as it did. -/
def fnExactBoxSumsUptoRow : OpenClaim := { program := "ytlglokbakmbpdab", sum := "edc5fa101ecda376c81529d8f88c4c70a1bd6e8d316fbf865d5f6b6f5075122a", func := "loop.example/wholewaves/laws.FnExactBoxSums", spec := "fnExactBoxSums", unfollowed := true, recurses := true, leaving := true, apart := false, narrowed := true }
def FnExactBoxSumsUptoSaid : Prop := fnExactBoxSumsUptoRow.holds Try.pinned (OpenSpec.upto fnExactBoxSumsSpec)

/-- 'laws.FnExactMiddlesOf', WHERE WHAT IT READS IS OF BULK AT MOST 1048576: true; the input reads as it did. -/
def fnExactMiddlesOfUptoRow : OpenClaim := { program := "ytlglokbakmbpdab", sum := "edc5fa101ecda376c81529d8f88c4c70a1bd6e8d316fbf865d5f6b6f5075122a", func := "loop.example/wholewaves/laws.FnExactMiddlesOf", spec := "fnExactMiddlesOf", unfollowed := true, recurses := true, leaving := true, apart := false, narrowed := true }
def FnExactMiddlesOfUptoSaid : Prop := fnExactMiddlesOfUptoRow.holds Try.pinned (OpenSpec.upto fnExactMiddlesOfSpec)

/-- 'laws.FnExactSelfOf', WHERE WHAT IT READS IS OF BULK AT MOST 1048576: true; the input reads as it did. -/
def fnExactSelfOfUptoRow : OpenClaim := { program := "ytlglokbakmbpdab", sum := "edc5fa101ecda376c81529d8f88c4c70a1bd6e8d316fbf865d5f6b6f5075122a", func := "loop.example/wholewaves/laws.FnExactSelfOf", spec := "fnExactSelfOf", unfollowed := true, recurses := true, leaving := true, apart := false, narrowed := true }
def FnExactSelfOfUptoSaid : Prop := fnExactSelfOfUptoRow.holds Try.pinned (OpenSpec.upto fnExactSelfOfSpec)

/-- 'laws.FnExactIsQuiet', WHERE WHAT IT READS IS OF BULK AT MOST 1048576: true; the input reads as it did. -/
def fnExactIsQuietUptoRow : OpenClaim := { program := "ytlglokbakmbpdab", sum := "edc5fa101ecda376c81529d8f88c4c70a1bd6e8d316fbf865d5f6b6f5075122a", func := "loop.example/wholewaves/laws.FnExactIsQuiet", spec := "fnExactIsQuiet", unfollowed := true, recurses := true, leaving := true, apart := false, narrowed := true }
def FnExactIsQuietUptoSaid : Prop := fnExactIsQuietUptoRow.holds Try.pinned (OpenSpec.upto fnExactIsQuietSpec)

/-- 'laws.FnExactArePaired', WHERE WHAT IT READS IS OF BULK AT MOST 1048576: true; the input reads as it did. -/
def fnExactArePairedUptoRow : OpenClaim := { program := "ytlglokbakmbpdab", sum := "edc5fa101ecda376c81529d8f88c4c70a1bd6e8d316fbf865d5f6b6f5075122a", func := "loop.example/wholewaves/laws.FnExactArePaired", spec := "fnExactArePaired", unfollowed := true, recurses := true, leaving := true, apart := false, narrowed := true }
def FnExactArePairedUptoSaid : Prop := fnExactArePairedUptoRow.holds Try.pinned (OpenSpec.upto fnExactArePairedSpec)

/-- 'laws.FnExactDoublePair', WHERE WHAT IT READS IS OF BULK AT MOST 1048576: true; the input reads as it did. -/
def fnExactDoublePairUptoRow : OpenClaim := { program := "ytlglokbakmbpdab", sum := "edc5fa101ecda376c81529d8f88c4c70a1bd6e8d316fbf865d5f6b6f5075122a", func := "loop.example/wholewaves/laws.FnExactDoublePair", spec := "fnExactDoublePair", unfollowed := true, recurses := true, leaving := true, apart := false, narrowed := true }
def FnExactDoublePairUptoSaid : Prop := fnExactDoublePairUptoRow.holds Try.pinned (OpenSpec.upto fnExactDoublePairSpec)

end Rows
end Go.Proofs.Ytlglokbakmbpdab
