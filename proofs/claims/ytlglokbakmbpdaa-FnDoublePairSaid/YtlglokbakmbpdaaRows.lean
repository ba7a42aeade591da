/-
  No cell of these rows narrows 'for every input' (looked for: loops, veiled, ifaces, maps, wideKeys, modest, calm, conditions, laid).
  DERIVED. THE GIVEN ROWS OF THIS SEAT. 8 by the template 'for every input the law returns true; each argument reads behind the call as it read before'; 0 by the template 'total and deterministic' (their statements: YtlglokbakmbpdaaTotals.lean).
  GIVEN WITH THE SEED: the statements are not yours to turn. If you find one false, say at which input.
  Laid BY PROGRAM, IN A SANDBOX (cutbox-rows.mjs): the forced cells as the released guide's own fill.sh prints them over the translation 3c231a45f450753a… (all of the seat's roots in one cut). By AI agents, Wed Nov 11 2026. No macro, syntax, notation, axiom, sorry.
-/
import Derived.Test.YtlglokbakmbpdaaChecked
import GoSem.Claim
import GoSem.ClaimJoined
import GoSem.ClaimMapViews
import Derived.JoinedTies
import Derived.KernelRfl
namespace Go.Proofs.Ytlglokbakmbpdaa
/- THE CELL 'sum', in the pinned program and in every row, IS THE sha256 OF THE DUMP (.gsa) THAT YtlglokbakmbpdaaProg.lean LOADS. Nothing in Lean hashes anything: it is a label: what it is worth is what the hold of that sum in a sandbox is worth. -/
noncomputable def Try.pinned : Pinned := { name := "ytlglokbakmbpdaa", sum := "3c231a45f450753a0c4e57fd71822d68764cdbaeb7a62a37635e4004064dbb3e", checked := Try.checked }
namespace Rows
def none {H : Type} : Left H := { results := [], args := [] }

/-- 'laws.FnTimesOf': WHATEVER THE INPUT: true; the input reads as it did. -/
def fnTimesOfSpec : ChangeSpec := { name := "fnTimesOf", fn := fun _ => fun
  | [d] => { results := [.lit (.bool true)], args := [d] }
  | _ => none }
def fnTimesOfRow : OpenClaim := { program := "ytlglokbakmbpdaa", sum := "3c231a45f450753a0c4e57fd71822d68764cdbaeb7a62a37635e4004064dbb3e", func := "loop.example/wholewaves/laws.FnTimesOf", spec := "fnTimesOf", unfollowed := true, recurses := true, leaving := true, apart := false }
def FnTimesOfSaid : Prop := fnTimesOfRow.holds Try.pinned (OpenSpec.ofChange fnTimesOfSpec)

/-- ITS FALSE NEIGHBOUR: 'it returns false'. Refute it at one input. -/
def fnTimesOfWrong : ChangeSpec := { name := "fnTimesOf", fn := fun _ => fun
  | [d] => { results := [.lit (.bool false)], args := [d] }
  | _ => none }
def FnTimesOfWrongFalsely : Prop := fnTimesOfRow.holds Try.pinned (OpenSpec.ofChange fnTimesOfWrong)

/-- 'laws.FnPartOf': WHATEVER THE INPUT: true; the input reads as it did. -/
def fnPartOfSpec : ChangeSpec := { name := "fnPartOf", fn := fun _ => fun
  | [d] => { results := [.lit (.bool true)], args := [d] }
  | _ => none }
def fnPartOfRow : OpenClaim := { program := "ytlglokbakmbpdaa", sum := "3c231a45f450753a0c4e57fd71822d68764cdbaeb7a62a37635e4004064dbb3e", func := "loop.example/wholewaves/laws.FnPartOf", spec := "fnPartOf", unfollowed := true, recurses := true, leaving := true, apart := false }
def FnPartOfSaid : Prop := fnPartOfRow.holds Try.pinned (OpenSpec.ofChange fnPartOfSpec)

/-- ITS FALSE NEIGHBOUR: 'it returns false'. Refute it at one input. -/
def fnPartOfWrong : ChangeSpec := { name := "fnPartOf", fn := fun _ => fun
  | [d] => { results := [.lit (.bool false)], args := [d] }
  | _ => none }
def FnPartOfWrongFalsely : Prop := fnPartOfRow.holds Try.pinned (OpenSpec.ofChange fnPartOfWrong)

/-- 'laws.FnBoxSums': WHATEVER THE INPUT: true; the input reads as it did. -/
def fnBoxSumsSpec : ChangeSpec := { name := "fnBoxSums", fn := fun _ => fun
  | [d] => { results := [.lit (.bool true)], args := [d] }
  | _ => none }
def fnBoxSumsRow : OpenClaim := { program := "ytlglokbakmbpdaa", sum := "3c231a45f450753a0c4e57fd71822d68764cdbaeb7a62a37635e4004064dbb3e", func := "loop.example/wholewaves/laws.FnBoxSums", spec := "fnBoxSums", unfollowed := true, recurses := true, leaving := true, apart := false }
def FnBoxSumsSaid : Prop := fnBoxSumsRow.holds Try.pinned (OpenSpec.ofChange fnBoxSumsSpec)

/-- ITS FALSE NEIGHBOUR: 'it returns false'. Refute it at one input. -/
def fnBoxSumsWrong : ChangeSpec := { name := "fnBoxSums", fn := fun _ => fun
  | [d] => { results := [.lit (.bool false)], args := [d] }
  | _ => none }
def FnBoxSumsWrongFalsely : Prop := fnBoxSumsRow.holds Try.pinned (OpenSpec.ofChange fnBoxSumsWrong)

/-- 'laws.FnMiddlesOf': WHATEVER THE INPUT: true; the input reads as it did. -/
def fnMiddlesOfSpec : ChangeSpec := { name := "fnMiddlesOf", fn := fun _ => fun
  | [d] => { results := [.lit (.bool true)], args := [d] }
  | _ => none }
def fnMiddlesOfRow : OpenClaim := { program := "ytlglokbakmbpdaa", sum := "3c231a45f450753a0c4e57fd71822d68764cdbaeb7a62a37635e4004064dbb3e", func := "loop.example/wholewaves/laws.FnMiddlesOf", spec := "fnMiddlesOf", unfollowed := true, recurses := true, leaving := true, apart := false }
def FnMiddlesOfSaid : Prop := fnMiddlesOfRow.holds Try.pinned (OpenSpec.ofChange fnMiddlesOfSpec)

/-- ITS FALSE NEIGHBOUR: 'it returns false'. Refute it at one input. -/
def fnMiddlesOfWrong : ChangeSpec := { name := "fnMiddlesOf", fn := fun _ => fun
  | [d] => { results := [.lit (.bool false)], args := [d] }
  | _ => none }
def FnMiddlesOfWrongFalsely : Prop := fnMiddlesOfRow.holds Try.pinned (OpenSpec.ofChange fnMiddlesOfWrong)

/-- 'laws.FnSelfOf': WHATEVER THE INPUT: true; the input reads as it did. -/
def fnSelfOfSpec : ChangeSpec := { name := "fnSelfOf", fn := fun _ => fun
  | [d] => { results := [.lit (.bool true)], args := [d] }
  | _ => none }
def fnSelfOfRow : OpenClaim := { program := "ytlglokbakmbpdaa", sum := "3c231a45f450753a0c4e57fd71822d68764cdbaeb7a62a37635e4004064dbb3e", func := "loop.example/wholewaves/laws.FnSelfOf", spec := "fnSelfOf", unfollowed := true, recurses := true, leaving := true, apart := false }
def FnSelfOfSaid : Prop := fnSelfOfRow.holds Try.pinned (OpenSpec.ofChange fnSelfOfSpec)

/-- ITS FALSE NEIGHBOUR: 'it returns false'. Refute it at one input. -/
def fnSelfOfWrong : ChangeSpec := { name := "fnSelfOf", fn := fun _ => fun
  | [d] => { results := [.lit (.bool false)], args := [d] }
  | _ => none }
def FnSelfOfWrongFalsely : Prop := fnSelfOfRow.holds Try.pinned (OpenSpec.ofChange fnSelfOfWrong)

/-- 'laws.FnIsQuiet': WHATEVER THE INPUT: true; the input reads as it did. -/
def fnIsQuietSpec : ChangeSpec := { name := "fnIsQuiet", fn := fun _ => fun
  | [d] => { results := [.lit (.bool true)], args := [d] }
  | _ => none }
def fnIsQuietRow : OpenClaim := { program := "ytlglokbakmbpdaa", sum := "3c231a45f450753a0c4e57fd71822d68764cdbaeb7a62a37635e4004064dbb3e", func := "loop.example/wholewaves/laws.FnIsQuiet", spec := "fnIsQuiet", unfollowed := true, recurses := true, leaving := true, apart := false }
def FnIsQuietSaid : Prop := fnIsQuietRow.holds Try.pinned (OpenSpec.ofChange fnIsQuietSpec)

/-- ITS FALSE NEIGHBOUR: 'it returns false'. Refute it at one input. -/
def fnIsQuietWrong : ChangeSpec := { name := "fnIsQuiet", fn := fun _ => fun
  | [d] => { results := [.lit (.bool false)], args := [d] }
  | _ => none }
def FnIsQuietWrongFalsely : Prop := fnIsQuietRow.holds Try.pinned (OpenSpec.ofChange fnIsQuietWrong)

/-- 'laws.FnArePaired': WHATEVER THE INPUT: true; the input reads as it did. -/
def fnArePairedSpec : ChangeSpec := { name := "fnArePaired", fn := fun _ => fun
  | [d] => { results := [.lit (.bool true)], args := [d] }
  | _ => none }
def fnArePairedRow : OpenClaim := { program := "ytlglokbakmbpdaa", sum := "3c231a45f450753a0c4e57fd71822d68764cdbaeb7a62a37635e4004064dbb3e", func := "loop.example/wholewaves/laws.FnArePaired", spec := "fnArePaired", unfollowed := true, recurses := true, leaving := true, apart := false }
def FnArePairedSaid : Prop := fnArePairedRow.holds Try.pinned (OpenSpec.ofChange fnArePairedSpec)

/-- ITS FALSE NEIGHBOUR: 'it returns false'. Refute it at one input. -/
def fnArePairedWrong : ChangeSpec := { name := "fnArePaired", fn := fun _ => fun
  | [d] => { results := [.lit (.bool false)], args := [d] }
  | _ => none }
def FnArePairedWrongFalsely : Prop := fnArePairedRow.holds Try.pinned (OpenSpec.ofChange fnArePairedWrong)

/-- 'laws.FnDoublePair': WHATEVER THE INPUT: true; the input reads as it did. -/
def fnDoublePairSpec : ChangeSpec := { name := "fnDoublePair", fn := fun _ => fun
  | [d] => { results := [.lit (.bool true)], args := [d] }
  | _ => none }
def fnDoublePairRow : OpenClaim := { program := "ytlglokbakmbpdaa", sum := "3c231a45f450753a0c4e57fd71822d68764cdbaeb7a62a37635e4004064dbb3e", func := "loop.example/wholewaves/laws.FnDoublePair", spec := "fnDoublePair", unfollowed := true, recurses := true, leaving := true, apart := false }
def FnDoublePairSaid : Prop := fnDoublePairRow.holds Try.pinned (OpenSpec.ofChange fnDoublePairSpec)

/-- ITS FALSE NEIGHBOUR: 'it returns false'. Refute it at one input. -/
def fnDoublePairWrong : ChangeSpec := { name := "fnDoublePair", fn := fun _ => fun
  | [d] => { results := [.lit (.bool false)], args := [d] }
  | _ => none }
def FnDoublePairWrongFalsely : Prop := fnDoublePairRow.holds Try.pinned (OpenSpec.ofChange fnDoublePairWrong)

/- THE SECOND FORM. 'bulk': how many values and letters a reading holds, each counted each time it is reached (what is shared counts as often as it is met; a slice's spare places count too). A statement '..UptoSaid' is the law's where the arguments, and the package variables that the reading takes, are together of bulk at most 1048576: NARROWER than '..Said'. Prove '..Said' where nothing that the law and all that it calls make is longer than what came in: it says more and counts as full. Else prove '..UptoSaid'. A law counts once. -/
mutual
def uptoBulk {H : Type} : DataW H → Nat
  | .lit (.string bytes) => bytes.length + 1
  | .lit _ => 1
  | .nil => 1
  | .ptr d => uptoBulk d + 1
  | .slice elems spare => uptoBulkAll elems + uptoBulkAll spare + 1
  | .agg parts => uptoBulkAll parts + 1
  | .iface _ d => uptoBulk d + 1
  | .map entries => uptoBulkEntries entries + 1
  | .held _ => 1
def uptoBulkAll {H : Type} : List (DataW H) → Nat
  | [] => 0
  | d :: r => uptoBulk d + uptoBulkAll r
def uptoBulkEntries {H : Type} : List (Lit × DataW H) → Nat
  | [] => 0
  | x :: r => uptoBulkEntry x + uptoBulkEntries r
def uptoBulkEntry {H : Type} : Lit × DataW H → Nat
  | (.string bytes, d) => bytes.length + uptoBulk d + 1
  | (_, d) => uptoBulk d + 1
 end
def uptoSmall : (H : Type) → List (DataW H) → Bool := fun _ ds => decide (uptoBulkAll ds ≤ 1048576)
def OpenSpec.upto (s : _root_.Go.ChangeSpec) : _root_.Go.OpenSpec := { _root_.Go.OpenSpec.ofChange s with cond := some uptoSmall }

/-- 'laws.FnTimesOf', WHERE WHAT IT READS IS OF BULK AT MOST 1048576: true; the input reads as it did. -/
def fnTimesOfUptoRow : OpenClaim := { program := "ytlglokbakmbpdaa", sum := "3c231a45f450753a0c4e57fd71822d68764cdbaeb7a62a37635e4004064dbb3e", func := "loop.example/wholewaves/laws.FnTimesOf", spec := "fnTimesOf", unfollowed := true, recurses := true, leaving := true, apart := false, narrowed := true }
def FnTimesOfUptoSaid : Prop := fnTimesOfUptoRow.holds Try.pinned (OpenSpec.upto fnTimesOfSpec)

/-- 'laws.FnPartOf', WHERE WHAT IT READS IS OF BULK AT MOST 1048576: true; the input reads as it did. -/
def fnPartOfUptoRow : OpenClaim := { program := "ytlglokbakmbpdaa", sum := "3c231a45f450753a0c4e57fd71822d68764cdbaeb7a62a37635e4004064dbb3e", func := "loop.example/wholewaves/laws.FnPartOf", spec := "fnPartOf", unfollowed := true, recurses := true, leaving := true, apart := false, narrowed := true }
def FnPartOfUptoSaid : Prop := fnPartOfUptoRow.holds Try.pinned (OpenSpec.upto fnPartOfSpec)

/-- 'laws.FnBoxSums', WHERE WHAT IT READS IS OF BULK AT MOST 1048576: true; the input reads as it did. -/
def fnBoxSumsUptoRow : OpenClaim := { program := "ytlglokbakmbpdaa", sum := "3c231a45f450753a0c4e57fd71822d68764cdbaeb7a62a37635e4004064dbb3e", func := "loop.example/wholewaves/laws.FnBoxSums", spec := "fnBoxSums", unfollowed := true, recurses := true, leaving := true, apart := false, narrowed := true }
def FnBoxSumsUptoSaid : Prop := fnBoxSumsUptoRow.holds Try.pinned (OpenSpec.upto fnBoxSumsSpec)

/-- 'laws.FnMiddlesOf', WHERE WHAT IT READS IS OF BULK AT MOST 1048576: true; the input reads as it did. -/
def fnMiddlesOfUptoRow : OpenClaim := { program := "ytlglokbakmbpdaa", sum := "3c231a45f450753a0c4e57fd71822d68764cdbaeb7a62a37635e4004064dbb3e", func := "loop.example/wholewaves/laws.FnMiddlesOf", spec := "fnMiddlesOf", unfollowed := true, recurses := true, leaving := true, apart := false, narrowed := true }
def FnMiddlesOfUptoSaid : Prop := fnMiddlesOfUptoRow.holds Try.pinned (OpenSpec.upto fnMiddlesOfSpec)

/-- 'laws.FnSelfOf', WHERE WHAT IT READS IS OF BULK AT MOST 1048576: true; the input reads as it did. -/
def fnSelfOfUptoRow : OpenClaim := { program := "ytlglokbakmbpdaa", sum := "3c231a45f450753a0c4e57fd71822d68764cdbaeb7a62a37635e4004064dbb3e", func := "loop.example/wholewaves/laws.FnSelfOf", spec := "fnSelfOf", unfollowed := true, recurses := true, leaving := true, apart := false, narrowed := true }
def FnSelfOfUptoSaid : Prop := fnSelfOfUptoRow.holds Try.pinned (OpenSpec.upto fnSelfOfSpec)

/-- 'laws.FnIsQuiet', WHERE WHAT IT READS IS OF BULK AT MOST 1048576: true; the input reads as it did. -/
def fnIsQuietUptoRow : OpenClaim := { program := "ytlglokbakmbpdaa", sum := "3c231a45f450753a0c4e57fd71822d68764cdbaeb7a62a37635e4004064dbb3e", func := "loop.example/wholewaves/laws.FnIsQuiet", spec := "fnIsQuiet", unfollowed := true, recurses := true, leaving := true, apart := false, narrowed := true }
def FnIsQuietUptoSaid : Prop := fnIsQuietUptoRow.holds Try.pinned (OpenSpec.upto fnIsQuietSpec)

/-- 'laws.FnArePaired', WHERE WHAT IT READS IS OF BULK AT MOST 1048576: true; the input reads as it did. -/
def fnArePairedUptoRow : OpenClaim := { program := "ytlglokbakmbpdaa", sum := "3c231a45f450753a0c4e57fd71822d68764cdbaeb7a62a37635e4004064dbb3e", func := "loop.example/wholewaves/laws.FnArePaired", spec := "fnArePaired", unfollowed := true, recurses := true, leaving := true, apart := false, narrowed := true }
def FnArePairedUptoSaid : Prop := fnArePairedUptoRow.holds Try.pinned (OpenSpec.upto fnArePairedSpec)

/-- 'laws.FnDoublePair', WHERE WHAT IT READS IS OF BULK AT MOST 1048576: true; the input reads as it did. -/
def fnDoublePairUptoRow : OpenClaim := { program := "ytlglokbakmbpdaa", sum := "3c231a45f450753a0c4e57fd71822d68764cdbaeb7a62a37635e4004064dbb3e", func := "loop.example/wholewaves/laws.FnDoublePair", spec := "fnDoublePair", unfollowed := true, recurses := true, leaving := true, apart := false, narrowed := true }
def FnDoublePairUptoSaid : Prop := fnDoublePairUptoRow.holds Try.pinned (OpenSpec.upto fnDoublePairSpec)

end Rows
end Go.Proofs.Ytlglokbakmbpdaa
