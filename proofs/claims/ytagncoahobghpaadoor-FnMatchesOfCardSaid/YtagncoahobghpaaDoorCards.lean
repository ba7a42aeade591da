/-
  DERIVED. GIVEN WITH THE SEED: THE CARDS: each row of YtagncoahobghpaaDoorRows.lean that lists a variable, with what it lists TIED to the program's text (the seventh form; the later family's looks); each row that meets fmt, with fmt's text TOLD by the authors' own Lean function (tested against real Go, not proved from fmt's source: count such statements apart). THE CARD IS WHAT COUNTS. Prove the row's statement (the work); the ties are given (YtagncoahobghpaaDoorTie.lean); close each card by the builder's one call (the guide's Derived/Test/ToyasCard.lean, 'card_holds'). Laid BY PROGRAM, IN A SANDBOX (cutbox-door.mjs). By AI agents, Wed Nov 11 2026. No macro, syntax, notation, axiom, sorry.
-/
import Derived.Test.YtagncoahobghpaaDoorRows
import GoSem.ClaimSeven
namespace Go.Proofs.YtagncoahobghpaaDoor
namespace Rows

/-- THE TIED CARD OF 'laws.FnMatchesOf'. -/
def fnMatchesOfCard : Claim7 := { stood := { row := fnMatchesOfRow, standIns := [], harness := (true, "ee311324b769da8dd3df2626d1436df220555fc2fda3dea3b6040d6601e54571"), looks := false }, kinds := [], alts := [], laidByText := true, laidKinds := [.data, .pinned], laidTests := true, laidLooks := .later }
def FnMatchesOfCardSaid : Prop := Claim7.holds Tryd.pinned (.plain (OpenSpec.ofChange fnMatchesOfSpec)) fnMatchesOfCard

/-- THE TIED CARD OF 'laws.FnMissesOf'. -/
def fnMissesOfCard : Claim7 := { stood := { row := fnMissesOfRow, standIns := [], harness := (true, "ee311324b769da8dd3df2626d1436df220555fc2fda3dea3b6040d6601e54571"), looks := false }, kinds := [], alts := [], laidByText := true, laidKinds := [.data, .pinned], laidTests := true, laidLooks := .later }
def FnMissesOfCardSaid : Prop := Claim7.holds Tryd.pinned (.plain (OpenSpec.ofChange fnMissesOfSpec)) fnMissesOfCard

/-- THE SECOND FORM's CARD OF 'laws.FnMatchesOf'. -/
def fnMatchesOfUptoCard : Claim7 := { stood := { row := fnMatchesOfUptoRow, standIns := [], harness := (true, "ee311324b769da8dd3df2626d1436df220555fc2fda3dea3b6040d6601e54571"), looks := false }, kinds := [], alts := [], laidByText := true, laidKinds := [.data, .pinned], laidTests := true, laidLooks := .later }
def FnMatchesOfUptoCardSaid : Prop := Claim7.holds Tryd.pinned (.plain (OpenSpec.upto fnMatchesOfSpec)) fnMatchesOfUptoCard

/-- THE SECOND FORM's CARD OF 'laws.FnMissesOf'. -/
def fnMissesOfUptoCard : Claim7 := { stood := { row := fnMissesOfUptoRow, standIns := [], harness := (true, "ee311324b769da8dd3df2626d1436df220555fc2fda3dea3b6040d6601e54571"), looks := false }, kinds := [], alts := [], laidByText := true, laidKinds := [.data, .pinned], laidTests := true, laidLooks := .later }
def FnMissesOfUptoCardSaid : Prop := Claim7.holds Tryd.pinned (.plain (OpenSpec.upto fnMissesOfSpec)) fnMissesOfUptoCard
end Rows
end Go.Proofs.YtagncoahobghpaaDoor
