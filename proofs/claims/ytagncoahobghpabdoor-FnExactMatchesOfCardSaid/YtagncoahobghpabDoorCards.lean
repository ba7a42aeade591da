/-
  DERIVED. GIVEN WITH THE SEED: THE CARDS: each row of YtagncoahobghpabDoorRows.lean that lists a variable, with what it lists TIED to the program's text (the seventh form; the later family's looks); each row that meets fmt, with fmt's text TOLD by the authors' own Lean function (tested against real Go, not proved from fmt's source: count such statements apart). THE CARD IS WHAT COUNTS. Prove the row's statement (the work); the ties are given (YtagncoahobghpabDoorTie.lean); close each card by the builder's one call (the guide's Derived/Test/ToyasCard.lean, 'card_holds'). Laid BY PROGRAM, IN A SANDBOX (cutbox-door.mjs). By AI agents, Wed Nov 11 2026. No macro, syntax, notation, axiom, sorry.
-/
import Derived.Test.YtagncoahobghpabDoorRows
import GoSem.ClaimSeven
namespace Go.Proofs.YtagncoahobghpabDoor
namespace Rows

/-- THE TIED CARD OF 'laws.FnExactMatchesOf'. -/
def fnExactMatchesOfCard : Claim7 := { stood := { row := fnExactMatchesOfRow, standIns := [], harness := (true, "485c09cdbc408a95afd2b8f462e93aace6574c69ec79fc1bda1e680cb14c456d"), looks := false }, kinds := [], alts := [], laidByText := true, laidKinds := [.data, .pinned], laidTests := true, laidLooks := .later }
def FnExactMatchesOfCardSaid : Prop := Claim7.holds Tryd.pinned (.plain (OpenSpec.ofChange fnExactMatchesOfSpec)) fnExactMatchesOfCard

/-- THE TIED CARD OF 'laws.FnExactMissesOf'. -/
def fnExactMissesOfCard : Claim7 := { stood := { row := fnExactMissesOfRow, standIns := [], harness := (true, "485c09cdbc408a95afd2b8f462e93aace6574c69ec79fc1bda1e680cb14c456d"), looks := false }, kinds := [], alts := [], laidByText := true, laidKinds := [.data, .pinned], laidTests := true, laidLooks := .later }
def FnExactMissesOfCardSaid : Prop := Claim7.holds Tryd.pinned (.plain (OpenSpec.ofChange fnExactMissesOfSpec)) fnExactMissesOfCard

/-- THE SECOND FORM's CARD OF 'laws.FnExactMatchesOf'. -/
def fnExactMatchesOfUptoCard : Claim7 := { stood := { row := fnExactMatchesOfUptoRow, standIns := [], harness := (true, "485c09cdbc408a95afd2b8f462e93aace6574c69ec79fc1bda1e680cb14c456d"), looks := false }, kinds := [], alts := [], laidByText := true, laidKinds := [.data, .pinned], laidTests := true, laidLooks := .later }
def FnExactMatchesOfUptoCardSaid : Prop := Claim7.holds Tryd.pinned (.plain (OpenSpec.upto fnExactMatchesOfSpec)) fnExactMatchesOfUptoCard

/-- THE SECOND FORM's CARD OF 'laws.FnExactMissesOf'. -/
def fnExactMissesOfUptoCard : Claim7 := { stood := { row := fnExactMissesOfUptoRow, standIns := [], harness := (true, "485c09cdbc408a95afd2b8f462e93aace6574c69ec79fc1bda1e680cb14c456d"), looks := false }, kinds := [], alts := [], laidByText := true, laidKinds := [.data, .pinned], laidTests := true, laidLooks := .later }
def FnExactMissesOfUptoCardSaid : Prop := Claim7.holds Tryd.pinned (.plain (OpenSpec.upto fnExactMissesOfSpec)) fnExactMissesOfUptoCard
end Rows
end Go.Proofs.YtagncoahobghpabDoor
