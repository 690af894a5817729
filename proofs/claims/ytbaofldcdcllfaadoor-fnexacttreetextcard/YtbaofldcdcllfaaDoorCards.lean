/-
  DERIVED. GIVEN WITH THE SEED: THE CARDS: each row of YtbaofldcdcllfaaDoorRows.lean that lists a variable, with what it lists TIED to the program's text (the seventh form; the later family's looks); each row that meets fmt, with fmt's text TOLD by the authors' own Lean function (tested against real Go, not proved from fmt's source: count such statements apart). THE CARD IS WHAT COUNTS. Prove the row's statement (the work); the ties are given (YtbaofldcdcllfaaDoorTie.lean); close each card by the builder's one call (the guide's Derived/Test/ToyasCard.lean, 'card_holds'). Laid BY PROGRAM, IN A SANDBOX (cutbox-door.mjs). By AI agents, Wed Nov 11 2026. No macro, syntax, notation, axiom, sorry.
-/
import Derived.Test.YtbaofldcdcllfaaDoorRows
import GoSem.ClaimSeven
namespace Go.Proofs.YtbaofldcdcllfaaDoor
namespace Rows

/-- THE TIED CARD OF 'laws.FnExactTreeText'. -/
def fnExactTreeTextCard : Claim7 := { stood := { row := fnExactTreeTextRow, standIns := [], harness := (true, "88e1a9bb6c50303c5fe11ac35da11a3e63d1698e7c88b7eb72d0c9b800db26ea"), looks := true }, kinds := [], alts := [], laidByText := true, laidKinds := [.data, .data, .data], laidTests := true, laidLooks := .later }
def FnExactTreeTextCardSaid : Prop := Claim7.holds Tryd.pinned (.plain (OpenSpec.ofChange fnExactTreeTextSpec)) fnExactTreeTextCard

/-- THE TIED CARD OF 'laws.FnExactMadesText'. -/
def fnExactMadesTextCard : Claim7 := { stood := { row := fnExactMadesTextRow, standIns := [], harness := (true, "88e1a9bb6c50303c5fe11ac35da11a3e63d1698e7c88b7eb72d0c9b800db26ea"), looks := true }, kinds := [], alts := [], laidByText := true, laidKinds := [.data, .data, .data], laidTests := true, laidLooks := .later }
def FnExactMadesTextCardSaid : Prop := Claim7.holds Tryd.pinned (.plain (OpenSpec.ofChange fnExactMadesTextSpec)) fnExactMadesTextCard

/-- THE SECOND FORM's CARD OF 'laws.FnExactTreeText'. -/
def fnExactTreeTextUptoCard : Claim7 := { stood := { row := fnExactTreeTextUptoRow, standIns := [], harness := (true, "88e1a9bb6c50303c5fe11ac35da11a3e63d1698e7c88b7eb72d0c9b800db26ea"), looks := true }, kinds := [], alts := [], laidByText := true, laidKinds := [.data, .data, .data], laidTests := true, laidLooks := .later }
def FnExactTreeTextUptoCardSaid : Prop := Claim7.holds Tryd.pinned (.plain (OpenSpec.upto fnExactTreeTextSpec)) fnExactTreeTextUptoCard

/-- THE SECOND FORM's CARD OF 'laws.FnExactMadesText'. -/
def fnExactMadesTextUptoCard : Claim7 := { stood := { row := fnExactMadesTextUptoRow, standIns := [], harness := (true, "88e1a9bb6c50303c5fe11ac35da11a3e63d1698e7c88b7eb72d0c9b800db26ea"), looks := true }, kinds := [], alts := [], laidByText := true, laidKinds := [.data, .data, .data], laidTests := true, laidLooks := .later }
def FnExactMadesTextUptoCardSaid : Prop := Claim7.holds Tryd.pinned (.plain (OpenSpec.upto fnExactMadesTextSpec)) fnExactMadesTextUptoCard
end Rows
end Go.Proofs.YtbaofldcdcllfaaDoor
