/-
  DERIVED. GIVEN WITH THE SEED: THE CARDS: each row of YtmolmbeeoecnfaaGreatDoorRows.lean that lists a variable, with what it lists TIED to the program's text (the seventh form; the later family's looks); each row that meets fmt, with fmt's text TOLD by the authors' own Lean function (tested against real Go, not proved from fmt's source: count such statements apart). THE CARD IS WHAT COUNTS. Prove the row's statement (the work); the ties are given (YtmolmbeeoecnfaaGreatDoorTie.lean); close each card by the builder's one call (the guide's Derived/Test/ToyasCard.lean, 'card_holds'). Laid BY PROGRAM, IN A SANDBOX (cutbox-door.mjs). By AI agents, Wed Nov 11 2026. No macro, syntax, notation, axiom, sorry.
-/
import Derived.Test.YtmolmbeeoecnfaaGreatDoorRows
import GoSem.ClaimSeven
namespace Go.Proofs.YtmolmbeeoecnfaaGreatDoor
namespace Rows

/-- THE TIED CARD OF 'chartlaw.Compiles'. -/
def compilesCard : Claim7 := { stood := { row := compilesRow, standIns := [], harness := (true, "41b57eca786705b40d0ca43cf590bb0a4ac5c6fad51266beefdfc607bcde697c"), looks := false }, kinds := [], alts := [], laidByText := true, laidKinds := [.data, .data, .data], laidTests := true, laidLooks := .later }
def CompilesCardSaid : Prop := Claim7.holds Tryz.pinned (.plain (OpenSpec.ofChange compilesSpec)) compilesCard

/-- THE TIED CARD OF 'chartlaw.Flat'. -/
def flatCard : Claim7 := { stood := { row := flatRow, standIns := [], harness := (true, "41b57eca786705b40d0ca43cf590bb0a4ac5c6fad51266beefdfc607bcde697c"), looks := false }, kinds := [], alts := [], laidByText := true, laidKinds := [.data, .data, .data], laidTests := true, laidLooks := .later }
def FlatCardSaid : Prop := Claim7.holds Tryz.pinned (.plain (OpenSpec.ofChange flatSpec)) flatCard

/-- THE SECOND FORM's CARD OF 'chartlaw.Compiles'. -/
def compilesUptoCard : Claim7 := { stood := { row := compilesUptoRow, standIns := [], harness := (true, "41b57eca786705b40d0ca43cf590bb0a4ac5c6fad51266beefdfc607bcde697c"), looks := false }, kinds := [], alts := [], laidByText := true, laidKinds := [.data, .data, .data], laidTests := true, laidLooks := .later }
def CompilesUptoCardSaid : Prop := Claim7.holds Tryz.pinned (.plain (OpenSpec.upto compilesSpec)) compilesUptoCard

/-- THE SECOND FORM's CARD OF 'chartlaw.Flat'. -/
def flatUptoCard : Claim7 := { stood := { row := flatUptoRow, standIns := [], harness := (true, "41b57eca786705b40d0ca43cf590bb0a4ac5c6fad51266beefdfc607bcde697c"), looks := false }, kinds := [], alts := [], laidByText := true, laidKinds := [.data, .data, .data], laidTests := true, laidLooks := .later }
def FlatUptoCardSaid : Prop := Claim7.holds Tryz.pinned (.plain (OpenSpec.upto flatSpec)) flatUptoCard
end Rows
end Go.Proofs.YtmolmbeeoecnfaaGreatDoor
