/-
  DERIVED. GIVEN WITH THE SEED: THE CARDS: each row of YtmolmbeeoecnfabDoorRows.lean that lists a variable, with what it lists TIED to the program's text (the seventh form; the later family's looks); each row that meets fmt, with fmt's text TOLD by the authors' own Lean function (tested against real Go, not proved from fmt's source: count such statements apart). THE CARD IS WHAT COUNTS. Prove the row's statement (the work); the ties are given (YtmolmbeeoecnfabDoorTie.lean); close each card by the builder's one call (the guide's Derived/Test/ToyasCard.lean, 'card_holds'). Laid BY PROGRAM, IN A SANDBOX (cutbox-door.mjs). By AI agents, Wed Nov 11 2026. No macro, syntax, notation, axiom, sorry.
-/
import Derived.Test.YtmolmbeeoecnfabDoorRows
import GoSem.ClaimSeven
namespace Go.Proofs.YtmolmbeeoecnfabDoor
namespace Rows

/-- THE TIED CARD OF 'chartlaw.Alike'. -/
def alikeCard : Claim7 := { stood := { row := alikeRow, standIns := [], harness := (true, "8083de945b9674c929247cbb0c19e183e9aecbd0076addc3205aff081e32f1ff"), looks := false }, kinds := [], alts := [], laidByText := true, laidKinds := [.data, .data, .data], laidTests := true, laidLooks := .later }
def AlikeCardSaid : Prop := Claim7.holds Tryd.pinned (.plain (OpenSpec.ofChange alikeSpec)) alikeCard

/-- THE TIED CARD OF 'chartlaw.Same'. -/
def sameCard : Claim7 := { stood := { row := sameRow, standIns := [], harness := (true, "8083de945b9674c929247cbb0c19e183e9aecbd0076addc3205aff081e32f1ff"), looks := false }, kinds := [], alts := [], laidByText := true, laidKinds := [.data, .data, .data], laidTests := true, laidLooks := .later }
def SameCardSaid : Prop := Claim7.holds Tryd.pinned (.plain (OpenSpec.ofChange sameSpec)) sameCard

/-- THE TIED CARD OF 'chartlaw.Reached'. -/
def reachedCard : Claim7 := { stood := { row := reachedRow, standIns := [], harness := (true, "8083de945b9674c929247cbb0c19e183e9aecbd0076addc3205aff081e32f1ff"), looks := false }, kinds := [], alts := [], laidByText := true, laidKinds := [.data, .data, .data], laidTests := true, laidLooks := .later }
def ReachedCardSaid : Prop := Claim7.holds Tryd.pinned (.plain (OpenSpec.ofChange reachedSpec)) reachedCard

/-- THE TIED CARD OF 'chartlaw.Limit'. -/
def limitCard : Claim7 := { stood := { row := limitRow, standIns := [], harness := (true, "8083de945b9674c929247cbb0c19e183e9aecbd0076addc3205aff081e32f1ff"), looks := false }, kinds := [], alts := [], laidByText := true, laidKinds := [.data, .data, .data], laidTests := true, laidLooks := .later }
def LimitCardSaid : Prop := Claim7.holds Tryd.pinned (.plain (OpenSpec.ofChange limitSpec)) limitCard

/-- THE SECOND FORM's CARD OF 'chartlaw.Alike'. -/
def alikeUptoCard : Claim7 := { stood := { row := alikeUptoRow, standIns := [], harness := (true, "8083de945b9674c929247cbb0c19e183e9aecbd0076addc3205aff081e32f1ff"), looks := false }, kinds := [], alts := [], laidByText := true, laidKinds := [.data, .data, .data], laidTests := true, laidLooks := .later }
def AlikeUptoCardSaid : Prop := Claim7.holds Tryd.pinned (.plain (OpenSpec.upto alikeSpec)) alikeUptoCard

/-- THE SECOND FORM's CARD OF 'chartlaw.Same'. -/
def sameUptoCard : Claim7 := { stood := { row := sameUptoRow, standIns := [], harness := (true, "8083de945b9674c929247cbb0c19e183e9aecbd0076addc3205aff081e32f1ff"), looks := false }, kinds := [], alts := [], laidByText := true, laidKinds := [.data, .data, .data], laidTests := true, laidLooks := .later }
def SameUptoCardSaid : Prop := Claim7.holds Tryd.pinned (.plain (OpenSpec.upto sameSpec)) sameUptoCard

/-- THE SECOND FORM's CARD OF 'chartlaw.Reached'. -/
def reachedUptoCard : Claim7 := { stood := { row := reachedUptoRow, standIns := [], harness := (true, "8083de945b9674c929247cbb0c19e183e9aecbd0076addc3205aff081e32f1ff"), looks := false }, kinds := [], alts := [], laidByText := true, laidKinds := [.data, .data, .data], laidTests := true, laidLooks := .later }
def ReachedUptoCardSaid : Prop := Claim7.holds Tryd.pinned (.plain (OpenSpec.upto reachedSpec)) reachedUptoCard

/-- THE SECOND FORM's CARD OF 'chartlaw.Limit'. -/
def limitUptoCard : Claim7 := { stood := { row := limitUptoRow, standIns := [], harness := (true, "8083de945b9674c929247cbb0c19e183e9aecbd0076addc3205aff081e32f1ff"), looks := false }, kinds := [], alts := [], laidByText := true, laidKinds := [.data, .data, .data], laidTests := true, laidLooks := .later }
def LimitUptoCardSaid : Prop := Claim7.holds Tryd.pinned (.plain (OpenSpec.upto limitSpec)) limitUptoCard
end Rows
end Go.Proofs.YtmolmbeeoecnfabDoor
