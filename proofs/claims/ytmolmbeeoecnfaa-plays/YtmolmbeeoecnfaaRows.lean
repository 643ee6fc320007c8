/-
  No cell of these rows narrows 'for every input' (looked for: loops, veiled, ifaces, maps, wideKeys, modest, calm, conditions, laid).
  DERIVED. THE GIVEN ROWS OF THIS SEAT. 10 by the template 'for every input the law returns true; each argument reads behind the call as it read before'; 0 by the template 'total and deterministic' (their statements: YtmolmbeeoecnfaaTotals.lean).
  GIVEN WITH THE SEED: the statements are not yours to turn. If you find one false, say at which input.
  Laid BY PROGRAM, IN A SANDBOX (cutbox-rows.mjs): the forced cells as the released guide's own fill.sh prints them over the translation 6c5b216fecd0c753… (all of the seat's roots in one cut). By AI agents, Wed Nov 11 2026. No macro, syntax, notation, axiom, sorry.
-/
import Derived.Test.YtmolmbeeoecnfaaChecked
import GoSem.Claim
import GoSem.ClaimJoined
import GoSem.ClaimMapViews
import Derived.JoinedTies
import Derived.KernelRfl
namespace Go.Proofs.Ytmolmbeeoecnfaa
/- THE CELL 'sum', in the pinned program and in every row, IS THE sha256 OF THE DUMP (.gsa) THAT YtmolmbeeoecnfaaProg.lean LOADS. Nothing in Lean hashes anything: it is a label: what it is worth is what the hold of that sum in a sandbox is worth. -/
noncomputable def Try.pinned : Pinned := { name := "ytmolmbeeoecnfaa", sum := "6c5b216fecd0c7538e7bc0f6c2e39eaf1865547a401eff98bbc0f6af28dad2f4", checked := Try.checked }
namespace Rows
def none {H : Type} : Left H := { results := [], args := [] }

/-- 'chartlaw.Checks': WHATEVER THE INPUT: true; the input reads as it did. -/
def checksSpec : ChangeSpec := { name := "checks", fn := fun _ => fun
  | [d] => { results := [.lit (.bool true)], args := [d] }
  | _ => none }
def checksRow : OpenClaim := { program := "ytmolmbeeoecnfaa", sum := "6c5b216fecd0c7538e7bc0f6c2e39eaf1865547a401eff98bbc0f6af28dad2f4", func := "chart/chartlaw.Checks", spec := "checks", recurses := true, apart := false }
def ChecksSaid : Prop := checksRow.holds Try.pinned (OpenSpec.ofChange checksSpec)

/-- ITS FALSE NEIGHBOUR: 'it returns false'. Refute it at one input. -/
def checksWrong : ChangeSpec := { name := "checks", fn := fun _ => fun
  | [d] => { results := [.lit (.bool false)], args := [d] }
  | _ => none }
def ChecksWrongFalsely : Prop := checksRow.holds Try.pinned (OpenSpec.ofChange checksWrong)

/-- 'chartlaw.Plays': WHATEVER THE INPUT: true; the input reads as it did. -/
def playsSpec : ChangeSpec := { name := "plays", fn := fun _ => fun
  | [d1, d2] => { results := [.lit (.bool true)], args := [d1, d2] }
  | _ => none }
def playsRow : OpenClaim := { program := "ytmolmbeeoecnfaa", sum := "6c5b216fecd0c7538e7bc0f6c2e39eaf1865547a401eff98bbc0f6af28dad2f4", func := "chart/chartlaw.Plays", spec := "plays", recurses := true, apart := false }
def PlaysSaid : Prop := playsRow.holds Try.pinned (OpenSpec.ofChange playsSpec)

/-- ITS FALSE NEIGHBOUR: 'it returns false'. Refute it at one input. -/
def playsWrong : ChangeSpec := { name := "plays", fn := fun _ => fun
  | [d1, d2] => { results := [.lit (.bool false)], args := [d1, d2] }
  | _ => none }
def PlaysWrongFalsely : Prop := playsRow.holds Try.pinned (OpenSpec.ofChange playsWrong)

/-- 'chartlaw.Onward': WHATEVER THE INPUT: true; the input reads as it did. -/
def onwardSpec : ChangeSpec := { name := "onward", fn := fun _ => fun
  | [d1, d2, d3] => { results := [.lit (.bool true)], args := [d1, d2, d3] }
  | _ => none }
def onwardRow : OpenClaim := { program := "ytmolmbeeoecnfaa", sum := "6c5b216fecd0c7538e7bc0f6c2e39eaf1865547a401eff98bbc0f6af28dad2f4", func := "chart/chartlaw.Onward", spec := "onward", recurses := true, apart := false }
def OnwardSaid : Prop := onwardRow.holds Try.pinned (OpenSpec.ofChange onwardSpec)

/-- ITS FALSE NEIGHBOUR: 'it returns false'. Refute it at one input. -/
def onwardWrong : ChangeSpec := { name := "onward", fn := fun _ => fun
  | [d1, d2, d3] => { results := [.lit (.bool false)], args := [d1, d2, d3] }
  | _ => none }
def OnwardWrongFalsely : Prop := onwardRow.holds Try.pinned (OpenSpec.ofChange onwardWrong)

/-- 'chartlaw.Idle': WHATEVER THE INPUT: true; the input reads as it did. -/
def idleSpec : ChangeSpec := { name := "idle", fn := fun _ => fun
  | [d1, d2, d3, d4] => { results := [.lit (.bool true)], args := [d1, d2, d3, d4] }
  | _ => none }
def idleRow : OpenClaim := { program := "ytmolmbeeoecnfaa", sum := "6c5b216fecd0c7538e7bc0f6c2e39eaf1865547a401eff98bbc0f6af28dad2f4", func := "chart/chartlaw.Idle", spec := "idle", recurses := true, apart := false }
def IdleSaid : Prop := idleRow.holds Try.pinned (OpenSpec.ofChange idleSpec)

/-- ITS FALSE NEIGHBOUR: 'it returns false'. Refute it at one input. -/
def idleWrong : ChangeSpec := { name := "idle", fn := fun _ => fun
  | [d1, d2, d3, d4] => { results := [.lit (.bool false)], args := [d1, d2, d3, d4] }
  | _ => none }
def IdleWrongFalsely : Prop := idleRow.holds Try.pinned (OpenSpec.ofChange idleWrong)

/-- 'chartlaw.Legal': WHATEVER THE INPUT: true; the input reads as it did. -/
def legalSpec : ChangeSpec := { name := "legal", fn := fun _ => fun
  | [d1, d2] => { results := [.lit (.bool true)], args := [d1, d2] }
  | _ => none }
def legalRow : OpenClaim := { program := "ytmolmbeeoecnfaa", sum := "6c5b216fecd0c7538e7bc0f6c2e39eaf1865547a401eff98bbc0f6af28dad2f4", func := "chart/chartlaw.Legal", spec := "legal", recurses := true, apart := false }
def LegalSaid : Prop := legalRow.holds Try.pinned (OpenSpec.ofChange legalSpec)

/-- ITS FALSE NEIGHBOUR: 'it returns false'. Refute it at one input. -/
def legalWrong : ChangeSpec := { name := "legal", fn := fun _ => fun
  | [d1, d2] => { results := [.lit (.bool false)], args := [d1, d2] }
  | _ => none }
def LegalWrongFalsely : Prop := legalRow.holds Try.pinned (OpenSpec.ofChange legalWrong)

/-- 'chartlaw.Silent': WHATEVER THE INPUT: true; the input reads as it did. -/
def silentSpec : ChangeSpec := { name := "silent", fn := fun _ => fun
  | [d1, d2] => { results := [.lit (.bool true)], args := [d1, d2] }
  | _ => none }
def silentRow : OpenClaim := { program := "ytmolmbeeoecnfaa", sum := "6c5b216fecd0c7538e7bc0f6c2e39eaf1865547a401eff98bbc0f6af28dad2f4", func := "chart/chartlaw.Silent", spec := "silent", recurses := true, apart := false }
def SilentSaid : Prop := silentRow.holds Try.pinned (OpenSpec.ofChange silentSpec)

/-- ITS FALSE NEIGHBOUR: 'it returns false'. Refute it at one input. -/
def silentWrong : ChangeSpec := { name := "silent", fn := fun _ => fun
  | [d1, d2] => { results := [.lit (.bool false)], args := [d1, d2] }
  | _ => none }
def SilentWrongFalsely : Prop := silentRow.holds Try.pinned (OpenSpec.ofChange silentWrong)

/-- 'chartlaw.Within': WHATEVER THE INPUT: true; the input reads as it did. -/
def withinSpec : ChangeSpec := { name := "within", fn := fun _ => fun
  | [d1, d2] => { results := [.lit (.bool true)], args := [d1, d2] }
  | _ => none }
def withinRow : OpenClaim := { program := "ytmolmbeeoecnfaa", sum := "6c5b216fecd0c7538e7bc0f6c2e39eaf1865547a401eff98bbc0f6af28dad2f4", func := "chart/chartlaw.Within", spec := "within", recurses := true, apart := false }
def WithinSaid : Prop := withinRow.holds Try.pinned (OpenSpec.ofChange withinSpec)

/-- ITS FALSE NEIGHBOUR: 'it returns false'. Refute it at one input. -/
def withinWrong : ChangeSpec := { name := "within", fn := fun _ => fun
  | [d1, d2] => { results := [.lit (.bool false)], args := [d1, d2] }
  | _ => none }
def WithinWrongFalsely : Prop := withinRow.holds Try.pinned (OpenSpec.ofChange withinWrong)

/-- 'chartlaw.Loads': WHATEVER THE INPUT: true; the input reads as it did. -/
def loadsSpec : ChangeSpec := { name := "loads", fn := fun _ => fun
  | [d] => { results := [.lit (.bool true)], args := [d] }
  | _ => none }
def loadsRow : OpenClaim := { program := "ytmolmbeeoecnfaa", sum := "6c5b216fecd0c7538e7bc0f6c2e39eaf1865547a401eff98bbc0f6af28dad2f4", func := "chart/chartlaw.Loads", spec := "loads", apart := false }
def LoadsSaid : Prop := loadsRow.holds Try.pinned (OpenSpec.ofChange loadsSpec)

/-- ITS FALSE NEIGHBOUR: 'it returns false'. Refute it at one input. -/
def loadsWrong : ChangeSpec := { name := "loads", fn := fun _ => fun
  | [d] => { results := [.lit (.bool false)], args := [d] }
  | _ => none }
def LoadsWrongFalsely : Prop := loadsRow.holds Try.pinned (OpenSpec.ofChange loadsWrong)

/-- 'chartlaw.Runs': WHATEVER THE INPUT: true; the input reads as it did. -/
def runsSpec : ChangeSpec := { name := "runs", fn := fun _ => fun
  | [d1, d2] => { results := [.lit (.bool true)], args := [d1, d2] }
  | _ => none }
def runsRow : OpenClaim := { program := "ytmolmbeeoecnfaa", sum := "6c5b216fecd0c7538e7bc0f6c2e39eaf1865547a401eff98bbc0f6af28dad2f4", func := "chart/chartlaw.Runs", spec := "runs", apart := false }
def RunsSaid : Prop := runsRow.holds Try.pinned (OpenSpec.ofChange runsSpec)

/-- ITS FALSE NEIGHBOUR: 'it returns false'. Refute it at one input. -/
def runsWrong : ChangeSpec := { name := "runs", fn := fun _ => fun
  | [d1, d2] => { results := [.lit (.bool false)], args := [d1, d2] }
  | _ => none }
def RunsWrongFalsely : Prop := runsRow.holds Try.pinned (OpenSpec.ofChange runsWrong)

/-- 'chartlaw.Steps': WHATEVER THE INPUT: true; the input reads as it did. -/
def stepsSpec : ChangeSpec := { name := "steps", fn := fun _ => fun
  | [d1, d2, d3] => { results := [.lit (.bool true)], args := [d1, d2, d3] }
  | _ => none }
def stepsRow : OpenClaim := { program := "ytmolmbeeoecnfaa", sum := "6c5b216fecd0c7538e7bc0f6c2e39eaf1865547a401eff98bbc0f6af28dad2f4", func := "chart/chartlaw.Steps", spec := "steps", apart := false }
def StepsSaid : Prop := stepsRow.holds Try.pinned (OpenSpec.ofChange stepsSpec)

/-- ITS FALSE NEIGHBOUR: 'it returns false'. Refute it at one input. -/
def stepsWrong : ChangeSpec := { name := "steps", fn := fun _ => fun
  | [d1, d2, d3] => { results := [.lit (.bool false)], args := [d1, d2, d3] }
  | _ => none }
def StepsWrongFalsely : Prop := stepsRow.holds Try.pinned (OpenSpec.ofChange stepsWrong)

/- THE SECOND FORM. 'bulk': how many values and letters a reading holds, each counted each time it is reached (what is shared counts as often as it is met; a slice's spare places count too). A statement '..UptoSaid' is the law's where the arguments, and the package variables that the reading takes, are together of bulk at most 1048576: NARROWER than '..Said'. Prove '..Said' where nothing that the law and all that it calls make is longer than what came in: it says more and counts as full. Else prove '..UptoSaid'. A law counts once. -/
mutual
def uptoBulk {H : Type} : DataW H → Nat
  | .lit (.string bytes) => bytes.length + 1
  | .lit _ => 1
  | .nil => 1
  | .ptr d => uptoBulk d + 1
  | .slice elems spare => uptoBulkAll elems + uptoBulkAll spare + 1
  | .agg parts => uptoBulkAll parts + 1
  | .iface _ d => uptoBulk d + 1
  | .map entries => uptoBulkEntries entries + 1
  | .held _ => 1
def uptoBulkAll {H : Type} : List (DataW H) → Nat
  | [] => 0
  | d :: r => uptoBulk d + uptoBulkAll r
def uptoBulkEntries {H : Type} : List (Lit × DataW H) → Nat
  | [] => 0
  | x :: r => uptoBulkEntry x + uptoBulkEntries r
def uptoBulkEntry {H : Type} : Lit × DataW H → Nat
  | (.string bytes, d) => bytes.length + uptoBulk d + 1
  | (_, d) => uptoBulk d + 1
 end
def uptoSmall : (H : Type) → List (DataW H) → Bool := fun _ ds => decide (uptoBulkAll ds ≤ 1048576)
def OpenSpec.upto (s : _root_.Go.ChangeSpec) : _root_.Go.OpenSpec := { _root_.Go.OpenSpec.ofChange s with cond := some uptoSmall }

/-- 'chartlaw.Checks', WHERE WHAT IT READS IS OF BULK AT MOST 1048576: true; the input reads as it did. -/
def checksUptoRow : OpenClaim := { program := "ytmolmbeeoecnfaa", sum := "6c5b216fecd0c7538e7bc0f6c2e39eaf1865547a401eff98bbc0f6af28dad2f4", func := "chart/chartlaw.Checks", spec := "checks", recurses := true, apart := false, narrowed := true }
def ChecksUptoSaid : Prop := checksUptoRow.holds Try.pinned (OpenSpec.upto checksSpec)

/-- 'chartlaw.Plays', WHERE WHAT IT READS IS OF BULK AT MOST 1048576: true; the input reads as it did. -/
def playsUptoRow : OpenClaim := { program := "ytmolmbeeoecnfaa", sum := "6c5b216fecd0c7538e7bc0f6c2e39eaf1865547a401eff98bbc0f6af28dad2f4", func := "chart/chartlaw.Plays", spec := "plays", recurses := true, apart := false, narrowed := true }
def PlaysUptoSaid : Prop := playsUptoRow.holds Try.pinned (OpenSpec.upto playsSpec)

/-- 'chartlaw.Onward', WHERE WHAT IT READS IS OF BULK AT MOST 1048576: true; the input reads as it did. -/
def onwardUptoRow : OpenClaim := { program := "ytmolmbeeoecnfaa", sum := "6c5b216fecd0c7538e7bc0f6c2e39eaf1865547a401eff98bbc0f6af28dad2f4", func := "chart/chartlaw.Onward", spec := "onward", recurses := true, apart := false, narrowed := true }
def OnwardUptoSaid : Prop := onwardUptoRow.holds Try.pinned (OpenSpec.upto onwardSpec)

/-- 'chartlaw.Idle', WHERE WHAT IT READS IS OF BULK AT MOST 1048576: true; the input reads as it did. -/
def idleUptoRow : OpenClaim := { program := "ytmolmbeeoecnfaa", sum := "6c5b216fecd0c7538e7bc0f6c2e39eaf1865547a401eff98bbc0f6af28dad2f4", func := "chart/chartlaw.Idle", spec := "idle", recurses := true, apart := false, narrowed := true }
def IdleUptoSaid : Prop := idleUptoRow.holds Try.pinned (OpenSpec.upto idleSpec)

/-- 'chartlaw.Legal', WHERE WHAT IT READS IS OF BULK AT MOST 1048576: true; the input reads as it did. -/
def legalUptoRow : OpenClaim := { program := "ytmolmbeeoecnfaa", sum := "6c5b216fecd0c7538e7bc0f6c2e39eaf1865547a401eff98bbc0f6af28dad2f4", func := "chart/chartlaw.Legal", spec := "legal", recurses := true, apart := false, narrowed := true }
def LegalUptoSaid : Prop := legalUptoRow.holds Try.pinned (OpenSpec.upto legalSpec)

/-- 'chartlaw.Silent', WHERE WHAT IT READS IS OF BULK AT MOST 1048576: true; the input reads as it did. -/
def silentUptoRow : OpenClaim := { program := "ytmolmbeeoecnfaa", sum := "6c5b216fecd0c7538e7bc0f6c2e39eaf1865547a401eff98bbc0f6af28dad2f4", func := "chart/chartlaw.Silent", spec := "silent", recurses := true, apart := false, narrowed := true }
def SilentUptoSaid : Prop := silentUptoRow.holds Try.pinned (OpenSpec.upto silentSpec)

/-- 'chartlaw.Within', WHERE WHAT IT READS IS OF BULK AT MOST 1048576: true; the input reads as it did. -/
def withinUptoRow : OpenClaim := { program := "ytmolmbeeoecnfaa", sum := "6c5b216fecd0c7538e7bc0f6c2e39eaf1865547a401eff98bbc0f6af28dad2f4", func := "chart/chartlaw.Within", spec := "within", recurses := true, apart := false, narrowed := true }
def WithinUptoSaid : Prop := withinUptoRow.holds Try.pinned (OpenSpec.upto withinSpec)

/-- 'chartlaw.Loads', WHERE WHAT IT READS IS OF BULK AT MOST 1048576: true; the input reads as it did. -/
def loadsUptoRow : OpenClaim := { program := "ytmolmbeeoecnfaa", sum := "6c5b216fecd0c7538e7bc0f6c2e39eaf1865547a401eff98bbc0f6af28dad2f4", func := "chart/chartlaw.Loads", spec := "loads", apart := false, narrowed := true }
def LoadsUptoSaid : Prop := loadsUptoRow.holds Try.pinned (OpenSpec.upto loadsSpec)

/-- 'chartlaw.Runs', WHERE WHAT IT READS IS OF BULK AT MOST 1048576: true; the input reads as it did. -/
def runsUptoRow : OpenClaim := { program := "ytmolmbeeoecnfaa", sum := "6c5b216fecd0c7538e7bc0f6c2e39eaf1865547a401eff98bbc0f6af28dad2f4", func := "chart/chartlaw.Runs", spec := "runs", apart := false, narrowed := true }
def RunsUptoSaid : Prop := runsUptoRow.holds Try.pinned (OpenSpec.upto runsSpec)

/-- 'chartlaw.Steps', WHERE WHAT IT READS IS OF BULK AT MOST 1048576: true; the input reads as it did. -/
def stepsUptoRow : OpenClaim := { program := "ytmolmbeeoecnfaa", sum := "6c5b216fecd0c7538e7bc0f6c2e39eaf1865547a401eff98bbc0f6af28dad2f4", func := "chart/chartlaw.Steps", spec := "steps", apart := false, narrowed := true }
def StepsUptoSaid : Prop := stepsUptoRow.holds Try.pinned (OpenSpec.upto stepsSpec)

end Rows
end Go.Proofs.Ytmolmbeeoecnfaa
