/- Own work: the statement on Steps, proved. -/
import Derived.Test.YtmolmbeeoecnfaaStepsRow
namespace Go.Proofs.Ytmolmbeeoecnfaa

theorem steps_holds : Rows.StepsSaid := steps_over
#print axioms steps_holds
end Go.Proofs.Ytmolmbeeoecnfaa
