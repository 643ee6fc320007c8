/- Own work: the statement on Steps, proved. -/
import Derived.Test.YtjijeaognmmgjaaStepsRow
namespace Go.Proofs.Ytjijeaognmmgjaa

theorem steps_holds : Rows.StepsSaid := steps_over
#print axioms steps_holds
end Go.Proofs.Ytjijeaognmmgjaa
