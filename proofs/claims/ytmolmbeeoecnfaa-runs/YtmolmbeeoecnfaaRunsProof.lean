/- Own work: the statement on Runs, proved. -/
import Derived.Test.YtmolmbeeoecnfaaRunsLaw
namespace Go.Proofs.Ytmolmbeeoecnfaa

theorem runs_holds : Rows.RunsSaid := runs_over
#print axioms runs_holds
end Go.Proofs.Ytmolmbeeoecnfaa
