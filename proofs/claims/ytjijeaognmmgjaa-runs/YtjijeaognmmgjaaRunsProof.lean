/- Own work: the statement on Runs, proved. -/
import Derived.Test.YtjijeaognmmgjaaRunsLaw
namespace Go.Proofs.Ytjijeaognmmgjaa

theorem runs_holds : Rows.RunsSaid := runs_over
#print axioms runs_holds
end Go.Proofs.Ytjijeaognmmgjaa
