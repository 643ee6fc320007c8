/- Own work: the statement on Checks, proved. -/
import Derived.Test.YtjijeaognmmgjaaChecksLaw
import Derived.Test.YtjijeaognmmgjaaEqC
namespace Go.Proofs.Ytjijeaognmmgjaa

theorem checks_holds : Rows.ChecksSaid := checks_over fun s => check_eq s
#print axioms checks_holds
end Go.Proofs.Ytjijeaognmmgjaa
