/- Own work: the statement on Checks, proved. -/
import Derived.Test.YtmolmbeeoecnfaaChecksLaw
import Derived.Test.YtmolmbeeoecnfaaEqC
namespace Go.Proofs.Ytmolmbeeoecnfaa

theorem checks_holds : Rows.ChecksSaid := checks_over fun s => check_eq s
#print axioms checks_holds
end Go.Proofs.Ytmolmbeeoecnfaa
