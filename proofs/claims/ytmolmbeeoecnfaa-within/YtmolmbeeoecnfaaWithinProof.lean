/- Own work: the statement on Within, proved. -/
import Derived.Test.YtmolmbeeoecnfaaWithinLaw
namespace Go.Proofs.Ytmolmbeeoecnfaa

theorem within_holds : Rows.WithinSaid := within_over
#print axioms within_holds
end Go.Proofs.Ytmolmbeeoecnfaa
