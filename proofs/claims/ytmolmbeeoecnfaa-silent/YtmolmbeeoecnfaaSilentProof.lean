/- Own work: the statement on Silent, proved. -/
import Derived.Test.YtmolmbeeoecnfaaSilentLaw
namespace Go.Proofs.Ytmolmbeeoecnfaa

theorem silent_holds : Rows.SilentSaid := silent_over
#print axioms silent_holds
end Go.Proofs.Ytmolmbeeoecnfaa
