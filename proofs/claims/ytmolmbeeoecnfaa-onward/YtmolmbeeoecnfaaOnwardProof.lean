/- Own work: the statement on Onward, proved. -/
import Derived.Test.YtmolmbeeoecnfaaOnwardLaw
namespace Go.Proofs.Ytmolmbeeoecnfaa

theorem onward_holds : Rows.OnwardSaid := onward_over
#print axioms onward_holds
end Go.Proofs.Ytmolmbeeoecnfaa
