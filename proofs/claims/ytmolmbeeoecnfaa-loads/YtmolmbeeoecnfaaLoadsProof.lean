/- Own work: the statement on Loads, proved. -/
import Derived.Test.YtmolmbeeoecnfaaLoadsLaw
namespace Go.Proofs.Ytmolmbeeoecnfaa

theorem loads_holds : Rows.LoadsSaid := loads_over
#print axioms loads_holds
end Go.Proofs.Ytmolmbeeoecnfaa
