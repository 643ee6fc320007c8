/- Own work: the statement on Loads, proved. -/
import Derived.Test.YtjijeaognmmgjaaLoadsLaw
namespace Go.Proofs.Ytjijeaognmmgjaa

theorem loads_holds : Rows.LoadsSaid := loads_over
#print axioms loads_holds
end Go.Proofs.Ytjijeaognmmgjaa
