/- Own work: the statement on Onward, proved. -/
import Derived.Test.YtjijeaognmmgjaaOnwardLaw
namespace Go.Proofs.Ytjijeaognmmgjaa

theorem onward_holds : Rows.OnwardSaid := onward_over
#print axioms onward_holds
end Go.Proofs.Ytjijeaognmmgjaa
