/- Own work: the statement on Idle, proved. -/
import Derived.Test.YtmolmbeeoecnfaaIdleLaw
namespace Go.Proofs.Ytmolmbeeoecnfaa

theorem idle_holds : Rows.IdleSaid := idle_over
#print axioms idle_holds
end Go.Proofs.Ytmolmbeeoecnfaa
