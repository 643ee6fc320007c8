/- Own work: the statement on Plays, proved. -/
import Derived.Test.YtmolmbeeoecnfaaPlaysLaw
namespace Go.Proofs.Ytmolmbeeoecnfaa

theorem plays_holds : Rows.PlaysSaid := plays_over
#print axioms plays_holds
end Go.Proofs.Ytmolmbeeoecnfaa
