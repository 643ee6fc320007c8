/- Own work: the statement on Legal, proved. -/
import Derived.Test.YtmolmbeeoecnfaaLegalLaw
namespace Go.Proofs.Ytmolmbeeoecnfaa

theorem legal_holds : Rows.LegalSaid := legal_over
#print axioms legal_holds
end Go.Proofs.Ytmolmbeeoecnfaa
