/- Own work: the statement on Checks, proved. -/
import Derived.Test.YthfjonfpfibelaaChecksLaw
import Derived.Test.YthfjonfpfibelaaEqC
namespace Go.Proofs.Ythfjonfpfibelaa

theorem checks_holds : Rows.ChecksSaid := checks_over fun s => check_eq s
#print axioms checks_holds
end Go.Proofs.Ythfjonfpfibelaa
