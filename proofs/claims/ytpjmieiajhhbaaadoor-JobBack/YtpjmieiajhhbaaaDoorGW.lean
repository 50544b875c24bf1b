/- Numbers as octets, the page's. -/
import Derived.Test.YtpjmieiajhhbaaaDoorGV
import Derived.BigRegion

/- The document's answer for layer 1 (package ticklerref01): Zig, Zag, Size and ones return, for every number of their types, what the plain functions say. -/
namespace Go.Proofs.YtpjmieiajhhbaaaDoor
open Go.RowKit
set_option linter.unusedVariables false

end Go.Proofs.YtpjmieiajhhbaaaDoor

/- The document's Get (package ticklerref01) returns, for any octets in a slice, what the plain function 'getOf' says, and writes nothing. -/
namespace Go.Proofs.YtpjmieiajhhbaaaDoor
open Go.RowKit
set_option linter.unusedVariables false

end Go.Proofs.YtpjmieiajhhbaaaDoor

/- The document's Put (package ticklerref01) returns, for every number that fits uint64, a slice in new memory that holds the octets 'octets n', and changes nothing that was there. -/
namespace Go.Proofs.YtpjmieiajhhbaaaDoor
open Go.RowKit
set_option linter.unusedVariables false

end Go.Proofs.YtpjmieiajhhbaaaDoor
