/- The document's heights: how many ways each node has. -/
import Derived.Test.YtfnddbglopoghaaLOrd
import Derived.Test.YtfnddbglopoghaaLBlk
namespace Go.Proofs.Ytfnddbglopoghaa
open Go.RowKit
set_option linter.unusedVariables false

def lenV : Value → Int
  | .slice _ n _ => (n : Int)
  | _ => 0
def hrow (p : En × Value) : List Value := [.int .i64 (lenV p.2)]

end Go.Proofs.Ytfnddbglopoghaa
