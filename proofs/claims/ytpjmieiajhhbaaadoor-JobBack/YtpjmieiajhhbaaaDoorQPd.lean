/- What is wanted of the program's Encode and Decode. -/
import Derived.Test.YtpjmieiajhhbaaaDoorJBackW
import Derived.Test.YtpjmieiajhhbaaaDoorQPj
namespace Go.Proofs.YtpjmieiajhhbaaaDoor
open Go.RowKit
set_option linter.unusedVariables false
set_option linter.unusedSimpArgs false

theorem pd_of {w : World} (he : Env w) : Pd w where
  encode j hj w' hb := encodeE_any j hj w' (he.up hb)
  decode X hX w' hb := decodeE_any X hX w' (he.up hb)
end Go.Proofs.YtpjmieiajhhbaaaDoor
