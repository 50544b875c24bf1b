/- All that is wanted of the program for the statements but one. -/
import Derived.Test.YtpjmieiajhhbaaaDoorQFail
namespace Go.Proofs.YtpjmieiajhhbaaaDoor
open Go.RowKit
set_option linter.unusedVariables false
set_option linter.unusedSimpArgs false

theorem pj_of {w : World} (he : Env w) : Pj w where
  check j hj w' hb := checkE_job j hj w' (he.up hb)
  lease j hj wk tk un w' hb := leaseE_any j hj wk tk un w' (he.up hb)
  fail j hj b c n now w' hb := failE_any j hj b c n now w' (he.up hb)
  finish j hj now w' hb := finishE_any j hj now w' (he.up hb)
  bound b c n w' _ := checkE_any b c n w'
end Go.Proofs.YtpjmieiajhhbaaaDoor
