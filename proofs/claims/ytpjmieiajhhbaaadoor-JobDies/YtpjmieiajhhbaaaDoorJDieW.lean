/- The statement on a job that dies. -/
import Derived.Test.YtpjmieiajhhbaaaDoorJDieA
import Derived.Test.YtpjmieiajhhbaaaDoorJDieB
namespace Go.Proofs.YtpjmieiajhhbaaaDoor
open Go.RowKit

theorem dies_walk (b c n now : Int) (p : List Int) (hl : TxtOk p) (w : World) (hp : Pj w) : Calls Tryd.prog 7 #[limV b c n, .int .i64 now, .string (strOfNums p)] w fun e w' => e = .returned (.bool true) ∧ Below w.heap.size w w' := by
  by_cases big : 200 < p.length
  · exact dies_big p hl big b c n now w hp
  · exact dies_small p hl big b c n now w hp
end Go.Proofs.YtpjmieiajhhbaaaDoor
