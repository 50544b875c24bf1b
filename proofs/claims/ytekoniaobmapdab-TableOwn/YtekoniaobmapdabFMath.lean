/- A record comes back from its octets, whatever stands behind (plain lists). -/
import Derived.Test.YtekoniaobmapdabG14
namespace Go.Proofs.Ytekoniaobmapdab
open Go.RowKit SumPlain
set_option linter.unusedVariables false
set_option maxRecDepth 20000

theorem frame_len (k : Int) (l : List Int) : (frameOf k l).length = (octets (l.length : Int)).length + 1 + l.length + 4 := by
  unfold frameOf
  rw [guard_len]
  simp
  omega

theorem getOf_frame (k : Int) (l more : List Int) (hl : l.length ≤ 65536) : getOf (frameOf k l ++ more) = ((l.length : Int), (((octets (l.length : Int)).length : Nat) : Int), 0) := by
  have h := getOf_back (l.length : Int) (by omega) (by omega) (k :: l ++ lastL (ext ones (octets (l.length : Int) ++ k :: l)) ++ more)
  have e : octets (l.length : Int) ++ (k :: l ++ lastL (ext ones (octets (l.length : Int) ++ k :: l)) ++ more) = frameOf k l ++ more := by
    unfold frameOf guardOf
    simp
  rw [e] at h
  rw [getRet_injF h, ← (octets_form (l.length : Int) (by omega) (by omega)).size]

theorem fget_back (k : Int) (l more : List Int) (hl : l.length ≤ 65536) : fget (frameOf k l ++ more) = (k, l, ((frameOf k l).length : Int), 0) := by
  have hF := frame_len k l
  have hm : ((((octets (l.length : Int)).length : Nat) : Int) + 1 + (l.length : Int) + 4).toNat = (frameOf k l).length := by omega
  have hb : bareOf ((frameOf k l ++ more).take (frameOf k l).length) = (octets (l.length : Int) ++ k :: l, 0) := by
    rw [List.take_left]
    exact bare_guard _
  rw [fget_good (getOf_frame k l more hl) (by omega) (by rw [List.length_append]; omega) hm hb]
  have e1 : (octets (l.length : Int) ++ k :: l).getD (octets (l.length : Int)).length 0 = k := by simp
  have e2 : (octets (l.length : Int) ++ k :: l).drop ((octets (l.length : Int)).length + 1) = l := by
    rw [← List.drop_drop, List.drop_left]
    rfl
  rw [e1, e2, hF]
  simp

end Go.Proofs.Ytekoniaobmapdab
