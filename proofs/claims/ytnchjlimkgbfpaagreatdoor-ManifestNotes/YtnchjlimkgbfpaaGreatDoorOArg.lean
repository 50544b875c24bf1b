
import Derived.Test.YtnchjlimkgbfpaaGreatDoorJ40
import Derived.WideShapes
namespace Go.Proofs.YtnchjlimkgbfpaaGreatDoor
open Go.RowKit Go.WideShapes
set_option maxRecDepth 100000 in
theorem arg_numsX {H : Type} {enc : TypeId × Value → H} {W : World} {base : Nat} {v : Value} {d : DataW H} {p : List MemPlace} (hv : Value.okWide Tryz.prog W .any base 29 v) (h : DataW.Trod enc Tryz.prog W 0 (fun _ => true) true 29 v d p) :
    ∃ (a : Option Addr) (n c : Nat) (l : List Int), v = .slice a n c ∧ IntsW W (.slice a n c) l := by
  obtain ⟨a, n, c, rfl⟩ := okWide_slice Tryz.underlying29 hv
  obtain ⟨l, hl⟩ := arg_ints h
  exact ⟨a, n, c, l, rfl, hl⟩
end Go.Proofs.YtnchjlimkgbfpaaGreatDoor
