/- A slice of octets and a uint32 that were handed in; how much an input holds. -/
import Derived.Test.YtlomjgejdeghhaaRows
import Derived.Test.YtlomjgejdeghhaaBareAny
import Derived.ProofKit
import Derived.OpenShut
import Derived.SizedLaws
namespace Go.Proofs.Ytlomjgejdeghhaa
open Go.RowKit SumPlain
set_option linter.unusedVariables false

theorem Try.bytes5 : Try.prog.bytesOf 5 = 1 := by kernel_rfl

theorem arg_octs {W : World} {x : Addr} {len cap : Nat} {zs : List Int} (hl : len ≤ cap) (hm : cap ≤ maxLen) (hz : zs.length = cap)
    (hcell : ∀ i, i < zs.length → W.cell? (x.add i) = some (.int .u8 (zs.getD i 0))) (hwz : ∀ n ∈ zs, (Lit.int .u8 n).wf = true) : Octs W (.slice (some x) len cap) (zs.take len) := by
  have hlen : (zs.take len).length = len := by rw [List.length_take]; omega
  refine ⟨fun y hy => bounds_u8 (hwz y (List.mem_of_mem_take hy)), ?_⟩
  by_cases h0 : len = 0
  · subst h0
    exact .inl ⟨by simp, _, _, rfl, fun h => by cases h⟩
  · obtain ⟨b, off, spot⟩ := x
    have hc := hcell 0 (by omega)
    have hspot : spot = none := by simpa [Addr.add] using World.cell?_spot hc
    subst hspot
    refine .inr ⟨?_, b, off, cap, by rw [hlen], by omega, hm, fun j y hj => ?_⟩
    · intro e
      rw [e] at hlen
      simp at hlen
      omega
    · rw [List.getElem?_take] at hj
      split at hj
      · have hjl : j < zs.length := by omega
        have h := hcell j hjl
        rw [Addr.add_lit] at h
        rw [h]
        simp [List.getD, hj]
      · cases hj

theorem nil_octs (W : World) : Octs W (.slice none 0 0) [] := ⟨(fun x hx => by cases hx), .inl ⟨rfl, _, _, rfl, fun _ => rfl⟩⟩

theorem arg_u32 {a : Int} (h : (Lit.int .u32 a).wf = true) : ∃ c : BitVec 32, a = (c.toNat : Int) := by
  obtain ⟨h0, h1⟩ := bounds_u32 h
  refine ⟨BitVec.ofNat 32 a.toNat, ?_⟩
  rw [BitVec.toNat_ofNat]
  omega

theorem bulk_pos {H : Type} (d : DataW H) : 1 ≤ Rows.uptoBulk d := by
  cases d with
  | lit l => cases l <;> simp [Rows.uptoBulk]
  | _ => simp [Rows.uptoBulk]

theorem bulk_len {H : Type} : ∀ (l : List (DataW H)), l.length ≤ Rows.uptoBulkAll l
  | [] => by simp [Rows.uptoBulkAll]
  | d :: r => by
    have h1 := bulk_pos d
    have h2 := bulk_len r
    simp only [Rows.uptoBulkAll, List.length_cons]
    omega

theorem bulk_slice {H : Type} {es sp : List (DataW H)} (h : Rows.uptoBulk (.slice es sp) ≤ 1048576) : es.length ≤ 1048576 := by
  have := bulk_len es
  simp only [Rows.uptoBulk] at h
  omega

theorem bulk_mem {H : Type} : ∀ (l : List (DataW H)) (d : DataW H), d ∈ l → Rows.uptoBulk d ≤ Rows.uptoBulkAll l
  | [], _, h => by cases h
  | x :: r, d, h => by
    simp only [Rows.uptoBulkAll]
    rcases List.mem_cons.1 h with rfl | h
    · omega
    · have := bulk_mem r d h
      omega

theorem bulk_each {H : Type} {l : List (DataW H)} (hk : Rows.uptoSmall H l = true) (d : DataW H) (hd : d ∈ l) : Rows.uptoBulk d ≤ 1048576 := by
  have h : Rows.uptoBulkAll l ≤ 1048576 := of_decide_eq_true hk
  have := bulk_mem l d hd
  omega
end Go.Proofs.Ytlomjgejdeghhaa
