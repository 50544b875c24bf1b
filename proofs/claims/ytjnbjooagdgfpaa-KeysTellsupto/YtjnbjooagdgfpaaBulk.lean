/- What the bound on the arguments' bulk says of texts and of slices of parts. -/
import Derived.Test.YtjnbjooagdgfpaaRows
import Derived.Test.YtjnbjooagdgfpaaArg
namespace Go.Proofs.Ytjnbjooagdgfpaa
open Go.RowKit Go.ChangeShapes Go.WideShapes
set_option linter.unusedVariables false

theorem bulk_pos {H : Type} (d : DataW H) : 1 ≤ Rows.uptoBulk d := by
  cases d with
  | lit l => cases l <;> simp [Rows.uptoBulk]
  | _ => simp [Rows.uptoBulk]

theorem bulk_mem {H : Type} : ∀ (l : List (DataW H)) (d : DataW H), d ∈ l → Rows.uptoBulk d ≤ Rows.uptoBulkAll l
  | [], d, h => by cases h
  | x :: r, d, h => by
    simp only [Rows.uptoBulkAll]
    rcases List.mem_cons.1 h with h | h
    · subst h; omega
    · have := bulk_mem r d h
      omega

theorem bulk_len {H : Type} : ∀ (l : List (DataW H)), l.length ≤ Rows.uptoBulkAll l
  | [] => by simp [Rows.uptoBulkAll]
  | d :: r => by
    have h1 := bulk_pos d
    have h2 := bulk_len r
    simp only [Rows.uptoBulkAll, List.length_cons]
    omega

theorem bulk_small {H : Type} {ds : List (DataW H)} (hk : Rows.uptoSmall H ds = true) (d : DataW H) (h : d ∈ ds) : Rows.uptoBulk d ≤ 1048576 := by
  have h1 : Rows.uptoBulkAll ds ≤ 1048576 := of_decide_eq_true hk
  have := bulk_mem ds d h
  omega

theorem bulk_str {H : Type} {s : ByteArray} (h : Rows.uptoBulk (H := H) (.lit (.string s.data.toList)) ≤ 1048576) : (nums s).length ≤ 1048576 := by
  simp only [Rows.uptoBulk] at h
  simp only [nums, List.length_map]
  omega

theorem bulk_parts {H : Type} {d : DataW H} {l : List (Bool × Int × List Int)} (hd : (d = .nil ∧ l = []) ∨ ∃ sp, d = .slice (l.map pdat) sp) (h : Rows.uptoBulk d ≤ 1048576) : l.length ≤ 1048576 ∧ ∀ p ∈ l, p.2.2.length ≤ 1048576 := by
  rcases hd with ⟨_, rfl⟩ | ⟨sp, rfl⟩
  · exact ⟨by simp, fun p hp => by cases hp⟩
  · simp only [Rows.uptoBulk] at h
    have h1 := bulk_len (l.map (pdat (H := H)))
    rw [List.length_map] at h1
    refine ⟨by omega, fun p hp => ?_⟩
    have h2 := bulk_mem (l.map (pdat (H := H))) (pdat p) (List.mem_map.2 ⟨p, hp, rfl⟩)
    have h3 : p.2.2.length + 1 ≤ Rows.uptoBulk (pdat (H := H) p) := by
      simp only [pdat, Rows.uptoBulk, Rows.uptoBulkAll, strOfNums_data, List.length_map]
      omega
    omega
end Go.Proofs.Ytjnbjooagdgfpaa
