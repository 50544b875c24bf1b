/- The hash of a key: the program's and the document's. -/
import Derived.Test.YtbhlphhgibikeaaBLeaf
namespace Go.Proofs.Ytbhlphhgibikeaa
open Go.RowKit
set_option linter.unusedVariables false

/-- One octet more. -/
def hashS (h x : Int) : Int := bits .xor .u64 h x * 1099511628211 % 18446744073709551616
def hashL (l : List Int) : Int := l.foldl hashS 14695981039346656037

theorem hash_nil : hashL [] = 14695981039346656037 := rfl
theorem hash_a : hashL [97] = 12638187200555641996 := by decide +kernel
theorem hash_snoc (l : List Int) (x : Int) : hashL (l ++ [x]) = hashS (hashL l) x := by unfold hashL; rw [List.foldl_append]; rfl
theorem hash_u64 (l : List Int) : 0 ≤ hashL l ∧ hashL l ≤ 18446744073709551615 := by
  rcases List.eq_nil_or_concat l with rfl | ⟨r, x, rfl⟩
  · rw [hash_nil]; omega
  · rw [List.concat_eq_append, hash_snoc]; unfold hashS; omega

theorem str_size (l : List Int) : (strOfNums l).size = l.length := by simp [strOfNums, ByteArray.size]
theorem str_at (l : List Int) (hl : ∀ x ∈ l, 0 ≤ x ∧ x ≤ 255) (k : Nat) (h : k < (strOfNums l).size) : (((strOfNums l)[k]'h).toNat : Int) = l.getD k 0 := by
  have hk : k < l.length := by rw [str_size] at h; exact h
  have e : (strOfNums l)[k]'h = UInt8.ofNat (l[k]).toNat := by
    show (strOfNums l).data[k]'_ = _
    simp [strOfNums]
  have hb := hl l[k] (List.getElem_mem hk)
  rw [e]
  simp [List.getD, hk]
  omega

theorem wrap64 (n : Int) : IntKind.u64.wrap n = n % 18446744073709551616 := by simp [IntKind.wrap, IntKind.bits, IntKind.signed]
theorem val_u64 {a b : Int} (h : a = b) : Value.int .u64 a = .int .u64 b := by rw [h]

def OctL (l : List Int) : Prop := ∀ x ∈ l, 0 ≤ x ∧ x ≤ 255

set_option maxHeartbeats 400000 in
theorem hash_any (l : List Int) (hx : OctL l) (hm : l.length ≤ 140737488355328) (w : World) :
    Calls Try.prog 15 #[.string (strOfNums l)] w fun e w' => e = .returned (.int .u64 (hashL l)) ∧ w' = w := by
  have hsz := str_size l
  go_enter Try.func15, Try.ntmps15
  go_wp2
  go_loopw [3, 7] (fun h i wr => ∃ k : Nat, k ≤ l.length ∧ i = .int .i64 k ∧ h = .int .u64 (hashL (l.take k)) ∧ wr = w) (fun _ i _ => l.length - (intOf i).toNat)
  case atStart => exact ⟨0, Nat.zero_le _, rfl, rfl, rfl⟩
  case round =>
    obtain ⟨k, hk, rfl, rfl, rfl⟩ := hrel
    by_cases hlt : k < l.length
    · have hlt' : (k : Int) < (l.length : Int) := by omega
      have hj : k < (strOfNums l).size := by omega
      have hy := str_at l hx k hj
      obtain ⟨y0, y1⟩ : 0 ≤ l.getD k 0 ∧ l.getD k 0 ≤ 255 := hx _ (by simp [List.getD, hlt])
      have HS : Hid (hashL (l.take (k + 1)) = hashS (hashL (l.take k)) (l.getD k 0)) := by unfold Hid; rw [take_snoc l k 0 hlt, hash_snoc]
      obtain ⟨z0, z1⟩ := hash_u64 (l.take k)
      generalize hashL (l.take k) = h at *
      generalize l.getD k 0 = x at *
      go_wp2
      exact ⟨⟨k + 1, by omega, by go_num, val_u64 (by rw [HS.out, hashS, wrap64]), trivial⟩, by simp [intOf]; omega⟩
    · have hlt' : ¬ (k : Int) < (l.length : Int) := by omega
      obtain rfl : k = l.length := by omega
      rw [List.take_length]
      go_wp2
      go_ret
      exact ⟨rfl, rfl⟩

set_option maxHeartbeats 400000 in
theorem refHash_any (l : List Int) (hx : OctL l) (hm : l.length ≤ 140737488355328) (w : World) :
    Calls Try.prog 16 #[.string (strOfNums l)] w fun e w' => e = .returned (.int .u64 (hashL l)) ∧ w' = w := by
  have hsz := str_size l
  go_enter Try.func16, Try.ntmps16
  go_wp2
  go_loopw [3, 4] (fun h i wr => ∃ k : Nat, k ≤ l.length ∧ i = .int .i64 k ∧ h = .int .u64 (hashL (l.take k)) ∧ wr = w) (fun _ i _ => l.length - (intOf i).toNat)
  case atStart => exact ⟨0, Nat.zero_le _, rfl, rfl, rfl⟩
  case round =>
    obtain ⟨k, hk, rfl, rfl, rfl⟩ := hrel
    by_cases hlt : k < l.length
    · have hlt' : (k : Int) < (l.length : Int) := by omega
      have hj : k < (strOfNums l).size := by omega
      have hy := str_at l hx k hj
      obtain ⟨y0, y1⟩ : 0 ≤ l.getD k 0 ∧ l.getD k 0 ≤ 255 := hx _ (by simp [List.getD, hlt])
      have HS : Hid (hashL (l.take (k + 1)) = hashS (hashL (l.take k)) (l.getD k 0)) := by unfold Hid; rw [take_snoc l k 0 hlt, hash_snoc]
      obtain ⟨z0, z1⟩ := hash_u64 (l.take k)
      generalize hashL (l.take k) = h at *
      generalize l.getD k 0 = x at *
      go_wp2
      exact ⟨⟨k + 1, by omega, by go_num, val_u64 (by rw [HS.out, hashS, wrap64]), trivial⟩, by simp [intOf]; omega⟩
    · have hlt' : ¬ (k : Int) < (l.length : Int) := by omega
      obtain rfl : k = l.length := by omega
      rw [List.take_length]
      go_wp2
      go_ret
      exact ⟨rfl, rfl⟩
end Go.Proofs.Ytbhlphhgibikeaa
