/- The program's test of a state: its bounds, its files, its names. -/
import Derived.Test.YtoceddpjkodfkaaP4
namespace Go.Proofs.Ytoceddpjkodfkaa
open Go.RowKit
set_option linter.unusedVariables false

/-- w' is w with the box o at its end, but for draws and later blocks. -/
def BoxW (w : World) (o : Obj) (w' : World) : Prop := Below (w.heap.size + 1) (w.alloc o) w'

theorem BoxW.start (w : World) (o : Obj) : BoxW w o (w.alloc o) := Below.refl _ _
theorem BoxW.size {w w' : World} {o : Obj} (h : BoxW w o w') : w.heap.size + 1 ≤ w'.heap.size := by
  have := Below.size h
  simpa using this
theorem BoxW.up {w w' : World} {o : Obj} (h : BoxW w o w') : Below w.heap.size w w' := (up_al (Below.refl _ _) o).trans (Below.mono h (by omega))
theorem BoxW.step {w w' w'' : World} {o : Obj} (h : BoxW w o w') (k : Below w'.heap.size w' w'') : BoxW w o w'' := Below.trans h (k.mono h.size)
theorem BoxW.cell {w w' : World} {cs : Array Value} {t : TypeId} (h : BoxW w (.cells cs t) w') (i : Nat) (x : Value) (hi : cs[i]? = some x) : w'.cell? ⟨w.heap.size, i, none⟩ = some x := by
  have e := World.cell?_alloc_new w cs t i
  rw [hi] at e
  exact (Below.cell h (p := ⟨w.heap.size, i, none⟩) (by simp)).trans e

def boundsOf (s : St) : Bool := decide (0 ≤ s.cap) && decide (s.cap ≤ 16777216) && decide (1 ≤ s.next) && decide (s.next ≤ 2147483647) && decide (s.files.length ≤ 256)

def prevId (l : List (Int × List Int × Int)) (k : Nat) : Int := if k = 0 then 0 else (l.getD (k - 1) (0, [], 0)).1
def okFile (l : List (Int × List Int × Int)) (next : Int) (k : Nat) : Bool :=
  decide (prevId l k < (l.getD k (0, [], 0)).1) && decide ((l.getD k (0, [], 0)).1 < next) && decide (0 ≤ (l.getD k (0, [], 0)).2.2) && decide ((l.getD k (0, [], 0)).2.2 ≤ (l.getD k (0, [], 0)).2.1.length)
def filesMayOf (s : St) : Bool := (List.range s.files.length).all (okFile s.files s.next) && decide (usedOf s.files ≤ s.cap)

theorem all_range_no {n : Nat} {p : Nat → Bool} (k : Nat) (h : k < n) (hn : p k = false) : (List.range n).all p = false := by
  rw [List.all_eq_false]
  exact ⟨k, List.mem_range.2 h, by rw [hn]; decide⟩
theorem all_range_yes {n : Nat} {p : Nat → Bool} (h : ∀ i, i < n → p i = true) : (List.range n).all p = true := by
  rw [List.all_eq_true]
  intro i hi
  exact h i (List.mem_range.1 hi)
theorem all_range_get {n : Nat} {p : Nat → Bool} (h : (List.range n).all p = true) (i : Nat) (hi : i < n) : p i = true := List.all_eq_true.1 h i (List.mem_range.2 hi)

set_option maxHeartbeats 1000000 in
theorem boundsMay_any (s : St) (v : Value) (w : World) (hv : StW w v s) :
    Calls Try.prog 50 #[v] w fun e w' => e = .returned (.bool (boundsOf s)) ∧ Below w.heap.size w w' := by
  obtain ⟨vf, vn, vs, rfl, hf, hn, hs, h1, h2⟩ := hv
  obtain ⟨a, cap, rfl, hcap, hmax⟩ := hf.len
  clear hf hn hs
  go_enter Try.func50, Try.ntmps50
  unfold boundsOf
  by_cases c1 : 0 ≤ s.cap
  · by_cases c2 : s.cap ≤ 16777216
    · by_cases c3 : 1 ≤ s.next
      · by_cases c4 : s.next ≤ 2147483647
        · by_cases c5 : s.files.length ≤ 256
          · have c5' : (s.files.length : Int) ≤ 256 := by omega
            go_wp2
            go_ret
            exact ⟨by simp [*] <;> omega, up_al (Below.refl _ _) _⟩
          · have c5' : ¬ (s.files.length : Int) ≤ 256 := by omega
            go_wp2
            go_ret
            exact ⟨by simp [*] <;> omega, up_al (Below.refl _ _) _⟩
        · go_wp2
          go_ret
          exact ⟨by simp [*] <;> omega, up_al (Below.refl _ _) _⟩
      · go_wp2
        go_ret
        exact ⟨by simp [*] <;> omega, up_al (Below.refl _ _) _⟩
    · go_wp2
      go_ret
      exact ⟨by simp [*] <;> omega, up_al (Below.refl _ _) _⟩
  · go_wp2
    go_ret
    exact ⟨by simp [*] <;> omega, up_al (Below.refl _ _) _⟩

set_option maxHeartbeats 1000000 in
theorem filesMay_any (s : St) (v : Value) (w : World) (hv : StW w v s) (hle : s.files.length ≤ 256) :
    Calls Try.prog 51 #[v] w fun e w' => e = .returned (.bool (filesMayOf s)) ∧ Below w.heap.size w w' := by
  obtain ⟨vf, vn, vs, rfl, hf, hn, hs, hic, hin⟩ := hv
  have HV : Hid (FilesW w vf s.files) := hf
  obtain ⟨a, cap, rfl, hcap, hmax⟩ := hf.len
  unfold maxLen at hmax
  clear hf hn hs
  have HNo : Hid (∀ k, k < s.files.length → okFile s.files s.next k = false → filesMayOf s = false) := by
    intro k hk h
    unfold filesMayOf
    rw [all_range_no k hk h]
    rfl
  have HYes : Hid ((∀ k, k < s.files.length → okFile s.files s.next k = true) → filesMayOf s = decide (usedOf s.files ≤ s.cap)) := by
    intro h
    unfold filesMayOf
    rw [all_range_yes h]
    rfl
  go_enter Try.func51, Try.ntmps51
  go_wp2
  go_loopw [3, 9] (fun last i wr => ∃ k : Nat, k ≤ s.files.length ∧ i = .int .i64 k ∧ last = .int .i64 (prevId s.files k) ∧ Hid (∀ j, j < k → okFile s.files s.next j = true) ∧ Hid (BoxW w (.cells #[.int .i64 s.cap, .slice a s.files.length cap, vn, vs, .int .i64 s.next] 33) wr)) (fun _ i _ => s.files.length - (intOf i).toNat)
  case atStart => exact ⟨0, Nat.zero_le _, rfl, rfl, (fun j hj => by omega), BoxW.start _ _⟩
  case round =>
    obtain ⟨k, hk, rfl, rfl, HK, bx⟩ := hrel
    have q0 := bx.out.cell 0 _ rfl
    have q1 := bx.out.cell 1 _ rfl
    have q4 := bx.out.cell 4 _ rfl
    have HF2 : Hid (FilesW wr (.slice a s.files.length cap) s.files) := HV.out.up bx.out.up
    by_cases hlt : k < s.files.length
    · have hlt' : (k : Int) < (s.files.length : Int) := by omega
      obtain ⟨b, off, cap', u, e, _, _, c0, c1, c2, ho, hdl, hi0, hi2⟩ := HF2.out.at k hlt
      simp at e
      obtain ⟨rfl, rfl⟩ := e
      have q4a : ∀ o, (wr.alloc o).cell? ⟨w.heap.size, 4, none⟩ = some (.int .i64 s.next) := fun o => (bx.out.step (up_al (Below.refl _ _) o)).cell 4 _ rfl
      have HN2 : Hid (okFile s.files s.next k = false → filesMayOf s = false) := HNo.out k hlt
      have HOk : Hid (okFile s.files s.next k = (decide (prevId s.files k < (s.files.getD k (0, [], 0)).1) && decide ((s.files.getD k (0, [], 0)).1 < s.next) && decide (0 ≤ (s.files.getD k (0, [], 0)).2.2) && decide ((s.files.getD k (0, [], 0)).2.2 ≤ (s.files.getD k (0, [], 0)).2.1.length))) := rfl
      have HP : Hid (prevId s.files (k + 1) = (s.files.getD k (0, [], 0)).1) := by simp [Hid, prevId]
      generalize s.files.getD k (0, [], 0) = y at *
      obtain ⟨yi, yd, ys⟩ := y
      simp only at c0 c1 c2 ho hdl hi0 hi2 HOk HP
      obtain ⟨au, capu, rfl, _⟩ := ho.slice
      clear ho
      generalize prevId s.files k = pv at *
      by_cases d1 : yi ≤ pv
      · have HR : Hid (filesMayOf s = false) := HN2.out (by rw [HOk.out]; simp; omega)
        go_wp2
        go_ret
        rw [HR.out]
        exact ⟨rfl, up_al bx.out.up _⟩
      · by_cases d2 : s.next ≤ yi
        · have HR : Hid (filesMayOf s = false) := HN2.out (by rw [HOk.out]; simp; omega)
          go_wp2
          go_ret
          rw [HR.out]
          exact ⟨rfl, up_al bx.out.up _⟩
        · by_cases d3 : ys < 0
          · have HR : Hid (filesMayOf s = false) := HN2.out (by rw [HOk.out]; simp; omega)
            go_wp2
            go_ret
            rw [HR.out]
            exact ⟨rfl, up_al bx.out.up _⟩
          · by_cases d4 : (yd.length : Int) < ys
            · have HR : Hid (filesMayOf s = false) := HN2.out (by rw [HOk.out]; simp; omega)
              go_wp2
              go_ret
              rw [HR.out]
              exact ⟨rfl, up_al bx.out.up _⟩
            · have HK2 : Hid (∀ j, j < k + 1 → okFile s.files s.next j = true) := by
                intro j hj
                rcases Nat.lt_or_ge j k with c | c
                · exact HK.out j c
                · obtain rfl : j = k := by omega
                  rw [HOk.out]
                  simp
                  omega
              go_wp2
              exact ⟨⟨k + 1, by omega, by go_num, by rw [HP.out], HK2, bx.out.step (up_al (Below.refl _ _) _)⟩, by simp [intOf]; omega⟩
    · have hlt' : ¬ (k : Int) < (s.files.length : Int) := by omega
      obtain rfl : k = s.files.length := by omega
      have HR : Hid (filesMayOf s = decide (usedOf s.files ≤ s.cap)) := HYes.out HK.out
      have p0 := cell_up q0
      have p1 := cell_up q1
      go_wp2_with fail
      refine wp_region_up (by kernel_rfl) (by kernel_rfl) ?_
      repeat (quiet_step ((go_at_call 69; refine calls_up (used_any s.files _ _ (HF2.out.up (UpW.up _)) hle))))
      refine wpQuiet_nil ?_
      intro _ hw'
      obtain ⟨p, hw''⟩ := hw'
      subst hw''
      go_wp2
      go_ret
      rw [HR.out]
      exact ⟨rfl, up_trans bx.out.up p.up⟩
end Go.Proofs.Ytoceddpjkodfkaa
