/- Where a name or a number stands; the file of a name. -/
import Derived.Test.YtoceddpjkodfkaaP2
namespace Go.Proofs.Ytoceddpjkodfkaa
open Go.RowKit
set_option linter.unusedVariables false

/-- Names that rise. -/
def RiseN (l : List (List Int × Int)) : Prop := ∀ a b, a < b → b < l.length → lessL (l.getD a ([], 0)).1 (l.getD b ([], 0)).1 = true
/-- Numbers that rise. -/
def RiseF (l : List (Int × List Int × Int)) : Prop := ∀ a b, a < b → b < l.length → (l.getD a (0, [], 0)).1 < (l.getD b (0, [], 0)).1

theorem RiseN.mono {l : List (List Int × Int)} (h : RiseN l) (t : List Int) : ∀ a b, a ≤ b → b < l.length → lessL (l.getD b ([], 0)).1 t = true → lessL (l.getD a ([], 0)).1 t = true := by
  intro a b hab hb hl
  rcases Nat.lt_or_ge a b with c | c
  · exact lessL_trans _ _ _ (h a b c hb) hl
  · obtain rfl : a = b := by omega
    exact hl
theorem RiseF.mono {l : List (Int × List Int × Int)} (h : RiseF l) (t : Int) : ∀ a b, a ≤ b → b < l.length → (l.getD b (0, [], 0)).1 < t → (l.getD a (0, [], 0)).1 < t := by
  intro a b hab hb hl
  rcases Nat.lt_or_ge a b with c | c
  · have := h a b c hb
    omega
  · obtain rfl : a = b := by omega
    exact hl

theorem place_any (l : List (List Int × Int)) (t : List Int) (ht : OctL t) (v : Value) (w : World) (hv : NamesW w v l) (hln : l.length ≤ 70368744177664) (hr : RiseN l) :
    Calls Try.prog 67 #[v, .string (strOfNums t)] w fun e w' => e = .returned (.tuple #[.int .i64 (rankN l t), .bool (thereN l t)]) ∧ Below w.heap.size w w' := by
  have h := searchN_any l t ht v w hv hln (hr.mono t)
  go_enter Try.func67, Try.ntmps67
  go_wp2_with fail
  refine h.mono ?_
  rintro e w1 ⟨rfl, hb1⟩
  have up1 : Hid (Below w.heap.size w w1) := hb1
  clear hb1 h
  go_wp2
  go_ret2
  exact ⟨rfl, up1.out⟩

theorem numbered_any (l : List (Int × List Int × Int)) (t : Int) (v : Value) (w : World) (hv : FilesW w v l) (hln : l.length ≤ 70368744177664) (hr : RiseF l) :
    Calls Try.prog 68 #[v, .int .i64 t] w fun e w' => e = .returned (.tuple #[.int .i64 (rankF l t), .bool (thereF l t)]) ∧ Below w.heap.size w w' := by
  have h := searchF_any l t v w hv hln (hr.mono t)
  go_enter Try.func68, Try.ntmps68
  go_wp2_with fail
  refine h.mono ?_
  rintro e w1 ⟨rfl, hb1⟩
  have up1 : Hid (Below w.heap.size w w1) := hb1
  clear hb1 h
  go_wp2
  go_ret2
  exact ⟨rfl, up1.out⟩

theorem lt_of_thereN {l : List (List Int × Int)} {t : List Int} (h : thereN l t = true) : rankN l t < l.length := by
  unfold thereN at h
  rw [Bool.and_eq_true, decide_eq_true_eq] at h
  exact h.1

set_option maxHeartbeats 1000000 in
theorem file_any (fs : List (Int × List Int × Int)) (l : List (List Int × Int)) (t : List Int) (ht : OctL t) (x0 vf vn vs x4 : Value) (w : World) (hf : FilesW w vf fs) (hv : NamesW w vn l)
    (hl1 : fs.length ≤ 70368744177664) (hl2 : l.length ≤ 70368744177664) (hrf : RiseF fs) (hrn : RiseN l) :
    Calls Try.prog 46 #[.agg #[x0, vf, vn, vs, x4], .string (strOfNums t)] w fun e w' => e = .returned (.tuple #[.int .i64 (if thereN l t then (rankF fs (l.getD (rankN l t) ([], 0)).2 : Int) else 0), .bool (thereN l t && thereF fs (l.getD (rankN l t) ([], 0)).2)]) ∧ Below w.heap.size w w' := by
  have HF : Hid (FilesW w vf fs) := hf
  have HV : Hid (NamesW w vn l) := hv
  have HP : Hid (RiseF fs ∧ RiseN l) := ⟨hrf, hrn⟩
  clear hf hv hrf hrn
  go_enter Try.func46, Try.ntmps46
  go_wp2_with fail
  refine (place_any l t ht vn _ (HV.out.up (up_al (Below.refl _ _) _)) hl2 HP.out.2).mono ?_
  rintro e w1 ⟨rfl, hb1⟩
  have up1 : Hid (Below w.heap.size w w1) := up_trans (up_al (Below.refl _ _) _) hb1
  have hbox : ∀ i x, (#[x0, vf, vn, vs, x4] : Array Value)[i]? = some x → w1.cell? ⟨w.heap.size, i, none⟩ = some x := by
    intro i x hi
    have e := World.cell?_alloc_new w #[x0, vf, vn, vs, x4] 33 i
    rw [hi] at e
    exact (hb1.cell (p := ⟨w.heap.size, i, none⟩) (by simp)).trans e
  have q1 := hbox 1 vf rfl
  have q2 := hbox 2 vn rfl
  clear hbox hb1
  cases hth : thereN l t with
  | false =>
    go_wp2
    all_goals
      go_ret2
      exact ⟨by simp, up1.out⟩
  | true =>
    have hlt := lt_of_thereN hth
    have hlt' : ((rankN l t : Nat) : Int) < (l.length : Int) := by omega
    obtain ⟨b, off, cap', e, _, _, c0, c1, ho, _, hi'⟩ := (HV.out.up up1.out).at (rankN l t) hlt
    subst e
    have HI : Hid (∃ r id, r = rankN l t ∧ id = (l.getD (rankN l t) ([], 0)).2) := ⟨_, _, rfl, rfl⟩
    obtain ⟨r, id, hr, hid⟩ := HI.out
    rw [← hr] at hlt' c1
    rw [← hr] at hid
    rw [← hid] at c1
    have HID : Hid (id = (l.getD (rankN l t) ([], 0)).2) := by unfold Hid; rw [← hr]; exact hid
    clear c0 ho hi' hlt hid HI
    have HR : Hid (r = rankN l t) := hr
    rw [← hr]
    clear hr
    have p1 := cell_up q1
    have p2 := cell_up q2
    have p3 := cell_up c1
    have HF1 : Hid (FilesW w1 vf fs) := HF.out.up up1.out
    go_wp2_with fail
    refine wp_region_up (by kernel_rfl) (by kernel_rfl) ?_
    repeat (quiet_step ((go_at_call 68; refine calls_up (numbered_any fs id vf _ (HF1.out.up (UpW.up _)) hl1 HP.out.1))))
    refine wpQuiet_nil ?_
    intro _ hw'
    obtain ⟨p, hw''⟩ := hw'
    subst hw''
    go_wp2
    go_ret2
    exact ⟨by simp [← HR.out, HID.out], up_trans up1.out p.up⟩
end Go.Proofs.Ytoceddpjkodfkaa
