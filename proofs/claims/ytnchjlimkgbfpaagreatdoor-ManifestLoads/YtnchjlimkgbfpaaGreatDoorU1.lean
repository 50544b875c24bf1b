
import Derived.Test.YtnchjlimkgbfpaaGreatDoorE20
import Derived.Test.YtnchjlimkgbfpaaGreatDoorFNames
namespace Go.Proofs.YtnchjlimkgbfpaaGreatDoor
open Go.RowKit
set_option linter.unusedVariables false
set_option maxRecDepth 20000
def headR (s : St) : Bool := decide (0 ≤ s.cap) && decide (s.cap ≤ 16777216) && decide (s.files.length ≤ 256) && decide (1 ≤ s.next) && decide (s.next ≤ 2147483647) && decide (usedOf s.files ≤ s.cap) && decide (s.names.length ≤ 256) && decide (s.safe.length ≤ 256)
def okR (s : St) (k : Nat) : Bool :=
  decide (1 ≤ (s.files.getD k (0, [], 0)).1) && decide ((s.files.getD k (0, [], 0)).1 < s.next) && (decide (k = 0) || decide ((s.files.getD (k - 1) (0, [], 0)).1 < (s.files.getD k (0, [], 0)).1)) &&
    decide (0 ≤ (s.files.getD k (0, [], 0)).2.2) && decide ((s.files.getD k (0, [], 0)).2.2 ≤ ((s.files.getD k (0, [], 0)).2.1.length : Int)) && (standsOf s.names (s.files.getD k (0, [], 0)).1 || standsOf s.safe (s.files.getD k (0, [], 0)).1)
def checkR (s : St) : Bool := headR s && (List.range s.files.length).all (okR s) && namesOf s.files s.names && namesOf s.files s.safe
set_option maxHeartbeats 4000000 in
set_option maxRecDepth 20000 in
theorem refCheck_head (s : St) (v : Value) (w : World) (hv : StW w v s) (hh : headR s = false) :
    Calls Tryz.prog 39 #[v] w fun e w' => e = .returned (.int .i64 9) ∧ Below w.heap.size w w' := by
  obtain ⟨vf, vn, vs, rfl, hf, hn, hs, hic, hin⟩ := hv
  obtain ⟨af, cf, rfl, hcf, hmf⟩ := hf.len
  obtain ⟨an, cn, rfl, hcn, hmn⟩ := hn.len
  obtain ⟨as', cs', rfl, hcs, hms⟩ := hs.len
  have HF : Hid (FilesW w (.slice af s.files.length cf) s.files) := hf
  have B0 : (w.alloc (.cells #[.int .i64 s.cap, .slice af s.files.length cf, .slice an s.names.length cn, .slice as' s.safe.length cs', .int .i64 s.next] 25)).heap[w.heap.size]? = some (.cells #[.int .i64 s.cap, .slice af s.files.length cf, .slice an s.names.length cn, .slice as' s.safe.length cs', .int .i64 s.next] 25) := blk_new _ _
  have U0 : Hid (Below w.heap.size w (w.alloc (.cells #[.int .i64 s.cap, .slice af s.files.length cf, .slice an s.names.length cn, .slice as' s.safe.length cs', .int .i64 s.next] 25))) := up_alloc _ _
  have HH : Hid (headR s = false) := hh
  clear hf hn hs hh
  go_enter Tryz.func39, Tryz.ntmps39
  go_wp2_with fail
  generalize w.alloc (.cells #[.int .i64 s.cap, .slice af s.files.length cf, .slice an s.names.length cn, .slice as' s.safe.length cs', .int .i64 s.next] 25) = w1 at *
  have y0 := blk_cell B0 0 _ rfl
  have y1 := blk_cell B0 1 _ rfl
  have y2 := blk_cell B0 2 _ rfl
  have y3 := blk_cell B0 3 _ rfl
  have y4 := blk_cell B0 4 _ rfl
  have x0 := cell_up y0
  have x1 := cell_up y1
  have x2 := cell_up y2
  have x3 := cell_up y3
  have x4 := cell_up y4
  have HU : Hid (s.files.length ≤ 256 → ∀ p : UpW w1, Calls Tryz.prog 78 #[.agg #[.int .i64 s.cap, .slice af s.files.length cf, .slice an s.names.length cn, .slice as' s.safe.length cs', .int .i64 s.next]] p.val fun e w' => e = .returned (.int .i64 (usedOf s.files)) ∧ Below p.val.heap.size p.val w') := by
    intro hle p
    refine (refUsed_any s.files _ _ _ _ _ p.val (HF.out.up (up_trans U0.out p.up)) hle).mono ?_
    rintro e w' ⟨rfl, rfl⟩
    exact ⟨rfl, up_alloc _ _⟩
  clear B0 y0 y1 y2 y3 y4
  by_cases d1 : s.cap < 0
  · refine wp_region_up (by kernel_rfl) (by kernel_rfl) ?_
    repeat
      (with_reducible refine wpQuiet_step (fun K hK => ?_)
       go_simp
       first
         | (refine hK _ ?_; clear hK K)
         | (apply Exists.intro; refine ⟨fun _ => ?_, hK _ ?_⟩; go_at_call 78; fail))
    with_reducible refine wpQuiet_nil ?_
    intro _ hw'
    obtain ⟨p, hw''⟩ := hw'
    subst hw''
    go_wp2_with fail
    go_ret
    exact ⟨rfl, up_trans U0.out p.up⟩
  · skip
    by_cases d2 : 16777216 < s.cap
    · refine wp_region_up (by kernel_rfl) (by kernel_rfl) ?_
      repeat
        (with_reducible refine wpQuiet_step (fun K hK => ?_)
         go_simp
         first
           | (refine hK _ ?_; clear hK K)
           | (apply Exists.intro; refine ⟨fun _ => ?_, hK _ ?_⟩; go_at_call 78; fail))
      with_reducible refine wpQuiet_nil ?_
      intro _ hw'
      obtain ⟨p, hw''⟩ := hw'
      subst hw''
      go_wp2_with fail
      go_ret
      exact ⟨rfl, up_trans U0.out p.up⟩
    · skip
      by_cases d3 : (256 : Int) < (s.files.length : Int)
      · refine wp_region_up (by kernel_rfl) (by kernel_rfl) ?_
        repeat
          (with_reducible refine wpQuiet_step (fun K hK => ?_)
           go_simp
           first
             | (refine hK _ ?_; clear hK K)
             | (apply Exists.intro; refine ⟨fun _ => ?_, hK _ ?_⟩; go_at_call 78; fail))
        with_reducible refine wpQuiet_nil ?_
        intro _ hw'
        obtain ⟨p, hw''⟩ := hw'
        subst hw''
        go_wp2_with fail
        go_ret
        exact ⟨rfl, up_trans U0.out p.up⟩
      · skip
        by_cases d4 : s.next < 1
        · refine wp_region_up (by kernel_rfl) (by kernel_rfl) ?_
          repeat
            (with_reducible refine wpQuiet_step (fun K hK => ?_)
             go_simp
             first
               | (refine hK _ ?_; clear hK K)
               | (apply Exists.intro; refine ⟨fun _ => ?_, hK _ ?_⟩; go_at_call 78; fail))
          with_reducible refine wpQuiet_nil ?_
          intro _ hw'
          obtain ⟨p, hw''⟩ := hw'
          subst hw''
          go_wp2_with fail
          go_ret
          exact ⟨rfl, up_trans U0.out p.up⟩
        · skip
          by_cases d5 : 2147483647 < s.next
          · refine wp_region_up (by kernel_rfl) (by kernel_rfl) ?_
            repeat
              (with_reducible refine wpQuiet_step (fun K hK => ?_)
               go_simp
               first
                 | (refine hK _ ?_; clear hK K)
                 | (apply Exists.intro; refine ⟨fun _ => ?_, hK _ ?_⟩; go_at_call 78; fail))
            with_reducible refine wpQuiet_nil ?_
            intro _ hw'
            obtain ⟨p, hw''⟩ := hw'
            subst hw''
            go_wp2_with fail
            go_ret
            exact ⟨rfl, up_trans U0.out p.up⟩
          · skip
            by_cases d6 : s.cap < usedOf s.files
            · refine wp_region_up (by kernel_rfl) (by kernel_rfl) ?_
              repeat
                (with_reducible refine wpQuiet_step (fun K hK => ?_)
                 go_simp
                 first
                   | (refine hK _ ?_; clear hK K)
                   | (apply Exists.intro; refine ⟨fun _ => ?_, hK _ ?_⟩; go_at_call 78; refine calls_up (HU.out (by omega) _); clear hK K))
              with_reducible refine wpQuiet_nil ?_
              intro _ hw'
              obtain ⟨p, hw''⟩ := hw'
              subst hw''
              go_wp2_with fail
              go_ret
              exact ⟨rfl, up_trans U0.out p.up⟩
            · skip
              by_cases d7 : (256 : Int) < (s.names.length : Int)
              · refine wp_region_up (by kernel_rfl) (by kernel_rfl) ?_
                repeat
                  (with_reducible refine wpQuiet_step (fun K hK => ?_)
                   go_simp
                   first
                     | (refine hK _ ?_; clear hK K)
                     | (apply Exists.intro; refine ⟨fun _ => ?_, hK _ ?_⟩; go_at_call 78; refine calls_up (HU.out (by omega) _); clear hK K))
                with_reducible refine wpQuiet_nil ?_
                intro _ hw'
                obtain ⟨p, hw''⟩ := hw'
                subst hw''
                go_wp2_with fail
                go_ret
                exact ⟨rfl, up_trans U0.out p.up⟩
              · skip
                by_cases d8 : (256 : Int) < (s.safe.length : Int)
                · refine wp_region_up (by kernel_rfl) (by kernel_rfl) ?_
                  repeat
                    (with_reducible refine wpQuiet_step (fun K hK => ?_)
                     go_simp
                     first
                       | (refine hK _ ?_; clear hK K)
                       | (apply Exists.intro; refine ⟨fun _ => ?_, hK _ ?_⟩; go_at_call 78; refine calls_up (HU.out (by omega) _); clear hK K))
                  with_reducible refine wpQuiet_nil ?_
                  intro _ hw'
                  obtain ⟨p, hw''⟩ := hw'
                  subst hw''
                  go_wp2_with fail
                  go_ret
                  exact ⟨rfl, up_trans U0.out p.up⟩
                · exfalso
                  have := HH.out
                  unfold headR at this
                  simp at this
                  omega
end Go.Proofs.YtnchjlimkgbfpaaGreatDoor
