/-
  The law's awake: the page's examples.
-/
import Derived.Test.YtpefcadlejcbbaaVintRead
namespace Go.Proofs.Ytpefcadlejcbbaa
open Go.RowKit
set_option maxRecDepth 100000

theorem byteRow (w : World) (x : UInt8) : RdB (w.alloc (.cells #[byteV x] 5)) (w.alloc (.cells #[byteV x] 5)).heap.size (some ⟨w.heap.size, 0, none⟩) [x] := fun k y hy => by
  rcases k with _ | k
  · simp at hy; subst hy
    exact ⟨_, rfl, by simp, cell_of_row _ _ _ _ _ _ (World.alloc_heap_new w _)⟩
  · simp at hy

set_option maxHeartbeats 2000000 in
theorem awake_any (w : World) : Calls Try.prog 17 #[] w fun e w' => e = .returned (.bool true) ∧ Below w.heap.size w w' := by
  go_enter Try.func17, Try.ntmps17
  go_wp2_with fail
  refine (putNum_any none [] 0 300 w (RdB.nil _ _ _) (by decide) (by decide)).mono ?_
  rw [show ([] : List UInt8) ++ groupsL 300 = [172, 2] by kernel_rfl]
  rintro e w1 ⟨A, c, rfl, _, hR, hB1⟩
  have hrun : (convert 22 9 (.slice A 2 c)).run Try.prog w1 = .ok (.string ⟨#[172, 2]⟩) w1 := conv_any hR c
  go_wp2_with fail
  refine (putText_any none [] 0 ⟨#[97, 98]⟩ w1 (RdB.nil _ _ _) (by decide) (by decide)).mono ?_
  rw [show ([] : List UInt8) ++ (groupsL (⟨#[97, 98]⟩ : ByteArray).size ++ toL ⟨#[97, 98]⟩) = [2, 97, 98] by kernel_rfl]
  rintro e w2 ⟨B, d, rfl, _, hR2, hB2'⟩
  have hrun2 : (convert 22 9 (.slice B 3 d)).run Try.prog w2 = .ok (.string ⟨#[2, 97, 98]⟩) w2 := conv_any hR2 d
  have hB2 := hB1.trans (hB2'.mono hB1.size)
  clear hB1 hB2' hrun
  go_wp2_with fail
  have hB3 := hB2.alloc hB2.size (.cells #[byteV 7] 5)
  refine (read_any (some ⟨w2.heap.size, 0, none⟩) [7] 1 (w2.alloc (.cells #[byteV 7] 5)) (byteRow w2 7) ⟨by decide, fun e => by cases e⟩ (by decide)).mono ?_
  rintro e w3 ⟨⟨b, rfl, hI, hb⟩, hB4'⟩
  have hB4 := hB3.trans (hB4'.mono hB3.size)
  have hbw : w.heap.size ≤ b := Nat.le_trans hB3.size hb
  clear hB2 hB3 hB4' hrun2
  go_wp2_with fail
  refine (readNum_any b 9 0 [7] w3 hI (by decide)).mono ?_
  rw [show readN [7] 0 9 = (7, [], 0) by kernel_rfl]
  rintro e w4 ⟨rfl, _, hg, _⟩
  go_wp2_with fail
  refine bodyPost_ret (results_tmp rfl _ _ _) rfl ⟨rfl, hB4.grown hg hB4.size (fun r e => by cases e; exact hbw)⟩
end Go.Proofs.Ytpefcadlejcbbaa
