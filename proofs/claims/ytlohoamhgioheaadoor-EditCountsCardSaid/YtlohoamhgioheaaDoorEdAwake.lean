/-
  The law's own awake: the page's example.
-/
import Derived.Test.YtlohoamhgioheaaDoorEdLine
namespace Go.Proofs.YtlohoamhgioheaaDoor
open Go.RowKit
set_option maxRecDepth 100000

theorem ex_move : lineB 6 ⟨#[97]⟩ ⟨#[98]⟩ 0 = ⟨#[109, 111, 118, 101, 32, 97, 32, 98]⟩ := by decide +kernel
theorem ex_meta : wordB 9 = ⟨#[109, 101, 116, 97]⟩ := by decide +kernel
set_option maxHeartbeats 1000000 in
theorem edAwake_any (w : World) (hT : Tabs w) : Calls Tryd.prog 7 #[] w fun e w' => e = .returned (.bool true) ∧ Below w.heap.size w w' := by
  have HT := hide hT
  have HL := hide (line_any 6 ⟨#[97]⟩ ⟨#[98]⟩ 0 w hT (by decide) (by decide))
  have HW := hide (fun W (hb : Below w.heap.size w W) => word_any 9 W (HT.out.below hb))
  rw [ex_move] at HL
  rw [ex_meta] at HW
  clear hT
  go_enter Tryd.func7, Tryd.ntmps7
  go_wp2_with fail
  refine (HL.out).mono ?_
  rintro e w1 ⟨rfl, hb1⟩
  have HB1 := hide hb1
  clear hb1
  go_wp2_with fail
  refine (HW.out _ HB1.out).mono ?_
  rintro e w2 ⟨rfl, rfl⟩
  go_wp2_with fail
  exact bodyPost_ret (results_tmp rfl _ _ _) rfl ⟨rfl, HB1.out⟩
end Go.Proofs.YtlohoamhgioheaaDoor
