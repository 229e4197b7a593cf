/-
  Texts that belong together: PathIn, PathUnder.
-/
import Derived.Test.YtlohoamhgioheaaDoorPathMoves
/-
  paths.Within.
-/
namespace Go.Proofs.YtlohoamhgioheaaDoor
open Go.RowKit
set_option maxRecDepth 100000

set_option maxHeartbeats 400000 in
theorem within_any (p q : ByteArray) (w : World) (hp : (p.size : Int) ≤ 1000000000) (hq : (q.size : Int) ≤ 1000000000) :
    Calls Tryd.prog 41 #[.string p, .string q] w fun e w' => e = .returned (.bool (okB p q)) ∧ Below w.heap.size w w' := by
  go_enter Tryd.func41, Tryd.ntmps41
  go_wp2_with fail
  refine (behind_any p q _ hp hq).mono ?_
  rintro e w1 ⟨rfl, hB1⟩
  go_wp2_with fail
  go_ret
  exact ⟨rfl, hB1⟩

end Go.Proofs.YtlohoamhgioheaaDoor
/-
  paths.Under.
-/
namespace Go.Proofs.YtlohoamhgioheaaDoor
open Go.RowKit
set_option maxRecDepth 100000

set_option maxHeartbeats 400000 in
theorem under_any (p q : ByteArray) (w : World) (hp : (p.size : Int) ≤ 1000000000) (hq : (q.size : Int) ≤ 1000000000) :
    Calls Tryd.prog 27 #[.string p, .string q] w fun e w' => e = .returned (.bool (okB p q && !(p.toList == q.toList))) ∧ Below w.heap.size w w' := by
  go_enter Tryd.func27, Tryd.ntmps27
  cases hpq : p.toList == q.toList with
  | true =>
    have HO := hide (show (okB p q && !true) = false by simp)
    go_wp2_with fail
    refine bodyPost_ret (results_tmp rfl _ _ _) rfl ⟨by simp, Below.refl _ _⟩
  | false =>
    have HO := hide (show (okB p q && !false) = okB p q by simp)
    go_wp2_with fail
    refine (within_any p q _ hp hq).mono ?_
    rintro e w1 ⟨rfl, hB1⟩
    go_wp2_with fail
    refine bodyPost_ret (results_tmp rfl _ _ _) rfl ⟨by simp, hB1⟩

end Go.Proofs.YtlohoamhgioheaaDoor
