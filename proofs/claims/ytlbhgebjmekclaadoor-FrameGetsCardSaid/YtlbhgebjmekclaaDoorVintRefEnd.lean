/-
  The reference's reader: End.
-/
import Derived.Test.YtlbhgebjmekclaaDoorVintRefInt
namespace Go.Proofs.YtlbhgebjmekclaaDoor
open Go.RowKit
set_option maxRecDepth 100000

set_option maxHeartbeats 1000000 in
theorem refEnd_any (l : List UInt8) (e : Nat) (w : World) :
    Calls Tryd.prog 33 #[refR l e] w fun en w' => en = .returned (.int .i64 ((endN e l : Nat) : Int)) ∧ Below w.heap.size w w' := by
  by_cases he : e = 0
  · subst he
    have hsz := ofL_size l
    have hB : Below w.heap.size w (w.alloc (.cells #[.string (ofL l), .int .i64 0] 60)) := (Below.refl _ w).alloc (Nat.le_refl _) _
    rw [refR_ok]
    by_cases h0 : l.length = 0
    · have HE := hide (show endN 0 l = 0 by unfold endN; rw [if_neg (by simp), if_pos h0])
      have q0 : ¬ (0 : Int) < ((ofL l).size : Nat) := by omega
      go_enter Tryd.func33, Tryd.ntmps33
      clear h0 hsz
      go_wp2_with fail
      refine bodyPost_ret (results_tmp rfl _ _ _) rfl ⟨by rw [HE.out]; rfl, hB⟩
    · have HE := hide (show endN 0 l = 5 by unfold endN; rw [if_neg (by simp), if_neg h0])
      have q0 : (0 : Int) < ((ofL l).size : Nat) := by omega
      go_enter Tryd.func33, Tryd.ntmps33
      clear h0 hsz
      go_wp2_with fail
      refine bodyPost_ret (results_tmp rfl _ _ _) rfl ⟨by rw [HE.out]; rfl, hB⟩
  · have HE := hide (show endN e l = e by unfold endN; rw [if_pos he])
    have E0 : ((e : Int) == 0) = false := by rw [beq_eq_false_iff_ne]; omega
    have hB : Below w.heap.size w (w.alloc (.cells #[.string ⟨#[]⟩, .int .i64 (e : Nat)] 60)) := (Below.refl _ w).alloc (Nat.le_refl _) _
    rw [refR_err l e he]
    clear he
    go_enter Tryd.func33, Tryd.ntmps33
    go_wp2_with fail
    refine bodyPost_ret (results_tmp rfl _ _ _) rfl ⟨by rw [HE.out]; rfl, hB⟩
end Go.Proofs.YtlbhgebjmekclaaDoor
