/-
  PathsOrder's law, walked.
-/
import Derived.Test.YthmiffjhchhljaaDoorPathAwake
import Derived.Test.YthmiffjhchhljaaDoorRefCmp
namespace Go.Proofs.YthmiffjhchhljaaDoor
open Go.RowKit
set_option maxRecDepth 100000

theorem cmpL_out : ∀ p q : List UInt8, cmpL p q = -1 ∨ cmpL p q = 0 ∨ cmpL p q = 1
  | [], [] => by simp [cmpL]
  | [], _ :: _ => by simp [cmpL]
  | _ :: _, [] => by simp [cmpL]
  | a :: p, b :: q => by
    by_cases h : a = b
    · simp only [cmpL, h, if_true]; exact cmpL_out p q
    · simp only [cmpL, h, if_false]
      unfold signZ
      split
      · simp
      · split <;> simp
theorem cmpL_up (p q r : List UInt8) (h1 : 0 ≤ cmpL p q) (h2 : 0 ≤ cmpL q r) : 0 ≤ cmpL p r := by
  have h := cmpL_trans r q p (by rw [cmpL_swap q r]; omega) (by rw [cmpL_swap p q]; omega)
  rw [cmpL_swap p r] at h
  omega

set_option maxHeartbeats 8000000 in
theorem order_law (p q r : ByteArray) (w : World) :
    Calls Tryd.prog 6 #[.string p, .string q, .string r] w fun e w' => e = .returned (.bool true) ∧ Below w.heap.size w w' := by
  by_cases h1 : (100 : Int) < p.size
  · go_enter Tryd.func6, Tryd.ntmps6
    go_wp2_with fail
    refine (awake_any _).mono ?_
    rintro e w9 ⟨rfl, hB9⟩
    go_wp2_with fail
    refine bodyPost_ret (results_tmp rfl _ _ _) rfl ⟨rfl, hB9⟩
  by_cases h2 : (100 : Int) < q.size
  · go_enter Tryd.func6, Tryd.ntmps6
    go_wp2_with fail
    refine (awake_any _).mono ?_
    rintro e w9 ⟨rfl, hB9⟩
    go_wp2_with fail
    refine bodyPost_ret (results_tmp rfl _ _ _) rfl ⟨rfl, hB9⟩
  by_cases h3 : (100 : Int) < r.size
  · go_enter Tryd.func6, Tryd.ntmps6
    go_wp2_with fail
    refine (awake_any _).mono ?_
    rintro e w9 ⟨rfl, hB9⟩
    go_wp2_with fail
    refine bodyPost_ret (results_tmp rfl _ _ _) rfl ⟨rfl, hB9⟩
  have F1 := cmpL_trans p.data.toList q.data.toList r.data.toList
  have F2 := cmpL_up p.data.toList q.data.toList r.data.toList
  have F3 := cmpL_swap p.data.toList q.data.toList
  have F4 : (p.toList == q.toList) = (cmpL p.data.toList q.data.toList == 0) := by
    rw [Bool.eq_iff_iff, beq_iff_eq, beq_iff_eq, cmpL_zero, Lib.toList_data, Lib.toList_data]
  rcases cmpL_out p.data.toList q.data.toList with ha | ha | ha <;> rcases cmpL_out q.data.toList r.data.toList with hb | hb | hb <;> rcases cmpL_out p.data.toList r.data.toList with hc | hc | hc
  all_goals (rw [ha] at F1 F2 F3 F4; rw [hb] at F1 F2; rw [hc] at F1 F2)
  all_goals first
    | (exfalso; have := F1 (by decide) (by decide); omega)
    | (exfalso; have := F2 (by decide) (by decide); omega)
    | skip
  all_goals
    have HA := hide ha
    have HB := hide hb
    have HC := hide hc
    have HS := hide F3
    have F5 : (p.toList == q.toList) = _ := F4.trans (by first | exact (rfl : ((-1 : Int) == 0) = false) | exact (rfl : ((0 : Int) == 0) = true) | exact (rfl : ((1 : Int) == 0) = false))
    clear ha hb hc F1 F2 F3 F4
    go_enter Tryd.func6, Tryd.ntmps6
    go_wp2_with fail
    refine (cmp_any p q _ (by omega) (by omega)).mono ?_
    rw [HA.out]
    rintro e w1 ⟨rfl, hB1⟩
    go_wp2_with fail
    refine (cmp_any q r _ (by omega) (by omega)).mono ?_
    rw [HB.out]
    rintro e w2 ⟨rfl, hB2'⟩
    have hB2 := hB1.trans (hB2'.mono hB1.size)
    clear hB1 hB2'
    go_wp2_with fail
    refine (cmp_any p r _ (by omega) (by omega)).mono ?_
    rw [HC.out]
    rintro e w3 ⟨rfl, hB3'⟩
    have hB3 := hB2.trans (hB3'.mono hB2.size)
    clear hB2 hB3'
    go_wp2_with fail
    refine (refCmp_any p q _ (by omega) (by omega)).mono ?_
    rw [show cmpL (toL p) (toL q) = _ from HA.out]
    rintro e w4 ⟨rfl, hB4'⟩
    have hB4 := hB3.trans (hB4'.mono hB3.size)
    clear hB3 hB4'
    go_wp2_with fail
    refine (cmp_any q p _ (by omega) (by omega)).mono ?_
    rw [HS.out]
    rintro e w5 ⟨rfl, hB5'⟩
    have hB5 := hB4.trans (hB5'.mono hB4.size)
    clear hB4 hB5'
    go_wp2_with fail
    refine (awake_any _).mono ?_
    rintro e w6 ⟨rfl, hB6⟩
    go_wp2_with fail
    refine bodyPost_ret (results_tmp rfl _ _ _) rfl ⟨rfl, hB5.trans (hB6.mono hB5.size)⟩
end Go.Proofs.YthmiffjhchhljaaDoor
