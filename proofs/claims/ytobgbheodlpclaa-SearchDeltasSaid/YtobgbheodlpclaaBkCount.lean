/-
  A block's size, and how many blocks there are.
-/
import Derived.Test.YtobgbheodlpclaaAutoBytes
namespace Go.Proofs.Ytobgbheodlpclaa
open Go.RowKit
set_option maxRecDepth 100000

/-- The size that a size counts as. -/
def fitN (size : Int) : Int := min (max size 4) 64
theorem fitN_in (size : Int) : 4 ≤ fitN size ∧ fitN size ≤ 64 := by unfold fitN; omega
/-- How many blocks there are. -/
def countN (n size : Int) : Int := if max n 0 % fitN size = 0 then max n 0 / fitN size else max n 0 / fitN size + 1

set_option maxHeartbeats 1000000 in
theorem fit_any (size : Int) (w : World) : Calls Try.prog 67 #[.int .i64 size] w fun e w' => e = .returned (.int .i64 (fitN size)) ∧ w' = w := by
  go_enter Try.func67, Try.ntmps67
  by_cases h1 : size < 4
  · have HF := hide (show fitN size = 4 by unfold fitN; omega)
    go_wp2_with fail
    exact bodyPost_ret (results_tmp rfl _ _ _) rfl ⟨by rw [HF.out]; rfl, rfl⟩
  · by_cases h2 : 64 < size
    · have HF := hide (show fitN size = 64 by unfold fitN; omega)
      go_wp2_with fail
      exact bodyPost_ret (results_tmp rfl _ _ _) rfl ⟨by rw [HF.out]; rfl, rfl⟩
    · have HF := hide (show fitN size = size by unfold fitN; omega)
      go_wp2_with fail
      exact bodyPost_ret (results_tmp rfl _ _ _) rfl ⟨by rw [HF.out]; rfl, rfl⟩

set_option maxHeartbeats 1000000 in
theorem hold_any (size : Int) (w : World) : Calls Try.prog 34 #[.int .i64 size] w fun e w' => e = .returned (.int .i64 (fitN size)) ∧ w' = w := by
  go_enter Try.func34, Try.ntmps34
  by_cases h1 : size < 4
  · have HF := hide (show fitN size = 4 by unfold fitN; omega)
    go_wp2_with fail
    exact bodyPost_ret (results_tmp rfl _ _ _) rfl ⟨by rw [HF.out]; rfl, rfl⟩
  · by_cases h2 : 64 < size
    · have HF := hide (show fitN size = 64 by unfold fitN; omega)
      go_wp2_with fail
      exact bodyPost_ret (results_tmp rfl _ _ _) rfl ⟨by rw [HF.out]; rfl, rfl⟩
    · have HF := hide (show fitN size = size by unfold fitN; omega)
      go_wp2_with fail
      exact bodyPost_ret (results_tmp rfl _ _ _) rfl ⟨by rw [HF.out]; rfl, rfl⟩

/-- What a number of bytes counts as, divided. -/
theorem count_facts (m s : Int) (hm0 : 0 ≤ m) (hm1 : m ≤ 9223372036854775807) (hf : 4 ≤ s ∧ s ≤ 64) :
    m.tmod s = m % s ∧ m.tdiv s = m / s ∧ IntKind.i64.wrap (m / s + 1) = m / s + 1 ∧ IntKind.i64.wrap (m / s) = m / s ∧ (s == 0) = false := by
  have q3 : 0 ≤ m / s := Int.ediv_nonneg hm0 (by omega)
  have q5 : s * (m / s) ≤ m := Int.mul_ediv_self_le (by omega)
  have q6 : 4 * (m / s) ≤ s * (m / s) := Int.mul_le_mul_of_nonneg_right hf.1 q3
  exact ⟨Int.tmod_eq_emod_of_nonneg hm0, Int.tdiv_eq_ediv_of_nonneg hm0, IntWalk.i64_in _ (by omega), IntWalk.i64_in _ (by omega), by rw [beq_eq_false_iff_ne]; omega⟩
set_option maxHeartbeats 2000000 in
theorem count_any (n size : Int) (w : World) (hn : n ≤ 9223372036854775807) : Calls Try.prog 23 #[.int .i64 n, .int .i64 size] w fun e w' => e = .returned (.int .i64 (countN n size)) ∧ w' = w := by
  have hf := fitN_in size
  have HF := hide (fit_any size w)
  have hC : countN n size = if max n 0 % fitN size = 0 then max n 0 / fitN size else max n 0 / fitN size + 1 := rfl
  generalize fitN size = s at hf HF hC
  by_cases hneg : n < 0
  · have HV := hide (show countN n size = 0 by rw [hC, show max n 0 = 0 by omega]; simp)
    have hs0 : (s == 0) = false := by rw [beq_eq_false_iff_ne]; omega
    have e1 : (0 : Int).tmod s = 0 := Int.zero_tmod s
    have e2 : (0 : Int).tdiv s = 0 := Int.zero_tdiv s
    clear hC
    go_enter Try.func23, Try.ntmps23
    go_wp2_with fail
    refine HF.out.mono ?_
    rintro e w1 ⟨rfl, rfl⟩
    go_wp2_with fail
    exact bodyPost_ret (results_tmp rfl _ _ _) rfl ⟨by rw [HV.out]; rfl, rfl⟩
  · rw [show max n 0 = n by omega] at hC
    obtain ⟨q1, q2, q7, q8, q9⟩ := count_facts n s (by omega) hn hf
    go_enter Try.func23, Try.ntmps23
    by_cases h0 : n % s = 0
    · have E0 : (n % s != 0) = false := by rw [bne_eq_false_iff_eq]; exact h0
      have HV := hide (show countN n size = n / s by rw [hC, if_pos h0])
      clear hC
      go_wp2_with fail
      refine HF.out.mono ?_
      rintro e w1 ⟨rfl, rfl⟩
      go_wp2_with fail
      exact bodyPost_ret (results_tmp rfl _ _ _) rfl ⟨by rw [HV.out]; rfl, rfl⟩
    · have E0 : (n % s != 0) = true := by rw [bne_iff_ne]; exact h0
      have HV := hide (show countN n size = n / s + 1 by rw [hC, if_neg h0])
      clear hC
      go_wp2_with fail
      refine HF.out.mono ?_
      rintro e w1 ⟨rfl, rfl⟩
      go_wp2_with fail
      exact bodyPost_ret (results_tmp rfl _ _ _) rfl ⟨by rw [HV.out]; rfl, rfl⟩
end Go.Proofs.Ytobgbheodlpclaa
