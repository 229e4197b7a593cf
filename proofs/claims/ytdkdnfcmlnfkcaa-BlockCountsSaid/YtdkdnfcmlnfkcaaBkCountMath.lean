/-
  How many blocks there are: the law's words.
-/
import Derived.Test.YtdkdnfcmlnfkcaaBkCount
namespace Go.Proofs.Ytdkdnfcmlnfkcaa
open Go.RowKit
set_option maxRecDepth 100000

theorem count_zero (n size : Int) (h : n ≤ 0) : countN n size = 0 := by
  unfold countN
  rw [show max n 0 = 0 by omega]; simp
theorem count_law (n size : Int) (h : 0 < n) : 1 ≤ countN n size ∧ countN n size ≤ n ∧ (n - 1) / fitN size = countN n size - 1 := by
  have hf := fitN_in size
  unfold countN
  generalize fitN size = s at hf
  rw [show max n 0 = n by omega]
  have e := Int.mul_ediv_add_emod n s
  have h0 := Int.emod_nonneg n (show s ≠ 0 by omega)
  have h1 := Int.emod_lt_of_pos n (show 0 < s by omega)
  have hq : 0 ≤ n / s := Int.ediv_nonneg (by omega) (by omega)
  generalize hQ : n / s = q at e hq
  generalize n % s = m at e h0 h1
  have h4 : 4 * q ≤ s * q := Int.mul_le_mul_of_nonneg_right hf.1 hq
  by_cases hm : m = 0
  · rw [if_pos hm]
    have hq1 : 1 ≤ q := by
      rcases Int.lt_or_le q 1 with h | h
      · have : q = 0 := by omega
        rw [this, Int.mul_zero] at e; omega
      · exact h
    refine ⟨hq1, by omega, ?_⟩
    have e2 : n - 1 = (s - 1) + s * (q - 1) := by rw [Int.mul_sub, Int.mul_one]; omega
    rw [e2, Int.add_mul_ediv_left _ _ (by omega), Int.ediv_eq_zero_of_lt (by omega) (by omega)]
    omega
  · rw [if_neg hm]
    refine ⟨by omega, by omega, ?_⟩
    have e2 : n - 1 = (m - 1) + s * q := by omega
    rw [e2, Int.add_mul_ediv_left _ _ (by omega), Int.ediv_eq_zero_of_lt (by omega) (by omega)]
    omega
end Go.Proofs.Ytdkdnfcmlnfkcaa
