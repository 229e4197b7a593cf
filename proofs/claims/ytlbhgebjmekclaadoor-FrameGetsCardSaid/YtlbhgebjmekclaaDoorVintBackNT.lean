/-
  What was put is read as it was: numbers and texts (plain).
-/
import Derived.Test.YtlbhgebjmekclaaDoorVintText
import Derived.Test.YtlbhgebjmekclaaDoorVintPut
namespace Go.Proofs.YtlbhgebjmekclaaDoor
open Go.RowKit
set_option maxRecDepth 100000

theorem numF_back : ∀ (f k a n : Nat) (r : List UInt8), k + f = 9 → n * 128 ^ k < 18446744073709551616 → (0 < k → 0 < n) →
    numF k a (groupsF f n ++ r) = (a + n * 128 ^ k, k + (groupsF f n).length, 0)
  | 0, k, a, n, r, hk, hn, hp => by
    obtain rfl : k = 9 := by omega
    have h1 : n ≤ 1 := by
      by_cases h : n ≤ 1
      · exact h
      · have : 2 * 128 ^ 9 ≤ n * 128 ^ 9 := Nat.mul_le_mul_right _ (by omega)
        omega
    have hp := hp (by decide)
    have e : (UInt8.ofNat n).toNat = n := ofNat_small n (by omega)
    show numF 9 a (UInt8.ofNat n :: r) = (a + n * 128 ^ 9, 10, 0)
    rw [numF_good _ _ _ _ (by rw [e]; omega), e, if_pos (by omega), Nat.mod_eq_of_lt (by omega)]
  | f + 1, k, a, n, r, hk, hn, hp => by
    by_cases h : n < 128
    · have e : (UInt8.ofNat n).toNat = n := ofNat_small n (by omega)
      have eg : groupsF (f + 1) n = [UInt8.ofNat n] := by unfold groupsF; rw [if_pos h]
      rw [eg]
      show numF k a (UInt8.ofNat n :: r) = (a + n * 128 ^ k, k + 1, 0)
      rw [numF_good _ _ _ _ (by rw [e]; omega), e, if_pos h, Nat.mod_eq_of_lt h]
    · have e : (UInt8.ofNat (n % 128 + 128)).toNat = n % 128 + 128 := ofNat_small _ (by omega)
      have eg : groupsF (f + 1) n = UInt8.ofNat (n % 128 + 128) :: groupsF f (n / 128) := by conv => lhs; unfold groupsF; rw [if_neg h]
      have hpow : 128 ^ (k + 1) = 128 ^ k * 128 := Nat.pow_succ ..
      have hmul : n / 128 * 128 ^ (k + 1) = n / 128 * 128 * 128 ^ k := by rw [hpow, Nat.mul_comm (128 ^ k) 128, ← Nat.mul_assoc]
      have hle : n / 128 * 128 * 128 ^ k ≤ n * 128 ^ k := Nat.mul_le_mul_right _ (by omega)
      have ih := numF_back f (k + 1) (a + n % 128 * 128 ^ k) (n / 128) r (by omega) (by omega) (fun _ => by omega)
      have hsum : n % 128 * 128 ^ k + n / 128 * 128 * 128 ^ k = n * 128 ^ k := by
        rw [← Nat.add_mul]
        congr 1
        omega
      rw [eg, List.cons_append, numF_good _ _ _ _ (by rw [e]; omega), e, if_neg (by omega), show (n % 128 + 128) % 128 = n % 128 by omega, ih, List.length_cons]
      refine Prod.ext ?_ (Prod.ext ?_ rfl)
      · show a + n % 128 * 128 ^ k + n / 128 * 128 ^ (k + 1) = a + n * 128 ^ k
        omega
      · show k + 1 + _ = k + (_ + 1)
        omega
theorem readN_back (n m : Nat) (r : List UInt8) (hn : n < 18446744073709551616) (hm : n ≤ m) : readN (groupsL n ++ r) 0 m = (n, r, 0) := by
  have h := numF_back 9 0 0 n r rfl (by omega) (fun h => absurd h (by decide))
  have h2 : numL (groupsL n ++ r) = (n, (groupsL n).length, 0) := by
    unfold numL groupsL
    rw [h]; simp
  unfold readN
  rw [h2, if_neg (by simp), if_neg (by simp), if_neg (by show ¬ m < n; omega)]
  simp
theorem readT_back (s : ByteArray) (m : Nat) (r : List UInt8) (hn : s.size < 18446744073709551616) (hm : s.size ≤ m) : readT ((groupsL s.size ++ toL s) ++ r) 0 m = (toL s, r, 0) := by
  have hs : (toL s).length = s.size := by simp [toL]
  unfold readT
  rw [List.append_assoc, readN_back _ _ _ hn hm]
  unfold textOf
  rw [if_neg (by simp), if_neg (by simp only [List.length_append]; omega)]
  simp only
  rw [← hs, List.take_left, List.drop_left]
end Go.Proofs.YtlbhgebjmekclaaDoor
