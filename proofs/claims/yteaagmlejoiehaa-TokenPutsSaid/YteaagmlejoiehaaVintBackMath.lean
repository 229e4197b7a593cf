/-
  What was put is read as it was.
-/
import Derived.Test.YteaagmlejoiehaaVintNil
import Derived.Test.YteaagmlejoiehaaVintSum
namespace Go.Proofs.Yteaagmlejoiehaa
open Go.RowKit

theorem numF_back : ∀ (f k a n : Nat) (r : List UInt8), k + f = 9 → n * 128 ^ k < 18446744073709551616 → (0 < k → 0 < n) →
    numF k a (groupsF f n ++ r) = (a + n * 128 ^ k, k + (groupsF f n).length, 0)
  | 0, k, a, n, r, hk, hn, hp => by
    obtain rfl : k = 9 := by omega
    have h1 : n ≤ 1 := by
      by_cases h : n ≤ 1
      · exact h
      · have : 2 * 128 ^ 9 ≤ n * 128 ^ 9 := Nat.mul_le_mul_right _ (by omega)
        omega
    have hp := hp (by decide)
    have e : (UInt8.ofNat n).toNat = n := ofNat_small n (by omega)
    show numF 9 a (UInt8.ofNat n :: r) = (a + n * 128 ^ 9, 10, 0)
    rw [numF_good _ _ _ _ (by rw [e]; omega), e, if_pos (by omega), Nat.mod_eq_of_lt (by omega)]
  | f + 1, k, a, n, r, hk, hn, hp => by
    by_cases h : n < 128
    · have e : (UInt8.ofNat n).toNat = n := ofNat_small n (by omega)
      have eg : groupsF (f + 1) n = [UInt8.ofNat n] := by unfold groupsF; rw [if_pos h]
      rw [eg]
      show numF k a (UInt8.ofNat n :: r) = (a + n * 128 ^ k, k + 1, 0)
      rw [numF_good _ _ _ _ (by rw [e]; omega), e, if_pos h, Nat.mod_eq_of_lt h]
    · have e : (UInt8.ofNat (n % 128 + 128)).toNat = n % 128 + 128 := ofNat_small _ (by omega)
      have eg : groupsF (f + 1) n = UInt8.ofNat (n % 128 + 128) :: groupsF f (n / 128) := by conv => lhs; unfold groupsF; rw [if_neg h]
      have hpow : 128 ^ (k + 1) = 128 ^ k * 128 := Nat.pow_succ ..
      have hmul : n / 128 * 128 ^ (k + 1) = n / 128 * 128 * 128 ^ k := by rw [hpow, Nat.mul_comm (128 ^ k) 128, ← Nat.mul_assoc]
      have hle : n / 128 * 128 * 128 ^ k ≤ n * 128 ^ k := Nat.mul_le_mul_right _ (by omega)
      have ih := numF_back f (k + 1) (a + n % 128 * 128 ^ k) (n / 128) r (by omega) (by omega) (fun _ => by omega)
      have hsum : n % 128 * 128 ^ k + n / 128 * 128 * 128 ^ k = n * 128 ^ k := by
        rw [← Nat.add_mul]
        congr 1
        omega
      rw [eg, List.cons_append, numF_good _ _ _ _ (by rw [e]; omega), e, if_neg (by omega), show (n % 128 + 128) % 128 = n % 128 by omega, ih, List.length_cons]
      refine Prod.ext ?_ (Prod.ext ?_ rfl)
      · show a + n % 128 * 128 ^ k + n / 128 * 128 ^ (k + 1) = a + n * 128 ^ k
        omega
      · show k + 1 + _ = k + (_ + 1)
        omega
theorem readN_back (n m : Nat) (r : List UInt8) (hn : n < 18446744073709551616) (hm : n ≤ m) : readN (groupsL n ++ r) 0 m = (n, r, 0) := by
  have h := numF_back 9 0 0 n r rfl (by omega) (fun h => absurd h (by decide))
  have h2 : numL (groupsL n ++ r) = (n, (groupsL n).length, 0) := by
    unfold numL groupsL
    rw [h]; simp
  unfold readN
  rw [h2, if_neg (by simp), if_neg (by simp), if_neg (by show ¬ m < n; omega)]
  simp
theorem readT_back (s : ByteArray) (m : Nat) (r : List UInt8) (hn : s.size < 18446744073709551616) (hm : s.size ≤ m) : readT ((groupsL s.size ++ toL s) ++ r) 0 m = (toL s, r, 0) := by
  have hs : (toL s).length = s.size := by simp [toL]
  unfold readT
  rw [List.append_assoc, readN_back _ _ _ hn hm]
  unfold textOf
  rw [if_neg (by simp), if_neg (by simp only [List.length_append]; omega)]
  simp only
  rw [← hs, List.take_left, List.drop_left]

theorem halfF_back (n : Nat) (r : List UInt8) (hn : n < 18446744073709551616) : ∀ k, k ≤ 8 → halfF (wordL n ++ r) k = n / 256 ^ (8 - k)
  | 0, _ => by
    show 0 = n / 256 ^ 8
    rw [Nat.div_eq_of_lt]; exact hn
  | k + 1, h => by
    have ih := halfF_back n r hn k (by omega)
    show halfF (wordL n ++ r) k * 256 + ((wordL n ++ r).getD k 0).toNat = _
    have hx : (wordL n ++ r).getD k 0 = UInt8.ofNat (n / 256 ^ (7 - k) % 256) := by
      rw [List.getD_eq_getElem?_getD, List.getElem?_append_left (by rw [wordL_len]; omega)]
      unfold wordL
      rw [List.getElem?_map, List.getElem?_range (by omega)]
      rfl
    rw [ih, hx, ofNat_small _ (Nat.mod_lt _ (by decide)), show 8 - k = (7 - k) + 1 by omega, Nat.pow_succ, ← Nat.div_div_eq_div_mul, show 8 - (k + 1) = 7 - k by omega]
    omega
theorem halfN_back (n : Nat) (r : List UInt8) (hn : n < 18446744073709551616) : halfN (wordL n ++ r) = n := by
  unfold halfN
  rw [halfF_back n r hn 8 (Nat.le_refl _)]; simp
theorem readS_back (hi lo : Nat) (r : List UInt8) (h1 : hi < 18446744073709551616) (h2 : lo < 18446744073709551616) : readS ((wordL hi ++ wordL lo) ++ r) 0 = ((hi, lo), r, 0) := by
  unfold readS
  have e8 : ((wordL hi ++ wordL lo) ++ r).drop 8 = wordL lo ++ r := by
    rw [List.append_assoc, List.drop_append_of_le_length (by rw [wordL_len]; omega), List.drop_of_length_le (by rw [wordL_len]; omega)]; rfl
  have e16 : ((wordL hi ++ wordL lo) ++ r).drop 16 = r := by
    rw [show 16 = (wordL hi ++ wordL lo).length by rw [List.length_append, wordL_len, wordL_len], List.drop_left]
  rw [if_neg (by simp), if_neg (by simp only [List.length_append, wordL_len]; omega), e8, e16, List.append_assoc, halfN_back _ _ h1, halfN_back _ _ h2]
end Go.Proofs.Yteaagmlejoiehaa
