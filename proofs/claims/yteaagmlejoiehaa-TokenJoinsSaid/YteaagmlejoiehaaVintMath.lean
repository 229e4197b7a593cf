/-
  Numbers as groups of seven bits: plain mathematics.
-/
import Derived.Lib.BitFns
namespace Go.Proofs.Yteaagmlejoiehaa
open Go
/-- A number's bytes. -/
def groupsF : Nat → Nat → List UInt8
  | 0, n => [UInt8.ofNat n]
  | f + 1, n => if n < 128 then [UInt8.ofNat n] else UInt8.ofNat (n % 128 + 128) :: groupsF f (n / 128)
def groupsL (n : Nat) : List UInt8 := groupsF 9 n

theorem bitLen_or (m : Nat) (h1 : 1 ≤ m) (h : m < 2 ^ 64) : Lib.bitLen (m ||| 1) = Lib.bitLen m := by
  have hor : m ||| 1 < 2 ^ 64 := Nat.or_lt_two_pow h (by decide)
  have hd : (m ||| 1) / 2 = m / 2 := by
    rw [← Nat.shiftRight_eq_div_pow _ 1, ← Nat.shiftRight_eq_div_pow _ 1, Nat.shiftRight_or_distrib]
    show m >>> 1 ||| 0 = _
    simp
  have hne : m ||| 1 ≠ 0 := by
    have : 1 ≤ m ||| 1 := Nat.right_le_or
    omega
  rw [Lib.bitLen_half _ hne hor, Lib.bitLen_half m (by omega) h, hd]
theorem or_div (n : Nat) : (n ||| 1) / 128 = n / 128 := by
  rw [← Nat.shiftRight_eq_div_pow _ 7, ← Nat.shiftRight_eq_div_pow _ 7, Nat.shiftRight_or_distrib]
  show n >>> 7 ||| 0 = _
  simp
theorem small_len : ∀ n : Fin 128, (Lib.bitLen (n.val ||| 1) + 6) / 7 = 1 := by decide +kernel
theorem groups_len : ∀ (f n : Nat), n < 128 ^ (f + 1) → n < 2 ^ 64 → (groupsF f n).length = (Lib.bitLen (n ||| 1) + 6) / 7
  | 0, n, h, _ => by
    rw [small_len ⟨n, by omega⟩]; rfl
  | f + 1, n, h, h64 => by
    unfold groupsF
    split
    · rename_i hn
      rw [small_len ⟨n, hn⟩]; rfl
    · rename_i hn
      have hor : n ||| 1 < 2 ^ 64 := Nat.or_lt_two_pow h64 (by decide)
      have hle : n ≤ n ||| 1 := Nat.left_le_or
      have hd : n / 128 < 128 ^ (f + 1) := by rw [Nat.div_lt_iff_lt_mul (by decide)]; rw [Nat.pow_succ] at h; exact h
      rw [List.length_cons, groups_len f (n / 128) hd (by omega), Lib.bitLen_shift 7 (n ||| 1) (by omega) hor]
      show _ = (7 + Lib.bitLen ((n ||| 1) / 128) + 6) / 7
      rw [or_div, bitLen_or (n / 128) (by omega) (by omega)]
      omega
theorem groups_get : ∀ (f n : Nat), n < 128 ^ (f + 1) → ∀ i, (h : i < (groupsF f n).length) →
    (groupsF f n)[i] = UInt8.ofNat (if i + 1 = (groupsF f n).length then n / 128 ^ i % 128 else n / 128 ^ i % 128 + 128)
  | 0, n, hn, i, h => by
    have : i = 0 := by simp [groupsF] at h; exact h
    subst this
    have : n < 128 := by simpa using hn
    simp [groupsF, Nat.mod_eq_of_lt this]
  | f + 1, n, hn, i, h => by
    by_cases h128 : n < 128
    · have e : groupsF (f + 1) n = [UInt8.ofNat n] := by unfold groupsF; rw [if_pos h128]
      simp only [e] at h ⊢
      have : i = 0 := by simpa using h
      subst this
      simp [Nat.mod_eq_of_lt h128]
    · have hd : n / 128 < 128 ^ (f + 1) := by rw [Nat.div_lt_iff_lt_mul (by decide)]; rw [Nat.pow_succ] at hn; exact hn
      have e : groupsF (f + 1) n = UInt8.ofNat (n % 128 + 128) :: groupsF f (n / 128) := by
        conv => lhs; unfold groupsF
        rw [if_neg h128]
      have hpos : 0 < (groupsF f (n / 128)).length := by
        cases f <;> unfold groupsF
        · simp
        · split <;> simp
      simp only [e] at h ⊢
      cases i with
      | zero =>
        rw [if_neg (by rw [List.length_cons]; omega)]
        simp
      | succ j =>
        have ih := groups_get f (n / 128) hd j (by simpa using h)
        simp only [List.getElem_cons_succ, ih, List.length_cons]
        rw [Nat.div_div_eq_div_mul, Nat.pow_succ, Nat.mul_comm 128]
        congr 1
        simp only [Nat.add_right_cancel_iff]
theorem groups_pos (f n : Nat) : 1 ≤ (groupsF f n).length := by
  cases f <;> unfold groupsF
  · simp
  · split <;> simp
theorem groups_le : ∀ (f n : Nat), (groupsF f n).length ≤ f + 1
  | 0, n => by simp [groupsF]
  | f + 1, n => by
    unfold groupsF
    split
    · simp
    · have := groups_le f (n / 128); simp; omega
/-- Half a sum's bytes, the highest first. -/
def wordL (w : Nat) : List UInt8 := (List.range 8).map fun j => UInt8.ofNat (w / 256 ^ (7 - j) % 256)
end Go.Proofs.Yteaagmlejoiehaa
