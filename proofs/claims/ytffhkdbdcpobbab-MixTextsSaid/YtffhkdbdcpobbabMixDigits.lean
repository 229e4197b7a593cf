/-
  Digits of sums.
-/
import Derived.Test.YtffhkdbdcpobbabBytes
import Derived.Laws.BitsAllLaws
namespace Go.Proofs.Ytffhkdbdcpobbab
open Go.RowKit

/-- The digits, and one of them. -/
def digitsB : ByteArray := ⟨#[48, 49, 50, 51, 52, 53, 54, 55, 56, 57, 97, 98, 99, 100, 101, 102]⟩
def hexD (d : Nat) : UInt8 := if d < 10 then UInt8.ofNat (48 + d) else UInt8.ofNat (87 + d)
/-- The last i digits of a number. -/
def tailN : Nat → Nat → List UInt8
  | 0, _ => []
  | i + 1, n => hexD (n / 16 ^ i % 16) :: tailN i n
theorem tailN_len : ∀ i n, (tailN i n).length = i
  | 0, _ => rfl
  | i + 1, n => by simp [tailN, tailN_len i n]
theorem tailN_more (n : Nat) : ∀ j k, tailN (j + k) n = tailN j (n / 16 ^ k) ++ tailN k n
  | 0, k => by simp [tailN]
  | j + 1, k => by
    rw [show j + 1 + k = (j + k) + 1 by omega]
    show hexD (n / 16 ^ (j + k) % 16) :: tailN (j + k) n = _
    rw [tailN_more n j k]
    show _ = hexD (n / 16 ^ k / 16 ^ j % 16) :: tailN j (n / 16 ^ k) ++ tailN k n
    rw [Nat.div_div_eq_div_mul, ← Nat.pow_add, Nat.add_comm k j]
    rfl
theorem tailN_mod (n m : Nat) : ∀ i, i ≤ m → tailN i (n % 16 ^ m) = tailN i n
  | 0, _ => rfl
  | i + 1, h => by
    show hexD (n % 16 ^ m / 16 ^ i % 16) :: tailN i (n % 16 ^ m) = hexD (n / 16 ^ i % 16) :: tailN i n
    rw [tailN_mod n m i (by omega)]
    obtain ⟨d, rfl⟩ : ∃ d, m = i + (d + 1) := ⟨m - i - 1, by omega⟩
    rw [Nat.pow_add, Nat.mod_mul_right_div_self, Nat.pow_succ, Nat.mod_mul_left_mod]
/-- A sum's text. -/
def textL (p : Nat × Nat) : List UInt8 := tailN 16 p.1 ++ tailN 16 p.2
def numS (p : Nat × Nat) : Nat := p.1 * 18446744073709551616 + p.2
theorem textL_eq (p : Nat × Nat) (h : p.2 < 18446744073709551616) : tailN 32 (numS p) = textL p := by
  rw [show 32 = 16 + 16 from rfl, tailN_more]
  have e : (16 : Nat) ^ 16 = 18446744073709551616 := by decide
  have h1 : numS p / 16 ^ 16 = p.1 := by rw [e]; unfold numS; omega
  have h2 : tailN 16 (numS p) = tailN 16 p.2 := by
    rw [← tailN_mod (numS p) 16 16 (Nat.le_refl _), e]
    congr 1
    unfold numS; omega
  rw [h1, h2]; rfl
/-- A sum's words, i digits down. -/
def hiS (p : Nat × Nat) (i : Nat) : Nat := numS p / 16 ^ i / 18446744073709551616
def loS (p : Nat × Nat) (i : Nat) : Nat := numS p / 16 ^ i % 18446744073709551616
theorem hiS_zero (p : Nat × Nat) (h : p.2 < 18446744073709551616) : hiS p 0 = p.1 := by unfold hiS numS; rw [Nat.pow_zero, Nat.div_one]; omega
theorem loS_zero (p : Nat × Nat) (h : p.2 < 18446744073709551616) : loS p 0 = p.2 := by unfold loS numS; rw [Nat.pow_zero, Nat.div_one]; omega
theorem digit_lo (p : Nat × Nat) (i : Nat) : numS p / 16 ^ i % 16 = loS p i % 16 := by unfold loS; omega
theorem hiS_step (p : Nat × Nat) (i : Nat) : hiS p (i + 1) = hiS p i / 16 := by
  unfold hiS; rw [Nat.pow_succ, ← Nat.div_div_eq_div_mul]; omega
theorem loS_step (p : Nat × Nat) (i : Nat) : loS p (i + 1) = loS p i / 16 + hiS p i * 1152921504606846976 % 18446744073709551616 := by
  unfold loS hiS; rw [Nat.pow_succ, ← Nat.div_div_eq_div_mul]; omega
theorem shift_or (lo hi : Nat) (h : lo < 18446744073709551616) : (lo / 16) ||| (hi * 1152921504606846976 % 18446744073709551616) = lo / 16 + hi * 1152921504606846976 % 18446744073709551616 := by
  have e : hi * 1152921504606846976 % 18446744073709551616 = (hi % 16) <<< 60 := by rw [Nat.shiftLeft_eq]; omega
  rw [e, Nat.or_comm, ← Nat.shiftLeft_add_eq_or_of_lt (by show lo / 16 < 2 ^ 60; omega), Nat.add_comm]
theorem shift_bits (lo hi : Nat) (h : lo < 18446744073709551616) : bits .or .u64 ((lo : Int) / 16) (IntKind.u64.wrap ((hi : Int) * 1152921504606846976)) = ((lo / 16 + hi * 1152921504606846976 % 18446744073709551616 : Nat) : Int) := by
  have e1 : ((lo : Int) / 16) = ((lo / 16 : Nat) : Int) := by simp
  have e2 : IntKind.u64.wrap ((hi : Int) * 1152921504606846976) = ((hi * 1152921504606846976 % 18446744073709551616 : Nat) : Int) := by rw [IntKind.wrap_u64]; omega
  rw [e1, e2, u64_or_nat _ _ (by omega) (Nat.mod_lt _ (by decide)), shift_or lo hi h]
/-- The row in which a text is laid, from its end. -/
def rowT (i n : Nat) : List Value := List.replicate (32 - i) (Value.int .u8 0) ++ (tailN i n).map byteV
theorem rowT_len (i n : Nat) (h : i ≤ 32) : (rowT i n).length = 32 := by unfold rowT; rw [List.length_append, List.length_replicate, List.length_map, tailN_len]; omega
theorem rowT_at (i n : Nat) (h : i < 32) : (rowT i n)[31 - i]? = some (Value.int .u8 0) := by
  unfold rowT; rw [List.getElem?_append_left (by simp; omega), List.getElem?_replicate, if_pos (by omega)]
theorem rowT_set (i n : Nat) (h : i < 32) : (rowT i n).set (31 - i) (byteV (hexD (n / 16 ^ i % 16))) = rowT (i + 1) n := by
  unfold rowT
  have e : List.replicate (32 - i) (Value.int .u8 0) = List.replicate (32 - (i + 1)) (Value.int .u8 0) ++ [Value.int .u8 0] := by
    rw [show 32 - i = (32 - (i + 1)) + 1 by omega, List.replicate_succ']
  rw [e, List.append_assoc, List.set_append_right _ _ (by simp), List.length_replicate, show 31 - i - (32 - (i + 1)) = 0 by omega]
  rfl
end Go.Proofs.Ytffhkdbdcpobbab
