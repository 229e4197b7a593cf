/-
  Sums of 32 bits, as numbers: a bit's step, half a byte's.
-/
import Derived.WalkKit
namespace Go.Proofs.YtlbhgebjmekclaaDoor

/-- A bit gone from a state's end. -/
def bitN (s : Nat) : Nat := if s % 2 = 1 then (s / 2) ^^^ 3988292384 else s / 2
def bitsN : Nat → Nat → Nat
  | 0, s => s
  | k + 1, s => bitN (bitsN k s)
theorem xor_half (a b : Nat) : (a ^^^ b) / 2 = (a / 2) ^^^ (b / 2) := by
  rw [← Nat.shiftRight_eq_div_pow _ 1, ← Nat.shiftRight_eq_div_pow _ 1, ← Nat.shiftRight_eq_div_pow _ 1, Nat.shiftRight_xor_distrib]
theorem xor_par (a b : Nat) : (a ^^^ b) % 2 = (a % 2 + b % 2) % 2 := by
  have h := Nat.xor_mod_two_pow (a := a) (b := b) (n := 1)
  rw [Nat.pow_one] at h
  rw [h]
  rcases Nat.mod_two_eq_zero_or_one a with ha | ha <;> rcases Nat.mod_two_eq_zero_or_one b with hb | hb <;> rw [ha, hb] <;> rfl
theorem bitN_xor (a b : Nat) : bitN (a ^^^ b) = bitN a ^^^ bitN b := by
  unfold bitN
  rw [xor_half, xor_par]
  rcases Nat.mod_two_eq_zero_or_one a with ha | ha <;> rcases Nat.mod_two_eq_zero_or_one b with hb | hb <;> rw [ha, hb]
  · rfl
  · rw [if_pos rfl, if_neg (by decide), if_pos rfl, Nat.xor_assoc]
  · rw [if_pos rfl, if_pos rfl, if_neg (by decide), Nat.xor_assoc, Nat.xor_comm (b / 2), ← Nat.xor_assoc]
  · rw [if_neg (by decide), if_pos rfl, if_pos rfl, Nat.xor_assoc, ← Nat.xor_assoc 3988292384, Nat.xor_comm 3988292384 (b / 2), Nat.xor_assoc, Nat.xor_self, Nat.xor_zero]
theorem bitsN_xor (k a b : Nat) : bitsN k (a ^^^ b) = bitsN k a ^^^ bitsN k b := by
  induction k with
  | zero => rfl
  | succ k ih => show bitN (bitsN k (a ^^^ b)) = _; rw [ih, bitN_xor]; rfl
def halvesL : List Nat := [0x00000000, 0x1db71064, 0x3b6e20c8, 0x26d930ac, 0x76dc4190, 0x6b6b51f4, 0x4db26158, 0x5005713c, 0xedb88320, 0xf00f9344, 0xd6d6a3e8, 0xcb61b38c, 0x9b64c2b0, 0x86d3d2d4, 0xa00ae278, 0xbdbdf21c]
def halfN (s : Nat) : Nat := s / 16 ^^^ halvesL.getD (s % 16) 0
theorem bits_small : ∀ k : Fin 16, bitsN 4 k.val = halvesL.getD k.val 0 := by decide +kernel
theorem bits_high (q : Nat) : bitsN 4 (q * 16) = q := by
  have e : ∀ n, bitN (n * 2) = n := fun n => by unfold bitN; rw [if_neg (by omega)]; omega
  show bitN (bitN (bitN (bitN (q * 16)))) = q
  rw [show q * 16 = q * 8 * 2 by omega, e, show q * 8 = q * 4 * 2 by omega, e, show q * 4 = q * 2 * 2 by omega, e, e]
theorem split16 (s : Nat) : s = (s / 16 * 16) ^^^ (s % 16) := by
  have h : (s / 16) <<< 4 ^^^ (s % 16) = (s / 16) <<< 4 + s % 16 := by
    rw [Nat.shiftLeft_add_eq_or_of_lt (by omega)]
    apply Nat.eq_of_testBit_eq
    intro i
    rw [Nat.testBit_xor, Nat.testBit_or, Nat.testBit_shiftLeft]
    by_cases hi : i < 4
    · have : ¬ (4 ≤ i) := by omega
      simp [this]
    · have hz : (s % 16).testBit i = false := Nat.testBit_lt_two_pow (by
        have : 2 ^ 4 ≤ 2 ^ i := Nat.pow_le_pow_right (by decide) (by omega)
        omega)
      rw [hz]; simp
  rw [Nat.shiftLeft_eq] at h
  rw [h]; omega
theorem half_bits (s : Nat) : halfN s = bitsN 4 s := by
  have h : bitsN 4 s = bitsN 4 (s / 16 * 16) ^^^ bitsN 4 (s % 16) := by
    rw [← bitsN_xor, ← split16]
  rw [h, bits_high, bits_small ⟨s % 16, Nat.mod_lt _ (by decide)⟩]; rfl
theorem bitN_lt (s : Nat) (h : s < 4294967296) : bitN s < 4294967296 := by
  unfold bitN
  split
  · exact Nat.xor_lt_two_pow (n := 32) (by omega) (by decide)
  · omega
theorem bitsN_lt (k s : Nat) (h : s < 4294967296) : bitsN k s < 4294967296 := by
  induction k with
  | zero => exact h
  | succ k ih => exact bitN_lt _ ih
theorem bitsN_add (j k s : Nat) : bitsN (j + k) s = bitsN j (bitsN k s) := by
  induction j with
  | zero => rw [Nat.zero_add]; rfl
  | succ j ih => rw [Nat.add_right_comm]; show bitN (bitsN (j + k) s) = bitN (bitsN j (bitsN k s)); rw [ih]
/-- A state behind bytes. -/
def moreN (s : Nat) (l : List UInt8) : Nat := l.foldl (fun s x => bitsN 8 (s ^^^ x.toNat)) s
theorem halves_byte (s : Nat) : halfN (halfN s) = bitsN 8 s := by rw [half_bits, half_bits, ← bitsN_add]
end Go.Proofs.YtlbhgebjmekclaaDoor
