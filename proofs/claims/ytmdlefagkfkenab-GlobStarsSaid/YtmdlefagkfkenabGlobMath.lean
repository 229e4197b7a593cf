/-
  Plain facts on sets of bytes as four words, and on patterns. Nothing of a program stands here.
-/
namespace Go.Proofs.Ytmdlefagkfkenab

/-- The number whose bit j (below n) is P (o + j). -/
def wdn (P : Nat → Bool) (o : Nat) : Nat → Nat
  | 0 => 0
  | n + 1 => wdn P o n + (if P (o + n) then 2 ^ n else 0)

theorem wdn_lt (P : Nat → Bool) (o n : Nat) : wdn P o n < 2 ^ n := by
  induction n with
  | zero => simp [wdn]
  | succ n ih =>
    have : 2 ^ (n + 1) = 2 ^ n + 2 ^ n := by rw [Nat.pow_succ]; omega
    unfold wdn
    split <;> omega

theorem wdn_bit (P : Nat → Bool) (o n j : Nat) : (wdn P o n).testBit j = (decide (j < n) && P (o + j)) := by
  induction n with
  | zero => simp [wdn]
  | succ n ih =>
    unfold wdn
    have hlt := wdn_lt P o n
    by_cases hp : P (o + n) = true
    · rw [if_pos hp]
      rw [Nat.add_comm]
      by_cases hj : j < n
      · rw [Nat.testBit_two_pow_add_gt hj, ih]
        have : j < n + 1 := by omega
        simp [hj, this]
      · by_cases he : j = n
        · subst he
          rw [Nat.testBit_two_pow_add_eq, Nat.testBit_lt_two_pow hlt]
          simp [hp]
        · have h2 : 2 ^ n + wdn P o n < 2 ^ j := by
            have h3 : 2 ^ (n + 1) ≤ 2 ^ j := Nat.pow_le_pow_right (by omega) (by omega)
            have : 2 ^ (n + 1) = 2 ^ n + 2 ^ n := by rw [Nat.pow_succ]; omega
            omega
          rw [Nat.testBit_lt_two_pow h2]
          have : ¬ j < n + 1 := by omega
          simp [this]
    · rw [if_neg hp, Nat.add_zero, ih]
      by_cases he : j = n
      · subst he; simp [hp]
      · have : (j < n) ↔ (j < n + 1) := by omega
        simp [this]

/-- The k-th word of a set. -/
def wd (P : Nat → Bool) (k : Nat) : Nat := wdn P (64 * k) 64

theorem wd_lt (P : Nat → Bool) (k : Nat) : wd P k < 18446744073709551616 := wdn_lt P (64 * k) 64
theorem wd_bit (P : Nat → Bool) (k j : Nat) : (wd P k).testBit j = (decide (j < 64) && P (64 * k + j)) := wdn_bit P _ _ _

theorem wd_congr {P Q : Nat → Bool} {k : Nat} (h : ∀ j, j < 64 → P (64 * k + j) = Q (64 * k + j)) : wd P k = wd Q k := by
  apply Nat.eq_of_testBit_eq
  intro j
  rw [wd_bit, wd_bit]
  by_cases hj : j < 64
  · simp [hj, h j hj]
  · simp [hj]

theorem wd_or (P Q : Nat → Bool) (k : Nat) : wd P k ||| wd Q k = wd (fun x => P x || Q x) k := by
  apply Nat.eq_of_testBit_eq
  intro j
  rw [Nat.testBit_or, wd_bit, wd_bit, wd_bit]
  by_cases hj : j < 64 <;> simp [hj]

theorem wd_andNot (P Q : Nat → Bool) (k : Nat) : wd P k &&& (18446744073709551615 - wd Q k) = wd (fun x => P x && !Q x) k := by
  apply Nat.eq_of_testBit_eq
  intro j
  have e : 18446744073709551615 - wd Q k = 2 ^ 64 - (wd Q k + 1) := by omega
  rw [e, Nat.testBit_and, Nat.testBit_two_pow_sub_succ (wd_lt Q k), wd_bit, wd_bit, wd_bit]
  by_cases hj : j < 64 <;> simp [hj]

/-- One byte more. -/
theorem wd_set (P : Nat → Bool) (k j : Nat) (hj : j < 64) : wd P k ||| 2 ^ j = wd (fun x => P x || x == 64 * k + j) k := by
  apply Nat.eq_of_testBit_eq
  intro i
  rw [Nat.testBit_or, wd_bit, wd_bit, Nat.testBit_two_pow]
  by_cases hi : i < 64
  · by_cases he : i = j
    · subst he; simp [hi]
    · have : ¬ j = i := fun h => he h.symm
      simp [hi, he, this]
  · have : ¬ j = i := by omega
    simp [hi, this]

theorem wd_has (P : Nat → Bool) (b : Nat) : (wd P (b / 64) / 2 ^ (b % 64)) % 2 = if P b then 1 else 0 := by
  have h := wd_bit P (b / 64) (b % 64)
  have hlt : b % 64 < 64 := Nat.mod_lt _ (by omega)
  have e : 64 * (b / 64) + b % 64 = b := Nat.div_add_mod b 64
  rw [e] at h
  simp only [hlt, decide_true, Bool.true_and] at h
  rw [Nat.testBit_eq_decide_div_mod_eq] at h
  by_cases hp : P b = true
  · rw [hp] at h; simpa [hp] using h
  · have hp' : P b = false := by simpa using hp
    rw [hp'] at h
    simp only [decide_eq_false_iff_not] at h
    simp [hp']; omega
end Go.Proofs.Ytmdlefagkfkenab
