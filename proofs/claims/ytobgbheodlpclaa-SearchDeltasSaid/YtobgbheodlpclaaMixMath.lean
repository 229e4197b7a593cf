/-
  Words of 64 bits: turning, rounds and what takes them back, as numbers.
-/
import Derived.WalkKit
namespace Go.Proofs.Ytobgbheodlpclaa

/-- A word's bits turned up by n places. -/
def rotL (w n : Nat) : Nat := w * 2 ^ n % 18446744073709551616 + w / 2 ^ (64 - n)

theorem pow_split (n : Nat) (hn : n ≤ 64) : 2 ^ n * 2 ^ (64 - n) = 18446744073709551616 := by
  rw [← Nat.pow_add, Nat.add_sub_cancel' hn]
theorem rotL_split (a d n : Nat) (hn : n ≤ 64) (_ : a < 2 ^ n) (hd : d < 2 ^ (64 - n)) : rotL (a * 2 ^ (64 - n) + d) n = d * 2 ^ n + a := by
  have hp := pow_split n hn
  have h1 : (a * 2 ^ (64 - n) + d) / 2 ^ (64 - n) = a := by
    rw [Nat.mul_comm, Nat.mul_add_div (Nat.two_pow_pos _), Nat.div_eq_of_lt hd, Nat.add_zero]
  have h2 : (a * 2 ^ (64 - n) + d) * 2 ^ n = d * 2 ^ n + a * 18446744073709551616 := by
    rw [Nat.add_mul, Nat.mul_assoc, Nat.mul_comm (2 ^ (64 - n)), hp, Nat.add_comm]
  have h3 : d * 2 ^ n < 18446744073709551616 := by
    rw [← hp, Nat.mul_comm (2 ^ n)]
    exact Nat.mul_lt_mul_of_pos_right hd (Nat.two_pow_pos _)
  unfold rotL
  rw [h1, h2, Nat.add_mul_mod_self_right, Nat.mod_eq_of_lt h3]
/-- Any word, in two parts. -/
theorem rot_parts (w n : Nat) (hn : n ≤ 64) (hw : w < 18446744073709551616) : ∃ a d, w = a * 2 ^ (64 - n) + d ∧ a < 2 ^ n ∧ d < 2 ^ (64 - n) := by
  refine ⟨w / 2 ^ (64 - n), w % 2 ^ (64 - n), ?_, ?_, Nat.mod_lt _ (Nat.two_pow_pos _)⟩
  · rw [Nat.mul_comm]; exact (Nat.div_add_mod _ _).symm
  · rw [Nat.div_lt_iff_lt_mul (Nat.two_pow_pos _), pow_split n hn]; exact hw
theorem rotL_lt (w n : Nat) (hn : n ≤ 64) (hw : w < 18446744073709551616) : rotL w n < 18446744073709551616 := by
  obtain ⟨a, d, rfl, ha, hd⟩ := rot_parts w n hn hw
  rw [rotL_split a d n hn ha hd, ← pow_split n hn]
  have h : (d + 1) * 2 ^ n ≤ 2 ^ (64 - n) * 2 ^ n := Nat.mul_le_mul_right _ hd
  rw [Nat.mul_comm (2 ^ n)]
  rw [Nat.add_mul] at h
  omega
theorem rotL_back (w n : Nat) (hn : n ≤ 64) (hw : w < 18446744073709551616) : rotL (rotL w n) (64 - n) = w := by
  obtain ⟨a, d, rfl, ha, hd⟩ := rot_parts w n hn hw
  rw [rotL_split a d n hn ha hd]
  have h := rotL_split d a (64 - n) (by omega) hd (by rw [show 64 - (64 - n) = n by omega]; exact ha)
  rw [show 64 - (64 - n) = n by omega] at h
  exact h
theorem rotL_or (w n : Nat) (hn : n ≤ 64) (hw : w < 18446744073709551616) : (w * 2 ^ n % 18446744073709551616) ||| (w / 2 ^ (64 - n)) = rotL w n := by
  obtain ⟨a, d, hw', ha, hd⟩ := rot_parts w n hn hw
  have hp := pow_split n hn
  have h1 : w / 2 ^ (64 - n) = a := by
    rw [hw', Nat.mul_comm, Nat.mul_add_div (Nat.two_pow_pos _), Nat.div_eq_of_lt hd, Nat.add_zero]
  have h2 : w * 2 ^ n % 18446744073709551616 = d * 2 ^ n := by
    have h3 : d * 2 ^ n < 18446744073709551616 := by
      rw [← hp, Nat.mul_comm (2 ^ n)]
      exact Nat.mul_lt_mul_of_pos_right hd (Nat.two_pow_pos _)
    have h2 : (a * 2 ^ (64 - n) + d) * 2 ^ n = d * 2 ^ n + a * 18446744073709551616 := by
      rw [Nat.add_mul, Nat.mul_assoc, Nat.mul_comm (2 ^ (64 - n)), hp, Nat.add_comm]
    rw [hw', h2, Nat.add_mul_mod_self_right, Nat.mod_eq_of_lt h3]
  unfold rotL
  rw [h1, h2, ← Nat.shiftLeft_eq, Nat.shiftLeft_add_eq_or_of_lt ha]
theorem rotL_zero (w : Nat) (hw : w < 18446744073709551616) : rotL w 0 = w := by
  unfold rotL
  rw [Nat.pow_zero, Nat.mul_one, Nat.mod_eq_of_lt hw, Nat.div_eq_of_lt (by omega)]; rfl
theorem rotL_step (w n : Nat) (hn : n < 64) (hw : w < 18446744073709551616) : rotL w (n + 1) = (rotL w n * 2) % 18446744073709551616 + rotL w n / 9223372036854775808 := by
  obtain ⟨a, d, rfl, ha, hd⟩ := rot_parts w (n + 1) (by omega) hw
  rw [rotL_split a d (n + 1) (by omega) ha hd]
  obtain ⟨m, hm⟩ : ∃ m, m = 64 - (n + 1) := ⟨_, rfl⟩
  have hp := pow_split (n + 1) (by omega)
  rw [← hm] at hd hp ⊢
  -- a = 2 a' + c
  have e : a * 2 ^ m + d = a / 2 * 2 ^ (64 - n) + (a % 2 * 2 ^ m + d) := by
    rw [show 64 - n = m + 1 by omega, Nat.pow_succ, show a / 2 * (2 ^ m * 2) = a / 2 * 2 * 2 ^ m by rw [Nat.mul_assoc, Nat.mul_comm 2]]
    rw [← Nat.add_assoc, ← Nat.add_mul]
    congr 2
    omega
  have h2 : a % 2 * 2 ^ m + d < 2 ^ (64 - n) := by
    rw [show 64 - n = m + 1 by omega, Nat.pow_succ]
    have : a % 2 * 2 ^ m ≤ 1 * 2 ^ m := Nat.mul_le_mul_right _ (by omega)
    omega
  have ha2 : a / 2 < 2 ^ n := by rw [Nat.pow_succ] at ha; omega
  rw [e, rotL_split _ _ n (by omega) ha2 h2]
  have h63 : 2 ^ m * 2 ^ n = 9223372036854775808 := by
    rw [Nat.pow_succ] at hp
    have : 2 ^ n * 2 * 2 ^ m = 2 * (2 ^ m * 2 ^ n) := by rw [Nat.mul_comm (2 ^ n) 2, Nat.mul_assoc, Nat.mul_comm (2 ^ n)]
    omega
  have hd63 : d * 2 ^ n + a / 2 < 9223372036854775808 := by
    have h : (d + 1) * 2 ^ n ≤ 2 ^ m * 2 ^ n := Nat.mul_le_mul_right _ hd
    rw [Nat.add_mul] at h
    omega
  rw [show (a % 2 * 2 ^ m + d) * 2 ^ n = a % 2 * 9223372036854775808 + d * 2 ^ n by rw [Nat.add_mul, Nat.mul_assoc, h63], Nat.pow_succ, show d * (2 ^ n * 2) = d * 2 ^ n * 2 by rw [Nat.mul_assoc]]
  generalize d * 2 ^ n = x at *
  rcases Nat.mod_two_eq_zero_or_one a with h | h <;> rw [h] <;> omega

theorem mul_back (x t b : Nat) (hx : x < 18446744073709551616) (h : t * b % 18446744073709551616 = 1) : x * t % 18446744073709551616 * b % 18446744073709551616 = x := by
  rw [Nat.mod_mul_mod, Nat.mul_assoc, Nat.mul_mod, h, Nat.mul_one, Nat.mod_mod, Nat.mod_eq_of_lt hx]
theorem mul_back2 (x t b : Nat) (hx : x < 18446744073709551616) (h : t * b % 18446744073709551616 = 1) : x * b % 18446744073709551616 * t % 18446744073709551616 = x :=
  mul_back x b t hx (by rw [Nat.mul_comm]; exact h)
theorem xor_lt (a b : Nat) (ha : a < 18446744073709551616) (hb : b < 18446744073709551616) : a ^^^ b < 18446744073709551616 := Nat.xor_lt_two_pow (n := 64) ha hb
theorem xor_twice (a b : Nat) : a ^^^ b ^^^ b = a := by rw [Nat.xor_assoc, Nat.xor_self, Nat.xor_zero]

/-- A state behind a round. -/
def hiR (hi lo w : Nat) : Nat := (rotL ((hi ^^^ w) * 0x9e3779b97f4a7c15 % 18446744073709551616) 29 + lo) % 18446744073709551616
def loR (hi lo w : Nat) : Nat := rotL ((lo + w) % 18446744073709551616 * 0xc2b2ae3d27d4eb4f % 18446744073709551616) 41 ^^^ hiR hi lo w
def roundN (s : Nat × Nat) (w : Nat) : Nat × Nat := (hiR s.1 s.2 w, loR s.1 s.2 w)
/-- And ahead of one. -/
def loB (hi lo w : Nat) : Nat := (rotL (lo ^^^ hi) 23 * 0x0ba79078168d4baf % 18446744073709551616 + 18446744073709551616 - w) % 18446744073709551616
def hiB (hi lo w : Nat) : Nat := rotL ((hi + 18446744073709551616 - loB hi lo w) % 18446744073709551616) 35 * 0xf1de83e19937733d % 18446744073709551616 ^^^ w
def backN (s : Nat × Nat) (w : Nat) : Nat × Nat := (hiB s.1 s.2 w, loB s.1 s.2 w)
/-- Two words. -/
def Two (s : Nat × Nat) : Prop := s.1 < 18446744073709551616 ∧ s.2 < 18446744073709551616

theorem roundN_two (s : Nat × Nat) (w : Nat) : Two (roundN s w) := by
  have h1 : hiR s.1 s.2 w < 18446744073709551616 := Nat.mod_lt _ (by decide)
  exact ⟨h1, xor_lt _ _ (rotL_lt _ _ (by decide) (Nat.mod_lt _ (by decide))) h1⟩
theorem backN_two (s : Nat × Nat) (w : Nat) (hw : w < 18446744073709551616) : Two (backN s w) :=
  ⟨xor_lt _ _ (Nat.mod_lt _ (by decide)) hw, Nat.mod_lt _ (by decide)⟩
theorem back_round (s : Nat × Nat) (w : Nat) (hs : Two s) (hw : w < 18446744073709551616) : backN (roundN s w) w = s := by
  obtain ⟨hi, lo⟩ := s
  obtain ⟨h1, h2⟩ := hs
  simp only at h1 h2
  have hl : loB (hiR hi lo w) (loR hi lo w) w = lo := by
    unfold loB loR
    rw [xor_twice, show 23 = 64 - 41 from rfl, rotL_back _ _ (by decide) (Nat.mod_lt _ (by decide)), mul_back _ _ _ (Nat.mod_lt _ (by decide)) (by decide)]
    omega
  have hh : hiB (hiR hi lo w) (loR hi lo w) w = hi := by
    unfold hiB
    rw [hl]
    unfold hiR
    have hr := rotL_lt ((hi ^^^ w) * 0x9e3779b97f4a7c15 % 18446744073709551616) 29 (by decide) (Nat.mod_lt _ (by decide))
    rw [show ((rotL ((hi ^^^ w) * 0x9e3779b97f4a7c15 % 18446744073709551616) 29 + lo) % 18446744073709551616 + 18446744073709551616 - lo) % 18446744073709551616 = rotL ((hi ^^^ w) * 0x9e3779b97f4a7c15 % 18446744073709551616) 29 by omega]
    rw [show 35 = 64 - 29 from rfl, rotL_back _ _ (by decide) (Nat.mod_lt _ (by decide)), mul_back _ _ _ (xor_lt _ _ h1 hw) (by decide), xor_twice]
  show (hiB (hiR hi lo w) (loR hi lo w) w, loB (hiR hi lo w) (loR hi lo w) w) = (hi, lo)
  rw [hl, hh]
theorem round_back (s : Nat × Nat) (w : Nat) (hs : Two s) (hw : w < 18446744073709551616) : roundN (backN s w) w = s := by
  obtain ⟨hi, lo⟩ := s
  obtain ⟨h1, h2⟩ := hs
  simp only at h1 h2
  have hlo : loB hi lo w < 18446744073709551616 := Nat.mod_lt _ (by decide)
  have hh : hiR (hiB hi lo w) (loB hi lo w) w = hi := by
    unfold hiR hiB
    rw [xor_twice, mul_back2 _ _ _ (rotL_lt _ _ (by decide) (Nat.mod_lt _ (by decide))) (by decide)]
    rw [show 29 = 64 - 35 from rfl, rotL_back _ _ (by decide) (Nat.mod_lt _ (by decide))]
    omega
  have hl : loR (hiB hi lo w) (loB hi lo w) w = lo := by
    unfold loR
    rw [hh]
    have hx : (loB hi lo w + w) % 18446744073709551616 = rotL (lo ^^^ hi) 23 * 0x0ba79078168d4baf % 18446744073709551616 := by
      unfold loB
      have : rotL (lo ^^^ hi) 23 * 0x0ba79078168d4baf % 18446744073709551616 < 18446744073709551616 := Nat.mod_lt _ (by decide)
      omega
    rw [hx, mul_back2 _ _ _ (rotL_lt _ _ (by decide) (xor_lt _ _ h2 h1)) (by decide), show 41 = 64 - 23 from rfl, rotL_back _ _ (by decide) (xor_lt _ _ h2 h1), xor_twice]
  show (hiR (hiB hi lo w) (loB hi lo w) w, loR (hiB hi lo w) (loB hi lo w) w) = (hi, lo)
  rw [hh, hl]
theorem round_inj (s t : Nat × Nat) (w : Nat) (hs : Two s) (ht : Two t) (hw : w < 18446744073709551616) (h : roundN s w = roundN t w) : s = t := by
  rw [← back_round s w hs hw, h, back_round t w ht hw]
theorem round_word_inj (s : Nat × Nat) (v w : Nat) (hv : v < 18446744073709551616) (hw : w < 18446744073709551616) (h : roundN s v = roundN s w) : v = w := by
  have h1 : hiR s.1 s.2 v = hiR s.1 s.2 w := congrArg Prod.fst h
  have h2 : loR s.1 s.2 v = loR s.1 s.2 w := congrArg Prod.snd h
  unfold loR at h2
  rw [h1] at h2
  have h3 := congrArg (fun x => x ^^^ hiR s.1 s.2 w) h2
  simp only [xor_twice] at h3
  have h4 := congrArg (fun x => rotL x 23) h3
  rw [show (23 : Nat) = 64 - 41 from rfl, rotL_back _ _ (by decide) (Nat.mod_lt _ (by decide)), rotL_back _ _ (by decide) (Nat.mod_lt _ (by decide))] at h4
  have h5 := congrArg (fun x => x * 0x0ba79078168d4baf % 18446744073709551616) h4
  rw [mul_back _ _ _ (Nat.mod_lt _ (by decide)) (by decide), mul_back _ _ _ (Nat.mod_lt _ (by decide)) (by decide)] at h5
  clear h1 h2 h3 h4 h
  omega

/-- A state behind rounds, a sum of so many bytes whose words have made a state. -/
def alongN (s : Nat × Nat) (l : List Nat) : Nat × Nat := l.foldl roundN s
def closedN (s : Nat × Nat) (n : Nat) : Nat × Nat := alongN s [n, 18446744073709551615, 0, 0]
def startN : Nat × Nat := (0x243f6a8885a308d3, 0x13198a2e03707344)
theorem alongN_two (s : Nat × Nat) (l : List Nat) (hs : Two s) : Two (alongN s l) := by
  unfold alongN
  induction l generalizing s with
  | nil => exact hs
  | cons x l ih => exact ih _ (roundN_two _ _)
theorem startN_two : Two startN := ⟨by decide, by decide⟩
theorem closed_inj (s t : Nat × Nat) (n : Nat) (hs : Two s) (ht : Two t) (hn : n < 18446744073709551616) (h : closedN s n = closedN t n) : s = t := by
  unfold closedN alongN at h
  simp only [List.foldl_cons, List.foldl_nil] at h
  exact round_inj _ _ _ hs ht hn (round_inj _ _ _ (roundN_two _ _) (roundN_two _ _) (by decide) (round_inj _ _ _ (roundN_two _ _) (roundN_two _ _) (by decide) (round_inj _ _ _ (roundN_two _ _) (roundN_two _ _) (by decide) h)))
end Go.Proofs.Ytobgbheodlpclaa
