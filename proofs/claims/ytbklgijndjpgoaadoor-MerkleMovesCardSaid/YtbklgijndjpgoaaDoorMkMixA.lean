/-
  Texts that belong together: MixMath, MixRound, MixAlong, MixOne, MixWord, MixHash.
-/
import Derived.WalkKit
import Derived.Test.YtbklgijndjpgoaaDoorMkBase
import Derived.Laws.BitsAllLaws
/-
  Words of 64 bits: turning, rounds and what takes them back, as numbers.
-/
namespace Go.Proofs.YtbklgijndjpgoaaDoor

/-- A word's bits turned up by n places. -/
def rotL (w n : Nat) : Nat := w * 2 ^ n % 18446744073709551616 + w / 2 ^ (64 - n)

theorem pow_split (n : Nat) (hn : n ≤ 64) : 2 ^ n * 2 ^ (64 - n) = 18446744073709551616 := by
  rw [← Nat.pow_add, Nat.add_sub_cancel' hn]
theorem rotL_split (a d n : Nat) (hn : n ≤ 64) (_ : a < 2 ^ n) (hd : d < 2 ^ (64 - n)) : rotL (a * 2 ^ (64 - n) + d) n = d * 2 ^ n + a := by
  have hp := pow_split n hn
  have h1 : (a * 2 ^ (64 - n) + d) / 2 ^ (64 - n) = a := by
    rw [Nat.mul_comm, Nat.mul_add_div (Nat.two_pow_pos _), Nat.div_eq_of_lt hd, Nat.add_zero]
  have h2 : (a * 2 ^ (64 - n) + d) * 2 ^ n = d * 2 ^ n + a * 18446744073709551616 := by
    rw [Nat.add_mul, Nat.mul_assoc, Nat.mul_comm (2 ^ (64 - n)), hp, Nat.add_comm]
  have h3 : d * 2 ^ n < 18446744073709551616 := by
    rw [← hp, Nat.mul_comm (2 ^ n)]
    exact Nat.mul_lt_mul_of_pos_right hd (Nat.two_pow_pos _)
  unfold rotL
  rw [h1, h2, Nat.add_mul_mod_self_right, Nat.mod_eq_of_lt h3]
/-- Any word, in two parts. -/
theorem rot_parts (w n : Nat) (hn : n ≤ 64) (hw : w < 18446744073709551616) : ∃ a d, w = a * 2 ^ (64 - n) + d ∧ a < 2 ^ n ∧ d < 2 ^ (64 - n) := by
  refine ⟨w / 2 ^ (64 - n), w % 2 ^ (64 - n), ?_, ?_, Nat.mod_lt _ (Nat.two_pow_pos _)⟩
  · rw [Nat.mul_comm]; exact (Nat.div_add_mod _ _).symm
  · rw [Nat.div_lt_iff_lt_mul (Nat.two_pow_pos _), pow_split n hn]; exact hw
theorem rotL_lt (w n : Nat) (hn : n ≤ 64) (hw : w < 18446744073709551616) : rotL w n < 18446744073709551616 := by
  obtain ⟨a, d, rfl, ha, hd⟩ := rot_parts w n hn hw
  rw [rotL_split a d n hn ha hd, ← pow_split n hn]
  have h : (d + 1) * 2 ^ n ≤ 2 ^ (64 - n) * 2 ^ n := Nat.mul_le_mul_right _ hd
  rw [Nat.mul_comm (2 ^ n)]
  rw [Nat.add_mul] at h
  omega
theorem rotL_back (w n : Nat) (hn : n ≤ 64) (hw : w < 18446744073709551616) : rotL (rotL w n) (64 - n) = w := by
  obtain ⟨a, d, rfl, ha, hd⟩ := rot_parts w n hn hw
  rw [rotL_split a d n hn ha hd]
  have h := rotL_split d a (64 - n) (by omega) hd (by rw [show 64 - (64 - n) = n by omega]; exact ha)
  rw [show 64 - (64 - n) = n by omega] at h
  exact h
theorem rotL_or (w n : Nat) (hn : n ≤ 64) (hw : w < 18446744073709551616) : (w * 2 ^ n % 18446744073709551616) ||| (w / 2 ^ (64 - n)) = rotL w n := by
  obtain ⟨a, d, hw', ha, hd⟩ := rot_parts w n hn hw
  have hp := pow_split n hn
  have h1 : w / 2 ^ (64 - n) = a := by
    rw [hw', Nat.mul_comm, Nat.mul_add_div (Nat.two_pow_pos _), Nat.div_eq_of_lt hd, Nat.add_zero]
  have h2 : w * 2 ^ n % 18446744073709551616 = d * 2 ^ n := by
    have h3 : d * 2 ^ n < 18446744073709551616 := by
      rw [← hp, Nat.mul_comm (2 ^ n)]
      exact Nat.mul_lt_mul_of_pos_right hd (Nat.two_pow_pos _)
    have h2 : (a * 2 ^ (64 - n) + d) * 2 ^ n = d * 2 ^ n + a * 18446744073709551616 := by
      rw [Nat.add_mul, Nat.mul_assoc, Nat.mul_comm (2 ^ (64 - n)), hp, Nat.add_comm]
    rw [hw', h2, Nat.add_mul_mod_self_right, Nat.mod_eq_of_lt h3]
  unfold rotL
  rw [h1, h2, ← Nat.shiftLeft_eq, Nat.shiftLeft_add_eq_or_of_lt ha]
theorem rotL_zero (w : Nat) (hw : w < 18446744073709551616) : rotL w 0 = w := by
  unfold rotL
  rw [Nat.pow_zero, Nat.mul_one, Nat.mod_eq_of_lt hw, Nat.div_eq_of_lt (by omega)]; rfl
theorem rotL_step (w n : Nat) (hn : n < 64) (hw : w < 18446744073709551616) : rotL w (n + 1) = (rotL w n * 2) % 18446744073709551616 + rotL w n / 9223372036854775808 := by
  obtain ⟨a, d, rfl, ha, hd⟩ := rot_parts w (n + 1) (by omega) hw
  rw [rotL_split a d (n + 1) (by omega) ha hd]
  obtain ⟨m, hm⟩ : ∃ m, m = 64 - (n + 1) := ⟨_, rfl⟩
  have hp := pow_split (n + 1) (by omega)
  rw [← hm] at hd hp ⊢
  -- a = 2 a' + c
  have e : a * 2 ^ m + d = a / 2 * 2 ^ (64 - n) + (a % 2 * 2 ^ m + d) := by
    rw [show 64 - n = m + 1 by omega, Nat.pow_succ, show a / 2 * (2 ^ m * 2) = a / 2 * 2 * 2 ^ m by rw [Nat.mul_assoc, Nat.mul_comm 2]]
    rw [← Nat.add_assoc, ← Nat.add_mul]
    congr 2
    omega
  have h2 : a % 2 * 2 ^ m + d < 2 ^ (64 - n) := by
    rw [show 64 - n = m + 1 by omega, Nat.pow_succ]
    have : a % 2 * 2 ^ m ≤ 1 * 2 ^ m := Nat.mul_le_mul_right _ (by omega)
    omega
  have ha2 : a / 2 < 2 ^ n := by rw [Nat.pow_succ] at ha; omega
  rw [e, rotL_split _ _ n (by omega) ha2 h2]
  have h63 : 2 ^ m * 2 ^ n = 9223372036854775808 := by
    rw [Nat.pow_succ] at hp
    have : 2 ^ n * 2 * 2 ^ m = 2 * (2 ^ m * 2 ^ n) := by rw [Nat.mul_comm (2 ^ n) 2, Nat.mul_assoc, Nat.mul_comm (2 ^ n)]
    omega
  have hd63 : d * 2 ^ n + a / 2 < 9223372036854775808 := by
    have h : (d + 1) * 2 ^ n ≤ 2 ^ m * 2 ^ n := Nat.mul_le_mul_right _ hd
    rw [Nat.add_mul] at h
    omega
  rw [show (a % 2 * 2 ^ m + d) * 2 ^ n = a % 2 * 9223372036854775808 + d * 2 ^ n by rw [Nat.add_mul, Nat.mul_assoc, h63], Nat.pow_succ, show d * (2 ^ n * 2) = d * 2 ^ n * 2 by rw [Nat.mul_assoc]]
  generalize d * 2 ^ n = x at *
  rcases Nat.mod_two_eq_zero_or_one a with h | h <;> rw [h] <;> omega

theorem mul_back (x t b : Nat) (hx : x < 18446744073709551616) (h : t * b % 18446744073709551616 = 1) : x * t % 18446744073709551616 * b % 18446744073709551616 = x := by
  rw [Nat.mod_mul_mod, Nat.mul_assoc, Nat.mul_mod, h, Nat.mul_one, Nat.mod_mod, Nat.mod_eq_of_lt hx]
theorem mul_back2 (x t b : Nat) (hx : x < 18446744073709551616) (h : t * b % 18446744073709551616 = 1) : x * b % 18446744073709551616 * t % 18446744073709551616 = x :=
  mul_back x b t hx (by rw [Nat.mul_comm]; exact h)
theorem xor_lt (a b : Nat) (ha : a < 18446744073709551616) (hb : b < 18446744073709551616) : a ^^^ b < 18446744073709551616 := Nat.xor_lt_two_pow (n := 64) ha hb
theorem xor_twice (a b : Nat) : a ^^^ b ^^^ b = a := by rw [Nat.xor_assoc, Nat.xor_self, Nat.xor_zero]

/-- A state behind a round. -/
def hiR (hi lo w : Nat) : Nat := (rotL ((hi ^^^ w) * 0x9e3779b97f4a7c15 % 18446744073709551616) 29 + lo) % 18446744073709551616
def loR (hi lo w : Nat) : Nat := rotL ((lo + w) % 18446744073709551616 * 0xc2b2ae3d27d4eb4f % 18446744073709551616) 41 ^^^ hiR hi lo w
def roundN (s : Nat × Nat) (w : Nat) : Nat × Nat := (hiR s.1 s.2 w, loR s.1 s.2 w)
/-- And ahead of one. -/
def loB (hi lo w : Nat) : Nat := (rotL (lo ^^^ hi) 23 * 0x0ba79078168d4baf % 18446744073709551616 + 18446744073709551616 - w) % 18446744073709551616
def hiB (hi lo w : Nat) : Nat := rotL ((hi + 18446744073709551616 - loB hi lo w) % 18446744073709551616) 35 * 0xf1de83e19937733d % 18446744073709551616 ^^^ w
def backN (s : Nat × Nat) (w : Nat) : Nat × Nat := (hiB s.1 s.2 w, loB s.1 s.2 w)
/-- Two words. -/
def Two (s : Nat × Nat) : Prop := s.1 < 18446744073709551616 ∧ s.2 < 18446744073709551616

theorem roundN_two (s : Nat × Nat) (w : Nat) : Two (roundN s w) := by
  have h1 : hiR s.1 s.2 w < 18446744073709551616 := Nat.mod_lt _ (by decide)
  exact ⟨h1, xor_lt _ _ (rotL_lt _ _ (by decide) (Nat.mod_lt _ (by decide))) h1⟩
theorem backN_two (s : Nat × Nat) (w : Nat) (hw : w < 18446744073709551616) : Two (backN s w) :=
  ⟨xor_lt _ _ (Nat.mod_lt _ (by decide)) hw, Nat.mod_lt _ (by decide)⟩
theorem back_round (s : Nat × Nat) (w : Nat) (hs : Two s) (hw : w < 18446744073709551616) : backN (roundN s w) w = s := by
  obtain ⟨hi, lo⟩ := s
  obtain ⟨h1, h2⟩ := hs
  simp only at h1 h2
  have hl : loB (hiR hi lo w) (loR hi lo w) w = lo := by
    unfold loB loR
    rw [xor_twice, show 23 = 64 - 41 from rfl, rotL_back _ _ (by decide) (Nat.mod_lt _ (by decide)), mul_back _ _ _ (Nat.mod_lt _ (by decide)) (by decide)]
    omega
  have hh : hiB (hiR hi lo w) (loR hi lo w) w = hi := by
    unfold hiB
    rw [hl]
    unfold hiR
    have hr := rotL_lt ((hi ^^^ w) * 0x9e3779b97f4a7c15 % 18446744073709551616) 29 (by decide) (Nat.mod_lt _ (by decide))
    rw [show ((rotL ((hi ^^^ w) * 0x9e3779b97f4a7c15 % 18446744073709551616) 29 + lo) % 18446744073709551616 + 18446744073709551616 - lo) % 18446744073709551616 = rotL ((hi ^^^ w) * 0x9e3779b97f4a7c15 % 18446744073709551616) 29 by omega]
    rw [show 35 = 64 - 29 from rfl, rotL_back _ _ (by decide) (Nat.mod_lt _ (by decide)), mul_back _ _ _ (xor_lt _ _ h1 hw) (by decide), xor_twice]
  show (hiB (hiR hi lo w) (loR hi lo w) w, loB (hiR hi lo w) (loR hi lo w) w) = (hi, lo)
  rw [hl, hh]
theorem round_back (s : Nat × Nat) (w : Nat) (hs : Two s) (hw : w < 18446744073709551616) : roundN (backN s w) w = s := by
  obtain ⟨hi, lo⟩ := s
  obtain ⟨h1, h2⟩ := hs
  simp only at h1 h2
  have hlo : loB hi lo w < 18446744073709551616 := Nat.mod_lt _ (by decide)
  have hh : hiR (hiB hi lo w) (loB hi lo w) w = hi := by
    unfold hiR hiB
    rw [xor_twice, mul_back2 _ _ _ (rotL_lt _ _ (by decide) (Nat.mod_lt _ (by decide))) (by decide)]
    rw [show 29 = 64 - 35 from rfl, rotL_back _ _ (by decide) (Nat.mod_lt _ (by decide))]
    omega
  have hl : loR (hiB hi lo w) (loB hi lo w) w = lo := by
    unfold loR
    rw [hh]
    have hx : (loB hi lo w + w) % 18446744073709551616 = rotL (lo ^^^ hi) 23 * 0x0ba79078168d4baf % 18446744073709551616 := by
      unfold loB
      have : rotL (lo ^^^ hi) 23 * 0x0ba79078168d4baf % 18446744073709551616 < 18446744073709551616 := Nat.mod_lt _ (by decide)
      omega
    rw [hx, mul_back2 _ _ _ (rotL_lt _ _ (by decide) (xor_lt _ _ h2 h1)) (by decide), show 41 = 64 - 23 from rfl, rotL_back _ _ (by decide) (xor_lt _ _ h2 h1), xor_twice]
  show (hiR (hiB hi lo w) (loB hi lo w) w, loR (hiB hi lo w) (loB hi lo w) w) = (hi, lo)
  rw [hh, hl]
theorem round_inj (s t : Nat × Nat) (w : Nat) (hs : Two s) (ht : Two t) (hw : w < 18446744073709551616) (h : roundN s w = roundN t w) : s = t := by
  rw [← back_round s w hs hw, h, back_round t w ht hw]
theorem round_word_inj (s : Nat × Nat) (v w : Nat) (hv : v < 18446744073709551616) (hw : w < 18446744073709551616) (h : roundN s v = roundN s w) : v = w := by
  have h1 : hiR s.1 s.2 v = hiR s.1 s.2 w := congrArg Prod.fst h
  have h2 : loR s.1 s.2 v = loR s.1 s.2 w := congrArg Prod.snd h
  unfold loR at h2
  rw [h1] at h2
  have h3 := congrArg (fun x => x ^^^ hiR s.1 s.2 w) h2
  simp only [xor_twice] at h3
  have h4 := congrArg (fun x => rotL x 23) h3
  rw [show (23 : Nat) = 64 - 41 from rfl, rotL_back _ _ (by decide) (Nat.mod_lt _ (by decide)), rotL_back _ _ (by decide) (Nat.mod_lt _ (by decide))] at h4
  have h5 := congrArg (fun x => x * 0x0ba79078168d4baf % 18446744073709551616) h4
  rw [mul_back _ _ _ (Nat.mod_lt _ (by decide)) (by decide), mul_back _ _ _ (Nat.mod_lt _ (by decide)) (by decide)] at h5
  clear h1 h2 h3 h4 h
  omega

/-- A state behind rounds, a sum of so many bytes whose words have made a state. -/
def alongN (s : Nat × Nat) (l : List Nat) : Nat × Nat := l.foldl roundN s
def closedN (s : Nat × Nat) (n : Nat) : Nat × Nat := alongN s [n, 18446744073709551615, 0, 0]
def startN : Nat × Nat := (0x243f6a8885a308d3, 0x13198a2e03707344)
theorem alongN_two (s : Nat × Nat) (l : List Nat) (hs : Two s) : Two (alongN s l) := by
  unfold alongN
  induction l generalizing s with
  | nil => exact hs
  | cons x l ih => exact ih _ (roundN_two _ _)
theorem startN_two : Two startN := ⟨by decide, by decide⟩
theorem closed_inj (s t : Nat × Nat) (n : Nat) (hs : Two s) (ht : Two t) (hn : n < 18446744073709551616) (h : closedN s n = closedN t n) : s = t := by
  unfold closedN alongN at h
  simp only [List.foldl_cons, List.foldl_nil] at h
  exact round_inj _ _ _ hs ht hn (round_inj _ _ _ (roundN_two _ _) (roundN_two _ _) (by decide) (round_inj _ _ _ (roundN_two _ _) (roundN_two _ _) (by decide) (round_inj _ _ _ (roundN_two _ _) (roundN_two _ _) (by decide) h)))
end Go.Proofs.YtbklgijndjpgoaaDoor
/-
  mix: RotateLeft64, round, back.
-/
namespace Go.Proofs.YtbklgijndjpgoaaDoor
open Go.RowKit
set_option maxRecDepth 100000

theorem rot_bits (x n : Nat) (hx : x < 18446744073709551616) (hn : n ≤ 64) : bits .or .u64 ((x : Int) * 2 ^ n % 18446744073709551616) ((x : Int) / 2 ^ (64 - n)) = ((rotL x n : Nat) : Int) := by
  have e1 : ((x : Int) * 2 ^ n % 18446744073709551616) = ((x * 2 ^ n % 18446744073709551616 : Nat) : Int) := by simp
  have e2 : ((x : Int) / 2 ^ (64 - n)) = ((x / 2 ^ (64 - n) : Nat) : Int) := by simp
  rw [e1, e2, u64_or_nat _ _ (Nat.mod_lt _ (by decide)) (Nat.lt_of_le_of_lt (Nat.div_le_self _ _) hx), rotL_or x n hn hx]
set_option maxHeartbeats 1000000 in
theorem rot29 (x : Nat) (w : World) (hx : x < 18446744073709551616) : Calls Tryd.prog 80 #[.int .u64 x, .int .i64 29] w fun e w' => e = .returned (.int .u64 (rotL x 29 : Nat)) ∧ w' = w := by
  have h : bits .or .u64 (IntKind.u64.wrap ((x : Int) * 536870912)) ((x : Int) / 34359738368) = ((rotL x 29 : Nat) : Int) := by
    rw [IntKind.wrap_u64]
    exact rot_bits x 29 hx (by decide)
  have hb : bits .and .u64 29 63 = 29 := by kernel_rfl
  go_enter Tryd.func80, Tryd.ntmps80
  go_wp2_with fail
  refine bodyPost_ret (results_tmp rfl _ _ _) rfl ⟨rfl, rfl⟩
set_option maxHeartbeats 1000000 in
theorem rot41 (x : Nat) (w : World) (hx : x < 18446744073709551616) : Calls Tryd.prog 80 #[.int .u64 x, .int .i64 41] w fun e w' => e = .returned (.int .u64 (rotL x 41 : Nat)) ∧ w' = w := by
  have h : bits .or .u64 (IntKind.u64.wrap ((x : Int) * 2199023255552)) ((x : Int) / 8388608) = ((rotL x 41 : Nat) : Int) := by
    rw [IntKind.wrap_u64]
    exact rot_bits x 41 hx (by decide)
  have hb : bits .and .u64 41 63 = 41 := by kernel_rfl
  go_enter Tryd.func80, Tryd.ntmps80
  go_wp2_with fail
  refine bodyPost_ret (results_tmp rfl _ _ _) rfl ⟨rfl, rfl⟩
set_option maxHeartbeats 1000000 in
theorem rotm41 (x : Nat) (w : World) (hx : x < 18446744073709551616) : Calls Tryd.prog 80 #[.int .u64 x, .int .i64 (-41)] w fun e w' => e = .returned (.int .u64 (rotL x 23 : Nat)) ∧ w' = w := by
  have h : bits .or .u64 (IntKind.u64.wrap ((x : Int) * 8388608)) ((x : Int) / 2199023255552) = ((rotL x 23 : Nat) : Int) := by
    rw [IntKind.wrap_u64]
    exact rot_bits x 23 hx (by decide)
  have hb : bits .and .u64 (IntKind.u64.wrap (-41)) 63 = 23 := by kernel_rfl
  go_enter Tryd.func80, Tryd.ntmps80
  go_wp2_with fail
  refine bodyPost_ret (results_tmp rfl _ _ _) rfl ⟨rfl, rfl⟩
set_option maxHeartbeats 1000000 in
theorem rotm29 (x : Nat) (w : World) (hx : x < 18446744073709551616) : Calls Tryd.prog 80 #[.int .u64 x, .int .i64 (-29)] w fun e w' => e = .returned (.int .u64 (rotL x 35 : Nat)) ∧ w' = w := by
  have h : bits .or .u64 (IntKind.u64.wrap ((x : Int) * 34359738368)) ((x : Int) / 536870912) = ((rotL x 35 : Nat) : Int) := by
    rw [IntKind.wrap_u64]
    exact rot_bits x 35 hx (by decide)
  have hb : bits .and .u64 (IntKind.u64.wrap (-29)) 63 = 35 := by kernel_rfl
  go_enter Tryd.func80, Tryd.ntmps80
  go_wp2_with fail
  refine bodyPost_ret (results_tmp rfl _ _ _) rfl ⟨rfl, rfl⟩

/-- A state, as a value. -/
def stV (p : Nat × Nat) : Value := .agg #[.int .u64 (p.1 : Nat), .int .u64 (p.2 : Nat)]
theorem wrap_mod (n : Nat) : IntKind.u64.wrap (n : Int) = ((n % 18446744073709551616 : Nat) : Int) := by
  rw [IntKind.wrap_u64]; omega
theorem two_rows (w : World) (X Y : Array Value) (t u : TypeId) : ((w.alloc (.cells X t)).alloc (.cells Y u)).heap[w.heap.size]? = some (.cells X t (0, 0)) ∧ ((w.alloc (.cells X t)).alloc (.cells Y u)).heap[w.heap.size + 1]? = some (.cells Y u (0, 0)) ∧ Below w.heap.size w ((w.alloc (.cells X t)).alloc (.cells Y u)) := by
  refine ⟨?_, ?_, ((Below.refl _ w).alloc (Nat.le_refl _) _).alloc (by simp) _⟩
  · rw [Below.heap_alloc _ _ _ (by simp)]
    exact World.alloc_heap_new _ _
  · have h := World.alloc_heap_new (w.alloc (.cells X t)) (Obj.cells Y u)
    simp only [World.size_alloc] at h
    exact h
/-- The world behind a result's store, and what it reads. -/
theorem set_two (w w3 : World) (n : Nat) (a b x y : Value) (t : TypeId) (h : w3.heap[n]? = some (.cells #[a, b] t (0, 0))) (hn : w.heap.size ≤ n) (hB : Below w.heap.size w w3) :
    ((w3.setCell ⟨n, 0, none⟩ x).setCell ⟨n, 1, none⟩ y).cell? ⟨n, 0, none⟩ = some x ∧ ((w3.setCell ⟨n, 0, none⟩ x).setCell ⟨n, 1, none⟩ y).cell? ⟨n, 1, none⟩ = some y ∧ Below w.heap.size w ((w3.setCell ⟨n, 0, none⟩ x).setCell ⟨n, 1, none⟩ y) := by
  have hfin := heap_setCell_same _ n 1 _ _ y (heap_setCell_same w3 n 0 _ _ x h)
  exact ⟨cell_of_row _ _ _ _ _ _ hfin, cell_of_row _ _ _ _ _ _ hfin, (hB.setCell (p := ⟨n, 0, none⟩) hn _).setCell (p := ⟨n, 1, none⟩) hn _⟩

set_option maxHeartbeats 2000000 in
theorem round_any (p : Nat × Nat) (v : Nat) (w : World) (hp : Two p) (hv : v < 18446744073709551616) :
    Calls Tryd.prog 67 #[stV p, .int .u64 v] w fun e w' => e = .returned (stV (roundN p v)) ∧ Below w.heap.size w w' := by
  obtain ⟨hi, lo⟩ := p
  obtain ⟨h1, h2⟩ := hp
  have HR := hide (show roundN (hi, lo) v = (hiR hi lo v, loR hi lo v) from rfl)
  rw [HR.out]
  simp only at h1 h2
  unfold loR
  have hx := u64_xor_nat hi v h1 hv
  have hxl := xor_lt hi v h1 hv
  have hm : IntKind.u64.wrap (((hi ^^^ v : Nat) : Int) * 11400714819323198485) = (((hi ^^^ v) * 0x9e3779b97f4a7c15 % 18446744073709551616 : Nat) : Int) := wrap_mod ((hi ^^^ v) * 0x9e3779b97f4a7c15)
  have hm1 : (hi ^^^ v) * 0x9e3779b97f4a7c15 % 18446744073709551616 < 18446744073709551616 := Nat.mod_lt _ (by decide)
  have hh : IntKind.u64.wrap (((rotL ((hi ^^^ v) * 0x9e3779b97f4a7c15 % 18446744073709551616) 29 : Nat) : Int) + (lo : Int)) = ((hiR hi lo v : Nat) : Int) := wrap_mod (rotL ((hi ^^^ v) * 0x9e3779b97f4a7c15 % 18446744073709551616) 29 + lo)
  have hhl : hiR hi lo v < 18446744073709551616 := Nat.mod_lt _ (by decide)
  have ha : IntKind.u64.wrap ((lo : Int) + (v : Int)) = (((lo + v) % 18446744073709551616 : Nat) : Int) := wrap_mod (lo + v)
  have hb : IntKind.u64.wrap ((((lo + v) % 18446744073709551616 : Nat) : Int) * 14029467366897019727) = (((lo + v) % 18446744073709551616 * 0xc2b2ae3d27d4eb4f % 18446744073709551616 : Nat) : Int) := wrap_mod ((lo + v) % 18446744073709551616 * 0xc2b2ae3d27d4eb4f)
  have hbl : (lo + v) % 18446744073709551616 * 0xc2b2ae3d27d4eb4f % 18446744073709551616 < 18446744073709551616 := Nat.mod_lt _ (by decide)
  have hy := u64_xor_nat (rotL ((lo + v) % 18446744073709551616 * 0xc2b2ae3d27d4eb4f % 18446744073709551616) 41) (hiR hi lo v) (rotL_lt _ _ (by decide) hbl) hhl
  generalize hiR hi lo v = H at hh hhl hy ⊢
  generalize (lo + v) % 18446744073709551616 * 0xc2b2ae3d27d4eb4f % 18446744073709551616 = m2 at hb hbl hy ⊢
  generalize (lo + v) % 18446744073709551616 = a2 at ha hb
  generalize (hi ^^^ v) * 0x9e3779b97f4a7c15 % 18446744073709551616 = m1 at hm hm1 hh
  generalize hi ^^^ v = x1 at hx hxl hm
  generalize rotL m2 41 ^^^ H = L at hy ⊢
  obtain ⟨r0, r1, hB⟩ := two_rows w #[.int .u64 (hi : Nat), .int .u64 (lo : Nat)] #[.int .u64 0, .int .u64 0] 74 74
  unfold stV
  go_enter Tryd.func67, Tryd.ntmps67
  go_wp2_with fail
  generalize ((w.alloc (.cells #[.int .u64 (hi : Nat), .int .u64 (lo : Nat)] 74)).alloc (.cells #[.int .u64 0, .int .u64 0] 74)) = w2 at r0 r1 hB ⊢
  have c0 : w2.cell? ⟨w.heap.size, 0, none⟩ = some (.int .u64 (hi : Nat)) := cell_of_row _ _ _ _ _ _ r0
  have c1 : w2.cell? ⟨w.heap.size, 1, none⟩ = some (.int .u64 (lo : Nat)) := cell_of_row _ _ _ _ _ _ r0
  clear h1 h2 hv hxl hhl r0
  go_quiet ((go_at_call 80; exact Calls.quiet_of_same (rot29 _ _ hm1)))
  have r2 : (w2.drewN nq).heap[w.heap.size + 1]? = some (.cells #[.int .u64 0, .int .u64 0] 74 (0, 0)) := r1
  have e0 : (w2.drewN nq).cell? ⟨w.heap.size, 0, none⟩ = some (.int .u64 (hi : Nat)) := c0
  have e1 : (w2.drewN nq).cell? ⟨w.heap.size, 1, none⟩ = some (.int .u64 (lo : Nat)) := c1
  have hB2 := below_drewN hB nq
  clear c0 c1 r1 hB
  generalize w2.drewN nq = w3 at r2 hB2 e0 e1 ⊢
  have d0 : w3.cell? ⟨w.heap.size + 1, 0, none⟩ = some (.int .u64 0) := cell_of_row _ _ _ _ _ _ r2
  have d1 : w3.cell? ⟨w.heap.size + 1, 1, none⟩ = some (.int .u64 0) := cell_of_row _ _ _ _ _ _ r2
  have z0 : w3.frozen? ⟨w.heap.size + 1, 0, none⟩ = false := frozen_of_row _ _ _ _ _ r2
  have z1 : w3.frozen? ⟨w.heap.size + 1, 1, none⟩ = false := frozen_of_row _ _ _ _ _ r2
  have HX := hide (set_two w w3 (w.heap.size + 1) _ _ (.int .u64 (H : Nat)) (.int .u64 (L : Nat)) _ r2 (by omega) hB2)
  clear r2 hB2
  go_wp2_with fail
  refine (rot41 _ _ hbl).mono ?_
  rintro e w4 ⟨rfl, rfl⟩
  go_wp2_with fail
  obtain ⟨y0, y1, hBf⟩ := HX.out
  refine bodyPost_ret (v := .agg #[.int .u64 (H : Nat), .int .u64 (L : Nat)]) (by simp [results, Tryd.results67, go_sem, y0, y1]) rfl ⟨rfl, hBf⟩

end Go.Proofs.YtbklgijndjpgoaaDoor
/-
  mix: along.
-/
namespace Go.Proofs.YtbklgijndjpgoaaDoor
open Go.RowKit
set_option maxRecDepth 100000

/-- Words that lie at an address, below block B. -/
def RdW (w : World) (B : Nat) (A : Option Addr) (l : List Nat) : Prop :=
  ∀ k x, l[k]? = some x → ∃ ad : Addr, A = some ad ∧ ad.block < B ∧ w.cell? (ad.add k) = some (.int .u64 (x : Nat))
theorem RdW.below {w w' : World} {B B' : Nat} {A : Option Addr} {l : List Nat} (h : RdW w B A l) (hb : Below B' w w') (hB : B ≤ B') : RdW w' B A l := fun k x hx => by
  obtain ⟨ad, e, hlt, hc⟩ := h k x hx
  exact ⟨ad, e, hlt, (hb.cell (by rw [add_block]; omega)).trans hc⟩
theorem RdW.mono {w : World} {B B' : Nat} {A : Option Addr} {l : List Nat} (h : RdW w B A l) (hB : B ≤ B') : RdW w B' A l := fun k x hx => by
  obtain ⟨ad, e, hlt, hc⟩ := h k x hx
  exact ⟨ad, e, by omega, hc⟩
theorem RdW.step {w w' : World} {A : Option Addr} {l : List Nat} (h : RdW w w.heap.size A l) (hb : Below w.heap.size w w') : RdW w' w'.heap.size A l := (h.below hb (Nat.le_refl _)).mono hb.size

set_option maxHeartbeats 2000000 in
theorem along_round (A : Option Addr) (c : Nat) (l : List Nat) (p : Nat × Nat) (w : World) (hp : Two p) (hl : ∀ x ∈ l, x < 18446744073709551616) (hR : RdW w w.heap.size A l) (hlen : l.length ≤ 1000000) :
    Calls Tryd.prog 66 #[stV p, .func (.func 67) #[] #[], .slice A l.length c] w fun e w' => e = .returned (stV (l.foldl roundN p)) ∧ Below w.heap.size w w' := by
  obtain ⟨r0, r1, hB⟩ := two_rows w #[.int .u64 (p.1 : Nat), .int .u64 (p.2 : Nat)] #[.int .u64 0, .int .u64 0] 74 74
  have HP := hide hp
  have hpv : stV p = .agg #[.int .u64 (p.1 : Nat), .int .u64 (p.2 : Nat)] := rfl
  rw [hpv]
  clear hpv
  go_enter Tryd.func66, Tryd.ntmps66
  go_wp2_with fail
  generalize ((w.alloc (.cells #[.int .u64 (p.1 : Nat), .int .u64 (p.2 : Nat)] 74)).alloc (.cells #[.int .u64 0, .int .u64 0] 74)) = w2 at r0 r1 hB ⊢
  go_loopw [8, 11] (fun x i wr => ∃ (k : Nat) (q : Nat × Nat), k ≤ l.length ∧ i = .int .i64 k ∧ Hid (q = (l.take k).foldl roundN p) ∧ Hid (Two q) ∧ wr.heap[w.heap.size]? = some (.cells #[.int .u64 (q.1 : Nat), .int .u64 (q.2 : Nat)] 74 (0, 0)) ∧ wr.heap[w.heap.size + 1]? = some (.cells #[.int .u64 0, .int .u64 0] 74 (0, 0)) ∧ Below w.heap.size w wr) (fun _ i _ => l.length - (intOf i).toNat)
  case atStart => exact ⟨0, p, Nat.zero_le _, rfl, hide rfl, HP, r0, r1, hB⟩
  case round =>
    obtain ⟨k, q, hk, rfl, HQ, HT, r0, r1, hB⟩ := hrel
    by_cases hlt : (k : Int) < l.length
    · have hkl : k < l.length := by omega
      have hx := List.getElem?_eq_getElem hkl
      have hxl := hl _ (List.getElem_mem hkl)
      obtain ⟨ad, rfl, hb, hc⟩ := (hR.below hB (Nat.le_refl _)) k _ hx
      have HS := hide (show (l.take (k + 1)).foldl roundN p = roundN ((l.take k).foldl roundN p) l[k] by rw [← List.take_append_getElem hkl, List.foldl_append]; rfl)
      generalize l[k] = x at hx hxl hc HS
      have c0 : wr.cell? ⟨w.heap.size, 0, none⟩ = some (.int .u64 (q.1 : Nat)) := cell_of_row _ _ _ _ _ _ r0
      have c1 : wr.cell? ⟨w.heap.size, 1, none⟩ = some (.int .u64 (q.2 : Nat)) := cell_of_row _ _ _ _ _ _ r0
      have HA := hide (show Calls Tryd.prog 67 #[.agg #[.int .u64 (q.1 : Nat), .int .u64 (q.2 : Nat)], .int .u64 x] wr (fun e w' => e = .returned (.agg #[.int .u64 ((roundN q x).1 : Nat), .int .u64 ((roundN q x).2 : Nat)]) ∧ Below wr.heap.size wr w') from round_any q x wr HT.out hxl)
      have HT2 := hide (roundN_two q x )
      rw [← HQ.out] at HS
      generalize roundN q x = q2 at HA HT2 HS
      clear hx
      go_wp2_with fail
      refine HA.out.mono ?_
      rintro e w3 ⟨rfl, hB3⟩
      have s0 := (hB3.block w.heap.size (Array.getElem?_eq_some_iff.1 r0).1).trans r0
      have s1 := (hB3.block (w.heap.size + 1) (Array.getElem?_eq_some_iff.1 r1).1).trans r1
      have hBx := hB.trans (hB3.mono hB.size)
      have d0 : w3.cell? ⟨w.heap.size, 0, none⟩ = some (.int .u64 (q.1 : Nat)) := cell_of_row _ _ _ _ _ _ s0
      have d1 : w3.cell? ⟨w.heap.size, 1, none⟩ = some (.int .u64 (q.2 : Nat)) := cell_of_row _ _ _ _ _ _ s0
      have z0 : w3.frozen? ⟨w.heap.size, 0, none⟩ = false := frozen_of_row _ _ _ _ _ s0
      have z1 : w3.frozen? ⟨w.heap.size, 1, none⟩ = false := frozen_of_row _ _ _ _ _ s0
      have HX := hide (And.intro (heap_setCell_same _ w.heap.size 1 _ _ (.int .u64 (q2.2 : Nat)) (heap_setCell_same w3 w.heap.size 0 _ _ (.int .u64 (q2.1 : Nat)) s0)) (And.intro (show ((w3.setCell ⟨w.heap.size, 0, none⟩ (.int .u64 (q2.1 : Nat))).setCell ⟨w.heap.size, 1, none⟩ (.int .u64 (q2.2 : Nat))).heap[w.heap.size + 1]? = some (.cells #[.int .u64 0, .int .u64 0] 74 (0, 0)) by
        rw [Below.heap_setCell _ _ _ _ (by simp), Below.heap_setCell _ _ _ _ (by simp)]; exact s1) ((hBx.setCell (p := ⟨w.heap.size, 0, none⟩) (Nat.le_refl _) (.int .u64 (q2.1 : Nat))).setCell (p := ⟨w.heap.size, 1, none⟩) (Nat.le_refl _) (.int .u64 (q2.2 : Nat)))))
      clear s0 s1 hBx hB3 r0 r1 hB c0 c1 HA
      go_wp2_with fail
      go_roundw
      case rel => exact ⟨k + 1, q2, by omega, rfl, hide HS.out.symm, HT2, HX.out.1, HX.out.2.1, HX.out.2.2⟩
      case measure => simp [intOf]; omega
    · obtain rfl : k = l.length := by omega
      rw [List.take_length] at HQ
      have c0 : wr.cell? ⟨w.heap.size, 0, none⟩ = some (.int .u64 (q.1 : Nat)) := cell_of_row _ _ _ _ _ _ r0
      have c1 : wr.cell? ⟨w.heap.size, 1, none⟩ = some (.int .u64 (q.2 : Nat)) := cell_of_row _ _ _ _ _ _ r0
      have d0 : wr.cell? ⟨w.heap.size + 1, 0, none⟩ = some (.int .u64 0) := cell_of_row _ _ _ _ _ _ r1
      have d1 : wr.cell? ⟨w.heap.size + 1, 1, none⟩ = some (.int .u64 0) := cell_of_row _ _ _ _ _ _ r1
      have z0 : wr.frozen? ⟨w.heap.size + 1, 0, none⟩ = false := frozen_of_row _ _ _ _ _ r1
      have z1 : wr.frozen? ⟨w.heap.size + 1, 1, none⟩ = false := frozen_of_row _ _ _ _ _ r1
      have HX := hide (set_two w wr (w.heap.size + 1) _ _ (.int .u64 (q.1 : Nat)) (.int .u64 (q.2 : Nat)) _ r1 (by omega) hB)
      clear r0 r1 hB
      go_wp2_with fail
      obtain ⟨y0, y1, hBf⟩ := HX.out
      refine bodyPost_ret (v := .agg #[.int .u64 (q.1 : Nat), .int .u64 (q.2 : Nat)]) (by simp [results, Tryd.results66, go_sem, y0, y1]) rfl ⟨by rw [← HQ.out]; rfl, hBf⟩

end Go.Proofs.YtbklgijndjpgoaaDoor
/-
  mix.Start, closed.
-/
namespace Go.Proofs.YtbklgijndjpgoaaDoor
open Go.RowKit
set_option maxRecDepth 100000

theorem row_words {W : World} {n : Nat} {l : List Nat} {t : TypeId} (h : W.heap[n]? = some (.cells (l.map (fun x => Value.int .u64 (x : Nat))).toArray t (0, 0))) : RdW W W.heap.size (some ⟨n, 0, none⟩) l := fun k x hx => by
  refine ⟨_, rfl, (Array.getElem?_eq_some_iff.1 h).1, ?_⟩
  have e : ((⟨n, 0, none⟩ : Addr).add k) = ⟨n, k, none⟩ := by unfold Addr.add; split <;> simp_all
  rw [e, cell_of_row _ _ _ _ _ _ h, List.getElem?_toArray, List.getElem?_map, hx]; rfl

set_option maxHeartbeats 1000000 in
theorem mixStart_any (w : World) : Calls Tryd.prog 79 #[] w fun e w' => e = .returned (stV startN) ∧ Below w.heap.size w w' := by
  go_enter Tryd.func79, Tryd.ntmps79
  go_wp2_with fail
  refine bodyPost_ret (v := .agg #[.int .u64 2611923443488327891, .int .u64 1376283091369227076]) (by simp [results, Tryd.results79, go_sem]) rfl ⟨rfl, (Below.refl _ w).alloc (Nat.le_refl _) _⟩

set_option maxHeartbeats 1000000 in
theorem closed_any (p : Nat × Nat) (n : Nat) (w : World) (hp : Two p) (hn : n ≤ 1000000) :
    Calls Tryd.prog 70 #[stV p, .int .i64 n] w fun e w' => e = .returned (stV (closedN p n)) ∧ Below w.heap.size w w' := by
  obtain ⟨r0, r1, hB⟩ := two_rows w #[.int .u64 (p.1 : Nat), .int .u64 (p.2 : Nat)] #[.int .u64 0, .int .u64 0] 74 28
  rw [show stV p = .agg #[.int .u64 (p.1 : Nat), .int .u64 (p.2 : Nat)] from rfl]
  have HA := hide (fun (W : World) (hR : RdW W W.heap.size (some ⟨w.heap.size + 2, 0, none⟩) [n, 18446744073709551615, 0, 0]) => (show Calls Tryd.prog 66 #[.agg #[.int .u64 (p.1 : Nat), .int .u64 (p.2 : Nat)], .func (.func 67) #[] #[], .slice (some ⟨w.heap.size + 2, 0, none⟩) 4 4] W (fun e w' => e = .returned (.agg #[.int .u64 ((closedN p n).1 : Nat), .int .u64 ((closedN p n).2 : Nat)]) ∧ Below W.heap.size W w') from along_round (some ⟨w.heap.size + 2, 0, none⟩) 4 [n, 18446744073709551615, 0, 0] p W hp (by simp; omega) hR (by simp)))
  have hz : ((w.alloc (.cells #[.int .u64 (p.1 : Nat), .int .u64 (p.2 : Nat)] 74)).alloc (.cells #[.int .u64 0, .int .u64 0] 28)).heap.size = w.heap.size + 2 := by simp
  show Calls _ _ _ _ fun e w' => e = .returned (.agg #[.int .u64 ((closedN p n).1 : Nat), .int .u64 ((closedN p n).2 : Nat)]) ∧ _
  generalize closedN p n = q at HA ⊢
  have hni : (n : Int) ≤ 1000000 := by omega
  go_enter Tryd.func70, Tryd.ntmps70
  go_wp2_with fail
  generalize ((w.alloc (.cells #[.int .u64 (p.1 : Nat), .int .u64 (p.2 : Nat)] 74)).alloc (.cells #[.int .u64 0, .int .u64 0] 28)) = w2 at r0 r1 hB hz ⊢
  have c0 : w2.cell? ⟨w.heap.size, 0, none⟩ = some (.int .u64 (p.1 : Nat)) := cell_of_row _ _ _ _ _ _ r0
  have c1 : w2.cell? ⟨w.heap.size, 1, none⟩ = some (.int .u64 (p.2 : Nat)) := cell_of_row _ _ _ _ _ _ r0
  go_wp2_with fail
  have hnew := World.alloc_heap_new w2 (Obj.cells #[.int .u64 (n : Nat), .int .u64 18446744073709551615, .int .u64 0, .int .u64 0] 26)
  rw [hz] at hnew
  have hB2 := hB.alloc hB.size (.cells #[.int .u64 (n : Nat), .int .u64 18446744073709551615, .int .u64 0, .int .u64 0] 26)
  have r2 : (w2.alloc (.cells #[.int .u64 (n : Nat), .int .u64 18446744073709551615, .int .u64 0, .int .u64 0] 26)).heap[w.heap.size + 1]? = some (.cells #[.int .u64 0, .int .u64 0] 28 (0, 0)) := by rw [Below.heap_alloc _ _ _ (by omega)]; exact r1
  refine (HA.out _ (row_words (l := [n, 18446744073709551615, 0, 0]) hnew)).mono ?_
  rintro e w3 ⟨rfl, hB3⟩
  have s1 := (hB3.block (w.heap.size + 1) (Array.getElem?_eq_some_iff.1 r2).1).trans r2
  have hBx := hB2.trans (hB3.mono hB2.size)
  clear r0 r1 hB hz c0 c1 HA hnew hB2 r2 hB3
  have d0 : w3.cell? ⟨w.heap.size + 1, 0, none⟩ = some (.int .u64 0) := cell_of_row _ _ _ _ _ _ s1
  have d1 : w3.cell? ⟨w.heap.size + 1, 1, none⟩ = some (.int .u64 0) := cell_of_row _ _ _ _ _ _ s1
  have z0 : w3.frozen? ⟨w.heap.size + 1, 0, none⟩ = false := frozen_of_row _ _ _ _ _ s1
  have z1 : w3.frozen? ⟨w.heap.size + 1, 1, none⟩ = false := frozen_of_row _ _ _ _ _ s1
  have HX := hide (set_two w w3 (w.heap.size + 1) _ _ (.int .u64 (q.1 : Nat)) (.int .u64 (q.2 : Nat)) _ s1 (by omega) hBx)
  clear s1 hBx
  go_wp2_with fail
  obtain ⟨y0, y1, hBf⟩ := HX.out
  refine bodyPost_ret (v := .agg #[.int .u64 (q.1 : Nat), .int .u64 (q.2 : Nat)]) (by simp [results, Tryd.results70, go_sem, y0, y1]) rfl ⟨rfl, hBf⟩
end Go.Proofs.YtbklgijndjpgoaaDoor
/-
  mix.word: eight bytes as a word.
-/
namespace Go.Proofs.YtbklgijndjpgoaaDoor
open Go.RowKit
set_option maxRecDepth 100000

/-- A word's number: the lowest byte first. -/
def wordN : List UInt8 → Nat
  | [] => 0
  | x :: l => x.toNat + 256 * wordN l
theorem wordN_lt : ∀ l : List UInt8, wordN l < 256 ^ l.length
  | [] => by decide
  | x :: l => by
    have h := wordN_lt l
    have hx := x.toNat_lt
    show x.toNat + 256 * wordN l < 256 ^ (l.length + 1)
    rw [Nat.pow_succ]
    omega
theorem wordN_zeros (l : List UInt8) (n : Nat) : wordN (l ++ List.replicate n 0) = wordN l := by
  induction l with
  | nil =>
    induction n with
    | zero => rfl
    | succ n ih => rw [List.replicate_succ]; show 0 + 256 * wordN ([] ++ List.replicate n 0) = 0; rw [ih]; rfl
  | cons x l ih => show x.toNat + 256 * wordN (l ++ List.replicate n 0) = x.toNat + 256 * wordN l; rw [ih]
theorem wordN_inj : ∀ l m : List UInt8, l.length = m.length → wordN l = wordN m → l = m
  | [], [], _, _ => rfl
  | x :: l, y :: m, h, e => by
    have hx := x.toNat_lt
    have hy := y.toNat_lt
    have e' : x.toNat + 256 * wordN l = y.toNat + 256 * wordN m := e
    have h1 : x = y := UInt8.toNat_inj.1 (by omega)
    rw [h1, wordN_inj l m (by simpa using h) (by omega)]
theorem word_or (j acc x : Nat) (ha : acc < 256 ^ j) (hx : x < 256) (hj : j < 8) : bits .or .u64 (acc : Int) ((x : Int) * ((256 ^ j : Nat) : Int)) = ((acc + x * 256 ^ j : Nat) : Int) := by
  have hp : 256 ^ j = 2 ^ (8 * j) := by rw [Nat.pow_mul]
  have h7 : 256 ^ j ≤ 256 ^ 7 := Nat.pow_le_pow_right (by decide) (by omega)
  have hm : x * 256 ^ j ≤ 255 * 256 ^ j := Nat.mul_le_mul_right _ (by omega)
  have e : (x : Int) * ((256 ^ j : Nat) : Int) = ((x * 256 ^ j : Nat) : Int) := by simp
  rw [e, u64_or_nat _ _ (by omega) (by omega), Nat.or_comm, hp, ← Nat.shiftLeft_eq, ← Nat.shiftLeft_add_eq_or_of_lt (by rw [← hp]; exact ha), Nat.add_comm]

set_option maxHeartbeats 4000000 in
theorem word_any (x0 x1 x2 x3 x4 x5 x6 x7 : UInt8) (w : World) :
    Calls Tryd.prog 68 #[.agg #[.int .u8 (x0.toNat : Nat), .int .u8 (x1.toNat : Nat), .int .u8 (x2.toNat : Nat), .int .u8 (x3.toNat : Nat), .int .u8 (x4.toNat : Nat), .int .u8 (x5.toNat : Nat), .int .u8 (x6.toNat : Nat), .int .u8 (x7.toNat : Nat)]] w fun e w' =>
      e = .returned (.int .u64 (wordN [x0, x1, x2, x3, x4, x5, x6, x7] : Nat)) ∧ Below w.heap.size w w' := by
  have hB0 : Below w.heap.size w (w.alloc (.cells #[.int .u8 (x0.toNat : Nat), .int .u8 (x1.toNat : Nat), .int .u8 (x2.toNat : Nat), .int .u8 (x3.toNat : Nat), .int .u8 (x4.toNat : Nat), .int .u8 (x5.toNat : Nat), .int .u8 (x6.toNat : Nat), .int .u8 (x7.toNat : Nat)] 75)) := (Below.refl _ w).alloc (Nat.le_refl _) _
  have hr0 := World.alloc_heap_new w (Obj.cells #[.int .u8 (x0.toNat : Nat), .int .u8 (x1.toNat : Nat), .int .u8 (x2.toNat : Nat), .int .u8 (x3.toNat : Nat), .int .u8 (x4.toNat : Nat), .int .u8 (x5.toNat : Nat), .int .u8 (x6.toNat : Nat), .int .u8 (x7.toNat : Nat)] 75)
  go_enter Tryd.func68, Tryd.ntmps68
  go_wp2_with fail
  generalize (w.alloc (.cells #[.int .u8 (x0.toNat : Nat), .int .u8 (x1.toNat : Nat), .int .u8 (x2.toNat : Nat), .int .u8 (x3.toNat : Nat), .int .u8 (x4.toNat : Nat), .int .u8 (x5.toNat : Nat), .int .u8 (x6.toNat : Nat), .int .u8 (x7.toNat : Nat)] 75)) = w2 at hB0 hr0 ⊢
  go_loopw [3, 4, 5] (fun s u i wr => ∃ k : Nat, k ≤ 8 ∧ i = .int .i64 k ∧ s = .int .u64 (wordN ([x0, x1, x2, x3, x4, x5, x6, x7].take k) : Nat) ∧ wr.heap[w.heap.size]? = some (.cells #[.int .u8 (x0.toNat : Nat), .int .u8 (x1.toNat : Nat), .int .u8 (x2.toNat : Nat), .int .u8 (x3.toNat : Nat), .int .u8 (x4.toNat : Nat), .int .u8 (x5.toNat : Nat), .int .u8 (x6.toNat : Nat), .int .u8 (x7.toNat : Nat)] 75 (0, 0)) ∧ Below w.heap.size w wr) (fun _ _ i _ => 8 - (intOf i).toNat)
  case atStart => exact ⟨0, by decide, rfl, rfl, hr0, hB0⟩
  case round =>
    clear hr0 hB0
    obtain ⟨k, hk, rfl, rfl, r0, hB⟩ := hrel
    by_cases hlt : k < 8
    · clear hk
      have hk8 : k = 0 ∨ k = 1 ∨ k = 2 ∨ k = 3 ∨ k = 4 ∨ k = 5 ∨ k = 6 ∨ k = 7 := by omega
      clear hlt
      rcases hk8 with rfl | rfl | rfl | rfl | rfl | rfl | rfl | rfl
      · have hc : wr.cell? ⟨w.heap.size, 0, none⟩ = some (.int .u8 (x0.toNat : Nat)) := cell_of_row _ _ _ _ _ _ r0
        have HV := word_or 0 (wordN ([x0, x1, x2, x3, x4, x5, x6, x7].take 0)) x0.toNat (by have := wordN_lt ([x0, x1, x2, x3, x4, x5, x6, x7].take 0); exact this) x0.toNat_lt (by decide)
        have HV2 : bits .or .u64 ((wordN ([x0, x1, x2, x3, x4, x5, x6, x7].take 0) : Nat) : Int) (x0.toNat : Int) = ((wordN ([x0, x1, x2, x3, x4, x5, x6, x7].take 0) + x0.toNat * 1 : Nat) : Int) := by simpa using HV
        have HN := hide (show wordN ([x0, x1, x2, x3, x4, x5, x6, x7].take 0) + x0.toNat * 1 = wordN ([x0, x1, x2, x3, x4, x5, x6, x7].take 1) by simp [wordN]; try omega)
        have hx := x0.toNat_lt
        clear HV
        generalize wordN ([x0, x1, x2, x3, x4, x5, x6, x7].take 0) = acc at HV2 HN ⊢
        go_wp2_with fail
        go_roundw
        case rel => exact ⟨1, by decide, rfl, by rw [← HN.out]; congr 1; simp, r0, hB⟩
        case measure => simp [intOf]
      · have hc : wr.cell? ⟨w.heap.size, 1, none⟩ = some (.int .u8 (x1.toNat : Nat)) := cell_of_row _ _ _ _ _ _ r0
        have HV := word_or 1 (wordN ([x0, x1, x2, x3, x4, x5, x6, x7].take 1)) x1.toNat (by have := wordN_lt ([x0, x1, x2, x3, x4, x5, x6, x7].take 1); exact this) x1.toNat_lt (by decide)
        have HV2 : bits .or .u64 ((wordN ([x0, x1, x2, x3, x4, x5, x6, x7].take 1) : Nat) : Int) ((x1.toNat : Int) * 256) = ((wordN ([x0, x1, x2, x3, x4, x5, x6, x7].take 1) + x1.toNat * 256 : Nat) : Int) := HV
        have HN := hide (show wordN ([x0, x1, x2, x3, x4, x5, x6, x7].take 1) + x1.toNat * 256 = wordN ([x0, x1, x2, x3, x4, x5, x6, x7].take 2) by simp [wordN]; try omega)
        have hx := x1.toNat_lt
        clear HV
        generalize wordN ([x0, x1, x2, x3, x4, x5, x6, x7].take 1) = acc at HV2 HN ⊢
        go_wp2_with fail
        go_roundw
        case rel => exact ⟨2, by decide, rfl, by rw [← HN.out]; congr 1, r0, hB⟩
        case measure => simp [intOf]
      · have hc : wr.cell? ⟨w.heap.size, 2, none⟩ = some (.int .u8 (x2.toNat : Nat)) := cell_of_row _ _ _ _ _ _ r0
        have HV := word_or 2 (wordN ([x0, x1, x2, x3, x4, x5, x6, x7].take 2)) x2.toNat (by have := wordN_lt ([x0, x1, x2, x3, x4, x5, x6, x7].take 2); exact this) x2.toNat_lt (by decide)
        have HV2 : bits .or .u64 ((wordN ([x0, x1, x2, x3, x4, x5, x6, x7].take 2) : Nat) : Int) ((x2.toNat : Int) * 65536) = ((wordN ([x0, x1, x2, x3, x4, x5, x6, x7].take 2) + x2.toNat * 65536 : Nat) : Int) := HV
        have HN := hide (show wordN ([x0, x1, x2, x3, x4, x5, x6, x7].take 2) + x2.toNat * 65536 = wordN ([x0, x1, x2, x3, x4, x5, x6, x7].take 3) by simp [wordN]; try omega)
        have hx := x2.toNat_lt
        clear HV
        generalize wordN ([x0, x1, x2, x3, x4, x5, x6, x7].take 2) = acc at HV2 HN ⊢
        go_wp2_with fail
        go_roundw
        case rel => exact ⟨3, by decide, rfl, by rw [← HN.out]; congr 1, r0, hB⟩
        case measure => simp [intOf]
      · have hc : wr.cell? ⟨w.heap.size, 3, none⟩ = some (.int .u8 (x3.toNat : Nat)) := cell_of_row _ _ _ _ _ _ r0
        have HV := word_or 3 (wordN ([x0, x1, x2, x3, x4, x5, x6, x7].take 3)) x3.toNat (by have := wordN_lt ([x0, x1, x2, x3, x4, x5, x6, x7].take 3); exact this) x3.toNat_lt (by decide)
        have HV2 : bits .or .u64 ((wordN ([x0, x1, x2, x3, x4, x5, x6, x7].take 3) : Nat) : Int) ((x3.toNat : Int) * 16777216) = ((wordN ([x0, x1, x2, x3, x4, x5, x6, x7].take 3) + x3.toNat * 16777216 : Nat) : Int) := HV
        have HN := hide (show wordN ([x0, x1, x2, x3, x4, x5, x6, x7].take 3) + x3.toNat * 16777216 = wordN ([x0, x1, x2, x3, x4, x5, x6, x7].take 4) by simp [wordN]; try omega)
        have hx := x3.toNat_lt
        clear HV
        generalize wordN ([x0, x1, x2, x3, x4, x5, x6, x7].take 3) = acc at HV2 HN ⊢
        go_wp2_with fail
        go_roundw
        case rel => exact ⟨4, by decide, rfl, by rw [← HN.out]; congr 1, r0, hB⟩
        case measure => simp [intOf]
      · have hc : wr.cell? ⟨w.heap.size, 4, none⟩ = some (.int .u8 (x4.toNat : Nat)) := cell_of_row _ _ _ _ _ _ r0
        have HV := word_or 4 (wordN ([x0, x1, x2, x3, x4, x5, x6, x7].take 4)) x4.toNat (by have := wordN_lt ([x0, x1, x2, x3, x4, x5, x6, x7].take 4); exact this) x4.toNat_lt (by decide)
        have HV2 : bits .or .u64 ((wordN ([x0, x1, x2, x3, x4, x5, x6, x7].take 4) : Nat) : Int) ((x4.toNat : Int) * 4294967296) = ((wordN ([x0, x1, x2, x3, x4, x5, x6, x7].take 4) + x4.toNat * 4294967296 : Nat) : Int) := HV
        have HN := hide (show wordN ([x0, x1, x2, x3, x4, x5, x6, x7].take 4) + x4.toNat * 4294967296 = wordN ([x0, x1, x2, x3, x4, x5, x6, x7].take 5) by simp [wordN]; try omega)
        have hx := x4.toNat_lt
        clear HV
        generalize wordN ([x0, x1, x2, x3, x4, x5, x6, x7].take 4) = acc at HV2 HN ⊢
        go_wp2_with fail
        go_roundw
        case rel => exact ⟨5, by decide, rfl, by rw [← HN.out]; congr 1, r0, hB⟩
        case measure => simp [intOf]
      · have hc : wr.cell? ⟨w.heap.size, 5, none⟩ = some (.int .u8 (x5.toNat : Nat)) := cell_of_row _ _ _ _ _ _ r0
        have HV := word_or 5 (wordN ([x0, x1, x2, x3, x4, x5, x6, x7].take 5)) x5.toNat (by have := wordN_lt ([x0, x1, x2, x3, x4, x5, x6, x7].take 5); exact this) x5.toNat_lt (by decide)
        have HV2 : bits .or .u64 ((wordN ([x0, x1, x2, x3, x4, x5, x6, x7].take 5) : Nat) : Int) ((x5.toNat : Int) * 1099511627776) = ((wordN ([x0, x1, x2, x3, x4, x5, x6, x7].take 5) + x5.toNat * 1099511627776 : Nat) : Int) := HV
        have HN := hide (show wordN ([x0, x1, x2, x3, x4, x5, x6, x7].take 5) + x5.toNat * 1099511627776 = wordN ([x0, x1, x2, x3, x4, x5, x6, x7].take 6) by simp [wordN]; try omega)
        have hx := x5.toNat_lt
        clear HV
        generalize wordN ([x0, x1, x2, x3, x4, x5, x6, x7].take 5) = acc at HV2 HN ⊢
        go_wp2_with fail
        go_roundw
        case rel => exact ⟨6, by decide, rfl, by rw [← HN.out]; congr 1, r0, hB⟩
        case measure => simp [intOf]
      · have hc : wr.cell? ⟨w.heap.size, 6, none⟩ = some (.int .u8 (x6.toNat : Nat)) := cell_of_row _ _ _ _ _ _ r0
        have HV := word_or 6 (wordN ([x0, x1, x2, x3, x4, x5, x6, x7].take 6)) x6.toNat (by have := wordN_lt ([x0, x1, x2, x3, x4, x5, x6, x7].take 6); exact this) x6.toNat_lt (by decide)
        have HV2 : bits .or .u64 ((wordN ([x0, x1, x2, x3, x4, x5, x6, x7].take 6) : Nat) : Int) ((x6.toNat : Int) * 281474976710656) = ((wordN ([x0, x1, x2, x3, x4, x5, x6, x7].take 6) + x6.toNat * 281474976710656 : Nat) : Int) := HV
        have HN := hide (show wordN ([x0, x1, x2, x3, x4, x5, x6, x7].take 6) + x6.toNat * 281474976710656 = wordN ([x0, x1, x2, x3, x4, x5, x6, x7].take 7) by simp [wordN]; try omega)
        have hx := x6.toNat_lt
        clear HV
        generalize wordN ([x0, x1, x2, x3, x4, x5, x6, x7].take 6) = acc at HV2 HN ⊢
        go_wp2_with fail
        go_roundw
        case rel => exact ⟨7, by decide, rfl, by rw [← HN.out]; congr 1, r0, hB⟩
        case measure => simp [intOf]
      · have hc : wr.cell? ⟨w.heap.size, 7, none⟩ = some (.int .u8 (x7.toNat : Nat)) := cell_of_row _ _ _ _ _ _ r0
        have HV := word_or 7 (wordN ([x0, x1, x2, x3, x4, x5, x6, x7].take 7)) x7.toNat (by have := wordN_lt ([x0, x1, x2, x3, x4, x5, x6, x7].take 7); exact this) x7.toNat_lt (by decide)
        have HV2 : bits .or .u64 ((wordN ([x0, x1, x2, x3, x4, x5, x6, x7].take 7) : Nat) : Int) ((x7.toNat : Int) * 72057594037927936) = ((wordN ([x0, x1, x2, x3, x4, x5, x6, x7].take 7) + x7.toNat * 72057594037927936 : Nat) : Int) := HV
        have HN := hide (show wordN ([x0, x1, x2, x3, x4, x5, x6, x7].take 7) + x7.toNat * 72057594037927936 = wordN ([x0, x1, x2, x3, x4, x5, x6, x7].take 8) by simp [wordN]; try omega)
        have hx := x7.toNat_lt
        clear HV
        generalize wordN ([x0, x1, x2, x3, x4, x5, x6, x7].take 7) = acc at HV2 HN ⊢
        go_wp2_with fail
        go_roundw
        case rel => exact ⟨8, by decide, rfl, by rw [← HN.out]; congr 1, r0, hB⟩
        case measure => simp [intOf]
    · obtain rfl : k = 8 := by omega
      go_wp2_with fail
      refine bodyPost_ret (results_tmp rfl _ _ _) rfl ⟨rfl, hB⟩
end Go.Proofs.YtbklgijndjpgoaaDoor
/-
  mix.Hash: what it keeps; Len, whole.
-/
namespace Go.Proofs.YtbklgijndjpgoaaDoor
open Go.RowKit
set_option maxRecDepth 100000

/-- The first q words of bytes, the state behind them, what is behind them with bytes 0. -/
def wordsQ (q : Nat) (m : List UInt8) : List Nat := (List.range q).map (fun i => wordN ((m.drop (8 * i)).take 8))
def atN (q : Nat) (m : List UInt8) : Nat × Nat := alongN startN (wordsQ q m)
def restL (q : Nat) (m : List UInt8) : List UInt8 := m.drop (8 * q) ++ List.replicate (8 - (m.length - 8 * q)) 0
/-- The sum of bytes. -/
def sumL (m : List UInt8) : Nat × Nat := closedN (atN ((m.length + 7) / 8) m) m.length
theorem wordsQ_app (q : Nat) (m l : List UInt8) (h : 8 * q ≤ m.length) : wordsQ q (m ++ l) = wordsQ q m := by
  unfold wordsQ
  apply List.map_congr_left
  intro i hi
  have hi := List.mem_range.1 hi
  rw [List.drop_append_of_le_length (by omega), List.take_append_of_le_length (by rw [List.length_drop]; omega)]
theorem wordsQ_succ (q : Nat) (m : List UInt8) : wordsQ (q + 1) m = wordsQ q m ++ [wordN ((m.drop (8 * q)).take 8)] := by
  unfold wordsQ; rw [List.range_succ, List.map_append]; rfl
theorem atN_app (q : Nat) (m l : List UInt8) (h : 8 * q ≤ m.length) : atN q (m ++ l) = atN q m := by unfold atN; rw [wordsQ_app q m l h]
theorem atN_succ (q : Nat) (m : List UInt8) : atN (q + 1) m = roundN (atN q m) (wordN ((m.drop (8 * q)).take 8)) := by
  unfold atN alongN; rw [wordsQ_succ, List.foldl_append]; rfl
theorem atN_two (q : Nat) (m : List UInt8) : Two (atN q m) := alongN_two _ _ startN_two
theorem restL_len (q : Nat) (m : List UInt8) (h : m.length ≤ 8 * q + 8) : (restL q m).length = 8 := by
  unfold restL; rw [List.length_append, List.length_drop, List.length_replicate]; omega
theorem wordN_rest (q : Nat) (m : List UInt8) (h : m.length ≤ 8 * q + 8) : wordN (restL q m) = wordN ((m.drop (8 * q)).take 8) := by
  unfold restL; rw [wordN_zeros, List.take_of_length_le (by rw [List.length_drop]; omega)]
theorem wordN_small (l : List UInt8) (h : l.length ≤ 8) : wordN l < 18446744073709551616 := by
  have h1 := wordN_lt l
  have h2 : 256 ^ l.length ≤ 256 ^ 8 := Nat.pow_le_pow_right (by decide) h
  omega
theorem eight (r : List UInt8) (h : r.length = 8) : ∃ x0 x1 x2 x3 x4 x5 x6 x7, r = [x0, x1, x2, x3, x4, x5, x6, x7] := by
  match r, h with
  | [x0, x1, x2, x3, x4, x5, x6, x7], _ => exact ⟨_, _, _, _, _, _, _, _, rfl⟩

def hashRow (p : Nat × Nat) (r : List UInt8) (n : Nat) : Array Value := ((.int .u64 (p.1 : Nat)) :: (.int .u64 (p.2 : Nat)) :: (r.map byteV ++ [.int .i64 (n : Nat)])).toArray
/-- A Hash that has met m, in block b. -/
def IsH (w : World) (b : Nat) (m : List UInt8) : Prop :=
  ∃ p, Two p ∧ (m ≠ [] → p = atN (m.length / 8) m) ∧ w.heap[b]? = some (.cells (hashRow p (restL (m.length / 8) m) m.length) 77 (0, 0))

theorem hash_n {w : World} {b n : Nat} {p : Nat × Nat} {r : List UInt8} {t : TypeId} (hr : r.length = 8) (h : w.heap[b]? = some (.cells (hashRow p r n) t (0, 0))) : w.cell? ⟨b, 10, none⟩ = some (.int .i64 (n : Nat)) := by
  rw [cell_of_row _ _ _ _ _ _ h]
  obtain ⟨x0, x1, x2, x3, x4, x5, x6, x7, rfl⟩ := eight r hr
  rfl
theorem hash_p {w : World} {b n : Nat} {p : Nat × Nat} {r : List UInt8} {t : TypeId} (h : w.heap[b]? = some (.cells (hashRow p r n) t (0, 0))) : w.cell? ⟨b, 0, none⟩ = some (.int .u64 (p.1 : Nat)) ∧ w.cell? ⟨b, 1, none⟩ = some (.int .u64 (p.2 : Nat)) := by
  constructor
  · rw [cell_of_row _ _ _ _ _ _ h]; rfl
  · rw [cell_of_row _ _ _ _ _ _ h]; rfl

set_option maxHeartbeats 1000000 in
theorem len_nil (w : World) : Calls Tryd.prog 69 #[.pointer none] w fun e w' => e = .returned (.int .i64 0) ∧ w' = w := by
  go_enter Tryd.func69, Tryd.ntmps69
  go_wp2_with fail
  refine bodyPost_ret (results_tmp rfl _ _ _) rfl ⟨rfl, rfl⟩
set_option maxHeartbeats 1000000 in
theorem len_n (b n : Nat) (w : World) (c10 : w.cell? ⟨b, 10, none⟩ = some (.int .i64 (n : Nat))) : Calls Tryd.prog 69 #[.pointer (some ⟨b, 0, none⟩)] w fun e w' => e = .returned (.int .i64 (n : Nat)) ∧ w' = w := by
  go_enter Tryd.func69, Tryd.ntmps69
  go_wp2_with fail
  refine bodyPost_ret (results_tmp rfl _ _ _) rfl ⟨rfl, rfl⟩

set_option maxHeartbeats 1000000 in
theorem whole_start (A : Option Addr) (w : World) (hL : ∀ W, Below w.heap.size w W → Calls Tryd.prog 69 #[.pointer A] W fun e w' => e = .returned (.int .i64 0) ∧ w' = W) :
    Calls Tryd.prog 65 #[.pointer A] w fun e w' => e = .returned (stV startN) ∧ Below w.heap.size w w' := by
  have hS := fun W => mixStart_any W
  generalize startN = q at hS ⊢
  have hB : Below w.heap.size w (w.alloc (.cells #[.int .u64 0, .int .u64 0] 74)) := (Below.refl _ w).alloc (Nat.le_refl _) _
  have r1 := World.alloc_heap_new w (Obj.cells #[.int .u64 0, .int .u64 0] 74)
  go_enter Tryd.func65, Tryd.ntmps65
  go_wp2_with fail
  refine (hL _ hB).mono ?_
  rintro e w2 ⟨rfl, rfl⟩
  go_wp2_with fail
  refine (hS _).mono ?_
  rintro e w3 ⟨rfl, hB3⟩
  have hBx := hB.trans (hB3.mono hB.size)
  have s1 := (hB3.block w.heap.size (Array.getElem?_eq_some_iff.1 r1).1).trans r1
  clear hB hB3 r1
  have d0 : w3.cell? ⟨w.heap.size, 0, none⟩ = some (.int .u64 0) := cell_of_row _ _ _ _ _ _ s1
  have d1 : w3.cell? ⟨w.heap.size, 1, none⟩ = some (.int .u64 0) := cell_of_row _ _ _ _ _ _ s1
  have z0 : w3.frozen? ⟨w.heap.size, 0, none⟩ = false := frozen_of_row _ _ _ _ _ s1
  have z1 : w3.frozen? ⟨w.heap.size, 1, none⟩ = false := frozen_of_row _ _ _ _ _ s1
  have HX := hide (set_two w w3 w.heap.size _ _ (.int .u64 (q.1 : Nat)) (.int .u64 (q.2 : Nat)) _ s1 (Nat.le_refl _) hBx)
  clear s1 hBx
  rw [show stV q = .agg #[.int .u64 (q.1 : Nat), .int .u64 (q.2 : Nat)] from rfl]
  go_wp2_with fail
  obtain ⟨y0, y1, hBf⟩ := HX.out
  refine bodyPost_ret (v := .agg #[.int .u64 (q.1 : Nat), .int .u64 (q.2 : Nat)]) (by simp [results, Tryd.results65, go_sem, y0, y1]) rfl ⟨rfl, hBf⟩
set_option maxHeartbeats 1000000 in
theorem whole_more (b n : Nat) (p : Nat × Nat) (w : World) (hn : 0 < n) (c0 : w.cell? ⟨b, 0, none⟩ = some (.int .u64 (p.1 : Nat))) (c1 : w.cell? ⟨b, 1, none⟩ = some (.int .u64 (p.2 : Nat))) (c10 : w.cell? ⟨b, 10, none⟩ = some (.int .i64 (n : Nat))) (hb : b < w.heap.size) :
    Calls Tryd.prog 65 #[.pointer (some ⟨b, 0, none⟩)] w fun e w' => e = .returned (stV p) ∧ Below w.heap.size w w' := by
  have hB : Below w.heap.size w (w.alloc (.cells #[.int .u64 0, .int .u64 0] 74)) := (Below.refl _ w).alloc (Nat.le_refl _) _
  have r1 := World.alloc_heap_new w (Obj.cells #[.int .u64 0, .int .u64 0] 74)
  have e0 := (hB.cell (p := ⟨b, 0, none⟩) hb).trans c0
  have e1 := (hB.cell (p := ⟨b, 1, none⟩) hb).trans c1
  have e2 := (hB.cell (p := ⟨b, 10, none⟩) hb).trans c10
  have hL := len_n b n _ e2
  have E0 : ((n : Int) == 0) = false := by rw [beq_eq_false_iff_ne]; omega
  clear hn c0 c1 c10
  go_enter Tryd.func65, Tryd.ntmps65
  go_wp2_with fail
  generalize (w.alloc (.cells #[.int .u64 0, .int .u64 0] 74)) = w3 at r1 hB e0 e1 e2 hL ⊢
  have d0 : w3.cell? ⟨w.heap.size, 0, none⟩ = some (.int .u64 0) := cell_of_row _ _ _ _ _ _ r1
  have d1 : w3.cell? ⟨w.heap.size, 1, none⟩ = some (.int .u64 0) := cell_of_row _ _ _ _ _ _ r1
  have z0 : w3.frozen? ⟨w.heap.size, 0, none⟩ = false := frozen_of_row _ _ _ _ _ r1
  have z1 : w3.frozen? ⟨w.heap.size, 1, none⟩ = false := frozen_of_row _ _ _ _ _ r1
  have HX := hide (set_two w w3 w.heap.size _ _ (.int .u64 (p.1 : Nat)) (.int .u64 (p.2 : Nat)) _ r1 (Nat.le_refl _) hB)
  clear r1 hB
  refine hL.mono ?_
  rintro e w2 ⟨rfl, rfl⟩
  go_wp2_with fail
  obtain ⟨y0, y1, hBf⟩ := HX.out
  refine bodyPost_ret (v := .agg #[.int .u64 (p.1 : Nat), .int .u64 (p.2 : Nat)]) (by simp [results, Tryd.results65, go_sem, y0, y1]) rfl ⟨rfl, hBf⟩
theorem isH_two {w : World} {b : Nat} {m : List UInt8} (h : IsH w b m) : b < w.heap.size := by
  obtain ⟨p, _, _, h⟩ := h
  exact (Array.getElem?_eq_some_iff.1 h).1
theorem rest_ok (m : List UInt8) : (restL (m.length / 8) m).length = 8 := restL_len _ _ (by omega)
theorem whole_any (b : Nat) (m : List UInt8) (w : World) (h : IsH w b m) :
    Calls Tryd.prog 65 #[.pointer (some ⟨b, 0, none⟩)] w fun e w' => e = .returned (stV (atN (m.length / 8) m)) ∧ Below w.heap.size w w' := by
  have hb := isH_two h
  obtain ⟨p, _, hq, hr⟩ := h
  have c10 := hash_n (rest_ok m) hr
  obtain ⟨c0, c1⟩ := hash_p hr
  by_cases hm : m = []
  · subst hm
    refine whole_start _ w fun W hW => ?_
    have := len_n b 0 W ((hW.cell (p := ⟨b, 10, none⟩) hb).trans c10)
    exact this
  · rw [← hq hm]
    exact whole_more b m.length p w (by cases m <;> simp_all) c0 c1 c10 hb
end Go.Proofs.YtbklgijndjpgoaaDoor
