/-
  Which signatures may be: the program's and the reference's answer; Total.
-/
import Derived.Test.YtobgbheodlpclaaAutoMapG
namespace Go.Proofs.Ytobgbheodlpclaa
open Go.RowKit
set_option maxRecDepth 100000

/-- A signature's cells. -/
def sigC (size : Int) (A : Option Addr) (n c : Nat) (tail : Int) (s : Sg) : Array Value := #[.int .i64 size, .slice A n c, .int .i64 tail, .int .u32 (s.weak : Nat), .int .u64 (s.hi : Nat), .int .u64 (s.lo : Nat)]
/-- Is a sign the zero one? -/
def zeroB (s : Sg) : Bool := decide (s.weak = 0) && (decide (s.hi = 0) && decide (s.lo = 0))
/-- Which signatures may be. -/
def rightS (size : Int) (n : Nat) (tail : Int) (s : Sg) : Bool := decide (4 ≤ size) && (decide (size ≤ 64) && (decide (n ≤ 4096) && if tail = 0 then zeroB s else decide (0 < tail) && decide (tail < size)))
theorem right_size {size : Int} {n : Nat} {tail : Int} {s : Sg} (h : ¬ (4 ≤ size ∧ size ≤ 64 ∧ n ≤ 4096)) : rightS size n tail s = false := by
  unfold rightS
  by_cases h1 : 4 ≤ size
  · by_cases h2 : size ≤ 64
    · by_cases h3 : n ≤ 4096
      · exact absurd ⟨h1, h2, h3⟩ h
      · rw [decide_eq_false h3]; simp
    · rw [decide_eq_false h2]; simp
  · rw [decide_eq_false h1]; simp
theorem right_in {size : Int} {n : Nat} {tail : Int} {s : Sg} (h1 : 4 ≤ size) (h2 : size ≤ 64) (h3 : n ≤ 4096) : rightS size n tail s = if tail = 0 then zeroB s else decide (0 < tail) && decide (tail < size) := by
  unfold rightS
  rw [decide_eq_true h1, decide_eq_true h2, decide_eq_true h3]; rfl
theorem zero_first {s : Sg} (h : zeroB s = false) : (((s.weak : Nat) : Int) == 0) = false ∨ (s.weak = 0 ∧ (((s.hi : Nat) : Int) == 0) = false) ∨ (s.weak = 0 ∧ s.hi = 0 ∧ (((s.lo : Nat) : Int) == 0) = false) := by
  unfold zeroB at h
  by_cases h1 : s.weak = 0
  · by_cases h2 : s.hi = 0
    · by_cases h3 : s.lo = 0
      · rw [h1, h2, h3] at h; cases h
      · exact .inr (.inr ⟨h1, h2, by rw [beq_eq_false_iff_ne]; omega⟩)
    · exact .inr (.inl ⟨h1, by rw [beq_eq_false_iff_ne]; omega⟩)
  · exact .inl (by rw [beq_eq_false_iff_ne]; omega)
theorem zero_all {s : Sg} (h : zeroB s = true) : s.weak = 0 ∧ s.hi = 0 ∧ s.lo = 0 := by
  unfold zeroB at h
  simpa using h

set_option maxHeartbeats 4000000 in
theorem sigRight_any (size : Int) (A : Option Addr) (n c : Nat) (tail : Int) (s : Sg) (w : World) :
    Calls Try.prog 26 #[.agg (sigC size A n c tail s)] w fun e w' => e = .returned (.bool (rightS size n tail s)) ∧ Below w.heap.size w w' := by
  obtain ⟨wk, hi, lo⟩ := s
  show Calls _ _ #[.agg #[.int .i64 size, .slice A n c, .int .i64 tail, .int .u32 (wk : Nat), .int .u64 (hi : Nat), .int .u64 (lo : Nat)]] _ _
  have HB := hide ((Below.refl w.heap.size w).alloc (Nat.le_refl _) (.cells #[.int .i64 size, .slice A n c, .int .i64 tail, .int .u32 (wk : Nat), .int .u64 (hi : Nat), .int .u64 (lo : Nat)] 32))
  go_enter Try.func26, Try.ntmps26
  by_cases h1 : size < 4
  · have HV := hide (right_size (n := n) (tail := tail) (s := ⟨wk, hi, lo⟩) (fun h => by have := h.1; omega : ¬ (4 ≤ size ∧ size ≤ 64 ∧ n ≤ 4096)))
    go_wp2_with fail
    exact bodyPost_ret (results_tmp rfl _ _ _) rfl ⟨by rw [HV.out]; rfl, HB.out⟩
  by_cases h2 : 64 < size
  · have HV := hide (right_size (n := n) (tail := tail) (s := ⟨wk, hi, lo⟩) (fun h => by have := h.2.1; omega : ¬ (4 ≤ size ∧ size ≤ 64 ∧ n ≤ 4096)))
    go_wp2_with fail
    exact bodyPost_ret (results_tmp rfl _ _ _) rfl ⟨by rw [HV.out]; rfl, HB.out⟩
  by_cases h3 : (4096 : Int) < n
  · have HV := hide (right_size (n := n) (tail := tail) (s := ⟨wk, hi, lo⟩) (fun h => by have := h.2.2; omega : ¬ (4 ≤ size ∧ size ≤ 64 ∧ n ≤ 4096)))
    go_wp2_with fail
    exact bodyPost_ret (results_tmp rfl _ _ _) rfl ⟨by rw [HV.out]; rfl, HB.out⟩
  have hR := right_in (tail := tail) (s := ⟨wk, hi, lo⟩) (show 4 ≤ size by omega) (show size ≤ 64 by omega) (show n ≤ 4096 by omega)
  by_cases h4 : tail = 0
  · subst h4
    rw [if_pos rfl] at hR
    cases hz : zeroB ⟨wk, hi, lo⟩ with
    | true =>
      obtain ⟨e0, e1, e2⟩ := zero_all hz
      simp only at e0 e1 e2
      subst e0 e1 e2
      have HV := hide (hR.trans hz)
      clear hR hz
      go_wp2_with fail
      exact bodyPost_ret (results_tmp rfl _ _ _) rfl ⟨by rw [HV.out]; rfl, HB.out⟩
    | false =>
      have HV := hide (hR.trans hz)
      have hf := zero_first hz
      simp only at hf
      clear hR hz
      rcases hf with e0 | ⟨rfl, e1⟩ | ⟨rfl, rfl, e2⟩
      all_goals
        go_wp2_with fail
        exact bodyPost_ret (results_tmp rfl _ _ _) rfl ⟨by rw [HV.out]; rfl, HB.out⟩
  · rw [if_neg h4] at hR
    have E0 : (tail == 0) = false := by simpa using h4
    by_cases h5 : 0 < tail
    · by_cases h6 : tail < size
      · have HV := hide (show rightS size n tail ⟨wk, hi, lo⟩ = true by rw [hR, decide_eq_true h5, decide_eq_true h6]; rfl)
        clear hR h4
        go_wp2_with fail
        exact bodyPost_ret (results_tmp rfl _ _ _) rfl ⟨by rw [HV.out]; rfl, HB.out⟩
      · have HV := hide (show rightS size n tail ⟨wk, hi, lo⟩ = false by rw [hR, decide_eq_false h6, Bool.and_false])
        clear hR h4
        go_wp2_with fail
        exact bodyPost_ret (results_tmp rfl _ _ _) rfl ⟨by rw [HV.out]; rfl, HB.out⟩
    · have HV := hide (show rightS size n tail ⟨wk, hi, lo⟩ = false by rw [hR, decide_eq_false h5]; rfl)
      have h7 : tail < 0 := by omega
      clear hR h4
      go_wp2_with fail
      exact bodyPost_ret (results_tmp rfl _ _ _) rfl ⟨by rw [HV.out]; rfl, HB.out⟩

set_option maxHeartbeats 4000000 in
theorem refSigRight_any (size : Int) (A : Option Addr) (n c : Nat) (tail : Int) (s : Sg) (w : World) :
    Calls Try.prog 30 #[.agg (sigC size A n c tail s)] w fun e w' => e = .returned (.bool (rightS size n tail s)) ∧ Below w.heap.size w w' := by
  obtain ⟨wk, hi, lo⟩ := s
  show Calls _ _ #[.agg #[.int .i64 size, .slice A n c, .int .i64 tail, .int .u32 (wk : Nat), .int .u64 (hi : Nat), .int .u64 (lo : Nat)]] _ _
  have HB := hide ((Below.refl w.heap.size w).alloc (Nat.le_refl _) (.cells #[.int .i64 size, .slice A n c, .int .i64 tail, .int .u32 (wk : Nat), .int .u64 (hi : Nat), .int .u64 (lo : Nat)] 42))
  go_enter Try.func30, Try.ntmps30
  by_cases h1 : size < 4
  · have HV := hide (right_size (n := n) (tail := tail) (s := ⟨wk, hi, lo⟩) (fun h => by have := h.1; omega : ¬ (4 ≤ size ∧ size ≤ 64 ∧ n ≤ 4096)))
    go_wp2_with fail
    exact bodyPost_ret (results_tmp rfl _ _ _) rfl ⟨by rw [HV.out]; rfl, HB.out⟩
  by_cases h2 : 64 < size
  · have HV := hide (right_size (n := n) (tail := tail) (s := ⟨wk, hi, lo⟩) (fun h => by have := h.2.1; omega : ¬ (4 ≤ size ∧ size ≤ 64 ∧ n ≤ 4096)))
    go_wp2_with fail
    exact bodyPost_ret (results_tmp rfl _ _ _) rfl ⟨by rw [HV.out]; rfl, HB.out⟩
  by_cases h3 : (4096 : Int) < n
  · have HV := hide (right_size (n := n) (tail := tail) (s := ⟨wk, hi, lo⟩) (fun h => by have := h.2.2; omega : ¬ (4 ≤ size ∧ size ≤ 64 ∧ n ≤ 4096)))
    go_wp2_with fail
    exact bodyPost_ret (results_tmp rfl _ _ _) rfl ⟨by rw [HV.out]; rfl, HB.out⟩
  have hR := right_in (tail := tail) (s := ⟨wk, hi, lo⟩) (show 4 ≤ size by omega) (show size ≤ 64 by omega) (show n ≤ 4096 by omega)
  by_cases h4 : tail = 0
  · subst h4
    rw [if_pos rfl] at hR
    cases hz : zeroB ⟨wk, hi, lo⟩ with
    | true =>
      obtain ⟨e0, e1, e2⟩ := zero_all hz
      simp only at e0 e1 e2
      subst e0 e1 e2
      have HV := hide (hR.trans hz)
      clear hR hz
      go_wp2_with fail
      exact bodyPost_ret (results_tmp rfl _ _ _) rfl ⟨by rw [HV.out]; rfl, HB.out⟩
    | false =>
      have HV := hide (hR.trans hz)
      have hf := zero_first hz
      simp only at hf
      clear hR hz
      rcases hf with e0 | ⟨rfl, e1⟩ | ⟨rfl, rfl, e2⟩
      all_goals
        go_wp2_with fail
        exact bodyPost_ret (results_tmp rfl _ _ _) rfl ⟨by rw [HV.out]; rfl, HB.out⟩
  · rw [if_neg h4] at hR
    have E0 : (tail == 0) = false := by simpa using h4
    by_cases h5 : 0 < tail
    · by_cases h6 : tail < size
      · have HV := hide (show rightS size n tail ⟨wk, hi, lo⟩ = true by rw [hR, decide_eq_true h5, decide_eq_true h6]; rfl)
        clear hR h4
        go_wp2_with fail
        exact bodyPost_ret (results_tmp rfl _ _ _) rfl ⟨by rw [HV.out]; rfl, HB.out⟩
      · have HV := hide (show rightS size n tail ⟨wk, hi, lo⟩ = false by rw [hR, decide_eq_false h6, Bool.and_false])
        clear hR h4
        go_wp2_with fail
        exact bodyPost_ret (results_tmp rfl _ _ _) rfl ⟨by rw [HV.out]; rfl, HB.out⟩
    · have HV := hide (show rightS size n tail ⟨wk, hi, lo⟩ = false by rw [hR, decide_eq_false h5]; rfl)
      have h7 : tail < 0 := by omega
      clear hR h4
      go_wp2_with fail
      exact bodyPost_ret (results_tmp rfl _ _ _) rfl ⟨by rw [HV.out]; rfl, HB.out⟩

/-- Of how many bytes a signature is. -/
def totalS (size : Int) (n : Nat) (tail : Int) (s : Sg) : Int := if rightS size n tail s = true then size * n + tail else 0
set_option maxHeartbeats 4000000 in
theorem total_any (size : Int) (A : Option Addr) (n c : Nat) (tail : Int) (s : Sg) (w : World) :
    Calls Try.prog 25 #[.agg (sigC size A n c tail s)] w fun e w' => e = .returned (.int .i64 (totalS size n tail s)) ∧ Below w.heap.size w w' := by
  have HR := hide (sigRight_any size A n c tail s)
  have hT : totalS size n tail s = if rightS size n tail s = true then size * n + tail else 0 := rfl
  have hin : rightS size n tail s = true → 4 ≤ size ∧ size ≤ 64 ∧ n ≤ 4096 ∧ 0 ≤ tail ∧ tail < 64 := fun h => by
    by_cases h0 : 4 ≤ size ∧ size ≤ 64 ∧ n ≤ 4096
    · rw [right_in h0.1 h0.2.1 h0.2.2] at h
      refine ⟨h0.1, h0.2.1, h0.2.2, ?_⟩
      split at h
      · omega
      · simp only [Bool.and_eq_true, decide_eq_true_eq] at h; omega
    · rw [right_size h0] at h; cases h
  generalize totalS size n tail s = T at hT ⊢
  generalize rightS size n tail s = q at HR hT hin
  obtain ⟨wk, hi, lo⟩ := s
  simp only [sigC] at HR ⊢
  have HB := hide ((Below.refl w.heap.size w).alloc (Nat.le_refl _) (.cells #[.int .i64 size, .slice A n c, .int .i64 tail, .int .u32 (wk : Nat), .int .u64 (hi : Nat), .int .u64 (lo : Nat)] 32))
  have hrow := World.alloc_heap_new w (Obj.cells #[.int .i64 size, .slice A n c, .int .i64 tail, .int .u32 (wk : Nat), .int .u64 (hi : Nat), .int .u64 (lo : Nat)] 32)
  go_enter Try.func25, Try.ntmps25
  cases q with
  | false =>
    have HV := hide (show T = 0 by rw [hT]; rfl)
    clear hT hin
    go_wp2_with fail
    refine (HR.out _).mono ?_
    rintro e w1 ⟨rfl, hb⟩
    have HB1 := hide (HB.out.trans (hb.mono HB.out.size))
    clear hb
    go_wp2_with fail
    exact bodyPost_ret (results_tmp rfl _ _ _) rfl ⟨by rw [HV.out]; rfl, HB1.out⟩
  | true =>
    rw [if_pos rfl] at hT
    have h9 := hin rfl
    have h8 : 0 ≤ size * n := Int.mul_nonneg (by omega) (by omega)
    have h7 : size * n ≤ 64 * 4096 := Int.mul_le_mul h9.2.1 (by omega) (by omega) (by omega)
    have q1 : IntKind.i64.wrap (size * n) = size * n := IntWalk.i64_in _ (by omega)
    have q2 : IntKind.i64.wrap (size * n + tail) = size * n + tail := IntWalk.i64_in _ (by omega)
    have HV := hide hT
    clear hT hin h9 h8 h7
    go_wp2_with fail
    refine (HR.out _).mono ?_
    rintro e w1 ⟨rfl, hb⟩
    have s1 := (hb.block w.heap.size (by simp)).trans hrow
    have k0 : w1.cell? ⟨w.heap.size, 0, none⟩ = some (.int .i64 size) := cell_of_row _ _ _ _ _ _ s1
    have k1 : w1.cell? ⟨w.heap.size, 1, none⟩ = some (.slice A n c) := cell_of_row _ _ _ _ _ _ s1
    have k2 : w1.cell? ⟨w.heap.size, 2, none⟩ = some (.int .i64 tail) := cell_of_row _ _ _ _ _ _ s1
    have HB1 := hide (HB.out.trans (hb.mono HB.out.size))
    clear hb s1
    go_wp2_with fail
    exact bodyPost_ret (results_tmp rfl _ _ _) rfl ⟨by rw [HV.out]; rfl, HB1.out⟩
end Go.Proofs.Ytobgbheodlpclaa
