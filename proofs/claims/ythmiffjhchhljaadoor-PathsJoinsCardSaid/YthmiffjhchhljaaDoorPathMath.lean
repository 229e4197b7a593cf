/-
  The order of paths is one: plain mathematics.
-/
import Derived.Test.YthmiffjhchhljaaDoorPathPre
namespace Go.Proofs.YthmiffjhchhljaaDoor

theorem signZ_neg (n : Int) : signZ (-n) = - signZ n := by
  unfold signZ
  by_cases h : n < 0
  · have h1 : ¬ -n < 0 := by omega
    have h2 : ¬ -n = 0 := by omega
    rw [if_neg h1, if_neg h2, if_pos h]; rfl
  · by_cases h0 : n = 0
    · subst h0; simp
    · have h1 : -n < 0 := by omega
      rw [if_pos h1, if_neg h, if_neg h0]
theorem signZ_le (n : Int) : signZ n ≤ 0 ↔ n ≤ 0 := by
  unfold signZ
  by_cases h : n < 0
  · rw [if_pos h]; omega
  · by_cases h0 : n = 0
    · rw [if_neg h, if_pos h0]; omega
    · rw [if_neg h, if_neg h0]; omega
theorem rankZ_inj (a b : UInt8) (h : rankZ a.toNat = rankZ b.toNat) : a = b := by
  apply UInt8.toNat_inj.1
  unfold rankZ at h
  split at h <;> split at h <;> omega

theorem cmpL_swap : ∀ p q : List UInt8, cmpL q p = - cmpL p q
  | [], [] => rfl
  | [], _ :: _ => rfl
  | _ :: _, [] => rfl
  | a :: p, b :: q => by
    by_cases h : a = b
    · subst h; simp only [cmpL, if_true]; exact cmpL_swap p q
    · have h' : ¬ b = a := fun e => h e.symm
      simp only [cmpL, h, h', if_false]
      rw [← signZ_neg]; congr 1; omega

theorem signZ_zero (n : Int) (h : signZ n = 0) : n = 0 := by
  unfold signZ at h
  split at h
  · omega
  · split at h
    · assumption
    · omega

theorem cmpL_zero : ∀ p q : List UInt8, cmpL p q = 0 ↔ p = q
  | [], [] => by simp [cmpL]
  | [], _ :: _ => by simp [cmpL]
  | _ :: _, [] => by simp [cmpL]
  | a :: p, b :: q => by
    by_cases h : a = b
    · subst h; simp only [cmpL, if_true]; rw [cmpL_zero p q]; simp
    · simp only [cmpL, h, if_false]
      constructor
      · intro e
        have := signZ_zero _ e
        exact absurd (rankZ_inj a b (by omega)) h
      · intro e; injection e with e1 e2; exact absurd e1 h

theorem cmpL_trans : ∀ p q r : List UInt8, cmpL p q ≤ 0 → cmpL q r ≤ 0 → cmpL p r ≤ 0
  | [], _, [] => fun _ _ => by simp [cmpL]
  | [], _, _ :: _ => fun _ _ => by simp [cmpL]
  | _ :: _, [], _ => fun h _ => by simp [cmpL] at h
  | _ :: _, _ :: _, [] => fun _ h => by simp [cmpL] at h
  | a :: p, b :: q, c :: r => fun h1 h2 => by
    by_cases hab : a = b
    · subst hab
      by_cases hac : a = c
      · subst hac
        simp only [cmpL, if_true] at h1 h2 ⊢
        exact cmpL_trans p q r h1 h2
      · simp only [cmpL, hac, if_false] at h2 ⊢
        exact h2
    · by_cases hbc : b = c
      · subst hbc
        simp only [cmpL, hab, if_false] at h1 ⊢
        exact h1
      · simp only [cmpL, hab, hbc, if_false] at h1 h2
        rw [signZ_le] at h1 h2
        by_cases hac : a = c
        · subst hac
          exact absurd (rankZ_inj a b (by omega)) hab
        · simp only [cmpL, hac, if_false]
          rw [signZ_le]; omega

/-- A beginning of names: nothing behind, or a slash. -/
def edge (x : List UInt8) : Prop := x = [] ∨ ∃ y, x = 47 :: y

/-- What stands between two texts that begin with the same names begins with them, too. -/
theorem cmpL_between : ∀ (t q x z : List UInt8), edge z → cmpL (t ++ x) q ≤ 0 → cmpL q (t ++ z) ≤ 0 → ∃ y, q = t ++ y ∧ edge y
  | [], [], _, _, _, _, _ => ⟨[], rfl, .inl rfl⟩
  | [], c :: q, x, z, hz, _, h2 => by
    rcases hz with rfl | ⟨z', rfl⟩
    · simp [cmpL] at h2
    · by_cases hc : c = 47
      · subst hc; exact ⟨47 :: q, rfl, .inr ⟨q, rfl⟩⟩
      · simp only [List.nil_append, cmpL, hc, if_false] at h2
        rw [signZ_le] at h2
        have h47 : (47 : UInt8).toNat = 47 := rfl
        have hn : ¬ c.toNat = 47 := fun e => hc (UInt8.toNat_inj.1 (by omega))
        unfold rankZ at h2
        rw [if_neg (by omega), h47, if_pos (by rfl)] at h2
        omega
  | a :: t, [], _, _, _, h1, _ => by simp [cmpL] at h1
  | a :: t, c :: q, x, z, hz, h1, h2 => by
    by_cases hac : a = c
    · subst hac
      simp only [List.cons_append, cmpL, if_true] at h1 h2
      obtain ⟨y, rfl, hy⟩ := cmpL_between t q x z hz h1 h2
      exact ⟨y, rfl, hy⟩
    · have hca : ¬ c = a := fun e => hac e.symm
      simp only [List.cons_append, cmpL, hac, hca, if_false] at h1 h2
      rw [signZ_le] at h1 h2
      exact absurd (rankZ_inj a c (by omega)) hac

/-- A path stands ahead of all that is within it. -/
theorem cmpL_first : ∀ (t x : List UInt8), cmpL t (t ++ x) ≤ 0
  | [], [] => by simp [cmpL]
  | [], _ :: _ => by simp [cmpL]
  | a :: t, x => by simp only [List.cons_append, cmpL, if_true]; exact cmpL_first t x
end Go.Proofs.YthmiffjhchhljaaDoor
