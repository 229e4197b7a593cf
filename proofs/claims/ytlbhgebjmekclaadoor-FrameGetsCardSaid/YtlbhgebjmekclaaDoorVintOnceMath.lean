/-
  A number has one encoding alone.
-/
import Derived.Test.YtlbhgebjmekclaaDoorVintRead
namespace Go.Proofs.YtlbhgebjmekclaaDoor
open Go.RowKit
set_option maxRecDepth 100000

theorem groups_mono : ∀ (f n m : Nat), n ≤ m → (groupsF f n).length ≤ (groupsF f m).length
  | 0, _, _, _ => by simp [groupsF]
  | f + 1, n, m, h => by
    by_cases hn : n < 128
    · have e : groupsF (f + 1) n = [UInt8.ofNat n] := by unfold groupsF; rw [if_pos hn]
      rw [e]
      exact groups_pos (f + 1) m
    · have e1 : groupsF (f + 1) n = UInt8.ofNat (n % 128 + 128) :: groupsF f (n / 128) := by conv => lhs; unfold groupsF; rw [if_neg hn]
      have e2 : groupsF (f + 1) m = UInt8.ofNat (m % 128 + 128) :: groupsF f (m / 128) := by conv => lhs; unfold groupsF; rw [if_neg (by omega)]
      rw [e1, e2, List.length_cons, List.length_cons]
      have := groups_mono f (n / 128) (m / 128) (Nat.div_le_div_right h)
      omega
theorem numF_once : ∀ (r : List UInt8) (i a x z : Nat), i ≤ 9 → numF i a r = (x, z, 0) → ∃ y, x = a + y * 128 ^ i ∧ i < z ∧ groupsF (9 - i) y = r.take (z - i) ∧ (0 < i → 0 < y)
  | [], i, a, x, z, _, h => by simp [numF] at h
  | c :: r, i, a, x, z, hi, h => by
    by_cases hb : (i = 9 ∧ 1 < c.toNat) ∨ (0 < i ∧ c.toNat = 0)
    · rw [numF_bad _ _ _ _ hb] at h; simp at h
    · rw [numF_good _ _ _ _ hb] at h
      have hx := c.toNat_lt
      have hof : UInt8.ofNat c.toNat = c := by simp
      by_cases hc : c.toNat < 128
      · rw [if_pos hc] at h
        simp only [Prod.mk.injEq] at h
        obtain ⟨rfl, rfl, _⟩ := h
        refine ⟨c.toNat, by rw [Nat.mod_eq_of_lt hc], by omega, ?_, by omega⟩
        rw [show i + 1 - i = 1 by omega]
        have e : groupsF (9 - i) c.toNat = [UInt8.ofNat c.toNat] := by
          cases 9 - i with
          | zero => rfl
          | succ f => unfold groupsF; rw [if_pos hc]
        rw [e, hof]; rfl
      · rw [if_neg hc] at h
        have hi9 : i ≠ 9 := by omega
        obtain ⟨y, h1, h2, h3, h4⟩ := numF_once r (i + 1) _ x z (by omega) h
        have hy := h4 (by omega)
        refine ⟨c.toNat % 128 + 128 * y, ?_, by omega, ?_, by omega⟩
        · rw [h1, Nat.pow_succ, Nat.add_mul]
          have : y * (128 ^ i * 128) = 128 * y * 128 ^ i := by rw [Nat.mul_comm (128 ^ i) 128, ← Nat.mul_assoc, Nat.mul_comm y 128]
          omega
        · obtain ⟨f, hf⟩ : ∃ f, 9 - i = f + 1 := ⟨9 - i - 1, by omega⟩
          obtain ⟨g, hg⟩ : ∃ g, z - i = g + 1 := ⟨z - i - 1, by omega⟩
          rw [hf, hg, List.take_succ_cons]
          conv => lhs; unfold groupsF
          rw [if_neg (by omega)]
          have e1 : (c.toNat % 128 + 128 * y) % 128 + 128 = c.toNat := by omega
          have e2 : (c.toNat % 128 + 128 * y) / 128 = y := by omega
          rw [e1, e2, hof, show f = 9 - (i + 1) by omega, h3, show z - (i + 1) = g by omega]
theorem numL_once (l : List UInt8) (x z : Nat) (h : numL l = (x, z, 0)) (hz : l.drop z = []) : groupsL x = l := by
  obtain ⟨y, h1, _, h3, _⟩ := numF_once l 0 0 x z (by decide) h
  have e : y = x := by rw [h1]; simp
  rw [e] at h3
  have ht : l.take z = l := by
    have := List.take_append_drop z l
    rw [hz, List.append_nil] at this
    exact this
  rw [show z - 0 = z from rfl, ht] at h3
  exact h3
end Go.Proofs.YtlbhgebjmekclaaDoor
