/-
  A list out of what holds of each of its places.
-/
import Derived.Test.YtggdndmjfbiaiaaDoorBytes
namespace Go.Proofs.YtggdndmjfbiaiaaDoor

theorem list_of {α : Type} (p : Nat → α → Prop) : ∀ n : Nat, (∀ i, i < n → ∃ a, p i a) → ∃ l : List α, l.length = n ∧ ∀ k a, l[k]? = some a → p k a
  | 0, _ => ⟨[], rfl, fun k a h => by simp at h⟩
  | n + 1, h => by
    obtain ⟨l, hl, hp⟩ := list_of p n (fun i hi => h i (by omega))
    obtain ⟨a, ha⟩ := h n (by omega)
    refine ⟨l ++ [a], by simp [hl], fun k b hb => ?_⟩
    rw [List.getElem?_append] at hb
    split at hb
    · exact hp k b hb
    · rename_i hk
      have hk0 : k - l.length = 0 := by
        rcases Nat.eq_zero_or_pos (k - l.length) with h0 | h0
        · exact h0
        · rw [List.getElem?_eq_none (by simp; omega)] at hb; cases hb
      rw [hk0] at hb
      simp at hb
      subst hb
      rwa [show k = n by omega]
end Go.Proofs.YtggdndmjfbiaiaaDoor
