/-
  paths.Within in plain words.
-/
import Derived.Test.YtlohoamhgioheaaDoorPathMoves
import Derived.Test.YtlohoamhgioheaaDoorPathMath
namespace Go.Proofs.YtlohoamhgioheaaDoor
open Go.RowKit
set_option maxRecDepth 100000

/-- Within. -/
def withinL (p t : List UInt8) : Prop := rightL p = true ∧ rightL t = true ∧ (t = [] ∨ ∃ y, p = t ++ y ∧ edge y)

theorem toL_empty (p : ByteArray) : p.toList.isEmpty = true ↔ toL p = [] := by
  rw [Lib.toList_data]; unfold toL; exact List.isEmpty_iff

theorem restP_data (p t : ByteArray) (y : List UInt8) (h : toL p = toL t ++ y) : preB p t = true ∧ toL (restP p t) = y := by
  have hp : preB p t = true := by
    unfold preB
    exact List.isPrefixOf_iff_prefix.2 ⟨y, h.symm⟩
  refine ⟨hp, ?_⟩
  rw [restP_some hp]
  unfold toL at h ⊢
  rw [Lib.extract_data, h, List.take_of_length_le (by rw [← h]; simp)]
  simp

theorem okB_iff (p t : ByteArray) : okB p t = true ↔ withinL (toL p) (toL t) := by
  unfold okB withinL
  cases h1 : rightL (toL p) with
  | false => simp
  | true =>
    cases h2 : rightL (toL t) with
    | false => simp
    | true =>
      simp only [Bool.not_true, Bool.or_self, Bool.false_eq_true, if_false, true_and]
      by_cases ht : toL t = []
      · have he := (toL_empty t).2 ht
        rw [he]
        cases hp : p.toList.isEmpty with
        | false => simp [ht]
        | true =>
          have hp' := (toL_empty p).1 hp
          obtain ⟨a, b⟩ := restP_data p t [] (by rw [hp', ht]; rfl)
          have hr := (toL_empty _).2 b
          simp [ht, a, hr]
      · have he : t.toList.isEmpty = false := by
          cases h : t.toList.isEmpty with
          | false => rfl
          | true => exact absurd ((toL_empty t).1 h) ht
        rw [he]
        simp only [Bool.false_and, Bool.false_eq_true, if_false, ht, false_or]
        constructor
        · intro h
          rw [Bool.and_eq_true] at h
          obtain ⟨a, b⟩ := h
          have hpre : toL t <+: toL p := List.isPrefixOf_iff_prefix.1 a
          obtain ⟨y, hy⟩ := hpre
          obtain ⟨_, hr⟩ := restP_data p t y hy.symm
          refine ⟨y, hy.symm, ?_⟩
          rw [Bool.or_eq_true] at b
          rcases b with b | b
          · left; rw [← hr]; exact (toL_empty _).1 b
          · right
            rw [hr] at b
            cases y with
            | nil => simp at b
            | cons c z => simp at b; exact ⟨z, by rw [b]⟩
        · rintro ⟨y, hy, hedge⟩
          obtain ⟨a, hr⟩ := restP_data p t y hy
          rw [a, hr]
          rcases hedge with rfl | ⟨z, rfl⟩
          · rw [(toL_empty _).2 hr]; rfl
          · simp

/-- PathsTogether's words, over plain lists. -/
theorem together (p q r t : List UInt8) (hq : rightL q = true) (hp : withinL p t) (hr : withinL r t) (h1 : cmpL p q ≤ 0) (h2 : cmpL q r ≤ 0) : withinL q t := by
  obtain ⟨_, ht, hp⟩ := hp
  obtain ⟨_, _, hr⟩ := hr
  refine ⟨hq, ht, ?_⟩
  by_cases h0 : t = []
  · exact .inl h0
  · right
    obtain ⟨x, rfl, _⟩ := hp.resolve_left h0
    obtain ⟨z, rfl, hz⟩ := hr.resolve_left h0
    exact cmpL_between t q x z hz h1 h2

theorem within_first (p t : List UInt8) (hp : withinL p t) : cmpL t p ≤ 0 := by
  rcases hp.2.2 with rfl | ⟨y, rfl, _⟩
  · cases p <;> simp [cmpL]
  · exact cmpL_first t y
end Go.Proofs.YtlohoamhgioheaaDoor
