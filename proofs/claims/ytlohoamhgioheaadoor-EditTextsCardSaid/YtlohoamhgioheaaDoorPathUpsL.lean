/-
  The paths that a path is under: plain.
-/
import Derived.Test.YtlohoamhgioheaaDoorPathNamesL
namespace Go.Proofs.YtlohoamhgioheaaDoor
open Go.RowKit
set_option maxRecDepth 100000

def endL (l : List (List UInt8)) : Nat := (l.map (fun x => x.length + 1)).sum
/-- The paths that a path is under. -/
def upsL (p : List UInt8) : List (List UInt8) := (List.range (namesL p).length).map fun i => p.take (endL ((namesL p).take i) - 1)

theorem upsL_len (p : List UInt8) : (upsL p).length = (namesL p).length := by simp [upsL]

theorem endL_split : ∀ l : List UInt8, endL (splitL l) = l.length + 1
  | [] => rfl
  | c :: r => by
    have ih := endL_split r
    unfold splitL
    split
    · simp [endL] at ih ⊢; omega
    · cases h : splitL r with
      | nil => exact absurd h (splitL_ne r)
      | cons a t =>
        rw [h] at ih
        simp [endL] at ih ⊢; omega

theorem endL_append (a b : List (List UInt8)) : endL (a ++ b) = endL a + endL b := by simp [endL]

theorem names_prefix (p : List UInt8) (a : List (List UInt8)) (x : List UInt8) (h : a ++ [x] <+: namesL p) :
    a.length < (namesL p).length ∧ a = (namesL p).take a.length ∧ endL a + (x.length + 1) ≤ p.length + 1 := by
  obtain ⟨t, ht⟩ := h
  refine ⟨by rw [← ht]; simp, by rw [← ht]; simp, ?_⟩
  have hs : namesL p = splitL p := by
    unfold namesL at ht ⊢
    split
    · rename_i hc; rw [if_pos hc] at ht; simp at ht
    · rfl
  have := endL_split p
  rw [← hs, ← ht, endL_append, endL_append] at this
  have e : endL [x] = x.length + 1 := by simp [endL]
  omega

theorem upsL_take (p : List UInt8) (k : Nat) (h : k < (namesL p).length) : (upsL p).take (k + 1) = (upsL p).take k ++ [p.take (endL ((namesL p).take k) - 1)] := by
  have h' : k < (upsL p).length := by rw [upsL_len]; exact h
  rw [List.take_succ_eq_append_getElem h']
  congr 1
  simp [upsL]

end Go.Proofs.YtlohoamhgioheaaDoor
