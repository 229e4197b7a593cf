/-
  sketch: the words of bytes.
-/
import Derived.Test.YtpefcadlejcbbaaSkWord
namespace Go.Proofs.Ytpefcadlejcbbaa
set_option maxRecDepth 100000

/-- How many bytes a shingle has. -/
def ofN (l : List UInt8) : Nat := min 4 l.length
/-- The shingle at a place. -/
def shAt (l : List UInt8) (i : Nat) : List UInt8 := (l.drop i).take (ofN l)
/-- The words of bytes, in order. -/
def shL (l : List UInt8) : List Nat := if l = [] then [] else (List.range (l.length + 1 - ofN l)).map fun i => wordL (shAt l i)
theorem shL_nil : shL [] = [] := rfl
theorem shL_len (l : List UInt8) (h : l ≠ []) : (shL l).length = l.length + 1 - ofN l := by
  unfold shL; rw [if_neg h, List.length_map, List.length_range]
theorem shAt_len (l : List UInt8) (i : Nat) (h : i + ofN l ≤ l.length) : (shAt l i).length = ofN l := by
  unfold shAt; rw [List.length_take, List.length_drop]; omega
theorem shL_at (l : List UInt8) (i : Nat) (h : l ≠ []) (hi : i + ofN l ≤ l.length) : (shL l)[i]? = some (wordL (shAt l i)) := by
  unfold shL
  rw [if_neg h, List.getElem?_map, List.getElem?_range (by omega)]; rfl
theorem shL_take (l : List UInt8) (i : Nat) (h : l ≠ []) (hi : i + ofN l ≤ l.length) : (shL l).take i ++ [wordL (shAt l i)] = (shL l).take (i + 1) := by
  rw [List.take_add_one, shL_at l i h hi]; rfl
theorem shL_all (l : List UInt8) : ∀ x ∈ shL l, x < 18446744073709551616 := by
  intro x hx
  unfold shL at hx
  split at hx
  · simp at hx
  · obtain ⟨i, _, rfl⟩ := List.mem_map.1 hx
    exact wordL_lt _ (by unfold shAt ofN; rw [List.length_take]; omega)
theorem shL_le (l : List UInt8) : (shL l).length ≤ l.length := by
  by_cases h : l = []
  · subst h; exact Nat.le_refl _
  · have h0 : 0 < l.length := List.length_pos_iff.2 h
    rw [shL_len l h]; unfold ofN; omega
end Go.Proofs.Ytpefcadlejcbbaa
