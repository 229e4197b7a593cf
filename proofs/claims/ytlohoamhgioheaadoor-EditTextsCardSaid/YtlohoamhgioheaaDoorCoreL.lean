/-
  A text without the slash at its begin or end; its first and last byte.
-/
import Derived.Test.YtlohoamhgioheaaDoorPathSplit
namespace Go.Proofs.YtlohoamhgioheaaDoor
open Go.RowKit
set_option maxRecDepth 100000

/-- A pattern without a slash at its begin; was there one? -/
def cutH (l : List UInt8) : List UInt8 × Bool := if l.head? = some 47 then (l.drop 1, true) else (l, false)
/-- A pattern without a slash at its end; was there one? -/
def cutT (l : List UInt8) : List UInt8 × Bool := if l.getLast? = some 47 then (l.dropLast, true) else (l, false)
theorem head_at (s : ByteArray) (h : 0 < s.size) : (toL s).head? = some s[0] := by
  have h' : 0 < (toL s).length := by simpa [toL] using h
  rw [List.head?_eq_getElem?, List.getElem?_eq_getElem h']; rfl
theorem last_at (s : ByteArray) (h : 0 < s.size) : (toL s).getLast? = some (s[s.size - 1]'(by omega)) := by
  have hl : (toL s).length = s.size := by simp [toL]
  rw [List.getLast?_eq_getElem?, hl, List.getElem?_eq_getElem (by omega)]; rfl
theorem cutT_empty (s : ByteArray) (h : s.size = 0) : cutT (toL s) = (toL s, false) := by
  have hl : (toL s).length = s.size := by simp [toL]
  have : toL s = [] := List.length_eq_zero_iff.1 (by omega)
  unfold cutT
  rw [this]; rfl
theorem cutT_some (s : ByteArray) (h : 0 < s.size) (hc : s[s.size - 1]'(by omega) = 47) : cutT (toL s) = (toL (s.extract 0 (s.size - 1)), true) := by
  unfold cutT
  rw [last_at s h, hc, if_pos rfl]
  congr 1
  unfold toL
  rw [Lib.extract_data, List.dropLast_eq_take]
  simp
theorem cutT_none (s : ByteArray) (h : 0 < s.size) (hc : s[s.size - 1]'(by omega) ≠ 47) : cutT (toL s) = (toL s, false) := by
  unfold cutT
  rw [last_at s h, if_neg (by simpa using hc)]

end Go.Proofs.YtlohoamhgioheaaDoor
