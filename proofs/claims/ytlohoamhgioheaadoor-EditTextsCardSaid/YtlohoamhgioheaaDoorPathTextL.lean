/-
  Two names, byte by byte, plainly.
-/
import Derived.Test.YtlohoamhgioheaaDoorPathCmpL
import Derived.Test.YtlohoamhgioheaaDoorPathRight
namespace Go.Proofs.YtlohoamhgioheaaDoor
open Go.RowKit
set_option maxRecDepth 100000

/-- Two names, byte by byte. -/
def textL : List UInt8 → List UInt8 → Int
  | [], [] => 0
  | [], _ :: _ => -1
  | _ :: _, [] => 1
  | a :: p, b :: q => if a = b then textL p q else signZ ((a.toNat : Int) - (b.toNat : Int))

theorem textL_same : ∀ (k : Nat) (p q : List UInt8), p.take k = q.take k → k ≤ p.length → k ≤ q.length → textL p q = textL (p.drop k) (q.drop k)
  | 0, p, q, _, _, _ => by simp
  | k + 1, a :: p, b :: q, h, h1, h2 => by
    simp at h h1 h2
    rw [h.1]
    simp only [textL, if_true, List.drop_succ_cons]
    exact textL_same k p q h.2 h1 h2
  | k + 1, [], _, _, h1, _ => by simp at h1
  | k + 1, _ :: _, [], _, _, h2 => by simp at h2

theorem textL_at (k : Nat) (p q : ByteArray) (h : p.data.toList.take k = q.data.toList.take k) (h1 : k < p.size) (h2 : k < q.size) (hne : p[k] ≠ q[k]) :
    textL p.data.toList q.data.toList = signZ ((p[k].toNat : Int) - (q[k].toNat : Int)) := by
  have l1 : k < p.data.toList.length := by simpa using h1
  have l2 : k < q.data.toList.length := by simpa using h2
  rw [textL_same k _ _ h (by omega) (by omega), List.drop_eq_getElem_cons l1, List.drop_eq_getElem_cons l2]
  have e1 : p.data.toList[k] = p[k] := rfl
  have e2 : q.data.toList[k] = q[k] := rfl
  rw [e1, e2]
  simp [textL, hne]

theorem textL_end (p q : ByteArray) (h : p.data.toList.take (min p.size q.size) = q.data.toList.take (min p.size q.size)) :
    textL p.data.toList q.data.toList = signZ ((p.size : Int) - q.size) := by
  have s1 : p.data.toList.length = p.size := by simp
  have s2 : q.data.toList.length = q.size := by simp
  rw [textL_same _ _ _ h (by rw [s1]; omega) (by rw [s2]; omega)]
  by_cases hl : p.size ≤ q.size
  · rw [Nat.min_eq_left hl, List.drop_of_length_le (by omega)]
    cases hd : q.data.toList.drop p.size with
    | nil =>
      have := congrArg List.length hd
      simp at this
      have : (p.size : Int) - q.size = 0 := by omega
      rw [this]; rfl
    | cons c r =>
      have := congrArg List.length hd
      simp at this
      have h1 : (p.size : Int) - q.size < 0 := by omega
      simp [textL, signZ, h1]
  · rw [Nat.min_eq_right (by omega), List.drop_of_length_le (l := q.data.toList) (by omega)]
    cases hd : p.data.toList.drop q.size with
    | nil =>
      have := congrArg List.length hd
      simp at this
      omega
    | cons c r =>
      have h1 : ¬ (p.size : Int) - q.size < 0 := by omega
      have h2 : ¬ (p.size : Int) - q.size = 0 := by omega
      simp [textL, signZ, h1, h2]


end Go.Proofs.YtlohoamhgioheaaDoor
