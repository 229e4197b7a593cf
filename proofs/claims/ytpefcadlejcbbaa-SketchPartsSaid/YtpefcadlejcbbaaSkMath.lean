/-
  sketch: eight numbers, as a row of cells; the lesser of two.
-/
import Derived.Test.YtpefcadlejcbbaaMixPubRound
namespace Go.Proofs.Ytpefcadlejcbbaa
open Go.RowKit
set_option maxRecDepth 100000

/-- Numbers, as cells. -/
def uV (x : Nat) : Value := .int .u64 (x : Nat)
def U (l : List Nat) : Array Value := (l.map uV).toArray
theorem U_set (l : List Nat) (k v : Nat) : (U l).setIfInBounds k (.int .u64 (v : Nat)) = U (l.set k v) := by
  unfold U
  rw [List.setIfInBounds_toArray, List.map_set]; rfl
theorem U_at (l : List Nat) (k v : Nat) (h : l[k]? = some v) : (U l)[k]? = some (.int .u64 (v : Nat)) := by
  unfold U
  rw [List.getElem?_toArray, List.getElem?_map, h]; rfl
/-- The lesser numbers. -/
def lessL (a b : List Nat) : List Nat := List.zipWith min a b
theorem lessL_len (a b : List Nat) (h : a.length = b.length) : (lessL a b).length = a.length := by unfold lessL; simp [h]
/-- The lesser numbers of the first k, those of a behind them. -/
def lessTo (a b : List Nat) (k : Nat) : List Nat := (lessL a b).take k ++ a.drop k
theorem lessTo_zero (a b : List Nat) : lessTo a b 0 = a := by simp [lessTo]
theorem lessTo_all (a b : List Nat) (h : a.length = b.length) : lessTo a b a.length = lessL a b := by
  unfold lessTo
  rw [← lessL_len a b h, List.take_length, lessL_len a b h, List.drop_length, List.append_nil]
theorem lessTo_len (a b : List Nat) (k : Nat) (h : a.length = b.length) (hk : k ≤ a.length) : (lessTo a b k).length = a.length := by
  unfold lessTo; rw [List.length_append, List.length_take, List.length_drop, lessL_len a b h]; omega
theorem lessTo_at (a b : List Nat) (k : Nat) (h : a.length = b.length) (hk : k < a.length) : (lessTo a b k)[k]? = a[k]? := by
  unfold lessTo
  rw [List.getElem?_append_right (by simp [lessL_len a b h]; omega)]
  simp [lessL_len a b h]
  congr 1; omega
theorem lessTo_set (a b : List Nat) (k x y : Nat) (h : a.length = b.length) (hx : a[k]? = some x) (hy : b[k]? = some y) : (lessTo a b k).set k (min x y) = lessTo a b (k + 1) := by
  have hk := (List.getElem?_eq_some_iff.1 hx).1
  have hl := lessL_len a b h
  have hm : (lessL a b)[k]? = some (min x y) := by
    unfold lessL; rw [List.getElem?_zipWith, hx, hy]
  unfold lessTo
  rw [List.set_append_right _ _ (by simp [hl]; omega), List.length_take, hl, Nat.min_eq_left (by omega), Nat.sub_self, List.take_add_one, hm]
  rw [List.drop_eq_getElem_cons hk, List.set_cons_zero]
  simp
end Go.Proofs.Ytpefcadlejcbbaa
