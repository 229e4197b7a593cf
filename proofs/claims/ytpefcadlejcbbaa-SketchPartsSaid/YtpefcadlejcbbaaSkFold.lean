/-
  sketch: the lesser numbers, word by word, are the sketch.
-/
import Derived.Test.YtpefcadlejcbbaaSkRefOf
namespace Go.Proofs.Ytpefcadlejcbbaa
set_option maxRecDepth 100000

/-- The numbers of a sketch without shingles. -/
def noneL : List Nat := [18446744073709551615, 18446744073709551615, 18446744073709551615, 18446744073709551615, 18446744073709551615, 18446744073709551615, 18446744073709551615, 18446744073709551615]
/-- The numbers, word by word. -/
def foldS (ws : List Nat) : List Nat := ws.foldl (fun s v => lessL s (oneL v)) noneL
theorem less_map (f g : Nat → Nat) (r : List Nat) : List.zipWith min (r.map f) (r.map g) = r.map fun k => min (f k) (g k) := by
  induction r with
  | nil => rfl
  | cons x r ih => simp only [List.map_cons, List.zipWith_cons_cons, ih]
theorem fold_map (ws : List Nat) (f : Nat → Nat) : ws.foldl (fun s v => lessL s (oneL v)) ((List.range 8).map f) = (List.range 8).map fun k => ws.foldl (fun s v => min s (lowN v k)) (f k) := by
  induction ws generalizing f with
  | nil => rfl
  | cons v ws ih =>
    rw [List.foldl_cons, show lessL ((List.range 8).map f) (oneL v) = (List.range 8).map (fun k => min (f k) (lowN v k)) from less_map f (lowN v) _, ih]
    rfl
theorem foldS_eq (ws : List Nat) : foldS ws = sketchL ws := fold_map ws fun _ => 18446744073709551615
theorem foldS_snoc (ws : List Nat) (v : Nat) : foldS (ws ++ [v]) = lessL (foldS ws) (oneL v) := by
  unfold foldS; rw [List.foldl_append]; rfl
theorem sketchL_len (ws : List Nat) : (sketchL ws).length = 8 := by simp [sketchL]
theorem foldS_len (ws : List Nat) : (foldS ws).length = 8 := by rw [foldS_eq, sketchL_len]
end Go.Proofs.Ytpefcadlejcbbaa
