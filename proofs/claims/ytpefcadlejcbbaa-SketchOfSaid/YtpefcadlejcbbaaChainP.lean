/-
  Blocks that are made one behind the other.
-/
import Derived.Test.YtpefcadlejcbbaaBytes
namespace Go.Proofs.Ytpefcadlejcbbaa
open Go.RowKit
set_option maxRecDepth 100000

theorem chain_below (os : List Obj) : ∀ w : World, Below w.heap.size w (os.foldl World.alloc w) := by
  induction os with
  | nil => exact fun w => Below.refl _ w
  | cons o os ih =>
    intro w
    have h1 : Below w.heap.size w (w.alloc o) := (Below.refl _ w).alloc (Nat.le_refl _) _
    exact h1.trans ((ih (w.alloc o)).mono h1.size)
theorem chain_size (os : List Obj) : ∀ w : World, (os.foldl World.alloc w).heap.size = w.heap.size + os.length := by
  induction os with
  | nil => exact fun w => rfl
  | cons o os ih => intro w; show (os.foldl World.alloc (w.alloc o)).heap.size = _; rw [ih, World.size_alloc]; simp; omega
theorem chain_at (os : List Obj) : ∀ (w : World) (i : Nat) (o : Obj), os[i]? = some o → (os.foldl World.alloc w).heap[w.heap.size + i]? = some o := by
  induction os with
  | nil => intro w i o h; simp at h
  | cons a os ih =>
    intro w i o h
    show (os.foldl World.alloc (w.alloc a)).heap[w.heap.size + i]? = some o
    rcases i with _ | i
    · simp at h
      subst h
      have hb := chain_below os (w.alloc a)
      rw [Nat.add_zero, hb.block w.heap.size (by rw [World.size_alloc]; omega)]
      exact World.alloc_heap_new w a
    · have h2 := ih (w.alloc a) i o (by simpa using h)
      rw [World.size_alloc] at h2
      rw [show w.heap.size + (i + 1) = w.heap.size + 1 + i by omega]
      exact h2
end Go.Proofs.Ytpefcadlejcbbaa
