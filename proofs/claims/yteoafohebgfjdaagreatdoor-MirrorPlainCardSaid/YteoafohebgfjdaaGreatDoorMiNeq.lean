/-
  Two nodes that are held against each other: '!='.
-/
import Derived.Test.YteoafohebgfjdaaGreatDoorAutoMkSame
import Derived.WalkKit
namespace Go.Proofs.YteoafohebgfjdaaGreatDoor
open Go.RowKit
set_option maxRecDepth 100000

theorem nd_eqIn (x n : Nd) (w : World) : (Op.equalIn 10000 36 (.agg x.cells) (.agg n.cells)).run Tryz.prog w = .ok (ndB x n) w := by
  have u0 := Tryz.underlying3
  have u2 := Tryz.underlying9
  have a0 := Tryz.isAgg3
  have a2 := Tryz.isAgg9
  have z0 := Tryz.sizeOf3
  have z2 := Tryz.sizeOf9
  cases hq : ndB x n with
  | true =>
    obtain rfl := (ndB_iff _ _).1 hq
    obtain ⟨path, kind, mode, time, data⟩ := x
    simp only [Nd.cells]
    rw [show (10000 : Nat) = 9999 + 1 from rfl, Op.equalIn]
    simp only [Sem.run_bind, run_underlying Tryz.underlying36, Result.andThen_ok]
    clear hq
    go_simp
  | false =>
    have hfirst := ndB_first hq
    obtain ⟨path, kind, mode, time, data⟩ := x
    obtain ⟨path', kind', mode', time', data'⟩ := n
    simp only [Nd.cells] at hfirst ⊢
    rw [show (10000 : Nat) = 9999 + 1 from rfl, Op.equalIn]
    simp only [Sem.run_bind, run_underlying Tryz.underlying36, Result.andThen_ok]
    clear hq
    rcases hfirst with g1 | ⟨g1, g2⟩ | ⟨g1, g2, g3⟩ | ⟨g1, g2, g3, g4⟩ | ⟨g1, g2, g3, g4, g5⟩
    all_goals go_simp
theorem nd_neq (x n : Nd) (w : World) : (binOp .neq 36 (.agg x.cells) (.agg n.cells)).run Tryz.prog w = .ok (.bool (!ndB x n)) w := by
  have h := nd_eqIn x n w
  have h9 : ∀ a b : Value, (Op.equalIn Op.maxDepth 36 a b) = Op.equalIn 10000 36 a b := fun a b => rfl
  simp only [binOp, Op.equal, Sem.run_bind, h9, h, Result.andThen_ok]
  rfl
end Go.Proofs.YteoafohebgfjdaaGreatDoor
