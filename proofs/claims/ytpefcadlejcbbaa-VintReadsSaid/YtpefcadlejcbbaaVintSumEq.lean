/-
  Two equal sums are equal.
-/
import Derived.Test.YtpefcadlejcbbaaVintRefSum
namespace Go.Proofs.Ytpefcadlejcbbaa
open Go.RowKit
set_option maxRecDepth 100000

theorem sum_eql (p q : Int) (w : World) : (binOp .eql 60 (.agg #[.int .u64 p, .int .u64 q]) (.agg #[.int .u64 p, .int .u64 q])).run Try.prog w = .ok (.bool true) w := by
  have u3 := Try.underlying29
  have a3' := Try.isAgg29
  have z3 := Try.sizeOf29
  have h : (Op.equalIn 10000 60 (.agg #[.int .u64 p, .int .u64 q]) (.agg #[.int .u64 p, .int .u64 q])).run Try.prog w = .ok true w := by
    rw [show (10000 : Nat) = 9999 + 1 from rfl, Op.equalIn]
    simp only [Sem.run_bind, run_underlying Try.underlying60, Result.andThen_ok]
    go_simp
  have h9 : ∀ a b : Value, (Op.equalIn Op.maxDepth 60 a b) = Op.equalIn 10000 60 a b := fun a b => rfl
  simp only [binOp, Op.equal, Sem.run_bind, h9, h, Result.andThen_ok]
  rfl
end Go.Proofs.Ytpefcadlejcbbaa
