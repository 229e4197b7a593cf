/-
  The reference's Same, of two slices of the same rules.
-/
import Derived.Test.YthlalmehcpionaaDoorRefTexts
namespace Go.Proofs.YthlalmehcpionaaDoor
open Go.RowKit
set_option maxRecDepth 100000

theorem rule_neq (a : Bool) (s : ByteArray) (w : World) : (binOp .neq 28 (.agg #[.bool a, .string s]) (.agg #[.bool a, .string s])).run Tryd.prog w = .ok (.bool false) w := by
  have u3 := Tryd.underlying4
  have a3' := Tryd.isAgg4
  have z3 := Tryd.sizeOf4
  have u4 := Tryd.underlying9
  have a4' := Tryd.isAgg9
  have z4 := Tryd.sizeOf9
  have h : (Op.equalIn 10000 28 (.agg #[.bool a, .string s]) (.agg #[.bool a, .string s])).run Tryd.prog w = .ok true w := by
    rw [show (10000 : Nat) = 9999 + 1 from rfl, Op.equalIn]
    simp only [Sem.run_bind, run_underlying Tryd.underlying28, Result.andThen_ok]
    go_simp
  have h9 : ∀ a b : Value, (Op.equalIn Op.maxDepth 28 a b) = Op.equalIn 10000 28 a b := fun a b => rfl
  simp only [binOp, Op.equal, Sem.run_bind, h9, h, Result.andThen_ok]
  rfl

set_option maxHeartbeats 4000000 in
theorem refSame_eq (A B : Option Addr) (l : List (Bool × ByteArray)) (c d : Nat) (w : World) (hA : RdR w w.heap.size A l) (hB : RdR w w.heap.size B l) (hl : (l.length : Int) ≤ 1000000) :
    Calls Tryd.prog 24 #[.slice A l.length c, .slice B l.length d] w fun e w' => e = .returned (.bool true) ∧ Below w.heap.size w w' := by
  have hne := rule_neq
  go_enter Tryd.func24, Tryd.ntmps24
  go_wp2_with fail
  go_loopg [5] l.length (fun gk iv wr => ∃ i : Nat, iv = .int .i64 i ∧ i + gk = l.length ∧ Below w.heap.size w wr)
  case atStart => exact ⟨0, rfl, by omega, Below.refl _ _⟩
  case round =>
    obtain ⟨i, rfl, hig, hBw⟩ := hrel
    cases gk with
    | zero =>
      obtain rfl : i = l.length := by omega
      go_wp2_with fail
      exact bodyPost_ret (results_tmp rfl _ _ _) rfl ⟨rfl, hBw⟩
    | succ g0 =>
      have hii : (i : Int) < l.length := by omega
      obtain ⟨r, hr⟩ : ∃ r, l[i]? = some r := ⟨_, List.getElem?_eq_getElem (by omega)⟩
      obtain ⟨ad, rfl, hlt, c0, c1⟩ := (hA.below hBw (Nat.le_refl _)) i r hr
      obtain ⟨bd, rfl, hlt2, d0, d1⟩ := (hB.below hBw (Nat.le_refl _)) i r hr
      have hiw : IntKind.i64.wrap ((i : Int) + 1) = ((i + 1 : Nat) : Int) := by rw [IntWalk.i64_in _ (by omega)]; rfl
      have HBw := hide hBw
      clear hA hB hr hBw
      go_wp2_with fail
      go_quiet (fail)
      go_wp2_with fail
      go_roundg g0
      case rel => exact ⟨i + 1, rfl, by omega, below_drewN HBw.out _⟩
      case measure => omega
end Go.Proofs.YthlalmehcpionaaDoor
