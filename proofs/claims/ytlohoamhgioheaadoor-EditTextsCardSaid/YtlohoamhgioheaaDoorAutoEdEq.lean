/-
  Texts that belong together: EdAwake, EdEq.
-/
import Derived.Test.YtlohoamhgioheaaDoorEdLine
import Derived.Test.YtlohoamhgioheaaDoorEdits
import Derived.WalkKit
import Derived.Deep.QuietTactic
import Derived.BigQuiet
/-
  The law's own awake: the page's example.
-/
namespace Go.Proofs.YtlohoamhgioheaaDoor
open Go.RowKit
set_option maxRecDepth 100000

theorem ex_move : lineB 6 ⟨#[97]⟩ ⟨#[98]⟩ 0 = ⟨#[109, 111, 118, 101, 32, 97, 32, 98]⟩ := by decide +kernel
theorem ex_meta : wordB 9 = ⟨#[109, 101, 116, 97]⟩ := by decide +kernel
set_option maxHeartbeats 1000000 in
theorem edAwake_any (w : World) (hT : Tabs w) : Calls Tryd.prog 7 #[] w fun e w' => e = .returned (.bool true) ∧ Below w.heap.size w w' := by
  have HT := hide hT
  have HL := hide (line_any 6 ⟨#[97]⟩ ⟨#[98]⟩ 0 w hT (by decide) (by decide))
  have HW := hide (fun W (hb : Below w.heap.size w W) => word_any 9 W (HT.out.below hb))
  rw [ex_move] at HL
  rw [ex_meta] at HW
  clear hT
  go_enter Tryd.func7, Tryd.ntmps7
  go_wp2_with fail
  refine (HL.out).mono ?_
  rintro e w1 ⟨rfl, hb1⟩
  have HB1 := hide hb1
  clear hb1
  go_wp2_with fail
  refine (HW.out _ HB1.out).mono ?_
  rintro e w2 ⟨rfl, rfl⟩
  go_wp2_with fail
  exact bodyPost_ret (results_tmp rfl _ _ _) rfl ⟨rfl, HB1.out⟩
end Go.Proofs.YtlohoamhgioheaaDoor
/-
  Two edits that are one, held against each other: '==', '!='; two lists of the same edits.
-/
namespace Go.Proofs.YtlohoamhgioheaaDoor
open Go.RowKit
set_option maxRecDepth 100000

theorem et_eqIn (e : Et) (w : World) : (Op.equalIn 10000 23 (.agg e.cells) (.agg e.cells)).run Tryd.prog w = .ok true w := by
  have u0 := Tryd.underlying3
  have u2 := Tryd.underlying9
  have a0 := Tryd.isAgg3
  have a2 := Tryd.isAgg9
  have z0 := Tryd.sizeOf3
  have z2 := Tryd.sizeOf9
  obtain ⟨k, f, t, n⟩ := e
  simp only [Et.cells]
  rw [show (10000 : Nat) = 9999 + 1 from rfl, Op.equalIn]
  simp only [Sem.run_bind, run_underlying Tryd.underlying23, Result.andThen_ok]
  go_simp
theorem et_neq (e : Et) (w : World) : (binOp .neq 23 (.agg e.cells) (.agg e.cells)).run Tryd.prog w = .ok (.bool false) w := by
  have h := et_eqIn e w
  have h9 : ∀ a b : Value, (Op.equalIn Op.maxDepth 23 a b) = Op.equalIn 10000 23 a b := fun a b => rfl
  simp only [binOp, Op.equal, Sem.run_bind, h9, h, Result.andThen_ok]
  rfl
theorem et_eql (e : Et) (w : World) : (binOp .eql 23 (.agg e.cells) (.agg e.cells)).run Tryd.prog w = .ok (.bool true) w := by
  have h := et_eqIn e w
  have h9 : ∀ a b : Value, (Op.equalIn Op.maxDepth 23 a b) = Op.equalIn 10000 23 a b := fun a b => rfl
  simp only [binOp, Op.equal, Sem.run_bind, h9, h, Result.andThen_ok]
  rfl
end Go.Proofs.YtlohoamhgioheaaDoor
