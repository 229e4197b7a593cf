/-
  The page's examples: the law's own function awake answers true.
-/
import Derived.Test.YtmdlefagkfkenabGlobAcc
namespace Go.Proofs.Ytmdlefagkfkenab
open Go.RowKit

theorem ex1 : globM ⟨#[97, 42, 99]⟩ ⟨#[97, 98, 99]⟩ = true := by rw [globM_acc]; kernel_rfl
theorem ex2 : globM ⟨#[97, 42, 99]⟩ ⟨#[97, 47, 99]⟩ = false := by rw [globM_acc]; kernel_rfl
theorem ex3 : globM ⟨#[97, 42, 42, 99]⟩ ⟨#[97, 47, 98, 47, 99]⟩ = true := by rw [globM_acc]; kernel_rfl
theorem ex4 : globM ⟨#[91, 33, 97, 45, 99, 93]⟩ ⟨#[100]⟩ = true := by rw [globM_acc]; kernel_rfl
theorem ex5 : globM ⟨#[91, 97, 45, 93]⟩ ⟨#[45]⟩ = true := by rw [globM_acc]; kernel_rfl

set_option maxHeartbeats 1000000 in
theorem awake_any (w : World) : Calls Try.prog 4 #[] w fun e w' => e = .returned (.bool true) ∧ Below w.heap.size w w' := by
  go_enter Try.func4, Try.ntmps4
  go_wp2_with fail
  refine (match_any _ _ _ (by show ((3 : Nat) : Int) ≤ _; omega)).mono ?_
  rintro e w1 ⟨rfl, hb1⟩
  rw [ex1]
  go_wp2_with fail
  refine (match_any _ _ _ (by show ((3 : Nat) : Int) ≤ _; omega)).mono ?_
  rintro e w2 ⟨rfl, hb2⟩
  rw [ex2]
  go_wp2_with fail
  refine (match_any _ _ _ (by show ((5 : Nat) : Int) ≤ _; omega)).mono ?_
  rintro e w3 ⟨rfl, hb3⟩
  rw [ex3]
  go_wp2_with fail
  refine (match_any _ _ _ (by show ((1 : Nat) : Int) ≤ _; omega)).mono ?_
  rintro e w4 ⟨rfl, hb4⟩
  rw [ex4]
  go_wp2_with fail
  refine (match_any _ _ _ (by show ((1 : Nat) : Int) ≤ _; omega)).mono ?_
  rintro e w5 ⟨rfl, hb5⟩
  rw [ex5]
  go_wp2
  go_ret
  have b2 := hb1.trans (hb2.mono hb1.size)
  have b3 := b2.trans (hb3.mono b2.size)
  have b4 := b3.trans (hb4.mono b3.size)
  exact ⟨rfl, b4.trans (hb5.mono b4.size)⟩
end Go.Proofs.Ytmdlefagkfkenab
