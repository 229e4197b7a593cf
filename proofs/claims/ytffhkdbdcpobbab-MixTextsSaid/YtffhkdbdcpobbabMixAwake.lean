/-
  The law's awake: the page's example.
-/
import Derived.Test.YtffhkdbdcpobbabMixOf
import Derived.Test.YtffhkdbdcpobbabMixText
namespace Go.Proofs.Ytffhkdbdcpobbab
open Go.RowKit
set_option maxRecDepth 100000

theorem sum_nil : sumL [] = ((sumL []).1, (sumL []).2) ∧ (sumL []).1 ≠ 0 := ⟨rfl, by decide +kernel⟩
set_option maxHeartbeats 2000000 in
theorem awake_any (w : World) : Calls Try.prog 5 #[] w fun e w' => e = .returned (.bool true) ∧ Below w.heap.size w w' := by
  have HT := hide (fun W => (show Calls Try.prog 7 #[.agg #[.int .u64 1, .int .u64 2]] W fun e w' => e = .returned (.string ⟨#[48, 48, 48, 48, 48, 48, 48, 48, 48, 48, 48, 48, 48, 48, 48, 49, 48, 48, 48, 48, 48, 48, 48, 48, 48, 48, 48, 48, 48, 48, 48, 50]⟩) ∧ Below W.heap.size W w' from by
    have h := text_any (1, 2) W ⟨by decide, by decide⟩
    rw [show ofL (textL (1, 2)) = ⟨#[48, 48, 48, 48, 48, 48, 48, 48, 48, 48, 48, 48, 48, 48, 48, 49, 48, 48, 48, 48, 48, 48, 48, 48, 48, 48, 48, 48, 48, 48, 48, 50]⟩ by kernel_rfl] at h
    exact h))
  obtain ⟨_, hne⟩ := sum_nil
  have HO := hide (fun W => (show Calls Try.prog 6 #[.slice none 0 0] W fun e w' => e = .returned (.agg #[.int .u64 ((sumL []).1 : Nat), .int .u64 ((sumL []).2 : Nat)]) ∧ Below W.heap.size W w' from of_any none [] 0 W (RdB.nil _ _ _) (Nat.le_refl _) (by decide)))
  generalize sumL [] = q at HO hne
  have E1 : ((q.1 : Int) == 0) = false := by rw [beq_eq_false_iff_ne]; omega
  have E2 : ¬ ((q.1 : Int) = 0) := by omega
  clear hne
  go_enter Try.func5, Try.ntmps5
  go_wp2_with fail
  refine (HT.out _).mono ?_
  rintro e w1 ⟨rfl, hB1⟩
  go_wp2_with fail
  refine (HO.out _).mono ?_
  rintro e w2 ⟨rfl, hB2⟩
  have hB := hB1.trans (hB2.mono hB1.size)
  clear hB1 hB2 HT HO
  go_wp2_with fail
  refine bodyPost_ret (results_tmp rfl _ _ _) rfl ⟨rfl, hB⟩
end Go.Proofs.Ytffhkdbdcpobbab
