/-
  The law BlockCounts: its walk.
-/
import Derived.Test.YtdkdnfcmlnfkcaaBkAwake
import Derived.Test.YtdkdnfcmlnfkcaaBkCountMath
namespace Go.Proofs.Ytdkdnfcmlnfkcaa
open Go.RowKit
set_option maxRecDepth 100000

set_option maxHeartbeats 8000000 in
theorem counts_law (n size : Int) (w : World) (hn : -9223372036854775808 ≤ n ∧ n ≤ 9223372036854775807) (_ : -9223372036854775808 ≤ size ∧ size ≤ 9223372036854775807) :
    Calls Try.prog 6 #[.int .i64 n, .int .i64 size] w fun e w' => e = .returned (.bool true) ∧ Below w.heap.size w w' := by
  have HC := hide (fun W => count_any n size W hn.2)
  have HH := hide (fun W => hold_any size W)
  have hf := fitN_in size
  have hz := count_zero n size
  have hp := count_law n size
  generalize countN n size = k at HC hz hp
  generalize fitN size = h at HH hf hp
  by_cases h0 : n ≤ 0
  · obtain rfl : k = 0 := hz h0
    clear hz hp hf
    go_enter Try.func6, Try.ntmps6
    go_wp2_with fail
    refine (HC.out _).mono ?_
    rintro e w1 ⟨rfl, rfl⟩
    go_wp2_with fail
    refine (HH.out _).mono ?_
    rintro e w1 ⟨rfl, rfl⟩
    go_wp2_with fail
    refine (bkAwake_any _).mono ?_
    rintro e w2 ⟨rfl, hb⟩
    have HB := hide hb
    clear hb
    go_wp2_with fail
    exact bodyPost_ret (results_tmp rfl _ _ _) rfl ⟨rfl, HB.out⟩
  · obtain ⟨p1, p2, p3⟩ := hp (by omega)
    obtain ⟨hn1, hn2⟩ := hn
    have E1 : (h == 0) = false := by rw [beq_eq_false_iff_ne]; omega
    have E2 : (n - 1).tdiv h = k - 1 := by rw [Int.tdiv_eq_ediv_of_nonneg (by omega)]; exact p3
    have E3 : (n - 1) / h = k - 1 := p3
    have w1 : IntKind.i64.wrap (n - 1) = n - 1 := IntWalk.i64_in _ (by omega)
    have w2 : IntKind.i64.wrap (k - 1) = k - 1 := IntWalk.i64_in _ (by omega)
    have HE1 := hide E2
    have HE2 := hide E3
    clear hz hp p3 E2 E3
    go_enter Try.func6, Try.ntmps6
    go_wp2_with fail
    refine (HC.out _).mono ?_
    rintro e w1 ⟨rfl, rfl⟩
    go_wp2_with fail
    refine (HH.out _).mono ?_
    rintro e w1 ⟨rfl, rfl⟩
    go_wp2_with fail
    refine (bkAwake_any _).mono ?_
    rintro e w2 ⟨rfl, hb⟩
    have HB := hide hb
    have E2 := HE1.out
    have E3 := HE2.out
    clear hb
    go_wp2_with fail
    exact bodyPost_ret (results_tmp rfl _ _ _) rfl ⟨rfl, HB.out⟩
end Go.Proofs.Ytdkdnfcmlnfkcaa
