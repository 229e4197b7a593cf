/-
  The law's acts: what one puts.
-/
import Derived.Test.YtpefcadlejcbbaaVintSum
namespace Go.Proofs.Ytpefcadlejcbbaa
open Go.RowKit
set_option maxRecDepth 100000

/-- A thing that is put, or read. -/
structure Ac where
  kind : Int
  N : Nat
  M : Nat
  K : Int
  S : ByteArray
def Ac.cells (a : Ac) : Array Value := #[.int .i64 a.kind, .int .u64 (a.N : Nat), .int .u64 (a.M : Nat), .int .i64 a.K, .string a.S]
/-- Its numbers fit. -/
def Ac.fits (a : Ac) : Prop := a.N < 18446744073709551616 ∧ a.M < 18446744073709551616
/-- The bytes that it puts. -/
def Ac.bytes (a : Ac) : List UInt8 := if a.kind = 0 ∨ a.kind = 1 then groupsL a.N else if a.kind = 2 then groupsL a.S.size ++ toL a.S else wordL a.N ++ wordL a.M

set_option maxHeartbeats 1000000 in
theorem put_any (A : Option Addr) (l : List UInt8) (c : Nat) (a : Ac) (w : World) (hR : RdB w w.heap.size A l) (hl : l.length ≤ 900000) (hf : a.fits) (hs : a.S.size ≤ 1000) :
    Calls Try.prog 18 #[.slice A l.length c, .agg a.cells] w (Bytes w (l ++ a.bytes)) := by
  obtain ⟨kind, N, M, K, S⟩ := a
  obtain ⟨hN, hM⟩ := hf
  simp only at hN hM hs
  unfold Ac.cells
  simp only
  have hB0 : Below w.heap.size w (w.alloc (.cells #[.int .i64 kind, .int .u64 (N : Nat), .int .u64 (M : Nat), .int .i64 K, .string S] 43)) := (Below.refl _ w).alloc (Nat.le_refl _) _
  have hR0 := hR.step hB0
  by_cases g0 : kind = 0
  · have E0 : (kind == 0) = true := by rw [g0]; rfl
    have HB := hide (show Ac.bytes ⟨kind, N, M, K, S⟩ = groupsL N from if_pos (.inl g0))
    clear g0
    go_enter Try.func18, Try.ntmps18
    go_wp2_with fail
    refine (putNum_any A l c N _ hR0 (by omega) hN).mono ?_
    rintro e w2 hw2
    obtain ⟨D, d, rfl, h2, h3, h4⟩ := hw2.back hB0
    go_wp2_with fail
    refine bodyPost_ret (results_tmp rfl _ _ _) rfl ⟨D, d, by rw [HB.out]; simp only [List.length_append]; rfl, by rw [HB.out]; exact h2, by rw [HB.out]; exact h3, h4⟩
  by_cases g1 : kind = 1
  · have E0 : (kind == 0) = false := by simpa using g0
    have E1 : (kind == 1) = true := by rw [g1]; rfl
    have HB := hide (show Ac.bytes ⟨kind, N, M, K, S⟩ = groupsL N from if_pos (.inr g1))
    clear g0 g1
    go_enter Try.func18, Try.ntmps18
    go_wp2_with fail
    refine (putNum_any A l c N _ hR0 (by omega) hN).mono ?_
    rintro e w2 hw2
    obtain ⟨D, d, rfl, h2, h3, h4⟩ := hw2.back hB0
    go_wp2_with fail
    refine bodyPost_ret (results_tmp rfl _ _ _) rfl ⟨D, d, by rw [HB.out]; simp only [List.length_append]; rfl, by rw [HB.out]; exact h2, by rw [HB.out]; exact h3, h4⟩
  by_cases g2 : kind = 2
  · have E0 : (kind == 0) = false := by simpa using g0
    have E1 : (kind == 1) = false := by simpa using g1
    have E2 : (kind == 2) = true := by rw [g2]; rfl
    have HB := hide (show Ac.bytes ⟨kind, N, M, K, S⟩ = groupsL S.size ++ toL S by unfold Ac.bytes; rw [if_neg (by simp [g0, g1]), if_pos g2])
    clear g0 g1 g2
    have hsl : (toL S).length = S.size := by simp [toL]
    go_enter Try.func18, Try.ntmps18
    go_wp2_with fail
    refine (putText_any A l c S _ hR0 (by omega) (by omega)).mono ?_
    rintro e w2 hw2
    obtain ⟨D, d, rfl, h2, h3, h4⟩ := hw2.back hB0
    go_wp2_with fail
    refine bodyPost_ret (results_tmp rfl _ _ _) rfl ⟨D, d, by rw [HB.out]; simp only [List.length_append, hsl]; rfl, by rw [HB.out]; exact h2, by rw [HB.out]; exact h3, h4⟩
  · have E0 : (kind == 0) = false := by simpa using g0
    have E1 : (kind == 1) = false := by simpa using g1
    have E2 : (kind == 2) = false := by simpa using g2
    have HB := hide (show Ac.bytes ⟨kind, N, M, K, S⟩ = wordL N ++ wordL M by unfold Ac.bytes; rw [if_neg (by simp [g0, g1]), if_neg g2])
    clear g0 g1 g2
    go_enter Try.func18, Try.ntmps18
    go_wp2_with fail
    refine (putSum_any A l c N M _ hR0 (by omega) hN hM).mono ?_
    rintro e w2 hw2
    obtain ⟨D, d, rfl, h2, h3, h4⟩ := hw2.back hB0
    go_wp2_with fail
    refine bodyPost_ret (results_tmp rfl _ _ _) rfl ⟨D, d, by rw [HB.out]; simp only [List.length_append, wordL_len]; rfl, by rw [HB.out]; exact h2, by rw [HB.out]; exact h3, h4⟩
end Go.Proofs.Ytpefcadlejcbbaa
