/-
  MixSums's law.
-/
import Derived.Test.YtffhkdbdcpobbaaMixAwake
import Derived.Test.YtffhkdbdcpobbaaMixWords
import Derived.Deep.RegionHeld3
namespace Go.Proofs.Ytffhkdbdcpobbaa
open Go.RowKit
set_option maxRecDepth 100000

set_option maxHeartbeats 4000000 in
theorem sums_in (A : Option Addr) (b : List UInt8) (c n : Nat) (B : Option Addr) (l : List Nat) (d k : Nat) (w : World) (hA : RdB w w.heap.size A b) (hB : RdW w w.heap.size B l) (hc : b.length ≤ c) (hl : ∀ x ∈ l, x < 18446744073709551616) (hn : b.length = n) (hk : l.length = k) (h1 : n ≤ 400) (h2 : k ≤ 40) :
    Calls Try.prog 4 #[.slice A n c, .slice B k d] w fun e w' => e = .returned (.bool true) ∧ Below w.heap.size w w' := by
  have KA := hide (fun (W : World) (hW : Below w.heap.size w W) => (show (convert 22 9 (.slice A n c)).run Try.prog W = .ok (.string (ofL b)) W from by rw [← hn]; exact conv_any (hA.below hW (Nat.le_refl _)) c))
  have HO := hide (fun (W : World) (hW : Below w.heap.size w W) => (show Calls Try.prog 22 #[.slice A n c] W fun e w' => e = .returned (.agg #[.int .u64 ((sumL b).1 : Nat), .int .u64 ((sumL b).2 : Nat)]) ∧ Below W.heap.size W w' from by rw [← hn]; exact of_any A b c W ((hA.below hW (Nat.le_refl _)).mono hW.size) hc (by omega)))
  have HR := hide (fun (W : World) => (show Calls Try.prog 23 #[.string (ofL b)] W fun e w' => e = .returned (.agg #[.int .u64 ((sumL b).1 : Nat), .int .u64 ((sumL b).2 : Nat)]) ∧ Below W.heap.size W w' from refOf_any b W (by omega)))
  have HW := hide (fun (W : World) (hW : Below w.heap.size w W) => (show Calls Try.prog 24 #[.slice B k d] W fun e w' => e = .returned (.agg #[.int .u64 ((wsumL l).1 : Nat), .int .u64 ((wsumL l).2 : Nat)]) ∧ Below W.heap.size W w' from by rw [← hk]; exact words_any B l d W ((hB.below hW (Nat.le_refl _)).mono hW.size) hl (by omega)))
  have HY := hide (fun (W : World) (hW : Below w.heap.size w W) => (show Calls Try.prog 25 #[.slice B k d] W fun e w' => e = .returned (.string (ofL (bytesW l))) ∧ Below W.heap.size W w' from by rw [← hk]; exact refBytes_any B l d W ((hB.below hW (Nat.le_refl _)).mono hW.size) hl (by omega)))
  have HS := hide (fun (W : World) => (show Calls Try.prog 23 #[.string (ofL (bytesW l))] W fun e w' => e = .returned (.agg #[.int .u64 ((wsumL l).1 : Nat), .int .u64 ((wsumL l).2 : Nat)]) ∧ Below W.heap.size W w' from by
    have h := refOf_any (bytesW l) W (by rw [bytesW_len]; omega)
    rw [sumL_bytes l hl] at h
    exact h))
  obtain ⟨p, hp⟩ : ∃ p, p = sumL b := ⟨_, rfl⟩
  rw [← hp] at HO HR
  clear hp
  obtain ⟨q, hq⟩ : ∃ q, q = wsumL l := ⟨_, rfl⟩
  rw [← hq] at HW HS
  clear hq
  generalize ofL b = x at KA HR
  generalize ofL (bytesW l) = y at HY HS
  have b1 : decide ((400 : Int) < n) = false := by rw [decide_eq_false_iff_not]; omega
  have b2 : decide ((40 : Int) < k) = false := by rw [decide_eq_false_iff_not]; omega
  have h1i : (n : Int) ≤ 400 := by omega
  have h2i : (k : Int) ≤ 40 := by omega
  clear hA hB hc hl hn hk h1 h2
  go_enter Try.func4, Try.ntmps4
  go_wp2_with fail
  generalize Value.slice A n c = V at KA HO ⊢
  generalize Value.slice B k d = V2 at HW HY ⊢
  have hd0 : Below w.heap.size w w.drew := ⟨rfl, rfl, rfl, Nat.le_refl _, fun _ _ => rfl⟩
  go_region_held3 (fun w' => Below w.heap.size w w' ∧ (convert 22 9 V).run Try.prog w' = .ok (.string x) w')
    (first
      | exact ⟨hd0, KA.out _ hd0⟩
      | exact ⟨hBW, KA.out _ hBW⟩)
    (first
      | (go_at_call 21; refine (awake_any _).mono ?_; rintro e wa ⟨rfl, hba⟩; have hBW : Below w.heap.size w wa := hd0.trans hba)
      | (go_at_call 22; refine (HO.out _ hBW).mono ?_; rintro e wa ⟨rfl, hba⟩; have hBW := hBW.trans (hba.mono hBW.size))
      | (go_at_call 24; refine (HW.out _ hBW).mono ?_; rintro e wa ⟨rfl, hba⟩; have hBW := hBW.trans (hba.mono hBW.size))
      | (go_at_call 25; refine (HY.out _ hBW).mono ?_; rintro e wa ⟨rfl, hba⟩; have hBW := hBW.trans (hba.mono hBW.size))
      | (go_at_call_of 23 (Value.string x); refine (HR.out _).mono ?_; rintro e wa ⟨rfl, hba⟩; have hBW := hBW.trans (hba.mono hBW.size))
      | (go_at_call_of 23 (Value.string y); refine (HS.out _).mono ?_; rintro e wa ⟨rfl, hba⟩; have hBW := hBW.trans (hba.mono hBW.size)))
  all_goals
    rename_i hh
    obtain ⟨hBz, _⟩ := hh
    go_wp2_with fail
    exact bodyPost_ret (results_tmp rfl _ _ _) rfl ⟨rfl, hBz⟩

set_option maxHeartbeats 2000000 in
theorem sums_law (A : Option Addr) (b : List UInt8) (c : Nat) (B : Option Addr) (l : List Nat) (d : Nat) (w : World) (hA : RdB w w.heap.size A b) (hB : RdW w w.heap.size B l) (hc : b.length ≤ c) (hl : ∀ x ∈ l, x < 18446744073709551616) :
    Calls Try.prog 4 #[.slice A b.length c, .slice B l.length d] w fun e w' => e = .returned (.bool true) ∧ Below w.heap.size w w' := by
  by_cases h1 : 400 < b.length
  · have h1i : (400 : Int) < b.length := by omega
    clear hA hB hc hl h1
    go_enter Try.func4, Try.ntmps4
    go_wp2_with fail
    refine (awake_any _).mono ?_
    rintro e w9 ⟨rfl, hB9⟩
    go_wp2_with fail
    exact bodyPost_ret (results_tmp rfl _ _ _) rfl ⟨rfl, hB9⟩
  by_cases h2 : 40 < l.length
  · have h1i : ¬ (400 : Int) < b.length := by omega
    have b1 : decide ((400 : Int) < b.length) = false := by rw [decide_eq_false_iff_not]; omega
    have h2i : (40 : Int) < l.length := by omega
    clear hA hB hc hl h1 h2
    go_enter Try.func4, Try.ntmps4
    go_wp2_with fail
    refine (awake_any _).mono ?_
    rintro e w9 ⟨rfl, hB9⟩
    go_wp2_with fail
    exact bodyPost_ret (results_tmp rfl _ _ _) rfl ⟨rfl, hB9⟩
  exact sums_in A b c _ B l d _ w hA hB hc hl rfl rfl (by omega) (by omega)
end Go.Proofs.Ytffhkdbdcpobbaa
