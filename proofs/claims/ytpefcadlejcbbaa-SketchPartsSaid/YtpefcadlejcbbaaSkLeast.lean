/-
  The reference's Least.
-/
import Derived.Test.YtpefcadlejcbbaaSkOne
import Derived.Test.YtpefcadlejcbbaaMixRefRound
namespace Go.Proofs.Ytpefcadlejcbbaa
open Go.RowKit
set_option maxRecDepth 100000

/-- The least number k of words. -/
def leastL (ws : List Nat) (k : Nat) : Nat := ws.foldl (fun s v => min s (lowN v k)) 18446744073709551615
theorem leastL_snoc (ws : List Nat) (v k : Nat) : leastL (ws ++ [v]) k = min (leastL ws k) (lowN v k) := by
  unfold leastL; rw [List.foldl_append]; rfl

set_option maxHeartbeats 4000000 in
theorem refLeast_any (A : Option Addr) (ws : List Nat) (c k : Nat) (w : World) (hR : RdW w w.heap.size A ws) (hw : ∀ v ∈ ws, v < 18446744073709551616) (hk8 : k < 8) (hl : ws.length ≤ 1000000) :
    Calls Try.prog 35 #[.slice A ws.length c, .int .i64 k] w fun e w' => e = .returned (.int .u64 (leastL ws k : Nat)) ∧ Below w.heap.size w w' := by
  have hli : (ws.length : Int) ≤ 1000000 := by omega
  have HR := hide hR
  have HW := hide hw
  clear hR hw
  have hki : IntKind.u64.wrap (k : Int) = (k : Int) := by rw [IntKind.wrap_u64]; omega
  have hki1 : IntKind.u64.wrap ((k : Int) + 1) = (k : Int) + 1 := by rw [IntKind.wrap_u64]; omega
  go_enter Try.func35, Try.ntmps35
  go_wp2_with fail
  go_loopw [5, 6, 7] (fun s i _ wr => ∃ j : Nat, j ≤ ws.length ∧ i = .int .i64 j ∧ s = .int .u64 (leastL (ws.take j) k : Nat) ∧ Below w.heap.size w wr) (fun _ i _ _ => ws.length - (intOf i).toNat)
  case atStart => exact ⟨0, Nat.zero_le _, rfl, rfl, Below.refl _ _⟩
  case round =>
    obtain ⟨j, hj, rfl, rfl, hB⟩ := hrel
    by_cases hlt : (j : Int) < ws.length
    · have hjl : j < ws.length := by omega
      obtain ⟨ad, rfl, _, hc⟩ := (HR.out.below hB (Nat.le_refl _)) j _ (List.getElem?_eq_getElem hjl)
      have hv := HW.out _ (List.getElem_mem hjl)
      have HL := hide (leastL_snoc (ws.take j) ws[j] k)
      rw [List.take_append_getElem hjl] at HL
      have HQ := hide (fun W : World => refRound_any (k + 1, k) ws[j] W ⟨by simp only; omega, by simp only; omega⟩ hv)
      have hcv : wr.cell? (ad.add j) = some (.int .u64 (ws[j] : Nat)) := hc
      have hlow : lowN ws[j] k = (roundN (k + 1, k) ws[j]).2 := rfl
      clear hc hv
      obtain ⟨p, hp⟩ : ∃ p, p = (roundN (k + 1, k) ws[j]).1 := ⟨_, rfl⟩
      obtain ⟨m, hm⟩ : ∃ m, m = lowN ws[j] k := ⟨_, rfl⟩
      have HM := hide (fun W : World => (show Calls Try.prog 54 #[.agg #[.int .u64 ((k : Int) + 1), .int .u64 k], .int .u64 (ws[j] : Nat)] W fun e w' => e = .returned (.agg #[.int .u64 (p : Nat), .int .u64 (m : Nat)]) ∧ Below W.heap.size W w' from by rw [hp, hm]; exact HQ.out W))
      rw [← hm] at HL
      clear HQ hlow hp hm
      generalize ws[j] = v at hcv HM
      generalize leastL (ws.take j) k = s at HL ⊢
      go_wp2_with fail
      refine (HM.out wr).mono ?_
      rintro e w5 ⟨rfl, hB5⟩
      have hB6 := hB.trans (hB5.mono hB.size)
      clear hB hB5 hcv HM
      by_cases hms : m < s
      · have HT := hide (show leastL (ws.take (j + 1)) k = m by rw [HL.out]; omega)
        have hmi : (m : Int) < (s : Int) := by omega
        clear HL
        go_wp2_with fail
        rename_i K0 aK
        change K0 (Act.put _ _ (.int .u64 (m : Nat))) w5
        go_wp2_with fail
        go_roundw
        case rel => exact ⟨j + 1, hjl, rfl, by rw [HT.out], hB6⟩
        case measure => simp [intOf]; omega
      · have HT := hide (show leastL (ws.take (j + 1)) k = s by rw [HL.out]; omega)
        have hmi : ¬ (m : Int) < (s : Int) := by omega
        clear HL
        go_wp2_with fail
        rename_i K0 aK
        change K0 (Act.put _ _ (.int .u64 (m : Nat))) w5
        go_wp2_with fail
        go_roundw
        case rel => exact ⟨j + 1, hjl, rfl, by rw [HT.out], hB6⟩
        case measure => simp [intOf]; omega
    · obtain rfl : j = ws.length := by omega
      rw [List.take_length]
      go_wp2_with fail
      exact bodyPost_ret (results_tmp rfl _ _ _) rfl ⟨rfl, hB⟩
end Go.Proofs.Ytpefcadlejcbbaa
