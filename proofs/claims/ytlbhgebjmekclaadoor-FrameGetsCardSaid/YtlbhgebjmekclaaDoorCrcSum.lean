/-
  crc.Sum: the sum of parts.
-/
import Derived.Test.YtlbhgebjmekclaaDoorCrcRefMore
import Derived.Test.YtlbhgebjmekclaaDoorConcat
namespace Go.Proofs.YtlbhgebjmekclaaDoor
open Go.RowKit
set_option maxRecDepth 100000

theorem moreN_app (s : Nat) (a b : List UInt8) : moreN s (a ++ b) = moreN (moreN s a) b := by unfold moreN; rw [List.foldl_append]
set_option maxHeartbeats 2000000 in
theorem crcSum_any (g c : Nat) (L : List (Option Addr × List UInt8 × Nat)) (w : World) (hT : Table w) (hrow : ∀ k x, L[k]? = some x → w.cell? ⟨g, k, none⟩ = some (.slice x.1 x.2.1.length x.2.2))
    (hR : ∀ x ∈ L, RdB w w.heap.size x.1 x.2.1) (hn : L.length ≤ 3) (hs : ∀ x ∈ L, x.2.1.length ≤ 1000000) :
    Calls Tryd.prog 38 #[.slice (some ⟨g, 0, none⟩) L.length c] w fun e w' => e = .returned (.int .u32 (crcL (allB L) : Nat)) ∧ w' = w := by
  have HR := hide hR
  have HS := hide hs
  have HW := hide hrow
  have HT := hide hT
  clear hR hs hrow hT
  go_enter Tryd.func38, Tryd.ntmps38
  go_wp2_with fail
  go_loopw [3, 5, 8] (fun s _ i wr => ∃ k t : Nat, k ≤ L.length ∧ i = .int .i64 k ∧ s = .int .u32 t ∧ Hid (t = moreN 4294967295 (allB (L.take k))) ∧ wr = w) (fun _ _ i _ => L.length - (intOf i).toNat)
  case atStart => exact ⟨0, 4294967295, Nat.zero_le _, rfl, rfl, hide rfl, rfl⟩
  case round =>
    obtain ⟨k, t, hk, rfl, rfl, HM, rfl⟩ := hrel
    have ht : t < 4294967296 := by rw [HM.out]; exact moreN_lt _ _ (by decide)
    by_cases hlt : (k : Int) < L.length
    · have hlt' : k < L.length := by omega
      have hx := List.getElem?_eq_getElem hlt'
      have hc := HW.out k _ hx
      have hm := HS.out L[k] (List.getElem_mem hlt')
      have hRx := HR.out L[k] (List.getElem_mem hlt')
      have hsn := hide (allB_succ L k _ hx)
      generalize L[k] = x at hc hm hRx hsn
      obtain ⟨xa, xl, xc⟩ := x
      simp only at hc hm hRx hsn
      have H1 := hide (more_any t xa xl xc wr ht HT.out hRx hm)
      have HN := hide (show moreN t xl = moreN 4294967295 (allB (L.take (k + 1))) by rw [hsn.out, moreN_app, ← HM.out])
      obtain ⟨t2, ht2⟩ : ∃ t2, t2 = moreN t xl := ⟨_, rfl⟩
      rw [← ht2] at H1 HN
      clear hx ht2
      go_wp2_with fail
      refine H1.out.mono ?_
      rintro e w3 ⟨rfl, rfl⟩
      go_wp2_with fail
      go_roundw
      case rel => exact ⟨k + 1, t2, by omega, rfl, rfl, HN, trivial⟩
      case measure => simp [intOf]; omega
    · have hk' : k = L.length := by omega
      have HE := hide (show t = moreN 4294967295 (allB L) by rw [HM.out, hk', List.take_length])
      have hx := u32_xor_nat 4294967295 t (by decide) ht
      rw [xor_ones t ht] at hx
      have HC := hide (show 4294967295 - t = crcL (allB L) by rw [HE.out]; rfl)
      rw [HC.out] at hx
      clear hk' HE HM
      obtain ⟨r, hr⟩ : ∃ r, r = crcL (allB L) := ⟨_, rfl⟩
      rw [← hr] at hx
      have HRR := hide hr
      clear hr HC
      go_wp2_with fail
      exact bodyPost_ret (results_tmp rfl _ _ _) rfl ⟨by rw [← HRR.out, ← hx]; rfl, rfl⟩
end Go.Proofs.YtlbhgebjmekclaaDoor
