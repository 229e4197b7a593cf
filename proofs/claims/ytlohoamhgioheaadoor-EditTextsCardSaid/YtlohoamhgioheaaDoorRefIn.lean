/-
  The reference's Within.
-/
import Derived.Test.YtlohoamhgioheaaDoorRefRight
import Derived.Test.YtlohoamhgioheaaDoorPathCutMore
import Derived.Test.YtlohoamhgioheaaDoorDrew
import Derived.Deep.QuietTactic
import Derived.BigQuiet
namespace Go.Proofs.YtlohoamhgioheaaDoor
open Go.RowKit
set_option maxRecDepth 100000

set_option maxHeartbeats 2000000 in
theorem refWithin_any (p q : ByteArray) (w : World) (hp : (p.size : Int) ≤ 1000000) (hq : (q.size : Int) ≤ 1000000) :
    Calls Tryd.prog 29 #[.string p, .string q] w fun e w' => e = .returned (.bool (withinB (toL p) (toL q))) ∧ Below w.heap.size w w' := by
  go_enter Tryd.func29, Tryd.ntmps29
  go_wp2_with fail
  refine (refCut_any p w hp).mono ?_
  rintro e w1 ⟨A, c, cs, rfl, hcs, _, hR1, hB1⟩
  go_wp2_with fail
  refine (refCut_any q w1 hq).mono ?_
  rintro e w2 ⟨B, d, ds, rfl, hds, _, hS1, hB2'⟩
  have hB2 := hB1.trans (hB2'.mono hB1.size)
  have hR2 := (hR1.below hB2' (Nat.le_refl _)).mono hB2'.size
  have hn : (cs.length : Int) ≤ 1000001 := by
    have := cut_count (toL p)
    rw [← hcs] at this
    simp [toL] at this
    omega
  have hm : (ds.length : Int) ≤ 1000001 := by
    have := cut_count (toL q)
    rw [← hds] at this
    simp [toL] at this
    omega
  have HC := hide hcs
  have HD := hide hds
  clear hcs hds hB1 hB2' hR1
  go_wp2_with fail
  refine (refRight_any p w2 hp).mono ?_
  rintro e w3 ⟨rfl, hB3'⟩
  have hB3 := hB2.trans (hB3'.mono hB2.size)
  have hR3 := hR2.below hB3' (Nat.le_refl _)
  have hS3 := hS1.below hB3' (Nat.le_refl _)
  have hz3 := hB3'.size
  clear hB2 hB3' hR2 hS1
  cases hrp : rightL (toL p) with
  | false =>
    have HW := hide (show withinB (toL p) (toL q) = false by unfold withinB; rw [hrp]; rfl)
    go_wp2_with fail
    refine bodyPost_ret (results_tmp rfl _ _ _) rfl ⟨by rw [HW.out]; rfl, hB3⟩
  | true =>
    have HP := hide hrp
    clear hrp
    go_wp2_with fail
    refine (refRight_any q w3 hq).mono ?_
    rintro e w4 ⟨rfl, hB4'⟩
    have hB4 := hB3.trans (hB4'.mono hB3.size)
    have hR4 := (hR3.mono hz3).below hB4' (Nat.le_refl _)
    have hS4 := (hS3.mono hz3).below hB4' (Nat.le_refl _)
    have hz4 := hB4'.size
    clear hB3 hB4' hR3 hS3
    cases hrq : rightL (toL q) with
    | false =>
      have HW := hide (show withinB (toL p) (toL q) = false by unfold withinB; rw [hrq, Bool.and_false]; rfl)
      go_wp2_with fail
      refine bodyPost_ret (results_tmp rfl _ _ _) rfl ⟨by rw [HW.out]; rfl, hB4⟩
    | true =>
      have HW := hide (show withinB (toL p) (toL q) = (ds.map toL).isPrefixOf (cs.map toL) by unfold withinB; rw [hrq, HP.out, HC.out, HD.out]; rfl)
      clear hrq
      by_cases hl : (cs.length : Int) < ds.length
      · have HF := hide (show withinB (toL p) (toL q) = false by
          rw [HW.out]
          cases h : (ds.map toL).isPrefixOf (cs.map toL) with
          | false => rfl
          | true =>
            have := (List.isPrefixOf_iff_prefix.1 h).length_le
            simp at this
            omega)
        go_wp2_with fail
        refine bodyPost_ret (results_tmp rfl _ _ _) rfl ⟨by rw [HF.out]; rfl, hB4⟩
      · go_wp2_with fail
        go_loopw [7] (fun i wr => ∃ k : Nat, k ≤ ds.length ∧ i = .int .i64 k ∧ Hid (((cs.map toL).take k == (ds.map toL).take k) = true) ∧ Drew w4 wr) (fun i _ => ds.length - (intOf i).toNat)
        case atStart => exact ⟨0, Nat.zero_le _, rfl, hide (by simp), Drew.refl _⟩
        case round =>
          obtain ⟨k, hk, rfl, HE, hD⟩ := hrel
          have hBr : Below w.heap.size w wr := by obtain ⟨n, rfl⟩ := hD; exact below_drewN hB4 n
          have hRr : Rd wr w3.heap.size A cs := by obtain ⟨n, rfl⟩ := hD; exact hR4
          have hSr : Rd wr w3.heap.size B ds := by obtain ⟨n, rfl⟩ := hD; exact hS4
          clear hR4 hS4 hB4
          by_cases hlt : (k : Int) < ds.length
          · have n2 : k < ds.length := by omega
            have n1 : k < cs.length := by omega
            have hltA : (k : Int) < cs.length := by omega
            obtain ⟨ad, rfl, _, hc⟩ := hRr k _ (List.getElem?_eq_getElem n1)
            obtain ⟨bd, rfl, _, hd⟩ := hSr k _ (List.getElem?_eq_getElem n2)
            have hs := take_same cs ds k _ _ (List.getElem?_eq_getElem n1) (List.getElem?_eq_getElem n2)
            rw [HE.out, Bool.true_and] at hs
            have HS := hide hs
            clear hs
            cases he : (cs[k].toList == ds[k].toList) with
            | true =>
              have he' : (cs[k].toList != ds[k].toList) = false := by simp [bne, he]
              go_wp2_with fail
              go_quiet (fail)
              go_wp2_with fail
              go_roundw
              case rel => exact ⟨k + 1, by omega, rfl, hide (by rw [HS.out, he]), hD.step _⟩
              case measure => simp [intOf]; omega
            | false =>
              have he' : (cs[k].toList != ds[k].toList) = true := by simp [bne, he]
              have HF := hide (show withinB (toL p) (toL q) = false by
                rw [HW.out]
                cases h : (ds.map toL).isPrefixOf (cs.map toL) with
                | false => rfl
                | true =>
                  obtain ⟨t, ht⟩ := List.isPrefixOf_iff_prefix.1 h
                  have h2 := HS.out
                  rw [he, ← ht, List.take_append_of_le_length (by simp; omega)] at h2
                  simp at h2)
              go_wp2_with fail
              go_quiet (fail)
              go_wp2_with fail
              refine bodyPost_ret (results_tmp rfl _ _ _) rfl ⟨by rw [HF.out]; rfl, below_drewN hBr _⟩
          · have HF := hide (show withinB (toL p) (toL q) = true by
              rw [HW.out, List.isPrefixOf_iff_prefix]
              have h := HE.out
              rw [beq_iff_eq, List.take_of_length_le (l := ds.map toL) (by simp; omega)] at h
              rw [← h]
              exact List.take_prefix _ _)
            go_wp2_with fail
            refine bodyPost_ret (results_tmp rfl _ _ _) rfl ⟨by rw [HF.out]; rfl, hBr⟩
end Go.Proofs.YtlohoamhgioheaaDoor
