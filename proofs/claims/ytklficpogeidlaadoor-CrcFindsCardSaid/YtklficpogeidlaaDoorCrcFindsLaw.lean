/-
  CrcFinds's law.
-/
import Derived.Test.YtklficpogeidlaaDoorCrcTurnMath
import Derived.Test.YtklficpogeidlaaDoorCrcSealsLaw
import Derived.Deep.RegionHeld3
namespace Go.Proofs.YtklficpogeidlaaDoor
open Go.RowKit
set_option maxRecDepth 100000

set_option maxHeartbeats 8000000 in
theorem crcFinds_in (A : Option Addr) (l : List UInt8) (c n : Nat) (p : Int) (s : Nat) (w : World) (hT : Table w) (hA : RdB w w.heap.size A l) (hn : l.length = n) (h1 : n ≤ 300) (hp1 : -9223372036854775808 ≤ p) (hp2 : p ≤ 9223372036854775807) (hs : s < 4294967296) :
    Calls Tryd.prog 10 #[.slice A n c, .int .i64 p, .int .u32 s] w fun e w' => e = .returned (.bool true) ∧ Below w.heap.size w w' := by
  have HSeal := hide (show Calls Tryd.prog 34 #[.slice A n c] w (Bytes w (sealL l)) from by rw [← hn]; exact seal_any A l c w hT hA (by omega))
  have HTurn := hide (fun (W : World) (A2 : Option Addr) (c2 : Nat) (hR : RdB W W.heap.size A2 (sealL l)) (hc : Caps A2 (sealL l).length c2) => turn_any A2 (sealL l) c2 p s W hR hc (by rw [sealL_len]; omega) hp1 hp2 hs)
  have HOpen := hide (fun (W : World) (A2 : Option Addr) (c2 : Nat) (hW : Below w.heap.size w W) (hR : RdB W W.heap.size A2 (turnL (sealL l) p s)) (hc : (turnL (sealL l) p s).length ≤ c2) => open_any A2 (turnL (sealL l) p s) c2 W (hT.below hW hT.pos) hR hc (by rw [turnL_len, sealL_len]; omega))
  have KA := hide (fun (W : World) (hW : Below w.heap.size w W) => (show (convert 43 9 (.slice A n c)).run Tryd.prog W = .ok (.string (ofL l)) W from by rw [← hn]; exact conv_any (hA.below hW (Nat.le_refl _)) c))
  have AW := hide (fun (W : World) (hW : Below w.heap.size w W) => crcAwake_any W (hT.below hW hT.pos))
  have b1 : decide ((300 : Int) < n) = false := by rw [decide_eq_false_iff_not]; omega
  have h1i : ¬ (300 : Int) < n := by omega
  have hcase : (turnL (sealL l) p s = sealL l ∧ openL (turnL (sealL l) p s) = (l, 0)) ∨ (¬ turnL (sealL l) p s = sealL l ∧ openL (turnL (sealL l) p s) = ([], 12)) := by
    by_cases h : turnL (sealL l) p s = sealL l
    · exact .inl ⟨h, by rw [h]; exact open_seal l⟩
    · exact .inr ⟨h, open_turned l p s h⟩
  obtain ⟨sL, hsL⟩ : ∃ x, x = sealL l := ⟨_, rfl⟩
  rw [← hsL] at HSeal HTurn HOpen hcase
  obtain ⟨xL, hxL⟩ : ∃ x, x = turnL sL p s := ⟨_, rfl⟩
  rw [← hxL] at HTurn HOpen hcase
  have HCase := hide hcase
  clear hcase hsL hxL hT hA hn h1 hp1 hp2 hs
  rcases HCase.out with ⟨he, ho⟩ | ⟨he, ho⟩
  · subst he
    rw [ho] at HOpen
    clear HCase ho
    go_enter Tryd.func10, Tryd.ntmps10
    go_wp2_with fail
    refine HSeal.out.mono ?_
    rintro e w1 ⟨As, cs, rfl, hCs, hRs, hB1⟩
    go_wp2_with fail
    refine (HTurn.out w1 As cs hRs hCs).mono ?_
    rintro e w2 ⟨Ax, cx, rfl, hCx, hRx, hB2⟩
    have hB12 := hB1.trans (hB2.mono hB1.size)
    have hRs2 := hRs.step hB2
    go_wp2_with fail
    refine (HOpen.out w2 Ax cx hB12 hRx hCx.1).mono ?_
    rintro e w3 ⟨Ay, cy, rfl, hCy, hRy, hB3⟩
    have hB13 := hB12.trans (hB3.mono hB12.size)
    have k1 := conv_any (hRs2.step hB3) cs
    have k2 := conv_any (hRx.step hB3) cx
    clear hRs hRs2 hRx hB1 hB2 hB3 hB12 HSeal HTurn HOpen hCs hCx hCy
    generalize ofL xL = sx at k1 k2
    go_wp2_with fail
    refine (AW.out w3 hB13).mono ?_
    rintro e w4 ⟨rfl, hB4⟩
    have hBz := hB13.trans (hB4.mono hB13.size)
    have k3 := conv_any (hRy.step hB4) cy
    have k4 := KA.out w4 hBz
    clear hRy hB4 hB13 AW KA k1 k2
    generalize ofL l = sl at k3 k4
    go_wp2_with fail
    exact bodyPost_ret (results_tmp rfl _ _ _) rfl ⟨rfl, hBz⟩
  · rw [ho] at HOpen
    have hne := list_ne he
    clear HCase ho he
    go_enter Tryd.func10, Tryd.ntmps10
    go_wp2_with fail
    refine HSeal.out.mono ?_
    rintro e w1 ⟨As, cs, rfl, hCs, hRs, hB1⟩
    go_wp2_with fail
    refine (HTurn.out w1 As cs hRs hCs).mono ?_
    rintro e w2 ⟨Ax, cx, rfl, hCx, hRx, hB2⟩
    have hB12 := hB1.trans (hB2.mono hB1.size)
    have hRs2 := hRs.step hB2
    go_wp2_with fail
    refine (HOpen.out w2 Ax cx hB12 hRx hCx.1).mono ?_
    rintro e w3 ⟨Ay, cy, rfl, hCy, hRy, hB3⟩
    have hB13 := hB12.trans (hB3.mono hB12.size)
    have k1 := conv_any (hRs2.step hB3) cs
    have k2 := conv_any (hRx.step hB3) cx
    clear hRs hRs2 hRx hB1 hB2 hB3 hB12 HSeal HTurn HOpen hCs hCx hCy hRy
    generalize ofL xL = sx at k2 hne
    generalize ofL sL = ss at k1 hne
    go_wp2_with fail
    refine (AW.out w3 hB13).mono ?_
    rintro e w4 ⟨rfl, hB4⟩
    have hBz := hB13.trans (hB4.mono hB13.size)
    clear hB4 hB13 AW KA k1 k2
    go_wp2_with fail
    exact bodyPost_ret (results_tmp rfl _ _ _) rfl ⟨rfl, hBz⟩

set_option maxHeartbeats 2000000 in
theorem crcFinds_law (A : Option Addr) (l : List UInt8) (c : Nat) (p : Int) (s : Nat) (w : World) (hT : Table w) (hA : RdB w w.heap.size A l) (_hc : Caps A l.length c) (hp1 : -9223372036854775808 ≤ p) (hp2 : p ≤ 9223372036854775807) (hs : s < 4294967296) :
    Calls Tryd.prog 10 #[.slice A l.length c, .int .i64 p, .int .u32 s] w fun e w' => e = .returned (.bool true) ∧ Below w.heap.size w w' := by
  have AW := crcAwake_any w hT
  by_cases h1 : 300 < l.length
  · have h1i : (300 : Int) < l.length := by omega
    clear hA hs hT h1 hp1 hp2
    go_enter Tryd.func10, Tryd.ntmps10
    go_wp2_with fail
    refine AW.mono ?_
    rintro e w9 ⟨rfl, hB9⟩
    go_wp2_with fail
    exact bodyPost_ret (results_tmp rfl _ _ _) rfl ⟨rfl, hB9⟩
  exact crcFinds_in A l c _ p s w hT hA rfl (by omega) hp1 hp2 hs
end Go.Proofs.YtklficpogeidlaaDoor
