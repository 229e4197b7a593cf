/-
  CrcTurns's law.
-/
import Derived.Test.YtklficpogeidlaaDoorCrcTurnMath
import Derived.Test.YtklficpogeidlaaDoorCrcRefTurn
import Derived.Deep.RegionHeld3
namespace Go.Proofs.YtklficpogeidlaaDoor
open Go.RowKit
set_option maxRecDepth 100000

theorem keep2 {w0 w1 w2 : World} {V0 V1 : Value} {s0 s1 : ByteArray} (K : Hid (∀ W, Below w0.heap.size w0 W → (convert 43 9 V0).run Tryd.prog W = .ok (.string s0) W ∧ (convert 43 9 V1).run Tryd.prog W = .ok (.string s1) W))
    (h : Below w0.heap.size w0 w1 ∧ (convert 43 9 V0).run Tryd.prog w1 = .ok (.string s0) w1 ∧ (convert 43 9 V1).run Tryd.prog w1 = .ok (.string s1) w1) (hb : Below w1.heap.size w1 w2) :
    Below w0.heap.size w0 w2 ∧ (convert 43 9 V0).run Tryd.prog w2 = .ok (.string s0) w2 ∧ (convert 43 9 V1).run Tryd.prog w2 = .ok (.string s1) w2 := by
  have h2 := h.1.trans (hb.mono h.1.size)
  exact ⟨h2, K.out _ h2⟩

set_option maxHeartbeats 8000000 in
theorem crcTurns_in (A : Option Addr) (l : List UInt8) (c n : Nat) (p : Int) (s : Nat) (w : World) (hT : Table w) (hA : RdB w w.heap.size A l) (hc : Caps A l.length c) (hn : l.length = n) (h1 : n ≤ 300) (hp1 : -9223372036854775808 ≤ p) (hp2 : p ≤ 9223372036854775807) (hs : s < 4294967296) :
    Calls Tryd.prog 9 #[.slice A n c, .int .i64 p, .int .u32 s] w fun e w' => e = .returned (.bool true) ∧ Below w.heap.size w w' := by
  have HT1 := hide (show Calls Tryd.prog 38 #[.slice A n c, .int .i64 p, .int .u32 s] w (Bytes w (turnL l p s)) from by rw [← hn]; exact turn_any A l c p s w hA hc (by omega) hp1 hp2 hs)
  have HT2 := hide (fun (W : World) (A2 : Option Addr) (c2 : Nat) (hR : RdB W W.heap.size A2 (turnL l p s)) (hc : Caps A2 (turnL l p s).length c2) => (show Calls Tryd.prog 38 #[.slice A2 (turnL l p s).length c2, .int .i64 p, .int .u32 s] W (Bytes W l) from by
    have h := turn_any A2 (turnL l p s) c2 p s W hR hc (by rw [turnL_len]; omega) hp1 hp2 hs
    rw [turn_twice] at h
    exact h))
  have HRT := hide (fun (W : World) => refTurn_any l p s W (by omega) hp1 hp2 hs)
  have KA := hide (fun (W : World) (hW : Below w.heap.size w W) => (show (convert 43 9 (.slice A n c)).run Tryd.prog W = .ok (.string (ofL l)) W from by rw [← hn]; exact conv_any (hA.below hW (Nat.le_refl _)) c))
  have AW := hide (fun (W : World) (hW : Below w.heap.size w W) => crcAwake_any W (hT.below hW hT.pos))
  have b1 : decide ((300 : Int) < n) = false := by rw [decide_eq_false_iff_not]; omega
  have h1i : ¬ (300 : Int) < n := by omega
  obtain ⟨x, hx⟩ : ∃ x, x = turnL l p s := ⟨_, rfl⟩
  rw [← hx] at HT1 HT2 HRT
  obtain ⟨sl, hsl⟩ : ∃ s, s = ofL l := ⟨_, rfl⟩
  rw [← hsl] at HRT KA
  have HSL := hide hsl
  clear hx hT hA hc hn h1 hp1 hp2 hs hsl
  go_enter Tryd.func9, Tryd.ntmps9
  go_wp2_with fail
  refine HT1.out.mono ?_
  rintro e w1 ⟨Ax, cx, rfl, hCx, hRx, hB1⟩
  have K := hide (fun (W : World) (hW : Below w1.heap.size w1 W) => (show (convert 43 9 (.slice Ax x.length cx)).run Tryd.prog W = .ok (.string (ofL x)) W ∧ (convert 43 9 (.slice A n c)).run Tryd.prog W = .ok (.string sl) W from
    ⟨conv_any (hRx.below hW (Nat.le_refl _)) cx, KA.out W (hB1.trans (hW.mono hB1.size))⟩))
  have AW1 := hide (fun (W : World) (hW : Below w1.heap.size w1 W) => AW.out W (hB1.trans (hW.mono hB1.size)))
  have HT3 := hide (fun (W : World) (hW : Below w1.heap.size w1 W) => HT2.out W Ax cx ((hRx.below hW (Nat.le_refl _)).mono hW.size) hCx)
  have HB := hide hB1
  clear HT1 HT2 KA AW hCx hRx hB1
  go_wp2_with fail
  have hd0 : Below w1.heap.size w1 w1.drew := ⟨rfl, rfl, rfl, Nat.le_refl _, fun _ _ => rfl⟩
  generalize Value.slice Ax x.length cx = V0 at K HT3 ⊢
  generalize Value.slice A n c = V1 at K ⊢
  generalize ofL x = sx at K HRT
  go_region_held (fun w' => Below w1.heap.size w1 w' ∧ (convert 43 9 V0).run Tryd.prog w' = .ok (.string sx) w' ∧ (convert 43 9 V1).run Tryd.prog w' = .ok (.string sl) w')
    (first
      | assumption
      | exact ⟨hd0, K.out _ hd0⟩
      | exact keep2 K (by assumption) hba)
    (first
      | (go_at_call 29; refine (AW1.out _ (And.left (by assumption))).mono ?_; rintro e wa ⟨rfl, hba⟩)
      | (go_at_call 39; refine (HRT.out _).mono ?_; rintro e wa ⟨rfl, hba⟩)
      | (go_at_call 38; refine (HT3.out _ (And.left (by assumption))).mono ?_; rintro e wa ⟨Ay, cy, rfl, hCy, hRy, hba⟩; have hcy := (conv_any hRy cy).trans (by rw [← HSL.out])))
  all_goals
    rename_i hH
    have hBz := HB.out.trans (hH.1.mono HB.out.size)
    clear hH K AW1 HRT hd0 HB
    go_wp2_with fail
    exact bodyPost_ret (results_tmp rfl _ _ _) rfl ⟨rfl, hBz⟩

set_option maxHeartbeats 2000000 in
theorem crcTurns_law (A : Option Addr) (l : List UInt8) (c : Nat) (p : Int) (s : Nat) (w : World) (hT : Table w) (hA : RdB w w.heap.size A l) (hc : Caps A l.length c) (hp1 : -9223372036854775808 ≤ p) (hp2 : p ≤ 9223372036854775807) (hs : s < 4294967296) :
    Calls Tryd.prog 9 #[.slice A l.length c, .int .i64 p, .int .u32 s] w fun e w' => e = .returned (.bool true) ∧ Below w.heap.size w w' := by
  have AW := crcAwake_any w hT
  by_cases h1 : 300 < l.length
  · have h1i : (300 : Int) < l.length := by omega
    clear hA hc hs hT h1 hp1 hp2
    go_enter Tryd.func9, Tryd.ntmps9
    go_wp2_with fail
    refine AW.mono ?_
    rintro e w9 ⟨rfl, hB9⟩
    go_wp2_with fail
    exact bodyPost_ret (results_tmp rfl _ _ _) rfl ⟨rfl, hB9⟩
  exact crcTurns_in A l c _ p s w hT hA hc rfl (by omega) hp1 hp2 hs
end Go.Proofs.YtklficpogeidlaaDoor
