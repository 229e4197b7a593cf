/-
  CrcSeals's law.
-/
import Derived.Test.YtklficpogeidlaaDoorCrcOpenP
import Derived.Deep.RegionHeld3
namespace Go.Proofs.YtklficpogeidlaaDoor
open Go.RowKit
set_option maxRecDepth 100000

theorem sealL_len (l : List UInt8) : (sealL l).length = l.length + 4 := by unfold sealL; rw [List.length_append]; rfl
theorem open_seal (l : List UInt8) : openL (sealL l) = (l, 0) := by
  unfold openL
  rw [sealL_len, if_neg (by omega), show l.length + 4 - 4 = l.length by omega]
  have e : (sealL l).take l.length = l := by unfold sealL; simp
  rw [e, if_pos rfl]
abbrev Cv (V : Value) (s : ByteArray) (W : World) : Prop := (convert 43 9 V).run Tryd.prog W = .ok (.string s) W
theorem keep4 {w0 w1 w2 : World} {V0 V1 V2 V3 : Value} {s0 s1 s2 s3 : ByteArray} (K : Hid (∀ W, Below w0.heap.size w0 W → Cv V0 s0 W ∧ Cv V1 s1 W ∧ Cv V2 s2 W ∧ Cv V3 s3 W))
    (h : Below w0.heap.size w0 w1 ∧ Cv V0 s0 w1 ∧ Cv V1 s1 w1 ∧ Cv V2 s2 w1 ∧ Cv V3 s3 w1) (hb : Below w1.heap.size w1 w2) : Below w0.heap.size w0 w2 ∧ Cv V0 s0 w2 ∧ Cv V1 s1 w2 ∧ Cv V2 s2 w2 ∧ Cv V3 s3 w2 := by
  have h2 := h.1.trans (hb.mono h.1.size)
  exact ⟨h2, K.out _ h2⟩

set_option maxHeartbeats 8000000 in
theorem crcSeals_in (A : Option Addr) (l : List UInt8) (c n : Nat) (B : Option Addr) (m : List UInt8) (d k : Nat) (w : World) (hT : Table w) (hA : RdB w w.heap.size A l) (hB : RdB w w.heap.size B m) (hd : m.length ≤ d) (hn : l.length = n) (hk : m.length = k) (h1 : n ≤ 300) (h2 : k ≤ 300) :
    Calls Tryd.prog 8 #[.slice A n c, .slice B k d] w fun e w' => e = .returned (.bool true) ∧ Below w.heap.size w w' := by
  have HSeal := hide (show Calls Tryd.prog 34 #[.slice A n c] w (Bytes w (sealL l)) from by rw [← hn]; exact seal_any A l c w hT hA (by omega))
  have HOpen := hide (fun (W : World) (A2 : Option Addr) (c2 : Nat) (hW : Below w.heap.size w W) (hR : RdB W W.heap.size A2 (sealL l)) (hc : (sealL l).length ≤ c2) => (show Calls Tryd.prog 35 #[.slice A2 (sealL l).length c2] W (Opened W l 0) from by
    have h := open_any A2 (sealL l) c2 W (hT.below hW hT.pos) hR hc (by rw [sealL_len]; omega)
    rw [open_seal] at h
    exact h))
  have HOpb := hide (fun (W : World) (hW : Below w.heap.size w W) => (show Calls Tryd.prog 35 #[.slice B k d] W (Opened W (openL m).1 (openL m).2) from by rw [← hk]; exact open_any B m d W (hT.below hW hT.pos) ((hB.below hW (Nat.le_refl _)).mono hW.size) hd (by omega)))
  have HRO := hide (fun (W : World) => refOpen_any m W (by omega))
  have HRS := hide (fun (W : World) => refSeal_any l W (by omega))
  have KA := hide (fun (W : World) (hW : Below w.heap.size w W) => (show Cv (.slice A n c) (ofL l) W from by show (convert _ _ _).run _ _ = _; rw [← hn]; exact conv_any (hA.below hW (Nat.le_refl _)) c))
  have KB := hide (fun (W : World) (hW : Below w.heap.size w W) => (show Cv (.slice B k d) (ofL m) W from by show (convert _ _ _).run _ _ = _; rw [← hk]; exact conv_any (hB.below hW (Nat.le_refl _)) d))
  have AW := hide (fun (W : World) (hW : Below w.heap.size w W) => crcAwake_any W (hT.below hW hT.pos))
  have b1 : decide ((300 : Int) < n) = false := by rw [decide_eq_false_iff_not]; omega
  have b2 : decide ((300 : Int) < k) = false := by rw [decide_eq_false_iff_not]; omega
  obtain ⟨y, hy⟩ : ∃ y, y = (openL m).1 := ⟨_, rfl⟩
  obtain ⟨er, her⟩ : ∃ y, y = (openL m).2 := ⟨_, rfl⟩
  rw [← hy, ← her] at HOpb HRO
  obtain ⟨sl, hsl⟩ : ∃ s, s = ofL l := ⟨_, rfl⟩
  obtain ⟨ss, hss⟩ : ∃ s, s = ofL (sealL l) := ⟨_, rfl⟩
  rw [← hsl, ← hss] at HRS
  obtain ⟨sL, hsL⟩ : ∃ s, s = sealL l := ⟨_, rfl⟩
  rw [← hsL] at HSeal HOpen
  have HH := hide (And.intro hsl (And.intro hss hsL))
  clear hy her hT hA hB hd hn hk h1 h2 hsl hss hsL
  go_enter Tryd.func8, Tryd.ntmps8
  go_wp2_with fail
  refine HSeal.out.mono ?_
  rintro e w1 ⟨As, cs, rfl, hCs, hRs, hB1⟩
  go_wp2_with fail
  refine (HOpen.out w1 As cs hB1 hRs hCs.1).mono ?_
  rintro e w2 ⟨Ax, cx, rfl, hCx, hRx, hB2⟩
  have hB12 := hB1.trans (hB2.mono hB1.size)
  have hRs2 := hRs.step hB2
  go_wp2_with fail
  refine (HOpb.out w2 hB12).mono ?_
  rintro e w3 ⟨Ay, cy, rfl, hCy, hRy, hB3⟩
  have hB13 := hB12.trans (hB3.mono hB12.size)
  have hRs3 := hRs2.step hB3
  have hRx3 := hRx.step hB3
  have kb := KB.out w3 hB13
  clear hRs hRs2 hRx hB1 hB2 hB3 hB12 HSeal HOpen HOpb KB
  go_wp2_with fail
  refine (HRO.out w3).mono ?_
  rintro e w4 ⟨rfl, hB4⟩
  have hB14 := hB13.trans (hB4.mono hB13.size)
  have hRs4 := hRs3.step hB4
  have hRx4 := hRx3.step hB4
  have hRy4 := hRy.step hB4
  clear kb HRO hB13 hB4 hRs3 hRx3 hRy
  have K := hide (fun (W : World) (hW : Below w4.heap.size w4 W) => (show Cv (.slice As sL.length cs) ss W ∧ Cv (.slice A n c) sl W ∧ Cv (.slice Ax l.length cx) sl W ∧ Cv (.slice Ay y.length cy) (ofL y) W from by
    obtain ⟨e1, e2, e3⟩ := HH.out
    refine ⟨?_, KA.out W (hB14.trans (hW.mono hB14.size)) |>.trans (by rw [e1]), ?_, conv_any (hRy4.below hW (Nat.le_refl _)) cy⟩
    · have h := conv_any (hRs4.below hW (Nat.le_refl _)) cs
      rw [e2, ← e3]; exact h
    · have h := conv_any (hRx4.below hW (Nat.le_refl _)) cx
      rw [e1]; exact h))
  have AW4 := hide (fun (W : World) (hW : Below w4.heap.size w4 W) => AW.out W (hB14.trans (hW.mono hB14.size)))
  clear hRs4 hRx4 hRy4 KA AW HH
  go_wp2_with fail
  have hd0 : Below w4.heap.size w4 w4.drew := ⟨rfl, rfl, rfl, Nat.le_refl _, fun _ _ => rfl⟩
  generalize Value.slice As sL.length cs = V0 at K ⊢
  generalize Value.slice A n c = V1 at K ⊢
  generalize Value.slice Ax l.length cx = V2 at K ⊢
  generalize Value.slice Ay y.length cy = V3 at K ⊢
  generalize ofL y = sy at K ⊢
  go_region_held3 (fun w' => Below w4.heap.size w4 w' ∧ (convert 43 9 V0).run Tryd.prog w' = .ok (.string ss) w' ∧ (convert 43 9 V1).run Tryd.prog w' = .ok (.string sl) w' ∧ (convert 43 9 V2).run Tryd.prog w' = .ok (.string sl) w' ∧ (convert 43 9 V3).run Tryd.prog w' = .ok (.string sy) w')
    (first
      | assumption
      | exact ⟨hd0, K.out _ hd0⟩
      | exact keep4 K (by assumption) hba)
    (first
      | (go_at_call 29; refine (AW4.out _ (And.left (by assumption))).mono ?_; rintro e wa ⟨rfl, hba⟩)
      | (go_at_call 37; refine (HRS.out _).mono ?_; rintro e wa ⟨rfl, hba⟩))
  all_goals
    rename_i hH
    have hBz := hB14.trans (hH.1.mono hB14.size)
    clear hH K AW4 HRS hd0 hB14
    go_wp2_with fail
    exact bodyPost_ret (results_tmp rfl _ _ _) rfl ⟨rfl, hBz⟩

set_option maxHeartbeats 2000000 in
theorem crcSeals_law (A : Option Addr) (l : List UInt8) (c : Nat) (B : Option Addr) (m : List UInt8) (d : Nat) (w : World) (hT : Table w) (hA : RdB w w.heap.size A l) (hB : RdB w w.heap.size B m) (hd : m.length ≤ d) :
    Calls Tryd.prog 8 #[.slice A l.length c, .slice B m.length d] w fun e w' => e = .returned (.bool true) ∧ Below w.heap.size w w' := by
  have AW := crcAwake_any w hT
  by_cases h1 : 300 < l.length
  · have h1i : (300 : Int) < l.length := by omega
    clear hA hB hd hT h1
    go_enter Tryd.func8, Tryd.ntmps8
    go_wp2_with fail
    refine AW.mono ?_
    rintro e w9 ⟨rfl, hB9⟩
    go_wp2_with fail
    exact bodyPost_ret (results_tmp rfl _ _ _) rfl ⟨rfl, hB9⟩
  by_cases h2 : 300 < m.length
  · have h1i : ¬ (300 : Int) < l.length := by omega
    have b1 : decide ((300 : Int) < l.length) = false := by rw [decide_eq_false_iff_not]; omega
    have h2i : (300 : Int) < m.length := by omega
    clear hA hB hd hT h1 h2
    go_enter Tryd.func8, Tryd.ntmps8
    go_wp2_with fail
    refine AW.mono ?_
    rintro e w9 ⟨rfl, hB9⟩
    go_wp2_with fail
    exact bodyPost_ret (results_tmp rfl _ _ _) rfl ⟨rfl, hB9⟩
  exact crcSeals_in A l c _ B m d _ w hT hA hB hd rfl rfl (by omega) (by omega)
end Go.Proofs.YtklficpogeidlaaDoor
