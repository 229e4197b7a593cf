/-
  CrcSums's law.
-/
import Derived.Test.YtklficpogeidlaaDoorCrcAwake
import Derived.Deep.RegionHeld3
namespace Go.Proofs.YtklficpogeidlaaDoor
open Go.RowKit
set_option maxRecDepth 100000

theorem sofL_app (a b : List UInt8) : ofL (a ++ b) = ofL a ++ ofL b := by
  apply toL_inj
  simp [toL, ofL]
theorem sums_at (L : List (Option Addr × List UInt8 × Nat)) (n g : Nat) (w : World) (hT : Table w) (hR : ∀ x ∈ L, RdB w w.heap.size x.1 x.2.1) (hn : L.length = n) (h3 : n ≤ 3) (hl : ∀ x ∈ L, x.2.1.length ≤ 1000000) (hc : ∀ k x, L[k]? = some x → w.cell? ⟨g, k, none⟩ = some (.slice x.1 x.2.1.length x.2.2)) :
    Calls Tryd.prog 31 #[.slice (some ⟨g, 0, none⟩) n n] w fun e w' => e = .returned (.int .u32 (crcL (allB L) : Nat)) ∧ w' = w := by
  subst hn
  exact crcSum_any g L.length L w hT hc hR h3 hl
theorem made_here (w : World) (s : ByteArray) (l : List UInt8) (O : Obj) (h : toL s = l) : RdB ((Lib.bytesWorld w 5 s).alloc O) ((Lib.bytesWorld w 5 s).alloc O).heap.size (some ⟨w.heap.size, 0, none⟩) l := by
  have h1 := (made_bytes w s).1
  rw [h] at h1
  exact h1.step ((Below.refl _ _).alloc (Nat.le_refl _) _)
theorem conv_made (w : World) (s : ByteArray) (n : Nat) (h : s.size = n) : (convert 9 43 (.string s)).run Tryd.prog w = .ok (.slice (some ⟨w.heap.size, 0, none⟩) n (grownCap w n 0 5)) (Lib.bytesWorld w 5 s) := by
  have h1 := Lib.run_convert_string_bytes (P := Tryd.prog) w 9 43 5 s Tryd.underlying9 Tryd.underlying43 Tryd.underlying5
  rw [h] at h1
  exact h1
theorem keepS {w w1 w2 : World} {V : Value} {sl : ByteArray} (KA : Hid (∀ W, Below w.heap.size w W → (convert 43 9 V).run Tryd.prog W = .ok (.string sl) W))
    (h : Below w.heap.size w w1 ∧ (convert 43 9 V).run Tryd.prog w1 = .ok (.string sl) w1) (hb : Below w1.heap.size w1 w2) :
    Below w.heap.size w w2 ∧ (convert 43 9 V).run Tryd.prog w2 = .ok (.string sl) w2 := by
  have h2 := h.1.trans (hb.mono h.1.size)
  exact ⟨h2, KA.out _ h2⟩

set_option maxHeartbeats 8000000 in
theorem crcSums_in (A : Option Addr) (l : List UInt8) (c n : Nat) (B : Option Addr) (m : List UInt8) (d k s : Nat) (w : World) (hT : Table w) (hA : RdB w w.heap.size A l) (hB : RdB w w.heap.size B m) (hn : l.length = n) (hk : m.length = k) (h1 : n ≤ 300) (h2 : k ≤ 300) (hs : s < 4294967296) :
    Calls Tryd.prog 7 #[.slice A n c, .slice B k d, .int .u32 s] w fun e w' => e = .returned (.bool true) ∧ Below w.heap.size w w' := by
  have KA := hide (fun (W : World) (hW : Below w.heap.size w W) => (show (convert 43 9 (.slice A n c)).run Tryd.prog W = .ok (.string (ofL l)) W from by rw [← hn]; exact conv_any (hA.below hW (Nat.le_refl _)) c))
  have KB := hide (fun (W : World) (hW : Below w.heap.size w W) => (show (convert 43 9 (.slice B k d)).run Tryd.prog W = .ok (.string (ofL m)) W from by rw [← hk]; exact conv_any (hB.below hW (Nat.le_refl _)) d))
  have S2 := hide (fun (W : World) (g : Nat) (hW : Below w.heap.size w W) (g0 : W.cell? ⟨g, 0, none⟩ = some (.slice A n c)) (g1 : W.cell? ⟨g, 1, none⟩ = some (.slice B k d)) => (show Calls Tryd.prog 31 #[.slice (some ⟨g, 0, none⟩) 2 2] W fun e w' => e = .returned (.int .u32 (crcL (l ++ m) : Nat)) ∧ w' = W from by
    have h := sums_at [(A, l, c), (B, m, d)] 2 g W (hT.below hW hT.pos) (fun x hx => by
      simp at hx
      rcases hx with rfl | rfl
      · exact (hA.below hW (Nat.le_refl _)).mono hW.size
      · exact (hB.below hW (Nat.le_refl _)).mono hW.size) rfl (by decide) (fun x hx => by
      simp at hx
      rcases hx with rfl | rfl
      · show l.length ≤ _; omega
      · show m.length ≤ _; omega) (fun j x hx => by
      rcases j with _ | _ | j
      · simp at hx; subst hx; rw [hn]; exact g0
      · simp at hx; subst hx; rw [hk]; exact g1
      · simp at hx)
    rw [show allB [(A, l, c), (B, m, d)] = l ++ m by simp [allB]] at h
    exact h))
  have S1 := hide (fun (W : World) (g h c2 : Nat) (hW : Below w.heap.size w W) (hr : RdB W W.heap.size (some ⟨h, 0, none⟩) (l ++ m)) (g0 : W.cell? ⟨g, 0, none⟩ = some (.slice (some ⟨h, 0, none⟩) (n + k) c2)) => (show Calls Tryd.prog 31 #[.slice (some ⟨g, 0, none⟩) 1 1] W fun e w' => e = .returned (.int .u32 (crcL (l ++ m) : Nat)) ∧ w' = W from by
    have hx := sums_at [(some ⟨h, 0, none⟩, l ++ m, c2)] 1 g W (hT.below hW hT.pos) (fun x hx => by
      simp at hx
      subst hx
      exact hr) rfl (by decide) (fun x hx => by
      simp at hx
      subst hx
      show (l ++ m).length ≤ _
      simp; omega) (fun j x hx => by
      rcases j with _ | j
      · simp at hx
        subst hx
        show _ = some (Value.slice (some ⟨h, 0, none⟩) (l ++ m).length c2)
        rw [List.length_append, hn, hk]
        exact g0
      · simp at hx)
    rw [show allB [(some (⟨h, 0, none⟩ : Addr), l ++ m, c2)] = l ++ m by simp [allB]] at hx
    exact hx))
  have M1 := hide (fun (W : World) (hW : Below w.heap.size w W) => (show Calls Tryd.prog 32 #[.int .u32 s, .slice A n c] W fun e w' => e = .returned (.int .u32 (moreN s l : Nat)) ∧ w' = W from by rw [← hn]; exact more_any s A l c W hs (hT.below hW hT.pos) ((hA.below hW (Nat.le_refl _)).mono hW.size) (by omega)))
  have M2 := hide (fun (W : World) => refMore_any s l W hs (by omega))
  have RS := hide (fun (W : World) => refCrc_any (l ++ m) W (by simp; omega))
  have AW := hide (fun (W : World) (hW : Below w.heap.size w W) => crcAwake_any W (hT.below hW hT.pos))
  have b1 : decide ((300 : Int) < n) = false := by rw [decide_eq_false_iff_not]; omega
  have b2 : decide ((300 : Int) < k) = false := by rw [decide_eq_false_iff_not]; omega
  rw [sofL_app] at RS
  have zlm : ¬ 9223372036854775807 < (ofL l).size + (ofL m).size := by rw [cofL_size, cofL_size]; omega
  obtain ⟨q, hq⟩ : ∃ p, p = crcL (l ++ m) := ⟨_, rfl⟩
  obtain ⟨r, hr⟩ : ∃ p, p = moreN s l := ⟨_, rfl⟩
  rw [← hq] at S1 S2 RS
  rw [← hr] at M1 M2
  have HM := hide (And.intro hn (And.intro hk (And.intro h1 h2)))
  obtain ⟨sl, hsl⟩ : ∃ s, s = ofL l := ⟨_, rfl⟩
  obtain ⟨sm, hsm⟩ : ∃ s, s = ofL m := ⟨_, rfl⟩
  rw [← hsl] at KA M2 RS zlm
  rw [← hsm] at KB RS zlm
  clear hq hr hT hA hB hn hk h1 h2 hs
  have HSL := hide (And.intro hsl hsm)
  clear hsl hsm
  have ka := KA.out w (Below.refl _ _)
  have kb := KB.out w (Below.refl _ _)
  have kc := fun W : World => conv_made W (sl ++ sm) (n + k) (by
    rw [HSL.out.1, HSL.out.2, ← sofL_app, cofL_size, List.length_append, HM.out.1, HM.out.2.1])
  have S3 := hide (fun (wa : World) (hW : Below w.heap.size w ((Lib.bytesWorld (wa.alloc (.cells #[Value.slice A n c, Value.slice B k d] 43)) 5 (sl ++ sm)).alloc (.cells #[Value.slice (some ⟨wa.heap.size + 1, 0, none⟩) (n + k) (grownCap (wa.alloc (.cells #[Value.slice A n c, Value.slice B k d] 43)) (n + k) 0 5)] 43))) =>
    (show Calls Tryd.prog 31 #[.slice (some ⟨(Lib.bytesWorld (wa.alloc (.cells #[Value.slice A n c, Value.slice B k d] 43)) 5 (sl ++ sm)).heap.size, 0, none⟩) 1 1] ((Lib.bytesWorld (wa.alloc (.cells #[Value.slice A n c, Value.slice B k d] 43)) 5 (sl ++ sm)).alloc (.cells #[Value.slice (some ⟨wa.heap.size + 1, 0, none⟩) (n + k) (grownCap (wa.alloc (.cells #[Value.slice A n c, Value.slice B k d] 43)) (n + k) 0 5)] 43))
      fun e w' => e = .returned (.int .u32 (q : Nat)) ∧ w' = ((Lib.bytesWorld (wa.alloc (.cells #[Value.slice A n c, Value.slice B k d] 43)) 5 (sl ++ sm)).alloc (.cells #[Value.slice (some ⟨wa.heap.size + 1, 0, none⟩) (n + k) (grownCap (wa.alloc (.cells #[Value.slice A n c, Value.slice B k d] 43)) (n + k) 0 5)] 43)) from by
      refine S1.out _ _ _ _ hW ?_ (cell_of_row _ _ _ _ _ _ (World.alloc_heap_new _ _))
      have h := made_here (wa.alloc (.cells #[Value.slice A n c, Value.slice B k d] 43)) (sl ++ sm) (l ++ m) (.cells #[Value.slice (some ⟨wa.heap.size + 1, 0, none⟩) (n + k) (grownCap (wa.alloc (.cells #[Value.slice A n c, Value.slice B k d] 43)) (n + k) 0 5)] 43) (by rw [HSL.out.1, HSL.out.2, ← sofL_app]; rfl)
      simpa using h))
  clear S1
  go_enter Tryd.func7, Tryd.ntmps7
  go_wp2_with fail
  refine (RS.out _).mono ?_
  rintro e w1 ⟨rfl, rfl⟩
  go_wp2_with fail
  clear ka kb KB HSL HM
  have hd0 : Below w1.heap.size w1 w1.drew := ⟨rfl, rfl, rfl, Nat.le_refl _, fun _ _ => rfl⟩
  go_region_held (fun w' => Below w1.heap.size w1 w' ∧ (convert 43 9 (Value.slice A n c)).run Tryd.prog w' = .ok (.string sl) w')
    (first
      | assumption
      | exact ⟨hd0, KA.out _ hd0⟩
      | exact keepS KA (by assumption) hba
      | exact keepS KA (by assumption) (made_bytes _ _).2
      | exact keepS KA (by assumption) ((Below.refl _ _).alloc (Nat.le_refl _) _))
    (first
      | (go_at_call 29; refine (AW.out _ (And.left (by assumption))).mono ?_; rintro e wa ⟨rfl, hba⟩)
      | (go_at_call_of 31 (2 : Nat); refine (S2.out _ _ (And.left (by assumption)) (by simp) (by simp)).mono ?_; rintro e wa ⟨rfl, rfl⟩)
      | (go_at_call_of 31 (1 : Nat); refine (S3.out _ (And.left (by assumption))).mono ?_; rintro e wa ⟨rfl, rfl⟩)
      | (go_at_call 32; refine (M1.out _ (And.left (by assumption))).mono ?_; rintro e wa ⟨rfl, rfl⟩)
      | (go_at_call 33; refine (M2.out _).mono ?_; rintro e wa ⟨rfl, rfl⟩))
  all_goals
    rename_i hH
    go_wp2_with fail
    exact bodyPost_ret (results_tmp rfl _ _ _) rfl ⟨rfl, hH.1⟩

set_option maxHeartbeats 2000000 in
theorem crcSums_law (A : Option Addr) (l : List UInt8) (c : Nat) (B : Option Addr) (m : List UInt8) (d s : Nat) (w : World) (hT : Table w) (hA : RdB w w.heap.size A l) (hB : RdB w w.heap.size B m) (hs : s < 4294967296) :
    Calls Tryd.prog 7 #[.slice A l.length c, .slice B m.length d, .int .u32 s] w fun e w' => e = .returned (.bool true) ∧ Below w.heap.size w w' := by
  have AW := crcAwake_any w hT
  by_cases h1 : 300 < l.length
  · have h1i : (300 : Int) < l.length := by omega
    clear hA hB hs hT h1
    go_enter Tryd.func7, Tryd.ntmps7
    go_wp2_with fail
    refine AW.mono ?_
    rintro e w9 ⟨rfl, hB9⟩
    go_wp2_with fail
    exact bodyPost_ret (results_tmp rfl _ _ _) rfl ⟨rfl, hB9⟩
  by_cases h2 : 300 < m.length
  · have h1i : ¬ (300 : Int) < l.length := by omega
    have b1 : decide ((300 : Int) < l.length) = false := by rw [decide_eq_false_iff_not]; omega
    have h2i : (300 : Int) < m.length := by omega
    clear hA hB hs hT h1 h2
    go_enter Tryd.func7, Tryd.ntmps7
    go_wp2_with fail
    refine AW.mono ?_
    rintro e w9 ⟨rfl, hB9⟩
    go_wp2_with fail
    exact bodyPost_ret (results_tmp rfl _ _ _) rfl ⟨rfl, hB9⟩
  exact crcSums_in A l c _ B m d _ s w hT hA hB rfl rfl (by omega) (by omega) hs
end Go.Proofs.YtklficpogeidlaaDoor
