/-
  The reference's Apply.
-/
import Derived.Test.YtdkdnfcmlnfkcaaPtRefStep
import Derived.Test.YtdkdnfcmlnfkcaaPtApply
namespace Go.Proofs.Ytdkdnfcmlnfkcaa
open Go.RowKit
set_option maxRecDepth 100000

set_option maxHeartbeats 16000000 in
theorem refApply_any (s : ByteArray) (size : Int) (C : Option Addr) (T : List Tk) (d : Nat) (w : World) (hs : s.size ≤ 1000000) (hT : RdT w w.heap.size C T) (hTl : T.length ≤ 1000000) :
    Calls Try.prog 59 #[.string s, .int .i64 size, .slice C T.length d] w (StepS w (applyL (toL s) size T) (applyE (toL s) size T)) := by
  have HSt := hide (fun t W => refStep_any s size t W hs)
  have HT := hide (fun (W : World) (hb : Below w.heap.size w W) => hT.below hb (Nat.le_refl _))
  have hE : applyE (toL s) size T = (goAll (toL s) size (T.drop 0) []).1 := by rw [List.drop_zero]; rfl
  have hL : applyL (toL s) size T = if (goAll (toL s) size (T.drop 0) []).1 = 0 then (goAll (toL s) size (T.drop 0) []).2 else [] := by rw [List.drop_zero]; rfl
  generalize applyE (toL s) size T = SE at hE ⊢
  generalize applyL (toL s) size T = SL at hL ⊢
  have HV := hide (show SE = (goAll (toL s) size (T.drop 0) []).1 ∧ SL = if (goAll (toL s) size (T.drop 0) []).1 = 0 then (goAll (toL s) size (T.drop 0) []).2 else [] from ⟨hE, hL⟩)
  clear hE hL hT
  go_enter Try.func59, Try.ntmps59
  go_wp2_with fail
  go_loopg [8, 9] T.length (fun gk ov iv wr => ∃ (i : Nat) (O : List UInt8), iv = .int .i64 i ∧ ov = .string (ofL O) ∧ i + gk = T.length ∧ O.length ≤ 16384 ∧ Hid (Below w.heap.size w wr) ∧ Hid (SE = (goAll (toL s) size (T.drop i) O).1 ∧ SL = if (goAll (toL s) size (T.drop i) O).1 = 0 then (goAll (toL s) size (T.drop i) O).2 else []))
  case atStart => exact ⟨0, [], rfl, rfl, by omega, by simp, hide (Below.refl _ _), HV⟩
  case round =>
    obtain ⟨i, O, rfl, rfl, hig, hOl, HB, HQ⟩ := hrel
    clear HV
    cases gk with
    | zero =>
      obtain rfl : i = T.length := by omega
      have HX := hide (show StepS w SL SE (.returned (.tuple #[.string (ofL O), .int .i64 0])) wr from by
        obtain ⟨h1, h2⟩ := HQ.out
        rw [List.drop_length] at h1 h2
        have h1' : SE = 0 := h1
        have h2' : SL = O := by rw [h2]; rfl
        rw [h1', h2']
        exact ⟨rfl, HB.out⟩)
      clear HQ
      generalize ofL O = out at HX ⊢
      go_wp2_with fail
      refine bodyPost_ret (results_tmp2 rfl _ _ _) rfl ?_
      exact HX.out
    | succ g0 =>
      have hii : (i : Int) < T.length := by omega
      have hi0 : (0 : Int) ≤ (i : Int) := by omega
      obtain ⟨t, ht⟩ : ∃ t, T[i]? = some t := ⟨_, List.getElem?_eq_getElem (by omega)⟩
      obtain ⟨ad, rfl, hlt, hnd⟩ := (HT.out _ HB.out) i t ht
      obtain ⟨d1, d2⟩ := HQ.out
      rw [goAll_drop (toL s) size T i t O ht] at d1 d2
      have hG : goStep (toL s) size t O = if stepE (toL s).length size t = 0 then (if 16384 < O.length + (stepL (toL s) size t).length then (5, O) else (0, O ++ stepL (toL s) size t)) else (stepE (toL s).length size t, O) := rfl
      have hSl := stepL_len (toL s) size t
      obtain ⟨c0, c1, c2⟩ := hnd
      have HH := hide (HSt.out t)
      generalize goStep (toL s) size t O = p at d1 d2 hG
      generalize stepE (toL s).length size t = e1 at hG HH
      generalize stepL (toL s) size t = x1 at hG HH hSl
      have hz : (ofL O).size + (ofL x1).size ≤ 1000000 := by rw [ofL_size, ofL_size]; omega
      have hz1 : ((ofL O).size : Int) = O.length := by rw [ofL_size]
      have hz2 : ((ofL x1).size : Int) = x1.length := by rw [ofL_size]
      have HN := hide (show ofL O ++ ofL x1 = ofL (O ++ x1) from ofL_join _ _)
      obtain ⟨fr, many, data⟩ := t
      simp only [Tk.cells] at c0 c1 c2 HH
      unfold StepS at HH
      have hw := HB.out.size
      by_cases he : e1 = 0
      · rw [if_pos he] at hG
        have E0 : ((e1 : Int) != 0) = false := by rw [bne_eq_false_iff_eq]; omega
        by_cases hb : 16384 < O.length + x1.length
        · rw [if_pos hb] at hG
          rw [hG] at d1 d2
          have HD := hide (And.intro d1 d2)
          have hb2 : (16384 : Int) < (ofL O).size + (ofL x1).size := by omega
          have hb3 : 16384 < (ofL O).size + (ofL x1).size := by omega
          clear d1 d2 hG ht hb he hz1 hz2 HN
          generalize ofL O = out at hz hb2 hb3 ⊢
          generalize ofL x1 = bl at HH hz hb2 hb3
          have hno : ¬ 9223372036854775807 < out.size + bl.size := by omega
          go_wp2_with fail
          refine (HH.out _).mono ?_
          rintro e w3 ⟨rfl, hb4⟩
          have HX := hide (show StepS w SL SE (.returned (.tuple #[.string ⟨#[]⟩, .int .i64 5])) w3 from by
            have h1 : SE = 5 := HD.out.1
            have h2 : SL = [] := HD.out.2
            rw [h1, h2]
            exact ⟨rfl, HB.out.trans (hb4.mono hw)⟩)
          clear hb4 c0 c1 c2
          go_wp2_with fail
          refine bodyPost_ret (results_tmp2 rfl _ _ _) rfl ?_
          exact HX.out
        · rw [if_neg hb] at hG
          rw [hG] at d1 d2
          rw [if_pos rfl] at d1 d2
          have HD := hide (And.intro d1 d2)
          have hb2 : ¬ (16384 : Int) < (ofL O).size + (ofL x1).size := by omega
          have hb3 : ¬ 16384 < (ofL O).size + (ofL x1).size := by omega
          have hOl2 : (O ++ x1).length ≤ 16384 := by rw [List.length_append]; omega
          clear d1 d2 hG ht hb he hz1 hz2
          generalize hq : ofL O = out at hz hb2 hb3 HN ⊢
          clear hq
          generalize hq : ofL x1 = bl at HH hz hb2 hb3 HN
          clear hq
          have hno : ¬ 9223372036854775807 < out.size + bl.size := by omega
          go_wp2_with fail
          refine (HH.out _).mono ?_
          rintro e w3 ⟨rfl, hb4⟩
          have HB4 := hide (HB.out.trans (hb4.mono hw))
          clear hb4 c0 c1 c2
          go_wp2_with fail
          go_roundg g0
          case rel => exact ⟨i + 1, O ++ x1, rfl, by rw [HN.out], by omega, hOl2, HB4, HD⟩
          case measure => omega
      · rw [if_neg he] at hG
        rw [hG] at d1 d2
        simp only at d1 d2
        rw [if_neg he] at d1 d2
        have E0 : ((e1 : Int) != 0) = true := by rw [bne_iff_ne]; omega
        have HD := hide (And.intro d1 d2)
        have HE0 := hide he
        clear d1 d2 hG ht he hz1 hz2 HN
        generalize ofL O = out at hz ⊢
        generalize ofL x1 = bl at HH hz
        have hno : ¬ 9223372036854775807 < out.size + bl.size := by omega
        go_wp2_with fail
        refine (HH.out _).mono ?_
        rintro e w3 ⟨rfl, hb4⟩
        have HX := hide (show StepS w SL SE (.returned (.tuple #[.string ⟨#[]⟩, .int .i64 e1])) w3 from by
          obtain ⟨h1, h2⟩ := HD.out
          rw [if_neg HE0.out] at h2
          rw [h1, h2]
          exact ⟨rfl, HB.out.trans (hb4.mono hw)⟩)
        clear hb4 c0 c1 c2
        go_wp2_with fail
        refine bodyPost_ret (results_tmp2 rfl _ _ _) rfl ?_
        exact HX.out
end Go.Proofs.Ytdkdnfcmlnfkcaa
