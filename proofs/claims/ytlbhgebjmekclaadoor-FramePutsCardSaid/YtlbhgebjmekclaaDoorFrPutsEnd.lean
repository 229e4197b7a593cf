/-
  FramePuts's law, for all frames.
-/
import Derived.Test.YtlbhgebjmekclaaDoorFrPutsLaw
namespace Go.Proofs.YtlbhgebjmekclaaDoor
open Go.RowKit
set_option maxRecDepth 100000

set_option maxHeartbeats 8000000 in
theorem frPuts_law (f g : Fr) (w : World) (hT : Table w) (hf : f.fits) (_hg : g.fits) :
    Calls Tryd.prog 3 #[.agg f.cells, .agg g.cells] w fun e w' => e = .returned (.bool true) ∧ Below w.heap.size w w' := by
  have AW := hide (fun (W : World) (hW : Below w.heap.size w W) => frAwake_any W (hT.below hW hT.pos))
  have HS0 := hide (PW.start w f.cells g.cells)
  by_cases h1 : 500 < f.body.size
  · have h1i : (500 : Int) < f.body.size := by omega
    obtain ⟨kd, bt, nm, bd⟩ := f
    simp only [Fr.cells] at HS0 ⊢
    simp only at h1i
    have c3 := cell_of_row _ _ 3 _ _ _ HS0.out.row
    have AW1 := hide (AW.out _ HS0.out.below)
    clear hf hT h1 AW
    go_enter Tryd.func3, Tryd.ntmps3
    go_wp2_with fail
    refine AW1.out.mono ?_
    rintro e w9 ⟨rfl, hB9⟩
    have HB := hide (HS0.out.step hB9)
    clear hB9 AW1
    go_wp2_with fail
    exact bodyPost_ret (results_tmp rfl _ _ _) rfl ⟨rfl, HB.out.below⟩
  by_cases h2 : 500 < g.body.size
  · have h1i : ¬ (500 : Int) < f.body.size := by omega
    have h2i : (500 : Int) < g.body.size := by omega
    obtain ⟨kd, bt, nm, bd⟩ := f
    obtain ⟨kd2, bt2, nm2, bd2⟩ := g
    simp only [Fr.cells] at HS0 ⊢
    simp only at h1i h2i
    have c3 := cell_of_row _ _ 3 _ _ _ HS0.out.row
    have d3 := cell_of_row _ _ 3 _ _ _ HS0.out.row2
    have AW1 := hide (AW.out _ HS0.out.below)
    clear hf hT h1 h2 AW
    go_enter Tryd.func3, Tryd.ntmps3
    go_wp2_with fail
    refine AW1.out.mono ?_
    rintro e w9 ⟨rfl, hB9⟩
    have HB := hide (HS0.out.step hB9)
    clear hB9 AW1
    go_wp2_with fail
    exact bodyPost_ret (results_tmp rfl _ _ _) rfl ⟨rfl, HB.out.below⟩
  by_cases hr : rightF f = true
  · have hlen : (sealL (bytesF f)).length ≤ 100000 := by
      have a1 := bytesF_len f
      have a2 : (sealL (bytesF f)).length = (bytesF f).length + 4 := by unfold sealL; rw [List.length_append, le4_len]
      omega
    have hR1 : ∀ W, Calls Tryd.prog 10 #[.agg f.cells] W fun e w' => e = .returned (.bool true) ∧ Below W.heap.size W w' := fun W => by
      have q := frRight_any f W
      rw [hr] at q
      exact q
    have hR2 : ∀ W, Calls Tryd.prog 11 #[.agg f.cells] W fun e w' => e = .returned (.bool true) ∧ Below W.heap.size W w' := fun W => by
      have q := refFrRight_any f W
      rw [hr] at q
      exact q
    exact frPuts_in f g (sealL (bytesF f)) true _ _ w (by omega) (by omega) (hide (fun W hW => frPut_any f W (hT.below hW hT.pos) hf hr (by omega))) (hide (fun W => refFrPut_any f W hf hr (by omega)))
      (hide (fun W => frNewer_any f g W)) (hide (fun W => frAlike_any f g W)) (hide hR1) (hide hR2) AW (hide (fun W => frIs_same f W))
      (hide (fun _ W A c hW hA hc => by
        have q := frGet_any A (sealL (bytesF f)) c W (hT.below hW hT.pos) hA hc.1 hlen
        rw [getF_back f hf hr (by omega)] at q
        exact q)) rfl rfl
  · have hr0 : rightF f = false := by simpa using hr
    have hR1 : ∀ W, Calls Tryd.prog 10 #[.agg f.cells] W fun e w' => e = .returned (.bool false) ∧ Below W.heap.size W w' := fun W => by
      have q := frRight_any f W
      rw [hr0] at q
      exact q
    have hR2 : ∀ W, Calls Tryd.prog 11 #[.agg f.cells] W fun e w' => e = .returned (.bool false) ∧ Below W.heap.size W w' := fun W => by
      have q := refFrRight_any f W
      rw [hr0] at q
      exact q
    exact frPuts_in f g [] false _ _ w (by omega) (by omega) (hide (fun W _ => (frPut_wrong f W hr0).mono (fun e w' h => ⟨none, 0, h.1, ⟨Nat.le_refl _, fun _ => rfl⟩, RdB.nil _ _ _, h.2⟩))) (hide (fun W => refFrPut_wrong f W hr0))
      (hide (fun W => frNewer_any f g W)) (hide (fun W => frAlike_any f g W)) (hide hR1) (hide hR2) AW (hide (fun W => frIs_same f W))
      (hide (fun h => by cases h)) rfl rfl
end Go.Proofs.YtlbhgebjmekclaaDoor
