/-
  FrameTurned's law.
-/
import Derived.Test.YtlbhgebjmekclaaDoorFrSmall
import Derived.Test.YtlbhgebjmekclaaDoorCrcTurnMath
namespace Go.Proofs.YtlbhgebjmekclaaDoor
open Go.RowKit
set_option maxRecDepth 100000

/-- The law's own row: the frame that came in. -/
structure FW (w W : World) (c : Array Value) : Prop where
  below : Below w.heap.size w W
  row : W.heap[w.heap.size]? = some (.cells c 24 (0, 0))
theorem FW.start (w : World) (c : Array Value) : FW w (w.alloc (.cells c 24)) c := ⟨(Below.refl w.heap.size w).alloc (Nat.le_refl _) _, World.alloc_heap_new _ _⟩
theorem FW.lt {w W : World} {c : Array Value} (h : FW w W c) : w.heap.size < W.heap.size := (Array.getElem?_eq_some_iff.1 h.row).1
theorem FW.step {w W W' : World} {c : Array Value} (h : FW w W c) (hB : Below W.heap.size W W') : FW w W' c :=
  ⟨h.below.trans (hB.mono h.below.size), (hB.block _ h.lt).trans h.row⟩
theorem getF_turned (l : List UInt8) (p : Int) (s : Nat) (h : turnL (sealL l) p s ≠ sealL l) : getF (turnL (sealL l) p s) = (zeroF, 12) := by
  unfold getF
  rw [open_turned l p s h]
  simp

set_option maxHeartbeats 16000000 in
theorem frTurned_in (f : Fr) (p : Int) (s : Nat) (w : World) (hT : Table w) (hf : f.fits) (hs : f.body.size ≤ 300) (hr : rightF f = true) (hp1 : -9223372036854775808 ≤ p) (hp2 : p ≤ 9223372036854775807) (hm : s < 4294967296) :
    Calls Tryd.prog 5 #[.agg f.cells, .int .i64 p, .int .u32 s] w fun e w' => e = .returned (.bool true) ∧ Below w.heap.size w w' := by
  have hlen : (sealL (bytesF f)).length ≤ 400 := by
    have h1 := bytesF_len f
    have h2 : (sealL (bytesF f)).length = (bytesF f).length + 4 := by unfold sealL; rw [List.length_append, le4_len]
    omega
  have HRi := hide (fun W => (show Calls Tryd.prog 11 #[.agg f.cells] W fun e w' => e = .returned (.bool true) ∧ Below W.heap.size W w' from by
    have q := refFrRight_any f W
    rw [hr] at q
    exact q))
  have HTo := hide (fun W => frTo_any f W)
  have HP := hide (fun (W : World) (hW : Below w.heap.size w W) => frPut_any f W (hT.below hW hT.pos) hf hr (by omega))
  have AW := hide (fun (W : World) (hW : Below w.heap.size w W) => frAwake_any W (hT.below hW hT.pos))
  have HTu := hide (fun (W : World) (A : Option Addr) (c : Nat) (hR : RdB W W.heap.size A (sealL (bytesF f))) (hc : Caps A (sealL (bytesF f)).length c) => turn_any A (sealL (bytesF f)) c p s W hR hc (by omega) hp1 hp2 hm)
  have HGe := hide (fun (W : World) (A : Option Addr) (c : Nat) (hW : Below w.heap.size w W) (hR : RdB W W.heap.size A (turnL (sealL (bytesF f)) p s)) (hc : Caps A (turnL (sealL (bytesF f)) p s).length c) => frGet_any A (turnL (sealL (bytesF f)) p s) c W (hT.below hW hT.pos) hR hc.1 (by rw [turnL_len]; omega))
  have HIs := hide (fun W => frIs_same f W)
  have HCv := hide (fun (W : World) (A : Option Addr) (c : Nat) (hR : RdB W W.heap.size A (sealL (bytesF f))) => conv_any hR c)
  have HCx := hide (fun (W : World) (A : Option Addr) (c : Nat) (hR : RdB W W.heap.size A (turnL (sealL (bytesF f)) p s)) => conv_any hR c)
  have HB2 := hide (getF_back f hf hr (by omega))
  have HTt := hide (getF_turned (bytesF f) p s)
  have HS0 := hide (FW.start w f.cells)
  have hb1 : decide ((300 : Int) < f.body.size) = false := by rw [decide_eq_false_iff_not]; omega
  have hb2 : ¬ (300 : Int) < f.body.size := by omega
  obtain ⟨P, hP⟩ : ∃ P, P = sealL (bytesF f) := ⟨_, rfl⟩
  rw [← hP] at HTu HGe HB2 HTt HCv HCx
  unfold Bytes at HP HTu
  have HPl : sealL (bytesF f) = P := hP.symm
  rw [HPl] at HP
  clear hT hf hs hr hp1 hp2 hm hlen HPl hP
  obtain ⟨kd, bt, nm, bd⟩ := f
  simp only [Fr.cells] at HRi HTo HP HIs HS0 ⊢
  simp only at hb1 hb2
  by_cases hx : turnL P p s = P
  · rw [hx] at HTu HGe HCx
    have HG := hide (show getF P = (⟨kd, bt, nm, bd⟩, 0) from HB2.out)
    rw [HG.out] at HGe
    simp only [Fr.cells] at HGe
    generalize P.length = n at HP HTu HGe HCv HCx
    generalize HQ : P = Q at *
    clear hx HQ HB2 HTt HG
    have c0 := cell_of_row _ _ 0 _ _ _ HS0.out.row
    have c1 := cell_of_row _ _ 1 _ _ _ HS0.out.row
    have c2 := cell_of_row _ _ 2 _ _ _ HS0.out.row
    have c3 := cell_of_row _ _ 3 _ _ _ HS0.out.row
    go_enter Tryd.func5, Tryd.ntmps5
    go_wp2_with fail
    refine (HRi.out _).mono ?_
    rintro e w1 ⟨rfl, hB⟩
    have HS1 := hide (HS0.out.step hB)
    clear c0 c1 c2 c3 hB HS0 HRi
    have c0 := cell_of_row _ _ 0 _ _ _ HS1.out.row
    have c1 := cell_of_row _ _ 1 _ _ _ HS1.out.row
    have c2 := cell_of_row _ _ 2 _ _ _ HS1.out.row
    have c3 := cell_of_row _ _ 3 _ _ _ HS1.out.row
    go_wp2_with fail
    refine (HTo.out _).mono ?_
    rintro e w2 ⟨rfl, hB⟩
    have HS2 := hide (HS1.out.step hB)
    clear c0 c1 c2 c3 hB HS1 HTo
    go_wp2_with fail
    refine (HP.out _ HS2.out.below).mono ?_
    rintro e w3 ⟨Ap, cp, rfl, hC, hR, hB⟩
    have HS3 := hide (HS2.out.step hB)
    have HRp := hide hR
    have HT3 := hide (HTu.out w3 Ap cp hR hC)
    clear hB hC hR HS2 HP HTu
    go_wp2_with fail
    refine HT3.out.mono ?_
    rintro e w4 ⟨Ax, cx, rfl, hC, hR, hB⟩
    have HS4 := hide (HS3.out.step hB)
    have HRp4 := hide ((HRp.out.below hB (Nat.le_refl _)).mono hB.size)
    have HRx := hide hR
    have HG4 := hide (HGe.out w4 Ax cx HS4.out.below hR hC)
    clear hB hC hR HS3 HRp HT3 HGe
    go_wp2_with fail
    refine HG4.out.mono ?_
    rintro e w5 ⟨rfl, hB⟩
    have hA := (Below.refl w5.heap.size w5).alloc (Nat.le_refl _) (Obj.cells #[.int .i64 kd, .int .u64 (bt : Nat), .int .u64 (nm : Nat), .string bd] 26)
    have HS6 := hide ((HS4.out.step hB).step hA)
    have hrg := World.alloc_heap_new w5 (Obj.cells #[.int .i64 kd, .int .u64 (bt : Nat), .int .u64 (nm : Nat), .string bd] 26)
    have hB6 := hB.trans (hA.mono hB.size)
    have HRp6 := hide ((HRp4.out.below hB6 (Nat.le_refl _)).mono hB6.size)
    have HRx6 := hide ((HRx.out.below hB6 (Nat.le_refl _)).mono hB6.size)
    have hc1 := HCv.out _ Ap cp HRp6.out
    have hc2 := HCx.out _ Ax cx HRx6.out
    have HRg := hide hrg
    clear hB hA hrg hB6 HRp4 HRx HG4 HS4
    obtain ⟨w6, hw6⟩ : ∃ w6, w6 = w5.alloc (.cells #[.int .i64 kd, .int .u64 (bt : Nat), .int .u64 (nm : Nat), .string bd] 26) := ⟨_, rfl⟩
    clear hw6
    have c0 := cell_of_row _ _ 0 _ _ _ HS6.out.row
    have c1 := cell_of_row _ _ 1 _ _ _ HS6.out.row
    have c2 := cell_of_row _ _ 2 _ _ _ HS6.out.row
    have c3 := cell_of_row _ _ 3 _ _ _ HS6.out.row
    have d0 := cell_of_row _ _ 0 _ _ _ HRg.out
    have d1 := cell_of_row _ _ 1 _ _ _ HRg.out
    have d2 := cell_of_row _ _ 2 _ _ _ HRg.out
    have d3 := cell_of_row _ _ 3 _ _ _ HRg.out
    have AW6 := hide (AW.out _ HS6.out.below)
    clear AW HCv HCx HRp6 HRx6
    go_wp2_with fail
    all_goals
      refine AW6.out.mono ?_
      rintro e w7 ⟨rfl, hB⟩
      have HS7 := hide (HS6.out.step hB)
      have HRg7 := hide ((hB.block _ (Array.getElem?_eq_some_iff.1 HRg.out).1).trans HRg.out)
      clear c0 c1 c2 c3 d0 d1 d2 d3 hB hc1 hc2 AW6 HRg HS6
      have c0 := cell_of_row _ _ 0 _ _ _ HS7.out.row
      have c1 := cell_of_row _ _ 1 _ _ _ HS7.out.row
      have c2 := cell_of_row _ _ 2 _ _ _ HS7.out.row
      have c3 := cell_of_row _ _ 3 _ _ _ HS7.out.row
      have d0 := cell_of_row _ _ 0 _ _ _ HRg7.out
      have d1 := cell_of_row _ _ 1 _ _ _ HRg7.out
      have d2 := cell_of_row _ _ 2 _ _ _ HRg7.out
      have d3 := cell_of_row _ _ 3 _ _ _ HRg7.out
      go_wp2_with fail
    all_goals
      refine (HIs.out _).mono ?_
      rintro e w8 ⟨rfl, hB⟩
      have HB := hide (HS7.out.below.trans (hB.mono HS7.out.below.size))
      clear hB
      go_wp2_with fail
      exact bodyPost_ret (results_tmp rfl _ _ _) rfl ⟨rfl, HB.out⟩
  · have HG := hide (show getF (turnL P p s) = (zeroF, 12) from HTt.out hx)
    have HNe := hide (list_ne hx)
    rw [HG.out] at HGe
    simp only [Fr.cells, zeroF] at HGe
    generalize turnL P p s = X at HTu HGe HNe HCx
    generalize P.length = n at HP HTu HCv
    generalize X.length = m at HTu HGe HCx
    clear hx HB2 HTt HG
    have c0 := cell_of_row _ _ 0 _ _ _ HS0.out.row
    have c1 := cell_of_row _ _ 1 _ _ _ HS0.out.row
    have c2 := cell_of_row _ _ 2 _ _ _ HS0.out.row
    have c3 := cell_of_row _ _ 3 _ _ _ HS0.out.row
    go_enter Tryd.func5, Tryd.ntmps5
    go_wp2_with fail
    refine (HRi.out _).mono ?_
    rintro e w1 ⟨rfl, hB⟩
    have HS1 := hide (HS0.out.step hB)
    clear c0 c1 c2 c3 hB HS0 HRi
    have c0 := cell_of_row _ _ 0 _ _ _ HS1.out.row
    have c1 := cell_of_row _ _ 1 _ _ _ HS1.out.row
    have c2 := cell_of_row _ _ 2 _ _ _ HS1.out.row
    have c3 := cell_of_row _ _ 3 _ _ _ HS1.out.row
    go_wp2_with fail
    refine (HTo.out _).mono ?_
    rintro e w2 ⟨rfl, hB⟩
    have HS2 := hide (HS1.out.step hB)
    clear c0 c1 c2 c3 hB HS1 HTo
    go_wp2_with fail
    refine (HP.out _ HS2.out.below).mono ?_
    rintro e w3 ⟨Ap, cp, rfl, hC, hR, hB⟩
    have HS3 := hide (HS2.out.step hB)
    have HRp := hide hR
    have HT3 := hide (HTu.out w3 Ap cp hR hC)
    clear hB hC hR HS2 HP HTu
    go_wp2_with fail
    refine HT3.out.mono ?_
    rintro e w4 ⟨Ax, cx, rfl, hC, hR, hB⟩
    have HS4 := hide (HS3.out.step hB)
    have HRp4 := hide ((HRp.out.below hB (Nat.le_refl _)).mono hB.size)
    have HRx := hide hR
    have HG4 := hide (HGe.out w4 Ax cx HS4.out.below hR hC)
    clear hB hC hR HS3 HRp HT3 HGe
    go_wp2_with fail
    refine HG4.out.mono ?_
    rintro e w5 ⟨rfl, hB⟩
    have hA := (Below.refl w5.heap.size w5).alloc (Nat.le_refl _) (Obj.cells #[.int .i64 0, .int .u64 0, .int .u64 0, .string ⟨#[]⟩] 26)
    have HS6 := hide ((HS4.out.step hB).step hA)
    have hrg := World.alloc_heap_new w5 (Obj.cells #[.int .i64 0, .int .u64 0, .int .u64 0, .string ⟨#[]⟩] 26)
    have hB6 := hB.trans (hA.mono hB.size)
    have HRp6 := hide ((HRp4.out.below hB6 (Nat.le_refl _)).mono hB6.size)
    have HRx6 := hide ((HRx.out.below hB6 (Nat.le_refl _)).mono hB6.size)
    have hc1 := HCv.out _ Ap cp HRp6.out
    have hc2 := HCx.out _ Ax cx HRx6.out
    have HRg := hide hrg
    clear hB hA hrg hB6 HRp4 HRx HG4 HS4
    obtain ⟨w6, hw6⟩ : ∃ w6, w6 = w5.alloc (.cells #[.int .i64 0, .int .u64 0, .int .u64 0, .string ⟨#[]⟩] 26) := ⟨_, rfl⟩
    clear hw6
    have c0 := cell_of_row _ _ 0 _ _ _ HS6.out.row
    have c1 := cell_of_row _ _ 1 _ _ _ HS6.out.row
    have c2 := cell_of_row _ _ 2 _ _ _ HS6.out.row
    have c3 := cell_of_row _ _ 3 _ _ _ HS6.out.row
    have d0 := cell_of_row _ _ 0 _ _ _ HRg.out
    have d1 := cell_of_row _ _ 1 _ _ _ HRg.out
    have d2 := cell_of_row _ _ 2 _ _ _ HRg.out
    have d3 := cell_of_row _ _ 3 _ _ _ HRg.out
    have AW6 := hide (AW.out _ HS6.out.below)
    clear AW HCv HCx HRp6 HRx6
    have hne := HNe.out
    go_wp2_with fail
    all_goals
      refine AW6.out.mono ?_
      rintro e w7 ⟨rfl, hB⟩
      have HS7 := hide (HS6.out.step hB)
      have HRg7 := hide ((hB.block _ (Array.getElem?_eq_some_iff.1 HRg.out).1).trans HRg.out)
      clear c0 c1 c2 c3 d0 d1 d2 d3 hB hc1 hc2 AW6 HRg HS6
      have c0 := cell_of_row _ _ 0 _ _ _ HS7.out.row
      have c1 := cell_of_row _ _ 1 _ _ _ HS7.out.row
      have c2 := cell_of_row _ _ 2 _ _ _ HS7.out.row
      have c3 := cell_of_row _ _ 3 _ _ _ HS7.out.row
      have d0 := cell_of_row _ _ 0 _ _ _ HRg7.out
      have d1 := cell_of_row _ _ 1 _ _ _ HRg7.out
      have d2 := cell_of_row _ _ 2 _ _ _ HRg7.out
      have d3 := cell_of_row _ _ 3 _ _ _ HRg7.out
      go_wp2_with fail
    all_goals exact bodyPost_ret (results_tmp rfl _ _ _) rfl ⟨rfl, HS7.out.below⟩

set_option maxHeartbeats 8000000 in
theorem frTurned_law (f : Fr) (p : Int) (s : Nat) (w : World) (hT : Table w) (hf : f.fits) (hp1 : -9223372036854775808 ≤ p) (hp2 : p ≤ 9223372036854775807) (hm : s < 4294967296) :
    Calls Tryd.prog 5 #[.agg f.cells, .int .i64 p, .int .u32 s] w fun e w' => e = .returned (.bool true) ∧ Below w.heap.size w w' := by
  have HS0 := hide (FW.start w f.cells)
  have AW := hide (fun (W : World) (hW : Below w.heap.size w W) => frAwake_any W (hT.below hW hT.pos))
  by_cases h1 : 300 < f.body.size
  · have h1i : (300 : Int) < f.body.size := by omega
    obtain ⟨kd, bt, nm, bd⟩ := f
    simp only [Fr.cells] at HS0 ⊢
    simp only at h1i
    have c3 := cell_of_row _ _ 3 _ _ _ HS0.out.row
    have AW1 := hide (AW.out _ HS0.out.below)
    clear hf hT h1 hp1 hp2 hm AW
    go_enter Tryd.func5, Tryd.ntmps5
    go_wp2_with fail
    refine AW1.out.mono ?_
    rintro e w9 ⟨rfl, hB9⟩
    have HB := hide (HS0.out.step hB9)
    clear hB9 AW1
    go_wp2_with fail
    exact bodyPost_ret (results_tmp rfl _ _ _) rfl ⟨rfl, HB.out.below⟩
  by_cases hr : rightF f = true
  · exact frTurned_in f p s w hT hf (by omega) hr hp1 hp2 hm
  · have HRi := hide (fun W => (show Calls Tryd.prog 11 #[.agg f.cells] W fun e w' => e = .returned (.bool false) ∧ Below W.heap.size W w' from by
      have q := refFrRight_any f W
      rw [Bool.not_eq_true] at hr
      rw [hr] at q
      exact q))
    have h1i : ¬ (300 : Int) < f.body.size := by omega
    obtain ⟨kd, bt, nm, bd⟩ := f
    simp only [Fr.cells] at HS0 HRi ⊢
    simp only at h1i
    have c0 := cell_of_row _ _ 0 _ _ _ HS0.out.row
    have c1 := cell_of_row _ _ 1 _ _ _ HS0.out.row
    have c2 := cell_of_row _ _ 2 _ _ _ HS0.out.row
    have c3 := cell_of_row _ _ 3 _ _ _ HS0.out.row
    clear hf hT h1 hp1 hp2 hm hr
    go_enter Tryd.func5, Tryd.ntmps5
    go_wp2_with fail
    refine (HRi.out _).mono ?_
    rintro e w1 ⟨rfl, hB⟩
    have HS1 := hide (HS0.out.step hB)
    have AW1 := hide (AW.out _ HS1.out.below)
    clear hB HS0 HRi c0 c1 c2 c3 AW
    go_wp2_with fail
    refine AW1.out.mono ?_
    rintro e w9 ⟨rfl, hB9⟩
    have HB := hide (HS1.out.step hB9)
    clear hB9 AW1
    go_wp2_with fail
    exact bodyPost_ret (results_tmp rfl _ _ _) rfl ⟨rfl, HB.out.below⟩
end Go.Proofs.YtlbhgebjmekclaaDoor
