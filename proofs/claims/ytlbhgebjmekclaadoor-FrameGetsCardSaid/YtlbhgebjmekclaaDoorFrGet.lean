/-
  frame.Get.
-/
import Derived.Test.YtlbhgebjmekclaaDoorFrRead
import Derived.Test.YtlbhgebjmekclaaDoorCrcOpenP
namespace Go.Proofs.YtlbhgebjmekclaaDoor
open Go.RowKit
set_option maxRecDepth 100000

/-- No frame. -/
def zeroF : Fr := ⟨0, 0, 0, ⟨#[]⟩⟩
/-- Which frame some bytes are, all of them: or why none. -/
def wholeF (r : Fr × List UInt8 × Nat) : Fr × Nat := if endN r.2.2 r.2.1 ≠ 0 then (zeroF, endN r.2.2 r.2.1) else (r.1, 0)
/-- Which frame sealed bytes are. -/
def getF (l : List UInt8) : Fr × Nat := if (openL l).2 ≠ 0 then (zeroF, (openL l).2) else wholeF (readF (openL l).1)
theorem readF_len (l : List UInt8) : (readF l).2.1.length ≤ l.length := by
  have h0 := readN_len2 l 0 255
  unfold readF
  generalize readN l 0 255 = r at h0 ⊢
  unfold rd0
  have h1 := readN_len2 r.2.1 r.2.2 18446744073709551615
  generalize readN r.2.1 r.2.2 18446744073709551615 = r1 at h1 ⊢
  unfold rd1
  have h2 := readN_len2 r1.2.1 r1.2.2 18446744073709551615
  generalize readN r1.2.1 r1.2.2 18446744073709551615 = r2 at h2 ⊢
  unfold rd2 rd3
  have h3 := readN_len2 r2.2.1 r2.2.2 131072
  have h4 : (readT r2.2.1 r2.2.2 131072).2.1.length ≤ (readN r2.2.1 r2.2.2 131072).2.1.length := by
    unfold readT textOf
    split
    · exact Nat.le_refl _
    · split
      · exact Nat.le_refl _
      · rw [List.length_drop]; omega
  show (readT r2.2.1 r2.2.2 131072).2.1.length ≤ _
  omega
theorem openL_len (l : List UInt8) : (openL l).1.length ≤ l.length := by
  unfold openL
  split
  · simp
  · split
    · simp
    · simp

/-- While Get works: the answer's row. -/
structure GS (w W : World) : Prop where
  below : Below w.heap.size w W
  row : W.heap[w.heap.size]? = some (.cells #[.int .i64 0, .int .u64 0, .int .u64 0, .string ⟨#[]⟩] 26 (0, 0))
theorem GS.start (w : World) : GS w (w.alloc (.cells #[.int .i64 0, .int .u64 0, .int .u64 0, .string ⟨#[]⟩] 26)) :=
  ⟨(Below.refl w.heap.size w).alloc (Nat.le_refl _) _, World.alloc_heap_new _ _⟩
theorem GS.step {w W W' : World} {b : Nat} (h : GS w W) (hb : w.heap.size < b) (hB : Below b W W') : GS w W' :=
  ⟨h.below.trans (hB.mono (Nat.le_of_lt hb)), (hB.block _ hb).trans h.row⟩
theorem GS.lt {w W : World} (h : GS w W) : w.heap.size < W.heap.size := (Array.getElem?_eq_some_iff.1 h.row).1
theorem GS.last {w W : World} (h : GS w W) (v0 v1 v2 v3 : Value) :
    Below w.heap.size w ((((W.setCell ⟨w.heap.size, 0, none⟩ v0).setCell ⟨w.heap.size, 1, none⟩ v1).setCell ⟨w.heap.size, 2, none⟩ v2).setCell ⟨w.heap.size, 3, none⟩ v3) ∧ ((((W.setCell ⟨w.heap.size, 0, none⟩ v0).setCell ⟨w.heap.size, 1, none⟩ v1).setCell ⟨w.heap.size, 2, none⟩ v2).setCell ⟨w.heap.size, 3, none⟩ v3).heap[w.heap.size]? = some (.cells #[v0, v1, v2, v3] 26 (0, 0)) := by
  have r0 := heap_setCell_same _ _ 0 _ _ v0 h.row
  have r1 := heap_setCell_same _ _ 1 _ _ v1 r0
  have r2 := heap_setCell_same _ _ 2 _ _ v2 r1
  have r3 := heap_setCell_same _ _ 3 _ _ v3 r2
  have b0 := (Below.refl w.heap.size W).setCell (p := ⟨w.heap.size, 0, none⟩) (Nat.le_refl _) v0
  have b1 := b0.setCell (p := ⟨w.heap.size, 1, none⟩) (Nat.le_refl _) v1
  have b2 := b1.setCell (p := ⟨w.heap.size, 2, none⟩) (Nat.le_refl _) v2
  have b3 := b2.setCell (p := ⟨w.heap.size, 3, none⟩) (Nat.le_refl _) v3
  exact ⟨h.below.trans b3, r3⟩

set_option maxHeartbeats 8000000 in
theorem frGet_any (A : Option Addr) (l : List UInt8) (c : Nat) (w : World) (hT : Table w) (hR : RdB w w.heap.size A l) (hc : l.length ≤ c) (hl : l.length ≤ 100000) :
    Calls Tryd.prog 14 #[.slice A l.length c] w fun e w' => e = .returned (.tuple #[.agg (getF l).1.cells, .int .i64 ((getF l).2 : Nat)]) ∧ Below w.heap.size w w' := by
  have hb0 := (GS.start w).below
  have HG0 := hide (GS.start w)
  have HO := hide (open_any A l c _ (hT.below hb0 hT.pos) ((hR.below hb0 (Nat.le_refl _)).mono hb0.size) hc hl)
  have hol := openL_len l
  obtain ⟨G, hG⟩ : ∃ G, G = getF l := ⟨_, rfl⟩
  rw [← hG]
  unfold getF at hG
  generalize openL l = o at HO hG hol
  obtain ⟨m, er⟩ := o
  simp only at HO hG hol
  generalize l.length = n at HO hol hl ⊢
  clear hT hR hc hb0
  by_cases he : er = 0
  · rw [if_neg (by simpa using he)] at hG
    have hrl := readF_len m
    have HRead := hide (fun b W (hI : IsR W b m 0) => frRead_any b m W hI (by omega))
    have HRv := hide (fun A2 c2 W hR hC => read_any A2 m c2 W hR hC (by omega))
    unfold wholeF at hG
    generalize readF m = r at hG hrl HRead
    obtain ⟨⟨kd, bt, nm, bd⟩, l2, e2⟩ := r
    simp only at hG hrl HRead
    have HEn := hide (fun b W (hI : IsR W b l2 e2) => end_any b e2 l2 W hI (by omega))
    have E1 : ((er : Int) != 0) = false := by rw [he]; rfl
    have HE := hide he
    unfold Opened at HO
    simp only [Fr.cells] at HRead
    generalize m.length = mn at HO HRv
    clear he hrl hol
    by_cases h2 : endN e2 l2 = 0
    · rw [if_neg (by simpa using h2)] at hG
      have E2 : (((endN e2 l2 : Nat) : Int) != 0) = false := by rw [h2]; rfl
      subst hG
      simp only [Fr.cells]
      generalize endN e2 l2 = en at E2 HEn
      clear h2
      go_enter Tryd.func14, Tryd.ntmps14
      go_wp2_with fail
      refine HO.out.mono ?_
      rintro e w1 ⟨B, d, rfl, hC, hR, hB⟩
      have HG1 := hide (HG0.out.step HG0.out.lt hB)
      have HR1 := hide (HRv.out B d w1 hR hC)
      clear hR hB hC HO HRv HG0
      go_wp2_with fail
      refine HR1.out.mono ?_
      rintro e w2 ⟨⟨b, rfl, hI, hb⟩, hB⟩
      have HG2 := hide (HG1.out.step HG1.out.lt hB)
      have HR2 := hide (HRead.out b w2 hI)
      have HBb := hide (Nat.lt_of_lt_of_le HG1.out.lt hb)
      clear hI hB hb HR1 HRead HG1
      go_wp2_with fail
      refine HR2.out.mono ?_
      rintro e w3 ⟨rfl, hI, hg, hB⟩
      have hA := (Below.refl w3.heap.size w3).alloc (Nat.le_refl _) (Obj.cells #[.int .i64 kd, .int .u64 bt, .int .u64 nm, .string bd] 26)
      have hg3 := HG2.out.step HBb.out hB
      have HG3 := hide (hg3.step hg3.lt hA)
      have HR3 := hide (HEn.out b _ (hI.keep (hA.mono hI.lt)))
      have hrf := World.alloc_heap_new w3 (Obj.cells #[.int .i64 kd, .int .u64 bt, .int .u64 nm, .string bd] 26)
      have f0 := cell_of_row _ _ 0 _ _ _ hrf
      have f1 := cell_of_row _ _ 1 _ _ _ hrf
      have f2 := cell_of_row _ _ 2 _ _ _ hrf
      have f3 := cell_of_row _ _ 3 _ _ _ hrf
      clear hI hB hg HR2 HEn HG2 hA hg3 hrf
      go_wp2_with fail
      refine HR3.out.mono ?_
      rintro e w4 ⟨rfl, hw4⟩
      rw [← hw4] at HG3 f0 f1 f2 f3
      clear hw4
      have g0 : w4.frozen? ⟨w.heap.size, 0, none⟩ = false := frozen_of_row _ _ _ _ _ HG3.out.row
      have q0 : w4.cell? ⟨w.heap.size, 0, none⟩ = some (.int .i64 0) := cell_of_row _ _ _ _ _ _ HG3.out.row
      have g1 : w4.frozen? ⟨w.heap.size, 1, none⟩ = false := frozen_of_row _ _ _ _ _ HG3.out.row
      have q1 : w4.cell? ⟨w.heap.size, 1, none⟩ = some (.int .u64 0) := cell_of_row _ _ _ _ _ _ HG3.out.row
      have g2 : w4.frozen? ⟨w.heap.size, 2, none⟩ = false := frozen_of_row _ _ _ _ _ HG3.out.row
      have q2 : w4.cell? ⟨w.heap.size, 2, none⟩ = some (.int .u64 0) := cell_of_row _ _ _ _ _ _ HG3.out.row
      have g3 : w4.frozen? ⟨w.heap.size, 3, none⟩ = false := frozen_of_row _ _ _ _ _ HG3.out.row
      have q3 : w4.cell? ⟨w.heap.size, 3, none⟩ = some (.string ⟨#[]⟩) := cell_of_row _ _ _ _ _ _ HG3.out.row
      have HX := hide (HG3.out.last (.int .i64 kd) (.int .u64 bt) (.int .u64 nm) (.string bd))
      clear HG3
      go_wp2_with fail
      obtain ⟨hx, hr⟩ := HX.out
      have x0 := cell_of_row _ _ 0 _ _ _ hr
      have x1 := cell_of_row _ _ 1 _ _ _ hr
      have x2 := cell_of_row _ _ 2 _ _ _ hr
      have x3 := cell_of_row _ _ 3 _ _ _ hr
      refine bodyPost_ret (v := .tuple #[.agg #[.int .i64 kd, .int .u64 bt, .int .u64 nm, .string bd], .int .i64 ((0 : Nat) : Int)]) (by simp [results, Tryd.results14, go_sem, x0, x1, x2, x3]) rfl ⟨rfl, hx⟩
    · rw [if_pos h2] at hG
      have E2 : (((endN e2 l2 : Nat) : Int) != 0) = true := by rw [bne_iff_ne]; omega
      subst hG
      simp only [Fr.cells, zeroF]
      generalize endN e2 l2 = en at E2 HEn ⊢
      clear h2
      go_enter Tryd.func14, Tryd.ntmps14
      go_wp2_with fail
      refine HO.out.mono ?_
      rintro e w1 ⟨B, d, rfl, hC, hR, hB⟩
      have HG1 := hide (HG0.out.step HG0.out.lt hB)
      have HR1 := hide (HRv.out B d w1 hR hC)
      clear hR hB hC HO HRv HG0
      go_wp2_with fail
      refine HR1.out.mono ?_
      rintro e w2 ⟨⟨b, rfl, hI, hb⟩, hB⟩
      have HG2 := hide (HG1.out.step HG1.out.lt hB)
      have HR2 := hide (HRead.out b w2 hI)
      have HBb := hide (Nat.lt_of_lt_of_le HG1.out.lt hb)
      clear hI hB hb HR1 HRead HG1
      go_wp2_with fail
      refine HR2.out.mono ?_
      rintro e w3 ⟨rfl, hI, hg, hB⟩
      have hA := (Below.refl w3.heap.size w3).alloc (Nat.le_refl _) (Obj.cells #[.int .i64 kd, .int .u64 bt, .int .u64 nm, .string bd] 26)
      have hg3 := HG2.out.step HBb.out hB
      have HG3 := hide (hg3.step hg3.lt hA)
      have HR3 := hide (HEn.out b _ (hI.keep (hA.mono hI.lt)))
      have hrf := World.alloc_heap_new w3 (Obj.cells #[.int .i64 kd, .int .u64 bt, .int .u64 nm, .string bd] 26)
      have f0 := cell_of_row _ _ 0 _ _ _ hrf
      have f1 := cell_of_row _ _ 1 _ _ _ hrf
      have f2 := cell_of_row _ _ 2 _ _ _ hrf
      have f3 := cell_of_row _ _ 3 _ _ _ hrf
      clear hI hB hg HR2 HEn HG2 hA hg3 hrf
      go_wp2_with fail
      refine HR3.out.mono ?_
      rintro e w4 ⟨rfl, hw4⟩
      rw [← hw4] at HG3 f0 f1 f2 f3
      clear hw4
      have g0 : w4.frozen? ⟨w.heap.size, 0, none⟩ = false := frozen_of_row _ _ _ _ _ HG3.out.row
      have q0 : w4.cell? ⟨w.heap.size, 0, none⟩ = some (.int .i64 0) := cell_of_row _ _ _ _ _ _ HG3.out.row
      have g1 : w4.frozen? ⟨w.heap.size, 1, none⟩ = false := frozen_of_row _ _ _ _ _ HG3.out.row
      have q1 : w4.cell? ⟨w.heap.size, 1, none⟩ = some (.int .u64 0) := cell_of_row _ _ _ _ _ _ HG3.out.row
      have g2 : w4.frozen? ⟨w.heap.size, 2, none⟩ = false := frozen_of_row _ _ _ _ _ HG3.out.row
      have q2 : w4.cell? ⟨w.heap.size, 2, none⟩ = some (.int .u64 0) := cell_of_row _ _ _ _ _ _ HG3.out.row
      have g3 : w4.frozen? ⟨w.heap.size, 3, none⟩ = false := frozen_of_row _ _ _ _ _ HG3.out.row
      have q3 : w4.cell? ⟨w.heap.size, 3, none⟩ = some (.string ⟨#[]⟩) := cell_of_row _ _ _ _ _ _ HG3.out.row
      have HX := hide (HG3.out.last (.int .i64 0) (.int .u64 0) (.int .u64 0) (.string ⟨#[]⟩))
      clear HG3
      go_wp2_with fail
      obtain ⟨hx, hr⟩ := HX.out
      have x0 := cell_of_row _ _ 0 _ _ _ hr
      have x1 := cell_of_row _ _ 1 _ _ _ hr
      have x2 := cell_of_row _ _ 2 _ _ _ hr
      have x3 := cell_of_row _ _ 3 _ _ _ hr
      refine bodyPost_ret (v := .tuple #[.agg #[.int .i64 0, .int .u64 0, .int .u64 0, .string ⟨#[]⟩], .int .i64 (en : Nat)]) (by simp [results, Tryd.results14, go_sem, x0, x1, x2, x3]) rfl ⟨rfl, hx⟩
  · rw [if_pos he] at hG
    have E1 : ((er : Int) != 0) = true := by rw [bne_iff_ne]; omega
    subst hG
    simp only [Fr.cells, zeroF]
    unfold Opened at HO
    generalize m.length = mn at HO
    clear he hol
    go_enter Tryd.func14, Tryd.ntmps14
    go_wp2_with fail
    refine HO.out.mono ?_
    rintro e w1 ⟨B, d, rfl, hC, hR, hB⟩
    have HG1 := hide (HG0.out.step HG0.out.lt hB)
    clear hR hB hC HO HG0
    have g0 : w1.frozen? ⟨w.heap.size, 0, none⟩ = false := frozen_of_row _ _ _ _ _ HG1.out.row
    have q0 : w1.cell? ⟨w.heap.size, 0, none⟩ = some (.int .i64 0) := cell_of_row _ _ _ _ _ _ HG1.out.row
    have g1 : w1.frozen? ⟨w.heap.size, 1, none⟩ = false := frozen_of_row _ _ _ _ _ HG1.out.row
    have q1 : w1.cell? ⟨w.heap.size, 1, none⟩ = some (.int .u64 0) := cell_of_row _ _ _ _ _ _ HG1.out.row
    have g2 : w1.frozen? ⟨w.heap.size, 2, none⟩ = false := frozen_of_row _ _ _ _ _ HG1.out.row
    have q2 : w1.cell? ⟨w.heap.size, 2, none⟩ = some (.int .u64 0) := cell_of_row _ _ _ _ _ _ HG1.out.row
    have g3 : w1.frozen? ⟨w.heap.size, 3, none⟩ = false := frozen_of_row _ _ _ _ _ HG1.out.row
    have q3 : w1.cell? ⟨w.heap.size, 3, none⟩ = some (.string ⟨#[]⟩) := cell_of_row _ _ _ _ _ _ HG1.out.row
    have HX := hide (HG1.out.last (.int .i64 0) (.int .u64 0) (.int .u64 0) (.string ⟨#[]⟩))
    clear HG1
    go_wp2_with fail
    obtain ⟨hx, hr⟩ := HX.out
    have x0 := cell_of_row _ _ 0 _ _ _ hr
    have x1 := cell_of_row _ _ 1 _ _ _ hr
    have x2 := cell_of_row _ _ 2 _ _ _ hr
    have x3 := cell_of_row _ _ 3 _ _ _ hr
    refine bodyPost_ret (v := .tuple #[.agg #[.int .i64 0, .int .u64 0, .int .u64 0, .string ⟨#[]⟩], .int .i64 (er : Nat)]) (by simp [results, Tryd.results14, go_sem, x0, x1, x2, x3]) rfl ⟨rfl, hx⟩
end Go.Proofs.YtlbhgebjmekclaaDoor
