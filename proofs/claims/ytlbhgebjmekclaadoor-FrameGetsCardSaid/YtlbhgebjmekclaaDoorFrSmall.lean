/-
  The law's to, is and awake.
-/
import Derived.Test.YtlbhgebjmekclaaDoorFrGet
import Derived.Test.YtlbhgebjmekclaaDoorVintBackNT
import Derived.Lib.UnsafeStr
namespace Go.Proofs.YtlbhgebjmekclaaDoor
open Go.RowKit
set_option maxRecDepth 100000

theorem ofL_back (s : ByteArray) : ofL (toL s) = s := toL_inj rfl
theorem two_rows (w : World) (a b : Array Value) (ta tb : TypeId) : ((w.alloc (.cells a ta)).alloc (.cells b tb)).heap[w.heap.size]? = some (.cells a ta (0, 0)) ∧ ((w.alloc (.cells a ta)).alloc (.cells b tb)).heap[w.heap.size + 1]? = some (.cells b tb (0, 0)) ∧ Below w.heap.size w ((w.alloc (.cells a ta)).alloc (.cells b tb)) := by
  have r1 := World.alloc_heap_new (w.alloc (.cells a ta)) (Obj.cells b tb)
  rw [World.size_alloc] at r1
  refine ⟨?_, r1, ((Below.refl w.heap.size w).alloc (Nat.le_refl _) _).alloc (by simp) _⟩
  rw [Below.heap_alloc _ _ _ (by simp)]
  exact World.alloc_heap_new _ _
theorem four_sets (W : World) (n : Nat) (z0 z1 z2 z3 v0 v1 v2 v3 : Value) (t : TypeId) (h : W.heap[n]? = some (.cells #[z0, z1, z2, z3] t (0, 0))) :
    Below n W ((((W.setCell ⟨n, 0, none⟩ v0).setCell ⟨n, 1, none⟩ v1).setCell ⟨n, 2, none⟩ v2).setCell ⟨n, 3, none⟩ v3) ∧ ((((W.setCell ⟨n, 0, none⟩ v0).setCell ⟨n, 1, none⟩ v1).setCell ⟨n, 2, none⟩ v2).setCell ⟨n, 3, none⟩ v3).heap[n]? = some (.cells #[v0, v1, v2, v3] t (0, 0)) := by
  have r0 := heap_setCell_same _ _ 0 _ _ v0 h
  have r1 := heap_setCell_same _ _ 1 _ _ v1 r0
  have r2 := heap_setCell_same _ _ 2 _ _ v2 r1
  have r3 := heap_setCell_same _ _ 3 _ _ v3 r2
  have b0 := (Below.refl n W).setCell (p := ⟨n, 0, none⟩) (Nat.le_refl _) v0
  have b1 := b0.setCell (p := ⟨n, 1, none⟩) (Nat.le_refl _) v1
  have b2 := b1.setCell (p := ⟨n, 2, none⟩) (Nat.le_refl _) v2
  have b3 := b2.setCell (p := ⟨n, 3, none⟩) (Nat.le_refl _) v3
  exact ⟨b3, r3⟩

set_option maxHeartbeats 4000000 in
theorem frTo_any (f : Fr) (w : World) : Calls Tryd.prog 7 #[.agg f.cells] w fun e w' => e = .returned (.agg f.cells) ∧ Below w.heap.size w w' := by
  obtain ⟨kd, bt, nm, bd⟩ := f
  simp only [Fr.cells]
  obtain ⟨r0, r1, hb⟩ := two_rows w #[.int .i64 kd, .int .u64 (bt : Nat), .int .u64 (nm : Nat), .string bd] #[.int .i64 0, .int .u64 0, .int .u64 0, .string ⟨#[]⟩] 24 26
  have c0 := cell_of_row _ _ 0 _ _ _ r0
  have d0 := cell_of_row _ _ 0 _ _ _ r1
  have g0 : World.frozen? _ ⟨_, 0, none⟩ = false := frozen_of_row _ _ _ _ _ r1
  have c1 := cell_of_row _ _ 1 _ _ _ r0
  have d1 := cell_of_row _ _ 1 _ _ _ r1
  have g1 : World.frozen? _ ⟨_, 1, none⟩ = false := frozen_of_row _ _ _ _ _ r1
  have c2 := cell_of_row _ _ 2 _ _ _ r0
  have d2 := cell_of_row _ _ 2 _ _ _ r1
  have g2 : World.frozen? _ ⟨_, 2, none⟩ = false := frozen_of_row _ _ _ _ _ r1
  have c3 := cell_of_row _ _ 3 _ _ _ r0
  have d3 := cell_of_row _ _ 3 _ _ _ r1
  have g3 : World.frozen? _ ⟨_, 3, none⟩ = false := frozen_of_row _ _ _ _ _ r1
  have HX := hide (two_rows w #[.int .i64 kd, .int .u64 (bt : Nat), .int .u64 (nm : Nat), .string bd] #[.int .i64 kd, .int .u64 (bt : Nat), .int .u64 (nm : Nat), .string bd] 24 26)
  clear r0 r1 hb
  go_enter Tryd.func7, Tryd.ntmps7
  go_wp2_with fail
  obtain ⟨_, hr, hx⟩ := HX.out
  have x0 := cell_of_row _ _ 0 _ _ _ hr
  have x1 := cell_of_row _ _ 1 _ _ _ hr
  have x2 := cell_of_row _ _ 2 _ _ _ hr
  have x3 := cell_of_row _ _ 3 _ _ _ hr
  refine bodyPost_ret (v := .agg #[.int .i64 kd, .int .u64 (bt : Nat), .int .u64 (nm : Nat), .string bd]) (by simp [results, Tryd.results7, go_sem, x0, x1, x2, x3]) rfl ⟨rfl, hx⟩

set_option maxHeartbeats 4000000 in
theorem frIs_same (f : Fr) (w : World) : Calls Tryd.prog 15 #[.agg f.cells, .agg f.cells] w fun e w' => e = .returned (.bool true) ∧ Below w.heap.size w w' := by
  obtain ⟨kd, bt, nm, bd⟩ := f
  simp only [Fr.cells]
  obtain ⟨r0, r1, hb⟩ := two_rows w #[.int .i64 kd, .int .u64 (bt : Nat), .int .u64 (nm : Nat), .string bd] #[.int .i64 kd, .int .u64 (bt : Nat), .int .u64 (nm : Nat), .string bd] 26 24
  have c0 := cell_of_row _ _ 0 _ _ _ r0
  have d0 := cell_of_row _ _ 0 _ _ _ r1
  have c1 := cell_of_row _ _ 1 _ _ _ r0
  have d1 := cell_of_row _ _ 1 _ _ _ r1
  have c2 := cell_of_row _ _ 2 _ _ _ r0
  have d2 := cell_of_row _ _ 2 _ _ _ r1
  have c3 := cell_of_row _ _ 3 _ _ _ r0
  have d3 := cell_of_row _ _ 3 _ _ _ r1
  have HB := hide hb
  clear r0 r1 hb
  go_enter Tryd.func15, Tryd.ntmps15
  go_wp2_with fail
  exact bodyPost_ret (results_tmp rfl _ _ _) rfl ⟨by simp, HB.out⟩

theorem zero_bytes : sealL (bytesF zeroF) = [0, 0, 0, 0, 28, 223, 68, 33] := by decide +kernel
set_option maxHeartbeats 4000000 in
theorem frAwake_any (w : World) (hT : Table w) : Calls Tryd.prog 6 #[] w fun e w' => e = .returned (.bool true) ∧ Below w.heap.size w w' := by
  have HP := hide (show Calls Tryd.prog 8 #[.agg #[.int .i64 0, .int .u64 0, .int .u64 0, .string ⟨#[]⟩]] w (Bytes w [0, 0, 0, 0, 28, 223, 68, 33]) from by
    have h := frPut_any zeroF w hT ⟨by decide, by decide⟩ (by decide) (by decide)
    rw [zero_bytes] at h
    exact h)
  unfold Bytes at HP
  clear hT
  go_enter Tryd.func6, Tryd.ntmps6
  go_wp2_with fail
  refine HP.out.mono ?_
  rintro e w4 ⟨A, c, rfl, hC, hR, hB⟩
  have hcv := conv_any hR c
  rw [show ([0, 0, 0, 0, 28, 223, 68, 33] : List UInt8).length = 8 from rfl] at hcv ⊢
  rw [show ofL [0, 0, 0, 0, 28, 223, 68, 33] = ⟨#[0, 0, 0, 0, 28, 223, 68, 33]⟩ from by decide +kernel] at hcv
  have HB := hide hB
  clear HP hC hR hB
  go_wp2_with fail
  exact bodyPost_ret (results_tmp rfl _ _ _) rfl ⟨rfl, HB.out⟩

/-- What was put is read as it was. -/
theorem getF_back (f : Fr) (hf : f.fits) (hr : rightF f = true) (hs : f.body.size ≤ 1000) : getF (sealL (bytesF f)) = (f, 0) := by
  obtain ⟨kd, bt, nm, bd⟩ := f
  obtain ⟨f1, f2⟩ := hf
  simp only at f1 f2 hs
  have hk : 0 ≤ kd ∧ kd ≤ 255 := by
    unfold rightF at hr
    simp only [Bool.and_eq_true, decide_eq_true_eq] at hr
    exact ⟨hr.1, hr.2.1⟩
  obtain ⟨K, rfl⟩ : ∃ K : Nat, kd = (K : Int) := ⟨kd.toNat, by omega⟩
  have hO : openL (sealL (bytesF ⟨(K : Int), bt, nm, bd⟩)) = (bytesF ⟨(K : Int), bt, nm, bd⟩, 0) := by
    generalize bytesF ⟨(K : Int), bt, nm, bd⟩ = l
    have hl : (sealL l).length = l.length + 4 := by unfold sealL; rw [List.length_append, le4_len]
    have ht : (sealL l).take ((sealL l).length - 4) = l := by rw [hl, Nat.add_sub_cancel]; unfold sealL; rw [List.take_left]
    unfold openL
    rw [if_neg (by omega), ht, if_pos rfl]
  have hR : readF (bytesF ⟨(K : Int), bt, nm, bd⟩) = (⟨(K : Int), bt, nm, bd⟩, [], 0) := by
    have e : bytesF ⟨(K : Int), bt, nm, bd⟩ = groupsL K ++ (groupsL bt ++ (groupsL nm ++ ((groupsL bd.size ++ toL bd) ++ []))) := by
      unfold bytesF numsL
      simp
    rw [e]
    unfold readF
    rw [readN_back K 255 _ (by omega) (by omega)]
    unfold rd0
    simp only
    rw [readN_back bt _ _ (by omega) (by omega)]
    unfold rd1
    simp only
    rw [readN_back nm _ _ (by omega) (by omega)]
    unfold rd2
    simp only
    rw [readT_back bd _ _ (by omega) (by omega)]
    unfold rd3
    simp only
    rw [ofL_back bd]
  unfold getF
  rw [hO, if_neg (by simp)]
  simp only
  rw [hR]
  unfold wholeF endN
  simp
end Go.Proofs.YtlbhgebjmekclaaDoor
