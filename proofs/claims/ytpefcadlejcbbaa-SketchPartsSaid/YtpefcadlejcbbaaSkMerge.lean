/-
  sketch.Merge.
-/
import Derived.Test.YtpefcadlejcbbaaSkMath
import Derived.StillTailTactics
namespace Go.Proofs.Ytpefcadlejcbbaa
open Go.RowKit
set_option maxRecDepth 100000

theorem len8 (l : List Nat) (h : l.length = 8) : ∃ m0 m1 m2 m3 m4 m5 m6 m7, l = [m0, m1, m2, m3, m4, m5, m6, m7] := by
  match l, h with
  | [m0, m1, m2, m3, m4, m5, m6, m7], _ => exact ⟨m0, m1, m2, m3, m4, m5, m6, m7, rfl⟩
theorem store8 (w wr : World) (b : Nat) (x0 x1 x2 x3 x4 x5 x6 x7 m0 m1 m2 m3 m4 m5 m6 m7 : Nat) (t : TypeId) (hb : w.heap.size ≤ b) (r : wr.heap[b]? = some (.cells (U [x0, x1, x2, x3, x4, x5, x6, x7]) t (0, 0))) (hB : Below w.heap.size w wr) :
    ((((((((wr.setCell ⟨b, 0, none⟩ (.int .u64 (m0 : Nat))).setCell ⟨b, 1, none⟩ (.int .u64 (m1 : Nat))).setCell ⟨b, 2, none⟩ (.int .u64 (m2 : Nat))).setCell ⟨b, 3, none⟩ (.int .u64 (m3 : Nat))).setCell ⟨b, 4, none⟩ (.int .u64 (m4 : Nat))).setCell ⟨b, 5, none⟩ (.int .u64 (m5 : Nat))).setCell ⟨b, 6, none⟩ (.int .u64 (m6 : Nat))).setCell ⟨b, 7, none⟩ (.int .u64 (m7 : Nat))).heap[b]? = some (.cells (U [m0, m1, m2, m3, m4, m5, m6, m7]) t (0, 0)) ∧ Below w.heap.size w ((((((((wr.setCell ⟨b, 0, none⟩ (.int .u64 (m0 : Nat))).setCell ⟨b, 1, none⟩ (.int .u64 (m1 : Nat))).setCell ⟨b, 2, none⟩ (.int .u64 (m2 : Nat))).setCell ⟨b, 3, none⟩ (.int .u64 (m3 : Nat))).setCell ⟨b, 4, none⟩ (.int .u64 (m4 : Nat))).setCell ⟨b, 5, none⟩ (.int .u64 (m5 : Nat))).setCell ⟨b, 6, none⟩ (.int .u64 (m6 : Nat))).setCell ⟨b, 7, none⟩ (.int .u64 (m7 : Nat))) := by
  have h0 := heap_setCell_same _ b 0 _ _ (.int .u64 (m0 : Nat)) r
  rw [U_set] at h0
  simp only [List.set_cons_zero] at h0
  have h1 := heap_setCell_same _ b 1 _ _ (.int .u64 (m1 : Nat)) h0
  rw [U_set] at h1
  simp only [List.set_cons_zero, List.set_cons_succ] at h1
  have h2 := heap_setCell_same _ b 2 _ _ (.int .u64 (m2 : Nat)) h1
  rw [U_set] at h2
  simp only [List.set_cons_zero, List.set_cons_succ] at h2
  have h3 := heap_setCell_same _ b 3 _ _ (.int .u64 (m3 : Nat)) h2
  rw [U_set] at h3
  simp only [List.set_cons_zero, List.set_cons_succ] at h3
  have h4 := heap_setCell_same _ b 4 _ _ (.int .u64 (m4 : Nat)) h3
  rw [U_set] at h4
  simp only [List.set_cons_zero, List.set_cons_succ] at h4
  have h5 := heap_setCell_same _ b 5 _ _ (.int .u64 (m5 : Nat)) h4
  rw [U_set] at h5
  simp only [List.set_cons_zero, List.set_cons_succ] at h5
  have h6 := heap_setCell_same _ b 6 _ _ (.int .u64 (m6 : Nat)) h5
  rw [U_set] at h6
  simp only [List.set_cons_zero, List.set_cons_succ] at h6
  have h7 := heap_setCell_same _ b 7 _ _ (.int .u64 (m7 : Nat)) h6
  rw [U_set] at h7
  simp only [List.set_cons_zero, List.set_cons_succ] at h7
  exact ⟨h7, ((((((((hB.setCell (p := ⟨b, 0, none⟩) hb (.int .u64 (m0 : Nat))).setCell (p := ⟨b, 1, none⟩) hb (.int .u64 (m1 : Nat))).setCell (p := ⟨b, 2, none⟩) hb (.int .u64 (m2 : Nat))).setCell (p := ⟨b, 3, none⟩) hb (.int .u64 (m3 : Nat))).setCell (p := ⟨b, 4, none⟩) hb (.int .u64 (m4 : Nat))).setCell (p := ⟨b, 5, none⟩) hb (.int .u64 (m5 : Nat))).setCell (p := ⟨b, 6, none⟩) hb (.int .u64 (m6 : Nat))).setCell (p := ⟨b, 7, none⟩) hb (.int .u64 (m7 : Nat)))⟩
theorem index8 (g k : Nat) (hk : k < 8) (W : World) : (Instr.indexAt 30 (.pointer (some ⟨g, 0, none⟩)) (.int .i64 k)).run Try.prog W = .ok (.pointer (some ⟨g, k, none⟩)) W := by
  simp [Instr.indexAt, Instr.sureAddr, asIntOf, run_underlying Try.underlying30, go_sem]
  omega
theorem three_rows (w : World) (X Y Z : Array Value) (t : TypeId) : (((w.alloc (.cells X t)).alloc (.cells Y t)).alloc (.cells Z t)).heap[w.heap.size]? = some (.cells X t (0, 0)) ∧ (((w.alloc (.cells X t)).alloc (.cells Y t)).alloc (.cells Z t)).heap[w.heap.size + 1]? = some (.cells Y t (0, 0)) ∧ (((w.alloc (.cells X t)).alloc (.cells Y t)).alloc (.cells Z t)).heap[w.heap.size + 2]? = some (.cells Z t (0, 0)) ∧ Below w.heap.size w (((w.alloc (.cells X t)).alloc (.cells Y t)).alloc (.cells Z t)) := by
  obtain ⟨r0, r1, hB⟩ := two_rows w X Y t t
  refine ⟨?_, ?_, ?_, hB.alloc hB.size _⟩
  · rw [Below.heap_alloc _ _ _ (by simp; omega)]; exact r0
  · rw [Below.heap_alloc _ _ _ (by simp)]; exact r1
  · have h := World.alloc_heap_new ((w.alloc (.cells X t)).alloc (.cells Y t)) (Obj.cells Z t)
    simp only [World.size_alloc] at h
    exact h

set_option maxHeartbeats 4000000 in
theorem merge_any (a b : List Nat) (w : World) (ha : a.length = 8) (hb : b.length = 8) :
    Calls Try.prog 13 #[.agg (U a), .agg (U b)] w fun e w' => e = .returned (.agg (U (lessL a b))) ∧ Below w.heap.size w w' := by
  obtain ⟨r0, r1, r2, hB⟩ := three_rows w (U a) (U b) #[.int .u64 0, .int .u64 0, .int .u64 0, .int .u64 0, .int .u64 0, .int .u64 0, .int .u64 0, .int .u64 0] 30
  have hz : (((w.alloc (.cells (U a) 30)).alloc (.cells (U b) 30)).alloc (.cells #[.int .u64 0, .int .u64 0, .int .u64 0, .int .u64 0, .int .u64 0, .int .u64 0, .int .u64 0, .int .u64 0] 30)).heap.size = w.heap.size + 3 := by simp
  go_enter Try.func13, Try.ntmps13
  go_wp2_with fail
  generalize (((w.alloc (.cells (U a) 30)).alloc (.cells (U b) 30)).alloc (.cells #[.int .u64 0, .int .u64 0, .int .u64 0, .int .u64 0, .int .u64 0, .int .u64 0, .int .u64 0, .int .u64 0] 30)) = w2 at r0 r1 r2 hB hz ⊢
  go_loopw [5, 6] (fun _ i wr => ∃ k : Nat, k ≤ 8 ∧ i = .int .i64 k ∧ wr.heap[w.heap.size]? = some (.cells (U (lessTo a b k)) 30 (0, 0)) ∧ wr.heap[w.heap.size + 1]? = some (.cells (U b) 30 (0, 0)) ∧ wr.heap[w.heap.size + 2]? = some (.cells #[.int .u64 0, .int .u64 0, .int .u64 0, .int .u64 0, .int .u64 0, .int .u64 0, .int .u64 0, .int .u64 0] 30 (0, 0)) ∧ Below w.heap.size w wr) (fun _ i _ => 8 - (intOf i).toNat)
  case atStart => exact ⟨0, by decide, rfl, by rw [lessTo_zero]; exact r0, r1, r2, hB⟩
  case round =>
    clear r0 r1 r2 hB hz
    obtain ⟨k, hk, rfl, r0, r1, r2, hB⟩ := hrel
    by_cases hlt : (k : Int) < 8
    · have hk8 : k < 8 := by omega
      obtain ⟨x, hx⟩ : ∃ x, a[k]? = some x := ⟨_, List.getElem?_eq_getElem (by omega)⟩
      obtain ⟨y, hy⟩ : ∃ y, b[k]? = some y := ⟨_, List.getElem?_eq_getElem (by omega)⟩
      have i0 := index8 w.heap.size k hk8
      have i1 := index8 (w.heap.size + 1) k hk8
      have cx : wr.cell? ⟨w.heap.size, k, none⟩ = some (.int .u64 x) := (cell_of_row _ _ _ _ _ _ r0).trans (U_at _ _ _ (by rw [lessTo_at a b k (by omega) (by omega), hx]))
      have cy : wr.cell? ⟨w.heap.size + 1, k, none⟩ = some (.int .u64 y) := (cell_of_row _ _ _ _ _ _ r1).trans (U_at _ _ _ hy)
      have zx : wr.frozen? ⟨w.heap.size, k, none⟩ = false := frozen_of_row _ _ _ _ _ r0
      obtain ⟨m, hm⟩ : ∃ m, m = min x y := ⟨_, rfl⟩
      have hmi : (if y < x then (y : Int) else (x : Int)) = (m : Int) := by split <;> omega
      have HR := hide (lessTo_set a b k x y (by omega) hx hy)
      rw [← hm] at HR
      have HK := hide (And.intro r0 (And.intro r1 (And.intro r2 hB)))
      clear r0 r1 r2 hB hx hy hm
      go_wp2_with fail
      go_still_tail 9, (by kernel_rfl)
      change wpList _ _ _ _ _ wr.drew
      obtain ⟨r0, r1, r2, hB⟩ := HK.out
      have s0 := heap_setCell_same wr.drew w.heap.size k _ _ (.int .u64 (m : Nat)) r0
      rw [U_set, HR.out] at s0
      have s1 : (wr.drew.setCell ⟨w.heap.size, k, none⟩ (.int .u64 (m : Nat))).heap[w.heap.size + 1]? = _ := (heap_setCell_other wr.drew _ _ _ (by simp)).trans r1
      have s2 : (wr.drew.setCell ⟨w.heap.size, k, none⟩ (.int .u64 (m : Nat))).heap[w.heap.size + 2]? = _ := (heap_setCell_other wr.drew _ _ _ (by simp)).trans r2
      have hB2 : Below w.heap.size w wr.drew := ⟨hB.os, hB.tape, hB.output, hB.size, hB.block⟩
      have hB3 := hB2.setCell (p := ⟨w.heap.size, k, none⟩) (Nat.le_refl _) (.int .u64 (m : Nat))
      have HS := hide (And.intro s0 (And.intro s1 (And.intro s2 hB3)))
      have zd : wr.drew.frozen? ⟨w.heap.size, k, none⟩ = false := zx
      have cd : wr.drew.cell? ⟨w.heap.size, k, none⟩ = some (.int .u64 x) := cx
      clear r0 r1 r2 hB HK s0 s1 s2 hB2 hB3 zx cx cy HR
      generalize wr.drew = w5 at HS zd cd ⊢
      go_wp2_with fail
      go_roundw
      case rel => exact ⟨k + 1, hk8, rfl, HS.out.1, HS.out.2.1, HS.out.2.2.1, HS.out.2.2.2⟩
      case measure => simp [intOf]; omega
    · obtain rfl : k = 8 := by omega
      have hall : lessTo a b 8 = lessL a b := by rw [← ha]; exact lessTo_all a b (by omega)
      rw [hall] at r0
      obtain ⟨m0, m1, m2, m3, m4, m5, m6, m7, hm⟩ := len8 (lessL a b) (by rw [lessL_len a b (by omega), ha])
      rw [hm] at r0
      have HM := hide hm
      have r2 : wr.heap[w.heap.size + 1 + 1]? = some (.cells (U [0, 0, 0, 0, 0, 0, 0, 0]) 30 (0, 0)) := r2
      have c0 : wr.cell? ⟨w.heap.size, 0, none⟩ = some (.int .u64 (m0 : Nat)) := (cell_of_row _ _ _ _ _ _ r0).trans (U_at _ _ _ rfl)
      have d0 : wr.cell? ⟨w.heap.size + 1 + 1, 0, none⟩ = some (.int .u64 (0 : Nat)) := (cell_of_row _ _ _ _ _ _ r2).trans (U_at _ _ _ rfl)
      have z0 : wr.frozen? ⟨w.heap.size + 1 + 1, 0, none⟩ = false := frozen_of_row _ _ _ _ _ r2
      have c1 : wr.cell? ⟨w.heap.size, 1, none⟩ = some (.int .u64 (m1 : Nat)) := (cell_of_row _ _ _ _ _ _ r0).trans (U_at _ _ _ rfl)
      have d1 : wr.cell? ⟨w.heap.size + 1 + 1, 1, none⟩ = some (.int .u64 (0 : Nat)) := (cell_of_row _ _ _ _ _ _ r2).trans (U_at _ _ _ rfl)
      have z1 : wr.frozen? ⟨w.heap.size + 1 + 1, 1, none⟩ = false := frozen_of_row _ _ _ _ _ r2
      have c2 : wr.cell? ⟨w.heap.size, 2, none⟩ = some (.int .u64 (m2 : Nat)) := (cell_of_row _ _ _ _ _ _ r0).trans (U_at _ _ _ rfl)
      have d2 : wr.cell? ⟨w.heap.size + 1 + 1, 2, none⟩ = some (.int .u64 (0 : Nat)) := (cell_of_row _ _ _ _ _ _ r2).trans (U_at _ _ _ rfl)
      have z2 : wr.frozen? ⟨w.heap.size + 1 + 1, 2, none⟩ = false := frozen_of_row _ _ _ _ _ r2
      have c3 : wr.cell? ⟨w.heap.size, 3, none⟩ = some (.int .u64 (m3 : Nat)) := (cell_of_row _ _ _ _ _ _ r0).trans (U_at _ _ _ rfl)
      have d3 : wr.cell? ⟨w.heap.size + 1 + 1, 3, none⟩ = some (.int .u64 (0 : Nat)) := (cell_of_row _ _ _ _ _ _ r2).trans (U_at _ _ _ rfl)
      have z3 : wr.frozen? ⟨w.heap.size + 1 + 1, 3, none⟩ = false := frozen_of_row _ _ _ _ _ r2
      have c4 : wr.cell? ⟨w.heap.size, 4, none⟩ = some (.int .u64 (m4 : Nat)) := (cell_of_row _ _ _ _ _ _ r0).trans (U_at _ _ _ rfl)
      have d4 : wr.cell? ⟨w.heap.size + 1 + 1, 4, none⟩ = some (.int .u64 (0 : Nat)) := (cell_of_row _ _ _ _ _ _ r2).trans (U_at _ _ _ rfl)
      have z4 : wr.frozen? ⟨w.heap.size + 1 + 1, 4, none⟩ = false := frozen_of_row _ _ _ _ _ r2
      have c5 : wr.cell? ⟨w.heap.size, 5, none⟩ = some (.int .u64 (m5 : Nat)) := (cell_of_row _ _ _ _ _ _ r0).trans (U_at _ _ _ rfl)
      have d5 : wr.cell? ⟨w.heap.size + 1 + 1, 5, none⟩ = some (.int .u64 (0 : Nat)) := (cell_of_row _ _ _ _ _ _ r2).trans (U_at _ _ _ rfl)
      have z5 : wr.frozen? ⟨w.heap.size + 1 + 1, 5, none⟩ = false := frozen_of_row _ _ _ _ _ r2
      have c6 : wr.cell? ⟨w.heap.size, 6, none⟩ = some (.int .u64 (m6 : Nat)) := (cell_of_row _ _ _ _ _ _ r0).trans (U_at _ _ _ rfl)
      have d6 : wr.cell? ⟨w.heap.size + 1 + 1, 6, none⟩ = some (.int .u64 (0 : Nat)) := (cell_of_row _ _ _ _ _ _ r2).trans (U_at _ _ _ rfl)
      have z6 : wr.frozen? ⟨w.heap.size + 1 + 1, 6, none⟩ = false := frozen_of_row _ _ _ _ _ r2
      have c7 : wr.cell? ⟨w.heap.size, 7, none⟩ = some (.int .u64 (m7 : Nat)) := (cell_of_row _ _ _ _ _ _ r0).trans (U_at _ _ _ rfl)
      have d7 : wr.cell? ⟨w.heap.size + 1 + 1, 7, none⟩ = some (.int .u64 (0 : Nat)) := (cell_of_row _ _ _ _ _ _ r2).trans (U_at _ _ _ rfl)
      have z7 : wr.frozen? ⟨w.heap.size + 1 + 1, 7, none⟩ = false := frozen_of_row _ _ _ _ _ r2
      have HX := hide (store8 w wr (w.heap.size + 1 + 1) 0 0 0 0 0 0 0 0 m0 m1 m2 m3 m4 m5 m6 m7 _ (by omega) r2 hB)
      clear r0 r1 r2 hB hall hm
      go_wp2_with fail
      obtain ⟨hf, hBf⟩ := HX.out
      generalize ((((((((wr.setCell ⟨w.heap.size + 1 + 1, 0, none⟩ (.int .u64 (m0 : Nat))).setCell ⟨w.heap.size + 1 + 1, 1, none⟩ (.int .u64 (m1 : Nat))).setCell ⟨w.heap.size + 1 + 1, 2, none⟩ (.int .u64 (m2 : Nat))).setCell ⟨w.heap.size + 1 + 1, 3, none⟩ (.int .u64 (m3 : Nat))).setCell ⟨w.heap.size + 1 + 1, 4, none⟩ (.int .u64 (m4 : Nat))).setCell ⟨w.heap.size + 1 + 1, 5, none⟩ (.int .u64 (m5 : Nat))).setCell ⟨w.heap.size + 1 + 1, 6, none⟩ (.int .u64 (m6 : Nat))).setCell ⟨w.heap.size + 1 + 1, 7, none⟩ (.int .u64 (m7 : Nat))) = W9 at hf hBf ⊢
      have y0 : W9.cell? ⟨w.heap.size + 1 + 1, 0, none⟩ = some (.int .u64 (m0 : Nat)) := (cell_of_row _ _ _ _ _ _ hf).trans (U_at _ _ _ rfl)
      have y1 : W9.cell? ⟨w.heap.size + 1 + 1, 1, none⟩ = some (.int .u64 (m1 : Nat)) := (cell_of_row _ _ _ _ _ _ hf).trans (U_at _ _ _ rfl)
      have y2 : W9.cell? ⟨w.heap.size + 1 + 1, 2, none⟩ = some (.int .u64 (m2 : Nat)) := (cell_of_row _ _ _ _ _ _ hf).trans (U_at _ _ _ rfl)
      have y3 : W9.cell? ⟨w.heap.size + 1 + 1, 3, none⟩ = some (.int .u64 (m3 : Nat)) := (cell_of_row _ _ _ _ _ _ hf).trans (U_at _ _ _ rfl)
      have y4 : W9.cell? ⟨w.heap.size + 1 + 1, 4, none⟩ = some (.int .u64 (m4 : Nat)) := (cell_of_row _ _ _ _ _ _ hf).trans (U_at _ _ _ rfl)
      have y5 : W9.cell? ⟨w.heap.size + 1 + 1, 5, none⟩ = some (.int .u64 (m5 : Nat)) := (cell_of_row _ _ _ _ _ _ hf).trans (U_at _ _ _ rfl)
      have y6 : W9.cell? ⟨w.heap.size + 1 + 1, 6, none⟩ = some (.int .u64 (m6 : Nat)) := (cell_of_row _ _ _ _ _ _ hf).trans (U_at _ _ _ rfl)
      have y7 : W9.cell? ⟨w.heap.size + 1 + 1, 7, none⟩ = some (.int .u64 (m7 : Nat)) := (cell_of_row _ _ _ _ _ _ hf).trans (U_at _ _ _ rfl)
      refine bodyPost_ret (v := .agg #[.int .u64 (m0 : Nat), .int .u64 (m1 : Nat), .int .u64 (m2 : Nat), .int .u64 (m3 : Nat), .int .u64 (m4 : Nat), .int .u64 (m5 : Nat), .int .u64 (m6 : Nat), .int .u64 (m7 : Nat)]) (by simp [results, Try.results13, go_sem, y0, y1, y2, y3, y4, y5, y6, y7]) rfl ⟨by rw [HM.out]; rfl, hBf⟩
end Go.Proofs.Ytpefcadlejcbbaa
