/-
  The reference's Of, from what its Shingles tells.
-/
import Derived.Test.YtpefcadlejcbbaaSkLeast
namespace Go.Proofs.Ytpefcadlejcbbaa
open Go.RowKit
set_option maxRecDepth 100000

/-- The first k numbers of words. -/
def leastTo (ws : List Nat) (k : Nat) : List Nat := (List.range 8).map fun i => if i < k then leastL ws i else 0
/-- The numbers of words. -/
def sketchL (ws : List Nat) : List Nat := (List.range 8).map (leastL ws)
theorem leastTo_set (v : List Nat) (k : Nat) : (leastTo v k).set k (leastL v k) = leastTo v (k + 1) := by
  apply List.ext_getElem?
  intro i
  unfold leastTo
  rw [List.getElem?_set]
  by_cases h : k = i
  · subst h
    by_cases h8 : k < 8
    · simp [h8]
    · simp [h8]
  · rw [if_neg h, List.getElem?_map, List.getElem?_map]
    by_cases hi : i < 8
    · rw [List.getElem?_range hi, Option.map_some, Option.map_some]
      by_cases hik : i < k
      · rw [if_pos hik, if_pos (by omega)]
      · rw [if_neg hik, if_neg (by omega)]
    · rw [List.getElem?_eq_none (by simp; omega)]; rfl
theorem leastTo_at (v : List Nat) (k : Nat) (h : k < 8) : (leastTo v k)[k]? = some 0 := by
  unfold leastTo
  rw [List.getElem?_map, List.getElem?_range h, Option.map_some, if_neg (Nat.lt_irrefl k)]
theorem leastTo_all (v : List Nat) : leastTo v 8 = sketchL v := by
  unfold leastTo sketchL
  apply List.map_congr_left
  intro i hi
  rw [if_pos (List.mem_range.1 hi)]

theorem rdw_set {w : World} {A : Option Addr} {l : List Nat} (h : RdW w w.heap.size A l) (n k : Nat) (hA : ∀ ad : Addr, A = some ad → n < ad.block) (v : Value) : RdW (w.setCell ⟨n, k, none⟩ v) (w.setCell ⟨n, k, none⟩ v).heap.size A l := fun i x hx => by
  obtain ⟨ad, e, hb, hc⟩ := h i x hx
  have hne := hA ad e
  refine ⟨ad, e, by simpa using hb, ?_⟩
  have hno : (⟨n, k, none⟩ : Addr) ≠ ad.add i := fun h => by
    have h2 := congrArg Addr.block h
    rw [add_block] at h2
    simp only at h2
    omega
  exact (World.cell?_setCell_other (h := hno) ..).trans hc
set_option maxHeartbeats 4000000 in
theorem refSketch_any (v : List Nat) (l : List UInt8) (w : World) (hw : ∀ x ∈ v, x < 18446744073709551616) (hl : v.length ≤ 1000000)
    (HSh : ∀ W : World, Calls Try.prog 10 #[.string (ofL l)] W fun e w' => ∃ A c, e = .returned (.slice A v.length c) ∧ RdW w' w'.heap.size A v ∧ (∀ ad, A = some ad → W.heap.size ≤ ad.block) ∧ Below W.heap.size W w') :
    Calls Try.prog 12 #[.string (ofL l)] w fun e w' => e = .returned (.agg (U (sketchL v))) ∧ Below w.heap.size w w' := by
  obtain ⟨r0, r1, hB⟩ := two_rows w #[.int .u64 0, .int .u64 0, .int .u64 0, .int .u64 0, .int .u64 0, .int .u64 0, .int .u64 0, .int .u64 0] #[.int .u64 0, .int .u64 0, .int .u64 0, .int .u64 0, .int .u64 0, .int .u64 0, .int .u64 0, .int .u64 0] 30 30
  have HSh := hide HSh
  generalize ofL l = sl at HSh
  go_enter Try.func12, Try.ntmps12
  go_wp2_with fail
  generalize ((w.alloc (.cells #[.int .u64 0, .int .u64 0, .int .u64 0, .int .u64 0, .int .u64 0, .int .u64 0, .int .u64 0, .int .u64 0] 30)).alloc (.cells #[.int .u64 0, .int .u64 0, .int .u64 0, .int .u64 0, .int .u64 0, .int .u64 0, .int .u64 0, .int .u64 0] 30)) = w2 at r0 r1 hB ⊢
  go_wp2_with fail
  refine (HSh.out w2).mono ?_
  rintro e w4 ⟨A, c, rfl, hR, hA2, hB4⟩
  have hsz := (Array.getElem?_eq_some_iff.1 r1).1
  have hA := fun ad h => Nat.lt_of_lt_of_le hsz (hA2 ad h)
  clear hsz hA2
  have q0 := (hB4.block _ (Array.getElem?_eq_some_iff.1 r0).1).trans r0
  have q1 := (hB4.block _ (Array.getElem?_eq_some_iff.1 r1).1).trans r1
  have hB5 := hB.trans (hB4.mono hB.size)
  have hz := hB5.size
  clear r0 r1 hB hB4 HSh
  go_wp2_with fail
  go_loopw [5] (fun i wr => ∃ k : Nat, k ≤ 8 ∧ i = .int .i64 k ∧ wr.heap[w.heap.size]? = some (.cells (U [0, 0, 0, 0, 0, 0, 0, 0]) 30 (0, 0)) ∧ wr.heap[w.heap.size + 1]? = some (.cells (U (leastTo v k)) 30 (0, 0)) ∧ Below w.heap.size w wr ∧ RdW wr wr.heap.size A v) (fun i _ => 8 - (intOf i).toNat)
  case atStart => exact ⟨0, by decide, rfl, q0, q1, hB5, hR⟩
  case round =>
    clear q0 q1 hB5 hR
    obtain ⟨k, hk, rfl, r0, r1, hB, hR⟩ := hrel
    by_cases hlt : (k : Int) < 8
    · have hk8 : k < 8 := by omega
      have HK := hide (And.intro r0 (And.intro r1 (And.intro hB hR)))
      obtain ⟨m, hm⟩ : ∃ m, m = leastL v k := ⟨_, rfl⟩
      have HM := hide (refLeast_any A v c k wr hR hw hk8 hl)
      rw [← hm] at HM
      have HT := hide (leastTo_set v k)
      rw [← hm] at HT
      clear hm hR
      have i1 := index8 (w.heap.size + 1) k hk8
      clear r0 r1 hB
      go_wp2_with fail
      refine HM.out.mono ?_
      rintro e w5 ⟨rfl, hB5⟩
      obtain ⟨r0, r1, hB, hR⟩ := HK.out
      have q0 := (hB5.block _ (Array.getElem?_eq_some_iff.1 r0).1).trans r0
      have q1 := (hB5.block _ (Array.getElem?_eq_some_iff.1 r1).1).trans r1
      have cx : w5.cell? ⟨w.heap.size + 1, k, none⟩ = some (.int .u64 (0 : Nat)) := (cell_of_row _ _ _ _ _ _ q1).trans (U_at _ _ _ (leastTo_at v k hk8))
      have zx : w5.frozen? ⟨w.heap.size + 1, k, none⟩ = false := frozen_of_row _ _ _ _ _ q1
      have s1 := heap_setCell_same w5 (w.heap.size + 1) k _ _ (.int .u64 (m : Nat)) q1
      rw [U_set, HT.out] at s1
      have s0 : (w5.setCell ⟨w.heap.size + 1, k, none⟩ (.int .u64 (m : Nat))).heap[w.heap.size]? = _ := (heap_setCell_other w5 _ _ _ (by simp)).trans q0
      have hB6 := (hB.trans (hB5.mono hB.size)).setCell (p := ⟨w.heap.size + 1, k, none⟩) (by simp) (.int .u64 (m : Nat))
      have hR6 : RdW (w5.setCell ⟨w.heap.size + 1, k, none⟩ (.int .u64 (m : Nat))) (w5.setCell ⟨w.heap.size + 1, k, none⟩ (.int .u64 (m : Nat))).heap.size A v := by
        have h5 := hR.step hB5
        exact rdw_set h5 (w.heap.size + 1) k hA _
      have HS := hide (And.intro s0 (And.intro s1 (And.intro hB6 hR6)))
      clear r0 r1 hB hR HK q0 q1 s0 s1 hB6 hB5 hR6 HT HM
      go_wp2_with fail
      go_roundw
      case rel => exact ⟨k + 1, hk8, rfl, HS.out⟩
      case measure => simp [intOf]; omega
    · obtain rfl : k = 8 := by omega
      rw [leastTo_all] at r1
      obtain ⟨m0, m1, m2, m3, m4, m5, m6, m7, hm⟩ := len8 (sketchL v) (by simp [sketchL])
      rw [hm] at r1
      have HM := hide hm
      have c0 : wr.cell? ⟨w.heap.size + 1, 0, none⟩ = some (.int .u64 (m0 : Nat)) := (cell_of_row _ _ _ _ _ _ r1).trans (U_at _ _ _ rfl)
      have d0 : wr.cell? ⟨w.heap.size, 0, none⟩ = some (.int .u64 (0 : Nat)) := (cell_of_row _ _ _ _ _ _ r0).trans (U_at _ _ _ rfl)
      have z0 : wr.frozen? ⟨w.heap.size, 0, none⟩ = false := frozen_of_row _ _ _ _ _ r0
      have c1 : wr.cell? ⟨w.heap.size + 1, 1, none⟩ = some (.int .u64 (m1 : Nat)) := (cell_of_row _ _ _ _ _ _ r1).trans (U_at _ _ _ rfl)
      have d1 : wr.cell? ⟨w.heap.size, 1, none⟩ = some (.int .u64 (0 : Nat)) := (cell_of_row _ _ _ _ _ _ r0).trans (U_at _ _ _ rfl)
      have z1 : wr.frozen? ⟨w.heap.size, 1, none⟩ = false := frozen_of_row _ _ _ _ _ r0
      have c2 : wr.cell? ⟨w.heap.size + 1, 2, none⟩ = some (.int .u64 (m2 : Nat)) := (cell_of_row _ _ _ _ _ _ r1).trans (U_at _ _ _ rfl)
      have d2 : wr.cell? ⟨w.heap.size, 2, none⟩ = some (.int .u64 (0 : Nat)) := (cell_of_row _ _ _ _ _ _ r0).trans (U_at _ _ _ rfl)
      have z2 : wr.frozen? ⟨w.heap.size, 2, none⟩ = false := frozen_of_row _ _ _ _ _ r0
      have c3 : wr.cell? ⟨w.heap.size + 1, 3, none⟩ = some (.int .u64 (m3 : Nat)) := (cell_of_row _ _ _ _ _ _ r1).trans (U_at _ _ _ rfl)
      have d3 : wr.cell? ⟨w.heap.size, 3, none⟩ = some (.int .u64 (0 : Nat)) := (cell_of_row _ _ _ _ _ _ r0).trans (U_at _ _ _ rfl)
      have z3 : wr.frozen? ⟨w.heap.size, 3, none⟩ = false := frozen_of_row _ _ _ _ _ r0
      have c4 : wr.cell? ⟨w.heap.size + 1, 4, none⟩ = some (.int .u64 (m4 : Nat)) := (cell_of_row _ _ _ _ _ _ r1).trans (U_at _ _ _ rfl)
      have d4 : wr.cell? ⟨w.heap.size, 4, none⟩ = some (.int .u64 (0 : Nat)) := (cell_of_row _ _ _ _ _ _ r0).trans (U_at _ _ _ rfl)
      have z4 : wr.frozen? ⟨w.heap.size, 4, none⟩ = false := frozen_of_row _ _ _ _ _ r0
      have c5 : wr.cell? ⟨w.heap.size + 1, 5, none⟩ = some (.int .u64 (m5 : Nat)) := (cell_of_row _ _ _ _ _ _ r1).trans (U_at _ _ _ rfl)
      have d5 : wr.cell? ⟨w.heap.size, 5, none⟩ = some (.int .u64 (0 : Nat)) := (cell_of_row _ _ _ _ _ _ r0).trans (U_at _ _ _ rfl)
      have z5 : wr.frozen? ⟨w.heap.size, 5, none⟩ = false := frozen_of_row _ _ _ _ _ r0
      have c6 : wr.cell? ⟨w.heap.size + 1, 6, none⟩ = some (.int .u64 (m6 : Nat)) := (cell_of_row _ _ _ _ _ _ r1).trans (U_at _ _ _ rfl)
      have d6 : wr.cell? ⟨w.heap.size, 6, none⟩ = some (.int .u64 (0 : Nat)) := (cell_of_row _ _ _ _ _ _ r0).trans (U_at _ _ _ rfl)
      have z6 : wr.frozen? ⟨w.heap.size, 6, none⟩ = false := frozen_of_row _ _ _ _ _ r0
      have c7 : wr.cell? ⟨w.heap.size + 1, 7, none⟩ = some (.int .u64 (m7 : Nat)) := (cell_of_row _ _ _ _ _ _ r1).trans (U_at _ _ _ rfl)
      have d7 : wr.cell? ⟨w.heap.size, 7, none⟩ = some (.int .u64 (0 : Nat)) := (cell_of_row _ _ _ _ _ _ r0).trans (U_at _ _ _ rfl)
      have z7 : wr.frozen? ⟨w.heap.size, 7, none⟩ = false := frozen_of_row _ _ _ _ _ r0
      have HX := hide (store8 w wr w.heap.size 0 0 0 0 0 0 0 0 m0 m1 m2 m3 m4 m5 m6 m7 _ (Nat.le_refl _) r0 hB)
      clear r0 r1 hB hm hR
      go_wp2_with fail
      obtain ⟨hf, hBf⟩ := HX.out
      generalize ((((((((wr.setCell ⟨w.heap.size, 0, none⟩ (.int .u64 (m0 : Nat))).setCell ⟨w.heap.size, 1, none⟩ (.int .u64 (m1 : Nat))).setCell ⟨w.heap.size, 2, none⟩ (.int .u64 (m2 : Nat))).setCell ⟨w.heap.size, 3, none⟩ (.int .u64 (m3 : Nat))).setCell ⟨w.heap.size, 4, none⟩ (.int .u64 (m4 : Nat))).setCell ⟨w.heap.size, 5, none⟩ (.int .u64 (m5 : Nat))).setCell ⟨w.heap.size, 6, none⟩ (.int .u64 (m6 : Nat))).setCell ⟨w.heap.size, 7, none⟩ (.int .u64 (m7 : Nat))) = W9 at hf hBf ⊢
      have y0 : W9.cell? ⟨w.heap.size, 0, none⟩ = some (.int .u64 (m0 : Nat)) := (cell_of_row _ _ _ _ _ _ hf).trans (U_at _ _ _ rfl)
      have y1 : W9.cell? ⟨w.heap.size, 1, none⟩ = some (.int .u64 (m1 : Nat)) := (cell_of_row _ _ _ _ _ _ hf).trans (U_at _ _ _ rfl)
      have y2 : W9.cell? ⟨w.heap.size, 2, none⟩ = some (.int .u64 (m2 : Nat)) := (cell_of_row _ _ _ _ _ _ hf).trans (U_at _ _ _ rfl)
      have y3 : W9.cell? ⟨w.heap.size, 3, none⟩ = some (.int .u64 (m3 : Nat)) := (cell_of_row _ _ _ _ _ _ hf).trans (U_at _ _ _ rfl)
      have y4 : W9.cell? ⟨w.heap.size, 4, none⟩ = some (.int .u64 (m4 : Nat)) := (cell_of_row _ _ _ _ _ _ hf).trans (U_at _ _ _ rfl)
      have y5 : W9.cell? ⟨w.heap.size, 5, none⟩ = some (.int .u64 (m5 : Nat)) := (cell_of_row _ _ _ _ _ _ hf).trans (U_at _ _ _ rfl)
      have y6 : W9.cell? ⟨w.heap.size, 6, none⟩ = some (.int .u64 (m6 : Nat)) := (cell_of_row _ _ _ _ _ _ hf).trans (U_at _ _ _ rfl)
      have y7 : W9.cell? ⟨w.heap.size, 7, none⟩ = some (.int .u64 (m7 : Nat)) := (cell_of_row _ _ _ _ _ _ hf).trans (U_at _ _ _ rfl)
      refine bodyPost_ret (v := .agg #[.int .u64 (m0 : Nat), .int .u64 (m1 : Nat), .int .u64 (m2 : Nat), .int .u64 (m3 : Nat), .int .u64 (m4 : Nat), .int .u64 (m5 : Nat), .int .u64 (m6 : Nat), .int .u64 (m7 : Nat)]) (by simp [results, Try.results12, go_sem, y0, y1, y2, y3, y4, y5, y6, y7]) rfl ⟨by rw [HM.out]; rfl, hBf⟩
end Go.Proofs.Ytpefcadlejcbbaa
