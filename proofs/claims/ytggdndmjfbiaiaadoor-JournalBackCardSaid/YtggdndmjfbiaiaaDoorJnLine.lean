/-
  journal.Line: a record's line.
-/
import Derived.Test.YtggdndmjfbiaiaaDoorJnNum
namespace Go.Proofs.YtggdndmjfbiaiaaDoor
open Go.RowKit Go.Sort
set_option maxRecDepth 100000

/-- A record's line, as the program has it. -/
def lineB (k n : Int) : ByteArray := ⟨(lineJ k n).toArray⟩
theorem lineB_toL (k n : Int) : toL (lineB k n) = lineJ k n := by unfold lineB toL; simp
theorem lineB_no {k n : Int} (h : ¬ OkJ k n) : lineB k n = ⟨#[]⟩ := by unfold lineB; rw [lineJ_no h]
theorem line_put {k n : Int} (h : OkJ k n) : ((wordB k ++ ⟨#[32]⟩) ++ ⟨(Lib.itoa n).toArray⟩) ++ ⟨#[10]⟩ = lineB k n := by
  unfold lineB
  rw [lineJ_ok h]
  apply ByteArray.ext
  apply Array.ext'
  simp [wordB]
theorem wordB_size (k : Int) : (wordB k).size ≤ 5 := by
  have h := wordJ_len k
  show (wordJ k).toArray.size ≤ 5
  simpa using h
theorem numB_size {n : Int} (h0 : 0 ≤ n) (h1 : n ≤ 2147483647) : (⟨(Lib.itoa n).toArray⟩ : ByteArray).size ≤ 10 := by
  have h := (itoaJ_len h0 h1).2
  show (Lib.itoa n).toArray.size ≤ 10
  simpa using h
theorem lineB_size (k n : Int) : (lineB k n).size ≤ 17 := by
  have h := lineJ_len k n
  show (lineJ k n).toArray.size ≤ 17
  simpa using h
theorem wordB_full {k : Int} (h1 : 1 ≤ k) (h4 : k ≤ 4) : ((wordB k).toList == []) = false ∧ (wordB k).toList.isEmpty = false := by
  have : k = 1 ∨ k = 2 ∨ k = 3 ∨ k = 4 := by omega
  rcases this with rfl | rfl | rfl | rfl <;> decide +kernel

set_option maxHeartbeats 4000000 in
theorem line_any (k n : Int) (w : World) (hT : Tabs w) :
    Calls Tryd.prog 11 #[.agg #[.int .i64 k, .int .i64 n]] w fun e w' => e = .returned (.string (lineB k n)) ∧ Below w.heap.size w w' := by
  obtain ⟨w1, hw1⟩ : ∃ w1, w1 = w.alloc (.cells #[.int .i64 k, .int .i64 n] 34) := ⟨_, rfl⟩
  have hr : w1.heap[w.heap.size]? = some (.cells #[.int .i64 k, .int .i64 n] 34 (0, 0)) := by rw [hw1]; exact World.alloc_heap_new _ _
  have HB := hide (show Below w.heap.size w w1 by rw [hw1]; exact (Below.refl _ w).alloc (Nat.le_refl _) _)
  have c0 : w1.cell? ⟨w.heap.size, 0, none⟩ = some (.int .i64 k) := cell_of_row _ _ _ _ _ _ hr
  have c1 : w1.cell? ⟨w.heap.size, 1, none⟩ = some (.int .i64 n) := cell_of_row _ _ _ _ _ _ hr
  have HT := hide (hT.below HB.out)
  have Hw1 := hide hw1
  rw [hw1] at c0 c1
  clear hr hw1 hT
  by_cases hk : 1 ≤ k ∧ k ≤ 4
  · have hB := wordB_full hk.1 hk.2
    have HWd := hide (fun W => word_any k W)
    have HWs := hide (wordB_size k)
    by_cases h0 : n < 0
    · have HE := hide (lineB_no (k := k) (n := n) (fun h => by have := h.2.2.1; omega))
      obtain ⟨B, hBe⟩ : ∃ B, B = wordB k := ⟨_, rfl⟩
      rw [← hBe] at hB HWd
      obtain ⟨hB1, hB2⟩ := hB
      clear hBe hk HWs
      go_enter Tryd.func11, Tryd.ntmps11
      go_wp2_with fail
      refine (HWd.out _).mono ?_
      rintro e w2 ⟨rfl, rfl⟩
      go_wp2_with fail
      exact bodyPost_ret (results_tmp rfl _ _ _) rfl ⟨by rw [HE.out]; rfl, by rw [← Hw1.out]; exact HB.out⟩
    · by_cases h1 : n > 2147483647
      · have HE := hide (lineB_no (k := k) (n := n) (fun h => by have := h.2.2.2; omega))
        obtain ⟨B, hBe⟩ : ∃ B, B = wordB k := ⟨_, rfl⟩
        rw [← hBe] at hB HWd
        obtain ⟨hB1, hB2⟩ := hB
        clear hBe hk HWs
        go_enter Tryd.func11, Tryd.ntmps11
        go_wp2_with fail
        refine (HWd.out _).mono ?_
        rintro e w2 ⟨rfl, rfl⟩
        go_wp2_with fail
        exact bodyPost_ret (results_tmp rfl _ _ _) rfl ⟨by rw [HE.out]; rfl, by rw [← Hw1.out]; exact HB.out⟩
      · have HE := hide (line_put (k := k) (n := n) ⟨hk.1, hk.2, by omega, by omega⟩)
        have HIt := hide (fun W (hb : Below w1.heap.size w1 W) => itoa_any n W (HT.out.below hb) (by omega) (by omega))
        have hns := numB_size (n := n) (by omega) (by omega)
        have hws := HWs.out
        obtain ⟨B, hBe⟩ : ∃ B, B = wordB k := ⟨_, rfl⟩
        obtain ⟨D, hDe⟩ : ∃ D : ByteArray, D = ⟨(Lib.itoa n).toArray⟩ := ⟨_, rfl⟩
        rw [← hBe] at hB HWd HE hws
        rw [← hDe] at HIt HE hns
        obtain ⟨hB1, hB2⟩ := hB
        clear hBe hDe hk HWs
        have q0 := fun d os => cell_regrown (show w1.cell? ⟨w.heap.size, 0, none⟩ = some (.int .i64 k) by rw [Hw1.out]; exact c0) d os
        have q1 := fun d os => cell_regrown (show w1.cell? ⟨w.heap.size, 1, none⟩ = some (.int .i64 n) by rw [Hw1.out]; exact c1) d os
        have k1 := hide (fun d os => Calls.regrown_of ((HWd.out (Go.Sort.grow (redrawn w1 d) os)).mono fun _ _ ⟨a, b⟩ => ⟨a, b ▸ Below.refl _ _⟩))
        have k2 := hide (fun d os => Calls.regrown_of (HIt.out (Go.Sort.grow (redrawn w1 d) os) (below_regrown w1 d os)))
        go_enter Tryd.func11, Tryd.ntmps11
        go_wp2_with fail
        refine (HWd.out _).mono ?_
        rintro e w2 ⟨rfl, rfl⟩
        go_wp2_with fail
        rw [← Hw1.out]
        clear c0 c1 HWd HIt Hw1
        refine wp_region_quiet_below (by kernel_rfl) (by kernel_rfl) ?_
        repeat (go_big_quiet_step (first | (go_at_call 16; exact k1.out _ _) | (go_at_call 17; exact k2.out _ _)))
        refine wpQuiet_nil ?_
        intro w5 hw5
        obtain ⟨⟨d9, os9⟩, rfl⟩ := hw5
        have hb := below_regrown w1 d9 os9
        generalize Go.Sort.grow (redrawn w1 d9) os9 = w5 at hb ⊢
        have HB5 := hide (HB.out.trans (hb.mono HB.out.size))
        clear hb q0 q1 k1 k2
        go_wp2_with fail
        exact bodyPost_ret (results_tmp rfl _ _ _) rfl ⟨by rw [← HE.out]; rfl, HB5.out⟩
  · have HE := hide (lineB_no (k := k) (n := n) (fun h => hk ⟨h.1, h.2.1⟩))
    have HWd := hide (fun W => word_any k W)
    rw [show wordB k = ⟨#[]⟩ by unfold wordB; rw [wordJ_out (by omega)]] at HWd
    clear hk
    go_enter Tryd.func11, Tryd.ntmps11
    go_wp2_with fail
    refine (HWd.out _).mono ?_
    rintro e w2 ⟨rfl, rfl⟩
    go_wp2_with fail
    exact bodyPost_ret (results_tmp rfl _ _ _) rfl ⟨by rw [HE.out]; rfl, by rw [← Hw1.out]; exact HB.out⟩
end Go.Proofs.YtggdndmjfbiaiaaDoor
