/-
  vint's reader that nobody made.
-/
import Derived.Test.YtdkdnfcmlnfkcaaVintReadSum
namespace Go.Proofs.Ytdkdnfcmlnfkcaa
open Go.RowKit
set_option maxRecDepth 100000

theorem nil_state (w : World) : Calls Try.prog 112 #[.pointer none] w fun en w' => en = .returned (.int .i64 1) ∧ w' = w := by
  go_enter Try.func112, Try.ntmps112
  go_wp2_with fail
  refine bodyPost_ret (results_tmp rfl _ _ _) rfl ⟨rfl, rfl⟩
theorem nil_do (w : World) (fv : Value) : Calls Try.prog 136 #[.pointer none, fv] w fun en w' => (∃ v, en = .returned v) ∧ w' = w := by
  go_enter Try.func136, Try.ntmps136
  go_wp2_with fail
  refine (nil_state w).mono ?_
  rintro en w1 ⟨rfl, rfl⟩
  go_wp2_with fail
  refine bodyPost_ret (v := .tuple #[]) (by simp [results, Try.results136, go_sem]) rfl ⟨⟨_, rfl⟩, rfl⟩
theorem nil_left (w : World) : Calls Try.prog 87 #[.pointer none] w fun en w' => en = .returned (.int .i64 0) ∧ Below w.heap.size w w' := by
  go_enter Try.func87, Try.ntmps87
  go_wp2_with fail
  refine (nil_state w).mono ?_
  rintro en w1 ⟨rfl, rfl⟩
  go_wp2_with fail
  refine bodyPost_ret (results_tmp rfl _ _ _) rfl ⟨rfl, Below.refl _ _⟩
theorem nil_end (w : World) : Calls Try.prog 80 #[.pointer none] w fun en w' => en = .returned (.int .i64 1) ∧ Below w.heap.size w w' := by
  go_enter Try.func80, Try.ntmps80
  go_wp2_with fail
  refine (nil_state w).mono ?_
  rintro en w1 ⟨rfl, rfl⟩
  go_wp2_with fail
  refine bodyPost_ret (results_tmp rfl _ _ _) rfl ⟨rfl, Below.refl _ _⟩
set_option maxHeartbeats 1000000 in
theorem nil_num (w : World) (m : Int) : Calls Try.prog 134 #[.pointer none, .int .u64 m] w fun en w' => en = .returned (.int .u64 0) ∧ Below w.heap.size w w' := by
  have hB : Below w.heap.size w ((w.alloc (.cells #[.int .u64 m] 26)).alloc (.cells #[.int .u64 0] 26)) := ((Below.refl _ w).alloc (Nat.le_refl _) _).alloc (by simp) _
  have r1 : ((w.alloc (.cells #[.int .u64 m] 26)).alloc (.cells #[.int .u64 0] 26)).heap[w.heap.size + 1]? = some (.cells #[.int .u64 0] 26 (0, 0)) := by
    have h := World.alloc_heap_new (w.alloc (.cells #[.int .u64 m] 26)) (Obj.cells #[.int .u64 0] 26)
    simp only [World.size_alloc] at h
    exact h
  go_enter Try.func134, Try.ntmps134
  go_wp2_with fail
  generalize ((w.alloc (.cells #[.int .u64 m] 26)).alloc (.cells #[.int .u64 0] 26)) = w2 at hB r1 ⊢
  refine (nil_do w2 _).mono ?_
  rintro en w1 ⟨⟨v, rfl⟩, rfl⟩
  have c2 : w1.cell? ⟨w.heap.size + 1, 0, none⟩ = some (.int .u64 0) := cell_of_row _ _ _ _ _ _ r1
  go_wp2_with fail
  refine bodyPost_ret (results_tmp rfl _ _ _) rfl ⟨rfl, hB⟩
theorem nil_int (w : World) (m : Int) (hm : 0 ≤ m) (hm2 : m ≤ 9223372036854775807) : Calls Try.prog 110 #[.pointer none, .int .i64 m] w fun en w' => en = .returned (.int .i64 0) ∧ Below w.heap.size w w' := by
  go_enter Try.func110, Try.ntmps110
  go_wp2_with fail
  refine (nil_num w _).mono ?_
  rintro en w1 ⟨rfl, hB⟩
  go_wp2_with fail
  refine bodyPost_ret (results_tmp rfl _ _ _) rfl ⟨rfl, hB⟩
set_option maxHeartbeats 1000000 in
theorem nil_text (w : World) (m : Int) (hm : 0 ≤ m) (hm2 : m ≤ 9223372036854775807) : Calls Try.prog 115 #[.pointer none, .int .i64 m] w fun en w' => en = .returned (.string ⟨#[]⟩) ∧ Below w.heap.size w w' := by
  go_enter Try.func115, Try.ntmps115
  go_wp2_with fail
  refine (nil_int w m hm hm2).mono ?_
  rintro en w1 ⟨rfl, hB1⟩
  go_wp2_with fail
  have hB : Below w1.heap.size w1 ((w1.alloc (.cells #[.int .i64 0] 3)).alloc (.cells #[.string ⟨#[]⟩] 9)) := ((Below.refl _ w1).alloc (Nat.le_refl _) _).alloc (by simp) _
  have r1 : ((w1.alloc (.cells #[.int .i64 0] 3)).alloc (.cells #[.string ⟨#[]⟩] 9)).heap[w1.heap.size + 1]? = some (.cells #[.string ⟨#[]⟩] 9 (0, 0)) := by
    have h := World.alloc_heap_new (w1.alloc (.cells #[.int .i64 0] 3)) (Obj.cells #[.string ⟨#[]⟩] 9)
    simp only [World.size_alloc] at h
    exact h
  generalize ((w1.alloc (.cells #[.int .i64 0] 3)).alloc (.cells #[.string ⟨#[]⟩] 9)) = w2 at hB r1 ⊢
  refine (nil_do w2 _).mono ?_
  rintro en w3 ⟨⟨v, rfl⟩, rfl⟩
  have c2 : w3.cell? ⟨w1.heap.size + 1, 0, none⟩ = some (.string ⟨#[]⟩) := cell_of_row _ _ _ _ _ _ r1
  go_wp2_with fail
  refine bodyPost_ret (results_tmp rfl _ _ _) rfl ⟨rfl, hB1.trans (hB.mono hB1.size)⟩
set_option maxHeartbeats 1000000 in
theorem nil_sum (w : World) : Calls Try.prog 135 #[.pointer none] w fun en w' => en = .returned (.agg #[.int .u64 0, .int .u64 0]) ∧ Below w.heap.size w w' := by
  have hB : Below w.heap.size w ((w.alloc (.cells #[.int .u64 0, .int .u64 0] 28)).alloc (.cells #[.int .u64 0, .int .u64 0] 28)) := ((Below.refl _ w).alloc (Nat.le_refl _) _).alloc (by simp) _
  have r0 : ((w.alloc (.cells #[.int .u64 0, .int .u64 0] 28)).alloc (.cells #[.int .u64 0, .int .u64 0] 28)).heap[w.heap.size]? = some (.cells #[.int .u64 0, .int .u64 0] 28 (0, 0)) := by
    rw [Below.heap_alloc _ _ _ (by simp)]
    exact World.alloc_heap_new _ _
  have r1 : ((w.alloc (.cells #[.int .u64 0, .int .u64 0] 28)).alloc (.cells #[.int .u64 0, .int .u64 0] 28)).heap[w.heap.size + 1]? = some (.cells #[.int .u64 0, .int .u64 0] 28 (0, 0)) := by
    have h := World.alloc_heap_new (w.alloc (.cells #[.int .u64 0, .int .u64 0] 28)) (Obj.cells #[.int .u64 0, .int .u64 0] 28)
    simp only [World.size_alloc] at h
    exact h
  go_enter Try.func135, Try.ntmps135
  go_wp2_with fail
  generalize ((w.alloc (.cells #[.int .u64 0, .int .u64 0] 28)).alloc (.cells #[.int .u64 0, .int .u64 0] 28)) = w2 at hB r0 r1 ⊢
  refine (nil_do w2 _).mono ?_
  rintro en w3 ⟨⟨v, rfl⟩, rfl⟩
  have c0 : w3.cell? ⟨w.heap.size + 1, 0, none⟩ = some (.int .u64 0) := cell_of_row _ _ _ _ _ _ r1
  have c1 : w3.cell? ⟨w.heap.size + 1, 1, none⟩ = some (.int .u64 0) := cell_of_row _ _ _ _ _ _ r1
  have d0 : w3.cell? ⟨w.heap.size, 0, none⟩ = some (.int .u64 0) := cell_of_row _ _ _ _ _ _ r0
  have d1 : w3.cell? ⟨w.heap.size, 1, none⟩ = some (.int .u64 0) := cell_of_row _ _ _ _ _ _ r0
  have z0 : w3.frozen? ⟨w.heap.size, 0, none⟩ = false := frozen_of_row _ _ _ _ _ r0
  have z1 : w3.frozen? ⟨w.heap.size, 1, none⟩ = false := frozen_of_row _ _ _ _ _ r0
  have I0 := hide r0
  clear r0 r1
  go_wp2_with fail
  have hBw : Below w.heap.size w3 ((w3.setCell ⟨w.heap.size, 0, none⟩ (.int .u64 0)).setCell ⟨w.heap.size, 1, none⟩ (.int .u64 0)) := ((Below.refl _ w3).setCell (p := ⟨w.heap.size, 0, none⟩) (Nat.le_refl _) _).setCell (p := ⟨w.heap.size, 1, none⟩) (Nat.le_refl _) _
  have hfin := heap_setCell_same _ w.heap.size 1 _ _ (.int .u64 0) (heap_setCell_same w3 w.heap.size 0 _ _ (.int .u64 0) I0.out)
  generalize ((w3.setCell ⟨w.heap.size, 0, none⟩ (.int .u64 0)).setCell ⟨w.heap.size, 1, none⟩ (.int .u64 0)) = w5 at hBw hfin ⊢
  have y0 : w5.cell? ⟨w.heap.size, 0, none⟩ = some (.int .u64 0) := cell_of_row _ _ _ _ _ _ hfin
  have y1 : w5.cell? ⟨w.heap.size, 1, none⟩ = some (.int .u64 0) := cell_of_row _ _ _ _ _ _ hfin
  refine bodyPost_ret (v := .agg #[.int .u64 0, .int .u64 0]) (by simp [results, Try.results135, go_sem, y0, y1]) rfl ⟨rfl, hB.trans hBw⟩
end Go.Proofs.Ytdkdnfcmlnfkcaa
