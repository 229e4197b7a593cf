/-
  Frames that may not be; Newer and Alike.
-/
import Derived.Test.YtlbhgebjmekclaaDoorFrRefPut
namespace Go.Proofs.YtlbhgebjmekclaaDoor
open Go.RowKit
set_option maxRecDepth 100000

set_option maxHeartbeats 4000000 in
theorem frPut_wrong (f : Fr) (w : World) (hr : rightF f = false) : Calls Tryd.prog 8 #[.agg f.cells] w fun e w' => e = .returned (.slice none 0 0) ∧ Below w.heap.size w w' := by
  have HRi := hide (fun W => (show Calls Tryd.prog 10 #[.agg f.cells] W fun e w' => e = .returned (.bool false) ∧ Below W.heap.size W w' from by
    have q := frRight_any f W
    rw [hr] at q
    exact q))
  have hb := (Below.refl w.heap.size w).alloc (Nat.le_refl _) (Obj.cells f.cells 26)
  have hrow := World.alloc_heap_new w (Obj.cells f.cells 26)
  obtain ⟨kd, bt, nm, bd⟩ := f
  simp only [Fr.cells] at HRi hb hrow ⊢
  have c0 := cell_of_row _ _ 0 _ _ _ hrow
  have c1 := cell_of_row _ _ 1 _ _ _ hrow
  have c2 := cell_of_row _ _ 2 _ _ _ hrow
  have c3 := cell_of_row _ _ 3 _ _ _ hrow
  have HB := hide hb
  clear hb hrow hr
  go_enter Tryd.func8, Tryd.ntmps8
  go_wp2_with fail
  refine (HRi.out _).mono ?_
  rintro e w2 ⟨rfl, hb2⟩
  have HB2 := hide (HB.out.trans (hb2.mono HB.out.size))
  clear hb2
  go_wp2_with fail
  exact bodyPost_ret (results_tmp rfl _ _ _) rfl ⟨rfl, HB2.out⟩
set_option maxHeartbeats 4000000 in
theorem refFrPut_wrong (f : Fr) (w : World) (hr : rightF f = false) : Calls Tryd.prog 9 #[.agg f.cells] w fun e w' => e = .returned (.string ⟨#[]⟩) ∧ Below w.heap.size w w' := by
  have HRi := hide (fun W => (show Calls Tryd.prog 11 #[.agg f.cells] W fun e w' => e = .returned (.bool false) ∧ Below W.heap.size W w' from by
    have q := refFrRight_any f W
    rw [hr] at q
    exact q))
  have hb := (Below.refl w.heap.size w).alloc (Nat.le_refl _) (Obj.cells f.cells 24)
  have hrow := World.alloc_heap_new w (Obj.cells f.cells 24)
  obtain ⟨kd, bt, nm, bd⟩ := f
  simp only [Fr.cells] at HRi hb hrow ⊢
  have c0 := cell_of_row _ _ 0 _ _ _ hrow
  have c1 := cell_of_row _ _ 1 _ _ _ hrow
  have c2 := cell_of_row _ _ 2 _ _ _ hrow
  have c3 := cell_of_row _ _ 3 _ _ _ hrow
  have HB := hide hb
  clear hb hrow hr
  go_enter Tryd.func9, Tryd.ntmps9
  go_wp2_with fail
  refine (HRi.out _).mono ?_
  rintro e w2 ⟨rfl, hb2⟩
  have HB2 := hide (HB.out.trans (hb2.mono HB.out.size))
  clear hb2
  go_wp2_with fail
  exact bodyPost_ret (results_tmp rfl _ _ _) rfl ⟨rfl, HB2.out⟩

/-- Which of two frames is newer; are they of one question? -/
def newerF (f g : Fr) : Bool := decide (g.boot < f.boot) || (decide (f.boot = g.boot) && decide (g.num < f.num))
def alikeF (f g : Fr) : Bool := decide (f.boot = g.boot) && decide (f.num = g.num)
set_option maxHeartbeats 4000000 in
theorem frNewer_any (f g : Fr) (w : World) : Calls Tryd.prog 12 #[.agg f.cells, .agg g.cells] w fun e w' => e = .returned (.bool (newerF f g)) ∧ Below w.heap.size w w' := by
  obtain ⟨kd, bt, nm, bd⟩ := f
  obtain ⟨kd2, bt2, nm2, bd2⟩ := g
  unfold newerF
  simp only [Fr.cells]
  obtain ⟨r0, r1, hb⟩ := two_rows w #[.int .i64 kd, .int .u64 (bt : Nat), .int .u64 (nm : Nat), .string bd] #[.int .i64 kd2, .int .u64 (bt2 : Nat), .int .u64 (nm2 : Nat), .string bd2] 26 26
  have c0 := cell_of_row _ _ 0 _ _ _ r0
  have c1 := cell_of_row _ _ 1 _ _ _ r0
  have c2 := cell_of_row _ _ 2 _ _ _ r0
  have c3 := cell_of_row _ _ 3 _ _ _ r0
  have d0 := cell_of_row _ _ 0 _ _ _ r1
  have d1 := cell_of_row _ _ 1 _ _ _ r1
  have d2 := cell_of_row _ _ 2 _ _ _ r1
  have d3 := cell_of_row _ _ 3 _ _ _ r1
  have HB := hide hb
  clear r0 r1 hb
  by_cases h1 : bt2 < bt
  · have h1i : (bt2 : Int) < (bt : Int) := by omega
    have hv : (decide (bt2 < bt) || (decide (bt = bt2) && decide (nm2 < nm))) = true := by simp [h1]
    rw [hv]
    clear hv h1
    go_enter Tryd.func12, Tryd.ntmps12
    go_wp2_with fail
    exact bodyPost_ret (results_tmp rfl _ _ _) rfl ⟨rfl, HB.out⟩
  · by_cases h2 : bt = bt2
    · subst h2
      have hv : (decide (bt < bt) || (decide (bt = bt) && decide (nm2 < nm))) = decide (nm2 < nm) := by simp
      rw [hv]
      clear hv h1
      by_cases h3 : nm2 < nm
      · have h3i : (nm2 : Int) < (nm : Int) := by omega
        rw [decide_eq_true h3]
        clear h3
        go_enter Tryd.func12, Tryd.ntmps12
        go_wp2_with fail
        exact bodyPost_ret (results_tmp rfl _ _ _) rfl ⟨rfl, HB.out⟩
      · have h3i : ¬ (nm2 : Int) < (nm : Int) := by omega
        rw [decide_eq_false h3]
        clear h3
        go_enter Tryd.func12, Tryd.ntmps12
        go_wp2_with fail
        exact bodyPost_ret (results_tmp rfl _ _ _) rfl ⟨rfl, HB.out⟩
    · have h1i : ¬ (bt2 : Int) < (bt : Int) := by omega
      have h2i : ¬ (bt : Int) = (bt2 : Int) := by omega
      have hv : (decide (bt2 < bt) || (decide (bt = bt2) && decide (nm2 < nm))) = false := by simp [h1, h2]
      rw [hv]
      clear hv h1 h2
      go_enter Tryd.func12, Tryd.ntmps12
      go_wp2_with fail
      exact bodyPost_ret (results_tmp rfl _ _ _) rfl ⟨rfl, HB.out⟩

set_option maxHeartbeats 4000000 in
theorem frQuestion_any (f : Fr) (w : World) : Calls Tryd.prog 24 #[.agg f.cells] w fun e w' => e = .returned (.agg #[.int .i64 0, .int .u64 (f.boot : Nat), .int .u64 (f.num : Nat), .string ⟨#[]⟩]) ∧ Below w.heap.size w w' := by
  obtain ⟨kd, bt, nm, bd⟩ := f
  simp only [Fr.cells]
  obtain ⟨r0, r1, hb⟩ := two_rows w #[.int .i64 kd, .int .u64 (bt : Nat), .int .u64 (nm : Nat), .string bd] #[.int .i64 0, .int .u64 0, .int .u64 0, .string ⟨#[]⟩] 26 26
  have c0 := cell_of_row _ _ 0 _ _ _ r0
  have c1 := cell_of_row _ _ 1 _ _ _ r0
  have c2 := cell_of_row _ _ 2 _ _ _ r0
  have c3 := cell_of_row _ _ 3 _ _ _ r0
  have d0 := cell_of_row _ _ 0 _ _ _ r1
  have d1 := cell_of_row _ _ 1 _ _ _ r1
  have d2 := cell_of_row _ _ 2 _ _ _ r1
  have d3 := cell_of_row _ _ 3 _ _ _ r1
  have g0 : World.frozen? _ ⟨_, 0, none⟩ = false := frozen_of_row _ _ _ _ _ r1
  have g1 : World.frozen? _ ⟨_, 1, none⟩ = false := frozen_of_row _ _ _ _ _ r1
  have g2 : World.frozen? _ ⟨_, 2, none⟩ = false := frozen_of_row _ _ _ _ _ r1
  have g3 : World.frozen? _ ⟨_, 3, none⟩ = false := frozen_of_row _ _ _ _ _ r1
  have HX := hide (two_rows w #[.int .i64 kd, .int .u64 (bt : Nat), .int .u64 (nm : Nat), .string bd] #[.int .i64 0, .int .u64 (bt : Nat), .int .u64 (nm : Nat), .string ⟨#[]⟩] 26 26)
  clear r0 r1 hb
  go_enter Tryd.func24, Tryd.ntmps24
  go_wp2_with fail
  obtain ⟨_, hr, hx⟩ := HX.out
  have x0 := cell_of_row _ _ 0 _ _ _ hr
  have x1 := cell_of_row _ _ 1 _ _ _ hr
  have x2 := cell_of_row _ _ 2 _ _ _ hr
  have x3 := cell_of_row _ _ 3 _ _ _ hr
  refine bodyPost_ret (v := .agg #[.int .i64 0, .int .u64 (bt : Nat), .int .u64 (nm : Nat), .string ⟨#[]⟩]) (by simp [results, Tryd.results24, go_sem, x0, x1, x2, x3]) rfl ⟨rfl, hx⟩

end Go.Proofs.YtlbhgebjmekclaaDoor
