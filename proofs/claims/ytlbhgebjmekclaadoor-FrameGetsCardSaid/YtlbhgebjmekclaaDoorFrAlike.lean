/-
  Alike.
-/
import Derived.Test.YtlbhgebjmekclaaDoorFrMore
namespace Go.Proofs.YtlbhgebjmekclaaDoor
open Go.RowKit
set_option maxRecDepth 100000

theorem q_eql (bt nm bt2 nm2 : Nat) (w : World) : (binOp .eql 26 (.agg #[.int .i64 0, .int .u64 (bt : Nat), .int .u64 (nm : Nat), .string ⟨#[]⟩]) (.agg #[.int .i64 0, .int .u64 (bt2 : Nat), .int .u64 (nm2 : Nat), .string ⟨#[]⟩])).run Tryd.prog w = .ok (.bool (decide (bt = bt2) && decide (nm = nm2))) w := by
  have u0 := Tryd.underlying3
  have u1 := Tryd.underlying22
  have u2 := Tryd.underlying9
  have a0 := Tryd.isAgg3
  have a1 := Tryd.isAgg22
  have a2 := Tryd.isAgg9
  have z0 := Tryd.sizeOf3
  have z1 := Tryd.sizeOf22
  have z2 := Tryd.sizeOf9
  obtain ⟨B, hB0⟩ : ∃ B, (decide (bt = bt2) && decide (nm = nm2)) = B := ⟨_, rfl⟩
  have hB := hide hB0
  clear hB0
  have h : (Op.equalIn 10000 26 (.agg #[.int .i64 0, .int .u64 (bt : Nat), .int .u64 (nm : Nat), .string ⟨#[]⟩]) (.agg #[.int .i64 0, .int .u64 (bt2 : Nat), .int .u64 (nm2 : Nat), .string ⟨#[]⟩])).run Tryd.prog w = .ok B w := by
    rw [show (10000 : Nat) = 9999 + 1 from rfl, Op.equalIn]
    simp only [Sem.run_bind, run_underlying Tryd.underlying26, Result.andThen_ok]
    cases B
    · have h0 : ¬ (bt = bt2 ∧ nm = nm2) := by simpa using hB.out
      clear hB
      by_cases h1 : bt = bt2
      · subst h1
        have h2 : ¬ (nm : Int) = (nm2 : Int) := fun e => h0 ⟨rfl, by omega⟩
        clear h0
        go_simp
      · have h2 : ¬ (bt : Int) = (bt2 : Int) := by omega
        clear h0 h1
        go_simp
    · have h0 : bt = bt2 ∧ nm = nm2 := by simpa using hB.out
      obtain ⟨rfl, rfl⟩ := h0
      clear hB
      go_simp
  have h9 : ∀ a b : Value, (Op.equalIn Op.maxDepth 26 a b) = Op.equalIn 10000 26 a b := fun a b => rfl
  rw [hB.out]
  clear hB
  simp only [binOp, Op.equal, Sem.run_bind, h9, h, Result.andThen_ok]
  rfl

set_option maxHeartbeats 16000000 in
theorem frAlike_any (f g : Fr) (w : World) : Calls Tryd.prog 13 #[.agg f.cells, .agg g.cells] w fun e w' => e = .returned (.bool (alikeF f g)) ∧ Below w.heap.size w w' := by
  obtain ⟨kd, bt, nm, bd⟩ := f
  obtain ⟨kd2, bt2, nm2, bd2⟩ := g
  simp only [Fr.cells]
  have HQ1 := hide (fun W => frQuestion_any ⟨kd, bt, nm, bd⟩ W)
  have HQ2 := hide (fun W => frQuestion_any ⟨kd2, bt2, nm2, bd2⟩ W)
  simp only [Fr.cells] at HQ1 HQ2
  unfold alikeF
  simp only
  have HE := hide (fun W => q_eql bt nm bt2 nm2 W)
  generalize (decide (bt = bt2) && decide (nm = nm2)) = B at HE ⊢
  obtain ⟨r0, r1, hb⟩ := two_rows w #[.int .i64 kd, .int .u64 (bt : Nat), .int .u64 (nm : Nat), .string bd] #[.int .i64 kd2, .int .u64 (bt2 : Nat), .int .u64 (nm2 : Nat), .string bd2] 26 26
  go_enter Tryd.func13, Tryd.ntmps13
  go_wp2_with fail
  generalize ((w.alloc (.cells #[.int .i64 kd, .int .u64 (bt : Nat), .int .u64 (nm : Nat), .string bd] 26)).alloc (.cells #[.int .i64 kd2, .int .u64 (bt2 : Nat), .int .u64 (nm2 : Nat), .string bd2] 26)) = W1 at r0 r1 hb ⊢
  have HW := hide hb
  have HSB := hide (fun (W : World) (q : Below W1.heap.size W1 W) => (⟨q, cell_of_row _ _ 0 _ _ _ ((q.block _ (Array.getElem?_eq_some_iff.1 r0).1).trans r0), cell_of_row _ _ 1 _ _ _ ((q.block _ (Array.getElem?_eq_some_iff.1 r0).1).trans r0), cell_of_row _ _ 2 _ _ _ ((q.block _ (Array.getElem?_eq_some_iff.1 r0).1).trans r0), cell_of_row _ _ 3 _ _ _ ((q.block _ (Array.getElem?_eq_some_iff.1 r0).1).trans r0), cell_of_row _ _ 0 _ _ _ ((q.block _ (Array.getElem?_eq_some_iff.1 r1).1).trans r1), cell_of_row _ _ 1 _ _ _ ((q.block _ (Array.getElem?_eq_some_iff.1 r1).1).trans r1), cell_of_row _ _ 2 _ _ _ ((q.block _ (Array.getElem?_eq_some_iff.1 r1).1).trans r1), cell_of_row _ _ 3 _ _ _ ((q.block _ (Array.getElem?_eq_some_iff.1 r1).1).trans r1)⟩ : Below W1.heap.size W1 W ∧ W.cell? ⟨w.heap.size, 0, none⟩ = some (.int .i64 kd) ∧ W.cell? ⟨w.heap.size, 1, none⟩ = some (.int .u64 (bt : Nat)) ∧ W.cell? ⟨w.heap.size, 2, none⟩ = some (.int .u64 (nm : Nat)) ∧ W.cell? ⟨w.heap.size, 3, none⟩ = some (.string bd) ∧ W.cell? ⟨w.heap.size + 1, 0, none⟩ = some (.int .i64 kd2) ∧ W.cell? ⟨w.heap.size + 1, 1, none⟩ = some (.int .u64 (bt2 : Nat)) ∧ W.cell? ⟨w.heap.size + 1, 2, none⟩ = some (.int .u64 (nm2 : Nat)) ∧ W.cell? ⟨w.heap.size + 1, 3, none⟩ = some (.string bd2)))
  have hS := HSB.out _ (Below.refl W1.heap.size W1).drew
  have hB0 := (Below.refl W1.heap.size W1).drew
  clear r0 r1 hb
  refine wp_region_held (by kernel_rfl) (S := fun W => Below W1.heap.size W1 W ∧ W.cell? ⟨w.heap.size, 0, none⟩ = some (.int .i64 kd) ∧ W.cell? ⟨w.heap.size, 1, none⟩ = some (.int .u64 (bt : Nat)) ∧ W.cell? ⟨w.heap.size, 2, none⟩ = some (.int .u64 (nm : Nat)) ∧ W.cell? ⟨w.heap.size, 3, none⟩ = some (.string bd) ∧ W.cell? ⟨w.heap.size + 1, 0, none⟩ = some (.int .i64 kd2) ∧ W.cell? ⟨w.heap.size + 1, 1, none⟩ = some (.int .u64 (bt2 : Nat)) ∧ W.cell? ⟨w.heap.size + 1, 2, none⟩ = some (.int .u64 (nm2 : Nat)) ∧ W.cell? ⟨w.heap.size + 1, 3, none⟩ = some (.string bd2)) ?_
  change wpAnyH _ _ _ _ _ _ _ _ (World.drew _)
  refine wpAnyH_take (i := 0) (v := .agg #[.int .i64 kd, .int .u64 (bt : Nat), .int .u64 (nm : Nat), .string bd]) rfl (by kernel_rfl) (by kernel_rfl) (by kernel_rfl) (fun _ _ _ h => h) (Or.inl ⟨by kernel_rfl, ?y0⟩) hS ?r0
  case y0 => intro W hS; obtain ⟨_, s0, s1, s2, s3, t0, t1, t2, t3⟩ := hS; go_simp; try with_reducible rfl
  try simp only [Act.put, List.getElem_toArray, List.getElem_cons_zero, List.setIfInBounds_toArray, List.set_cons_zero, List.set_cons_succ]
  refine wpAnyH_take (i := 2) (v := .agg #[.int .i64 kd2, .int .u64 (bt2 : Nat), .int .u64 (nm2 : Nat), .string bd2]) rfl (by kernel_rfl) (by kernel_rfl) (by kernel_rfl) (fun _ _ _ h => h) (Or.inl ⟨by kernel_rfl, ?y2⟩) hS ?r2
  case y2 => intro W hS; obtain ⟨_, s0, s1, s2, s3, t0, t1, t2, t3⟩ := hS; go_simp; try with_reducible rfl
  try simp only [Act.put, List.getElem_toArray, List.getElem_cons_succ, List.getElem_cons_zero, List.setIfInBounds_toArray, List.set_cons_zero, List.set_cons_succ]
  generalize W1.drew = U0 at hB0 hS ⊢
  refine heldS_one (i := 1) (by kernel_rfl) rfl (fun K9 hK => ?_)
  go_simp
  refine (HQ1.out _).mono ?_
  rintro en U1 ⟨rfl, hb⟩
  have hB1 := hB0.trans (hb.mono hB0.size)
  have hS := HSB.out _ hB1
  refine hK _ _ hS ?_
  clear hK K9 hb
  try simp only [Act.put, List.getElem_toArray, List.getElem_cons_succ, List.getElem_cons_zero, List.setIfInBounds_toArray, List.set_cons_zero, List.set_cons_succ]
  refine heldS_one (i := 3) (by kernel_rfl) rfl (fun K9 hK => ?_)
  go_simp
  refine (HQ2.out _).mono ?_
  rintro en U2 ⟨rfl, hb⟩
  have hB2 := hB1.trans (hb.mono hB1.size)
  have hS := HSB.out _ hB2
  refine hK _ _ hS ?_
  clear hK K9 hb
  try simp only [Act.put, List.getElem_toArray, List.getElem_cons_succ, List.getElem_cons_zero, List.setIfInBounds_toArray, List.set_cons_zero, List.set_cons_succ]
  refine wpAnyH_take (i := 4) (v := .bool B) rfl (by kernel_rfl) (by kernel_rfl) (by kernel_rfl) (fun _ _ _ h => h) (Or.inl ⟨by kernel_rfl, ?y4⟩) hS ?r4
  case y4 => intro W hS; obtain ⟨_, s0, s1, s2, s3, t0, t1, t2, t3⟩ := hS; have hE := HE.out; go_simp; try with_reducible rfl
  try simp only [Act.put, List.getElem_toArray, List.getElem_cons_succ, List.getElem_cons_zero, List.setIfInBounds_toArray, List.set_cons_zero, List.set_cons_succ]
  refine wpAnyH_take (i := 5) (v := .bool B) rfl (by kernel_rfl) (by kernel_rfl) (by kernel_rfl) (fun _ _ _ h => h) (Or.inl ⟨by kernel_rfl, ?y5⟩) hS ?r5
  case y5 => intro W hS; obtain ⟨_, s0, s1, s2, s3, t0, t1, t2, t3⟩ := hS; go_simp; try with_reducible rfl
  try simp only [Act.put, List.getElem_toArray, List.getElem_cons_succ, List.getElem_cons_zero, List.setIfInBounds_toArray, List.set_cons_zero, List.set_cons_succ]
  have HF := hide (HW.out.trans (hB2.mono HW.out.size))
  refine wpAnyH_done (by kernel_rfl) ?_ _
  go_wp2_with fail
  exact bodyPost_ret (results_tmp rfl _ _ _) rfl ⟨rfl, HF.out⟩
end Go.Proofs.YtlbhgebjmekclaaDoor
