/-
  The reference's Put; the program's Put of a frame that may not be.
-/
import Derived.Test.YtlbhgebjmekclaaDoorFrTurnedLaw
import Derived.Test.YtlbhgebjmekclaaDoorVintRefPutNT
import Derived.Test.YtlbhgebjmekclaaDoorHeldStep
namespace Go.Proofs.YtlbhgebjmekclaaDoor
open Go.RowKit
set_option maxRecDepth 100000

set_option maxHeartbeats 16000000 in
theorem refFrPut_any (f : Fr) (w : World) (hf : f.fits) (hr : rightF f = true) (hs : f.body.size ≤ 1000) :
    Calls Tryd.prog 9 #[.agg f.cells] w fun e w' => e = .returned (.string (ofL (sealL (bytesF f)))) ∧ Below w.heap.size w w' := by
  have HRi := hide (fun W => (show Calls Tryd.prog 11 #[.agg f.cells] W fun e w' => e = .returned (.bool true) ∧ Below W.heap.size W w' from by
    have q := refFrRight_any f W
    rw [hr] at q
    exact q))
  have hbl := bytesF_len f
  have hk : 0 ≤ f.kind ∧ f.kind ≤ 255 := by
    unfold rightF at hr
    simp only [Bool.and_eq_true, decide_eq_true_eq] at hr
    exact ⟨hr.1, hr.2.1⟩
  obtain ⟨kd, bt, nm, bd⟩ := f
  obtain ⟨f1, f2⟩ := hf
  simp only at f1 f2 hs hbl hk
  obtain ⟨K, rfl⟩ : ∃ K : Nat, kd = (K : Int) := ⟨kd.toNat, by omega⟩
  have HSe := hide (fun W => refSeal_any (bytesF ⟨(K : Int), bt, nm, bd⟩) W (by omega))
  have e : ofL (bytesF ⟨(K : Int), bt, nm, bd⟩) = ((ofL (groupsL K) ++ ofL (groupsL bt)) ++ ofL (groupsL nm)) ++ ofL (groupsL bd.size ++ toL bd) := by
    rw [← cofL_app, ← cofL_app, ← cofL_app]
    unfold bytesF numsL
    simp
  rw [e] at HSe
  have g1 := groupsL_le K
  have g2 := groupsL_le bt
  have g3 := groupsL_le nm
  have g4 : (groupsL bd.size ++ toL bd).length ≤ 10 + bd.size := by
    have := groupsL_le bd.size
    rw [List.length_append, show (toL bd).length = bd.size by simp [toL]]
    omega
  have HA := hide (fun W => refNum_any K W (by omega))
  have HB := hide (fun W => refNum_any bt W (by omega))
  have HC := hide (fun W => refNum_any nm W (by omega))
  have HT := hide (fun W => refText_any bd W (by omega))
  unfold TextIs at HA HB HC HT
  have s1 : (ofL (groupsL K)).size ≤ 10 := by rw [cofL_size]; exact g1
  have s2 : (ofL (groupsL bt)).size ≤ 10 := by rw [cofL_size]; exact g2
  have s3 : (ofL (groupsL nm)).size ≤ 10 := by rw [cofL_size]; exact g3
  have s4 : (ofL (groupsL bd.size ++ toL bd)).size ≤ 1010 := by rw [cofL_size]; omega
  generalize ofL (sealL (bytesF ⟨(K : Int), bt, nm, bd⟩)) = R at HSe ⊢
  generalize ofL (groupsL K) = x1 at HSe HA s1
  generalize ofL (groupsL bt) = x2 at HSe HB s2
  generalize ofL (groupsL nm) = x3 at HSe HC s3
  generalize ofL (groupsL bd.size ++ toL bd) = x4 at HSe HT s4
  have z1 : ¬ 9223372036854775807 < x1.size + x2.size := by omega
  have z2 : ¬ 9223372036854775807 < x1.size + x2.size + x3.size := by omega
  have z3 : ¬ 9223372036854775807 < x1.size + x2.size + x3.size + x4.size := by omega
  have HW0 := hide (FW.start w #[.int .i64 (K : Nat), .int .u64 (bt : Nat), .int .u64 (nm : Nat), .string bd])
  simp only [Fr.cells] at HRi ⊢
  have c0 := cell_of_row _ _ 0 _ _ _ HW0.out.row
  have c1 := cell_of_row _ _ 1 _ _ _ HW0.out.row
  have c2 := cell_of_row _ _ 2 _ _ _ HW0.out.row
  have c3 := cell_of_row _ _ 3 _ _ _ HW0.out.row
  have hkw : IntKind.u64.wrap (K : Int) = (K : Nat) := by rw [IntKind.wrap_u64]; omega
  clear hr hbl e g1 g2 g3 g4 s1 s2 s3 s4 f1 f2 hs hk
  go_enter Tryd.func9, Tryd.ntmps9
  go_wp2_with fail
  refine (HRi.out _).mono ?_
  rintro e w1 ⟨rfl, hB⟩
  have HW1 := hide (HW0.out.step hB)
  clear c0 c1 c2 c3 hB HW0 HRi
  go_upto_region 3 with fail
  have HSB := hide (fun (W : World) (q : Below w1.heap.size w1 W) => (⟨q, cell_of_row _ _ 0 _ _ _ ((q.block _ HW1.out.lt).trans HW1.out.row), cell_of_row _ _ 1 _ _ _ ((q.block _ HW1.out.lt).trans HW1.out.row), cell_of_row _ _ 2 _ _ _ ((q.block _ HW1.out.lt).trans HW1.out.row), cell_of_row _ _ 3 _ _ _ ((q.block _ HW1.out.lt).trans HW1.out.row)⟩ : Below w1.heap.size w1 W ∧ W.cell? ⟨w.heap.size, 0, none⟩ = some (.int .i64 (K : Nat)) ∧ W.cell? ⟨w.heap.size, 1, none⟩ = some (.int .u64 (bt : Nat)) ∧ W.cell? ⟨w.heap.size, 2, none⟩ = some (.int .u64 (nm : Nat)) ∧ W.cell? ⟨w.heap.size, 3, none⟩ = some (.string bd)))
  have hS := HSB.out _ (Below.refl w1.heap.size w1).drew
  have hB0 := (Below.refl w1.heap.size w1).drew
  refine wp_region_held (by kernel_rfl) (S := fun W => Below w1.heap.size w1 W ∧ W.cell? ⟨w.heap.size, 0, none⟩ = some (.int .i64 (K : Nat)) ∧ W.cell? ⟨w.heap.size, 1, none⟩ = some (.int .u64 (bt : Nat)) ∧ W.cell? ⟨w.heap.size, 2, none⟩ = some (.int .u64 (nm : Nat)) ∧ W.cell? ⟨w.heap.size, 3, none⟩ = some (.string bd)) ?_
  change wpAnyH _ _ _ _ _ _ _ _ (World.drew _)
  refine wpAnyH_take (i := 0) (v := ?v0) rfl (by kernel_rfl) (by kernel_rfl) (by kernel_rfl) (fun _ _ _ h => h) (Or.inl ⟨by kernel_rfl, ?y0⟩) hS ?r0
  case y0 => intro W hS; obtain ⟨_, s0, s1, s2, s3⟩ := hS; go_simp; try with_reducible rfl
  try simp only [Act.put, List.getElem_toArray, List.getElem_cons_zero, List.setIfInBounds_toArray, List.set_cons_zero, List.set_cons_succ]
  refine wpAnyH_take (i := 1) (v := .int .i64 (K : Nat)) rfl (by kernel_rfl) (by kernel_rfl) (by kernel_rfl) (fun _ _ _ h => h) (Or.inl ⟨by kernel_rfl, ?y1⟩) hS ?r1
  case y1 => intro W hS; obtain ⟨_, s0, s1, s2, s3⟩ := hS; go_simp; try with_reducible rfl
  try simp only [Act.put, List.getElem_toArray, List.getElem_cons_succ, List.getElem_cons_zero, List.setIfInBounds_toArray, List.set_cons_zero, List.set_cons_succ]
  refine wpAnyH_take (i := 2) (v := .int .u64 (K : Nat)) rfl (by kernel_rfl) (by kernel_rfl) (by kernel_rfl) (fun _ _ _ h => h) (Or.inl ⟨by kernel_rfl, ?y2⟩) hS ?r2
  case y2 => intro W hS; obtain ⟨_, s0, s1, s2, s3⟩ := hS; go_simp; try with_reducible rfl
  try simp only [Act.put, List.getElem_toArray, List.getElem_cons_succ, List.getElem_cons_zero, List.setIfInBounds_toArray, List.set_cons_zero, List.set_cons_succ]
  refine wpAnyH_take (i := 4) (v := ?v4) rfl (by kernel_rfl) (by kernel_rfl) (by kernel_rfl) (fun _ _ _ h => h) (Or.inl ⟨by kernel_rfl, ?y4⟩) hS ?r4
  case y4 => intro W hS; obtain ⟨_, s0, s1, s2, s3⟩ := hS; go_simp; try with_reducible rfl
  try simp only [Act.put, List.getElem_toArray, List.getElem_cons_succ, List.getElem_cons_zero, List.setIfInBounds_toArray, List.set_cons_zero, List.set_cons_succ]
  refine wpAnyH_take (i := 5) (v := .int .u64 (bt : Nat)) rfl (by kernel_rfl) (by kernel_rfl) (by kernel_rfl) (fun _ _ _ h => h) (Or.inl ⟨by kernel_rfl, ?y5⟩) hS ?r5
  case y5 => intro W hS; obtain ⟨_, s0, s1, s2, s3⟩ := hS; go_simp; try with_reducible rfl
  try simp only [Act.put, List.getElem_toArray, List.getElem_cons_succ, List.getElem_cons_zero, List.setIfInBounds_toArray, List.set_cons_zero, List.set_cons_succ]
  refine wpAnyH_take (i := 8) (v := ?v8) rfl (by kernel_rfl) (by kernel_rfl) (by kernel_rfl) (fun _ _ _ h => h) (Or.inl ⟨by kernel_rfl, ?y8⟩) hS ?r8
  case y8 => intro W hS; obtain ⟨_, s0, s1, s2, s3⟩ := hS; go_simp; try with_reducible rfl
  try simp only [Act.put, List.getElem_toArray, List.getElem_cons_succ, List.getElem_cons_zero, List.setIfInBounds_toArray, List.set_cons_zero, List.set_cons_succ]
  refine wpAnyH_take (i := 9) (v := .int .u64 (nm : Nat)) rfl (by kernel_rfl) (by kernel_rfl) (by kernel_rfl) (fun _ _ _ h => h) (Or.inl ⟨by kernel_rfl, ?y9⟩) hS ?r9
  case y9 => intro W hS; obtain ⟨_, s0, s1, s2, s3⟩ := hS; go_simp; try with_reducible rfl
  try simp only [Act.put, List.getElem_toArray, List.getElem_cons_succ, List.getElem_cons_zero, List.setIfInBounds_toArray, List.set_cons_zero, List.set_cons_succ]
  refine wpAnyH_take (i := 12) (v := ?v12) rfl (by kernel_rfl) (by kernel_rfl) (by kernel_rfl) (fun _ _ _ h => h) (Or.inl ⟨by kernel_rfl, ?y12⟩) hS ?r12
  case y12 => intro W hS; obtain ⟨_, s0, s1, s2, s3⟩ := hS; go_simp; try with_reducible rfl
  try simp only [Act.put, List.getElem_toArray, List.getElem_cons_succ, List.getElem_cons_zero, List.setIfInBounds_toArray, List.set_cons_zero, List.set_cons_succ]
  refine wpAnyH_take (i := 13) (v := .string bd) rfl (by kernel_rfl) (by kernel_rfl) (by kernel_rfl) (fun _ _ _ h => h) (Or.inl ⟨by kernel_rfl, ?y13⟩) hS ?r13
  case y13 => intro W hS; obtain ⟨_, s0, s1, s2, s3⟩ := hS; go_simp; try with_reducible rfl
  try simp only [Act.put, List.getElem_toArray, List.getElem_cons_succ, List.getElem_cons_zero, List.setIfInBounds_toArray, List.set_cons_zero, List.set_cons_succ]
  generalize w1.drew = U0 at hB0 hS ⊢
  refine heldS_one (i := 3) (by kernel_rfl) rfl (fun K9 hK => ?_)
  go_simp
  refine (HA.out _).mono ?_
  rintro en U1 ⟨rfl, hb⟩
  have hB1 := hB0.trans (hb.mono hB0.size)
  have hS := HSB.out _ hB1
  refine hK _ _ hS ?_
  clear hK K9 hb
  try simp only [Act.put, List.getElem_toArray, List.getElem_cons_succ, List.getElem_cons_zero, List.setIfInBounds_toArray, List.set_cons_zero, List.set_cons_succ]
  refine heldS_one (i := 6) (by kernel_rfl) rfl (fun K9 hK => ?_)
  go_simp
  refine (HB.out _).mono ?_
  rintro en U2 ⟨rfl, hb⟩
  have hB2 := hB1.trans (hb.mono hB1.size)
  have hS := HSB.out _ hB2
  refine hK _ _ hS ?_
  clear hK K9 hb
  try simp only [Act.put, List.getElem_toArray, List.getElem_cons_succ, List.getElem_cons_zero, List.setIfInBounds_toArray, List.set_cons_zero, List.set_cons_succ]
  refine wpAnyH_take (i := 7) (v := .string (x1 ++ x2)) rfl (by kernel_rfl) (by kernel_rfl) (by kernel_rfl) (fun _ _ _ h => h) (Or.inl ⟨by kernel_rfl, ?y7⟩) hS ?r7
  case y7 => intro W hS; obtain ⟨_, s0, s1, s2, s3⟩ := hS; go_simp; try with_reducible rfl
  try simp only [Act.put, List.getElem_toArray, List.getElem_cons_succ, List.getElem_cons_zero, List.setIfInBounds_toArray, List.set_cons_zero, List.set_cons_succ]
  refine heldS_one (i := 10) (by kernel_rfl) rfl (fun K9 hK => ?_)
  go_simp
  refine (HC.out _).mono ?_
  rintro en U3 ⟨rfl, hb⟩
  have hB3 := hB2.trans (hb.mono hB2.size)
  have hS := HSB.out _ hB3
  refine hK _ _ hS ?_
  clear hK K9 hb
  try simp only [Act.put, List.getElem_toArray, List.getElem_cons_succ, List.getElem_cons_zero, List.setIfInBounds_toArray, List.set_cons_zero, List.set_cons_succ]
  refine wpAnyH_take (i := 11) (v := .string (x1 ++ x2 ++ x3)) rfl (by kernel_rfl) (by kernel_rfl) (by kernel_rfl) (fun _ _ _ h => h) (Or.inl ⟨by kernel_rfl, ?y11⟩) hS ?r11
  case y11 => intro W hS; obtain ⟨_, s0, s1, s2, s3⟩ := hS; go_simp; try with_reducible rfl
  try simp only [Act.put, List.getElem_toArray, List.getElem_cons_succ, List.getElem_cons_zero, List.setIfInBounds_toArray, List.set_cons_zero, List.set_cons_succ]
  refine heldS_one (i := 14) (by kernel_rfl) rfl (fun K9 hK => ?_)
  go_simp
  refine (HT.out _).mono ?_
  rintro en U4 ⟨rfl, hb⟩
  have hB4 := hB3.trans (hb.mono hB3.size)
  have hS := HSB.out _ hB4
  refine hK _ _ hS ?_
  clear hK K9 hb
  try simp only [Act.put, List.getElem_toArray, List.getElem_cons_succ, List.getElem_cons_zero, List.setIfInBounds_toArray, List.set_cons_zero, List.set_cons_succ]
  refine wpAnyH_take (i := 15) (v := .string (x1 ++ x2 ++ x3 ++ x4)) rfl (by kernel_rfl) (by kernel_rfl) (by kernel_rfl) (fun _ _ _ h => h) (Or.inl ⟨by kernel_rfl, ?y15⟩) hS ?r15
  case y15 => intro W hS; obtain ⟨_, s0, s1, s2, s3⟩ := hS; go_simp; try with_reducible rfl
  try simp only [Act.put, List.getElem_toArray, List.getElem_cons_succ, List.getElem_cons_zero, List.setIfInBounds_toArray, List.set_cons_zero, List.set_cons_succ]
  refine heldS_one (i := 16) (by kernel_rfl) rfl (fun K9 hK => ?_)
  go_simp
  refine (HSe.out _).mono ?_
  rintro en U5 ⟨rfl, hb⟩
  have hB5 := hB4.trans (hb.mono hB4.size)
  have hS := HSB.out _ hB5
  refine hK _ _ hS ?_
  clear hK K9 hb
  try simp only [Act.put, List.getElem_toArray, List.getElem_cons_succ, List.getElem_cons_zero, List.setIfInBounds_toArray, List.set_cons_zero, List.set_cons_succ]
  refine wpAnyH_take (i := 17) (v := .string R) rfl (by kernel_rfl) (by kernel_rfl) (by kernel_rfl) (fun _ _ _ h => h) (Or.inl ⟨by kernel_rfl, ?y17⟩) hS ?r17
  case y17 => intro W hS; obtain ⟨_, s0, s1, s2, s3⟩ := hS; go_simp; try with_reducible rfl
  try simp only [Act.put, List.getElem_toArray, List.getElem_cons_succ, List.getElem_cons_zero, List.setIfInBounds_toArray, List.set_cons_zero, List.set_cons_succ]
  have HF := hide (HW1.out.below.trans (hB5.mono HW1.out.below.size))
  refine wpAnyH_done (by kernel_rfl) ?_ _
  go_wp2_with fail
  exact bodyPost_ret (results_tmp rfl _ _ _) rfl ⟨rfl, HF.out⟩
end Go.Proofs.YtlbhgebjmekclaaDoor
