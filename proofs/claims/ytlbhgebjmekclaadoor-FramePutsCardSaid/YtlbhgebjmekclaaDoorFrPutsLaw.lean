/-
  FramePuts's law.
-/
import Derived.Test.YtlbhgebjmekclaaDoorFrPairs
namespace Go.Proofs.YtlbhgebjmekclaaDoor
open Go.RowKit
set_option maxRecDepth 100000

theorem four_other (W : World) (n m : Nat) (v0 v1 v2 v3 : Value) (h : n ≠ m) : ((((W.setCell ⟨n, 0, none⟩ v0).setCell ⟨n, 1, none⟩ v1).setCell ⟨n, 2, none⟩ v2).setCell ⟨n, 3, none⟩ v3).heap[m]? = W.heap[m]? :=
  (Below.heap_setCell _ _ _ _ h.symm).trans ((Below.heap_setCell _ _ _ _ h.symm).trans ((Below.heap_setCell _ _ _ _ h.symm).trans (Below.heap_setCell _ _ _ _ h.symm)))
/-- The law's rows, wherever the program's two frames lie. -/
structure Q2 (w W : World) (n m : Nat) (c d : Array Value) : Prop where
  pw : PW w W c d
  row : W.heap[n]? = some (.cells c 26 (0, 0))
  row2 : W.heap[m]? = some (.cells d 26 (0, 0))
theorem Q2.step {w W W' : World} {n m : Nat} {c d : Array Value} (h : Q2 w W n m c d) (hB : Below W.heap.size W W') : Q2 w W' n m c d :=
  ⟨h.pw.step hB, (hB.block _ (Array.getElem?_eq_some_iff.1 h.row).1).trans h.row, (hB.block _ (Array.getElem?_eq_some_iff.1 h.row2).1).trans h.row2⟩

theorem alike_yes {bt bt2 nm nm2 : Nat} {al : Bool} (h : al = (decide (bt = bt2) && decide (nm = nm2))) (hb : bt = bt2) : al = ((nm : Int) == (nm2 : Int)) := by
  rw [h, decide_eq_true hb, Bool.true_and, Bool.eq_iff_iff]
  simp
  omega
theorem alike_no {bt bt2 nm nm2 : Nat} {al : Bool} (h : al = (decide (bt = bt2) && decide (nm = nm2))) (hb : ¬ bt = bt2) : al = false := by
  rw [h, decide_eq_false hb, Bool.false_and]
theorem int_ne {bt bt2 : Nat} (hb : ¬ bt = bt2) : ((bt : Int) == (bt2 : Int)) = false := by
  simp
  omega

set_option maxHeartbeats 64000000 in
theorem frPuts_in (f g : Fr) (P : List UInt8) (r nw al : Bool) (w : World) (hs : f.body.size ≤ 500) (hs2 : g.body.size ≤ 500)
    (HP : Hid (∀ W, Below w.heap.size w W → Calls Tryd.prog 8 #[.agg f.cells] W (Bytes W P)))
    (HRp : Hid (∀ W, Calls Tryd.prog 9 #[.agg f.cells] W fun e w' => e = .returned (.string (ofL P)) ∧ Below W.heap.size W w'))
    (HNw : Hid (∀ W, Calls Tryd.prog 12 #[.agg f.cells, .agg g.cells] W fun e w' => e = .returned (.bool nw) ∧ Below W.heap.size W w'))
    (HAl : Hid (∀ W, Calls Tryd.prog 13 #[.agg f.cells, .agg g.cells] W fun e w' => e = .returned (.bool al) ∧ Below W.heap.size W w'))
    (HR1 : Hid (∀ W, Calls Tryd.prog 10 #[.agg f.cells] W fun e w' => e = .returned (.bool r) ∧ Below W.heap.size W w'))
    (HR2 : Hid (∀ W, Calls Tryd.prog 11 #[.agg f.cells] W fun e w' => e = .returned (.bool r) ∧ Below W.heap.size W w'))
    (AW : Hid (∀ W, Below w.heap.size w W → Calls Tryd.prog 6 #[] W fun e w' => e = .returned (.bool true) ∧ Below W.heap.size W w'))
    (HIs : Hid (∀ W, Calls Tryd.prog 15 #[.agg f.cells, .agg f.cells] W fun e w' => e = .returned (.bool true) ∧ Below W.heap.size W w'))
    (HGe : Hid (r = true → ∀ (W : World) (A : Option Addr) (c : Nat), Below w.heap.size w W → RdB W W.heap.size A P → Caps A P.length c → Calls Tryd.prog 14 #[.slice A P.length c] W fun e w' => e = .returned (.tuple #[.agg f.cells, .int .i64 0]) ∧ Below W.heap.size W w'))
    (hnw : nw = newerF f g) (hal : al = alikeF f g) :
    Calls Tryd.prog 3 #[.agg f.cells, .agg g.cells] w fun e w' => e = .returned (.bool true) ∧ Below w.heap.size w w' := by
  have HT1 := hide (fun W => frTo_any f W)
  have HT2 := hide (fun W => frTo_any g W)
  have HS0 := hide (PW.start w f.cells g.cells)
  have hb2 : ¬ (500 : Int) < f.body.size := by omega
  have hb3 : ¬ (500 : Int) < g.body.size := by omega
  obtain ⟨kd, bt, nm, bd⟩ := f
  obtain ⟨kd2, bt2, nm2, bd2⟩ := g
  unfold newerF at hnw
  unfold alikeF at hal
  unfold Bytes at HP
  simp only [Fr.cells] at HT1 HT2 HS0 HP HRp HNw HAl HR1 HR2 HIs HGe hnw hal ⊢
  simp only at hb2 hb3
  have HNW := hide hnw
  have HAL := hide hal
  clear hs hs2 hnw hal
  have c0 := cell_of_row _ _ 0 _ _ _ HS0.out.row
  have d0 := cell_of_row _ _ 0 _ _ _ HS0.out.row2
  have c1 := cell_of_row _ _ 1 _ _ _ HS0.out.row
  have d1 := cell_of_row _ _ 1 _ _ _ HS0.out.row2
  have c2 := cell_of_row _ _ 2 _ _ _ HS0.out.row
  have d2 := cell_of_row _ _ 2 _ _ _ HS0.out.row2
  have c3 := cell_of_row _ _ 3 _ _ _ HS0.out.row
  have d3 := cell_of_row _ _ 3 _ _ _ HS0.out.row2
  have HS := hide (fun (W : World) (q : Below ((w.alloc (.cells #[.int .i64 kd, .int .u64 (bt : Nat), .int .u64 (nm : Nat), .string bd] 24)).alloc (.cells #[.int .i64 kd2, .int .u64 (bt2 : Nat), .int .u64 (nm2 : Nat), .string bd2] 24)).heap.size ((w.alloc (.cells #[.int .i64 kd, .int .u64 (bt : Nat), .int .u64 (nm : Nat), .string bd] 24)).alloc (.cells #[.int .i64 kd2, .int .u64 (bt2 : Nat), .int .u64 (nm2 : Nat), .string bd2] 24)) W) => (⟨q, cell_of_row _ _ 0 _ _ _ (HS0.out.step q).row, cell_of_row _ _ 1 _ _ _ (HS0.out.step q).row, cell_of_row _ _ 2 _ _ _ (HS0.out.step q).row, cell_of_row _ _ 3 _ _ _ (HS0.out.step q).row, cell_of_row _ _ 0 _ _ _ (HS0.out.step q).row2, cell_of_row _ _ 1 _ _ _ (HS0.out.step q).row2, cell_of_row _ _ 2 _ _ _ (HS0.out.step q).row2, cell_of_row _ _ 3 _ _ _ (HS0.out.step q).row2⟩ : Below ((w.alloc (.cells #[.int .i64 kd, .int .u64 (bt : Nat), .int .u64 (nm : Nat), .string bd] 24)).alloc (.cells #[.int .i64 kd2, .int .u64 (bt2 : Nat), .int .u64 (nm2 : Nat), .string bd2] 24)).heap.size ((w.alloc (.cells #[.int .i64 kd, .int .u64 (bt : Nat), .int .u64 (nm : Nat), .string bd] 24)).alloc (.cells #[.int .i64 kd2, .int .u64 (bt2 : Nat), .int .u64 (nm2 : Nat), .string bd2] 24)) W ∧ W.cell? ⟨w.heap.size, 0, none⟩ = some (.int .i64 kd) ∧ W.cell? ⟨w.heap.size, 1, none⟩ = some (.int .u64 (bt : Nat)) ∧ W.cell? ⟨w.heap.size, 2, none⟩ = some (.int .u64 (nm : Nat)) ∧ W.cell? ⟨w.heap.size, 3, none⟩ = some (.string bd) ∧ W.cell? ⟨w.heap.size + 1, 0, none⟩ = some (.int .i64 kd2) ∧ W.cell? ⟨w.heap.size + 1, 1, none⟩ = some (.int .u64 (bt2 : Nat)) ∧ W.cell? ⟨w.heap.size + 1, 2, none⟩ = some (.int .u64 (nm2 : Nat)) ∧ W.cell? ⟨w.heap.size + 1, 3, none⟩ = some (.string bd2)))
  go_enter Tryd.func3, Tryd.ntmps3
  go_wp2_with fail
  generalize ((w.alloc (.cells #[.int .i64 kd, .int .u64 (bt : Nat), .int .u64 (nm : Nat), .string bd] 24)).alloc (.cells #[.int .i64 kd2, .int .u64 (bt2 : Nat), .int .u64 (nm2 : Nat), .string bd2] 24)) = V at HS HS0 c0 c1 c2 c3 d0 d1 d2 d3 ⊢
  clear c0 c1 c2 c3 d0 d1 d2 d3
  go_cut [5, 6] (fun x5 x6 wx => ∃ n5 n6, x5 = .pointer (some ⟨n5, 0, none⟩) ∧ x6 = .pointer (some ⟨n6, 0, none⟩) ∧ Hid (Q2 w wx n5 n6 #[.int .i64 kd, .int .u64 (bt : Nat), .int .u64 (nm : Nat), .string bd] #[.int .i64 kd2, .int .u64 (bt2 : Nat), .int .u64 (nm2 : Nat), .string bd2]))
  case first =>
    have hS := HS.out _ (Below.refl V.heap.size V).drew
    have hB0 := (Below.refl V.heap.size V).drew
    refine wp_region_held (by kernel_rfl) (S := fun W => Below V.heap.size V W ∧ W.cell? ⟨w.heap.size, 0, none⟩ = some (.int .i64 kd) ∧ W.cell? ⟨w.heap.size, 1, none⟩ = some (.int .u64 (bt : Nat)) ∧ W.cell? ⟨w.heap.size, 2, none⟩ = some (.int .u64 (nm : Nat)) ∧ W.cell? ⟨w.heap.size, 3, none⟩ = some (.string bd) ∧ W.cell? ⟨w.heap.size + 1, 0, none⟩ = some (.int .i64 kd2) ∧ W.cell? ⟨w.heap.size + 1, 1, none⟩ = some (.int .u64 (bt2 : Nat)) ∧ W.cell? ⟨w.heap.size + 1, 2, none⟩ = some (.int .u64 (nm2 : Nat)) ∧ W.cell? ⟨w.heap.size + 1, 3, none⟩ = some (.string bd2)) ?_
    change wpAnyH _ _ _ _ _ _ _ _ (World.drew _)
    refine wpAnyH_take (i := 0) (v := .agg #[.int .i64 kd, .int .u64 (bt : Nat), .int .u64 (nm : Nat), .string bd]) rfl (by kernel_rfl) (by kernel_rfl) (by kernel_rfl) (fun _ _ _ h => h) (Or.inl ⟨by kernel_rfl, ?y0⟩) hS ?r0
    case y0 => intro W hS; obtain ⟨_, s0, s1, s2, s3, t0, t1, t2, t3⟩ := hS; go_simp; try with_reducible rfl
    try simp only [Act.put, List.getElem_toArray, List.getElem_cons_zero, List.setIfInBounds_toArray, List.set_cons_zero, List.set_cons_succ]
    refine wpAnyH_take (i := 2) (v := .agg #[.int .i64 kd2, .int .u64 (bt2 : Nat), .int .u64 (nm2 : Nat), .string bd2]) rfl (by kernel_rfl) (by kernel_rfl) (by kernel_rfl) (fun _ _ _ h => h) (Or.inl ⟨by kernel_rfl, ?y2⟩) hS ?r2
    case y2 => intro W hS; obtain ⟨_, s0, s1, s2, s3, t0, t1, t2, t3⟩ := hS; go_simp; try with_reducible rfl
    try simp only [Act.put, List.getElem_toArray, List.getElem_cons_succ, List.getElem_cons_zero, List.setIfInBounds_toArray, List.set_cons_zero, List.set_cons_succ]
    generalize World.drew V = U0 at hB0 ⊢
    clear hS
    refine heldS_three (i := 1) (j := 4) (k := 5) (by kernel_rfl) rfl rfl rfl (fun K hK => ?_) (fun K hK => ?_) (fun K hK => ?_)
    · go_simp
      refine (HT1.out _).mono ?_
      rintro en U1 ⟨rfl, hb1⟩
      have hB1 := hB0.trans (hb1.mono hB0.size)
      refine hK _ _ (HS.out _ hB1) ?_
      clear hK K hb1
      try simp only [Act.put, List.getElem_toArray, List.getElem_cons_succ, List.getElem_cons_zero, List.setIfInBounds_toArray, List.set_cons_zero, List.set_cons_succ]
      refine heldS_three (i := 3) (j := 4) (k := 5) (by kernel_rfl) rfl rfl rfl (fun K hK => ?_) (fun K hK => ?_) (fun K hK => ?_)
      · go_simp
        refine (HT2.out _).mono ?_
        rintro en U2 ⟨rfl, hb2⟩
        have hB2 := hB1.trans (hb2.mono hB1.size)
        refine hK _ _ (HS.out _ hB2) ?_
        clear hK K hb2
        try simp only [Act.put, List.getElem_toArray, List.getElem_cons_succ, List.getElem_cons_zero, List.setIfInBounds_toArray, List.set_cons_zero, List.set_cons_succ]
        refine heldS_two (i := 4) (k := 5) (by kernel_rfl) rfl rfl (fun K hK => ?_) (fun K hK => ?_)
        · go_simp
          have hb3 := (Below.refl U2.heap.size U2).alloc (Nat.le_refl _) (Obj.cells #[.int .i64 0, .int .u64 0, .int .u64 0, .string ⟨#[]⟩] 26)
          have hB3 := hB2.trans (hb3.mono hB2.size)
          have R5_3 := World.alloc_heap_new U2 (Obj.cells #[.int .i64 0, .int .u64 0, .int .u64 0, .string ⟨#[]⟩] 26)
          have L5 := hB2.size
          refine hK _ _ (HS.out _ hB3) ?_
          clear hK K hb3
          try simp only [Act.put, List.getElem_toArray, List.getElem_cons_succ, List.getElem_cons_zero, List.setIfInBounds_toArray, List.set_cons_zero, List.set_cons_succ]
          generalize U2.alloc (Obj.cells #[.int .i64 0, .int .u64 0, .int .u64 0, .string ⟨#[]⟩] 26) = U3 at hB3 R5_3 ⊢
          refine heldS_one (i := 5) (by kernel_rfl) rfl (fun K hK => ?_)
          go_simp
          have hb4 := (Below.refl U3.heap.size U3).alloc (Nat.le_refl _) (Obj.cells #[.int .i64 0, .int .u64 0, .int .u64 0, .string ⟨#[]⟩] 26)
          have hB4 := hB3.trans (hb4.mono hB3.size)
          have R6_4 := World.alloc_heap_new U3 (Obj.cells #[.int .i64 0, .int .u64 0, .int .u64 0, .string ⟨#[]⟩] 26)
          have L6 := hB3.size
          have R5_4 := (hb4.block _ (Array.getElem?_eq_some_iff.1 R5_3).1).trans R5_3
          have hne : U2.heap.size ≠ U3.heap.size := Nat.ne_of_lt (Array.getElem?_eq_some_iff.1 R5_3).1
          have hne2 : U3.heap.size ≠ U2.heap.size := hne.symm
          refine hK _ _ (HS.out _ hB4) ?_
          clear hK K hb4
          try simp only [Act.put, List.getElem_toArray, List.getElem_cons_succ, List.getElem_cons_zero, List.setIfInBounds_toArray, List.set_cons_zero, List.set_cons_succ]
          generalize U3.alloc (Obj.cells #[.int .i64 0, .int .u64 0, .int .u64 0, .string ⟨#[]⟩] 26) = U4 at hB4 R6_4 R5_4 ⊢
          refine heldS_one (i := 6) (by kernel_rfl) rfl (fun K hK => ?_)
          have y0 : U4.cell? ⟨U2.heap.size, 0, none⟩ = some (.int .i64 0) := cell_of_row _ _ _ _ _ _ R5_4
          have z0 : U4.frozen? ⟨U2.heap.size, 0, none⟩ = false := frozen_of_row _ _ _ _ _ R5_4
          have y1 : U4.cell? ⟨U2.heap.size, 1, none⟩ = some (.int .u64 0) := cell_of_row _ _ _ _ _ _ R5_4
          have z1 : U4.frozen? ⟨U2.heap.size, 1, none⟩ = false := frozen_of_row _ _ _ _ _ R5_4
          have y2 : U4.cell? ⟨U2.heap.size, 2, none⟩ = some (.int .u64 0) := cell_of_row _ _ _ _ _ _ R5_4
          have z2 : U4.frozen? ⟨U2.heap.size, 2, none⟩ = false := frozen_of_row _ _ _ _ _ R5_4
          have y3 : U4.cell? ⟨U2.heap.size, 3, none⟩ = some (.string ⟨#[]⟩) := cell_of_row _ _ _ _ _ _ R5_4
          have z3 : U4.frozen? ⟨U2.heap.size, 3, none⟩ = false := frozen_of_row _ _ _ _ _ R5_4
          go_simp
          have hF := four_sets U4 (U2.heap.size) _ _ _ _ (.int .i64 kd) (.int .u64 (bt : Nat)) (.int .u64 (nm : Nat)) (.string bd) _ R5_4
          have hB5 := hB4.trans (hF.1.mono L5)
          have R5_5 := hF.2
          have R6_5 := (four_other U4 (U2.heap.size) (U3.heap.size) (.int .i64 kd) (.int .u64 (bt : Nat)) (.int .u64 (nm : Nat)) (.string bd) (by first | exact hne | exact hne2)).trans R6_4
          refine hK _ _ (HS.out _ hB5) ?_
          clear hK K hF y0 y1 y2 y3 z0 z1 z2 z3
          try simp only [Act.put, List.getElem_toArray, List.getElem_cons_succ, List.getElem_cons_zero, List.setIfInBounds_toArray, List.set_cons_zero, List.set_cons_succ]
          generalize ((((U4.setCell ⟨U2.heap.size, 0, none⟩ (.int .i64 kd)).setCell ⟨U2.heap.size, 1, none⟩ (.int .u64 (bt : Nat))).setCell ⟨U2.heap.size, 2, none⟩ (.int .u64 (nm : Nat))).setCell ⟨U2.heap.size, 3, none⟩ (.string bd)) = U5 at hB5 R5_5 R6_5 ⊢
          refine heldS_one (i := 7) (by kernel_rfl) rfl (fun K hK => ?_)
          have y0 : U5.cell? ⟨U3.heap.size, 0, none⟩ = some (.int .i64 0) := cell_of_row _ _ _ _ _ _ R6_5
          have z0 : U5.frozen? ⟨U3.heap.size, 0, none⟩ = false := frozen_of_row _ _ _ _ _ R6_5
          have y1 : U5.cell? ⟨U3.heap.size, 1, none⟩ = some (.int .u64 0) := cell_of_row _ _ _ _ _ _ R6_5
          have z1 : U5.frozen? ⟨U3.heap.size, 1, none⟩ = false := frozen_of_row _ _ _ _ _ R6_5
          have y2 : U5.cell? ⟨U3.heap.size, 2, none⟩ = some (.int .u64 0) := cell_of_row _ _ _ _ _ _ R6_5
          have z2 : U5.frozen? ⟨U3.heap.size, 2, none⟩ = false := frozen_of_row _ _ _ _ _ R6_5
          have y3 : U5.cell? ⟨U3.heap.size, 3, none⟩ = some (.string ⟨#[]⟩) := cell_of_row _ _ _ _ _ _ R6_5
          have z3 : U5.frozen? ⟨U3.heap.size, 3, none⟩ = false := frozen_of_row _ _ _ _ _ R6_5
          go_simp
          have hF := four_sets U5 (U3.heap.size) _ _ _ _ (.int .i64 kd2) (.int .u64 (bt2 : Nat)) (.int .u64 (nm2 : Nat)) (.string bd2) _ R6_5
          have hB6 := hB5.trans (hF.1.mono L6)
          have R6_6 := hF.2
          have R5_6 := (four_other U5 (U3.heap.size) (U2.heap.size) (.int .i64 kd2) (.int .u64 (bt2 : Nat)) (.int .u64 (nm2 : Nat)) (.string bd2) (by first | exact hne | exact hne2)).trans R5_5
          refine hK _ _ (HS.out _ hB6) ?_
          clear hK K hF y0 y1 y2 y3 z0 z1 z2 z3
          try simp only [Act.put, List.getElem_toArray, List.getElem_cons_succ, List.getElem_cons_zero, List.setIfInBounds_toArray, List.set_cons_zero, List.set_cons_succ]
          generalize ((((U5.setCell ⟨U3.heap.size, 0, none⟩ (.int .i64 kd2)).setCell ⟨U3.heap.size, 1, none⟩ (.int .u64 (bt2 : Nat))).setCell ⟨U3.heap.size, 2, none⟩ (.int .u64 (nm2 : Nat))).setCell ⟨U3.heap.size, 3, none⟩ (.string bd2)) = U6 at hB6 R5_6 R6_6 ⊢
          refine wpAnyH_done (by kernel_rfl) ?_ _
          go_wp2_with fail
          go_meet
          case rel => exact ⟨_, _, rfl, rfl, hide ⟨HS0.out.step hB6, R5_6, R6_6⟩⟩
        · go_simp
          have hb3 := (Below.refl U2.heap.size U2).alloc (Nat.le_refl _) (Obj.cells #[.int .i64 0, .int .u64 0, .int .u64 0, .string ⟨#[]⟩] 26)
          have hB3 := hB2.trans (hb3.mono hB2.size)
          have R6_3 := World.alloc_heap_new U2 (Obj.cells #[.int .i64 0, .int .u64 0, .int .u64 0, .string ⟨#[]⟩] 26)
          have L6 := hB2.size
          refine hK _ _ (HS.out _ hB3) ?_
          clear hK K hb3
          try simp only [Act.put, List.getElem_toArray, List.getElem_cons_succ, List.getElem_cons_zero, List.setIfInBounds_toArray, List.set_cons_zero, List.set_cons_succ]
          generalize U2.alloc (Obj.cells #[.int .i64 0, .int .u64 0, .int .u64 0, .string ⟨#[]⟩] 26) = U3 at hB3 R6_3 ⊢
          refine heldS_one (i := 4) (by kernel_rfl) rfl (fun K hK => ?_)
          go_simp
          have hb4 := (Below.refl U3.heap.size U3).alloc (Nat.le_refl _) (Obj.cells #[.int .i64 0, .int .u64 0, .int .u64 0, .string ⟨#[]⟩] 26)
          have hB4 := hB3.trans (hb4.mono hB3.size)
          have R5_4 := World.alloc_heap_new U3 (Obj.cells #[.int .i64 0, .int .u64 0, .int .u64 0, .string ⟨#[]⟩] 26)
          have L5 := hB3.size
          have R6_4 := (hb4.block _ (Array.getElem?_eq_some_iff.1 R6_3).1).trans R6_3
          have hne : U2.heap.size ≠ U3.heap.size := Nat.ne_of_lt (Array.getElem?_eq_some_iff.1 R6_3).1
          have hne2 : U3.heap.size ≠ U2.heap.size := hne.symm
          refine hK _ _ (HS.out _ hB4) ?_
          clear hK K hb4
          try simp only [Act.put, List.getElem_toArray, List.getElem_cons_succ, List.getElem_cons_zero, List.setIfInBounds_toArray, List.set_cons_zero, List.set_cons_succ]
          generalize U3.alloc (Obj.cells #[.int .i64 0, .int .u64 0, .int .u64 0, .string ⟨#[]⟩] 26) = U4 at hB4 R5_4 R6_4 ⊢
          refine heldS_one (i := 6) (by kernel_rfl) rfl (fun K hK => ?_)
          have y0 : U4.cell? ⟨U3.heap.size, 0, none⟩ = some (.int .i64 0) := cell_of_row _ _ _ _ _ _ R5_4
          have z0 : U4.frozen? ⟨U3.heap.size, 0, none⟩ = false := frozen_of_row _ _ _ _ _ R5_4
          have y1 : U4.cell? ⟨U3.heap.size, 1, none⟩ = some (.int .u64 0) := cell_of_row _ _ _ _ _ _ R5_4
          have z1 : U4.frozen? ⟨U3.heap.size, 1, none⟩ = false := frozen_of_row _ _ _ _ _ R5_4
          have y2 : U4.cell? ⟨U3.heap.size, 2, none⟩ = some (.int .u64 0) := cell_of_row _ _ _ _ _ _ R5_4
          have z2 : U4.frozen? ⟨U3.heap.size, 2, none⟩ = false := frozen_of_row _ _ _ _ _ R5_4
          have y3 : U4.cell? ⟨U3.heap.size, 3, none⟩ = some (.string ⟨#[]⟩) := cell_of_row _ _ _ _ _ _ R5_4
          have z3 : U4.frozen? ⟨U3.heap.size, 3, none⟩ = false := frozen_of_row _ _ _ _ _ R5_4
          go_simp
          have hF := four_sets U4 (U3.heap.size) _ _ _ _ (.int .i64 kd) (.int .u64 (bt : Nat)) (.int .u64 (nm : Nat)) (.string bd) _ R5_4
          have hB5 := hB4.trans (hF.1.mono L5)
          have R5_5 := hF.2
          have R6_5 := (four_other U4 (U3.heap.size) (U2.heap.size) (.int .i64 kd) (.int .u64 (bt : Nat)) (.int .u64 (nm : Nat)) (.string bd) (by first | exact hne | exact hne2)).trans R6_4
          refine hK _ _ (HS.out _ hB5) ?_
          clear hK K hF y0 y1 y2 y3 z0 z1 z2 z3
          try simp only [Act.put, List.getElem_toArray, List.getElem_cons_succ, List.getElem_cons_zero, List.setIfInBounds_toArray, List.set_cons_zero, List.set_cons_succ]
          generalize ((((U4.setCell ⟨U3.heap.size, 0, none⟩ (.int .i64 kd)).setCell ⟨U3.heap.size, 1, none⟩ (.int .u64 (bt : Nat))).setCell ⟨U3.heap.size, 2, none⟩ (.int .u64 (nm : Nat))).setCell ⟨U3.heap.size, 3, none⟩ (.string bd)) = U5 at hB5 R5_5 R6_5 ⊢
          refine heldS_one (i := 7) (by kernel_rfl) rfl (fun K hK => ?_)
          have y0 : U5.cell? ⟨U2.heap.size, 0, none⟩ = some (.int .i64 0) := cell_of_row _ _ _ _ _ _ R6_5
          have z0 : U5.frozen? ⟨U2.heap.size, 0, none⟩ = false := frozen_of_row _ _ _ _ _ R6_5
          have y1 : U5.cell? ⟨U2.heap.size, 1, none⟩ = some (.int .u64 0) := cell_of_row _ _ _ _ _ _ R6_5
          have z1 : U5.frozen? ⟨U2.heap.size, 1, none⟩ = false := frozen_of_row _ _ _ _ _ R6_5
          have y2 : U5.cell? ⟨U2.heap.size, 2, none⟩ = some (.int .u64 0) := cell_of_row _ _ _ _ _ _ R6_5
          have z2 : U5.frozen? ⟨U2.heap.size, 2, none⟩ = false := frozen_of_row _ _ _ _ _ R6_5
          have y3 : U5.cell? ⟨U2.heap.size, 3, none⟩ = some (.string ⟨#[]⟩) := cell_of_row _ _ _ _ _ _ R6_5
          have z3 : U5.frozen? ⟨U2.heap.size, 3, none⟩ = false := frozen_of_row _ _ _ _ _ R6_5
          go_simp
          have hF := four_sets U5 (U2.heap.size) _ _ _ _ (.int .i64 kd2) (.int .u64 (bt2 : Nat)) (.int .u64 (nm2 : Nat)) (.string bd2) _ R6_5
          have hB6 := hB5.trans (hF.1.mono L6)
          have R6_6 := hF.2
          have R5_6 := (four_other U5 (U2.heap.size) (U3.heap.size) (.int .i64 kd2) (.int .u64 (bt2 : Nat)) (.int .u64 (nm2 : Nat)) (.string bd2) (by first | exact hne | exact hne2)).trans R5_5
          refine hK _ _ (HS.out _ hB6) ?_
          clear hK K hF y0 y1 y2 y3 z0 z1 z2 z3
          try simp only [Act.put, List.getElem_toArray, List.getElem_cons_succ, List.getElem_cons_zero, List.setIfInBounds_toArray, List.set_cons_zero, List.set_cons_succ]
          generalize ((((U5.setCell ⟨U2.heap.size, 0, none⟩ (.int .i64 kd2)).setCell ⟨U2.heap.size, 1, none⟩ (.int .u64 (bt2 : Nat))).setCell ⟨U2.heap.size, 2, none⟩ (.int .u64 (nm2 : Nat))).setCell ⟨U2.heap.size, 3, none⟩ (.string bd2)) = U6 at hB6 R5_6 R6_6 ⊢
          refine wpAnyH_done (by kernel_rfl) ?_ _
          go_wp2_with fail
          go_meet
          case rel => exact ⟨_, _, rfl, rfl, hide ⟨HS0.out.step hB6, R5_6, R6_6⟩⟩
      · go_simp
        have hb2 := (Below.refl U1.heap.size U1).alloc (Nat.le_refl _) (Obj.cells #[.int .i64 0, .int .u64 0, .int .u64 0, .string ⟨#[]⟩] 26)
        have hB2 := hB1.trans (hb2.mono hB1.size)
        have R5_2 := World.alloc_heap_new U1 (Obj.cells #[.int .i64 0, .int .u64 0, .int .u64 0, .string ⟨#[]⟩] 26)
        have L5 := hB1.size
        refine hK _ _ (HS.out _ hB2) ?_
        clear hK K hb2
        try simp only [Act.put, List.getElem_toArray, List.getElem_cons_succ, List.getElem_cons_zero, List.setIfInBounds_toArray, List.set_cons_zero, List.set_cons_succ]
        generalize U1.alloc (Obj.cells #[.int .i64 0, .int .u64 0, .int .u64 0, .string ⟨#[]⟩] 26) = U2 at hB2 R5_2 ⊢
        refine heldS_two (i := 3) (k := 5) (by kernel_rfl) rfl rfl (fun K hK => ?_) (fun K hK => ?_)
        · go_simp
          refine (HT2.out _).mono ?_
          rintro en U3 ⟨rfl, hb3⟩
          have hB3 := hB2.trans (hb3.mono hB2.size)
          have R5_3 := (hb3.block _ (Array.getElem?_eq_some_iff.1 R5_2).1).trans R5_2
          refine hK _ _ (HS.out _ hB3) ?_
          clear hK K hb3
          try simp only [Act.put, List.getElem_toArray, List.getElem_cons_succ, List.getElem_cons_zero, List.setIfInBounds_toArray, List.set_cons_zero, List.set_cons_succ]
          refine heldS_one (i := 5) (by kernel_rfl) rfl (fun K hK => ?_)
          go_simp
          have hb4 := (Below.refl U3.heap.size U3).alloc (Nat.le_refl _) (Obj.cells #[.int .i64 0, .int .u64 0, .int .u64 0, .string ⟨#[]⟩] 26)
          have hB4 := hB3.trans (hb4.mono hB3.size)
          have R6_4 := World.alloc_heap_new U3 (Obj.cells #[.int .i64 0, .int .u64 0, .int .u64 0, .string ⟨#[]⟩] 26)
          have L6 := hB3.size
          have R5_4 := (hb4.block _ (Array.getElem?_eq_some_iff.1 R5_3).1).trans R5_3
          have hne : U1.heap.size ≠ U3.heap.size := Nat.ne_of_lt (Array.getElem?_eq_some_iff.1 R5_3).1
          have hne2 : U3.heap.size ≠ U1.heap.size := hne.symm
          refine hK _ _ (HS.out _ hB4) ?_
          clear hK K hb4
          try simp only [Act.put, List.getElem_toArray, List.getElem_cons_succ, List.getElem_cons_zero, List.setIfInBounds_toArray, List.set_cons_zero, List.set_cons_succ]
          generalize U3.alloc (Obj.cells #[.int .i64 0, .int .u64 0, .int .u64 0, .string ⟨#[]⟩] 26) = U4 at hB4 R6_4 R5_4 ⊢
          refine heldS_one (i := 6) (by kernel_rfl) rfl (fun K hK => ?_)
          have y0 : U4.cell? ⟨U1.heap.size, 0, none⟩ = some (.int .i64 0) := cell_of_row _ _ _ _ _ _ R5_4
          have z0 : U4.frozen? ⟨U1.heap.size, 0, none⟩ = false := frozen_of_row _ _ _ _ _ R5_4
          have y1 : U4.cell? ⟨U1.heap.size, 1, none⟩ = some (.int .u64 0) := cell_of_row _ _ _ _ _ _ R5_4
          have z1 : U4.frozen? ⟨U1.heap.size, 1, none⟩ = false := frozen_of_row _ _ _ _ _ R5_4
          have y2 : U4.cell? ⟨U1.heap.size, 2, none⟩ = some (.int .u64 0) := cell_of_row _ _ _ _ _ _ R5_4
          have z2 : U4.frozen? ⟨U1.heap.size, 2, none⟩ = false := frozen_of_row _ _ _ _ _ R5_4
          have y3 : U4.cell? ⟨U1.heap.size, 3, none⟩ = some (.string ⟨#[]⟩) := cell_of_row _ _ _ _ _ _ R5_4
          have z3 : U4.frozen? ⟨U1.heap.size, 3, none⟩ = false := frozen_of_row _ _ _ _ _ R5_4
          go_simp
          have hF := four_sets U4 (U1.heap.size) _ _ _ _ (.int .i64 kd) (.int .u64 (bt : Nat)) (.int .u64 (nm : Nat)) (.string bd) _ R5_4
          have hB5 := hB4.trans (hF.1.mono L5)
          have R5_5 := hF.2
          have R6_5 := (four_other U4 (U1.heap.size) (U3.heap.size) (.int .i64 kd) (.int .u64 (bt : Nat)) (.int .u64 (nm : Nat)) (.string bd) (by first | exact hne | exact hne2)).trans R6_4
          refine hK _ _ (HS.out _ hB5) ?_
          clear hK K hF y0 y1 y2 y3 z0 z1 z2 z3
          try simp only [Act.put, List.getElem_toArray, List.getElem_cons_succ, List.getElem_cons_zero, List.setIfInBounds_toArray, List.set_cons_zero, List.set_cons_succ]
          generalize ((((U4.setCell ⟨U1.heap.size, 0, none⟩ (.int .i64 kd)).setCell ⟨U1.heap.size, 1, none⟩ (.int .u64 (bt : Nat))).setCell ⟨U1.heap.size, 2, none⟩ (.int .u64 (nm : Nat))).setCell ⟨U1.heap.size, 3, none⟩ (.string bd)) = U5 at hB5 R5_5 R6_5 ⊢
          refine heldS_one (i := 7) (by kernel_rfl) rfl (fun K hK => ?_)
          have y0 : U5.cell? ⟨U3.heap.size, 0, none⟩ = some (.int .i64 0) := cell_of_row _ _ _ _ _ _ R6_5
          have z0 : U5.frozen? ⟨U3.heap.size, 0, none⟩ = false := frozen_of_row _ _ _ _ _ R6_5
          have y1 : U5.cell? ⟨U3.heap.size, 1, none⟩ = some (.int .u64 0) := cell_of_row _ _ _ _ _ _ R6_5
          have z1 : U5.frozen? ⟨U3.heap.size, 1, none⟩ = false := frozen_of_row _ _ _ _ _ R6_5
          have y2 : U5.cell? ⟨U3.heap.size, 2, none⟩ = some (.int .u64 0) := cell_of_row _ _ _ _ _ _ R6_5
          have z2 : U5.frozen? ⟨U3.heap.size, 2, none⟩ = false := frozen_of_row _ _ _ _ _ R6_5
          have y3 : U5.cell? ⟨U3.heap.size, 3, none⟩ = some (.string ⟨#[]⟩) := cell_of_row _ _ _ _ _ _ R6_5
          have z3 : U5.frozen? ⟨U3.heap.size, 3, none⟩ = false := frozen_of_row _ _ _ _ _ R6_5
          go_simp
          have hF := four_sets U5 (U3.heap.size) _ _ _ _ (.int .i64 kd2) (.int .u64 (bt2 : Nat)) (.int .u64 (nm2 : Nat)) (.string bd2) _ R6_5
          have hB6 := hB5.trans (hF.1.mono L6)
          have R6_6 := hF.2
          have R5_6 := (four_other U5 (U3.heap.size) (U1.heap.size) (.int .i64 kd2) (.int .u64 (bt2 : Nat)) (.int .u64 (nm2 : Nat)) (.string bd2) (by first | exact hne | exact hne2)).trans R5_5
          refine hK _ _ (HS.out _ hB6) ?_
          clear hK K hF y0 y1 y2 y3 z0 z1 z2 z3
          try simp only [Act.put, List.getElem_toArray, List.getElem_cons_succ, List.getElem_cons_zero, List.setIfInBounds_toArray, List.set_cons_zero, List.set_cons_succ]
          generalize ((((U5.setCell ⟨U3.heap.size, 0, none⟩ (.int .i64 kd2)).setCell ⟨U3.heap.size, 1, none⟩ (.int .u64 (bt2 : Nat))).setCell ⟨U3.heap.size, 2, none⟩ (.int .u64 (nm2 : Nat))).setCell ⟨U3.heap.size, 3, none⟩ (.string bd2)) = U6 at hB6 R5_6 R6_6 ⊢
          refine wpAnyH_done (by kernel_rfl) ?_ _
          go_wp2_with fail
          go_meet
          case rel => exact ⟨_, _, rfl, rfl, hide ⟨HS0.out.step hB6, R5_6, R6_6⟩⟩
        · go_simp
          have hb3 := (Below.refl U2.heap.size U2).alloc (Nat.le_refl _) (Obj.cells #[.int .i64 0, .int .u64 0, .int .u64 0, .string ⟨#[]⟩] 26)
          have hB3 := hB2.trans (hb3.mono hB2.size)
          have R6_3 := World.alloc_heap_new U2 (Obj.cells #[.int .i64 0, .int .u64 0, .int .u64 0, .string ⟨#[]⟩] 26)
          have L6 := hB2.size
          have R5_3 := (hb3.block _ (Array.getElem?_eq_some_iff.1 R5_2).1).trans R5_2
          have hne : U1.heap.size ≠ U2.heap.size := Nat.ne_of_lt (Array.getElem?_eq_some_iff.1 R5_2).1
          have hne2 : U2.heap.size ≠ U1.heap.size := hne.symm
          refine hK _ _ (HS.out _ hB3) ?_
          clear hK K hb3
          try simp only [Act.put, List.getElem_toArray, List.getElem_cons_succ, List.getElem_cons_zero, List.setIfInBounds_toArray, List.set_cons_zero, List.set_cons_succ]
          generalize U2.alloc (Obj.cells #[.int .i64 0, .int .u64 0, .int .u64 0, .string ⟨#[]⟩] 26) = U3 at hB3 R6_3 R5_3 ⊢
          refine heldS_one (i := 3) (by kernel_rfl) rfl (fun K hK => ?_)
          go_simp
          refine (HT2.out _).mono ?_
          rintro en U4 ⟨rfl, hb4⟩
          have hB4 := hB3.trans (hb4.mono hB3.size)
          have R5_4 := (hb4.block _ (Array.getElem?_eq_some_iff.1 R5_3).1).trans R5_3
          have R6_4 := (hb4.block _ (Array.getElem?_eq_some_iff.1 R6_3).1).trans R6_3
          refine hK _ _ (HS.out _ hB4) ?_
          clear hK K hb4
          try simp only [Act.put, List.getElem_toArray, List.getElem_cons_succ, List.getElem_cons_zero, List.setIfInBounds_toArray, List.set_cons_zero, List.set_cons_succ]
          refine heldS_one (i := 6) (by kernel_rfl) rfl (fun K hK => ?_)
          have y0 : U4.cell? ⟨U1.heap.size, 0, none⟩ = some (.int .i64 0) := cell_of_row _ _ _ _ _ _ R5_4
          have z0 : U4.frozen? ⟨U1.heap.size, 0, none⟩ = false := frozen_of_row _ _ _ _ _ R5_4
          have y1 : U4.cell? ⟨U1.heap.size, 1, none⟩ = some (.int .u64 0) := cell_of_row _ _ _ _ _ _ R5_4
          have z1 : U4.frozen? ⟨U1.heap.size, 1, none⟩ = false := frozen_of_row _ _ _ _ _ R5_4
          have y2 : U4.cell? ⟨U1.heap.size, 2, none⟩ = some (.int .u64 0) := cell_of_row _ _ _ _ _ _ R5_4
          have z2 : U4.frozen? ⟨U1.heap.size, 2, none⟩ = false := frozen_of_row _ _ _ _ _ R5_4
          have y3 : U4.cell? ⟨U1.heap.size, 3, none⟩ = some (.string ⟨#[]⟩) := cell_of_row _ _ _ _ _ _ R5_4
          have z3 : U4.frozen? ⟨U1.heap.size, 3, none⟩ = false := frozen_of_row _ _ _ _ _ R5_4
          go_simp
          have hF := four_sets U4 (U1.heap.size) _ _ _ _ (.int .i64 kd) (.int .u64 (bt : Nat)) (.int .u64 (nm : Nat)) (.string bd) _ R5_4
          have hB5 := hB4.trans (hF.1.mono L5)
          have R5_5 := hF.2
          have R6_5 := (four_other U4 (U1.heap.size) (U2.heap.size) (.int .i64 kd) (.int .u64 (bt : Nat)) (.int .u64 (nm : Nat)) (.string bd) (by first | exact hne | exact hne2)).trans R6_4
          refine hK _ _ (HS.out _ hB5) ?_
          clear hK K hF y0 y1 y2 y3 z0 z1 z2 z3
          try simp only [Act.put, List.getElem_toArray, List.getElem_cons_succ, List.getElem_cons_zero, List.setIfInBounds_toArray, List.set_cons_zero, List.set_cons_succ]
          generalize ((((U4.setCell ⟨U1.heap.size, 0, none⟩ (.int .i64 kd)).setCell ⟨U1.heap.size, 1, none⟩ (.int .u64 (bt : Nat))).setCell ⟨U1.heap.size, 2, none⟩ (.int .u64 (nm : Nat))).setCell ⟨U1.heap.size, 3, none⟩ (.string bd)) = U5 at hB5 R5_5 R6_5 ⊢
          refine heldS_one (i := 7) (by kernel_rfl) rfl (fun K hK => ?_)
          have y0 : U5.cell? ⟨U2.heap.size, 0, none⟩ = some (.int .i64 0) := cell_of_row _ _ _ _ _ _ R6_5
          have z0 : U5.frozen? ⟨U2.heap.size, 0, none⟩ = false := frozen_of_row _ _ _ _ _ R6_5
          have y1 : U5.cell? ⟨U2.heap.size, 1, none⟩ = some (.int .u64 0) := cell_of_row _ _ _ _ _ _ R6_5
          have z1 : U5.frozen? ⟨U2.heap.size, 1, none⟩ = false := frozen_of_row _ _ _ _ _ R6_5
          have y2 : U5.cell? ⟨U2.heap.size, 2, none⟩ = some (.int .u64 0) := cell_of_row _ _ _ _ _ _ R6_5
          have z2 : U5.frozen? ⟨U2.heap.size, 2, none⟩ = false := frozen_of_row _ _ _ _ _ R6_5
          have y3 : U5.cell? ⟨U2.heap.size, 3, none⟩ = some (.string ⟨#[]⟩) := cell_of_row _ _ _ _ _ _ R6_5
          have z3 : U5.frozen? ⟨U2.heap.size, 3, none⟩ = false := frozen_of_row _ _ _ _ _ R6_5
          go_simp
          have hF := four_sets U5 (U2.heap.size) _ _ _ _ (.int .i64 kd2) (.int .u64 (bt2 : Nat)) (.int .u64 (nm2 : Nat)) (.string bd2) _ R6_5
          have hB6 := hB5.trans (hF.1.mono L6)
          have R6_6 := hF.2
          have R5_6 := (four_other U5 (U2.heap.size) (U1.heap.size) (.int .i64 kd2) (.int .u64 (bt2 : Nat)) (.int .u64 (nm2 : Nat)) (.string bd2) (by first | exact hne | exact hne2)).trans R5_5
          refine hK _ _ (HS.out _ hB6) ?_
          clear hK K hF y0 y1 y2 y3 z0 z1 z2 z3
          try simp only [Act.put, List.getElem_toArray, List.getElem_cons_succ, List.getElem_cons_zero, List.setIfInBounds_toArray, List.set_cons_zero, List.set_cons_succ]
          generalize ((((U5.setCell ⟨U2.heap.size, 0, none⟩ (.int .i64 kd2)).setCell ⟨U2.heap.size, 1, none⟩ (.int .u64 (bt2 : Nat))).setCell ⟨U2.heap.size, 2, none⟩ (.int .u64 (nm2 : Nat))).setCell ⟨U2.heap.size, 3, none⟩ (.string bd2)) = U6 at hB6 R5_6 R6_6 ⊢
          refine wpAnyH_done (by kernel_rfl) ?_ _
          go_wp2_with fail
          go_meet
          case rel => exact ⟨_, _, rfl, rfl, hide ⟨HS0.out.step hB6, R5_6, R6_6⟩⟩
      · go_simp
        have hb2 := (Below.refl U1.heap.size U1).alloc (Nat.le_refl _) (Obj.cells #[.int .i64 0, .int .u64 0, .int .u64 0, .string ⟨#[]⟩] 26)
        have hB2 := hB1.trans (hb2.mono hB1.size)
        have R6_2 := World.alloc_heap_new U1 (Obj.cells #[.int .i64 0, .int .u64 0, .int .u64 0, .string ⟨#[]⟩] 26)
        have L6 := hB1.size
        refine hK _ _ (HS.out _ hB2) ?_
        clear hK K hb2
        try simp only [Act.put, List.getElem_toArray, List.getElem_cons_succ, List.getElem_cons_zero, List.setIfInBounds_toArray, List.set_cons_zero, List.set_cons_succ]
        generalize U1.alloc (Obj.cells #[.int .i64 0, .int .u64 0, .int .u64 0, .string ⟨#[]⟩] 26) = U2 at hB2 R6_2 ⊢
        refine heldS_two (i := 3) (k := 4) (by kernel_rfl) rfl rfl (fun K hK => ?_) (fun K hK => ?_)
        · go_simp
          refine (HT2.out _).mono ?_
          rintro en U3 ⟨rfl, hb3⟩
          have hB3 := hB2.trans (hb3.mono hB2.size)
          have R6_3 := (hb3.block _ (Array.getElem?_eq_some_iff.1 R6_2).1).trans R6_2
          refine hK _ _ (HS.out _ hB3) ?_
          clear hK K hb3
          try simp only [Act.put, List.getElem_toArray, List.getElem_cons_succ, List.getElem_cons_zero, List.setIfInBounds_toArray, List.set_cons_zero, List.set_cons_succ]
          refine heldS_one (i := 4) (by kernel_rfl) rfl (fun K hK => ?_)
          go_simp
          have hb4 := (Below.refl U3.heap.size U3).alloc (Nat.le_refl _) (Obj.cells #[.int .i64 0, .int .u64 0, .int .u64 0, .string ⟨#[]⟩] 26)
          have hB4 := hB3.trans (hb4.mono hB3.size)
          have R5_4 := World.alloc_heap_new U3 (Obj.cells #[.int .i64 0, .int .u64 0, .int .u64 0, .string ⟨#[]⟩] 26)
          have L5 := hB3.size
          have R6_4 := (hb4.block _ (Array.getElem?_eq_some_iff.1 R6_3).1).trans R6_3
          have hne : U1.heap.size ≠ U3.heap.size := Nat.ne_of_lt (Array.getElem?_eq_some_iff.1 R6_3).1
          have hne2 : U3.heap.size ≠ U1.heap.size := hne.symm
          refine hK _ _ (HS.out _ hB4) ?_
          clear hK K hb4
          try simp only [Act.put, List.getElem_toArray, List.getElem_cons_succ, List.getElem_cons_zero, List.setIfInBounds_toArray, List.set_cons_zero, List.set_cons_succ]
          generalize U3.alloc (Obj.cells #[.int .i64 0, .int .u64 0, .int .u64 0, .string ⟨#[]⟩] 26) = U4 at hB4 R5_4 R6_4 ⊢
          refine heldS_one (i := 6) (by kernel_rfl) rfl (fun K hK => ?_)
          have y0 : U4.cell? ⟨U3.heap.size, 0, none⟩ = some (.int .i64 0) := cell_of_row _ _ _ _ _ _ R5_4
          have z0 : U4.frozen? ⟨U3.heap.size, 0, none⟩ = false := frozen_of_row _ _ _ _ _ R5_4
          have y1 : U4.cell? ⟨U3.heap.size, 1, none⟩ = some (.int .u64 0) := cell_of_row _ _ _ _ _ _ R5_4
          have z1 : U4.frozen? ⟨U3.heap.size, 1, none⟩ = false := frozen_of_row _ _ _ _ _ R5_4
          have y2 : U4.cell? ⟨U3.heap.size, 2, none⟩ = some (.int .u64 0) := cell_of_row _ _ _ _ _ _ R5_4
          have z2 : U4.frozen? ⟨U3.heap.size, 2, none⟩ = false := frozen_of_row _ _ _ _ _ R5_4
          have y3 : U4.cell? ⟨U3.heap.size, 3, none⟩ = some (.string ⟨#[]⟩) := cell_of_row _ _ _ _ _ _ R5_4
          have z3 : U4.frozen? ⟨U3.heap.size, 3, none⟩ = false := frozen_of_row _ _ _ _ _ R5_4
          go_simp
          have hF := four_sets U4 (U3.heap.size) _ _ _ _ (.int .i64 kd) (.int .u64 (bt : Nat)) (.int .u64 (nm : Nat)) (.string bd) _ R5_4
          have hB5 := hB4.trans (hF.1.mono L5)
          have R5_5 := hF.2
          have R6_5 := (four_other U4 (U3.heap.size) (U1.heap.size) (.int .i64 kd) (.int .u64 (bt : Nat)) (.int .u64 (nm : Nat)) (.string bd) (by first | exact hne | exact hne2)).trans R6_4
          refine hK _ _ (HS.out _ hB5) ?_
          clear hK K hF y0 y1 y2 y3 z0 z1 z2 z3
          try simp only [Act.put, List.getElem_toArray, List.getElem_cons_succ, List.getElem_cons_zero, List.setIfInBounds_toArray, List.set_cons_zero, List.set_cons_succ]
          generalize ((((U4.setCell ⟨U3.heap.size, 0, none⟩ (.int .i64 kd)).setCell ⟨U3.heap.size, 1, none⟩ (.int .u64 (bt : Nat))).setCell ⟨U3.heap.size, 2, none⟩ (.int .u64 (nm : Nat))).setCell ⟨U3.heap.size, 3, none⟩ (.string bd)) = U5 at hB5 R5_5 R6_5 ⊢
          refine heldS_one (i := 7) (by kernel_rfl) rfl (fun K hK => ?_)
          have y0 : U5.cell? ⟨U1.heap.size, 0, none⟩ = some (.int .i64 0) := cell_of_row _ _ _ _ _ _ R6_5
          have z0 : U5.frozen? ⟨U1.heap.size, 0, none⟩ = false := frozen_of_row _ _ _ _ _ R6_5
          have y1 : U5.cell? ⟨U1.heap.size, 1, none⟩ = some (.int .u64 0) := cell_of_row _ _ _ _ _ _ R6_5
          have z1 : U5.frozen? ⟨U1.heap.size, 1, none⟩ = false := frozen_of_row _ _ _ _ _ R6_5
          have y2 : U5.cell? ⟨U1.heap.size, 2, none⟩ = some (.int .u64 0) := cell_of_row _ _ _ _ _ _ R6_5
          have z2 : U5.frozen? ⟨U1.heap.size, 2, none⟩ = false := frozen_of_row _ _ _ _ _ R6_5
          have y3 : U5.cell? ⟨U1.heap.size, 3, none⟩ = some (.string ⟨#[]⟩) := cell_of_row _ _ _ _ _ _ R6_5
          have z3 : U5.frozen? ⟨U1.heap.size, 3, none⟩ = false := frozen_of_row _ _ _ _ _ R6_5
          go_simp
          have hF := four_sets U5 (U1.heap.size) _ _ _ _ (.int .i64 kd2) (.int .u64 (bt2 : Nat)) (.int .u64 (nm2 : Nat)) (.string bd2) _ R6_5
          have hB6 := hB5.trans (hF.1.mono L6)
          have R6_6 := hF.2
          have R5_6 := (four_other U5 (U1.heap.size) (U3.heap.size) (.int .i64 kd2) (.int .u64 (bt2 : Nat)) (.int .u64 (nm2 : Nat)) (.string bd2) (by first | exact hne | exact hne2)).trans R5_5
          refine hK _ _ (HS.out _ hB6) ?_
          clear hK K hF y0 y1 y2 y3 z0 z1 z2 z3
          try simp only [Act.put, List.getElem_toArray, List.getElem_cons_succ, List.getElem_cons_zero, List.setIfInBounds_toArray, List.set_cons_zero, List.set_cons_succ]
          generalize ((((U5.setCell ⟨U1.heap.size, 0, none⟩ (.int .i64 kd2)).setCell ⟨U1.heap.size, 1, none⟩ (.int .u64 (bt2 : Nat))).setCell ⟨U1.heap.size, 2, none⟩ (.int .u64 (nm2 : Nat))).setCell ⟨U1.heap.size, 3, none⟩ (.string bd2)) = U6 at hB6 R5_6 R6_6 ⊢
          refine wpAnyH_done (by kernel_rfl) ?_ _
          go_wp2_with fail
          go_meet
          case rel => exact ⟨_, _, rfl, rfl, hide ⟨HS0.out.step hB6, R5_6, R6_6⟩⟩
        · go_simp
          have hb3 := (Below.refl U2.heap.size U2).alloc (Nat.le_refl _) (Obj.cells #[.int .i64 0, .int .u64 0, .int .u64 0, .string ⟨#[]⟩] 26)
          have hB3 := hB2.trans (hb3.mono hB2.size)
          have R5_3 := World.alloc_heap_new U2 (Obj.cells #[.int .i64 0, .int .u64 0, .int .u64 0, .string ⟨#[]⟩] 26)
          have L5 := hB2.size
          have R6_3 := (hb3.block _ (Array.getElem?_eq_some_iff.1 R6_2).1).trans R6_2
          have hne : U1.heap.size ≠ U2.heap.size := Nat.ne_of_lt (Array.getElem?_eq_some_iff.1 R6_2).1
          have hne2 : U2.heap.size ≠ U1.heap.size := hne.symm
          refine hK _ _ (HS.out _ hB3) ?_
          clear hK K hb3
          try simp only [Act.put, List.getElem_toArray, List.getElem_cons_succ, List.getElem_cons_zero, List.setIfInBounds_toArray, List.set_cons_zero, List.set_cons_succ]
          generalize U2.alloc (Obj.cells #[.int .i64 0, .int .u64 0, .int .u64 0, .string ⟨#[]⟩] 26) = U3 at hB3 R5_3 R6_3 ⊢
          refine heldS_one (i := 3) (by kernel_rfl) rfl (fun K hK => ?_)
          go_simp
          refine (HT2.out _).mono ?_
          rintro en U4 ⟨rfl, hb4⟩
          have hB4 := hB3.trans (hb4.mono hB3.size)
          have R5_4 := (hb4.block _ (Array.getElem?_eq_some_iff.1 R5_3).1).trans R5_3
          have R6_4 := (hb4.block _ (Array.getElem?_eq_some_iff.1 R6_3).1).trans R6_3
          refine hK _ _ (HS.out _ hB4) ?_
          clear hK K hb4
          try simp only [Act.put, List.getElem_toArray, List.getElem_cons_succ, List.getElem_cons_zero, List.setIfInBounds_toArray, List.set_cons_zero, List.set_cons_succ]
          refine heldS_one (i := 6) (by kernel_rfl) rfl (fun K hK => ?_)
          have y0 : U4.cell? ⟨U2.heap.size, 0, none⟩ = some (.int .i64 0) := cell_of_row _ _ _ _ _ _ R5_4
          have z0 : U4.frozen? ⟨U2.heap.size, 0, none⟩ = false := frozen_of_row _ _ _ _ _ R5_4
          have y1 : U4.cell? ⟨U2.heap.size, 1, none⟩ = some (.int .u64 0) := cell_of_row _ _ _ _ _ _ R5_4
          have z1 : U4.frozen? ⟨U2.heap.size, 1, none⟩ = false := frozen_of_row _ _ _ _ _ R5_4
          have y2 : U4.cell? ⟨U2.heap.size, 2, none⟩ = some (.int .u64 0) := cell_of_row _ _ _ _ _ _ R5_4
          have z2 : U4.frozen? ⟨U2.heap.size, 2, none⟩ = false := frozen_of_row _ _ _ _ _ R5_4
          have y3 : U4.cell? ⟨U2.heap.size, 3, none⟩ = some (.string ⟨#[]⟩) := cell_of_row _ _ _ _ _ _ R5_4
          have z3 : U4.frozen? ⟨U2.heap.size, 3, none⟩ = false := frozen_of_row _ _ _ _ _ R5_4
          go_simp
          have hF := four_sets U4 (U2.heap.size) _ _ _ _ (.int .i64 kd) (.int .u64 (bt : Nat)) (.int .u64 (nm : Nat)) (.string bd) _ R5_4
          have hB5 := hB4.trans (hF.1.mono L5)
          have R5_5 := hF.2
          have R6_5 := (four_other U4 (U2.heap.size) (U1.heap.size) (.int .i64 kd) (.int .u64 (bt : Nat)) (.int .u64 (nm : Nat)) (.string bd) (by first | exact hne | exact hne2)).trans R6_4
          refine hK _ _ (HS.out _ hB5) ?_
          clear hK K hF y0 y1 y2 y3 z0 z1 z2 z3
          try simp only [Act.put, List.getElem_toArray, List.getElem_cons_succ, List.getElem_cons_zero, List.setIfInBounds_toArray, List.set_cons_zero, List.set_cons_succ]
          generalize ((((U4.setCell ⟨U2.heap.size, 0, none⟩ (.int .i64 kd)).setCell ⟨U2.heap.size, 1, none⟩ (.int .u64 (bt : Nat))).setCell ⟨U2.heap.size, 2, none⟩ (.int .u64 (nm : Nat))).setCell ⟨U2.heap.size, 3, none⟩ (.string bd)) = U5 at hB5 R5_5 R6_5 ⊢
          refine heldS_one (i := 7) (by kernel_rfl) rfl (fun K hK => ?_)
          have y0 : U5.cell? ⟨U1.heap.size, 0, none⟩ = some (.int .i64 0) := cell_of_row _ _ _ _ _ _ R6_5
          have z0 : U5.frozen? ⟨U1.heap.size, 0, none⟩ = false := frozen_of_row _ _ _ _ _ R6_5
          have y1 : U5.cell? ⟨U1.heap.size, 1, none⟩ = some (.int .u64 0) := cell_of_row _ _ _ _ _ _ R6_5
          have z1 : U5.frozen? ⟨U1.heap.size, 1, none⟩ = false := frozen_of_row _ _ _ _ _ R6_5
          have y2 : U5.cell? ⟨U1.heap.size, 2, none⟩ = some (.int .u64 0) := cell_of_row _ _ _ _ _ _ R6_5
          have z2 : U5.frozen? ⟨U1.heap.size, 2, none⟩ = false := frozen_of_row _ _ _ _ _ R6_5
          have y3 : U5.cell? ⟨U1.heap.size, 3, none⟩ = some (.string ⟨#[]⟩) := cell_of_row _ _ _ _ _ _ R6_5
          have z3 : U5.frozen? ⟨U1.heap.size, 3, none⟩ = false := frozen_of_row _ _ _ _ _ R6_5
          go_simp
          have hF := four_sets U5 (U1.heap.size) _ _ _ _ (.int .i64 kd2) (.int .u64 (bt2 : Nat)) (.int .u64 (nm2 : Nat)) (.string bd2) _ R6_5
          have hB6 := hB5.trans (hF.1.mono L6)
          have R6_6 := hF.2
          have R5_6 := (four_other U5 (U1.heap.size) (U2.heap.size) (.int .i64 kd2) (.int .u64 (bt2 : Nat)) (.int .u64 (nm2 : Nat)) (.string bd2) (by first | exact hne | exact hne2)).trans R5_5
          refine hK _ _ (HS.out _ hB6) ?_
          clear hK K hF y0 y1 y2 y3 z0 z1 z2 z3
          try simp only [Act.put, List.getElem_toArray, List.getElem_cons_succ, List.getElem_cons_zero, List.setIfInBounds_toArray, List.set_cons_zero, List.set_cons_succ]
          generalize ((((U5.setCell ⟨U1.heap.size, 0, none⟩ (.int .i64 kd2)).setCell ⟨U1.heap.size, 1, none⟩ (.int .u64 (bt2 : Nat))).setCell ⟨U1.heap.size, 2, none⟩ (.int .u64 (nm2 : Nat))).setCell ⟨U1.heap.size, 3, none⟩ (.string bd2)) = U6 at hB6 R5_6 R6_6 ⊢
          refine wpAnyH_done (by kernel_rfl) ?_ _
          go_wp2_with fail
          go_meet
          case rel => exact ⟨_, _, rfl, rfl, hide ⟨HS0.out.step hB6, R5_6, R6_6⟩⟩
    · go_simp
      have hb1 := (Below.refl U0.heap.size U0).alloc (Nat.le_refl _) (Obj.cells #[.int .i64 0, .int .u64 0, .int .u64 0, .string ⟨#[]⟩] 26)
      have hB1 := hB0.trans (hb1.mono hB0.size)
      have R5_1 := World.alloc_heap_new U0 (Obj.cells #[.int .i64 0, .int .u64 0, .int .u64 0, .string ⟨#[]⟩] 26)
      have L5 := hB0.size
      refine hK _ _ (HS.out _ hB1) ?_
      clear hK K hb1
      try simp only [Act.put, List.getElem_toArray, List.getElem_cons_succ, List.getElem_cons_zero, List.setIfInBounds_toArray, List.set_cons_zero, List.set_cons_succ]
      generalize U0.alloc (Obj.cells #[.int .i64 0, .int .u64 0, .int .u64 0, .string ⟨#[]⟩] 26) = U1 at hB1 R5_1 ⊢
      refine heldS_two (i := 1) (k := 5) (by kernel_rfl) rfl rfl (fun K hK => ?_) (fun K hK => ?_)
      · go_simp
        refine (HT1.out _).mono ?_
        rintro en U2 ⟨rfl, hb2⟩
        have hB2 := hB1.trans (hb2.mono hB1.size)
        have R5_2 := (hb2.block _ (Array.getElem?_eq_some_iff.1 R5_1).1).trans R5_1
        refine hK _ _ (HS.out _ hB2) ?_
        clear hK K hb2
        try simp only [Act.put, List.getElem_toArray, List.getElem_cons_succ, List.getElem_cons_zero, List.setIfInBounds_toArray, List.set_cons_zero, List.set_cons_succ]
        refine heldS_two (i := 3) (k := 5) (by kernel_rfl) rfl rfl (fun K hK => ?_) (fun K hK => ?_)
        · go_simp
          refine (HT2.out _).mono ?_
          rintro en U3 ⟨rfl, hb3⟩
          have hB3 := hB2.trans (hb3.mono hB2.size)
          have R5_3 := (hb3.block _ (Array.getElem?_eq_some_iff.1 R5_2).1).trans R5_2
          refine hK _ _ (HS.out _ hB3) ?_
          clear hK K hb3
          try simp only [Act.put, List.getElem_toArray, List.getElem_cons_succ, List.getElem_cons_zero, List.setIfInBounds_toArray, List.set_cons_zero, List.set_cons_succ]
          refine heldS_one (i := 5) (by kernel_rfl) rfl (fun K hK => ?_)
          go_simp
          have hb4 := (Below.refl U3.heap.size U3).alloc (Nat.le_refl _) (Obj.cells #[.int .i64 0, .int .u64 0, .int .u64 0, .string ⟨#[]⟩] 26)
          have hB4 := hB3.trans (hb4.mono hB3.size)
          have R6_4 := World.alloc_heap_new U3 (Obj.cells #[.int .i64 0, .int .u64 0, .int .u64 0, .string ⟨#[]⟩] 26)
          have L6 := hB3.size
          have R5_4 := (hb4.block _ (Array.getElem?_eq_some_iff.1 R5_3).1).trans R5_3
          have hne : U0.heap.size ≠ U3.heap.size := Nat.ne_of_lt (Array.getElem?_eq_some_iff.1 R5_3).1
          have hne2 : U3.heap.size ≠ U0.heap.size := hne.symm
          refine hK _ _ (HS.out _ hB4) ?_
          clear hK K hb4
          try simp only [Act.put, List.getElem_toArray, List.getElem_cons_succ, List.getElem_cons_zero, List.setIfInBounds_toArray, List.set_cons_zero, List.set_cons_succ]
          generalize U3.alloc (Obj.cells #[.int .i64 0, .int .u64 0, .int .u64 0, .string ⟨#[]⟩] 26) = U4 at hB4 R6_4 R5_4 ⊢
          refine heldS_one (i := 6) (by kernel_rfl) rfl (fun K hK => ?_)
          have y0 : U4.cell? ⟨U0.heap.size, 0, none⟩ = some (.int .i64 0) := cell_of_row _ _ _ _ _ _ R5_4
          have z0 : U4.frozen? ⟨U0.heap.size, 0, none⟩ = false := frozen_of_row _ _ _ _ _ R5_4
          have y1 : U4.cell? ⟨U0.heap.size, 1, none⟩ = some (.int .u64 0) := cell_of_row _ _ _ _ _ _ R5_4
          have z1 : U4.frozen? ⟨U0.heap.size, 1, none⟩ = false := frozen_of_row _ _ _ _ _ R5_4
          have y2 : U4.cell? ⟨U0.heap.size, 2, none⟩ = some (.int .u64 0) := cell_of_row _ _ _ _ _ _ R5_4
          have z2 : U4.frozen? ⟨U0.heap.size, 2, none⟩ = false := frozen_of_row _ _ _ _ _ R5_4
          have y3 : U4.cell? ⟨U0.heap.size, 3, none⟩ = some (.string ⟨#[]⟩) := cell_of_row _ _ _ _ _ _ R5_4
          have z3 : U4.frozen? ⟨U0.heap.size, 3, none⟩ = false := frozen_of_row _ _ _ _ _ R5_4
          go_simp
          have hF := four_sets U4 (U0.heap.size) _ _ _ _ (.int .i64 kd) (.int .u64 (bt : Nat)) (.int .u64 (nm : Nat)) (.string bd) _ R5_4
          have hB5 := hB4.trans (hF.1.mono L5)
          have R5_5 := hF.2
          have R6_5 := (four_other U4 (U0.heap.size) (U3.heap.size) (.int .i64 kd) (.int .u64 (bt : Nat)) (.int .u64 (nm : Nat)) (.string bd) (by first | exact hne | exact hne2)).trans R6_4
          refine hK _ _ (HS.out _ hB5) ?_
          clear hK K hF y0 y1 y2 y3 z0 z1 z2 z3
          try simp only [Act.put, List.getElem_toArray, List.getElem_cons_succ, List.getElem_cons_zero, List.setIfInBounds_toArray, List.set_cons_zero, List.set_cons_succ]
          generalize ((((U4.setCell ⟨U0.heap.size, 0, none⟩ (.int .i64 kd)).setCell ⟨U0.heap.size, 1, none⟩ (.int .u64 (bt : Nat))).setCell ⟨U0.heap.size, 2, none⟩ (.int .u64 (nm : Nat))).setCell ⟨U0.heap.size, 3, none⟩ (.string bd)) = U5 at hB5 R5_5 R6_5 ⊢
          refine heldS_one (i := 7) (by kernel_rfl) rfl (fun K hK => ?_)
          have y0 : U5.cell? ⟨U3.heap.size, 0, none⟩ = some (.int .i64 0) := cell_of_row _ _ _ _ _ _ R6_5
          have z0 : U5.frozen? ⟨U3.heap.size, 0, none⟩ = false := frozen_of_row _ _ _ _ _ R6_5
          have y1 : U5.cell? ⟨U3.heap.size, 1, none⟩ = some (.int .u64 0) := cell_of_row _ _ _ _ _ _ R6_5
          have z1 : U5.frozen? ⟨U3.heap.size, 1, none⟩ = false := frozen_of_row _ _ _ _ _ R6_5
          have y2 : U5.cell? ⟨U3.heap.size, 2, none⟩ = some (.int .u64 0) := cell_of_row _ _ _ _ _ _ R6_5
          have z2 : U5.frozen? ⟨U3.heap.size, 2, none⟩ = false := frozen_of_row _ _ _ _ _ R6_5
          have y3 : U5.cell? ⟨U3.heap.size, 3, none⟩ = some (.string ⟨#[]⟩) := cell_of_row _ _ _ _ _ _ R6_5
          have z3 : U5.frozen? ⟨U3.heap.size, 3, none⟩ = false := frozen_of_row _ _ _ _ _ R6_5
          go_simp
          have hF := four_sets U5 (U3.heap.size) _ _ _ _ (.int .i64 kd2) (.int .u64 (bt2 : Nat)) (.int .u64 (nm2 : Nat)) (.string bd2) _ R6_5
          have hB6 := hB5.trans (hF.1.mono L6)
          have R6_6 := hF.2
          have R5_6 := (four_other U5 (U3.heap.size) (U0.heap.size) (.int .i64 kd2) (.int .u64 (bt2 : Nat)) (.int .u64 (nm2 : Nat)) (.string bd2) (by first | exact hne | exact hne2)).trans R5_5
          refine hK _ _ (HS.out _ hB6) ?_
          clear hK K hF y0 y1 y2 y3 z0 z1 z2 z3
          try simp only [Act.put, List.getElem_toArray, List.getElem_cons_succ, List.getElem_cons_zero, List.setIfInBounds_toArray, List.set_cons_zero, List.set_cons_succ]
          generalize ((((U5.setCell ⟨U3.heap.size, 0, none⟩ (.int .i64 kd2)).setCell ⟨U3.heap.size, 1, none⟩ (.int .u64 (bt2 : Nat))).setCell ⟨U3.heap.size, 2, none⟩ (.int .u64 (nm2 : Nat))).setCell ⟨U3.heap.size, 3, none⟩ (.string bd2)) = U6 at hB6 R5_6 R6_6 ⊢
          refine wpAnyH_done (by kernel_rfl) ?_ _
          go_wp2_with fail
          go_meet
          case rel => exact ⟨_, _, rfl, rfl, hide ⟨HS0.out.step hB6, R5_6, R6_6⟩⟩
        · go_simp
          have hb3 := (Below.refl U2.heap.size U2).alloc (Nat.le_refl _) (Obj.cells #[.int .i64 0, .int .u64 0, .int .u64 0, .string ⟨#[]⟩] 26)
          have hB3 := hB2.trans (hb3.mono hB2.size)
          have R6_3 := World.alloc_heap_new U2 (Obj.cells #[.int .i64 0, .int .u64 0, .int .u64 0, .string ⟨#[]⟩] 26)
          have L6 := hB2.size
          have R5_3 := (hb3.block _ (Array.getElem?_eq_some_iff.1 R5_2).1).trans R5_2
          have hne : U0.heap.size ≠ U2.heap.size := Nat.ne_of_lt (Array.getElem?_eq_some_iff.1 R5_2).1
          have hne2 : U2.heap.size ≠ U0.heap.size := hne.symm
          refine hK _ _ (HS.out _ hB3) ?_
          clear hK K hb3
          try simp only [Act.put, List.getElem_toArray, List.getElem_cons_succ, List.getElem_cons_zero, List.setIfInBounds_toArray, List.set_cons_zero, List.set_cons_succ]
          generalize U2.alloc (Obj.cells #[.int .i64 0, .int .u64 0, .int .u64 0, .string ⟨#[]⟩] 26) = U3 at hB3 R6_3 R5_3 ⊢
          refine heldS_one (i := 3) (by kernel_rfl) rfl (fun K hK => ?_)
          go_simp
          refine (HT2.out _).mono ?_
          rintro en U4 ⟨rfl, hb4⟩
          have hB4 := hB3.trans (hb4.mono hB3.size)
          have R5_4 := (hb4.block _ (Array.getElem?_eq_some_iff.1 R5_3).1).trans R5_3
          have R6_4 := (hb4.block _ (Array.getElem?_eq_some_iff.1 R6_3).1).trans R6_3
          refine hK _ _ (HS.out _ hB4) ?_
          clear hK K hb4
          try simp only [Act.put, List.getElem_toArray, List.getElem_cons_succ, List.getElem_cons_zero, List.setIfInBounds_toArray, List.set_cons_zero, List.set_cons_succ]
          refine heldS_one (i := 6) (by kernel_rfl) rfl (fun K hK => ?_)
          have y0 : U4.cell? ⟨U0.heap.size, 0, none⟩ = some (.int .i64 0) := cell_of_row _ _ _ _ _ _ R5_4
          have z0 : U4.frozen? ⟨U0.heap.size, 0, none⟩ = false := frozen_of_row _ _ _ _ _ R5_4
          have y1 : U4.cell? ⟨U0.heap.size, 1, none⟩ = some (.int .u64 0) := cell_of_row _ _ _ _ _ _ R5_4
          have z1 : U4.frozen? ⟨U0.heap.size, 1, none⟩ = false := frozen_of_row _ _ _ _ _ R5_4
          have y2 : U4.cell? ⟨U0.heap.size, 2, none⟩ = some (.int .u64 0) := cell_of_row _ _ _ _ _ _ R5_4
          have z2 : U4.frozen? ⟨U0.heap.size, 2, none⟩ = false := frozen_of_row _ _ _ _ _ R5_4
          have y3 : U4.cell? ⟨U0.heap.size, 3, none⟩ = some (.string ⟨#[]⟩) := cell_of_row _ _ _ _ _ _ R5_4
          have z3 : U4.frozen? ⟨U0.heap.size, 3, none⟩ = false := frozen_of_row _ _ _ _ _ R5_4
          go_simp
          have hF := four_sets U4 (U0.heap.size) _ _ _ _ (.int .i64 kd) (.int .u64 (bt : Nat)) (.int .u64 (nm : Nat)) (.string bd) _ R5_4
          have hB5 := hB4.trans (hF.1.mono L5)
          have R5_5 := hF.2
          have R6_5 := (four_other U4 (U0.heap.size) (U2.heap.size) (.int .i64 kd) (.int .u64 (bt : Nat)) (.int .u64 (nm : Nat)) (.string bd) (by first | exact hne | exact hne2)).trans R6_4
          refine hK _ _ (HS.out _ hB5) ?_
          clear hK K hF y0 y1 y2 y3 z0 z1 z2 z3
          try simp only [Act.put, List.getElem_toArray, List.getElem_cons_succ, List.getElem_cons_zero, List.setIfInBounds_toArray, List.set_cons_zero, List.set_cons_succ]
          generalize ((((U4.setCell ⟨U0.heap.size, 0, none⟩ (.int .i64 kd)).setCell ⟨U0.heap.size, 1, none⟩ (.int .u64 (bt : Nat))).setCell ⟨U0.heap.size, 2, none⟩ (.int .u64 (nm : Nat))).setCell ⟨U0.heap.size, 3, none⟩ (.string bd)) = U5 at hB5 R5_5 R6_5 ⊢
          refine heldS_one (i := 7) (by kernel_rfl) rfl (fun K hK => ?_)
          have y0 : U5.cell? ⟨U2.heap.size, 0, none⟩ = some (.int .i64 0) := cell_of_row _ _ _ _ _ _ R6_5
          have z0 : U5.frozen? ⟨U2.heap.size, 0, none⟩ = false := frozen_of_row _ _ _ _ _ R6_5
          have y1 : U5.cell? ⟨U2.heap.size, 1, none⟩ = some (.int .u64 0) := cell_of_row _ _ _ _ _ _ R6_5
          have z1 : U5.frozen? ⟨U2.heap.size, 1, none⟩ = false := frozen_of_row _ _ _ _ _ R6_5
          have y2 : U5.cell? ⟨U2.heap.size, 2, none⟩ = some (.int .u64 0) := cell_of_row _ _ _ _ _ _ R6_5
          have z2 : U5.frozen? ⟨U2.heap.size, 2, none⟩ = false := frozen_of_row _ _ _ _ _ R6_5
          have y3 : U5.cell? ⟨U2.heap.size, 3, none⟩ = some (.string ⟨#[]⟩) := cell_of_row _ _ _ _ _ _ R6_5
          have z3 : U5.frozen? ⟨U2.heap.size, 3, none⟩ = false := frozen_of_row _ _ _ _ _ R6_5
          go_simp
          have hF := four_sets U5 (U2.heap.size) _ _ _ _ (.int .i64 kd2) (.int .u64 (bt2 : Nat)) (.int .u64 (nm2 : Nat)) (.string bd2) _ R6_5
          have hB6 := hB5.trans (hF.1.mono L6)
          have R6_6 := hF.2
          have R5_6 := (four_other U5 (U2.heap.size) (U0.heap.size) (.int .i64 kd2) (.int .u64 (bt2 : Nat)) (.int .u64 (nm2 : Nat)) (.string bd2) (by first | exact hne | exact hne2)).trans R5_5
          refine hK _ _ (HS.out _ hB6) ?_
          clear hK K hF y0 y1 y2 y3 z0 z1 z2 z3
          try simp only [Act.put, List.getElem_toArray, List.getElem_cons_succ, List.getElem_cons_zero, List.setIfInBounds_toArray, List.set_cons_zero, List.set_cons_succ]
          generalize ((((U5.setCell ⟨U2.heap.size, 0, none⟩ (.int .i64 kd2)).setCell ⟨U2.heap.size, 1, none⟩ (.int .u64 (bt2 : Nat))).setCell ⟨U2.heap.size, 2, none⟩ (.int .u64 (nm2 : Nat))).setCell ⟨U2.heap.size, 3, none⟩ (.string bd2)) = U6 at hB6 R5_6 R6_6 ⊢
          refine wpAnyH_done (by kernel_rfl) ?_ _
          go_wp2_with fail
          go_meet
          case rel => exact ⟨_, _, rfl, rfl, hide ⟨HS0.out.step hB6, R5_6, R6_6⟩⟩
      · go_simp
        have hb2 := (Below.refl U1.heap.size U1).alloc (Nat.le_refl _) (Obj.cells #[.int .i64 0, .int .u64 0, .int .u64 0, .string ⟨#[]⟩] 26)
        have hB2 := hB1.trans (hb2.mono hB1.size)
        have R6_2 := World.alloc_heap_new U1 (Obj.cells #[.int .i64 0, .int .u64 0, .int .u64 0, .string ⟨#[]⟩] 26)
        have L6 := hB1.size
        have R5_2 := (hb2.block _ (Array.getElem?_eq_some_iff.1 R5_1).1).trans R5_1
        have hne : U0.heap.size ≠ U1.heap.size := Nat.ne_of_lt (Array.getElem?_eq_some_iff.1 R5_1).1
        have hne2 : U1.heap.size ≠ U0.heap.size := hne.symm
        refine hK _ _ (HS.out _ hB2) ?_
        clear hK K hb2
        try simp only [Act.put, List.getElem_toArray, List.getElem_cons_succ, List.getElem_cons_zero, List.setIfInBounds_toArray, List.set_cons_zero, List.set_cons_succ]
        generalize U1.alloc (Obj.cells #[.int .i64 0, .int .u64 0, .int .u64 0, .string ⟨#[]⟩] 26) = U2 at hB2 R6_2 R5_2 ⊢
        refine heldS_one (i := 1) (by kernel_rfl) rfl (fun K hK => ?_)
        go_simp
        refine (HT1.out _).mono ?_
        rintro en U3 ⟨rfl, hb3⟩
        have hB3 := hB2.trans (hb3.mono hB2.size)
        have R5_3 := (hb3.block _ (Array.getElem?_eq_some_iff.1 R5_2).1).trans R5_2
        have R6_3 := (hb3.block _ (Array.getElem?_eq_some_iff.1 R6_2).1).trans R6_2
        refine hK _ _ (HS.out _ hB3) ?_
        clear hK K hb3
        try simp only [Act.put, List.getElem_toArray, List.getElem_cons_succ, List.getElem_cons_zero, List.setIfInBounds_toArray, List.set_cons_zero, List.set_cons_succ]
        refine heldS_one (i := 3) (by kernel_rfl) rfl (fun K hK => ?_)
        go_simp
        refine (HT2.out _).mono ?_
        rintro en U4 ⟨rfl, hb4⟩
        have hB4 := hB3.trans (hb4.mono hB3.size)
        have R5_4 := (hb4.block _ (Array.getElem?_eq_some_iff.1 R5_3).1).trans R5_3
        have R6_4 := (hb4.block _ (Array.getElem?_eq_some_iff.1 R6_3).1).trans R6_3
        refine hK _ _ (HS.out _ hB4) ?_
        clear hK K hb4
        try simp only [Act.put, List.getElem_toArray, List.getElem_cons_succ, List.getElem_cons_zero, List.setIfInBounds_toArray, List.set_cons_zero, List.set_cons_succ]
        refine heldS_one (i := 6) (by kernel_rfl) rfl (fun K hK => ?_)
        have y0 : U4.cell? ⟨U0.heap.size, 0, none⟩ = some (.int .i64 0) := cell_of_row _ _ _ _ _ _ R5_4
        have z0 : U4.frozen? ⟨U0.heap.size, 0, none⟩ = false := frozen_of_row _ _ _ _ _ R5_4
        have y1 : U4.cell? ⟨U0.heap.size, 1, none⟩ = some (.int .u64 0) := cell_of_row _ _ _ _ _ _ R5_4
        have z1 : U4.frozen? ⟨U0.heap.size, 1, none⟩ = false := frozen_of_row _ _ _ _ _ R5_4
        have y2 : U4.cell? ⟨U0.heap.size, 2, none⟩ = some (.int .u64 0) := cell_of_row _ _ _ _ _ _ R5_4
        have z2 : U4.frozen? ⟨U0.heap.size, 2, none⟩ = false := frozen_of_row _ _ _ _ _ R5_4
        have y3 : U4.cell? ⟨U0.heap.size, 3, none⟩ = some (.string ⟨#[]⟩) := cell_of_row _ _ _ _ _ _ R5_4
        have z3 : U4.frozen? ⟨U0.heap.size, 3, none⟩ = false := frozen_of_row _ _ _ _ _ R5_4
        go_simp
        have hF := four_sets U4 (U0.heap.size) _ _ _ _ (.int .i64 kd) (.int .u64 (bt : Nat)) (.int .u64 (nm : Nat)) (.string bd) _ R5_4
        have hB5 := hB4.trans (hF.1.mono L5)
        have R5_5 := hF.2
        have R6_5 := (four_other U4 (U0.heap.size) (U1.heap.size) (.int .i64 kd) (.int .u64 (bt : Nat)) (.int .u64 (nm : Nat)) (.string bd) (by first | exact hne | exact hne2)).trans R6_4
        refine hK _ _ (HS.out _ hB5) ?_
        clear hK K hF y0 y1 y2 y3 z0 z1 z2 z3
        try simp only [Act.put, List.getElem_toArray, List.getElem_cons_succ, List.getElem_cons_zero, List.setIfInBounds_toArray, List.set_cons_zero, List.set_cons_succ]
        generalize ((((U4.setCell ⟨U0.heap.size, 0, none⟩ (.int .i64 kd)).setCell ⟨U0.heap.size, 1, none⟩ (.int .u64 (bt : Nat))).setCell ⟨U0.heap.size, 2, none⟩ (.int .u64 (nm : Nat))).setCell ⟨U0.heap.size, 3, none⟩ (.string bd)) = U5 at hB5 R5_5 R6_5 ⊢
        refine heldS_one (i := 7) (by kernel_rfl) rfl (fun K hK => ?_)
        have y0 : U5.cell? ⟨U1.heap.size, 0, none⟩ = some (.int .i64 0) := cell_of_row _ _ _ _ _ _ R6_5
        have z0 : U5.frozen? ⟨U1.heap.size, 0, none⟩ = false := frozen_of_row _ _ _ _ _ R6_5
        have y1 : U5.cell? ⟨U1.heap.size, 1, none⟩ = some (.int .u64 0) := cell_of_row _ _ _ _ _ _ R6_5
        have z1 : U5.frozen? ⟨U1.heap.size, 1, none⟩ = false := frozen_of_row _ _ _ _ _ R6_5
        have y2 : U5.cell? ⟨U1.heap.size, 2, none⟩ = some (.int .u64 0) := cell_of_row _ _ _ _ _ _ R6_5
        have z2 : U5.frozen? ⟨U1.heap.size, 2, none⟩ = false := frozen_of_row _ _ _ _ _ R6_5
        have y3 : U5.cell? ⟨U1.heap.size, 3, none⟩ = some (.string ⟨#[]⟩) := cell_of_row _ _ _ _ _ _ R6_5
        have z3 : U5.frozen? ⟨U1.heap.size, 3, none⟩ = false := frozen_of_row _ _ _ _ _ R6_5
        go_simp
        have hF := four_sets U5 (U1.heap.size) _ _ _ _ (.int .i64 kd2) (.int .u64 (bt2 : Nat)) (.int .u64 (nm2 : Nat)) (.string bd2) _ R6_5
        have hB6 := hB5.trans (hF.1.mono L6)
        have R6_6 := hF.2
        have R5_6 := (four_other U5 (U1.heap.size) (U0.heap.size) (.int .i64 kd2) (.int .u64 (bt2 : Nat)) (.int .u64 (nm2 : Nat)) (.string bd2) (by first | exact hne | exact hne2)).trans R5_5
        refine hK _ _ (HS.out _ hB6) ?_
        clear hK K hF y0 y1 y2 y3 z0 z1 z2 z3
        try simp only [Act.put, List.getElem_toArray, List.getElem_cons_succ, List.getElem_cons_zero, List.setIfInBounds_toArray, List.set_cons_zero, List.set_cons_succ]
        generalize ((((U5.setCell ⟨U1.heap.size, 0, none⟩ (.int .i64 kd2)).setCell ⟨U1.heap.size, 1, none⟩ (.int .u64 (bt2 : Nat))).setCell ⟨U1.heap.size, 2, none⟩ (.int .u64 (nm2 : Nat))).setCell ⟨U1.heap.size, 3, none⟩ (.string bd2)) = U6 at hB6 R5_6 R6_6 ⊢
        refine wpAnyH_done (by kernel_rfl) ?_ _
        go_wp2_with fail
        go_meet
        case rel => exact ⟨_, _, rfl, rfl, hide ⟨HS0.out.step hB6, R5_6, R6_6⟩⟩
    · go_simp
      have hb1 := (Below.refl U0.heap.size U0).alloc (Nat.le_refl _) (Obj.cells #[.int .i64 0, .int .u64 0, .int .u64 0, .string ⟨#[]⟩] 26)
      have hB1 := hB0.trans (hb1.mono hB0.size)
      have R6_1 := World.alloc_heap_new U0 (Obj.cells #[.int .i64 0, .int .u64 0, .int .u64 0, .string ⟨#[]⟩] 26)
      have L6 := hB0.size
      refine hK _ _ (HS.out _ hB1) ?_
      clear hK K hb1
      try simp only [Act.put, List.getElem_toArray, List.getElem_cons_succ, List.getElem_cons_zero, List.setIfInBounds_toArray, List.set_cons_zero, List.set_cons_succ]
      generalize U0.alloc (Obj.cells #[.int .i64 0, .int .u64 0, .int .u64 0, .string ⟨#[]⟩] 26) = U1 at hB1 R6_1 ⊢
      refine heldS_two (i := 1) (k := 4) (by kernel_rfl) rfl rfl (fun K hK => ?_) (fun K hK => ?_)
      · go_simp
        refine (HT1.out _).mono ?_
        rintro en U2 ⟨rfl, hb2⟩
        have hB2 := hB1.trans (hb2.mono hB1.size)
        have R6_2 := (hb2.block _ (Array.getElem?_eq_some_iff.1 R6_1).1).trans R6_1
        refine hK _ _ (HS.out _ hB2) ?_
        clear hK K hb2
        try simp only [Act.put, List.getElem_toArray, List.getElem_cons_succ, List.getElem_cons_zero, List.setIfInBounds_toArray, List.set_cons_zero, List.set_cons_succ]
        refine heldS_two (i := 3) (k := 4) (by kernel_rfl) rfl rfl (fun K hK => ?_) (fun K hK => ?_)
        · go_simp
          refine (HT2.out _).mono ?_
          rintro en U3 ⟨rfl, hb3⟩
          have hB3 := hB2.trans (hb3.mono hB2.size)
          have R6_3 := (hb3.block _ (Array.getElem?_eq_some_iff.1 R6_2).1).trans R6_2
          refine hK _ _ (HS.out _ hB3) ?_
          clear hK K hb3
          try simp only [Act.put, List.getElem_toArray, List.getElem_cons_succ, List.getElem_cons_zero, List.setIfInBounds_toArray, List.set_cons_zero, List.set_cons_succ]
          refine heldS_one (i := 4) (by kernel_rfl) rfl (fun K hK => ?_)
          go_simp
          have hb4 := (Below.refl U3.heap.size U3).alloc (Nat.le_refl _) (Obj.cells #[.int .i64 0, .int .u64 0, .int .u64 0, .string ⟨#[]⟩] 26)
          have hB4 := hB3.trans (hb4.mono hB3.size)
          have R5_4 := World.alloc_heap_new U3 (Obj.cells #[.int .i64 0, .int .u64 0, .int .u64 0, .string ⟨#[]⟩] 26)
          have L5 := hB3.size
          have R6_4 := (hb4.block _ (Array.getElem?_eq_some_iff.1 R6_3).1).trans R6_3
          have hne : U0.heap.size ≠ U3.heap.size := Nat.ne_of_lt (Array.getElem?_eq_some_iff.1 R6_3).1
          have hne2 : U3.heap.size ≠ U0.heap.size := hne.symm
          refine hK _ _ (HS.out _ hB4) ?_
          clear hK K hb4
          try simp only [Act.put, List.getElem_toArray, List.getElem_cons_succ, List.getElem_cons_zero, List.setIfInBounds_toArray, List.set_cons_zero, List.set_cons_succ]
          generalize U3.alloc (Obj.cells #[.int .i64 0, .int .u64 0, .int .u64 0, .string ⟨#[]⟩] 26) = U4 at hB4 R5_4 R6_4 ⊢
          refine heldS_one (i := 6) (by kernel_rfl) rfl (fun K hK => ?_)
          have y0 : U4.cell? ⟨U3.heap.size, 0, none⟩ = some (.int .i64 0) := cell_of_row _ _ _ _ _ _ R5_4
          have z0 : U4.frozen? ⟨U3.heap.size, 0, none⟩ = false := frozen_of_row _ _ _ _ _ R5_4
          have y1 : U4.cell? ⟨U3.heap.size, 1, none⟩ = some (.int .u64 0) := cell_of_row _ _ _ _ _ _ R5_4
          have z1 : U4.frozen? ⟨U3.heap.size, 1, none⟩ = false := frozen_of_row _ _ _ _ _ R5_4
          have y2 : U4.cell? ⟨U3.heap.size, 2, none⟩ = some (.int .u64 0) := cell_of_row _ _ _ _ _ _ R5_4
          have z2 : U4.frozen? ⟨U3.heap.size, 2, none⟩ = false := frozen_of_row _ _ _ _ _ R5_4
          have y3 : U4.cell? ⟨U3.heap.size, 3, none⟩ = some (.string ⟨#[]⟩) := cell_of_row _ _ _ _ _ _ R5_4
          have z3 : U4.frozen? ⟨U3.heap.size, 3, none⟩ = false := frozen_of_row _ _ _ _ _ R5_4
          go_simp
          have hF := four_sets U4 (U3.heap.size) _ _ _ _ (.int .i64 kd) (.int .u64 (bt : Nat)) (.int .u64 (nm : Nat)) (.string bd) _ R5_4
          have hB5 := hB4.trans (hF.1.mono L5)
          have R5_5 := hF.2
          have R6_5 := (four_other U4 (U3.heap.size) (U0.heap.size) (.int .i64 kd) (.int .u64 (bt : Nat)) (.int .u64 (nm : Nat)) (.string bd) (by first | exact hne | exact hne2)).trans R6_4
          refine hK _ _ (HS.out _ hB5) ?_
          clear hK K hF y0 y1 y2 y3 z0 z1 z2 z3
          try simp only [Act.put, List.getElem_toArray, List.getElem_cons_succ, List.getElem_cons_zero, List.setIfInBounds_toArray, List.set_cons_zero, List.set_cons_succ]
          generalize ((((U4.setCell ⟨U3.heap.size, 0, none⟩ (.int .i64 kd)).setCell ⟨U3.heap.size, 1, none⟩ (.int .u64 (bt : Nat))).setCell ⟨U3.heap.size, 2, none⟩ (.int .u64 (nm : Nat))).setCell ⟨U3.heap.size, 3, none⟩ (.string bd)) = U5 at hB5 R5_5 R6_5 ⊢
          refine heldS_one (i := 7) (by kernel_rfl) rfl (fun K hK => ?_)
          have y0 : U5.cell? ⟨U0.heap.size, 0, none⟩ = some (.int .i64 0) := cell_of_row _ _ _ _ _ _ R6_5
          have z0 : U5.frozen? ⟨U0.heap.size, 0, none⟩ = false := frozen_of_row _ _ _ _ _ R6_5
          have y1 : U5.cell? ⟨U0.heap.size, 1, none⟩ = some (.int .u64 0) := cell_of_row _ _ _ _ _ _ R6_5
          have z1 : U5.frozen? ⟨U0.heap.size, 1, none⟩ = false := frozen_of_row _ _ _ _ _ R6_5
          have y2 : U5.cell? ⟨U0.heap.size, 2, none⟩ = some (.int .u64 0) := cell_of_row _ _ _ _ _ _ R6_5
          have z2 : U5.frozen? ⟨U0.heap.size, 2, none⟩ = false := frozen_of_row _ _ _ _ _ R6_5
          have y3 : U5.cell? ⟨U0.heap.size, 3, none⟩ = some (.string ⟨#[]⟩) := cell_of_row _ _ _ _ _ _ R6_5
          have z3 : U5.frozen? ⟨U0.heap.size, 3, none⟩ = false := frozen_of_row _ _ _ _ _ R6_5
          go_simp
          have hF := four_sets U5 (U0.heap.size) _ _ _ _ (.int .i64 kd2) (.int .u64 (bt2 : Nat)) (.int .u64 (nm2 : Nat)) (.string bd2) _ R6_5
          have hB6 := hB5.trans (hF.1.mono L6)
          have R6_6 := hF.2
          have R5_6 := (four_other U5 (U0.heap.size) (U3.heap.size) (.int .i64 kd2) (.int .u64 (bt2 : Nat)) (.int .u64 (nm2 : Nat)) (.string bd2) (by first | exact hne | exact hne2)).trans R5_5
          refine hK _ _ (HS.out _ hB6) ?_
          clear hK K hF y0 y1 y2 y3 z0 z1 z2 z3
          try simp only [Act.put, List.getElem_toArray, List.getElem_cons_succ, List.getElem_cons_zero, List.setIfInBounds_toArray, List.set_cons_zero, List.set_cons_succ]
          generalize ((((U5.setCell ⟨U0.heap.size, 0, none⟩ (.int .i64 kd2)).setCell ⟨U0.heap.size, 1, none⟩ (.int .u64 (bt2 : Nat))).setCell ⟨U0.heap.size, 2, none⟩ (.int .u64 (nm2 : Nat))).setCell ⟨U0.heap.size, 3, none⟩ (.string bd2)) = U6 at hB6 R5_6 R6_6 ⊢
          refine wpAnyH_done (by kernel_rfl) ?_ _
          go_wp2_with fail
          go_meet
          case rel => exact ⟨_, _, rfl, rfl, hide ⟨HS0.out.step hB6, R5_6, R6_6⟩⟩
        · go_simp
          have hb3 := (Below.refl U2.heap.size U2).alloc (Nat.le_refl _) (Obj.cells #[.int .i64 0, .int .u64 0, .int .u64 0, .string ⟨#[]⟩] 26)
          have hB3 := hB2.trans (hb3.mono hB2.size)
          have R5_3 := World.alloc_heap_new U2 (Obj.cells #[.int .i64 0, .int .u64 0, .int .u64 0, .string ⟨#[]⟩] 26)
          have L5 := hB2.size
          have R6_3 := (hb3.block _ (Array.getElem?_eq_some_iff.1 R6_2).1).trans R6_2
          have hne : U0.heap.size ≠ U2.heap.size := Nat.ne_of_lt (Array.getElem?_eq_some_iff.1 R6_2).1
          have hne2 : U2.heap.size ≠ U0.heap.size := hne.symm
          refine hK _ _ (HS.out _ hB3) ?_
          clear hK K hb3
          try simp only [Act.put, List.getElem_toArray, List.getElem_cons_succ, List.getElem_cons_zero, List.setIfInBounds_toArray, List.set_cons_zero, List.set_cons_succ]
          generalize U2.alloc (Obj.cells #[.int .i64 0, .int .u64 0, .int .u64 0, .string ⟨#[]⟩] 26) = U3 at hB3 R5_3 R6_3 ⊢
          refine heldS_one (i := 3) (by kernel_rfl) rfl (fun K hK => ?_)
          go_simp
          refine (HT2.out _).mono ?_
          rintro en U4 ⟨rfl, hb4⟩
          have hB4 := hB3.trans (hb4.mono hB3.size)
          have R5_4 := (hb4.block _ (Array.getElem?_eq_some_iff.1 R5_3).1).trans R5_3
          have R6_4 := (hb4.block _ (Array.getElem?_eq_some_iff.1 R6_3).1).trans R6_3
          refine hK _ _ (HS.out _ hB4) ?_
          clear hK K hb4
          try simp only [Act.put, List.getElem_toArray, List.getElem_cons_succ, List.getElem_cons_zero, List.setIfInBounds_toArray, List.set_cons_zero, List.set_cons_succ]
          refine heldS_one (i := 6) (by kernel_rfl) rfl (fun K hK => ?_)
          have y0 : U4.cell? ⟨U2.heap.size, 0, none⟩ = some (.int .i64 0) := cell_of_row _ _ _ _ _ _ R5_4
          have z0 : U4.frozen? ⟨U2.heap.size, 0, none⟩ = false := frozen_of_row _ _ _ _ _ R5_4
          have y1 : U4.cell? ⟨U2.heap.size, 1, none⟩ = some (.int .u64 0) := cell_of_row _ _ _ _ _ _ R5_4
          have z1 : U4.frozen? ⟨U2.heap.size, 1, none⟩ = false := frozen_of_row _ _ _ _ _ R5_4
          have y2 : U4.cell? ⟨U2.heap.size, 2, none⟩ = some (.int .u64 0) := cell_of_row _ _ _ _ _ _ R5_4
          have z2 : U4.frozen? ⟨U2.heap.size, 2, none⟩ = false := frozen_of_row _ _ _ _ _ R5_4
          have y3 : U4.cell? ⟨U2.heap.size, 3, none⟩ = some (.string ⟨#[]⟩) := cell_of_row _ _ _ _ _ _ R5_4
          have z3 : U4.frozen? ⟨U2.heap.size, 3, none⟩ = false := frozen_of_row _ _ _ _ _ R5_4
          go_simp
          have hF := four_sets U4 (U2.heap.size) _ _ _ _ (.int .i64 kd) (.int .u64 (bt : Nat)) (.int .u64 (nm : Nat)) (.string bd) _ R5_4
          have hB5 := hB4.trans (hF.1.mono L5)
          have R5_5 := hF.2
          have R6_5 := (four_other U4 (U2.heap.size) (U0.heap.size) (.int .i64 kd) (.int .u64 (bt : Nat)) (.int .u64 (nm : Nat)) (.string bd) (by first | exact hne | exact hne2)).trans R6_4
          refine hK _ _ (HS.out _ hB5) ?_
          clear hK K hF y0 y1 y2 y3 z0 z1 z2 z3
          try simp only [Act.put, List.getElem_toArray, List.getElem_cons_succ, List.getElem_cons_zero, List.setIfInBounds_toArray, List.set_cons_zero, List.set_cons_succ]
          generalize ((((U4.setCell ⟨U2.heap.size, 0, none⟩ (.int .i64 kd)).setCell ⟨U2.heap.size, 1, none⟩ (.int .u64 (bt : Nat))).setCell ⟨U2.heap.size, 2, none⟩ (.int .u64 (nm : Nat))).setCell ⟨U2.heap.size, 3, none⟩ (.string bd)) = U5 at hB5 R5_5 R6_5 ⊢
          refine heldS_one (i := 7) (by kernel_rfl) rfl (fun K hK => ?_)
          have y0 : U5.cell? ⟨U0.heap.size, 0, none⟩ = some (.int .i64 0) := cell_of_row _ _ _ _ _ _ R6_5
          have z0 : U5.frozen? ⟨U0.heap.size, 0, none⟩ = false := frozen_of_row _ _ _ _ _ R6_5
          have y1 : U5.cell? ⟨U0.heap.size, 1, none⟩ = some (.int .u64 0) := cell_of_row _ _ _ _ _ _ R6_5
          have z1 : U5.frozen? ⟨U0.heap.size, 1, none⟩ = false := frozen_of_row _ _ _ _ _ R6_5
          have y2 : U5.cell? ⟨U0.heap.size, 2, none⟩ = some (.int .u64 0) := cell_of_row _ _ _ _ _ _ R6_5
          have z2 : U5.frozen? ⟨U0.heap.size, 2, none⟩ = false := frozen_of_row _ _ _ _ _ R6_5
          have y3 : U5.cell? ⟨U0.heap.size, 3, none⟩ = some (.string ⟨#[]⟩) := cell_of_row _ _ _ _ _ _ R6_5
          have z3 : U5.frozen? ⟨U0.heap.size, 3, none⟩ = false := frozen_of_row _ _ _ _ _ R6_5
          go_simp
          have hF := four_sets U5 (U0.heap.size) _ _ _ _ (.int .i64 kd2) (.int .u64 (bt2 : Nat)) (.int .u64 (nm2 : Nat)) (.string bd2) _ R6_5
          have hB6 := hB5.trans (hF.1.mono L6)
          have R6_6 := hF.2
          have R5_6 := (four_other U5 (U0.heap.size) (U2.heap.size) (.int .i64 kd2) (.int .u64 (bt2 : Nat)) (.int .u64 (nm2 : Nat)) (.string bd2) (by first | exact hne | exact hne2)).trans R5_5
          refine hK _ _ (HS.out _ hB6) ?_
          clear hK K hF y0 y1 y2 y3 z0 z1 z2 z3
          try simp only [Act.put, List.getElem_toArray, List.getElem_cons_succ, List.getElem_cons_zero, List.setIfInBounds_toArray, List.set_cons_zero, List.set_cons_succ]
          generalize ((((U5.setCell ⟨U0.heap.size, 0, none⟩ (.int .i64 kd2)).setCell ⟨U0.heap.size, 1, none⟩ (.int .u64 (bt2 : Nat))).setCell ⟨U0.heap.size, 2, none⟩ (.int .u64 (nm2 : Nat))).setCell ⟨U0.heap.size, 3, none⟩ (.string bd2)) = U6 at hB6 R5_6 R6_6 ⊢
          refine wpAnyH_done (by kernel_rfl) ?_ _
          go_wp2_with fail
          go_meet
          case rel => exact ⟨_, _, rfl, rfl, hide ⟨HS0.out.step hB6, R5_6, R6_6⟩⟩
      · go_simp
        have hb2 := (Below.refl U1.heap.size U1).alloc (Nat.le_refl _) (Obj.cells #[.int .i64 0, .int .u64 0, .int .u64 0, .string ⟨#[]⟩] 26)
        have hB2 := hB1.trans (hb2.mono hB1.size)
        have R5_2 := World.alloc_heap_new U1 (Obj.cells #[.int .i64 0, .int .u64 0, .int .u64 0, .string ⟨#[]⟩] 26)
        have L5 := hB1.size
        have R6_2 := (hb2.block _ (Array.getElem?_eq_some_iff.1 R6_1).1).trans R6_1
        have hne : U0.heap.size ≠ U1.heap.size := Nat.ne_of_lt (Array.getElem?_eq_some_iff.1 R6_1).1
        have hne2 : U1.heap.size ≠ U0.heap.size := hne.symm
        refine hK _ _ (HS.out _ hB2) ?_
        clear hK K hb2
        try simp only [Act.put, List.getElem_toArray, List.getElem_cons_succ, List.getElem_cons_zero, List.setIfInBounds_toArray, List.set_cons_zero, List.set_cons_succ]
        generalize U1.alloc (Obj.cells #[.int .i64 0, .int .u64 0, .int .u64 0, .string ⟨#[]⟩] 26) = U2 at hB2 R5_2 R6_2 ⊢
        refine heldS_one (i := 1) (by kernel_rfl) rfl (fun K hK => ?_)
        go_simp
        refine (HT1.out _).mono ?_
        rintro en U3 ⟨rfl, hb3⟩
        have hB3 := hB2.trans (hb3.mono hB2.size)
        have R5_3 := (hb3.block _ (Array.getElem?_eq_some_iff.1 R5_2).1).trans R5_2
        have R6_3 := (hb3.block _ (Array.getElem?_eq_some_iff.1 R6_2).1).trans R6_2
        refine hK _ _ (HS.out _ hB3) ?_
        clear hK K hb3
        try simp only [Act.put, List.getElem_toArray, List.getElem_cons_succ, List.getElem_cons_zero, List.setIfInBounds_toArray, List.set_cons_zero, List.set_cons_succ]
        refine heldS_one (i := 3) (by kernel_rfl) rfl (fun K hK => ?_)
        go_simp
        refine (HT2.out _).mono ?_
        rintro en U4 ⟨rfl, hb4⟩
        have hB4 := hB3.trans (hb4.mono hB3.size)
        have R5_4 := (hb4.block _ (Array.getElem?_eq_some_iff.1 R5_3).1).trans R5_3
        have R6_4 := (hb4.block _ (Array.getElem?_eq_some_iff.1 R6_3).1).trans R6_3
        refine hK _ _ (HS.out _ hB4) ?_
        clear hK K hb4
        try simp only [Act.put, List.getElem_toArray, List.getElem_cons_succ, List.getElem_cons_zero, List.setIfInBounds_toArray, List.set_cons_zero, List.set_cons_succ]
        refine heldS_one (i := 6) (by kernel_rfl) rfl (fun K hK => ?_)
        have y0 : U4.cell? ⟨U1.heap.size, 0, none⟩ = some (.int .i64 0) := cell_of_row _ _ _ _ _ _ R5_4
        have z0 : U4.frozen? ⟨U1.heap.size, 0, none⟩ = false := frozen_of_row _ _ _ _ _ R5_4
        have y1 : U4.cell? ⟨U1.heap.size, 1, none⟩ = some (.int .u64 0) := cell_of_row _ _ _ _ _ _ R5_4
        have z1 : U4.frozen? ⟨U1.heap.size, 1, none⟩ = false := frozen_of_row _ _ _ _ _ R5_4
        have y2 : U4.cell? ⟨U1.heap.size, 2, none⟩ = some (.int .u64 0) := cell_of_row _ _ _ _ _ _ R5_4
        have z2 : U4.frozen? ⟨U1.heap.size, 2, none⟩ = false := frozen_of_row _ _ _ _ _ R5_4
        have y3 : U4.cell? ⟨U1.heap.size, 3, none⟩ = some (.string ⟨#[]⟩) := cell_of_row _ _ _ _ _ _ R5_4
        have z3 : U4.frozen? ⟨U1.heap.size, 3, none⟩ = false := frozen_of_row _ _ _ _ _ R5_4
        go_simp
        have hF := four_sets U4 (U1.heap.size) _ _ _ _ (.int .i64 kd) (.int .u64 (bt : Nat)) (.int .u64 (nm : Nat)) (.string bd) _ R5_4
        have hB5 := hB4.trans (hF.1.mono L5)
        have R5_5 := hF.2
        have R6_5 := (four_other U4 (U1.heap.size) (U0.heap.size) (.int .i64 kd) (.int .u64 (bt : Nat)) (.int .u64 (nm : Nat)) (.string bd) (by first | exact hne | exact hne2)).trans R6_4
        refine hK _ _ (HS.out _ hB5) ?_
        clear hK K hF y0 y1 y2 y3 z0 z1 z2 z3
        try simp only [Act.put, List.getElem_toArray, List.getElem_cons_succ, List.getElem_cons_zero, List.setIfInBounds_toArray, List.set_cons_zero, List.set_cons_succ]
        generalize ((((U4.setCell ⟨U1.heap.size, 0, none⟩ (.int .i64 kd)).setCell ⟨U1.heap.size, 1, none⟩ (.int .u64 (bt : Nat))).setCell ⟨U1.heap.size, 2, none⟩ (.int .u64 (nm : Nat))).setCell ⟨U1.heap.size, 3, none⟩ (.string bd)) = U5 at hB5 R5_5 R6_5 ⊢
        refine heldS_one (i := 7) (by kernel_rfl) rfl (fun K hK => ?_)
        have y0 : U5.cell? ⟨U0.heap.size, 0, none⟩ = some (.int .i64 0) := cell_of_row _ _ _ _ _ _ R6_5
        have z0 : U5.frozen? ⟨U0.heap.size, 0, none⟩ = false := frozen_of_row _ _ _ _ _ R6_5
        have y1 : U5.cell? ⟨U0.heap.size, 1, none⟩ = some (.int .u64 0) := cell_of_row _ _ _ _ _ _ R6_5
        have z1 : U5.frozen? ⟨U0.heap.size, 1, none⟩ = false := frozen_of_row _ _ _ _ _ R6_5
        have y2 : U5.cell? ⟨U0.heap.size, 2, none⟩ = some (.int .u64 0) := cell_of_row _ _ _ _ _ _ R6_5
        have z2 : U5.frozen? ⟨U0.heap.size, 2, none⟩ = false := frozen_of_row _ _ _ _ _ R6_5
        have y3 : U5.cell? ⟨U0.heap.size, 3, none⟩ = some (.string ⟨#[]⟩) := cell_of_row _ _ _ _ _ _ R6_5
        have z3 : U5.frozen? ⟨U0.heap.size, 3, none⟩ = false := frozen_of_row _ _ _ _ _ R6_5
        go_simp
        have hF := four_sets U5 (U0.heap.size) _ _ _ _ (.int .i64 kd2) (.int .u64 (bt2 : Nat)) (.int .u64 (nm2 : Nat)) (.string bd2) _ R6_5
        have hB6 := hB5.trans (hF.1.mono L6)
        have R6_6 := hF.2
        have R5_6 := (four_other U5 (U0.heap.size) (U1.heap.size) (.int .i64 kd2) (.int .u64 (bt2 : Nat)) (.int .u64 (nm2 : Nat)) (.string bd2) (by first | exact hne | exact hne2)).trans R5_5
        refine hK _ _ (HS.out _ hB6) ?_
        clear hK K hF y0 y1 y2 y3 z0 z1 z2 z3
        try simp only [Act.put, List.getElem_toArray, List.getElem_cons_succ, List.getElem_cons_zero, List.setIfInBounds_toArray, List.set_cons_zero, List.set_cons_succ]
        generalize ((((U5.setCell ⟨U0.heap.size, 0, none⟩ (.int .i64 kd2)).setCell ⟨U0.heap.size, 1, none⟩ (.int .u64 (bt2 : Nat))).setCell ⟨U0.heap.size, 2, none⟩ (.int .u64 (nm2 : Nat))).setCell ⟨U0.heap.size, 3, none⟩ (.string bd2)) = U6 at hB6 R5_6 R6_6 ⊢
        refine wpAnyH_done (by kernel_rfl) ?_ _
        go_wp2_with fail
        go_meet
        case rel => exact ⟨_, _, rfl, rfl, hide ⟨HS0.out.step hB6, R5_6, R6_6⟩⟩
  case rest =>
    obtain ⟨n5, n6, rfl, rfl, HQ⟩ := hcut
    clear HT1 HT2 HS HS0
    have c0 := cell_of_row _ _ 0 _ _ _ HQ.out.pw.row
    have d0 := cell_of_row _ _ 0 _ _ _ HQ.out.pw.row2
    have a0 := cell_of_row _ _ 0 _ _ _ HQ.out.row
    have b0 := cell_of_row _ _ 0 _ _ _ HQ.out.row2
    have c1 := cell_of_row _ _ 1 _ _ _ HQ.out.pw.row
    have d1 := cell_of_row _ _ 1 _ _ _ HQ.out.pw.row2
    have a1 := cell_of_row _ _ 1 _ _ _ HQ.out.row
    have b1 := cell_of_row _ _ 1 _ _ _ HQ.out.row2
    have c2 := cell_of_row _ _ 2 _ _ _ HQ.out.pw.row
    have d2 := cell_of_row _ _ 2 _ _ _ HQ.out.pw.row2
    have a2 := cell_of_row _ _ 2 _ _ _ HQ.out.row
    have b2 := cell_of_row _ _ 2 _ _ _ HQ.out.row2
    have c3 := cell_of_row _ _ 3 _ _ _ HQ.out.pw.row
    have d3 := cell_of_row _ _ 3 _ _ _ HQ.out.pw.row2
    have a3 := cell_of_row _ _ 3 _ _ _ HQ.out.row
    have b3 := cell_of_row _ _ 3 _ _ _ HQ.out.row2
    go_wp2_with fail
    refine (HP.out _ HQ.out.pw.below).mono ?_
    rintro e w1 ⟨A, c, rfl, hC, hR, hB⟩
    have HQ1 := hide (HQ.out.step hB)
    have HCv := hide (fun (W : World) (q : Below w1.heap.size w1 W) => conv_any (hR.below q (Nat.le_refl _)) c)
    have HGe1 := hide (fun (W : World) (q : Below w1.heap.size w1 W) (hr : r = true) => HGe.out hr W A c (HQ1.out.pw.below.trans (q.mono HQ1.out.pw.below.size)) ((hR.below q (Nat.le_refl _)).mono q.size) hC)
    clear c0 c1 c2 c3 d0 d1 d2 d3 a0 a1 a2 a3 b0 b1 b2 b3 hB hC hR HP HQ HGe
    have c0 := cell_of_row _ _ 0 _ _ _ HQ1.out.pw.row
    have d0 := cell_of_row _ _ 0 _ _ _ HQ1.out.pw.row2
    have a0 := cell_of_row _ _ 0 _ _ _ HQ1.out.row
    have b0 := cell_of_row _ _ 0 _ _ _ HQ1.out.row2
    have c1 := cell_of_row _ _ 1 _ _ _ HQ1.out.pw.row
    have d1 := cell_of_row _ _ 1 _ _ _ HQ1.out.pw.row2
    have a1 := cell_of_row _ _ 1 _ _ _ HQ1.out.row
    have b1 := cell_of_row _ _ 1 _ _ _ HQ1.out.row2
    have c2 := cell_of_row _ _ 2 _ _ _ HQ1.out.pw.row
    have d2 := cell_of_row _ _ 2 _ _ _ HQ1.out.pw.row2
    have a2 := cell_of_row _ _ 2 _ _ _ HQ1.out.row
    have b2 := cell_of_row _ _ 2 _ _ _ HQ1.out.row2
    have c3 := cell_of_row _ _ 3 _ _ _ HQ1.out.pw.row
    have d3 := cell_of_row _ _ 3 _ _ _ HQ1.out.pw.row2
    have a3 := cell_of_row _ _ 3 _ _ _ HQ1.out.row
    have b3 := cell_of_row _ _ 3 _ _ _ HQ1.out.row2
    generalize P.length = n at HCv HGe1 ⊢
    generalize ofL P = X at HRp HCv
    go_upto_region 5 with fail
    go_cut [8] (fun x wx => x = .bool nw ∧ w1 = wx)
    case first =>
      by_cases h1 : bt2 < bt
      · have p1 : (bt2 : Int) < (bt : Int) := by omega
        have e1 : nw = true := by rw [HNW.out]; simp <;> omega
        subst e1
        clear h1
        clear HNW HAL
        go_wp2_with fail
        go_meet
        case rel => exact ⟨rfl, rfl⟩
      · by_cases h2 : bt = bt2
        · subst h2
          by_cases h3 : nm2 < nm
          · have p1 : (nm2 : Int) < (nm : Int) := by omega
            have e1 : nw = true := by rw [HNW.out]; simp <;> omega
            subst e1
            clear h1 h3
            clear HNW HAL
            go_wp2_with fail
            go_meet
            case rel => exact ⟨rfl, rfl⟩
          · have p1 : ¬ (nm2 : Int) < (nm : Int) := by omega
            have e1 : nw = false := by rw [HNW.out]; simp <;> omega
            subst e1
            clear h1 h3
            clear HNW HAL
            go_wp2_with fail
            go_meet
            case rel => exact ⟨rfl, rfl⟩
        · have p1 : ¬ (bt2 : Int) < (bt : Int) := by omega
          have p2 : ¬ (bt : Int) = (bt2 : Int) := by omega
          have e1 : nw = false := by rw [HNW.out]; simp <;> omega
          subst e1
          clear h1 h2
          clear HNW HAL
          go_wp2_with fail
          go_meet
          case rel => exact ⟨rfl, rfl⟩
    case rest =>
    obtain ⟨rfl, rfl⟩ := hcut
    clear HNW
    clear c0 c1 c2 c3 d0 d1 d2 d3 a0 a1 a2 a3 b0 b1 b2 b3
    have c0 := cell_of_row _ _ 0 _ _ _ HQ1.out.pw.row
    have d0 := cell_of_row _ _ 0 _ _ _ HQ1.out.pw.row2
    have a0 := cell_of_row _ _ 0 _ _ _ HQ1.out.row
    have b0 := cell_of_row _ _ 0 _ _ _ HQ1.out.row2
    have c1 := cell_of_row _ _ 1 _ _ _ HQ1.out.pw.row
    have d1 := cell_of_row _ _ 1 _ _ _ HQ1.out.pw.row2
    have a1 := cell_of_row _ _ 1 _ _ _ HQ1.out.row
    have b1 := cell_of_row _ _ 1 _ _ _ HQ1.out.row2
    have c2 := cell_of_row _ _ 2 _ _ _ HQ1.out.pw.row
    have d2 := cell_of_row _ _ 2 _ _ _ HQ1.out.pw.row2
    have a2 := cell_of_row _ _ 2 _ _ _ HQ1.out.row
    have b2 := cell_of_row _ _ 2 _ _ _ HQ1.out.row2
    have c3 := cell_of_row _ _ 3 _ _ _ HQ1.out.pw.row
    have d3 := cell_of_row _ _ 3 _ _ _ HQ1.out.pw.row2
    have a3 := cell_of_row _ _ 3 _ _ _ HQ1.out.row
    have b3 := cell_of_row _ _ 3 _ _ _ HQ1.out.row2
    go_upto_region 6 with fail
    go_cut [83] (fun x wx => x = .bool false ∧ Hid (Below w1.heap.size w1 wx))
    case first =>
      by_cases h2 : bt = bt2
      · have e2 := alike_yes HAL.out h2
        clear HAL
        subst h2
        subst e2
        have HSB := hide (fun (W : World) (q : Below w1.heap.size w1 W) => (⟨cell_of_row _ _ 0 _ _ _ (HQ1.out.step q).pw.row, cell_of_row _ _ 1 _ _ _ (HQ1.out.step q).pw.row, cell_of_row _ _ 2 _ _ _ (HQ1.out.step q).pw.row, cell_of_row _ _ 3 _ _ _ (HQ1.out.step q).pw.row, cell_of_row _ _ 0 _ _ _ (HQ1.out.step q).pw.row2, cell_of_row _ _ 1 _ _ _ (HQ1.out.step q).pw.row2, cell_of_row _ _ 2 _ _ _ (HQ1.out.step q).pw.row2, cell_of_row _ _ 3 _ _ _ (HQ1.out.step q).pw.row2, cell_of_row _ _ 0 _ _ _ (HQ1.out.step q).row, cell_of_row _ _ 1 _ _ _ (HQ1.out.step q).row, cell_of_row _ _ 2 _ _ _ (HQ1.out.step q).row, cell_of_row _ _ 3 _ _ _ (HQ1.out.step q).row, cell_of_row _ _ 0 _ _ _ (HQ1.out.step q).row2, cell_of_row _ _ 1 _ _ _ (HQ1.out.step q).row2, cell_of_row _ _ 2 _ _ _ (HQ1.out.step q).row2, cell_of_row _ _ 3 _ _ _ (HQ1.out.step q).row2, HCv.out W q⟩ : W.cell? ⟨w.heap.size, 0, none⟩ = some (.int .i64 kd) ∧ W.cell? ⟨w.heap.size, 1, none⟩ = some (.int .u64 (bt : Nat)) ∧ W.cell? ⟨w.heap.size, 2, none⟩ = some (.int .u64 (nm : Nat)) ∧ W.cell? ⟨w.heap.size, 3, none⟩ = some (.string bd) ∧ W.cell? ⟨w.heap.size + 1, 0, none⟩ = some (.int .i64 kd2) ∧ W.cell? ⟨w.heap.size + 1, 1, none⟩ = some (.int .u64 (bt : Nat)) ∧ W.cell? ⟨w.heap.size + 1, 2, none⟩ = some (.int .u64 (nm2 : Nat)) ∧ W.cell? ⟨w.heap.size + 1, 3, none⟩ = some (.string bd2) ∧ W.cell? ⟨n5, 0, none⟩ = some (.int .i64 kd) ∧ W.cell? ⟨n5, 1, none⟩ = some (.int .u64 (bt : Nat)) ∧ W.cell? ⟨n5, 2, none⟩ = some (.int .u64 (nm : Nat)) ∧ W.cell? ⟨n5, 3, none⟩ = some (.string bd) ∧ W.cell? ⟨n6, 0, none⟩ = some (.int .i64 kd2) ∧ W.cell? ⟨n6, 1, none⟩ = some (.int .u64 (bt : Nat)) ∧ W.cell? ⟨n6, 2, none⟩ = some (.int .u64 (nm2 : Nat)) ∧ W.cell? ⟨n6, 3, none⟩ = some (.string bd2) ∧ (convert 28 9 (.slice A n c)).run Tryd.prog W = .ok (.string X) W))
        clear HCv HQ1 HGe1 c0 c1 c2 c3 d0 d1 d2 d3 a0 a1 a2 a3 b0 b1 b2 b3
        have hB0 := (Below.refl w1.heap.size w1).drew
        have hS := HSB.out _ hB0
        refine wp_region_held (by kernel_rfl) (S := fun W => W.cell? ⟨w.heap.size, 0, none⟩ = some (.int .i64 kd) ∧ W.cell? ⟨w.heap.size, 1, none⟩ = some (.int .u64 (bt : Nat)) ∧ W.cell? ⟨w.heap.size, 2, none⟩ = some (.int .u64 (nm : Nat)) ∧ W.cell? ⟨w.heap.size, 3, none⟩ = some (.string bd) ∧ W.cell? ⟨w.heap.size + 1, 0, none⟩ = some (.int .i64 kd2) ∧ W.cell? ⟨w.heap.size + 1, 1, none⟩ = some (.int .u64 (bt : Nat)) ∧ W.cell? ⟨w.heap.size + 1, 2, none⟩ = some (.int .u64 (nm2 : Nat)) ∧ W.cell? ⟨w.heap.size + 1, 3, none⟩ = some (.string bd2) ∧ W.cell? ⟨n5, 0, none⟩ = some (.int .i64 kd) ∧ W.cell? ⟨n5, 1, none⟩ = some (.int .u64 (bt : Nat)) ∧ W.cell? ⟨n5, 2, none⟩ = some (.int .u64 (nm : Nat)) ∧ W.cell? ⟨n5, 3, none⟩ = some (.string bd) ∧ W.cell? ⟨n6, 0, none⟩ = some (.int .i64 kd2) ∧ W.cell? ⟨n6, 1, none⟩ = some (.int .u64 (bt : Nat)) ∧ W.cell? ⟨n6, 2, none⟩ = some (.int .u64 (nm2 : Nat)) ∧ W.cell? ⟨n6, 3, none⟩ = some (.string bd2) ∧ (convert 28 9 (.slice A n c)).run Tryd.prog W = .ok (.string X) W) ?_
        change wpAnyH _ _ _ _ _ _ _ _ (World.drew _)
        refine wpAnyH_take (i := 0) (v := .slice A n c) rfl (by kernel_rfl) (by kernel_rfl) (by kernel_rfl) (fun _ _ _ h => h) (Or.inl ⟨by kernel_rfl, ?_⟩) hS ?_
        · intro W hS; obtain ⟨s0, s1, s2, s3, s4, s5, s6, s7, s8, s9, s10, s11, s12, s13, s14, s15, s16⟩ := hS; go_simp; try with_reducible rfl
        try simp only [Act.put, List.getElem_toArray, List.getElem_cons_zero, List.setIfInBounds_toArray, List.set_cons_zero, List.set_cons_succ]
        refine wpAnyH_take (i := 1) (v := .string X) rfl (by kernel_rfl) (by kernel_rfl) (by kernel_rfl) (fun _ _ _ h => h) (Or.inl ⟨by kernel_rfl, ?_⟩) hS ?_
        · intro W hS; obtain ⟨s0, s1, s2, s3, s4, s5, s6, s7, s8, s9, s10, s11, s12, s13, s14, s15, s16⟩ := hS; go_simp; try with_reducible rfl
        try simp only [Act.put, List.getElem_toArray, List.getElem_cons_succ, List.getElem_cons_zero, List.setIfInBounds_toArray, List.set_cons_zero, List.set_cons_succ]
        refine wpAnyH_take (i := 2) (v := .agg #[.int .i64 kd, .int .u64 (bt : Nat), .int .u64 (nm : Nat), .string bd]) rfl (by kernel_rfl) (by kernel_rfl) (by kernel_rfl) (fun _ _ _ h => h) (Or.inl ⟨by kernel_rfl, ?_⟩) hS ?_
        · intro W hS; obtain ⟨s0, s1, s2, s3, s4, s5, s6, s7, s8, s9, s10, s11, s12, s13, s14, s15, s16⟩ := hS; go_simp; try with_reducible rfl
        try simp only [Act.put, List.getElem_toArray, List.getElem_cons_succ, List.getElem_cons_zero, List.setIfInBounds_toArray, List.set_cons_zero, List.set_cons_succ]
        generalize w1.drew = U0 at hB0 hS ⊢
        refine heldS_one (i := 3) (by kernel_rfl) rfl (fun K hK => ?_)
        go_simp
        refine (HRp.out _).mono ?_
        rintro en U1 ⟨rfl, hb⟩
        have hB1 := hB0.trans (hb.mono hB0.size)
        have hS := HSB.out _ hB1
        refine hK _ _ hS ?_
        clear hK K hb
        try simp only [Act.put, List.getElem_toArray, List.getElem_cons_succ, List.getElem_cons_zero, List.setIfInBounds_toArray, List.set_cons_zero, List.set_cons_succ]
        refine wpAnyH_take (i := 4) (v := .bool false) rfl (by kernel_rfl) (by kernel_rfl) (by kernel_rfl) (fun _ _ _ h => h) (Or.inl ⟨by kernel_rfl, ?_⟩) hS ?_
        · intro W hS; obtain ⟨s0, s1, s2, s3, s4, s5, s6, s7, s8, s9, s10, s11, s12, s13, s14, s15, s16⟩ := hS; go_simp; try with_reducible rfl
        try simp only [Act.put, List.getElem_toArray, List.getElem_cons_succ, List.getElem_cons_zero, List.setIfInBounds_toArray, List.set_cons_zero, List.set_cons_succ]
        refine wpAnyH_take (i := 5) (v := .bool false) rfl (by kernel_rfl) (by kernel_rfl) (by kernel_rfl) (fun _ _ _ h => h) (Or.inl ⟨by kernel_rfl, ?_⟩) hS ?_
        · intro W hS; obtain ⟨s0, s1, s2, s3, s4, s5, s6, s7, s8, s9, s10, s11, s12, s13, s14, s15, s16⟩ := hS; go_simp; try with_reducible rfl
        try simp only [Act.put, List.getElem_toArray, List.getElem_cons_succ, List.getElem_cons_zero, List.setIfInBounds_toArray, List.set_cons_zero, List.set_cons_succ]
        refine wpAnyH_take (i := 6) (v := .agg #[.int .i64 kd, .int .u64 (bt : Nat), .int .u64 (nm : Nat), .string bd]) rfl (by kernel_rfl) (by kernel_rfl) (by kernel_rfl) (fun _ _ _ h => h) (Or.inl ⟨by kernel_rfl, ?_⟩) hS ?_
        · intro W hS; obtain ⟨s0, s1, s2, s3, s4, s5, s6, s7, s8, s9, s10, s11, s12, s13, s14, s15, s16⟩ := hS; go_simp; try with_reducible rfl
        try simp only [Act.put, List.getElem_toArray, List.getElem_cons_succ, List.getElem_cons_zero, List.setIfInBounds_toArray, List.set_cons_zero, List.set_cons_succ]
        refine wpAnyH_take (i := 8) (v := .agg #[.int .i64 kd, .int .u64 (bt : Nat), .int .u64 (nm : Nat), .string bd]) rfl (by kernel_rfl) (by kernel_rfl) (by kernel_rfl) (fun _ _ _ h => h) (Or.inl ⟨by kernel_rfl, ?_⟩) hS ?_
        · intro W hS; obtain ⟨s0, s1, s2, s3, s4, s5, s6, s7, s8, s9, s10, s11, s12, s13, s14, s15, s16⟩ := hS; go_simp; try with_reducible rfl
        try simp only [Act.put, List.getElem_toArray, List.getElem_cons_succ, List.getElem_cons_zero, List.setIfInBounds_toArray, List.set_cons_zero, List.set_cons_succ]
        refine heldS_one (i := 7) (by kernel_rfl) rfl (fun K hK => ?_)
        go_simp
        refine (HR1.out _).mono ?_
        rintro en U2 ⟨rfl, hb⟩
        have hB2 := hB1.trans (hb.mono hB1.size)
        have hS := HSB.out _ hB2
        refine hK _ _ hS ?_
        clear hK K hb
        try simp only [Act.put, List.getElem_toArray, List.getElem_cons_succ, List.getElem_cons_zero, List.setIfInBounds_toArray, List.set_cons_zero, List.set_cons_succ]
        refine heldS_one (i := 9) (by kernel_rfl) rfl (fun K hK => ?_)
        go_simp
        refine (HR2.out _).mono ?_
        rintro en U3 ⟨rfl, hb⟩
        have hB3 := hB2.trans (hb.mono hB2.size)
        have hS := HSB.out _ hB3
        refine hK _ _ hS ?_
        clear hK K hb
        try simp only [Act.put, List.getElem_toArray, List.getElem_cons_succ, List.getElem_cons_zero, List.setIfInBounds_toArray, List.set_cons_zero, List.set_cons_succ]
        refine wpAnyH_take (i := 10) (v := .bool false) rfl (by kernel_rfl) (by kernel_rfl) (by kernel_rfl) (fun _ _ _ h => h) (Or.inl ⟨by kernel_rfl, ?_⟩) hS ?_
        · intro W hS; obtain ⟨s0, s1, s2, s3, s4, s5, s6, s7, s8, s9, s10, s11, s12, s13, s14, s15, s16⟩ := hS; go_simp; try with_reducible rfl
        try simp only [Act.put, List.getElem_toArray, List.getElem_cons_succ, List.getElem_cons_zero, List.setIfInBounds_toArray, List.set_cons_zero, List.set_cons_succ]
        refine wpAnyH_take (i := 11) (v := .bool false) rfl (by kernel_rfl) (by kernel_rfl) (by kernel_rfl) (fun _ _ _ h => h) (Or.inl ⟨by kernel_rfl, ?_⟩) hS ?_
        · intro W hS; obtain ⟨s0, s1, s2, s3, s4, s5, s6, s7, s8, s9, s10, s11, s12, s13, s14, s15, s16⟩ := hS; go_simp; try with_reducible rfl
        try simp only [Act.put, List.getElem_toArray, List.getElem_cons_succ, List.getElem_cons_zero, List.setIfInBounds_toArray, List.set_cons_zero, List.set_cons_succ]
        refine wpAnyH_take (i := 12) (v := .bool false) rfl (by kernel_rfl) (by kernel_rfl) (by kernel_rfl) (fun _ _ _ h => h) (Or.inl ⟨by kernel_rfl, ?_⟩) hS ?_
        · intro W hS; obtain ⟨s0, s1, s2, s3, s4, s5, s6, s7, s8, s9, s10, s11, s12, s13, s14, s15, s16⟩ := hS; go_simp; try with_reducible rfl
        try simp only [Act.put, List.getElem_toArray, List.getElem_cons_succ, List.getElem_cons_zero, List.setIfInBounds_toArray, List.set_cons_zero, List.set_cons_succ]
        refine wpAnyH_take (i := 13) (v := .agg #[.int .i64 kd, .int .u64 (bt : Nat), .int .u64 (nm : Nat), .string bd]) rfl (by kernel_rfl) (by kernel_rfl) (by kernel_rfl) (fun _ _ _ h => h) (Or.inl ⟨by kernel_rfl, ?_⟩) hS ?_
        · intro W hS; obtain ⟨s0, s1, s2, s3, s4, s5, s6, s7, s8, s9, s10, s11, s12, s13, s14, s15, s16⟩ := hS; go_simp; try with_reducible rfl
        try simp only [Act.put, List.getElem_toArray, List.getElem_cons_succ, List.getElem_cons_zero, List.setIfInBounds_toArray, List.set_cons_zero, List.set_cons_succ]
        refine wpAnyH_take (i := 14) (v := .agg #[.int .i64 kd2, .int .u64 (bt : Nat), .int .u64 (nm2 : Nat), .string bd2]) rfl (by kernel_rfl) (by kernel_rfl) (by kernel_rfl) (fun _ _ _ h => h) (Or.inl ⟨by kernel_rfl, ?_⟩) hS ?_
        · intro W hS; obtain ⟨s0, s1, s2, s3, s4, s5, s6, s7, s8, s9, s10, s11, s12, s13, s14, s15, s16⟩ := hS; go_simp; try with_reducible rfl
        try simp only [Act.put, List.getElem_toArray, List.getElem_cons_succ, List.getElem_cons_zero, List.setIfInBounds_toArray, List.set_cons_zero, List.set_cons_succ]
        refine wpAnyH_take (i := 16) (v := .bool nw) rfl (by kernel_rfl) (by kernel_rfl) (by kernel_rfl) (fun _ _ _ h => h) (Or.inl ⟨by kernel_rfl, ?_⟩) hS ?_
        · intro W hS; obtain ⟨s0, s1, s2, s3, s4, s5, s6, s7, s8, s9, s10, s11, s12, s13, s14, s15, s16⟩ := hS; go_simp; try with_reducible rfl
        try simp only [Act.put, List.getElem_toArray, List.getElem_cons_succ, List.getElem_cons_zero, List.setIfInBounds_toArray, List.set_cons_zero, List.set_cons_succ]
        refine heldS_one (i := 15) (by kernel_rfl) rfl (fun K hK => ?_)
        go_simp
        refine (HNw.out _).mono ?_
        rintro en U4 ⟨rfl, hb⟩
        have hB4 := hB3.trans (hb.mono hB3.size)
        have hS := HSB.out _ hB4
        refine hK _ _ hS ?_
        clear hK K hb
        try simp only [Act.put, List.getElem_toArray, List.getElem_cons_succ, List.getElem_cons_zero, List.setIfInBounds_toArray, List.set_cons_zero, List.set_cons_succ]
        refine wpAnyH_take (i := 17) (v := .bool false) rfl (by kernel_rfl) (by kernel_rfl) (by kernel_rfl) (fun _ _ _ h => h) (Or.inl ⟨by kernel_rfl, ?_⟩) hS ?_
        · intro W hS; obtain ⟨s0, s1, s2, s3, s4, s5, s6, s7, s8, s9, s10, s11, s12, s13, s14, s15, s16⟩ := hS; go_simp; try with_reducible rfl
        try simp only [Act.put, List.getElem_toArray, List.getElem_cons_succ, List.getElem_cons_zero, List.setIfInBounds_toArray, List.set_cons_zero, List.set_cons_succ]
        refine wpAnyH_take (i := 18) (v := .bool false) rfl (by kernel_rfl) (by kernel_rfl) (by kernel_rfl) (fun _ _ _ h => h) (Or.inl ⟨by kernel_rfl, ?_⟩) hS ?_
        · intro W hS; obtain ⟨s0, s1, s2, s3, s4, s5, s6, s7, s8, s9, s10, s11, s12, s13, s14, s15, s16⟩ := hS; go_simp; try with_reducible rfl
        try simp only [Act.put, List.getElem_toArray, List.getElem_cons_succ, List.getElem_cons_zero, List.setIfInBounds_toArray, List.set_cons_zero, List.set_cons_succ]
        refine wpAnyH_take (i := 19) (v := .bool false) rfl (by kernel_rfl) (by kernel_rfl) (by kernel_rfl) (fun _ _ _ h => h) (Or.inl ⟨by kernel_rfl, ?_⟩) hS ?_
        · intro W hS; obtain ⟨s0, s1, s2, s3, s4, s5, s6, s7, s8, s9, s10, s11, s12, s13, s14, s15, s16⟩ := hS; go_simp; try with_reducible rfl
        try simp only [Act.put, List.getElem_toArray, List.getElem_cons_succ, List.getElem_cons_zero, List.setIfInBounds_toArray, List.set_cons_zero, List.set_cons_succ]
        refine wpAnyH_take (i := 20) (v := .agg #[.int .i64 kd, .int .u64 (bt : Nat), .int .u64 (nm : Nat), .string bd]) rfl (by kernel_rfl) (by kernel_rfl) (by kernel_rfl) (fun _ _ _ h => h) (Or.inl ⟨by kernel_rfl, ?_⟩) hS ?_
        · intro W hS; obtain ⟨s0, s1, s2, s3, s4, s5, s6, s7, s8, s9, s10, s11, s12, s13, s14, s15, s16⟩ := hS; go_simp; try with_reducible rfl
        try simp only [Act.put, List.getElem_toArray, List.getElem_cons_succ, List.getElem_cons_zero, List.setIfInBounds_toArray, List.set_cons_zero, List.set_cons_succ]
        refine wpAnyH_take (i := 21) (v := .agg #[.int .i64 kd2, .int .u64 (bt : Nat), .int .u64 (nm2 : Nat), .string bd2]) rfl (by kernel_rfl) (by kernel_rfl) (by kernel_rfl) (fun _ _ _ h => h) (Or.inl ⟨by kernel_rfl, ?_⟩) hS ?_
        · intro W hS; obtain ⟨s0, s1, s2, s3, s4, s5, s6, s7, s8, s9, s10, s11, s12, s13, s14, s15, s16⟩ := hS; go_simp; try with_reducible rfl
        try simp only [Act.put, List.getElem_toArray, List.getElem_cons_succ, List.getElem_cons_zero, List.setIfInBounds_toArray, List.set_cons_zero, List.set_cons_succ]
        refine wpAnyH_take (i := 23) (v := .pointer (some ⟨w.heap.size, 1, none⟩)) rfl (by kernel_rfl) (by kernel_rfl) (by kernel_rfl) (fun _ _ _ h => h) (Or.inl ⟨by kernel_rfl, ?_⟩) hS ?_
        · intro W hS; obtain ⟨s0, s1, s2, s3, s4, s5, s6, s7, s8, s9, s10, s11, s12, s13, s14, s15, s16⟩ := hS; go_simp; try with_reducible rfl
        try simp only [Act.put, List.getElem_toArray, List.getElem_cons_succ, List.getElem_cons_zero, List.setIfInBounds_toArray, List.set_cons_zero, List.set_cons_succ]
        refine wpAnyH_take (i := 24) (v := .int .u64 (bt : Nat)) rfl (by kernel_rfl) (by kernel_rfl) (by kernel_rfl) (fun _ _ _ h => h) (Or.inl ⟨by kernel_rfl, ?_⟩) hS ?_
        · intro W hS; obtain ⟨s0, s1, s2, s3, s4, s5, s6, s7, s8, s9, s10, s11, s12, s13, s14, s15, s16⟩ := hS; go_simp; try with_reducible rfl
        try simp only [Act.put, List.getElem_toArray, List.getElem_cons_succ, List.getElem_cons_zero, List.setIfInBounds_toArray, List.set_cons_zero, List.set_cons_succ]
        refine wpAnyH_take (i := 25) (v := .pointer (some ⟨w.heap.size + 1, 1, none⟩)) rfl (by kernel_rfl) (by kernel_rfl) (by kernel_rfl) (fun _ _ _ h => h) (Or.inl ⟨by kernel_rfl, ?_⟩) hS ?_
        · intro W hS; obtain ⟨s0, s1, s2, s3, s4, s5, s6, s7, s8, s9, s10, s11, s12, s13, s14, s15, s16⟩ := hS; go_simp; try with_reducible rfl
        try simp only [Act.put, List.getElem_toArray, List.getElem_cons_succ, List.getElem_cons_zero, List.setIfInBounds_toArray, List.set_cons_zero, List.set_cons_succ]
        refine wpAnyH_take (i := 26) (v := .int .u64 (bt : Nat)) rfl (by kernel_rfl) (by kernel_rfl) (by kernel_rfl) (fun _ _ _ h => h) (Or.inl ⟨by kernel_rfl, ?_⟩) hS ?_
        · intro W hS; obtain ⟨s0, s1, s2, s3, s4, s5, s6, s7, s8, s9, s10, s11, s12, s13, s14, s15, s16⟩ := hS; go_simp; try with_reducible rfl
        try simp only [Act.put, List.getElem_toArray, List.getElem_cons_succ, List.getElem_cons_zero, List.setIfInBounds_toArray, List.set_cons_zero, List.set_cons_succ]
        refine wpAnyH_take (i := 27) (v := .bool true) rfl (by kernel_rfl) (by kernel_rfl) (by kernel_rfl) (fun _ _ _ h => h) (Or.inl ⟨by kernel_rfl, ?_⟩) hS ?_
        · intro W hS; obtain ⟨s0, s1, s2, s3, s4, s5, s6, s7, s8, s9, s10, s11, s12, s13, s14, s15, s16⟩ := hS; go_simp; try with_reducible rfl
        try simp only [Act.put, List.getElem_toArray, List.getElem_cons_succ, List.getElem_cons_zero, List.setIfInBounds_toArray, List.set_cons_zero, List.set_cons_succ]
        refine heldS_one (i := 22) (by kernel_rfl) rfl (fun K hK => ?_)
        go_simp
        refine (HAl.out _).mono ?_
        rintro en U5 ⟨rfl, hb⟩
        have hB5 := hB4.trans (hb.mono hB4.size)
        have hS := HSB.out _ hB5
        refine hK _ _ hS ?_
        clear hK K hb
        try simp only [Act.put, List.getElem_toArray, List.getElem_cons_succ, List.getElem_cons_zero, List.setIfInBounds_toArray, List.set_cons_zero, List.set_cons_succ]
        refine wpAnyH_take (i := 28) (v := .bool true) rfl (by kernel_rfl) (by kernel_rfl) (by kernel_rfl) (fun _ _ _ h => h) (Or.inl ⟨by kernel_rfl, ?_⟩) hS ?_
        · intro W hS; obtain ⟨s0, s1, s2, s3, s4, s5, s6, s7, s8, s9, s10, s11, s12, s13, s14, s15, s16⟩ := hS; go_simp; try with_reducible rfl
        try simp only [Act.put, List.getElem_toArray, List.getElem_cons_succ, List.getElem_cons_zero, List.setIfInBounds_toArray, List.set_cons_zero, List.set_cons_succ]
        refine wpAnyH_take (i := 29) (v := .pointer (some ⟨w.heap.size, 2, none⟩)) rfl (by kernel_rfl) (by kernel_rfl) (by kernel_rfl) (fun _ _ _ h => h) (Or.inl ⟨by kernel_rfl, ?_⟩) hS ?_
        · intro W hS; obtain ⟨s0, s1, s2, s3, s4, s5, s6, s7, s8, s9, s10, s11, s12, s13, s14, s15, s16⟩ := hS; go_simp; try with_reducible rfl
        try simp only [Act.put, List.getElem_toArray, List.getElem_cons_succ, List.getElem_cons_zero, List.setIfInBounds_toArray, List.set_cons_zero, List.set_cons_succ]
        refine wpAnyH_take (i := 30) (v := .int .u64 (nm : Nat)) rfl (by kernel_rfl) (by kernel_rfl) (by kernel_rfl) (fun _ _ _ h => h) (Or.inl ⟨by kernel_rfl, ?_⟩) hS ?_
        · intro W hS; obtain ⟨s0, s1, s2, s3, s4, s5, s6, s7, s8, s9, s10, s11, s12, s13, s14, s15, s16⟩ := hS; go_simp; try with_reducible rfl
        try simp only [Act.put, List.getElem_toArray, List.getElem_cons_succ, List.getElem_cons_zero, List.setIfInBounds_toArray, List.set_cons_zero, List.set_cons_succ]
        refine wpAnyH_take (i := 31) (v := .pointer (some ⟨w.heap.size + 1, 2, none⟩)) rfl (by kernel_rfl) (by kernel_rfl) (by kernel_rfl) (fun _ _ _ h => h) (Or.inl ⟨by kernel_rfl, ?_⟩) hS ?_
        · intro W hS; obtain ⟨s0, s1, s2, s3, s4, s5, s6, s7, s8, s9, s10, s11, s12, s13, s14, s15, s16⟩ := hS; go_simp; try with_reducible rfl
        try simp only [Act.put, List.getElem_toArray, List.getElem_cons_succ, List.getElem_cons_zero, List.setIfInBounds_toArray, List.set_cons_zero, List.set_cons_succ]
        refine wpAnyH_take (i := 32) (v := .int .u64 (nm2 : Nat)) rfl (by kernel_rfl) (by kernel_rfl) (by kernel_rfl) (fun _ _ _ h => h) (Or.inl ⟨by kernel_rfl, ?_⟩) hS ?_
        · intro W hS; obtain ⟨s0, s1, s2, s3, s4, s5, s6, s7, s8, s9, s10, s11, s12, s13, s14, s15, s16⟩ := hS; go_simp; try with_reducible rfl
        try simp only [Act.put, List.getElem_toArray, List.getElem_cons_succ, List.getElem_cons_zero, List.setIfInBounds_toArray, List.set_cons_zero, List.set_cons_succ]
        refine wpAnyH_take (i := 33) (v := .bool ((nm : Int) == (nm2 : Int))) rfl (by kernel_rfl) (by kernel_rfl) (by kernel_rfl) (fun _ _ _ h => h) (Or.inl ⟨by kernel_rfl, ?_⟩) hS ?_
        · intro W hS; obtain ⟨s0, s1, s2, s3, s4, s5, s6, s7, s8, s9, s10, s11, s12, s13, s14, s15, s16⟩ := hS; go_simp; try with_reducible rfl
        try simp only [Act.put, List.getElem_toArray, List.getElem_cons_succ, List.getElem_cons_zero, List.setIfInBounds_toArray, List.set_cons_zero, List.set_cons_succ]
        refine wpAnyH_take (i := 34) (v := .bool ((nm : Int) == (nm2 : Int))) rfl (by kernel_rfl) (by kernel_rfl) (by kernel_rfl) (fun _ _ _ h => h) (Or.inl ⟨by kernel_rfl, ?_⟩) hS ?_
        · intro W hS; obtain ⟨s0, s1, s2, s3, s4, s5, s6, s7, s8, s9, s10, s11, s12, s13, s14, s15, s16⟩ := hS; go_simp; try with_reducible rfl
        try simp only [Act.put, List.getElem_toArray, List.getElem_cons_succ, List.getElem_cons_zero, List.setIfInBounds_toArray, List.set_cons_zero, List.set_cons_succ]
        refine wpAnyH_take (i := 35) (v := .bool false) rfl (by kernel_rfl) (by kernel_rfl) (by kernel_rfl) (fun _ _ _ h => h) (Or.inl ⟨by kernel_rfl, ?_⟩) hS ?_
        · intro W hS; obtain ⟨s0, s1, s2, s3, s4, s5, s6, s7, s8, s9, s10, s11, s12, s13, s14, s15, s16⟩ := hS; go_simp; try with_reducible rfl
        try simp only [Act.put, List.getElem_toArray, List.getElem_cons_succ, List.getElem_cons_zero, List.setIfInBounds_toArray, List.set_cons_zero, List.set_cons_succ]
        refine wpAnyH_take (i := 36) (v := .bool false) rfl (by kernel_rfl) (by kernel_rfl) (by kernel_rfl) (fun _ _ _ h => h) (Or.inl ⟨by kernel_rfl, ?_⟩) hS ?_
        · intro W hS; obtain ⟨s0, s1, s2, s3, s4, s5, s6, s7, s8, s9, s10, s11, s12, s13, s14, s15, s16⟩ := hS; go_simp; try with_reducible rfl
        try simp only [Act.put, List.getElem_toArray, List.getElem_cons_succ, List.getElem_cons_zero, List.setIfInBounds_toArray, List.set_cons_zero, List.set_cons_succ]
        refine wpAnyH_done (by kernel_rfl) ?_ _
        go_wp2_with fail
        go_meet
        case rel => exact ⟨rfl, hide hB5⟩
      · have e2 := alike_no HAL.out h2
        subst e2
        have p2 := int_ne h2
        clear HAL h2
        have HSB := hide (fun (W : World) (q : Below w1.heap.size w1 W) => (⟨cell_of_row _ _ 0 _ _ _ (HQ1.out.step q).pw.row, cell_of_row _ _ 1 _ _ _ (HQ1.out.step q).pw.row, cell_of_row _ _ 2 _ _ _ (HQ1.out.step q).pw.row, cell_of_row _ _ 3 _ _ _ (HQ1.out.step q).pw.row, cell_of_row _ _ 0 _ _ _ (HQ1.out.step q).pw.row2, cell_of_row _ _ 1 _ _ _ (HQ1.out.step q).pw.row2, cell_of_row _ _ 2 _ _ _ (HQ1.out.step q).pw.row2, cell_of_row _ _ 3 _ _ _ (HQ1.out.step q).pw.row2, cell_of_row _ _ 0 _ _ _ (HQ1.out.step q).row, cell_of_row _ _ 1 _ _ _ (HQ1.out.step q).row, cell_of_row _ _ 2 _ _ _ (HQ1.out.step q).row, cell_of_row _ _ 3 _ _ _ (HQ1.out.step q).row, cell_of_row _ _ 0 _ _ _ (HQ1.out.step q).row2, cell_of_row _ _ 1 _ _ _ (HQ1.out.step q).row2, cell_of_row _ _ 2 _ _ _ (HQ1.out.step q).row2, cell_of_row _ _ 3 _ _ _ (HQ1.out.step q).row2, HCv.out W q⟩ : W.cell? ⟨w.heap.size, 0, none⟩ = some (.int .i64 kd) ∧ W.cell? ⟨w.heap.size, 1, none⟩ = some (.int .u64 (bt : Nat)) ∧ W.cell? ⟨w.heap.size, 2, none⟩ = some (.int .u64 (nm : Nat)) ∧ W.cell? ⟨w.heap.size, 3, none⟩ = some (.string bd) ∧ W.cell? ⟨w.heap.size + 1, 0, none⟩ = some (.int .i64 kd2) ∧ W.cell? ⟨w.heap.size + 1, 1, none⟩ = some (.int .u64 (bt2 : Nat)) ∧ W.cell? ⟨w.heap.size + 1, 2, none⟩ = some (.int .u64 (nm2 : Nat)) ∧ W.cell? ⟨w.heap.size + 1, 3, none⟩ = some (.string bd2) ∧ W.cell? ⟨n5, 0, none⟩ = some (.int .i64 kd) ∧ W.cell? ⟨n5, 1, none⟩ = some (.int .u64 (bt : Nat)) ∧ W.cell? ⟨n5, 2, none⟩ = some (.int .u64 (nm : Nat)) ∧ W.cell? ⟨n5, 3, none⟩ = some (.string bd) ∧ W.cell? ⟨n6, 0, none⟩ = some (.int .i64 kd2) ∧ W.cell? ⟨n6, 1, none⟩ = some (.int .u64 (bt2 : Nat)) ∧ W.cell? ⟨n6, 2, none⟩ = some (.int .u64 (nm2 : Nat)) ∧ W.cell? ⟨n6, 3, none⟩ = some (.string bd2) ∧ (convert 28 9 (.slice A n c)).run Tryd.prog W = .ok (.string X) W))
        clear HCv HQ1 HGe1 c0 c1 c2 c3 d0 d1 d2 d3 a0 a1 a2 a3 b0 b1 b2 b3
        have hB0 := (Below.refl w1.heap.size w1).drew
        have hS := HSB.out _ hB0
        refine wp_region_held (by kernel_rfl) (S := fun W => W.cell? ⟨w.heap.size, 0, none⟩ = some (.int .i64 kd) ∧ W.cell? ⟨w.heap.size, 1, none⟩ = some (.int .u64 (bt : Nat)) ∧ W.cell? ⟨w.heap.size, 2, none⟩ = some (.int .u64 (nm : Nat)) ∧ W.cell? ⟨w.heap.size, 3, none⟩ = some (.string bd) ∧ W.cell? ⟨w.heap.size + 1, 0, none⟩ = some (.int .i64 kd2) ∧ W.cell? ⟨w.heap.size + 1, 1, none⟩ = some (.int .u64 (bt2 : Nat)) ∧ W.cell? ⟨w.heap.size + 1, 2, none⟩ = some (.int .u64 (nm2 : Nat)) ∧ W.cell? ⟨w.heap.size + 1, 3, none⟩ = some (.string bd2) ∧ W.cell? ⟨n5, 0, none⟩ = some (.int .i64 kd) ∧ W.cell? ⟨n5, 1, none⟩ = some (.int .u64 (bt : Nat)) ∧ W.cell? ⟨n5, 2, none⟩ = some (.int .u64 (nm : Nat)) ∧ W.cell? ⟨n5, 3, none⟩ = some (.string bd) ∧ W.cell? ⟨n6, 0, none⟩ = some (.int .i64 kd2) ∧ W.cell? ⟨n6, 1, none⟩ = some (.int .u64 (bt2 : Nat)) ∧ W.cell? ⟨n6, 2, none⟩ = some (.int .u64 (nm2 : Nat)) ∧ W.cell? ⟨n6, 3, none⟩ = some (.string bd2) ∧ (convert 28 9 (.slice A n c)).run Tryd.prog W = .ok (.string X) W) ?_
        change wpAnyH _ _ _ _ _ _ _ _ (World.drew _)
        refine wpAnyH_take (i := 0) (v := .slice A n c) rfl (by kernel_rfl) (by kernel_rfl) (by kernel_rfl) (fun _ _ _ h => h) (Or.inl ⟨by kernel_rfl, ?_⟩) hS ?_
        · intro W hS; obtain ⟨s0, s1, s2, s3, s4, s5, s6, s7, s8, s9, s10, s11, s12, s13, s14, s15, s16⟩ := hS; go_simp; try with_reducible rfl
        try simp only [Act.put, List.getElem_toArray, List.getElem_cons_zero, List.setIfInBounds_toArray, List.set_cons_zero, List.set_cons_succ]
        refine wpAnyH_take (i := 1) (v := .string X) rfl (by kernel_rfl) (by kernel_rfl) (by kernel_rfl) (fun _ _ _ h => h) (Or.inl ⟨by kernel_rfl, ?_⟩) hS ?_
        · intro W hS; obtain ⟨s0, s1, s2, s3, s4, s5, s6, s7, s8, s9, s10, s11, s12, s13, s14, s15, s16⟩ := hS; go_simp; try with_reducible rfl
        try simp only [Act.put, List.getElem_toArray, List.getElem_cons_succ, List.getElem_cons_zero, List.setIfInBounds_toArray, List.set_cons_zero, List.set_cons_succ]
        refine wpAnyH_take (i := 2) (v := .agg #[.int .i64 kd, .int .u64 (bt : Nat), .int .u64 (nm : Nat), .string bd]) rfl (by kernel_rfl) (by kernel_rfl) (by kernel_rfl) (fun _ _ _ h => h) (Or.inl ⟨by kernel_rfl, ?_⟩) hS ?_
        · intro W hS; obtain ⟨s0, s1, s2, s3, s4, s5, s6, s7, s8, s9, s10, s11, s12, s13, s14, s15, s16⟩ := hS; go_simp; try with_reducible rfl
        try simp only [Act.put, List.getElem_toArray, List.getElem_cons_succ, List.getElem_cons_zero, List.setIfInBounds_toArray, List.set_cons_zero, List.set_cons_succ]
        generalize w1.drew = U0 at hB0 hS ⊢
        refine heldS_one (i := 3) (by kernel_rfl) rfl (fun K hK => ?_)
        go_simp
        refine (HRp.out _).mono ?_
        rintro en U1 ⟨rfl, hb⟩
        have hB1 := hB0.trans (hb.mono hB0.size)
        have hS := HSB.out _ hB1
        refine hK _ _ hS ?_
        clear hK K hb
        try simp only [Act.put, List.getElem_toArray, List.getElem_cons_succ, List.getElem_cons_zero, List.setIfInBounds_toArray, List.set_cons_zero, List.set_cons_succ]
        refine wpAnyH_take (i := 4) (v := .bool false) rfl (by kernel_rfl) (by kernel_rfl) (by kernel_rfl) (fun _ _ _ h => h) (Or.inl ⟨by kernel_rfl, ?_⟩) hS ?_
        · intro W hS; obtain ⟨s0, s1, s2, s3, s4, s5, s6, s7, s8, s9, s10, s11, s12, s13, s14, s15, s16⟩ := hS; go_simp; try with_reducible rfl
        try simp only [Act.put, List.getElem_toArray, List.getElem_cons_succ, List.getElem_cons_zero, List.setIfInBounds_toArray, List.set_cons_zero, List.set_cons_succ]
        refine wpAnyH_take (i := 5) (v := .bool false) rfl (by kernel_rfl) (by kernel_rfl) (by kernel_rfl) (fun _ _ _ h => h) (Or.inl ⟨by kernel_rfl, ?_⟩) hS ?_
        · intro W hS; obtain ⟨s0, s1, s2, s3, s4, s5, s6, s7, s8, s9, s10, s11, s12, s13, s14, s15, s16⟩ := hS; go_simp; try with_reducible rfl
        try simp only [Act.put, List.getElem_toArray, List.getElem_cons_succ, List.getElem_cons_zero, List.setIfInBounds_toArray, List.set_cons_zero, List.set_cons_succ]
        refine wpAnyH_take (i := 6) (v := .agg #[.int .i64 kd, .int .u64 (bt : Nat), .int .u64 (nm : Nat), .string bd]) rfl (by kernel_rfl) (by kernel_rfl) (by kernel_rfl) (fun _ _ _ h => h) (Or.inl ⟨by kernel_rfl, ?_⟩) hS ?_
        · intro W hS; obtain ⟨s0, s1, s2, s3, s4, s5, s6, s7, s8, s9, s10, s11, s12, s13, s14, s15, s16⟩ := hS; go_simp; try with_reducible rfl
        try simp only [Act.put, List.getElem_toArray, List.getElem_cons_succ, List.getElem_cons_zero, List.setIfInBounds_toArray, List.set_cons_zero, List.set_cons_succ]
        refine wpAnyH_take (i := 8) (v := .agg #[.int .i64 kd, .int .u64 (bt : Nat), .int .u64 (nm : Nat), .string bd]) rfl (by kernel_rfl) (by kernel_rfl) (by kernel_rfl) (fun _ _ _ h => h) (Or.inl ⟨by kernel_rfl, ?_⟩) hS ?_
        · intro W hS; obtain ⟨s0, s1, s2, s3, s4, s5, s6, s7, s8, s9, s10, s11, s12, s13, s14, s15, s16⟩ := hS; go_simp; try with_reducible rfl
        try simp only [Act.put, List.getElem_toArray, List.getElem_cons_succ, List.getElem_cons_zero, List.setIfInBounds_toArray, List.set_cons_zero, List.set_cons_succ]
        refine heldS_one (i := 7) (by kernel_rfl) rfl (fun K hK => ?_)
        go_simp
        refine (HR1.out _).mono ?_
        rintro en U2 ⟨rfl, hb⟩
        have hB2 := hB1.trans (hb.mono hB1.size)
        have hS := HSB.out _ hB2
        refine hK _ _ hS ?_
        clear hK K hb
        try simp only [Act.put, List.getElem_toArray, List.getElem_cons_succ, List.getElem_cons_zero, List.setIfInBounds_toArray, List.set_cons_zero, List.set_cons_succ]
        refine heldS_one (i := 9) (by kernel_rfl) rfl (fun K hK => ?_)
        go_simp
        refine (HR2.out _).mono ?_
        rintro en U3 ⟨rfl, hb⟩
        have hB3 := hB2.trans (hb.mono hB2.size)
        have hS := HSB.out _ hB3
        refine hK _ _ hS ?_
        clear hK K hb
        try simp only [Act.put, List.getElem_toArray, List.getElem_cons_succ, List.getElem_cons_zero, List.setIfInBounds_toArray, List.set_cons_zero, List.set_cons_succ]
        refine wpAnyH_take (i := 10) (v := .bool false) rfl (by kernel_rfl) (by kernel_rfl) (by kernel_rfl) (fun _ _ _ h => h) (Or.inl ⟨by kernel_rfl, ?_⟩) hS ?_
        · intro W hS; obtain ⟨s0, s1, s2, s3, s4, s5, s6, s7, s8, s9, s10, s11, s12, s13, s14, s15, s16⟩ := hS; go_simp; try with_reducible rfl
        try simp only [Act.put, List.getElem_toArray, List.getElem_cons_succ, List.getElem_cons_zero, List.setIfInBounds_toArray, List.set_cons_zero, List.set_cons_succ]
        refine wpAnyH_take (i := 11) (v := .bool false) rfl (by kernel_rfl) (by kernel_rfl) (by kernel_rfl) (fun _ _ _ h => h) (Or.inl ⟨by kernel_rfl, ?_⟩) hS ?_
        · intro W hS; obtain ⟨s0, s1, s2, s3, s4, s5, s6, s7, s8, s9, s10, s11, s12, s13, s14, s15, s16⟩ := hS; go_simp; try with_reducible rfl
        try simp only [Act.put, List.getElem_toArray, List.getElem_cons_succ, List.getElem_cons_zero, List.setIfInBounds_toArray, List.set_cons_zero, List.set_cons_succ]
        refine wpAnyH_take (i := 12) (v := .bool false) rfl (by kernel_rfl) (by kernel_rfl) (by kernel_rfl) (fun _ _ _ h => h) (Or.inl ⟨by kernel_rfl, ?_⟩) hS ?_
        · intro W hS; obtain ⟨s0, s1, s2, s3, s4, s5, s6, s7, s8, s9, s10, s11, s12, s13, s14, s15, s16⟩ := hS; go_simp; try with_reducible rfl
        try simp only [Act.put, List.getElem_toArray, List.getElem_cons_succ, List.getElem_cons_zero, List.setIfInBounds_toArray, List.set_cons_zero, List.set_cons_succ]
        refine wpAnyH_take (i := 13) (v := .agg #[.int .i64 kd, .int .u64 (bt : Nat), .int .u64 (nm : Nat), .string bd]) rfl (by kernel_rfl) (by kernel_rfl) (by kernel_rfl) (fun _ _ _ h => h) (Or.inl ⟨by kernel_rfl, ?_⟩) hS ?_
        · intro W hS; obtain ⟨s0, s1, s2, s3, s4, s5, s6, s7, s8, s9, s10, s11, s12, s13, s14, s15, s16⟩ := hS; go_simp; try with_reducible rfl
        try simp only [Act.put, List.getElem_toArray, List.getElem_cons_succ, List.getElem_cons_zero, List.setIfInBounds_toArray, List.set_cons_zero, List.set_cons_succ]
        refine wpAnyH_take (i := 14) (v := .agg #[.int .i64 kd2, .int .u64 (bt2 : Nat), .int .u64 (nm2 : Nat), .string bd2]) rfl (by kernel_rfl) (by kernel_rfl) (by kernel_rfl) (fun _ _ _ h => h) (Or.inl ⟨by kernel_rfl, ?_⟩) hS ?_
        · intro W hS; obtain ⟨s0, s1, s2, s3, s4, s5, s6, s7, s8, s9, s10, s11, s12, s13, s14, s15, s16⟩ := hS; go_simp; try with_reducible rfl
        try simp only [Act.put, List.getElem_toArray, List.getElem_cons_succ, List.getElem_cons_zero, List.setIfInBounds_toArray, List.set_cons_zero, List.set_cons_succ]
        refine wpAnyH_take (i := 16) (v := .bool nw) rfl (by kernel_rfl) (by kernel_rfl) (by kernel_rfl) (fun _ _ _ h => h) (Or.inl ⟨by kernel_rfl, ?_⟩) hS ?_
        · intro W hS; obtain ⟨s0, s1, s2, s3, s4, s5, s6, s7, s8, s9, s10, s11, s12, s13, s14, s15, s16⟩ := hS; go_simp; try with_reducible rfl
        try simp only [Act.put, List.getElem_toArray, List.getElem_cons_succ, List.getElem_cons_zero, List.setIfInBounds_toArray, List.set_cons_zero, List.set_cons_succ]
        refine heldS_one (i := 15) (by kernel_rfl) rfl (fun K hK => ?_)
        go_simp
        refine (HNw.out _).mono ?_
        rintro en U4 ⟨rfl, hb⟩
        have hB4 := hB3.trans (hb.mono hB3.size)
        have hS := HSB.out _ hB4
        refine hK _ _ hS ?_
        clear hK K hb
        try simp only [Act.put, List.getElem_toArray, List.getElem_cons_succ, List.getElem_cons_zero, List.setIfInBounds_toArray, List.set_cons_zero, List.set_cons_succ]
        refine wpAnyH_take (i := 17) (v := .bool false) rfl (by kernel_rfl) (by kernel_rfl) (by kernel_rfl) (fun _ _ _ h => h) (Or.inl ⟨by kernel_rfl, ?_⟩) hS ?_
        · intro W hS; obtain ⟨s0, s1, s2, s3, s4, s5, s6, s7, s8, s9, s10, s11, s12, s13, s14, s15, s16⟩ := hS; go_simp; try with_reducible rfl
        try simp only [Act.put, List.getElem_toArray, List.getElem_cons_succ, List.getElem_cons_zero, List.setIfInBounds_toArray, List.set_cons_zero, List.set_cons_succ]
        refine wpAnyH_take (i := 18) (v := .bool false) rfl (by kernel_rfl) (by kernel_rfl) (by kernel_rfl) (fun _ _ _ h => h) (Or.inl ⟨by kernel_rfl, ?_⟩) hS ?_
        · intro W hS; obtain ⟨s0, s1, s2, s3, s4, s5, s6, s7, s8, s9, s10, s11, s12, s13, s14, s15, s16⟩ := hS; go_simp; try with_reducible rfl
        try simp only [Act.put, List.getElem_toArray, List.getElem_cons_succ, List.getElem_cons_zero, List.setIfInBounds_toArray, List.set_cons_zero, List.set_cons_succ]
        refine wpAnyH_take (i := 19) (v := .bool false) rfl (by kernel_rfl) (by kernel_rfl) (by kernel_rfl) (fun _ _ _ h => h) (Or.inl ⟨by kernel_rfl, ?_⟩) hS ?_
        · intro W hS; obtain ⟨s0, s1, s2, s3, s4, s5, s6, s7, s8, s9, s10, s11, s12, s13, s14, s15, s16⟩ := hS; go_simp; try with_reducible rfl
        try simp only [Act.put, List.getElem_toArray, List.getElem_cons_succ, List.getElem_cons_zero, List.setIfInBounds_toArray, List.set_cons_zero, List.set_cons_succ]
        refine wpAnyH_take (i := 20) (v := .agg #[.int .i64 kd, .int .u64 (bt : Nat), .int .u64 (nm : Nat), .string bd]) rfl (by kernel_rfl) (by kernel_rfl) (by kernel_rfl) (fun _ _ _ h => h) (Or.inl ⟨by kernel_rfl, ?_⟩) hS ?_
        · intro W hS; obtain ⟨s0, s1, s2, s3, s4, s5, s6, s7, s8, s9, s10, s11, s12, s13, s14, s15, s16⟩ := hS; go_simp; try with_reducible rfl
        try simp only [Act.put, List.getElem_toArray, List.getElem_cons_succ, List.getElem_cons_zero, List.setIfInBounds_toArray, List.set_cons_zero, List.set_cons_succ]
        refine wpAnyH_take (i := 21) (v := .agg #[.int .i64 kd2, .int .u64 (bt2 : Nat), .int .u64 (nm2 : Nat), .string bd2]) rfl (by kernel_rfl) (by kernel_rfl) (by kernel_rfl) (fun _ _ _ h => h) (Or.inl ⟨by kernel_rfl, ?_⟩) hS ?_
        · intro W hS; obtain ⟨s0, s1, s2, s3, s4, s5, s6, s7, s8, s9, s10, s11, s12, s13, s14, s15, s16⟩ := hS; go_simp; try with_reducible rfl
        try simp only [Act.put, List.getElem_toArray, List.getElem_cons_succ, List.getElem_cons_zero, List.setIfInBounds_toArray, List.set_cons_zero, List.set_cons_succ]
        refine wpAnyH_take (i := 23) (v := .pointer (some ⟨w.heap.size, 1, none⟩)) rfl (by kernel_rfl) (by kernel_rfl) (by kernel_rfl) (fun _ _ _ h => h) (Or.inl ⟨by kernel_rfl, ?_⟩) hS ?_
        · intro W hS; obtain ⟨s0, s1, s2, s3, s4, s5, s6, s7, s8, s9, s10, s11, s12, s13, s14, s15, s16⟩ := hS; go_simp; try with_reducible rfl
        try simp only [Act.put, List.getElem_toArray, List.getElem_cons_succ, List.getElem_cons_zero, List.setIfInBounds_toArray, List.set_cons_zero, List.set_cons_succ]
        refine wpAnyH_take (i := 24) (v := .int .u64 (bt : Nat)) rfl (by kernel_rfl) (by kernel_rfl) (by kernel_rfl) (fun _ _ _ h => h) (Or.inl ⟨by kernel_rfl, ?_⟩) hS ?_
        · intro W hS; obtain ⟨s0, s1, s2, s3, s4, s5, s6, s7, s8, s9, s10, s11, s12, s13, s14, s15, s16⟩ := hS; go_simp; try with_reducible rfl
        try simp only [Act.put, List.getElem_toArray, List.getElem_cons_succ, List.getElem_cons_zero, List.setIfInBounds_toArray, List.set_cons_zero, List.set_cons_succ]
        refine wpAnyH_take (i := 25) (v := .pointer (some ⟨w.heap.size + 1, 1, none⟩)) rfl (by kernel_rfl) (by kernel_rfl) (by kernel_rfl) (fun _ _ _ h => h) (Or.inl ⟨by kernel_rfl, ?_⟩) hS ?_
        · intro W hS; obtain ⟨s0, s1, s2, s3, s4, s5, s6, s7, s8, s9, s10, s11, s12, s13, s14, s15, s16⟩ := hS; go_simp; try with_reducible rfl
        try simp only [Act.put, List.getElem_toArray, List.getElem_cons_succ, List.getElem_cons_zero, List.setIfInBounds_toArray, List.set_cons_zero, List.set_cons_succ]
        refine wpAnyH_take (i := 26) (v := .int .u64 (bt2 : Nat)) rfl (by kernel_rfl) (by kernel_rfl) (by kernel_rfl) (fun _ _ _ h => h) (Or.inl ⟨by kernel_rfl, ?_⟩) hS ?_
        · intro W hS; obtain ⟨s0, s1, s2, s3, s4, s5, s6, s7, s8, s9, s10, s11, s12, s13, s14, s15, s16⟩ := hS; go_simp; try with_reducible rfl
        try simp only [Act.put, List.getElem_toArray, List.getElem_cons_succ, List.getElem_cons_zero, List.setIfInBounds_toArray, List.set_cons_zero, List.set_cons_succ]
        refine wpAnyH_take (i := 27) (v := .bool false) rfl (by kernel_rfl) (by kernel_rfl) (by kernel_rfl) (fun _ _ _ h => h) (Or.inl ⟨by kernel_rfl, ?_⟩) hS ?_
        · intro W hS; obtain ⟨s0, s1, s2, s3, s4, s5, s6, s7, s8, s9, s10, s11, s12, s13, s14, s15, s16⟩ := hS; go_simp; try with_reducible rfl
        try simp only [Act.put, List.getElem_toArray, List.getElem_cons_succ, List.getElem_cons_zero, List.setIfInBounds_toArray, List.set_cons_zero, List.set_cons_succ]
        refine heldS_one (i := 22) (by kernel_rfl) rfl (fun K hK => ?_)
        go_simp
        refine (HAl.out _).mono ?_
        rintro en U5 ⟨rfl, hb⟩
        have hB5 := hB4.trans (hb.mono hB4.size)
        have hS := HSB.out _ hB5
        refine hK _ _ hS ?_
        clear hK K hb
        try simp only [Act.put, List.getElem_toArray, List.getElem_cons_succ, List.getElem_cons_zero, List.setIfInBounds_toArray, List.set_cons_zero, List.set_cons_succ]
        refine wpAnyH_take (i := 28) (v := .bool false) rfl (by kernel_rfl) (by kernel_rfl) (by kernel_rfl) (fun _ _ _ h => h) (Or.inl ⟨by kernel_rfl, ?_⟩) hS ?_
        · intro W hS; obtain ⟨s0, s1, s2, s3, s4, s5, s6, s7, s8, s9, s10, s11, s12, s13, s14, s15, s16⟩ := hS; go_simp; try with_reducible rfl
        try simp only [Act.put, List.getElem_toArray, List.getElem_cons_succ, List.getElem_cons_zero, List.setIfInBounds_toArray, List.set_cons_zero, List.set_cons_succ]
        refine wpAnyH_take (i := 29) (v := undef) rfl (by kernel_rfl) (by kernel_rfl) (by kernel_rfl) (fun _ _ _ h => h) (Or.inr ⟨by kernel_rfl, rfl⟩) hS ?_
        try simp only [Act.put, List.getElem_toArray, List.getElem_cons_succ, List.getElem_cons_zero, List.setIfInBounds_toArray, List.set_cons_zero, List.set_cons_succ]
        refine wpAnyH_take (i := 30) (v := undef) rfl (by kernel_rfl) (by kernel_rfl) (by kernel_rfl) (fun _ _ _ h => h) (Or.inr ⟨by kernel_rfl, rfl⟩) hS ?_
        try simp only [Act.put, List.getElem_toArray, List.getElem_cons_succ, List.getElem_cons_zero, List.setIfInBounds_toArray, List.set_cons_zero, List.set_cons_succ]
        refine wpAnyH_take (i := 31) (v := undef) rfl (by kernel_rfl) (by kernel_rfl) (by kernel_rfl) (fun _ _ _ h => h) (Or.inr ⟨by kernel_rfl, rfl⟩) hS ?_
        try simp only [Act.put, List.getElem_toArray, List.getElem_cons_succ, List.getElem_cons_zero, List.setIfInBounds_toArray, List.set_cons_zero, List.set_cons_succ]
        refine wpAnyH_take (i := 32) (v := undef) rfl (by kernel_rfl) (by kernel_rfl) (by kernel_rfl) (fun _ _ _ h => h) (Or.inr ⟨by kernel_rfl, rfl⟩) hS ?_
        try simp only [Act.put, List.getElem_toArray, List.getElem_cons_succ, List.getElem_cons_zero, List.setIfInBounds_toArray, List.set_cons_zero, List.set_cons_succ]
        refine wpAnyH_take (i := 33) (v := undef) rfl (by kernel_rfl) (by kernel_rfl) (by kernel_rfl) (fun _ _ _ h => h) (Or.inr ⟨by kernel_rfl, rfl⟩) hS ?_
        try simp only [Act.put, List.getElem_toArray, List.getElem_cons_succ, List.getElem_cons_zero, List.setIfInBounds_toArray, List.set_cons_zero, List.set_cons_succ]
        refine wpAnyH_take (i := 34) (v := .bool false) rfl (by kernel_rfl) (by kernel_rfl) (by kernel_rfl) (fun _ _ _ h => h) (Or.inl ⟨by kernel_rfl, ?_⟩) hS ?_
        · intro W hS; obtain ⟨s0, s1, s2, s3, s4, s5, s6, s7, s8, s9, s10, s11, s12, s13, s14, s15, s16⟩ := hS; go_simp; try with_reducible rfl
        try simp only [Act.put, List.getElem_toArray, List.getElem_cons_succ, List.getElem_cons_zero, List.setIfInBounds_toArray, List.set_cons_zero, List.set_cons_succ]
        refine wpAnyH_take (i := 35) (v := .bool false) rfl (by kernel_rfl) (by kernel_rfl) (by kernel_rfl) (fun _ _ _ h => h) (Or.inl ⟨by kernel_rfl, ?_⟩) hS ?_
        · intro W hS; obtain ⟨s0, s1, s2, s3, s4, s5, s6, s7, s8, s9, s10, s11, s12, s13, s14, s15, s16⟩ := hS; go_simp; try with_reducible rfl
        try simp only [Act.put, List.getElem_toArray, List.getElem_cons_succ, List.getElem_cons_zero, List.setIfInBounds_toArray, List.set_cons_zero, List.set_cons_succ]
        refine wpAnyH_take (i := 36) (v := .bool false) rfl (by kernel_rfl) (by kernel_rfl) (by kernel_rfl) (fun _ _ _ h => h) (Or.inl ⟨by kernel_rfl, ?_⟩) hS ?_
        · intro W hS; obtain ⟨s0, s1, s2, s3, s4, s5, s6, s7, s8, s9, s10, s11, s12, s13, s14, s15, s16⟩ := hS; go_simp; try with_reducible rfl
        try simp only [Act.put, List.getElem_toArray, List.getElem_cons_succ, List.getElem_cons_zero, List.setIfInBounds_toArray, List.set_cons_zero, List.set_cons_succ]
        refine wpAnyH_done (by kernel_rfl) ?_ _
        go_wp2_with fail
        go_meet
        case rel => exact ⟨rfl, hide hB5⟩
    case rest =>
    obtain ⟨rfl, HB1⟩ := hcut
    have HQ2 := hide (HQ1.out.step HB1.out)
    clear c0 c1 c2 c3 d0 d1 d2 d3 a0 a1 a2 a3 b0 b1 b2 b3 HQ1 HCv HRp HNw HAl HAL
    have c0 := cell_of_row _ _ 0 _ _ _ HQ2.out.pw.row
    have c1 := cell_of_row _ _ 1 _ _ _ HQ2.out.pw.row
    have c2 := cell_of_row _ _ 2 _ _ _ HQ2.out.pw.row
    have c3 := cell_of_row _ _ 3 _ _ _ HQ2.out.pw.row
    go_wp2_with fail
    refine (HR2.out _).mono ?_
    rintro e w3 ⟨rfl, hb3⟩
    have HB3 := hide (HQ2.out.pw.below.trans (hb3.mono HQ2.out.pw.below.size))
    have HQ3 := hide (HQ2.out.step hb3)
    have HGe3 := hide (fun hr => HGe1.out _ (HB1.out.trans (hb3.mono HB1.out.size)) hr)
    clear hb3 HGe1 HB1 HQ2 c0 c1 c2 c3 HR1 HR2
    cases r
    · clear HGe3 HIs
      go_wp2_with fail
      refine (AW.out _ HB3.out).mono ?_
      rintro e w4 ⟨rfl, hb4⟩
      have HB4 := hide (HB3.out.trans (hb4.mono HB3.out.size))
      clear hb4
      go_wp2_with fail
      exact bodyPost_ret (results_tmp rfl _ _ _) rfl ⟨rfl, HB4.out⟩
    · have HGe4 := hide (HGe3.out rfl)
      clear HGe3
      go_wp2_with fail
      refine HGe4.out.mono ?_
      rintro e w5 ⟨rfl, hb5⟩
      have HQ5 := hide (HQ3.out.step hb5)
      have hb6 := (Below.refl w5.heap.size w5).alloc (Nat.le_refl _) (.cells #[.int .i64 kd, .int .u64 (bt : Nat), .int .u64 (nm : Nat), .string bd] 26)
      have r6 := World.alloc_heap_new w5 (.cells #[.int .i64 kd, .int .u64 (bt : Nat), .int .u64 (nm : Nat), .string bd] 26)
      have HQ6 := hide (HQ5.out.step hb6)
      have HA6 := hide (AW.out _ HQ6.out.pw.below)
      have HR6 := hide r6
      clear hb5 hb6 r6 HGe4 HQ3 HQ5 AW HB3
      go_wp2_with fail
      refine HA6.out.mono ?_
      rintro e w7 ⟨rfl, hb7⟩
      have HQ7 := hide (HQ6.out.step hb7)
      have r7 := (hb7.block _ (Array.getElem?_eq_some_iff.1 HR6.out).1).trans HR6.out
      have c0 := cell_of_row _ _ 0 _ _ _ HQ7.out.pw.row
      have a0 := cell_of_row _ _ 0 _ _ _ r7
      have c1 := cell_of_row _ _ 1 _ _ _ HQ7.out.pw.row
      have a1 := cell_of_row _ _ 1 _ _ _ r7
      have c2 := cell_of_row _ _ 2 _ _ _ HQ7.out.pw.row
      have a2 := cell_of_row _ _ 2 _ _ _ r7
      have c3 := cell_of_row _ _ 3 _ _ _ HQ7.out.pw.row
      have a3 := cell_of_row _ _ 3 _ _ _ r7
      clear hb7 HA6 HQ6 HR6 r7
      go_wp2_with fail
      refine (HIs.out _).mono ?_
      rintro e w8 ⟨rfl, hb8⟩
      have HB8 := hide (HQ7.out.pw.below.trans (hb8.mono HQ7.out.pw.below.size))
      clear hb8 c0 c1 c2 c3 a0 a1 a2 a3
      go_wp2_with fail
      exact bodyPost_ret (results_tmp rfl _ _ _) rfl ⟨rfl, HB8.out⟩
end Go.Proofs.YtlbhgebjmekclaaDoor
