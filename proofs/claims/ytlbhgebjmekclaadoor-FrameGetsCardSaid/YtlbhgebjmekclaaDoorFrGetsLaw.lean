/-
  FrameGets's law.
-/
import Derived.Test.YtlbhgebjmekclaaDoorFrGetsMath
import Derived.Test.YtlbhgebjmekclaaDoorFrRefGet
import Derived.Test.YtlbhgebjmekclaaDoorFrAlike
namespace Go.Proofs.YtlbhgebjmekclaaDoor
open Go.RowKit
set_option maxRecDepth 100000

def LiesAt (W : World) (b : Nat) (c : Array Value) (t : TypeId) : Prop := W.heap[b]? = some (.cells c t (0, 0))
theorem LiesAt.step {W W' : World} {b : Nat} {c : Array Value} {t : TypeId} (h : LiesAt W b c t) (hB : Below W.heap.size W W') : LiesAt W' b c t :=
  (hB.block _ (Array.getElem?_eq_some_iff.1 h).1).trans h
theorem cv_made (w : World) (s : ByteArray) (n : Nat) (h : s.size = n) : (convert 9 28 (.string s)).run Tryd.prog w = .ok (.slice (some ⟨w.heap.size, 0, none⟩) n (grownCap w n 0 5)) (Lib.bytesWorld w 5 s) := by
  have h1 := Lib.run_convert_string_bytes (P := Tryd.prog) w 9 28 5 s Tryd.underlying9 Tryd.underlying28 Tryd.underlying5
  rw [h] at h1
  exact h1

set_option maxHeartbeats 64000000 in
theorem frGets_in (A : Option Addr) (l S : List UInt8) (c n m : Nat) (f g : Fr) (k j : Nat) (w : World) (hm : S.length = m) (hle : n ≤ 500)
    (KA : Hid (∀ W, Below w.heap.size w W → (convert 28 9 (.slice A n c)).run Tryd.prog W = .ok (.string (ofL l)) W))
    (HG1 : Hid (∀ W, Below w.heap.size w W → Calls Tryd.prog 14 #[.slice A n c] W fun e w' => e = .returned (.tuple #[.agg f.cells, .int .i64 (k : Nat)]) ∧ Below W.heap.size W w'))
    (HR1 : Hid (∀ W, Calls Tryd.prog 16 #[.string (ofL l)] W fun e w' => e = .returned (.tuple #[.agg f.cells, .int .i64 (k : Nat)]) ∧ Below W.heap.size W w'))
    (HSe : Hid (∀ W, Calls Tryd.prog 17 #[.string (ofL l)] W fun e w' => e = .returned (.string (ofL S)) ∧ Below W.heap.size W w'))
    (HG2 : Hid (∀ W B d, Below w.heap.size w W → RdB W W.heap.size B S → m ≤ d → Calls Tryd.prog 14 #[.slice B m d] W fun e w' => e = .returned (.tuple #[.agg g.cells, .int .i64 (j : Nat)]) ∧ Below W.heap.size W w'))
    (HR2 : Hid (∀ W, Calls Tryd.prog 16 #[.string (ofL S)] W fun e w' => e = .returned (.tuple #[.agg g.cells, .int .i64 (j : Nat)]) ∧ Below W.heap.size W w'))
    (HPu : Hid (j = 0 → ∀ W, Below w.heap.size w W → Calls Tryd.prog 8 #[.agg g.cells] W (Bytes W S)))
    (AW : Hid (∀ W, Below w.heap.size w W → Calls Tryd.prog 6 #[] W fun e w' => e = .returned (.bool true) ∧ Below W.heap.size W w')) :
    Calls Tryd.prog 4 #[.slice A n c] w fun e w' => e = .returned (.bool true) ∧ Below w.heap.size w w' := by
  have HI1 := hide (fun W => frIs_same f W)
  have HI2 := hide (fun W => frIs_same g W)
  have HM := hide (fun W => cv_made W (ofL S) m (by rw [cofL_size]; exact hm))
  have HMd := hide (fun W => made_bytes W (ofL S))
  have HCv := hide (fun (W : World) (B : Option Addr) (d : Nat) (h : RdB W W.heap.size B S) => (show (convert 28 9 (.slice B m d)).run Tryd.prog W = .ok (.string (ofL S)) W from by rw [← hm]; exact conv_any h d))
  have hb1 : decide ((500 : Int) < n) = false := by rw [decide_eq_false_iff_not]; omega
  have hb2 : ¬ (500 : Int) < n := by omega
  have HPu2 := hide (fun (h0 : j = 0) (W : World) (hW : Below w.heap.size w W) => (show Calls Tryd.prog 8 #[.agg g.cells] W (fun e w' => ∃ A c, e = .returned (.slice A m c) ∧ Caps A m c ∧ RdB w' w'.heap.size A S ∧ Below W.heap.size W w') from by rw [← hm]; exact HPu.out h0 W hW))
  clear HPu hle
  obtain ⟨kd, bt, nm, bd⟩ := f
  obtain ⟨kd2, bt2, nm2, bd2⟩ := g
  simp only [Fr.cells] at HG1 HR1 HG2 HR2 HI1 HI2 HPu2
  obtain ⟨X, hX⟩ : ∃ X, X = ofL S := ⟨_, rfl⟩
  obtain ⟨sl, hsl⟩ : ∃ X, X = ofL l := ⟨_, rfl⟩
  have HT := hide (show toL X = S from by rw [hX]; rfl)
  rw [← hX] at HSe HR2 HM HMd HCv
  rw [← hsl] at KA HR1 HSe
  clear hX hsl hm
  have HG1a := hide (HG1.out w (Below.refl _ _))
  clear HG1
  go_enter Tryd.func4, Tryd.ntmps4
  go_wp2_with fail
  refine HG1a.out.mono ?_
  rintro e w1 ⟨rfl, hB⟩
  have hA := (Below.refl w1.heap.size w1).alloc (Nat.le_refl _) (Obj.cells #[.int .i64 kd, .int .u64 (bt : Nat), .int .u64 (nm : Nat), .string bd] 26)
  have HB1 := hide (hB.trans (hA.mono hB.size))
  have HF1 := hide (show LiesAt _ w1.heap.size #[.int .i64 kd, .int .u64 (bt : Nat), .int .u64 (nm : Nat), .string bd] 26 from World.alloc_heap_new w1 (Obj.cells #[.int .i64 kd, .int .u64 (bt : Nat), .int .u64 (nm : Nat), .string bd] 26))
  have ka := KA.out _ HB1.out
  clear hA hB HG1a
  go_wp2_with fail
  refine (HR1.out _).mono ?_
  rintro e w2 ⟨rfl, hB⟩
  have hA := (Below.refl w2.heap.size w2).alloc (Nat.le_refl _) (Obj.cells #[.int .i64 kd, .int .u64 (bt : Nat), .int .u64 (nm : Nat), .string bd] 24)
  have hS := hB.trans (hA.mono hB.size)
  have HB2 := hide (HB1.out.trans (hS.mono HB1.out.size))
  have HF2 := hide (HF1.out.step hS)
  have HE2 := hide (show LiesAt _ w2.heap.size #[.int .i64 kd, .int .u64 (bt : Nat), .int .u64 (nm : Nat), .string bd] 24 from World.alloc_heap_new w2 (Obj.cells #[.int .i64 kd, .int .u64 (bt : Nat), .int .u64 (nm : Nat), .string bd] 24))
  clear hA hB ka hS HB1 HF1 HR1
  have ka := KA.out _ HB2.out
  go_wp2_with fail
  refine (HSe.out _).mono ?_
  rintro e w3 ⟨rfl, hB⟩
  have hcv := HM.out w3
  obtain ⟨hR, hA⟩ := HMd.out w3
  have hS := hB.trans (hA.mono hB.size)
  have HB3 := hide (HB2.out.trans (hS.mono HB2.out.size))
  have HF3 := hide (HF2.out.step hS)
  have HE3 := hide (HE2.out.step hS)
  have hge := grownCap_ge w3 m 0 5
  rw [HT.out] at hR
  have HS3 := hide hR
  have HCall := hide (HG2.out _ _ _ HB3.out hR hge)
  clear hA hB ka hS HB2 HF2 HE2 HSe HM HMd KA hR HG2 hge HT
  generalize Lib.bytesWorld w3 5 X = W3 at hcv HB3 HF3 HE3 HS3 HCall
  generalize grownCap w3 m 0 5 = gc at hcv HCall
  go_wp2_with fail
  refine HCall.out.mono ?_
  rintro e w4 ⟨rfl, hB⟩
  have hA := (Below.refl w4.heap.size w4).alloc (Nat.le_refl _) (Obj.cells #[.int .i64 kd2, .int .u64 (bt2 : Nat), .int .u64 (nm2 : Nat), .string bd2] 26)
  have hS := hB.trans (hA.mono hB.size)
  have HB4 := hide (HB3.out.trans (hS.mono HB3.out.size))
  have HF4 := hide (HF3.out.step hS)
  have HE4 := hide (HE3.out.step hS)
  have HS4 := hide (HS3.out.step hS)
  have HG4 := hide (show LiesAt _ w4.heap.size #[.int .i64 kd2, .int .u64 (bt2 : Nat), .int .u64 (nm2 : Nat), .string bd2] 26 from World.alloc_heap_new w4 (Obj.cells #[.int .i64 kd2, .int .u64 (bt2 : Nat), .int .u64 (nm2 : Nat), .string bd2] 26))
  have ka := HCv.out _ _ gc HS4.out
  clear hA hB hcv hS HB3 HF3 HE3 HS3 HCall
  go_wp2_with fail
  refine (HR2.out _).mono ?_
  rintro e w5 ⟨rfl, hB⟩
  have hA := (Below.refl w5.heap.size w5).alloc (Nat.le_refl _) (Obj.cells #[.int .i64 kd2, .int .u64 (bt2 : Nat), .int .u64 (nm2 : Nat), .string bd2] 24)
  have hS := hB.trans (hA.mono hB.size)
  have HB5 := hide (HB4.out.trans (hS.mono HB4.out.size))
  have HF5 := hide (HF4.out.step hS)
  have HE5 := hide (HE4.out.step hS)
  have HS5 := hide (HS4.out.step hS)
  have HG5 := hide (HG4.out.step hS)
  have HX5 := hide (show LiesAt _ w5.heap.size #[.int .i64 kd2, .int .u64 (bt2 : Nat), .int .u64 (nm2 : Nat), .string bd2] 24 from World.alloc_heap_new w5 (Obj.cells #[.int .i64 kd2, .int .u64 (bt2 : Nat), .int .u64 (nm2 : Nat), .string bd2] 24))
  clear hA hB ka hS HB4 HF4 HE4 HS4 HG4 HR2
  go_upto_region 8 with fail
  generalize w5.alloc (Obj.cells #[.int .i64 kd2, .int .u64 (bt2 : Nat), .int .u64 (nm2 : Nat), .string bd2] 24) = V at HB5 HF5 HE5 HS5 HG5 HX5 ⊢
  generalize w1.heap.size = n1 at HF5 ⊢
  generalize w2.heap.size = n2 at HE5 ⊢
  generalize w3.heap.size = n3 at HS5 ⊢
  generalize w4.heap.size = n4 at HG5 ⊢
  generalize w5.heap.size = n5 at HX5 ⊢
  have HSB := hide (fun (W : World) (q : Below V.heap.size V W) => (⟨cell_of_row _ _ 0 _ _ _ (HF5.out.step q), cell_of_row _ _ 1 _ _ _ (HF5.out.step q), cell_of_row _ _ 2 _ _ _ (HF5.out.step q), cell_of_row _ _ 3 _ _ _ (HF5.out.step q), cell_of_row _ _ 0 _ _ _ (HE5.out.step q), cell_of_row _ _ 1 _ _ _ (HE5.out.step q), cell_of_row _ _ 2 _ _ _ (HE5.out.step q), cell_of_row _ _ 3 _ _ _ (HE5.out.step q), cell_of_row _ _ 0 _ _ _ (HG5.out.step q), cell_of_row _ _ 1 _ _ _ (HG5.out.step q), cell_of_row _ _ 2 _ _ _ (HG5.out.step q), cell_of_row _ _ 3 _ _ _ (HG5.out.step q), cell_of_row _ _ 0 _ _ _ (HX5.out.step q), cell_of_row _ _ 1 _ _ _ (HX5.out.step q), cell_of_row _ _ 2 _ _ _ (HX5.out.step q), cell_of_row _ _ 3 _ _ _ (HX5.out.step q), HCv.out W _ gc (HS5.out.step q)⟩ : W.cell? ⟨n1, 0, none⟩ = some (.int .i64 kd) ∧ W.cell? ⟨n1, 1, none⟩ = some (.int .u64 (bt : Nat)) ∧ W.cell? ⟨n1, 2, none⟩ = some (.int .u64 (nm : Nat)) ∧ W.cell? ⟨n1, 3, none⟩ = some (.string bd) ∧ W.cell? ⟨n2, 0, none⟩ = some (.int .i64 kd) ∧ W.cell? ⟨n2, 1, none⟩ = some (.int .u64 (bt : Nat)) ∧ W.cell? ⟨n2, 2, none⟩ = some (.int .u64 (nm : Nat)) ∧ W.cell? ⟨n2, 3, none⟩ = some (.string bd) ∧ W.cell? ⟨n4, 0, none⟩ = some (.int .i64 kd2) ∧ W.cell? ⟨n4, 1, none⟩ = some (.int .u64 (bt2 : Nat)) ∧ W.cell? ⟨n4, 2, none⟩ = some (.int .u64 (nm2 : Nat)) ∧ W.cell? ⟨n4, 3, none⟩ = some (.string bd2) ∧ W.cell? ⟨n5, 0, none⟩ = some (.int .i64 kd2) ∧ W.cell? ⟨n5, 1, none⟩ = some (.int .u64 (bt2 : Nat)) ∧ W.cell? ⟨n5, 2, none⟩ = some (.int .u64 (nm2 : Nat)) ∧ W.cell? ⟨n5, 3, none⟩ = some (.string bd2) ∧ (convert 28 9 (.slice (some ⟨n3, 0, none⟩) m gc)).run Tryd.prog W = .ok (.string X) W))
  have hB0 := (Below.refl V.heap.size V).drew
  have hS := HSB.out _ hB0
  refine wp_region_held (by kernel_rfl) (S := fun W => W.cell? ⟨n1, 0, none⟩ = some (.int .i64 kd) ∧ W.cell? ⟨n1, 1, none⟩ = some (.int .u64 (bt : Nat)) ∧ W.cell? ⟨n1, 2, none⟩ = some (.int .u64 (nm : Nat)) ∧ W.cell? ⟨n1, 3, none⟩ = some (.string bd) ∧ W.cell? ⟨n2, 0, none⟩ = some (.int .i64 kd) ∧ W.cell? ⟨n2, 1, none⟩ = some (.int .u64 (bt : Nat)) ∧ W.cell? ⟨n2, 2, none⟩ = some (.int .u64 (nm : Nat)) ∧ W.cell? ⟨n2, 3, none⟩ = some (.string bd) ∧ W.cell? ⟨n4, 0, none⟩ = some (.int .i64 kd2) ∧ W.cell? ⟨n4, 1, none⟩ = some (.int .u64 (bt2 : Nat)) ∧ W.cell? ⟨n4, 2, none⟩ = some (.int .u64 (nm2 : Nat)) ∧ W.cell? ⟨n4, 3, none⟩ = some (.string bd2) ∧ W.cell? ⟨n5, 0, none⟩ = some (.int .i64 kd2) ∧ W.cell? ⟨n5, 1, none⟩ = some (.int .u64 (bt2 : Nat)) ∧ W.cell? ⟨n5, 2, none⟩ = some (.int .u64 (nm2 : Nat)) ∧ W.cell? ⟨n5, 3, none⟩ = some (.string bd2) ∧ (convert 28 9 (.slice (some ⟨n3, 0, none⟩) m gc)).run Tryd.prog W = .ok (.string X) W) ?_
  change wpAnyH _ _ _ _ _ _ _ _ (World.drew _)
  by_cases hj : j = 0
  · subst hj
    generalize World.drew V = U0 at hB0 hS ⊢
    refine heldS_one (i := 0) (by kernel_rfl) rfl (fun K hK => ?_)
    go_simp
    refine (AW.out _ (HB5.out.trans (hB0.mono HB5.out.size))).mono ?_
    rintro en U1 ⟨rfl, hb⟩
    have hB1 := hB0.trans (hb.mono hB0.size)
    have hS := HSB.out _ hB1
    refine hK _ _ hS ?_
    clear hK K hb
    try simp only [Act.put, List.getElem_toArray, List.getElem_cons_succ, List.getElem_cons_zero, List.setIfInBounds_toArray, List.set_cons_zero, List.set_cons_succ]
    refine wpAnyH_take (i := 1) (v := .bool true) rfl (by kernel_rfl) (by kernel_rfl) (by kernel_rfl) (fun _ _ _ h => h) (Or.inl ⟨by kernel_rfl, ?_⟩) hS ?_
    · intro W hS; obtain ⟨s0, s1, s2, s3, s4, s5, s6, s7, s8, s9, s10, s11, s12, s13, s14, s15, s16⟩ := hS; go_simp; try with_reducible rfl
    try simp only [Act.put, List.getElem_toArray, List.getElem_cons_succ, List.getElem_cons_zero, List.setIfInBounds_toArray, List.set_cons_zero, List.set_cons_succ]
    refine wpAnyH_take (i := 2) (v := .agg #[.int .i64 kd, .int .u64 (bt : Nat), .int .u64 (nm : Nat), .string bd]) rfl (by kernel_rfl) (by kernel_rfl) (by kernel_rfl) (fun _ _ _ h => h) (Or.inl ⟨by kernel_rfl, ?_⟩) hS ?_
    · intro W hS; obtain ⟨s0, s1, s2, s3, s4, s5, s6, s7, s8, s9, s10, s11, s12, s13, s14, s15, s16⟩ := hS; go_simp; try with_reducible rfl
    try simp only [Act.put, List.getElem_toArray, List.getElem_cons_succ, List.getElem_cons_zero, List.setIfInBounds_toArray, List.set_cons_zero, List.set_cons_succ]
    refine wpAnyH_take (i := 3) (v := .agg #[.int .i64 kd, .int .u64 (bt : Nat), .int .u64 (nm : Nat), .string bd]) rfl (by kernel_rfl) (by kernel_rfl) (by kernel_rfl) (fun _ _ _ h => h) (Or.inl ⟨by kernel_rfl, ?_⟩) hS ?_
    · intro W hS; obtain ⟨s0, s1, s2, s3, s4, s5, s6, s7, s8, s9, s10, s11, s12, s13, s14, s15, s16⟩ := hS; go_simp; try with_reducible rfl
    try simp only [Act.put, List.getElem_toArray, List.getElem_cons_succ, List.getElem_cons_zero, List.setIfInBounds_toArray, List.set_cons_zero, List.set_cons_succ]
    refine heldS_one (i := 4) (by kernel_rfl) rfl (fun K hK => ?_)
    go_simp
    refine (HI1.out _).mono ?_
    rintro en U2 ⟨rfl, hb⟩
    have hB2 := hB1.trans (hb.mono hB1.size)
    have hS := HSB.out _ hB2
    refine hK _ _ hS ?_
    clear hK K hb
    try simp only [Act.put, List.getElem_toArray, List.getElem_cons_succ, List.getElem_cons_zero, List.setIfInBounds_toArray, List.set_cons_zero, List.set_cons_succ]
    refine wpAnyH_take (i := 5) (v := .bool true) rfl (by kernel_rfl) (by kernel_rfl) (by kernel_rfl) (fun _ _ _ h => h) (Or.inl ⟨by kernel_rfl, ?_⟩) hS ?_
    · intro W hS; obtain ⟨s0, s1, s2, s3, s4, s5, s6, s7, s8, s9, s10, s11, s12, s13, s14, s15, s16⟩ := hS; go_simp; try with_reducible rfl
    try simp only [Act.put, List.getElem_toArray, List.getElem_cons_succ, List.getElem_cons_zero, List.setIfInBounds_toArray, List.set_cons_zero, List.set_cons_succ]
    refine wpAnyH_take (i := 6) (v := .bool true) rfl (by kernel_rfl) (by kernel_rfl) (by kernel_rfl) (fun _ _ _ h => h) (Or.inl ⟨by kernel_rfl, ?_⟩) hS ?_
    · intro W hS; obtain ⟨s0, s1, s2, s3, s4, s5, s6, s7, s8, s9, s10, s11, s12, s13, s14, s15, s16⟩ := hS; go_simp; try with_reducible rfl
    try simp only [Act.put, List.getElem_toArray, List.getElem_cons_succ, List.getElem_cons_zero, List.setIfInBounds_toArray, List.set_cons_zero, List.set_cons_succ]
    refine wpAnyH_take (i := 7) (v := .int .i64 (k : Nat)) rfl (by kernel_rfl) (by kernel_rfl) (by kernel_rfl) (fun _ _ _ h => h) (Or.inl ⟨by kernel_rfl, ?_⟩) hS ?_
    · intro W hS; obtain ⟨s0, s1, s2, s3, s4, s5, s6, s7, s8, s9, s10, s11, s12, s13, s14, s15, s16⟩ := hS; go_simp; try with_reducible rfl
    try simp only [Act.put, List.getElem_toArray, List.getElem_cons_succ, List.getElem_cons_zero, List.setIfInBounds_toArray, List.set_cons_zero, List.set_cons_succ]
    refine wpAnyH_take (i := 8) (v := .int .i64 (k : Nat)) rfl (by kernel_rfl) (by kernel_rfl) (by kernel_rfl) (fun _ _ _ h => h) (Or.inl ⟨by kernel_rfl, ?_⟩) hS ?_
    · intro W hS; obtain ⟨s0, s1, s2, s3, s4, s5, s6, s7, s8, s9, s10, s11, s12, s13, s14, s15, s16⟩ := hS; go_simp; try with_reducible rfl
    try simp only [Act.put, List.getElem_toArray, List.getElem_cons_succ, List.getElem_cons_zero, List.setIfInBounds_toArray, List.set_cons_zero, List.set_cons_succ]
    refine wpAnyH_take (i := 9) (v := .bool true) rfl (by kernel_rfl) (by kernel_rfl) (by kernel_rfl) (fun _ _ _ h => h) (Or.inl ⟨by kernel_rfl, ?_⟩) hS ?_
    · intro W hS; obtain ⟨s0, s1, s2, s3, s4, s5, s6, s7, s8, s9, s10, s11, s12, s13, s14, s15, s16⟩ := hS; go_simp; try with_reducible rfl
    try simp only [Act.put, List.getElem_toArray, List.getElem_cons_succ, List.getElem_cons_zero, List.setIfInBounds_toArray, List.set_cons_zero, List.set_cons_succ]
    refine wpAnyH_take (i := 10) (v := .bool true) rfl (by kernel_rfl) (by kernel_rfl) (by kernel_rfl) (fun _ _ _ h => h) (Or.inl ⟨by kernel_rfl, ?_⟩) hS ?_
    · intro W hS; obtain ⟨s0, s1, s2, s3, s4, s5, s6, s7, s8, s9, s10, s11, s12, s13, s14, s15, s16⟩ := hS; go_simp; try with_reducible rfl
    try simp only [Act.put, List.getElem_toArray, List.getElem_cons_succ, List.getElem_cons_zero, List.setIfInBounds_toArray, List.set_cons_zero, List.set_cons_succ]
    refine wpAnyH_take (i := 11) (v := .bool true) rfl (by kernel_rfl) (by kernel_rfl) (by kernel_rfl) (fun _ _ _ h => h) (Or.inl ⟨by kernel_rfl, ?_⟩) hS ?_
    · intro W hS; obtain ⟨s0, s1, s2, s3, s4, s5, s6, s7, s8, s9, s10, s11, s12, s13, s14, s15, s16⟩ := hS; go_simp; try with_reducible rfl
    try simp only [Act.put, List.getElem_toArray, List.getElem_cons_succ, List.getElem_cons_zero, List.setIfInBounds_toArray, List.set_cons_zero, List.set_cons_succ]
    refine wpAnyH_take (i := 12) (v := .agg #[.int .i64 kd2, .int .u64 (bt2 : Nat), .int .u64 (nm2 : Nat), .string bd2]) rfl (by kernel_rfl) (by kernel_rfl) (by kernel_rfl) (fun _ _ _ h => h) (Or.inl ⟨by kernel_rfl, ?_⟩) hS ?_
    · intro W hS; obtain ⟨s0, s1, s2, s3, s4, s5, s6, s7, s8, s9, s10, s11, s12, s13, s14, s15, s16⟩ := hS; go_simp; try with_reducible rfl
    try simp only [Act.put, List.getElem_toArray, List.getElem_cons_succ, List.getElem_cons_zero, List.setIfInBounds_toArray, List.set_cons_zero, List.set_cons_succ]
    refine wpAnyH_take (i := 13) (v := .agg #[.int .i64 kd2, .int .u64 (bt2 : Nat), .int .u64 (nm2 : Nat), .string bd2]) rfl (by kernel_rfl) (by kernel_rfl) (by kernel_rfl) (fun _ _ _ h => h) (Or.inl ⟨by kernel_rfl, ?_⟩) hS ?_
    · intro W hS; obtain ⟨s0, s1, s2, s3, s4, s5, s6, s7, s8, s9, s10, s11, s12, s13, s14, s15, s16⟩ := hS; go_simp; try with_reducible rfl
    try simp only [Act.put, List.getElem_toArray, List.getElem_cons_succ, List.getElem_cons_zero, List.setIfInBounds_toArray, List.set_cons_zero, List.set_cons_succ]
    refine heldS_one (i := 14) (by kernel_rfl) rfl (fun K hK => ?_)
    go_simp
    refine (HI2.out _).mono ?_
    rintro en U3 ⟨rfl, hb⟩
    have hB3 := hB2.trans (hb.mono hB2.size)
    have hS := HSB.out _ hB3
    refine hK _ _ hS ?_
    clear hK K hb
    try simp only [Act.put, List.getElem_toArray, List.getElem_cons_succ, List.getElem_cons_zero, List.setIfInBounds_toArray, List.set_cons_zero, List.set_cons_succ]
    refine wpAnyH_take (i := 15) (v := .bool true) rfl (by kernel_rfl) (by kernel_rfl) (by kernel_rfl) (fun _ _ _ h => h) (Or.inl ⟨by kernel_rfl, ?_⟩) hS ?_
    · intro W hS; obtain ⟨s0, s1, s2, s3, s4, s5, s6, s7, s8, s9, s10, s11, s12, s13, s14, s15, s16⟩ := hS; go_simp; try with_reducible rfl
    try simp only [Act.put, List.getElem_toArray, List.getElem_cons_succ, List.getElem_cons_zero, List.setIfInBounds_toArray, List.set_cons_zero, List.set_cons_succ]
    refine wpAnyH_take (i := 16) (v := .bool true) rfl (by kernel_rfl) (by kernel_rfl) (by kernel_rfl) (fun _ _ _ h => h) (Or.inl ⟨by kernel_rfl, ?_⟩) hS ?_
    · intro W hS; obtain ⟨s0, s1, s2, s3, s4, s5, s6, s7, s8, s9, s10, s11, s12, s13, s14, s15, s16⟩ := hS; go_simp; try with_reducible rfl
    try simp only [Act.put, List.getElem_toArray, List.getElem_cons_succ, List.getElem_cons_zero, List.setIfInBounds_toArray, List.set_cons_zero, List.set_cons_succ]
    refine wpAnyH_take (i := 17) (v := .int .i64 0) rfl (by kernel_rfl) (by kernel_rfl) (by kernel_rfl) (fun _ _ _ h => h) (Or.inl ⟨by kernel_rfl, ?_⟩) hS ?_
    · intro W hS; obtain ⟨s0, s1, s2, s3, s4, s5, s6, s7, s8, s9, s10, s11, s12, s13, s14, s15, s16⟩ := hS; go_simp; try with_reducible rfl
    try simp only [Act.put, List.getElem_toArray, List.getElem_cons_succ, List.getElem_cons_zero, List.setIfInBounds_toArray, List.set_cons_zero, List.set_cons_succ]
    refine wpAnyH_take (i := 18) (v := .int .i64 0) rfl (by kernel_rfl) (by kernel_rfl) (by kernel_rfl) (fun _ _ _ h => h) (Or.inl ⟨by kernel_rfl, ?_⟩) hS ?_
    · intro W hS; obtain ⟨s0, s1, s2, s3, s4, s5, s6, s7, s8, s9, s10, s11, s12, s13, s14, s15, s16⟩ := hS; go_simp; try with_reducible rfl
    try simp only [Act.put, List.getElem_toArray, List.getElem_cons_succ, List.getElem_cons_zero, List.setIfInBounds_toArray, List.set_cons_zero, List.set_cons_succ]
    refine wpAnyH_take (i := 19) (v := .bool true) rfl (by kernel_rfl) (by kernel_rfl) (by kernel_rfl) (fun _ _ _ h => h) (Or.inl ⟨by kernel_rfl, ?_⟩) hS ?_
    · intro W hS; obtain ⟨s0, s1, s2, s3, s4, s5, s6, s7, s8, s9, s10, s11, s12, s13, s14, s15, s16⟩ := hS; go_simp; try with_reducible rfl
    try simp only [Act.put, List.getElem_toArray, List.getElem_cons_succ, List.getElem_cons_zero, List.setIfInBounds_toArray, List.set_cons_zero, List.set_cons_succ]
    refine wpAnyH_take (i := 20) (v := .bool true) rfl (by kernel_rfl) (by kernel_rfl) (by kernel_rfl) (fun _ _ _ h => h) (Or.inl ⟨by kernel_rfl, ?_⟩) hS ?_
    · intro W hS; obtain ⟨s0, s1, s2, s3, s4, s5, s6, s7, s8, s9, s10, s11, s12, s13, s14, s15, s16⟩ := hS; go_simp; try with_reducible rfl
    try simp only [Act.put, List.getElem_toArray, List.getElem_cons_succ, List.getElem_cons_zero, List.setIfInBounds_toArray, List.set_cons_zero, List.set_cons_succ]
    refine wpAnyH_take (i := 21) (v := .bool true) rfl (by kernel_rfl) (by kernel_rfl) (by kernel_rfl) (fun _ _ _ h => h) (Or.inl ⟨by kernel_rfl, ?_⟩) hS ?_
    · intro W hS; obtain ⟨s0, s1, s2, s3, s4, s5, s6, s7, s8, s9, s10, s11, s12, s13, s14, s15, s16⟩ := hS; go_simp; try with_reducible rfl
    try simp only [Act.put, List.getElem_toArray, List.getElem_cons_succ, List.getElem_cons_zero, List.setIfInBounds_toArray, List.set_cons_zero, List.set_cons_succ]
    refine wpAnyH_take (i := 22) (v := .int .i64 0) rfl (by kernel_rfl) (by kernel_rfl) (by kernel_rfl) (fun _ _ _ h => h) (Or.inl ⟨by kernel_rfl, ?_⟩) hS ?_
    · intro W hS; obtain ⟨s0, s1, s2, s3, s4, s5, s6, s7, s8, s9, s10, s11, s12, s13, s14, s15, s16⟩ := hS; go_simp; try with_reducible rfl
    try simp only [Act.put, List.getElem_toArray, List.getElem_cons_succ, List.getElem_cons_zero, List.setIfInBounds_toArray, List.set_cons_zero, List.set_cons_succ]
    refine wpAnyH_take (i := 23) (v := .bool false) rfl (by kernel_rfl) (by kernel_rfl) (by kernel_rfl) (fun _ _ _ h => h) (Or.inl ⟨by kernel_rfl, ?_⟩) hS ?_
    · intro W hS; obtain ⟨s0, s1, s2, s3, s4, s5, s6, s7, s8, s9, s10, s11, s12, s13, s14, s15, s16⟩ := hS; go_simp; try with_reducible rfl
    try simp only [Act.put, List.getElem_toArray, List.getElem_cons_succ, List.getElem_cons_zero, List.setIfInBounds_toArray, List.set_cons_zero, List.set_cons_succ]
    refine wpAnyH_take (i := 24) (v := .bool false) rfl (by kernel_rfl) (by kernel_rfl) (by kernel_rfl) (fun _ _ _ h => h) (Or.inl ⟨by kernel_rfl, ?_⟩) hS ?_
    · intro W hS; obtain ⟨s0, s1, s2, s3, s4, s5, s6, s7, s8, s9, s10, s11, s12, s13, s14, s15, s16⟩ := hS; go_simp; try with_reducible rfl
    try simp only [Act.put, List.getElem_toArray, List.getElem_cons_succ, List.getElem_cons_zero, List.setIfInBounds_toArray, List.set_cons_zero, List.set_cons_succ]
    refine wpAnyH_take (i := 25) (v := .agg #[.int .i64 kd2, .int .u64 (bt2 : Nat), .int .u64 (nm2 : Nat), .string bd2]) rfl (by kernel_rfl) (by kernel_rfl) (by kernel_rfl) (fun _ _ _ h => h) (Or.inl ⟨by kernel_rfl, ?_⟩) hS ?_
    · intro W hS; obtain ⟨s0, s1, s2, s3, s4, s5, s6, s7, s8, s9, s10, s11, s12, s13, s14, s15, s16⟩ := hS; go_simp; try with_reducible rfl
    try simp only [Act.put, List.getElem_toArray, List.getElem_cons_succ, List.getElem_cons_zero, List.setIfInBounds_toArray, List.set_cons_zero, List.set_cons_succ]
    refine wpAnyH_take (i := 28) (v := .slice (some ⟨n3, 0, none⟩) m gc) rfl (by kernel_rfl) (by kernel_rfl) (by kernel_rfl) (fun _ _ _ h => h) (Or.inl ⟨by kernel_rfl, ?_⟩) hS ?_
    · intro W hS; obtain ⟨s0, s1, s2, s3, s4, s5, s6, s7, s8, s9, s10, s11, s12, s13, s14, s15, s16⟩ := hS; go_simp; try with_reducible rfl
    try simp only [Act.put, List.getElem_toArray, List.getElem_cons_succ, List.getElem_cons_zero, List.setIfInBounds_toArray, List.set_cons_zero, List.set_cons_succ]
    refine wpAnyH_take (i := 29) (v := .string X) rfl (by kernel_rfl) (by kernel_rfl) (by kernel_rfl) (fun _ _ _ h => h) (Or.inl ⟨by kernel_rfl, ?_⟩) hS ?_
    · intro W hS; obtain ⟨s0, s1, s2, s3, s4, s5, s6, s7, s8, s9, s10, s11, s12, s13, s14, s15, s16⟩ := hS; go_simp; try with_reducible rfl
    try simp only [Act.put, List.getElem_toArray, List.getElem_cons_succ, List.getElem_cons_zero, List.setIfInBounds_toArray, List.set_cons_zero, List.set_cons_succ]
    refine heldS_one (i := 26) (by kernel_rfl) rfl (fun K hK => ?_)
    go_simp
    refine (HPu2.out rfl _ (HB5.out.trans (hB3.mono HB5.out.size))).mono ?_
    rintro en U4 ⟨Q, d, rfl, hC, hR, hb⟩
    have hB4 := hB3.trans (hb.mono hB3.size)
    have hS := HSB.out _ hB4
    refine hK _ _ hS ?_
    clear hK K hb
    try simp only [Act.put, List.getElem_toArray, List.getElem_cons_succ, List.getElem_cons_zero, List.setIfInBounds_toArray, List.set_cons_zero, List.set_cons_succ]
    have hcx := HCv.out _ Q d hR
    refine heldS_one (i := 27) (by kernel_rfl) rfl (fun K hK => ?_)
    go_simp
    refine hK _ _ hS ?_
    clear hK K hcx hC hR
    try simp only [Act.put, List.getElem_toArray, List.getElem_cons_succ, List.getElem_cons_zero, List.setIfInBounds_toArray, List.set_cons_zero, List.set_cons_succ]
    refine wpAnyH_take (i := 30) (v := .bool true) rfl (by kernel_rfl) (by kernel_rfl) (by kernel_rfl) (fun _ _ _ h => h) (Or.inl ⟨by kernel_rfl, ?_⟩) hS ?_
    · intro W hS; obtain ⟨s0, s1, s2, s3, s4, s5, s6, s7, s8, s9, s10, s11, s12, s13, s14, s15, s16⟩ := hS; go_simp; try with_reducible rfl
    try simp only [Act.put, List.getElem_toArray, List.getElem_cons_succ, List.getElem_cons_zero, List.setIfInBounds_toArray, List.set_cons_zero, List.set_cons_succ]
    refine wpAnyH_take (i := 31) (v := .bool true) rfl (by kernel_rfl) (by kernel_rfl) (by kernel_rfl) (fun _ _ _ h => h) (Or.inl ⟨by kernel_rfl, ?_⟩) hS ?_
    · intro W hS; obtain ⟨s0, s1, s2, s3, s4, s5, s6, s7, s8, s9, s10, s11, s12, s13, s14, s15, s16⟩ := hS; go_simp; try with_reducible rfl
    try simp only [Act.put, List.getElem_toArray, List.getElem_cons_succ, List.getElem_cons_zero, List.setIfInBounds_toArray, List.set_cons_zero, List.set_cons_succ]
    refine wpAnyH_take (i := 32) (v := .bool true) rfl (by kernel_rfl) (by kernel_rfl) (by kernel_rfl) (fun _ _ _ h => h) (Or.inl ⟨by kernel_rfl, ?_⟩) hS ?_
    · intro W hS; obtain ⟨s0, s1, s2, s3, s4, s5, s6, s7, s8, s9, s10, s11, s12, s13, s14, s15, s16⟩ := hS; go_simp; try with_reducible rfl
    try simp only [Act.put, List.getElem_toArray, List.getElem_cons_succ, List.getElem_cons_zero, List.setIfInBounds_toArray, List.set_cons_zero, List.set_cons_succ]
    refine wpAnyH_take (i := 33) (v := .bool true) rfl (by kernel_rfl) (by kernel_rfl) (by kernel_rfl) (fun _ _ _ h => h) (Or.inl ⟨by kernel_rfl, ?_⟩) hS ?_
    · intro W hS; obtain ⟨s0, s1, s2, s3, s4, s5, s6, s7, s8, s9, s10, s11, s12, s13, s14, s15, s16⟩ := hS; go_simp; try with_reducible rfl
    try simp only [Act.put, List.getElem_toArray, List.getElem_cons_succ, List.getElem_cons_zero, List.setIfInBounds_toArray, List.set_cons_zero, List.set_cons_succ]
    refine wpAnyH_done (by kernel_rfl) ?_ _
    have HB9 := hide (HB5.out.trans (hB4.mono HB5.out.size))
    clear hS
    go_wp2_with fail
    exact bodyPost_ret (results_tmp rfl _ _ _) rfl ⟨rfl, HB9.out⟩
  · have hj1 : ((j : Int) != 0) = true := by simp; omega
    have hj2 : ¬ (j : Int) = 0 := by omega
    clear hj HPu2
    generalize World.drew V = U0 at hB0 hS ⊢
    refine heldS_one (i := 0) (by kernel_rfl) rfl (fun K hK => ?_)
    go_simp
    refine (AW.out _ (HB5.out.trans (hB0.mono HB5.out.size))).mono ?_
    rintro en U1 ⟨rfl, hb⟩
    have hB1 := hB0.trans (hb.mono hB0.size)
    have hS := HSB.out _ hB1
    refine hK _ _ hS ?_
    clear hK K hb
    try simp only [Act.put, List.getElem_toArray, List.getElem_cons_succ, List.getElem_cons_zero, List.setIfInBounds_toArray, List.set_cons_zero, List.set_cons_succ]
    refine wpAnyH_take (i := 1) (v := .bool true) rfl (by kernel_rfl) (by kernel_rfl) (by kernel_rfl) (fun _ _ _ h => h) (Or.inl ⟨by kernel_rfl, ?_⟩) hS ?_
    · intro W hS; obtain ⟨s0, s1, s2, s3, s4, s5, s6, s7, s8, s9, s10, s11, s12, s13, s14, s15, s16⟩ := hS; go_simp; try with_reducible rfl
    try simp only [Act.put, List.getElem_toArray, List.getElem_cons_succ, List.getElem_cons_zero, List.setIfInBounds_toArray, List.set_cons_zero, List.set_cons_succ]
    refine wpAnyH_take (i := 2) (v := .agg #[.int .i64 kd, .int .u64 (bt : Nat), .int .u64 (nm : Nat), .string bd]) rfl (by kernel_rfl) (by kernel_rfl) (by kernel_rfl) (fun _ _ _ h => h) (Or.inl ⟨by kernel_rfl, ?_⟩) hS ?_
    · intro W hS; obtain ⟨s0, s1, s2, s3, s4, s5, s6, s7, s8, s9, s10, s11, s12, s13, s14, s15, s16⟩ := hS; go_simp; try with_reducible rfl
    try simp only [Act.put, List.getElem_toArray, List.getElem_cons_succ, List.getElem_cons_zero, List.setIfInBounds_toArray, List.set_cons_zero, List.set_cons_succ]
    refine wpAnyH_take (i := 3) (v := .agg #[.int .i64 kd, .int .u64 (bt : Nat), .int .u64 (nm : Nat), .string bd]) rfl (by kernel_rfl) (by kernel_rfl) (by kernel_rfl) (fun _ _ _ h => h) (Or.inl ⟨by kernel_rfl, ?_⟩) hS ?_
    · intro W hS; obtain ⟨s0, s1, s2, s3, s4, s5, s6, s7, s8, s9, s10, s11, s12, s13, s14, s15, s16⟩ := hS; go_simp; try with_reducible rfl
    try simp only [Act.put, List.getElem_toArray, List.getElem_cons_succ, List.getElem_cons_zero, List.setIfInBounds_toArray, List.set_cons_zero, List.set_cons_succ]
    refine heldS_one (i := 4) (by kernel_rfl) rfl (fun K hK => ?_)
    go_simp
    refine (HI1.out _).mono ?_
    rintro en U2 ⟨rfl, hb⟩
    have hB2 := hB1.trans (hb.mono hB1.size)
    have hS := HSB.out _ hB2
    refine hK _ _ hS ?_
    clear hK K hb
    try simp only [Act.put, List.getElem_toArray, List.getElem_cons_succ, List.getElem_cons_zero, List.setIfInBounds_toArray, List.set_cons_zero, List.set_cons_succ]
    refine wpAnyH_take (i := 5) (v := .bool true) rfl (by kernel_rfl) (by kernel_rfl) (by kernel_rfl) (fun _ _ _ h => h) (Or.inl ⟨by kernel_rfl, ?_⟩) hS ?_
    · intro W hS; obtain ⟨s0, s1, s2, s3, s4, s5, s6, s7, s8, s9, s10, s11, s12, s13, s14, s15, s16⟩ := hS; go_simp; try with_reducible rfl
    try simp only [Act.put, List.getElem_toArray, List.getElem_cons_succ, List.getElem_cons_zero, List.setIfInBounds_toArray, List.set_cons_zero, List.set_cons_succ]
    refine wpAnyH_take (i := 6) (v := .bool true) rfl (by kernel_rfl) (by kernel_rfl) (by kernel_rfl) (fun _ _ _ h => h) (Or.inl ⟨by kernel_rfl, ?_⟩) hS ?_
    · intro W hS; obtain ⟨s0, s1, s2, s3, s4, s5, s6, s7, s8, s9, s10, s11, s12, s13, s14, s15, s16⟩ := hS; go_simp; try with_reducible rfl
    try simp only [Act.put, List.getElem_toArray, List.getElem_cons_succ, List.getElem_cons_zero, List.setIfInBounds_toArray, List.set_cons_zero, List.set_cons_succ]
    refine wpAnyH_take (i := 7) (v := .int .i64 (k : Nat)) rfl (by kernel_rfl) (by kernel_rfl) (by kernel_rfl) (fun _ _ _ h => h) (Or.inl ⟨by kernel_rfl, ?_⟩) hS ?_
    · intro W hS; obtain ⟨s0, s1, s2, s3, s4, s5, s6, s7, s8, s9, s10, s11, s12, s13, s14, s15, s16⟩ := hS; go_simp; try with_reducible rfl
    try simp only [Act.put, List.getElem_toArray, List.getElem_cons_succ, List.getElem_cons_zero, List.setIfInBounds_toArray, List.set_cons_zero, List.set_cons_succ]
    refine wpAnyH_take (i := 8) (v := .int .i64 (k : Nat)) rfl (by kernel_rfl) (by kernel_rfl) (by kernel_rfl) (fun _ _ _ h => h) (Or.inl ⟨by kernel_rfl, ?_⟩) hS ?_
    · intro W hS; obtain ⟨s0, s1, s2, s3, s4, s5, s6, s7, s8, s9, s10, s11, s12, s13, s14, s15, s16⟩ := hS; go_simp; try with_reducible rfl
    try simp only [Act.put, List.getElem_toArray, List.getElem_cons_succ, List.getElem_cons_zero, List.setIfInBounds_toArray, List.set_cons_zero, List.set_cons_succ]
    refine wpAnyH_take (i := 9) (v := .bool true) rfl (by kernel_rfl) (by kernel_rfl) (by kernel_rfl) (fun _ _ _ h => h) (Or.inl ⟨by kernel_rfl, ?_⟩) hS ?_
    · intro W hS; obtain ⟨s0, s1, s2, s3, s4, s5, s6, s7, s8, s9, s10, s11, s12, s13, s14, s15, s16⟩ := hS; go_simp; try with_reducible rfl
    try simp only [Act.put, List.getElem_toArray, List.getElem_cons_succ, List.getElem_cons_zero, List.setIfInBounds_toArray, List.set_cons_zero, List.set_cons_succ]
    refine wpAnyH_take (i := 10) (v := .bool true) rfl (by kernel_rfl) (by kernel_rfl) (by kernel_rfl) (fun _ _ _ h => h) (Or.inl ⟨by kernel_rfl, ?_⟩) hS ?_
    · intro W hS; obtain ⟨s0, s1, s2, s3, s4, s5, s6, s7, s8, s9, s10, s11, s12, s13, s14, s15, s16⟩ := hS; go_simp; try with_reducible rfl
    try simp only [Act.put, List.getElem_toArray, List.getElem_cons_succ, List.getElem_cons_zero, List.setIfInBounds_toArray, List.set_cons_zero, List.set_cons_succ]
    refine wpAnyH_take (i := 11) (v := .bool true) rfl (by kernel_rfl) (by kernel_rfl) (by kernel_rfl) (fun _ _ _ h => h) (Or.inl ⟨by kernel_rfl, ?_⟩) hS ?_
    · intro W hS; obtain ⟨s0, s1, s2, s3, s4, s5, s6, s7, s8, s9, s10, s11, s12, s13, s14, s15, s16⟩ := hS; go_simp; try with_reducible rfl
    try simp only [Act.put, List.getElem_toArray, List.getElem_cons_succ, List.getElem_cons_zero, List.setIfInBounds_toArray, List.set_cons_zero, List.set_cons_succ]
    refine wpAnyH_take (i := 12) (v := .agg #[.int .i64 kd2, .int .u64 (bt2 : Nat), .int .u64 (nm2 : Nat), .string bd2]) rfl (by kernel_rfl) (by kernel_rfl) (by kernel_rfl) (fun _ _ _ h => h) (Or.inl ⟨by kernel_rfl, ?_⟩) hS ?_
    · intro W hS; obtain ⟨s0, s1, s2, s3, s4, s5, s6, s7, s8, s9, s10, s11, s12, s13, s14, s15, s16⟩ := hS; go_simp; try with_reducible rfl
    try simp only [Act.put, List.getElem_toArray, List.getElem_cons_succ, List.getElem_cons_zero, List.setIfInBounds_toArray, List.set_cons_zero, List.set_cons_succ]
    refine wpAnyH_take (i := 13) (v := .agg #[.int .i64 kd2, .int .u64 (bt2 : Nat), .int .u64 (nm2 : Nat), .string bd2]) rfl (by kernel_rfl) (by kernel_rfl) (by kernel_rfl) (fun _ _ _ h => h) (Or.inl ⟨by kernel_rfl, ?_⟩) hS ?_
    · intro W hS; obtain ⟨s0, s1, s2, s3, s4, s5, s6, s7, s8, s9, s10, s11, s12, s13, s14, s15, s16⟩ := hS; go_simp; try with_reducible rfl
    try simp only [Act.put, List.getElem_toArray, List.getElem_cons_succ, List.getElem_cons_zero, List.setIfInBounds_toArray, List.set_cons_zero, List.set_cons_succ]
    refine heldS_one (i := 14) (by kernel_rfl) rfl (fun K hK => ?_)
    go_simp
    refine (HI2.out _).mono ?_
    rintro en U3 ⟨rfl, hb⟩
    have hB3 := hB2.trans (hb.mono hB2.size)
    have hS := HSB.out _ hB3
    refine hK _ _ hS ?_
    clear hK K hb
    try simp only [Act.put, List.getElem_toArray, List.getElem_cons_succ, List.getElem_cons_zero, List.setIfInBounds_toArray, List.set_cons_zero, List.set_cons_succ]
    refine wpAnyH_take (i := 15) (v := .bool true) rfl (by kernel_rfl) (by kernel_rfl) (by kernel_rfl) (fun _ _ _ h => h) (Or.inl ⟨by kernel_rfl, ?_⟩) hS ?_
    · intro W hS; obtain ⟨s0, s1, s2, s3, s4, s5, s6, s7, s8, s9, s10, s11, s12, s13, s14, s15, s16⟩ := hS; go_simp; try with_reducible rfl
    try simp only [Act.put, List.getElem_toArray, List.getElem_cons_succ, List.getElem_cons_zero, List.setIfInBounds_toArray, List.set_cons_zero, List.set_cons_succ]
    refine wpAnyH_take (i := 16) (v := .bool true) rfl (by kernel_rfl) (by kernel_rfl) (by kernel_rfl) (fun _ _ _ h => h) (Or.inl ⟨by kernel_rfl, ?_⟩) hS ?_
    · intro W hS; obtain ⟨s0, s1, s2, s3, s4, s5, s6, s7, s8, s9, s10, s11, s12, s13, s14, s15, s16⟩ := hS; go_simp; try with_reducible rfl
    try simp only [Act.put, List.getElem_toArray, List.getElem_cons_succ, List.getElem_cons_zero, List.setIfInBounds_toArray, List.set_cons_zero, List.set_cons_succ]
    refine wpAnyH_take (i := 17) (v := .int .i64 (j : Nat)) rfl (by kernel_rfl) (by kernel_rfl) (by kernel_rfl) (fun _ _ _ h => h) (Or.inl ⟨by kernel_rfl, ?_⟩) hS ?_
    · intro W hS; obtain ⟨s0, s1, s2, s3, s4, s5, s6, s7, s8, s9, s10, s11, s12, s13, s14, s15, s16⟩ := hS; go_simp; try with_reducible rfl
    try simp only [Act.put, List.getElem_toArray, List.getElem_cons_succ, List.getElem_cons_zero, List.setIfInBounds_toArray, List.set_cons_zero, List.set_cons_succ]
    refine wpAnyH_take (i := 18) (v := .int .i64 (j : Nat)) rfl (by kernel_rfl) (by kernel_rfl) (by kernel_rfl) (fun _ _ _ h => h) (Or.inl ⟨by kernel_rfl, ?_⟩) hS ?_
    · intro W hS; obtain ⟨s0, s1, s2, s3, s4, s5, s6, s7, s8, s9, s10, s11, s12, s13, s14, s15, s16⟩ := hS; go_simp; try with_reducible rfl
    try simp only [Act.put, List.getElem_toArray, List.getElem_cons_succ, List.getElem_cons_zero, List.setIfInBounds_toArray, List.set_cons_zero, List.set_cons_succ]
    refine wpAnyH_take (i := 19) (v := .bool true) rfl (by kernel_rfl) (by kernel_rfl) (by kernel_rfl) (fun _ _ _ h => h) (Or.inl ⟨by kernel_rfl, ?_⟩) hS ?_
    · intro W hS; obtain ⟨s0, s1, s2, s3, s4, s5, s6, s7, s8, s9, s10, s11, s12, s13, s14, s15, s16⟩ := hS; go_simp; try with_reducible rfl
    try simp only [Act.put, List.getElem_toArray, List.getElem_cons_succ, List.getElem_cons_zero, List.setIfInBounds_toArray, List.set_cons_zero, List.set_cons_succ]
    refine wpAnyH_take (i := 20) (v := .bool true) rfl (by kernel_rfl) (by kernel_rfl) (by kernel_rfl) (fun _ _ _ h => h) (Or.inl ⟨by kernel_rfl, ?_⟩) hS ?_
    · intro W hS; obtain ⟨s0, s1, s2, s3, s4, s5, s6, s7, s8, s9, s10, s11, s12, s13, s14, s15, s16⟩ := hS; go_simp; try with_reducible rfl
    try simp only [Act.put, List.getElem_toArray, List.getElem_cons_succ, List.getElem_cons_zero, List.setIfInBounds_toArray, List.set_cons_zero, List.set_cons_succ]
    refine wpAnyH_take (i := 21) (v := .bool true) rfl (by kernel_rfl) (by kernel_rfl) (by kernel_rfl) (fun _ _ _ h => h) (Or.inl ⟨by kernel_rfl, ?_⟩) hS ?_
    · intro W hS; obtain ⟨s0, s1, s2, s3, s4, s5, s6, s7, s8, s9, s10, s11, s12, s13, s14, s15, s16⟩ := hS; go_simp; try with_reducible rfl
    try simp only [Act.put, List.getElem_toArray, List.getElem_cons_succ, List.getElem_cons_zero, List.setIfInBounds_toArray, List.set_cons_zero, List.set_cons_succ]
    refine wpAnyH_take (i := 22) (v := .int .i64 (j : Nat)) rfl (by kernel_rfl) (by kernel_rfl) (by kernel_rfl) (fun _ _ _ h => h) (Or.inl ⟨by kernel_rfl, ?_⟩) hS ?_
    · intro W hS; obtain ⟨s0, s1, s2, s3, s4, s5, s6, s7, s8, s9, s10, s11, s12, s13, s14, s15, s16⟩ := hS; go_simp; try with_reducible rfl
    try simp only [Act.put, List.getElem_toArray, List.getElem_cons_succ, List.getElem_cons_zero, List.setIfInBounds_toArray, List.set_cons_zero, List.set_cons_succ]
    refine wpAnyH_take (i := 23) (v := .bool true) rfl (by kernel_rfl) (by kernel_rfl) (by kernel_rfl) (fun _ _ _ h => h) (Or.inl ⟨by kernel_rfl, ?_⟩) hS ?_
    · intro W hS; obtain ⟨s0, s1, s2, s3, s4, s5, s6, s7, s8, s9, s10, s11, s12, s13, s14, s15, s16⟩ := hS; go_simp; try with_reducible rfl
    try simp only [Act.put, List.getElem_toArray, List.getElem_cons_succ, List.getElem_cons_zero, List.setIfInBounds_toArray, List.set_cons_zero, List.set_cons_succ]
    refine wpAnyH_take (i := 24) (v := .bool true) rfl (by kernel_rfl) (by kernel_rfl) (by kernel_rfl) (fun _ _ _ h => h) (Or.inl ⟨by kernel_rfl, ?_⟩) hS ?_
    · intro W hS; obtain ⟨s0, s1, s2, s3, s4, s5, s6, s7, s8, s9, s10, s11, s12, s13, s14, s15, s16⟩ := hS; go_simp; try with_reducible rfl
    try simp only [Act.put, List.getElem_toArray, List.getElem_cons_succ, List.getElem_cons_zero, List.setIfInBounds_toArray, List.set_cons_zero, List.set_cons_succ]
    refine wpAnyH_take (i := 25) (v := undef) rfl (by kernel_rfl) (by kernel_rfl) (by kernel_rfl) (fun _ _ _ h => h) (Or.inr ⟨by kernel_rfl, rfl⟩) hS ?_
    try simp only [Act.put, List.getElem_toArray, List.getElem_cons_succ, List.getElem_cons_zero, List.setIfInBounds_toArray, List.set_cons_zero, List.set_cons_succ]
    refine wpAnyH_take (i := 26) (v := undef) rfl (by kernel_rfl) (by kernel_rfl) (by kernel_rfl) (fun _ _ _ h => h) (Or.inr ⟨by kernel_rfl, rfl⟩) hS ?_
    try simp only [Act.put, List.getElem_toArray, List.getElem_cons_succ, List.getElem_cons_zero, List.setIfInBounds_toArray, List.set_cons_zero, List.set_cons_succ]
    refine wpAnyH_take (i := 27) (v := undef) rfl (by kernel_rfl) (by kernel_rfl) (by kernel_rfl) (fun _ _ _ h => h) (Or.inr ⟨by kernel_rfl, rfl⟩) hS ?_
    try simp only [Act.put, List.getElem_toArray, List.getElem_cons_succ, List.getElem_cons_zero, List.setIfInBounds_toArray, List.set_cons_zero, List.set_cons_succ]
    refine wpAnyH_take (i := 28) (v := undef) rfl (by kernel_rfl) (by kernel_rfl) (by kernel_rfl) (fun _ _ _ h => h) (Or.inr ⟨by kernel_rfl, rfl⟩) hS ?_
    try simp only [Act.put, List.getElem_toArray, List.getElem_cons_succ, List.getElem_cons_zero, List.setIfInBounds_toArray, List.set_cons_zero, List.set_cons_succ]
    refine wpAnyH_take (i := 29) (v := undef) rfl (by kernel_rfl) (by kernel_rfl) (by kernel_rfl) (fun _ _ _ h => h) (Or.inr ⟨by kernel_rfl, rfl⟩) hS ?_
    try simp only [Act.put, List.getElem_toArray, List.getElem_cons_succ, List.getElem_cons_zero, List.setIfInBounds_toArray, List.set_cons_zero, List.set_cons_succ]
    refine wpAnyH_take (i := 30) (v := undef) rfl (by kernel_rfl) (by kernel_rfl) (by kernel_rfl) (fun _ _ _ h => h) (Or.inr ⟨by kernel_rfl, rfl⟩) hS ?_
    try simp only [Act.put, List.getElem_toArray, List.getElem_cons_succ, List.getElem_cons_zero, List.setIfInBounds_toArray, List.set_cons_zero, List.set_cons_succ]
    refine wpAnyH_take (i := 31) (v := .bool true) rfl (by kernel_rfl) (by kernel_rfl) (by kernel_rfl) (fun _ _ _ h => h) (Or.inl ⟨by kernel_rfl, ?_⟩) hS ?_
    · intro W hS; obtain ⟨s0, s1, s2, s3, s4, s5, s6, s7, s8, s9, s10, s11, s12, s13, s14, s15, s16⟩ := hS; go_simp; try with_reducible rfl
    try simp only [Act.put, List.getElem_toArray, List.getElem_cons_succ, List.getElem_cons_zero, List.setIfInBounds_toArray, List.set_cons_zero, List.set_cons_succ]
    refine wpAnyH_take (i := 32) (v := .bool true) rfl (by kernel_rfl) (by kernel_rfl) (by kernel_rfl) (fun _ _ _ h => h) (Or.inl ⟨by kernel_rfl, ?_⟩) hS ?_
    · intro W hS; obtain ⟨s0, s1, s2, s3, s4, s5, s6, s7, s8, s9, s10, s11, s12, s13, s14, s15, s16⟩ := hS; go_simp; try with_reducible rfl
    try simp only [Act.put, List.getElem_toArray, List.getElem_cons_succ, List.getElem_cons_zero, List.setIfInBounds_toArray, List.set_cons_zero, List.set_cons_succ]
    refine wpAnyH_take (i := 33) (v := .bool true) rfl (by kernel_rfl) (by kernel_rfl) (by kernel_rfl) (fun _ _ _ h => h) (Or.inl ⟨by kernel_rfl, ?_⟩) hS ?_
    · intro W hS; obtain ⟨s0, s1, s2, s3, s4, s5, s6, s7, s8, s9, s10, s11, s12, s13, s14, s15, s16⟩ := hS; go_simp; try with_reducible rfl
    try simp only [Act.put, List.getElem_toArray, List.getElem_cons_succ, List.getElem_cons_zero, List.setIfInBounds_toArray, List.set_cons_zero, List.set_cons_succ]
    refine wpAnyH_done (by kernel_rfl) ?_ _
    have HB9 := hide (HB5.out.trans (hB3.mono HB5.out.size))
    clear hS
    go_wp2_with fail
    exact bodyPost_ret (results_tmp rfl _ _ _) rfl ⟨rfl, HB9.out⟩

set_option maxHeartbeats 8000000 in
theorem frGets_law (A : Option Addr) (l : List UInt8) (c : Nat) (w : World) (hT : Table w) (hA : RdB w w.heap.size A l) (hc : Caps A l.length c) :
    Calls Tryd.prog 4 #[.slice A l.length c] w fun e w' => e = .returned (.bool true) ∧ Below w.heap.size w w' := by
  have AW := hide (fun (W : World) (hW : Below w.heap.size w W) => frAwake_any W (hT.below hW hT.pos))
  by_cases h1 : 500 < l.length
  · have h1i : (500 : Int) < l.length := by omega
    generalize l.length = n at *
    have AW1 := hide (AW.out _ (Below.refl _ _))
    clear hT h1 AW hA hc
    go_enter Tryd.func4, Tryd.ntmps4
    go_wp2_with fail
    refine AW1.out.mono ?_
    rintro e w9 ⟨rfl, hB9⟩
    have HB := hide hB9
    clear hB9 AW1
    go_wp2_with fail
    exact bodyPost_ret (results_tmp rfl _ _ _) rfl ⟨rfl, HB.out⟩
  · have hsl : (sealL l).length = l.length + 4 := by unfold sealL; rw [List.length_append, le4_len]
    have ho := getF_once (sealL l)
    exact frGets_in A l (sealL l) c l.length (sealL l).length (getF l).1 (getF (sealL l)).1 (getF l).2 (getF (sealL l)).2 w rfl (by omega)
      (hide (fun W hW => conv_any (hA.below hW (Nat.le_refl _)) c))
      (hide (fun W hW => frGet_any A l c W (hT.below hW hT.pos) ((hA.below hW (Nat.le_refl _)).mono hW.size) hc.1 (by omega)))
      (hide (fun W => refFrGet_any l W (by omega)))
      (hide (fun W => refSeal_any l W (by omega)))
      (hide (fun W B d hW hB hd => frGet_any B (sealL l) d W (hT.below hW hT.pos) hB hd (by omega)))
      (hide (fun W => refFrGet_any (sealL l) W (by omega)))
      (hide (fun hj W hW => by
        obtain ⟨o1, o2, o3⟩ := ho hj
        have hl2 : (sealL (bytesF (getF (sealL l)).1)).length = (sealL l).length := by rw [o1]
        have hl3 : (sealL (bytesF (getF (sealL l)).1)).length = (bytesF (getF (sealL l)).1).length + 4 := by unfold sealL; rw [List.length_append, le4_len]
        have hl4 : (getF (sealL l)).1.body.size ≤ (bytesF (getF (sealL l)).1).length := by
          unfold bytesF
          rw [List.length_append, List.length_append]
          have : (toL (getF (sealL l)).1.body).length = (getF (sealL l)).1.body.size := by simp [toL]
          omega
        have q := frPut_any (getF (sealL l)).1 W (hT.below hW hT.pos) o2 o3 (by omega)
        rw [o1] at q
        exact q))
      AW
end Go.Proofs.YtlbhgebjmekclaaDoor
