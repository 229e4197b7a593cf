/-
  The law BlockPuts: its walk.
-/
import Derived.Test.YtdkdnfcmlnfkcaaAutoBkAwake
import Derived.Test.YtdkdnfcmlnfkcaaBkFrom
import Derived.Test.YtdkdnfcmlnfkcaaBkRefPut
import Derived.Test.YtdkdnfcmlnfkcaaBkRefSame
import Derived.Deep.RegionHeld3
import Derived.Deep.Cut
namespace Go.Proofs.Ytdkdnfcmlnfkcaa
open Go.RowKit Go.Shelf
set_option maxRecDepth 100000

theorem held_three {P : Program} {ops : Array Oper} {Q : Exit → Act → World → Prop} {md : Region.Mode} {S : World → Prop} {i j k : Nat} {o u x : Oper} {fuel : Nat} {listed : Array Bool} {a : Act} {w : World} (hr : Region.ready md ops listed = [i, j, k]) (ho : ops[i]? = some o) (hu : ops[j]? = some u) (hx : ops[k]? = some x)
    (h1 : ∀ K : Act → World → Prop, (∀ a' w', S w' → wpAnyH P md ops Q S fuel (listed.setIfInBounds i true) a' w' → K a' w') → if Region.wanted o (yielded ops a.tmps) = true then Oper.wp P o a w K Q else K (a.put o.dst undef) w)
    (h2 : ∀ K : Act → World → Prop, (∀ a' w', S w' → wpAnyH P md ops Q S fuel (listed.setIfInBounds j true) a' w' → K a' w') → if Region.wanted u (yielded ops a.tmps) = true then Oper.wp P u a w K Q else K (a.put u.dst undef) w)
    (h3 : ∀ K : Act → World → Prop, (∀ a' w', S w' → wpAnyH P md ops Q S fuel (listed.setIfInBounds k true) a' w' → K a' w') → if Region.wanted x (yielded ops a.tmps) = true then Oper.wp P x a w K Q else K (a.put x.dst undef) w) :
    wpAnyH P md ops Q S (fuel + 1) listed a w :=
  wpAnyH_all hr (by simp) (fun y hy => by
    rcases List.mem_cons.1 hy with rfl | hy
    · exact held_op ho h1
    · rcases List.mem_cons.1 hy with rfl | hy
      · exact held_op hu h2
      · obtain rfl : y = k := by simpa using hy
        exact held_op hx h3)

set_option maxHeartbeats 64000000 in
theorem bkPuts_law (z tl : Int) (A : Option Addr) (l : List Sg) (c : Nat) (s : Sg) (z' tl' : Int) (B : Option Addr) (m : List Sg) (c' : Nat) (t : Sg) (w : World)
    (hA : RdSg w w.heap.size A l) (hfl : ∀ x ∈ l, x.fits) (hs : s.fits) (hB : RdSg w w.heap.size B m) (_ : ∀ x ∈ m, x.fits) (_ : t.fits) :
    Calls Try.prog 4 #[.agg (sigC z A l.length c tl s), .agg (sigC z' B m.length c' tl' t)] w fun e w' => e = .returned (.bool true) ∧ Below w.heap.size w w' := by
  obtain ⟨sw, sh, slo⟩ := s
  obtain ⟨tw, th, tlo⟩ := t
  simp only [sigC]
  have hb1 : Below w.heap.size w (w.alloc (.cells #[.int .i64 z, .slice A l.length c, .int .i64 tl, .int .u32 (sw : Nat), .int .u64 (sh : Nat), .int .u64 (slo : Nat)] 42)) := (Below.refl _ w).alloc (Nat.le_refl _) _
  obtain ⟨w1, hw1⟩ : ∃ w1, w1 = (w.alloc (.cells #[.int .i64 z, .slice A l.length c, .int .i64 tl, .int .u32 (sw : Nat), .int .u64 (sh : Nat), .int .u64 (slo : Nat)] 42)) := ⟨_, rfl⟩
  have hr1 := World.alloc_heap_new w (Obj.cells #[.int .i64 z, .slice A l.length c, .int .i64 tl, .int .u32 (sw : Nat), .int .u64 (sh : Nat), .int .u64 (slo : Nat)] 42)
  have hs1 : w1.heap.size = w.heap.size + 1 := by rw [hw1]; simp
  rw [← hw1] at hb1 hr1
  have hb2 : Below w1.heap.size w1 (w1.alloc (.cells #[.int .i64 z', .slice B m.length c', .int .i64 tl', .int .u32 (tw : Nat), .int .u64 (th : Nat), .int .u64 (tlo : Nat)] 42)) := (Below.refl _ w1).alloc (Nat.le_refl _) _
  obtain ⟨w2, hw2⟩ : ∃ w2, w2 = (w1.alloc (.cells #[.int .i64 z', .slice B m.length c', .int .i64 tl', .int .u32 (tw : Nat), .int .u64 (th : Nat), .int .u64 (tlo : Nat)] 42)) := ⟨_, rfl⟩
  have hr2 := World.alloc_heap_new w1 (Obj.cells #[.int .i64 z', .slice B m.length c', .int .i64 tl', .int .u32 (tw : Nat), .int .u64 (th : Nat), .int .u64 (tlo : Nat)] 42)
  have hs2 : w2.heap.size = w1.heap.size + 1 := by rw [hw2]; simp
  rw [← hw2] at hb2 hr2
  rw [hs1] at hr2
  have HR1 := hide ((hb2.block w.heap.size (by omega)).trans hr1)
  have HR2 := hide hr2
  have hB2 := hb1.trans (hb2.mono hb1.size)
  have HB2 := hide hB2
  have HA := hide (hA.step hB2)
  have HB := hide (hB.step hB2)
  have q0 := cell_of_row _ _ 1 _ _ _ HR1.out
  have q1 := cell_of_row _ _ 1 _ _ _ HR2.out
  clear hb1 hb2 hr1 hr2 hB2 hA hB
  by_cases h1 : (40 : Int) < l.length
  · clear HA HB hfl hs
    go_enter Try.func4, Try.ntmps4
    go_wp2_with fail
    rw [← hw1, ← hw2]
    refine (bkAwake_any w2).mono ?_
    rintro e w3 ⟨rfl, hb⟩
    have HF := hide (HB2.out.trans (hb.mono HB2.out.size))
    clear hb
    go_wp2_with fail
    exact bodyPost_ret (results_tmp rfl _ _ _) rfl ⟨rfl, HF.out⟩
  by_cases h2 : (40 : Int) < m.length
  · clear HA HB hfl hs
    go_enter Try.func4, Try.ntmps4
    go_wp2_with fail
    rw [← hw1, ← hw2]
    refine (bkAwake_any w2).mono ?_
    rintro e w3 ⟨rfl, hb⟩
    have HF := hide (HB2.out.trans (hb.mono HB2.out.size))
    clear hb
    go_wp2_with fail
    exact bodyPost_ret (results_tmp rfl _ _ _) rfl ⟨rfl, HF.out⟩
  go_enter Try.func4, Try.ntmps4
  have hmx : Try.prog.follows .mixedOrders = true := by kernel_rfl
  have hl40 : l.length ≤ 40 := by omega
  have hm40 : m.length ≤ 40 := by omega
  have HS := hide (fun (W : World) (q : Below w2.heap.size w2 W) => (⟨cell_of_row _ _ 0 _ _ _ ((q.block w.heap.size (by omega)).trans HR1.out), cell_of_row _ _ 1 _ _ _ ((q.block w.heap.size (by omega)).trans HR1.out), cell_of_row _ _ 2 _ _ _ ((q.block w.heap.size (by omega)).trans HR1.out), cell_of_row _ _ 3 _ _ _ ((q.block w.heap.size (by omega)).trans HR1.out), cell_of_row _ _ 4 _ _ _ ((q.block w.heap.size (by omega)).trans HR1.out), cell_of_row _ _ 5 _ _ _ ((q.block w.heap.size (by omega)).trans HR1.out), cell_of_row _ _ 0 _ _ _ ((q.block (w.heap.size + 1) (by omega)).trans HR2.out), cell_of_row _ _ 1 _ _ _ ((q.block (w.heap.size + 1) (by omega)).trans HR2.out), cell_of_row _ _ 2 _ _ _ ((q.block (w.heap.size + 1) (by omega)).trans HR2.out), cell_of_row _ _ 3 _ _ _ ((q.block (w.heap.size + 1) (by omega)).trans HR2.out), cell_of_row _ _ 4 _ _ _ ((q.block (w.heap.size + 1) (by omega)).trans HR2.out), cell_of_row _ _ 5 _ _ _ ((q.block (w.heap.size + 1) (by omega)).trans HR2.out)⟩ : W.cell? ⟨w.heap.size, 0, none⟩ = some (.int .i64 z) ∧ W.cell? ⟨w.heap.size, 1, none⟩ = some (.slice A l.length c) ∧ W.cell? ⟨w.heap.size, 2, none⟩ = some (.int .i64 tl) ∧ W.cell? ⟨w.heap.size, 3, none⟩ = some (.int .u32 (sw : Nat)) ∧ W.cell? ⟨w.heap.size, 4, none⟩ = some (.int .u64 (sh : Nat)) ∧ W.cell? ⟨w.heap.size, 5, none⟩ = some (.int .u64 (slo : Nat)) ∧ W.cell? ⟨(w.heap.size + 1), 0, none⟩ = some (.int .i64 z') ∧ W.cell? ⟨(w.heap.size + 1), 1, none⟩ = some (.slice B m.length c') ∧ W.cell? ⟨(w.heap.size + 1), 2, none⟩ = some (.int .i64 tl') ∧ W.cell? ⟨(w.heap.size + 1), 3, none⟩ = some (.int .u32 (tw : Nat)) ∧ W.cell? ⟨(w.heap.size + 1), 4, none⟩ = some (.int .u64 (th : Nat)) ∧ W.cell? ⟨(w.heap.size + 1), 5, none⟩ = some (.int .u64 (tlo : Nat))))
  have HT1 := hide (fun (W : World) (q : Below w2.heap.size w2 W) => (show Calls Try.prog 27 #[.agg #[.int .i64 z, .slice A l.length c, .int .i64 tl, .int .u32 (sw : Nat), .int .u64 (sh : Nat), .int .u64 (slo : Nat)]] W fun e w' => ∃ B1 d1, e = .returned (.agg #[.int .i64 z, .slice B1 l.length d1, .int .i64 tl, .int .u32 (sw : Nat), .int .u64 (sh : Nat), .int .u64 (slo : Nat)]) ∧ SI W 30 (.slice B1 l.length d1) l w' from bkTo_any z tl A l c ⟨sw, sh, slo⟩ W (HA.out.step q) (by omega)))
  have HT2 := hide (fun (W : World) (q : Below w2.heap.size w2 W) => (show Calls Try.prog 27 #[.agg #[.int .i64 z', .slice B m.length c', .int .i64 tl', .int .u32 (tw : Nat), .int .u64 (th : Nat), .int .u64 (tlo : Nat)]] W fun e w' => ∃ B2 d2, e = .returned (.agg #[.int .i64 z', .slice B2 m.length d2, .int .i64 tl', .int .u32 (tw : Nat), .int .u64 (th : Nat), .int .u64 (tlo : Nat)]) ∧ SI W 30 (.slice B2 m.length d2) m w' from bkTo_any z' tl' B m c' ⟨tw, th, tlo⟩ W (HB.out.step q) (by omega)))
  go_upto_region 3 with fail
  rw [← hw1, ← hw2]
  clear hw1 hw2 q0 q1
  go_cut [5, 6] from 21 (fun x5 x6 wx => ∃ n5 n6 B1 d1 B2 d2, x5 = .pointer (some ⟨n5, 0, none⟩) ∧ x6 = .pointer (some ⟨n6, 0, none⟩) ∧ Hid (Two15 w2 n5 n6 #[.int .i64 z, .slice B1 l.length d1, .int .i64 tl, .int .u32 (sw : Nat), .int .u64 (sh : Nat), .int .u64 (slo : Nat)] #[.int .i64 z', .slice B2 m.length d2, .int .i64 tl', .int .u32 (tw : Nat), .int .u64 (th : Nat), .int .u64 (tlo : Nat)] B1 B2 l m wx))
  case first =>
    have HS1 := HS.out _ (Below.refl w2.heap.size w2).drew
    refine wp_region_held hmx (S := fun W => W.cell? ⟨w.heap.size, 0, none⟩ = some (.int .i64 z) ∧ W.cell? ⟨w.heap.size, 1, none⟩ = some (.slice A l.length c) ∧ W.cell? ⟨w.heap.size, 2, none⟩ = some (.int .i64 tl) ∧ W.cell? ⟨w.heap.size, 3, none⟩ = some (.int .u32 (sw : Nat)) ∧ W.cell? ⟨w.heap.size, 4, none⟩ = some (.int .u64 (sh : Nat)) ∧ W.cell? ⟨w.heap.size, 5, none⟩ = some (.int .u64 (slo : Nat)) ∧ W.cell? ⟨(w.heap.size + 1), 0, none⟩ = some (.int .i64 z') ∧ W.cell? ⟨(w.heap.size + 1), 1, none⟩ = some (.slice B m.length c') ∧ W.cell? ⟨(w.heap.size + 1), 2, none⟩ = some (.int .i64 tl') ∧ W.cell? ⟨(w.heap.size + 1), 3, none⟩ = some (.int .u32 (tw : Nat)) ∧ W.cell? ⟨(w.heap.size + 1), 4, none⟩ = some (.int .u64 (th : Nat)) ∧ W.cell? ⟨(w.heap.size + 1), 5, none⟩ = some (.int .u64 (tlo : Nat))) ?_
    change wpAnyH _ _ _ _ _ _ _ _ (World.drew _)
    refine wpAnyH_take (i := 0) (v := ?v0) rfl (by kernel_rfl) (by kernel_rfl) (by kernel_rfl) (fun _ _ _ h => h) (Or.inl ⟨by kernel_rfl, ?y0⟩) HS1 ?r0
    case y0 => intro W hS; obtain ⟨s0, s1, s2, s3, s4, s5, s6, s7, s8, s9, s10, s11⟩ := hS; go_simp; try with_reducible rfl
    try simp only [Act.put, List.getElem_toArray, List.getElem_cons_zero, List.setIfInBounds_toArray, List.set_cons_zero, List.set_cons_succ]
    refine wpAnyH_take (i := 2) (v := ?v2) rfl (by kernel_rfl) (by kernel_rfl) (by kernel_rfl) (fun _ _ _ h => h) (Or.inl ⟨by kernel_rfl, ?y2⟩) HS1 ?r2
    case y2 => intro W hS; obtain ⟨s0, s1, s2, s3, s4, s5, s6, s7, s8, s9, s10, s11⟩ := hS; go_simp; try with_reducible rfl
    try simp only [Act.put, List.getElem_toArray, List.getElem_cons_succ, List.getElem_cons_zero, List.setIfInBounds_toArray, List.set_cons_zero, List.set_cons_succ]
    have hB0 := (Below.refl w2.heap.size w2).drew
    generalize World.drew w2 = W0 at hB0 ⊢
    clear HS1
    refine held_three (i := 1) (j := 4) (k := 5) (by kernel_rfl) rfl rfl rfl (fun K hK => ?_) (fun K hK => ?_) (fun K hK => ?_)
    · go_simp
      refine (HT1.out _ hB0).mono ?_
      rintro en W1 ⟨B1, d1, rfl, hI⟩
      have hb1 := hI.below
      have hB1 := hB0.trans (hb1.mono hB0.size)
      have O1_1 := ownsRow_lowerSg (base' := w2.heap.size) hI.own hB0.size
      refine hK _ _ (HS.out _ hB1) ?_
      clear hK K hb1 hI
      try simp only [Act.put, List.getElem_toArray, List.getElem_cons_succ, List.getElem_cons_zero, List.setIfInBounds_toArray, List.set_cons_zero, List.set_cons_succ]
      refine held_three (i := 3) (j := 4) (k := 5) (by kernel_rfl) rfl rfl rfl (fun K hK => ?_) (fun K hK => ?_) (fun K hK => ?_)
      · go_simp
        refine (HT2.out _ hB1).mono ?_
        rintro en W2 ⟨B2, d2, rfl, hI⟩
        have hb2 := hI.below
        have hB2 := hB1.trans (hb2.mono hB1.size)
        have O2_2 := ownsRow_lowerSg (base' := w2.heap.size) hI.own hB1.size
        have O1_2 := own_below O1_1 hb2
        refine hK _ _ (HS.out _ hB2) ?_
        clear hK K hb2 hI
        try simp only [Act.put, List.getElem_toArray, List.getElem_cons_succ, List.getElem_cons_zero, List.setIfInBounds_toArray, List.set_cons_zero, List.set_cons_succ]
        refine held_two (i := 4) (k := 5) (by kernel_rfl) rfl rfl (fun K hK => ?_) (fun K hK => ?_)
        · go_simp
          have hb3 := (Below.refl W2.heap.size W2).alloc (Nat.le_refl _) (Obj.cells #[.int .i64 0, .slice none 0 0, .int .i64 0, .int .u32 0, .int .u64 0, .int .u64 0] 32)
          have hB3 := hB2.trans (hb3.mono hB2.size)
          have R5_3 := World.alloc_heap_new W2 (Obj.cells #[.int .i64 0, .slice none 0 0, .int .i64 0, .int .u32 0, .int .u64 0, .int .u64 0] 32)
          have L5 := hB2.size
          have O1_3 := O1_2.alloc (Obj.cells #[.int .i64 0, .slice none 0 0, .int .i64 0, .int .u32 0, .int .u64 0, .int .u64 0] 32)
          have k15 : ∀ r, (Value.slice B1 l.length d1).ownBlock = some r → r ≠ W2.heap.size := fun r e => Nat.ne_of_lt (O1_2.lt r e).2
          have O2_3 := O2_2.alloc (Obj.cells #[.int .i64 0, .slice none 0 0, .int .i64 0, .int .u32 0, .int .u64 0, .int .u64 0] 32)
          have k25 : ∀ r, (Value.slice B2 m.length d2).ownBlock = some r → r ≠ W2.heap.size := fun r e => Nat.ne_of_lt (O2_2.lt r e).2
          refine hK _ _ (HS.out _ hB3) ?_
          clear hK K hb3
          try simp only [Act.put, List.getElem_toArray, List.getElem_cons_succ, List.getElem_cons_zero, List.setIfInBounds_toArray, List.set_cons_zero, List.set_cons_succ]
          generalize W2.alloc (Obj.cells #[.int .i64 0, .slice none 0 0, .int .i64 0, .int .u32 0, .int .u64 0, .int .u64 0] 32) = W3 at hB3 R5_3 O1_3 O2_3 ⊢
          refine held_one (i := 5) (by kernel_rfl) rfl (fun K hK => ?_)
          go_simp
          have hb4 := (Below.refl W3.heap.size W3).alloc (Nat.le_refl _) (Obj.cells #[.int .i64 0, .slice none 0 0, .int .i64 0, .int .u32 0, .int .u64 0, .int .u64 0] 32)
          have hB4 := hB3.trans (hb4.mono hB3.size)
          have R6_4 := World.alloc_heap_new W3 (Obj.cells #[.int .i64 0, .slice none 0 0, .int .i64 0, .int .u32 0, .int .u64 0, .int .u64 0] 32)
          have L6 := hB3.size
          have R5_4 := (hb4.block _ (Array.getElem?_eq_some_iff.1 R5_3).1).trans R5_3
          have hne : W2.heap.size ≠ W3.heap.size := Nat.ne_of_lt (Array.getElem?_eq_some_iff.1 R5_3).1
          have hne2 : W3.heap.size ≠ W2.heap.size := hne.symm
          have O1_4 := O1_3.alloc (Obj.cells #[.int .i64 0, .slice none 0 0, .int .i64 0, .int .u32 0, .int .u64 0, .int .u64 0] 32)
          have k16 : ∀ r, (Value.slice B1 l.length d1).ownBlock = some r → r ≠ W3.heap.size := fun r e => Nat.ne_of_lt (O1_3.lt r e).2
          have O2_4 := O2_3.alloc (Obj.cells #[.int .i64 0, .slice none 0 0, .int .i64 0, .int .u32 0, .int .u64 0, .int .u64 0] 32)
          have k26 : ∀ r, (Value.slice B2 m.length d2).ownBlock = some r → r ≠ W3.heap.size := fun r e => Nat.ne_of_lt (O2_3.lt r e).2
          refine hK _ _ (HS.out _ hB4) ?_
          clear hK K hb4
          try simp only [Act.put, List.getElem_toArray, List.getElem_cons_succ, List.getElem_cons_zero, List.setIfInBounds_toArray, List.set_cons_zero, List.set_cons_succ]
          generalize W3.alloc (Obj.cells #[.int .i64 0, .slice none 0 0, .int .i64 0, .int .u32 0, .int .u64 0, .int .u64 0] 32) = W4 at hB4 R6_4 R5_4 O1_4 O2_4 ⊢
          refine held_one (i := 6) (by kernel_rfl) rfl (fun K hK => ?_)
          have y0 : W4.cell? ⟨W2.heap.size, 0, none⟩ = some (.int .i64 0) := cell_of_row _ _ _ _ _ _ R5_4
          have z0 : W4.frozen? ⟨W2.heap.size, 0, none⟩ = false := frozen_of_row _ _ _ _ _ R5_4
          have y1 : W4.cell? ⟨W2.heap.size, 1, none⟩ = some (.slice none 0 0) := cell_of_row _ _ _ _ _ _ R5_4
          have z1 : W4.frozen? ⟨W2.heap.size, 1, none⟩ = false := frozen_of_row _ _ _ _ _ R5_4
          have y2 : W4.cell? ⟨W2.heap.size, 2, none⟩ = some (.int .i64 0) := cell_of_row _ _ _ _ _ _ R5_4
          have z2 : W4.frozen? ⟨W2.heap.size, 2, none⟩ = false := frozen_of_row _ _ _ _ _ R5_4
          have y3 : W4.cell? ⟨W2.heap.size, 3, none⟩ = some (.int .u32 0) := cell_of_row _ _ _ _ _ _ R5_4
          have z3 : W4.frozen? ⟨W2.heap.size, 3, none⟩ = false := frozen_of_row _ _ _ _ _ R5_4
          have y4 : W4.cell? ⟨W2.heap.size, 4, none⟩ = some (.int .u64 0) := cell_of_row _ _ _ _ _ _ R5_4
          have z4 : W4.frozen? ⟨W2.heap.size, 4, none⟩ = false := frozen_of_row _ _ _ _ _ R5_4
          have y5 : W4.cell? ⟨W2.heap.size, 5, none⟩ = some (.int .u64 0) := cell_of_row _ _ _ _ _ _ R5_4
          have z5 : W4.frozen? ⟨W2.heap.size, 5, none⟩ = false := frozen_of_row _ _ _ _ _ R5_4
          go_simp
          have hB5 : Below w2.heap.size w2 ((((((W4.setCell ⟨W2.heap.size, 0, none⟩ (.int .i64 z)).setCell ⟨W2.heap.size, 1, none⟩ (.slice B1 l.length d1)).setCell ⟨W2.heap.size, 2, none⟩ (.int .i64 tl)).setCell ⟨W2.heap.size, 3, none⟩ (.int .u32 (sw : Nat))).setCell ⟨W2.heap.size, 4, none⟩ (.int .u64 (sh : Nat))).setCell ⟨W2.heap.size, 5, none⟩ (.int .u64 (slo : Nat))) := six_below (.int .i64 z) (.slice B1 l.length d1) (.int .i64 tl) (.int .u32 (sw : Nat)) (.int .u64 (sh : Nat)) (.int .u64 (slo : Nat)) hB4 L5
          have R5_5 : ((((((W4.setCell ⟨W2.heap.size, 0, none⟩ (.int .i64 z)).setCell ⟨W2.heap.size, 1, none⟩ (.slice B1 l.length d1)).setCell ⟨W2.heap.size, 2, none⟩ (.int .i64 tl)).setCell ⟨W2.heap.size, 3, none⟩ (.int .u32 (sw : Nat))).setCell ⟨W2.heap.size, 4, none⟩ (.int .u64 (sh : Nat))).setCell ⟨W2.heap.size, 5, none⟩ (.int .u64 (slo : Nat))).heap[W2.heap.size]? = some (.cells #[.int .i64 z, .slice B1 l.length d1, .int .i64 tl, .int .u32 (sw : Nat), .int .u64 (sh : Nat), .int .u64 (slo : Nat)] 32 (0, 0)) := six_row _ _ _ _ _ _ (.int .i64 z) (.slice B1 l.length d1) (.int .i64 tl) (.int .u32 (sw : Nat)) (.int .u64 (sh : Nat)) (.int .u64 (slo : Nat)) rfl R5_4
          have R6_5 := (six_other W4 (W2.heap.size) (W3.heap.size) (.int .i64 z) (.slice B1 l.length d1) (.int .i64 tl) (.int .u32 (sw : Nat)) (.int .u64 (sh : Nat)) (.int .u64 (slo : Nat)) (by first | exact hne | exact hne2)).trans R6_4
          change ((((((W4.setCell ⟨W2.heap.size, 0, none⟩ (.int .i64 z)).setCell ⟨W2.heap.size, 1, none⟩ (.slice B1 l.length d1)).setCell ⟨W2.heap.size, 2, none⟩ (.int .i64 tl)).setCell ⟨W2.heap.size, 3, none⟩ (.int .u32 (sw : Nat))).setCell ⟨W2.heap.size, 4, none⟩ (.int .u64 (sh : Nat))).setCell ⟨W2.heap.size, 5, none⟩ (.int .u64 (slo : Nat))).heap[_]? = _ at R6_5
          have O1_5 : ((((((W4.setCell ⟨W2.heap.size, 0, none⟩ (.int .i64 z)).setCell ⟨W2.heap.size, 1, none⟩ (.slice B1 l.length d1)).setCell ⟨W2.heap.size, 2, none⟩ (.int .i64 tl)).setCell ⟨W2.heap.size, 3, none⟩ (.int .u32 (sw : Nat))).setCell ⟨W2.heap.size, 4, none⟩ (.int .u64 (sh : Nat))).setCell ⟨W2.heap.size, 5, none⟩ (.int .u64 (slo : Nat))).ownsRow w2.heap.size 30 3 (Value.slice B1 l.length d1) l.length (cellsSg l) := six_own (.int .i64 z) (.slice B1 l.length d1) (.int .i64 tl) (.int .u32 (sw : Nat)) (.int .u64 (sh : Nat)) (.int .u64 (slo : Nat)) O1_4 k15
          have O2_5 : ((((((W4.setCell ⟨W2.heap.size, 0, none⟩ (.int .i64 z)).setCell ⟨W2.heap.size, 1, none⟩ (.slice B1 l.length d1)).setCell ⟨W2.heap.size, 2, none⟩ (.int .i64 tl)).setCell ⟨W2.heap.size, 3, none⟩ (.int .u32 (sw : Nat))).setCell ⟨W2.heap.size, 4, none⟩ (.int .u64 (sh : Nat))).setCell ⟨W2.heap.size, 5, none⟩ (.int .u64 (slo : Nat))).ownsRow w2.heap.size 30 3 (Value.slice B2 m.length d2) m.length (cellsSg m) := six_own (.int .i64 z) (.slice B1 l.length d1) (.int .i64 tl) (.int .u32 (sw : Nat)) (.int .u64 (sh : Nat)) (.int .u64 (slo : Nat)) O2_4 k25
          refine hK _ _ (HS.out _ hB5) ?_
          clear hK K y0 y1 y2 y3 y4 y5 z0 z1 z2 z3 z4 z5
          try simp only [Act.put, List.getElem_toArray, List.getElem_cons_succ, List.getElem_cons_zero, List.setIfInBounds_toArray, List.set_cons_zero, List.set_cons_succ]
          generalize ((((((W4.setCell ⟨W2.heap.size, 0, none⟩ (.int .i64 z)).setCell ⟨W2.heap.size, 1, none⟩ (.slice B1 l.length d1)).setCell ⟨W2.heap.size, 2, none⟩ (.int .i64 tl)).setCell ⟨W2.heap.size, 3, none⟩ (.int .u32 (sw : Nat))).setCell ⟨W2.heap.size, 4, none⟩ (.int .u64 (sh : Nat))).setCell ⟨W2.heap.size, 5, none⟩ (.int .u64 (slo : Nat))) = W5 at hB5 R5_5 R6_5 O1_5 O2_5 ⊢
          refine held_one (i := 7) (by kernel_rfl) rfl (fun K hK => ?_)
          have y0 : W5.cell? ⟨W3.heap.size, 0, none⟩ = some (.int .i64 0) := cell_of_row _ _ _ _ _ _ R6_5
          have z0 : W5.frozen? ⟨W3.heap.size, 0, none⟩ = false := frozen_of_row _ _ _ _ _ R6_5
          have y1 : W5.cell? ⟨W3.heap.size, 1, none⟩ = some (.slice none 0 0) := cell_of_row _ _ _ _ _ _ R6_5
          have z1 : W5.frozen? ⟨W3.heap.size, 1, none⟩ = false := frozen_of_row _ _ _ _ _ R6_5
          have y2 : W5.cell? ⟨W3.heap.size, 2, none⟩ = some (.int .i64 0) := cell_of_row _ _ _ _ _ _ R6_5
          have z2 : W5.frozen? ⟨W3.heap.size, 2, none⟩ = false := frozen_of_row _ _ _ _ _ R6_5
          have y3 : W5.cell? ⟨W3.heap.size, 3, none⟩ = some (.int .u32 0) := cell_of_row _ _ _ _ _ _ R6_5
          have z3 : W5.frozen? ⟨W3.heap.size, 3, none⟩ = false := frozen_of_row _ _ _ _ _ R6_5
          have y4 : W5.cell? ⟨W3.heap.size, 4, none⟩ = some (.int .u64 0) := cell_of_row _ _ _ _ _ _ R6_5
          have z4 : W5.frozen? ⟨W3.heap.size, 4, none⟩ = false := frozen_of_row _ _ _ _ _ R6_5
          have y5 : W5.cell? ⟨W3.heap.size, 5, none⟩ = some (.int .u64 0) := cell_of_row _ _ _ _ _ _ R6_5
          have z5 : W5.frozen? ⟨W3.heap.size, 5, none⟩ = false := frozen_of_row _ _ _ _ _ R6_5
          go_simp
          have hB6 : Below w2.heap.size w2 ((((((W5.setCell ⟨W3.heap.size, 0, none⟩ (.int .i64 z')).setCell ⟨W3.heap.size, 1, none⟩ (.slice B2 m.length d2)).setCell ⟨W3.heap.size, 2, none⟩ (.int .i64 tl')).setCell ⟨W3.heap.size, 3, none⟩ (.int .u32 (tw : Nat))).setCell ⟨W3.heap.size, 4, none⟩ (.int .u64 (th : Nat))).setCell ⟨W3.heap.size, 5, none⟩ (.int .u64 (tlo : Nat))) := six_below (.int .i64 z') (.slice B2 m.length d2) (.int .i64 tl') (.int .u32 (tw : Nat)) (.int .u64 (th : Nat)) (.int .u64 (tlo : Nat)) hB5 L6
          have R6_6 : ((((((W5.setCell ⟨W3.heap.size, 0, none⟩ (.int .i64 z')).setCell ⟨W3.heap.size, 1, none⟩ (.slice B2 m.length d2)).setCell ⟨W3.heap.size, 2, none⟩ (.int .i64 tl')).setCell ⟨W3.heap.size, 3, none⟩ (.int .u32 (tw : Nat))).setCell ⟨W3.heap.size, 4, none⟩ (.int .u64 (th : Nat))).setCell ⟨W3.heap.size, 5, none⟩ (.int .u64 (tlo : Nat))).heap[W3.heap.size]? = some (.cells #[.int .i64 z', .slice B2 m.length d2, .int .i64 tl', .int .u32 (tw : Nat), .int .u64 (th : Nat), .int .u64 (tlo : Nat)] 32 (0, 0)) := six_row _ _ _ _ _ _ (.int .i64 z') (.slice B2 m.length d2) (.int .i64 tl') (.int .u32 (tw : Nat)) (.int .u64 (th : Nat)) (.int .u64 (tlo : Nat)) rfl R6_5
          have R5_6 := (six_other W5 (W3.heap.size) (W2.heap.size) (.int .i64 z') (.slice B2 m.length d2) (.int .i64 tl') (.int .u32 (tw : Nat)) (.int .u64 (th : Nat)) (.int .u64 (tlo : Nat)) (by first | exact hne | exact hne2)).trans R5_5
          change ((((((W5.setCell ⟨W3.heap.size, 0, none⟩ (.int .i64 z')).setCell ⟨W3.heap.size, 1, none⟩ (.slice B2 m.length d2)).setCell ⟨W3.heap.size, 2, none⟩ (.int .i64 tl')).setCell ⟨W3.heap.size, 3, none⟩ (.int .u32 (tw : Nat))).setCell ⟨W3.heap.size, 4, none⟩ (.int .u64 (th : Nat))).setCell ⟨W3.heap.size, 5, none⟩ (.int .u64 (tlo : Nat))).heap[_]? = _ at R5_6
          have O1_6 : ((((((W5.setCell ⟨W3.heap.size, 0, none⟩ (.int .i64 z')).setCell ⟨W3.heap.size, 1, none⟩ (.slice B2 m.length d2)).setCell ⟨W3.heap.size, 2, none⟩ (.int .i64 tl')).setCell ⟨W3.heap.size, 3, none⟩ (.int .u32 (tw : Nat))).setCell ⟨W3.heap.size, 4, none⟩ (.int .u64 (th : Nat))).setCell ⟨W3.heap.size, 5, none⟩ (.int .u64 (tlo : Nat))).ownsRow w2.heap.size 30 3 (Value.slice B1 l.length d1) l.length (cellsSg l) := six_own (.int .i64 z') (.slice B2 m.length d2) (.int .i64 tl') (.int .u32 (tw : Nat)) (.int .u64 (th : Nat)) (.int .u64 (tlo : Nat)) O1_5 k16
          have O2_6 : ((((((W5.setCell ⟨W3.heap.size, 0, none⟩ (.int .i64 z')).setCell ⟨W3.heap.size, 1, none⟩ (.slice B2 m.length d2)).setCell ⟨W3.heap.size, 2, none⟩ (.int .i64 tl')).setCell ⟨W3.heap.size, 3, none⟩ (.int .u32 (tw : Nat))).setCell ⟨W3.heap.size, 4, none⟩ (.int .u64 (th : Nat))).setCell ⟨W3.heap.size, 5, none⟩ (.int .u64 (tlo : Nat))).ownsRow w2.heap.size 30 3 (Value.slice B2 m.length d2) m.length (cellsSg m) := six_own (.int .i64 z') (.slice B2 m.length d2) (.int .i64 tl') (.int .u32 (tw : Nat)) (.int .u64 (th : Nat)) (.int .u64 (tlo : Nat)) O2_5 k26
          refine hK _ _ (HS.out _ hB6) ?_
          clear hK K y0 y1 y2 y3 y4 y5 z0 z1 z2 z3 z4 z5
          try simp only [Act.put, List.getElem_toArray, List.getElem_cons_succ, List.getElem_cons_zero, List.setIfInBounds_toArray, List.set_cons_zero, List.set_cons_succ]
          generalize ((((((W5.setCell ⟨W3.heap.size, 0, none⟩ (.int .i64 z')).setCell ⟨W3.heap.size, 1, none⟩ (.slice B2 m.length d2)).setCell ⟨W3.heap.size, 2, none⟩ (.int .i64 tl')).setCell ⟨W3.heap.size, 3, none⟩ (.int .u32 (tw : Nat))).setCell ⟨W3.heap.size, 4, none⟩ (.int .u64 (th : Nat))).setCell ⟨W3.heap.size, 5, none⟩ (.int .u64 (tlo : Nat))) = W6 at hB6 R5_6 R6_6 O1_6 O2_6 ⊢
          refine wpAnyH_done (by kernel_rfl) ?_ _
          go_wp2_with fail
          go_meet
          case rel => exact ⟨_, _, B1, d1, B2, d2, rfl, rfl, hide ⟨hB6, R5_6, R6_6, RdSg.own O1_6, RdSg.own O2_6⟩⟩
        · go_simp
          have hb3 := (Below.refl W2.heap.size W2).alloc (Nat.le_refl _) (Obj.cells #[.int .i64 0, .slice none 0 0, .int .i64 0, .int .u32 0, .int .u64 0, .int .u64 0] 32)
          have hB3 := hB2.trans (hb3.mono hB2.size)
          have R6_3 := World.alloc_heap_new W2 (Obj.cells #[.int .i64 0, .slice none 0 0, .int .i64 0, .int .u32 0, .int .u64 0, .int .u64 0] 32)
          have L6 := hB2.size
          have O1_3 := O1_2.alloc (Obj.cells #[.int .i64 0, .slice none 0 0, .int .i64 0, .int .u32 0, .int .u64 0, .int .u64 0] 32)
          have k16 : ∀ r, (Value.slice B1 l.length d1).ownBlock = some r → r ≠ W2.heap.size := fun r e => Nat.ne_of_lt (O1_2.lt r e).2
          have O2_3 := O2_2.alloc (Obj.cells #[.int .i64 0, .slice none 0 0, .int .i64 0, .int .u32 0, .int .u64 0, .int .u64 0] 32)
          have k26 : ∀ r, (Value.slice B2 m.length d2).ownBlock = some r → r ≠ W2.heap.size := fun r e => Nat.ne_of_lt (O2_2.lt r e).2
          refine hK _ _ (HS.out _ hB3) ?_
          clear hK K hb3
          try simp only [Act.put, List.getElem_toArray, List.getElem_cons_succ, List.getElem_cons_zero, List.setIfInBounds_toArray, List.set_cons_zero, List.set_cons_succ]
          generalize W2.alloc (Obj.cells #[.int .i64 0, .slice none 0 0, .int .i64 0, .int .u32 0, .int .u64 0, .int .u64 0] 32) = W3 at hB3 R6_3 O1_3 O2_3 ⊢
          refine held_one (i := 4) (by kernel_rfl) rfl (fun K hK => ?_)
          go_simp
          have hb4 := (Below.refl W3.heap.size W3).alloc (Nat.le_refl _) (Obj.cells #[.int .i64 0, .slice none 0 0, .int .i64 0, .int .u32 0, .int .u64 0, .int .u64 0] 32)
          have hB4 := hB3.trans (hb4.mono hB3.size)
          have R5_4 := World.alloc_heap_new W3 (Obj.cells #[.int .i64 0, .slice none 0 0, .int .i64 0, .int .u32 0, .int .u64 0, .int .u64 0] 32)
          have L5 := hB3.size
          have R6_4 := (hb4.block _ (Array.getElem?_eq_some_iff.1 R6_3).1).trans R6_3
          have hne : W2.heap.size ≠ W3.heap.size := Nat.ne_of_lt (Array.getElem?_eq_some_iff.1 R6_3).1
          have hne2 : W3.heap.size ≠ W2.heap.size := hne.symm
          have O1_4 := O1_3.alloc (Obj.cells #[.int .i64 0, .slice none 0 0, .int .i64 0, .int .u32 0, .int .u64 0, .int .u64 0] 32)
          have k15 : ∀ r, (Value.slice B1 l.length d1).ownBlock = some r → r ≠ W3.heap.size := fun r e => Nat.ne_of_lt (O1_3.lt r e).2
          have O2_4 := O2_3.alloc (Obj.cells #[.int .i64 0, .slice none 0 0, .int .i64 0, .int .u32 0, .int .u64 0, .int .u64 0] 32)
          have k25 : ∀ r, (Value.slice B2 m.length d2).ownBlock = some r → r ≠ W3.heap.size := fun r e => Nat.ne_of_lt (O2_3.lt r e).2
          refine hK _ _ (HS.out _ hB4) ?_
          clear hK K hb4
          try simp only [Act.put, List.getElem_toArray, List.getElem_cons_succ, List.getElem_cons_zero, List.setIfInBounds_toArray, List.set_cons_zero, List.set_cons_succ]
          generalize W3.alloc (Obj.cells #[.int .i64 0, .slice none 0 0, .int .i64 0, .int .u32 0, .int .u64 0, .int .u64 0] 32) = W4 at hB4 R5_4 R6_4 O1_4 O2_4 ⊢
          refine held_one (i := 6) (by kernel_rfl) rfl (fun K hK => ?_)
          have y0 : W4.cell? ⟨W3.heap.size, 0, none⟩ = some (.int .i64 0) := cell_of_row _ _ _ _ _ _ R5_4
          have z0 : W4.frozen? ⟨W3.heap.size, 0, none⟩ = false := frozen_of_row _ _ _ _ _ R5_4
          have y1 : W4.cell? ⟨W3.heap.size, 1, none⟩ = some (.slice none 0 0) := cell_of_row _ _ _ _ _ _ R5_4
          have z1 : W4.frozen? ⟨W3.heap.size, 1, none⟩ = false := frozen_of_row _ _ _ _ _ R5_4
          have y2 : W4.cell? ⟨W3.heap.size, 2, none⟩ = some (.int .i64 0) := cell_of_row _ _ _ _ _ _ R5_4
          have z2 : W4.frozen? ⟨W3.heap.size, 2, none⟩ = false := frozen_of_row _ _ _ _ _ R5_4
          have y3 : W4.cell? ⟨W3.heap.size, 3, none⟩ = some (.int .u32 0) := cell_of_row _ _ _ _ _ _ R5_4
          have z3 : W4.frozen? ⟨W3.heap.size, 3, none⟩ = false := frozen_of_row _ _ _ _ _ R5_4
          have y4 : W4.cell? ⟨W3.heap.size, 4, none⟩ = some (.int .u64 0) := cell_of_row _ _ _ _ _ _ R5_4
          have z4 : W4.frozen? ⟨W3.heap.size, 4, none⟩ = false := frozen_of_row _ _ _ _ _ R5_4
          have y5 : W4.cell? ⟨W3.heap.size, 5, none⟩ = some (.int .u64 0) := cell_of_row _ _ _ _ _ _ R5_4
          have z5 : W4.frozen? ⟨W3.heap.size, 5, none⟩ = false := frozen_of_row _ _ _ _ _ R5_4
          go_simp
          have hB5 : Below w2.heap.size w2 ((((((W4.setCell ⟨W3.heap.size, 0, none⟩ (.int .i64 z)).setCell ⟨W3.heap.size, 1, none⟩ (.slice B1 l.length d1)).setCell ⟨W3.heap.size, 2, none⟩ (.int .i64 tl)).setCell ⟨W3.heap.size, 3, none⟩ (.int .u32 (sw : Nat))).setCell ⟨W3.heap.size, 4, none⟩ (.int .u64 (sh : Nat))).setCell ⟨W3.heap.size, 5, none⟩ (.int .u64 (slo : Nat))) := six_below (.int .i64 z) (.slice B1 l.length d1) (.int .i64 tl) (.int .u32 (sw : Nat)) (.int .u64 (sh : Nat)) (.int .u64 (slo : Nat)) hB4 L5
          have R5_5 : ((((((W4.setCell ⟨W3.heap.size, 0, none⟩ (.int .i64 z)).setCell ⟨W3.heap.size, 1, none⟩ (.slice B1 l.length d1)).setCell ⟨W3.heap.size, 2, none⟩ (.int .i64 tl)).setCell ⟨W3.heap.size, 3, none⟩ (.int .u32 (sw : Nat))).setCell ⟨W3.heap.size, 4, none⟩ (.int .u64 (sh : Nat))).setCell ⟨W3.heap.size, 5, none⟩ (.int .u64 (slo : Nat))).heap[W3.heap.size]? = some (.cells #[.int .i64 z, .slice B1 l.length d1, .int .i64 tl, .int .u32 (sw : Nat), .int .u64 (sh : Nat), .int .u64 (slo : Nat)] 32 (0, 0)) := six_row _ _ _ _ _ _ (.int .i64 z) (.slice B1 l.length d1) (.int .i64 tl) (.int .u32 (sw : Nat)) (.int .u64 (sh : Nat)) (.int .u64 (slo : Nat)) rfl R5_4
          have R6_5 := (six_other W4 (W3.heap.size) (W2.heap.size) (.int .i64 z) (.slice B1 l.length d1) (.int .i64 tl) (.int .u32 (sw : Nat)) (.int .u64 (sh : Nat)) (.int .u64 (slo : Nat)) (by first | exact hne | exact hne2)).trans R6_4
          change ((((((W4.setCell ⟨W3.heap.size, 0, none⟩ (.int .i64 z)).setCell ⟨W3.heap.size, 1, none⟩ (.slice B1 l.length d1)).setCell ⟨W3.heap.size, 2, none⟩ (.int .i64 tl)).setCell ⟨W3.heap.size, 3, none⟩ (.int .u32 (sw : Nat))).setCell ⟨W3.heap.size, 4, none⟩ (.int .u64 (sh : Nat))).setCell ⟨W3.heap.size, 5, none⟩ (.int .u64 (slo : Nat))).heap[_]? = _ at R6_5
          have O1_5 : ((((((W4.setCell ⟨W3.heap.size, 0, none⟩ (.int .i64 z)).setCell ⟨W3.heap.size, 1, none⟩ (.slice B1 l.length d1)).setCell ⟨W3.heap.size, 2, none⟩ (.int .i64 tl)).setCell ⟨W3.heap.size, 3, none⟩ (.int .u32 (sw : Nat))).setCell ⟨W3.heap.size, 4, none⟩ (.int .u64 (sh : Nat))).setCell ⟨W3.heap.size, 5, none⟩ (.int .u64 (slo : Nat))).ownsRow w2.heap.size 30 3 (Value.slice B1 l.length d1) l.length (cellsSg l) := six_own (.int .i64 z) (.slice B1 l.length d1) (.int .i64 tl) (.int .u32 (sw : Nat)) (.int .u64 (sh : Nat)) (.int .u64 (slo : Nat)) O1_4 k15
          have O2_5 : ((((((W4.setCell ⟨W3.heap.size, 0, none⟩ (.int .i64 z)).setCell ⟨W3.heap.size, 1, none⟩ (.slice B1 l.length d1)).setCell ⟨W3.heap.size, 2, none⟩ (.int .i64 tl)).setCell ⟨W3.heap.size, 3, none⟩ (.int .u32 (sw : Nat))).setCell ⟨W3.heap.size, 4, none⟩ (.int .u64 (sh : Nat))).setCell ⟨W3.heap.size, 5, none⟩ (.int .u64 (slo : Nat))).ownsRow w2.heap.size 30 3 (Value.slice B2 m.length d2) m.length (cellsSg m) := six_own (.int .i64 z) (.slice B1 l.length d1) (.int .i64 tl) (.int .u32 (sw : Nat)) (.int .u64 (sh : Nat)) (.int .u64 (slo : Nat)) O2_4 k25
          refine hK _ _ (HS.out _ hB5) ?_
          clear hK K y0 y1 y2 y3 y4 y5 z0 z1 z2 z3 z4 z5
          try simp only [Act.put, List.getElem_toArray, List.getElem_cons_succ, List.getElem_cons_zero, List.setIfInBounds_toArray, List.set_cons_zero, List.set_cons_succ]
          generalize ((((((W4.setCell ⟨W3.heap.size, 0, none⟩ (.int .i64 z)).setCell ⟨W3.heap.size, 1, none⟩ (.slice B1 l.length d1)).setCell ⟨W3.heap.size, 2, none⟩ (.int .i64 tl)).setCell ⟨W3.heap.size, 3, none⟩ (.int .u32 (sw : Nat))).setCell ⟨W3.heap.size, 4, none⟩ (.int .u64 (sh : Nat))).setCell ⟨W3.heap.size, 5, none⟩ (.int .u64 (slo : Nat))) = W5 at hB5 R5_5 R6_5 O1_5 O2_5 ⊢
          refine held_one (i := 7) (by kernel_rfl) rfl (fun K hK => ?_)
          have y0 : W5.cell? ⟨W2.heap.size, 0, none⟩ = some (.int .i64 0) := cell_of_row _ _ _ _ _ _ R6_5
          have z0 : W5.frozen? ⟨W2.heap.size, 0, none⟩ = false := frozen_of_row _ _ _ _ _ R6_5
          have y1 : W5.cell? ⟨W2.heap.size, 1, none⟩ = some (.slice none 0 0) := cell_of_row _ _ _ _ _ _ R6_5
          have z1 : W5.frozen? ⟨W2.heap.size, 1, none⟩ = false := frozen_of_row _ _ _ _ _ R6_5
          have y2 : W5.cell? ⟨W2.heap.size, 2, none⟩ = some (.int .i64 0) := cell_of_row _ _ _ _ _ _ R6_5
          have z2 : W5.frozen? ⟨W2.heap.size, 2, none⟩ = false := frozen_of_row _ _ _ _ _ R6_5
          have y3 : W5.cell? ⟨W2.heap.size, 3, none⟩ = some (.int .u32 0) := cell_of_row _ _ _ _ _ _ R6_5
          have z3 : W5.frozen? ⟨W2.heap.size, 3, none⟩ = false := frozen_of_row _ _ _ _ _ R6_5
          have y4 : W5.cell? ⟨W2.heap.size, 4, none⟩ = some (.int .u64 0) := cell_of_row _ _ _ _ _ _ R6_5
          have z4 : W5.frozen? ⟨W2.heap.size, 4, none⟩ = false := frozen_of_row _ _ _ _ _ R6_5
          have y5 : W5.cell? ⟨W2.heap.size, 5, none⟩ = some (.int .u64 0) := cell_of_row _ _ _ _ _ _ R6_5
          have z5 : W5.frozen? ⟨W2.heap.size, 5, none⟩ = false := frozen_of_row _ _ _ _ _ R6_5
          go_simp
          have hB6 : Below w2.heap.size w2 ((((((W5.setCell ⟨W2.heap.size, 0, none⟩ (.int .i64 z')).setCell ⟨W2.heap.size, 1, none⟩ (.slice B2 m.length d2)).setCell ⟨W2.heap.size, 2, none⟩ (.int .i64 tl')).setCell ⟨W2.heap.size, 3, none⟩ (.int .u32 (tw : Nat))).setCell ⟨W2.heap.size, 4, none⟩ (.int .u64 (th : Nat))).setCell ⟨W2.heap.size, 5, none⟩ (.int .u64 (tlo : Nat))) := six_below (.int .i64 z') (.slice B2 m.length d2) (.int .i64 tl') (.int .u32 (tw : Nat)) (.int .u64 (th : Nat)) (.int .u64 (tlo : Nat)) hB5 L6
          have R6_6 : ((((((W5.setCell ⟨W2.heap.size, 0, none⟩ (.int .i64 z')).setCell ⟨W2.heap.size, 1, none⟩ (.slice B2 m.length d2)).setCell ⟨W2.heap.size, 2, none⟩ (.int .i64 tl')).setCell ⟨W2.heap.size, 3, none⟩ (.int .u32 (tw : Nat))).setCell ⟨W2.heap.size, 4, none⟩ (.int .u64 (th : Nat))).setCell ⟨W2.heap.size, 5, none⟩ (.int .u64 (tlo : Nat))).heap[W2.heap.size]? = some (.cells #[.int .i64 z', .slice B2 m.length d2, .int .i64 tl', .int .u32 (tw : Nat), .int .u64 (th : Nat), .int .u64 (tlo : Nat)] 32 (0, 0)) := six_row _ _ _ _ _ _ (.int .i64 z') (.slice B2 m.length d2) (.int .i64 tl') (.int .u32 (tw : Nat)) (.int .u64 (th : Nat)) (.int .u64 (tlo : Nat)) rfl R6_5
          have R5_6 := (six_other W5 (W2.heap.size) (W3.heap.size) (.int .i64 z') (.slice B2 m.length d2) (.int .i64 tl') (.int .u32 (tw : Nat)) (.int .u64 (th : Nat)) (.int .u64 (tlo : Nat)) (by first | exact hne | exact hne2)).trans R5_5
          change ((((((W5.setCell ⟨W2.heap.size, 0, none⟩ (.int .i64 z')).setCell ⟨W2.heap.size, 1, none⟩ (.slice B2 m.length d2)).setCell ⟨W2.heap.size, 2, none⟩ (.int .i64 tl')).setCell ⟨W2.heap.size, 3, none⟩ (.int .u32 (tw : Nat))).setCell ⟨W2.heap.size, 4, none⟩ (.int .u64 (th : Nat))).setCell ⟨W2.heap.size, 5, none⟩ (.int .u64 (tlo : Nat))).heap[_]? = _ at R5_6
          have O1_6 : ((((((W5.setCell ⟨W2.heap.size, 0, none⟩ (.int .i64 z')).setCell ⟨W2.heap.size, 1, none⟩ (.slice B2 m.length d2)).setCell ⟨W2.heap.size, 2, none⟩ (.int .i64 tl')).setCell ⟨W2.heap.size, 3, none⟩ (.int .u32 (tw : Nat))).setCell ⟨W2.heap.size, 4, none⟩ (.int .u64 (th : Nat))).setCell ⟨W2.heap.size, 5, none⟩ (.int .u64 (tlo : Nat))).ownsRow w2.heap.size 30 3 (Value.slice B1 l.length d1) l.length (cellsSg l) := six_own (.int .i64 z') (.slice B2 m.length d2) (.int .i64 tl') (.int .u32 (tw : Nat)) (.int .u64 (th : Nat)) (.int .u64 (tlo : Nat)) O1_5 k16
          have O2_6 : ((((((W5.setCell ⟨W2.heap.size, 0, none⟩ (.int .i64 z')).setCell ⟨W2.heap.size, 1, none⟩ (.slice B2 m.length d2)).setCell ⟨W2.heap.size, 2, none⟩ (.int .i64 tl')).setCell ⟨W2.heap.size, 3, none⟩ (.int .u32 (tw : Nat))).setCell ⟨W2.heap.size, 4, none⟩ (.int .u64 (th : Nat))).setCell ⟨W2.heap.size, 5, none⟩ (.int .u64 (tlo : Nat))).ownsRow w2.heap.size 30 3 (Value.slice B2 m.length d2) m.length (cellsSg m) := six_own (.int .i64 z') (.slice B2 m.length d2) (.int .i64 tl') (.int .u32 (tw : Nat)) (.int .u64 (th : Nat)) (.int .u64 (tlo : Nat)) O2_5 k26
          refine hK _ _ (HS.out _ hB6) ?_
          clear hK K y0 y1 y2 y3 y4 y5 z0 z1 z2 z3 z4 z5
          try simp only [Act.put, List.getElem_toArray, List.getElem_cons_succ, List.getElem_cons_zero, List.setIfInBounds_toArray, List.set_cons_zero, List.set_cons_succ]
          generalize ((((((W5.setCell ⟨W2.heap.size, 0, none⟩ (.int .i64 z')).setCell ⟨W2.heap.size, 1, none⟩ (.slice B2 m.length d2)).setCell ⟨W2.heap.size, 2, none⟩ (.int .i64 tl')).setCell ⟨W2.heap.size, 3, none⟩ (.int .u32 (tw : Nat))).setCell ⟨W2.heap.size, 4, none⟩ (.int .u64 (th : Nat))).setCell ⟨W2.heap.size, 5, none⟩ (.int .u64 (tlo : Nat))) = W6 at hB6 R5_6 R6_6 O1_6 O2_6 ⊢
          refine wpAnyH_done (by kernel_rfl) ?_ _
          go_wp2_with fail
          go_meet
          case rel => exact ⟨_, _, B1, d1, B2, d2, rfl, rfl, hide ⟨hB6, R5_6, R6_6, RdSg.own O1_6, RdSg.own O2_6⟩⟩
      · go_simp
        have hb2 := (Below.refl W1.heap.size W1).alloc (Nat.le_refl _) (Obj.cells #[.int .i64 0, .slice none 0 0, .int .i64 0, .int .u32 0, .int .u64 0, .int .u64 0] 32)
        have hB2 := hB1.trans (hb2.mono hB1.size)
        have R5_2 := World.alloc_heap_new W1 (Obj.cells #[.int .i64 0, .slice none 0 0, .int .i64 0, .int .u32 0, .int .u64 0, .int .u64 0] 32)
        have L5 := hB1.size
        have O1_2 := O1_1.alloc (Obj.cells #[.int .i64 0, .slice none 0 0, .int .i64 0, .int .u32 0, .int .u64 0, .int .u64 0] 32)
        have k15 : ∀ r, (Value.slice B1 l.length d1).ownBlock = some r → r ≠ W1.heap.size := fun r e => Nat.ne_of_lt (O1_1.lt r e).2
        refine hK _ _ (HS.out _ hB2) ?_
        clear hK K hb2
        try simp only [Act.put, List.getElem_toArray, List.getElem_cons_succ, List.getElem_cons_zero, List.setIfInBounds_toArray, List.set_cons_zero, List.set_cons_succ]
        generalize W1.alloc (Obj.cells #[.int .i64 0, .slice none 0 0, .int .i64 0, .int .u32 0, .int .u64 0, .int .u64 0] 32) = W2 at hB2 R5_2 O1_2 ⊢
        refine held_two (i := 3) (k := 5) (by kernel_rfl) rfl rfl (fun K hK => ?_) (fun K hK => ?_)
        · go_simp
          refine (HT2.out _ hB2).mono ?_
          rintro en W3 ⟨B2, d2, rfl, hI⟩
          have hb3 := hI.below
          have hB3 := hB2.trans (hb3.mono hB2.size)
          have O2_3 := ownsRow_lowerSg (base' := w2.heap.size) hI.own hB2.size
          have R5_3 := (hb3.block _ (Array.getElem?_eq_some_iff.1 R5_2).1).trans R5_2
          have k25 : ∀ r, (Value.slice B2 m.length d2).ownBlock = some r → r ≠ W1.heap.size := fun r e => (Nat.ne_of_lt (Nat.lt_of_lt_of_le (Array.getElem?_eq_some_iff.1 R5_2).1 (hI.own.lt r e).1)).symm
          have O1_3 := own_below O1_2 hb3
          refine hK _ _ (HS.out _ hB3) ?_
          clear hK K hb3 hI
          try simp only [Act.put, List.getElem_toArray, List.getElem_cons_succ, List.getElem_cons_zero, List.setIfInBounds_toArray, List.set_cons_zero, List.set_cons_succ]
          refine held_one (i := 5) (by kernel_rfl) rfl (fun K hK => ?_)
          go_simp
          have hb4 := (Below.refl W3.heap.size W3).alloc (Nat.le_refl _) (Obj.cells #[.int .i64 0, .slice none 0 0, .int .i64 0, .int .u32 0, .int .u64 0, .int .u64 0] 32)
          have hB4 := hB3.trans (hb4.mono hB3.size)
          have R6_4 := World.alloc_heap_new W3 (Obj.cells #[.int .i64 0, .slice none 0 0, .int .i64 0, .int .u32 0, .int .u64 0, .int .u64 0] 32)
          have L6 := hB3.size
          have R5_4 := (hb4.block _ (Array.getElem?_eq_some_iff.1 R5_3).1).trans R5_3
          have hne : W1.heap.size ≠ W3.heap.size := Nat.ne_of_lt (Array.getElem?_eq_some_iff.1 R5_3).1
          have hne2 : W3.heap.size ≠ W1.heap.size := hne.symm
          have O1_4 := O1_3.alloc (Obj.cells #[.int .i64 0, .slice none 0 0, .int .i64 0, .int .u32 0, .int .u64 0, .int .u64 0] 32)
          have k16 : ∀ r, (Value.slice B1 l.length d1).ownBlock = some r → r ≠ W3.heap.size := fun r e => Nat.ne_of_lt (O1_3.lt r e).2
          have O2_4 := O2_3.alloc (Obj.cells #[.int .i64 0, .slice none 0 0, .int .i64 0, .int .u32 0, .int .u64 0, .int .u64 0] 32)
          have k26 : ∀ r, (Value.slice B2 m.length d2).ownBlock = some r → r ≠ W3.heap.size := fun r e => Nat.ne_of_lt (O2_3.lt r e).2
          refine hK _ _ (HS.out _ hB4) ?_
          clear hK K hb4
          try simp only [Act.put, List.getElem_toArray, List.getElem_cons_succ, List.getElem_cons_zero, List.setIfInBounds_toArray, List.set_cons_zero, List.set_cons_succ]
          generalize W3.alloc (Obj.cells #[.int .i64 0, .slice none 0 0, .int .i64 0, .int .u32 0, .int .u64 0, .int .u64 0] 32) = W4 at hB4 R6_4 R5_4 O1_4 O2_4 ⊢
          refine held_one (i := 6) (by kernel_rfl) rfl (fun K hK => ?_)
          have y0 : W4.cell? ⟨W1.heap.size, 0, none⟩ = some (.int .i64 0) := cell_of_row _ _ _ _ _ _ R5_4
          have z0 : W4.frozen? ⟨W1.heap.size, 0, none⟩ = false := frozen_of_row _ _ _ _ _ R5_4
          have y1 : W4.cell? ⟨W1.heap.size, 1, none⟩ = some (.slice none 0 0) := cell_of_row _ _ _ _ _ _ R5_4
          have z1 : W4.frozen? ⟨W1.heap.size, 1, none⟩ = false := frozen_of_row _ _ _ _ _ R5_4
          have y2 : W4.cell? ⟨W1.heap.size, 2, none⟩ = some (.int .i64 0) := cell_of_row _ _ _ _ _ _ R5_4
          have z2 : W4.frozen? ⟨W1.heap.size, 2, none⟩ = false := frozen_of_row _ _ _ _ _ R5_4
          have y3 : W4.cell? ⟨W1.heap.size, 3, none⟩ = some (.int .u32 0) := cell_of_row _ _ _ _ _ _ R5_4
          have z3 : W4.frozen? ⟨W1.heap.size, 3, none⟩ = false := frozen_of_row _ _ _ _ _ R5_4
          have y4 : W4.cell? ⟨W1.heap.size, 4, none⟩ = some (.int .u64 0) := cell_of_row _ _ _ _ _ _ R5_4
          have z4 : W4.frozen? ⟨W1.heap.size, 4, none⟩ = false := frozen_of_row _ _ _ _ _ R5_4
          have y5 : W4.cell? ⟨W1.heap.size, 5, none⟩ = some (.int .u64 0) := cell_of_row _ _ _ _ _ _ R5_4
          have z5 : W4.frozen? ⟨W1.heap.size, 5, none⟩ = false := frozen_of_row _ _ _ _ _ R5_4
          go_simp
          have hB5 : Below w2.heap.size w2 ((((((W4.setCell ⟨W1.heap.size, 0, none⟩ (.int .i64 z)).setCell ⟨W1.heap.size, 1, none⟩ (.slice B1 l.length d1)).setCell ⟨W1.heap.size, 2, none⟩ (.int .i64 tl)).setCell ⟨W1.heap.size, 3, none⟩ (.int .u32 (sw : Nat))).setCell ⟨W1.heap.size, 4, none⟩ (.int .u64 (sh : Nat))).setCell ⟨W1.heap.size, 5, none⟩ (.int .u64 (slo : Nat))) := six_below (.int .i64 z) (.slice B1 l.length d1) (.int .i64 tl) (.int .u32 (sw : Nat)) (.int .u64 (sh : Nat)) (.int .u64 (slo : Nat)) hB4 L5
          have R5_5 : ((((((W4.setCell ⟨W1.heap.size, 0, none⟩ (.int .i64 z)).setCell ⟨W1.heap.size, 1, none⟩ (.slice B1 l.length d1)).setCell ⟨W1.heap.size, 2, none⟩ (.int .i64 tl)).setCell ⟨W1.heap.size, 3, none⟩ (.int .u32 (sw : Nat))).setCell ⟨W1.heap.size, 4, none⟩ (.int .u64 (sh : Nat))).setCell ⟨W1.heap.size, 5, none⟩ (.int .u64 (slo : Nat))).heap[W1.heap.size]? = some (.cells #[.int .i64 z, .slice B1 l.length d1, .int .i64 tl, .int .u32 (sw : Nat), .int .u64 (sh : Nat), .int .u64 (slo : Nat)] 32 (0, 0)) := six_row _ _ _ _ _ _ (.int .i64 z) (.slice B1 l.length d1) (.int .i64 tl) (.int .u32 (sw : Nat)) (.int .u64 (sh : Nat)) (.int .u64 (slo : Nat)) rfl R5_4
          have R6_5 := (six_other W4 (W1.heap.size) (W3.heap.size) (.int .i64 z) (.slice B1 l.length d1) (.int .i64 tl) (.int .u32 (sw : Nat)) (.int .u64 (sh : Nat)) (.int .u64 (slo : Nat)) (by first | exact hne | exact hne2)).trans R6_4
          change ((((((W4.setCell ⟨W1.heap.size, 0, none⟩ (.int .i64 z)).setCell ⟨W1.heap.size, 1, none⟩ (.slice B1 l.length d1)).setCell ⟨W1.heap.size, 2, none⟩ (.int .i64 tl)).setCell ⟨W1.heap.size, 3, none⟩ (.int .u32 (sw : Nat))).setCell ⟨W1.heap.size, 4, none⟩ (.int .u64 (sh : Nat))).setCell ⟨W1.heap.size, 5, none⟩ (.int .u64 (slo : Nat))).heap[_]? = _ at R6_5
          have O1_5 : ((((((W4.setCell ⟨W1.heap.size, 0, none⟩ (.int .i64 z)).setCell ⟨W1.heap.size, 1, none⟩ (.slice B1 l.length d1)).setCell ⟨W1.heap.size, 2, none⟩ (.int .i64 tl)).setCell ⟨W1.heap.size, 3, none⟩ (.int .u32 (sw : Nat))).setCell ⟨W1.heap.size, 4, none⟩ (.int .u64 (sh : Nat))).setCell ⟨W1.heap.size, 5, none⟩ (.int .u64 (slo : Nat))).ownsRow w2.heap.size 30 3 (Value.slice B1 l.length d1) l.length (cellsSg l) := six_own (.int .i64 z) (.slice B1 l.length d1) (.int .i64 tl) (.int .u32 (sw : Nat)) (.int .u64 (sh : Nat)) (.int .u64 (slo : Nat)) O1_4 k15
          have O2_5 : ((((((W4.setCell ⟨W1.heap.size, 0, none⟩ (.int .i64 z)).setCell ⟨W1.heap.size, 1, none⟩ (.slice B1 l.length d1)).setCell ⟨W1.heap.size, 2, none⟩ (.int .i64 tl)).setCell ⟨W1.heap.size, 3, none⟩ (.int .u32 (sw : Nat))).setCell ⟨W1.heap.size, 4, none⟩ (.int .u64 (sh : Nat))).setCell ⟨W1.heap.size, 5, none⟩ (.int .u64 (slo : Nat))).ownsRow w2.heap.size 30 3 (Value.slice B2 m.length d2) m.length (cellsSg m) := six_own (.int .i64 z) (.slice B1 l.length d1) (.int .i64 tl) (.int .u32 (sw : Nat)) (.int .u64 (sh : Nat)) (.int .u64 (slo : Nat)) O2_4 k25
          refine hK _ _ (HS.out _ hB5) ?_
          clear hK K y0 y1 y2 y3 y4 y5 z0 z1 z2 z3 z4 z5
          try simp only [Act.put, List.getElem_toArray, List.getElem_cons_succ, List.getElem_cons_zero, List.setIfInBounds_toArray, List.set_cons_zero, List.set_cons_succ]
          generalize ((((((W4.setCell ⟨W1.heap.size, 0, none⟩ (.int .i64 z)).setCell ⟨W1.heap.size, 1, none⟩ (.slice B1 l.length d1)).setCell ⟨W1.heap.size, 2, none⟩ (.int .i64 tl)).setCell ⟨W1.heap.size, 3, none⟩ (.int .u32 (sw : Nat))).setCell ⟨W1.heap.size, 4, none⟩ (.int .u64 (sh : Nat))).setCell ⟨W1.heap.size, 5, none⟩ (.int .u64 (slo : Nat))) = W5 at hB5 R5_5 R6_5 O1_5 O2_5 ⊢
          refine held_one (i := 7) (by kernel_rfl) rfl (fun K hK => ?_)
          have y0 : W5.cell? ⟨W3.heap.size, 0, none⟩ = some (.int .i64 0) := cell_of_row _ _ _ _ _ _ R6_5
          have z0 : W5.frozen? ⟨W3.heap.size, 0, none⟩ = false := frozen_of_row _ _ _ _ _ R6_5
          have y1 : W5.cell? ⟨W3.heap.size, 1, none⟩ = some (.slice none 0 0) := cell_of_row _ _ _ _ _ _ R6_5
          have z1 : W5.frozen? ⟨W3.heap.size, 1, none⟩ = false := frozen_of_row _ _ _ _ _ R6_5
          have y2 : W5.cell? ⟨W3.heap.size, 2, none⟩ = some (.int .i64 0) := cell_of_row _ _ _ _ _ _ R6_5
          have z2 : W5.frozen? ⟨W3.heap.size, 2, none⟩ = false := frozen_of_row _ _ _ _ _ R6_5
          have y3 : W5.cell? ⟨W3.heap.size, 3, none⟩ = some (.int .u32 0) := cell_of_row _ _ _ _ _ _ R6_5
          have z3 : W5.frozen? ⟨W3.heap.size, 3, none⟩ = false := frozen_of_row _ _ _ _ _ R6_5
          have y4 : W5.cell? ⟨W3.heap.size, 4, none⟩ = some (.int .u64 0) := cell_of_row _ _ _ _ _ _ R6_5
          have z4 : W5.frozen? ⟨W3.heap.size, 4, none⟩ = false := frozen_of_row _ _ _ _ _ R6_5
          have y5 : W5.cell? ⟨W3.heap.size, 5, none⟩ = some (.int .u64 0) := cell_of_row _ _ _ _ _ _ R6_5
          have z5 : W5.frozen? ⟨W3.heap.size, 5, none⟩ = false := frozen_of_row _ _ _ _ _ R6_5
          go_simp
          have hB6 : Below w2.heap.size w2 ((((((W5.setCell ⟨W3.heap.size, 0, none⟩ (.int .i64 z')).setCell ⟨W3.heap.size, 1, none⟩ (.slice B2 m.length d2)).setCell ⟨W3.heap.size, 2, none⟩ (.int .i64 tl')).setCell ⟨W3.heap.size, 3, none⟩ (.int .u32 (tw : Nat))).setCell ⟨W3.heap.size, 4, none⟩ (.int .u64 (th : Nat))).setCell ⟨W3.heap.size, 5, none⟩ (.int .u64 (tlo : Nat))) := six_below (.int .i64 z') (.slice B2 m.length d2) (.int .i64 tl') (.int .u32 (tw : Nat)) (.int .u64 (th : Nat)) (.int .u64 (tlo : Nat)) hB5 L6
          have R6_6 : ((((((W5.setCell ⟨W3.heap.size, 0, none⟩ (.int .i64 z')).setCell ⟨W3.heap.size, 1, none⟩ (.slice B2 m.length d2)).setCell ⟨W3.heap.size, 2, none⟩ (.int .i64 tl')).setCell ⟨W3.heap.size, 3, none⟩ (.int .u32 (tw : Nat))).setCell ⟨W3.heap.size, 4, none⟩ (.int .u64 (th : Nat))).setCell ⟨W3.heap.size, 5, none⟩ (.int .u64 (tlo : Nat))).heap[W3.heap.size]? = some (.cells #[.int .i64 z', .slice B2 m.length d2, .int .i64 tl', .int .u32 (tw : Nat), .int .u64 (th : Nat), .int .u64 (tlo : Nat)] 32 (0, 0)) := six_row _ _ _ _ _ _ (.int .i64 z') (.slice B2 m.length d2) (.int .i64 tl') (.int .u32 (tw : Nat)) (.int .u64 (th : Nat)) (.int .u64 (tlo : Nat)) rfl R6_5
          have R5_6 := (six_other W5 (W3.heap.size) (W1.heap.size) (.int .i64 z') (.slice B2 m.length d2) (.int .i64 tl') (.int .u32 (tw : Nat)) (.int .u64 (th : Nat)) (.int .u64 (tlo : Nat)) (by first | exact hne | exact hne2)).trans R5_5
          change ((((((W5.setCell ⟨W3.heap.size, 0, none⟩ (.int .i64 z')).setCell ⟨W3.heap.size, 1, none⟩ (.slice B2 m.length d2)).setCell ⟨W3.heap.size, 2, none⟩ (.int .i64 tl')).setCell ⟨W3.heap.size, 3, none⟩ (.int .u32 (tw : Nat))).setCell ⟨W3.heap.size, 4, none⟩ (.int .u64 (th : Nat))).setCell ⟨W3.heap.size, 5, none⟩ (.int .u64 (tlo : Nat))).heap[_]? = _ at R5_6
          have O1_6 : ((((((W5.setCell ⟨W3.heap.size, 0, none⟩ (.int .i64 z')).setCell ⟨W3.heap.size, 1, none⟩ (.slice B2 m.length d2)).setCell ⟨W3.heap.size, 2, none⟩ (.int .i64 tl')).setCell ⟨W3.heap.size, 3, none⟩ (.int .u32 (tw : Nat))).setCell ⟨W3.heap.size, 4, none⟩ (.int .u64 (th : Nat))).setCell ⟨W3.heap.size, 5, none⟩ (.int .u64 (tlo : Nat))).ownsRow w2.heap.size 30 3 (Value.slice B1 l.length d1) l.length (cellsSg l) := six_own (.int .i64 z') (.slice B2 m.length d2) (.int .i64 tl') (.int .u32 (tw : Nat)) (.int .u64 (th : Nat)) (.int .u64 (tlo : Nat)) O1_5 k16
          have O2_6 : ((((((W5.setCell ⟨W3.heap.size, 0, none⟩ (.int .i64 z')).setCell ⟨W3.heap.size, 1, none⟩ (.slice B2 m.length d2)).setCell ⟨W3.heap.size, 2, none⟩ (.int .i64 tl')).setCell ⟨W3.heap.size, 3, none⟩ (.int .u32 (tw : Nat))).setCell ⟨W3.heap.size, 4, none⟩ (.int .u64 (th : Nat))).setCell ⟨W3.heap.size, 5, none⟩ (.int .u64 (tlo : Nat))).ownsRow w2.heap.size 30 3 (Value.slice B2 m.length d2) m.length (cellsSg m) := six_own (.int .i64 z') (.slice B2 m.length d2) (.int .i64 tl') (.int .u32 (tw : Nat)) (.int .u64 (th : Nat)) (.int .u64 (tlo : Nat)) O2_5 k26
          refine hK _ _ (HS.out _ hB6) ?_
          clear hK K y0 y1 y2 y3 y4 y5 z0 z1 z2 z3 z4 z5
          try simp only [Act.put, List.getElem_toArray, List.getElem_cons_succ, List.getElem_cons_zero, List.setIfInBounds_toArray, List.set_cons_zero, List.set_cons_succ]
          generalize ((((((W5.setCell ⟨W3.heap.size, 0, none⟩ (.int .i64 z')).setCell ⟨W3.heap.size, 1, none⟩ (.slice B2 m.length d2)).setCell ⟨W3.heap.size, 2, none⟩ (.int .i64 tl')).setCell ⟨W3.heap.size, 3, none⟩ (.int .u32 (tw : Nat))).setCell ⟨W3.heap.size, 4, none⟩ (.int .u64 (th : Nat))).setCell ⟨W3.heap.size, 5, none⟩ (.int .u64 (tlo : Nat))) = W6 at hB6 R5_6 R6_6 O1_6 O2_6 ⊢
          refine wpAnyH_done (by kernel_rfl) ?_ _
          go_wp2_with fail
          go_meet
          case rel => exact ⟨_, _, B1, d1, B2, d2, rfl, rfl, hide ⟨hB6, R5_6, R6_6, RdSg.own O1_6, RdSg.own O2_6⟩⟩
        · go_simp
          have hb3 := (Below.refl W2.heap.size W2).alloc (Nat.le_refl _) (Obj.cells #[.int .i64 0, .slice none 0 0, .int .i64 0, .int .u32 0, .int .u64 0, .int .u64 0] 32)
          have hB3 := hB2.trans (hb3.mono hB2.size)
          have R6_3 := World.alloc_heap_new W2 (Obj.cells #[.int .i64 0, .slice none 0 0, .int .i64 0, .int .u32 0, .int .u64 0, .int .u64 0] 32)
          have L6 := hB2.size
          have R5_3 := (hb3.block _ (Array.getElem?_eq_some_iff.1 R5_2).1).trans R5_2
          have hne : W1.heap.size ≠ W2.heap.size := Nat.ne_of_lt (Array.getElem?_eq_some_iff.1 R5_2).1
          have hne2 : W2.heap.size ≠ W1.heap.size := hne.symm
          have O1_3 := O1_2.alloc (Obj.cells #[.int .i64 0, .slice none 0 0, .int .i64 0, .int .u32 0, .int .u64 0, .int .u64 0] 32)
          have k16 : ∀ r, (Value.slice B1 l.length d1).ownBlock = some r → r ≠ W2.heap.size := fun r e => Nat.ne_of_lt (O1_2.lt r e).2
          refine hK _ _ (HS.out _ hB3) ?_
          clear hK K hb3
          try simp only [Act.put, List.getElem_toArray, List.getElem_cons_succ, List.getElem_cons_zero, List.setIfInBounds_toArray, List.set_cons_zero, List.set_cons_succ]
          generalize W2.alloc (Obj.cells #[.int .i64 0, .slice none 0 0, .int .i64 0, .int .u32 0, .int .u64 0, .int .u64 0] 32) = W3 at hB3 R6_3 R5_3 O1_3 ⊢
          refine held_one (i := 3) (by kernel_rfl) rfl (fun K hK => ?_)
          go_simp
          refine (HT2.out _ hB3).mono ?_
          rintro en W4 ⟨B2, d2, rfl, hI⟩
          have hb4 := hI.below
          have hB4 := hB3.trans (hb4.mono hB3.size)
          have O2_4 := ownsRow_lowerSg (base' := w2.heap.size) hI.own hB3.size
          have R5_4 := (hb4.block _ (Array.getElem?_eq_some_iff.1 R5_3).1).trans R5_3
          have k25 : ∀ r, (Value.slice B2 m.length d2).ownBlock = some r → r ≠ W1.heap.size := fun r e => (Nat.ne_of_lt (Nat.lt_of_lt_of_le (Array.getElem?_eq_some_iff.1 R5_3).1 (hI.own.lt r e).1)).symm
          have R6_4 := (hb4.block _ (Array.getElem?_eq_some_iff.1 R6_3).1).trans R6_3
          have k26 : ∀ r, (Value.slice B2 m.length d2).ownBlock = some r → r ≠ W2.heap.size := fun r e => (Nat.ne_of_lt (Nat.lt_of_lt_of_le (Array.getElem?_eq_some_iff.1 R6_3).1 (hI.own.lt r e).1)).symm
          have O1_4 := own_below O1_3 hb4
          refine hK _ _ (HS.out _ hB4) ?_
          clear hK K hb4 hI
          try simp only [Act.put, List.getElem_toArray, List.getElem_cons_succ, List.getElem_cons_zero, List.setIfInBounds_toArray, List.set_cons_zero, List.set_cons_succ]
          refine held_one (i := 6) (by kernel_rfl) rfl (fun K hK => ?_)
          have y0 : W4.cell? ⟨W1.heap.size, 0, none⟩ = some (.int .i64 0) := cell_of_row _ _ _ _ _ _ R5_4
          have z0 : W4.frozen? ⟨W1.heap.size, 0, none⟩ = false := frozen_of_row _ _ _ _ _ R5_4
          have y1 : W4.cell? ⟨W1.heap.size, 1, none⟩ = some (.slice none 0 0) := cell_of_row _ _ _ _ _ _ R5_4
          have z1 : W4.frozen? ⟨W1.heap.size, 1, none⟩ = false := frozen_of_row _ _ _ _ _ R5_4
          have y2 : W4.cell? ⟨W1.heap.size, 2, none⟩ = some (.int .i64 0) := cell_of_row _ _ _ _ _ _ R5_4
          have z2 : W4.frozen? ⟨W1.heap.size, 2, none⟩ = false := frozen_of_row _ _ _ _ _ R5_4
          have y3 : W4.cell? ⟨W1.heap.size, 3, none⟩ = some (.int .u32 0) := cell_of_row _ _ _ _ _ _ R5_4
          have z3 : W4.frozen? ⟨W1.heap.size, 3, none⟩ = false := frozen_of_row _ _ _ _ _ R5_4
          have y4 : W4.cell? ⟨W1.heap.size, 4, none⟩ = some (.int .u64 0) := cell_of_row _ _ _ _ _ _ R5_4
          have z4 : W4.frozen? ⟨W1.heap.size, 4, none⟩ = false := frozen_of_row _ _ _ _ _ R5_4
          have y5 : W4.cell? ⟨W1.heap.size, 5, none⟩ = some (.int .u64 0) := cell_of_row _ _ _ _ _ _ R5_4
          have z5 : W4.frozen? ⟨W1.heap.size, 5, none⟩ = false := frozen_of_row _ _ _ _ _ R5_4
          go_simp
          have hB5 : Below w2.heap.size w2 ((((((W4.setCell ⟨W1.heap.size, 0, none⟩ (.int .i64 z)).setCell ⟨W1.heap.size, 1, none⟩ (.slice B1 l.length d1)).setCell ⟨W1.heap.size, 2, none⟩ (.int .i64 tl)).setCell ⟨W1.heap.size, 3, none⟩ (.int .u32 (sw : Nat))).setCell ⟨W1.heap.size, 4, none⟩ (.int .u64 (sh : Nat))).setCell ⟨W1.heap.size, 5, none⟩ (.int .u64 (slo : Nat))) := six_below (.int .i64 z) (.slice B1 l.length d1) (.int .i64 tl) (.int .u32 (sw : Nat)) (.int .u64 (sh : Nat)) (.int .u64 (slo : Nat)) hB4 L5
          have R5_5 : ((((((W4.setCell ⟨W1.heap.size, 0, none⟩ (.int .i64 z)).setCell ⟨W1.heap.size, 1, none⟩ (.slice B1 l.length d1)).setCell ⟨W1.heap.size, 2, none⟩ (.int .i64 tl)).setCell ⟨W1.heap.size, 3, none⟩ (.int .u32 (sw : Nat))).setCell ⟨W1.heap.size, 4, none⟩ (.int .u64 (sh : Nat))).setCell ⟨W1.heap.size, 5, none⟩ (.int .u64 (slo : Nat))).heap[W1.heap.size]? = some (.cells #[.int .i64 z, .slice B1 l.length d1, .int .i64 tl, .int .u32 (sw : Nat), .int .u64 (sh : Nat), .int .u64 (slo : Nat)] 32 (0, 0)) := six_row _ _ _ _ _ _ (.int .i64 z) (.slice B1 l.length d1) (.int .i64 tl) (.int .u32 (sw : Nat)) (.int .u64 (sh : Nat)) (.int .u64 (slo : Nat)) rfl R5_4
          have R6_5 := (six_other W4 (W1.heap.size) (W2.heap.size) (.int .i64 z) (.slice B1 l.length d1) (.int .i64 tl) (.int .u32 (sw : Nat)) (.int .u64 (sh : Nat)) (.int .u64 (slo : Nat)) (by first | exact hne | exact hne2)).trans R6_4
          change ((((((W4.setCell ⟨W1.heap.size, 0, none⟩ (.int .i64 z)).setCell ⟨W1.heap.size, 1, none⟩ (.slice B1 l.length d1)).setCell ⟨W1.heap.size, 2, none⟩ (.int .i64 tl)).setCell ⟨W1.heap.size, 3, none⟩ (.int .u32 (sw : Nat))).setCell ⟨W1.heap.size, 4, none⟩ (.int .u64 (sh : Nat))).setCell ⟨W1.heap.size, 5, none⟩ (.int .u64 (slo : Nat))).heap[_]? = _ at R6_5
          have O1_5 : ((((((W4.setCell ⟨W1.heap.size, 0, none⟩ (.int .i64 z)).setCell ⟨W1.heap.size, 1, none⟩ (.slice B1 l.length d1)).setCell ⟨W1.heap.size, 2, none⟩ (.int .i64 tl)).setCell ⟨W1.heap.size, 3, none⟩ (.int .u32 (sw : Nat))).setCell ⟨W1.heap.size, 4, none⟩ (.int .u64 (sh : Nat))).setCell ⟨W1.heap.size, 5, none⟩ (.int .u64 (slo : Nat))).ownsRow w2.heap.size 30 3 (Value.slice B1 l.length d1) l.length (cellsSg l) := six_own (.int .i64 z) (.slice B1 l.length d1) (.int .i64 tl) (.int .u32 (sw : Nat)) (.int .u64 (sh : Nat)) (.int .u64 (slo : Nat)) O1_4 k15
          have O2_5 : ((((((W4.setCell ⟨W1.heap.size, 0, none⟩ (.int .i64 z)).setCell ⟨W1.heap.size, 1, none⟩ (.slice B1 l.length d1)).setCell ⟨W1.heap.size, 2, none⟩ (.int .i64 tl)).setCell ⟨W1.heap.size, 3, none⟩ (.int .u32 (sw : Nat))).setCell ⟨W1.heap.size, 4, none⟩ (.int .u64 (sh : Nat))).setCell ⟨W1.heap.size, 5, none⟩ (.int .u64 (slo : Nat))).ownsRow w2.heap.size 30 3 (Value.slice B2 m.length d2) m.length (cellsSg m) := six_own (.int .i64 z) (.slice B1 l.length d1) (.int .i64 tl) (.int .u32 (sw : Nat)) (.int .u64 (sh : Nat)) (.int .u64 (slo : Nat)) O2_4 k25
          refine hK _ _ (HS.out _ hB5) ?_
          clear hK K y0 y1 y2 y3 y4 y5 z0 z1 z2 z3 z4 z5
          try simp only [Act.put, List.getElem_toArray, List.getElem_cons_succ, List.getElem_cons_zero, List.setIfInBounds_toArray, List.set_cons_zero, List.set_cons_succ]
          generalize ((((((W4.setCell ⟨W1.heap.size, 0, none⟩ (.int .i64 z)).setCell ⟨W1.heap.size, 1, none⟩ (.slice B1 l.length d1)).setCell ⟨W1.heap.size, 2, none⟩ (.int .i64 tl)).setCell ⟨W1.heap.size, 3, none⟩ (.int .u32 (sw : Nat))).setCell ⟨W1.heap.size, 4, none⟩ (.int .u64 (sh : Nat))).setCell ⟨W1.heap.size, 5, none⟩ (.int .u64 (slo : Nat))) = W5 at hB5 R5_5 R6_5 O1_5 O2_5 ⊢
          refine held_one (i := 7) (by kernel_rfl) rfl (fun K hK => ?_)
          have y0 : W5.cell? ⟨W2.heap.size, 0, none⟩ = some (.int .i64 0) := cell_of_row _ _ _ _ _ _ R6_5
          have z0 : W5.frozen? ⟨W2.heap.size, 0, none⟩ = false := frozen_of_row _ _ _ _ _ R6_5
          have y1 : W5.cell? ⟨W2.heap.size, 1, none⟩ = some (.slice none 0 0) := cell_of_row _ _ _ _ _ _ R6_5
          have z1 : W5.frozen? ⟨W2.heap.size, 1, none⟩ = false := frozen_of_row _ _ _ _ _ R6_5
          have y2 : W5.cell? ⟨W2.heap.size, 2, none⟩ = some (.int .i64 0) := cell_of_row _ _ _ _ _ _ R6_5
          have z2 : W5.frozen? ⟨W2.heap.size, 2, none⟩ = false := frozen_of_row _ _ _ _ _ R6_5
          have y3 : W5.cell? ⟨W2.heap.size, 3, none⟩ = some (.int .u32 0) := cell_of_row _ _ _ _ _ _ R6_5
          have z3 : W5.frozen? ⟨W2.heap.size, 3, none⟩ = false := frozen_of_row _ _ _ _ _ R6_5
          have y4 : W5.cell? ⟨W2.heap.size, 4, none⟩ = some (.int .u64 0) := cell_of_row _ _ _ _ _ _ R6_5
          have z4 : W5.frozen? ⟨W2.heap.size, 4, none⟩ = false := frozen_of_row _ _ _ _ _ R6_5
          have y5 : W5.cell? ⟨W2.heap.size, 5, none⟩ = some (.int .u64 0) := cell_of_row _ _ _ _ _ _ R6_5
          have z5 : W5.frozen? ⟨W2.heap.size, 5, none⟩ = false := frozen_of_row _ _ _ _ _ R6_5
          go_simp
          have hB6 : Below w2.heap.size w2 ((((((W5.setCell ⟨W2.heap.size, 0, none⟩ (.int .i64 z')).setCell ⟨W2.heap.size, 1, none⟩ (.slice B2 m.length d2)).setCell ⟨W2.heap.size, 2, none⟩ (.int .i64 tl')).setCell ⟨W2.heap.size, 3, none⟩ (.int .u32 (tw : Nat))).setCell ⟨W2.heap.size, 4, none⟩ (.int .u64 (th : Nat))).setCell ⟨W2.heap.size, 5, none⟩ (.int .u64 (tlo : Nat))) := six_below (.int .i64 z') (.slice B2 m.length d2) (.int .i64 tl') (.int .u32 (tw : Nat)) (.int .u64 (th : Nat)) (.int .u64 (tlo : Nat)) hB5 L6
          have R6_6 : ((((((W5.setCell ⟨W2.heap.size, 0, none⟩ (.int .i64 z')).setCell ⟨W2.heap.size, 1, none⟩ (.slice B2 m.length d2)).setCell ⟨W2.heap.size, 2, none⟩ (.int .i64 tl')).setCell ⟨W2.heap.size, 3, none⟩ (.int .u32 (tw : Nat))).setCell ⟨W2.heap.size, 4, none⟩ (.int .u64 (th : Nat))).setCell ⟨W2.heap.size, 5, none⟩ (.int .u64 (tlo : Nat))).heap[W2.heap.size]? = some (.cells #[.int .i64 z', .slice B2 m.length d2, .int .i64 tl', .int .u32 (tw : Nat), .int .u64 (th : Nat), .int .u64 (tlo : Nat)] 32 (0, 0)) := six_row _ _ _ _ _ _ (.int .i64 z') (.slice B2 m.length d2) (.int .i64 tl') (.int .u32 (tw : Nat)) (.int .u64 (th : Nat)) (.int .u64 (tlo : Nat)) rfl R6_5
          have R5_6 := (six_other W5 (W2.heap.size) (W1.heap.size) (.int .i64 z') (.slice B2 m.length d2) (.int .i64 tl') (.int .u32 (tw : Nat)) (.int .u64 (th : Nat)) (.int .u64 (tlo : Nat)) (by first | exact hne | exact hne2)).trans R5_5
          change ((((((W5.setCell ⟨W2.heap.size, 0, none⟩ (.int .i64 z')).setCell ⟨W2.heap.size, 1, none⟩ (.slice B2 m.length d2)).setCell ⟨W2.heap.size, 2, none⟩ (.int .i64 tl')).setCell ⟨W2.heap.size, 3, none⟩ (.int .u32 (tw : Nat))).setCell ⟨W2.heap.size, 4, none⟩ (.int .u64 (th : Nat))).setCell ⟨W2.heap.size, 5, none⟩ (.int .u64 (tlo : Nat))).heap[_]? = _ at R5_6
          have O1_6 : ((((((W5.setCell ⟨W2.heap.size, 0, none⟩ (.int .i64 z')).setCell ⟨W2.heap.size, 1, none⟩ (.slice B2 m.length d2)).setCell ⟨W2.heap.size, 2, none⟩ (.int .i64 tl')).setCell ⟨W2.heap.size, 3, none⟩ (.int .u32 (tw : Nat))).setCell ⟨W2.heap.size, 4, none⟩ (.int .u64 (th : Nat))).setCell ⟨W2.heap.size, 5, none⟩ (.int .u64 (tlo : Nat))).ownsRow w2.heap.size 30 3 (Value.slice B1 l.length d1) l.length (cellsSg l) := six_own (.int .i64 z') (.slice B2 m.length d2) (.int .i64 tl') (.int .u32 (tw : Nat)) (.int .u64 (th : Nat)) (.int .u64 (tlo : Nat)) O1_5 k16
          have O2_6 : ((((((W5.setCell ⟨W2.heap.size, 0, none⟩ (.int .i64 z')).setCell ⟨W2.heap.size, 1, none⟩ (.slice B2 m.length d2)).setCell ⟨W2.heap.size, 2, none⟩ (.int .i64 tl')).setCell ⟨W2.heap.size, 3, none⟩ (.int .u32 (tw : Nat))).setCell ⟨W2.heap.size, 4, none⟩ (.int .u64 (th : Nat))).setCell ⟨W2.heap.size, 5, none⟩ (.int .u64 (tlo : Nat))).ownsRow w2.heap.size 30 3 (Value.slice B2 m.length d2) m.length (cellsSg m) := six_own (.int .i64 z') (.slice B2 m.length d2) (.int .i64 tl') (.int .u32 (tw : Nat)) (.int .u64 (th : Nat)) (.int .u64 (tlo : Nat)) O2_5 k26
          refine hK _ _ (HS.out _ hB6) ?_
          clear hK K y0 y1 y2 y3 y4 y5 z0 z1 z2 z3 z4 z5
          try simp only [Act.put, List.getElem_toArray, List.getElem_cons_succ, List.getElem_cons_zero, List.setIfInBounds_toArray, List.set_cons_zero, List.set_cons_succ]
          generalize ((((((W5.setCell ⟨W2.heap.size, 0, none⟩ (.int .i64 z')).setCell ⟨W2.heap.size, 1, none⟩ (.slice B2 m.length d2)).setCell ⟨W2.heap.size, 2, none⟩ (.int .i64 tl')).setCell ⟨W2.heap.size, 3, none⟩ (.int .u32 (tw : Nat))).setCell ⟨W2.heap.size, 4, none⟩ (.int .u64 (th : Nat))).setCell ⟨W2.heap.size, 5, none⟩ (.int .u64 (tlo : Nat))) = W6 at hB6 R5_6 R6_6 O1_6 O2_6 ⊢
          refine wpAnyH_done (by kernel_rfl) ?_ _
          go_wp2_with fail
          go_meet
          case rel => exact ⟨_, _, B1, d1, B2, d2, rfl, rfl, hide ⟨hB6, R5_6, R6_6, RdSg.own O1_6, RdSg.own O2_6⟩⟩
      · go_simp
        have hb2 := (Below.refl W1.heap.size W1).alloc (Nat.le_refl _) (Obj.cells #[.int .i64 0, .slice none 0 0, .int .i64 0, .int .u32 0, .int .u64 0, .int .u64 0] 32)
        have hB2 := hB1.trans (hb2.mono hB1.size)
        have R6_2 := World.alloc_heap_new W1 (Obj.cells #[.int .i64 0, .slice none 0 0, .int .i64 0, .int .u32 0, .int .u64 0, .int .u64 0] 32)
        have L6 := hB1.size
        have O1_2 := O1_1.alloc (Obj.cells #[.int .i64 0, .slice none 0 0, .int .i64 0, .int .u32 0, .int .u64 0, .int .u64 0] 32)
        have k16 : ∀ r, (Value.slice B1 l.length d1).ownBlock = some r → r ≠ W1.heap.size := fun r e => Nat.ne_of_lt (O1_1.lt r e).2
        refine hK _ _ (HS.out _ hB2) ?_
        clear hK K hb2
        try simp only [Act.put, List.getElem_toArray, List.getElem_cons_succ, List.getElem_cons_zero, List.setIfInBounds_toArray, List.set_cons_zero, List.set_cons_succ]
        generalize W1.alloc (Obj.cells #[.int .i64 0, .slice none 0 0, .int .i64 0, .int .u32 0, .int .u64 0, .int .u64 0] 32) = W2 at hB2 R6_2 O1_2 ⊢
        refine held_two (i := 3) (k := 4) (by kernel_rfl) rfl rfl (fun K hK => ?_) (fun K hK => ?_)
        · go_simp
          refine (HT2.out _ hB2).mono ?_
          rintro en W3 ⟨B2, d2, rfl, hI⟩
          have hb3 := hI.below
          have hB3 := hB2.trans (hb3.mono hB2.size)
          have O2_3 := ownsRow_lowerSg (base' := w2.heap.size) hI.own hB2.size
          have R6_3 := (hb3.block _ (Array.getElem?_eq_some_iff.1 R6_2).1).trans R6_2
          have k26 : ∀ r, (Value.slice B2 m.length d2).ownBlock = some r → r ≠ W1.heap.size := fun r e => (Nat.ne_of_lt (Nat.lt_of_lt_of_le (Array.getElem?_eq_some_iff.1 R6_2).1 (hI.own.lt r e).1)).symm
          have O1_3 := own_below O1_2 hb3
          refine hK _ _ (HS.out _ hB3) ?_
          clear hK K hb3 hI
          try simp only [Act.put, List.getElem_toArray, List.getElem_cons_succ, List.getElem_cons_zero, List.setIfInBounds_toArray, List.set_cons_zero, List.set_cons_succ]
          refine held_one (i := 4) (by kernel_rfl) rfl (fun K hK => ?_)
          go_simp
          have hb4 := (Below.refl W3.heap.size W3).alloc (Nat.le_refl _) (Obj.cells #[.int .i64 0, .slice none 0 0, .int .i64 0, .int .u32 0, .int .u64 0, .int .u64 0] 32)
          have hB4 := hB3.trans (hb4.mono hB3.size)
          have R5_4 := World.alloc_heap_new W3 (Obj.cells #[.int .i64 0, .slice none 0 0, .int .i64 0, .int .u32 0, .int .u64 0, .int .u64 0] 32)
          have L5 := hB3.size
          have R6_4 := (hb4.block _ (Array.getElem?_eq_some_iff.1 R6_3).1).trans R6_3
          have hne : W1.heap.size ≠ W3.heap.size := Nat.ne_of_lt (Array.getElem?_eq_some_iff.1 R6_3).1
          have hne2 : W3.heap.size ≠ W1.heap.size := hne.symm
          have O1_4 := O1_3.alloc (Obj.cells #[.int .i64 0, .slice none 0 0, .int .i64 0, .int .u32 0, .int .u64 0, .int .u64 0] 32)
          have k15 : ∀ r, (Value.slice B1 l.length d1).ownBlock = some r → r ≠ W3.heap.size := fun r e => Nat.ne_of_lt (O1_3.lt r e).2
          have O2_4 := O2_3.alloc (Obj.cells #[.int .i64 0, .slice none 0 0, .int .i64 0, .int .u32 0, .int .u64 0, .int .u64 0] 32)
          have k25 : ∀ r, (Value.slice B2 m.length d2).ownBlock = some r → r ≠ W3.heap.size := fun r e => Nat.ne_of_lt (O2_3.lt r e).2
          refine hK _ _ (HS.out _ hB4) ?_
          clear hK K hb4
          try simp only [Act.put, List.getElem_toArray, List.getElem_cons_succ, List.getElem_cons_zero, List.setIfInBounds_toArray, List.set_cons_zero, List.set_cons_succ]
          generalize W3.alloc (Obj.cells #[.int .i64 0, .slice none 0 0, .int .i64 0, .int .u32 0, .int .u64 0, .int .u64 0] 32) = W4 at hB4 R5_4 R6_4 O1_4 O2_4 ⊢
          refine held_one (i := 6) (by kernel_rfl) rfl (fun K hK => ?_)
          have y0 : W4.cell? ⟨W3.heap.size, 0, none⟩ = some (.int .i64 0) := cell_of_row _ _ _ _ _ _ R5_4
          have z0 : W4.frozen? ⟨W3.heap.size, 0, none⟩ = false := frozen_of_row _ _ _ _ _ R5_4
          have y1 : W4.cell? ⟨W3.heap.size, 1, none⟩ = some (.slice none 0 0) := cell_of_row _ _ _ _ _ _ R5_4
          have z1 : W4.frozen? ⟨W3.heap.size, 1, none⟩ = false := frozen_of_row _ _ _ _ _ R5_4
          have y2 : W4.cell? ⟨W3.heap.size, 2, none⟩ = some (.int .i64 0) := cell_of_row _ _ _ _ _ _ R5_4
          have z2 : W4.frozen? ⟨W3.heap.size, 2, none⟩ = false := frozen_of_row _ _ _ _ _ R5_4
          have y3 : W4.cell? ⟨W3.heap.size, 3, none⟩ = some (.int .u32 0) := cell_of_row _ _ _ _ _ _ R5_4
          have z3 : W4.frozen? ⟨W3.heap.size, 3, none⟩ = false := frozen_of_row _ _ _ _ _ R5_4
          have y4 : W4.cell? ⟨W3.heap.size, 4, none⟩ = some (.int .u64 0) := cell_of_row _ _ _ _ _ _ R5_4
          have z4 : W4.frozen? ⟨W3.heap.size, 4, none⟩ = false := frozen_of_row _ _ _ _ _ R5_4
          have y5 : W4.cell? ⟨W3.heap.size, 5, none⟩ = some (.int .u64 0) := cell_of_row _ _ _ _ _ _ R5_4
          have z5 : W4.frozen? ⟨W3.heap.size, 5, none⟩ = false := frozen_of_row _ _ _ _ _ R5_4
          go_simp
          have hB5 : Below w2.heap.size w2 ((((((W4.setCell ⟨W3.heap.size, 0, none⟩ (.int .i64 z)).setCell ⟨W3.heap.size, 1, none⟩ (.slice B1 l.length d1)).setCell ⟨W3.heap.size, 2, none⟩ (.int .i64 tl)).setCell ⟨W3.heap.size, 3, none⟩ (.int .u32 (sw : Nat))).setCell ⟨W3.heap.size, 4, none⟩ (.int .u64 (sh : Nat))).setCell ⟨W3.heap.size, 5, none⟩ (.int .u64 (slo : Nat))) := six_below (.int .i64 z) (.slice B1 l.length d1) (.int .i64 tl) (.int .u32 (sw : Nat)) (.int .u64 (sh : Nat)) (.int .u64 (slo : Nat)) hB4 L5
          have R5_5 : ((((((W4.setCell ⟨W3.heap.size, 0, none⟩ (.int .i64 z)).setCell ⟨W3.heap.size, 1, none⟩ (.slice B1 l.length d1)).setCell ⟨W3.heap.size, 2, none⟩ (.int .i64 tl)).setCell ⟨W3.heap.size, 3, none⟩ (.int .u32 (sw : Nat))).setCell ⟨W3.heap.size, 4, none⟩ (.int .u64 (sh : Nat))).setCell ⟨W3.heap.size, 5, none⟩ (.int .u64 (slo : Nat))).heap[W3.heap.size]? = some (.cells #[.int .i64 z, .slice B1 l.length d1, .int .i64 tl, .int .u32 (sw : Nat), .int .u64 (sh : Nat), .int .u64 (slo : Nat)] 32 (0, 0)) := six_row _ _ _ _ _ _ (.int .i64 z) (.slice B1 l.length d1) (.int .i64 tl) (.int .u32 (sw : Nat)) (.int .u64 (sh : Nat)) (.int .u64 (slo : Nat)) rfl R5_4
          have R6_5 := (six_other W4 (W3.heap.size) (W1.heap.size) (.int .i64 z) (.slice B1 l.length d1) (.int .i64 tl) (.int .u32 (sw : Nat)) (.int .u64 (sh : Nat)) (.int .u64 (slo : Nat)) (by first | exact hne | exact hne2)).trans R6_4
          change ((((((W4.setCell ⟨W3.heap.size, 0, none⟩ (.int .i64 z)).setCell ⟨W3.heap.size, 1, none⟩ (.slice B1 l.length d1)).setCell ⟨W3.heap.size, 2, none⟩ (.int .i64 tl)).setCell ⟨W3.heap.size, 3, none⟩ (.int .u32 (sw : Nat))).setCell ⟨W3.heap.size, 4, none⟩ (.int .u64 (sh : Nat))).setCell ⟨W3.heap.size, 5, none⟩ (.int .u64 (slo : Nat))).heap[_]? = _ at R6_5
          have O1_5 : ((((((W4.setCell ⟨W3.heap.size, 0, none⟩ (.int .i64 z)).setCell ⟨W3.heap.size, 1, none⟩ (.slice B1 l.length d1)).setCell ⟨W3.heap.size, 2, none⟩ (.int .i64 tl)).setCell ⟨W3.heap.size, 3, none⟩ (.int .u32 (sw : Nat))).setCell ⟨W3.heap.size, 4, none⟩ (.int .u64 (sh : Nat))).setCell ⟨W3.heap.size, 5, none⟩ (.int .u64 (slo : Nat))).ownsRow w2.heap.size 30 3 (Value.slice B1 l.length d1) l.length (cellsSg l) := six_own (.int .i64 z) (.slice B1 l.length d1) (.int .i64 tl) (.int .u32 (sw : Nat)) (.int .u64 (sh : Nat)) (.int .u64 (slo : Nat)) O1_4 k15
          have O2_5 : ((((((W4.setCell ⟨W3.heap.size, 0, none⟩ (.int .i64 z)).setCell ⟨W3.heap.size, 1, none⟩ (.slice B1 l.length d1)).setCell ⟨W3.heap.size, 2, none⟩ (.int .i64 tl)).setCell ⟨W3.heap.size, 3, none⟩ (.int .u32 (sw : Nat))).setCell ⟨W3.heap.size, 4, none⟩ (.int .u64 (sh : Nat))).setCell ⟨W3.heap.size, 5, none⟩ (.int .u64 (slo : Nat))).ownsRow w2.heap.size 30 3 (Value.slice B2 m.length d2) m.length (cellsSg m) := six_own (.int .i64 z) (.slice B1 l.length d1) (.int .i64 tl) (.int .u32 (sw : Nat)) (.int .u64 (sh : Nat)) (.int .u64 (slo : Nat)) O2_4 k25
          refine hK _ _ (HS.out _ hB5) ?_
          clear hK K y0 y1 y2 y3 y4 y5 z0 z1 z2 z3 z4 z5
          try simp only [Act.put, List.getElem_toArray, List.getElem_cons_succ, List.getElem_cons_zero, List.setIfInBounds_toArray, List.set_cons_zero, List.set_cons_succ]
          generalize ((((((W4.setCell ⟨W3.heap.size, 0, none⟩ (.int .i64 z)).setCell ⟨W3.heap.size, 1, none⟩ (.slice B1 l.length d1)).setCell ⟨W3.heap.size, 2, none⟩ (.int .i64 tl)).setCell ⟨W3.heap.size, 3, none⟩ (.int .u32 (sw : Nat))).setCell ⟨W3.heap.size, 4, none⟩ (.int .u64 (sh : Nat))).setCell ⟨W3.heap.size, 5, none⟩ (.int .u64 (slo : Nat))) = W5 at hB5 R5_5 R6_5 O1_5 O2_5 ⊢
          refine held_one (i := 7) (by kernel_rfl) rfl (fun K hK => ?_)
          have y0 : W5.cell? ⟨W1.heap.size, 0, none⟩ = some (.int .i64 0) := cell_of_row _ _ _ _ _ _ R6_5
          have z0 : W5.frozen? ⟨W1.heap.size, 0, none⟩ = false := frozen_of_row _ _ _ _ _ R6_5
          have y1 : W5.cell? ⟨W1.heap.size, 1, none⟩ = some (.slice none 0 0) := cell_of_row _ _ _ _ _ _ R6_5
          have z1 : W5.frozen? ⟨W1.heap.size, 1, none⟩ = false := frozen_of_row _ _ _ _ _ R6_5
          have y2 : W5.cell? ⟨W1.heap.size, 2, none⟩ = some (.int .i64 0) := cell_of_row _ _ _ _ _ _ R6_5
          have z2 : W5.frozen? ⟨W1.heap.size, 2, none⟩ = false := frozen_of_row _ _ _ _ _ R6_5
          have y3 : W5.cell? ⟨W1.heap.size, 3, none⟩ = some (.int .u32 0) := cell_of_row _ _ _ _ _ _ R6_5
          have z3 : W5.frozen? ⟨W1.heap.size, 3, none⟩ = false := frozen_of_row _ _ _ _ _ R6_5
          have y4 : W5.cell? ⟨W1.heap.size, 4, none⟩ = some (.int .u64 0) := cell_of_row _ _ _ _ _ _ R6_5
          have z4 : W5.frozen? ⟨W1.heap.size, 4, none⟩ = false := frozen_of_row _ _ _ _ _ R6_5
          have y5 : W5.cell? ⟨W1.heap.size, 5, none⟩ = some (.int .u64 0) := cell_of_row _ _ _ _ _ _ R6_5
          have z5 : W5.frozen? ⟨W1.heap.size, 5, none⟩ = false := frozen_of_row _ _ _ _ _ R6_5
          go_simp
          have hB6 : Below w2.heap.size w2 ((((((W5.setCell ⟨W1.heap.size, 0, none⟩ (.int .i64 z')).setCell ⟨W1.heap.size, 1, none⟩ (.slice B2 m.length d2)).setCell ⟨W1.heap.size, 2, none⟩ (.int .i64 tl')).setCell ⟨W1.heap.size, 3, none⟩ (.int .u32 (tw : Nat))).setCell ⟨W1.heap.size, 4, none⟩ (.int .u64 (th : Nat))).setCell ⟨W1.heap.size, 5, none⟩ (.int .u64 (tlo : Nat))) := six_below (.int .i64 z') (.slice B2 m.length d2) (.int .i64 tl') (.int .u32 (tw : Nat)) (.int .u64 (th : Nat)) (.int .u64 (tlo : Nat)) hB5 L6
          have R6_6 : ((((((W5.setCell ⟨W1.heap.size, 0, none⟩ (.int .i64 z')).setCell ⟨W1.heap.size, 1, none⟩ (.slice B2 m.length d2)).setCell ⟨W1.heap.size, 2, none⟩ (.int .i64 tl')).setCell ⟨W1.heap.size, 3, none⟩ (.int .u32 (tw : Nat))).setCell ⟨W1.heap.size, 4, none⟩ (.int .u64 (th : Nat))).setCell ⟨W1.heap.size, 5, none⟩ (.int .u64 (tlo : Nat))).heap[W1.heap.size]? = some (.cells #[.int .i64 z', .slice B2 m.length d2, .int .i64 tl', .int .u32 (tw : Nat), .int .u64 (th : Nat), .int .u64 (tlo : Nat)] 32 (0, 0)) := six_row _ _ _ _ _ _ (.int .i64 z') (.slice B2 m.length d2) (.int .i64 tl') (.int .u32 (tw : Nat)) (.int .u64 (th : Nat)) (.int .u64 (tlo : Nat)) rfl R6_5
          have R5_6 := (six_other W5 (W1.heap.size) (W3.heap.size) (.int .i64 z') (.slice B2 m.length d2) (.int .i64 tl') (.int .u32 (tw : Nat)) (.int .u64 (th : Nat)) (.int .u64 (tlo : Nat)) (by first | exact hne | exact hne2)).trans R5_5
          change ((((((W5.setCell ⟨W1.heap.size, 0, none⟩ (.int .i64 z')).setCell ⟨W1.heap.size, 1, none⟩ (.slice B2 m.length d2)).setCell ⟨W1.heap.size, 2, none⟩ (.int .i64 tl')).setCell ⟨W1.heap.size, 3, none⟩ (.int .u32 (tw : Nat))).setCell ⟨W1.heap.size, 4, none⟩ (.int .u64 (th : Nat))).setCell ⟨W1.heap.size, 5, none⟩ (.int .u64 (tlo : Nat))).heap[_]? = _ at R5_6
          have O1_6 : ((((((W5.setCell ⟨W1.heap.size, 0, none⟩ (.int .i64 z')).setCell ⟨W1.heap.size, 1, none⟩ (.slice B2 m.length d2)).setCell ⟨W1.heap.size, 2, none⟩ (.int .i64 tl')).setCell ⟨W1.heap.size, 3, none⟩ (.int .u32 (tw : Nat))).setCell ⟨W1.heap.size, 4, none⟩ (.int .u64 (th : Nat))).setCell ⟨W1.heap.size, 5, none⟩ (.int .u64 (tlo : Nat))).ownsRow w2.heap.size 30 3 (Value.slice B1 l.length d1) l.length (cellsSg l) := six_own (.int .i64 z') (.slice B2 m.length d2) (.int .i64 tl') (.int .u32 (tw : Nat)) (.int .u64 (th : Nat)) (.int .u64 (tlo : Nat)) O1_5 k16
          have O2_6 : ((((((W5.setCell ⟨W1.heap.size, 0, none⟩ (.int .i64 z')).setCell ⟨W1.heap.size, 1, none⟩ (.slice B2 m.length d2)).setCell ⟨W1.heap.size, 2, none⟩ (.int .i64 tl')).setCell ⟨W1.heap.size, 3, none⟩ (.int .u32 (tw : Nat))).setCell ⟨W1.heap.size, 4, none⟩ (.int .u64 (th : Nat))).setCell ⟨W1.heap.size, 5, none⟩ (.int .u64 (tlo : Nat))).ownsRow w2.heap.size 30 3 (Value.slice B2 m.length d2) m.length (cellsSg m) := six_own (.int .i64 z') (.slice B2 m.length d2) (.int .i64 tl') (.int .u32 (tw : Nat)) (.int .u64 (th : Nat)) (.int .u64 (tlo : Nat)) O2_5 k26
          refine hK _ _ (HS.out _ hB6) ?_
          clear hK K y0 y1 y2 y3 y4 y5 z0 z1 z2 z3 z4 z5
          try simp only [Act.put, List.getElem_toArray, List.getElem_cons_succ, List.getElem_cons_zero, List.setIfInBounds_toArray, List.set_cons_zero, List.set_cons_succ]
          generalize ((((((W5.setCell ⟨W1.heap.size, 0, none⟩ (.int .i64 z')).setCell ⟨W1.heap.size, 1, none⟩ (.slice B2 m.length d2)).setCell ⟨W1.heap.size, 2, none⟩ (.int .i64 tl')).setCell ⟨W1.heap.size, 3, none⟩ (.int .u32 (tw : Nat))).setCell ⟨W1.heap.size, 4, none⟩ (.int .u64 (th : Nat))).setCell ⟨W1.heap.size, 5, none⟩ (.int .u64 (tlo : Nat))) = W6 at hB6 R5_6 R6_6 O1_6 O2_6 ⊢
          refine wpAnyH_done (by kernel_rfl) ?_ _
          go_wp2_with fail
          go_meet
          case rel => exact ⟨_, _, B1, d1, B2, d2, rfl, rfl, hide ⟨hB6, R5_6, R6_6, RdSg.own O1_6, RdSg.own O2_6⟩⟩
        · go_simp
          have hb3 := (Below.refl W2.heap.size W2).alloc (Nat.le_refl _) (Obj.cells #[.int .i64 0, .slice none 0 0, .int .i64 0, .int .u32 0, .int .u64 0, .int .u64 0] 32)
          have hB3 := hB2.trans (hb3.mono hB2.size)
          have R5_3 := World.alloc_heap_new W2 (Obj.cells #[.int .i64 0, .slice none 0 0, .int .i64 0, .int .u32 0, .int .u64 0, .int .u64 0] 32)
          have L5 := hB2.size
          have R6_3 := (hb3.block _ (Array.getElem?_eq_some_iff.1 R6_2).1).trans R6_2
          have hne : W1.heap.size ≠ W2.heap.size := Nat.ne_of_lt (Array.getElem?_eq_some_iff.1 R6_2).1
          have hne2 : W2.heap.size ≠ W1.heap.size := hne.symm
          have O1_3 := O1_2.alloc (Obj.cells #[.int .i64 0, .slice none 0 0, .int .i64 0, .int .u32 0, .int .u64 0, .int .u64 0] 32)
          have k15 : ∀ r, (Value.slice B1 l.length d1).ownBlock = some r → r ≠ W2.heap.size := fun r e => Nat.ne_of_lt (O1_2.lt r e).2
          refine hK _ _ (HS.out _ hB3) ?_
          clear hK K hb3
          try simp only [Act.put, List.getElem_toArray, List.getElem_cons_succ, List.getElem_cons_zero, List.setIfInBounds_toArray, List.set_cons_zero, List.set_cons_succ]
          generalize W2.alloc (Obj.cells #[.int .i64 0, .slice none 0 0, .int .i64 0, .int .u32 0, .int .u64 0, .int .u64 0] 32) = W3 at hB3 R5_3 R6_3 O1_3 ⊢
          refine held_one (i := 3) (by kernel_rfl) rfl (fun K hK => ?_)
          go_simp
          refine (HT2.out _ hB3).mono ?_
          rintro en W4 ⟨B2, d2, rfl, hI⟩
          have hb4 := hI.below
          have hB4 := hB3.trans (hb4.mono hB3.size)
          have O2_4 := ownsRow_lowerSg (base' := w2.heap.size) hI.own hB3.size
          have R5_4 := (hb4.block _ (Array.getElem?_eq_some_iff.1 R5_3).1).trans R5_3
          have k25 : ∀ r, (Value.slice B2 m.length d2).ownBlock = some r → r ≠ W2.heap.size := fun r e => (Nat.ne_of_lt (Nat.lt_of_lt_of_le (Array.getElem?_eq_some_iff.1 R5_3).1 (hI.own.lt r e).1)).symm
          have R6_4 := (hb4.block _ (Array.getElem?_eq_some_iff.1 R6_3).1).trans R6_3
          have k26 : ∀ r, (Value.slice B2 m.length d2).ownBlock = some r → r ≠ W1.heap.size := fun r e => (Nat.ne_of_lt (Nat.lt_of_lt_of_le (Array.getElem?_eq_some_iff.1 R6_3).1 (hI.own.lt r e).1)).symm
          have O1_4 := own_below O1_3 hb4
          refine hK _ _ (HS.out _ hB4) ?_
          clear hK K hb4 hI
          try simp only [Act.put, List.getElem_toArray, List.getElem_cons_succ, List.getElem_cons_zero, List.setIfInBounds_toArray, List.set_cons_zero, List.set_cons_succ]
          refine held_one (i := 6) (by kernel_rfl) rfl (fun K hK => ?_)
          have y0 : W4.cell? ⟨W2.heap.size, 0, none⟩ = some (.int .i64 0) := cell_of_row _ _ _ _ _ _ R5_4
          have z0 : W4.frozen? ⟨W2.heap.size, 0, none⟩ = false := frozen_of_row _ _ _ _ _ R5_4
          have y1 : W4.cell? ⟨W2.heap.size, 1, none⟩ = some (.slice none 0 0) := cell_of_row _ _ _ _ _ _ R5_4
          have z1 : W4.frozen? ⟨W2.heap.size, 1, none⟩ = false := frozen_of_row _ _ _ _ _ R5_4
          have y2 : W4.cell? ⟨W2.heap.size, 2, none⟩ = some (.int .i64 0) := cell_of_row _ _ _ _ _ _ R5_4
          have z2 : W4.frozen? ⟨W2.heap.size, 2, none⟩ = false := frozen_of_row _ _ _ _ _ R5_4
          have y3 : W4.cell? ⟨W2.heap.size, 3, none⟩ = some (.int .u32 0) := cell_of_row _ _ _ _ _ _ R5_4
          have z3 : W4.frozen? ⟨W2.heap.size, 3, none⟩ = false := frozen_of_row _ _ _ _ _ R5_4
          have y4 : W4.cell? ⟨W2.heap.size, 4, none⟩ = some (.int .u64 0) := cell_of_row _ _ _ _ _ _ R5_4
          have z4 : W4.frozen? ⟨W2.heap.size, 4, none⟩ = false := frozen_of_row _ _ _ _ _ R5_4
          have y5 : W4.cell? ⟨W2.heap.size, 5, none⟩ = some (.int .u64 0) := cell_of_row _ _ _ _ _ _ R5_4
          have z5 : W4.frozen? ⟨W2.heap.size, 5, none⟩ = false := frozen_of_row _ _ _ _ _ R5_4
          go_simp
          have hB5 : Below w2.heap.size w2 ((((((W4.setCell ⟨W2.heap.size, 0, none⟩ (.int .i64 z)).setCell ⟨W2.heap.size, 1, none⟩ (.slice B1 l.length d1)).setCell ⟨W2.heap.size, 2, none⟩ (.int .i64 tl)).setCell ⟨W2.heap.size, 3, none⟩ (.int .u32 (sw : Nat))).setCell ⟨W2.heap.size, 4, none⟩ (.int .u64 (sh : Nat))).setCell ⟨W2.heap.size, 5, none⟩ (.int .u64 (slo : Nat))) := six_below (.int .i64 z) (.slice B1 l.length d1) (.int .i64 tl) (.int .u32 (sw : Nat)) (.int .u64 (sh : Nat)) (.int .u64 (slo : Nat)) hB4 L5
          have R5_5 : ((((((W4.setCell ⟨W2.heap.size, 0, none⟩ (.int .i64 z)).setCell ⟨W2.heap.size, 1, none⟩ (.slice B1 l.length d1)).setCell ⟨W2.heap.size, 2, none⟩ (.int .i64 tl)).setCell ⟨W2.heap.size, 3, none⟩ (.int .u32 (sw : Nat))).setCell ⟨W2.heap.size, 4, none⟩ (.int .u64 (sh : Nat))).setCell ⟨W2.heap.size, 5, none⟩ (.int .u64 (slo : Nat))).heap[W2.heap.size]? = some (.cells #[.int .i64 z, .slice B1 l.length d1, .int .i64 tl, .int .u32 (sw : Nat), .int .u64 (sh : Nat), .int .u64 (slo : Nat)] 32 (0, 0)) := six_row _ _ _ _ _ _ (.int .i64 z) (.slice B1 l.length d1) (.int .i64 tl) (.int .u32 (sw : Nat)) (.int .u64 (sh : Nat)) (.int .u64 (slo : Nat)) rfl R5_4
          have R6_5 := (six_other W4 (W2.heap.size) (W1.heap.size) (.int .i64 z) (.slice B1 l.length d1) (.int .i64 tl) (.int .u32 (sw : Nat)) (.int .u64 (sh : Nat)) (.int .u64 (slo : Nat)) (by first | exact hne | exact hne2)).trans R6_4
          change ((((((W4.setCell ⟨W2.heap.size, 0, none⟩ (.int .i64 z)).setCell ⟨W2.heap.size, 1, none⟩ (.slice B1 l.length d1)).setCell ⟨W2.heap.size, 2, none⟩ (.int .i64 tl)).setCell ⟨W2.heap.size, 3, none⟩ (.int .u32 (sw : Nat))).setCell ⟨W2.heap.size, 4, none⟩ (.int .u64 (sh : Nat))).setCell ⟨W2.heap.size, 5, none⟩ (.int .u64 (slo : Nat))).heap[_]? = _ at R6_5
          have O1_5 : ((((((W4.setCell ⟨W2.heap.size, 0, none⟩ (.int .i64 z)).setCell ⟨W2.heap.size, 1, none⟩ (.slice B1 l.length d1)).setCell ⟨W2.heap.size, 2, none⟩ (.int .i64 tl)).setCell ⟨W2.heap.size, 3, none⟩ (.int .u32 (sw : Nat))).setCell ⟨W2.heap.size, 4, none⟩ (.int .u64 (sh : Nat))).setCell ⟨W2.heap.size, 5, none⟩ (.int .u64 (slo : Nat))).ownsRow w2.heap.size 30 3 (Value.slice B1 l.length d1) l.length (cellsSg l) := six_own (.int .i64 z) (.slice B1 l.length d1) (.int .i64 tl) (.int .u32 (sw : Nat)) (.int .u64 (sh : Nat)) (.int .u64 (slo : Nat)) O1_4 k15
          have O2_5 : ((((((W4.setCell ⟨W2.heap.size, 0, none⟩ (.int .i64 z)).setCell ⟨W2.heap.size, 1, none⟩ (.slice B1 l.length d1)).setCell ⟨W2.heap.size, 2, none⟩ (.int .i64 tl)).setCell ⟨W2.heap.size, 3, none⟩ (.int .u32 (sw : Nat))).setCell ⟨W2.heap.size, 4, none⟩ (.int .u64 (sh : Nat))).setCell ⟨W2.heap.size, 5, none⟩ (.int .u64 (slo : Nat))).ownsRow w2.heap.size 30 3 (Value.slice B2 m.length d2) m.length (cellsSg m) := six_own (.int .i64 z) (.slice B1 l.length d1) (.int .i64 tl) (.int .u32 (sw : Nat)) (.int .u64 (sh : Nat)) (.int .u64 (slo : Nat)) O2_4 k25
          refine hK _ _ (HS.out _ hB5) ?_
          clear hK K y0 y1 y2 y3 y4 y5 z0 z1 z2 z3 z4 z5
          try simp only [Act.put, List.getElem_toArray, List.getElem_cons_succ, List.getElem_cons_zero, List.setIfInBounds_toArray, List.set_cons_zero, List.set_cons_succ]
          generalize ((((((W4.setCell ⟨W2.heap.size, 0, none⟩ (.int .i64 z)).setCell ⟨W2.heap.size, 1, none⟩ (.slice B1 l.length d1)).setCell ⟨W2.heap.size, 2, none⟩ (.int .i64 tl)).setCell ⟨W2.heap.size, 3, none⟩ (.int .u32 (sw : Nat))).setCell ⟨W2.heap.size, 4, none⟩ (.int .u64 (sh : Nat))).setCell ⟨W2.heap.size, 5, none⟩ (.int .u64 (slo : Nat))) = W5 at hB5 R5_5 R6_5 O1_5 O2_5 ⊢
          refine held_one (i := 7) (by kernel_rfl) rfl (fun K hK => ?_)
          have y0 : W5.cell? ⟨W1.heap.size, 0, none⟩ = some (.int .i64 0) := cell_of_row _ _ _ _ _ _ R6_5
          have z0 : W5.frozen? ⟨W1.heap.size, 0, none⟩ = false := frozen_of_row _ _ _ _ _ R6_5
          have y1 : W5.cell? ⟨W1.heap.size, 1, none⟩ = some (.slice none 0 0) := cell_of_row _ _ _ _ _ _ R6_5
          have z1 : W5.frozen? ⟨W1.heap.size, 1, none⟩ = false := frozen_of_row _ _ _ _ _ R6_5
          have y2 : W5.cell? ⟨W1.heap.size, 2, none⟩ = some (.int .i64 0) := cell_of_row _ _ _ _ _ _ R6_5
          have z2 : W5.frozen? ⟨W1.heap.size, 2, none⟩ = false := frozen_of_row _ _ _ _ _ R6_5
          have y3 : W5.cell? ⟨W1.heap.size, 3, none⟩ = some (.int .u32 0) := cell_of_row _ _ _ _ _ _ R6_5
          have z3 : W5.frozen? ⟨W1.heap.size, 3, none⟩ = false := frozen_of_row _ _ _ _ _ R6_5
          have y4 : W5.cell? ⟨W1.heap.size, 4, none⟩ = some (.int .u64 0) := cell_of_row _ _ _ _ _ _ R6_5
          have z4 : W5.frozen? ⟨W1.heap.size, 4, none⟩ = false := frozen_of_row _ _ _ _ _ R6_5
          have y5 : W5.cell? ⟨W1.heap.size, 5, none⟩ = some (.int .u64 0) := cell_of_row _ _ _ _ _ _ R6_5
          have z5 : W5.frozen? ⟨W1.heap.size, 5, none⟩ = false := frozen_of_row _ _ _ _ _ R6_5
          go_simp
          have hB6 : Below w2.heap.size w2 ((((((W5.setCell ⟨W1.heap.size, 0, none⟩ (.int .i64 z')).setCell ⟨W1.heap.size, 1, none⟩ (.slice B2 m.length d2)).setCell ⟨W1.heap.size, 2, none⟩ (.int .i64 tl')).setCell ⟨W1.heap.size, 3, none⟩ (.int .u32 (tw : Nat))).setCell ⟨W1.heap.size, 4, none⟩ (.int .u64 (th : Nat))).setCell ⟨W1.heap.size, 5, none⟩ (.int .u64 (tlo : Nat))) := six_below (.int .i64 z') (.slice B2 m.length d2) (.int .i64 tl') (.int .u32 (tw : Nat)) (.int .u64 (th : Nat)) (.int .u64 (tlo : Nat)) hB5 L6
          have R6_6 : ((((((W5.setCell ⟨W1.heap.size, 0, none⟩ (.int .i64 z')).setCell ⟨W1.heap.size, 1, none⟩ (.slice B2 m.length d2)).setCell ⟨W1.heap.size, 2, none⟩ (.int .i64 tl')).setCell ⟨W1.heap.size, 3, none⟩ (.int .u32 (tw : Nat))).setCell ⟨W1.heap.size, 4, none⟩ (.int .u64 (th : Nat))).setCell ⟨W1.heap.size, 5, none⟩ (.int .u64 (tlo : Nat))).heap[W1.heap.size]? = some (.cells #[.int .i64 z', .slice B2 m.length d2, .int .i64 tl', .int .u32 (tw : Nat), .int .u64 (th : Nat), .int .u64 (tlo : Nat)] 32 (0, 0)) := six_row _ _ _ _ _ _ (.int .i64 z') (.slice B2 m.length d2) (.int .i64 tl') (.int .u32 (tw : Nat)) (.int .u64 (th : Nat)) (.int .u64 (tlo : Nat)) rfl R6_5
          have R5_6 := (six_other W5 (W1.heap.size) (W2.heap.size) (.int .i64 z') (.slice B2 m.length d2) (.int .i64 tl') (.int .u32 (tw : Nat)) (.int .u64 (th : Nat)) (.int .u64 (tlo : Nat)) (by first | exact hne | exact hne2)).trans R5_5
          change ((((((W5.setCell ⟨W1.heap.size, 0, none⟩ (.int .i64 z')).setCell ⟨W1.heap.size, 1, none⟩ (.slice B2 m.length d2)).setCell ⟨W1.heap.size, 2, none⟩ (.int .i64 tl')).setCell ⟨W1.heap.size, 3, none⟩ (.int .u32 (tw : Nat))).setCell ⟨W1.heap.size, 4, none⟩ (.int .u64 (th : Nat))).setCell ⟨W1.heap.size, 5, none⟩ (.int .u64 (tlo : Nat))).heap[_]? = _ at R5_6
          have O1_6 : ((((((W5.setCell ⟨W1.heap.size, 0, none⟩ (.int .i64 z')).setCell ⟨W1.heap.size, 1, none⟩ (.slice B2 m.length d2)).setCell ⟨W1.heap.size, 2, none⟩ (.int .i64 tl')).setCell ⟨W1.heap.size, 3, none⟩ (.int .u32 (tw : Nat))).setCell ⟨W1.heap.size, 4, none⟩ (.int .u64 (th : Nat))).setCell ⟨W1.heap.size, 5, none⟩ (.int .u64 (tlo : Nat))).ownsRow w2.heap.size 30 3 (Value.slice B1 l.length d1) l.length (cellsSg l) := six_own (.int .i64 z') (.slice B2 m.length d2) (.int .i64 tl') (.int .u32 (tw : Nat)) (.int .u64 (th : Nat)) (.int .u64 (tlo : Nat)) O1_5 k16
          have O2_6 : ((((((W5.setCell ⟨W1.heap.size, 0, none⟩ (.int .i64 z')).setCell ⟨W1.heap.size, 1, none⟩ (.slice B2 m.length d2)).setCell ⟨W1.heap.size, 2, none⟩ (.int .i64 tl')).setCell ⟨W1.heap.size, 3, none⟩ (.int .u32 (tw : Nat))).setCell ⟨W1.heap.size, 4, none⟩ (.int .u64 (th : Nat))).setCell ⟨W1.heap.size, 5, none⟩ (.int .u64 (tlo : Nat))).ownsRow w2.heap.size 30 3 (Value.slice B2 m.length d2) m.length (cellsSg m) := six_own (.int .i64 z') (.slice B2 m.length d2) (.int .i64 tl') (.int .u32 (tw : Nat)) (.int .u64 (th : Nat)) (.int .u64 (tlo : Nat)) O2_5 k26
          refine hK _ _ (HS.out _ hB6) ?_
          clear hK K y0 y1 y2 y3 y4 y5 z0 z1 z2 z3 z4 z5
          try simp only [Act.put, List.getElem_toArray, List.getElem_cons_succ, List.getElem_cons_zero, List.setIfInBounds_toArray, List.set_cons_zero, List.set_cons_succ]
          generalize ((((((W5.setCell ⟨W1.heap.size, 0, none⟩ (.int .i64 z')).setCell ⟨W1.heap.size, 1, none⟩ (.slice B2 m.length d2)).setCell ⟨W1.heap.size, 2, none⟩ (.int .i64 tl')).setCell ⟨W1.heap.size, 3, none⟩ (.int .u32 (tw : Nat))).setCell ⟨W1.heap.size, 4, none⟩ (.int .u64 (th : Nat))).setCell ⟨W1.heap.size, 5, none⟩ (.int .u64 (tlo : Nat))) = W6 at hB6 R5_6 R6_6 O1_6 O2_6 ⊢
          refine wpAnyH_done (by kernel_rfl) ?_ _
          go_wp2_with fail
          go_meet
          case rel => exact ⟨_, _, B1, d1, B2, d2, rfl, rfl, hide ⟨hB6, R5_6, R6_6, RdSg.own O1_6, RdSg.own O2_6⟩⟩
    · go_simp
      have hb1 := (Below.refl W0.heap.size W0).alloc (Nat.le_refl _) (Obj.cells #[.int .i64 0, .slice none 0 0, .int .i64 0, .int .u32 0, .int .u64 0, .int .u64 0] 32)
      have hB1 := hB0.trans (hb1.mono hB0.size)
      have R5_1 := World.alloc_heap_new W0 (Obj.cells #[.int .i64 0, .slice none 0 0, .int .i64 0, .int .u32 0, .int .u64 0, .int .u64 0] 32)
      have L5 := hB0.size
      refine hK _ _ (HS.out _ hB1) ?_
      clear hK K hb1
      try simp only [Act.put, List.getElem_toArray, List.getElem_cons_succ, List.getElem_cons_zero, List.setIfInBounds_toArray, List.set_cons_zero, List.set_cons_succ]
      generalize W0.alloc (Obj.cells #[.int .i64 0, .slice none 0 0, .int .i64 0, .int .u32 0, .int .u64 0, .int .u64 0] 32) = W1 at hB1 R5_1 ⊢
      refine held_two (i := 1) (k := 5) (by kernel_rfl) rfl rfl (fun K hK => ?_) (fun K hK => ?_)
      · go_simp
        refine (HT1.out _ hB1).mono ?_
        rintro en W2 ⟨B1, d1, rfl, hI⟩
        have hb2 := hI.below
        have hB2 := hB1.trans (hb2.mono hB1.size)
        have O1_2 := ownsRow_lowerSg (base' := w2.heap.size) hI.own hB1.size
        have R5_2 := (hb2.block _ (Array.getElem?_eq_some_iff.1 R5_1).1).trans R5_1
        have k15 : ∀ r, (Value.slice B1 l.length d1).ownBlock = some r → r ≠ W0.heap.size := fun r e => (Nat.ne_of_lt (Nat.lt_of_lt_of_le (Array.getElem?_eq_some_iff.1 R5_1).1 (hI.own.lt r e).1)).symm
        refine hK _ _ (HS.out _ hB2) ?_
        clear hK K hb2 hI
        try simp only [Act.put, List.getElem_toArray, List.getElem_cons_succ, List.getElem_cons_zero, List.setIfInBounds_toArray, List.set_cons_zero, List.set_cons_succ]
        refine held_two (i := 3) (k := 5) (by kernel_rfl) rfl rfl (fun K hK => ?_) (fun K hK => ?_)
        · go_simp
          refine (HT2.out _ hB2).mono ?_
          rintro en W3 ⟨B2, d2, rfl, hI⟩
          have hb3 := hI.below
          have hB3 := hB2.trans (hb3.mono hB2.size)
          have O2_3 := ownsRow_lowerSg (base' := w2.heap.size) hI.own hB2.size
          have R5_3 := (hb3.block _ (Array.getElem?_eq_some_iff.1 R5_2).1).trans R5_2
          have k25 : ∀ r, (Value.slice B2 m.length d2).ownBlock = some r → r ≠ W0.heap.size := fun r e => (Nat.ne_of_lt (Nat.lt_of_lt_of_le (Array.getElem?_eq_some_iff.1 R5_2).1 (hI.own.lt r e).1)).symm
          have O1_3 := own_below O1_2 hb3
          refine hK _ _ (HS.out _ hB3) ?_
          clear hK K hb3 hI
          try simp only [Act.put, List.getElem_toArray, List.getElem_cons_succ, List.getElem_cons_zero, List.setIfInBounds_toArray, List.set_cons_zero, List.set_cons_succ]
          refine held_one (i := 5) (by kernel_rfl) rfl (fun K hK => ?_)
          go_simp
          have hb4 := (Below.refl W3.heap.size W3).alloc (Nat.le_refl _) (Obj.cells #[.int .i64 0, .slice none 0 0, .int .i64 0, .int .u32 0, .int .u64 0, .int .u64 0] 32)
          have hB4 := hB3.trans (hb4.mono hB3.size)
          have R6_4 := World.alloc_heap_new W3 (Obj.cells #[.int .i64 0, .slice none 0 0, .int .i64 0, .int .u32 0, .int .u64 0, .int .u64 0] 32)
          have L6 := hB3.size
          have R5_4 := (hb4.block _ (Array.getElem?_eq_some_iff.1 R5_3).1).trans R5_3
          have hne : W0.heap.size ≠ W3.heap.size := Nat.ne_of_lt (Array.getElem?_eq_some_iff.1 R5_3).1
          have hne2 : W3.heap.size ≠ W0.heap.size := hne.symm
          have O1_4 := O1_3.alloc (Obj.cells #[.int .i64 0, .slice none 0 0, .int .i64 0, .int .u32 0, .int .u64 0, .int .u64 0] 32)
          have k16 : ∀ r, (Value.slice B1 l.length d1).ownBlock = some r → r ≠ W3.heap.size := fun r e => Nat.ne_of_lt (O1_3.lt r e).2
          have O2_4 := O2_3.alloc (Obj.cells #[.int .i64 0, .slice none 0 0, .int .i64 0, .int .u32 0, .int .u64 0, .int .u64 0] 32)
          have k26 : ∀ r, (Value.slice B2 m.length d2).ownBlock = some r → r ≠ W3.heap.size := fun r e => Nat.ne_of_lt (O2_3.lt r e).2
          refine hK _ _ (HS.out _ hB4) ?_
          clear hK K hb4
          try simp only [Act.put, List.getElem_toArray, List.getElem_cons_succ, List.getElem_cons_zero, List.setIfInBounds_toArray, List.set_cons_zero, List.set_cons_succ]
          generalize W3.alloc (Obj.cells #[.int .i64 0, .slice none 0 0, .int .i64 0, .int .u32 0, .int .u64 0, .int .u64 0] 32) = W4 at hB4 R6_4 R5_4 O1_4 O2_4 ⊢
          refine held_one (i := 6) (by kernel_rfl) rfl (fun K hK => ?_)
          have y0 : W4.cell? ⟨W0.heap.size, 0, none⟩ = some (.int .i64 0) := cell_of_row _ _ _ _ _ _ R5_4
          have z0 : W4.frozen? ⟨W0.heap.size, 0, none⟩ = false := frozen_of_row _ _ _ _ _ R5_4
          have y1 : W4.cell? ⟨W0.heap.size, 1, none⟩ = some (.slice none 0 0) := cell_of_row _ _ _ _ _ _ R5_4
          have z1 : W4.frozen? ⟨W0.heap.size, 1, none⟩ = false := frozen_of_row _ _ _ _ _ R5_4
          have y2 : W4.cell? ⟨W0.heap.size, 2, none⟩ = some (.int .i64 0) := cell_of_row _ _ _ _ _ _ R5_4
          have z2 : W4.frozen? ⟨W0.heap.size, 2, none⟩ = false := frozen_of_row _ _ _ _ _ R5_4
          have y3 : W4.cell? ⟨W0.heap.size, 3, none⟩ = some (.int .u32 0) := cell_of_row _ _ _ _ _ _ R5_4
          have z3 : W4.frozen? ⟨W0.heap.size, 3, none⟩ = false := frozen_of_row _ _ _ _ _ R5_4
          have y4 : W4.cell? ⟨W0.heap.size, 4, none⟩ = some (.int .u64 0) := cell_of_row _ _ _ _ _ _ R5_4
          have z4 : W4.frozen? ⟨W0.heap.size, 4, none⟩ = false := frozen_of_row _ _ _ _ _ R5_4
          have y5 : W4.cell? ⟨W0.heap.size, 5, none⟩ = some (.int .u64 0) := cell_of_row _ _ _ _ _ _ R5_4
          have z5 : W4.frozen? ⟨W0.heap.size, 5, none⟩ = false := frozen_of_row _ _ _ _ _ R5_4
          go_simp
          have hB5 : Below w2.heap.size w2 ((((((W4.setCell ⟨W0.heap.size, 0, none⟩ (.int .i64 z)).setCell ⟨W0.heap.size, 1, none⟩ (.slice B1 l.length d1)).setCell ⟨W0.heap.size, 2, none⟩ (.int .i64 tl)).setCell ⟨W0.heap.size, 3, none⟩ (.int .u32 (sw : Nat))).setCell ⟨W0.heap.size, 4, none⟩ (.int .u64 (sh : Nat))).setCell ⟨W0.heap.size, 5, none⟩ (.int .u64 (slo : Nat))) := six_below (.int .i64 z) (.slice B1 l.length d1) (.int .i64 tl) (.int .u32 (sw : Nat)) (.int .u64 (sh : Nat)) (.int .u64 (slo : Nat)) hB4 L5
          have R5_5 : ((((((W4.setCell ⟨W0.heap.size, 0, none⟩ (.int .i64 z)).setCell ⟨W0.heap.size, 1, none⟩ (.slice B1 l.length d1)).setCell ⟨W0.heap.size, 2, none⟩ (.int .i64 tl)).setCell ⟨W0.heap.size, 3, none⟩ (.int .u32 (sw : Nat))).setCell ⟨W0.heap.size, 4, none⟩ (.int .u64 (sh : Nat))).setCell ⟨W0.heap.size, 5, none⟩ (.int .u64 (slo : Nat))).heap[W0.heap.size]? = some (.cells #[.int .i64 z, .slice B1 l.length d1, .int .i64 tl, .int .u32 (sw : Nat), .int .u64 (sh : Nat), .int .u64 (slo : Nat)] 32 (0, 0)) := six_row _ _ _ _ _ _ (.int .i64 z) (.slice B1 l.length d1) (.int .i64 tl) (.int .u32 (sw : Nat)) (.int .u64 (sh : Nat)) (.int .u64 (slo : Nat)) rfl R5_4
          have R6_5 := (six_other W4 (W0.heap.size) (W3.heap.size) (.int .i64 z) (.slice B1 l.length d1) (.int .i64 tl) (.int .u32 (sw : Nat)) (.int .u64 (sh : Nat)) (.int .u64 (slo : Nat)) (by first | exact hne | exact hne2)).trans R6_4
          change ((((((W4.setCell ⟨W0.heap.size, 0, none⟩ (.int .i64 z)).setCell ⟨W0.heap.size, 1, none⟩ (.slice B1 l.length d1)).setCell ⟨W0.heap.size, 2, none⟩ (.int .i64 tl)).setCell ⟨W0.heap.size, 3, none⟩ (.int .u32 (sw : Nat))).setCell ⟨W0.heap.size, 4, none⟩ (.int .u64 (sh : Nat))).setCell ⟨W0.heap.size, 5, none⟩ (.int .u64 (slo : Nat))).heap[_]? = _ at R6_5
          have O1_5 : ((((((W4.setCell ⟨W0.heap.size, 0, none⟩ (.int .i64 z)).setCell ⟨W0.heap.size, 1, none⟩ (.slice B1 l.length d1)).setCell ⟨W0.heap.size, 2, none⟩ (.int .i64 tl)).setCell ⟨W0.heap.size, 3, none⟩ (.int .u32 (sw : Nat))).setCell ⟨W0.heap.size, 4, none⟩ (.int .u64 (sh : Nat))).setCell ⟨W0.heap.size, 5, none⟩ (.int .u64 (slo : Nat))).ownsRow w2.heap.size 30 3 (Value.slice B1 l.length d1) l.length (cellsSg l) := six_own (.int .i64 z) (.slice B1 l.length d1) (.int .i64 tl) (.int .u32 (sw : Nat)) (.int .u64 (sh : Nat)) (.int .u64 (slo : Nat)) O1_4 k15
          have O2_5 : ((((((W4.setCell ⟨W0.heap.size, 0, none⟩ (.int .i64 z)).setCell ⟨W0.heap.size, 1, none⟩ (.slice B1 l.length d1)).setCell ⟨W0.heap.size, 2, none⟩ (.int .i64 tl)).setCell ⟨W0.heap.size, 3, none⟩ (.int .u32 (sw : Nat))).setCell ⟨W0.heap.size, 4, none⟩ (.int .u64 (sh : Nat))).setCell ⟨W0.heap.size, 5, none⟩ (.int .u64 (slo : Nat))).ownsRow w2.heap.size 30 3 (Value.slice B2 m.length d2) m.length (cellsSg m) := six_own (.int .i64 z) (.slice B1 l.length d1) (.int .i64 tl) (.int .u32 (sw : Nat)) (.int .u64 (sh : Nat)) (.int .u64 (slo : Nat)) O2_4 k25
          refine hK _ _ (HS.out _ hB5) ?_
          clear hK K y0 y1 y2 y3 y4 y5 z0 z1 z2 z3 z4 z5
          try simp only [Act.put, List.getElem_toArray, List.getElem_cons_succ, List.getElem_cons_zero, List.setIfInBounds_toArray, List.set_cons_zero, List.set_cons_succ]
          generalize ((((((W4.setCell ⟨W0.heap.size, 0, none⟩ (.int .i64 z)).setCell ⟨W0.heap.size, 1, none⟩ (.slice B1 l.length d1)).setCell ⟨W0.heap.size, 2, none⟩ (.int .i64 tl)).setCell ⟨W0.heap.size, 3, none⟩ (.int .u32 (sw : Nat))).setCell ⟨W0.heap.size, 4, none⟩ (.int .u64 (sh : Nat))).setCell ⟨W0.heap.size, 5, none⟩ (.int .u64 (slo : Nat))) = W5 at hB5 R5_5 R6_5 O1_5 O2_5 ⊢
          refine held_one (i := 7) (by kernel_rfl) rfl (fun K hK => ?_)
          have y0 : W5.cell? ⟨W3.heap.size, 0, none⟩ = some (.int .i64 0) := cell_of_row _ _ _ _ _ _ R6_5
          have z0 : W5.frozen? ⟨W3.heap.size, 0, none⟩ = false := frozen_of_row _ _ _ _ _ R6_5
          have y1 : W5.cell? ⟨W3.heap.size, 1, none⟩ = some (.slice none 0 0) := cell_of_row _ _ _ _ _ _ R6_5
          have z1 : W5.frozen? ⟨W3.heap.size, 1, none⟩ = false := frozen_of_row _ _ _ _ _ R6_5
          have y2 : W5.cell? ⟨W3.heap.size, 2, none⟩ = some (.int .i64 0) := cell_of_row _ _ _ _ _ _ R6_5
          have z2 : W5.frozen? ⟨W3.heap.size, 2, none⟩ = false := frozen_of_row _ _ _ _ _ R6_5
          have y3 : W5.cell? ⟨W3.heap.size, 3, none⟩ = some (.int .u32 0) := cell_of_row _ _ _ _ _ _ R6_5
          have z3 : W5.frozen? ⟨W3.heap.size, 3, none⟩ = false := frozen_of_row _ _ _ _ _ R6_5
          have y4 : W5.cell? ⟨W3.heap.size, 4, none⟩ = some (.int .u64 0) := cell_of_row _ _ _ _ _ _ R6_5
          have z4 : W5.frozen? ⟨W3.heap.size, 4, none⟩ = false := frozen_of_row _ _ _ _ _ R6_5
          have y5 : W5.cell? ⟨W3.heap.size, 5, none⟩ = some (.int .u64 0) := cell_of_row _ _ _ _ _ _ R6_5
          have z5 : W5.frozen? ⟨W3.heap.size, 5, none⟩ = false := frozen_of_row _ _ _ _ _ R6_5
          go_simp
          have hB6 : Below w2.heap.size w2 ((((((W5.setCell ⟨W3.heap.size, 0, none⟩ (.int .i64 z')).setCell ⟨W3.heap.size, 1, none⟩ (.slice B2 m.length d2)).setCell ⟨W3.heap.size, 2, none⟩ (.int .i64 tl')).setCell ⟨W3.heap.size, 3, none⟩ (.int .u32 (tw : Nat))).setCell ⟨W3.heap.size, 4, none⟩ (.int .u64 (th : Nat))).setCell ⟨W3.heap.size, 5, none⟩ (.int .u64 (tlo : Nat))) := six_below (.int .i64 z') (.slice B2 m.length d2) (.int .i64 tl') (.int .u32 (tw : Nat)) (.int .u64 (th : Nat)) (.int .u64 (tlo : Nat)) hB5 L6
          have R6_6 : ((((((W5.setCell ⟨W3.heap.size, 0, none⟩ (.int .i64 z')).setCell ⟨W3.heap.size, 1, none⟩ (.slice B2 m.length d2)).setCell ⟨W3.heap.size, 2, none⟩ (.int .i64 tl')).setCell ⟨W3.heap.size, 3, none⟩ (.int .u32 (tw : Nat))).setCell ⟨W3.heap.size, 4, none⟩ (.int .u64 (th : Nat))).setCell ⟨W3.heap.size, 5, none⟩ (.int .u64 (tlo : Nat))).heap[W3.heap.size]? = some (.cells #[.int .i64 z', .slice B2 m.length d2, .int .i64 tl', .int .u32 (tw : Nat), .int .u64 (th : Nat), .int .u64 (tlo : Nat)] 32 (0, 0)) := six_row _ _ _ _ _ _ (.int .i64 z') (.slice B2 m.length d2) (.int .i64 tl') (.int .u32 (tw : Nat)) (.int .u64 (th : Nat)) (.int .u64 (tlo : Nat)) rfl R6_5
          have R5_6 := (six_other W5 (W3.heap.size) (W0.heap.size) (.int .i64 z') (.slice B2 m.length d2) (.int .i64 tl') (.int .u32 (tw : Nat)) (.int .u64 (th : Nat)) (.int .u64 (tlo : Nat)) (by first | exact hne | exact hne2)).trans R5_5
          change ((((((W5.setCell ⟨W3.heap.size, 0, none⟩ (.int .i64 z')).setCell ⟨W3.heap.size, 1, none⟩ (.slice B2 m.length d2)).setCell ⟨W3.heap.size, 2, none⟩ (.int .i64 tl')).setCell ⟨W3.heap.size, 3, none⟩ (.int .u32 (tw : Nat))).setCell ⟨W3.heap.size, 4, none⟩ (.int .u64 (th : Nat))).setCell ⟨W3.heap.size, 5, none⟩ (.int .u64 (tlo : Nat))).heap[_]? = _ at R5_6
          have O1_6 : ((((((W5.setCell ⟨W3.heap.size, 0, none⟩ (.int .i64 z')).setCell ⟨W3.heap.size, 1, none⟩ (.slice B2 m.length d2)).setCell ⟨W3.heap.size, 2, none⟩ (.int .i64 tl')).setCell ⟨W3.heap.size, 3, none⟩ (.int .u32 (tw : Nat))).setCell ⟨W3.heap.size, 4, none⟩ (.int .u64 (th : Nat))).setCell ⟨W3.heap.size, 5, none⟩ (.int .u64 (tlo : Nat))).ownsRow w2.heap.size 30 3 (Value.slice B1 l.length d1) l.length (cellsSg l) := six_own (.int .i64 z') (.slice B2 m.length d2) (.int .i64 tl') (.int .u32 (tw : Nat)) (.int .u64 (th : Nat)) (.int .u64 (tlo : Nat)) O1_5 k16
          have O2_6 : ((((((W5.setCell ⟨W3.heap.size, 0, none⟩ (.int .i64 z')).setCell ⟨W3.heap.size, 1, none⟩ (.slice B2 m.length d2)).setCell ⟨W3.heap.size, 2, none⟩ (.int .i64 tl')).setCell ⟨W3.heap.size, 3, none⟩ (.int .u32 (tw : Nat))).setCell ⟨W3.heap.size, 4, none⟩ (.int .u64 (th : Nat))).setCell ⟨W3.heap.size, 5, none⟩ (.int .u64 (tlo : Nat))).ownsRow w2.heap.size 30 3 (Value.slice B2 m.length d2) m.length (cellsSg m) := six_own (.int .i64 z') (.slice B2 m.length d2) (.int .i64 tl') (.int .u32 (tw : Nat)) (.int .u64 (th : Nat)) (.int .u64 (tlo : Nat)) O2_5 k26
          refine hK _ _ (HS.out _ hB6) ?_
          clear hK K y0 y1 y2 y3 y4 y5 z0 z1 z2 z3 z4 z5
          try simp only [Act.put, List.getElem_toArray, List.getElem_cons_succ, List.getElem_cons_zero, List.setIfInBounds_toArray, List.set_cons_zero, List.set_cons_succ]
          generalize ((((((W5.setCell ⟨W3.heap.size, 0, none⟩ (.int .i64 z')).setCell ⟨W3.heap.size, 1, none⟩ (.slice B2 m.length d2)).setCell ⟨W3.heap.size, 2, none⟩ (.int .i64 tl')).setCell ⟨W3.heap.size, 3, none⟩ (.int .u32 (tw : Nat))).setCell ⟨W3.heap.size, 4, none⟩ (.int .u64 (th : Nat))).setCell ⟨W3.heap.size, 5, none⟩ (.int .u64 (tlo : Nat))) = W6 at hB6 R5_6 R6_6 O1_6 O2_6 ⊢
          refine wpAnyH_done (by kernel_rfl) ?_ _
          go_wp2_with fail
          go_meet
          case rel => exact ⟨_, _, B1, d1, B2, d2, rfl, rfl, hide ⟨hB6, R5_6, R6_6, RdSg.own O1_6, RdSg.own O2_6⟩⟩
        · go_simp
          have hb3 := (Below.refl W2.heap.size W2).alloc (Nat.le_refl _) (Obj.cells #[.int .i64 0, .slice none 0 0, .int .i64 0, .int .u32 0, .int .u64 0, .int .u64 0] 32)
          have hB3 := hB2.trans (hb3.mono hB2.size)
          have R6_3 := World.alloc_heap_new W2 (Obj.cells #[.int .i64 0, .slice none 0 0, .int .i64 0, .int .u32 0, .int .u64 0, .int .u64 0] 32)
          have L6 := hB2.size
          have R5_3 := (hb3.block _ (Array.getElem?_eq_some_iff.1 R5_2).1).trans R5_2
          have hne : W0.heap.size ≠ W2.heap.size := Nat.ne_of_lt (Array.getElem?_eq_some_iff.1 R5_2).1
          have hne2 : W2.heap.size ≠ W0.heap.size := hne.symm
          have O1_3 := O1_2.alloc (Obj.cells #[.int .i64 0, .slice none 0 0, .int .i64 0, .int .u32 0, .int .u64 0, .int .u64 0] 32)
          have k16 : ∀ r, (Value.slice B1 l.length d1).ownBlock = some r → r ≠ W2.heap.size := fun r e => Nat.ne_of_lt (O1_2.lt r e).2
          refine hK _ _ (HS.out _ hB3) ?_
          clear hK K hb3
          try simp only [Act.put, List.getElem_toArray, List.getElem_cons_succ, List.getElem_cons_zero, List.setIfInBounds_toArray, List.set_cons_zero, List.set_cons_succ]
          generalize W2.alloc (Obj.cells #[.int .i64 0, .slice none 0 0, .int .i64 0, .int .u32 0, .int .u64 0, .int .u64 0] 32) = W3 at hB3 R6_3 R5_3 O1_3 ⊢
          refine held_one (i := 3) (by kernel_rfl) rfl (fun K hK => ?_)
          go_simp
          refine (HT2.out _ hB3).mono ?_
          rintro en W4 ⟨B2, d2, rfl, hI⟩
          have hb4 := hI.below
          have hB4 := hB3.trans (hb4.mono hB3.size)
          have O2_4 := ownsRow_lowerSg (base' := w2.heap.size) hI.own hB3.size
          have R5_4 := (hb4.block _ (Array.getElem?_eq_some_iff.1 R5_3).1).trans R5_3
          have k25 : ∀ r, (Value.slice B2 m.length d2).ownBlock = some r → r ≠ W0.heap.size := fun r e => (Nat.ne_of_lt (Nat.lt_of_lt_of_le (Array.getElem?_eq_some_iff.1 R5_3).1 (hI.own.lt r e).1)).symm
          have R6_4 := (hb4.block _ (Array.getElem?_eq_some_iff.1 R6_3).1).trans R6_3
          have k26 : ∀ r, (Value.slice B2 m.length d2).ownBlock = some r → r ≠ W2.heap.size := fun r e => (Nat.ne_of_lt (Nat.lt_of_lt_of_le (Array.getElem?_eq_some_iff.1 R6_3).1 (hI.own.lt r e).1)).symm
          have O1_4 := own_below O1_3 hb4
          refine hK _ _ (HS.out _ hB4) ?_
          clear hK K hb4 hI
          try simp only [Act.put, List.getElem_toArray, List.getElem_cons_succ, List.getElem_cons_zero, List.setIfInBounds_toArray, List.set_cons_zero, List.set_cons_succ]
          refine held_one (i := 6) (by kernel_rfl) rfl (fun K hK => ?_)
          have y0 : W4.cell? ⟨W0.heap.size, 0, none⟩ = some (.int .i64 0) := cell_of_row _ _ _ _ _ _ R5_4
          have z0 : W4.frozen? ⟨W0.heap.size, 0, none⟩ = false := frozen_of_row _ _ _ _ _ R5_4
          have y1 : W4.cell? ⟨W0.heap.size, 1, none⟩ = some (.slice none 0 0) := cell_of_row _ _ _ _ _ _ R5_4
          have z1 : W4.frozen? ⟨W0.heap.size, 1, none⟩ = false := frozen_of_row _ _ _ _ _ R5_4
          have y2 : W4.cell? ⟨W0.heap.size, 2, none⟩ = some (.int .i64 0) := cell_of_row _ _ _ _ _ _ R5_4
          have z2 : W4.frozen? ⟨W0.heap.size, 2, none⟩ = false := frozen_of_row _ _ _ _ _ R5_4
          have y3 : W4.cell? ⟨W0.heap.size, 3, none⟩ = some (.int .u32 0) := cell_of_row _ _ _ _ _ _ R5_4
          have z3 : W4.frozen? ⟨W0.heap.size, 3, none⟩ = false := frozen_of_row _ _ _ _ _ R5_4
          have y4 : W4.cell? ⟨W0.heap.size, 4, none⟩ = some (.int .u64 0) := cell_of_row _ _ _ _ _ _ R5_4
          have z4 : W4.frozen? ⟨W0.heap.size, 4, none⟩ = false := frozen_of_row _ _ _ _ _ R5_4
          have y5 : W4.cell? ⟨W0.heap.size, 5, none⟩ = some (.int .u64 0) := cell_of_row _ _ _ _ _ _ R5_4
          have z5 : W4.frozen? ⟨W0.heap.size, 5, none⟩ = false := frozen_of_row _ _ _ _ _ R5_4
          go_simp
          have hB5 : Below w2.heap.size w2 ((((((W4.setCell ⟨W0.heap.size, 0, none⟩ (.int .i64 z)).setCell ⟨W0.heap.size, 1, none⟩ (.slice B1 l.length d1)).setCell ⟨W0.heap.size, 2, none⟩ (.int .i64 tl)).setCell ⟨W0.heap.size, 3, none⟩ (.int .u32 (sw : Nat))).setCell ⟨W0.heap.size, 4, none⟩ (.int .u64 (sh : Nat))).setCell ⟨W0.heap.size, 5, none⟩ (.int .u64 (slo : Nat))) := six_below (.int .i64 z) (.slice B1 l.length d1) (.int .i64 tl) (.int .u32 (sw : Nat)) (.int .u64 (sh : Nat)) (.int .u64 (slo : Nat)) hB4 L5
          have R5_5 : ((((((W4.setCell ⟨W0.heap.size, 0, none⟩ (.int .i64 z)).setCell ⟨W0.heap.size, 1, none⟩ (.slice B1 l.length d1)).setCell ⟨W0.heap.size, 2, none⟩ (.int .i64 tl)).setCell ⟨W0.heap.size, 3, none⟩ (.int .u32 (sw : Nat))).setCell ⟨W0.heap.size, 4, none⟩ (.int .u64 (sh : Nat))).setCell ⟨W0.heap.size, 5, none⟩ (.int .u64 (slo : Nat))).heap[W0.heap.size]? = some (.cells #[.int .i64 z, .slice B1 l.length d1, .int .i64 tl, .int .u32 (sw : Nat), .int .u64 (sh : Nat), .int .u64 (slo : Nat)] 32 (0, 0)) := six_row _ _ _ _ _ _ (.int .i64 z) (.slice B1 l.length d1) (.int .i64 tl) (.int .u32 (sw : Nat)) (.int .u64 (sh : Nat)) (.int .u64 (slo : Nat)) rfl R5_4
          have R6_5 := (six_other W4 (W0.heap.size) (W2.heap.size) (.int .i64 z) (.slice B1 l.length d1) (.int .i64 tl) (.int .u32 (sw : Nat)) (.int .u64 (sh : Nat)) (.int .u64 (slo : Nat)) (by first | exact hne | exact hne2)).trans R6_4
          change ((((((W4.setCell ⟨W0.heap.size, 0, none⟩ (.int .i64 z)).setCell ⟨W0.heap.size, 1, none⟩ (.slice B1 l.length d1)).setCell ⟨W0.heap.size, 2, none⟩ (.int .i64 tl)).setCell ⟨W0.heap.size, 3, none⟩ (.int .u32 (sw : Nat))).setCell ⟨W0.heap.size, 4, none⟩ (.int .u64 (sh : Nat))).setCell ⟨W0.heap.size, 5, none⟩ (.int .u64 (slo : Nat))).heap[_]? = _ at R6_5
          have O1_5 : ((((((W4.setCell ⟨W0.heap.size, 0, none⟩ (.int .i64 z)).setCell ⟨W0.heap.size, 1, none⟩ (.slice B1 l.length d1)).setCell ⟨W0.heap.size, 2, none⟩ (.int .i64 tl)).setCell ⟨W0.heap.size, 3, none⟩ (.int .u32 (sw : Nat))).setCell ⟨W0.heap.size, 4, none⟩ (.int .u64 (sh : Nat))).setCell ⟨W0.heap.size, 5, none⟩ (.int .u64 (slo : Nat))).ownsRow w2.heap.size 30 3 (Value.slice B1 l.length d1) l.length (cellsSg l) := six_own (.int .i64 z) (.slice B1 l.length d1) (.int .i64 tl) (.int .u32 (sw : Nat)) (.int .u64 (sh : Nat)) (.int .u64 (slo : Nat)) O1_4 k15
          have O2_5 : ((((((W4.setCell ⟨W0.heap.size, 0, none⟩ (.int .i64 z)).setCell ⟨W0.heap.size, 1, none⟩ (.slice B1 l.length d1)).setCell ⟨W0.heap.size, 2, none⟩ (.int .i64 tl)).setCell ⟨W0.heap.size, 3, none⟩ (.int .u32 (sw : Nat))).setCell ⟨W0.heap.size, 4, none⟩ (.int .u64 (sh : Nat))).setCell ⟨W0.heap.size, 5, none⟩ (.int .u64 (slo : Nat))).ownsRow w2.heap.size 30 3 (Value.slice B2 m.length d2) m.length (cellsSg m) := six_own (.int .i64 z) (.slice B1 l.length d1) (.int .i64 tl) (.int .u32 (sw : Nat)) (.int .u64 (sh : Nat)) (.int .u64 (slo : Nat)) O2_4 k25
          refine hK _ _ (HS.out _ hB5) ?_
          clear hK K y0 y1 y2 y3 y4 y5 z0 z1 z2 z3 z4 z5
          try simp only [Act.put, List.getElem_toArray, List.getElem_cons_succ, List.getElem_cons_zero, List.setIfInBounds_toArray, List.set_cons_zero, List.set_cons_succ]
          generalize ((((((W4.setCell ⟨W0.heap.size, 0, none⟩ (.int .i64 z)).setCell ⟨W0.heap.size, 1, none⟩ (.slice B1 l.length d1)).setCell ⟨W0.heap.size, 2, none⟩ (.int .i64 tl)).setCell ⟨W0.heap.size, 3, none⟩ (.int .u32 (sw : Nat))).setCell ⟨W0.heap.size, 4, none⟩ (.int .u64 (sh : Nat))).setCell ⟨W0.heap.size, 5, none⟩ (.int .u64 (slo : Nat))) = W5 at hB5 R5_5 R6_5 O1_5 O2_5 ⊢
          refine held_one (i := 7) (by kernel_rfl) rfl (fun K hK => ?_)
          have y0 : W5.cell? ⟨W2.heap.size, 0, none⟩ = some (.int .i64 0) := cell_of_row _ _ _ _ _ _ R6_5
          have z0 : W5.frozen? ⟨W2.heap.size, 0, none⟩ = false := frozen_of_row _ _ _ _ _ R6_5
          have y1 : W5.cell? ⟨W2.heap.size, 1, none⟩ = some (.slice none 0 0) := cell_of_row _ _ _ _ _ _ R6_5
          have z1 : W5.frozen? ⟨W2.heap.size, 1, none⟩ = false := frozen_of_row _ _ _ _ _ R6_5
          have y2 : W5.cell? ⟨W2.heap.size, 2, none⟩ = some (.int .i64 0) := cell_of_row _ _ _ _ _ _ R6_5
          have z2 : W5.frozen? ⟨W2.heap.size, 2, none⟩ = false := frozen_of_row _ _ _ _ _ R6_5
          have y3 : W5.cell? ⟨W2.heap.size, 3, none⟩ = some (.int .u32 0) := cell_of_row _ _ _ _ _ _ R6_5
          have z3 : W5.frozen? ⟨W2.heap.size, 3, none⟩ = false := frozen_of_row _ _ _ _ _ R6_5
          have y4 : W5.cell? ⟨W2.heap.size, 4, none⟩ = some (.int .u64 0) := cell_of_row _ _ _ _ _ _ R6_5
          have z4 : W5.frozen? ⟨W2.heap.size, 4, none⟩ = false := frozen_of_row _ _ _ _ _ R6_5
          have y5 : W5.cell? ⟨W2.heap.size, 5, none⟩ = some (.int .u64 0) := cell_of_row _ _ _ _ _ _ R6_5
          have z5 : W5.frozen? ⟨W2.heap.size, 5, none⟩ = false := frozen_of_row _ _ _ _ _ R6_5
          go_simp
          have hB6 : Below w2.heap.size w2 ((((((W5.setCell ⟨W2.heap.size, 0, none⟩ (.int .i64 z')).setCell ⟨W2.heap.size, 1, none⟩ (.slice B2 m.length d2)).setCell ⟨W2.heap.size, 2, none⟩ (.int .i64 tl')).setCell ⟨W2.heap.size, 3, none⟩ (.int .u32 (tw : Nat))).setCell ⟨W2.heap.size, 4, none⟩ (.int .u64 (th : Nat))).setCell ⟨W2.heap.size, 5, none⟩ (.int .u64 (tlo : Nat))) := six_below (.int .i64 z') (.slice B2 m.length d2) (.int .i64 tl') (.int .u32 (tw : Nat)) (.int .u64 (th : Nat)) (.int .u64 (tlo : Nat)) hB5 L6
          have R6_6 : ((((((W5.setCell ⟨W2.heap.size, 0, none⟩ (.int .i64 z')).setCell ⟨W2.heap.size, 1, none⟩ (.slice B2 m.length d2)).setCell ⟨W2.heap.size, 2, none⟩ (.int .i64 tl')).setCell ⟨W2.heap.size, 3, none⟩ (.int .u32 (tw : Nat))).setCell ⟨W2.heap.size, 4, none⟩ (.int .u64 (th : Nat))).setCell ⟨W2.heap.size, 5, none⟩ (.int .u64 (tlo : Nat))).heap[W2.heap.size]? = some (.cells #[.int .i64 z', .slice B2 m.length d2, .int .i64 tl', .int .u32 (tw : Nat), .int .u64 (th : Nat), .int .u64 (tlo : Nat)] 32 (0, 0)) := six_row _ _ _ _ _ _ (.int .i64 z') (.slice B2 m.length d2) (.int .i64 tl') (.int .u32 (tw : Nat)) (.int .u64 (th : Nat)) (.int .u64 (tlo : Nat)) rfl R6_5
          have R5_6 := (six_other W5 (W2.heap.size) (W0.heap.size) (.int .i64 z') (.slice B2 m.length d2) (.int .i64 tl') (.int .u32 (tw : Nat)) (.int .u64 (th : Nat)) (.int .u64 (tlo : Nat)) (by first | exact hne | exact hne2)).trans R5_5
          change ((((((W5.setCell ⟨W2.heap.size, 0, none⟩ (.int .i64 z')).setCell ⟨W2.heap.size, 1, none⟩ (.slice B2 m.length d2)).setCell ⟨W2.heap.size, 2, none⟩ (.int .i64 tl')).setCell ⟨W2.heap.size, 3, none⟩ (.int .u32 (tw : Nat))).setCell ⟨W2.heap.size, 4, none⟩ (.int .u64 (th : Nat))).setCell ⟨W2.heap.size, 5, none⟩ (.int .u64 (tlo : Nat))).heap[_]? = _ at R5_6
          have O1_6 : ((((((W5.setCell ⟨W2.heap.size, 0, none⟩ (.int .i64 z')).setCell ⟨W2.heap.size, 1, none⟩ (.slice B2 m.length d2)).setCell ⟨W2.heap.size, 2, none⟩ (.int .i64 tl')).setCell ⟨W2.heap.size, 3, none⟩ (.int .u32 (tw : Nat))).setCell ⟨W2.heap.size, 4, none⟩ (.int .u64 (th : Nat))).setCell ⟨W2.heap.size, 5, none⟩ (.int .u64 (tlo : Nat))).ownsRow w2.heap.size 30 3 (Value.slice B1 l.length d1) l.length (cellsSg l) := six_own (.int .i64 z') (.slice B2 m.length d2) (.int .i64 tl') (.int .u32 (tw : Nat)) (.int .u64 (th : Nat)) (.int .u64 (tlo : Nat)) O1_5 k16
          have O2_6 : ((((((W5.setCell ⟨W2.heap.size, 0, none⟩ (.int .i64 z')).setCell ⟨W2.heap.size, 1, none⟩ (.slice B2 m.length d2)).setCell ⟨W2.heap.size, 2, none⟩ (.int .i64 tl')).setCell ⟨W2.heap.size, 3, none⟩ (.int .u32 (tw : Nat))).setCell ⟨W2.heap.size, 4, none⟩ (.int .u64 (th : Nat))).setCell ⟨W2.heap.size, 5, none⟩ (.int .u64 (tlo : Nat))).ownsRow w2.heap.size 30 3 (Value.slice B2 m.length d2) m.length (cellsSg m) := six_own (.int .i64 z') (.slice B2 m.length d2) (.int .i64 tl') (.int .u32 (tw : Nat)) (.int .u64 (th : Nat)) (.int .u64 (tlo : Nat)) O2_5 k26
          refine hK _ _ (HS.out _ hB6) ?_
          clear hK K y0 y1 y2 y3 y4 y5 z0 z1 z2 z3 z4 z5
          try simp only [Act.put, List.getElem_toArray, List.getElem_cons_succ, List.getElem_cons_zero, List.setIfInBounds_toArray, List.set_cons_zero, List.set_cons_succ]
          generalize ((((((W5.setCell ⟨W2.heap.size, 0, none⟩ (.int .i64 z')).setCell ⟨W2.heap.size, 1, none⟩ (.slice B2 m.length d2)).setCell ⟨W2.heap.size, 2, none⟩ (.int .i64 tl')).setCell ⟨W2.heap.size, 3, none⟩ (.int .u32 (tw : Nat))).setCell ⟨W2.heap.size, 4, none⟩ (.int .u64 (th : Nat))).setCell ⟨W2.heap.size, 5, none⟩ (.int .u64 (tlo : Nat))) = W6 at hB6 R5_6 R6_6 O1_6 O2_6 ⊢
          refine wpAnyH_done (by kernel_rfl) ?_ _
          go_wp2_with fail
          go_meet
          case rel => exact ⟨_, _, B1, d1, B2, d2, rfl, rfl, hide ⟨hB6, R5_6, R6_6, RdSg.own O1_6, RdSg.own O2_6⟩⟩
      · go_simp
        have hb2 := (Below.refl W1.heap.size W1).alloc (Nat.le_refl _) (Obj.cells #[.int .i64 0, .slice none 0 0, .int .i64 0, .int .u32 0, .int .u64 0, .int .u64 0] 32)
        have hB2 := hB1.trans (hb2.mono hB1.size)
        have R6_2 := World.alloc_heap_new W1 (Obj.cells #[.int .i64 0, .slice none 0 0, .int .i64 0, .int .u32 0, .int .u64 0, .int .u64 0] 32)
        have L6 := hB1.size
        have R5_2 := (hb2.block _ (Array.getElem?_eq_some_iff.1 R5_1).1).trans R5_1
        have hne : W0.heap.size ≠ W1.heap.size := Nat.ne_of_lt (Array.getElem?_eq_some_iff.1 R5_1).1
        have hne2 : W1.heap.size ≠ W0.heap.size := hne.symm
        refine hK _ _ (HS.out _ hB2) ?_
        clear hK K hb2
        try simp only [Act.put, List.getElem_toArray, List.getElem_cons_succ, List.getElem_cons_zero, List.setIfInBounds_toArray, List.set_cons_zero, List.set_cons_succ]
        generalize W1.alloc (Obj.cells #[.int .i64 0, .slice none 0 0, .int .i64 0, .int .u32 0, .int .u64 0, .int .u64 0] 32) = W2 at hB2 R6_2 R5_2 ⊢
        refine held_one (i := 1) (by kernel_rfl) rfl (fun K hK => ?_)
        go_simp
        refine (HT1.out _ hB2).mono ?_
        rintro en W3 ⟨B1, d1, rfl, hI⟩
        have hb3 := hI.below
        have hB3 := hB2.trans (hb3.mono hB2.size)
        have O1_3 := ownsRow_lowerSg (base' := w2.heap.size) hI.own hB2.size
        have R5_3 := (hb3.block _ (Array.getElem?_eq_some_iff.1 R5_2).1).trans R5_2
        have k15 : ∀ r, (Value.slice B1 l.length d1).ownBlock = some r → r ≠ W0.heap.size := fun r e => (Nat.ne_of_lt (Nat.lt_of_lt_of_le (Array.getElem?_eq_some_iff.1 R5_2).1 (hI.own.lt r e).1)).symm
        have R6_3 := (hb3.block _ (Array.getElem?_eq_some_iff.1 R6_2).1).trans R6_2
        have k16 : ∀ r, (Value.slice B1 l.length d1).ownBlock = some r → r ≠ W1.heap.size := fun r e => (Nat.ne_of_lt (Nat.lt_of_lt_of_le (Array.getElem?_eq_some_iff.1 R6_2).1 (hI.own.lt r e).1)).symm
        refine hK _ _ (HS.out _ hB3) ?_
        clear hK K hb3 hI
        try simp only [Act.put, List.getElem_toArray, List.getElem_cons_succ, List.getElem_cons_zero, List.setIfInBounds_toArray, List.set_cons_zero, List.set_cons_succ]
        refine held_one (i := 3) (by kernel_rfl) rfl (fun K hK => ?_)
        go_simp
        refine (HT2.out _ hB3).mono ?_
        rintro en W4 ⟨B2, d2, rfl, hI⟩
        have hb4 := hI.below
        have hB4 := hB3.trans (hb4.mono hB3.size)
        have O2_4 := ownsRow_lowerSg (base' := w2.heap.size) hI.own hB3.size
        have R5_4 := (hb4.block _ (Array.getElem?_eq_some_iff.1 R5_3).1).trans R5_3
        have k25 : ∀ r, (Value.slice B2 m.length d2).ownBlock = some r → r ≠ W0.heap.size := fun r e => (Nat.ne_of_lt (Nat.lt_of_lt_of_le (Array.getElem?_eq_some_iff.1 R5_3).1 (hI.own.lt r e).1)).symm
        have R6_4 := (hb4.block _ (Array.getElem?_eq_some_iff.1 R6_3).1).trans R6_3
        have k26 : ∀ r, (Value.slice B2 m.length d2).ownBlock = some r → r ≠ W1.heap.size := fun r e => (Nat.ne_of_lt (Nat.lt_of_lt_of_le (Array.getElem?_eq_some_iff.1 R6_3).1 (hI.own.lt r e).1)).symm
        have O1_4 := own_below O1_3 hb4
        refine hK _ _ (HS.out _ hB4) ?_
        clear hK K hb4 hI
        try simp only [Act.put, List.getElem_toArray, List.getElem_cons_succ, List.getElem_cons_zero, List.setIfInBounds_toArray, List.set_cons_zero, List.set_cons_succ]
        refine held_one (i := 6) (by kernel_rfl) rfl (fun K hK => ?_)
        have y0 : W4.cell? ⟨W0.heap.size, 0, none⟩ = some (.int .i64 0) := cell_of_row _ _ _ _ _ _ R5_4
        have z0 : W4.frozen? ⟨W0.heap.size, 0, none⟩ = false := frozen_of_row _ _ _ _ _ R5_4
        have y1 : W4.cell? ⟨W0.heap.size, 1, none⟩ = some (.slice none 0 0) := cell_of_row _ _ _ _ _ _ R5_4
        have z1 : W4.frozen? ⟨W0.heap.size, 1, none⟩ = false := frozen_of_row _ _ _ _ _ R5_4
        have y2 : W4.cell? ⟨W0.heap.size, 2, none⟩ = some (.int .i64 0) := cell_of_row _ _ _ _ _ _ R5_4
        have z2 : W4.frozen? ⟨W0.heap.size, 2, none⟩ = false := frozen_of_row _ _ _ _ _ R5_4
        have y3 : W4.cell? ⟨W0.heap.size, 3, none⟩ = some (.int .u32 0) := cell_of_row _ _ _ _ _ _ R5_4
        have z3 : W4.frozen? ⟨W0.heap.size, 3, none⟩ = false := frozen_of_row _ _ _ _ _ R5_4
        have y4 : W4.cell? ⟨W0.heap.size, 4, none⟩ = some (.int .u64 0) := cell_of_row _ _ _ _ _ _ R5_4
        have z4 : W4.frozen? ⟨W0.heap.size, 4, none⟩ = false := frozen_of_row _ _ _ _ _ R5_4
        have y5 : W4.cell? ⟨W0.heap.size, 5, none⟩ = some (.int .u64 0) := cell_of_row _ _ _ _ _ _ R5_4
        have z5 : W4.frozen? ⟨W0.heap.size, 5, none⟩ = false := frozen_of_row _ _ _ _ _ R5_4
        go_simp
        have hB5 : Below w2.heap.size w2 ((((((W4.setCell ⟨W0.heap.size, 0, none⟩ (.int .i64 z)).setCell ⟨W0.heap.size, 1, none⟩ (.slice B1 l.length d1)).setCell ⟨W0.heap.size, 2, none⟩ (.int .i64 tl)).setCell ⟨W0.heap.size, 3, none⟩ (.int .u32 (sw : Nat))).setCell ⟨W0.heap.size, 4, none⟩ (.int .u64 (sh : Nat))).setCell ⟨W0.heap.size, 5, none⟩ (.int .u64 (slo : Nat))) := six_below (.int .i64 z) (.slice B1 l.length d1) (.int .i64 tl) (.int .u32 (sw : Nat)) (.int .u64 (sh : Nat)) (.int .u64 (slo : Nat)) hB4 L5
        have R5_5 : ((((((W4.setCell ⟨W0.heap.size, 0, none⟩ (.int .i64 z)).setCell ⟨W0.heap.size, 1, none⟩ (.slice B1 l.length d1)).setCell ⟨W0.heap.size, 2, none⟩ (.int .i64 tl)).setCell ⟨W0.heap.size, 3, none⟩ (.int .u32 (sw : Nat))).setCell ⟨W0.heap.size, 4, none⟩ (.int .u64 (sh : Nat))).setCell ⟨W0.heap.size, 5, none⟩ (.int .u64 (slo : Nat))).heap[W0.heap.size]? = some (.cells #[.int .i64 z, .slice B1 l.length d1, .int .i64 tl, .int .u32 (sw : Nat), .int .u64 (sh : Nat), .int .u64 (slo : Nat)] 32 (0, 0)) := six_row _ _ _ _ _ _ (.int .i64 z) (.slice B1 l.length d1) (.int .i64 tl) (.int .u32 (sw : Nat)) (.int .u64 (sh : Nat)) (.int .u64 (slo : Nat)) rfl R5_4
        have R6_5 := (six_other W4 (W0.heap.size) (W1.heap.size) (.int .i64 z) (.slice B1 l.length d1) (.int .i64 tl) (.int .u32 (sw : Nat)) (.int .u64 (sh : Nat)) (.int .u64 (slo : Nat)) (by first | exact hne | exact hne2)).trans R6_4
        change ((((((W4.setCell ⟨W0.heap.size, 0, none⟩ (.int .i64 z)).setCell ⟨W0.heap.size, 1, none⟩ (.slice B1 l.length d1)).setCell ⟨W0.heap.size, 2, none⟩ (.int .i64 tl)).setCell ⟨W0.heap.size, 3, none⟩ (.int .u32 (sw : Nat))).setCell ⟨W0.heap.size, 4, none⟩ (.int .u64 (sh : Nat))).setCell ⟨W0.heap.size, 5, none⟩ (.int .u64 (slo : Nat))).heap[_]? = _ at R6_5
        have O1_5 : ((((((W4.setCell ⟨W0.heap.size, 0, none⟩ (.int .i64 z)).setCell ⟨W0.heap.size, 1, none⟩ (.slice B1 l.length d1)).setCell ⟨W0.heap.size, 2, none⟩ (.int .i64 tl)).setCell ⟨W0.heap.size, 3, none⟩ (.int .u32 (sw : Nat))).setCell ⟨W0.heap.size, 4, none⟩ (.int .u64 (sh : Nat))).setCell ⟨W0.heap.size, 5, none⟩ (.int .u64 (slo : Nat))).ownsRow w2.heap.size 30 3 (Value.slice B1 l.length d1) l.length (cellsSg l) := six_own (.int .i64 z) (.slice B1 l.length d1) (.int .i64 tl) (.int .u32 (sw : Nat)) (.int .u64 (sh : Nat)) (.int .u64 (slo : Nat)) O1_4 k15
        have O2_5 : ((((((W4.setCell ⟨W0.heap.size, 0, none⟩ (.int .i64 z)).setCell ⟨W0.heap.size, 1, none⟩ (.slice B1 l.length d1)).setCell ⟨W0.heap.size, 2, none⟩ (.int .i64 tl)).setCell ⟨W0.heap.size, 3, none⟩ (.int .u32 (sw : Nat))).setCell ⟨W0.heap.size, 4, none⟩ (.int .u64 (sh : Nat))).setCell ⟨W0.heap.size, 5, none⟩ (.int .u64 (slo : Nat))).ownsRow w2.heap.size 30 3 (Value.slice B2 m.length d2) m.length (cellsSg m) := six_own (.int .i64 z) (.slice B1 l.length d1) (.int .i64 tl) (.int .u32 (sw : Nat)) (.int .u64 (sh : Nat)) (.int .u64 (slo : Nat)) O2_4 k25
        refine hK _ _ (HS.out _ hB5) ?_
        clear hK K y0 y1 y2 y3 y4 y5 z0 z1 z2 z3 z4 z5
        try simp only [Act.put, List.getElem_toArray, List.getElem_cons_succ, List.getElem_cons_zero, List.setIfInBounds_toArray, List.set_cons_zero, List.set_cons_succ]
        generalize ((((((W4.setCell ⟨W0.heap.size, 0, none⟩ (.int .i64 z)).setCell ⟨W0.heap.size, 1, none⟩ (.slice B1 l.length d1)).setCell ⟨W0.heap.size, 2, none⟩ (.int .i64 tl)).setCell ⟨W0.heap.size, 3, none⟩ (.int .u32 (sw : Nat))).setCell ⟨W0.heap.size, 4, none⟩ (.int .u64 (sh : Nat))).setCell ⟨W0.heap.size, 5, none⟩ (.int .u64 (slo : Nat))) = W5 at hB5 R5_5 R6_5 O1_5 O2_5 ⊢
        refine held_one (i := 7) (by kernel_rfl) rfl (fun K hK => ?_)
        have y0 : W5.cell? ⟨W1.heap.size, 0, none⟩ = some (.int .i64 0) := cell_of_row _ _ _ _ _ _ R6_5
        have z0 : W5.frozen? ⟨W1.heap.size, 0, none⟩ = false := frozen_of_row _ _ _ _ _ R6_5
        have y1 : W5.cell? ⟨W1.heap.size, 1, none⟩ = some (.slice none 0 0) := cell_of_row _ _ _ _ _ _ R6_5
        have z1 : W5.frozen? ⟨W1.heap.size, 1, none⟩ = false := frozen_of_row _ _ _ _ _ R6_5
        have y2 : W5.cell? ⟨W1.heap.size, 2, none⟩ = some (.int .i64 0) := cell_of_row _ _ _ _ _ _ R6_5
        have z2 : W5.frozen? ⟨W1.heap.size, 2, none⟩ = false := frozen_of_row _ _ _ _ _ R6_5
        have y3 : W5.cell? ⟨W1.heap.size, 3, none⟩ = some (.int .u32 0) := cell_of_row _ _ _ _ _ _ R6_5
        have z3 : W5.frozen? ⟨W1.heap.size, 3, none⟩ = false := frozen_of_row _ _ _ _ _ R6_5
        have y4 : W5.cell? ⟨W1.heap.size, 4, none⟩ = some (.int .u64 0) := cell_of_row _ _ _ _ _ _ R6_5
        have z4 : W5.frozen? ⟨W1.heap.size, 4, none⟩ = false := frozen_of_row _ _ _ _ _ R6_5
        have y5 : W5.cell? ⟨W1.heap.size, 5, none⟩ = some (.int .u64 0) := cell_of_row _ _ _ _ _ _ R6_5
        have z5 : W5.frozen? ⟨W1.heap.size, 5, none⟩ = false := frozen_of_row _ _ _ _ _ R6_5
        go_simp
        have hB6 : Below w2.heap.size w2 ((((((W5.setCell ⟨W1.heap.size, 0, none⟩ (.int .i64 z')).setCell ⟨W1.heap.size, 1, none⟩ (.slice B2 m.length d2)).setCell ⟨W1.heap.size, 2, none⟩ (.int .i64 tl')).setCell ⟨W1.heap.size, 3, none⟩ (.int .u32 (tw : Nat))).setCell ⟨W1.heap.size, 4, none⟩ (.int .u64 (th : Nat))).setCell ⟨W1.heap.size, 5, none⟩ (.int .u64 (tlo : Nat))) := six_below (.int .i64 z') (.slice B2 m.length d2) (.int .i64 tl') (.int .u32 (tw : Nat)) (.int .u64 (th : Nat)) (.int .u64 (tlo : Nat)) hB5 L6
        have R6_6 : ((((((W5.setCell ⟨W1.heap.size, 0, none⟩ (.int .i64 z')).setCell ⟨W1.heap.size, 1, none⟩ (.slice B2 m.length d2)).setCell ⟨W1.heap.size, 2, none⟩ (.int .i64 tl')).setCell ⟨W1.heap.size, 3, none⟩ (.int .u32 (tw : Nat))).setCell ⟨W1.heap.size, 4, none⟩ (.int .u64 (th : Nat))).setCell ⟨W1.heap.size, 5, none⟩ (.int .u64 (tlo : Nat))).heap[W1.heap.size]? = some (.cells #[.int .i64 z', .slice B2 m.length d2, .int .i64 tl', .int .u32 (tw : Nat), .int .u64 (th : Nat), .int .u64 (tlo : Nat)] 32 (0, 0)) := six_row _ _ _ _ _ _ (.int .i64 z') (.slice B2 m.length d2) (.int .i64 tl') (.int .u32 (tw : Nat)) (.int .u64 (th : Nat)) (.int .u64 (tlo : Nat)) rfl R6_5
        have R5_6 := (six_other W5 (W1.heap.size) (W0.heap.size) (.int .i64 z') (.slice B2 m.length d2) (.int .i64 tl') (.int .u32 (tw : Nat)) (.int .u64 (th : Nat)) (.int .u64 (tlo : Nat)) (by first | exact hne | exact hne2)).trans R5_5
        change ((((((W5.setCell ⟨W1.heap.size, 0, none⟩ (.int .i64 z')).setCell ⟨W1.heap.size, 1, none⟩ (.slice B2 m.length d2)).setCell ⟨W1.heap.size, 2, none⟩ (.int .i64 tl')).setCell ⟨W1.heap.size, 3, none⟩ (.int .u32 (tw : Nat))).setCell ⟨W1.heap.size, 4, none⟩ (.int .u64 (th : Nat))).setCell ⟨W1.heap.size, 5, none⟩ (.int .u64 (tlo : Nat))).heap[_]? = _ at R5_6
        have O1_6 : ((((((W5.setCell ⟨W1.heap.size, 0, none⟩ (.int .i64 z')).setCell ⟨W1.heap.size, 1, none⟩ (.slice B2 m.length d2)).setCell ⟨W1.heap.size, 2, none⟩ (.int .i64 tl')).setCell ⟨W1.heap.size, 3, none⟩ (.int .u32 (tw : Nat))).setCell ⟨W1.heap.size, 4, none⟩ (.int .u64 (th : Nat))).setCell ⟨W1.heap.size, 5, none⟩ (.int .u64 (tlo : Nat))).ownsRow w2.heap.size 30 3 (Value.slice B1 l.length d1) l.length (cellsSg l) := six_own (.int .i64 z') (.slice B2 m.length d2) (.int .i64 tl') (.int .u32 (tw : Nat)) (.int .u64 (th : Nat)) (.int .u64 (tlo : Nat)) O1_5 k16
        have O2_6 : ((((((W5.setCell ⟨W1.heap.size, 0, none⟩ (.int .i64 z')).setCell ⟨W1.heap.size, 1, none⟩ (.slice B2 m.length d2)).setCell ⟨W1.heap.size, 2, none⟩ (.int .i64 tl')).setCell ⟨W1.heap.size, 3, none⟩ (.int .u32 (tw : Nat))).setCell ⟨W1.heap.size, 4, none⟩ (.int .u64 (th : Nat))).setCell ⟨W1.heap.size, 5, none⟩ (.int .u64 (tlo : Nat))).ownsRow w2.heap.size 30 3 (Value.slice B2 m.length d2) m.length (cellsSg m) := six_own (.int .i64 z') (.slice B2 m.length d2) (.int .i64 tl') (.int .u32 (tw : Nat)) (.int .u64 (th : Nat)) (.int .u64 (tlo : Nat)) O2_5 k26
        refine hK _ _ (HS.out _ hB6) ?_
        clear hK K y0 y1 y2 y3 y4 y5 z0 z1 z2 z3 z4 z5
        try simp only [Act.put, List.getElem_toArray, List.getElem_cons_succ, List.getElem_cons_zero, List.setIfInBounds_toArray, List.set_cons_zero, List.set_cons_succ]
        generalize ((((((W5.setCell ⟨W1.heap.size, 0, none⟩ (.int .i64 z')).setCell ⟨W1.heap.size, 1, none⟩ (.slice B2 m.length d2)).setCell ⟨W1.heap.size, 2, none⟩ (.int .i64 tl')).setCell ⟨W1.heap.size, 3, none⟩ (.int .u32 (tw : Nat))).setCell ⟨W1.heap.size, 4, none⟩ (.int .u64 (th : Nat))).setCell ⟨W1.heap.size, 5, none⟩ (.int .u64 (tlo : Nat))) = W6 at hB6 R5_6 R6_6 O1_6 O2_6 ⊢
        refine wpAnyH_done (by kernel_rfl) ?_ _
        go_wp2_with fail
        go_meet
        case rel => exact ⟨_, _, B1, d1, B2, d2, rfl, rfl, hide ⟨hB6, R5_6, R6_6, RdSg.own O1_6, RdSg.own O2_6⟩⟩
    · go_simp
      have hb1 := (Below.refl W0.heap.size W0).alloc (Nat.le_refl _) (Obj.cells #[.int .i64 0, .slice none 0 0, .int .i64 0, .int .u32 0, .int .u64 0, .int .u64 0] 32)
      have hB1 := hB0.trans (hb1.mono hB0.size)
      have R6_1 := World.alloc_heap_new W0 (Obj.cells #[.int .i64 0, .slice none 0 0, .int .i64 0, .int .u32 0, .int .u64 0, .int .u64 0] 32)
      have L6 := hB0.size
      refine hK _ _ (HS.out _ hB1) ?_
      clear hK K hb1
      try simp only [Act.put, List.getElem_toArray, List.getElem_cons_succ, List.getElem_cons_zero, List.setIfInBounds_toArray, List.set_cons_zero, List.set_cons_succ]
      generalize W0.alloc (Obj.cells #[.int .i64 0, .slice none 0 0, .int .i64 0, .int .u32 0, .int .u64 0, .int .u64 0] 32) = W1 at hB1 R6_1 ⊢
      refine held_two (i := 1) (k := 4) (by kernel_rfl) rfl rfl (fun K hK => ?_) (fun K hK => ?_)
      · go_simp
        refine (HT1.out _ hB1).mono ?_
        rintro en W2 ⟨B1, d1, rfl, hI⟩
        have hb2 := hI.below
        have hB2 := hB1.trans (hb2.mono hB1.size)
        have O1_2 := ownsRow_lowerSg (base' := w2.heap.size) hI.own hB1.size
        have R6_2 := (hb2.block _ (Array.getElem?_eq_some_iff.1 R6_1).1).trans R6_1
        have k16 : ∀ r, (Value.slice B1 l.length d1).ownBlock = some r → r ≠ W0.heap.size := fun r e => (Nat.ne_of_lt (Nat.lt_of_lt_of_le (Array.getElem?_eq_some_iff.1 R6_1).1 (hI.own.lt r e).1)).symm
        refine hK _ _ (HS.out _ hB2) ?_
        clear hK K hb2 hI
        try simp only [Act.put, List.getElem_toArray, List.getElem_cons_succ, List.getElem_cons_zero, List.setIfInBounds_toArray, List.set_cons_zero, List.set_cons_succ]
        refine held_two (i := 3) (k := 4) (by kernel_rfl) rfl rfl (fun K hK => ?_) (fun K hK => ?_)
        · go_simp
          refine (HT2.out _ hB2).mono ?_
          rintro en W3 ⟨B2, d2, rfl, hI⟩
          have hb3 := hI.below
          have hB3 := hB2.trans (hb3.mono hB2.size)
          have O2_3 := ownsRow_lowerSg (base' := w2.heap.size) hI.own hB2.size
          have R6_3 := (hb3.block _ (Array.getElem?_eq_some_iff.1 R6_2).1).trans R6_2
          have k26 : ∀ r, (Value.slice B2 m.length d2).ownBlock = some r → r ≠ W0.heap.size := fun r e => (Nat.ne_of_lt (Nat.lt_of_lt_of_le (Array.getElem?_eq_some_iff.1 R6_2).1 (hI.own.lt r e).1)).symm
          have O1_3 := own_below O1_2 hb3
          refine hK _ _ (HS.out _ hB3) ?_
          clear hK K hb3 hI
          try simp only [Act.put, List.getElem_toArray, List.getElem_cons_succ, List.getElem_cons_zero, List.setIfInBounds_toArray, List.set_cons_zero, List.set_cons_succ]
          refine held_one (i := 4) (by kernel_rfl) rfl (fun K hK => ?_)
          go_simp
          have hb4 := (Below.refl W3.heap.size W3).alloc (Nat.le_refl _) (Obj.cells #[.int .i64 0, .slice none 0 0, .int .i64 0, .int .u32 0, .int .u64 0, .int .u64 0] 32)
          have hB4 := hB3.trans (hb4.mono hB3.size)
          have R5_4 := World.alloc_heap_new W3 (Obj.cells #[.int .i64 0, .slice none 0 0, .int .i64 0, .int .u32 0, .int .u64 0, .int .u64 0] 32)
          have L5 := hB3.size
          have R6_4 := (hb4.block _ (Array.getElem?_eq_some_iff.1 R6_3).1).trans R6_3
          have hne : W0.heap.size ≠ W3.heap.size := Nat.ne_of_lt (Array.getElem?_eq_some_iff.1 R6_3).1
          have hne2 : W3.heap.size ≠ W0.heap.size := hne.symm
          have O1_4 := O1_3.alloc (Obj.cells #[.int .i64 0, .slice none 0 0, .int .i64 0, .int .u32 0, .int .u64 0, .int .u64 0] 32)
          have k15 : ∀ r, (Value.slice B1 l.length d1).ownBlock = some r → r ≠ W3.heap.size := fun r e => Nat.ne_of_lt (O1_3.lt r e).2
          have O2_4 := O2_3.alloc (Obj.cells #[.int .i64 0, .slice none 0 0, .int .i64 0, .int .u32 0, .int .u64 0, .int .u64 0] 32)
          have k25 : ∀ r, (Value.slice B2 m.length d2).ownBlock = some r → r ≠ W3.heap.size := fun r e => Nat.ne_of_lt (O2_3.lt r e).2
          refine hK _ _ (HS.out _ hB4) ?_
          clear hK K hb4
          try simp only [Act.put, List.getElem_toArray, List.getElem_cons_succ, List.getElem_cons_zero, List.setIfInBounds_toArray, List.set_cons_zero, List.set_cons_succ]
          generalize W3.alloc (Obj.cells #[.int .i64 0, .slice none 0 0, .int .i64 0, .int .u32 0, .int .u64 0, .int .u64 0] 32) = W4 at hB4 R5_4 R6_4 O1_4 O2_4 ⊢
          refine held_one (i := 6) (by kernel_rfl) rfl (fun K hK => ?_)
          have y0 : W4.cell? ⟨W3.heap.size, 0, none⟩ = some (.int .i64 0) := cell_of_row _ _ _ _ _ _ R5_4
          have z0 : W4.frozen? ⟨W3.heap.size, 0, none⟩ = false := frozen_of_row _ _ _ _ _ R5_4
          have y1 : W4.cell? ⟨W3.heap.size, 1, none⟩ = some (.slice none 0 0) := cell_of_row _ _ _ _ _ _ R5_4
          have z1 : W4.frozen? ⟨W3.heap.size, 1, none⟩ = false := frozen_of_row _ _ _ _ _ R5_4
          have y2 : W4.cell? ⟨W3.heap.size, 2, none⟩ = some (.int .i64 0) := cell_of_row _ _ _ _ _ _ R5_4
          have z2 : W4.frozen? ⟨W3.heap.size, 2, none⟩ = false := frozen_of_row _ _ _ _ _ R5_4
          have y3 : W4.cell? ⟨W3.heap.size, 3, none⟩ = some (.int .u32 0) := cell_of_row _ _ _ _ _ _ R5_4
          have z3 : W4.frozen? ⟨W3.heap.size, 3, none⟩ = false := frozen_of_row _ _ _ _ _ R5_4
          have y4 : W4.cell? ⟨W3.heap.size, 4, none⟩ = some (.int .u64 0) := cell_of_row _ _ _ _ _ _ R5_4
          have z4 : W4.frozen? ⟨W3.heap.size, 4, none⟩ = false := frozen_of_row _ _ _ _ _ R5_4
          have y5 : W4.cell? ⟨W3.heap.size, 5, none⟩ = some (.int .u64 0) := cell_of_row _ _ _ _ _ _ R5_4
          have z5 : W4.frozen? ⟨W3.heap.size, 5, none⟩ = false := frozen_of_row _ _ _ _ _ R5_4
          go_simp
          have hB5 : Below w2.heap.size w2 ((((((W4.setCell ⟨W3.heap.size, 0, none⟩ (.int .i64 z)).setCell ⟨W3.heap.size, 1, none⟩ (.slice B1 l.length d1)).setCell ⟨W3.heap.size, 2, none⟩ (.int .i64 tl)).setCell ⟨W3.heap.size, 3, none⟩ (.int .u32 (sw : Nat))).setCell ⟨W3.heap.size, 4, none⟩ (.int .u64 (sh : Nat))).setCell ⟨W3.heap.size, 5, none⟩ (.int .u64 (slo : Nat))) := six_below (.int .i64 z) (.slice B1 l.length d1) (.int .i64 tl) (.int .u32 (sw : Nat)) (.int .u64 (sh : Nat)) (.int .u64 (slo : Nat)) hB4 L5
          have R5_5 : ((((((W4.setCell ⟨W3.heap.size, 0, none⟩ (.int .i64 z)).setCell ⟨W3.heap.size, 1, none⟩ (.slice B1 l.length d1)).setCell ⟨W3.heap.size, 2, none⟩ (.int .i64 tl)).setCell ⟨W3.heap.size, 3, none⟩ (.int .u32 (sw : Nat))).setCell ⟨W3.heap.size, 4, none⟩ (.int .u64 (sh : Nat))).setCell ⟨W3.heap.size, 5, none⟩ (.int .u64 (slo : Nat))).heap[W3.heap.size]? = some (.cells #[.int .i64 z, .slice B1 l.length d1, .int .i64 tl, .int .u32 (sw : Nat), .int .u64 (sh : Nat), .int .u64 (slo : Nat)] 32 (0, 0)) := six_row _ _ _ _ _ _ (.int .i64 z) (.slice B1 l.length d1) (.int .i64 tl) (.int .u32 (sw : Nat)) (.int .u64 (sh : Nat)) (.int .u64 (slo : Nat)) rfl R5_4
          have R6_5 := (six_other W4 (W3.heap.size) (W0.heap.size) (.int .i64 z) (.slice B1 l.length d1) (.int .i64 tl) (.int .u32 (sw : Nat)) (.int .u64 (sh : Nat)) (.int .u64 (slo : Nat)) (by first | exact hne | exact hne2)).trans R6_4
          change ((((((W4.setCell ⟨W3.heap.size, 0, none⟩ (.int .i64 z)).setCell ⟨W3.heap.size, 1, none⟩ (.slice B1 l.length d1)).setCell ⟨W3.heap.size, 2, none⟩ (.int .i64 tl)).setCell ⟨W3.heap.size, 3, none⟩ (.int .u32 (sw : Nat))).setCell ⟨W3.heap.size, 4, none⟩ (.int .u64 (sh : Nat))).setCell ⟨W3.heap.size, 5, none⟩ (.int .u64 (slo : Nat))).heap[_]? = _ at R6_5
          have O1_5 : ((((((W4.setCell ⟨W3.heap.size, 0, none⟩ (.int .i64 z)).setCell ⟨W3.heap.size, 1, none⟩ (.slice B1 l.length d1)).setCell ⟨W3.heap.size, 2, none⟩ (.int .i64 tl)).setCell ⟨W3.heap.size, 3, none⟩ (.int .u32 (sw : Nat))).setCell ⟨W3.heap.size, 4, none⟩ (.int .u64 (sh : Nat))).setCell ⟨W3.heap.size, 5, none⟩ (.int .u64 (slo : Nat))).ownsRow w2.heap.size 30 3 (Value.slice B1 l.length d1) l.length (cellsSg l) := six_own (.int .i64 z) (.slice B1 l.length d1) (.int .i64 tl) (.int .u32 (sw : Nat)) (.int .u64 (sh : Nat)) (.int .u64 (slo : Nat)) O1_4 k15
          have O2_5 : ((((((W4.setCell ⟨W3.heap.size, 0, none⟩ (.int .i64 z)).setCell ⟨W3.heap.size, 1, none⟩ (.slice B1 l.length d1)).setCell ⟨W3.heap.size, 2, none⟩ (.int .i64 tl)).setCell ⟨W3.heap.size, 3, none⟩ (.int .u32 (sw : Nat))).setCell ⟨W3.heap.size, 4, none⟩ (.int .u64 (sh : Nat))).setCell ⟨W3.heap.size, 5, none⟩ (.int .u64 (slo : Nat))).ownsRow w2.heap.size 30 3 (Value.slice B2 m.length d2) m.length (cellsSg m) := six_own (.int .i64 z) (.slice B1 l.length d1) (.int .i64 tl) (.int .u32 (sw : Nat)) (.int .u64 (sh : Nat)) (.int .u64 (slo : Nat)) O2_4 k25
          refine hK _ _ (HS.out _ hB5) ?_
          clear hK K y0 y1 y2 y3 y4 y5 z0 z1 z2 z3 z4 z5
          try simp only [Act.put, List.getElem_toArray, List.getElem_cons_succ, List.getElem_cons_zero, List.setIfInBounds_toArray, List.set_cons_zero, List.set_cons_succ]
          generalize ((((((W4.setCell ⟨W3.heap.size, 0, none⟩ (.int .i64 z)).setCell ⟨W3.heap.size, 1, none⟩ (.slice B1 l.length d1)).setCell ⟨W3.heap.size, 2, none⟩ (.int .i64 tl)).setCell ⟨W3.heap.size, 3, none⟩ (.int .u32 (sw : Nat))).setCell ⟨W3.heap.size, 4, none⟩ (.int .u64 (sh : Nat))).setCell ⟨W3.heap.size, 5, none⟩ (.int .u64 (slo : Nat))) = W5 at hB5 R5_5 R6_5 O1_5 O2_5 ⊢
          refine held_one (i := 7) (by kernel_rfl) rfl (fun K hK => ?_)
          have y0 : W5.cell? ⟨W0.heap.size, 0, none⟩ = some (.int .i64 0) := cell_of_row _ _ _ _ _ _ R6_5
          have z0 : W5.frozen? ⟨W0.heap.size, 0, none⟩ = false := frozen_of_row _ _ _ _ _ R6_5
          have y1 : W5.cell? ⟨W0.heap.size, 1, none⟩ = some (.slice none 0 0) := cell_of_row _ _ _ _ _ _ R6_5
          have z1 : W5.frozen? ⟨W0.heap.size, 1, none⟩ = false := frozen_of_row _ _ _ _ _ R6_5
          have y2 : W5.cell? ⟨W0.heap.size, 2, none⟩ = some (.int .i64 0) := cell_of_row _ _ _ _ _ _ R6_5
          have z2 : W5.frozen? ⟨W0.heap.size, 2, none⟩ = false := frozen_of_row _ _ _ _ _ R6_5
          have y3 : W5.cell? ⟨W0.heap.size, 3, none⟩ = some (.int .u32 0) := cell_of_row _ _ _ _ _ _ R6_5
          have z3 : W5.frozen? ⟨W0.heap.size, 3, none⟩ = false := frozen_of_row _ _ _ _ _ R6_5
          have y4 : W5.cell? ⟨W0.heap.size, 4, none⟩ = some (.int .u64 0) := cell_of_row _ _ _ _ _ _ R6_5
          have z4 : W5.frozen? ⟨W0.heap.size, 4, none⟩ = false := frozen_of_row _ _ _ _ _ R6_5
          have y5 : W5.cell? ⟨W0.heap.size, 5, none⟩ = some (.int .u64 0) := cell_of_row _ _ _ _ _ _ R6_5
          have z5 : W5.frozen? ⟨W0.heap.size, 5, none⟩ = false := frozen_of_row _ _ _ _ _ R6_5
          go_simp
          have hB6 : Below w2.heap.size w2 ((((((W5.setCell ⟨W0.heap.size, 0, none⟩ (.int .i64 z')).setCell ⟨W0.heap.size, 1, none⟩ (.slice B2 m.length d2)).setCell ⟨W0.heap.size, 2, none⟩ (.int .i64 tl')).setCell ⟨W0.heap.size, 3, none⟩ (.int .u32 (tw : Nat))).setCell ⟨W0.heap.size, 4, none⟩ (.int .u64 (th : Nat))).setCell ⟨W0.heap.size, 5, none⟩ (.int .u64 (tlo : Nat))) := six_below (.int .i64 z') (.slice B2 m.length d2) (.int .i64 tl') (.int .u32 (tw : Nat)) (.int .u64 (th : Nat)) (.int .u64 (tlo : Nat)) hB5 L6
          have R6_6 : ((((((W5.setCell ⟨W0.heap.size, 0, none⟩ (.int .i64 z')).setCell ⟨W0.heap.size, 1, none⟩ (.slice B2 m.length d2)).setCell ⟨W0.heap.size, 2, none⟩ (.int .i64 tl')).setCell ⟨W0.heap.size, 3, none⟩ (.int .u32 (tw : Nat))).setCell ⟨W0.heap.size, 4, none⟩ (.int .u64 (th : Nat))).setCell ⟨W0.heap.size, 5, none⟩ (.int .u64 (tlo : Nat))).heap[W0.heap.size]? = some (.cells #[.int .i64 z', .slice B2 m.length d2, .int .i64 tl', .int .u32 (tw : Nat), .int .u64 (th : Nat), .int .u64 (tlo : Nat)] 32 (0, 0)) := six_row _ _ _ _ _ _ (.int .i64 z') (.slice B2 m.length d2) (.int .i64 tl') (.int .u32 (tw : Nat)) (.int .u64 (th : Nat)) (.int .u64 (tlo : Nat)) rfl R6_5
          have R5_6 := (six_other W5 (W0.heap.size) (W3.heap.size) (.int .i64 z') (.slice B2 m.length d2) (.int .i64 tl') (.int .u32 (tw : Nat)) (.int .u64 (th : Nat)) (.int .u64 (tlo : Nat)) (by first | exact hne | exact hne2)).trans R5_5
          change ((((((W5.setCell ⟨W0.heap.size, 0, none⟩ (.int .i64 z')).setCell ⟨W0.heap.size, 1, none⟩ (.slice B2 m.length d2)).setCell ⟨W0.heap.size, 2, none⟩ (.int .i64 tl')).setCell ⟨W0.heap.size, 3, none⟩ (.int .u32 (tw : Nat))).setCell ⟨W0.heap.size, 4, none⟩ (.int .u64 (th : Nat))).setCell ⟨W0.heap.size, 5, none⟩ (.int .u64 (tlo : Nat))).heap[_]? = _ at R5_6
          have O1_6 : ((((((W5.setCell ⟨W0.heap.size, 0, none⟩ (.int .i64 z')).setCell ⟨W0.heap.size, 1, none⟩ (.slice B2 m.length d2)).setCell ⟨W0.heap.size, 2, none⟩ (.int .i64 tl')).setCell ⟨W0.heap.size, 3, none⟩ (.int .u32 (tw : Nat))).setCell ⟨W0.heap.size, 4, none⟩ (.int .u64 (th : Nat))).setCell ⟨W0.heap.size, 5, none⟩ (.int .u64 (tlo : Nat))).ownsRow w2.heap.size 30 3 (Value.slice B1 l.length d1) l.length (cellsSg l) := six_own (.int .i64 z') (.slice B2 m.length d2) (.int .i64 tl') (.int .u32 (tw : Nat)) (.int .u64 (th : Nat)) (.int .u64 (tlo : Nat)) O1_5 k16
          have O2_6 : ((((((W5.setCell ⟨W0.heap.size, 0, none⟩ (.int .i64 z')).setCell ⟨W0.heap.size, 1, none⟩ (.slice B2 m.length d2)).setCell ⟨W0.heap.size, 2, none⟩ (.int .i64 tl')).setCell ⟨W0.heap.size, 3, none⟩ (.int .u32 (tw : Nat))).setCell ⟨W0.heap.size, 4, none⟩ (.int .u64 (th : Nat))).setCell ⟨W0.heap.size, 5, none⟩ (.int .u64 (tlo : Nat))).ownsRow w2.heap.size 30 3 (Value.slice B2 m.length d2) m.length (cellsSg m) := six_own (.int .i64 z') (.slice B2 m.length d2) (.int .i64 tl') (.int .u32 (tw : Nat)) (.int .u64 (th : Nat)) (.int .u64 (tlo : Nat)) O2_5 k26
          refine hK _ _ (HS.out _ hB6) ?_
          clear hK K y0 y1 y2 y3 y4 y5 z0 z1 z2 z3 z4 z5
          try simp only [Act.put, List.getElem_toArray, List.getElem_cons_succ, List.getElem_cons_zero, List.setIfInBounds_toArray, List.set_cons_zero, List.set_cons_succ]
          generalize ((((((W5.setCell ⟨W0.heap.size, 0, none⟩ (.int .i64 z')).setCell ⟨W0.heap.size, 1, none⟩ (.slice B2 m.length d2)).setCell ⟨W0.heap.size, 2, none⟩ (.int .i64 tl')).setCell ⟨W0.heap.size, 3, none⟩ (.int .u32 (tw : Nat))).setCell ⟨W0.heap.size, 4, none⟩ (.int .u64 (th : Nat))).setCell ⟨W0.heap.size, 5, none⟩ (.int .u64 (tlo : Nat))) = W6 at hB6 R5_6 R6_6 O1_6 O2_6 ⊢
          refine wpAnyH_done (by kernel_rfl) ?_ _
          go_wp2_with fail
          go_meet
          case rel => exact ⟨_, _, B1, d1, B2, d2, rfl, rfl, hide ⟨hB6, R5_6, R6_6, RdSg.own O1_6, RdSg.own O2_6⟩⟩
        · go_simp
          have hb3 := (Below.refl W2.heap.size W2).alloc (Nat.le_refl _) (Obj.cells #[.int .i64 0, .slice none 0 0, .int .i64 0, .int .u32 0, .int .u64 0, .int .u64 0] 32)
          have hB3 := hB2.trans (hb3.mono hB2.size)
          have R5_3 := World.alloc_heap_new W2 (Obj.cells #[.int .i64 0, .slice none 0 0, .int .i64 0, .int .u32 0, .int .u64 0, .int .u64 0] 32)
          have L5 := hB2.size
          have R6_3 := (hb3.block _ (Array.getElem?_eq_some_iff.1 R6_2).1).trans R6_2
          have hne : W0.heap.size ≠ W2.heap.size := Nat.ne_of_lt (Array.getElem?_eq_some_iff.1 R6_2).1
          have hne2 : W2.heap.size ≠ W0.heap.size := hne.symm
          have O1_3 := O1_2.alloc (Obj.cells #[.int .i64 0, .slice none 0 0, .int .i64 0, .int .u32 0, .int .u64 0, .int .u64 0] 32)
          have k15 : ∀ r, (Value.slice B1 l.length d1).ownBlock = some r → r ≠ W2.heap.size := fun r e => Nat.ne_of_lt (O1_2.lt r e).2
          refine hK _ _ (HS.out _ hB3) ?_
          clear hK K hb3
          try simp only [Act.put, List.getElem_toArray, List.getElem_cons_succ, List.getElem_cons_zero, List.setIfInBounds_toArray, List.set_cons_zero, List.set_cons_succ]
          generalize W2.alloc (Obj.cells #[.int .i64 0, .slice none 0 0, .int .i64 0, .int .u32 0, .int .u64 0, .int .u64 0] 32) = W3 at hB3 R5_3 R6_3 O1_3 ⊢
          refine held_one (i := 3) (by kernel_rfl) rfl (fun K hK => ?_)
          go_simp
          refine (HT2.out _ hB3).mono ?_
          rintro en W4 ⟨B2, d2, rfl, hI⟩
          have hb4 := hI.below
          have hB4 := hB3.trans (hb4.mono hB3.size)
          have O2_4 := ownsRow_lowerSg (base' := w2.heap.size) hI.own hB3.size
          have R5_4 := (hb4.block _ (Array.getElem?_eq_some_iff.1 R5_3).1).trans R5_3
          have k25 : ∀ r, (Value.slice B2 m.length d2).ownBlock = some r → r ≠ W2.heap.size := fun r e => (Nat.ne_of_lt (Nat.lt_of_lt_of_le (Array.getElem?_eq_some_iff.1 R5_3).1 (hI.own.lt r e).1)).symm
          have R6_4 := (hb4.block _ (Array.getElem?_eq_some_iff.1 R6_3).1).trans R6_3
          have k26 : ∀ r, (Value.slice B2 m.length d2).ownBlock = some r → r ≠ W0.heap.size := fun r e => (Nat.ne_of_lt (Nat.lt_of_lt_of_le (Array.getElem?_eq_some_iff.1 R6_3).1 (hI.own.lt r e).1)).symm
          have O1_4 := own_below O1_3 hb4
          refine hK _ _ (HS.out _ hB4) ?_
          clear hK K hb4 hI
          try simp only [Act.put, List.getElem_toArray, List.getElem_cons_succ, List.getElem_cons_zero, List.setIfInBounds_toArray, List.set_cons_zero, List.set_cons_succ]
          refine held_one (i := 6) (by kernel_rfl) rfl (fun K hK => ?_)
          have y0 : W4.cell? ⟨W2.heap.size, 0, none⟩ = some (.int .i64 0) := cell_of_row _ _ _ _ _ _ R5_4
          have z0 : W4.frozen? ⟨W2.heap.size, 0, none⟩ = false := frozen_of_row _ _ _ _ _ R5_4
          have y1 : W4.cell? ⟨W2.heap.size, 1, none⟩ = some (.slice none 0 0) := cell_of_row _ _ _ _ _ _ R5_4
          have z1 : W4.frozen? ⟨W2.heap.size, 1, none⟩ = false := frozen_of_row _ _ _ _ _ R5_4
          have y2 : W4.cell? ⟨W2.heap.size, 2, none⟩ = some (.int .i64 0) := cell_of_row _ _ _ _ _ _ R5_4
          have z2 : W4.frozen? ⟨W2.heap.size, 2, none⟩ = false := frozen_of_row _ _ _ _ _ R5_4
          have y3 : W4.cell? ⟨W2.heap.size, 3, none⟩ = some (.int .u32 0) := cell_of_row _ _ _ _ _ _ R5_4
          have z3 : W4.frozen? ⟨W2.heap.size, 3, none⟩ = false := frozen_of_row _ _ _ _ _ R5_4
          have y4 : W4.cell? ⟨W2.heap.size, 4, none⟩ = some (.int .u64 0) := cell_of_row _ _ _ _ _ _ R5_4
          have z4 : W4.frozen? ⟨W2.heap.size, 4, none⟩ = false := frozen_of_row _ _ _ _ _ R5_4
          have y5 : W4.cell? ⟨W2.heap.size, 5, none⟩ = some (.int .u64 0) := cell_of_row _ _ _ _ _ _ R5_4
          have z5 : W4.frozen? ⟨W2.heap.size, 5, none⟩ = false := frozen_of_row _ _ _ _ _ R5_4
          go_simp
          have hB5 : Below w2.heap.size w2 ((((((W4.setCell ⟨W2.heap.size, 0, none⟩ (.int .i64 z)).setCell ⟨W2.heap.size, 1, none⟩ (.slice B1 l.length d1)).setCell ⟨W2.heap.size, 2, none⟩ (.int .i64 tl)).setCell ⟨W2.heap.size, 3, none⟩ (.int .u32 (sw : Nat))).setCell ⟨W2.heap.size, 4, none⟩ (.int .u64 (sh : Nat))).setCell ⟨W2.heap.size, 5, none⟩ (.int .u64 (slo : Nat))) := six_below (.int .i64 z) (.slice B1 l.length d1) (.int .i64 tl) (.int .u32 (sw : Nat)) (.int .u64 (sh : Nat)) (.int .u64 (slo : Nat)) hB4 L5
          have R5_5 : ((((((W4.setCell ⟨W2.heap.size, 0, none⟩ (.int .i64 z)).setCell ⟨W2.heap.size, 1, none⟩ (.slice B1 l.length d1)).setCell ⟨W2.heap.size, 2, none⟩ (.int .i64 tl)).setCell ⟨W2.heap.size, 3, none⟩ (.int .u32 (sw : Nat))).setCell ⟨W2.heap.size, 4, none⟩ (.int .u64 (sh : Nat))).setCell ⟨W2.heap.size, 5, none⟩ (.int .u64 (slo : Nat))).heap[W2.heap.size]? = some (.cells #[.int .i64 z, .slice B1 l.length d1, .int .i64 tl, .int .u32 (sw : Nat), .int .u64 (sh : Nat), .int .u64 (slo : Nat)] 32 (0, 0)) := six_row _ _ _ _ _ _ (.int .i64 z) (.slice B1 l.length d1) (.int .i64 tl) (.int .u32 (sw : Nat)) (.int .u64 (sh : Nat)) (.int .u64 (slo : Nat)) rfl R5_4
          have R6_5 := (six_other W4 (W2.heap.size) (W0.heap.size) (.int .i64 z) (.slice B1 l.length d1) (.int .i64 tl) (.int .u32 (sw : Nat)) (.int .u64 (sh : Nat)) (.int .u64 (slo : Nat)) (by first | exact hne | exact hne2)).trans R6_4
          change ((((((W4.setCell ⟨W2.heap.size, 0, none⟩ (.int .i64 z)).setCell ⟨W2.heap.size, 1, none⟩ (.slice B1 l.length d1)).setCell ⟨W2.heap.size, 2, none⟩ (.int .i64 tl)).setCell ⟨W2.heap.size, 3, none⟩ (.int .u32 (sw : Nat))).setCell ⟨W2.heap.size, 4, none⟩ (.int .u64 (sh : Nat))).setCell ⟨W2.heap.size, 5, none⟩ (.int .u64 (slo : Nat))).heap[_]? = _ at R6_5
          have O1_5 : ((((((W4.setCell ⟨W2.heap.size, 0, none⟩ (.int .i64 z)).setCell ⟨W2.heap.size, 1, none⟩ (.slice B1 l.length d1)).setCell ⟨W2.heap.size, 2, none⟩ (.int .i64 tl)).setCell ⟨W2.heap.size, 3, none⟩ (.int .u32 (sw : Nat))).setCell ⟨W2.heap.size, 4, none⟩ (.int .u64 (sh : Nat))).setCell ⟨W2.heap.size, 5, none⟩ (.int .u64 (slo : Nat))).ownsRow w2.heap.size 30 3 (Value.slice B1 l.length d1) l.length (cellsSg l) := six_own (.int .i64 z) (.slice B1 l.length d1) (.int .i64 tl) (.int .u32 (sw : Nat)) (.int .u64 (sh : Nat)) (.int .u64 (slo : Nat)) O1_4 k15
          have O2_5 : ((((((W4.setCell ⟨W2.heap.size, 0, none⟩ (.int .i64 z)).setCell ⟨W2.heap.size, 1, none⟩ (.slice B1 l.length d1)).setCell ⟨W2.heap.size, 2, none⟩ (.int .i64 tl)).setCell ⟨W2.heap.size, 3, none⟩ (.int .u32 (sw : Nat))).setCell ⟨W2.heap.size, 4, none⟩ (.int .u64 (sh : Nat))).setCell ⟨W2.heap.size, 5, none⟩ (.int .u64 (slo : Nat))).ownsRow w2.heap.size 30 3 (Value.slice B2 m.length d2) m.length (cellsSg m) := six_own (.int .i64 z) (.slice B1 l.length d1) (.int .i64 tl) (.int .u32 (sw : Nat)) (.int .u64 (sh : Nat)) (.int .u64 (slo : Nat)) O2_4 k25
          refine hK _ _ (HS.out _ hB5) ?_
          clear hK K y0 y1 y2 y3 y4 y5 z0 z1 z2 z3 z4 z5
          try simp only [Act.put, List.getElem_toArray, List.getElem_cons_succ, List.getElem_cons_zero, List.setIfInBounds_toArray, List.set_cons_zero, List.set_cons_succ]
          generalize ((((((W4.setCell ⟨W2.heap.size, 0, none⟩ (.int .i64 z)).setCell ⟨W2.heap.size, 1, none⟩ (.slice B1 l.length d1)).setCell ⟨W2.heap.size, 2, none⟩ (.int .i64 tl)).setCell ⟨W2.heap.size, 3, none⟩ (.int .u32 (sw : Nat))).setCell ⟨W2.heap.size, 4, none⟩ (.int .u64 (sh : Nat))).setCell ⟨W2.heap.size, 5, none⟩ (.int .u64 (slo : Nat))) = W5 at hB5 R5_5 R6_5 O1_5 O2_5 ⊢
          refine held_one (i := 7) (by kernel_rfl) rfl (fun K hK => ?_)
          have y0 : W5.cell? ⟨W0.heap.size, 0, none⟩ = some (.int .i64 0) := cell_of_row _ _ _ _ _ _ R6_5
          have z0 : W5.frozen? ⟨W0.heap.size, 0, none⟩ = false := frozen_of_row _ _ _ _ _ R6_5
          have y1 : W5.cell? ⟨W0.heap.size, 1, none⟩ = some (.slice none 0 0) := cell_of_row _ _ _ _ _ _ R6_5
          have z1 : W5.frozen? ⟨W0.heap.size, 1, none⟩ = false := frozen_of_row _ _ _ _ _ R6_5
          have y2 : W5.cell? ⟨W0.heap.size, 2, none⟩ = some (.int .i64 0) := cell_of_row _ _ _ _ _ _ R6_5
          have z2 : W5.frozen? ⟨W0.heap.size, 2, none⟩ = false := frozen_of_row _ _ _ _ _ R6_5
          have y3 : W5.cell? ⟨W0.heap.size, 3, none⟩ = some (.int .u32 0) := cell_of_row _ _ _ _ _ _ R6_5
          have z3 : W5.frozen? ⟨W0.heap.size, 3, none⟩ = false := frozen_of_row _ _ _ _ _ R6_5
          have y4 : W5.cell? ⟨W0.heap.size, 4, none⟩ = some (.int .u64 0) := cell_of_row _ _ _ _ _ _ R6_5
          have z4 : W5.frozen? ⟨W0.heap.size, 4, none⟩ = false := frozen_of_row _ _ _ _ _ R6_5
          have y5 : W5.cell? ⟨W0.heap.size, 5, none⟩ = some (.int .u64 0) := cell_of_row _ _ _ _ _ _ R6_5
          have z5 : W5.frozen? ⟨W0.heap.size, 5, none⟩ = false := frozen_of_row _ _ _ _ _ R6_5
          go_simp
          have hB6 : Below w2.heap.size w2 ((((((W5.setCell ⟨W0.heap.size, 0, none⟩ (.int .i64 z')).setCell ⟨W0.heap.size, 1, none⟩ (.slice B2 m.length d2)).setCell ⟨W0.heap.size, 2, none⟩ (.int .i64 tl')).setCell ⟨W0.heap.size, 3, none⟩ (.int .u32 (tw : Nat))).setCell ⟨W0.heap.size, 4, none⟩ (.int .u64 (th : Nat))).setCell ⟨W0.heap.size, 5, none⟩ (.int .u64 (tlo : Nat))) := six_below (.int .i64 z') (.slice B2 m.length d2) (.int .i64 tl') (.int .u32 (tw : Nat)) (.int .u64 (th : Nat)) (.int .u64 (tlo : Nat)) hB5 L6
          have R6_6 : ((((((W5.setCell ⟨W0.heap.size, 0, none⟩ (.int .i64 z')).setCell ⟨W0.heap.size, 1, none⟩ (.slice B2 m.length d2)).setCell ⟨W0.heap.size, 2, none⟩ (.int .i64 tl')).setCell ⟨W0.heap.size, 3, none⟩ (.int .u32 (tw : Nat))).setCell ⟨W0.heap.size, 4, none⟩ (.int .u64 (th : Nat))).setCell ⟨W0.heap.size, 5, none⟩ (.int .u64 (tlo : Nat))).heap[W0.heap.size]? = some (.cells #[.int .i64 z', .slice B2 m.length d2, .int .i64 tl', .int .u32 (tw : Nat), .int .u64 (th : Nat), .int .u64 (tlo : Nat)] 32 (0, 0)) := six_row _ _ _ _ _ _ (.int .i64 z') (.slice B2 m.length d2) (.int .i64 tl') (.int .u32 (tw : Nat)) (.int .u64 (th : Nat)) (.int .u64 (tlo : Nat)) rfl R6_5
          have R5_6 := (six_other W5 (W0.heap.size) (W2.heap.size) (.int .i64 z') (.slice B2 m.length d2) (.int .i64 tl') (.int .u32 (tw : Nat)) (.int .u64 (th : Nat)) (.int .u64 (tlo : Nat)) (by first | exact hne | exact hne2)).trans R5_5
          change ((((((W5.setCell ⟨W0.heap.size, 0, none⟩ (.int .i64 z')).setCell ⟨W0.heap.size, 1, none⟩ (.slice B2 m.length d2)).setCell ⟨W0.heap.size, 2, none⟩ (.int .i64 tl')).setCell ⟨W0.heap.size, 3, none⟩ (.int .u32 (tw : Nat))).setCell ⟨W0.heap.size, 4, none⟩ (.int .u64 (th : Nat))).setCell ⟨W0.heap.size, 5, none⟩ (.int .u64 (tlo : Nat))).heap[_]? = _ at R5_6
          have O1_6 : ((((((W5.setCell ⟨W0.heap.size, 0, none⟩ (.int .i64 z')).setCell ⟨W0.heap.size, 1, none⟩ (.slice B2 m.length d2)).setCell ⟨W0.heap.size, 2, none⟩ (.int .i64 tl')).setCell ⟨W0.heap.size, 3, none⟩ (.int .u32 (tw : Nat))).setCell ⟨W0.heap.size, 4, none⟩ (.int .u64 (th : Nat))).setCell ⟨W0.heap.size, 5, none⟩ (.int .u64 (tlo : Nat))).ownsRow w2.heap.size 30 3 (Value.slice B1 l.length d1) l.length (cellsSg l) := six_own (.int .i64 z') (.slice B2 m.length d2) (.int .i64 tl') (.int .u32 (tw : Nat)) (.int .u64 (th : Nat)) (.int .u64 (tlo : Nat)) O1_5 k16
          have O2_6 : ((((((W5.setCell ⟨W0.heap.size, 0, none⟩ (.int .i64 z')).setCell ⟨W0.heap.size, 1, none⟩ (.slice B2 m.length d2)).setCell ⟨W0.heap.size, 2, none⟩ (.int .i64 tl')).setCell ⟨W0.heap.size, 3, none⟩ (.int .u32 (tw : Nat))).setCell ⟨W0.heap.size, 4, none⟩ (.int .u64 (th : Nat))).setCell ⟨W0.heap.size, 5, none⟩ (.int .u64 (tlo : Nat))).ownsRow w2.heap.size 30 3 (Value.slice B2 m.length d2) m.length (cellsSg m) := six_own (.int .i64 z') (.slice B2 m.length d2) (.int .i64 tl') (.int .u32 (tw : Nat)) (.int .u64 (th : Nat)) (.int .u64 (tlo : Nat)) O2_5 k26
          refine hK _ _ (HS.out _ hB6) ?_
          clear hK K y0 y1 y2 y3 y4 y5 z0 z1 z2 z3 z4 z5
          try simp only [Act.put, List.getElem_toArray, List.getElem_cons_succ, List.getElem_cons_zero, List.setIfInBounds_toArray, List.set_cons_zero, List.set_cons_succ]
          generalize ((((((W5.setCell ⟨W0.heap.size, 0, none⟩ (.int .i64 z')).setCell ⟨W0.heap.size, 1, none⟩ (.slice B2 m.length d2)).setCell ⟨W0.heap.size, 2, none⟩ (.int .i64 tl')).setCell ⟨W0.heap.size, 3, none⟩ (.int .u32 (tw : Nat))).setCell ⟨W0.heap.size, 4, none⟩ (.int .u64 (th : Nat))).setCell ⟨W0.heap.size, 5, none⟩ (.int .u64 (tlo : Nat))) = W6 at hB6 R5_6 R6_6 O1_6 O2_6 ⊢
          refine wpAnyH_done (by kernel_rfl) ?_ _
          go_wp2_with fail
          go_meet
          case rel => exact ⟨_, _, B1, d1, B2, d2, rfl, rfl, hide ⟨hB6, R5_6, R6_6, RdSg.own O1_6, RdSg.own O2_6⟩⟩
      · go_simp
        have hb2 := (Below.refl W1.heap.size W1).alloc (Nat.le_refl _) (Obj.cells #[.int .i64 0, .slice none 0 0, .int .i64 0, .int .u32 0, .int .u64 0, .int .u64 0] 32)
        have hB2 := hB1.trans (hb2.mono hB1.size)
        have R5_2 := World.alloc_heap_new W1 (Obj.cells #[.int .i64 0, .slice none 0 0, .int .i64 0, .int .u32 0, .int .u64 0, .int .u64 0] 32)
        have L5 := hB1.size
        have R6_2 := (hb2.block _ (Array.getElem?_eq_some_iff.1 R6_1).1).trans R6_1
        have hne : W0.heap.size ≠ W1.heap.size := Nat.ne_of_lt (Array.getElem?_eq_some_iff.1 R6_1).1
        have hne2 : W1.heap.size ≠ W0.heap.size := hne.symm
        refine hK _ _ (HS.out _ hB2) ?_
        clear hK K hb2
        try simp only [Act.put, List.getElem_toArray, List.getElem_cons_succ, List.getElem_cons_zero, List.setIfInBounds_toArray, List.set_cons_zero, List.set_cons_succ]
        generalize W1.alloc (Obj.cells #[.int .i64 0, .slice none 0 0, .int .i64 0, .int .u32 0, .int .u64 0, .int .u64 0] 32) = W2 at hB2 R5_2 R6_2 ⊢
        refine held_one (i := 1) (by kernel_rfl) rfl (fun K hK => ?_)
        go_simp
        refine (HT1.out _ hB2).mono ?_
        rintro en W3 ⟨B1, d1, rfl, hI⟩
        have hb3 := hI.below
        have hB3 := hB2.trans (hb3.mono hB2.size)
        have O1_3 := ownsRow_lowerSg (base' := w2.heap.size) hI.own hB2.size
        have R5_3 := (hb3.block _ (Array.getElem?_eq_some_iff.1 R5_2).1).trans R5_2
        have k15 : ∀ r, (Value.slice B1 l.length d1).ownBlock = some r → r ≠ W1.heap.size := fun r e => (Nat.ne_of_lt (Nat.lt_of_lt_of_le (Array.getElem?_eq_some_iff.1 R5_2).1 (hI.own.lt r e).1)).symm
        have R6_3 := (hb3.block _ (Array.getElem?_eq_some_iff.1 R6_2).1).trans R6_2
        have k16 : ∀ r, (Value.slice B1 l.length d1).ownBlock = some r → r ≠ W0.heap.size := fun r e => (Nat.ne_of_lt (Nat.lt_of_lt_of_le (Array.getElem?_eq_some_iff.1 R6_2).1 (hI.own.lt r e).1)).symm
        refine hK _ _ (HS.out _ hB3) ?_
        clear hK K hb3 hI
        try simp only [Act.put, List.getElem_toArray, List.getElem_cons_succ, List.getElem_cons_zero, List.setIfInBounds_toArray, List.set_cons_zero, List.set_cons_succ]
        refine held_one (i := 3) (by kernel_rfl) rfl (fun K hK => ?_)
        go_simp
        refine (HT2.out _ hB3).mono ?_
        rintro en W4 ⟨B2, d2, rfl, hI⟩
        have hb4 := hI.below
        have hB4 := hB3.trans (hb4.mono hB3.size)
        have O2_4 := ownsRow_lowerSg (base' := w2.heap.size) hI.own hB3.size
        have R5_4 := (hb4.block _ (Array.getElem?_eq_some_iff.1 R5_3).1).trans R5_3
        have k25 : ∀ r, (Value.slice B2 m.length d2).ownBlock = some r → r ≠ W1.heap.size := fun r e => (Nat.ne_of_lt (Nat.lt_of_lt_of_le (Array.getElem?_eq_some_iff.1 R5_3).1 (hI.own.lt r e).1)).symm
        have R6_4 := (hb4.block _ (Array.getElem?_eq_some_iff.1 R6_3).1).trans R6_3
        have k26 : ∀ r, (Value.slice B2 m.length d2).ownBlock = some r → r ≠ W0.heap.size := fun r e => (Nat.ne_of_lt (Nat.lt_of_lt_of_le (Array.getElem?_eq_some_iff.1 R6_3).1 (hI.own.lt r e).1)).symm
        have O1_4 := own_below O1_3 hb4
        refine hK _ _ (HS.out _ hB4) ?_
        clear hK K hb4 hI
        try simp only [Act.put, List.getElem_toArray, List.getElem_cons_succ, List.getElem_cons_zero, List.setIfInBounds_toArray, List.set_cons_zero, List.set_cons_succ]
        refine held_one (i := 6) (by kernel_rfl) rfl (fun K hK => ?_)
        have y0 : W4.cell? ⟨W1.heap.size, 0, none⟩ = some (.int .i64 0) := cell_of_row _ _ _ _ _ _ R5_4
        have z0 : W4.frozen? ⟨W1.heap.size, 0, none⟩ = false := frozen_of_row _ _ _ _ _ R5_4
        have y1 : W4.cell? ⟨W1.heap.size, 1, none⟩ = some (.slice none 0 0) := cell_of_row _ _ _ _ _ _ R5_4
        have z1 : W4.frozen? ⟨W1.heap.size, 1, none⟩ = false := frozen_of_row _ _ _ _ _ R5_4
        have y2 : W4.cell? ⟨W1.heap.size, 2, none⟩ = some (.int .i64 0) := cell_of_row _ _ _ _ _ _ R5_4
        have z2 : W4.frozen? ⟨W1.heap.size, 2, none⟩ = false := frozen_of_row _ _ _ _ _ R5_4
        have y3 : W4.cell? ⟨W1.heap.size, 3, none⟩ = some (.int .u32 0) := cell_of_row _ _ _ _ _ _ R5_4
        have z3 : W4.frozen? ⟨W1.heap.size, 3, none⟩ = false := frozen_of_row _ _ _ _ _ R5_4
        have y4 : W4.cell? ⟨W1.heap.size, 4, none⟩ = some (.int .u64 0) := cell_of_row _ _ _ _ _ _ R5_4
        have z4 : W4.frozen? ⟨W1.heap.size, 4, none⟩ = false := frozen_of_row _ _ _ _ _ R5_4
        have y5 : W4.cell? ⟨W1.heap.size, 5, none⟩ = some (.int .u64 0) := cell_of_row _ _ _ _ _ _ R5_4
        have z5 : W4.frozen? ⟨W1.heap.size, 5, none⟩ = false := frozen_of_row _ _ _ _ _ R5_4
        go_simp
        have hB5 : Below w2.heap.size w2 ((((((W4.setCell ⟨W1.heap.size, 0, none⟩ (.int .i64 z)).setCell ⟨W1.heap.size, 1, none⟩ (.slice B1 l.length d1)).setCell ⟨W1.heap.size, 2, none⟩ (.int .i64 tl)).setCell ⟨W1.heap.size, 3, none⟩ (.int .u32 (sw : Nat))).setCell ⟨W1.heap.size, 4, none⟩ (.int .u64 (sh : Nat))).setCell ⟨W1.heap.size, 5, none⟩ (.int .u64 (slo : Nat))) := six_below (.int .i64 z) (.slice B1 l.length d1) (.int .i64 tl) (.int .u32 (sw : Nat)) (.int .u64 (sh : Nat)) (.int .u64 (slo : Nat)) hB4 L5
        have R5_5 : ((((((W4.setCell ⟨W1.heap.size, 0, none⟩ (.int .i64 z)).setCell ⟨W1.heap.size, 1, none⟩ (.slice B1 l.length d1)).setCell ⟨W1.heap.size, 2, none⟩ (.int .i64 tl)).setCell ⟨W1.heap.size, 3, none⟩ (.int .u32 (sw : Nat))).setCell ⟨W1.heap.size, 4, none⟩ (.int .u64 (sh : Nat))).setCell ⟨W1.heap.size, 5, none⟩ (.int .u64 (slo : Nat))).heap[W1.heap.size]? = some (.cells #[.int .i64 z, .slice B1 l.length d1, .int .i64 tl, .int .u32 (sw : Nat), .int .u64 (sh : Nat), .int .u64 (slo : Nat)] 32 (0, 0)) := six_row _ _ _ _ _ _ (.int .i64 z) (.slice B1 l.length d1) (.int .i64 tl) (.int .u32 (sw : Nat)) (.int .u64 (sh : Nat)) (.int .u64 (slo : Nat)) rfl R5_4
        have R6_5 := (six_other W4 (W1.heap.size) (W0.heap.size) (.int .i64 z) (.slice B1 l.length d1) (.int .i64 tl) (.int .u32 (sw : Nat)) (.int .u64 (sh : Nat)) (.int .u64 (slo : Nat)) (by first | exact hne | exact hne2)).trans R6_4
        change ((((((W4.setCell ⟨W1.heap.size, 0, none⟩ (.int .i64 z)).setCell ⟨W1.heap.size, 1, none⟩ (.slice B1 l.length d1)).setCell ⟨W1.heap.size, 2, none⟩ (.int .i64 tl)).setCell ⟨W1.heap.size, 3, none⟩ (.int .u32 (sw : Nat))).setCell ⟨W1.heap.size, 4, none⟩ (.int .u64 (sh : Nat))).setCell ⟨W1.heap.size, 5, none⟩ (.int .u64 (slo : Nat))).heap[_]? = _ at R6_5
        have O1_5 : ((((((W4.setCell ⟨W1.heap.size, 0, none⟩ (.int .i64 z)).setCell ⟨W1.heap.size, 1, none⟩ (.slice B1 l.length d1)).setCell ⟨W1.heap.size, 2, none⟩ (.int .i64 tl)).setCell ⟨W1.heap.size, 3, none⟩ (.int .u32 (sw : Nat))).setCell ⟨W1.heap.size, 4, none⟩ (.int .u64 (sh : Nat))).setCell ⟨W1.heap.size, 5, none⟩ (.int .u64 (slo : Nat))).ownsRow w2.heap.size 30 3 (Value.slice B1 l.length d1) l.length (cellsSg l) := six_own (.int .i64 z) (.slice B1 l.length d1) (.int .i64 tl) (.int .u32 (sw : Nat)) (.int .u64 (sh : Nat)) (.int .u64 (slo : Nat)) O1_4 k15
        have O2_5 : ((((((W4.setCell ⟨W1.heap.size, 0, none⟩ (.int .i64 z)).setCell ⟨W1.heap.size, 1, none⟩ (.slice B1 l.length d1)).setCell ⟨W1.heap.size, 2, none⟩ (.int .i64 tl)).setCell ⟨W1.heap.size, 3, none⟩ (.int .u32 (sw : Nat))).setCell ⟨W1.heap.size, 4, none⟩ (.int .u64 (sh : Nat))).setCell ⟨W1.heap.size, 5, none⟩ (.int .u64 (slo : Nat))).ownsRow w2.heap.size 30 3 (Value.slice B2 m.length d2) m.length (cellsSg m) := six_own (.int .i64 z) (.slice B1 l.length d1) (.int .i64 tl) (.int .u32 (sw : Nat)) (.int .u64 (sh : Nat)) (.int .u64 (slo : Nat)) O2_4 k25
        refine hK _ _ (HS.out _ hB5) ?_
        clear hK K y0 y1 y2 y3 y4 y5 z0 z1 z2 z3 z4 z5
        try simp only [Act.put, List.getElem_toArray, List.getElem_cons_succ, List.getElem_cons_zero, List.setIfInBounds_toArray, List.set_cons_zero, List.set_cons_succ]
        generalize ((((((W4.setCell ⟨W1.heap.size, 0, none⟩ (.int .i64 z)).setCell ⟨W1.heap.size, 1, none⟩ (.slice B1 l.length d1)).setCell ⟨W1.heap.size, 2, none⟩ (.int .i64 tl)).setCell ⟨W1.heap.size, 3, none⟩ (.int .u32 (sw : Nat))).setCell ⟨W1.heap.size, 4, none⟩ (.int .u64 (sh : Nat))).setCell ⟨W1.heap.size, 5, none⟩ (.int .u64 (slo : Nat))) = W5 at hB5 R5_5 R6_5 O1_5 O2_5 ⊢
        refine held_one (i := 7) (by kernel_rfl) rfl (fun K hK => ?_)
        have y0 : W5.cell? ⟨W0.heap.size, 0, none⟩ = some (.int .i64 0) := cell_of_row _ _ _ _ _ _ R6_5
        have z0 : W5.frozen? ⟨W0.heap.size, 0, none⟩ = false := frozen_of_row _ _ _ _ _ R6_5
        have y1 : W5.cell? ⟨W0.heap.size, 1, none⟩ = some (.slice none 0 0) := cell_of_row _ _ _ _ _ _ R6_5
        have z1 : W5.frozen? ⟨W0.heap.size, 1, none⟩ = false := frozen_of_row _ _ _ _ _ R6_5
        have y2 : W5.cell? ⟨W0.heap.size, 2, none⟩ = some (.int .i64 0) := cell_of_row _ _ _ _ _ _ R6_5
        have z2 : W5.frozen? ⟨W0.heap.size, 2, none⟩ = false := frozen_of_row _ _ _ _ _ R6_5
        have y3 : W5.cell? ⟨W0.heap.size, 3, none⟩ = some (.int .u32 0) := cell_of_row _ _ _ _ _ _ R6_5
        have z3 : W5.frozen? ⟨W0.heap.size, 3, none⟩ = false := frozen_of_row _ _ _ _ _ R6_5
        have y4 : W5.cell? ⟨W0.heap.size, 4, none⟩ = some (.int .u64 0) := cell_of_row _ _ _ _ _ _ R6_5
        have z4 : W5.frozen? ⟨W0.heap.size, 4, none⟩ = false := frozen_of_row _ _ _ _ _ R6_5
        have y5 : W5.cell? ⟨W0.heap.size, 5, none⟩ = some (.int .u64 0) := cell_of_row _ _ _ _ _ _ R6_5
        have z5 : W5.frozen? ⟨W0.heap.size, 5, none⟩ = false := frozen_of_row _ _ _ _ _ R6_5
        go_simp
        have hB6 : Below w2.heap.size w2 ((((((W5.setCell ⟨W0.heap.size, 0, none⟩ (.int .i64 z')).setCell ⟨W0.heap.size, 1, none⟩ (.slice B2 m.length d2)).setCell ⟨W0.heap.size, 2, none⟩ (.int .i64 tl')).setCell ⟨W0.heap.size, 3, none⟩ (.int .u32 (tw : Nat))).setCell ⟨W0.heap.size, 4, none⟩ (.int .u64 (th : Nat))).setCell ⟨W0.heap.size, 5, none⟩ (.int .u64 (tlo : Nat))) := six_below (.int .i64 z') (.slice B2 m.length d2) (.int .i64 tl') (.int .u32 (tw : Nat)) (.int .u64 (th : Nat)) (.int .u64 (tlo : Nat)) hB5 L6
        have R6_6 : ((((((W5.setCell ⟨W0.heap.size, 0, none⟩ (.int .i64 z')).setCell ⟨W0.heap.size, 1, none⟩ (.slice B2 m.length d2)).setCell ⟨W0.heap.size, 2, none⟩ (.int .i64 tl')).setCell ⟨W0.heap.size, 3, none⟩ (.int .u32 (tw : Nat))).setCell ⟨W0.heap.size, 4, none⟩ (.int .u64 (th : Nat))).setCell ⟨W0.heap.size, 5, none⟩ (.int .u64 (tlo : Nat))).heap[W0.heap.size]? = some (.cells #[.int .i64 z', .slice B2 m.length d2, .int .i64 tl', .int .u32 (tw : Nat), .int .u64 (th : Nat), .int .u64 (tlo : Nat)] 32 (0, 0)) := six_row _ _ _ _ _ _ (.int .i64 z') (.slice B2 m.length d2) (.int .i64 tl') (.int .u32 (tw : Nat)) (.int .u64 (th : Nat)) (.int .u64 (tlo : Nat)) rfl R6_5
        have R5_6 := (six_other W5 (W0.heap.size) (W1.heap.size) (.int .i64 z') (.slice B2 m.length d2) (.int .i64 tl') (.int .u32 (tw : Nat)) (.int .u64 (th : Nat)) (.int .u64 (tlo : Nat)) (by first | exact hne | exact hne2)).trans R5_5
        change ((((((W5.setCell ⟨W0.heap.size, 0, none⟩ (.int .i64 z')).setCell ⟨W0.heap.size, 1, none⟩ (.slice B2 m.length d2)).setCell ⟨W0.heap.size, 2, none⟩ (.int .i64 tl')).setCell ⟨W0.heap.size, 3, none⟩ (.int .u32 (tw : Nat))).setCell ⟨W0.heap.size, 4, none⟩ (.int .u64 (th : Nat))).setCell ⟨W0.heap.size, 5, none⟩ (.int .u64 (tlo : Nat))).heap[_]? = _ at R5_6
        have O1_6 : ((((((W5.setCell ⟨W0.heap.size, 0, none⟩ (.int .i64 z')).setCell ⟨W0.heap.size, 1, none⟩ (.slice B2 m.length d2)).setCell ⟨W0.heap.size, 2, none⟩ (.int .i64 tl')).setCell ⟨W0.heap.size, 3, none⟩ (.int .u32 (tw : Nat))).setCell ⟨W0.heap.size, 4, none⟩ (.int .u64 (th : Nat))).setCell ⟨W0.heap.size, 5, none⟩ (.int .u64 (tlo : Nat))).ownsRow w2.heap.size 30 3 (Value.slice B1 l.length d1) l.length (cellsSg l) := six_own (.int .i64 z') (.slice B2 m.length d2) (.int .i64 tl') (.int .u32 (tw : Nat)) (.int .u64 (th : Nat)) (.int .u64 (tlo : Nat)) O1_5 k16
        have O2_6 : ((((((W5.setCell ⟨W0.heap.size, 0, none⟩ (.int .i64 z')).setCell ⟨W0.heap.size, 1, none⟩ (.slice B2 m.length d2)).setCell ⟨W0.heap.size, 2, none⟩ (.int .i64 tl')).setCell ⟨W0.heap.size, 3, none⟩ (.int .u32 (tw : Nat))).setCell ⟨W0.heap.size, 4, none⟩ (.int .u64 (th : Nat))).setCell ⟨W0.heap.size, 5, none⟩ (.int .u64 (tlo : Nat))).ownsRow w2.heap.size 30 3 (Value.slice B2 m.length d2) m.length (cellsSg m) := six_own (.int .i64 z') (.slice B2 m.length d2) (.int .i64 tl') (.int .u32 (tw : Nat)) (.int .u64 (th : Nat)) (.int .u64 (tlo : Nat)) O2_5 k26
        refine hK _ _ (HS.out _ hB6) ?_
        clear hK K y0 y1 y2 y3 y4 y5 z0 z1 z2 z3 z4 z5
        try simp only [Act.put, List.getElem_toArray, List.getElem_cons_succ, List.getElem_cons_zero, List.setIfInBounds_toArray, List.set_cons_zero, List.set_cons_succ]
        generalize ((((((W5.setCell ⟨W0.heap.size, 0, none⟩ (.int .i64 z')).setCell ⟨W0.heap.size, 1, none⟩ (.slice B2 m.length d2)).setCell ⟨W0.heap.size, 2, none⟩ (.int .i64 tl')).setCell ⟨W0.heap.size, 3, none⟩ (.int .u32 (tw : Nat))).setCell ⟨W0.heap.size, 4, none⟩ (.int .u64 (th : Nat))).setCell ⟨W0.heap.size, 5, none⟩ (.int .u64 (tlo : Nat))) = W6 at hB6 R5_6 R6_6 O1_6 O2_6 ⊢
        refine wpAnyH_done (by kernel_rfl) ?_ _
        go_wp2_with fail
        go_meet
        case rel => exact ⟨_, _, B1, d1, B2, d2, rfl, rfl, hide ⟨hB6, R5_6, R6_6, RdSg.own O1_6, RdSg.own O2_6⟩⟩
  case rest =>
    obtain ⟨n5, n6, B1, d1, B2, d2, rfl, rfl, HTwo⟩ := hcut
    clear HT1 HT2 hmx
    have hlp := putS_len z tl l ⟨sw, sh, slo⟩ (by omega)
    have hgp := fun q => getSig_put z tl l ⟨sw, sh, slo⟩ q hfl hs
    have hin := right_facts (size := z) (n := l.length) (tail := tl) (s := ⟨sw, sh, slo⟩)
    have hT : totalS z l.length tl ⟨sw, sh, slo⟩ = if rightS z l.length tl ⟨sw, sh, slo⟩ = true then z * (l.length : Nat) + tl else 0 := rfl
    have HPut := hide (bkPut_any z tl B1 l d1 ⟨sw, sh, slo⟩ wc HTwo.out.rd1 (by omega) hfl hs)
    have HRP := hide (fun (W : World) (q : Below w2.heap.size w2 W) => refBkPut_any z tl A l c ⟨sw, sh, slo⟩ W (HA.out.step q) (by omega) hfl hs)
    have HRi := hide (fun (W : World) => sigRight_any z B1 l.length d1 tl ⟨sw, sh, slo⟩ W)
    have HRr := hide (fun (W : World) => refSigRight_any z A l.length c tl ⟨sw, sh, slo⟩ W)
    have HSm := hide (fun (W : World) (q1 : RdSg W W.heap.size B1 l) (q2 : RdSg W W.heap.size B2 m) => sigSame_any z z' tl tl' B1 B2 l m d1 d2 ⟨sw, sh, slo⟩ ⟨tw, th, tlo⟩ W q1 q2 (by omega))
    have HRs := hide (fun (W : World) (q : Below w2.heap.size w2 W) => refSigSame_any z z' tl tl' A B l m c c' ⟨sw, sh, slo⟩ ⟨tw, th, tlo⟩ W (HA.out.step q) (HB.out.step q) (by omega))
    have HTo := hide (fun (W : World) => total_any z B1 l.length d1 tl ⟨sw, sh, slo⟩ W)
    have HFs := hide (fun (W : World) (B3 : Option Addr) (d3 : Nat) (q1 : RdSg W W.heap.size B3 l) => bkFrom_any z tl B3 l d3 ⟨sw, sh, slo⟩ W q1 (by omega))
    have HSs := hide (fun (W : World) (B4 : Option Addr) (d4 : Nat) (q1 : RdSg W W.heap.size B4 l) (q2 : Below w2.heap.size w2 W) => (show Calls Try.prog 20 #[.agg (sigC z B4 l.length d4 tl ⟨sw, sh, slo⟩), .agg (sigC z A l.length c tl ⟨sw, sh, slo⟩)] W fun e w' => e = .returned (.bool true) ∧ Below W.heap.size W w' from by
      have q := refSigSame_any z z tl tl B4 A l l d4 c ⟨sw, sh, slo⟩ ⟨sw, sh, slo⟩ W q1 (HA.out.step q2) (by omega)
      rw [(sameSig_iff z z tl tl l l ⟨sw, sh, slo⟩ ⟨sw, sh, slo⟩).2 ⟨rfl, rfl, rfl, rfl⟩] at q
      exact q))
    clear hfl hs
    generalize putS z l tl ⟨sw, sh, slo⟩ = p at hlp hgp HPut HRP
    generalize sameSig z z' tl tl' l m ⟨sw, sh, slo⟩ ⟨tw, th, tlo⟩ = sb at HSm HRs
    generalize totalS z l.length tl ⟨sw, sh, slo⟩ = T at hT HTo
    generalize rightS z l.length tl ⟨sw, sh, slo⟩ = r at hgp hin hT HRi HRr
    simp only [sigC] at HPut HRP HRi HRr HSm HRs HTo HFs HSs
    have c0 : wc.cell? ⟨n5, 0, none⟩ = some (.int .i64 z) := cell_of_row _ _ _ _ _ _ HTwo.out.row5
    have c1 : wc.cell? ⟨n5, 1, none⟩ = some (.slice B1 l.length d1) := cell_of_row _ _ _ _ _ _ HTwo.out.row5
    have c2 : wc.cell? ⟨n5, 2, none⟩ = some (.int .i64 tl) := cell_of_row _ _ _ _ _ _ HTwo.out.row5
    have c3 : wc.cell? ⟨n5, 3, none⟩ = some (.int .u32 (sw : Nat)) := cell_of_row _ _ _ _ _ _ HTwo.out.row5
    have c4 : wc.cell? ⟨n5, 4, none⟩ = some (.int .u64 (sh : Nat)) := cell_of_row _ _ _ _ _ _ HTwo.out.row5
    have c5 : wc.cell? ⟨n5, 5, none⟩ = some (.int .u64 (slo : Nat)) := cell_of_row _ _ _ _ _ _ HTwo.out.row5
    go_wp2_with fail
    refine HPut.out.mono ?_
    rintro e w4 ⟨G, g, rfl, hcap, hRp, hb⟩
    have hB4 := HTwo.out.below.trans (hb.mono HTwo.out.below.size)
    have HRow5 := hide ((hb.block _ (Array.getElem?_eq_some_iff.1 HTwo.out.row5).1).trans HTwo.out.row5)
    have HRow6 := hide ((hb.block _ (Array.getElem?_eq_some_iff.1 HTwo.out.row6).1).trans HTwo.out.row6)
    have hq1 := HTwo.out.rd1.step hb
    have hq2 := HTwo.out.rd2.step hb
    have HD1 := hide (fun (W : World) (q : Below w4.heap.size w4 W) => hq1.step q)
    have HD2 := hide (fun (W : World) (q : Below w4.heap.size w4 W) => hq2.step q)
    have HW := hide (fun (W : World) (q : Below w4.heap.size w4 W) => hB4.trans (q.mono hB4.size))
    have HRp := hide (fun (W : World) (q : Below w4.heap.size w4 W) => hRp.step q)
    have HBf := hide (fun (W : World) (q : Below w4.heap.size w4 W) => HB2.out.trans ((HW.out W q).mono HB2.out.size))
    have hcv : ∀ W : World, Below w4.heap.size w4 W → (convert 22 9 (.slice G p.length g)).run Try.prog W = .ok (.string (ofL p)) W := fun W q => conv_any (hRp.step q) g
    have HGet := hide (fun (hr : r = true) (W : World) (q : Below w4.heap.size w4 W) => (show Calls Try.prog 32 #[.slice G p.length g] W fun e w' => ∃ B3 d3, e = .returned (.tuple #[.agg #[.int .i64 z, .slice B3 l.length d3, .int .i64 tl, .int .u32 (sw : Nat), .int .u64 (sh : Nat), .int .u64 (slo : Nat)], .int .i64 0]) ∧ SI W 30 (.slice B3 l.length d3) l w' from by
      have q2 := bkGet_any G p g W (hRp.step q) hcap hlp
      obtain ⟨f1, f2, f3, f4, f5⟩ := hin hr
      rw [hgp hr] at q2
      simp only [sigC] at q2
      rw [show ((z.toNat : Nat) : Int) = z by omega, show ((tl.toNat : Nat) : Int) = tl by omega] at q2
      exact q2))
    obtain ⟨X, hX⟩ : ∃ X, X = Value.slice G p.length g := ⟨_, rfl⟩
    rw [← hX] at hcv HGet
    generalize hsl : ofL p = sl at hcv
    have HRP2 := hide (fun (W : World) (q : Below w4.heap.size w4 W) => (show Calls Try.prog 29 #[.agg #[.int .i64 z, .slice A l.length c, .int .i64 tl, .int .u32 (sw : Nat), .int .u64 (sh : Nat), .int .u64 (slo : Nat)]] W fun e w' => e = .returned (.string sl) ∧ Below W.heap.size W w' from by rw [← hsl]; exact HRP.out W (HW.out W q)))
    have HRs2 := hide (fun (W : World) (q : Below w4.heap.size w4 W) => HRs.out W (HW.out W q))
    have HSm2 := hide (fun (W : World) (q : Below w4.heap.size w4 W) => HSm.out W (HD1.out W q) (HD2.out W q))
    have HTr := hide (fun (W W2 : World) (q1 : Below w4.heap.size w4 W) (q2 : Below W.heap.size W W2) => q1.trans (q2.mono q1.size))
    have HSo := hide (fun (W : World) (q : Below w4.heap.size w4 W) => HS.out W (HW.out W q))
    have HSB := hide (fun (W : World) (q : Below w4.heap.size w4 W) => (⟨q, hcv W q, (HSo.out W q).1, (HSo.out W q).2.1, (HSo.out W q).2.2.1, (HSo.out W q).2.2.2.1, (HSo.out W q).2.2.2.2.1, (HSo.out W q).2.2.2.2.2.1, (HSo.out W q).2.2.2.2.2.2.1, (HSo.out W q).2.2.2.2.2.2.2.1, (HSo.out W q).2.2.2.2.2.2.2.2.1, (HSo.out W q).2.2.2.2.2.2.2.2.2.1, (HSo.out W q).2.2.2.2.2.2.2.2.2.2.1, (HSo.out W q).2.2.2.2.2.2.2.2.2.2.2, cell_of_row _ _ 0 _ _ _ ((q.block _ (Array.getElem?_eq_some_iff.1 HRow5.out).1).trans HRow5.out), cell_of_row _ _ 1 _ _ _ ((q.block _ (Array.getElem?_eq_some_iff.1 HRow5.out).1).trans HRow5.out), cell_of_row _ _ 2 _ _ _ ((q.block _ (Array.getElem?_eq_some_iff.1 HRow5.out).1).trans HRow5.out), cell_of_row _ _ 3 _ _ _ ((q.block _ (Array.getElem?_eq_some_iff.1 HRow5.out).1).trans HRow5.out), cell_of_row _ _ 4 _ _ _ ((q.block _ (Array.getElem?_eq_some_iff.1 HRow5.out).1).trans HRow5.out), cell_of_row _ _ 5 _ _ _ ((q.block _ (Array.getElem?_eq_some_iff.1 HRow5.out).1).trans HRow5.out), cell_of_row _ _ 0 _ _ _ ((q.block _ (Array.getElem?_eq_some_iff.1 HRow6.out).1).trans HRow6.out), cell_of_row _ _ 1 _ _ _ ((q.block _ (Array.getElem?_eq_some_iff.1 HRow6.out).1).trans HRow6.out), cell_of_row _ _ 2 _ _ _ ((q.block _ (Array.getElem?_eq_some_iff.1 HRow6.out).1).trans HRow6.out), cell_of_row _ _ 3 _ _ _ ((q.block _ (Array.getElem?_eq_some_iff.1 HRow6.out).1).trans HRow6.out), cell_of_row _ _ 4 _ _ _ ((q.block _ (Array.getElem?_eq_some_iff.1 HRow6.out).1).trans HRow6.out), cell_of_row _ _ 5 _ _ _ ((q.block _ (Array.getElem?_eq_some_iff.1 HRow6.out).1).trans HRow6.out)⟩ : Below w4.heap.size w4 W ∧ (convert 22 9 X).run Try.prog W = .ok (.string sl) W ∧ W.cell? ⟨w.heap.size, 0, none⟩ = some (.int .i64 z) ∧ W.cell? ⟨w.heap.size, 1, none⟩ = some (.slice A l.length c) ∧ W.cell? ⟨w.heap.size, 2, none⟩ = some (.int .i64 tl) ∧ W.cell? ⟨w.heap.size, 3, none⟩ = some (.int .u32 (sw : Nat)) ∧ W.cell? ⟨w.heap.size, 4, none⟩ = some (.int .u64 (sh : Nat)) ∧ W.cell? ⟨w.heap.size, 5, none⟩ = some (.int .u64 (slo : Nat)) ∧ W.cell? ⟨(w.heap.size + 1), 0, none⟩ = some (.int .i64 z') ∧ W.cell? ⟨(w.heap.size + 1), 1, none⟩ = some (.slice B m.length c') ∧ W.cell? ⟨(w.heap.size + 1), 2, none⟩ = some (.int .i64 tl') ∧ W.cell? ⟨(w.heap.size + 1), 3, none⟩ = some (.int .u32 (tw : Nat)) ∧ W.cell? ⟨(w.heap.size + 1), 4, none⟩ = some (.int .u64 (th : Nat)) ∧ W.cell? ⟨(w.heap.size + 1), 5, none⟩ = some (.int .u64 (tlo : Nat)) ∧ W.cell? ⟨n5, 0, none⟩ = some (.int .i64 z) ∧ W.cell? ⟨n5, 1, none⟩ = some (.slice B1 l.length d1) ∧ W.cell? ⟨n5, 2, none⟩ = some (.int .i64 tl) ∧ W.cell? ⟨n5, 3, none⟩ = some (.int .u32 (sw : Nat)) ∧ W.cell? ⟨n5, 4, none⟩ = some (.int .u64 (sh : Nat)) ∧ W.cell? ⟨n5, 5, none⟩ = some (.int .u64 (slo : Nat)) ∧ W.cell? ⟨n6, 0, none⟩ = some (.int .i64 z') ∧ W.cell? ⟨n6, 1, none⟩ = some (.slice B2 m.length d2) ∧ W.cell? ⟨n6, 2, none⟩ = some (.int .i64 tl') ∧ W.cell? ⟨n6, 3, none⟩ = some (.int .u32 (tw : Nat)) ∧ W.cell? ⟨n6, 4, none⟩ = some (.int .u64 (th : Nat)) ∧ W.cell? ⟨n6, 5, none⟩ = some (.int .u64 (tlo : Nat))))
    have HD := hide (Below.refl w4.heap.size w4).drew
    have hSd := (HSB.out _ HD.out).2
    have hrr : (r != r) = false := by cases r <;> rfl
    have hsb : (sb != sb) = false := by cases sb <;> rfl
    rw [← hX]
    clear HPut HTwo hcap hRp hb hB4 hq1 hq2 HD1 HD2 HRP HRs HSm HS HRow5 HRow6 c0 c1 c2 c3 c4 c5 hX hsl hcv HRp hgp HB
    go_wp2_with fail
    go_region_held3 (fun W => Below w4.heap.size w4 W ∧ (convert 22 9 X).run Try.prog W = .ok (.string sl) W ∧ W.cell? ⟨w.heap.size, 0, none⟩ = some (.int .i64 z) ∧ W.cell? ⟨w.heap.size, 1, none⟩ = some (.slice A l.length c) ∧ W.cell? ⟨w.heap.size, 2, none⟩ = some (.int .i64 tl) ∧ W.cell? ⟨w.heap.size, 3, none⟩ = some (.int .u32 (sw : Nat)) ∧ W.cell? ⟨w.heap.size, 4, none⟩ = some (.int .u64 (sh : Nat)) ∧ W.cell? ⟨w.heap.size, 5, none⟩ = some (.int .u64 (slo : Nat)) ∧ W.cell? ⟨(w.heap.size + 1), 0, none⟩ = some (.int .i64 z') ∧ W.cell? ⟨(w.heap.size + 1), 1, none⟩ = some (.slice B m.length c') ∧ W.cell? ⟨(w.heap.size + 1), 2, none⟩ = some (.int .i64 tl') ∧ W.cell? ⟨(w.heap.size + 1), 3, none⟩ = some (.int .u32 (tw : Nat)) ∧ W.cell? ⟨(w.heap.size + 1), 4, none⟩ = some (.int .u64 (th : Nat)) ∧ W.cell? ⟨(w.heap.size + 1), 5, none⟩ = some (.int .u64 (tlo : Nat)) ∧ W.cell? ⟨n5, 0, none⟩ = some (.int .i64 z) ∧ W.cell? ⟨n5, 1, none⟩ = some (.slice B1 l.length d1) ∧ W.cell? ⟨n5, 2, none⟩ = some (.int .i64 tl) ∧ W.cell? ⟨n5, 3, none⟩ = some (.int .u32 (sw : Nat)) ∧ W.cell? ⟨n5, 4, none⟩ = some (.int .u64 (sh : Nat)) ∧ W.cell? ⟨n5, 5, none⟩ = some (.int .u64 (slo : Nat)) ∧ W.cell? ⟨n6, 0, none⟩ = some (.int .i64 z') ∧ W.cell? ⟨n6, 1, none⟩ = some (.slice B2 m.length d2) ∧ W.cell? ⟨n6, 2, none⟩ = some (.int .i64 tl') ∧ W.cell? ⟨n6, 3, none⟩ = some (.int .u32 (tw : Nat)) ∧ W.cell? ⟨n6, 4, none⟩ = some (.int .u64 (th : Nat)) ∧ W.cell? ⟨n6, 5, none⟩ = some (.int .u64 (tlo : Nat)))
      (first
        | exact HSB.out _ hbk2
        | exact ⟨HD.out, hSd⟩)
      (first
        | (go_at_call 29; with_reducible refine (HRP2.out _ (And.left (by assumption))).mono ?_; rintro en wk ⟨rfl, hbk⟩; have hbk2 := HTr.out _ _ (And.left (by assumption)) hbk)
        | (go_at_call 26; with_reducible refine (HRi.out _).mono ?_; rintro en wk ⟨rfl, hbk⟩; have hbk2 := HTr.out _ _ (And.left (by assumption)) hbk)
        | (go_at_call 30; with_reducible refine (HRr.out _).mono ?_; rintro en wk ⟨rfl, hbk⟩; have hbk2 := HTr.out _ _ (And.left (by assumption)) hbk)
        | (go_at_call 31; with_reducible refine (HSm2.out _ (And.left (by assumption))).mono ?_; rintro en wk ⟨rfl, hbk⟩; have hbk2 := HTr.out _ _ (And.left (by assumption)) hbk)
        | (go_at_call 20; with_reducible refine (HRs2.out _ (And.left (by assumption))).mono ?_; rintro en wk ⟨rfl, hbk⟩; have hbk2 := HTr.out _ _ (And.left (by assumption)) hbk))
    all_goals
      rename_i hSz
      have HW5 := hide hSz.1
      obtain ⟨e0, e1, e2, e3, e4, e5, e6, e7, e8, e9, e10, e11, e12, e13, e14, e15, e16, e17, e18, e19, e20, e21, e22, e23, e24, e25⟩ := hSz
      clear e0 e1 hSd HRP2 HSm2 HRs2 HRi
      cases r with
      | false =>
        have hT0 : T = 0 := by rw [hT]; rfl
        rw [hT0] at HTo
        clear hT hin hT0
        go_wp2_with fail
        refine (HRr.out _).mono ?_
        rintro e w6 ⟨rfl, hb6⟩
        have HW6 := hide (HTr.out _ _ HW5.out hb6)
        clear hb6 e2 e3 e4 e5 e6 e7 e8 e9 e10 e11 e12 e13 e14 e15 e16 e17 e18 e19 e20 e21 e22 e23 e24 e25
        go_wp2_with fail
        refine (bkAwake_any _).mono ?_
        rintro e w7 ⟨rfl, hb7⟩
        have HW7 := hide (HTr.out _ _ HW6.out hb7)
        obtain ⟨e0, e1, e2, e3, e4, e5, e6, e7, e8, e9, e10, e11, e12, e13, e14, e15, e16, e17, e18, e19, e20, e21, e22, e23, e24, e25⟩ := HSB.out _ HW7.out
        clear hb7
        go_wp2_with fail
        refine (HTo.out _).mono ?_
        rintro e w8 ⟨rfl, hb8⟩
        have HF := hide (HBf.out _ (HTr.out _ _ HW7.out hb8))
        clear hb8 e0 e1 e2 e3 e4 e5 e6 e7 e8 e9 e10 e11 e12 e13 e14 e15 e16 e17 e18 e19 e20 e21 e22 e23 e24 e25
        go_wp2_with fail
        exact bodyPost_ret (results_tmp rfl _ _ _) rfl ⟨rfl, HF.out⟩
      | true =>
        have hT0 : T = z * (l.length : Nat) + tl := by rw [hT]; rfl
        obtain ⟨f1, f2, f3, f4, f5⟩ := hin rfl
        have hm1 : (l.length : Int) * z ≤ 40 * 64 := Int.mul_le_mul (by omega) f2 (by omega) (by omega)
        have hm2 : (0 : Int) ≤ (l.length : Int) * z := Int.mul_nonneg (by omega) (by omega)
        have hw1 : IntKind.i64.wrap ((l.length : Int) * z) = (l.length : Int) * z := IntWalk.i64_in _ (by omega)
        have hw2 : IntKind.i64.wrap ((l.length : Int) * z + tl) = T := by rw [hT0, IntWalk.i64_in _ (by omega), Int.mul_comm]
        have HG2 := hide (HGet.out rfl)
        clear hT hin hT0 HGet f1 f2 f3 f4 f5 hm1 hm2
        go_wp2_with fail
        refine (HRr.out _).mono ?_
        rintro e w6 ⟨rfl, hb6⟩
        have HW6 := hide (HTr.out _ _ HW5.out hb6)
        clear hb6 e2 e3 e4 e5 e6 e7 e8 e9 e10 e11 e12 e13 e14 e15 e16 e17 e18 e19 e20 e21 e22 e23 e24 e25
        go_wp2_with fail
        refine (HG2.out _ HW6.out).mono ?_
        rintro e w7 ⟨B3, d3, rfl, hI7⟩
        have hW7 := HTr.out _ _ HW6.out hI7.below
        have hb8 := (Below.refl w7.heap.size w7).alloc (Nat.le_refl _) (Obj.cells #[.int .i64 z, .slice B3 l.length d3, .int .i64 tl, .int .u32 (sw : Nat), .int .u64 (sh : Nat), .int .u64 (slo : Nat)] 32)
        have HRow8 := hide (World.alloc_heap_new w7 (Obj.cells #[.int .i64 z, .slice B3 l.length d3, .int .i64 tl, .int .u32 (sw : Nat), .int .u64 (sh : Nat), .int .u64 (slo : Nat)] 32))
        have HW8 := hide (HTr.out _ _ hW7 hb8)
        have HD8 := hide ((RdSg.own hI7.own).step hb8)
        clear hW7 hb8 hI7 HG2 HRr HW6 HW5
        go_wp2_with fail
        generalize w7.alloc (Obj.cells #[.int .i64 z, .slice B3 l.length d3, .int .i64 tl, .int .u32 (sw : Nat), .int .u64 (sh : Nat), .int .u64 (slo : Nat)] 32) = w8 at HRow8 HW8 HD8 ⊢
        have HSC := hide (fun (W : World) (q : Below w8.heap.size w8 W) => (⟨q, (HSB.out W (HTr.out _ _ HW8.out q)).2.2.1, (HSB.out W (HTr.out _ _ HW8.out q)).2.2.2.1, (HSB.out W (HTr.out _ _ HW8.out q)).2.2.2.2.1, (HSB.out W (HTr.out _ _ HW8.out q)).2.2.2.2.2.1, (HSB.out W (HTr.out _ _ HW8.out q)).2.2.2.2.2.2.1, (HSB.out W (HTr.out _ _ HW8.out q)).2.2.2.2.2.2.2.1, (HSB.out W (HTr.out _ _ HW8.out q)).2.2.2.2.2.2.2.2.2.2.2.2.2.2.1, (HSB.out W (HTr.out _ _ HW8.out q)).2.2.2.2.2.2.2.2.2.2.2.2.2.2.2.1, (HSB.out W (HTr.out _ _ HW8.out q)).2.2.2.2.2.2.2.2.2.2.2.2.2.2.2.2.1, (HSB.out W (HTr.out _ _ HW8.out q)).2.2.2.2.2.2.2.2.2.2.2.2.2.2.2.2.2.1, (HSB.out W (HTr.out _ _ HW8.out q)).2.2.2.2.2.2.2.2.2.2.2.2.2.2.2.2.2.2.1, (HSB.out W (HTr.out _ _ HW8.out q)).2.2.2.2.2.2.2.2.2.2.2.2.2.2.2.2.2.2.2.1, cell_of_row _ _ 0 _ _ _ ((q.block _ (Array.getElem?_eq_some_iff.1 HRow8.out).1).trans HRow8.out), cell_of_row _ _ 1 _ _ _ ((q.block _ (Array.getElem?_eq_some_iff.1 HRow8.out).1).trans HRow8.out), cell_of_row _ _ 2 _ _ _ ((q.block _ (Array.getElem?_eq_some_iff.1 HRow8.out).1).trans HRow8.out), cell_of_row _ _ 3 _ _ _ ((q.block _ (Array.getElem?_eq_some_iff.1 HRow8.out).1).trans HRow8.out), cell_of_row _ _ 4 _ _ _ ((q.block _ (Array.getElem?_eq_some_iff.1 HRow8.out).1).trans HRow8.out), cell_of_row _ _ 5 _ _ _ ((q.block _ (Array.getElem?_eq_some_iff.1 HRow8.out).1).trans HRow8.out)⟩ : Below w8.heap.size w8 W ∧ W.cell? ⟨w.heap.size, 0, none⟩ = some (.int .i64 z) ∧ W.cell? ⟨w.heap.size, 1, none⟩ = some (.slice A l.length c) ∧ W.cell? ⟨w.heap.size, 2, none⟩ = some (.int .i64 tl) ∧ W.cell? ⟨w.heap.size, 3, none⟩ = some (.int .u32 (sw : Nat)) ∧ W.cell? ⟨w.heap.size, 4, none⟩ = some (.int .u64 (sh : Nat)) ∧ W.cell? ⟨w.heap.size, 5, none⟩ = some (.int .u64 (slo : Nat)) ∧ W.cell? ⟨n5, 0, none⟩ = some (.int .i64 z) ∧ W.cell? ⟨n5, 1, none⟩ = some (.slice B1 l.length d1) ∧ W.cell? ⟨n5, 2, none⟩ = some (.int .i64 tl) ∧ W.cell? ⟨n5, 3, none⟩ = some (.int .u32 (sw : Nat)) ∧ W.cell? ⟨n5, 4, none⟩ = some (.int .u64 (sh : Nat)) ∧ W.cell? ⟨n5, 5, none⟩ = some (.int .u64 (slo : Nat)) ∧ W.cell? ⟨w7.heap.size, 0, none⟩ = some (.int .i64 z) ∧ W.cell? ⟨w7.heap.size, 1, none⟩ = some (.slice B3 l.length d3) ∧ W.cell? ⟨w7.heap.size, 2, none⟩ = some (.int .i64 tl) ∧ W.cell? ⟨w7.heap.size, 3, none⟩ = some (.int .u32 (sw : Nat)) ∧ W.cell? ⟨w7.heap.size, 4, none⟩ = some (.int .u64 (sh : Nat)) ∧ W.cell? ⟨w7.heap.size, 5, none⟩ = some (.int .u64 (slo : Nat))))
        have HD9 := hide (Below.refl w8.heap.size w8).drew
        have hSd9 := (HSC.out _ HD9.out).2
        have HTr8 := hide (fun (W W2 : World) (q1 : Below w8.heap.size w8 W) (q2 : Below W.heap.size W W2) => q1.trans (q2.mono q1.size))
        have HFs2 := hide (fun (W : World) (q : Below w8.heap.size w8 W) => HFs.out W B3 d3 (HD8.out.step q))
        have HSs2 := hide (fun (W : World) (B4 : Option Addr) (d4 : Nat) (q1 : RdSg W W.heap.size B4 l) (q : Below w8.heap.size w8 W) => HSs.out W B4 d4 q1 (HW.out W (HTr.out _ _ HW8.out q)))
        have HBf8 := hide (fun (W : World) (q : Below w8.heap.size w8 W) => HBf.out W (HTr.out _ _ HW8.out q))
        clear HSB HD HTr HW HBf HFs HSs HD8 HRow8 HW8 HSo
        go_wp2_with fail
        go_region_held3 (fun W => Below w8.heap.size w8 W ∧ W.cell? ⟨w.heap.size, 0, none⟩ = some (.int .i64 z) ∧ W.cell? ⟨w.heap.size, 1, none⟩ = some (.slice A l.length c) ∧ W.cell? ⟨w.heap.size, 2, none⟩ = some (.int .i64 tl) ∧ W.cell? ⟨w.heap.size, 3, none⟩ = some (.int .u32 (sw : Nat)) ∧ W.cell? ⟨w.heap.size, 4, none⟩ = some (.int .u64 (sh : Nat)) ∧ W.cell? ⟨w.heap.size, 5, none⟩ = some (.int .u64 (slo : Nat)) ∧ W.cell? ⟨n5, 0, none⟩ = some (.int .i64 z) ∧ W.cell? ⟨n5, 1, none⟩ = some (.slice B1 l.length d1) ∧ W.cell? ⟨n5, 2, none⟩ = some (.int .i64 tl) ∧ W.cell? ⟨n5, 3, none⟩ = some (.int .u32 (sw : Nat)) ∧ W.cell? ⟨n5, 4, none⟩ = some (.int .u64 (sh : Nat)) ∧ W.cell? ⟨n5, 5, none⟩ = some (.int .u64 (slo : Nat)) ∧ W.cell? ⟨w7.heap.size, 0, none⟩ = some (.int .i64 z) ∧ W.cell? ⟨w7.heap.size, 1, none⟩ = some (.slice B3 l.length d3) ∧ W.cell? ⟨w7.heap.size, 2, none⟩ = some (.int .i64 tl) ∧ W.cell? ⟨w7.heap.size, 3, none⟩ = some (.int .u32 (sw : Nat)) ∧ W.cell? ⟨w7.heap.size, 4, none⟩ = some (.int .u64 (sh : Nat)) ∧ W.cell? ⟨w7.heap.size, 5, none⟩ = some (.int .u64 (slo : Nat)))
          (first
            | exact HSC.out _ hbk2
            | exact ⟨HD9.out, hSd9⟩)
          (first
            | (go_at_call 15; refine (bkAwake_any _).mono ?_; rintro en wk ⟨rfl, hbk⟩; have hbk2 := HTr8.out _ _ (And.left (by assumption)) hbk)
            | (go_at_call 21; refine (HFs2.out _ (And.left (by assumption))).mono ?_; rintro en wk ⟨B4, d4, rfl, hI⟩; have hbk := hI.below; have hRd4 := RdSg.own hI.own; have hbk2 := HTr8.out _ _ (And.left (by assumption)) hbk)
            | (go_at_call 20; refine (HSs2.out _ B4 d4 hRd4 (And.left (by assumption))).mono ?_; rintro en wk ⟨rfl, hbk⟩; have hbk2 := HTr8.out _ _ (And.left (by assumption)) hbk)
            | (go_at_call 25; refine (HTo.out _).mono ?_; rintro en wk ⟨rfl, hbk⟩; have hbk2 := HTr8.out _ _ (And.left (by assumption)) hbk))
        all_goals
          rename_i hSz
          have HF := hide (HBf8.out _ hSz.1)
          clear hSz
          go_wp2_with fail
          exact bodyPost_ret (results_tmp rfl _ _ _) rfl ⟨rfl, HF.out⟩
end Go.Proofs.Ytdkdnfcmlnfkcaa
