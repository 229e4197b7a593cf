/-
  The law's from.
-/
import Derived.Test.YtobgbheodlpclaaBkTo
import Derived.Test.YtobgbheodlpclaaBkRight
import Derived.Test.YtobgbheodlpclaaHeldOp
import Derived.StillTailTactics
import Derived.Deep.RegionHeld3
import Derived.Deep.RegionLaw
import Derived.Deep.AppendLies
namespace Go.Proofs.Ytobgbheodlpclaa
open Go.RowKit
set_option maxRecDepth 100000

set_option maxHeartbeats 16000000 in
theorem bkFrom_any (z tl : Int) (A : Option Addr) (l : List Sg) (c : Nat) (s : Sg) (w : World) (hA : RdSg w w.heap.size A l) (hl : l.length ≤ 1000000) :
    Calls Try.prog 21 #[.agg (sigC z A l.length c tl s)] w fun e w' => ∃ B d, e = .returned (.agg (sigC z B l.length d tl s)) ∧ SI w 37 (.slice B l.length d) l w' := by
  obtain ⟨i0, hi, hz0, hz1, hz2⟩ := info_parts info_rsg
  obtain ⟨wk, hh, lo⟩ := s
  simp only [sigC]
  have HA := hide hA
  clear hA
  obtain ⟨o1, ho1⟩ : ∃ o, o = (Obj.cells #[.int .i64 z, .slice A l.length c, .int .i64 tl, .int .u32 (wk : Nat), .int .u64 (hh : Nat), .int .u64 (lo : Nat)] 32) := ⟨_, rfl⟩
  obtain ⟨o2, ho2⟩ : ∃ o, o = (Obj.cells #[.int .i64 0, .slice none 0 0, .int .i64 0, .int .u32 0, .int .u64 0, .int .u64 0] 42) := ⟨_, rfl⟩
  obtain ⟨o3, ho3⟩ : ∃ o, o = (Obj.cells #[.int .i64 z, .slice none 0 0, .int .i64 tl, .int .u32 (wk : Nat), .int .u64 (hh : Nat), .int .u64 (lo : Nat)] 42) := ⟨_, rfl⟩
  have B1 := (Below.refl w.heap.size w).alloc (Nat.le_refl _) o1
  have B2 := (Below.refl (w.alloc o1).heap.size (w.alloc o1)).alloc (Nat.le_refl _) o2
  have B3 := (Below.refl ((w.alloc o1).alloc o2).heap.size ((w.alloc o1).alloc o2)).alloc (Nat.le_refl _) o3
  have r1 := ((B2.trans (B3.mono B2.size)).block w.heap.size (by simp)).trans (World.alloc_heap_new w o1)
  have r2 := (B3.block (w.alloc o1).heap.size (by simp)).trans (World.alloc_heap_new (w.alloc o1) o2)
  have r3 := World.alloc_heap_new ((w.alloc o1).alloc o2) o3
  have B0 := B1.trans ((B2.trans (B3.mono B2.size)).mono B1.size)
  simp only [World.size_alloc] at r2 r3
  have hz := show (((w.alloc o1).alloc o2).alloc o3).heap.size = w.heap.size + 1 + 1 + 1 by simp
  clear B1 B2 B3
  go_enter Try.func21, Try.ntmps21
  go_wp2_with fail
  rw [← ho1, ← ho2, ← ho3]
  generalize ((w.alloc o1).alloc o2).alloc o3 = w3 at r1 r2 r3 B0 hz ⊢
  rw [ho1] at r1
  rw [ho2] at r2
  rw [ho3] at r3
  clear ho1 ho2 ho3
  obtain ⟨n0, hn0⟩ : ∃ n, n = w.heap.size := ⟨_, rfl⟩
  rw [← hn0] at r1 r2 r3 hz ⊢
  have HB0 := hide B0
  have HN := hide hn0
  have HR1 := hide r1
  have HR2 := hide r2
  have HR3 := hide r3
  clear B0 hn0 r1 r2 r3
  go_loopg [4] l.length (fun gk iv wr => ∃ (i : Nat) (B : Option Addr) (d : Nat), iv = .int .i64 i ∧ i + gk = l.length ∧ Hid (wr.heap[n0 + 1 + 1]? = some (.cells #[.int .i64 z, .slice B i d, .int .i64 tl, .int .u32 (wk : Nat), .int .u64 (hh : Nat), .int .u64 (lo : Nat)] 42 (0, 0))) ∧ Hid (Below (n0 + 1 + 1) w3 wr) ∧ Hid (wr.ownsRow w3.heap.size 37 3 (.slice B i d) i (cellsSg (l.take i))))
  case atStart => exact ⟨0, none, 0, rfl, by omega, HR3, hide (Below.refl _ _), hide (World.ownsRow_nil _ _ _ _)⟩
  case round =>
    obtain ⟨i, B, d, rfl, hig, HQ, HW, HO⟩ := hrel
    clear HR3
    have hsw := HW.out.size
    have e0 : wr.cell? ⟨n0, 1, none⟩ = some (.slice A l.length c) := cell_of_row _ _ _ _ _ _ ((HW.out.block n0 (by omega)).trans HR1.out)
    cases gk with
    | zero =>
      obtain rfl : i = l.length := by omega
      have j1 : wr.cell? ⟨n0 + 1 + 1, 0, none⟩ = some (.int .i64 z) := cell_of_row _ _ _ _ _ _ HQ.out
      have j2 : wr.cell? ⟨n0 + 1 + 1, 1, none⟩ = some (.slice B l.length d) := cell_of_row _ _ _ _ _ _ HQ.out
      have j3 : wr.cell? ⟨n0 + 1 + 1, 2, none⟩ = some (.int .i64 tl) := cell_of_row _ _ _ _ _ _ HQ.out
      have j4 : wr.cell? ⟨n0 + 1 + 1, 3, none⟩ = some (.int .u32 (wk : Nat)) := cell_of_row _ _ _ _ _ _ HQ.out
      have j5 : wr.cell? ⟨n0 + 1 + 1, 4, none⟩ = some (.int .u64 (hh : Nat)) := cell_of_row _ _ _ _ _ _ HQ.out
      have j6 : wr.cell? ⟨n0 + 1 + 1, 5, none⟩ = some (.int .u64 (lo : Nat)) := cell_of_row _ _ _ _ _ _ HQ.out
      have HRow := hide ((HW.out.block (n0 + 1) (by omega)).trans HR2.out)
      have y0 : wr.cell? ⟨n0 + 1, 0, none⟩ = some (.int .i64 0) := cell_of_row _ _ _ _ _ _ HRow.out
      have y1 : wr.cell? ⟨n0 + 1, 1, none⟩ = some (.slice none 0 0) := cell_of_row _ _ _ _ _ _ HRow.out
      have y2 : wr.cell? ⟨n0 + 1, 2, none⟩ = some (.int .i64 0) := cell_of_row _ _ _ _ _ _ HRow.out
      have y3 : wr.cell? ⟨n0 + 1, 3, none⟩ = some (.int .u32 0) := cell_of_row _ _ _ _ _ _ HRow.out
      have y4 : wr.cell? ⟨n0 + 1, 4, none⟩ = some (.int .u64 0) := cell_of_row _ _ _ _ _ _ HRow.out
      have y5 : wr.cell? ⟨n0 + 1, 5, none⟩ = some (.int .u64 0) := cell_of_row _ _ _ _ _ _ HRow.out
      have z0 : wr.frozen? ⟨n0 + 1, 0, none⟩ = false := frozen_of_row _ _ _ _ _ HRow.out
      have z1 : wr.frozen? ⟨n0 + 1, 1, none⟩ = false := frozen_of_row _ _ _ _ _ HRow.out
      have z2 : wr.frozen? ⟨n0 + 1, 2, none⟩ = false := frozen_of_row _ _ _ _ _ HRow.out
      have z3 : wr.frozen? ⟨n0 + 1, 3, none⟩ = false := frozen_of_row _ _ _ _ _ HRow.out
      have z4 : wr.frozen? ⟨n0 + 1, 4, none⟩ = false := frozen_of_row _ _ _ _ _ HRow.out
      have z5 : wr.frozen? ⟨n0 + 1, 5, none⟩ = false := frozen_of_row _ _ _ _ _ HRow.out
      have x1 := heap_setCell_same wr (n0 + 1) 0 _ _ (.int .i64 z) HRow.out
      have x2 := heap_setCell_same _ (n0 + 1) 1 _ _ (.slice B l.length d) x1
      have x3 := heap_setCell_same _ (n0 + 1) 2 _ _ (.int .i64 tl) x2
      have x4 := heap_setCell_same _ (n0 + 1) 3 _ _ (.int .u32 (wk : Nat)) x3
      have x5 := heap_setCell_same _ (n0 + 1) 4 _ _ (.int .u64 (hh : Nat)) x4
      have HX := hide (heap_setCell_same _ (n0 + 1) 5 _ _ (.int .u64 (lo : Nat)) x5)
      have HBl := hide ((((((((HB0.out.trans (HW.out.mono (by have := HN.out; omega))).setCell (p := ⟨n0 + 1, 0, none⟩) (by have := HN.out; show w.heap.size ≤ n0 + 1; omega) (.int .i64 z)).setCell (p := ⟨n0 + 1, 1, none⟩) (by have := HN.out; show w.heap.size ≤ n0 + 1; omega) (.slice B l.length d)).setCell (p := ⟨n0 + 1, 2, none⟩) (by have := HN.out; show w.heap.size ≤ n0 + 1; omega) (.int .i64 tl)).setCell (p := ⟨n0 + 1, 3, none⟩) (by have := HN.out; show w.heap.size ≤ n0 + 1; omega) (.int .u32 (wk : Nat))).setCell (p := ⟨n0 + 1, 4, none⟩) (by have := HN.out; show w.heap.size ≤ n0 + 1; omega) (.int .u64 (hh : Nat))).setCell (p := ⟨n0 + 1, 5, none⟩) (by have := HN.out; show w.heap.size ≤ n0 + 1; omega) (.int .u64 (lo : Nat))))
      have hap : ∀ r, (Value.slice B l.length d).ownBlock = some r → r ≠ n0 + 1 := fun r e => by have := (HO.out.lt r e).1; omega
      have HOw := hide (sig_own_cell (j := 5) (u := .int .u64 (lo : Nat)) (sig_own_cell (j := 4) (u := .int .u64 (hh : Nat)) (sig_own_cell (j := 3) (u := .int .u32 (wk : Nat)) (sig_own_cell (j := 2) (u := .int .i64 tl) (sig_own_cell (j := 1) (u := .slice B l.length d) (sig_own_cell (j := 0) (u := .int .i64 z) (ownsRow_lowerSg HO.out HB0.out.size) hap) hap) hap) hap) hap) hap)
      rw [List.take_length] at HOw
      clear x1 x2 x3 x4 x5 hap
      go_wp2_with fail
      have t0 := cell_of_row _ _ 0 _ _ _ HX.out
      have t1 := cell_of_row _ _ 1 _ _ _ HX.out
      have t2 := cell_of_row _ _ 2 _ _ _ HX.out
      have t3 := cell_of_row _ _ 3 _ _ _ HX.out
      have t4 := cell_of_row _ _ 4 _ _ _ HX.out
      have t5 := cell_of_row _ _ 5 _ _ _ HX.out
      refine bodyPost_ret (v := .agg #[.int .i64 z, .slice B l.length d, .int .i64 tl, .int .u32 (wk : Nat), .int .u64 (hh : Nat), .int .u64 (lo : Nat)]) (by simp [results, Try.results21, go_sem, t0, t1, t2, t3, t4, t5]) rfl ⟨B, d, rfl, HBl.out, HOw.out⟩
    | succ g0 =>
      have hii : (i : Int) < l.length := by omega
      have hi0 : (0 : Int) ≤ (i : Int) := by omega
      obtain ⟨t, ht⟩ : ∃ t, l[i]? = some t := ⟨_, List.getElem?_eq_getElem (by omega)⟩
      obtain ⟨ad, rfl, hlt, hnd⟩ := (HA.out.below (HB0.out.trans (HW.out.mono (by have := HN.out; omega))) (Nat.le_refl _)) i t ht
      have hiw : IntKind.i64.wrap ((i : Int) + 1) = ((i + 1 : Nat) : Int) := by rw [IntWalk.i64_in _ (by omega)]; rfl
      have hT := hide (show l.take (i + 1) = l.take i ++ [t] by
        obtain ⟨h1, e1⟩ := List.getElem?_eq_some_iff.1 ht
        rw [← List.take_append_getElem h1, e1])
      obtain ⟨c0, c1, c2⟩ := hnd
      have hlx : (ad.add (i * 3)).block < w3.heap.size := by have := HN.out; rw [add_block]; omega
      obtain ⟨tw, th, tlo⟩ := t
      simp only at c0 c1 c2
      have e2 : wr.cell? ⟨n0 + 1 + 1, 1, none⟩ = some (.slice B i d) := cell_of_row _ _ _ _ _ _ HQ.out
      have hq2 : n0 + 1 + 1 < wr.heap.size := by omega
      have hle : n0 + 1 + 1 ≤ w3.heap.size := by omega
      have hly : (ad.add (i * 3)).block < n0 + 1 + 1 := by have := HN.out; rw [add_block]; omega
      have hS := hide (fun (W : World) (h : Below (n0 + 1 + 1) wr W) => (⟨(h.cell (p := ⟨n0, 1, none⟩) (by show n0 < n0 + 1 + 1; omega)).trans e0, (h.cell hly).trans c0, (h.cell (p := ⟨_, _, none⟩) hly).trans c1, (h.cell (p := ⟨_, _, none⟩) hly).trans c2⟩ :
        W.cell? ⟨n0, 1, none⟩ = some (.slice (some ad) l.length c) ∧ W.cell? (ad.add (i * 3)) = some (.int .u32 (tw : Nat)) ∧ W.cell? ⟨(ad.add (i * 3)).block, (ad.add (i * 3)).off + 1, none⟩ = some (.int .u64 (th : Nat)) ∧ W.cell? ⟨(ad.add (i * 3)).block, (ad.add (i * 3)).off + 2, none⟩ = some (.int .u64 (tlo : Nat))))
      clear ht hlt c0 c1 c2
      have hs3 : w3.heap.size ≤ wr.heap.size := hsw
      have hB1 := (Below.refl w3.heap.size wr).drew
      have hB4 := ((Below.refl w3.heap.size wr).alloc hs3 (.cells (Sg.cells ⟨tw, th, tlo⟩) 37)).drew
      have htl : (l.take i).length = i := by rw [List.length_take]; omega
      have hO4 : (wr.alloc (.cells (Sg.cells ⟨tw, th, tlo⟩) 37)).drew.ownsRow w3.heap.size 37 3 (.slice B i d) i (cellsSg (l.take i)) := HO.out.alloc (.cells (Sg.cells ⟨tw, th, tlo⟩) 37)
      have HB5 := hide (fun (w5 : World) (hg : (wr.alloc (.cells (Sg.cells ⟨tw, th, tlo⟩) 37)).drew.grownBy w5 (Value.slice B i d).ownBlock) => hB4.grown hg (Nat.le_trans hs3 hB4.size) (fun r e => (hO4.lt r e).1))
      have HNew := hide (RdSg.one wr ⟨tw, th, tlo⟩ 37).drew.cell
      have HO4 := hide hO4
      have HB1 := hide hB1
      have HB4 := hide hB4
      have hsz := Nat.le_trans hs3 hB4.size
      clear hB1 hB4 hO4
      have HK := hide (fun (W : World) (h : Below w3.heap.size wr W) => (h.block (n0 + 1 + 1) (by omega)).trans HQ.out)
      have m1 := hS.out _ (HB1.out.mono hle)
      have m2 := hS.out _ (HB4.out.mono hle)
      obtain ⟨p1, p2, p3, p4⟩ := m1
      obtain ⟨p5, p6, p7, p8⟩ := m2
      have k1 : wr.drew.cell? ⟨n0 + 1 + 1, 1, none⟩ = some (.slice B i d) := cell_of_row _ _ _ _ _ _ (HK.out _ HB1.out)
      have k2 : (wr.alloc (.cells #[.int .u32 (tw : Nat), .int .u64 (th : Nat), .int .u64 (tlo : Nat)] 37)).drew.cell? ⟨n0 + 1 + 1, 1, none⟩ = some (.slice B i d) := cell_of_row _ _ _ _ _ _ (HK.out _ HB4.out)
      go_wp2_with fail
      clear e0
      refine wp_region_held (by kernel_rfl) (S := fun W => W.cell? ⟨n0, 1, none⟩ = some (.slice (some ad) l.length c) ∧ W.cell? (ad.add (i * 3)) = some (.int .u32 (tw : Nat)) ∧ W.cell? ⟨(ad.add (i * 3)).block, (ad.add (i * 3)).off + 1, none⟩ = some (.int .u64 (th : Nat)) ∧ W.cell? ⟨(ad.add (i * 3)).block, (ad.add (i * 3)).off + 2, none⟩ = some (.int .u64 (tlo : Nat))) ?_
      change wpAnyH _ _ _ _ _ _ _ _ (World.drew _)
      have HS1 := And.intro p1 (And.intro p2 (And.intro p3 p4))
      have HS2 := And.intro p5 (And.intro p6 (And.intro p7 p8))
      refine wpAnyH_take (i := 0) (v := ?v0) rfl (by kernel_rfl) (by kernel_rfl) (by kernel_rfl) (fun _ _ _ h => h) (Or.inl ⟨by kernel_rfl, ?y0⟩) HS1 ?r0
      case y0 => intro W hS; obtain ⟨s1, s2, s3, s4⟩ := hS; go_simp; try with_reducible rfl
      try simp only [Act.put, List.getElem_toArray, List.getElem_cons_zero, List.setIfInBounds_toArray, List.set_cons_zero, List.set_cons_succ]
      refine wpAnyH_take (i := 2) (v := ?v2) rfl (by kernel_rfl) (by kernel_rfl) (by kernel_rfl) (fun _ _ _ h => h) (Or.inl ⟨by kernel_rfl, ?y2⟩) HS1 ?r2
      case y2 => intro W hS; obtain ⟨s1, s2, s3, s4⟩ := hS; go_simp; try with_reducible rfl
      try simp only [Act.put, List.getElem_toArray, List.getElem_cons_succ, List.getElem_cons_zero, List.setIfInBounds_toArray, List.set_cons_zero, List.set_cons_succ]
      refine wpAnyH_take (i := 4) (v := ?v4) rfl (by kernel_rfl) (by kernel_rfl) (by kernel_rfl) (fun _ _ _ h => h) (Or.inl ⟨by kernel_rfl, ?y4⟩) HS1 ?r4
      case y4 => intro W hS; obtain ⟨s1, s2, s3, s4⟩ := hS; go_simp; try with_reducible rfl
      try simp only [Act.put, List.getElem_toArray, List.getElem_cons_succ, List.getElem_cons_zero, List.setIfInBounds_toArray, List.set_cons_zero, List.set_cons_succ]
      refine wpAnyH_take (i := 3) (v := ?v3) rfl (by kernel_rfl) (by kernel_rfl) (by kernel_rfl) (fun _ _ _ h => h) (Or.inl ⟨by kernel_rfl, ?y3⟩) HS1 ?r3
      case y3 => intro W hS; obtain ⟨s1, s2, s3, s4⟩ := hS; go_simp; try with_reducible rfl
      try simp only [Act.put, List.getElem_toArray, List.getElem_cons_succ, List.getElem_cons_zero, List.setIfInBounds_toArray, List.set_cons_zero, List.set_cons_succ]
      refine wpAnyH_take (i := 5) (v := ?v5) rfl (by kernel_rfl) (by kernel_rfl) (by kernel_rfl) (fun _ _ _ h => h) (Or.inl ⟨by kernel_rfl, ?y5⟩) HS1 ?r5
      case y5 => intro W hS; obtain ⟨s1, s2, s3, s4⟩ := hS; go_simp; try with_reducible rfl
      try simp only [Act.put, List.getElem_toArray, List.getElem_cons_succ, List.getElem_cons_zero, List.setIfInBounds_toArray, List.set_cons_zero, List.set_cons_succ]
      refine wpAnyH_take (i := 6) (v := ?v6) rfl (by kernel_rfl) (by kernel_rfl) (by kernel_rfl) (fun _ _ _ h => h) (Or.inl ⟨by kernel_rfl, ?y6⟩) HS1 ?r6
      case y6 => intro W hS; obtain ⟨s1, s2, s3, s4⟩ := hS; go_simp; try with_reducible rfl
      try simp only [Act.put, List.getElem_toArray, List.getElem_cons_succ, List.getElem_cons_zero, List.setIfInBounds_toArray, List.set_cons_zero, List.set_cons_succ]
      refine wpAnyH_take (i := 7) (v := ?v7) rfl (by kernel_rfl) (by kernel_rfl) (by kernel_rfl) (fun _ _ _ h => h) (Or.inl ⟨by kernel_rfl, ?y7⟩) HS1 ?r7
      case y7 => intro W hS; obtain ⟨s1, s2, s3, s4⟩ := hS; go_simp; try with_reducible rfl
      try simp only [Act.put, List.getElem_toArray, List.getElem_cons_succ, List.getElem_cons_zero, List.setIfInBounds_toArray, List.set_cons_zero, List.set_cons_succ]
      refine wpAnyH_take (i := 8) (v := ?v8) rfl (by kernel_rfl) (by kernel_rfl) (by kernel_rfl) (fun _ _ _ h => h) (Or.inl ⟨by kernel_rfl, ?y8⟩) HS1 ?r8
      case y8 => intro W hS; obtain ⟨s1, s2, s3, s4⟩ := hS; go_simp; try with_reducible rfl
      try simp only [Act.put, List.getElem_toArray, List.getElem_cons_succ, List.getElem_cons_zero, List.setIfInBounds_toArray, List.set_cons_zero, List.set_cons_succ]
      refine wpAnyH_take (i := 10) (v := ?v10) rfl (by kernel_rfl) (by kernel_rfl) (by kernel_rfl) (fun _ _ _ h => h) (Or.inl ⟨by kernel_rfl, ?y10⟩) HS1 ?r10
      case y10 => intro W hS; obtain ⟨s1, s2, s3, s4⟩ := hS; go_simp; try with_reducible rfl
      try simp only [Act.put, List.getElem_toArray, List.getElem_cons_succ, List.getElem_cons_zero, List.setIfInBounds_toArray, List.set_cons_zero, List.set_cons_succ]
      refine wpAnyH_take (i := 9) (v := ?v9) rfl (by kernel_rfl) (by kernel_rfl) (by kernel_rfl) (fun _ _ _ h => h) (Or.inl ⟨by kernel_rfl, ?y9⟩) HS1 ?r9
      case y9 => intro W hS; obtain ⟨s1, s2, s3, s4⟩ := hS; go_simp; try with_reducible rfl
      try simp only [Act.put, List.getElem_toArray, List.getElem_cons_succ, List.getElem_cons_zero, List.setIfInBounds_toArray, List.set_cons_zero, List.set_cons_succ]
      refine wpAnyH_take (i := 11) (v := ?v11) rfl (by kernel_rfl) (by kernel_rfl) (by kernel_rfl) (fun _ _ _ h => h) (Or.inl ⟨by kernel_rfl, ?y11⟩) HS1 ?r11
      case y11 => intro W hS; obtain ⟨s1, s2, s3, s4⟩ := hS; go_simp; try with_reducible rfl
      try simp only [Act.put, List.getElem_toArray, List.getElem_cons_succ, List.getElem_cons_zero, List.setIfInBounds_toArray, List.set_cons_zero, List.set_cons_succ]
      refine wpAnyH_take (i := 12) (v := ?v12) rfl (by kernel_rfl) (by kernel_rfl) (by kernel_rfl) (fun _ _ _ h => h) (Or.inl ⟨by kernel_rfl, ?y12⟩) HS1 ?r12
      case y12 => intro W hS; obtain ⟨s1, s2, s3, s4⟩ := hS; go_simp; try with_reducible rfl
      try simp only [Act.put, List.getElem_toArray, List.getElem_cons_succ, List.getElem_cons_zero, List.setIfInBounds_toArray, List.set_cons_zero, List.set_cons_succ]
      refine wpAnyH_take (i := 13) (v := ?v13) rfl (by kernel_rfl) (by kernel_rfl) (by kernel_rfl) (fun _ _ _ h => h) (Or.inl ⟨by kernel_rfl, ?y13⟩) HS1 ?r13
      case y13 => intro W hS; obtain ⟨s1, s2, s3, s4⟩ := hS; go_simp; try with_reducible rfl
      try simp only [Act.put, List.getElem_toArray, List.getElem_cons_succ, List.getElem_cons_zero, List.setIfInBounds_toArray, List.set_cons_zero, List.set_cons_succ]
      refine wpAnyH_take (i := 14) (v := ?v14) rfl (by kernel_rfl) (by kernel_rfl) (by kernel_rfl) (fun _ _ _ h => h) (Or.inl ⟨by kernel_rfl, ?y14⟩) HS1 ?r14
      case y14 => intro W hS; obtain ⟨s1, s2, s3, s4⟩ := hS; go_simp; try with_reducible rfl
      try simp only [Act.put, List.getElem_toArray, List.getElem_cons_succ, List.getElem_cons_zero, List.setIfInBounds_toArray, List.set_cons_zero, List.set_cons_succ]
      refine held_two (i := 1) (k := 15) (by kernel_rfl) rfl rfl (fun K hK => ?_) (fun K hK => ?_)
      · go_simp
        refine hK _ _ HS1 ?_
        clear hK K
        try simp only [Act.put, List.getElem_toArray, List.getElem_cons_succ, List.getElem_cons_zero, List.setIfInBounds_toArray, List.set_cons_zero, List.set_cons_succ]
        refine held_one (i := 15) (by kernel_rfl) rfl (fun K hK => ?_)
        go_simp
        refine hK _ _ HS2 ?_
        clear hK K
        try simp only [Act.put, List.getElem_toArray, List.getElem_cons_succ, List.getElem_cons_zero, List.setIfInBounds_toArray, List.set_cons_zero, List.set_cons_succ]
        refine held_one (i := 16) (by kernel_rfl) rfl (fun K hK => ?_)
        refine step_append_lies _ rfl (.tmp 25) (.tmp 39) 40 rfl w3.heap.size 37 i0 _ 3 24 Try.underlying40 hi hz0 hz1 hz2 rfl (by decide) _ i _ rfl HO4.out ⟨wr.heap.size, 0, none⟩ 1 1 (cellsSg [⟨tw, th, tlo⟩]) rfl rfl HNew.out (cellsSg_one _) (by decide) (by unfold maxLen; omega) (by omega) hsz _ rfl ?_
        intro g cap w5 hO5 hG5 hat hlt5
        have hr5 := HK.out w5 (HB5.out _ hG5)
        have kc : w5.cell? ⟨n0 + 1 + 1, 1, none⟩ = some (.slice B i d) := cell_of_row _ _ _ _ _ _ hr5
        have kf : w5.frozen? ⟨n0 + 1 + 1, 1, none⟩ = false := frozen_of_row _ _ _ _ _ hr5
        have HS5 := hS.out _ ((HB5.out _ hG5).mono hle)
        refine hK _ _ HS5 ?_
        clear hK K
        try simp only [Act.put, List.getElem_toArray, List.getElem_cons_succ, List.getElem_cons_zero, List.setIfInBounds_toArray, List.set_cons_zero, List.set_cons_succ]
        refine wpAnyH_take (i := 17) (v := ?va17) rfl (by kernel_rfl) (by kernel_rfl) (by kernel_rfl) (fun _ _ _ h => h) (Or.inl ⟨by kernel_rfl, ?ya17⟩) HS5 ?ra17
        case ya17 => intro W hS; go_simp; try with_reducible rfl
        try simp only [Act.put, List.getElem_toArray, List.getElem_cons_succ, List.getElem_cons_zero, List.setIfInBounds_toArray, List.set_cons_zero, List.set_cons_succ]
        refine held_one (i := 18) (by kernel_rfl) rfl (fun K hK => ?_)
        go_simp
        refine hK _ _ (hS.out _ (Below.setCell (p := ⟨n0 + 1 + 1, 1, none⟩) ((HB5.out _ hG5).mono hle) (Nat.le_refl _) _)) ?_
        clear hK K
        try simp only [Act.put, List.getElem_toArray, List.getElem_cons_succ, List.getElem_cons_zero, List.setIfInBounds_toArray, List.set_cons_zero, List.set_cons_succ]
        refine wpAnyH_done (by kernel_rfl) ?_ _
        have q1 := hide (show (w5.setCell ⟨n0 + 1 + 1, 1, none⟩ (.slice (some ⟨g, 0, none⟩) (i + 1) cap)).heap[n0 + 1 + 1]? = some (.cells #[.int .i64 z, .slice (some ⟨g, 0, none⟩) (i + 1) cap, .int .i64 tl, .int .u32 (wk : Nat), .int .u64 (hh : Nat), .int .u64 (lo : Nat)] 42 (0, 0)) from heap_setCell_same w5 (n0 + 1 + 1) 1 _ _ (.slice (some ⟨g, 0, none⟩) (i + 1) cap) hr5)
        have q2 := hide (Below.setCell (p := ⟨n0 + 1 + 1, 1, none⟩) (HW.out.trans ((HB5.out _ hG5).mono hle)) (Nat.le_refl _) (.slice (some ⟨g, 0, none⟩) (i + 1) cap))
        have q3 := hide (show (w5.setCell ⟨n0 + 1 + 1, 1, none⟩ (.slice (some ⟨g, 0, none⟩) (i + 1) cap)).ownsRow w3.heap.size 37 3 (.slice (some ⟨g, 0, none⟩) (i + 1) cap) (i + 1) (cellsSg (l.take (i + 1))) from sig_own_cell (by rw [hT.out, cellsSg_app]; exact hO5) (fun r e => by have := (hO5.lt r e).1; omega))
        clear hO5 hG5 hat hlt5 hr5 kc kf
        go_wp2_with fail
        go_roundg g0
        case rel => exact ⟨i + 1, some ⟨g, 0, none⟩, cap, rfl, by omega, q1, q2, q3⟩
        case measure => omega
      · go_simp
        refine hK _ _ HS2 ?_
        clear hK K
        try simp only [Act.put, List.getElem_toArray, List.getElem_cons_succ, List.getElem_cons_zero, List.setIfInBounds_toArray, List.set_cons_zero, List.set_cons_succ]
        refine held_one (i := 1) (by kernel_rfl) rfl (fun K hK => ?_)
        go_simp
        refine hK _ _ HS2 ?_
        clear hK K
        try simp only [Act.put, List.getElem_toArray, List.getElem_cons_succ, List.getElem_cons_zero, List.setIfInBounds_toArray, List.set_cons_zero, List.set_cons_succ]
        refine held_one (i := 16) (by kernel_rfl) rfl (fun K hK => ?_)
        refine step_append_lies _ rfl (.tmp 25) (.tmp 39) 40 rfl w3.heap.size 37 i0 _ 3 24 Try.underlying40 hi hz0 hz1 hz2 rfl (by decide) _ i _ rfl HO4.out ⟨wr.heap.size, 0, none⟩ 1 1 (cellsSg [⟨tw, th, tlo⟩]) rfl rfl HNew.out (cellsSg_one _) (by decide) (by unfold maxLen; omega) (by omega) hsz _ rfl ?_
        intro g cap w5 hO5 hG5 hat hlt5
        have hr5 := HK.out w5 (HB5.out _ hG5)
        have kc : w5.cell? ⟨n0 + 1 + 1, 1, none⟩ = some (.slice B i d) := cell_of_row _ _ _ _ _ _ hr5
        have kf : w5.frozen? ⟨n0 + 1 + 1, 1, none⟩ = false := frozen_of_row _ _ _ _ _ hr5
        have HS5 := hS.out _ ((HB5.out _ hG5).mono hle)
        refine hK _ _ HS5 ?_
        clear hK K
        try simp only [Act.put, List.getElem_toArray, List.getElem_cons_succ, List.getElem_cons_zero, List.setIfInBounds_toArray, List.set_cons_zero, List.set_cons_succ]
        refine wpAnyH_take (i := 17) (v := ?vb17) rfl (by kernel_rfl) (by kernel_rfl) (by kernel_rfl) (fun _ _ _ h => h) (Or.inl ⟨by kernel_rfl, ?yb17⟩) HS5 ?rb17
        case yb17 => intro W hS; go_simp; try with_reducible rfl
        try simp only [Act.put, List.getElem_toArray, List.getElem_cons_succ, List.getElem_cons_zero, List.setIfInBounds_toArray, List.set_cons_zero, List.set_cons_succ]
        refine held_one (i := 18) (by kernel_rfl) rfl (fun K hK => ?_)
        go_simp
        refine hK _ _ (hS.out _ (Below.setCell (p := ⟨n0 + 1 + 1, 1, none⟩) ((HB5.out _ hG5).mono hle) (Nat.le_refl _) _)) ?_
        clear hK K
        try simp only [Act.put, List.getElem_toArray, List.getElem_cons_succ, List.getElem_cons_zero, List.setIfInBounds_toArray, List.set_cons_zero, List.set_cons_succ]
        refine wpAnyH_done (by kernel_rfl) ?_ _
        have q1 := hide (show (w5.setCell ⟨n0 + 1 + 1, 1, none⟩ (.slice (some ⟨g, 0, none⟩) (i + 1) cap)).heap[n0 + 1 + 1]? = some (.cells #[.int .i64 z, .slice (some ⟨g, 0, none⟩) (i + 1) cap, .int .i64 tl, .int .u32 (wk : Nat), .int .u64 (hh : Nat), .int .u64 (lo : Nat)] 42 (0, 0)) from heap_setCell_same w5 (n0 + 1 + 1) 1 _ _ (.slice (some ⟨g, 0, none⟩) (i + 1) cap) hr5)
        have q2 := hide (Below.setCell (p := ⟨n0 + 1 + 1, 1, none⟩) (HW.out.trans ((HB5.out _ hG5).mono hle)) (Nat.le_refl _) (.slice (some ⟨g, 0, none⟩) (i + 1) cap))
        have q3 := hide (show (w5.setCell ⟨n0 + 1 + 1, 1, none⟩ (.slice (some ⟨g, 0, none⟩) (i + 1) cap)).ownsRow w3.heap.size 37 3 (.slice (some ⟨g, 0, none⟩) (i + 1) cap) (i + 1) (cellsSg (l.take (i + 1))) from sig_own_cell (by rw [hT.out, cellsSg_app]; exact hO5) (fun r e => by have := (hO5.lt r e).1; omega))
        clear hO5 hG5 hat hlt5 hr5 kc kf
        go_wp2_with fail
        go_roundg g0
        case rel => exact ⟨i + 1, some ⟨g, 0, none⟩, cap, rfl, by omega, q1, q2, q3⟩
        case measure => omega
end Go.Proofs.Ytobgbheodlpclaa
