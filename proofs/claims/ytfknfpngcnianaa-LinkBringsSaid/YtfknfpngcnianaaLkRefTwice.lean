/-
  The reference's Do: Twice.
-/
import Derived.Test.YtfknfpngcnianaaLkRefDeliver
namespace Go.Proofs.Ytfknfpngcnianaa
open Go.RowKit
set_option maxRecDepth 100000
set_option maxHeartbeats 8000000 in
theorem refTwice_in (k : Nat) (hk : k < 2) (kd : Int) (i : Nat) (at_ : Int) (mask : Nat) (b : List UInt8) (X : Array Value) (q : Way) (p : Pk) (A : Option Addr) (c : Nat) (w : World) (hX : X.size = 6) (h1 : ∀ v ∈ X.toList, v.oneCell' = true) (h : SAt w X k q A c) (hn : q.l.length ≤ 16) (hlo : q.lost ≤ 1000000) (hi : q.l[i]? = some p) (d0 : kd ≠ 0) (d1 : kd ≠ 1) (d2 : kd ≠ 2) (d3 : kd ≠ 3) (ht : p.t = true) :
    Calls Try.prog 9 #[.agg X, .agg (actC kd k i at_ mask b)] w fun e w' => ∃ X', e = .returned (.tuple #[.agg X', .string (⟨#[]⟩), .bool false]) ∧ STo w X k (q) X' w' := by
  obtain ⟨i0, hi0, hz0, hz1, hz2⟩ := infoP_parts info_rpk
  have hil := (List.getElem?_eq_some_iff.1 hi).1
  obtain ⟨ad, hAd, hblt, hpk⟩ := h.rd i p hi
  have hsp : ad.spot = none := (hAd ▸ h.rd).spot (List.getElem?_eq_getElem (show 0 < q.l.length by omega))
  obtain ⟨gp, op, sp⟩ := ad
  simp only at hsp
  subst hsp hAd
  rw [addr_add] at hpk
  obtain ⟨r0, r1, r2, hW⟩ := rows3 w X (actC kd k i at_ mask b) zero6 31 34 31
  have hk2 : (k : Int) < 2 := by omega
  have hi3 : decide ((i : Int) < 0) = false := by simp
  have hi4 : (i : Int) < q.l.length := by omega
  have hi5 : decide (q.l.length ≤ i) = false := by simp; omega
  have hi6 : ¬ (q.l.length : Int) ≤ (i : Int) := by omega
  have hn2 : (q.l.length : Int) ≤ 16 := by omega
  have e1 := cell_of_row _ _ 1 _ _ _ r1
  have e0 := cell_of_row _ _ 0 _ _ _ r1
  have e2 := cell_of_row _ _ 2 _ _ _ r1
  have ek := (cell_of_row _ _ k _ _ _ r0).trans h.row
  have hpV := hpk.below hW hblt
  obtain ⟨p0, p1⟩ := hpV
  have p1 : World.cell? _ ⟨gp, op + i * 2 + 1, none⟩ = _ := p1
  have hrw : RdP w w.heap.size (some ⟨gp, op, none⟩) q.l := h.rd
  have tk0 : (kd == 0) = false := by simpa using d0
  have tk1 : (kd == 1) = false := by simpa using d1
  have tk2 : (kd == 2) = false := by simpa using d2
  have tk3 : (kd == 3) = false := by simpa using d3
  clear d0 d1 d2 d3
  have k1 := fun W => slPto gp op q.l.length c i (by omega) h.cap W
  obtain ⟨A2, m2, c2, HA2, k2⟩ := slPfrom gp op q.l.length c i hil h.cap
  have kw : IntKind.i64.wrap ((i : Int) + 1) = (i : Int) + 1 := IntWalk.i64_in _ (by omega)
  have HRW := hide hrw
  have HK := hide hk
  have H6 := hide hX
  have H1 := hide h1
  have HH := hide h
  have HN := hide (And.intro hn hlo)
  have HI := hide hi
  have HIL := hide hil
  have HX := hide (st_size hX)
  have HA1 := hide (all_of h1)
  rw [ht] at p1
  have HT := hide ht
  clear ht
  unfold zero6 actC at *
  clear h h1 hX hn hlo hi hil hpk hrw
  rcases two_ways hk with t0 | ⟨t0, t1⟩
  all_goals
    clear hk
    go_enter Try.func9, Try.ntmps9
    go_upto_region 7 with fail
    have r2 : (((w.alloc (.cells X 31)).alloc (.cells #[.int .i64 kd, .int .i64 k, .int .i64 i, .int .i64 at_, .int .u32 mask, .string (ofL b)] 34)).alloc (.cells #[.slice none 0 0, .slice none 0 0, .int .i64 0, .int .i64 0, .int .i64 0, .int .i64 0] 31)).heap[w.heap.size + 1 + 1]? = _ := r2
    generalize (((w.alloc (.cells X 31)).alloc (.cells #[.int .i64 kd, .int .i64 k, .int .i64 i, .int .i64 at_, .int .u32 mask, .string (ofL b)] 34)).alloc (.cells #[.slice none 0 0, .slice none 0 0, .int .i64 0, .int .i64 0, .int .i64 0, .int .i64 0] 31)) = V at r0 r1 r2 hW e0 e1 e2 ek p0 p1 ⊢
    go_quiet (fail)
    rename_i nq
    have r0 : (V.drewN nq).heap[w.heap.size]? = _ := r0
    have r1 : (V.drewN nq).heap[w.heap.size + 1]? = _ := r1
    have r2 : (V.drewN nq).heap[w.heap.size + 1 + 1]? = _ := r2
    have hW := below_drewN hW nq
    have e0 : (V.drewN nq).cell? ⟨w.heap.size + 1, 0, none⟩ = _ := e0
    have e2 : (V.drewN nq).cell? ⟨w.heap.size + 1, 2, none⟩ = _ := e2
    have ek : (V.drewN nq).cell? ⟨w.heap.size, k, none⟩ = _ := ek
    have p0 : (V.drewN nq).cell? ⟨gp, op + i * 2, none⟩ = _ := p0
    have p1 : (V.drewN nq).cell? ⟨gp, op + i * 2 + 1, none⟩ = _ := p1
    clear e1 hi3 hi5 hi6
    generalize V.drewN nq = V2 at r0 r1 r2 hW e0 e2 ek p0 p1 ⊢
    go_upto_region 9 with fail
    have hpl2 : gp < V2.heap.size := Nat.lt_of_lt_of_le hblt hW.size
    have HVB := hide (fun (W : World) (b : Below V2.heap.size V2 W) => (⟨(b.cell (p := ⟨w.heap.size, k, none⟩) (Array.getElem?_eq_some_iff.1 r0).1).trans ek, (b.cell (p := ⟨w.heap.size + 1, 2, none⟩) (Array.getElem?_eq_some_iff.1 r1).1).trans e2, (b.cell (p := ⟨gp, op + i * 2, none⟩) hpl2).trans p0, (b.cell (p := ⟨gp, op + i * 2 + 1, none⟩) hpl2).trans p1⟩ : W.cell? ⟨w.heap.size, k, none⟩ = some (.slice (some ⟨gp, op, none⟩) q.l.length c) ∧ W.cell? ⟨w.heap.size + 1, 2, none⟩ = some (.int .i64 i) ∧ W.cell? ⟨gp, op + i * 2, none⟩ = some (.string (ofL p.b)) ∧ W.cell? ⟨gp, op + i * 2 + 1, none⟩ = some (.bool true)))
    have hS := HVB.out _ (Below.refl V2.heap.size V2).drew
    have hB0 := (Below.refl V2.heap.size V2).drew
    refine wp_region_held (by kernel_rfl) (S := fun W => W.cell? ⟨w.heap.size, k, none⟩ = some (.slice (some ⟨gp, op, none⟩) q.l.length c) ∧ W.cell? ⟨w.heap.size + 1, 2, none⟩ = some (.int .i64 i) ∧ W.cell? ⟨gp, op + i * 2, none⟩ = some (.string (ofL p.b)) ∧ W.cell? ⟨gp, op + i * 2 + 1, none⟩ = some (.bool true)) ?_
    change wpAnyH _ _ _ _ _ _ _ _ (World.drew _)
    refine wpAnyH_take (i := 0) (v := .int .i64 k) rfl (by kernel_rfl) (by kernel_rfl) (by kernel_rfl) (fun _ _ _ h => h) (Or.inl ⟨by kernel_rfl, ?_⟩) hS ?_
    · intro W hS; obtain ⟨s0, s1, s2, s3⟩ := hS; go_simp; try with_reducible rfl
    try simp only [Act.put, List.getElem_toArray, List.getElem_cons_zero, List.setIfInBounds_toArray, List.set_cons_zero, List.set_cons_succ]
    refine wpAnyH_take (i := 1) (v := .pointer (some ⟨w.heap.size, 0, none⟩)) rfl (by kernel_rfl) (by kernel_rfl) (by kernel_rfl) (fun _ _ _ h => h) (Or.inl ⟨by kernel_rfl, ?_⟩) hS ?_
    · intro W hS; obtain ⟨s0, s1, s2, s3⟩ := hS; go_simp; try with_reducible rfl
    try simp only [Act.put, List.getElem_toArray, List.getElem_cons_succ, List.getElem_cons_zero, List.setIfInBounds_toArray, List.set_cons_zero, List.set_cons_succ]
    refine wpAnyH_take (i := 2) (v := .pointer (some ⟨w.heap.size, k, none⟩)) rfl (by kernel_rfl) (by kernel_rfl) (by kernel_rfl) (fun _ _ _ h => h) (Or.inl ⟨by kernel_rfl, ?_⟩) hS ?_
    · intro W hS; obtain ⟨s0, s1, s2, s3⟩ := hS; go_simp; try with_reducible rfl
    try simp only [Act.put, List.getElem_toArray, List.getElem_cons_succ, List.getElem_cons_zero, List.setIfInBounds_toArray, List.set_cons_zero, List.set_cons_succ]
    refine wpAnyH_take (i := 3) (v := .slice (some ⟨gp, op, none⟩) q.l.length c) rfl (by kernel_rfl) (by kernel_rfl) (by kernel_rfl) (fun _ _ _ h => h) (Or.inl ⟨by kernel_rfl, ?_⟩) hS ?_
    · intro W hS; obtain ⟨s0, s1, s2, s3⟩ := hS; go_simp; try with_reducible rfl
    try simp only [Act.put, List.getElem_toArray, List.getElem_cons_succ, List.getElem_cons_zero, List.setIfInBounds_toArray, List.set_cons_zero, List.set_cons_succ]
    refine wpAnyH_take (i := 4) (v := .pointer (some ⟨w.heap.size + 1, 2, none⟩)) rfl (by kernel_rfl) (by kernel_rfl) (by kernel_rfl) (fun _ _ _ h => h) (Or.inl ⟨by kernel_rfl, ?_⟩) hS ?_
    · intro W hS; obtain ⟨s0, s1, s2, s3⟩ := hS; go_simp; try with_reducible rfl
    try simp only [Act.put, List.getElem_toArray, List.getElem_cons_succ, List.getElem_cons_zero, List.setIfInBounds_toArray, List.set_cons_zero, List.set_cons_succ]
    refine wpAnyH_take (i := 5) (v := .int .i64 i) rfl (by kernel_rfl) (by kernel_rfl) (by kernel_rfl) (fun _ _ _ h => h) (Or.inl ⟨by kernel_rfl, ?_⟩) hS ?_
    · intro W hS; obtain ⟨s0, s1, s2, s3⟩ := hS; go_simp; try with_reducible rfl
    try simp only [Act.put, List.getElem_toArray, List.getElem_cons_succ, List.getElem_cons_zero, List.setIfInBounds_toArray, List.set_cons_zero, List.set_cons_succ]
    refine wpAnyH_take (i := 6) (v := .pointer (some ⟨gp, op + i * 2, none⟩)) rfl (by kernel_rfl) (by kernel_rfl) (by kernel_rfl) (fun _ _ _ h => h) (Or.inl ⟨by kernel_rfl, ?_⟩) hS ?_
    · intro W hS; obtain ⟨s0, s1, s2, s3⟩ := hS; go_simp; try with_reducible rfl
    try simp only [Act.put, List.getElem_toArray, List.getElem_cons_succ, List.getElem_cons_zero, List.setIfInBounds_toArray, List.set_cons_zero, List.set_cons_succ]
    refine wpAnyH_take (i := 7) (v := .agg #[.string (ofL p.b), .bool true]) rfl (by kernel_rfl) (by kernel_rfl) (by kernel_rfl) (fun _ _ _ h => h) (Or.inl ⟨by kernel_rfl, ?_⟩) hS ?_
    · intro W hS; obtain ⟨s0, s1, s2, s3⟩ := hS; go_simp; try with_reducible rfl
    try simp only [Act.put, List.getElem_toArray, List.getElem_cons_succ, List.getElem_cons_zero, List.setIfInBounds_toArray, List.set_cons_zero, List.set_cons_succ]
    clear hS
    generalize World.drew V2 = V3 at hB0 ⊢
    refine heldS_one (i := 8) (by kernel_rfl) rfl (fun K hK => ?_)
    go_simp
    have hb3 := hB0.alloc hB0.size (.cells #[.string ⟨#[]⟩, .bool false] 59)
    have r3 := World.alloc_heap_new V3 (.cells #[.string ⟨#[]⟩, .bool false] 59)
    refine hK _ _ (HVB.out _ hb3) ?_
    clear hK K
    try simp only [Act.put, List.getElem_toArray, List.getElem_cons_succ, List.getElem_cons_zero, List.setIfInBounds_toArray, List.set_cons_zero, List.set_cons_succ]
    obtain ⟨g3, hg3⟩ : ∃ g3, g3 = V3.heap.size := ⟨_, rfl⟩
    have hg3l : V2.heap.size ≤ g3 := by rw [hg3]; exact hB0.size
    generalize V3.alloc (.cells #[.string ⟨#[]⟩, .bool false] 59) = V4 at r3 hb3 ⊢
    rw [← hg3] at r3 ⊢
    clear hg3
    have y0 : V4.cell? ⟨g3, 0, none⟩ = some (.string ⟨#[]⟩) := cell_of_row _ _ _ _ _ _ r3
    have y1 : V4.cell? ⟨g3, 1, none⟩ = some (.bool false) := cell_of_row _ _ _ _ _ _ r3
    have z0 : V4.frozen? ⟨g3, 0, none⟩ = false := frozen_of_row _ _ _ _ _ r3
    have z1 : V4.frozen? ⟨g3, 1, none⟩ = false := frozen_of_row _ _ _ _ _ r3
    have r3b := heap_setCell_same _ g3 1 _ _ (.bool true) (heap_setCell_same _ g3 0 _ _ (.string (ofL p.b)) r3)
    have hb5 := (hb3.setCell (p := ⟨g3, 0, none⟩) hg3l (.string (ofL p.b))).setCell (p := ⟨g3, 1, none⟩) hg3l (.bool true)
    refine heldS_one (i := 9) (by kernel_rfl) rfl (fun K hK => ?_)
    go_simp
    refine hK _ _ (HVB.out _ hb5) ?_
    clear hK K y0 y1 z0 z1 hb3 r3
    try simp only [Act.put, List.getElem_toArray, List.getElem_cons_succ, List.getElem_cons_zero, List.setIfInBounds_toArray, List.set_cons_zero, List.set_cons_succ]
    refine wpAnyH_done (by kernel_rfl) ?_ _
    have r3 : ((V4.setCell ⟨g3, 0, none⟩ (.string (ofL p.b))).setCell ⟨g3, 1, none⟩ (.bool true)).heap[g3]? = some (.cells #[.string (ofL p.b), .bool true] 59 (0, 0)) := r3b
    have hlt3 := (Array.getElem?_eq_some_iff.1 r2).1
    have r0 := (hb5.block _ (Array.getElem?_eq_some_iff.1 r0).1).trans r0
    have r1 := (hb5.block _ (Array.getElem?_eq_some_iff.1 r1).1).trans r1
    have r2 := (hb5.block _ (Array.getElem?_eq_some_iff.1 r2).1).trans r2
    have hW := hW.trans (hb5.mono hW.size)
    have hg3s : w.heap.size + 1 + 1 < g3 := by omega
    have e0 := (cell_of_row _ _ 0 _ _ _ r1)
    have e2 := (cell_of_row _ _ 2 _ _ _ r1)
    have ek := (cell_of_row _ _ k _ _ _ r0).trans HH.out.row
    clear hB0 hb5 r3b HVB p0 p1 hlt3 hg3l hpl2
    generalize ((V4.setCell ⟨g3, 0, none⟩ (.string (ofL p.b))).setCell ⟨g3, 1, none⟩ (.bool true)) = U at r0 r1 r2 r3 hW e0 e2 ek ⊢
    go_upto_region 10 with fail
    have HVB := hide (fun (W : World) (b : Below U.heap.size U W) => (⟨(b.cell (p := ⟨w.heap.size, k, none⟩) (Array.getElem?_eq_some_iff.1 r0).1).trans ek, (b.cell (p := ⟨w.heap.size + 1, 2, none⟩) (Array.getElem?_eq_some_iff.1 r1).1).trans e2⟩ : W.cell? ⟨w.heap.size, k, none⟩ = some (.slice (some ⟨gp, op, none⟩) q.l.length c) ∧ W.cell? ⟨w.heap.size + 1, 2, none⟩ = some (.int .i64 i)))
    have hS := HVB.out _ (Below.refl U.heap.size U).drew
    have hB0 := (Below.refl U.heap.size U).drew
    refine wp_region_held (by kernel_rfl) (S := fun W => W.cell? ⟨w.heap.size, k, none⟩ = some (.slice (some ⟨gp, op, none⟩) q.l.length c) ∧ W.cell? ⟨w.heap.size + 1, 2, none⟩ = some (.int .i64 i)) ?_
    change wpAnyH _ _ _ _ _ _ _ _ (World.drew _)
    refine wpAnyH_take (i := 1) (v := .int .i64 k) rfl (by kernel_rfl) (by kernel_rfl) (by kernel_rfl) (fun _ _ _ h => h) (Or.inl ⟨by kernel_rfl, ?_⟩) hS ?_
    · intro W hS; obtain ⟨s0, s1⟩ := hS; go_simp; try with_reducible rfl
    try simp only [Act.put, List.getElem_toArray, List.setIfInBounds_toArray]
    refine wpAnyH_take (i := 2) (v := .pointer (some ⟨w.heap.size, 0, none⟩)) rfl (by kernel_rfl) (by kernel_rfl) (by kernel_rfl) (fun _ _ _ h => h) (Or.inl ⟨by kernel_rfl, ?_⟩) hS ?_
    · intro W hS; obtain ⟨s0, s1⟩ := hS; go_simp; try with_reducible rfl
    try simp only [Act.put, List.getElem_toArray, List.getElem_cons_succ, List.getElem_cons_zero, List.setIfInBounds_toArray, List.set_cons_zero, List.set_cons_succ]
    refine wpAnyH_take (i := 3) (v := .pointer (some ⟨w.heap.size, k, none⟩)) rfl (by kernel_rfl) (by kernel_rfl) (by kernel_rfl) (fun _ _ _ h => h) (Or.inl ⟨by kernel_rfl, ?_⟩) hS ?_
    · intro W hS; obtain ⟨s0, s1⟩ := hS; go_simp; try with_reducible rfl
    try simp only [Act.put, List.getElem_toArray, List.getElem_cons_succ, List.getElem_cons_zero, List.setIfInBounds_toArray, List.set_cons_zero, List.set_cons_succ]
    refine wpAnyH_take (i := 4) (v := .slice (some ⟨gp, op, none⟩) q.l.length c) rfl (by kernel_rfl) (by kernel_rfl) (by kernel_rfl) (fun _ _ _ h => h) (Or.inl ⟨by kernel_rfl, ?_⟩) hS ?_
    · intro W hS; obtain ⟨s0, s1⟩ := hS; go_simp; try with_reducible rfl
    try simp only [Act.put, List.getElem_toArray, List.getElem_cons_succ, List.getElem_cons_zero, List.setIfInBounds_toArray, List.set_cons_zero, List.set_cons_succ]
    refine wpAnyH_take (i := 5) (v := .pointer (some ⟨w.heap.size + 1, 2, none⟩)) rfl (by kernel_rfl) (by kernel_rfl) (by kernel_rfl) (fun _ _ _ h => h) (Or.inl ⟨by kernel_rfl, ?_⟩) hS ?_
    · intro W hS; obtain ⟨s0, s1⟩ := hS; go_simp; try with_reducible rfl
    try simp only [Act.put, List.getElem_toArray, List.getElem_cons_succ, List.getElem_cons_zero, List.setIfInBounds_toArray, List.set_cons_zero, List.set_cons_succ]
    refine wpAnyH_take (i := 6) (v := .int .i64 i) rfl (by kernel_rfl) (by kernel_rfl) (by kernel_rfl) (fun _ _ _ h => h) (Or.inl ⟨by kernel_rfl, ?_⟩) hS ?_
    · intro W hS; obtain ⟨s0, s1⟩ := hS; go_simp; try with_reducible rfl
    try simp only [Act.put, List.getElem_toArray, List.getElem_cons_succ, List.getElem_cons_zero, List.setIfInBounds_toArray, List.set_cons_zero, List.set_cons_succ]
    refine wpAnyH_take (i := 7) (v := .slice (some ⟨gp, op, none⟩) i c) rfl (by kernel_rfl) (by kernel_rfl) (by kernel_rfl) (fun _ _ _ h => h) (Or.inl ⟨by kernel_rfl, ?_⟩) hS ?_
    · intro W hS; obtain ⟨s0, s1⟩ := hS; go_simp; try with_reducible rfl
    try simp only [Act.put, List.getElem_toArray, List.getElem_cons_succ, List.getElem_cons_zero, List.setIfInBounds_toArray, List.set_cons_zero, List.set_cons_succ]
    refine wpAnyH_take (i := 9) (v := .int .i64 k) rfl (by kernel_rfl) (by kernel_rfl) (by kernel_rfl) (fun _ _ _ h => h) (Or.inl ⟨by kernel_rfl, ?_⟩) hS ?_
    · intro W hS; obtain ⟨s0, s1⟩ := hS; go_simp; try with_reducible rfl
    try simp only [Act.put, List.getElem_toArray, List.getElem_cons_succ, List.getElem_cons_zero, List.setIfInBounds_toArray, List.set_cons_zero, List.set_cons_succ]
    refine wpAnyH_take (i := 10) (v := .pointer (some ⟨w.heap.size, 0, none⟩)) rfl (by kernel_rfl) (by kernel_rfl) (by kernel_rfl) (fun _ _ _ h => h) (Or.inl ⟨by kernel_rfl, ?_⟩) hS ?_
    · intro W hS; obtain ⟨s0, s1⟩ := hS; go_simp; try with_reducible rfl
    try simp only [Act.put, List.getElem_toArray, List.getElem_cons_succ, List.getElem_cons_zero, List.setIfInBounds_toArray, List.set_cons_zero, List.set_cons_succ]
    refine wpAnyH_take (i := 11) (v := .pointer (some ⟨w.heap.size, k, none⟩)) rfl (by kernel_rfl) (by kernel_rfl) (by kernel_rfl) (fun _ _ _ h => h) (Or.inl ⟨by kernel_rfl, ?_⟩) hS ?_
    · intro W hS; obtain ⟨s0, s1⟩ := hS; go_simp; try with_reducible rfl
    try simp only [Act.put, List.getElem_toArray, List.getElem_cons_succ, List.getElem_cons_zero, List.setIfInBounds_toArray, List.set_cons_zero, List.set_cons_succ]
    refine wpAnyH_take (i := 12) (v := .slice (some ⟨gp, op, none⟩) q.l.length c) rfl (by kernel_rfl) (by kernel_rfl) (by kernel_rfl) (fun _ _ _ h => h) (Or.inl ⟨by kernel_rfl, ?_⟩) hS ?_
    · intro W hS; obtain ⟨s0, s1⟩ := hS; go_simp; try with_reducible rfl
    try simp only [Act.put, List.getElem_toArray, List.getElem_cons_succ, List.getElem_cons_zero, List.setIfInBounds_toArray, List.set_cons_zero, List.set_cons_succ]
    refine wpAnyH_take (i := 13) (v := .pointer (some ⟨w.heap.size + 1, 2, none⟩)) rfl (by kernel_rfl) (by kernel_rfl) (by kernel_rfl) (fun _ _ _ h => h) (Or.inl ⟨by kernel_rfl, ?_⟩) hS ?_
    · intro W hS; obtain ⟨s0, s1⟩ := hS; go_simp; try with_reducible rfl
    try simp only [Act.put, List.getElem_toArray, List.getElem_cons_succ, List.getElem_cons_zero, List.setIfInBounds_toArray, List.set_cons_zero, List.set_cons_succ]
    refine wpAnyH_take (i := 14) (v := .int .i64 i) rfl (by kernel_rfl) (by kernel_rfl) (by kernel_rfl) (fun _ _ _ h => h) (Or.inl ⟨by kernel_rfl, ?_⟩) hS ?_
    · intro W hS; obtain ⟨s0, s1⟩ := hS; go_simp; try with_reducible rfl
    try simp only [Act.put, List.getElem_toArray, List.getElem_cons_succ, List.getElem_cons_zero, List.setIfInBounds_toArray, List.set_cons_zero, List.set_cons_succ]
    refine wpAnyH_take (i := 15) (v := .int .i64 ((i : Int) + 1)) rfl (by kernel_rfl) (by kernel_rfl) (by kernel_rfl) (fun _ _ _ h => h) (Or.inl ⟨by kernel_rfl, ?_⟩) hS ?_
    · intro W hS; obtain ⟨s0, s1⟩ := hS; go_simp; try with_reducible rfl
    try simp only [Act.put, List.getElem_toArray, List.getElem_cons_succ, List.getElem_cons_zero, List.setIfInBounds_toArray, List.set_cons_zero, List.set_cons_succ]
    refine wpAnyH_take (i := 16) (v := .slice A2 m2 c2) rfl (by kernel_rfl) (by kernel_rfl) (by kernel_rfl) (fun _ _ _ h => h) (Or.inl ⟨by kernel_rfl, ?_⟩) hS ?_
    · intro W hS; obtain ⟨s0, s1⟩ := hS; go_simp; try with_reducible rfl
    try simp only [Act.put, List.getElem_toArray, List.getElem_cons_succ, List.getElem_cons_zero, List.setIfInBounds_toArray, List.set_cons_zero, List.set_cons_succ]
    clear hS
    generalize World.drew U = U0 at hB0 ⊢
    refine heldS_one (i := 0) (by kernel_rfl) rfl (fun K hK => ?_)
    go_simp
    have hO1 := World.ownsRow_lit (base := U.heap.size) (e := 59) (size := 2) U0 #[] 0 hB0.size (by decide) rfl
    have hB1 := hB0.alloc hB0.size (.cells #[] 59)
    refine hK _ _ (HVB.out _ hB1) ?_
    clear hK K
    try simp only [Act.put, List.getElem_toArray, List.getElem_cons_succ, List.getElem_cons_zero, List.setIfInBounds_toArray, List.set_cons_zero, List.set_cons_succ]
    generalize U0.alloc (.cells #[] 59) = U1 at hO1 hB1 ⊢
    have hA1 := ((HRW.out.below (hW.trans (hB1.mono hW.size)) (Nat.le_refl _)).take i)
    have hlt10 : (q.l.take i).length = i := by rw [List.length_take]; have := HIL.out; omega
    refine heldS_one (i := 8) (by kernel_rfl) rfl (fun K hK => ?_)
    refine step_append_pks rfl (.tmp 60) (.tmp 67) 27 rfl U.heap.size 59 i0 Try.underlying27 hi0 hz0 hz1 hz2 _ 0 [] rfl hO1 (some ⟨gp, op, none⟩) _ c _ (q.l.take i) rfl hlt10.symm hA1 (by have := HIL.out; have := HN.out; unfold maxLen; omega) (by have := HIL.out; have := HN.out; omega) hB1.size ?_
    intro v6 U2 hO2 hg
    have hB2 := hB1.grown hg hB1.size (fun r e => (hO1.lt r e).1)
    refine hK _ _ (HVB.out _ hB2) ?_
    clear hK K hg hA1 hO1 hlt10
    try simp only [Act.put, List.getElem_toArray, List.getElem_cons_succ, List.getElem_cons_zero, List.setIfInBounds_toArray, List.set_cons_zero, List.set_cons_succ]
    rw [Nat.zero_add, List.nil_append] at hO2
    have hA2 := (HA2.out.2.2 _ w.heap.size (HRW.out.below (hW.trans (hB2.mono hW.size)) (Nat.le_refl _))) HH.out.cap
    have hm2 := HA2.out.1
    refine heldS_one (i := 17) (by kernel_rfl) rfl (fun K hK => ?_)
    refine step_append_pks rfl (.tmp 68) (.tmp 76) 27 rfl U.heap.size 59 i0 Try.underlying27 hi0 hz0 hz1 hz2 v6 _ _ rfl hO2 A2 m2 c2 _ (q.l.drop (i + 1)) rfl (by rw [List.length_drop]; exact hm2) hA2 (by have := HIL.out; have := HN.out; unfold maxLen; omega) (by have := HIL.out; have := HN.out; omega) hB2.size ?_
    intro v9 U3 hO3 hg
    have hB3 := hB2.grown hg hB2.size (fun r e => (hO2.lt r e).1)
    refine hK _ _ (HVB.out _ hB3) ?_
    clear hK K hg hA2 hO2 hm2
    try simp only [Act.put, List.getElem_toArray, List.getElem_cons_succ, List.getElem_cons_zero, List.setIfInBounds_toArray, List.set_cons_zero, List.set_cons_succ]
    obtain ⟨B9, c9, rfl⟩ := ownsRow_slice hO3
    rw [← cellsP_app] at hO3
    have hS := HVB.out _ hB3
    refine wpAnyH_take (i := 18) (v := .slice B9 (i + m2) c9) rfl (by kernel_rfl) (by kernel_rfl) (by kernel_rfl) (fun _ _ _ h => h) (Or.inl ⟨by kernel_rfl, ?_⟩) hS ?_
    · intro W hS; obtain _ := hS; go_simp; try with_reducible rfl
    try simp only [Act.put, List.getElem_toArray, List.getElem_cons_succ, List.getElem_cons_zero, List.setIfInBounds_toArray, List.set_cons_zero, List.set_cons_succ]
    clear hS
    refine wpAnyH_done (by kernel_rfl) ?_ _
    have r0 := (hB3.block _ (Array.getElem?_eq_some_iff.1 r0).1).trans r0
    have r1 := (hB3.block _ (Array.getElem?_eq_some_iff.1 r1).1).trans r1
    have r2 := (hB3.block _ (Array.getElem?_eq_some_iff.1 r2).1).trans r2
    have r3o := r3
    have r3 := (hB3.block _ (Array.getElem?_eq_some_iff.1 r3).1).trans r3
    have HO := hide (And.intro hO3 (And.intro HA2.out.1 (show g3 < U.heap.size from (Array.getElem?_eq_some_iff.1 r3o).1)))
    have hW := hW.trans (hB3.mono hW.size)
    clear hO3 hB2 hB1 hB0 hB3 HVB ek e2 k1 k2 kw e0
    have e0 := cell_of_row _ _ 0 _ _ _ r1
    clear r3o
    generalize hn9 : i + m2 = n9 at HO ⊢
    have HO := hide (show U3.ownsRow (g3 + 1) 59 2 (.slice B9 n9 c9) n9 (cellsP (q.took i).l) ∧ n9 = (q.took i).l.length from ⟨by rw [took_eq q i]; exact ownsRow_lowerP HO.out.1 HO.out.2.2, by rw [took_len q i HIL.out]; have := HO.out.2.1; have := HIL.out; omega⟩)
    clear hn9
    have ekc := (cell_of_row _ _ k _ _ _ r0).trans HH.out.row
    have e4 := cell_of_row _ _ 1 _ _ _ r3
    have hL : STo w X k q X (U3.setRow (w.heap.size + 1 + 1) X) := ⟨some ⟨gp, op, none⟩, c, H6.out, H1.out, ⟨HH.out.row, HH.out.sent, HH.out.lost, HH.out.cap, (HRW.out.below (below_row hW (b := w.heap.size + 1 + 1) (by omega) X) (Nat.le_refl _)).mono (below_row hW (b := w.heap.size + 1 + 1) (by omega) X).size⟩, fun _ _ _ _ => rfl, below_row hW (by omega) X, .inl ⟨_, _, HH.out.row⟩⟩
    have HL := hide hL
    clear hL
    go_wp2_with (first | (refine wpList_load_row rfl 31 (.tmp 2) rfl w.heap.size rfl 31 X (0, 0) _ r0 Try.underlying31 rfl HX.out ?_) | (refine wpList_store_row rfl 31 (.tmp 4) (.tmp 111) rfl (w.heap.size + 1 + 1) X rfl rfl 31 _ r2 HX.out (by rw [H6.out]; rfl) HA1.out ?_))
    exact bodyPost_ret (results_row3 rfl _ _ (w.heap.size + 1 + 1) 31 X (0, 0) _ rfl (setRow_heap U3 _ _ X _ _ r2) Try.underlying31 rfl HX.out) rfl ⟨X, rfl, HL.out⟩
end Go.Proofs.Ytfknfpngcnianaa
