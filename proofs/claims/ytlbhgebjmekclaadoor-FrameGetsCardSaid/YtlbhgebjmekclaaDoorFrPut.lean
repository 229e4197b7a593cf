/-
  frame.Put.
-/
import Derived.Test.YtlbhgebjmekclaaDoorFrRight
import Derived.Test.YtlbhgebjmekclaaDoorCrcOpen
import Derived.Test.YtlbhgebjmekclaaDoorHeldStep
namespace Go.Proofs.YtlbhgebjmekclaaDoor
open Go.RowKit
set_option maxRecDepth 100000

/-- A frame's bytes, ahead of their sum. -/
def bytesF (f : Fr) : List UInt8 := numsL [f.kind.toNat, f.boot, f.num] ++ (groupsL f.body.size ++ toL f.body)
theorem numsL_three (a b c : Nat) : (numsL [a, b, c]).length ≤ 30 := by
  have h1 := groupsL_le a
  have h2 := groupsL_le b
  have h3 := groupsL_le c
  unfold numsL
  simp only [List.flatMap_cons, List.flatMap_nil, List.length_append, List.length_nil]
  omega
theorem bytesF_len (f : Fr) : (bytesF f).length ≤ 40 + f.body.size := by
  have h1 := numsL_three f.kind.toNat f.boot f.num
  have h2 := groupsL_le f.body.size
  unfold bytesF
  rw [List.length_append, List.length_append, show (toL f.body).length = f.body.size by simp [toL]]
  omega
theorem RdU.laid (W : World) (a b c : Nat) (t : TypeId) : RdU (W.alloc (.cells #[.int .u64 (a : Nat), .int .u64 (b : Nat), .int .u64 (c : Nat)] t)) (W.alloc (.cells #[.int .u64 (a : Nat), .int .u64 (b : Nat), .int .u64 (c : Nat)] t)).heap.size (some ⟨W.heap.size, 0, none⟩) [a, b, c] := fun k n hn => by
  have hrow := World.alloc_heap_new W (Obj.cells #[.int .u64 (a : Nat), .int .u64 (b : Nat), .int .u64 (c : Nat)] t)
  have e : ∀ j, ((⟨W.heap.size, 0, none⟩ : Addr).add j) = ⟨W.heap.size, j, none⟩ := fun j => by unfold Addr.add; split <;> simp_all
  refine ⟨_, rfl, by simp, ?_⟩
  rw [e]
  rcases k with _ | _ | _ | k
  · simp at hn; subst hn; exact cell_of_row _ _ _ _ _ _ hrow
  · simp at hn; subst hn; exact cell_of_row _ _ _ _ _ _ hrow
  · simp at hn; subst hn; exact cell_of_row _ _ _ _ _ _ hrow
  · simp at hn

set_option maxHeartbeats 16000000 in
theorem frPut_any (f : Fr) (w : World) (hT : Table w) (hf : f.fits) (hr : rightF f = true) (hs : f.body.size ≤ 1000) :
    Calls Tryd.prog 8 #[.agg f.cells] w (Bytes w (sealL (bytesF f))) := by
  have hb := (Below.refl w.heap.size w).alloc (Nat.le_refl _) (Obj.cells (Fr.cells f) 26)
  have hrow := World.alloc_heap_new w (Obj.cells (Fr.cells f) 26)
  have HRi := hide (fun W => (show Calls Tryd.prog 10 #[.agg f.cells] W fun e w' => e = .returned (.bool true) ∧ Below W.heap.size W w' from by
    have q := frRight_any f W
    rw [hr] at q
    exact q))
  have hbl := bytesF_len f
  obtain ⟨kd, bt, nm, bd⟩ := f
  obtain ⟨f1, f2⟩ := hf
  simp only at f1 f2 hs hbl
  have hk : 0 ≤ kd ∧ kd ≤ 255 := by
    unfold rightF at hr
    simp only [Bool.and_eq_true, decide_eq_true_eq] at hr
    exact ⟨hr.1, hr.2.1⟩
  obtain ⟨K, rfl⟩ : ∃ K : Nat, kd = (K : Int) := ⟨kd.toNat, by omega⟩
  have hK : K ≤ 255 := by omega
  have hB0 : bytesF ⟨(K : Int), bt, nm, bd⟩ = numsL [K, bt, nm] ++ (groupsL bd.size ++ toL bd) := rfl
  rw [hB0] at hbl ⊢
  have h30 := numsL_three K bt nm
  have HN := hide (fun (W : World) => show Calls Tryd.prog 21 #[.slice (some ⟨W.heap.size, 0, none⟩) 3 3] (W.alloc (.cells #[.int .u64 (K : Nat), .int .u64 (bt : Nat), .int .u64 (nm : Nat)] 22)) (Bytes (W.alloc (.cells #[.int .u64 (K : Nat), .int .u64 (bt : Nat), .int .u64 (nm : Nat)] 22)) (numsL [K, bt, nm])) from nums_any (some ⟨W.heap.size, 0, none⟩) [K, bt, nm] 3 (W.alloc (.cells #[.int .u64 (K : Nat), .int .u64 (bt : Nat), .int .u64 (nm : Nat)] 22)) (RdU.laid W K bt nm 22) (by simp) (fun n hn => by simp at hn; omega) (by omega))
  have HT := hide hT
  have HB := hide hb
  simp only [Fr.cells] at HRi HB hrow ⊢
  have HR := hide hrow
  unfold Bytes at HN ⊢
  generalize numsL [K, bt, nm] = ns at HN hbl h30 ⊢
  obtain ⟨ms, hms⟩ : ∃ ms, ms = ns ++ (groupsL bd.size ++ toL bd) := ⟨_, rfl⟩
  rw [← hms] at hbl ⊢
  have HMs := hide hms
  clear hms
  have c0 := cell_of_row _ _ 0 _ _ _ hrow
  have c1 := cell_of_row _ _ 1 _ _ _ hrow
  have c2 := cell_of_row _ _ 2 _ _ _ hrow
  have c3 := cell_of_row _ _ 3 _ _ _ hrow
  clear hb hrow hT hr hB0 hk
  go_enter Tryd.func8, Tryd.ntmps8
  go_wp2_with fail
  refine (HRi.out _).mono ?_
  rintro e w2 ⟨rfl, hb2⟩
  have HB2 := hide (HB.out.trans (hb2.mono HB.out.size))
  have HR2 := hide ((hb2.block _ (Array.getElem?_eq_some_iff.1 HR.out).1).trans HR.out)
  clear hb2 c0 c1 c2 c3 HB HR
  have hkw : IntKind.u64.wrap (K : Int) = (K : Nat) := by rw [IntKind.wrap_u64]; omega
  go_upto_region 3 with fail
  have HSB := hide (fun (W : World) (q : Below w2.heap.size w2 W) => (⟨q, cell_of_row _ _ 0 _ _ _ ((q.block _ (Array.getElem?_eq_some_iff.1 HR2.out).1).trans HR2.out), cell_of_row _ _ 1 _ _ _ ((q.block _ (Array.getElem?_eq_some_iff.1 HR2.out).1).trans HR2.out), cell_of_row _ _ 2 _ _ _ ((q.block _ (Array.getElem?_eq_some_iff.1 HR2.out).1).trans HR2.out), cell_of_row _ _ 3 _ _ _ ((q.block _ (Array.getElem?_eq_some_iff.1 HR2.out).1).trans HR2.out)⟩ : Below w2.heap.size w2 W ∧ W.cell? ⟨w.heap.size, 0, none⟩ = some (.int .i64 (K : Nat)) ∧ W.cell? ⟨w.heap.size, 1, none⟩ = some (.int .u64 (bt : Nat)) ∧ W.cell? ⟨w.heap.size, 2, none⟩ = some (.int .u64 (nm : Nat)) ∧ W.cell? ⟨w.heap.size, 3, none⟩ = some (.string bd)))
  have hS := HSB.out _ (Below.refl w2.heap.size w2).drew
  have hB0 := (Below.refl w2.heap.size w2).drew
  refine wp_region_held (by kernel_rfl) (S := fun W => Below w2.heap.size w2 W ∧ W.cell? ⟨w.heap.size, 0, none⟩ = some (.int .i64 (K : Nat)) ∧ W.cell? ⟨w.heap.size, 1, none⟩ = some (.int .u64 (bt : Nat)) ∧ W.cell? ⟨w.heap.size, 2, none⟩ = some (.int .u64 (nm : Nat)) ∧ W.cell? ⟨w.heap.size, 3, none⟩ = some (.string bd)) ?_
  change wpAnyH _ _ _ _ _ _ _ _ (World.drew _)
  refine wpAnyH_take (i := 0) (v := ?v0) rfl (by kernel_rfl) (by kernel_rfl) (by kernel_rfl) (fun _ _ _ h => h) (Or.inl ⟨by kernel_rfl, ?y0⟩) hS ?r0
  case y0 => intro W hS; obtain ⟨_, s0, s1, s2, s3⟩ := hS; go_simp; try with_reducible rfl
  try simp only [Act.put, List.getElem_toArray, List.getElem_cons_zero, List.setIfInBounds_toArray, List.set_cons_zero, List.set_cons_succ]
  refine wpAnyH_take (i := 1) (v := .int .i64 (K : Nat)) rfl (by kernel_rfl) (by kernel_rfl) (by kernel_rfl) (fun _ _ _ h => h) (Or.inl ⟨by kernel_rfl, ?y1⟩) hS ?r1
  case y1 => intro W hS; obtain ⟨_, s0, s1, s2, s3⟩ := hS; go_simp; try with_reducible rfl
  try simp only [Act.put, List.getElem_toArray, List.getElem_cons_succ, List.getElem_cons_zero, List.setIfInBounds_toArray, List.set_cons_zero, List.set_cons_succ]
  refine wpAnyH_take (i := 2) (v := .int .u64 (K : Nat)) rfl (by kernel_rfl) (by kernel_rfl) (by kernel_rfl) (fun _ _ _ h => h) (Or.inl ⟨by kernel_rfl, ?y2⟩) hS ?r2
  case y2 => intro W hS; obtain ⟨_, s0, s1, s2, s3⟩ := hS; go_simp; try with_reducible rfl
  try simp only [Act.put, List.getElem_toArray, List.getElem_cons_succ, List.getElem_cons_zero, List.setIfInBounds_toArray, List.set_cons_zero, List.set_cons_succ]
  refine wpAnyH_take (i := 3) (v := ?v3) rfl (by kernel_rfl) (by kernel_rfl) (by kernel_rfl) (fun _ _ _ h => h) (Or.inl ⟨by kernel_rfl, ?y3⟩) hS ?r3
  case y3 => intro W hS; obtain ⟨_, s0, s1, s2, s3⟩ := hS; go_simp; try with_reducible rfl
  try simp only [Act.put, List.getElem_toArray, List.getElem_cons_succ, List.getElem_cons_zero, List.setIfInBounds_toArray, List.set_cons_zero, List.set_cons_succ]
  refine wpAnyH_take (i := 4) (v := .int .u64 (bt : Nat)) rfl (by kernel_rfl) (by kernel_rfl) (by kernel_rfl) (fun _ _ _ h => h) (Or.inl ⟨by kernel_rfl, ?y4⟩) hS ?r4
  case y4 => intro W hS; obtain ⟨_, s0, s1, s2, s3⟩ := hS; go_simp; try with_reducible rfl
  try simp only [Act.put, List.getElem_toArray, List.getElem_cons_succ, List.getElem_cons_zero, List.setIfInBounds_toArray, List.set_cons_zero, List.set_cons_succ]
  refine wpAnyH_take (i := 5) (v := ?v5) rfl (by kernel_rfl) (by kernel_rfl) (by kernel_rfl) (fun _ _ _ h => h) (Or.inl ⟨by kernel_rfl, ?y5⟩) hS ?r5
  case y5 => intro W hS; obtain ⟨_, s0, s1, s2, s3⟩ := hS; go_simp; try with_reducible rfl
  try simp only [Act.put, List.getElem_toArray, List.getElem_cons_succ, List.getElem_cons_zero, List.setIfInBounds_toArray, List.set_cons_zero, List.set_cons_succ]
  refine wpAnyH_take (i := 6) (v := .int .u64 (nm : Nat)) rfl (by kernel_rfl) (by kernel_rfl) (by kernel_rfl) (fun _ _ _ h => h) (Or.inl ⟨by kernel_rfl, ?y6⟩) hS ?r6
  case y6 => intro W hS; obtain ⟨_, s0, s1, s2, s3⟩ := hS; go_simp; try with_reducible rfl
  try simp only [Act.put, List.getElem_toArray, List.getElem_cons_succ, List.getElem_cons_zero, List.setIfInBounds_toArray, List.set_cons_zero, List.set_cons_succ]
  refine wpAnyH_take (i := 9) (v := ?v9) rfl (by kernel_rfl) (by kernel_rfl) (by kernel_rfl) (fun _ _ _ h => h) (Or.inl ⟨by kernel_rfl, ?y9⟩) hS ?r9
  case y9 => intro W hS; obtain ⟨_, s0, s1, s2, s3⟩ := hS; go_simp; try with_reducible rfl
  try simp only [Act.put, List.getElem_toArray, List.getElem_cons_succ, List.getElem_cons_zero, List.setIfInBounds_toArray, List.set_cons_zero, List.set_cons_succ]
  refine wpAnyH_take (i := 10) (v := .string bd) rfl (by kernel_rfl) (by kernel_rfl) (by kernel_rfl) (fun _ _ _ h => h) (Or.inl ⟨by kernel_rfl, ?y10⟩) hS ?r10
  case y10 => intro W hS; obtain ⟨_, s0, s1, s2, s3⟩ := hS; go_simp; try with_reducible rfl
  try simp only [Act.put, List.getElem_toArray, List.getElem_cons_succ, List.getElem_cons_zero, List.setIfInBounds_toArray, List.set_cons_zero, List.set_cons_succ]
  generalize w2.drew = U0 at hB0 hS ⊢
  refine heldS_one (i := 7) (by kernel_rfl) rfl (fun K9 hK => ?_)
  go_simp
  have hb := (Below.refl U0.heap.size U0).alloc (Nat.le_refl _) (Obj.cells #[.int .u64 (K : Nat), .int .u64 (bt : Nat), .int .u64 (nm : Nat)] 22)
  have hB1 := hB0.trans (hb.mono hB0.size)
  have hS := HSB.out _ hB1
  refine hK _ _ hS ?_
  clear hK K9 hb
  try simp only [Act.put, List.getElem_toArray, List.getElem_cons_succ, List.getElem_cons_zero, List.setIfInBounds_toArray, List.set_cons_zero, List.set_cons_succ]
  refine heldS_one (i := 8) (by kernel_rfl) rfl (fun K9 hK => ?_)
  go_simp
  refine (HN.out _).mono ?_
  rintro en U2 ⟨B, d, rfl, hc, hR, hb⟩
  have hB2 := hB1.trans (hb.mono hB1.size)
  have hS := HSB.out _ hB2
  have hPt := putText_any B ns d bd U2 hR (by omega) (by omega)
  rw [← HMs.out] at hPt
  refine hK _ _ hS ?_
  clear hK K9 hb hc hR
  try simp only [Act.put, List.getElem_toArray, List.getElem_cons_succ, List.getElem_cons_zero, List.setIfInBounds_toArray, List.set_cons_zero, List.set_cons_succ]
  refine heldS_one (i := 11) (by kernel_rfl) rfl (fun K9 hK => ?_)
  go_simp
  refine hPt.mono ?_
  rintro en U3 ⟨C, e, rfl, hc, hR, hb⟩
  have hB3 := hB2.trans (hb.mono hB2.size)
  have hS := HSB.out _ hB3
  have hSe := seal_any C _ e U3 (HT.out.below (HB2.out.trans (hB3.mono HB2.out.size)) HT.out.pos) hR (by omega)
  refine hK _ _ hS ?_
  clear hK K9 hb hc hR
  try simp only [Act.put, List.getElem_toArray, List.getElem_cons_succ, List.getElem_cons_zero, List.setIfInBounds_toArray, List.set_cons_zero, List.set_cons_succ]
  refine heldS_one (i := 12) (by kernel_rfl) rfl (fun K9 hK => ?_)
  go_simp
  refine hSe.mono ?_
  rintro en U4 ⟨D, f, rfl, hc, hR, hb⟩
  have hB4 := hB3.trans (hb.mono hB3.size)
  have hS := HSB.out _ hB4
  have HF := hide (And.intro hc (And.intro hR (HB2.out.trans (hB4.mono HB2.out.size))))
  refine hK _ _ hS ?_
  clear hK K9 hb hc hR hSe hPt
  try simp only [Act.put, List.getElem_toArray, List.getElem_cons_succ, List.getElem_cons_zero, List.setIfInBounds_toArray, List.set_cons_zero, List.set_cons_succ]
  refine wpAnyH_take (i := 13) (v := ?v13) rfl (by kernel_rfl) (by kernel_rfl) (by kernel_rfl) (fun _ _ _ h => h) (Or.inl ⟨by kernel_rfl, ?y13⟩) hS ?r13
  case y13 => intro W hS; obtain ⟨_, s0, s1, s2, s3⟩ := hS; go_simp; try with_reducible rfl
  try simp only [Act.put, List.getElem_toArray, List.getElem_cons_succ, List.getElem_cons_zero, List.setIfInBounds_toArray, List.set_cons_zero, List.set_cons_succ]
  refine wpAnyH_done (by kernel_rfl) ?_ _
  go_wp2_with fail
  have hlen : ms.length + (le4 (crcL ms)).length = (ms ++ le4 (crcL ms)).length := (List.length_append).symm
  refine bodyPost_ret (results_tmp rfl _ _ _) rfl ⟨D, f, ?_, HF.out.1, HF.out.2.1, HF.out.2.2⟩
  exact congrArg (fun n => Ending.returned (Value.slice D n f)) hlen
end Go.Proofs.YtlbhgebjmekclaaDoor
