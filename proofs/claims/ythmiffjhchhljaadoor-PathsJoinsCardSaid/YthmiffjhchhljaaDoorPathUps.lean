/-
  paths.Names and paths.Depth; paths.Ups: the iterator's contract, over paths.Names's.
-/
import Derived.Test.YthmiffjhchhljaaDoorPathNames
namespace Go.Proofs.YthmiffjhchhljaaDoor
open Go.RowKit Go.Shelf
set_option maxRecDepth 100000

set_option maxHeartbeats 400000 in
theorem names_any (p : ByteArray) (w : World) :
    Calls Tryd.prog 54 #[.string p] w fun e w' => e = .returned (.func (.func 76) #[] #[.pointer (some ⟨w.heap.size, 0, none⟩)]) ∧ w' = w.alloc (.cells #[.string p] 9) := by
  go_enter Tryd.func54, Tryd.ntmps54
  go_wp2
  go_ret
  exact ⟨rfl, rfl⟩

set_option maxHeartbeats 400000 in
theorem ups_any (p : ByteArray) (w : World) :
    Calls Tryd.prog 55 #[.string p] w fun e w' => e = .returned (.func (.func 77) #[] #[.pointer (some ⟨w.heap.size, 0, none⟩)]) ∧ w' = w.alloc (.cells #[.string p] 9) := by
  go_enter Tryd.func55, Tryd.ntmps55
  go_wp2
  go_ret
  exact ⟨rfl, rfl⟩

theorem namesL_len (p : List UInt8) : (namesL p).length ≤ 16 := by
  unfold namesL
  split
  · simp
  · rename_i h
    simp only [Bool.or_eq_true, Bool.not_eq_true', not_or, Bool.not_eq_true, Bool.not_eq_false] at h
    have h2 := h.2
    unfold rightL at h2
    rw [h.1, Bool.false_or, Bool.and_eq_true] at h2
    exact of_decide_eq_true h2.2

attribute [local go_sem] Oper.semAt_some
set_option maxRecDepth 100000 in
set_option maxHeartbeats 2000000 in
theorem depth_in (p : ByteArray) (w : World) (hp : (p.size : Int) ≤ 9223372036854775800) :
    CallsIn Fence.wide 5 Tryd.prog 24 #[.string p] w fun e w' => e = .returned (.int .i64 ((namesL (toL p)).length : Nat)) ∧ Below w.heap.size w w' := by
  refine callsIn_of_wp_marks Tryd.func24 rfl trivial ?_ rfl
  simp only [Tryd.ntmps24, List.size_toArray, List.length_cons, List.length_nil, Nat.reduceAdd, Nat.reduceSub, Array.replicate_succ, Array.replicate_zero, List.push_toArray, List.append_toArray, List.nil_append, List.cons_append]
  gi_wp2_with fail
  refine ⟨trivial, (callsIn_wide.2 (names_any p _)).mono ?_⟩
  rintro e w1 ⟨rfl, hw1⟩
  have hz1 : w1.heap.size = w.heap.size + 2 := by rw [hw1]; simp
  have hB1 : Below w.heap.size w w1 := by rw [hw1]; exact ((Below.refl _ w).alloc (Nat.le_refl _) _).alloc (by simp) _
  have r0 : w1.heap[w.heap.size]? = some (.cells #[.int .i64 0] 3 (0, 0)) := by
    rw [hw1, Below.heap_alloc _ _ _ (by simp <;> omega)]
    exact World.alloc_heap_new _ _
  have r1 : w1.heap[w.heap.size + 1]? = some (.cells #[.string p] 9 (0, 0)) := by
    rw [hw1]
    have h := World.alloc_heap_new (w.alloc (.cells #[.int .i64 0] 3)) (Obj.cells #[.string p] 9)
    simp only [World.size_alloc] at h
    exact h
  clear hw1
  have e2 : (w.alloc (Obj.cells #[Value.int IntKind.i64 0] 3)).heap.size = w.heap.size + 1 := by simp
  rw [e2]
  gi_wp2_with fail
  refine wpIn_rangeT (α := ByteArray) rfl (by omega) (gf := 76) (lb := #[.pointer (some ⟨w.heap.size + 1, 0, none⟩)]) rfl trivial
    (enters_of Tryd.func76 (by kernel_rfl) rfl) (L := []) (by intro k hk; simp at hk)
    (names_seq 4 (w.heap.size + 1) p w1 hp (by omega) r1) (fun _ => rfl)
    (fun X pre W => W.heap[w.heap.size]? = some (.cells #[.int .i64 (pre.length : Nat)] 3 (0, 0)) ∧ Below w.heap.size w W)
    (fun X c pre W => False)
    ?hI ?hIx (fun X hX => ⟨r0, hB1⟩)
    (fun x => { tmps := #[.string p, undef, .int .i64 0, .pointer (some ⟨w.heap.size, 0, none⟩), .string p, .func (.func 76) #[] #[.pointer (some ⟨w.heap.size + 1, 0, none⟩)], .string x, undef, undef, undef], defers := [] }) ?assign ?body ?done ?stop
  case hI =>
    rintro X hX pre A B row ⟨h4, h5⟩ hg hr
    have ne : ∀ k, k < w.heap.size + 2 → ¬ row = some k := fun k hk e => by
      rcases hr k e with h | h
      · simp at h
      · omega
    exact ⟨(hg.block _ (Array.getElem?_eq_some_iff.1 h4).1 (fun e => ne _ (by omega) e.symm)).trans h4, h5.grown hg h5.size (fun k e => Nat.le_of_not_lt (fun hk => ne k (by omega) e))⟩
  case hIx =>
    rintro X c hX pre A B row h hg hr
    exact h.elim
  case assign =>
    intro l x W K hK
    gi_wp2
    simpa using hK
  case body =>
    rintro X l pre x W hX hXW ⟨h4, h5⟩ hlen
    have c4 : W.cell? ⟨w.heap.size, 0, none⟩ = some (.int .i64 (pre.length : Nat)) := cell_of_row _ _ _ _ _ _ h4
    have z4 : W.frozen? ⟨w.heap.size, 0, none⟩ = false := frozen_of_row _ _ _ _ _ h4
    have g1 : ((pre.length : Nat) : Int) + 1 ≤ 16 := by have := namesL_len (toL p); have := hlen.length_le; simp at this; omega
    have hlE : (((pre ++ [x]).length : Nat) : Int) = ((pre.length : Nat) : Int) + 1 := by simp
    have g3 : (0 : Int) ≤ ((pre.length : Nat) : Int) := by omega
    clear hlen
    gi_wp2_with fail
    refine ⟨.grown (grownBy_setCell _ _ _) (fun k hk => ?_) (fun r e hk => ?_), ?_, h5.setCell (p := ⟨w.heap.size, 0, none⟩) (by simp) _⟩
    · rcases hk with hk | hk
      · simp at hk
      · omega
    · cases e
      rcases hk with hk | hk
      · simp at hk
      · simp at hk; omega
    · rw [hlE]; exact heap_setCell_same _ _ _ _ _ _ h4
  case done =>
    rintro X D xs W hX hD hDX hS ⟨h4, h5⟩ hK
    have c4 : W.cell? ⟨w.heap.size, 0, none⟩ = some (.int .i64 (xs.length : Nat)) := cell_of_row _ _ _ _ _ _ h4
    have hR : (namesL (toL p)).length = xs.length := by rw [← hS]; simp
    have HR := hide hR
    clear hR hS
    gi_wp2_with fail
    refine ⟨by simp, .inl ⟨_, _, rfl, run_takeDeferred hK, ?_⟩⟩
    refine ⟨_, results_tmp rfl _ _ _, by rw [HR.out]; rfl, ?_⟩
    exact h5.grown (grownBy_putObj' _ D (.deferred none)) h5.size (fun r e => by cases e; omega)
  case stop =>
    rintro X D c pre W hX hD hDX hS h hK
    exact h.elim
end Go.Proofs.YthmiffjhchhljaaDoor
