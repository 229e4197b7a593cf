/-
  What paths.Right answers.
-/
import Derived.Test.YtlohoamhgioheaaDoorPathSplit
import Derived.Test.YtlohoamhgioheaaDoorPathName
namespace Go.Proofs.YtlohoamhgioheaaDoor
open Go.RowKit Go.Shelf
set_option maxRecDepth 100000

/-- A right path. -/
def rightL (p : List UInt8) : Bool := p.isEmpty || ((splitL p).all nameL && decide ((splitL p).length ≤ 16))

set_option maxHeartbeats 400000 in
theorem splitSeq1_any (s : ByteArray) (w : World) :
    Calls Tryd.prog 69 #[.string s, .string ⟨#[47]⟩, .int .i64 0] w fun e w' => e = .returned (.func (.func 84) #[] #[.pointer (some ⟨w.heap.size + 1, 0, none⟩), .pointer (some ⟨w.heap.size, 0, none⟩), .pointer (some ⟨w.heap.size + 1 + 1, 0, none⟩)]) ∧
      w' = ((w.alloc (.cells #[.string s] 9)).alloc (.cells #[.string ⟨#[47]⟩] 9)).alloc (.cells #[.int .i64 0] 3) := by
  go_enter Tryd.func69, Tryd.ntmps69
  go_wp2
  go_ret
  exact ⟨rfl, rfl⟩

set_option maxHeartbeats 400000 in
theorem splitSeq_any (s : ByteArray) (w : World) :
    Calls Tryd.prog 55 #[.string s, .string ⟨#[47]⟩] w fun e w' => e = .returned (.func (.func 84) #[] #[.pointer (some ⟨w.heap.size + 1, 0, none⟩), .pointer (some ⟨w.heap.size, 0, none⟩), .pointer (some ⟨w.heap.size + 1 + 1, 0, none⟩)]) ∧
      w' = ((w.alloc (.cells #[.string s] 9)).alloc (.cells #[.string ⟨#[47]⟩] 9)).alloc (.cells #[.int .i64 0] 3) := by
  go_enter Tryd.func55, Tryd.ntmps55
  go_wp2_with fail
  refine (splitSeq1_any s _).mono ?_
  rintro e w1 ⟨rfl, rfl⟩
  go_wp2
  go_ret
  exact ⟨rfl, rfl⟩

theorem heap_alloc_get (w : World) (o : Obj) (k : Nat) : (w.alloc o).heap[k]? = if k = w.heap.size then some o else w.heap[k]? := by
  show (w.heap.push o)[k]? = _
  rw [Array.getElem?_push]

attribute [local go_sem] Oper.semAt_some
set_option maxRecDepth 100000 in
set_option maxHeartbeats 2000000 in
theorem right_in (p : ByteArray) (w : World) (hp : (p.size : Int) ≤ 9223372036854775800) (hne : p.toList.isEmpty = false) :
    CallsIn Fence.wide 5 Tryd.prog 40 #[.string p] w fun e w' => e = .returned (.bool (rightL p.data.toList)) ∧ Below w.heap.size w w' := by
  refine callsIn_of_wp_marks Tryd.func40 rfl trivial ?_ rfl
  simp only [Tryd.ntmps40, List.size_toArray, List.length_cons, List.length_nil, Nat.reduceAdd, Nat.reduceSub, Array.replicate_succ, Array.replicate_zero, List.push_toArray, List.append_toArray, List.nil_append, List.cons_append]
  gi_wp2_with fail
  refine ⟨trivial, (callsIn_wide.2 (splitSeq_any p _)).mono ?_⟩
  rintro e w1 ⟨rfl, hw1⟩
  have hz1 : w1.heap.size = w.heap.size + 5 := by rw [hw1]; simp
  have hB1 : Below w.heap.size w w1 := by rw [hw1]; exact (((((Below.refl _ w).alloc (Nat.le_refl _) _).alloc (by simp) _).alloc (by simp; omega) _).alloc (by simp; omega) _).alloc (by simp; omega) _
  have r0 : w1.heap[w.heap.size]? = some (.cells #[.bool false] 4 (0, 0)) := by
    rw [hw1]
    rw [Below.heap_alloc _ _ _ (by simp <;> omega), Below.heap_alloc _ _ _ (by simp <;> omega), Below.heap_alloc _ _ _ (by simp <;> omega), Below.heap_alloc _ _ _ (by simp <;> omega)]
    exact World.alloc_heap_new _ _
  have r1 : w1.heap[w.heap.size + 1]? = some (.cells #[.int .i64 0] 3 (0, 0)) := by
    rw [hw1]
    rw [Below.heap_alloc _ _ _ (by simp <;> omega), Below.heap_alloc _ _ _ (by simp <;> omega), Below.heap_alloc _ _ _ (by simp <;> omega)]
    have h := World.alloc_heap_new (w.alloc (.cells #[.bool false] 4)) (Obj.cells #[.int .i64 0] 3)
    simp only [World.size_alloc] at h
    exact h
  have r2 : w1.heap[w.heap.size + 2]? = some (.cells #[.string p] 9 (0, 0)) := by
    rw [hw1]
    rw [Below.heap_alloc _ _ _ (by simp <;> omega), Below.heap_alloc _ _ _ (by simp <;> omega)]
    have h := World.alloc_heap_new ((w.alloc (.cells #[.bool false] 4)).alloc (.cells #[.int .i64 0] 3)) (Obj.cells #[.string p] 9)
    simp only [World.size_alloc] at h
    exact h
  have r3 : w1.heap[w.heap.size + 3]? = some (.cells #[.string ⟨#[47]⟩] 9 (0, 0)) := by
    rw [hw1]
    rw [Below.heap_alloc _ _ _ (by simp <;> omega)]
    have h := World.alloc_heap_new (((w.alloc (.cells #[.bool false] 4)).alloc (.cells #[.int .i64 0] 3)).alloc (.cells #[.string p] 9)) (Obj.cells #[.string ⟨#[47]⟩] 9)
    simp only [World.size_alloc] at h
    exact h
  have r4 : w1.heap[w.heap.size + 4]? = some (.cells #[.int .i64 0] 3 (0, 0)) := by
    rw [hw1]
    have h := World.alloc_heap_new ((((w.alloc (.cells #[.bool false] 4)).alloc (.cells #[.int .i64 0] 3)).alloc (.cells #[.string p] 9)).alloc (.cells #[.string ⟨#[47]⟩] 9)) (Obj.cells #[.int .i64 0] 3)
    simp only [World.size_alloc] at h
    exact h
  clear hw1
  have e2 : ((w.alloc (Obj.cells #[Value.bool false] 4)).alloc (Obj.cells #[Value.int IntKind.i64 0] 3)).heap.size = w.heap.size + 2 := by simp
  rw [e2]
  gi_wp2_with fail
  refine wpIn_rangeT (α := ByteArray) rfl (by omega) (gf := 84) (lb := #[.pointer (some ⟨w.heap.size + 2 + 1, 0, none⟩), .pointer (some ⟨w.heap.size + 2, 0, none⟩), .pointer (some ⟨w.heap.size + 2 + 1 + 1, 0, none⟩)]) rfl trivial
    (enters_of Tryd.func84 (by kernel_rfl) rfl) (L := [w.heap.size + 2, w.heap.size + 3, w.heap.size + 4]) (by intro k hk; simp at hk; omega)
    (split_seq 4 (w.heap.size + 2) (w.heap.size + 3) (w.heap.size + 4) p w1 hp (by omega) (by omega) (by omega) (by omega) (by omega) r2 r3 r4) (fun _ => rfl)
    (fun X pre W => (pre.map toL).all nameL = true ∧ pre.length ≤ 16 ∧ W.heap[w.heap.size]? = some (.cells #[.bool false] 4 (0, 0)) ∧ W.heap[w.heap.size + 1]? = some (.cells #[.int .i64 (pre.length : Nat)] 3 (0, 0)) ∧ Below w.heap.size w W)
    (fun X c pre W => c = .ret ∧ ((pre.map toL).all nameL && decide (pre.length ≤ 16)) = false ∧ W.heap[w.heap.size]? = some (.cells #[.bool false] 4 (0, 0)) ∧ Below w.heap.size w W)
    ?hI ?hIx (fun X hX => ⟨rfl, by simp, r0, r1, hB1⟩)
    (fun x => { tmps := #[.string p, undef, .pointer (some ⟨w.heap.size, 0, none⟩), .pointer (some ⟨w.heap.size + 1, 0, none⟩), .string x, .string p, .bool false, .string p, .func (.func 84) #[] #[.pointer (some ⟨w.heap.size + 2 + 1, 0, none⟩), .pointer (some ⟨w.heap.size + 2, 0, none⟩), .pointer (some ⟨w.heap.size + 2 + 1 + 1, 0, none⟩)], .string x, undef, undef, undef, undef, undef, undef, undef, undef, undef], defers := [] }) ?assign ?body ?done ?stop
  case hI =>
    rintro X hX pre A B row ⟨h1, h2, h3, h4, h5⟩ hg hr
    have ne : ∀ k, k < w.heap.size + 2 → ¬ row = some k := fun k hk e => by
      rcases hr k e with h | h
      · simp at h; omega
      · omega
    refine ⟨h1, h2, (hg.block _ (Array.getElem?_eq_some_iff.1 h3).1 (fun e => ne _ (by omega) e.symm)).trans h3, (hg.block _ (Array.getElem?_eq_some_iff.1 h4).1 (fun e => ne _ (by omega) e.symm)).trans h4, h5.grown hg h5.size (fun k e => Nat.le_of_not_lt (fun hk => ne k (by omega) e))⟩
  case hIx =>
    rintro X c hX pre A B row ⟨h1, h2, h3, h5⟩ hg hr
    have ne : ∀ k, k < w.heap.size + 2 → ¬ row = some k := fun k hk e => by
      rcases hr k e with h | h
      · simp at h; omega
      · omega
    refine ⟨h1, h2, (hg.block _ (Array.getElem?_eq_some_iff.1 h3).1 (fun e => ne _ (by omega) e.symm)).trans h3, h5.grown hg h5.size (fun k e => Nat.le_of_not_lt (fun hk => ne k (by omega) e))⟩
  case assign =>
    intro l x W K hK
    gi_wp2
    exact hK
  case body =>
    rintro X l pre x W hX hXW ⟨h1, h2, h3, h4, h5⟩ hlen
    have c4 : W.cell? ⟨w.heap.size + 1, 0, none⟩ = some (.int .i64 (pre.length : Nat)) := cell_of_row _ _ _ _ _ _ h4
    have z4 : W.frozen? ⟨w.heap.size + 1, 0, none⟩ = false := frozen_of_row _ _ _ _ _ h4
    have c3 : W.cell? ⟨w.heap.size, 0, none⟩ = some (.bool false) := cell_of_row _ _ _ _ _ _ h3
    have z3 : W.frozen? ⟨w.heap.size, 0, none⟩ = false := frozen_of_row _ _ _ _ _ h3
    have u3 : ∀ v : Value, (W.setCell ⟨w.heap.size + 1, 0, none⟩ v).heap[w.heap.size]? = some (.cells #[.bool false] 4 (0, 0)) := fun v => (heap_setCell_other _ _ _ _ (by simp)).trans h3
    have u4 : ∀ v : Value, (W.setCell ⟨w.heap.size + 1, 0, none⟩ v).heap[w.heap.size + 1]? = some (.cells #[v] 3 (0, 0)) := fun v => heap_setCell_same _ _ _ _ _ _ h4
    have u5 : ∀ v : Value, Below w.heap.size w (W.setCell ⟨w.heap.size + 1, 0, none⟩ v) := fun v => h5.setCell (p := ⟨w.heap.size + 1, 0, none⟩) (by simp) _
    have u6 : ∀ v : Value, Lies (Its [w.heap.size + 2, w.heap.size + 3, w.heap.size + 4] w1.heap.size X) W (W.setCell ⟨w.heap.size + 1, 0, none⟩ v) := fun v =>
      .grown (grownBy_setCell _ _ _) (fun k hk => by
        have := h5.size
        have := h5.size
        rcases hk with hk | hk
        · have := hB1.size; simp at hk; have := (Array.getElem?_eq_some_iff.1 h4).1; omega
        · omega) (fun r e hk => by
        cases e
        rcases hk with hk | hk
        · simp at hk
        · simp at hk; omega)
    have u7 : ∀ v u : Value, Lies (Its [w.heap.size + 2, w.heap.size + 3, w.heap.size + 4] w1.heap.size X) W ((W.setCell ⟨w.heap.size + 1, 0, none⟩ v).setCell ⟨w.heap.size, 0, none⟩ u) := fun v u =>
      (u6 v).trans (.grown (grownBy_setCell _ _ _) (fun k hk => by
        have := (u6 v).1
        have := h5.size
        rcases hk with hk | hk
        · have := hB1.size; simp at hk; have := (Array.getElem?_eq_some_iff.1 (u4 v)).1; omega
        · omega) (fun r e hk => by
        cases e
        rcases hk with hk | hk
        · simp at hk
        · simp at hk; omega))
    have u8 : ∀ v u : Value, ((W.setCell ⟨w.heap.size + 1, 0, none⟩ v).setCell ⟨w.heap.size, 0, none⟩ u).heap[w.heap.size]? = some (.cells #[u] 4 (0, 0)) := fun v u => heap_setCell_same _ _ _ _ _ _ (u3 v)
    have u9 : ∀ v u : Value, Below w.heap.size w ((W.setCell ⟨w.heap.size + 1, 0, none⟩ v).setCell ⟨w.heap.size, 0, none⟩ u) := fun v u => (u5 v).setCell (p := ⟨w.heap.size, 0, none⟩) (by simp) _
    have v3 : ∀ v : Value, (W.setCell ⟨w.heap.size + 1, 0, none⟩ v).cell? ⟨w.heap.size, 0, none⟩ = some (.bool false) := fun v => cell_of_row _ _ _ _ _ _ (u3 v)
    have w3 : ∀ v : Value, (W.setCell ⟨w.heap.size + 1, 0, none⟩ v).frozen? ⟨w.heap.size, 0, none⟩ = false := fun v => frozen_of_row _ _ _ _ _ (u3 v)
    by_cases hlt : pre.length < 16
    · have HL := hide hlt
      have g1 : ((pre.length : Nat) : Int) + 1 ≤ 16 := by omega
      have g2 : ¬ (((pre.length : Nat) : Int) + 1 > 16) := by omega
      have g3 : (0 : Int) ≤ ((pre.length : Nat) : Int) := by omega
      clear hlt hlen c3 z3
      have hlE : (((pre ++ [x]).length : Nat) : Int) = ((pre.length : Nat) : Int) + 1 := by simp
      gi_wp2_with fail
      refine ⟨trivial, (CallsIn.inRound l (callsIn_wide.2 (name_any x _))).mono ?_⟩
      rintro e w2 ⟨rfl, rfl⟩
      cases hn : nameL x.data.toList with
      | true =>
        gi_wp2_with fail
        refine ⟨u6 _, ?_, by have := HL.out; simp; omega, u3 _, ?_, u5 _⟩
        · rw [List.map_append, List.all_append, h1]; simp [toL, hn]
        · rw [hlE]; exact u4 _
      | false =>
        gi_wp2_with fail
        refine ⟨u7 _ _, rfl, ?_, u8 _ _, u9 _ _⟩
        rw [List.map_append, List.all_append]; simp [toL, hn]
    · have g2 : pre.length = 16 := by omega
      rw [g2] at c4
      have HL := hide g2
      clear hlt hlen g2 c3 z3
      gi_wp2_with fail
      refine ⟨trivial, ?_⟩
      gi_wp2_with fail
      refine ⟨u7 _ _, rfl, ?_, u8 _ _, u9 _ _⟩
      rw [Bool.and_eq_false_iff]
      right
      simp [HL.out]
  case done =>
    rintro X D xs W hX hD hDX hS ⟨h1, h2, h3, h4, h5⟩ hK
    have c3 : W.cell? ⟨w.heap.size, 0, none⟩ = some (.bool false) := cell_of_row _ _ _ _ _ _ h3
    have z3 : W.frozen? ⟨w.heap.size, 0, none⟩ = false := frozen_of_row _ _ _ _ _ h3
    have hR : rightL p.data.toList = true := by
      unfold rightL
      rw [show splitL p.data.toList = xs.map toL from hS.symm, h1]
      simp [h2]
    gi_wp2_with fail
    have hK' : (W.setCell ⟨w.heap.size, 0, none⟩ (.bool true)).heap[D]? = some (.deferred (some [])) := (heap_setCell_other _ _ _ _ (by simp; omega)).trans hK
    refine ⟨by simp, .inl ⟨_, _, rfl, run_takeDeferred hK', ?_⟩⟩
    have hc5 : ((W.setCell ⟨w.heap.size, 0, none⟩ (.bool true)).putObj D (.deferred none)).cell? ⟨w.heap.size, 0, none⟩ = some (.bool true) :=
      cell_of_row _ _ _ _ _ _ ((World.putObj_heap_other (by omega)).trans (heap_setCell_same _ _ _ _ _ _ h3))
    refine ⟨.bool true, ?_, by rw [hR], ?_⟩
    · simp [results, Tryd.f40, go_sem, hc5]
    · exact (h5.setCell (p := ⟨w.heap.size, 0, none⟩) (by simp) _).grown (grownBy_putObj' _ D (.deferred none)) (by have := h5.size; simp [World.setCell]; omega) (fun r e => by cases e; omega)
  case stop =>
    rintro X D c pre W hX hD hDX hS ⟨rfl, h2, h3, h5⟩ hK
    have hR : rightL p.data.toList = false := by
      obtain ⟨t, ht⟩ := hS
      have hp : p.data.toList.isEmpty = false := by rw [← Lib.toList_data]; exact hne
      unfold rightL
      rw [hp, show splitL p.data.toList = pre.map toL ++ t from ht.symm]
      rcases Bool.and_eq_false_iff.1 h2 with h | h
      · rw [List.all_append, h]; rfl
      · have h := of_decide_eq_false h
        rw [Bool.false_or, Bool.and_eq_false_iff]
        right
        simp; omega
    gi_wp2_with fail
    refine ⟨by simp, .inl ⟨_, _, rfl, run_takeDeferred hK, ?_⟩⟩
    have hc5 : (W.putObj D (.deferred none)).cell? ⟨w.heap.size, 0, none⟩ = some (.bool false) :=
      cell_of_row _ _ _ _ _ _ ((World.putObj_heap_other (by omega)).trans h3)
    refine ⟨.bool false, ?_, by rw [hR], ?_⟩
    · simp [results, Tryd.f40, go_sem, hc5]
    · exact h5.grown (grownBy_putObj' _ D (.deferred none)) h5.size (fun r e => by cases e; omega)

set_option maxHeartbeats 400000 in
/-- paths.Right, at every text. -/
theorem right_any (p : ByteArray) (w : World) (hp : (p.size : Int) ≤ 9223372036854775800) :
    Calls Tryd.prog 40 #[.string p] w fun e w' => e = .returned (.bool (rightL p.data.toList)) ∧ Below w.heap.size w w' := by
  cases hne : p.toList.isEmpty with
  | false => exact callsIn_wide.1 (right_in p w hp hne)
  | true =>
    have hR : rightL p.data.toList = true := by unfold rightL; rw [← Lib.toList_data, hne]; rfl
    go_enter Tryd.func40, Tryd.ntmps40
    go_wp2
    have hc : (w.alloc (Obj.cells #[Value.bool true] 4)).cell? ⟨w.heap.size, 0, none⟩ = some (.bool true) := cell_of_row _ _ _ _ _ _ (World.alloc_heap_new _ _)
    refine bodyPost_ret (v := .bool true) (by simp [results, Tryd.f40, go_sem, hc]) rfl ?_
    rw [hR]
    exact ⟨rfl, (Below.refl _ w).alloc (Nat.le_refl _) _⟩
end Go.Proofs.YtlohoamhgioheaaDoor
